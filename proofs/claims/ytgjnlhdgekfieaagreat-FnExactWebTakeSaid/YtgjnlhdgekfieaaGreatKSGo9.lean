/- The specification's ForestAt, where the graph is right. The specification's TreeOf and SizeOf. The specification's l08Search: one Level. The specification's GraphOk and HasEdge. The specification's GraphOf. -/
import Derived.Test.YtgjnlhdgekfieaaGreatKSTr9
import Derived.Test.YtgjnlhdgekfieaaGreatKSVerts
import Derived.Test.YtgjnlhdgekfieaaGreatKDraw6
import Derived.Test.YtgjnlhdgekfieaaGreatKWt9
import Derived.Test.YtgjnlhdgekfieaaGreatKWk9
import Derived.Test.YtgjnlhdgekfieaaGreatKGr6
import Derived.Test.YtgjnlhdgekfieaaGreatKBx7
import Derived.Test.YtgjnlhdgekfieaaGreatKInG6
import Derived.Deep.AppendLies
import Derived.Deep.RegionLaw
import Derived.Deep.RegionHeld3
namespace Go.Proofs.YtgjnlhdgekfieaaGreat
open Go.RowKit

/-- behind the web's box, the answer's and the forest's -/
def wf3 (w : World) (N : Int) (a : Option Addr) (n c : Nat) : World := (wf2 w N a n c).alloc (.cells #[.int .i64 N, .slice none 0 0] 57)
theorem wf3_size (w : World) (N : Int) (a : Option Addr) (n c : Nat) : (wf3 w N a n c).heap.size = w.heap.size + 3 := by simp [wf3, wf2, wW]
theorem wf3_good (w : World) (N : Int) (a : Option Addr) (n c : Nat) : Good w (wf3 w N a n c) := (wf2_good w N a n c).alloc _
/-- what lies below w2: the boxes, the edges -/
structure LowS (w : World) (N : Int) (a : Option Addr) (n c : Nat) (w2 : World) (v : Value) (u : World) : Prop where
  box : Box7 u (w.heap.size + 2) 57 (.int .i64 N) v
  out : Box7 u (w.heap.size + 1) 57 (.int .i64 0) (.slice none 0 0)
  inn : Box7 u w.heap.size 26 (.int .i64 N) (.slice a n c)
  old : Below w.heap.size w u
  es : ∀ k, w.heap.size + 3 ≤ k → k < w2.heap.size → u.heap[k]? = w2.heap[k]?
  size : w2.heap.size ≤ u.heap.size
theorem LowS.start {w : World} {N : Int} {a : Option Addr} {n c : Nat} {w2 : World} (h : Below (w.heap.size + 3) (wf3 w N a n c) w2) : LowS w N a n c w2 (.slice none 0 0) w2 := by
  have b1 : Box7 (wf3 w N a n c) w.heap.size 26 (.int .i64 N) (.slice a n c) := ((Box7.new w _ _ _ _ rfl).alloc _).alloc _
  have b2 : Box7 (wf3 w N a n c) (w.heap.size + 1) 57 (.int .i64 0) (.slice none 0 0) := (Box7.new _ _ _ _ _ (by simp [wW])).alloc _
  have b3 : Box7 (wf3 w N a n c) (w.heap.size + 2) 57 (.int .i64 N) (.slice none 0 0) := Box7.new _ _ _ _ _ (by simp [wf2, wW])
  exact ⟨b3.below h (by omega), b2.below h (by omega), b1.below h (by omega), (wf3_good w N a n c).trans (h.mono (by omega)), fun _ _ _ => rfl, Nat.le_refl _⟩
theorem LowS.up {w : World} {N : Int} {a : Option Addr} {n c : Nat} {w2 : World} {v : Value} {u u' : World} (h : LowS w N a n c w2 v u) (hw2 : w.heap.size + 3 ≤ w2.heap.size) (hb : Below w2.heap.size u u') : LowS w N a n c w2 v u' :=
  ⟨h.box.below hb (by omega), h.out.below hb (by omega), h.inn.below hb (by omega), h.old.trans (hb.mono (by omega)), fun k h1 h2 => by rw [hb.block k h2]; exact h.es k h1 h2, Nat.le_trans h.size hb.size⟩
theorem LowS.set {w : World} {N : Int} {a : Option Addr} {n c : Nat} {w2 : World} {v : Value} {u : World} (h : LowS w N a n c w2 v u) (x : Value) : LowS w N a n c w2 x (u.setCell ⟨w.heap.size + 2, 1, none⟩ x) :=
  ⟨h.box.set1 x, h.out.setOther x (by omega), h.inn.setOther x (by omega), h.old.setCell (p := ⟨w.heap.size + 2, 1, none⟩) (by show _ ≤ w.heap.size + 2; omega) x, fun k h1 h2 => by rw [heap_setCell_other u ⟨w.heap.size + 2, 1, none⟩ k x (by show k ≠ w.heap.size + 2; omega)]; exact h.es k h1 h2, by have := h.size; simpa [World.setCell] using this⟩
/-- the list of edges is still there -/
theorem LowS.edges {w : World} {N : Int} {a : Option Addr} {n c : Nat} {w2 : World} {v : Value} {u : World} (h : LowS w N a n c w2 v u) {g mE cE : Nat} {es : List EdgeV}
    (he : w2.ownsRow (w.heap.size + 3) 28 2 (.slice (some ⟨g, 0, none⟩) mE cE) mE (ecells es)) : Es u u.heap.size (some ⟨g, 0, none⟩) mE es := by
  have h2 : u.ownsRow (w.heap.size + 3) 28 2 (.slice (some ⟨g, 0, none⟩) mE cE) mE (ecells es) := by
    refine ⟨he.1, ?_⟩
    rcases he.2 with ⟨h3, _⟩ | ⟨g2, cap, cur, hv, hg, hcur, hrest⟩
    · simp at h3
    · refine .inr ⟨g2, cap, cur, hv, hg, ?_, hrest⟩
      have hgl := he.lt g2 (by rw [hv]; rfl)
      rw [h.es g2 hgl.1 hgl.2]
      exact hcur
  exact Es_of_own h2
/-- rows of other sorts do not meet -/
theorem own_kind {u : World} {lo e s n lo' e' s' n' : Nat} {v v' : Value} {xs xs' : List Value} (h : u.ownsRow lo e s v n xs) (h' : u.ownsRow lo' e' s' v' n' xs') (hne : e ≠ e') : v.ownBlock = none ∨ v.ownBlock ≠ v'.ownBlock := by
  rcases h.2 with ⟨rfl, _⟩ | ⟨g, cap, cur, rfl, hb, hg, rest⟩
  · exact .inl rfl
  · refine .inr fun e1 => ?_
    rcases h'.2 with ⟨rfl, _⟩ | ⟨g', cap', cur', rfl, hb', hg', rest'⟩
    · simp [Value.ownBlock] at e1
    · simp [Value.ownBlock] at e1
      subst e1
      rw [hg] at hg'
      simp at hg'
      exact hne hg'.2
theorem FB.other {u v : World} {lo : Nat} {a : Option Addr} {n c : Nat} {R : List Rw} (h : FB u lo u.heap.size a n c R) {lo' e' s' n' : Nat} {x' : Value} {xs' : List Value} (hd : u.ownsRow lo' e' s' x' n' xs') (hty : 44 ≠ e') (hap : ∀ r ∈ R, x'.ownBlock ≠ some r.g) (hg : u.grownBy v x'.ownBlock) : FB v lo v.heap.size a n c R := by
  have ho := World.ownsRow.kept h.own hg (own_kind h.own hd hty)
  refine ⟨h.len, ho, fun g hg2 => (ho.lt g hg2).2, Nat.le_refl _, fun r hr => ?_, h.nod⟩
  have h1 := h.ins r hr
  have h2 := h1.1.grown hg (hap r hr)
  exact ⟨h2, h1.2.1, h2.lt⟩
theorem own_grown {u u' : World} {lo : Nat} {o : Obj} {x : Value} {e s n : Nat} {xs : List Value} (h : u.ownsRow lo e s x n xs) (hg : (u.alloc o).grownBy u' x.ownBlock) (hl : lo ≤ u.heap.size) : Below lo u u' :=
  ((Below.refl lo u).alloc hl o).grown hg (by simp; omega) (fun j hj => (h.lt j hj).1)
theorem own_grown' {u u' : World} {lo : Nat} {x : Value} {e s n : Nat} {xs : List Value} (h : u.ownsRow lo e s x n xs) (hg : u.grownBy u' x.ownBlock) (hl : lo ≤ u.heap.size) : Below lo u u' :=
  (Below.refl lo u).grown hg hl (fun j hj => (h.lt j hj).1)
theorem flat_snoc (ts : List (List Int)) (t : List Int) : (ts ++ [t]).flatten = ts.flatten ++ t := by simp
theorem flat_len {ts : List (List Int)} (h : ∀ t ∈ ts, t.length ≤ 23) : ts.flatten.length ≤ 23 * ts.length := by
  induction ts with
  | nil => simp
  | cons t ts ih =>
    have h1 := h t (by simp)
    have h2 := ih fun s hs => h s (by simp [hs])
    simp only [List.flatten_cons, List.length_append, List.length_cons]
    omega
theorem ic_app (a b : List Int) : ic (a ++ b) = ic a ++ ic b := by simp [ic]

set_option maxRecDepth 100000 in
set_option maxHeartbeats 4000000 in
theorem sForestAt_any (nn : Nat) (ls : List Ld) (lv : Int) (n : Nat) (a : Option Addr) (c : Nat) (hn1 : 1 ≤ nn) (hn12 : nn ≤ 12) (hG : gB (nn : Int) (gE ls) = true) (w : World) (h : Ls w w.heap.size a n ls) :
    Calls Tryz.prog 89 #[.agg #[.int .i64 (nn : Int), .slice a n c], .int .i64 lv] w (FAn9 w (nn : Int) (ftK (fE ls lv) nn nn)) := by
  obtain ⟨i0, hi, hz0, hz1, hz2⟩ := info_parts infoIT9
  obtain ⟨j0, hj, hy0, hy1, hy2⟩ := info_parts info3i
  have hlen := h.1
  have h66 : n ≤ 66 := by have := (gB_chk hG).2.2; rw [gE_len] at this; omega
  have HE := hideIt (fE_ends hG lv)
  have HI1 := l01In_any (nn : Int) 1 12
  have HIn : Hid (∀ u, Calls Tryz.prog 88 #[.int .i64 (nn : Int), .int .i64 1, .int .i64 12] u fun e w' => e = .returned (.bool true) ∧ w' = u) := fun u => by
    have := HI1 u
    rw [decide_eq_true (by omega)] at this
    exact this
  have HT := hideIt (l08Tree_any (nn : Int) ls lv n a c (by omega) _ (h.up (wf3_good w (nn : Int) a n c)))
  have HTo : Hid (∀ (g m c' k : Nat) (t sn : List Int) (u : World), k < nn → wk (fE ls lv) nn nn (k : Int) (-1) [] = some (t, sn) → t.length ≤ 23 → Es u u.heap.size (some ⟨g, 0, none⟩) m (fE ls lv) → Calls Tryz.prog 156 #[.int .i64 (nn : Int), .slice (some ⟨g, 0, none⟩) m c', .int .i64 (k : Int)] u fun e w' => ∃ a' m c', e = .returned (.tuple #[.slice a' m c', .bool true]) ∧ w'.ownsRow u.heap.size 3 1 (.slice a' m c') m (ic t) ∧ Below u.heap.size u w') := fun g m c' k t sn u hk hw htl hu =>
    sTourOf_any (fE ls lv) nn m k (some ⟨g, 0, none⟩) c' t sn hn1 hn12 (by have := hu.1; have := fE_len ls lv; omega) hk (fun e he => gB_eB hG (fE_g he)) hw (by omega) u hu
  have HTr : Hid (∀ (g m c' k : Nat) (u : World), k < nn → wk (fE ls lv) nn nn (k : Int) (-1) [] = none → Es u u.heap.size (some ⟨g, 0, none⟩) m (fE ls lv) → Calls Tryz.prog 156 #[.int .i64 (nn : Int), .slice (some ⟨g, 0, none⟩) m c', .int .i64 (k : Int)] u fun e w' => ∃ a' c', e = .returned (.tuple #[.slice a' 0 c', .bool false]) ∧ Below u.heap.size u w') := fun g m c' k u hk hw hu =>
    sTourOf_ring (fE ls lv) nn m k (some ⟨g, 0, none⟩) c' hn1 hn12 (by have := hu.1; have := fE_len ls lv; omega) hk (fun e he => gB_eB hG (fE_g he)) hw u hu
  clear h hG HI1
  go_enter Tryz.func89, Tryz.ntmps89
  go_wp2_with (go_at_call 155; refine HT.out.mono ?_; rintro e w2 ⟨g, mE, cE, rfl, hoE, hb2⟩; refine Hid.out ?_)
  refine (show ∀ {p : Prop}, p → Hid p from fun h => h) ?_
  rw [wf3_size] at hoE hb2
  have z2 := hb2.size
  rw [wf3_size] at z2
  have hL0 := LowS.start hb2
  have HOE := hideIt hoE
  have k0 := hL0.inn.cell0
  have HL0 := hideIt (hL0.up z2 ((Below.refl _ _).alloc (Nat.le_refl _) (.cells #[] 3)))
  have HD0 : Hid ((w2.alloc (.cells #[] 3)).ownsRow w2.heap.size 3 1 (.slice (some ⟨w2.heap.size, 0, none⟩) 0 0) 0 (ic [])) := by
    show World.ownsRow _ _ _ _ _ _ _
    have h0 := World.ownsRow_lit (base := w2.heap.size) (e := 3) (size := 1) w2 #[] 0 (Nat.le_refl _) (by unfold maxLen; omega) (by simp)
    simpa [ic] using h0
  have HF0 : Hid (FB (w2.alloc (.cells #[] 3)) w2.heap.size (w2.alloc (.cells #[] 3)).heap.size none 0 0 []) := FB.nil _ _
  clear HT hoE hb2 hL0
  go_wp2_with (go_at_call 88; refine (HIn.out _).mono ?_; rintro e w1 ⟨rfl, hw⟩; have hw' := hw.symm; subst hw'; clear hw)
  go_loopw [8, 9] (fun d i wr => ∃ (k m c' md cd : Nat) (a' ad : Option Addr) (R : List Rw), k ≤ nn ∧ m ≤ k ∧ md ≤ 23 * k ∧ i = .int .i64 (k : Int) ∧ d = .slice ad md cd ∧ Hid (ftK (fE ls lv) nn k = some (rts R)) ∧ LowS w (nn : Int) a n c w2 (.slice a' m c') wr ∧ FB wr w2.heap.size wr.heap.size a' m c' R ∧ wr.ownsRow w2.heap.size 3 1 (.slice ad md cd) md (ic (rts R).flatten) ∧ Hid (∀ x ∈ R, (Value.slice ad md cd).ownBlock ≠ some x.g)) (fun _ i _ => nn - (intOf i).toNat)
  case atStart => exact ⟨0, 0, 0, 0, 0, none, _, [], by omega, by omega, by omega, rfl, rfl, rfl, HL0.out, HF0.out, HD0.out, fun x hx => by simp at hx⟩
  case round =>
    obtain ⟨k, m, c', md, cd, a', ad, R, hk, hm, hmd, rfl, rfl, HK, hL, hfb, hd, HAp⟩ := hrel
    clear HL0 HD0 HF0 k0
    have k0 := hL.inn.cell0
    have hz := hL.size
    by_cases hlt : k < nn
    · have HIn2 := hideIt (l05In_any (rts R).flatten (k : Int) md ad cd (by omega) wr (Is_of_own hd))
      by_cases hin : (k : Int) ∈ (rts R).flatten
      · rw [decide_eq_true hin] at HIn2
        have HK2 := hideIt (ftK_there HK.out hin)
        have HL := hideIt hL
        have HFB := hideIt hfb
        have HD := hideIt hd
        clear hin hL hfb hd HK
        go_wp2_with (go_at_call 101; refine HIn2.out.mono ?_; rintro e w1 ⟨rfl, hw⟩; have hw' := hw.symm; subst hw'; clear hw)
        exact ⟨⟨k + 1, m, c', md, cd, a', ad, R, by omega, by omega, by omega, by go_num, rfl, HK2, HL.out, HFB.out, HD.out, HAp⟩, by simp [intOf]; omega⟩
      · rw [decide_eq_false hin] at HIn2
        cases hw : wk (fE ls lv) nn nn (k : Int) (-1) [] with
        | none =>
          have HN := hideIt (ftK_none (ftK_ring HK.out hin hw) nn (by omega))
          have HT2 := hideIt (HTr.out g mE cE k wr hlt hw (hL.edges HOE.out))
          have HL := hideIt hL
          clear hin hw hL hfb hd HK
          go_wp2_with (first | (go_at_call 101; refine HIn2.out.mono ?_; rintro e w1 ⟨rfl, hw⟩; have hw' := hw.symm; subst hw'; clear hw) | (go_at_call 156; refine HT2.out.mono ?_; rintro e w4 ⟨a4, c4, rfl, hb4⟩; refine Hid.out ?_))
          refine (show ∀ {p : Prop}, p → Hid p from fun h => h) ?_
          have hL4 := HL.out.up z2 (hb4.mono hz)
          have r0 := hL4.out.cell0
          have r1 := hL4.out.cell1
          have q0 := hL4.out.frozen 0
          have q1 := hL4.out.frozen 1
          have HOl := hideIt hL4.old
          clear HT2 hb4 hL4
          go_wp2
          rw [HN.out]
          refine bodyPost_ret (v := .tuple #[.agg #[.int .i64 0, .slice none 0 0], .bool false]) (by simp [results, Tryz.results89, go_sem, r0, r1]) rfl ⟨none, 0, 0, [], rfl, FB.nil _ _, rfl, ?_⟩
          exact (HOl.out.setCell (p := ⟨w.heap.size + 1, 0, none⟩) (by show _ ≤ w.heap.size + 1; omega) _).setCell (p := ⟨w.heap.size + 1, 1, none⟩) (by show _ ≤ w.heap.size + 1; omega) _
        | some p =>
          obtain ⟨t, sn⟩ := p
          have htl := tB_len (wk_tree HE.out hn12 (by omega) (by omega) hw).1
          have HK2 : Hid (∀ r : Rw, r.t = t → ftK (fE ls lv) nn (k + 1) = some (rts (R ++ [r]))) := fun r hr => by rw [ftK_new HK.out hin hw, rts_snoc, hr]
          have HT2 := hideIt (HTo.out g mE cE k t sn wr hlt hw (by omega) (hL.edges HOE.out))
          have HL := hideIt hL
          have HFB := hideIt hfb
          have HD := hideIt hd
          clear hin hw hL hfb hd HK
          go_wp2_with (first | (go_at_call 101; refine HIn2.out.mono ?_; rintro e w1 ⟨rfl, hw⟩; have hw' := hw.symm; subst hw'; clear hw) | (go_at_call 156; refine HT2.out.mono ?_; rintro e w4 ⟨a4, m4, c4, rfl, ho4, hb4⟩; refine Hid.out ?_))
          refine (show ∀ {p : Prop}, p → Hid p from fun h => h) ?_
          have hm4 : t.length = m4 := by have := ho4.1; rw [ic_len] at this; omega
          subst hm4
          obtain ⟨g4, c4', hform, _⟩ := ho4.form (by omega)
          simp at hform
          obtain ⟨rfl, rfl⟩ := hform
          have hgl := (ho4.lt g4 rfl).1
          have HRw := hideIt (RwB.of_own ho4)
          have HL4 := hideIt (HL.out.up z2 (hb4.mono hz))
          have HFB4 := hideIt (HFB.out.keep hb4)
          have HD4 := hideIt (own_up HD.out hb4)
          have HFr : Hid (∀ x ∈ R, x.g ≠ g4) := fun x hx e => by have := (HFB.out.ins x hx).2.2; omega
          have HDg : Hid ((Value.slice ad md cd).ownBlock ≠ some g4) := fun e => by have := (HD.out.lt g4 e).2; omega
          have z4 := HL4.out.size
          have e0 := HL4.out.box.cell1
          have e1 := HL4.out.box.frozen 1
          clear HT2 ho4 hb4 HL HFB HD k0 HIn2
          go_wp2_with (at_builtin; refine wpList_append_own _ rfl _ _ 55 rfl w2.heap.size 44 i0 _ 1 24 Tryz.underlying55 hi hz0 hz1 hz2 rfl (by decide) _ _ _ rfl (HFB4.out.own.alloc _) ⟨w4.heap.size, 0, none⟩ 1 1 [.slice (some ⟨g4, 0, none⟩) t.length c4] rfl rfl (newsV9 w4 _) (by intro y hy; simp at hy; subst hy; rfl) (by unfold maxLen; omega) (by omega) (by simp; omega) ?_)
          intro v5 w5 hown5 hg5 _
          obtain ⟨a5, c5, rfl, F5⟩ := HFB4.out.app (r := ⟨g4, c4, t⟩) HRw.out (by show w2.heap.size ≤ g4; omega) HFr.out hown5 hg5
          have hbl5 := own_grown HFB4.out.own hg5 z4
          have HL5 := hideIt (HL4.out.up z2 hbl5)
          have hd5 := World.ownsRow.kept (HD4.out.alloc (.cells #[.slice (some ⟨g4, 0, none⟩) t.length c4] 44)) hg5 (by
            rcases own_kind HD4.out HFB4.out.own (by decide) with h1 | h1
            · exact .inl h1
            · exact .inr h1)
          have HD5 := hideIt hd5
          have HF5 := hideIt F5
          have x0 := HL5.out.box.cell1
          have x1 := HL5.out.box.frozen 1
          clear hown5 hg5 F5 HFB4 HL4 HD4 hbl5 hd5 e0 e1
          have HL6 := hideIt (HL5.out.set (.slice a5 (m + 1) c5))
          have HF6 := hideIt ((HF5.out.setLow (x := w.heap.size + 2) (by omega) 1 (.slice a5 (m + 1) c5)).hi (hi' := (w5.setCell ⟨w.heap.size + 2, 1, none⟩ (.slice a5 (m + 1) c5)).heap.size) (by simp [World.setCell]) (Nat.le_refl _))
          have HD6 := hideIt (own_setLow HD5.out (w.heap.size + 2) 1 (.slice a5 (m + 1) c5) (by omega))
          refine Hid.out ?_
          refine (show ∀ {p : Prop}, p → Hid p from fun h => h) ?_
          have hIs : Is (w5.setCell ⟨w.heap.size + 2, 1, none⟩ (.slice a5 (m + 1) c5)) (w5.setCell ⟨w.heap.size + 2, 1, none⟩ (.slice a5 (m + 1) c5)).heap.size (some ⟨g4, 0, none⟩) t.length t := (HF6.out.ins ⟨g4, c4, t⟩ (by simp)).1.is
          have HN6 := hideIt hIs.news
          have HN6l : Hid ((ic t).length = t.length * 1) := by show _ = _; rw [ic_len]; omega
          have z6 := HL6.out.size
          have hmdl : md ≤ 300 := by omega
          clear hIs HL5 HF5 HD5
          go_wp2_with (at_builtin; refine wpList_append_lies _ rfl _ _ 44 rfl w2.heap.size 3 j0 _ 1 8 Tryz.underlying44 hj hy0 hy1 hy2 rfl (by decide) _ _ _ rfl HD6.out ⟨g4, 0, none⟩ t.length c4 (ic t) rfl HN6l.out HN6.out ic_one (by omega) (by unfold maxLen; omega) (by omega) z6 _ rfl ?_)
          intro g7 c7 w7 hown7 hg7 hnew7 _
          have HB7 := own_grown' HD6.out hg7 z6
          have HL7 := hideIt (HL6.out.up z2 HB7)
          have HF7 := hideIt (HF6.out.other HD6.out (by decide) (fun r hr => by
            rcases List.mem_append.1 hr with h1 | h1
            · exact HAp.out r h1
            · simp at h1; subst h1; exact HDg.out) hg7)
          have HD7 : Hid (w7.ownsRow w2.heap.size 3 1 (.slice (some ⟨g7, 0, none⟩) (md + t.length) c7) (md + t.length) (ic (rts (R ++ [⟨g4, c4, t⟩])).flatten)) := by
            show World.ownsRow _ _ _ _ _ _ _
            rw [rts_snoc, flat_snoc, ic_app]
            exact hown7
          have HAp7 : Hid (∀ x ∈ R ++ [⟨g4, c4, t⟩], (Value.slice (some ⟨g7, 0, none⟩) (md + t.length) c7).ownBlock ≠ some x.g) := fun x hx e => by
            have e2 : g7 = x.g := by simpa [Value.ownBlock] using e
            have hx6 := (HF6.out.ins x hx).2.2
            rcases hnew7 with h1 | h1
            · rcases List.mem_append.1 hx with h2 | h2
              · exact HAp.out x h2 (by rw [h1, e2])
              · simp at h2
                subst h2
                exact HDg.out (by rw [h1, e2])
            · have h3 : (w5.setCell ⟨w.heap.size + 2, 1, none⟩ (.slice a5 (m + 1) c5)).heap.size = w5.heap.size := by simp [World.setCell]
              rw [h3] at hx6
              have h4 : g7 = w5.heap.size := by rw [h1]
              omega
          clear hown7 hg7 hnew7 HB7 HL6 HF6 HD6 HN6 HN6l x0 x1
          go_wp2
          exact ⟨⟨k + 1, m + 1, c5, md + t.length, c7, a5, some ⟨g7, 0, none⟩, R ++ [⟨g4, c4, t⟩], by omega, by omega, by omega, by go_num, rfl, HK2.out _ rfl, HL7.out, HF7.out, HD7.out, HAp7⟩, by simp [intOf]; omega⟩
    · obtain rfl : k = nn := by omega
      have r0 := hL.out.cell0
      have r1 := hL.out.cell1
      have q0 := hL.out.frozen 0
      have q1 := hL.out.frozen 1
      have e0 := hL.box.cell0
      have e1 := hL.box.cell1
      have HFB := hideIt hfb
      have HOl := hideIt hL.old
      clear hfb hd hL
      go_wp2
      rw [HK.out]
      refine bodyPost_ret (v := .tuple #[.agg #[.int .i64 (k : Int), .slice a' m c'], .bool true]) (by simp [results, Tryz.results89, go_sem, r0, r1]) rfl ⟨a', m, c', R, rfl, ?_, rfl, ?_⟩
      · exact ((HFB.out.setLow (x := w.heap.size + 1) (by omega) 0 (.int .i64 (k : Int))).setLow (x := w.heap.size + 1) (by omega) 1 (.slice a' m c')).lo (by omega) |>.hi (by simp [World.setCell]) (Nat.le_refl _)
      · exact (HOl.out.setCell (p := ⟨w.heap.size + 1, 0, none⟩) (by show _ ≤ w.heap.size + 1; omega) _).setCell (p := ⟨w.heap.size + 1, 1, none⟩) (by show _ ≤ w.heap.size + 1; omega) _
end Go.Proofs.YtgjnlhdgekfieaaGreat
namespace Go.Proofs.YtgjnlhdgekfieaaGreat
open Go.RowKit

theorem sForestOk_yes {N : Int} {ts : List (List Int)} (hP : FP N ts) {n : Nat} {a : Option Addr} (c : Nat) (hn : n + lnS ts ≤ 1048576) {w : World} (h : Ts w w.heap.size a n ts) :
    Calls Tryz.prog 34 #[.agg #[.int .i64 N, .slice a n c]] w fun e w' => e = .returned (.bool true) ∧ Good w w' :=
  (sForestOk_any N ts n a c hn w h).mono fun e u ⟨b, he, hb, hbl⟩ => ⟨by rw [he, hb.2 hP], hbl⟩
theorem sForestOk_no {N : Int} {ts : List (List Int)} (hP : ¬ FP N ts) {n : Nat} {a : Option Addr} (c : Nat) (hn : n + lnS ts ≤ 1048576) {w : World} (h : Ts w w.heap.size a n ts) :
    Calls Tryz.prog 34 #[.agg #[.int .i64 N, .slice a n c]] w fun e w' => e = .returned (.bool false) ∧ Good w w' :=
  (sForestOk_any N ts n a c hn w h).mono fun e u ⟨b, he, hb, hbl⟩ => ⟨by
      have : b = false := by
        cases b with
        | false => rfl
        | true => exact absurd (hb.1 rfl) hP
      rw [he, this], hbl⟩

set_option maxHeartbeats 1000000 in
theorem sTreeOf_any (N : Int) (ts : List (List Int)) (v : Int) (n : Nat) (a : Option Addr) (c : Nat) (hn : n + lnS ts ≤ 1048576) (w : World) (h : Ts w w.heap.size a n ts) :
    Calls Tryz.prog 91 #[.agg #[.int .i64 N, .slice a n c], .int .i64 v] w fun e w' => e = .returned (.int .i64 (treeO N ts v)) ∧ Below w.heap.size w w' := by
  have b0 : Good w (w.alloc (.cells #[.int .i64 N, .slice a n c] 57)) := (Good.refl w).alloc _
  have HB0 := hideIt b0
  have HC0 : Hid (∀ u, Good (w.alloc (.cells #[.int .i64 N, .slice a n c] 57)) u → u.cell? ⟨w.heap.size, 1, none⟩ = some (.slice a n c)) := fun u hu => by rw [hu.cell (by simp)]; simp
  by_cases hP : FP N ts
  · have HF2 := hideIt (sForestOk_yes hP c hn (h.up b0))
    have HA := hideIt (h.up b0)
    have HV := hideIt (treeO_yes hP v)
    have hlen := h.1
    clear h b0 hP
    go_enter Tryz.func91, Tryz.ntmps91
    go_wp2_with (go_at_call 34; refine HF2.out.mono ?_; rintro e w1 ⟨rfl, hg1⟩; refine Hid.out ?_)
    refine (show ∀ {p : Prop}, p → Hid p from fun h => h) ?_
    have HG1 := hideIt hg1
    clear HF2 hg1
    go_wp2
    go_loopw [5] (fun i wr => ∃ k : Nat, k ≤ n ∧ i = .int .i64 (k : Int) ∧ Hid (∀ j, j < k → trP ts v j = false) ∧ wr = w1) (fun i _ => n - (intOf i).toNat)
    case atStart => exact ⟨0, by omega, rfl, fun j hj => by omega, rfl⟩
    case round =>
      obtain ⟨k, hk, rfl, HK, hw⟩ := hrel
      have hw' := hw.symm
      subst hw'
      clear hw
      have k1 := HC0.out _ HG1.out
      by_cases hlt : k < n
      · rcases (HA.out.up HG1.out).2 with hz | ⟨bb, off, rfl, hbl, hc⟩
        · omega
        · obtain ⟨t, ht⟩ : ∃ t, ts[k]? = some t := ⟨ts[k]'(by omega), List.getElem?_eq_getElem (by omega)⟩
          obtain ⟨x, cx, e0, iI, _⟩ := hc k t ht
          have b1 : (0 : Int) ≤ (k : Int) := by omega
          have b2 : (k : Int) < (n : Int) := by omega
          have HC := hideIt (l05In_any t v t.length x cx (by have := lnS_mem (List.mem_of_getElem? ht); omega) w1 iI)
          rw [← trP_at (v := v) ht] at HC
          cases hp : trP ts v k with
          | true =>
            rw [hp] at HC
            have HV2 : Hid (trI ts v = (k : Int)) := firstN_yes (by omega) hp HK.out
            clear hc ht iI hp HK
            go_wp2_with (go_at_call 101; refine HC.out.mono ?_; rintro e w2 ⟨rfl, hw⟩; have hw' := hw.symm; subst hw'; clear hw)
            go_ret
            exact ⟨by rw [HV.out, HV2.out]; rfl, HB0.out.up HG1.out⟩
          | false =>
            rw [hp] at HC
            have HK2 : Hid (∀ j, j < k + 1 → trP ts v j = false) := fun j hj => by
              by_cases h7 : j = k
              · rw [h7]; exact hp
              · exact HK.out j (by omega)
            clear hc ht iI hp HK
            go_wp2_with (go_at_call 101; refine HC.out.mono ?_; rintro e w2 ⟨rfl, hw⟩; have hw' := hw.symm; subst hw'; clear hw)
            exact ⟨⟨k + 1, by omega, by go_num, HK2, by first | trivial | rfl⟩, by simp [intOf]; omega⟩
      · obtain rfl : k = n := by omega
        have HV2 : Hid (trI ts v = -1) := firstN_no (fun j hj => HK.out j (by omega))
        clear HK
        go_wp2
        go_ret
        exact ⟨by rw [HV.out, HV2.out]; rfl, HB0.out.up HG1.out⟩
  · have HF2 := hideIt (sForestOk_no hP c hn (h.up b0))
    have HV := hideIt (treeO_no hP v)
    clear h b0 hP
    go_enter Tryz.func91, Tryz.ntmps91
    go_wp2_with (go_at_call 34; refine HF2.out.mono ?_; rintro e w1 ⟨rfl, hg1⟩)
    go_ret
    exact ⟨by rw [HV.out]; rfl, HB0.out.up hg1⟩

end Go.Proofs.YtgjnlhdgekfieaaGreat
namespace Go.Proofs.YtgjnlhdgekfieaaGreat
open Go.RowKit

/-- the answer of l08Search: the edges, and the place of what takes the place -/
def SeA (w : World) (r : List Ld × Option EdgeV) (e : Ending) (w' : World) : Prop :=
  ∃ a m c p, e = .returned (.tuple #[.slice a m c, .int .i64 p]) ∧ w'.ownsRow w.heap.size 52 4 (.slice a m c) m (lcells r.1) ∧ Below w.heap.size w w' ∧ ((r.2 = none ∧ p = -1) ∨ ∃ (k : Nat) (y : Ld), r.2 = some y.e ∧ p = (k : Int) ∧ r.1[k]? = some y)
theorem good_grown2 {W u v : World} {row : Option Nat} (h : Good W u) (hg : u.grownBy v row) (hr : ∀ g, row = some g → W.heap.size ≤ g) : Good W v :=
  ⟨hg.os.trans h.os, hg.tape.trans h.tape, hg.output.trans h.output, Nat.le_trans h.size hg.size, fun k hk => (hg.block k (Nat.lt_of_lt_of_le hk h.size) (fun e => by have := hr k e.symm; omega)).trans (h.block k hk)⟩
theorem is_row {u v : World} {n : Nat} {a : Option Addr} {ls : List Int} {row : Option Nat} (h : Is u u.heap.size a n ls) (hg : u.grownBy v row) (hx : ∀ b off s, a = some ⟨b, off, s⟩ → row ≠ some b) : Is v v.heap.size a n ls := by
  cases row with
  | none => exact h.up ⟨hg.os, hg.tape, hg.output, hg.size, fun k hk => hg.block k hk (by simp)⟩
  | some G => exact is_mono (h.grown (Nat.le_refl _) hg fun b off s ha e => hx b off s ha (by rw [e])) hg.size
theorem ft_lnS2 {es : List EdgeV} {nn : Nat} {ts : List (List Int)} (h : FtAll es nn ts) : ts.length + lnS ts ≤ 1048576 := by
  have h1 : ts.length ≤ 12 := h.fp.2.2.1
  have h2 : ∀ l : List (List Int), (∀ t ∈ l, t.length ≤ 23) → lnS l ≤ 23 * l.length := fun l => by
    induction l with
    | nil => intro _; simp [lnS]
    | cons t l ih =>
      intro hl
      have a := hl t (by simp)
      have b := ih fun s hs => hl s (by simp [hs])
      simp only [lnS, List.map_cons, List.sum_cons, List.length_cons] at b ⊢
      omega
  have := h2 ts fun t ht => (tB_len (h.fp.q.1 t ht).1).2
  omega
theorem rs_t {i : Int} {t : List Int} (x : Ld) : (rsL i t x).t = x.t ∧ (rsL i t x).a = x.a ∧ (rsL i t x).b = x.b ∧ (x.t = false → (rsL i t x).l = x.l) := by
  unfold rsL
  split
  · exact ⟨rfl, rfl, rfl, fun h => by rename_i h2; rw [h] at h2; cases h2.1⟩
  · exact ⟨rfl, rfl, rfl, fun _ => rfl⟩

set_option maxRecDepth 100000 in
set_option maxHeartbeats 8000000 in
theorem l08Search_any (nn : Nat) (ls : List Ld) (e : EdgeV) (j : Nat) (n : Nat) (a : Option Addr) (c : Nat) (hS : Stg nn ls) (hj4 : (j : Int) ≤ 4) (he1 : 0 ≤ e.1 ∧ e.1 < (nn : Int)) (he2 : 0 ≤ e.2 ∧ e.2 < (nn : Int)) (hn : n ≤ 1048576) (hnil : a = none → n = 0 ∧ c = 0) (w : World) (h : Ls w w.heap.size a n ls) :
    Calls Tryz.prog 94 #[.agg #[.int .i64 (nn : Int), .slice a n c], .agg #[.int .i64 e.1, .int .i64 e.2], .int .i64 (j : Int)] w (SeA w (lvO nn e (j : Int) ls)) := by
  obtain ⟨i0, hi, hz0, hz1, hz2⟩ := info_parts infoIL
  obtain ⟨m0, hm0, hn1, hn12⟩ := gB_n hS.g
  have hm0 : m0 = nn := by omega
  subst hm0
  have hj0 : (0 : Int) ≤ (j : Int) := by omega
  obtain ⟨hts, hA⟩ := hS.trees (i := (j : Int)) hj0
  have hlen := h.1
  obtain ⟨W2, hW2⟩ : ∃ W2, W2 = (w.alloc (.cells #[.int .i64 (m0 : Int), .slice a n c] 26)).alloc (.cells #[.int .i64 e.1, .int .i64 e.2] 28) := ⟨_, rfl⟩
  have G2 : Good w W2 := by rw [hW2]; exact ((Good.refl w).alloc _).alloc _
  have X2 : Box7 W2 w.heap.size 26 (.int .i64 (m0 : Int)) (.slice a n c) := by rw [hW2]; exact (Box7.new w _ _ _ _ rfl).alloc _
  have E2 : Box7 W2 (w.heap.size + 1) 28 (.int .i64 e.1) (.int .i64 e.2) := by rw [hW2]; exact Box7.new _ _ _ _ _ (by simp)
  have hz2' : W2.heap.size = w.heap.size + 2 := by rw [hW2]; simp
  have HG2 := hideIt G2
  have HLs : Hid (∀ u, Good W2 u → Ls u u.heap.size a n ls) := fun u hu => (h.up G2).up hu
  have HX : Hid (∀ u, Good W2 u → Box7 u w.heap.size 26 (.int .i64 (m0 : Int)) (.slice a n c) ∧ Box7 u (w.heap.size + 1) 28 (.int .i64 e.1) (.int .i64 e.2)) := fun u hu => ⟨X2.up hu, E2.up hu⟩
  have HF : Hid (∀ u, Good W2 u → Calls Tryz.prog 89 #[.agg #[.int .i64 (m0 : Int), .slice a n c], .int .i64 (j : Int)] u (FAn9 u (m0 : Int) (some (lvT m0 ls (j : Int))))) := fun u hu => by
    have := sForestAt_any m0 ls (j : Int) n a c hn1 hn12 hS.g u (HLs.out u hu)
    rw [hts] at this
    exact this
  have q1 := X2.cell1
  have HZ2 := hideIt hz2'
  have HAll := hideIt hA
  have Hls := hideIt h
  clear h X2 E2 G2 hz2' hts hA
  go_enter Tryz.func94, Tryz.ntmps94
  go_upto_region 1 with fail
  rw [← hW2]
  clear hW2
  go_cut [8] (fun v wx => ∃ a' c', v = .slice a' n c' ∧ Hid (Good W2 wx) ∧ Hid (wx.ownsRow W2.heap.size 52 4 (.slice a' n c') n (lcells ls)))
  case first =>
    have h0 := World.ownsRow_lit (base := W2.heap.size) (e := 52) (size := 4) W2 #[] 0 (Nat.le_refl _) (by unfold maxLen; omega) (by simp)
    obtain ⟨W3, hW3⟩ : ∃ W3, W3 = W2.alloc (.cells #[] 52) := ⟨_, rfl⟩
    have G3 : Good W2 W3 := by rw [hW3]; exact (Good.refl _).alloc _
    have hlt2 : w.heap.size < W2.heap.size := by have := HZ2.out; omega
    cases a with
    | none =>
      obtain ⟨rfl, rfl⟩ := hnil rfl
      have e0 : ls = [] := List.length_eq_zero_iff.1 hlen
      subst e0
      have HO0 := hideIt h0
      clear hW3 h0
      go_wp2_with (at_builtin; refine wpList_append_own_none rfl _ _ 24 rfl W2.heap.size 52 i0 4 Tryz.underlying24 hi _ _ _ rfl HO0.out rfl ?_)
      go_meet
      exact ⟨_, _, rfl, (Good.refl _).alloc _, hideIt (by simpa [lcells] using HO0.out)⟩
    | some ad =>
      have hl2 : (lcells ls).length = n * 4 := by rw [lcells_length, hlen]
      have hnews : ∀ q u, (lcells ls)[q]? = some u → (W2.alloc (.cells #[] 52)).cell? (ad.add q) = some u := by
        rw [← hW3]
        have h3 := HLs.out W3 G3
        rcases h3.2 with h4 | ⟨bb, oo, hbb, _⟩
        · intro q u hq
          have e0 : ls = [] := List.length_eq_zero_iff.1 (by omega)
          rw [e0] at hq
          simp [lcells] at hq
        · simp at hbb
          subst hbb
          exact h3.news
      have HO0 := hideIt h0
      have HNw := hideIt hnews
      clear hW3 h0 hnews
      go_wp2_with (at_builtin; refine wpList_append_own _ rfl _ _ 24 rfl W2.heap.size 52 i0 _ 4 32 Tryz.underlying24 hi hz0 hz1 hz2 rfl (by decide) _ _ _ rfl HO0.out ad n c (lcells ls) rfl hl2 HNw.out lcells_one (by unfold maxLen; omega) (by omega) (by simp) ?_)
      intro v1 w1 hown1 hg1 hn1
      obtain ⟨a2, c2, rfl⟩ := own_form hown1
      have HGo : Hid (Good W2 w1) := ((Below.refl _ W2).alloc (Nat.le_refl _) _).grown hg1 (by simp) (fun q hq => (HO0.out.lt q hq).1)
      have HOw := hideIt hown1
      clear hown1 hg1 hn1 HO0 HNw
      go_wp2
      go_meet
      exact ⟨_, _, rfl, HGo, HOw⟩
  case rest =>
    obtain ⟨al, cl, rfl, HGc, HOc⟩ := hcut
    obtain ⟨x2, _⟩ := HX.out _ HGc.out
    have y0 := x2.cell0
    have y1 := x2.cell1
    have HFc := hideIt (HF.out _ HGc.out)
    obtain ⟨k1, t1, hk1, i1, o1, _⟩ := HAll.out.at he1.1 he1.2
    obtain ⟨k2, t2, hk2, i2, o2, _⟩ := HAll.out.at he2.1 he2.2
    have hsm : smT (lvT m0 ls (j : Int)) e = if (vsL t2).length < (vsL t1).length then t2 else t1 := by
      unfold smT
      rw [i1, i2, Int.toNat_natCast, Int.toNat_natCast]
      simp only [List.getD_eq_getElem?_getD, hk1, hk2, Option.getD_some]
    obtain ⟨TT, hTT⟩ : ∃ TT, TT = lvT m0 ls (j : Int) := ⟨_, rfl⟩
    rw [← hTT] at HFc hk1 hk2 o1 o2 hsm
    have hlnS : lnS TT + TT.length ≤ 1048576 := by rw [hTT]; have h1 := ft_lnS2 HAll.out; have h2 := HAll.out.fp.2.2.1; omega
    have HTB : Hid (tB t1 = true ∧ tB t2 = true) := by
      rw [hTT] at hk1 hk2
      exact ⟨(HAll.out.fp.2.2.2.1 k1 t1 hk1).1, (HAll.out.fp.2.2.2.1 k2 t2 hk2).1⟩
    have HTT := hideIt hTT
    clear x2 HF hTT HAll i1 i2
    go_wp2_with (go_at_call 89; refine HFc.out.mono ?_; rintro x w4 ⟨a3, m3, c3, R, rfl, hFB, hR, hb4⟩; refine Hid.out ?_)
    refine (show ∀ {p : Prop}, p → Hid p from fun h => h) ?_
    simp only [Option.getD_some] at hR
    subst hR
    have hFt : ∀ (k : Nat) (t : List Int), (rts R)[k]? = some t → ∃ r, R[k]? = some r ∧ r.t = t := fun k t hk => by
      have hkl : k < R.length := by rw [← rts_len]; exact (List.getElem?_eq_some_iff.1 hk).1
      have hr : R[k]? = some R[k] := List.getElem?_eq_getElem hkl
      exact ⟨_, hr, Option.some.inj ((rts_at hr).symm.trans hk)⟩
    obtain ⟨r1, hr1, rfl⟩ := hFt k1 t1 hk1
    obtain ⟨r2, hr2, rfl⟩ := hFt k2 t2 hk2
    have hkm1 : k1 < m3 := by have := (List.getElem?_eq_some_iff.1 hr1).1; have := hFB.len; omega
    have hkm2 : k2 < m3 := by have := (List.getElem?_eq_some_iff.1 hr2).1; have := hFB.len; omega
    obtain ⟨gR, rfl⟩ : ∃ gR, a3 = some ⟨gR, 0, none⟩ := by
      rcases hFB.own.2 with ⟨_, h0⟩ | ⟨g, cap, cur, hv, _⟩
      · omega
      · simp at hv
        exact ⟨g, hv.1⟩
    obtain ⟨W5, hW5⟩ : ∃ W5, W5 = w4.alloc (.cells #[.int .i64 (m0 : Int), .slice (some ⟨gR, 0, none⟩) m3 c3] 57) := ⟨_, rfl⟩
    have g45 : Good w4 W5 := by rw [hW5]; exact (Good.refl w4).alloc _
    have F5 : Box7 W5 w4.heap.size 57 (.int .i64 (m0 : Int)) (.slice (some ⟨gR, 0, none⟩) m3 c3) := by rw [hW5]; exact Box7.new _ _ _ _ _ rfl
    have Gc5 : Good wc W5 := Good.up hb4 g45
    have E5 := (HX.out _ (HGc.out.up Gc5)).2
    have hFB5 := hFB.up g45
    have hln : m3 + lnS (rts R) ≤ 1048576 := by have := hFB.len; have h2 := rts_len R; omega
    have HTr : Hid (∀ v u, Good W5 u → Calls Tryz.prog 91 #[.agg #[.int .i64 (m0 : Int), .slice (some ⟨gR, 0, none⟩) m3 c3], .int .i64 v] u fun x v' => x = .returned (.int .i64 (treeO (m0 : Int) (rts R) v)) ∧ Good W5 v') := fun v u hu => (sTreeOf_any _ (rts R) v m3 (some ⟨gR, 0, none⟩) c3 hln u (hFB5.ts.up hu)).mono fun _ _ ⟨hx, hb⟩ => ⟨hx, hu.up hb⟩
    have c1 : W5.cell? ⟨gR, k1, none⟩ = some (.slice (some ⟨r1.g, 0, none⟩) r1.t.length r1.cp) := by rw [hFB5.own.cellAt k1 (by omega)]; exact rhs_at hr1
    have c2 : W5.cell? ⟨gR, k2, none⟩ = some (.slice (some ⟨r2.g, 0, none⟩) r2.t.length r2.cp) := by rw [hFB5.own.cellAt k2 (by omega)]; exact rhs_at hr2
    have hgl : gR < W5.heap.size := (hFB5.own.lt gR rfl).2
    have HC : Hid (∀ u, Good W5 u → ((u.cell? ⟨w4.heap.size, 0, none⟩ = some (.int .i64 (m0 : Int)) ∧ u.cell? ⟨w4.heap.size, 1, none⟩ = some (.slice (some ⟨gR, 0, none⟩) m3 c3)) ∧ (u.cell? ⟨w.heap.size + 1, 0, none⟩ = some (.int .i64 e.1) ∧ u.cell? ⟨w.heap.size + 1, 1, none⟩ = some (.int .i64 e.2)) ∧ (u.cell? ⟨gR, k1, none⟩ = some (.slice (some ⟨r1.g, 0, none⟩) r1.t.length r1.cp) ∧ u.cell? ⟨gR, k2, none⟩ = some (.slice (some ⟨r2.g, 0, none⟩) r2.t.length r2.cp))) ∧ Good W5 u) := fun u hu => ⟨⟨⟨(F5.up hu).cell0, (F5.up hu).cell1⟩, ⟨(E5.up hu).cell0, (E5.up hu).cell1⟩, by rw [hu.cell hgl]; exact c1, by rw [hu.cell hgl]; exact c2⟩, hu⟩
    have HV1 : Hid (∀ u, Good W5 u → Calls Tryz.prog 90 #[.slice (some ⟨r1.g, 0, none⟩) r1.t.length r1.cp] u fun x v' => ∃ a' m c', x = .returned (.slice a' m c') ∧ Hid (v'.ownsRow W5.heap.size 3 1 (.slice a' m c') m (ic (vsL r1.t))) ∧ Good W5 v') := fun u hu => (sVertsOf_any r1.t r1.t.length (some ⟨r1.g, 0, none⟩) r1.cp (by have := len_le (List.mem_of_getElem? hk1) (B := 1048576) (by omega); omega) u ((hFB5.ins r1 (List.mem_of_getElem? hr1)).1.is.up hu)).mono fun _ _ ⟨a', m, c', hx, ho, hb⟩ => ⟨a', m, c', hx, own_mono ho hu.size, hu.up hb⟩
    have HV2 : Hid (∀ u, Good W5 u → Calls Tryz.prog 90 #[.slice (some ⟨r2.g, 0, none⟩) r2.t.length r2.cp] u fun x v' => ∃ a' m c', x = .returned (.slice a' m c') ∧ Hid (v'.ownsRow W5.heap.size 3 1 (.slice a' m c') m (ic (vsL r2.t))) ∧ Below u.heap.size u v') := fun u hu => (sVertsOf_any r2.t r2.t.length (some ⟨r2.g, 0, none⟩) r2.cp (by have := len_le (List.mem_of_getElem? hk2) (B := 1048576) (by omega); omega) u ((hFB5.ins r2 (List.mem_of_getElem? hr2)).1.is.up hu)).mono fun _ _ ⟨a', m, c', hx, ho, hb⟩ => ⟨a', m, c', hx, own_mono ho hu.size, hb⟩
    have HO1 := hideIt o1
    have HO2 := hideIt o2
    have HT1 : Hid (∀ u, Good W5 u → Calls Tryz.prog 91 #[.agg #[.int .i64 (m0 : Int), .slice (some ⟨gR, 0, none⟩) m3 c3], .int .i64 e.1] u fun x v' => x = .returned (.int .i64 (k1 : Int)) ∧ Good W5 v') := fun u hu => (HTr.out _ u hu).mono fun _ _ ⟨hx, hb⟩ => ⟨by rw [hx, HO1.out], hb⟩
    have HT2 : Hid (∀ u, Good W5 u → Calls Tryz.prog 91 #[.agg #[.int .i64 (m0 : Int), .slice (some ⟨gR, 0, none⟩) m3 c3], .int .i64 e.2] u fun x v' => x = .returned (.int .i64 (k2 : Int)) ∧ Below u.heap.size u v') := fun u hu => (sTreeOf_any _ (rts R) _ m3 (some ⟨gR, 0, none⟩) c3 hln u (hFB5.ts.up hu)).mono fun _ _ ⟨hx, hb⟩ => ⟨by rw [hx, HO2.out], hb⟩
    have b1 : (0 : Int) ≤ (k1 : Int) := by omega
    have b2 : (k1 : Int) < (m3 : Int) := by omega
    have b3 : (0 : Int) ≤ (k2 : Int) := by omega
    have b4 : (k2 : Int) < (m3 : Int) := by omega
    have HSm := hideIt hsm
    have HGc5 := hideIt Gc5
    clear HFc hFB hb4 y0 y1 g45 Gc5 E5 hFB5 hFt hk1 hk2 hr1 hr2 o1 o2 hsm c1 c2 hgl F5 hln HTr hlnS HO1 HO2
    go_upto_region 3 with fail
    rw [← hW5]
    clear hW5
    have hS0 := HC.out _ (Good.refl W5).drew
    go_region_held3 (fun u => ((u.cell? ⟨w4.heap.size, 0, none⟩ = some (.int .i64 (m0 : Int)) ∧ u.cell? ⟨w4.heap.size, 1, none⟩ = some (.slice (some ⟨gR, 0, none⟩) m3 c3)) ∧ (u.cell? ⟨w.heap.size + 1, 0, none⟩ = some (.int .i64 e.1) ∧ u.cell? ⟨w.heap.size + 1, 1, none⟩ = some (.int .i64 e.2)) ∧ (u.cell? ⟨gR, k1, none⟩ = some (.slice (some ⟨r1.g, 0, none⟩) r1.t.length r1.cp) ∧ u.cell? ⟨gR, k2, none⟩ = some (.slice (some ⟨r2.g, 0, none⟩) r2.t.length r2.cp))) ∧ Good W5 u)
      (first | with_reducible assumption)
      (first
        | (go_at_call 91; refine (HT1.out _ (And.right (by assumption))).mono ?_; rintro x w6 ⟨rfl, hg6⟩; have hS6 := HC.out _ hg6)
        | (go_at_call 90; refine (HV1.out _ (And.right (by assumption))).mono ?_; rintro x w7 ⟨a7, m7, c7, rfl, ho7, hg7⟩; have hS7 := HC.out _ hg7))
    have HC7 : Hid (∀ u, Good w7 u → ((u.cell? ⟨w4.heap.size, 0, none⟩ = some (.int .i64 (m0 : Int)) ∧ u.cell? ⟨w4.heap.size, 1, none⟩ = some (.slice (some ⟨gR, 0, none⟩) m3 c3)) ∧ (u.cell? ⟨w.heap.size + 1, 0, none⟩ = some (.int .i64 e.1) ∧ u.cell? ⟨w.heap.size + 1, 1, none⟩ = some (.int .i64 e.2)) ∧ (u.cell? ⟨gR, k1, none⟩ = some (.slice (some ⟨r1.g, 0, none⟩) r1.t.length r1.cp) ∧ u.cell? ⟨gR, k2, none⟩ = some (.slice (some ⟨r2.g, 0, none⟩) r2.t.length r2.cp))) ∧ Good w7 u) := fun u hu => ⟨(HC.out u (hg7.up hu)).1, hu⟩
    have HG7 := hideIt hg7
    have hS8 := HC7.out _ (Good.refl w7).drew
    clear hS0 hS6 hS7 hg6 HV1 HT1 HC hg7
    go_upto_region 4 with fail
    go_region_held3 (fun u => ((u.cell? ⟨w4.heap.size, 0, none⟩ = some (.int .i64 (m0 : Int)) ∧ u.cell? ⟨w4.heap.size, 1, none⟩ = some (.slice (some ⟨gR, 0, none⟩) m3 c3)) ∧ (u.cell? ⟨w.heap.size + 1, 0, none⟩ = some (.int .i64 e.1) ∧ u.cell? ⟨w.heap.size + 1, 1, none⟩ = some (.int .i64 e.2)) ∧ (u.cell? ⟨gR, k1, none⟩ = some (.slice (some ⟨r1.g, 0, none⟩) r1.t.length r1.cp) ∧ u.cell? ⟨gR, k2, none⟩ = some (.slice (some ⟨r2.g, 0, none⟩) r2.t.length r2.cp))) ∧ Good w7 u)
      (first | with_reducible assumption)
      (first
        | (go_at_call 91; refine (HT2.out _ (HG7.out.up (And.right (by assumption)))).mono ?_; rintro x w8 ⟨rfl, hb8⟩; have hg8 := Good.up (And.right (by assumption)) hb8; have hS9 := HC7.out _ hg8)
        | (go_at_call 90; refine (HV2.out _ (HG7.out.up (And.right (by assumption)))).mono ?_; rintro x w9 ⟨a9, m9, c9, rfl, ho9, hb9⟩; have hg9 := Good.up (And.right (by assumption)) hb9; have hS10 := HC7.out _ hg9))
    have hm7 : (vsL r1.t).length = m7 := by have := ho7.out.1; rw [ic_len] at this; omega
    have hm9 : (vsL r2.t).length = m9 := by have := ho9.out.1; rw [ic_len] at this; omega
    have HM7 : Hid (m7 ≤ 12) := by show _ ≤ _; rw [← hm7]; exact vsL_len r1.t
    have HM9 : Hid (m9 ≤ 12) := by show _ ≤ _; rw [← hm9]; exact vsL_len r2.t
    have HI7 := hideIt ((Is_of_own ho7.out).up hg9)
    have HI9 := hideIt (Is_of_own ho9.out)
    have HGs := hideIt (HG7.out.up hg9)
    have hlo : ∀ (b : Nat), (Value.slice al n cl).ownBlock = some b → b < W5.heap.size := fun b hb => by
      have h1 := (HOc.out.lt b hb).2
      have h2 := HGc5.out.size
      omega
    have HL7 : Hid (∀ b off s, a7 = some ⟨b, off, s⟩ → (Value.slice al n cl).ownBlock ≠ some b) := fun b off s ha hb => by
      have h1 := (ho7.out.lt b (by rw [ha]; rfl)).1
      have h2 := hlo b hb
      omega
    have HL9 : Hid (∀ b off s, a9 = some ⟨b, off, s⟩ → (Value.slice al n cl).ownBlock ≠ some b) := fun b off s ha hb => by
      have h1 := (ho9.out.lt b (by rw [ha]; rfl)).1
      have h2 := hlo b hb
      omega
    clear hlo
    rw [hm7, hm9] at HSm
    clear hS8 hS9 hS10 hg8 hg9 hb8 hb9 HC7 HV2 HT2 hm7 hm9 ho7 ho9 HG7
    by_cases hlt : m9 < m7
    · have Ht : Hid (smT (lvT m0 ls (j : Int)) e = r2.t) := by
        show _ = _
        rw [← HTT.out, HSm.out, if_pos hlt]
      have HIn : Hid (∀ u v, w9.grownBy u (Value.slice al n cl).ownBlock → Calls Tryz.prog 101 #[.slice a9 m9 c9, .int .i64 v] u fun e w' => e = .returned (.bool (decide (v ∈ r2.t))) ∧ w' = u) := fun u v hu => (l05In_any (vsL r2.t) v m9 a9 c9 (by have := HM9.out; omega) u (is_row HI9.out hu HL9.out)).mono fun _ _ ⟨h1, h2⟩ => ⟨by rw [h1]; exact bret (vs_mem_of HTB.out.2), h2⟩
      obtain ⟨t, ht⟩ : ∃ t, t = r2.t := ⟨_, rfl⟩
      rw [← ht] at Ht HIn
      clear HSm HTT HI7 HI9 HM7 HM9 HL7 HL9 HTB ht
      have HOl := hideIt (own_up HOc.out (Good.up HGc5.out HGs.out))
      have HGw := hideIt ((HGc.out.up HGc5.out).up HGs.out)
      clear HGs HOc HGc HGc5

      by_cases hj : 4 < (j : Int) + 1
      · have hup : Hid (upL (j : Int) = 4) := by show _ = _; unfold upL; rw [if_pos hj]
        go_wp2
        clear hj hlt
        go_loopw [14] (fun q wr => ∃ d : Nat, d ≤ n ∧ q = .int .i64 (d : Int) ∧ Hid (wr.ownsRow W2.heap.size 52 4 (.slice al n cl) n (lcells ((ls.take d).map (rsL (j : Int) t) ++ ls.drop d))) ∧ Hid (w9.grownBy wr (Value.slice al n cl).ownBlock)) (fun q _ => n - (intOf q).toNat)
        case atStart => exact ⟨0, by omega, rfl, hideIt (by simpa using HOl.out), World.grownBy.refl _ _⟩
        case round =>
          obtain ⟨d, hd, rfl, HOz, HGz⟩ := hrel
          clear HOl
          by_cases hlt : d < n
          · obtain ⟨gl, rfl⟩ : ∃ gl, al = some ⟨gl, 0, none⟩ := by
              rcases HOz.out.2 with ⟨_, h0⟩ | ⟨g, cap, cur, hv, _⟩
              · omega
              · simp at hv
                exact ⟨g, hv.1⟩
            obtain ⟨y, hy⟩ : ∃ y, ls[d]? = some y := ⟨ls[d]'(by omega), List.getElem?_eq_getElem (by omega)⟩
            have hya := turn_at (f := rsL (j : Int) t) hy
            have b1 : (0 : Int) ≤ (d : Int) := by omega
            have b2 : (d : Int) < (n : Int) := by omega
            obtain ⟨p0, p1, p2, p3⟩ := lcells_at _ d y hya
            have hl4 : (lcells ((ls.take d).map (rsL (j : Int) t) ++ ls.drop d)).length = n * 4 := HOz.out.1
            have e0 : wr.cell? ⟨gl, d * 4, none⟩ = some (.int .i64 y.a) := by rw [HOz.out.cellAt (d * 4) (by omega)]; exact p0
            have e2 : wr.cell? ⟨gl, d * 4 + 2, none⟩ = some (.int .i64 y.l) := by rw [HOz.out.cellAt (d * 4 + 2) (by omega)]; exact p2
            have e3 : wr.cell? ⟨gl, d * 4 + 3, none⟩ = some (.bool y.t) := by rw [HOz.out.cellAt (d * 4 + 3) (by omega)]; exact p3
            have f2 := HOz.out.frozenAt (d * 4 + 2)
            have hst := HOz.out.stored (d * 4 + 2) (.int .i64 (4))
            rw [lcells_setL hya] at hst
            have HSt := hideIt hst
            have hq := hideIt (HIn.out wr y.a HGz.out)
            have HY := hideIt hy
            clear p0 p1 p2 p3 hl4 hst hy hya
            by_cases ht1 : y.t = true
            · rw [ht1] at e3
              by_cases hl1 : y.l = (j : Int)
              · have d1 : (y.l == (j : Int)) = true := by simp [hl1]
                by_cases ha1 : y.a ∈ t
                · have HN := hideIt (turn_step (f := rsL (j : Int) t) HY.out)
                  rw [rsL_yes (i := (j : Int)) (t := t) ⟨ht1, hl1, ha1⟩, hup.out] at HN
                  rw [decide_eq_true ha1] at hq
                  clear ht1 hl1 ha1
                  go_wp2_with (go_at_call 101; refine hq.out.mono ?_; rintro x w1 ⟨rfl, hw1⟩; have hw1' := hw1.symm; subst hw1'; refine Hid.out ?_)
                  refine (show ∀ {p : Prop}, p → Hid p from fun h => h) ?_
                  go_wp2
                  exact ⟨⟨d + 1, by omega, by go_num, hideIt (by rw [← HN.out]; exact HSt.out.1), hideIt (grown_trans HGz.out HSt.out.2)⟩, by simp [intOf]; omega⟩
                · have HN := hideIt (turn_skip HY.out (rsL_no (i := (j : Int)) (t := t) fun h => ha1 h.2.2))
                  rw [decide_eq_false ha1] at hq
                  clear ht1 hl1 ha1
                  go_wp2_with (go_at_call 101; refine hq.out.mono ?_; rintro x w1 ⟨rfl, hw1⟩; have hw1' := hw1.symm; subst hw1'; refine Hid.out ?_)
                  refine (show ∀ {p : Prop}, p → Hid p from fun h => h) ?_
                  go_wp2
                  exact ⟨⟨d + 1, by omega, by go_num, hideIt (by rw [HN.out]; exact HOz.out), HGz⟩, by simp [intOf]; omega⟩
              · have d1 : (y.l == (j : Int)) = false := by simp [hl1]
                have HN := hideIt (turn_skip HY.out (rsL_no (i := (j : Int)) (t := t) fun h => hl1 h.2.1))
                clear ht1 hl1
                go_wp2
                exact ⟨⟨d + 1, by omega, by go_num, hideIt (by rw [HN.out]; exact HOz.out), HGz⟩, by simp [intOf]; omega⟩
            · have HN := hideIt (turn_skip HY.out (rsL_no (i := (j : Int)) (t := t) fun h => ht1 h.1))
              rw [show y.t = false by simpa using ht1] at e3
              clear ht1
              go_wp2
              exact ⟨⟨d + 1, by omega, by go_num, hideIt (by rw [HN.out]; exact HOz.out), HGz⟩, by simp [intOf]; omega⟩
          · obtain rfl : d = n := by omega
            obtain ⟨L1, hL1⟩ : ∃ L1, L1 = ls.map (rsL (j : Int) t) := ⟨_, rfl⟩
            have HO1 : Hid (wr.ownsRow W2.heap.size 52 4 (.slice al d cl) d (lcells L1)) := by
              have h1 := HOz.out
              rw [List.take_of_length_le (by omega), List.drop_eq_nil_of_le (by omega), List.append_nil, ← hL1] at h1
              exact h1
            have HL1 := hideIt hL1
            have hlen1 : Hid (L1.length = d) := by show _ = _; rw [hL1]; simp [hlen]
            clear HOz hL1 hlt
            go_wp2
            go_loopw [15] (fun q wr => ∃ k : Nat, k ≤ d ∧ q = .int .i64 (k : Int) ∧ Hid (wr.ownsRow W2.heap.size 52 4 (.slice al d cl) d (lcells ((L1.take k).map (srL (j : Int) t) ++ L1.drop k))) ∧ Hid (w9.grownBy wr (Value.slice al d cl).ownBlock) ∧ Hid (∀ y ∈ L1.take k, ¬ hitL (j : Int) t y)) (fun q _ => d - (intOf q).toNat)
            case atStart => exact ⟨0, by omega, rfl, hideIt (by simpa using HO1.out), HGz, fun y hy => by simp at hy⟩
            case round =>
              obtain ⟨k, hk, rfl, HOz, HGy, HNz⟩ := hrel
              clear HO1
              have GW : Good W2 wr := good_grown2 HGw.out HGy.out (fun g hg => (HOz.out.lt g hg).1)
              by_cases hlt : k < d
              · obtain ⟨gl, rfl⟩ : ∃ gl, al = some ⟨gl, 0, none⟩ := by
                  rcases HOz.out.2 with ⟨_, h0⟩ | ⟨g, cap, cur, hv, _⟩
                  · omega
                  · simp at hv
                    exact ⟨g, hv.1⟩
                obtain ⟨ba, off, y, rfl, hbl, hy, hat⟩ := (HLs.out wr GW).at hlt
                have hy1 : L1[k]? = some (rsL (j : Int) t y) := by rw [HL1.out, List.getElem?_map, hy]; rfl
                obtain ⟨q1, q2, q3, q4⟩ := rs_t (i := (j : Int)) (t := t) y
                have hya := turn_at (f := srL (j : Int) t) hy1
                have b1 : (0 : Int) ≤ (k : Int) := by omega
                have b2 : (k : Int) < (d : Int) := by omega
                obtain ⟨p0, p1, p2, p3⟩ := lcells_at _ k _ hya
                have hl4 : (lcells ((L1.take k).map (srL (j : Int) t) ++ L1.drop k)).length = d * 4 := HOz.out.1
                have e0 : wr.cell? ⟨gl, k * 4, none⟩ = some (.int .i64 y.a) := by rw [HOz.out.cellAt (k * 4) (by omega), ← q2]; exact p0
                have e1 : wr.cell? ⟨gl, k * 4 + 1, none⟩ = some (.int .i64 y.b) := by rw [HOz.out.cellAt (k * 4 + 1) (by omega), ← q3]; exact p1
                have e2 : wr.cell? ⟨gl, k * 4 + 2, none⟩ = some (.int .i64 (rsL (j : Int) t y).l) := by rw [HOz.out.cellAt (k * 4 + 2) (by omega)]; exact p2
                have e3 : wr.cell? ⟨gl, k * 4 + 3, none⟩ = some (.bool y.t) := by rw [HOz.out.cellAt (k * 4 + 3) (by omega), ← q1]; exact p3
                have o2 := hat.cl
                have o3 := hat.ct
                have cw := (HX.out wr GW).1.cell1
                have hqa := hideIt (HIn.out wr y.a HGy.out)
                have hqb := hideIt (HIn.out wr y.b HGy.out)
                have HY := hideIt hy1
                have HYa := hideIt hya
                clear p0 p1 p2 p3 hl4 hy hya hat hy1 hbl
                by_cases ht1 : y.t = true
                · have ht2 : (rsL (j : Int) t y).t = true := by rw [q1, ht1]
                  have HN := hideIt (turn_skip HY.out (srL_no (i := (j : Int)) (t := t) fun h => by have h1 : (rsL (j : Int) t y).t = false := h.1; rw [ht2] at h1; cases h1))
                  have HN2 := hideIt (nohit_step HY.out HNz.out fun h => by have h1 : (rsL (j : Int) t y).t = false := h.1; rw [ht2] at h1; cases h1)
                  rw [ht1] at o3
                  generalize decide (y.a ∈ t) = va at hqa
                  generalize decide (y.b ∈ t) = vb at hqb
                  clear ht1 ht2 q1 q2 q3 q4 e2 e3 o2 GW
                  go_wp2_with (first | (go_at_call 101; refine hqa.out.mono ?_; rintro x w1 ⟨rfl, hw1⟩; have hw1' := hw1.symm; subst hw1'; clear hqa) | (go_at_call 101; refine hqb.out.mono ?_; rintro x w1 ⟨rfl, hw1⟩; have hw1' := hw1.symm; subst hw1'; clear hqb))
                  exact ⟨⟨k + 1, by omega, by go_num, hideIt (by rw [HN.out]; exact HOz.out), HGy, HN2⟩, by simp [intOf]; omega⟩
                · have ht0 : y.t = false := by simpa using ht1
                  have hrs : rsL (j : Int) t y = y := rsL_no fun h => ht1 h.1
                  rw [hrs] at HY HYa e2
                  rw [ht0] at o3 e3
                  clear q1 q2 q3 q4 hrs ht1
                  by_cases hl1 : y.l = (j : Int)
                  · have d1 : (y.l != (j : Int)) = false := by simp [hl1]
                    by_cases ha : y.a ∈ t
                    · rw [decide_eq_true ha] at hqa
                      by_cases hb : y.b ∈ t
                      · rw [decide_eq_true hb] at hqb
                        have HN2 := hideIt (nohit_step HY.out HNz.out fun h => h.2.2.1 ⟨ha, hb⟩)
                        have HN := hideIt (turn_step (f := srL (j : Int) t) HY.out)
                        rw [srL_yes (i := (j : Int)) (t := t) ⟨ht0, hl1, ha, hb⟩, hup.out] at HN
                        have f2 := HOz.out.frozenAt (k * 4 + 2)
                        have hst := HOz.out.stored (k * 4 + 2) (.int .i64 (4))
                        rw [lcells_setL HYa.out] at hst
                        have HSt := hideIt hst
                        clear hst ha hb hl1 ht0 GW
                        go_wp2_with (first | (go_at_call 101; refine hqa.out.mono ?_; rintro x w1 ⟨rfl, hw1⟩; have hw1' := hw1.symm; subst hw1'; clear hqa) | (go_at_call 101; refine hqb.out.mono ?_; rintro x w1 ⟨rfl, hw1⟩; have hw1' := hw1.symm; subst hw1'; clear hqb))
                        exact ⟨⟨k + 1, by omega, by go_num, hideIt (by rw [← HN.out]; exact HSt.out.1), hideIt (grown_trans HGy.out HSt.out.2), HN2⟩, by simp [intOf]; omega⟩
                      · rw [decide_eq_false hb] at hqb
                        have HV : Hid (lvO m0 e (j : Int) ls = ((L1.take k).map (srL (j : Int) t) ++ ⟨y.a, y.b, y.l, true⟩ :: L1.drop (k + 1), some y.e)) := by
                          show _ = _
                          rw [← srO_hit HY.out ⟨ht0, hl1, fun h => hb h.2, .inl ha⟩ HNz.out, HL1.out, ← Ht.out]
                          rfl
                        have f3 := HOz.out.frozenAt (k * 4 + 3)
                        have hst := HOz.out.stored (k * 4 + 3) (.bool true)
                        rw [lcells_setT HYa.out, turn_put HY.out] at hst
                        have HF : Hid (SeA w (lvO m0 e (j : Int) ls) (.returned (.tuple #[.slice (some ⟨gl, 0, none⟩) d cl, .int .i64 (k : Int)])) (wr.setCell ⟨gl, k * 4 + 3, none⟩ (.bool true))) := by
                          rw [HV.out]
                          exact ⟨_, d, cl, (k : Int), rfl, own_mono hst.1 (by have := HZ2.out; omega), HG2.out.up (good_grown2 GW hst.2 (fun g hg => by simp at hg; subst hg; exact (HOz.out.lt _ rfl).1)), .inr ⟨k, ⟨y.a, y.b, y.l, true⟩, rfl, rfl, turn_last HY.out _⟩⟩
                        clear hst ha hb hl1 ht0 GW HV
                        go_wp2_with (first | (go_at_call 101; refine hqa.out.mono ?_; rintro x w1 ⟨rfl, hw1⟩; have hw1' := hw1.symm; subst hw1'; clear hqa) | (go_at_call 101; refine hqb.out.mono ?_; rintro x w1 ⟨rfl, hw1⟩; have hw1' := hw1.symm; subst hw1'; clear hqb))
                        exact bodyPost_ret (v := .tuple #[.slice (some ⟨gl, 0, none⟩) d cl, .int .i64 (k : Int)]) (by simp [results, Tryz.results94, go_sem]) rfl HF.out
                    · rw [decide_eq_false ha] at hqa
                      by_cases hb : y.b ∈ t
                      · rw [decide_eq_true hb] at hqb
                        have HV : Hid (lvO m0 e (j : Int) ls = ((L1.take k).map (srL (j : Int) t) ++ ⟨y.a, y.b, y.l, true⟩ :: L1.drop (k + 1), some y.e)) := by
                          show _ = _
                          rw [← srO_hit HY.out ⟨ht0, hl1, fun h => ha h.1, .inr hb⟩ HNz.out, HL1.out, ← Ht.out]
                          rfl
                        have f3 := HOz.out.frozenAt (k * 4 + 3)
                        have hst := HOz.out.stored (k * 4 + 3) (.bool true)
                        rw [lcells_setT HYa.out, turn_put HY.out] at hst
                        have HF : Hid (SeA w (lvO m0 e (j : Int) ls) (.returned (.tuple #[.slice (some ⟨gl, 0, none⟩) d cl, .int .i64 (k : Int)])) (wr.setCell ⟨gl, k * 4 + 3, none⟩ (.bool true))) := by
                          rw [HV.out]
                          exact ⟨_, d, cl, (k : Int), rfl, own_mono hst.1 (by have := HZ2.out; omega), HG2.out.up (good_grown2 GW hst.2 (fun g hg => by simp at hg; subst hg; exact (HOz.out.lt _ rfl).1)), .inr ⟨k, ⟨y.a, y.b, y.l, true⟩, rfl, rfl, turn_last HY.out _⟩⟩
                        clear hst ha hb hl1 ht0 GW HV
                        go_wp2_with (first | (go_at_call 101; refine hqa.out.mono ?_; rintro x w1 ⟨rfl, hw1⟩; have hw1' := hw1.symm; subst hw1'; clear hqa) | (go_at_call 101; refine hqb.out.mono ?_; rintro x w1 ⟨rfl, hw1⟩; have hw1' := hw1.symm; subst hw1'; clear hqb))
                        exact bodyPost_ret (v := .tuple #[.slice (some ⟨gl, 0, none⟩) d cl, .int .i64 (k : Int)]) (by simp [results, Tryz.results94, go_sem]) rfl HF.out
                      · rw [decide_eq_false hb] at hqb
                        have HN := hideIt (turn_skip HY.out (srL_no (i := (j : Int)) (t := t) fun h => ha h.2.2.1))
                        have HN2 := hideIt (nohit_step HY.out HNz.out fun h => by rcases h.2.2.2 with h | h; exact ha h; exact hb h)
                        clear ha hb hl1 ht0 GW
                        go_wp2_with (first | (go_at_call 101; refine hqa.out.mono ?_; rintro x w1 ⟨rfl, hw1⟩; have hw1' := hw1.symm; subst hw1'; clear hqa) | (go_at_call 101; refine hqb.out.mono ?_; rintro x w1 ⟨rfl, hw1⟩; have hw1' := hw1.symm; subst hw1'; clear hqb))
                        exact ⟨⟨k + 1, by omega, by go_num, hideIt (by rw [HN.out]; exact HOz.out), HGy, HN2⟩, by simp [intOf]; omega⟩
                  · have d1 : (y.l != (j : Int)) = true := by simp [hl1]
                    have HN := hideIt (turn_skip HY.out (srL_no (i := (j : Int)) (t := t) fun h => hl1 h.2.1))
                    have HN2 := hideIt (nohit_step HY.out HNz.out fun h => hl1 h.2.1)
                    generalize decide (y.a ∈ t) = va at hqa
                    generalize decide (y.b ∈ t) = vb at hqb
                    clear hl1 ht0 e2 e3 GW
                    go_wp2_with (first | (go_at_call 101; refine hqa.out.mono ?_; rintro x w1 ⟨rfl, hw1⟩; have hw1' := hw1.symm; subst hw1'; clear hqa) | (go_at_call 101; refine hqb.out.mono ?_; rintro x w1 ⟨rfl, hw1⟩; have hw1' := hw1.symm; subst hw1'; clear hqb))
                    exact ⟨⟨k + 1, by omega, by go_num, hideIt (by rw [HN.out]; exact HOz.out), HGy, HN2⟩, by simp [intOf]; omega⟩
              · obtain rfl : k = d := by omega
                have HF : Hid (SeA w (lvO m0 e (j : Int) ls) (.returned (.tuple #[.slice al k cl, .int .i64 (-1)])) wr) := by
                  have h1 := HNz.out
                  rw [List.take_of_length_le (by have := hlen1.out; omega), HL1.out, ← Ht.out] at h1
                  rw [lvO_none h1]
                  have h2 := HOz.out
                  rw [List.take_of_length_le (by have := hlen1.out; omega), List.drop_eq_nil_of_le (by have := hlen1.out; omega), List.append_nil, HL1.out, ← Ht.out] at h2
                  exact ⟨al, k, cl, -1, rfl, own_mono h2 (by have := HZ2.out; omega), HG2.out.up GW, .inl ⟨rfl, rfl⟩⟩
                clear HNz HOz HGy GW
                go_wp2
                exact bodyPost_ret (v := .tuple #[.slice al k cl, .int .i64 (-1)]) (by simp [results, Tryz.results94, go_sem]) rfl HF.out
      · have hup : Hid (upL (j : Int) = (j : Int) + 1) := by show _ = _; unfold upL; rw [if_neg hj]
        go_wp2
        clear hj hlt
        go_loopw [14] (fun q wr => ∃ d : Nat, d ≤ n ∧ q = .int .i64 (d : Int) ∧ Hid (wr.ownsRow W2.heap.size 52 4 (.slice al n cl) n (lcells ((ls.take d).map (rsL (j : Int) t) ++ ls.drop d))) ∧ Hid (w9.grownBy wr (Value.slice al n cl).ownBlock)) (fun q _ => n - (intOf q).toNat)
        case atStart => exact ⟨0, by omega, rfl, hideIt (by simpa using HOl.out), World.grownBy.refl _ _⟩
        case round =>
          obtain ⟨d, hd, rfl, HOz, HGz⟩ := hrel
          clear HOl
          by_cases hlt : d < n
          · obtain ⟨gl, rfl⟩ : ∃ gl, al = some ⟨gl, 0, none⟩ := by
              rcases HOz.out.2 with ⟨_, h0⟩ | ⟨g, cap, cur, hv, _⟩
              · omega
              · simp at hv
                exact ⟨g, hv.1⟩
            obtain ⟨y, hy⟩ : ∃ y, ls[d]? = some y := ⟨ls[d]'(by omega), List.getElem?_eq_getElem (by omega)⟩
            have hya := turn_at (f := rsL (j : Int) t) hy
            have b1 : (0 : Int) ≤ (d : Int) := by omega
            have b2 : (d : Int) < (n : Int) := by omega
            obtain ⟨p0, p1, p2, p3⟩ := lcells_at _ d y hya
            have hl4 : (lcells ((ls.take d).map (rsL (j : Int) t) ++ ls.drop d)).length = n * 4 := HOz.out.1
            have e0 : wr.cell? ⟨gl, d * 4, none⟩ = some (.int .i64 y.a) := by rw [HOz.out.cellAt (d * 4) (by omega)]; exact p0
            have e2 : wr.cell? ⟨gl, d * 4 + 2, none⟩ = some (.int .i64 y.l) := by rw [HOz.out.cellAt (d * 4 + 2) (by omega)]; exact p2
            have e3 : wr.cell? ⟨gl, d * 4 + 3, none⟩ = some (.bool y.t) := by rw [HOz.out.cellAt (d * 4 + 3) (by omega)]; exact p3
            have f2 := HOz.out.frozenAt (d * 4 + 2)
            have hst := HOz.out.stored (d * 4 + 2) (.int .i64 ((j : Int) + 1))
            rw [lcells_setL hya] at hst
            have HSt := hideIt hst
            have hq := hideIt (HIn.out wr y.a HGz.out)
            have HY := hideIt hy
            clear p0 p1 p2 p3 hl4 hst hy hya
            by_cases ht1 : y.t = true
            · rw [ht1] at e3
              by_cases hl1 : y.l = (j : Int)
              · have d1 : (y.l == (j : Int)) = true := by simp [hl1]
                by_cases ha1 : y.a ∈ t
                · have HN := hideIt (turn_step (f := rsL (j : Int) t) HY.out)
                  rw [rsL_yes (i := (j : Int)) (t := t) ⟨ht1, hl1, ha1⟩, hup.out] at HN
                  rw [decide_eq_true ha1] at hq
                  clear ht1 hl1 ha1
                  go_wp2_with (go_at_call 101; refine hq.out.mono ?_; rintro x w1 ⟨rfl, hw1⟩; have hw1' := hw1.symm; subst hw1'; refine Hid.out ?_)
                  refine (show ∀ {p : Prop}, p → Hid p from fun h => h) ?_
                  go_wp2
                  exact ⟨⟨d + 1, by omega, by go_num, hideIt (by rw [← HN.out]; exact HSt.out.1), hideIt (grown_trans HGz.out HSt.out.2)⟩, by simp [intOf]; omega⟩
                · have HN := hideIt (turn_skip HY.out (rsL_no (i := (j : Int)) (t := t) fun h => ha1 h.2.2))
                  rw [decide_eq_false ha1] at hq
                  clear ht1 hl1 ha1
                  go_wp2_with (go_at_call 101; refine hq.out.mono ?_; rintro x w1 ⟨rfl, hw1⟩; have hw1' := hw1.symm; subst hw1'; refine Hid.out ?_)
                  refine (show ∀ {p : Prop}, p → Hid p from fun h => h) ?_
                  go_wp2
                  exact ⟨⟨d + 1, by omega, by go_num, hideIt (by rw [HN.out]; exact HOz.out), HGz⟩, by simp [intOf]; omega⟩
              · have d1 : (y.l == (j : Int)) = false := by simp [hl1]
                have HN := hideIt (turn_skip HY.out (rsL_no (i := (j : Int)) (t := t) fun h => hl1 h.2.1))
                clear ht1 hl1
                go_wp2
                exact ⟨⟨d + 1, by omega, by go_num, hideIt (by rw [HN.out]; exact HOz.out), HGz⟩, by simp [intOf]; omega⟩
            · have HN := hideIt (turn_skip HY.out (rsL_no (i := (j : Int)) (t := t) fun h => ht1 h.1))
              rw [show y.t = false by simpa using ht1] at e3
              clear ht1
              go_wp2
              exact ⟨⟨d + 1, by omega, by go_num, hideIt (by rw [HN.out]; exact HOz.out), HGz⟩, by simp [intOf]; omega⟩
          · obtain rfl : d = n := by omega
            obtain ⟨L1, hL1⟩ : ∃ L1, L1 = ls.map (rsL (j : Int) t) := ⟨_, rfl⟩
            have HO1 : Hid (wr.ownsRow W2.heap.size 52 4 (.slice al d cl) d (lcells L1)) := by
              have h1 := HOz.out
              rw [List.take_of_length_le (by omega), List.drop_eq_nil_of_le (by omega), List.append_nil, ← hL1] at h1
              exact h1
            have HL1 := hideIt hL1
            have hlen1 : Hid (L1.length = d) := by show _ = _; rw [hL1]; simp [hlen]
            clear HOz hL1 hlt
            go_wp2
            go_loopw [15] (fun q wr => ∃ k : Nat, k ≤ d ∧ q = .int .i64 (k : Int) ∧ Hid (wr.ownsRow W2.heap.size 52 4 (.slice al d cl) d (lcells ((L1.take k).map (srL (j : Int) t) ++ L1.drop k))) ∧ Hid (w9.grownBy wr (Value.slice al d cl).ownBlock) ∧ Hid (∀ y ∈ L1.take k, ¬ hitL (j : Int) t y)) (fun q _ => d - (intOf q).toNat)
            case atStart => exact ⟨0, by omega, rfl, hideIt (by simpa using HO1.out), HGz, fun y hy => by simp at hy⟩
            case round =>
              obtain ⟨k, hk, rfl, HOz, HGy, HNz⟩ := hrel
              clear HO1
              have GW : Good W2 wr := good_grown2 HGw.out HGy.out (fun g hg => (HOz.out.lt g hg).1)
              by_cases hlt : k < d
              · obtain ⟨gl, rfl⟩ : ∃ gl, al = some ⟨gl, 0, none⟩ := by
                  rcases HOz.out.2 with ⟨_, h0⟩ | ⟨g, cap, cur, hv, _⟩
                  · omega
                  · simp at hv
                    exact ⟨g, hv.1⟩
                obtain ⟨ba, off, y, rfl, hbl, hy, hat⟩ := (HLs.out wr GW).at hlt
                have hy1 : L1[k]? = some (rsL (j : Int) t y) := by rw [HL1.out, List.getElem?_map, hy]; rfl
                obtain ⟨q1, q2, q3, q4⟩ := rs_t (i := (j : Int)) (t := t) y
                have hya := turn_at (f := srL (j : Int) t) hy1
                have b1 : (0 : Int) ≤ (k : Int) := by omega
                have b2 : (k : Int) < (d : Int) := by omega
                obtain ⟨p0, p1, p2, p3⟩ := lcells_at _ k _ hya
                have hl4 : (lcells ((L1.take k).map (srL (j : Int) t) ++ L1.drop k)).length = d * 4 := HOz.out.1
                have e0 : wr.cell? ⟨gl, k * 4, none⟩ = some (.int .i64 y.a) := by rw [HOz.out.cellAt (k * 4) (by omega), ← q2]; exact p0
                have e1 : wr.cell? ⟨gl, k * 4 + 1, none⟩ = some (.int .i64 y.b) := by rw [HOz.out.cellAt (k * 4 + 1) (by omega), ← q3]; exact p1
                have e2 : wr.cell? ⟨gl, k * 4 + 2, none⟩ = some (.int .i64 (rsL (j : Int) t y).l) := by rw [HOz.out.cellAt (k * 4 + 2) (by omega)]; exact p2
                have e3 : wr.cell? ⟨gl, k * 4 + 3, none⟩ = some (.bool y.t) := by rw [HOz.out.cellAt (k * 4 + 3) (by omega), ← q1]; exact p3
                have o2 := hat.cl
                have o3 := hat.ct
                have cw := (HX.out wr GW).1.cell1
                have hqa := hideIt (HIn.out wr y.a HGy.out)
                have hqb := hideIt (HIn.out wr y.b HGy.out)
                have HY := hideIt hy1
                have HYa := hideIt hya
                clear p0 p1 p2 p3 hl4 hy hya hat hy1 hbl
                by_cases ht1 : y.t = true
                · have ht2 : (rsL (j : Int) t y).t = true := by rw [q1, ht1]
                  have HN := hideIt (turn_skip HY.out (srL_no (i := (j : Int)) (t := t) fun h => by have h1 : (rsL (j : Int) t y).t = false := h.1; rw [ht2] at h1; cases h1))
                  have HN2 := hideIt (nohit_step HY.out HNz.out fun h => by have h1 : (rsL (j : Int) t y).t = false := h.1; rw [ht2] at h1; cases h1)
                  rw [ht1] at o3
                  generalize decide (y.a ∈ t) = va at hqa
                  generalize decide (y.b ∈ t) = vb at hqb
                  clear ht1 ht2 q1 q2 q3 q4 e2 e3 o2 GW
                  go_wp2_with (first | (go_at_call 101; refine hqa.out.mono ?_; rintro x w1 ⟨rfl, hw1⟩; have hw1' := hw1.symm; subst hw1'; clear hqa) | (go_at_call 101; refine hqb.out.mono ?_; rintro x w1 ⟨rfl, hw1⟩; have hw1' := hw1.symm; subst hw1'; clear hqb))
                  exact ⟨⟨k + 1, by omega, by go_num, hideIt (by rw [HN.out]; exact HOz.out), HGy, HN2⟩, by simp [intOf]; omega⟩
                · have ht0 : y.t = false := by simpa using ht1
                  have hrs : rsL (j : Int) t y = y := rsL_no fun h => ht1 h.1
                  rw [hrs] at HY HYa e2
                  rw [ht0] at o3 e3
                  clear q1 q2 q3 q4 hrs ht1
                  by_cases hl1 : y.l = (j : Int)
                  · have d1 : (y.l != (j : Int)) = false := by simp [hl1]
                    by_cases ha : y.a ∈ t
                    · rw [decide_eq_true ha] at hqa
                      by_cases hb : y.b ∈ t
                      · rw [decide_eq_true hb] at hqb
                        have HN2 := hideIt (nohit_step HY.out HNz.out fun h => h.2.2.1 ⟨ha, hb⟩)
                        have HN := hideIt (turn_step (f := srL (j : Int) t) HY.out)
                        rw [srL_yes (i := (j : Int)) (t := t) ⟨ht0, hl1, ha, hb⟩, hup.out] at HN
                        have f2 := HOz.out.frozenAt (k * 4 + 2)
                        have hst := HOz.out.stored (k * 4 + 2) (.int .i64 ((j : Int) + 1))
                        rw [lcells_setL HYa.out] at hst
                        have HSt := hideIt hst
                        clear hst ha hb hl1 ht0 GW
                        go_wp2_with (first | (go_at_call 101; refine hqa.out.mono ?_; rintro x w1 ⟨rfl, hw1⟩; have hw1' := hw1.symm; subst hw1'; clear hqa) | (go_at_call 101; refine hqb.out.mono ?_; rintro x w1 ⟨rfl, hw1⟩; have hw1' := hw1.symm; subst hw1'; clear hqb))
                        exact ⟨⟨k + 1, by omega, by go_num, hideIt (by rw [← HN.out]; exact HSt.out.1), hideIt (grown_trans HGy.out HSt.out.2), HN2⟩, by simp [intOf]; omega⟩
                      · rw [decide_eq_false hb] at hqb
                        have HV : Hid (lvO m0 e (j : Int) ls = ((L1.take k).map (srL (j : Int) t) ++ ⟨y.a, y.b, y.l, true⟩ :: L1.drop (k + 1), some y.e)) := by
                          show _ = _
                          rw [← srO_hit HY.out ⟨ht0, hl1, fun h => hb h.2, .inl ha⟩ HNz.out, HL1.out, ← Ht.out]
                          rfl
                        have f3 := HOz.out.frozenAt (k * 4 + 3)
                        have hst := HOz.out.stored (k * 4 + 3) (.bool true)
                        rw [lcells_setT HYa.out, turn_put HY.out] at hst
                        have HF : Hid (SeA w (lvO m0 e (j : Int) ls) (.returned (.tuple #[.slice (some ⟨gl, 0, none⟩) d cl, .int .i64 (k : Int)])) (wr.setCell ⟨gl, k * 4 + 3, none⟩ (.bool true))) := by
                          rw [HV.out]
                          exact ⟨_, d, cl, (k : Int), rfl, own_mono hst.1 (by have := HZ2.out; omega), HG2.out.up (good_grown2 GW hst.2 (fun g hg => by simp at hg; subst hg; exact (HOz.out.lt _ rfl).1)), .inr ⟨k, ⟨y.a, y.b, y.l, true⟩, rfl, rfl, turn_last HY.out _⟩⟩
                        clear hst ha hb hl1 ht0 GW HV
                        go_wp2_with (first | (go_at_call 101; refine hqa.out.mono ?_; rintro x w1 ⟨rfl, hw1⟩; have hw1' := hw1.symm; subst hw1'; clear hqa) | (go_at_call 101; refine hqb.out.mono ?_; rintro x w1 ⟨rfl, hw1⟩; have hw1' := hw1.symm; subst hw1'; clear hqb))
                        exact bodyPost_ret (v := .tuple #[.slice (some ⟨gl, 0, none⟩) d cl, .int .i64 (k : Int)]) (by simp [results, Tryz.results94, go_sem]) rfl HF.out
                    · rw [decide_eq_false ha] at hqa
                      by_cases hb : y.b ∈ t
                      · rw [decide_eq_true hb] at hqb
                        have HV : Hid (lvO m0 e (j : Int) ls = ((L1.take k).map (srL (j : Int) t) ++ ⟨y.a, y.b, y.l, true⟩ :: L1.drop (k + 1), some y.e)) := by
                          show _ = _
                          rw [← srO_hit HY.out ⟨ht0, hl1, fun h => ha h.1, .inr hb⟩ HNz.out, HL1.out, ← Ht.out]
                          rfl
                        have f3 := HOz.out.frozenAt (k * 4 + 3)
                        have hst := HOz.out.stored (k * 4 + 3) (.bool true)
                        rw [lcells_setT HYa.out, turn_put HY.out] at hst
                        have HF : Hid (SeA w (lvO m0 e (j : Int) ls) (.returned (.tuple #[.slice (some ⟨gl, 0, none⟩) d cl, .int .i64 (k : Int)])) (wr.setCell ⟨gl, k * 4 + 3, none⟩ (.bool true))) := by
                          rw [HV.out]
                          exact ⟨_, d, cl, (k : Int), rfl, own_mono hst.1 (by have := HZ2.out; omega), HG2.out.up (good_grown2 GW hst.2 (fun g hg => by simp at hg; subst hg; exact (HOz.out.lt _ rfl).1)), .inr ⟨k, ⟨y.a, y.b, y.l, true⟩, rfl, rfl, turn_last HY.out _⟩⟩
                        clear hst ha hb hl1 ht0 GW HV
                        go_wp2_with (first | (go_at_call 101; refine hqa.out.mono ?_; rintro x w1 ⟨rfl, hw1⟩; have hw1' := hw1.symm; subst hw1'; clear hqa) | (go_at_call 101; refine hqb.out.mono ?_; rintro x w1 ⟨rfl, hw1⟩; have hw1' := hw1.symm; subst hw1'; clear hqb))
                        exact bodyPost_ret (v := .tuple #[.slice (some ⟨gl, 0, none⟩) d cl, .int .i64 (k : Int)]) (by simp [results, Tryz.results94, go_sem]) rfl HF.out
                      · rw [decide_eq_false hb] at hqb
                        have HN := hideIt (turn_skip HY.out (srL_no (i := (j : Int)) (t := t) fun h => ha h.2.2.1))
                        have HN2 := hideIt (nohit_step HY.out HNz.out fun h => by rcases h.2.2.2 with h | h; exact ha h; exact hb h)
                        clear ha hb hl1 ht0 GW
                        go_wp2_with (first | (go_at_call 101; refine hqa.out.mono ?_; rintro x w1 ⟨rfl, hw1⟩; have hw1' := hw1.symm; subst hw1'; clear hqa) | (go_at_call 101; refine hqb.out.mono ?_; rintro x w1 ⟨rfl, hw1⟩; have hw1' := hw1.symm; subst hw1'; clear hqb))
                        exact ⟨⟨k + 1, by omega, by go_num, hideIt (by rw [HN.out]; exact HOz.out), HGy, HN2⟩, by simp [intOf]; omega⟩
                  · have d1 : (y.l != (j : Int)) = true := by simp [hl1]
                    have HN := hideIt (turn_skip HY.out (srL_no (i := (j : Int)) (t := t) fun h => hl1 h.2.1))
                    have HN2 := hideIt (nohit_step HY.out HNz.out fun h => hl1 h.2.1)
                    generalize decide (y.a ∈ t) = va at hqa
                    generalize decide (y.b ∈ t) = vb at hqb
                    clear hl1 ht0 e2 e3 GW
                    go_wp2_with (first | (go_at_call 101; refine hqa.out.mono ?_; rintro x w1 ⟨rfl, hw1⟩; have hw1' := hw1.symm; subst hw1'; clear hqa) | (go_at_call 101; refine hqb.out.mono ?_; rintro x w1 ⟨rfl, hw1⟩; have hw1' := hw1.symm; subst hw1'; clear hqb))
                    exact ⟨⟨k + 1, by omega, by go_num, hideIt (by rw [HN.out]; exact HOz.out), HGy, HN2⟩, by simp [intOf]; omega⟩
              · obtain rfl : k = d := by omega
                have HF : Hid (SeA w (lvO m0 e (j : Int) ls) (.returned (.tuple #[.slice al k cl, .int .i64 (-1)])) wr) := by
                  have h1 := HNz.out
                  rw [List.take_of_length_le (by have := hlen1.out; omega), HL1.out, ← Ht.out] at h1
                  rw [lvO_none h1]
                  have h2 := HOz.out
                  rw [List.take_of_length_le (by have := hlen1.out; omega), List.drop_eq_nil_of_le (by have := hlen1.out; omega), List.append_nil, HL1.out, ← Ht.out] at h2
                  exact ⟨al, k, cl, -1, rfl, own_mono h2 (by have := HZ2.out; omega), HG2.out.up GW, .inl ⟨rfl, rfl⟩⟩
                clear HNz HOz HGy GW
                go_wp2
                exact bodyPost_ret (v := .tuple #[.slice al k cl, .int .i64 (-1)]) (by simp [results, Tryz.results94, go_sem]) rfl HF.out
    · have Ht : Hid (smT (lvT m0 ls (j : Int)) e = r1.t) := by
        show _ = _
        rw [← HTT.out, HSm.out, if_neg hlt]
      have HIn : Hid (∀ u v, w9.grownBy u (Value.slice al n cl).ownBlock → Calls Tryz.prog 101 #[.slice a7 m7 c7, .int .i64 v] u fun e w' => e = .returned (.bool (decide (v ∈ r1.t))) ∧ w' = u) := fun u v hu => (l05In_any (vsL r1.t) v m7 a7 c7 (by have := HM7.out; omega) u (is_row HI7.out hu HL7.out)).mono fun _ _ ⟨h1, h2⟩ => ⟨by rw [h1]; exact bret (vs_mem_of HTB.out.1), h2⟩
      obtain ⟨t, ht⟩ : ∃ t, t = r1.t := ⟨_, rfl⟩
      rw [← ht] at Ht HIn
      clear HSm HTT HI7 HI9 HM7 HM9 HL7 HL9 HTB ht
      have HOl := hideIt (own_up HOc.out (Good.up HGc5.out HGs.out))
      have HGw := hideIt ((HGc.out.up HGc5.out).up HGs.out)
      clear HGs HOc HGc HGc5

      by_cases hj : 4 < (j : Int) + 1
      · have hup : Hid (upL (j : Int) = 4) := by show _ = _; unfold upL; rw [if_pos hj]
        go_wp2
        clear hj hlt
        go_loopw [14] (fun q wr => ∃ d : Nat, d ≤ n ∧ q = .int .i64 (d : Int) ∧ Hid (wr.ownsRow W2.heap.size 52 4 (.slice al n cl) n (lcells ((ls.take d).map (rsL (j : Int) t) ++ ls.drop d))) ∧ Hid (w9.grownBy wr (Value.slice al n cl).ownBlock)) (fun q _ => n - (intOf q).toNat)
        case atStart => exact ⟨0, by omega, rfl, hideIt (by simpa using HOl.out), World.grownBy.refl _ _⟩
        case round =>
          obtain ⟨d, hd, rfl, HOz, HGz⟩ := hrel
          clear HOl
          by_cases hlt : d < n
          · obtain ⟨gl, rfl⟩ : ∃ gl, al = some ⟨gl, 0, none⟩ := by
              rcases HOz.out.2 with ⟨_, h0⟩ | ⟨g, cap, cur, hv, _⟩
              · omega
              · simp at hv
                exact ⟨g, hv.1⟩
            obtain ⟨y, hy⟩ : ∃ y, ls[d]? = some y := ⟨ls[d]'(by omega), List.getElem?_eq_getElem (by omega)⟩
            have hya := turn_at (f := rsL (j : Int) t) hy
            have b1 : (0 : Int) ≤ (d : Int) := by omega
            have b2 : (d : Int) < (n : Int) := by omega
            obtain ⟨p0, p1, p2, p3⟩ := lcells_at _ d y hya
            have hl4 : (lcells ((ls.take d).map (rsL (j : Int) t) ++ ls.drop d)).length = n * 4 := HOz.out.1
            have e0 : wr.cell? ⟨gl, d * 4, none⟩ = some (.int .i64 y.a) := by rw [HOz.out.cellAt (d * 4) (by omega)]; exact p0
            have e2 : wr.cell? ⟨gl, d * 4 + 2, none⟩ = some (.int .i64 y.l) := by rw [HOz.out.cellAt (d * 4 + 2) (by omega)]; exact p2
            have e3 : wr.cell? ⟨gl, d * 4 + 3, none⟩ = some (.bool y.t) := by rw [HOz.out.cellAt (d * 4 + 3) (by omega)]; exact p3
            have f2 := HOz.out.frozenAt (d * 4 + 2)
            have hst := HOz.out.stored (d * 4 + 2) (.int .i64 (4))
            rw [lcells_setL hya] at hst
            have HSt := hideIt hst
            have hq := hideIt (HIn.out wr y.a HGz.out)
            have HY := hideIt hy
            clear p0 p1 p2 p3 hl4 hst hy hya
            by_cases ht1 : y.t = true
            · rw [ht1] at e3
              by_cases hl1 : y.l = (j : Int)
              · have d1 : (y.l == (j : Int)) = true := by simp [hl1]
                by_cases ha1 : y.a ∈ t
                · have HN := hideIt (turn_step (f := rsL (j : Int) t) HY.out)
                  rw [rsL_yes (i := (j : Int)) (t := t) ⟨ht1, hl1, ha1⟩, hup.out] at HN
                  rw [decide_eq_true ha1] at hq
                  clear ht1 hl1 ha1
                  go_wp2_with (go_at_call 101; refine hq.out.mono ?_; rintro x w1 ⟨rfl, hw1⟩; have hw1' := hw1.symm; subst hw1'; refine Hid.out ?_)
                  refine (show ∀ {p : Prop}, p → Hid p from fun h => h) ?_
                  go_wp2
                  exact ⟨⟨d + 1, by omega, by go_num, hideIt (by rw [← HN.out]; exact HSt.out.1), hideIt (grown_trans HGz.out HSt.out.2)⟩, by simp [intOf]; omega⟩
                · have HN := hideIt (turn_skip HY.out (rsL_no (i := (j : Int)) (t := t) fun h => ha1 h.2.2))
                  rw [decide_eq_false ha1] at hq
                  clear ht1 hl1 ha1
                  go_wp2_with (go_at_call 101; refine hq.out.mono ?_; rintro x w1 ⟨rfl, hw1⟩; have hw1' := hw1.symm; subst hw1'; refine Hid.out ?_)
                  refine (show ∀ {p : Prop}, p → Hid p from fun h => h) ?_
                  go_wp2
                  exact ⟨⟨d + 1, by omega, by go_num, hideIt (by rw [HN.out]; exact HOz.out), HGz⟩, by simp [intOf]; omega⟩
              · have d1 : (y.l == (j : Int)) = false := by simp [hl1]
                have HN := hideIt (turn_skip HY.out (rsL_no (i := (j : Int)) (t := t) fun h => hl1 h.2.1))
                clear ht1 hl1
                go_wp2
                exact ⟨⟨d + 1, by omega, by go_num, hideIt (by rw [HN.out]; exact HOz.out), HGz⟩, by simp [intOf]; omega⟩
            · have HN := hideIt (turn_skip HY.out (rsL_no (i := (j : Int)) (t := t) fun h => ht1 h.1))
              rw [show y.t = false by simpa using ht1] at e3
              clear ht1
              go_wp2
              exact ⟨⟨d + 1, by omega, by go_num, hideIt (by rw [HN.out]; exact HOz.out), HGz⟩, by simp [intOf]; omega⟩
          · obtain rfl : d = n := by omega
            obtain ⟨L1, hL1⟩ : ∃ L1, L1 = ls.map (rsL (j : Int) t) := ⟨_, rfl⟩
            have HO1 : Hid (wr.ownsRow W2.heap.size 52 4 (.slice al d cl) d (lcells L1)) := by
              have h1 := HOz.out
              rw [List.take_of_length_le (by omega), List.drop_eq_nil_of_le (by omega), List.append_nil, ← hL1] at h1
              exact h1
            have HL1 := hideIt hL1
            have hlen1 : Hid (L1.length = d) := by show _ = _; rw [hL1]; simp [hlen]
            clear HOz hL1 hlt
            go_wp2
            go_loopw [15] (fun q wr => ∃ k : Nat, k ≤ d ∧ q = .int .i64 (k : Int) ∧ Hid (wr.ownsRow W2.heap.size 52 4 (.slice al d cl) d (lcells ((L1.take k).map (srL (j : Int) t) ++ L1.drop k))) ∧ Hid (w9.grownBy wr (Value.slice al d cl).ownBlock) ∧ Hid (∀ y ∈ L1.take k, ¬ hitL (j : Int) t y)) (fun q _ => d - (intOf q).toNat)
            case atStart => exact ⟨0, by omega, rfl, hideIt (by simpa using HO1.out), HGz, fun y hy => by simp at hy⟩
            case round =>
              obtain ⟨k, hk, rfl, HOz, HGy, HNz⟩ := hrel
              clear HO1
              have GW : Good W2 wr := good_grown2 HGw.out HGy.out (fun g hg => (HOz.out.lt g hg).1)
              by_cases hlt : k < d
              · obtain ⟨gl, rfl⟩ : ∃ gl, al = some ⟨gl, 0, none⟩ := by
                  rcases HOz.out.2 with ⟨_, h0⟩ | ⟨g, cap, cur, hv, _⟩
                  · omega
                  · simp at hv
                    exact ⟨g, hv.1⟩
                obtain ⟨ba, off, y, rfl, hbl, hy, hat⟩ := (HLs.out wr GW).at hlt
                have hy1 : L1[k]? = some (rsL (j : Int) t y) := by rw [HL1.out, List.getElem?_map, hy]; rfl
                obtain ⟨q1, q2, q3, q4⟩ := rs_t (i := (j : Int)) (t := t) y
                have hya := turn_at (f := srL (j : Int) t) hy1
                have b1 : (0 : Int) ≤ (k : Int) := by omega
                have b2 : (k : Int) < (d : Int) := by omega
                obtain ⟨p0, p1, p2, p3⟩ := lcells_at _ k _ hya
                have hl4 : (lcells ((L1.take k).map (srL (j : Int) t) ++ L1.drop k)).length = d * 4 := HOz.out.1
                have e0 : wr.cell? ⟨gl, k * 4, none⟩ = some (.int .i64 y.a) := by rw [HOz.out.cellAt (k * 4) (by omega), ← q2]; exact p0
                have e1 : wr.cell? ⟨gl, k * 4 + 1, none⟩ = some (.int .i64 y.b) := by rw [HOz.out.cellAt (k * 4 + 1) (by omega), ← q3]; exact p1
                have e2 : wr.cell? ⟨gl, k * 4 + 2, none⟩ = some (.int .i64 (rsL (j : Int) t y).l) := by rw [HOz.out.cellAt (k * 4 + 2) (by omega)]; exact p2
                have e3 : wr.cell? ⟨gl, k * 4 + 3, none⟩ = some (.bool y.t) := by rw [HOz.out.cellAt (k * 4 + 3) (by omega), ← q1]; exact p3
                have o2 := hat.cl
                have o3 := hat.ct
                have cw := (HX.out wr GW).1.cell1
                have hqa := hideIt (HIn.out wr y.a HGy.out)
                have hqb := hideIt (HIn.out wr y.b HGy.out)
                have HY := hideIt hy1
                have HYa := hideIt hya
                clear p0 p1 p2 p3 hl4 hy hya hat hy1 hbl
                by_cases ht1 : y.t = true
                · have ht2 : (rsL (j : Int) t y).t = true := by rw [q1, ht1]
                  have HN := hideIt (turn_skip HY.out (srL_no (i := (j : Int)) (t := t) fun h => by have h1 : (rsL (j : Int) t y).t = false := h.1; rw [ht2] at h1; cases h1))
                  have HN2 := hideIt (nohit_step HY.out HNz.out fun h => by have h1 : (rsL (j : Int) t y).t = false := h.1; rw [ht2] at h1; cases h1)
                  rw [ht1] at o3
                  generalize decide (y.a ∈ t) = va at hqa
                  generalize decide (y.b ∈ t) = vb at hqb
                  clear ht1 ht2 q1 q2 q3 q4 e2 e3 o2 GW
                  go_wp2_with (first | (go_at_call 101; refine hqa.out.mono ?_; rintro x w1 ⟨rfl, hw1⟩; have hw1' := hw1.symm; subst hw1'; clear hqa) | (go_at_call 101; refine hqb.out.mono ?_; rintro x w1 ⟨rfl, hw1⟩; have hw1' := hw1.symm; subst hw1'; clear hqb))
                  exact ⟨⟨k + 1, by omega, by go_num, hideIt (by rw [HN.out]; exact HOz.out), HGy, HN2⟩, by simp [intOf]; omega⟩
                · have ht0 : y.t = false := by simpa using ht1
                  have hrs : rsL (j : Int) t y = y := rsL_no fun h => ht1 h.1
                  rw [hrs] at HY HYa e2
                  rw [ht0] at o3 e3
                  clear q1 q2 q3 q4 hrs ht1
                  by_cases hl1 : y.l = (j : Int)
                  · have d1 : (y.l != (j : Int)) = false := by simp [hl1]
                    by_cases ha : y.a ∈ t
                    · rw [decide_eq_true ha] at hqa
                      by_cases hb : y.b ∈ t
                      · rw [decide_eq_true hb] at hqb
                        have HN2 := hideIt (nohit_step HY.out HNz.out fun h => h.2.2.1 ⟨ha, hb⟩)
                        have HN := hideIt (turn_step (f := srL (j : Int) t) HY.out)
                        rw [srL_yes (i := (j : Int)) (t := t) ⟨ht0, hl1, ha, hb⟩, hup.out] at HN
                        have f2 := HOz.out.frozenAt (k * 4 + 2)
                        have hst := HOz.out.stored (k * 4 + 2) (.int .i64 (4))
                        rw [lcells_setL HYa.out] at hst
                        have HSt := hideIt hst
                        clear hst ha hb hl1 ht0 GW
                        go_wp2_with (first | (go_at_call 101; refine hqa.out.mono ?_; rintro x w1 ⟨rfl, hw1⟩; have hw1' := hw1.symm; subst hw1'; clear hqa) | (go_at_call 101; refine hqb.out.mono ?_; rintro x w1 ⟨rfl, hw1⟩; have hw1' := hw1.symm; subst hw1'; clear hqb))
                        exact ⟨⟨k + 1, by omega, by go_num, hideIt (by rw [← HN.out]; exact HSt.out.1), hideIt (grown_trans HGy.out HSt.out.2), HN2⟩, by simp [intOf]; omega⟩
                      · rw [decide_eq_false hb] at hqb
                        have HV : Hid (lvO m0 e (j : Int) ls = ((L1.take k).map (srL (j : Int) t) ++ ⟨y.a, y.b, y.l, true⟩ :: L1.drop (k + 1), some y.e)) := by
                          show _ = _
                          rw [← srO_hit HY.out ⟨ht0, hl1, fun h => hb h.2, .inl ha⟩ HNz.out, HL1.out, ← Ht.out]
                          rfl
                        have f3 := HOz.out.frozenAt (k * 4 + 3)
                        have hst := HOz.out.stored (k * 4 + 3) (.bool true)
                        rw [lcells_setT HYa.out, turn_put HY.out] at hst
                        have HF : Hid (SeA w (lvO m0 e (j : Int) ls) (.returned (.tuple #[.slice (some ⟨gl, 0, none⟩) d cl, .int .i64 (k : Int)])) (wr.setCell ⟨gl, k * 4 + 3, none⟩ (.bool true))) := by
                          rw [HV.out]
                          exact ⟨_, d, cl, (k : Int), rfl, own_mono hst.1 (by have := HZ2.out; omega), HG2.out.up (good_grown2 GW hst.2 (fun g hg => by simp at hg; subst hg; exact (HOz.out.lt _ rfl).1)), .inr ⟨k, ⟨y.a, y.b, y.l, true⟩, rfl, rfl, turn_last HY.out _⟩⟩
                        clear hst ha hb hl1 ht0 GW HV
                        go_wp2_with (first | (go_at_call 101; refine hqa.out.mono ?_; rintro x w1 ⟨rfl, hw1⟩; have hw1' := hw1.symm; subst hw1'; clear hqa) | (go_at_call 101; refine hqb.out.mono ?_; rintro x w1 ⟨rfl, hw1⟩; have hw1' := hw1.symm; subst hw1'; clear hqb))
                        exact bodyPost_ret (v := .tuple #[.slice (some ⟨gl, 0, none⟩) d cl, .int .i64 (k : Int)]) (by simp [results, Tryz.results94, go_sem]) rfl HF.out
                    · rw [decide_eq_false ha] at hqa
                      by_cases hb : y.b ∈ t
                      · rw [decide_eq_true hb] at hqb
                        have HV : Hid (lvO m0 e (j : Int) ls = ((L1.take k).map (srL (j : Int) t) ++ ⟨y.a, y.b, y.l, true⟩ :: L1.drop (k + 1), some y.e)) := by
                          show _ = _
                          rw [← srO_hit HY.out ⟨ht0, hl1, fun h => ha h.1, .inr hb⟩ HNz.out, HL1.out, ← Ht.out]
                          rfl
                        have f3 := HOz.out.frozenAt (k * 4 + 3)
                        have hst := HOz.out.stored (k * 4 + 3) (.bool true)
                        rw [lcells_setT HYa.out, turn_put HY.out] at hst
                        have HF : Hid (SeA w (lvO m0 e (j : Int) ls) (.returned (.tuple #[.slice (some ⟨gl, 0, none⟩) d cl, .int .i64 (k : Int)])) (wr.setCell ⟨gl, k * 4 + 3, none⟩ (.bool true))) := by
                          rw [HV.out]
                          exact ⟨_, d, cl, (k : Int), rfl, own_mono hst.1 (by have := HZ2.out; omega), HG2.out.up (good_grown2 GW hst.2 (fun g hg => by simp at hg; subst hg; exact (HOz.out.lt _ rfl).1)), .inr ⟨k, ⟨y.a, y.b, y.l, true⟩, rfl, rfl, turn_last HY.out _⟩⟩
                        clear hst ha hb hl1 ht0 GW HV
                        go_wp2_with (first | (go_at_call 101; refine hqa.out.mono ?_; rintro x w1 ⟨rfl, hw1⟩; have hw1' := hw1.symm; subst hw1'; clear hqa) | (go_at_call 101; refine hqb.out.mono ?_; rintro x w1 ⟨rfl, hw1⟩; have hw1' := hw1.symm; subst hw1'; clear hqb))
                        exact bodyPost_ret (v := .tuple #[.slice (some ⟨gl, 0, none⟩) d cl, .int .i64 (k : Int)]) (by simp [results, Tryz.results94, go_sem]) rfl HF.out
                      · rw [decide_eq_false hb] at hqb
                        have HN := hideIt (turn_skip HY.out (srL_no (i := (j : Int)) (t := t) fun h => ha h.2.2.1))
                        have HN2 := hideIt (nohit_step HY.out HNz.out fun h => by rcases h.2.2.2 with h | h; exact ha h; exact hb h)
                        clear ha hb hl1 ht0 GW
                        go_wp2_with (first | (go_at_call 101; refine hqa.out.mono ?_; rintro x w1 ⟨rfl, hw1⟩; have hw1' := hw1.symm; subst hw1'; clear hqa) | (go_at_call 101; refine hqb.out.mono ?_; rintro x w1 ⟨rfl, hw1⟩; have hw1' := hw1.symm; subst hw1'; clear hqb))
                        exact ⟨⟨k + 1, by omega, by go_num, hideIt (by rw [HN.out]; exact HOz.out), HGy, HN2⟩, by simp [intOf]; omega⟩
                  · have d1 : (y.l != (j : Int)) = true := by simp [hl1]
                    have HN := hideIt (turn_skip HY.out (srL_no (i := (j : Int)) (t := t) fun h => hl1 h.2.1))
                    have HN2 := hideIt (nohit_step HY.out HNz.out fun h => hl1 h.2.1)
                    generalize decide (y.a ∈ t) = va at hqa
                    generalize decide (y.b ∈ t) = vb at hqb
                    clear hl1 ht0 e2 e3 GW
                    go_wp2_with (first | (go_at_call 101; refine hqa.out.mono ?_; rintro x w1 ⟨rfl, hw1⟩; have hw1' := hw1.symm; subst hw1'; clear hqa) | (go_at_call 101; refine hqb.out.mono ?_; rintro x w1 ⟨rfl, hw1⟩; have hw1' := hw1.symm; subst hw1'; clear hqb))
                    exact ⟨⟨k + 1, by omega, by go_num, hideIt (by rw [HN.out]; exact HOz.out), HGy, HN2⟩, by simp [intOf]; omega⟩
              · obtain rfl : k = d := by omega
                have HF : Hid (SeA w (lvO m0 e (j : Int) ls) (.returned (.tuple #[.slice al k cl, .int .i64 (-1)])) wr) := by
                  have h1 := HNz.out
                  rw [List.take_of_length_le (by have := hlen1.out; omega), HL1.out, ← Ht.out] at h1
                  rw [lvO_none h1]
                  have h2 := HOz.out
                  rw [List.take_of_length_le (by have := hlen1.out; omega), List.drop_eq_nil_of_le (by have := hlen1.out; omega), List.append_nil, HL1.out, ← Ht.out] at h2
                  exact ⟨al, k, cl, -1, rfl, own_mono h2 (by have := HZ2.out; omega), HG2.out.up GW, .inl ⟨rfl, rfl⟩⟩
                clear HNz HOz HGy GW
                go_wp2
                exact bodyPost_ret (v := .tuple #[.slice al k cl, .int .i64 (-1)]) (by simp [results, Tryz.results94, go_sem]) rfl HF.out
      · have hup : Hid (upL (j : Int) = (j : Int) + 1) := by show _ = _; unfold upL; rw [if_neg hj]
        go_wp2
        clear hj hlt
        go_loopw [14] (fun q wr => ∃ d : Nat, d ≤ n ∧ q = .int .i64 (d : Int) ∧ Hid (wr.ownsRow W2.heap.size 52 4 (.slice al n cl) n (lcells ((ls.take d).map (rsL (j : Int) t) ++ ls.drop d))) ∧ Hid (w9.grownBy wr (Value.slice al n cl).ownBlock)) (fun q _ => n - (intOf q).toNat)
        case atStart => exact ⟨0, by omega, rfl, hideIt (by simpa using HOl.out), World.grownBy.refl _ _⟩
        case round =>
          obtain ⟨d, hd, rfl, HOz, HGz⟩ := hrel
          clear HOl
          by_cases hlt : d < n
          · obtain ⟨gl, rfl⟩ : ∃ gl, al = some ⟨gl, 0, none⟩ := by
              rcases HOz.out.2 with ⟨_, h0⟩ | ⟨g, cap, cur, hv, _⟩
              · omega
              · simp at hv
                exact ⟨g, hv.1⟩
            obtain ⟨y, hy⟩ : ∃ y, ls[d]? = some y := ⟨ls[d]'(by omega), List.getElem?_eq_getElem (by omega)⟩
            have hya := turn_at (f := rsL (j : Int) t) hy
            have b1 : (0 : Int) ≤ (d : Int) := by omega
            have b2 : (d : Int) < (n : Int) := by omega
            obtain ⟨p0, p1, p2, p3⟩ := lcells_at _ d y hya
            have hl4 : (lcells ((ls.take d).map (rsL (j : Int) t) ++ ls.drop d)).length = n * 4 := HOz.out.1
            have e0 : wr.cell? ⟨gl, d * 4, none⟩ = some (.int .i64 y.a) := by rw [HOz.out.cellAt (d * 4) (by omega)]; exact p0
            have e2 : wr.cell? ⟨gl, d * 4 + 2, none⟩ = some (.int .i64 y.l) := by rw [HOz.out.cellAt (d * 4 + 2) (by omega)]; exact p2
            have e3 : wr.cell? ⟨gl, d * 4 + 3, none⟩ = some (.bool y.t) := by rw [HOz.out.cellAt (d * 4 + 3) (by omega)]; exact p3
            have f2 := HOz.out.frozenAt (d * 4 + 2)
            have hst := HOz.out.stored (d * 4 + 2) (.int .i64 ((j : Int) + 1))
            rw [lcells_setL hya] at hst
            have HSt := hideIt hst
            have hq := hideIt (HIn.out wr y.a HGz.out)
            have HY := hideIt hy
            clear p0 p1 p2 p3 hl4 hst hy hya
            by_cases ht1 : y.t = true
            · rw [ht1] at e3
              by_cases hl1 : y.l = (j : Int)
              · have d1 : (y.l == (j : Int)) = true := by simp [hl1]
                by_cases ha1 : y.a ∈ t
                · have HN := hideIt (turn_step (f := rsL (j : Int) t) HY.out)
                  rw [rsL_yes (i := (j : Int)) (t := t) ⟨ht1, hl1, ha1⟩, hup.out] at HN
                  rw [decide_eq_true ha1] at hq
                  clear ht1 hl1 ha1
                  go_wp2_with (go_at_call 101; refine hq.out.mono ?_; rintro x w1 ⟨rfl, hw1⟩; have hw1' := hw1.symm; subst hw1'; refine Hid.out ?_)
                  refine (show ∀ {p : Prop}, p → Hid p from fun h => h) ?_
                  go_wp2
                  exact ⟨⟨d + 1, by omega, by go_num, hideIt (by rw [← HN.out]; exact HSt.out.1), hideIt (grown_trans HGz.out HSt.out.2)⟩, by simp [intOf]; omega⟩
                · have HN := hideIt (turn_skip HY.out (rsL_no (i := (j : Int)) (t := t) fun h => ha1 h.2.2))
                  rw [decide_eq_false ha1] at hq
                  clear ht1 hl1 ha1
                  go_wp2_with (go_at_call 101; refine hq.out.mono ?_; rintro x w1 ⟨rfl, hw1⟩; have hw1' := hw1.symm; subst hw1'; refine Hid.out ?_)
                  refine (show ∀ {p : Prop}, p → Hid p from fun h => h) ?_
                  go_wp2
                  exact ⟨⟨d + 1, by omega, by go_num, hideIt (by rw [HN.out]; exact HOz.out), HGz⟩, by simp [intOf]; omega⟩
              · have d1 : (y.l == (j : Int)) = false := by simp [hl1]
                have HN := hideIt (turn_skip HY.out (rsL_no (i := (j : Int)) (t := t) fun h => hl1 h.2.1))
                clear ht1 hl1
                go_wp2
                exact ⟨⟨d + 1, by omega, by go_num, hideIt (by rw [HN.out]; exact HOz.out), HGz⟩, by simp [intOf]; omega⟩
            · have HN := hideIt (turn_skip HY.out (rsL_no (i := (j : Int)) (t := t) fun h => ht1 h.1))
              rw [show y.t = false by simpa using ht1] at e3
              clear ht1
              go_wp2
              exact ⟨⟨d + 1, by omega, by go_num, hideIt (by rw [HN.out]; exact HOz.out), HGz⟩, by simp [intOf]; omega⟩
          · obtain rfl : d = n := by omega
            obtain ⟨L1, hL1⟩ : ∃ L1, L1 = ls.map (rsL (j : Int) t) := ⟨_, rfl⟩
            have HO1 : Hid (wr.ownsRow W2.heap.size 52 4 (.slice al d cl) d (lcells L1)) := by
              have h1 := HOz.out
              rw [List.take_of_length_le (by omega), List.drop_eq_nil_of_le (by omega), List.append_nil, ← hL1] at h1
              exact h1
            have HL1 := hideIt hL1
            have hlen1 : Hid (L1.length = d) := by show _ = _; rw [hL1]; simp [hlen]
            clear HOz hL1 hlt
            go_wp2
            go_loopw [15] (fun q wr => ∃ k : Nat, k ≤ d ∧ q = .int .i64 (k : Int) ∧ Hid (wr.ownsRow W2.heap.size 52 4 (.slice al d cl) d (lcells ((L1.take k).map (srL (j : Int) t) ++ L1.drop k))) ∧ Hid (w9.grownBy wr (Value.slice al d cl).ownBlock) ∧ Hid (∀ y ∈ L1.take k, ¬ hitL (j : Int) t y)) (fun q _ => d - (intOf q).toNat)
            case atStart => exact ⟨0, by omega, rfl, hideIt (by simpa using HO1.out), HGz, fun y hy => by simp at hy⟩
            case round =>
              obtain ⟨k, hk, rfl, HOz, HGy, HNz⟩ := hrel
              clear HO1
              have GW : Good W2 wr := good_grown2 HGw.out HGy.out (fun g hg => (HOz.out.lt g hg).1)
              by_cases hlt : k < d
              · obtain ⟨gl, rfl⟩ : ∃ gl, al = some ⟨gl, 0, none⟩ := by
                  rcases HOz.out.2 with ⟨_, h0⟩ | ⟨g, cap, cur, hv, _⟩
                  · omega
                  · simp at hv
                    exact ⟨g, hv.1⟩
                obtain ⟨ba, off, y, rfl, hbl, hy, hat⟩ := (HLs.out wr GW).at hlt
                have hy1 : L1[k]? = some (rsL (j : Int) t y) := by rw [HL1.out, List.getElem?_map, hy]; rfl
                obtain ⟨q1, q2, q3, q4⟩ := rs_t (i := (j : Int)) (t := t) y
                have hya := turn_at (f := srL (j : Int) t) hy1
                have b1 : (0 : Int) ≤ (k : Int) := by omega
                have b2 : (k : Int) < (d : Int) := by omega
                obtain ⟨p0, p1, p2, p3⟩ := lcells_at _ k _ hya
                have hl4 : (lcells ((L1.take k).map (srL (j : Int) t) ++ L1.drop k)).length = d * 4 := HOz.out.1
                have e0 : wr.cell? ⟨gl, k * 4, none⟩ = some (.int .i64 y.a) := by rw [HOz.out.cellAt (k * 4) (by omega), ← q2]; exact p0
                have e1 : wr.cell? ⟨gl, k * 4 + 1, none⟩ = some (.int .i64 y.b) := by rw [HOz.out.cellAt (k * 4 + 1) (by omega), ← q3]; exact p1
                have e2 : wr.cell? ⟨gl, k * 4 + 2, none⟩ = some (.int .i64 (rsL (j : Int) t y).l) := by rw [HOz.out.cellAt (k * 4 + 2) (by omega)]; exact p2
                have e3 : wr.cell? ⟨gl, k * 4 + 3, none⟩ = some (.bool y.t) := by rw [HOz.out.cellAt (k * 4 + 3) (by omega), ← q1]; exact p3
                have o2 := hat.cl
                have o3 := hat.ct
                have cw := (HX.out wr GW).1.cell1
                have hqa := hideIt (HIn.out wr y.a HGy.out)
                have hqb := hideIt (HIn.out wr y.b HGy.out)
                have HY := hideIt hy1
                have HYa := hideIt hya
                clear p0 p1 p2 p3 hl4 hy hya hat hy1 hbl
                by_cases ht1 : y.t = true
                · have ht2 : (rsL (j : Int) t y).t = true := by rw [q1, ht1]
                  have HN := hideIt (turn_skip HY.out (srL_no (i := (j : Int)) (t := t) fun h => by have h1 : (rsL (j : Int) t y).t = false := h.1; rw [ht2] at h1; cases h1))
                  have HN2 := hideIt (nohit_step HY.out HNz.out fun h => by have h1 : (rsL (j : Int) t y).t = false := h.1; rw [ht2] at h1; cases h1)
                  rw [ht1] at o3
                  generalize decide (y.a ∈ t) = va at hqa
                  generalize decide (y.b ∈ t) = vb at hqb
                  clear ht1 ht2 q1 q2 q3 q4 e2 e3 o2 GW
                  go_wp2_with (first | (go_at_call 101; refine hqa.out.mono ?_; rintro x w1 ⟨rfl, hw1⟩; have hw1' := hw1.symm; subst hw1'; clear hqa) | (go_at_call 101; refine hqb.out.mono ?_; rintro x w1 ⟨rfl, hw1⟩; have hw1' := hw1.symm; subst hw1'; clear hqb))
                  exact ⟨⟨k + 1, by omega, by go_num, hideIt (by rw [HN.out]; exact HOz.out), HGy, HN2⟩, by simp [intOf]; omega⟩
                · have ht0 : y.t = false := by simpa using ht1
                  have hrs : rsL (j : Int) t y = y := rsL_no fun h => ht1 h.1
                  rw [hrs] at HY HYa e2
                  rw [ht0] at o3 e3
                  clear q1 q2 q3 q4 hrs ht1
                  by_cases hl1 : y.l = (j : Int)
                  · have d1 : (y.l != (j : Int)) = false := by simp [hl1]
                    by_cases ha : y.a ∈ t
                    · rw [decide_eq_true ha] at hqa
                      by_cases hb : y.b ∈ t
                      · rw [decide_eq_true hb] at hqb
                        have HN2 := hideIt (nohit_step HY.out HNz.out fun h => h.2.2.1 ⟨ha, hb⟩)
                        have HN := hideIt (turn_step (f := srL (j : Int) t) HY.out)
                        rw [srL_yes (i := (j : Int)) (t := t) ⟨ht0, hl1, ha, hb⟩, hup.out] at HN
                        have f2 := HOz.out.frozenAt (k * 4 + 2)
                        have hst := HOz.out.stored (k * 4 + 2) (.int .i64 ((j : Int) + 1))
                        rw [lcells_setL HYa.out] at hst
                        have HSt := hideIt hst
                        clear hst ha hb hl1 ht0 GW
                        go_wp2_with (first | (go_at_call 101; refine hqa.out.mono ?_; rintro x w1 ⟨rfl, hw1⟩; have hw1' := hw1.symm; subst hw1'; clear hqa) | (go_at_call 101; refine hqb.out.mono ?_; rintro x w1 ⟨rfl, hw1⟩; have hw1' := hw1.symm; subst hw1'; clear hqb))
                        exact ⟨⟨k + 1, by omega, by go_num, hideIt (by rw [← HN.out]; exact HSt.out.1), hideIt (grown_trans HGy.out HSt.out.2), HN2⟩, by simp [intOf]; omega⟩
                      · rw [decide_eq_false hb] at hqb
                        have HV : Hid (lvO m0 e (j : Int) ls = ((L1.take k).map (srL (j : Int) t) ++ ⟨y.a, y.b, y.l, true⟩ :: L1.drop (k + 1), some y.e)) := by
                          show _ = _
                          rw [← srO_hit HY.out ⟨ht0, hl1, fun h => hb h.2, .inl ha⟩ HNz.out, HL1.out, ← Ht.out]
                          rfl
                        have f3 := HOz.out.frozenAt (k * 4 + 3)
                        have hst := HOz.out.stored (k * 4 + 3) (.bool true)
                        rw [lcells_setT HYa.out, turn_put HY.out] at hst
                        have HF : Hid (SeA w (lvO m0 e (j : Int) ls) (.returned (.tuple #[.slice (some ⟨gl, 0, none⟩) d cl, .int .i64 (k : Int)])) (wr.setCell ⟨gl, k * 4 + 3, none⟩ (.bool true))) := by
                          rw [HV.out]
                          exact ⟨_, d, cl, (k : Int), rfl, own_mono hst.1 (by have := HZ2.out; omega), HG2.out.up (good_grown2 GW hst.2 (fun g hg => by simp at hg; subst hg; exact (HOz.out.lt _ rfl).1)), .inr ⟨k, ⟨y.a, y.b, y.l, true⟩, rfl, rfl, turn_last HY.out _⟩⟩
                        clear hst ha hb hl1 ht0 GW HV
                        go_wp2_with (first | (go_at_call 101; refine hqa.out.mono ?_; rintro x w1 ⟨rfl, hw1⟩; have hw1' := hw1.symm; subst hw1'; clear hqa) | (go_at_call 101; refine hqb.out.mono ?_; rintro x w1 ⟨rfl, hw1⟩; have hw1' := hw1.symm; subst hw1'; clear hqb))
                        exact bodyPost_ret (v := .tuple #[.slice (some ⟨gl, 0, none⟩) d cl, .int .i64 (k : Int)]) (by simp [results, Tryz.results94, go_sem]) rfl HF.out
                    · rw [decide_eq_false ha] at hqa
                      by_cases hb : y.b ∈ t
                      · rw [decide_eq_true hb] at hqb
                        have HV : Hid (lvO m0 e (j : Int) ls = ((L1.take k).map (srL (j : Int) t) ++ ⟨y.a, y.b, y.l, true⟩ :: L1.drop (k + 1), some y.e)) := by
                          show _ = _
                          rw [← srO_hit HY.out ⟨ht0, hl1, fun h => ha h.1, .inr hb⟩ HNz.out, HL1.out, ← Ht.out]
                          rfl
                        have f3 := HOz.out.frozenAt (k * 4 + 3)
                        have hst := HOz.out.stored (k * 4 + 3) (.bool true)
                        rw [lcells_setT HYa.out, turn_put HY.out] at hst
                        have HF : Hid (SeA w (lvO m0 e (j : Int) ls) (.returned (.tuple #[.slice (some ⟨gl, 0, none⟩) d cl, .int .i64 (k : Int)])) (wr.setCell ⟨gl, k * 4 + 3, none⟩ (.bool true))) := by
                          rw [HV.out]
                          exact ⟨_, d, cl, (k : Int), rfl, own_mono hst.1 (by have := HZ2.out; omega), HG2.out.up (good_grown2 GW hst.2 (fun g hg => by simp at hg; subst hg; exact (HOz.out.lt _ rfl).1)), .inr ⟨k, ⟨y.a, y.b, y.l, true⟩, rfl, rfl, turn_last HY.out _⟩⟩
                        clear hst ha hb hl1 ht0 GW HV
                        go_wp2_with (first | (go_at_call 101; refine hqa.out.mono ?_; rintro x w1 ⟨rfl, hw1⟩; have hw1' := hw1.symm; subst hw1'; clear hqa) | (go_at_call 101; refine hqb.out.mono ?_; rintro x w1 ⟨rfl, hw1⟩; have hw1' := hw1.symm; subst hw1'; clear hqb))
                        exact bodyPost_ret (v := .tuple #[.slice (some ⟨gl, 0, none⟩) d cl, .int .i64 (k : Int)]) (by simp [results, Tryz.results94, go_sem]) rfl HF.out
                      · rw [decide_eq_false hb] at hqb
                        have HN := hideIt (turn_skip HY.out (srL_no (i := (j : Int)) (t := t) fun h => ha h.2.2.1))
                        have HN2 := hideIt (nohit_step HY.out HNz.out fun h => by rcases h.2.2.2 with h | h; exact ha h; exact hb h)
                        clear ha hb hl1 ht0 GW
                        go_wp2_with (first | (go_at_call 101; refine hqa.out.mono ?_; rintro x w1 ⟨rfl, hw1⟩; have hw1' := hw1.symm; subst hw1'; clear hqa) | (go_at_call 101; refine hqb.out.mono ?_; rintro x w1 ⟨rfl, hw1⟩; have hw1' := hw1.symm; subst hw1'; clear hqb))
                        exact ⟨⟨k + 1, by omega, by go_num, hideIt (by rw [HN.out]; exact HOz.out), HGy, HN2⟩, by simp [intOf]; omega⟩
                  · have d1 : (y.l != (j : Int)) = true := by simp [hl1]
                    have HN := hideIt (turn_skip HY.out (srL_no (i := (j : Int)) (t := t) fun h => hl1 h.2.1))
                    have HN2 := hideIt (nohit_step HY.out HNz.out fun h => hl1 h.2.1)
                    generalize decide (y.a ∈ t) = va at hqa
                    generalize decide (y.b ∈ t) = vb at hqb
                    clear hl1 ht0 e2 e3 GW
                    go_wp2_with (first | (go_at_call 101; refine hqa.out.mono ?_; rintro x w1 ⟨rfl, hw1⟩; have hw1' := hw1.symm; subst hw1'; clear hqa) | (go_at_call 101; refine hqb.out.mono ?_; rintro x w1 ⟨rfl, hw1⟩; have hw1' := hw1.symm; subst hw1'; clear hqb))
                    exact ⟨⟨k + 1, by omega, by go_num, hideIt (by rw [HN.out]; exact HOz.out), HGy, HN2⟩, by simp [intOf]; omega⟩
              · obtain rfl : k = d := by omega
                have HF : Hid (SeA w (lvO m0 e (j : Int) ls) (.returned (.tuple #[.slice al k cl, .int .i64 (-1)])) wr) := by
                  have h1 := HNz.out
                  rw [List.take_of_length_le (by have := hlen1.out; omega), HL1.out, ← Ht.out] at h1
                  rw [lvO_none h1]
                  have h2 := HOz.out
                  rw [List.take_of_length_le (by have := hlen1.out; omega), List.drop_eq_nil_of_le (by have := hlen1.out; omega), List.append_nil, HL1.out, ← Ht.out] at h2
                  exact ⟨al, k, cl, -1, rfl, own_mono h2 (by have := HZ2.out; omega), HG2.out.up GW, .inl ⟨rfl, rfl⟩⟩
                clear HNz HOz HGy GW
                go_wp2
                exact bodyPost_ret (v := .tuple #[.slice al k cl, .int .i64 (-1)]) (by simp [results, Tryz.results94, go_sem]) rfl HF.out
end Go.Proofs.YtgjnlhdgekfieaaGreat
namespace Go.Proofs.YtgjnlhdgekfieaaGreat
open Go.RowKit

set_option maxRecDepth 100000 in
set_option maxHeartbeats 2000000 in
theorem l05Edges_any (N : Int) (es : List EdgeV) (n : Nat) (a : Option Addr) (c : Nat) (hn : n ≤ 1048576) (w : World) (h : Es w w.heap.size a n es) :
    Calls Tryz.prog 147 #[.int .i64 N, .slice a n c] w fun e w' => e = .returned (.bool (chk N es && decide (es.length ≤ 66))) ∧ Below w.heap.size w w' := by
  obtain ⟨hlen, hrow⟩ := h
  have HR := hideIt hrow
  have HL := hideIt hlen
  clear hrow
  go_enter Tryz.func147, Tryz.ntmps147
  go_wp2
  go_loopw [5] (fun i wr => ∃ k : Nat, k ≤ n ∧ i = .int .i64 (k : Int) ∧ Hid (∀ j, j < k → chkAt N es j = true) ∧ Below w.heap.size w wr) (fun i _ => n - (intOf i).toNat)
  case atStart => exact ⟨0, by omega, rfl, fun j hj => by omega, Below.refl _ _⟩
  case round =>
    obtain ⟨k, hk, rfl, hck, hb⟩ := hrel
    by_cases hlt : k < n
    · rcases HR.out with hz | ⟨b, off, rfl, hbl, hc⟩
      · omega
      · obtain ⟨f, hf⟩ : ∃ f, es[k]? = some f := ⟨es[k]'(by omega), List.getElem?_eq_getElem (by omega)⟩
        obtain ⟨c0, c1⟩ := hc k f hf
        have e0 : wr.cell? ⟨b, off + k * 2, none⟩ = some (.int .i64 f.1) := by rw [hb.cell hbl]; exact c0
        have e1 : wr.cell? ⟨b, off + k * 2 + 1, none⟩ = some (.int .i64 f.2) := by rw [hb.cell hbl]; exact c1
        have b1 : (0 : Int) ≤ (k : Int) := by omega
        have b2 : (k : Int) < (n : Int) := by omega
        have hbd := hb.drew
        have HE : Hid (∀ W : World, Below w.heap.size w W → Calls Tryz.prog 84 #[.int .i64 N, .agg #[.int .i64 f.1, .int .i64 f.2]] W fun e w' => e = .returned (.bool (eB N f)) ∧ Below w.heap.size w w') := fun W hW =>
          (sEdgeOk_any N f W).mono fun _ _ ⟨he, hb'⟩ => ⟨he, hW.trans (hb'.mono hW.size)⟩
        have HK : Hid (∀ W : World, Below w.heap.size w W → (W.cell? ⟨b, off + k * 2, none⟩ = some (.int .i64 f.1) ∧ W.cell? ⟨b, off + k * 2 + 1, none⟩ = some (.int .i64 f.2))) := fun W hW =>
          ⟨by rw [hW.cell hbl]; exact c0, by rw [hW.cell hbl]; exact c1⟩
        cases hE : eB N f with
        | false =>
          rw [hE] at HE
          have HN := hideIt (chk_no (by omega : k < es.length) (chkAt_no hf hE))
          clear hf hc c0 c1 hE hck
          go_wp2
          refine wp_region_any (by kernel_rfl) ?_
          change wpAny _ _ _ _ _ _ _ (World.drew _)
          refine takeOp (i := 0) (v := ?_) rfl (by kernel_rfl) (by kernel_rfl) (by kernel_rfl) (fun _ _ _ h => h) (by kernel_rfl) ?_ ?_
          rotate_left
          · intro w; go_simp; try with_reducible rfl
          refine takeOp (i := 1) (v := ?_) rfl (by kernel_rfl) (by kernel_rfl) (by kernel_rfl) (fun _ _ _ h => h) (by kernel_rfl) ?_ ?_
          rotate_left
          · intro w; go_simp; try with_reducible rfl
          refine takeOp (i := 2) (v := ?_) rfl (by kernel_rfl) (by kernel_rfl) (by kernel_rfl) (fun _ _ _ h => h) (by kernel_rfl) ?_ ?_
          rotate_left
          · intro w; go_simp; try with_reducible rfl
          refine wpAny_ready (rs := [3]) (by kernel_rfl) (by simp) ?_
          refine AllReady.cons rfl (fun K hK => ?_) AllReady.nil
          go_simp
          refine hK _ _ ?_
          clear hK K
          refine wpAny_ready (rs := [4]) (by kernel_rfl) (by simp) ?_
          refine AllReady.cons rfl (fun K hK => ?_) AllReady.nil
          go_simp
          refine hK _ _ ?_
          clear hK K
          refine wpAny_ready (rs := [5]) (by kernel_rfl) (by simp) ?_
          refine AllReady.cons rfl (fun K hK => ?_) AllReady.nil
          go_wp2_with (go_at_call 84; refine (HE.out _ hbd).mono ?_; rintro e w1 ⟨rfl, hb3⟩; refine Hid.out ?_)
          refine (show ∀ {p : Prop}, p → Hid p from fun h => h) ?_
          try refine hK _ _ ?_
          clear hK K
          refine wpAny_ready (rs := [6]) (by kernel_rfl) (by simp) ?_
          refine AllReady.cons rfl (fun K hK => ?_) AllReady.nil
          go_simp
          refine hK _ _ ?_
          clear hK K
          refine wpAny_ready (rs := [7]) (by kernel_rfl) (by simp) ?_
          refine AllReady.cons rfl (fun K hK => ?_) AllReady.nil
          go_simp
          refine hK _ _ ?_
          clear hK K
          refine skipOp (i := 8) rfl (by kernel_rfl) (by kernel_rfl) (by kernel_rfl) (fun _ _ _ h => h) (by kernel_rfl) ?_
          refine skipOp (i := 9) rfl (by kernel_rfl) (by kernel_rfl) (by kernel_rfl) (fun _ _ _ h => h) (by kernel_rfl) ?_
          refine skipOp (i := 10) rfl (by kernel_rfl) (by kernel_rfl) (by kernel_rfl) (fun _ _ _ h => h) (by kernel_rfl) ?_
          refine skipOp (i := 11) rfl (by kernel_rfl) (by kernel_rfl) (by kernel_rfl) (fun _ _ _ h => h) (by kernel_rfl) ?_
          refine skipOp (i := 12) rfl (by kernel_rfl) (by kernel_rfl) (by kernel_rfl) (fun _ _ _ h => h) (by kernel_rfl) ?_
          refine skipOp (i := 13) rfl (by kernel_rfl) (by kernel_rfl) (by kernel_rfl) (fun _ _ _ h => h) (by kernel_rfl) ?_
          refine skipOp (i := 14) rfl (by kernel_rfl) (by kernel_rfl) (by kernel_rfl) (fun _ _ _ h => h) (by kernel_rfl) ?_
          refine skipOp (i := 15) rfl (by kernel_rfl) (by kernel_rfl) (by kernel_rfl) (fun _ _ _ h => h) (by kernel_rfl) ?_
          refine skipOp (i := 16) rfl (by kernel_rfl) (by kernel_rfl) (by kernel_rfl) (fun _ _ _ h => h) (by kernel_rfl) ?_
          refine skipOp (i := 17) rfl (by kernel_rfl) (by kernel_rfl) (by kernel_rfl) (fun _ _ _ h => h) (by kernel_rfl) ?_
          refine skipOp (i := 18) rfl (by kernel_rfl) (by kernel_rfl) (by kernel_rfl) (fun _ _ _ h => h) (by kernel_rfl) ?_
          refine skipOp (i := 19) rfl (by kernel_rfl) (by kernel_rfl) (by kernel_rfl) (fun _ _ _ h => h) (by kernel_rfl) ?_
          refine skipOp (i := 20) rfl (by kernel_rfl) (by kernel_rfl) (by kernel_rfl) (fun _ _ _ h => h) (by kernel_rfl) ?_
          refine skipOp (i := 21) rfl (by kernel_rfl) (by kernel_rfl) (by kernel_rfl) (fun _ _ _ h => h) (by kernel_rfl) ?_
          refine skipOp (i := 22) rfl (by kernel_rfl) (by kernel_rfl) (by kernel_rfl) (fun _ _ _ h => h) (by kernel_rfl) ?_
          refine wpAny_ready (rs := [23]) (by kernel_rfl) (by simp) ?_
          refine AllReady.cons rfl (fun K hK => ?_) AllReady.nil
          go_simp
          refine hK _ _ ?_
          clear hK K
          refine wpAny_done (by kernel_rfl) ?_ _
          go_wp2
          go_ret
          exact ⟨by rw [HN.out]; rfl, hb3⟩
        | true =>
          rw [hE] at HE
          rcases k with _ | i
          · have HY := hideIt (show chkAt N es 0 = true by rw [chkAt_zero hf]; exact hE)
            clear hf hc c0 c1 hE
            rw [Nat.zero_mul, Nat.add_zero] at e0 e1
            go_wp2
            refine wp_region_any (by kernel_rfl) ?_
            change wpAny _ _ _ _ _ _ _ (World.drew _)
            refine takeOp (i := 0) (v := ?_) rfl (by kernel_rfl) (by kernel_rfl) (by kernel_rfl) (fun _ _ _ h => h) (by kernel_rfl) ?_ ?_
            rotate_left
            · intro w; go_simp; try with_reducible rfl
            refine takeOp (i := 1) (v := ?_) rfl (by kernel_rfl) (by kernel_rfl) (by kernel_rfl) (fun _ _ _ h => h) (by kernel_rfl) ?_ ?_
            rotate_left
            · intro w; go_simp; try with_reducible rfl
            refine takeOp (i := 2) (v := ?_) rfl (by kernel_rfl) (by kernel_rfl) (by kernel_rfl) (fun _ _ _ h => h) (by kernel_rfl) ?_ ?_
            rotate_left
            · intro w; go_simp; try with_reducible rfl
            refine wpAny_ready (rs := [3]) (by kernel_rfl) (by simp) ?_
            refine AllReady.cons rfl (fun K hK => ?_) AllReady.nil
            go_simp
            refine hK _ _ ?_
            clear hK K
            refine wpAny_ready (rs := [4]) (by kernel_rfl) (by simp) ?_
            refine AllReady.cons rfl (fun K hK => ?_) AllReady.nil
            go_simp
            refine hK _ _ ?_
            clear hK K
            refine wpAny_ready (rs := [5]) (by kernel_rfl) (by simp) ?_
            refine AllReady.cons rfl (fun K hK => ?_) AllReady.nil
            go_wp2_with (go_at_call 84; refine (HE.out _ hbd).mono ?_; rintro e w1 ⟨rfl, hb3⟩; refine Hid.out ?_)
            refine (show ∀ {p : Prop}, p → Hid p from fun h => h) ?_
            try refine hK _ _ ?_
            clear hK K
            refine wpAny_ready (rs := [6]) (by kernel_rfl) (by simp) ?_
            refine AllReady.cons rfl (fun K hK => ?_) AllReady.nil
            go_simp
            refine hK _ _ ?_
            clear hK K
            refine wpAny_ready (rs := [7]) (by kernel_rfl) (by simp) ?_
            refine AllReady.cons rfl (fun K hK => ?_) AllReady.nil
            go_simp
            refine hK _ _ ?_
            clear hK K
            refine wpAny_ready (rs := [8]) (by kernel_rfl) (by simp) ?_
            refine AllReady.cons rfl (fun K hK => ?_) AllReady.nil
            go_simp
            refine hK _ _ ?_
            clear hK K
            refine wpAny_ready (rs := [9]) (by kernel_rfl) (by simp) ?_
            refine AllReady.cons rfl (fun K hK => ?_) AllReady.nil
            go_simp
            refine hK _ _ ?_
            clear hK K
            refine wpAny_ready (rs := [10]) (by kernel_rfl) (by simp) ?_
            refine AllReady.cons rfl (fun K hK => ?_) AllReady.nil
            go_simp
            refine hK _ _ ?_
            clear hK K
            refine skipOp (i := 11) rfl (by kernel_rfl) (by kernel_rfl) (by kernel_rfl) (fun _ _ _ h => h) (by kernel_rfl) ?_
            refine skipOp (i := 12) rfl (by kernel_rfl) (by kernel_rfl) (by kernel_rfl) (fun _ _ _ h => h) (by kernel_rfl) ?_
            refine skipOp (i := 13) rfl (by kernel_rfl) (by kernel_rfl) (by kernel_rfl) (fun _ _ _ h => h) (by kernel_rfl) ?_
            refine skipOp (i := 14) rfl (by kernel_rfl) (by kernel_rfl) (by kernel_rfl) (fun _ _ _ h => h) (by kernel_rfl) ?_
            refine skipOp (i := 15) rfl (by kernel_rfl) (by kernel_rfl) (by kernel_rfl) (fun _ _ _ h => h) (by kernel_rfl) ?_
            refine skipOp (i := 16) rfl (by kernel_rfl) (by kernel_rfl) (by kernel_rfl) (fun _ _ _ h => h) (by kernel_rfl) ?_
            refine skipOp (i := 17) rfl (by kernel_rfl) (by kernel_rfl) (by kernel_rfl) (fun _ _ _ h => h) (by kernel_rfl) ?_
            refine skipOp (i := 18) rfl (by kernel_rfl) (by kernel_rfl) (by kernel_rfl) (fun _ _ _ h => h) (by kernel_rfl) ?_
            refine skipOp (i := 19) rfl (by kernel_rfl) (by kernel_rfl) (by kernel_rfl) (fun _ _ _ h => h) (by kernel_rfl) ?_
            refine skipOp (i := 20) rfl (by kernel_rfl) (by kernel_rfl) (by kernel_rfl) (fun _ _ _ h => h) (by kernel_rfl) ?_
            refine skipOp (i := 21) rfl (by kernel_rfl) (by kernel_rfl) (by kernel_rfl) (fun _ _ _ h => h) (by kernel_rfl) ?_
            refine wpAny_ready (rs := [22]) (by kernel_rfl) (by simp) ?_
            refine AllReady.cons rfl (fun K hK => ?_) AllReady.nil
            go_simp
            refine hK _ _ ?_
            clear hK K
            refine wpAny_ready (rs := [23]) (by kernel_rfl) (by simp) ?_
            refine AllReady.cons rfl (fun K hK => ?_) AllReady.nil
            go_simp
            refine hK _ _ ?_
            clear hK K
            refine wpAny_done (by kernel_rfl) ?_ _
            go_wp2
            exact ⟨⟨1, by omega, by go_num, fun j hj => by
              obtain rfl : j = 0 := by omega
              exact HY.out, hb3⟩, by simp [intOf]; omega⟩
          · obtain ⟨d, hd⟩ : ∃ d, es[i]? = some d := ⟨es[i]'(by omega), List.getElem?_eq_getElem (by omega)⟩
            obtain ⟨c2, c3⟩ := hc i d hd
            have HK2 : Hid (∀ W : World, Below w.heap.size w W → (W.cell? ⟨b, off + i * 2, none⟩ = some (.int .i64 d.1) ∧ W.cell? ⟨b, off + i * 2 + 1, none⟩ = some (.int .i64 d.2))) := fun W hW =>
              ⟨by rw [hW.cell hbl]; exact c2, by rw [hW.cell hbl]; exact c3⟩
            have HC := hideIt (chkAt_succ (n := N) hf hd)
            have HL2 : Hid (∀ W : World, Below w.heap.size w W → Calls Tryz.prog 153 #[.agg #[.int .i64 d.1, .int .i64 d.2], .agg #[.int .i64 f.1, .int .i64 f.2]] W fun e w' => e = .returned (.bool (lt d f)) ∧ Below w.heap.size w w') := fun W hW =>
              (l05Less_any d f W).mono fun _ _ ⟨he, hb'⟩ => ⟨he, hW.trans (hb'.mono hW.size)⟩
            have HE0 := hideIt hE
            have ek : ((i + 1 : Nat) : Int) = (i : Int) + 1 := by omega
            rw [ek] at b1 b2
            have b3 : (0 : Int) ≤ (i : Int) := by omega
            have b4 : (i : Int) < (n : Int) := by omega
            have tn : ((i : Int) + 1).toNat = i + 1 := by omega
            have d0 : decide ((0 : Int) < (i : Int) + 1) = true := decide_eq_true (by omega)
            have hw1 : IntKind.i64.wrap (i : Int) = (i : Int) := by rw [IntKind.wrap_i64]; omega
            rw [ek]
            clear ek hf hd hc c0 c1 c2 c3 hE
            cases hL : lt d f with
            | true =>
              rw [hL] at HL2
              have HY := hideIt (show chkAt N es (i + 1) = true by rw [HC.out, HE0.out, hL]; rfl)
              clear HC hL HE0
              go_wp2
              go_region_held3 (fun u => Below w.heap.size w u ∧ (u.cell? ⟨b, off + (i + 1) * 2, none⟩ = some (.int .i64 f.1) ∧ u.cell? ⟨b, off + (i + 1) * 2 + 1, none⟩ = some (.int .i64 f.2)) ∧ u.cell? ⟨b, off + i * 2, none⟩ = some (.int .i64 d.1) ∧ u.cell? ⟨b, off + i * 2 + 1, none⟩ = some (.int .i64 d.2))
                (first | exact ⟨hb4, HK.out _ hb4, HK2.out _ hb4⟩ | exact ⟨hb3, HK.out _ hb3, HK2.out _ hb3⟩ | exact ⟨hbd, HK.out _ hbd, HK2.out _ hbd⟩)
                (first
                | (go_at_call 84; refine (HE.out _ hbd).mono ?_; rintro e w1 ⟨rfl, hb3⟩)
                | (go_at_call 153; refine (HL2.out _ hb3).mono ?_; rintro e w2 ⟨rfl, hb4⟩))
              all_goals
                go_wp2
                exact ⟨⟨i + 2, by omega, by go_num, fun j hj => by
                  by_cases hji : j = i + 1
                  · subst hji; exact HY.out
                  · exact hck.out j (by omega), hb4⟩, by simp [intOf]; omega⟩
            | false =>
              rw [hL] at HL2
              have HN := hideIt (chk_no (by omega : i + 1 < es.length) (show chkAt N es (i + 1) = false by rw [HC.out, HE0.out, hL]; rfl))
              clear HC hL HE0
              go_wp2
              go_region_held3 (fun u => Below w.heap.size w u ∧ (u.cell? ⟨b, off + (i + 1) * 2, none⟩ = some (.int .i64 f.1) ∧ u.cell? ⟨b, off + (i + 1) * 2 + 1, none⟩ = some (.int .i64 f.2)) ∧ u.cell? ⟨b, off + i * 2, none⟩ = some (.int .i64 d.1) ∧ u.cell? ⟨b, off + i * 2 + 1, none⟩ = some (.int .i64 d.2))
                (first | exact ⟨hb4, HK.out _ hb4, HK2.out _ hb4⟩ | exact ⟨hb3, HK.out _ hb3, HK2.out _ hb3⟩ | exact ⟨hbd, HK.out _ hbd, HK2.out _ hbd⟩)
                (first
                | (go_at_call 84; refine (HE.out _ hbd).mono ?_; rintro e w1 ⟨rfl, hb3⟩)
                | (go_at_call 153; refine (HL2.out _ hb3).mono ?_; rintro e w2 ⟨rfl, hb4⟩))
              all_goals
                go_wp2
                go_ret
                exact ⟨by rw [HN.out]; rfl, hb4⟩
    · have HY := hideIt (chk_yes (n := N) (es := es) (fun j hj => hck.out j (by omega)))
      clear hck
      go_wp2
      go_ret
      exact ⟨by rw [HY.out, HL.out]; simp; omega, hb⟩
set_option maxHeartbeats 1000000 in
theorem sGraphOk_any (N : Int) (es : List EdgeV) (n : Nat) (a : Option Addr) (c : Nat) (hn : n ≤ 1048576) (w : World) (h : Es w w.heap.size a n es) :
    Calls Tryz.prog 79 #[.agg #[.int .i64 N, .slice a n c]] w fun e w' => e = .returned (.bool (gB N es)) ∧ Below w.heap.size w w' := by
  have HT := hideIt (l05Edges_any N es n a c hn (w.alloc (.cells #[.int .i64 N, .slice a n c] 33)) ((h.alloc (Nat.le_refl _) _).mono (by simp)))
  have HI := hideIt l01In_any
  clear h
  by_cases h1 : 1 ≤ N ∧ N ≤ 12
  · have r1 : decide (1 ≤ N ∧ N ≤ 12) = true := by simpa using h1
    have HG : Hid (gB N es = (chk N es && decide (es.length ≤ 66))) := by show _ = _; unfold gB; rw [r1]; rfl
    generalize (chk N es && decide (es.length ≤ 66)) = r at HG HT
    go_enter Tryz.func79, Tryz.ntmps79
    go_wp2_with (first | (go_at_call 88; refine (HI.out _ _ _ _).mono ?_; rintro e w1 ⟨rfl, rfl⟩) | (go_at_call 147; refine HT.out.mono ?_; rintro e w2 ⟨rfl, hb2⟩))
    go_ret
    exact ⟨by rw [HG.out]; rfl, ((Below.refl _ _).alloc (Nat.le_refl _) _).trans (hb2.mono (by simp))⟩
  · have r1 : decide (1 ≤ N ∧ N ≤ 12) = false := by simpa using h1
    have HG : Hid (gB N es = false) := by show _ = _; unfold gB; rw [r1]; rfl
    clear HT
    go_enter Tryz.func79, Tryz.ntmps79
    go_wp2_with (go_at_call 88; refine (HI.out _ _ _ _).mono ?_; rintro e w1 ⟨rfl, rfl⟩)
    go_ret
    exact ⟨by rw [HG.out]; rfl, (Below.refl _ _).alloc (Nat.le_refl _) _⟩

set_option maxHeartbeats 1000000 in
theorem sHasEdge_any (N : Int) (es : List EdgeV) (e : EdgeV) (n : Nat) (a : Option Addr) (c : Nat) (hn : n ≤ 1048576) (w : World) (h : Es w w.heap.size a n es) :
    Calls Tryz.prog 15 #[.agg #[.int .i64 N, .slice a n c], .agg #[.int .i64 e.1, .int .i64 e.2]] w fun x w' => x = .returned (.bool (hasB es e)) ∧ Below w.heap.size w w' := by
  have HT := hideIt (l05Has_any es e n a c hn ((w.alloc (.cells #[.int .i64 N, .slice a n c] 33)).alloc (.cells #[.int .i64 e.1, .int .i64 e.2] 28)) (((h.alloc (Nat.le_refl _) _).alloc (by simp) _).mono (by simp; omega)))
  clear h
  go_enter Tryz.func15, Tryz.ntmps15
  go_wp2_with (go_at_call 75; refine HT.out.mono ?_; rintro e w1 ⟨rfl, hb1⟩)
  go_ret
  exact ⟨rfl, (((Below.refl _ _).alloc (Nat.le_refl _) _).alloc (by simp) _).trans (hb1.mono (by simp; omega))⟩
end Go.Proofs.YtgjnlhdgekfieaaGreat
namespace Go.Proofs.YtgjnlhdgekfieaaGreat
open Go.RowKit

set_option maxRecDepth 100000 in
set_option maxHeartbeats 4000000 in
theorem sGraphOf_any (N : Int) (ls : List Ld) (n : Nat) (a : Option Addr) (c : Nat) (hn : n ≤ 1048576) (w : World) (h : Ls w w.heap.size a n ls) :
    Calls Tryz.prog 28 #[.agg #[.int .i64 N, .slice a n c]] w fun e w' => ∃ a' c', e = .returned (.agg #[.int .i64 N, .slice a' n c']) ∧ w'.ownsRow w.heap.size 28 2 (.slice a' n c') n (ecells (gE ls)) ∧ Below w.heap.size w w' := by
  obtain ⟨i0, hi, hz0, hz1, hz2⟩ := info_parts infoIE
  have HR := hideIt h
  have hlen := h.1
  clear h
  go_enter Tryz.func28, Tryz.ntmps28
  go_wp2
  go_loopw [4] (fun i wr => ∃ (k : Nat) (a' : Option Addr) (c' : Nat), k ≤ n ∧ i = .int .i64 (k : Int) ∧ Box7 wr w.heap.size 26 (.int .i64 N) (.slice a n c) ∧ Box7 wr (w.heap.size + 1) 33 (.int .i64 0) (.slice none 0 0) ∧ Box7 wr (w.heap.size + 1 + 1) 33 (.int .i64 N) (.slice a' k c') ∧
      wr.ownsRow (w.heap.size + 1 + 1 + 1) 28 2 (.slice a' k c') k (ecells (gE (ls.take k))) ∧ Below w.heap.size w wr) (fun i _ => n - (intOf i).toNat)
  case atStart =>
    refine ⟨0, none, 0, by omega, rfl, ?_, ?_, ?_, by simpa [gE, ecells] using World.ownsRow_nil _ _ _ _, ?_⟩
    · exact ((Box7.new w _ _ _ _ rfl).alloc _).alloc _
    · exact (Box7.new _ _ _ _ _ (by simp)).alloc _
    · exact Box7.new _ _ _ _ _ (by simp)
    · exact (((Below.refl _ _).alloc (Nat.le_refl _) _).alloc (by simp) _).alloc (by simp; omega) _
  case round =>
    obtain ⟨k, a', c', hk, rfl, x0, x1, x2, hown, hb⟩ := hrel
    have e0 := x0.cell1
    have e1 := x2.cell1
    have e2 := x2.frozen 1
    have l2 := x2.lt
    by_cases hlt : k < n
    · obtain ⟨b, off, x, rfl, hbl, hxk, hat⟩ := (HR.out.below hb (Nat.le_refl _)).at hlt
      have d0 := hat.ca
      have d1 := hat.cb
      have b1 : (0 : Int) ≤ (k : Int) := by omega
      have b2 : (k : Int) < (n : Int) := by omega
      have HX : Hid (ecells (gE (ls.take (k + 1))) = ecells (gE (ls.take k)) ++ [.int .i64 x.a, .int .i64 x.b]) := by
        show _ = _
        rw [take_snocF ls k x hxk]
        simp [gE, Ld.e, ecells, ecell]
      have hrow : ∀ q, q < w.heap.size + 1 + 1 + 1 → some q ≠ (Value.slice a' k c').ownBlock := fun q hq e => by
        have := (hown.lt q e.symm).1
        omega
      have HK : Hid (∀ w1 : World, ((wr.alloc (.cells #[.int .i64 x.a, .int .i64 x.b] 28)).drew).grownBy w1 (Value.slice a' k c').ownBlock →
          (w1.cell? ⟨w.heap.size, 1, none⟩ = some (.slice (some ⟨b, off, none⟩) n c) ∧ w1.cell? ⟨b, off + k * 4, none⟩ = some (.int .i64 x.a) ∧ w1.cell? ⟨b, off + k * 4 + 1, none⟩ = some (.int .i64 x.b)) ∧
          Box7 w1 w.heap.size 26 (.int .i64 N) (.slice (some ⟨b, off, none⟩) n c) ∧ Box7 w1 (w.heap.size + 1) 33 (.int .i64 0) (.slice none 0 0) ∧ Box7 w1 (w.heap.size + 1 + 1) 33 (.int .i64 N) (.slice a' k c') ∧ Below w.heap.size w w1) := fun w1 hg => by
        have y0 := (x0.alloc (.cells #[.int .i64 x.a, .int .i64 x.b] 28)).grown (w' := w1) ⟨hg.os, hg.tape, hg.output, hg.size, hg.block⟩ (hrow _ (by omega))
        have y1 := (x1.alloc (.cells #[.int .i64 x.a, .int .i64 x.b] 28)).grown (w' := w1) ⟨hg.os, hg.tape, hg.output, hg.size, hg.block⟩ (hrow _ (by omega))
        have y2 := (x2.alloc (.cells #[.int .i64 x.a, .int .i64 x.b] 28)).grown (w' := w1) ⟨hg.os, hg.tape, hg.output, hg.size, hg.block⟩ (hrow _ (by omega))
        have hb1 : Below wr.heap.size wr (wr.alloc (.cells #[.int .i64 x.a, .int .i64 x.b] 28)).drew := ((Below.refl _ _).alloc (Nat.le_refl _) _).drew
        have hb2 : Below w.heap.size wr w1 := (hb1.mono hb.size).grown hg (by have := hb.size; simp; omega) (fun j hj => by have := (hown.lt j hj).1; omega)
        exact ⟨⟨y0.cell1, by rw [hb2.cell hbl]; exact d0, by rw [hb2.cell hbl]; exact d1⟩, y0, y1, y2, hb.trans hb2⟩
      have hS0 : wr.drew.cell? ⟨w.heap.size, 1, none⟩ = some (.slice (some ⟨b, off, none⟩) n c) ∧ wr.drew.cell? ⟨b, off + k * 4, none⟩ = some (.int .i64 x.a) ∧ wr.drew.cell? ⟨b, off + k * 4 + 1, none⟩ = some (.int .i64 x.b) := ⟨e0, d0, d1⟩
      have hal : Below wr.heap.size wr (wr.alloc (.cells #[.int .i64 x.a, .int .i64 x.b] 28)).drew := ((Below.refl _ _).alloc (Nat.le_refl _) _).drew
      have hbw : b < wr.heap.size := by have := hb.size; omega
      have hS1 : (wr.alloc (.cells #[.int .i64 x.a, .int .i64 x.b] 28)).drew.cell? ⟨w.heap.size, 1, none⟩ = some (.slice (some ⟨b, off, none⟩) n c) ∧ (wr.alloc (.cells #[.int .i64 x.a, .int .i64 x.b] 28)).drew.cell? ⟨b, off + k * 4, none⟩ = some (.int .i64 x.a) ∧ (wr.alloc (.cells #[.int .i64 x.a, .int .i64 x.b] 28)).drew.cell? ⟨b, off + k * 4 + 1, none⟩ = some (.int .i64 x.b) :=
        ⟨by rw [hal.cell x0.lt]; exact e0, by rw [hal.cell hbw]; exact d0, by rw [hal.cell hbw]; exact d1⟩
      have HS2 : Hid (∀ (u : World) (v : Value) (j : Nat), (u.cell? ⟨w.heap.size, 1, none⟩ = some (.slice (some ⟨b, off, none⟩) n c) ∧ u.cell? ⟨b, off + k * 4, none⟩ = some (.int .i64 x.a) ∧ u.cell? ⟨b, off + k * 4 + 1, none⟩ = some (.int .i64 x.b)) → ((u.setCell ⟨w.heap.size + 1 + 1, j, none⟩ v).cell? ⟨w.heap.size, 1, none⟩ = some (.slice (some ⟨b, off, none⟩) n c) ∧ (u.setCell ⟨w.heap.size + 1 + 1, j, none⟩ v).cell? ⟨b, off + k * 4, none⟩ = some (.int .i64 x.a) ∧ (u.setCell ⟨w.heap.size + 1 + 1, j, none⟩ v).cell? ⟨b, off + k * 4 + 1, none⟩ = some (.int .i64 x.b))) := fun u v j h => by
        rw [set_other (by omega), set_other (by omega), set_other (by omega)]
        exact h
      have HOwn := hideIt hown
      clear hxk hat hown hal
      go_wp2
      refine wp_region_held_drew (S := (fun u => u.cell? ⟨w.heap.size, 1, none⟩ = some (.slice (some ⟨b, off, none⟩) n c) ∧ u.cell? ⟨b, off + k * 4, none⟩ = some (.int .i64 x.a) ∧ u.cell? ⟨b, off + k * 4 + 1, none⟩ = some (.int .i64 x.b))) (by kernel_rfl) hS0 (fun hHeld => ?_)
      refine wpAnyH_take (i := 0) (v := ?_) rfl (by kernel_rfl) (by kernel_rfl) (by kernel_rfl) (fun _ _ _ h => h) (Or.inl ⟨by rfl, ?_⟩) (by assumption) ?_
      rotate_left
      · intro w hSw; (try dsimp only at hSw); go_simp; try with_reducible rfl
      try simp only [Act.put, List.getElem_toArray, List.getElem_cons_zero, List.setIfInBounds_toArray, List.set_cons_zero, List.set_cons_succ]
      refine wpAnyH_take (i := 2) (v := ?_) rfl (by kernel_rfl) (by kernel_rfl) (by kernel_rfl) (fun _ _ _ h => h) (Or.inl ⟨by rfl, ?_⟩) (by assumption) ?_
      rotate_left
      · intro w hSw; (try dsimp only at hSw); go_simp; try with_reducible rfl
      try simp only [Act.put, List.getElem_toArray, List.getElem_cons_succ, List.getElem_cons_zero, List.setIfInBounds_toArray, List.set_cons_zero, List.set_cons_succ]
      refine wpAnyH_take (i := 3) (v := ?_) rfl (by kernel_rfl) (by kernel_rfl) (by kernel_rfl) (fun _ _ _ h => h) (Or.inl ⟨by rfl, ?_⟩) (by assumption) ?_
      rotate_left
      · intro w hSw; (try dsimp only at hSw); go_simp; try with_reducible rfl
      try simp only [Act.put, List.getElem_toArray, List.getElem_cons_succ, List.getElem_cons_zero, List.setIfInBounds_toArray, List.set_cons_zero, List.set_cons_succ]
      refine wpAnyH_take (i := 4) (v := ?_) rfl (by kernel_rfl) (by kernel_rfl) (by kernel_rfl) (fun _ _ _ h => h) (Or.inl ⟨by rfl, ?_⟩) (by assumption) ?_
      rotate_left
      · intro w hSw; (try dsimp only at hSw); go_simp; try with_reducible rfl
      try simp only [Act.put, List.getElem_toArray, List.getElem_cons_succ, List.getElem_cons_zero, List.setIfInBounds_toArray, List.set_cons_zero, List.set_cons_succ]
      refine wpAnyH_take (i := 5) (v := ?_) rfl (by kernel_rfl) (by kernel_rfl) (by kernel_rfl) (fun _ _ _ h => h) (Or.inl ⟨by rfl, ?_⟩) (by assumption) ?_
      rotate_left
      · intro w hSw; (try dsimp only at hSw); go_simp; try with_reducible rfl
      try simp only [Act.put, List.getElem_toArray, List.getElem_cons_succ, List.getElem_cons_zero, List.setIfInBounds_toArray, List.set_cons_zero, List.set_cons_succ]
      refine wpAnyH_take (i := 6) (v := ?_) rfl (by kernel_rfl) (by kernel_rfl) (by kernel_rfl) (fun _ _ _ h => h) (Or.inl ⟨by rfl, ?_⟩) (by assumption) ?_
      rotate_left
      · intro w hSw; (try dsimp only at hSw); go_simp; try with_reducible rfl
      try simp only [Act.put, List.getElem_toArray, List.getElem_cons_succ, List.getElem_cons_zero, List.setIfInBounds_toArray, List.set_cons_zero, List.set_cons_succ]
      refine wpAnyH_take (i := 7) (v := ?_) rfl (by kernel_rfl) (by kernel_rfl) (by kernel_rfl) (fun _ _ _ h => h) (Or.inl ⟨by rfl, ?_⟩) (by assumption) ?_
      rotate_left
      · intro w hSw; (try dsimp only at hSw); go_simp; try with_reducible rfl
      try simp only [Act.put, List.getElem_toArray, List.getElem_cons_succ, List.getElem_cons_zero, List.setIfInBounds_toArray, List.set_cons_zero, List.set_cons_succ]
      refine wpAnyH_take (i := 8) (v := ?_) rfl (by kernel_rfl) (by kernel_rfl) (by kernel_rfl) (fun _ _ _ h => h) (Or.inl ⟨by rfl, ?_⟩) (by assumption) ?_
      rotate_left
      · intro w hSw; (try dsimp only at hSw); go_simp; try with_reducible rfl
      try simp only [Act.put, List.getElem_toArray, List.getElem_cons_succ, List.getElem_cons_zero, List.setIfInBounds_toArray, List.set_cons_zero, List.set_cons_succ]
      refine wpAnyH_take (i := 9) (v := ?_) rfl (by kernel_rfl) (by kernel_rfl) (by kernel_rfl) (fun _ _ _ h => h) (Or.inl ⟨by rfl, ?_⟩) (by assumption) ?_
      rotate_left
      · intro w hSw; (try dsimp only at hSw); go_simp; try with_reducible rfl
      try simp only [Act.put, List.getElem_toArray, List.getElem_cons_succ, List.getElem_cons_zero, List.setIfInBounds_toArray, List.set_cons_zero, List.set_cons_succ]
      refine wpAnyH_take (i := 10) (v := ?_) rfl (by kernel_rfl) (by kernel_rfl) (by kernel_rfl) (fun _ _ _ h => h) (Or.inl ⟨by rfl, ?_⟩) (by assumption) ?_
      rotate_left
      · intro w hSw; (try dsimp only at hSw); go_simp; try with_reducible rfl
      try simp only [Act.put, List.getElem_toArray, List.getElem_cons_succ, List.getElem_cons_zero, List.setIfInBounds_toArray, List.set_cons_zero, List.set_cons_succ]
      refine wpAnyH_take (i := 11) (v := ?_) rfl (by kernel_rfl) (by kernel_rfl) (by kernel_rfl) (fun _ _ _ h => h) (Or.inl ⟨by rfl, ?_⟩) (by assumption) ?_
      rotate_left
      · intro w hSw; (try dsimp only at hSw); go_simp; try with_reducible rfl
      try simp only [Act.put, List.getElem_toArray, List.getElem_cons_succ, List.getElem_cons_zero, List.setIfInBounds_toArray, List.set_cons_zero, List.set_cons_succ]
      refine wpAnyH_take (i := 12) (v := ?_) rfl (by kernel_rfl) (by kernel_rfl) (by kernel_rfl) (fun _ _ _ h => h) (Or.inl ⟨by rfl, ?_⟩) (by assumption) ?_
      rotate_left
      · intro w hSw; (try dsimp only at hSw); go_simp; try with_reducible rfl
      try simp only [Act.put, List.getElem_toArray, List.getElem_cons_succ, List.getElem_cons_zero, List.setIfInBounds_toArray, List.set_cons_zero, List.set_cons_succ]
      refine wpAnyH_take (i := 13) (v := ?_) rfl (by kernel_rfl) (by kernel_rfl) (by kernel_rfl) (fun _ _ _ h => h) (Or.inl ⟨by rfl, ?_⟩) (by assumption) ?_
      rotate_left
      · intro w hSw; (try dsimp only at hSw); go_simp; try with_reducible rfl
      try simp only [Act.put, List.getElem_toArray, List.getElem_cons_succ, List.getElem_cons_zero, List.setIfInBounds_toArray, List.set_cons_zero, List.set_cons_succ]
      refine wpAnyH_take (i := 14) (v := ?_) rfl (by kernel_rfl) (by kernel_rfl) (by kernel_rfl) (fun _ _ _ h => h) (Or.inl ⟨by rfl, ?_⟩) (by assumption) ?_
      rotate_left
      · intro w hSw; (try dsimp only at hSw); go_simp; try with_reducible rfl
      try simp only [Act.put, List.getElem_toArray, List.getElem_cons_succ, List.getElem_cons_zero, List.setIfInBounds_toArray, List.set_cons_zero, List.set_cons_succ]
      refine wpAnyH_ready (rs := [1, 15]) (by kernel_rfl) (by simp) ?_
      refine AllReadyH.cons rfl (fun K hK => ?_) (AllReadyH.cons rfl (fun K hK => ?_) AllReadyH.nil)
      · go_simp
        refine hK.out _ _ hS0 (fun hHeld => ?_)
        clear hK K
        try simp only [Act.put, List.getElem_toArray, List.getElem_cons_succ, List.getElem_cons_zero, List.setIfInBounds_toArray, List.set_cons_zero, List.set_cons_succ]
        refine wpAnyH_ready (rs := [15]) (by kernel_rfl) (by simp) ?_
        refine AllReadyH.cons rfl (fun K hK => ?_) AllReadyH.nil
        go_simp
        refine hK.out _ _ hS1 (fun hHeld => ?_)
        clear hK K
        try simp only [Act.put, List.getElem_toArray, List.getElem_cons_succ, List.getElem_cons_zero, List.setIfInBounds_toArray, List.set_cons_zero, List.set_cons_succ]
        refine wpAnyH_ready (rs := [16]) (by kernel_rfl) (by simp) ?_
        refine AllReadyH.cons rfl (fun K hK => ?_) AllReadyH.nil
        refine step_append_lies _ (by rfl) _ _ _ (by rfl) (w.heap.size + 1 + 1 + 1) 28 i0 _ 2 16 Tryz.underlying31 hi hz0 hz1 hz2 rfl (by omega) _ k _ (by rfl) ((HOwn.out.alloc _).drew) ⟨wr.heap.size, 0, none⟩ 1 1 [.int .i64 x.a, .int .i64 x.b] (by rfl) (by rfl) (World.news_of_block (cs := #[.int .i64 x.a, .int .i64 x.b]) (t := 28) (fr := (0, 0)) (heap_alloc_new wr _)) (by simp [Value.oneCell']) (by omega) (by unfold maxLen; omega) (by omega) (by simp; omega) (wr.heap.size + 1) (by simp) ?_
        intro g1 cap1 w1 hown1 hg1 hat1 hlt1
        obtain ⟨S1, y0, y1, y2, hb1⟩ := HK.out _ hg1
        have z1 := y2.cell1
        have z2 := y2.frozen 1
        refine hK.out _ _ S1 (fun hHeld => ?_)
        clear hK K
        try simp only [Act.put, List.getElem_toArray, List.getElem_cons_succ, List.getElem_cons_zero, List.setIfInBounds_toArray, List.set_cons_zero, List.set_cons_succ]
        refine wpAnyH_ready (rs := [17]) (by kernel_rfl) (by simp) ?_
        refine AllReadyH.cons rfl (fun K hK => ?_) AllReadyH.nil
        go_simp
        refine hK.out _ _ S1 (fun hHeld => ?_)
        clear hK K
        try simp only [Act.put, List.getElem_toArray, List.getElem_cons_succ, List.getElem_cons_zero, List.setIfInBounds_toArray, List.set_cons_zero, List.set_cons_succ]
        refine wpAnyH_ready (rs := [18]) (by kernel_rfl) (by simp) ?_
        refine AllReadyH.cons rfl (fun K hK => ?_) AllReadyH.nil
        go_simp
        refine hK.out _ _ (HS2.out _ _ _ S1) (fun hHeld => ?_)
        clear hK K
        try simp only [Act.put, List.getElem_toArray, List.getElem_cons_succ, List.getElem_cons_zero, List.setIfInBounds_toArray, List.set_cons_zero, List.set_cons_succ]
        refine wpAnyH_done (by kernel_rfl) ?_ _
        have lg := (hown1.lt g1 rfl).1
        have HO := hideIt (own_setOther hown1 (w.heap.size + 1 + 1) 1 (.slice (some ⟨g1, 0, none⟩) (k + 1) cap1) (by omega))
        have q0 := y0.setOther (j := 1) (.slice (some ⟨g1, 0, none⟩) (k + 1) cap1) (show w.heap.size ≠ w.heap.size + 1 + 1 by omega)
        have q1 := y1.setOther (j := 1) (.slice (some ⟨g1, 0, none⟩) (k + 1) cap1) (show w.heap.size + 1 ≠ w.heap.size + 1 + 1 by omega)
        have q2 := y2.set1 (.slice (some ⟨g1, 0, none⟩) (k + 1) cap1)
        have q3 := hb1.setCell (p := ⟨w.heap.size + 1 + 1, 1, none⟩) (by show _ ≤ w.heap.size + 1 + 1; omega) (.slice (some ⟨g1, 0, none⟩) (k + 1) cap1)
        clear hown1 hg1 HOwn S1 HK hrow
        go_wp2
        exact ⟨⟨k + 1, _, _, by omega, by go_num, q0, q1, q2, by rw [HX.out]; exact HO.out, q3⟩, by simp [intOf]; omega⟩
      · go_simp
        refine hK.out _ _ hS1 (fun hHeld => ?_)
        clear hK K
        try simp only [Act.put, List.getElem_toArray, List.getElem_cons_succ, List.getElem_cons_zero, List.setIfInBounds_toArray, List.set_cons_zero, List.set_cons_succ]
        refine wpAnyH_ready (rs := [1]) (by kernel_rfl) (by simp) ?_
        refine AllReadyH.cons rfl (fun K hK => ?_) AllReadyH.nil
        go_simp
        refine hK.out _ _ hS1 (fun hHeld => ?_)
        clear hK K
        try simp only [Act.put, List.getElem_toArray, List.getElem_cons_succ, List.getElem_cons_zero, List.setIfInBounds_toArray, List.set_cons_zero, List.set_cons_succ]
        refine wpAnyH_ready (rs := [16]) (by kernel_rfl) (by simp) ?_
        refine AllReadyH.cons rfl (fun K hK => ?_) AllReadyH.nil
        refine step_append_lies _ (by rfl) _ _ _ (by rfl) (w.heap.size + 1 + 1 + 1) 28 i0 _ 2 16 Tryz.underlying31 hi hz0 hz1 hz2 rfl (by omega) _ k _ (by rfl) ((HOwn.out.alloc _).drew) ⟨wr.heap.size, 0, none⟩ 1 1 [.int .i64 x.a, .int .i64 x.b] (by rfl) (by rfl) (World.news_of_block (cs := #[.int .i64 x.a, .int .i64 x.b]) (t := 28) (fr := (0, 0)) (heap_alloc_new wr _)) (by simp [Value.oneCell']) (by omega) (by unfold maxLen; omega) (by omega) (by simp; omega) (wr.heap.size + 1) (by simp) ?_
        intro g1 cap1 w1 hown1 hg1 hat1 hlt1
        obtain ⟨S1, y0, y1, y2, hb1⟩ := HK.out _ hg1
        have z1 := y2.cell1
        have z2 := y2.frozen 1
        refine hK.out _ _ S1 (fun hHeld => ?_)
        clear hK K
        try simp only [Act.put, List.getElem_toArray, List.getElem_cons_succ, List.getElem_cons_zero, List.setIfInBounds_toArray, List.set_cons_zero, List.set_cons_succ]
        refine wpAnyH_ready (rs := [17]) (by kernel_rfl) (by simp) ?_
        refine AllReadyH.cons rfl (fun K hK => ?_) AllReadyH.nil
        go_simp
        refine hK.out _ _ S1 (fun hHeld => ?_)
        clear hK K
        try simp only [Act.put, List.getElem_toArray, List.getElem_cons_succ, List.getElem_cons_zero, List.setIfInBounds_toArray, List.set_cons_zero, List.set_cons_succ]
        refine wpAnyH_ready (rs := [18]) (by kernel_rfl) (by simp) ?_
        refine AllReadyH.cons rfl (fun K hK => ?_) AllReadyH.nil
        go_simp
        refine hK.out _ _ (HS2.out _ _ _ S1) (fun hHeld => ?_)
        clear hK K
        try simp only [Act.put, List.getElem_toArray, List.getElem_cons_succ, List.getElem_cons_zero, List.setIfInBounds_toArray, List.set_cons_zero, List.set_cons_succ]
        refine wpAnyH_done (by kernel_rfl) ?_ _
        have lg := (hown1.lt g1 rfl).1
        have HO := hideIt (own_setOther hown1 (w.heap.size + 1 + 1) 1 (.slice (some ⟨g1, 0, none⟩) (k + 1) cap1) (by omega))
        have q0 := y0.setOther (j := 1) (.slice (some ⟨g1, 0, none⟩) (k + 1) cap1) (show w.heap.size ≠ w.heap.size + 1 + 1 by omega)
        have q1 := y1.setOther (j := 1) (.slice (some ⟨g1, 0, none⟩) (k + 1) cap1) (show w.heap.size + 1 ≠ w.heap.size + 1 + 1 by omega)
        have q2 := y2.set1 (.slice (some ⟨g1, 0, none⟩) (k + 1) cap1)
        have q3 := hb1.setCell (p := ⟨w.heap.size + 1 + 1, 1, none⟩) (by show _ ≤ w.heap.size + 1 + 1; omega) (.slice (some ⟨g1, 0, none⟩) (k + 1) cap1)
        clear hown1 hg1 HOwn S1 HK hrow
        go_wp2
        exact ⟨⟨k + 1, _, _, by omega, by go_num, q0, q1, q2, by rw [HX.out]; exact HO.out, q3⟩, by simp [intOf]; omega⟩
    · obtain rfl : k = n := by omega
      have e : ls.take k = ls := List.take_of_length_le (by omega)
      rw [e] at hown
      have HO := hideIt hown
      have r0 := x1.cell0
      have r1 := x1.cell1
      have r2 := x1.frozen 0
      have r3 := x1.frozen 1
      have c0 := x2.cell0
      clear hown e
      have s2 := x1.set2 (.int .i64 N) (.slice a' k c')
      have s0 := s2.cell0
      have s1 := s2.cell1
      have HO2 := hideIt (own_setLow (own_setLow HO.out (w.heap.size + 1) 0 (.int .i64 N) (by omega)) (w.heap.size + 1) 1 (.slice a' k c') (by omega))
      have q3 := (hb.setCell (p := ⟨w.heap.size + 1, 0, none⟩) (by show _ ≤ w.heap.size + 1; omega) (.int .i64 N)).setCell (p := ⟨w.heap.size + 1, 1, none⟩) (by show _ ≤ w.heap.size + 1; omega) (.slice a' k c')
      clear s2
      go_wp2
      exact bodyPost_ret (v := .agg #[.int .i64 N, .slice a' k c']) (by simp [results, Tryz.results28, go_sem, s0, s1]) rfl ⟨a', c', rfl, own_mono HO2.out (by omega), q3⟩

end Go.Proofs.YtgjnlhdgekfieaaGreat
