/- The program's ForestAt, where the graph is right. The specification's ForestAt, where the graph is right. The specification's GraphOf. The specification's GraphOk and HasEdge. The program's rootsOf. The program's levelOk, where the edges of the forest make no ring. -/
import Derived.Test.YtgjngaaibcmgmabGreatKIFa9
import Derived.Test.YtgjngaaibcmgmabGreatKFind6
import Derived.Test.YtgjngaaibcmgmabGreatKLk7
import Derived.Deep.AppendLies
import Derived.Deep.RegionLaw
import Derived.Deep.RegionHeld3
import Derived.Test.YtgjngaaibcmgmabGreatKWb9
import Derived.Test.YtgjngaaibcmgmabGreatKBx7
namespace Go.Proofs.YtgjngaaibcmgmabGreat
open Go.RowKit

theorem infoIT9 : (Tryz.prog.info? 46).map (fun i => (i.zero, i.size, i.bytes)) = some (some (.slice none 0 0), 1, 24) := by kernel_rfl
theorem newsV9 (w : World) (x : Value) : ∀ j u, ([x] : List Value)[j]? = some u → (w.alloc (.cells #[x] 46)).cell? ((⟨w.heap.size, 0, none⟩ : Addr).add j) = some u := by
  intro j u hj
  rcases j with _ | j
  · simp at hj; subst hj; simp [Addr.add]
  · simp at hj
/-- the answer of ForestAt: a forest of the answer's own -/
def FAn9 (w : World) (N : Int) (o : Option (List (List Int))) (e : Ending) (w' : World) : Prop :=
  ∃ a m c R, e = .returned (.tuple #[.agg #[.int .i64 (if o.isSome then N else 0), .slice a m c], .bool o.isSome]) ∧ FB w' w.heap.size w'.heap.size a m c R ∧ rts R = o.getD [] ∧ Below w.heap.size w w'
/-- .. that is only read -/
def FAt9 (w : World) (N : Int) (o : Option (List (List Int))) (e : Ending) (w' : World) : Prop :=
  ∃ a m c, e = .returned (.tuple #[.agg #[.int .i64 (if o.isSome then N else 0), .slice a m c], .bool o.isSome]) ∧ Ts w' w'.heap.size a m (o.getD []) ∧ Below w.heap.size w w'
theorem FAn9.weak {w : World} {N : Int} {o : Option (List (List Int))} {e : Ending} {w' : World} (h : FAn9 w N o e w') : FAt9 w N o e w' := by
  obtain ⟨a, m, c, R, h1, h2, h3, h4⟩ := h
  exact ⟨a, m, c, h1, by rw [← h3]; exact h2.ts, h4⟩
/-- behind the web's box and the forest's -/
def wf2 (w : World) (N : Int) (a : Option Addr) (n c : Nat) : World := (wW w N a n c).alloc (.cells #[.int .i64 0, .slice none 0 0] 61)
theorem wf2_size (w : World) (N : Int) (a : Option Addr) (n c : Nat) : (wf2 w N a n c).heap.size = w.heap.size + 2 := by simp [wf2, wW]
theorem wf2_good (w : World) (N : Int) (a : Option Addr) (n c : Nat) : Good w (wf2 w N a n c) := (wW_good w N a n c).alloc _
theorem wf2_cells {w : World} {N : Int} {a : Option Addr} {n c : Nat} {u : World} (h : Below (w.heap.size + 2) (wf2 w N a n c) u) : (u.cell? ⟨w.heap.size, 0, none⟩ = some (.int .i64 N) ∧ u.cell? ⟨w.heap.size, 1, none⟩ = some (.slice a n c)) ∧ Box7 u (w.heap.size + 1) 61 (.int .i64 0) (.slice none 0 0) := by
  have b1 : Box7 (wf2 w N a n c) w.heap.size 29 (.int .i64 N) (.slice a n c) := (Box7.new w _ _ _ _ rfl).alloc _
  have b2 : Box7 (wf2 w N a n c) (w.heap.size + 1) 61 (.int .i64 0) (.slice none 0 0) := Box7.new _ _ _ _ _ (by simp [wW])
  have c1 := b1.below h (by omega)
  exact ⟨⟨c1.cell0, c1.cell1⟩, b2.below h (by omega)⟩
theorem is_one (w : World) (x : Int) : Is (w.alloc (.cells #[.int .i64 x] 3)) (w.alloc (.cells #[.int .i64 x] 3)).heap.size (some ⟨w.heap.size, 0, none⟩) 1 [x] := ⟨rfl, .inr ⟨w.heap.size, 0, rfl, by simp, fun j y hy => by
  rcases j with _ | j
  · simp at hy; subst hy; simp
  · simp at hy⟩⟩
/-- the trees so far are short -/
theorem ft_short {es : List EdgeV} {nn k : Nat} (hE : ∀ e ∈ es, 0 ≤ e.1 ∧ e.1 < e.2 ∧ e.2 < (nn : Int)) (hn : nn ≤ 12) (hk : k ≤ nn) {ts : List (List Int)} (h : ftK es nn k = some ts) : ∀ t ∈ ts, t.length ≤ 23 ∧ 0 < t.length := fun t ht => by
  obtain ⟨r, h1, ⟨sn, h2⟩, _⟩ := (ft_any hE hn k hk h).tour t ht
  have := tB_len (wk_tree hE hn (by omega) (by omega) h2).1
  omega
theorem ft_in {ts : List (List Int)} {v : Int} : v ∈ ts.flatten ↔ 0 ≤ trI ts v := by
  rcases trI_cases ts v with ⟨k, t, h1, h2, h3⟩ | ⟨h1, h2⟩
  · rw [h3]
    exact ⟨fun _ => by omega, fun _ => List.mem_flatten.2 ⟨t, List.mem_of_getElem? h1, h2⟩⟩
  · rw [h2]
    exact ⟨fun h => by obtain ⟨t, ht, hv⟩ := List.mem_flatten.1 h; exact absurd hv (h1 t ht), fun h => by omega⟩

set_option maxRecDepth 100000 in
set_option maxHeartbeats 4000000 in
theorem iForestAt_no (nn : Nat) (ls : List Ld) (lv : Int) (n : Nat) (a : Option Addr) (c : Nat) (hG : gB (nn : Int) (gE ls) = true) (hl : ∀ x ∈ ls, 0 ≤ x.l) (hB : ¬ Bridge (fE ls 0)) (w : World) (h : Ls w w.heap.size a n ls) :
    Calls Tryz.prog 62 #[.agg #[.int .i64 (nn : Int), .slice a n c], .int .i64 lv] w (FAn9 w (nn : Int) none) := by
  have HP := hideIt ((plantable_any nn ls n a c hG hl _ (h.up (wf2_good w (nn : Int) a n c))).mono fun e v ⟨b, h1, h2, h3⟩ => (show e = Ending.returned (.bool false) ∧ Below (wf2 w (nn : Int) a n c).heap.size (wf2 w (nn : Int) a n c) v from ⟨by
    cases b with
    | false => exact h1
    | true => exact absurd (h2.1 rfl) hB, h3⟩))
  clear h hG hl hB
  go_enter Tryz.func62, Tryz.ntmps62
  go_wp2_with (go_at_call 84; refine HP.out.mono ?_; rintro e w1 ⟨rfl, hb1⟩; refine Hid.out ?_)
  refine (show ∀ {p : Prop}, p → Hid p from fun h => h) ?_
  rw [wf2_size] at hb1
  obtain ⟨⟨cw0, cw1⟩, bx⟩ := wf2_cells hb1
  have r0 := bx.cell0
  have r1 := bx.cell1
  have q0 := bx.frozen 0
  have q1 := bx.frozen 1
  have HG : Hid (Good w w1) := (wf2_good w (nn : Int) a n c).trans (hb1.mono (by omega))
  clear HP hb1
  go_wp2
  refine bodyPost_ret (v := .tuple #[.agg #[.int .i64 0, .slice none 0 0], .bool false]) (by simp [results, Tryz.results62, go_sem, r0, r1]) rfl ⟨none, 0, 0, [], rfl, FB.nil _ _, rfl, ?_⟩
  exact (HG.out.setCell (p := ⟨w.heap.size + 1, 0, none⟩) (by show _ ≤ w.heap.size + 1; omega) _).setCell (p := ⟨w.heap.size + 1, 1, none⟩) (by show _ ≤ w.heap.size + 1; omega) _

set_option maxRecDepth 100000 in
set_option maxHeartbeats 4000000 in
theorem iForestAt_yes (nn : Nat) (ls : List Ld) (lv : Int) (n : Nat) (a : Option Addr) (c : Nat) (hG : gB (nn : Int) (gE ls) = true) (hl : ∀ x ∈ ls, 0 ≤ x.l) (hB : Bridge (fE ls 0)) (hlv : 0 ≤ lv) (ts : List (List Int)) (hts : ftK (fE ls lv) nn nn = some ts) (w : World) (h : Ls w w.heap.size a n ls) :
    Calls Tryz.prog 62 #[.agg #[.int .i64 (nn : Int), .slice a n c], .int .i64 lv] w (FAn9 w (nn : Int) (some ts)) := by
  obtain ⟨i0, hi, hz0, hz1, hz2⟩ := info_parts infoIT9
  have hg := gB_chk hG
  have hn1 : 1 ≤ nn := by omega
  have hn12 : nn ≤ 12 := by omega
  have hlen := h.1
  have h66 : n ≤ 66 := by have := hg.2.2; rw [gE_len] at this; omega
  have hBl : Bridge (fE ls lv) := hB.sub fun e he => fE_low hlv he
  have HE := hideIt (fE_ends hG lv)
  have HP := hideIt ((plantable_any nn ls n a c hG hl _ (h.up (wf2_good w (nn : Int) a n c))).mono fun e v ⟨b, h1, h2, h3⟩ => (show e = Ending.returned (.bool true) ∧ Below (wf2 w (nn : Int) a n c).heap.size (wf2 w (nn : Int) a n c) v from ⟨by
    cases b with
    | true => exact h1
    | false => exact absurd (h2.2 hB) (by simp), h3⟩))
  have HF : Hid (∀ u, Good (wf2 w (nn : Int) a n c) u → Calls Tryz.prog 85 #[.agg #[.int .i64 (nn : Int), .slice a n c], .int .i64 lv] u fun e w' => ∃ g m c', e = .returned (.slice (some ⟨g, 0, none⟩) m c') ∧ Es w' w'.heap.size (some ⟨g, 0, none⟩) m (fE ls lv) ∧ Good (wf2 w (nn : Int) a n c) w') := fun u hu =>
    (forestEdges_any (nn : Int) ls lv n a c (by omega) u ((h.up (wf2_good w _ a n c)).up hu)).mono fun e v ⟨g, m, c', h1, h2, h3⟩ => ⟨g, m, c', h1, Es_of_own h2, hu.up h3⟩
  have HT : Hid (∀ (g m c' k : Nat) (t sn : List Int) (u : World), k < nn → wk (fE ls lv) nn nn (k : Int) (-1) [] = some (t, sn) → t.length ≤ 23 → Es u u.heap.size (some ⟨g, 0, none⟩) m (fE ls lv) → Calls Tryz.prog 86 #[.int .i64 (nn : Int), .slice (some ⟨g, 0, none⟩) m c', .int .i64 (k : Int)] u fun e w' => ∃ a' m c', e = .returned (.tuple #[.slice a' m c', .bool true]) ∧ w'.ownsRow u.heap.size 3 1 (.slice a' m c') m (ic t) ∧ Below u.heap.size u w') := fun g m c' k t sn u hk hw htl hu =>
    iTourOf_n (fE ls lv) nn m hn1 hn12 (some ⟨g, 0, none⟩) c' (k : Int) t sn (by have := hu.1; have := fE_len ls lv; omega) (fun e he => gB_eB hG (fE_g he)) (fE_nodup (gB_nodup hG) lv) (hBl.tree (fE_nodup (gB_nodup hG) lv)) (by omega) (by omega) hw (by omega) u hu
  have HTS := hideIt hts
  clear h hg hG hl hB hBl hts
  go_enter Tryz.func62, Tryz.ntmps62
  go_wp2_with (go_at_call 84; refine HP.out.mono ?_; rintro e w1 ⟨rfl, hb1⟩; refine Hid.out ?_)
  refine (show ∀ {p : Prop}, p → Hid p from fun h => h) ?_
  have G1 : Good (wf2 w (nn : Int) a n c) w1 := hb1
  rw [wf2_size] at hb1
  obtain ⟨⟨cw0, cw1⟩, _⟩ := wf2_cells hb1
  have HFe := hideIt (HF.out w1 G1)
  clear HP hb1 HF
  go_wp2_with (go_at_call 85; refine HFe.out.mono ?_; rintro e w2 ⟨g, m2, c2, rfl, hEs, G2⟩; refine Hid.out ?_)
  refine (show ∀ {p : Prop}, p → Hid p from fun h => h) ?_
  have G2b : Below (w.heap.size + 2) (wf2 w (nn : Int) a n c) w2 := by have := G2; unfold Good at this; rwa [wf2_size] at this
  obtain ⟨⟨cv0, cv1⟩, _⟩ := wf2_cells G2b
  have z2 := G2b.size
  rw [wf2_size] at z2
  have HEs := hideIt hEs
  have HG2 := hideIt G2b
  have HC : Hid (∀ u, Below w2.heap.size w2 u → (u.cell? ⟨w.heap.size, 0, none⟩ = some (.int .i64 (nn : Int)) ∧ u.cell? ⟨w.heap.size, 1, none⟩ = some (.slice a n c)) ∧ Box7 u (w.heap.size + 1) 61 (.int .i64 0) (.slice none 0 0)) := fun u hu => wf2_cells (HG2.out.trans (hu.mono z2))
  have HF0 := hideIt (FB.start w2)
  have HB0 : Hid (Below w2.heap.size w2 (w2.alloc (.cells #[] 46))) := (Below.refl _ _).alloc (Nat.le_refl _) _
  have k0 : (w2.alloc (.cells #[] 46)).cell? ⟨w.heap.size, 0, none⟩ = some (.int .i64 (nn : Int)) := (HC.out _ HB0.out).1.1
  clear HFe hEs G2 G2b G1 cw0 cw1
  go_wp2
  go_loopw [7, 21] (fun r i wr => ∃ (k m c' : Nat) (a' : Option Addr) (R : List Rw), k ≤ nn ∧ m ≤ k ∧ i = .int .i64 (k : Int) ∧ r = .slice a' m c' ∧ Hid (ftK (fE ls lv) nn k = some (rts R)) ∧ FB wr w2.heap.size wr.heap.size a' m c' R ∧ Below w2.heap.size w2 wr) (fun _ i _ => nn - (intOf i).toNat)
  case atStart => exact ⟨0, 0, 0, _, [], by omega, by omega, rfl, rfl, rfl, HF0.out, HB0.out⟩
  case round =>
    obtain ⟨k, m, c', a', R, hk, hm, rfl, rfl, HK, hfb, hb⟩ := hrel
    clear HF0 HB0 k0
    obtain ⟨⟨k0, k1⟩, bx⟩ := HC.out wr hb
    have hz := hb.size
    by_cases hlt : k < nn
    · have hsh := ft_short HE.out hn12 hk HK.out
      have hba : Below wr.heap.size wr (wr.alloc (.cells #[.int .i64 (k : Int)] 3)) := (Below.refl _ _).alloc (Nat.le_refl _) _
      have HPt := hideIt (placeTold_any (rts R) (k : Int) (fun t ht => by have := hsh t ht; omega) m a' c' (by omega) (some ⟨wr.heap.size, 0, none⟩) 1 (wr.alloc (.cells #[.int .i64 (k : Int)] 3)) (hfb.ts.up hba) (is_one wr (k : Int)))
      by_cases hin : (k : Int) ∈ (rts R).flatten
      · have hpos := ft_in.1 hin
        have HK2 := hideIt (ftK_there HK.out hin)
        obtain ⟨j, hj⟩ : ∃ j, trI (rts R) (k : Int) = j := ⟨_, rfl⟩
        rw [hj] at HPt hpos
        have d1 : decide (j < 0) = false := decide_eq_false (by omega)
        have HFB := hideIt (hfb.keep hba)
        have HB := hideIt (hb.trans (hba.mono hz))
        clear hin hj hsh hfb hb hba HK
        go_wp2_with (go_at_call 73; refine HPt.out.mono ?_; rintro e w3 ⟨rfl, hb3⟩)
        exact ⟨⟨k + 1, m, c', a', R, by omega, by omega, by go_num, rfl, HK2, HFB.out.keep hb3, HB.out.trans (hb3.mono (by simp; omega))⟩, by simp [intOf]; omega⟩
      · have hneg : trI (rts R) (k : Int) = -1 := by
          rcases trI_cases (rts R) (k : Int) with ⟨q, t, h1, h2, h3⟩ | ⟨_, h2⟩
          · exact absurd (List.mem_flatten.2 ⟨t, List.mem_of_getElem? h1, h2⟩) hin
          · exact h2
        rw [hneg] at HPt
        obtain ⟨t, sn, hw⟩ : ∃ t sn, wk (fE ls lv) nn nn (k : Int) (-1) [] = some (t, sn) := by
          cases hw : wk (fE ls lv) nn nn (k : Int) (-1) [] with
          | none =>
            have := ftK_none (ftK_ring HK.out hin hw) nn (by omega)
            rw [HTS.out] at this
            cases this
          | some p => exact ⟨p.1, p.2, rfl⟩
        have htB := (wk_tree HE.out hn12 (by omega) (by omega) hw).1
        have htl := tB_len htB
        have HK2 : Hid (∀ r : Rw, r.t = t → ftK (fE ls lv) nn (k + 1) = some (rts (R ++ [r]))) := fun r hr => by rw [ftK_new HK.out hin hw, rts_snoc, hr]
        have HW := hideIt hw
        have HFB := hideIt (hfb.keep hba)
        have HB := hideIt (hb.trans (hba.mono hz))
        clear hin hneg hsh hfb hb hba HK hw htB
        go_wp2_with (go_at_call 73; refine HPt.out.mono ?_; rintro e w3 ⟨rfl, hb3⟩; refine Hid.out ?_)
        refine (show ∀ {p : Prop}, p → Hid p from fun h => h) ?_
        have HFB3 := hideIt (HFB.out.keep hb3)
        have B3 := HB.out.trans (hb3.mono (by simp; omega))
        have z3 := B3.size
        have HB3 := hideIt B3
        obtain ⟨⟨e0, e1⟩, _⟩ := HC.out _ B3
        have HTo := hideIt (HT.out g m2 c2 k t sn w3 hlt HW.out (by omega) (HEs.out.up B3))
        clear HPt hb3 B3 HFB HB k0 k1 bx
        go_wp2_with (go_at_call 86; refine HTo.out.mono ?_; rintro e w4 ⟨a4, m4, c4, rfl, ho4, hb4⟩; refine Hid.out ?_)
        refine (show ∀ {p : Prop}, p → Hid p from fun h => h) ?_
        have hm4 : t.length = m4 := by have := ho4.1; rw [ic_len] at this; omega
        subst hm4
        obtain ⟨g4, c4', hform, _⟩ := ho4.form (by omega)
        simp at hform
        obtain ⟨rfl, rfl⟩ := hform
        have HRw := hideIt (RwB.of_own ho4)
        have hgl := (ho4.lt g4 rfl).1
        have HFr : Hid (∀ x ∈ R, x.g ≠ g4) := fun x hx e => by have := (HFB3.out.ins x hx).2.2; omega
        have HFB4 := hideIt (HFB3.out.keep hb4)
        have B4 := HB3.out.trans (hb4.mono z3)
        have z4 := B4.size
        have HB4 := hideIt B4
        clear HTo ho4 hb4 B4 HFB3 HB3 e0 e1 HW
        go_wp2_with (at_builtin; refine wpList_append_own _ rfl _ _ 59 rfl w2.heap.size 46 i0 _ 1 24 Tryz.underlying59 hi hz0 hz1 hz2 rfl (by decide) _ _ _ rfl (HFB4.out.own.alloc _) ⟨w4.heap.size, 0, none⟩ 1 1 [.slice (some ⟨g4, 0, none⟩) t.length c4] rfl rfl (newsV9 w4 _) (by intro y hy; simp at hy; subst hy; rfl) (by unfold maxLen; omega) (by omega) (by simp; omega) ?_)
        intro v5 w5 hown5 hg5 _
        obtain ⟨a5, c5, rfl, F5⟩ := HFB4.out.app (r := ⟨g4, c4, t⟩) HRw.out (by show w2.heap.size ≤ g4; omega) HFr.out hown5 hg5
        have HF5 := hideIt F5
        have HB5 : Hid (Below w2.heap.size w2 w5) := (HB4.out.alloc z4 _).grown hg5 (by simp; omega) (fun j hj => (HFB4.out.own.lt j hj).1)
        clear hown5 hg5 F5 HFB4 HB4
        go_wp2
        exact ⟨⟨k + 1, m + 1, c5, a5, R ++ [⟨g4, c4, t⟩], by omega, by omega, by go_num, rfl, HK2.out _ rfl, HF5.out, HB5.out⟩, by simp [intOf]; omega⟩
    · obtain rfl : k = nn := by omega
      have HR : Hid (rts R = ts) := by show _ = _; have := HK.out; rw [HTS.out] at this; exact (Option.some.inj this).symm
      have r0 := bx.cell0
      have r1 := bx.cell1
      have q0 := bx.frozen 0
      have q1 := bx.frozen 1
      have HFB := hideIt hfb
      have HG : Hid (Good w wr) := (wf2_good w (k : Int) a n c).trans ((HG2.out.trans (hb.mono z2)).mono (by omega))
      clear hfb hb HK
      go_wp2
      refine bodyPost_ret (v := .tuple #[.agg #[.int .i64 (k : Int), .slice a' m c'], .bool true]) (by simp [results, Tryz.results62, go_sem, r0, r1]) rfl ⟨a', m, c', R, rfl, ?_, HR.out, ?_⟩
      · have h1 := (HFB.out.setLow (x := w.heap.size + 1) (by omega) 0 (.int .i64 (k : Int))).setLow (x := w.heap.size + 1) (by omega) 1 (.slice a' m c')
        exact (h1.lo (by omega)).hi (by simp [World.setCell]) (Nat.le_refl _)
      · exact (HG.out.setCell (p := ⟨w.heap.size + 1, 0, none⟩) (by show _ ≤ w.heap.size + 1; omega) _).setCell (p := ⟨w.heap.size + 1, 1, none⟩) (by show _ ≤ w.heap.size + 1; omega) _
end Go.Proofs.YtgjngaaibcmgmabGreat
namespace Go.Proofs.YtgjngaaibcmgmabGreat
open Go.RowKit

/-- behind the web's box, the answer's and the forest's -/
def wf3 (w : World) (N : Int) (a : Option Addr) (n c : Nat) : World := (wf2 w N a n c).alloc (.cells #[.int .i64 N, .slice none 0 0] 61)
theorem wf3_size (w : World) (N : Int) (a : Option Addr) (n c : Nat) : (wf3 w N a n c).heap.size = w.heap.size + 3 := by simp [wf3, wf2, wW]
theorem wf3_good (w : World) (N : Int) (a : Option Addr) (n c : Nat) : Good w (wf3 w N a n c) := (wf2_good w N a n c).alloc _
/-- what lies below w2: the boxes, the edges -/
structure LowS (w : World) (N : Int) (a : Option Addr) (n c : Nat) (w2 : World) (v : Value) (u : World) : Prop where
  box : Box7 u (w.heap.size + 2) 61 (.int .i64 N) v
  out : Box7 u (w.heap.size + 1) 61 (.int .i64 0) (.slice none 0 0)
  inn : Box7 u w.heap.size 29 (.int .i64 N) (.slice a n c)
  old : Below w.heap.size w u
  es : ∀ k, w.heap.size + 3 ≤ k → k < w2.heap.size → u.heap[k]? = w2.heap[k]?
  size : w2.heap.size ≤ u.heap.size
theorem LowS.start {w : World} {N : Int} {a : Option Addr} {n c : Nat} {w2 : World} (h : Below (w.heap.size + 3) (wf3 w N a n c) w2) : LowS w N a n c w2 (.slice none 0 0) w2 := by
  have b1 : Box7 (wf3 w N a n c) w.heap.size 29 (.int .i64 N) (.slice a n c) := ((Box7.new w _ _ _ _ rfl).alloc _).alloc _
  have b2 : Box7 (wf3 w N a n c) (w.heap.size + 1) 61 (.int .i64 0) (.slice none 0 0) := (Box7.new _ _ _ _ _ (by simp [wW])).alloc _
  have b3 : Box7 (wf3 w N a n c) (w.heap.size + 2) 61 (.int .i64 N) (.slice none 0 0) := Box7.new _ _ _ _ _ (by simp [wf2, wW])
  exact ⟨b3.below h (by omega), b2.below h (by omega), b1.below h (by omega), (wf3_good w N a n c).trans (h.mono (by omega)), fun _ _ _ => rfl, Nat.le_refl _⟩
theorem LowS.up {w : World} {N : Int} {a : Option Addr} {n c : Nat} {w2 : World} {v : Value} {u u' : World} (h : LowS w N a n c w2 v u) (hw2 : w.heap.size + 3 ≤ w2.heap.size) (hb : Below w2.heap.size u u') : LowS w N a n c w2 v u' :=
  ⟨h.box.below hb (by omega), h.out.below hb (by omega), h.inn.below hb (by omega), h.old.trans (hb.mono (by omega)), fun k h1 h2 => by rw [hb.block k h2]; exact h.es k h1 h2, Nat.le_trans h.size hb.size⟩
theorem LowS.set {w : World} {N : Int} {a : Option Addr} {n c : Nat} {w2 : World} {v : Value} {u : World} (h : LowS w N a n c w2 v u) (x : Value) : LowS w N a n c w2 x (u.setCell ⟨w.heap.size + 2, 1, none⟩ x) :=
  ⟨h.box.set1 x, h.out.setOther x (by omega), h.inn.setOther x (by omega), h.old.setCell (p := ⟨w.heap.size + 2, 1, none⟩) (by show _ ≤ w.heap.size + 2; omega) x, fun k h1 h2 => by rw [heap_setCell_other u ⟨w.heap.size + 2, 1, none⟩ k x (by show k ≠ w.heap.size + 2; omega)]; exact h.es k h1 h2, by have := h.size; simpa [World.setCell] using this⟩
/-- the list of edges is still there -/
theorem LowS.edges {w : World} {N : Int} {a : Option Addr} {n c : Nat} {w2 : World} {v : Value} {u : World} (h : LowS w N a n c w2 v u) {g mE cE : Nat} {es : List EdgeV}
    (he : w2.ownsRow (w.heap.size + 3) 37 2 (.slice (some ⟨g, 0, none⟩) mE cE) mE (ecells es)) : Es u u.heap.size (some ⟨g, 0, none⟩) mE es := by
  have h2 : u.ownsRow (w.heap.size + 3) 37 2 (.slice (some ⟨g, 0, none⟩) mE cE) mE (ecells es) := by
    refine ⟨he.1, ?_⟩
    rcases he.2 with ⟨h3, _⟩ | ⟨g2, cap, cur, hv, hg, hcur, hrest⟩
    · simp at h3
    · refine .inr ⟨g2, cap, cur, hv, hg, ?_, hrest⟩
      have hgl := he.lt g2 (by rw [hv]; rfl)
      rw [h.es g2 hgl.1 hgl.2]
      exact hcur
  exact Es_of_own h2
/-- rows of other sorts do not meet -/
theorem own_kind {u : World} {lo e s n lo' e' s' n' : Nat} {v v' : Value} {xs xs' : List Value} (h : u.ownsRow lo e s v n xs) (h' : u.ownsRow lo' e' s' v' n' xs') (hne : e ≠ e') : v.ownBlock = none ∨ v.ownBlock ≠ v'.ownBlock := by
  rcases h.2 with ⟨rfl, _⟩ | ⟨g, cap, cur, rfl, hb, hg, rest⟩
  · exact .inl rfl
  · refine .inr fun e1 => ?_
    rcases h'.2 with ⟨rfl, _⟩ | ⟨g', cap', cur', rfl, hb', hg', rest'⟩
    · simp [Value.ownBlock] at e1
    · simp [Value.ownBlock] at e1
      subst e1
      rw [hg] at hg'
      simp at hg'
      exact hne hg'.2
theorem FB.other {u v : World} {lo : Nat} {a : Option Addr} {n c : Nat} {R : List Rw} (h : FB u lo u.heap.size a n c R) {lo' e' s' n' : Nat} {x' : Value} {xs' : List Value} (hd : u.ownsRow lo' e' s' x' n' xs') (hty : 46 ≠ e') (hap : ∀ r ∈ R, x'.ownBlock ≠ some r.g) (hg : u.grownBy v x'.ownBlock) : FB v lo v.heap.size a n c R := by
  have ho := World.ownsRow.kept h.own hg (own_kind h.own hd hty)
  refine ⟨h.len, ho, fun g hg2 => (ho.lt g hg2).2, Nat.le_refl _, fun r hr => ?_, h.nod⟩
  have h1 := h.ins r hr
  have h2 := h1.1.grown hg (hap r hr)
  exact ⟨h2, h1.2.1, h2.lt⟩
theorem own_grown {u u' : World} {lo : Nat} {o : Obj} {x : Value} {e s n : Nat} {xs : List Value} (h : u.ownsRow lo e s x n xs) (hg : (u.alloc o).grownBy u' x.ownBlock) (hl : lo ≤ u.heap.size) : Below lo u u' :=
  ((Below.refl lo u).alloc hl o).grown hg (by simp; omega) (fun j hj => (h.lt j hj).1)
theorem own_grown' {u u' : World} {lo : Nat} {x : Value} {e s n : Nat} {xs : List Value} (h : u.ownsRow lo e s x n xs) (hg : u.grownBy u' x.ownBlock) (hl : lo ≤ u.heap.size) : Below lo u u' :=
  (Below.refl lo u).grown hg hl (fun j hj => (h.lt j hj).1)
theorem flat_snoc (ts : List (List Int)) (t : List Int) : (ts ++ [t]).flatten = ts.flatten ++ t := by simp
theorem flat_len {ts : List (List Int)} (h : ∀ t ∈ ts, t.length ≤ 23) : ts.flatten.length ≤ 23 * ts.length := by
  induction ts with
  | nil => simp
  | cons t ts ih =>
    have h1 := h t (by simp)
    have h2 := ih fun s hs => h s (by simp [hs])
    simp only [List.flatten_cons, List.length_append, List.length_cons]
    omega
theorem ic_app (a b : List Int) : ic (a ++ b) = ic a ++ ic b := by simp [ic]

set_option maxRecDepth 100000 in
set_option maxHeartbeats 4000000 in
theorem sForestAt_any (nn : Nat) (ls : List Ld) (lv : Int) (n : Nat) (a : Option Addr) (c : Nat) (hn1 : 1 ≤ nn) (hn12 : nn ≤ 12) (hG : gB (nn : Int) (gE ls) = true) (w : World) (h : Ls w w.heap.size a n ls) :
    Calls Tryz.prog 32 #[.agg #[.int .i64 (nn : Int), .slice a n c], .int .i64 lv] w (FAn9 w (nn : Int) (ftK (fE ls lv) nn nn)) := by
  obtain ⟨i0, hi, hz0, hz1, hz2⟩ := info_parts infoIT9
  obtain ⟨j0, hj, hy0, hy1, hy2⟩ := info_parts info3i
  have hlen := h.1
  have h66 : n ≤ 66 := by have := (gB_chk hG).2.2; rw [gE_len] at this; omega
  have HE := hideIt (fE_ends hG lv)
  have HI1 := l01In_any (nn : Int) 1 12
  have HIn : Hid (∀ u, Calls Tryz.prog 31 #[.int .i64 (nn : Int), .int .i64 1, .int .i64 12] u fun e w' => e = .returned (.bool true) ∧ w' = u) := fun u => by
    have := HI1 u
    rw [decide_eq_true (by omega)] at this
    exact this
  have HT := hideIt (l08Tree_any (nn : Int) ls lv n a c (by omega) _ (h.up (wf3_good w (nn : Int) a n c)))
  have HTo : Hid (∀ (g m c' k : Nat) (t sn : List Int) (u : World), k < nn → wk (fE ls lv) nn nn (k : Int) (-1) [] = some (t, sn) → t.length ≤ 23 → Es u u.heap.size (some ⟨g, 0, none⟩) m (fE ls lv) → Calls Tryz.prog 56 #[.int .i64 (nn : Int), .slice (some ⟨g, 0, none⟩) m c', .int .i64 (k : Int)] u fun e w' => ∃ a' m c', e = .returned (.tuple #[.slice a' m c', .bool true]) ∧ w'.ownsRow u.heap.size 3 1 (.slice a' m c') m (ic t) ∧ Below u.heap.size u w') := fun g m c' k t sn u hk hw htl hu =>
    sTourOf_any (fE ls lv) nn m k (some ⟨g, 0, none⟩) c' t sn hn1 hn12 (by have := hu.1; have := fE_len ls lv; omega) hk (fun e he => gB_eB hG (fE_g he)) hw (by omega) u hu
  have HTr : Hid (∀ (g m c' k : Nat) (u : World), k < nn → wk (fE ls lv) nn nn (k : Int) (-1) [] = none → Es u u.heap.size (some ⟨g, 0, none⟩) m (fE ls lv) → Calls Tryz.prog 56 #[.int .i64 (nn : Int), .slice (some ⟨g, 0, none⟩) m c', .int .i64 (k : Int)] u fun e w' => ∃ a' c', e = .returned (.tuple #[.slice a' 0 c', .bool false]) ∧ Below u.heap.size u w') := fun g m c' k u hk hw hu =>
    sTourOf_ring (fE ls lv) nn m k (some ⟨g, 0, none⟩) c' hn1 hn12 (by have := hu.1; have := fE_len ls lv; omega) hk (fun e he => gB_eB hG (fE_g he)) hw u hu
  clear h hG HI1
  go_enter Tryz.func32, Tryz.ntmps32
  go_wp2_with (go_at_call 54; refine HT.out.mono ?_; rintro e w2 ⟨g, mE, cE, rfl, hoE, hb2⟩; refine Hid.out ?_)
  refine (show ∀ {p : Prop}, p → Hid p from fun h => h) ?_
  rw [wf3_size] at hoE hb2
  have z2 := hb2.size
  rw [wf3_size] at z2
  have hL0 := LowS.start hb2
  have HOE := hideIt hoE
  have k0 := hL0.inn.cell0
  have HL0 := hideIt (hL0.up z2 ((Below.refl _ _).alloc (Nat.le_refl _) (.cells #[] 3)))
  have HD0 : Hid ((w2.alloc (.cells #[] 3)).ownsRow w2.heap.size 3 1 (.slice (some ⟨w2.heap.size, 0, none⟩) 0 0) 0 (ic [])) := by
    show World.ownsRow _ _ _ _ _ _ _
    have h0 := World.ownsRow_lit (base := w2.heap.size) (e := 3) (size := 1) w2 #[] 0 (Nat.le_refl _) (by unfold maxLen; omega) (by simp)
    simpa [ic] using h0
  have HF0 : Hid (FB (w2.alloc (.cells #[] 3)) w2.heap.size (w2.alloc (.cells #[] 3)).heap.size none 0 0 []) := FB.nil _ _
  clear HT hoE hb2 hL0
  go_wp2_with (go_at_call 31; refine (HIn.out _).mono ?_; rintro e w1 ⟨rfl, hw⟩; have hw' := hw.symm; subst hw'; clear hw)
  go_loopw [8, 9] (fun d i wr => ∃ (k m c' md cd : Nat) (a' ad : Option Addr) (R : List Rw), k ≤ nn ∧ m ≤ k ∧ md ≤ 23 * k ∧ i = .int .i64 (k : Int) ∧ d = .slice ad md cd ∧ Hid (ftK (fE ls lv) nn k = some (rts R)) ∧ LowS w (nn : Int) a n c w2 (.slice a' m c') wr ∧ FB wr w2.heap.size wr.heap.size a' m c' R ∧ wr.ownsRow w2.heap.size 3 1 (.slice ad md cd) md (ic (rts R).flatten) ∧ Hid (∀ x ∈ R, (Value.slice ad md cd).ownBlock ≠ some x.g)) (fun _ i _ => nn - (intOf i).toNat)
  case atStart => exact ⟨0, 0, 0, 0, 0, none, _, [], by omega, by omega, by omega, rfl, rfl, rfl, HL0.out, HF0.out, HD0.out, fun x hx => by simp at hx⟩
  case round =>
    obtain ⟨k, m, c', md, cd, a', ad, R, hk, hm, hmd, rfl, rfl, HK, hL, hfb, hd, HAp⟩ := hrel
    clear HL0 HD0 HF0 k0
    have k0 := hL.inn.cell0
    have hz := hL.size
    by_cases hlt : k < nn
    · have HIn2 := hideIt (l05In_any (rts R).flatten (k : Int) md ad cd (by omega) wr (Is_of_own hd))
      by_cases hin : (k : Int) ∈ (rts R).flatten
      · rw [decide_eq_true hin] at HIn2
        have HK2 := hideIt (ftK_there HK.out hin)
        have HL := hideIt hL
        have HFB := hideIt hfb
        have HD := hideIt hd
        clear hin hL hfb hd HK
        go_wp2_with (go_at_call 55; refine HIn2.out.mono ?_; rintro e w1 ⟨rfl, hw⟩; have hw' := hw.symm; subst hw'; clear hw)
        exact ⟨⟨k + 1, m, c', md, cd, a', ad, R, by omega, by omega, by omega, by go_num, rfl, HK2, HL.out, HFB.out, HD.out, HAp⟩, by simp [intOf]; omega⟩
      · rw [decide_eq_false hin] at HIn2
        cases hw : wk (fE ls lv) nn nn (k : Int) (-1) [] with
        | none =>
          have HN := hideIt (ftK_none (ftK_ring HK.out hin hw) nn (by omega))
          have HT2 := hideIt (HTr.out g mE cE k wr hlt hw (hL.edges HOE.out))
          have HL := hideIt hL
          clear hin hw hL hfb hd HK
          go_wp2_with (first | (go_at_call 55; refine HIn2.out.mono ?_; rintro e w1 ⟨rfl, hw⟩; have hw' := hw.symm; subst hw'; clear hw) | (go_at_call 56; refine HT2.out.mono ?_; rintro e w4 ⟨a4, c4, rfl, hb4⟩; refine Hid.out ?_))
          refine (show ∀ {p : Prop}, p → Hid p from fun h => h) ?_
          have hL4 := HL.out.up z2 (hb4.mono hz)
          have r0 := hL4.out.cell0
          have r1 := hL4.out.cell1
          have q0 := hL4.out.frozen 0
          have q1 := hL4.out.frozen 1
          have HOl := hideIt hL4.old
          clear HT2 hb4 hL4
          go_wp2
          rw [HN.out]
          refine bodyPost_ret (v := .tuple #[.agg #[.int .i64 0, .slice none 0 0], .bool false]) (by simp [results, Tryz.results32, go_sem, r0, r1]) rfl ⟨none, 0, 0, [], rfl, FB.nil _ _, rfl, ?_⟩
          exact (HOl.out.setCell (p := ⟨w.heap.size + 1, 0, none⟩) (by show _ ≤ w.heap.size + 1; omega) _).setCell (p := ⟨w.heap.size + 1, 1, none⟩) (by show _ ≤ w.heap.size + 1; omega) _
        | some p =>
          obtain ⟨t, sn⟩ := p
          have htl := tB_len (wk_tree HE.out hn12 (by omega) (by omega) hw).1
          have HK2 : Hid (∀ r : Rw, r.t = t → ftK (fE ls lv) nn (k + 1) = some (rts (R ++ [r]))) := fun r hr => by rw [ftK_new HK.out hin hw, rts_snoc, hr]
          have HT2 := hideIt (HTo.out g mE cE k t sn wr hlt hw (by omega) (hL.edges HOE.out))
          have HL := hideIt hL
          have HFB := hideIt hfb
          have HD := hideIt hd
          clear hin hw hL hfb hd HK
          go_wp2_with (first | (go_at_call 55; refine HIn2.out.mono ?_; rintro e w1 ⟨rfl, hw⟩; have hw' := hw.symm; subst hw'; clear hw) | (go_at_call 56; refine HT2.out.mono ?_; rintro e w4 ⟨a4, m4, c4, rfl, ho4, hb4⟩; refine Hid.out ?_))
          refine (show ∀ {p : Prop}, p → Hid p from fun h => h) ?_
          have hm4 : t.length = m4 := by have := ho4.1; rw [ic_len] at this; omega
          subst hm4
          obtain ⟨g4, c4', hform, _⟩ := ho4.form (by omega)
          simp at hform
          obtain ⟨rfl, rfl⟩ := hform
          have hgl := (ho4.lt g4 rfl).1
          have HRw := hideIt (RwB.of_own ho4)
          have HL4 := hideIt (HL.out.up z2 (hb4.mono hz))
          have HFB4 := hideIt (HFB.out.keep hb4)
          have HD4 := hideIt (own_up HD.out hb4)
          have HFr : Hid (∀ x ∈ R, x.g ≠ g4) := fun x hx e => by have := (HFB.out.ins x hx).2.2; omega
          have HDg : Hid ((Value.slice ad md cd).ownBlock ≠ some g4) := fun e => by have := (HD.out.lt g4 e).2; omega
          have z4 := HL4.out.size
          have e0 := HL4.out.box.cell1
          have e1 := HL4.out.box.frozen 1
          clear HT2 ho4 hb4 HL HFB HD k0 HIn2
          go_wp2_with (at_builtin; refine wpList_append_own _ rfl _ _ 59 rfl w2.heap.size 46 i0 _ 1 24 Tryz.underlying59 hi hz0 hz1 hz2 rfl (by decide) _ _ _ rfl (HFB4.out.own.alloc _) ⟨w4.heap.size, 0, none⟩ 1 1 [.slice (some ⟨g4, 0, none⟩) t.length c4] rfl rfl (newsV9 w4 _) (by intro y hy; simp at hy; subst hy; rfl) (by unfold maxLen; omega) (by omega) (by simp; omega) ?_)
          intro v5 w5 hown5 hg5 _
          obtain ⟨a5, c5, rfl, F5⟩ := HFB4.out.app (r := ⟨g4, c4, t⟩) HRw.out (by show w2.heap.size ≤ g4; omega) HFr.out hown5 hg5
          have hbl5 := own_grown HFB4.out.own hg5 z4
          have HL5 := hideIt (HL4.out.up z2 hbl5)
          have hd5 := World.ownsRow.kept (HD4.out.alloc (.cells #[.slice (some ⟨g4, 0, none⟩) t.length c4] 46)) hg5 (by
            rcases own_kind HD4.out HFB4.out.own (by decide) with h1 | h1
            · exact .inl h1
            · exact .inr h1)
          have HD5 := hideIt hd5
          have HF5 := hideIt F5
          have x0 := HL5.out.box.cell1
          have x1 := HL5.out.box.frozen 1
          clear hown5 hg5 F5 HFB4 HL4 HD4 hbl5 hd5 e0 e1
          have HL6 := hideIt (HL5.out.set (.slice a5 (m + 1) c5))
          have HF6 := hideIt ((HF5.out.setLow (x := w.heap.size + 2) (by omega) 1 (.slice a5 (m + 1) c5)).hi (hi' := (w5.setCell ⟨w.heap.size + 2, 1, none⟩ (.slice a5 (m + 1) c5)).heap.size) (by simp [World.setCell]) (Nat.le_refl _))
          have HD6 := hideIt (own_setLow HD5.out (w.heap.size + 2) 1 (.slice a5 (m + 1) c5) (by omega))
          refine Hid.out ?_
          refine (show ∀ {p : Prop}, p → Hid p from fun h => h) ?_
          have hIs : Is (w5.setCell ⟨w.heap.size + 2, 1, none⟩ (.slice a5 (m + 1) c5)) (w5.setCell ⟨w.heap.size + 2, 1, none⟩ (.slice a5 (m + 1) c5)).heap.size (some ⟨g4, 0, none⟩) t.length t := (HF6.out.ins ⟨g4, c4, t⟩ (by simp)).1.is
          have HN6 := hideIt hIs.news
          have HN6l : Hid ((ic t).length = t.length * 1) := by show _ = _; rw [ic_len]; omega
          have z6 := HL6.out.size
          have hmdl : md ≤ 300 := by omega
          clear hIs HL5 HF5 HD5
          go_wp2_with (at_builtin; refine wpList_append_lies _ rfl _ _ 46 rfl w2.heap.size 3 j0 _ 1 8 Tryz.underlying46 hj hy0 hy1 hy2 rfl (by decide) _ _ _ rfl HD6.out ⟨g4, 0, none⟩ t.length c4 (ic t) rfl HN6l.out HN6.out ic_one (by omega) (by unfold maxLen; omega) (by omega) z6 _ rfl ?_)
          intro g7 c7 w7 hown7 hg7 hnew7 _
          have HB7 := own_grown' HD6.out hg7 z6
          have HL7 := hideIt (HL6.out.up z2 HB7)
          have HF7 := hideIt (HF6.out.other HD6.out (by decide) (fun r hr => by
            rcases List.mem_append.1 hr with h1 | h1
            · exact HAp.out r h1
            · simp at h1; subst h1; exact HDg.out) hg7)
          have HD7 : Hid (w7.ownsRow w2.heap.size 3 1 (.slice (some ⟨g7, 0, none⟩) (md + t.length) c7) (md + t.length) (ic (rts (R ++ [⟨g4, c4, t⟩])).flatten)) := by
            show World.ownsRow _ _ _ _ _ _ _
            rw [rts_snoc, flat_snoc, ic_app]
            exact hown7
          have HAp7 : Hid (∀ x ∈ R ++ [⟨g4, c4, t⟩], (Value.slice (some ⟨g7, 0, none⟩) (md + t.length) c7).ownBlock ≠ some x.g) := fun x hx e => by
            have e2 : g7 = x.g := by simpa [Value.ownBlock] using e
            have hx6 := (HF6.out.ins x hx).2.2
            rcases hnew7 with h1 | h1
            · rcases List.mem_append.1 hx with h2 | h2
              · exact HAp.out x h2 (by rw [h1, e2])
              · simp at h2
                subst h2
                exact HDg.out (by rw [h1, e2])
            · have h3 : (w5.setCell ⟨w.heap.size + 2, 1, none⟩ (.slice a5 (m + 1) c5)).heap.size = w5.heap.size := by simp [World.setCell]
              rw [h3] at hx6
              have h4 : g7 = w5.heap.size := by rw [h1]
              omega
          clear hown7 hg7 hnew7 HB7 HL6 HF6 HD6 HN6 HN6l x0 x1
          go_wp2
          exact ⟨⟨k + 1, m + 1, c5, md + t.length, c7, a5, some ⟨g7, 0, none⟩, R ++ [⟨g4, c4, t⟩], by omega, by omega, by omega, by go_num, rfl, HK2.out _ rfl, HL7.out, HF7.out, HD7.out, HAp7⟩, by simp [intOf]; omega⟩
    · obtain rfl : k = nn := by omega
      have r0 := hL.out.cell0
      have r1 := hL.out.cell1
      have q0 := hL.out.frozen 0
      have q1 := hL.out.frozen 1
      have e0 := hL.box.cell0
      have e1 := hL.box.cell1
      have HFB := hideIt hfb
      have HOl := hideIt hL.old
      clear hfb hd hL
      go_wp2
      rw [HK.out]
      refine bodyPost_ret (v := .tuple #[.agg #[.int .i64 (k : Int), .slice a' m c'], .bool true]) (by simp [results, Tryz.results32, go_sem, r0, r1]) rfl ⟨a', m, c', R, rfl, ?_, rfl, ?_⟩
      · exact ((HFB.out.setLow (x := w.heap.size + 1) (by omega) 0 (.int .i64 (k : Int))).setLow (x := w.heap.size + 1) (by omega) 1 (.slice a' m c')).lo (by omega) |>.hi (by simp [World.setCell]) (Nat.le_refl _)
      · exact (HOl.out.setCell (p := ⟨w.heap.size + 1, 0, none⟩) (by show _ ≤ w.heap.size + 1; omega) _).setCell (p := ⟨w.heap.size + 1, 1, none⟩) (by show _ ≤ w.heap.size + 1; omega) _
end Go.Proofs.YtgjngaaibcmgmabGreat
namespace Go.Proofs.YtgjngaaibcmgmabGreat
open Go.RowKit

set_option maxRecDepth 100000 in
set_option maxHeartbeats 4000000 in
theorem sGraphOf_any (N : Int) (ls : List Ld) (n : Nat) (a : Option Addr) (c : Nat) (hn : n ≤ 1048576) (w : World) (h : Ls w w.heap.size a n ls) :
    Calls Tryz.prog 30 #[.agg #[.int .i64 N, .slice a n c]] w fun e w' => ∃ a' c', e = .returned (.agg #[.int .i64 N, .slice a' n c']) ∧ w'.ownsRow w.heap.size 37 2 (.slice a' n c') n (ecells (gE ls)) ∧ Below w.heap.size w w' := by
  obtain ⟨i0, hi, hz0, hz1, hz2⟩ := info_parts infoIE
  have HR := hideIt h
  have hlen := h.1
  clear h
  go_enter Tryz.func30, Tryz.ntmps30
  go_wp2
  go_loopw [4] (fun i wr => ∃ (k : Nat) (a' : Option Addr) (c' : Nat), k ≤ n ∧ i = .int .i64 (k : Int) ∧ Box7 wr w.heap.size 29 (.int .i64 N) (.slice a n c) ∧ Box7 wr (w.heap.size + 1) 54 (.int .i64 0) (.slice none 0 0) ∧ Box7 wr (w.heap.size + 1 + 1) 54 (.int .i64 N) (.slice a' k c') ∧
      wr.ownsRow (w.heap.size + 1 + 1 + 1) 37 2 (.slice a' k c') k (ecells (gE (ls.take k))) ∧ Below w.heap.size w wr) (fun i _ => n - (intOf i).toNat)
  case atStart =>
    refine ⟨0, none, 0, by omega, rfl, ?_, ?_, ?_, by simpa [gE, ecells] using World.ownsRow_nil _ _ _ _, ?_⟩
    · exact ((Box7.new w _ _ _ _ rfl).alloc _).alloc _
    · exact (Box7.new _ _ _ _ _ (by simp)).alloc _
    · exact Box7.new _ _ _ _ _ (by simp)
    · exact (((Below.refl _ _).alloc (Nat.le_refl _) _).alloc (by simp) _).alloc (by simp; omega) _
  case round =>
    obtain ⟨k, a', c', hk, rfl, x0, x1, x2, hown, hb⟩ := hrel
    have e0 := x0.cell1
    have e1 := x2.cell1
    have e2 := x2.frozen 1
    have l2 := x2.lt
    by_cases hlt : k < n
    · obtain ⟨b, off, x, rfl, hbl, hxk, hat⟩ := (HR.out.below hb (Nat.le_refl _)).at hlt
      have d0 := hat.ca
      have d1 := hat.cb
      have b1 : (0 : Int) ≤ (k : Int) := by omega
      have b2 : (k : Int) < (n : Int) := by omega
      have HX : Hid (ecells (gE (ls.take (k + 1))) = ecells (gE (ls.take k)) ++ [.int .i64 x.a, .int .i64 x.b]) := by
        show _ = _
        rw [take_snocF ls k x hxk]
        simp [gE, Ld.e, ecells, ecell]
      have hrow : ∀ q, q < w.heap.size + 1 + 1 + 1 → some q ≠ (Value.slice a' k c').ownBlock := fun q hq e => by
        have := (hown.lt q e.symm).1
        omega
      have HK : Hid (∀ w1 : World, ((wr.alloc (.cells #[.int .i64 x.a, .int .i64 x.b] 37)).drew).grownBy w1 (Value.slice a' k c').ownBlock →
          (w1.cell? ⟨w.heap.size, 1, none⟩ = some (.slice (some ⟨b, off, none⟩) n c) ∧ w1.cell? ⟨b, off + k * 4, none⟩ = some (.int .i64 x.a) ∧ w1.cell? ⟨b, off + k * 4 + 1, none⟩ = some (.int .i64 x.b)) ∧
          Box7 w1 w.heap.size 29 (.int .i64 N) (.slice (some ⟨b, off, none⟩) n c) ∧ Box7 w1 (w.heap.size + 1) 54 (.int .i64 0) (.slice none 0 0) ∧ Box7 w1 (w.heap.size + 1 + 1) 54 (.int .i64 N) (.slice a' k c') ∧ Below w.heap.size w w1) := fun w1 hg => by
        have y0 := (x0.alloc (.cells #[.int .i64 x.a, .int .i64 x.b] 37)).grown (w' := w1) ⟨hg.os, hg.tape, hg.output, hg.size, hg.block⟩ (hrow _ (by omega))
        have y1 := (x1.alloc (.cells #[.int .i64 x.a, .int .i64 x.b] 37)).grown (w' := w1) ⟨hg.os, hg.tape, hg.output, hg.size, hg.block⟩ (hrow _ (by omega))
        have y2 := (x2.alloc (.cells #[.int .i64 x.a, .int .i64 x.b] 37)).grown (w' := w1) ⟨hg.os, hg.tape, hg.output, hg.size, hg.block⟩ (hrow _ (by omega))
        have hb1 : Below wr.heap.size wr (wr.alloc (.cells #[.int .i64 x.a, .int .i64 x.b] 37)).drew := ((Below.refl _ _).alloc (Nat.le_refl _) _).drew
        have hb2 : Below w.heap.size wr w1 := (hb1.mono hb.size).grown hg (by have := hb.size; simp; omega) (fun j hj => by have := (hown.lt j hj).1; omega)
        exact ⟨⟨y0.cell1, by rw [hb2.cell hbl]; exact d0, by rw [hb2.cell hbl]; exact d1⟩, y0, y1, y2, hb.trans hb2⟩
      have hS0 : wr.drew.cell? ⟨w.heap.size, 1, none⟩ = some (.slice (some ⟨b, off, none⟩) n c) ∧ wr.drew.cell? ⟨b, off + k * 4, none⟩ = some (.int .i64 x.a) ∧ wr.drew.cell? ⟨b, off + k * 4 + 1, none⟩ = some (.int .i64 x.b) := ⟨e0, d0, d1⟩
      have hal : Below wr.heap.size wr (wr.alloc (.cells #[.int .i64 x.a, .int .i64 x.b] 37)).drew := ((Below.refl _ _).alloc (Nat.le_refl _) _).drew
      have hbw : b < wr.heap.size := by have := hb.size; omega
      have hS1 : (wr.alloc (.cells #[.int .i64 x.a, .int .i64 x.b] 37)).drew.cell? ⟨w.heap.size, 1, none⟩ = some (.slice (some ⟨b, off, none⟩) n c) ∧ (wr.alloc (.cells #[.int .i64 x.a, .int .i64 x.b] 37)).drew.cell? ⟨b, off + k * 4, none⟩ = some (.int .i64 x.a) ∧ (wr.alloc (.cells #[.int .i64 x.a, .int .i64 x.b] 37)).drew.cell? ⟨b, off + k * 4 + 1, none⟩ = some (.int .i64 x.b) :=
        ⟨by rw [hal.cell x0.lt]; exact e0, by rw [hal.cell hbw]; exact d0, by rw [hal.cell hbw]; exact d1⟩
      have HS2 : Hid (∀ (u : World) (v : Value) (j : Nat), (u.cell? ⟨w.heap.size, 1, none⟩ = some (.slice (some ⟨b, off, none⟩) n c) ∧ u.cell? ⟨b, off + k * 4, none⟩ = some (.int .i64 x.a) ∧ u.cell? ⟨b, off + k * 4 + 1, none⟩ = some (.int .i64 x.b)) → ((u.setCell ⟨w.heap.size + 1 + 1, j, none⟩ v).cell? ⟨w.heap.size, 1, none⟩ = some (.slice (some ⟨b, off, none⟩) n c) ∧ (u.setCell ⟨w.heap.size + 1 + 1, j, none⟩ v).cell? ⟨b, off + k * 4, none⟩ = some (.int .i64 x.a) ∧ (u.setCell ⟨w.heap.size + 1 + 1, j, none⟩ v).cell? ⟨b, off + k * 4 + 1, none⟩ = some (.int .i64 x.b))) := fun u v j h => by
        rw [set_other (by omega), set_other (by omega), set_other (by omega)]
        exact h
      have HOwn := hideIt hown
      clear hxk hat hown hal
      go_wp2
      refine wp_region_held_drew (S := (fun u => u.cell? ⟨w.heap.size, 1, none⟩ = some (.slice (some ⟨b, off, none⟩) n c) ∧ u.cell? ⟨b, off + k * 4, none⟩ = some (.int .i64 x.a) ∧ u.cell? ⟨b, off + k * 4 + 1, none⟩ = some (.int .i64 x.b))) (by kernel_rfl) hS0 (fun hHeld => ?_)
      refine wpAnyH_take (i := 0) (v := ?_) rfl (by kernel_rfl) (by kernel_rfl) (by kernel_rfl) (fun _ _ _ h => h) (Or.inl ⟨by rfl, ?_⟩) (by assumption) ?_
      rotate_left
      · intro w hSw; (try dsimp only at hSw); go_simp; try with_reducible rfl
      try simp only [Act.put, List.getElem_toArray, List.getElem_cons_zero, List.setIfInBounds_toArray, List.set_cons_zero, List.set_cons_succ]
      refine wpAnyH_take (i := 2) (v := ?_) rfl (by kernel_rfl) (by kernel_rfl) (by kernel_rfl) (fun _ _ _ h => h) (Or.inl ⟨by rfl, ?_⟩) (by assumption) ?_
      rotate_left
      · intro w hSw; (try dsimp only at hSw); go_simp; try with_reducible rfl
      try simp only [Act.put, List.getElem_toArray, List.getElem_cons_succ, List.getElem_cons_zero, List.setIfInBounds_toArray, List.set_cons_zero, List.set_cons_succ]
      refine wpAnyH_take (i := 3) (v := ?_) rfl (by kernel_rfl) (by kernel_rfl) (by kernel_rfl) (fun _ _ _ h => h) (Or.inl ⟨by rfl, ?_⟩) (by assumption) ?_
      rotate_left
      · intro w hSw; (try dsimp only at hSw); go_simp; try with_reducible rfl
      try simp only [Act.put, List.getElem_toArray, List.getElem_cons_succ, List.getElem_cons_zero, List.setIfInBounds_toArray, List.set_cons_zero, List.set_cons_succ]
      refine wpAnyH_take (i := 4) (v := ?_) rfl (by kernel_rfl) (by kernel_rfl) (by kernel_rfl) (fun _ _ _ h => h) (Or.inl ⟨by rfl, ?_⟩) (by assumption) ?_
      rotate_left
      · intro w hSw; (try dsimp only at hSw); go_simp; try with_reducible rfl
      try simp only [Act.put, List.getElem_toArray, List.getElem_cons_succ, List.getElem_cons_zero, List.setIfInBounds_toArray, List.set_cons_zero, List.set_cons_succ]
      refine wpAnyH_take (i := 5) (v := ?_) rfl (by kernel_rfl) (by kernel_rfl) (by kernel_rfl) (fun _ _ _ h => h) (Or.inl ⟨by rfl, ?_⟩) (by assumption) ?_
      rotate_left
      · intro w hSw; (try dsimp only at hSw); go_simp; try with_reducible rfl
      try simp only [Act.put, List.getElem_toArray, List.getElem_cons_succ, List.getElem_cons_zero, List.setIfInBounds_toArray, List.set_cons_zero, List.set_cons_succ]
      refine wpAnyH_take (i := 6) (v := ?_) rfl (by kernel_rfl) (by kernel_rfl) (by kernel_rfl) (fun _ _ _ h => h) (Or.inl ⟨by rfl, ?_⟩) (by assumption) ?_
      rotate_left
      · intro w hSw; (try dsimp only at hSw); go_simp; try with_reducible rfl
      try simp only [Act.put, List.getElem_toArray, List.getElem_cons_succ, List.getElem_cons_zero, List.setIfInBounds_toArray, List.set_cons_zero, List.set_cons_succ]
      refine wpAnyH_take (i := 7) (v := ?_) rfl (by kernel_rfl) (by kernel_rfl) (by kernel_rfl) (fun _ _ _ h => h) (Or.inl ⟨by rfl, ?_⟩) (by assumption) ?_
      rotate_left
      · intro w hSw; (try dsimp only at hSw); go_simp; try with_reducible rfl
      try simp only [Act.put, List.getElem_toArray, List.getElem_cons_succ, List.getElem_cons_zero, List.setIfInBounds_toArray, List.set_cons_zero, List.set_cons_succ]
      refine wpAnyH_take (i := 8) (v := ?_) rfl (by kernel_rfl) (by kernel_rfl) (by kernel_rfl) (fun _ _ _ h => h) (Or.inl ⟨by rfl, ?_⟩) (by assumption) ?_
      rotate_left
      · intro w hSw; (try dsimp only at hSw); go_simp; try with_reducible rfl
      try simp only [Act.put, List.getElem_toArray, List.getElem_cons_succ, List.getElem_cons_zero, List.setIfInBounds_toArray, List.set_cons_zero, List.set_cons_succ]
      refine wpAnyH_take (i := 9) (v := ?_) rfl (by kernel_rfl) (by kernel_rfl) (by kernel_rfl) (fun _ _ _ h => h) (Or.inl ⟨by rfl, ?_⟩) (by assumption) ?_
      rotate_left
      · intro w hSw; (try dsimp only at hSw); go_simp; try with_reducible rfl
      try simp only [Act.put, List.getElem_toArray, List.getElem_cons_succ, List.getElem_cons_zero, List.setIfInBounds_toArray, List.set_cons_zero, List.set_cons_succ]
      refine wpAnyH_take (i := 10) (v := ?_) rfl (by kernel_rfl) (by kernel_rfl) (by kernel_rfl) (fun _ _ _ h => h) (Or.inl ⟨by rfl, ?_⟩) (by assumption) ?_
      rotate_left
      · intro w hSw; (try dsimp only at hSw); go_simp; try with_reducible rfl
      try simp only [Act.put, List.getElem_toArray, List.getElem_cons_succ, List.getElem_cons_zero, List.setIfInBounds_toArray, List.set_cons_zero, List.set_cons_succ]
      refine wpAnyH_take (i := 11) (v := ?_) rfl (by kernel_rfl) (by kernel_rfl) (by kernel_rfl) (fun _ _ _ h => h) (Or.inl ⟨by rfl, ?_⟩) (by assumption) ?_
      rotate_left
      · intro w hSw; (try dsimp only at hSw); go_simp; try with_reducible rfl
      try simp only [Act.put, List.getElem_toArray, List.getElem_cons_succ, List.getElem_cons_zero, List.setIfInBounds_toArray, List.set_cons_zero, List.set_cons_succ]
      refine wpAnyH_take (i := 12) (v := ?_) rfl (by kernel_rfl) (by kernel_rfl) (by kernel_rfl) (fun _ _ _ h => h) (Or.inl ⟨by rfl, ?_⟩) (by assumption) ?_
      rotate_left
      · intro w hSw; (try dsimp only at hSw); go_simp; try with_reducible rfl
      try simp only [Act.put, List.getElem_toArray, List.getElem_cons_succ, List.getElem_cons_zero, List.setIfInBounds_toArray, List.set_cons_zero, List.set_cons_succ]
      refine wpAnyH_take (i := 13) (v := ?_) rfl (by kernel_rfl) (by kernel_rfl) (by kernel_rfl) (fun _ _ _ h => h) (Or.inl ⟨by rfl, ?_⟩) (by assumption) ?_
      rotate_left
      · intro w hSw; (try dsimp only at hSw); go_simp; try with_reducible rfl
      try simp only [Act.put, List.getElem_toArray, List.getElem_cons_succ, List.getElem_cons_zero, List.setIfInBounds_toArray, List.set_cons_zero, List.set_cons_succ]
      refine wpAnyH_take (i := 14) (v := ?_) rfl (by kernel_rfl) (by kernel_rfl) (by kernel_rfl) (fun _ _ _ h => h) (Or.inl ⟨by rfl, ?_⟩) (by assumption) ?_
      rotate_left
      · intro w hSw; (try dsimp only at hSw); go_simp; try with_reducible rfl
      try simp only [Act.put, List.getElem_toArray, List.getElem_cons_succ, List.getElem_cons_zero, List.setIfInBounds_toArray, List.set_cons_zero, List.set_cons_succ]
      refine wpAnyH_ready (rs := [1, 15]) (by kernel_rfl) (by simp) ?_
      refine AllReadyH.cons rfl (fun K hK => ?_) (AllReadyH.cons rfl (fun K hK => ?_) AllReadyH.nil)
      · go_simp
        refine hK.out _ _ hS0 (fun hHeld => ?_)
        clear hK K
        try simp only [Act.put, List.getElem_toArray, List.getElem_cons_succ, List.getElem_cons_zero, List.setIfInBounds_toArray, List.set_cons_zero, List.set_cons_succ]
        refine wpAnyH_ready (rs := [15]) (by kernel_rfl) (by simp) ?_
        refine AllReadyH.cons rfl (fun K hK => ?_) AllReadyH.nil
        go_simp
        refine hK.out _ _ hS1 (fun hHeld => ?_)
        clear hK K
        try simp only [Act.put, List.getElem_toArray, List.getElem_cons_succ, List.getElem_cons_zero, List.setIfInBounds_toArray, List.set_cons_zero, List.set_cons_succ]
        refine wpAnyH_ready (rs := [16]) (by kernel_rfl) (by simp) ?_
        refine AllReadyH.cons rfl (fun K hK => ?_) AllReadyH.nil
        refine step_append_lies _ (by rfl) _ _ _ (by rfl) (w.heap.size + 1 + 1 + 1) 37 i0 _ 2 16 Tryz.underlying52 hi hz0 hz1 hz2 rfl (by omega) _ k _ (by rfl) ((HOwn.out.alloc _).drew) ⟨wr.heap.size, 0, none⟩ 1 1 [.int .i64 x.a, .int .i64 x.b] (by rfl) (by rfl) (World.news_of_block (cs := #[.int .i64 x.a, .int .i64 x.b]) (t := 37) (fr := (0, 0)) (heap_alloc_new wr _)) (by simp [Value.oneCell']) (by omega) (by unfold maxLen; omega) (by omega) (by simp; omega) (wr.heap.size + 1) (by simp) ?_
        intro g1 cap1 w1 hown1 hg1 hat1 hlt1
        obtain ⟨S1, y0, y1, y2, hb1⟩ := HK.out _ hg1
        have z1 := y2.cell1
        have z2 := y2.frozen 1
        refine hK.out _ _ S1 (fun hHeld => ?_)
        clear hK K
        try simp only [Act.put, List.getElem_toArray, List.getElem_cons_succ, List.getElem_cons_zero, List.setIfInBounds_toArray, List.set_cons_zero, List.set_cons_succ]
        refine wpAnyH_ready (rs := [17]) (by kernel_rfl) (by simp) ?_
        refine AllReadyH.cons rfl (fun K hK => ?_) AllReadyH.nil
        go_simp
        refine hK.out _ _ S1 (fun hHeld => ?_)
        clear hK K
        try simp only [Act.put, List.getElem_toArray, List.getElem_cons_succ, List.getElem_cons_zero, List.setIfInBounds_toArray, List.set_cons_zero, List.set_cons_succ]
        refine wpAnyH_ready (rs := [18]) (by kernel_rfl) (by simp) ?_
        refine AllReadyH.cons rfl (fun K hK => ?_) AllReadyH.nil
        go_simp
        refine hK.out _ _ (HS2.out _ _ _ S1) (fun hHeld => ?_)
        clear hK K
        try simp only [Act.put, List.getElem_toArray, List.getElem_cons_succ, List.getElem_cons_zero, List.setIfInBounds_toArray, List.set_cons_zero, List.set_cons_succ]
        refine wpAnyH_done (by kernel_rfl) ?_ _
        have lg := (hown1.lt g1 rfl).1
        have HO := hideIt (own_setOther hown1 (w.heap.size + 1 + 1) 1 (.slice (some ⟨g1, 0, none⟩) (k + 1) cap1) (by omega))
        have q0 := y0.setOther (j := 1) (.slice (some ⟨g1, 0, none⟩) (k + 1) cap1) (show w.heap.size ≠ w.heap.size + 1 + 1 by omega)
        have q1 := y1.setOther (j := 1) (.slice (some ⟨g1, 0, none⟩) (k + 1) cap1) (show w.heap.size + 1 ≠ w.heap.size + 1 + 1 by omega)
        have q2 := y2.set1 (.slice (some ⟨g1, 0, none⟩) (k + 1) cap1)
        have q3 := hb1.setCell (p := ⟨w.heap.size + 1 + 1, 1, none⟩) (by show _ ≤ w.heap.size + 1 + 1; omega) (.slice (some ⟨g1, 0, none⟩) (k + 1) cap1)
        clear hown1 hg1 HOwn S1 HK hrow
        go_wp2
        exact ⟨⟨k + 1, _, _, by omega, by go_num, q0, q1, q2, by rw [HX.out]; exact HO.out, q3⟩, by simp [intOf]; omega⟩
      · go_simp
        refine hK.out _ _ hS1 (fun hHeld => ?_)
        clear hK K
        try simp only [Act.put, List.getElem_toArray, List.getElem_cons_succ, List.getElem_cons_zero, List.setIfInBounds_toArray, List.set_cons_zero, List.set_cons_succ]
        refine wpAnyH_ready (rs := [1]) (by kernel_rfl) (by simp) ?_
        refine AllReadyH.cons rfl (fun K hK => ?_) AllReadyH.nil
        go_simp
        refine hK.out _ _ hS1 (fun hHeld => ?_)
        clear hK K
        try simp only [Act.put, List.getElem_toArray, List.getElem_cons_succ, List.getElem_cons_zero, List.setIfInBounds_toArray, List.set_cons_zero, List.set_cons_succ]
        refine wpAnyH_ready (rs := [16]) (by kernel_rfl) (by simp) ?_
        refine AllReadyH.cons rfl (fun K hK => ?_) AllReadyH.nil
        refine step_append_lies _ (by rfl) _ _ _ (by rfl) (w.heap.size + 1 + 1 + 1) 37 i0 _ 2 16 Tryz.underlying52 hi hz0 hz1 hz2 rfl (by omega) _ k _ (by rfl) ((HOwn.out.alloc _).drew) ⟨wr.heap.size, 0, none⟩ 1 1 [.int .i64 x.a, .int .i64 x.b] (by rfl) (by rfl) (World.news_of_block (cs := #[.int .i64 x.a, .int .i64 x.b]) (t := 37) (fr := (0, 0)) (heap_alloc_new wr _)) (by simp [Value.oneCell']) (by omega) (by unfold maxLen; omega) (by omega) (by simp; omega) (wr.heap.size + 1) (by simp) ?_
        intro g1 cap1 w1 hown1 hg1 hat1 hlt1
        obtain ⟨S1, y0, y1, y2, hb1⟩ := HK.out _ hg1
        have z1 := y2.cell1
        have z2 := y2.frozen 1
        refine hK.out _ _ S1 (fun hHeld => ?_)
        clear hK K
        try simp only [Act.put, List.getElem_toArray, List.getElem_cons_succ, List.getElem_cons_zero, List.setIfInBounds_toArray, List.set_cons_zero, List.set_cons_succ]
        refine wpAnyH_ready (rs := [17]) (by kernel_rfl) (by simp) ?_
        refine AllReadyH.cons rfl (fun K hK => ?_) AllReadyH.nil
        go_simp
        refine hK.out _ _ S1 (fun hHeld => ?_)
        clear hK K
        try simp only [Act.put, List.getElem_toArray, List.getElem_cons_succ, List.getElem_cons_zero, List.setIfInBounds_toArray, List.set_cons_zero, List.set_cons_succ]
        refine wpAnyH_ready (rs := [18]) (by kernel_rfl) (by simp) ?_
        refine AllReadyH.cons rfl (fun K hK => ?_) AllReadyH.nil
        go_simp
        refine hK.out _ _ (HS2.out _ _ _ S1) (fun hHeld => ?_)
        clear hK K
        try simp only [Act.put, List.getElem_toArray, List.getElem_cons_succ, List.getElem_cons_zero, List.setIfInBounds_toArray, List.set_cons_zero, List.set_cons_succ]
        refine wpAnyH_done (by kernel_rfl) ?_ _
        have lg := (hown1.lt g1 rfl).1
        have HO := hideIt (own_setOther hown1 (w.heap.size + 1 + 1) 1 (.slice (some ⟨g1, 0, none⟩) (k + 1) cap1) (by omega))
        have q0 := y0.setOther (j := 1) (.slice (some ⟨g1, 0, none⟩) (k + 1) cap1) (show w.heap.size ≠ w.heap.size + 1 + 1 by omega)
        have q1 := y1.setOther (j := 1) (.slice (some ⟨g1, 0, none⟩) (k + 1) cap1) (show w.heap.size + 1 ≠ w.heap.size + 1 + 1 by omega)
        have q2 := y2.set1 (.slice (some ⟨g1, 0, none⟩) (k + 1) cap1)
        have q3 := hb1.setCell (p := ⟨w.heap.size + 1 + 1, 1, none⟩) (by show _ ≤ w.heap.size + 1 + 1; omega) (.slice (some ⟨g1, 0, none⟩) (k + 1) cap1)
        clear hown1 hg1 HOwn S1 HK hrow
        go_wp2
        exact ⟨⟨k + 1, _, _, by omega, by go_num, q0, q1, q2, by rw [HX.out]; exact HO.out, q3⟩, by simp [intOf]; omega⟩
    · obtain rfl : k = n := by omega
      have e : ls.take k = ls := List.take_of_length_le (by omega)
      rw [e] at hown
      have HO := hideIt hown
      have r0 := x1.cell0
      have r1 := x1.cell1
      have r2 := x1.frozen 0
      have r3 := x1.frozen 1
      have c0 := x2.cell0
      clear hown e
      have s2 := x1.set2 (.int .i64 N) (.slice a' k c')
      have s0 := s2.cell0
      have s1 := s2.cell1
      have HO2 := hideIt (own_setLow (own_setLow HO.out (w.heap.size + 1) 0 (.int .i64 N) (by omega)) (w.heap.size + 1) 1 (.slice a' k c') (by omega))
      have q3 := (hb.setCell (p := ⟨w.heap.size + 1, 0, none⟩) (by show _ ≤ w.heap.size + 1; omega) (.int .i64 N)).setCell (p := ⟨w.heap.size + 1, 1, none⟩) (by show _ ≤ w.heap.size + 1; omega) (.slice a' k c')
      clear s2
      go_wp2
      exact bodyPost_ret (v := .agg #[.int .i64 N, .slice a' k c']) (by simp [results, Tryz.results30, go_sem, s0, s1]) rfl ⟨a', c', rfl, own_mono HO2.out (by omega), q3⟩

end Go.Proofs.YtgjngaaibcmgmabGreat
namespace Go.Proofs.YtgjngaaibcmgmabGreat
open Go.RowKit

set_option maxRecDepth 100000 in
set_option maxHeartbeats 2000000 in
theorem l05Edges_any (N : Int) (es : List EdgeV) (n : Nat) (a : Option Addr) (c : Nat) (hn : n ≤ 1048576) (w : World) (h : Es w w.heap.size a n es) :
    Calls Tryz.prog 53 #[.int .i64 N, .slice a n c] w fun e w' => e = .returned (.bool (chk N es && decide (es.length ≤ 66))) ∧ Below w.heap.size w w' := by
  obtain ⟨hlen, hrow⟩ := h
  have HR := hideIt hrow
  have HL := hideIt hlen
  clear hrow
  go_enter Tryz.func53, Tryz.ntmps53
  go_wp2
  go_loopw [5] (fun i wr => ∃ k : Nat, k ≤ n ∧ i = .int .i64 (k : Int) ∧ Hid (∀ j, j < k → chkAt N es j = true) ∧ Below w.heap.size w wr) (fun i _ => n - (intOf i).toNat)
  case atStart => exact ⟨0, by omega, rfl, fun j hj => by omega, Below.refl _ _⟩
  case round =>
    obtain ⟨k, hk, rfl, hck, hb⟩ := hrel
    by_cases hlt : k < n
    · rcases HR.out with hz | ⟨b, off, rfl, hbl, hc⟩
      · omega
      · obtain ⟨f, hf⟩ : ∃ f, es[k]? = some f := ⟨es[k]'(by omega), List.getElem?_eq_getElem (by omega)⟩
        obtain ⟨c0, c1⟩ := hc k f hf
        have e0 : wr.cell? ⟨b, off + k * 2, none⟩ = some (.int .i64 f.1) := by rw [hb.cell hbl]; exact c0
        have e1 : wr.cell? ⟨b, off + k * 2 + 1, none⟩ = some (.int .i64 f.2) := by rw [hb.cell hbl]; exact c1
        have b1 : (0 : Int) ≤ (k : Int) := by omega
        have b2 : (k : Int) < (n : Int) := by omega
        have hbd := hb.drew
        have HE : Hid (∀ W : World, Below w.heap.size w W → Calls Tryz.prog 65 #[.int .i64 N, .agg #[.int .i64 f.1, .int .i64 f.2]] W fun e w' => e = .returned (.bool (eB N f)) ∧ Below w.heap.size w w') := fun W hW =>
          (sEdgeOk_any N f W).mono fun _ _ ⟨he, hb'⟩ => ⟨he, hW.trans (hb'.mono hW.size)⟩
        have HK : Hid (∀ W : World, Below w.heap.size w W → (W.cell? ⟨b, off + k * 2, none⟩ = some (.int .i64 f.1) ∧ W.cell? ⟨b, off + k * 2 + 1, none⟩ = some (.int .i64 f.2))) := fun W hW =>
          ⟨by rw [hW.cell hbl]; exact c0, by rw [hW.cell hbl]; exact c1⟩
        cases hE : eB N f with
        | false =>
          rw [hE] at HE
          have HN := hideIt (chk_no (by omega : k < es.length) (chkAt_no hf hE))
          clear hf hc c0 c1 hE hck
          go_wp2
          refine wp_region_any (by kernel_rfl) ?_
          change wpAny _ _ _ _ _ _ _ (World.drew _)
          refine takeOp (i := 0) (v := ?_) rfl (by kernel_rfl) (by kernel_rfl) (by kernel_rfl) (fun _ _ _ h => h) (by kernel_rfl) ?_ ?_
          rotate_left
          · intro w; go_simp; try with_reducible rfl
          refine takeOp (i := 1) (v := ?_) rfl (by kernel_rfl) (by kernel_rfl) (by kernel_rfl) (fun _ _ _ h => h) (by kernel_rfl) ?_ ?_
          rotate_left
          · intro w; go_simp; try with_reducible rfl
          refine takeOp (i := 2) (v := ?_) rfl (by kernel_rfl) (by kernel_rfl) (by kernel_rfl) (fun _ _ _ h => h) (by kernel_rfl) ?_ ?_
          rotate_left
          · intro w; go_simp; try with_reducible rfl
          refine wpAny_ready (rs := [3]) (by kernel_rfl) (by simp) ?_
          refine AllReady.cons rfl (fun K hK => ?_) AllReady.nil
          go_simp
          refine hK _ _ ?_
          clear hK K
          refine wpAny_ready (rs := [4]) (by kernel_rfl) (by simp) ?_
          refine AllReady.cons rfl (fun K hK => ?_) AllReady.nil
          go_simp
          refine hK _ _ ?_
          clear hK K
          refine wpAny_ready (rs := [5]) (by kernel_rfl) (by simp) ?_
          refine AllReady.cons rfl (fun K hK => ?_) AllReady.nil
          go_wp2_with (go_at_call 65; refine (HE.out _ hbd).mono ?_; rintro e w1 ⟨rfl, hb3⟩; refine Hid.out ?_)
          refine (show ∀ {p : Prop}, p → Hid p from fun h => h) ?_
          try refine hK _ _ ?_
          clear hK K
          refine wpAny_ready (rs := [6]) (by kernel_rfl) (by simp) ?_
          refine AllReady.cons rfl (fun K hK => ?_) AllReady.nil
          go_simp
          refine hK _ _ ?_
          clear hK K
          refine wpAny_ready (rs := [7]) (by kernel_rfl) (by simp) ?_
          refine AllReady.cons rfl (fun K hK => ?_) AllReady.nil
          go_simp
          refine hK _ _ ?_
          clear hK K
          refine skipOp (i := 8) rfl (by kernel_rfl) (by kernel_rfl) (by kernel_rfl) (fun _ _ _ h => h) (by kernel_rfl) ?_
          refine skipOp (i := 9) rfl (by kernel_rfl) (by kernel_rfl) (by kernel_rfl) (fun _ _ _ h => h) (by kernel_rfl) ?_
          refine skipOp (i := 10) rfl (by kernel_rfl) (by kernel_rfl) (by kernel_rfl) (fun _ _ _ h => h) (by kernel_rfl) ?_
          refine skipOp (i := 11) rfl (by kernel_rfl) (by kernel_rfl) (by kernel_rfl) (fun _ _ _ h => h) (by kernel_rfl) ?_
          refine skipOp (i := 12) rfl (by kernel_rfl) (by kernel_rfl) (by kernel_rfl) (fun _ _ _ h => h) (by kernel_rfl) ?_
          refine skipOp (i := 13) rfl (by kernel_rfl) (by kernel_rfl) (by kernel_rfl) (fun _ _ _ h => h) (by kernel_rfl) ?_
          refine skipOp (i := 14) rfl (by kernel_rfl) (by kernel_rfl) (by kernel_rfl) (fun _ _ _ h => h) (by kernel_rfl) ?_
          refine skipOp (i := 15) rfl (by kernel_rfl) (by kernel_rfl) (by kernel_rfl) (fun _ _ _ h => h) (by kernel_rfl) ?_
          refine skipOp (i := 16) rfl (by kernel_rfl) (by kernel_rfl) (by kernel_rfl) (fun _ _ _ h => h) (by kernel_rfl) ?_
          refine skipOp (i := 17) rfl (by kernel_rfl) (by kernel_rfl) (by kernel_rfl) (fun _ _ _ h => h) (by kernel_rfl) ?_
          refine skipOp (i := 18) rfl (by kernel_rfl) (by kernel_rfl) (by kernel_rfl) (fun _ _ _ h => h) (by kernel_rfl) ?_
          refine skipOp (i := 19) rfl (by kernel_rfl) (by kernel_rfl) (by kernel_rfl) (fun _ _ _ h => h) (by kernel_rfl) ?_
          refine skipOp (i := 20) rfl (by kernel_rfl) (by kernel_rfl) (by kernel_rfl) (fun _ _ _ h => h) (by kernel_rfl) ?_
          refine skipOp (i := 21) rfl (by kernel_rfl) (by kernel_rfl) (by kernel_rfl) (fun _ _ _ h => h) (by kernel_rfl) ?_
          refine skipOp (i := 22) rfl (by kernel_rfl) (by kernel_rfl) (by kernel_rfl) (fun _ _ _ h => h) (by kernel_rfl) ?_
          refine wpAny_ready (rs := [23]) (by kernel_rfl) (by simp) ?_
          refine AllReady.cons rfl (fun K hK => ?_) AllReady.nil
          go_simp
          refine hK _ _ ?_
          clear hK K
          refine wpAny_done (by kernel_rfl) ?_ _
          go_wp2
          go_ret
          exact ⟨by rw [HN.out]; rfl, hb3⟩
        | true =>
          rw [hE] at HE
          rcases k with _ | i
          · have HY := hideIt (show chkAt N es 0 = true by rw [chkAt_zero hf]; exact hE)
            clear hf hc c0 c1 hE
            rw [Nat.zero_mul, Nat.add_zero] at e0 e1
            go_wp2
            refine wp_region_any (by kernel_rfl) ?_
            change wpAny _ _ _ _ _ _ _ (World.drew _)
            refine takeOp (i := 0) (v := ?_) rfl (by kernel_rfl) (by kernel_rfl) (by kernel_rfl) (fun _ _ _ h => h) (by kernel_rfl) ?_ ?_
            rotate_left
            · intro w; go_simp; try with_reducible rfl
            refine takeOp (i := 1) (v := ?_) rfl (by kernel_rfl) (by kernel_rfl) (by kernel_rfl) (fun _ _ _ h => h) (by kernel_rfl) ?_ ?_
            rotate_left
            · intro w; go_simp; try with_reducible rfl
            refine takeOp (i := 2) (v := ?_) rfl (by kernel_rfl) (by kernel_rfl) (by kernel_rfl) (fun _ _ _ h => h) (by kernel_rfl) ?_ ?_
            rotate_left
            · intro w; go_simp; try with_reducible rfl
            refine wpAny_ready (rs := [3]) (by kernel_rfl) (by simp) ?_
            refine AllReady.cons rfl (fun K hK => ?_) AllReady.nil
            go_simp
            refine hK _ _ ?_
            clear hK K
            refine wpAny_ready (rs := [4]) (by kernel_rfl) (by simp) ?_
            refine AllReady.cons rfl (fun K hK => ?_) AllReady.nil
            go_simp
            refine hK _ _ ?_
            clear hK K
            refine wpAny_ready (rs := [5]) (by kernel_rfl) (by simp) ?_
            refine AllReady.cons rfl (fun K hK => ?_) AllReady.nil
            go_wp2_with (go_at_call 65; refine (HE.out _ hbd).mono ?_; rintro e w1 ⟨rfl, hb3⟩; refine Hid.out ?_)
            refine (show ∀ {p : Prop}, p → Hid p from fun h => h) ?_
            try refine hK _ _ ?_
            clear hK K
            refine wpAny_ready (rs := [6]) (by kernel_rfl) (by simp) ?_
            refine AllReady.cons rfl (fun K hK => ?_) AllReady.nil
            go_simp
            refine hK _ _ ?_
            clear hK K
            refine wpAny_ready (rs := [7]) (by kernel_rfl) (by simp) ?_
            refine AllReady.cons rfl (fun K hK => ?_) AllReady.nil
            go_simp
            refine hK _ _ ?_
            clear hK K
            refine wpAny_ready (rs := [8]) (by kernel_rfl) (by simp) ?_
            refine AllReady.cons rfl (fun K hK => ?_) AllReady.nil
            go_simp
            refine hK _ _ ?_
            clear hK K
            refine wpAny_ready (rs := [9]) (by kernel_rfl) (by simp) ?_
            refine AllReady.cons rfl (fun K hK => ?_) AllReady.nil
            go_simp
            refine hK _ _ ?_
            clear hK K
            refine wpAny_ready (rs := [10]) (by kernel_rfl) (by simp) ?_
            refine AllReady.cons rfl (fun K hK => ?_) AllReady.nil
            go_simp
            refine hK _ _ ?_
            clear hK K
            refine skipOp (i := 11) rfl (by kernel_rfl) (by kernel_rfl) (by kernel_rfl) (fun _ _ _ h => h) (by kernel_rfl) ?_
            refine skipOp (i := 12) rfl (by kernel_rfl) (by kernel_rfl) (by kernel_rfl) (fun _ _ _ h => h) (by kernel_rfl) ?_
            refine skipOp (i := 13) rfl (by kernel_rfl) (by kernel_rfl) (by kernel_rfl) (fun _ _ _ h => h) (by kernel_rfl) ?_
            refine skipOp (i := 14) rfl (by kernel_rfl) (by kernel_rfl) (by kernel_rfl) (fun _ _ _ h => h) (by kernel_rfl) ?_
            refine skipOp (i := 15) rfl (by kernel_rfl) (by kernel_rfl) (by kernel_rfl) (fun _ _ _ h => h) (by kernel_rfl) ?_
            refine skipOp (i := 16) rfl (by kernel_rfl) (by kernel_rfl) (by kernel_rfl) (fun _ _ _ h => h) (by kernel_rfl) ?_
            refine skipOp (i := 17) rfl (by kernel_rfl) (by kernel_rfl) (by kernel_rfl) (fun _ _ _ h => h) (by kernel_rfl) ?_
            refine skipOp (i := 18) rfl (by kernel_rfl) (by kernel_rfl) (by kernel_rfl) (fun _ _ _ h => h) (by kernel_rfl) ?_
            refine skipOp (i := 19) rfl (by kernel_rfl) (by kernel_rfl) (by kernel_rfl) (fun _ _ _ h => h) (by kernel_rfl) ?_
            refine skipOp (i := 20) rfl (by kernel_rfl) (by kernel_rfl) (by kernel_rfl) (fun _ _ _ h => h) (by kernel_rfl) ?_
            refine skipOp (i := 21) rfl (by kernel_rfl) (by kernel_rfl) (by kernel_rfl) (fun _ _ _ h => h) (by kernel_rfl) ?_
            refine wpAny_ready (rs := [22]) (by kernel_rfl) (by simp) ?_
            refine AllReady.cons rfl (fun K hK => ?_) AllReady.nil
            go_simp
            refine hK _ _ ?_
            clear hK K
            refine wpAny_ready (rs := [23]) (by kernel_rfl) (by simp) ?_
            refine AllReady.cons rfl (fun K hK => ?_) AllReady.nil
            go_simp
            refine hK _ _ ?_
            clear hK K
            refine wpAny_done (by kernel_rfl) ?_ _
            go_wp2
            exact ⟨⟨1, by omega, by go_num, fun j hj => by
              obtain rfl : j = 0 := by omega
              exact HY.out, hb3⟩, by simp [intOf]; omega⟩
          · obtain ⟨d, hd⟩ : ∃ d, es[i]? = some d := ⟨es[i]'(by omega), List.getElem?_eq_getElem (by omega)⟩
            obtain ⟨c2, c3⟩ := hc i d hd
            have HK2 : Hid (∀ W : World, Below w.heap.size w W → (W.cell? ⟨b, off + i * 2, none⟩ = some (.int .i64 d.1) ∧ W.cell? ⟨b, off + i * 2 + 1, none⟩ = some (.int .i64 d.2))) := fun W hW =>
              ⟨by rw [hW.cell hbl]; exact c2, by rw [hW.cell hbl]; exact c3⟩
            have HC := hideIt (chkAt_succ (n := N) hf hd)
            have HL2 : Hid (∀ W : World, Below w.heap.size w W → Calls Tryz.prog 81 #[.agg #[.int .i64 d.1, .int .i64 d.2], .agg #[.int .i64 f.1, .int .i64 f.2]] W fun e w' => e = .returned (.bool (lt d f)) ∧ Below w.heap.size w w') := fun W hW =>
              (l05Less_any d f W).mono fun _ _ ⟨he, hb'⟩ => ⟨he, hW.trans (hb'.mono hW.size)⟩
            have HE0 := hideIt hE
            have ek : ((i + 1 : Nat) : Int) = (i : Int) + 1 := by omega
            rw [ek] at b1 b2
            have b3 : (0 : Int) ≤ (i : Int) := by omega
            have b4 : (i : Int) < (n : Int) := by omega
            have tn : ((i : Int) + 1).toNat = i + 1 := by omega
            have d0 : decide ((0 : Int) < (i : Int) + 1) = true := decide_eq_true (by omega)
            have hw1 : IntKind.i64.wrap (i : Int) = (i : Int) := by rw [IntKind.wrap_i64]; omega
            rw [ek]
            clear ek hf hd hc c0 c1 c2 c3 hE
            cases hL : lt d f with
            | true =>
              rw [hL] at HL2
              have HY := hideIt (show chkAt N es (i + 1) = true by rw [HC.out, HE0.out, hL]; rfl)
              clear HC hL HE0
              go_wp2
              go_region_held3 (fun u => Below w.heap.size w u ∧ (u.cell? ⟨b, off + (i + 1) * 2, none⟩ = some (.int .i64 f.1) ∧ u.cell? ⟨b, off + (i + 1) * 2 + 1, none⟩ = some (.int .i64 f.2)) ∧ u.cell? ⟨b, off + i * 2, none⟩ = some (.int .i64 d.1) ∧ u.cell? ⟨b, off + i * 2 + 1, none⟩ = some (.int .i64 d.2))
                (first | exact ⟨hb4, HK.out _ hb4, HK2.out _ hb4⟩ | exact ⟨hb3, HK.out _ hb3, HK2.out _ hb3⟩ | exact ⟨hbd, HK.out _ hbd, HK2.out _ hbd⟩)
                (first
                | (go_at_call 65; refine (HE.out _ hbd).mono ?_; rintro e w1 ⟨rfl, hb3⟩)
                | (go_at_call 81; refine (HL2.out _ hb3).mono ?_; rintro e w2 ⟨rfl, hb4⟩))
              all_goals
                go_wp2
                exact ⟨⟨i + 2, by omega, by go_num, fun j hj => by
                  by_cases hji : j = i + 1
                  · subst hji; exact HY.out
                  · exact hck.out j (by omega), hb4⟩, by simp [intOf]; omega⟩
            | false =>
              rw [hL] at HL2
              have HN := hideIt (chk_no (by omega : i + 1 < es.length) (show chkAt N es (i + 1) = false by rw [HC.out, HE0.out, hL]; rfl))
              clear HC hL HE0
              go_wp2
              go_region_held3 (fun u => Below w.heap.size w u ∧ (u.cell? ⟨b, off + (i + 1) * 2, none⟩ = some (.int .i64 f.1) ∧ u.cell? ⟨b, off + (i + 1) * 2 + 1, none⟩ = some (.int .i64 f.2)) ∧ u.cell? ⟨b, off + i * 2, none⟩ = some (.int .i64 d.1) ∧ u.cell? ⟨b, off + i * 2 + 1, none⟩ = some (.int .i64 d.2))
                (first | exact ⟨hb4, HK.out _ hb4, HK2.out _ hb4⟩ | exact ⟨hb3, HK.out _ hb3, HK2.out _ hb3⟩ | exact ⟨hbd, HK.out _ hbd, HK2.out _ hbd⟩)
                (first
                | (go_at_call 65; refine (HE.out _ hbd).mono ?_; rintro e w1 ⟨rfl, hb3⟩)
                | (go_at_call 81; refine (HL2.out _ hb3).mono ?_; rintro e w2 ⟨rfl, hb4⟩))
              all_goals
                go_wp2
                go_ret
                exact ⟨by rw [HN.out]; rfl, hb4⟩
    · have HY := hideIt (chk_yes (n := N) (es := es) (fun j hj => hck.out j (by omega)))
      clear hck
      go_wp2
      go_ret
      exact ⟨by rw [HY.out, HL.out]; simp; omega, hb⟩
set_option maxHeartbeats 1000000 in
theorem sGraphOk_any (N : Int) (es : List EdgeV) (n : Nat) (a : Option Addr) (c : Nat) (hn : n ≤ 1048576) (w : World) (h : Es w w.heap.size a n es) :
    Calls Tryz.prog 29 #[.agg #[.int .i64 N, .slice a n c]] w fun e w' => e = .returned (.bool (gB N es)) ∧ Below w.heap.size w w' := by
  have HT := hideIt (l05Edges_any N es n a c hn (w.alloc (.cells #[.int .i64 N, .slice a n c] 54)) ((h.alloc (Nat.le_refl _) _).mono (by simp)))
  have HI := hideIt l01In_any
  clear h
  by_cases h1 : 1 ≤ N ∧ N ≤ 12
  · have r1 : decide (1 ≤ N ∧ N ≤ 12) = true := by simpa using h1
    have HG : Hid (gB N es = (chk N es && decide (es.length ≤ 66))) := by show _ = _; unfold gB; rw [r1]; rfl
    generalize (chk N es && decide (es.length ≤ 66)) = r at HG HT
    go_enter Tryz.func29, Tryz.ntmps29
    go_wp2_with (first | (go_at_call 31; refine (HI.out _ _ _ _).mono ?_; rintro e w1 ⟨rfl, rfl⟩) | (go_at_call 53; refine HT.out.mono ?_; rintro e w2 ⟨rfl, hb2⟩))
    go_ret
    exact ⟨by rw [HG.out]; rfl, ((Below.refl _ _).alloc (Nat.le_refl _) _).trans (hb2.mono (by simp))⟩
  · have r1 : decide (1 ≤ N ∧ N ≤ 12) = false := by simpa using h1
    have HG : Hid (gB N es = false) := by show _ = _; unfold gB; rw [r1]; rfl
    clear HT
    go_enter Tryz.func29, Tryz.ntmps29
    go_wp2_with (go_at_call 31; refine (HI.out _ _ _ _).mono ?_; rintro e w1 ⟨rfl, rfl⟩)
    go_ret
    exact ⟨by rw [HG.out]; rfl, (Below.refl _ _).alloc (Nat.le_refl _) _⟩

set_option maxHeartbeats 1000000 in
theorem sHasEdge_any (N : Int) (es : List EdgeV) (e : EdgeV) (n : Nat) (a : Option Addr) (c : Nat) (hn : n ≤ 1048576) (w : World) (h : Es w w.heap.size a n es) :
    Calls Tryz.prog 49 #[.agg #[.int .i64 N, .slice a n c], .agg #[.int .i64 e.1, .int .i64 e.2]] w fun x w' => x = .returned (.bool (hasB es e)) ∧ Below w.heap.size w w' := by
  have HT := hideIt (l05Has_any es e n a c hn ((w.alloc (.cells #[.int .i64 N, .slice a n c] 54)).alloc (.cells #[.int .i64 e.1, .int .i64 e.2] 37)) (((h.alloc (Nat.le_refl _) _).alloc (by simp) _).mono (by simp; omega)))
  clear h
  go_enter Tryz.func49, Tryz.ntmps49
  go_wp2_with (go_at_call 76; refine HT.out.mono ?_; rintro e w1 ⟨rfl, hb1⟩)
  go_ret
  exact ⟨rfl, (((Below.refl _ _).alloc (Nat.le_refl _) _).alloc (by simp) _).trans (hb1.mono (by simp; omega))⟩
end Go.Proofs.YtgjngaaibcmgmabGreat
namespace Go.Proofs.YtgjngaaibcmgmabGreat
open Go.RowKit

theorem ic_set (L : List Int) (v : Nat) (x : Int) : (ic L).set v (.int .i64 x) = ic (L.set v x) := by unfold ic; rw [List.map_set]
set_option maxRecDepth 100000 in
set_option maxHeartbeats 4000000 in
theorem rootsOf_any (nn : Nat) (ts : List (List Int)) (n : Nat) (a : Option Addr) (c : Nat) (hnn : nn ≤ 12) (hn : n ≤ 12) (hr : ∀ t ∈ ts, 0 < t.length ∧ t.length ≤ 23 ∧ ∀ x ∈ t, 0 ≤ x ∧ x < (nn : Int)) (hap : ts.Pairwise Apart) (w : World) (h : Ts w w.heap.size a n ts) :
    Calls Tryz.prog 52 #[.agg #[.int .i64 (nn : Int), .slice a n c]] w fun e w' => ∃ g L, e = .returned (.slice (some ⟨g, 0, none⟩) nn nn) ∧ w'.ownsRow w.heap.size 3 1 (.slice (some ⟨g, 0, none⟩) nn nn) nn (ic L) ∧ (∀ t ∈ ts, ∀ v : Nat, (v : Int) ∈ t → L[v]? = t[0]?) ∧ Below w.heap.size w w' := by
  obtain ⟨i0, hi, hz0, hz1, hz2⟩ := info_parts info3i
  have hmk : ∀ u : World, (Instr.makeSlice 46 (.int .i64 (nn : Int)) (.int .i64 (nn : Int))).run Tryz.prog u =
      .ok (.slice (some ⟨u.heap.size, 0, none⟩) nn nn) (u.alloc (.cells (madeCells #[.int .i64 0] nn) 3)) := fun u => by
    have h := run_make (P := Tryz.prog) u 46 3 i0 _ Tryz.underlying46 hi hz0 .i64 .i64 (nn : Int) (nn : Int) (by omega) (by omega) (by rw [hz2]; omega) (by omega)
    rw [Int.toNat_natCast] at h
    simpa [hz1, Value.cells] using h
  have b0 : Good w (w.alloc (.cells #[.int .i64 (nn : Int), .slice a n c] 61)) := (Good.refl w).alloc _
  have hlen := h.1
  have HA := hideIt h
  have HRg := hideIt hr
  have HAp := hideIt hap
  have o0 := World.ownsRow_lit (base := w.heap.size + 1) (e := 3) (size := 1) (w.alloc (.cells #[.int .i64 (nn : Int), .slice a n c] 61)) (madeCells #[.int .i64 0] nn) nn (by simp) (by unfold maxLen; omega) (by simp [madeCells])
  have eL : (madeCells #[.int .i64 0] nn).toList = ic (List.replicate nn 0) := by
    apply List.ext_getElem?
    intro j
    by_cases hj : j < nn
    · simp [madeCells, ic, hj, Nat.mod_one]
    · simp [madeCells, ic, hj]
  rw [eL] at o0
  have HO0 : Hid (((w.alloc (.cells #[.int .i64 (nn : Int), .slice a n c] 61)).alloc (.cells (madeCells #[.int .i64 0] nn) 3)).ownsRow (w.heap.size + 1) 3 1 (.slice (some ⟨w.heap.size + 1, 0, none⟩) nn nn) nn (ic (List.replicate nn 0))) := by show World.ownsRow _ _ _ _ _ _ _; simpa using o0
  have HB0 : Hid (Below (w.heap.size + 1) (w.alloc (.cells #[.int .i64 (nn : Int), .slice a n c] 61)) ((w.alloc (.cells #[.int .i64 (nn : Int), .slice a n c] 61)).alloc (.cells (madeCells #[.int .i64 0] nn) 3))) := (Below.refl _ _).alloc (by simp) _
  have HGd : Hid (∀ u, Below (w.heap.size + 1) (w.alloc (.cells #[.int .i64 (nn : Int), .slice a n c] 61)) u → Good w u) := fun u hu => b0.trans (hu.mono (by omega))
  clear h hr hap o0 eL b0
  go_enter Tryz.func52, Tryz.ntmps52
  go_wp2
  go_loopw [14] (fun i wr => ∃ (k : Nat) (L : List Int), k ≤ n ∧ i = .int .i64 (k : Int) ∧ Hid (∀ j t, j < k → ts[j]? = some t → ∀ v : Nat, (v : Int) ∈ t → L[v]? = t[0]?) ∧ wr.ownsRow (w.heap.size + 1) 3 1 (.slice (some ⟨w.heap.size + 1, 0, none⟩) nn nn) nn (ic L) ∧ Below (w.heap.size + 1) (w.alloc (.cells #[.int .i64 (nn : Int), .slice a n c] 61)) wr) (fun i _ => n - (intOf i).toNat)
  case atStart => exact ⟨0, _, by omega, rfl, fun j t hj => by omega, HO0.out, HB0.out⟩
  case round =>
    obtain ⟨k, L, hk, rfl, HK, hown, hb⟩ := hrel
    clear HO0 HB0
    by_cases hlt : k < n
    · rcases (HA.out.up (HGd.out _ hb)).2 with hz | ⟨b, off, rfl, hbl, hc⟩
      · omega
      · obtain ⟨t, ht⟩ : ∃ t, ts[k]? = some t := ⟨ts[k]'(by omega), List.getElem?_eq_getElem (by omega)⟩
        obtain ⟨x, cx, e0, iI, _⟩ := hc k t ht
        obtain ⟨ht0, ht23, htr⟩ := HRg.out t (List.mem_of_getElem? ht)
        have b1 : (0 : Int) ≤ (k : Int) := by omega
        have b2 : (k : Int) < (n : Int) := by omega
        rcases (HA.out.below (HGd.out _ hb) (Nat.le_refl _)).2 with hz | ⟨b', off', hbe, hbl', hc'⟩
        · omega
        simp at hbe
        obtain ⟨rfl, rfl⟩ := hbe
        obtain ⟨x', cx', e0', iI', _⟩ := hc' k t ht
        rw [e0'] at e0
        simp at e0
        obtain ⟨rfl, rfl⟩ := e0
        have HIs : Hid (Is w w.heap.size x' t.length t) := by
          rcases HA.out.2 with hz | ⟨b2, off2, hbe, _, hc2⟩
          · omega
          simp at hbe
          obtain ⟨rfl, rfl⟩ := hbe
          obtain ⟨x2, cx2, e2, iI2, _⟩ := hc2 k t ht
          have e3 : wr.cell? ⟨b, off + k, none⟩ = w.cell? ⟨b, off + k, none⟩ := (HGd.out _ hb).cell hbl'
          rw [e0', e2] at e3
          simp at e3
          obtain ⟨rfl, rfl⟩ := e3
          exact iI2
        have HTk := hideIt ht
        have HTr := hideIt htr
        have HApk : Hid (∀ j s, j < k → ts[j]? = some s → ∀ y ∈ s, y ∉ t) := fun j s hj hs y hy hyt => by
          obtain ⟨h1, e1⟩ := List.getElem?_eq_some_iff.1 hs
          obtain ⟨h2, e2⟩ := List.getElem?_eq_some_iff.1 ht
          have := List.pairwise_iff_getElem.1 HAp.out j k h1 h2 hj
          rw [e1, e2] at this
          exact this y hy hyt
        clear hc hc' ht iI iI' htr
        go_wp2
        go_loopw [20] (fun i wr => ∃ (q : Nat) (L : List Int), q ≤ t.length ∧ i = .int .i64 (q : Int) ∧ Hid (∀ j t, j < k → ts[j]? = some t → ∀ v : Nat, (v : Int) ∈ t → L[v]? = t[0]?) ∧ Hid (∀ p (v : Nat), p < q → t[p]? = some (v : Int) → L[v]? = t[0]?) ∧ wr.ownsRow (w.heap.size + 1) 3 1 (.slice (some ⟨w.heap.size + 1, 0, none⟩) nn nn) nn (ic L) ∧ Below (w.heap.size + 1) (w.alloc (.cells #[.int .i64 (nn : Int), .slice (some ⟨b, off, none⟩) n c] 61)) wr) (fun i _ => t.length - (intOf i).toNat)
        case atStart => exact ⟨0, L, by omega, rfl, HK, fun p v hp => by omega, hown, hb⟩
        case round =>
          obtain ⟨q, L2, hq, rfl, HK2, HQ, hown2, hb2⟩ := hrel
          clear HK hown hb e0'
          have hlL : L2.length = nn := by have := hown2.1; rw [ic_len] at this; omega
          by_cases hlt2 : q < t.length
          · rcases (HIs.out.below (HGd.out _ hb2) (Nat.le_refl _)).2 with hz | ⟨b3, off3, rfl, hbl3, hc3⟩
            · omega
            · obtain ⟨y, hy⟩ : ∃ y, t[q]? = some y := ⟨t[q], List.getElem?_eq_getElem hlt2⟩
              obtain ⟨y0, hy0⟩ : ∃ y, t[0]? = some y := ⟨t[0], List.getElem?_eq_getElem ht0⟩
              have hyr := HTr.out y (List.mem_of_getElem? hy)
              obtain ⟨v, rfl⟩ : ∃ v : Nat, y = (v : Int) := ⟨y.toNat, by omega⟩
              have f0 := hc3 q _ hy
              have f1 := hc3 0 _ hy0
              rw [Nat.add_zero] at f1
              have b3' : (0 : Int) ≤ (q : Int) := by omega
              have b4 : (q : Int) < (t.length : Int) := by omega
              have b5 : (0 : Int) < (t.length : Int) := by omega
              have b6 : (0 : Int) ≤ (v : Int) := by omega
              have b7 : (v : Int) < (nn : Int) := hyr.2
              have hvn : v < nn := by omega
              have fz := hown2.frozenAt v
              obtain ⟨o, x0⟩ : ∃ o, wr.cell? ⟨w.heap.size + 1, v, none⟩ = some o := ⟨_, by rw [hown2.cellAt v (by omega)]; exact List.getElem?_eq_getElem (by rw [ic_len]; omega)⟩
              have hst := (hown2.stored v (.int .i64 y0)).1
              rw [ic_set] at hst
              have HO := hideIt hst
              have HB := hideIt (hb2.setCell (p := ⟨w.heap.size + 1, v, none⟩) (Nat.le_refl _) (.int .i64 y0))
              have HK3 : Hid (∀ j s, j < k → ts[j]? = some s → ∀ u : Nat, (u : Int) ∈ s → (L2.set v y0)[u]? = s[0]?) := fun j s hj hs u hu => by
                have hne : v ≠ u := fun e => HApk.out j s hj hs (u : Int) hu (by rw [← e]; exact List.mem_of_getElem? hy)
                rw [List.getElem?_set_ne hne]
                exact HK2.out j s hj hs u hu
              have HQ3 : Hid (∀ p (u : Nat), p < q + 1 → t[p]? = some (u : Int) → (L2.set v y0)[u]? = t[0]?) := fun p u hp hu => by
                by_cases e : v = u
                · subst e
                  rw [List.getElem?_set_self (by omega), hy0]
                · rw [List.getElem?_set_ne e]
                  by_cases hpq : p = q
                  · subst hpq
                    rw [hy] at hu
                    simp at hu
                    omega
                  · exact HQ.out p u (by omega) hu
              clear hc3 hy hy0 hyr hown2 hb2 hst HK2 HQ
              go_wp2
              exact ⟨⟨q + 1, _, by omega, by go_num, HK3, HQ3, HO.out, HB.out⟩, by simp [intOf]; omega⟩
          · obtain rfl : q = t.length := by omega
            have HK3 : Hid (∀ j s, j < k + 1 → ts[j]? = some s → ∀ u : Nat, (u : Int) ∈ s → L2[u]? = s[0]?) := fun j s hj hs u hu => by
              by_cases e : j = k
              · subst e
                rw [HTk.out] at hs
                obtain rfl := Option.some.inj hs
                obtain ⟨p, hp⟩ := List.mem_iff_getElem?.1 hu
                exact HQ.out p u (List.getElem?_eq_some_iff.1 hp).1 hp
              · exact HK2.out j s (by omega) hs u hu
            have HO := hideIt hown2
            have HB := hideIt hb2
            clear hown2 hb2 HK2 HQ
            go_wp2
            exact ⟨⟨k + 1, L2, by omega, by go_num, HK3, HO.out, HB.out⟩, by simp [intOf]; omega⟩
    · obtain rfl : k = n := by omega
      have HF : Hid (∀ t ∈ ts, ∀ v : Nat, (v : Int) ∈ t → L[v]? = t[0]?) := fun t ht v hv => by
        obtain ⟨j, hj⟩ := List.mem_iff_getElem?.1 ht
        exact HK.out j t (by have := (List.getElem?_eq_some_iff.1 hj).1; omega) hj v hv
      have HO := hideIt hown
      have HB := hideIt hb
      clear hown hb HK
      go_wp2
      go_ret
      exact ⟨w.heap.size + 1, L, rfl, own_mono HO.out (by omega), HF.out, HGd.out _ HB.out⟩
end Go.Proofs.YtgjngaaibcmgmabGreat
namespace Go.Proofs.YtgjngaaibcmgmabGreat
open Go.RowKit

theorem vs_half {t : List Int} (hB : tB t = true) : t.length + 1 = 2 * (vsL t).length := by
  obtain ⟨hv, x, s, h⟩ := (tB_iff t).1 hB
  have h1 := trun_len h
  have h2 := trun_nodup h List.nodup_nil
  have h3 := (trun_seen h (by simp)).1
  have e : s.length = (vsL t).length := by
    apply Nat.le_antisymm
    · exact nodup_sub h2 fun y hy => (vs_mem_of hB).2 (by simpa using (h3 y).1 hy)
    · exact nodup_sub (vs_nodup t) fun y hy => (h3 y).2 (.inr ((vs_mem_of hB).1 hy))
  simp at h1
  omega
/-- what levelOk asks of a level -/
def LvQ (nn : Nat) (ls : List Ld) (i : Nat) (ts : List (List Int)) : Prop := (∀ t ∈ ts, 1 < (vsL t).length → (vsL t).length ≤ nn / 2 ^ i) ∧ ∀ x ∈ ls, x.t = false → x.l = (i : Int) → trI ts x.a = trI ts x.b
/-- two heads are one: two places are -/
theorem head_same {es : List EdgeV} {n : Nat} {ts : List (List Int)} (h : FtAll es n ts) {u v : Int} {x y : Int} {s t : List Int} (hs : s ∈ ts) (ht : t ∈ ts) (hu : u ∈ s) (hv : v ∈ t) (hx : s[0]? = some x) (hy : t[0]? = some y) : x = y ↔ trI ts u = trI ts v := by
  have hq := h.fp.q
  obtain ⟨i, hi⟩ := List.mem_iff_getElem?.1 hs
  obtain ⟨j, hj⟩ := List.mem_iff_getElem?.1 ht
  rw [trI_of hq hi hu, trI_of hq hj hv]
  constructor
  · rintro rfl
    have h1 := trI_of hq hi (List.mem_of_getElem? hx)
    have h2 := trI_of hq hj (List.mem_of_getElem? hy)
    omega
  · intro e
    obtain rfl : i = j := by omega
    rw [hi] at hj
    obtain rfl := Option.some.inj hj
    rw [hx] at hy
    exact Option.some.inj hy

set_option maxRecDepth 100000 in
set_option maxHeartbeats 4000000 in
theorem levelOk_any (nn : Nat) (ls : List Ld) (i : Nat) (hi5 : i < 5) (n : Nat) (a : Option Addr) (c : Nat) (hG : gB (nn : Int) (gE ls) = true) (hl : ∀ x ∈ ls, 0 ≤ x.l) (hB : Bridge (fE ls 0)) (ts : List (List Int)) (hts : ftK (fE ls (i : Int)) nn nn = some ts) (w : World) (h : Ls w w.heap.size a n ls) :
    Calls Tryz.prog 38 #[.agg #[.int .i64 (nn : Int), .slice a n c], .int .i64 (i : Int)] w fun e w' => ∃ b : Bool, e = .returned (.bool b) ∧ (b = true ↔ LvQ nn ls i ts) ∧ Below w.heap.size w w' := by
  have hg := gB_chk hG
  have hn1 : 1 ≤ nn := by omega
  have hn12 : nn ≤ 12 := by omega
  have hlen := h.1
  have h66 : n ≤ 66 := by have := hg.2.2; rw [gE_len] at this; omega
  have hall := ft_all (fE_ends hG (i : Int)) hn1 hn12 hts
  have hfa : Good w (wW w (nn : Int) a n c) := wW_good w (nn : Int) a n c
  have HFA := hideIt ((iForestAt_yes nn ls (i : Int) n a c hG hl hB (by omega) ts hts _ (h.up hfa)).mono fun _ _ h => h.weak)
  have HR := hideIt h
  have HQ := hideIt hall
  have HEd : Hid (∀ x ∈ ls, 0 ≤ x.a ∧ x.a < x.b ∧ x.b < (nn : Int)) := fun x hx => gB_ends hG x.e (gE_mem hx)
  clear h hG hl hB hts hall hg
  go_enter Tryz.func38, Tryz.ntmps38
  go_wp2_with (go_at_call 62; refine HFA.out.mono ?_; rintro e w1 ⟨a1, m1, c1, rfl, hT1, hb1⟩; refine Hid.out ?_)
  refine (show ∀ {p : Prop}, p → Hid p from fun h => h) ?_
  simp only [Option.getD_some] at hT1
  rw [wW_size] at hb1
  obtain ⟨cw0, cw1⟩ := wW_cells hb1
  have z1 := hb1.size
  rw [wW_size] at z1
  obtain ⟨Q, hQ0⟩ : ∃ Q, nn / 2 ^ i = Q := ⟨_, rfl⟩
  have hsh : (nn : Int) / 2 ^ i = (Q : Int) := by
    rw [← hQ0]
    simp
  have HQ0 := hideIt hQ0
  have hm12 : m1 ≤ 12 := by have := HQ.out.fp.2.2.1; have := hT1.1; omega
  have HTB : Hid (∀ t ∈ ts, tB t = true ∧ ∀ x ∈ t, 0 ≤ x ∧ x < (nn : Int)) := fun t ht => by
    have h1 := HQ.out.fp.q.1 t ht
    refine ⟨h1.1, fun x hx => ⟨?_, h1.2 x hx⟩⟩
    have := ((tB_iff t).1 h1.1).1 x hx
    unfold vB at this
    have := of_decide_eq_true this
    omega
  obtain ⟨W, hW⟩ : ∃ W, W = w1.alloc (.cells #[.int .i64 (nn : Int), .slice a1 m1 c1] 61) := ⟨_, rfl⟩
  have hbW : Below w1.heap.size w1 W := by rw [hW]; exact (Below.refl _ _).alloc (Nat.le_refl _) _
  have hzW : W.heap.size = w1.heap.size + 1 := by rw [hW]; simp
  have HCW : Hid (∀ u, Below W.heap.size W u → ((u.cell? ⟨w.heap.size, 0, none⟩ = some (.int .i64 (nn : Int)) ∧ u.cell? ⟨w.heap.size, 1, none⟩ = some (.slice a n c)) ∧ (u.cell? ⟨w1.heap.size, 0, none⟩ = some (.int .i64 (nn : Int)) ∧ u.cell? ⟨w1.heap.size, 1, none⟩ = some (.slice a1 m1 c1))) ∧ Good w u) := fun u hu => by
    have hu1 : Below w1.heap.size w1 u := hbW.trans (hu.mono (by omega))
    refine ⟨⟨wW_cells (hb1.trans (hu1.mono z1)), ?_, ?_⟩, (hfa.trans (hb1.mono (by omega))).trans (hu1.mono (by omega))⟩
    · rw [hu.cell (p := ⟨w1.heap.size, 0, none⟩) (by show w1.heap.size < _; omega), hW]; simp
    · rw [hu.cell (p := ⟨w1.heap.size, 1, none⟩) (by show w1.heap.size < _; omega), hW]; simp
  have HTs := hideIt (hT1.up hbW)
  have HLs : Hid (∀ u, Below W.heap.size W u → Ls u w.heap.size a n ls) := fun u hu => HR.out.below (HCW.out u hu).2 (Nat.le_refl _)
  have k1 := (HCW.out W (Below.refl _ _)).1.2.2
  clear HFA hT1 hb1 hbW cw0 cw1
  go_wp2
  rw [← hW]
  go_loopw [23] (fun i wr => ∃ k : Nat, k ≤ m1 ∧ i = .int .i64 (k : Int) ∧ Hid (∀ j t, j < k → ts[j]? = some t → 1 < (vsL t).length → (vsL t).length ≤ Q) ∧ Good W wr) (fun i _ => m1 - (intOf i).toNat)
  case atStart => exact ⟨0, by omega, rfl, fun j t hj => by omega, Good.refl _⟩
  case round =>
    obtain ⟨k, hk, rfl, HK, hg⟩ := hrel
    obtain ⟨⟨⟨cw0, cw1⟩, cf0, cf1⟩, hgw⟩ := HCW.out wr hg
    have HG := hideIt hg
    by_cases hlt : k < m1
    · rcases (HTs.out.up hg).2 with hz | ⟨b, off, rfl, hbl, hc⟩
      · omega
      · obtain ⟨t, ht⟩ : ∃ t, ts[k]? = some t := ⟨ts[k]'(by have := HTs.out.1; omega), List.getElem?_eq_getElem (by have := HTs.out.1; omega)⟩
        obtain ⟨x, cx, e0, iI, _⟩ := hc k t ht
        have htm := List.mem_of_getElem? ht
        have hB := (HTB.out t htm).1
        have hhalf := vs_half hB
        have hl23 := tB_len hB
        have b1 : (0 : Int) ≤ (k : Int) := by omega
        have b2 : (k : Int) < (m1 : Int) := by omega
        have HTk := hideIt ht
        have HV : Hid (∀ u, Good wr u → Calls Tryz.prog 63 #[.slice x t.length cx] u fun e v => ∃ a3 c3, e = .returned (.slice a3 (vsL t).length c3) ∧ Good wr v) := fun u hu =>
          (iVertsOf_any t t.length x cx (by omega) u (iI.up hu)).mono fun e v ⟨a3, m3, c3, he, ho, hb⟩ => by
            have hm : (vsL t).length = m3 := by have := ho.1; rw [ic_len] at this; omega
            subst hm
            exact ⟨a3, c3, he, hu.up hb⟩
        have HC : Hid (∀ u, Good wr u → u.cell? ⟨w.heap.size, 0, none⟩ = some (.int .i64 (nn : Int))) := fun u hu => (HCW.out u (HG.out.up hu)).1.1.1
        obtain ⟨V, hV⟩ : ∃ V, (vsL t).length = V := ⟨_, rfl⟩
        rw [hV] at HV hhalf
        have HVV := hideIt hV
        have g0 : Good wr wr.drew := (Good.refl _).drew
        clear hc ht iI hB htm hV
        by_cases h1 : 1 < t.length
        · have d1 : decide ((1 : Int) < (t.length : Int)) = true := decide_eq_true (by omega)
          by_cases hle : V ≤ Q
          · have d2 : decide ((Q : Int) < (V : Int)) = false := decide_eq_false (by omega)
            have HK2 : Hid (∀ j t, j < k + 1 → ts[j]? = some t → 1 < (vsL t).length → (vsL t).length ≤ Q) := fun j s hj hs h2 => by
              by_cases e : j = k
              · subst e
                rw [HTk.out] at hs
                obtain rfl := Option.some.inj hs
                rw [HVV.out]; exact hle
              · exact HK.out j s (by omega) hs h2
            clear HK
            go_wp2
            go_region_held3 (fun u => u.cell? ⟨w.heap.size, 0, none⟩ = some (.int .i64 (nn : Int))) (first | exact HC.out _ g1 | exact HC.out _ g0) ((go_at_call 63; refine (HV.out _ g0).mono ?_; rintro e w3 ⟨a3, c3, rfl, g1⟩))
            go_wp2
            exact ⟨⟨k + 1, by omega, by go_num, HK2, HG.out.up g1⟩, by simp [intOf]; omega⟩
          · have d2 : decide ((Q : Int) < (V : Int)) = true := decide_eq_true (by omega)
            have HN : Hid (¬ LvQ nn ls i ts) := fun hq => by
              have := hq.1 t (List.mem_of_getElem? HTk.out) (by rw [HVV.out]; omega)
              rw [HVV.out, HQ0.out] at this
              omega
            clear HK
            go_wp2
            go_region_held3 (fun u => u.cell? ⟨w.heap.size, 0, none⟩ = some (.int .i64 (nn : Int))) (first | exact HC.out _ g1 | exact HC.out _ g0) ((go_at_call 63; refine (HV.out _ g0).mono ?_; rintro e w3 ⟨a3, c3, rfl, g1⟩))
            go_wp2
            go_ret
            exact ⟨false, rfl, ⟨fun h => (by cases h), fun h => absurd h HN.out⟩, (HCW.out _ (HG.out.up g1)).2⟩
        · have d1 : decide ((1 : Int) < (t.length : Int)) = false := decide_eq_false (by omega)
          have HK2 : Hid (∀ j t, j < k + 1 → ts[j]? = some t → 1 < (vsL t).length → (vsL t).length ≤ Q) := fun j s hj hs h2 => by
            by_cases e : j = k
            · subst e
              rw [HTk.out] at hs
              obtain rfl := Option.some.inj hs
              rw [HVV.out] at h2
              omega
            · exact HK.out j s (by omega) hs h2
          clear HK
          go_wp2
          refine wp_region_any (by kernel_rfl) ?_
          change wpAny _ _ _ _ _ _ _ (World.drew _)
          refine takeOp (i := 0) (v := ?_) rfl (by kernel_rfl) (by kernel_rfl) (by kernel_rfl) (fun _ _ _ h => h) (by kernel_rfl) ?_ ?_
          rotate_left
          · intro w; go_simp; try with_reducible rfl
          refine takeOp (i := 1) (v := ?_) rfl (by kernel_rfl) (by kernel_rfl) (by kernel_rfl) (fun _ _ _ h => h) (by kernel_rfl) ?_ ?_
          rotate_left
          · intro w; go_simp; try with_reducible rfl
          refine takeOp (i := 2) (v := ?_) rfl (by kernel_rfl) (by kernel_rfl) (by kernel_rfl) (fun _ _ _ h => h) (by kernel_rfl) ?_ ?_
          rotate_left
          · intro w; go_simp; try with_reducible rfl
          refine takeOp (i := 3) (v := ?_) rfl (by kernel_rfl) (by kernel_rfl) (by kernel_rfl) (fun _ _ _ h => h) (by kernel_rfl) ?_ ?_
          rotate_left
          · intro w; go_simp; try with_reducible rfl
          refine skipOp (i := 4) rfl (by kernel_rfl) (by kernel_rfl) (by kernel_rfl) (fun _ _ _ h => h) (by kernel_rfl) ?_
          refine skipOp (i := 5) rfl (by kernel_rfl) (by kernel_rfl) (by kernel_rfl) (fun _ _ _ h => h) (by kernel_rfl) ?_
          refine skipOp (i := 6) rfl (by kernel_rfl) (by kernel_rfl) (by kernel_rfl) (fun _ _ _ h => h) (by kernel_rfl) ?_
          refine skipOp (i := 7) rfl (by kernel_rfl) (by kernel_rfl) (by kernel_rfl) (fun _ _ _ h => h) (by kernel_rfl) ?_
          refine skipOp (i := 8) rfl (by kernel_rfl) (by kernel_rfl) (by kernel_rfl) (fun _ _ _ h => h) (by kernel_rfl) ?_
          refine skipOp (i := 9) rfl (by kernel_rfl) (by kernel_rfl) (by kernel_rfl) (fun _ _ _ h => h) (by kernel_rfl) ?_
          refine skipOp (i := 10) rfl (by kernel_rfl) (by kernel_rfl) (by kernel_rfl) (fun _ _ _ h => h) (by kernel_rfl) ?_
          refine skipOp (i := 11) rfl (by kernel_rfl) (by kernel_rfl) (by kernel_rfl) (fun _ _ _ h => h) (by kernel_rfl) ?_
          refine wpAny_ready (rs := [12]) (by kernel_rfl) (by simp) ?_
          refine AllReady.cons rfl (fun K hK => ?_) AllReady.nil
          go_simp
          refine hK _ _ ?_
          clear hK K
          refine wpAny_done (by kernel_rfl) ?_ _
          go_wp2
          exact ⟨⟨k + 1, by omega, by go_num, HK2, HG.out.drew⟩, by simp [intOf]; omega⟩
    · obtain rfl : k = m1 := by omega
      have HA : Hid (∀ t ∈ ts, 1 < (vsL t).length → (vsL t).length ≤ nn / 2 ^ i) := fun t ht h2 => by
        obtain ⟨j, hj⟩ := List.mem_iff_getElem?.1 ht
        rw [HQ0.out]
        exact HK.out j t (by have := (List.getElem?_eq_some_iff.1 hj).1; have := HTs.out.1; omega) hj h2
      have HRt := hideIt (rootsOf_any nn ts k a1 c1 hn12 hm12 (fun t ht => by have h1 := HTB.out t ht; have h2 := tB_len h1.1; exact ⟨by omega, h2.2, h1.2⟩) HQ.out.fp.q.2.1 wr (HTs.out.up hg))
      clear HK hg
      go_wp2_with (go_at_call 52; refine HRt.out.mono ?_; rintro e w2 ⟨gr, L, rfl, ho2, hL2, hb2⟩; refine Hid.out ?_)
      refine (show ∀ {p : Prop}, p → Hid p from fun h => h) ?_
      have hG2 : Good W w2 := HG.out.up hb2
      obtain ⟨⟨⟨cw0', cw1'⟩, _⟩, _⟩ := HCW.out w2 hG2
      have hLl : L.length = nn := by have := ho2.1; rw [ic_len] at this; omega
      have HL := hideIt hL2
      have HO := hideIt ho2
      have HG2 := hideIt hG2
      have hgr := (ho2.lt gr rfl).2
      clear HRt ho2 hL2 hb2 hG2 cw0 cw1 cf0 cf1 hgw
      go_wp2
      go_loopw [46] (fun i_1 wr => ∃ q : Nat, q ≤ n ∧ i_1 = .int .i64 (q : Int) ∧ Hid (∀ j x, j < q → ls[j]? = some x → x.t = false → x.l = (i : Int) → trI ts x.a = trI ts x.b) ∧ Good w2 wr) (fun i_1 _ => n - (intOf i_1).toNat)
      case atStart => exact ⟨0, by omega, rfl, fun j x hj => by omega, Good.refl _⟩
      case round =>
        obtain ⟨q, hq, rfl, HK, hg⟩ := hrel
        clear cw0' cw1'
        have hz3 := hg.size
        by_cases hlt2 : q < n
        · obtain ⟨b, off, x, rfl, hbl, hxk, hat⟩ := (HLs.out wr (HG2.out.up hg)).at hlt2
          have e0 := hat.ca
          have e1 := hat.cb
          have e2 := hat.cl
          have e3 := hat.ct
          have b1 : (0 : Int) ≤ (q : Int) := by omega
          have b2 : (q : Int) < (n : Int) := by omega
          have HX := hideIt hxk
          have HGa := hideIt (hg.alloc (.cells #[.int .i64 x.a, .int .i64 x.b, .int .i64 x.l, .bool x.t] 58))
          cases ht : x.t with
          | true =>
            rw [ht] at e3 HGa
            have HK2 : Hid (∀ j x, j < q + 1 → ls[j]? = some x → x.t = false → x.l = (i : Int) → trI ts x.a = trI ts x.b) := fun j y hj hy h1 h2 => by
              by_cases e : j = q
              · subst e
                rw [HX.out] at hy
                obtain rfl := Option.some.inj hy
                rw [ht] at h1; cases h1
              · exact HK.out j y (by omega) hy h1 h2
            clear HK hxk hat ht hg
            go_wp2
            go_quiet (fail)
            go_wp2
            exact ⟨⟨q + 1, by omega, by go_num, HK2, below_drewN HGa.out _⟩, by simp [intOf]; omega⟩
          | false =>
            rw [ht] at e3 HGa
            by_cases hli : x.l = (i : Int)
            · have hed := HEd.out x (List.mem_of_getElem? hxk)
              obtain ⟨ua, hua⟩ : ∃ u : Nat, x.a = (u : Int) := ⟨x.a.toNat, by omega⟩
              obtain ⟨ub, hub⟩ : ∃ u : Nat, x.b = (u : Int) := ⟨x.b.toNat, by omega⟩
              obtain ⟨s, hs, hus⟩ := HQ.out.cov x.a (by omega) (by omega)
              obtain ⟨s', hs', hus'⟩ := HQ.out.cov x.b (by omega) (by omega)
              obtain ⟨p, hp⟩ : ∃ p, s[0]? = some p := ⟨_, List.getElem?_eq_getElem (List.length_pos_of_mem hus)⟩
              obtain ⟨p', hp'⟩ : ∃ p, s'[0]? = some p := ⟨_, List.getElem?_eq_getElem (List.length_pos_of_mem hus')⟩
              have hsame := head_same HQ.out hs hs' hus hus' hp hp'
              have h1 := HL.out s hs ua (by rw [← hua]; exact hus)
              have h2 := HL.out s' hs' ub (by rw [← hub]; exact hus')
              rw [hp] at h1
              rw [hp'] at h2
              have HOw := own_up HO.out HGa.out
              have r1 : (wr.alloc (.cells #[.int .i64 x.a, .int .i64 x.b, .int .i64 x.l, .bool false] 58)).cell? ⟨gr, ua, none⟩ = some (.int .i64 p) := by rw [HOw.cellAt ua (by omega)]; exact ic_at h1
              have r2 : (wr.alloc (.cells #[.int .i64 x.a, .int .i64 x.b, .int .i64 x.l, .bool false] 58)).cell? ⟨gr, ub, none⟩ = some (.int .i64 p') := by rw [HOw.cellAt ub (by omega)]; exact ic_at h2
              have b3 : (0 : Int) ≤ (ua : Int) := by omega
              have b4 : (ua : Int) < (nn : Int) := by omega
              have b5 : (0 : Int) ≤ (ub : Int) := by omega
              have b6 : (ub : Int) < (nn : Int) := by omega
              have d2 : (x.l == (i : Int)) = true := by simpa using hli
              have HSame := hideIt hsame
              have HGb := hideIt HGa.out
              have HX2 : Hid (∀ y, ls[q]? = some y → (trI ts y.a = trI ts y.b ↔ p = p')) := fun y hy => by
                rw [HX.out] at hy
                obtain rfl := Option.some.inj hy
                exact HSame.out.symm
              rw [hua, hub] at HGb r1 r2
              rw [hua] at e0
              rw [hub] at e1
              rw [hli] at e2 HGb r1 r2
              have HNq : Hid (p ≠ p' → ¬ LvQ nn ls i ts) := fun hne hq => hne (HSame.out.2 (hq.2 x (List.mem_of_getElem? HX.out) ht hli))
              clear hxk hat ht hg hli d2 hs hs' hus hus' hp hp' hsame h1 h2 HOw HGa hed hua hub
              by_cases hpp : p = p'
              · have d3 : (p != p') = false := by simpa using hpp
                have HK2 : Hid (∀ j x, j < q + 1 → ls[j]? = some x → x.t = false → x.l = (i : Int) → trI ts x.a = trI ts x.b) := fun j y hj hy h1 h2 => by
                  by_cases e : j = q
                  · subst e
                    exact (HX2.out y hy).2 hpp
                  · exact HK.out j y (by omega) hy h1 h2
                have HPP := hideIt hpp
                clear HK hpp
                go_wp2
                go_quiet (fail)
                go_wp2
                exact ⟨⟨q + 1, by omega, by go_num, HK2, below_drewN HGb.out _⟩, by simp [intOf]; omega⟩
              · have d3 : (p != p') = true := by simpa using hpp
                have HN2 := hideIt (HNq.out hpp)
                clear HK hpp
                go_wp2
                go_quiet (fail)
                go_wp2
                go_ret
                exact ⟨false, rfl, ⟨fun h => (by cases h), fun h => absurd h HN2.out⟩, (HCW.out _ (HG2.out.up (below_drewN HGb.out _))).2⟩
            · have d2 : (x.l == (i : Int)) = false := by simpa using hli
              have HK2 : Hid (∀ j x, j < q + 1 → ls[j]? = some x → x.t = false → x.l = (i : Int) → trI ts x.a = trI ts x.b) := fun j y hj hy h1 h2 => by
                by_cases e : j = q
                · subst e
                  rw [HX.out] at hy
                  obtain rfl := Option.some.inj hy
                  exact absurd h2 hli
                · exact HK.out j y (by omega) hy h1 h2
              clear HK hxk hat ht hg hli
              go_wp2
              go_quiet (fail)
              go_wp2
              exact ⟨⟨q + 1, by omega, by go_num, HK2, below_drewN HGa.out _⟩, by simp [intOf]; omega⟩
        · obtain rfl : q = n := by omega
          have HY : Hid (LvQ nn ls i ts) := ⟨HA.out, fun x hx h1 h2 => by
            obtain ⟨j, hj⟩ := List.mem_iff_getElem?.1 hx
            exact HK.out j x (by have := (List.getElem?_eq_some_iff.1 hj).1; omega) hj h1 h2⟩
          clear HK
          go_wp2
          go_ret
          exact ⟨true, rfl, ⟨fun _ => HY.out, fun _ => rfl⟩, (HCW.out _ (HG2.out.up hg)).2⟩
end Go.Proofs.YtgjngaaibcmgmabGreat
