/- The program's ForestAt, where the graph is right. The program's WebTake: the next Level, how many ends an edge has in a tree. What Link and Cut answer: pure. Headers of rows that are only read. What the laws of chapter 6 that answer lists share. The specification's VertsOf. -/
import Derived.Test.YtgjnlhdgekfieaaGreatKIFa9
import Derived.Test.YtgjnlhdgekfieaaGreatKWt9
import Derived.Test.YtgjnlhdgekfieaaGreatKLaid
import Derived.Test.YtgjnlhdgekfieaaGreatKFB7
import Derived.Test.YtgjnlhdgekfieaaGreatKICom
namespace Go.Proofs.YtgjnlhdgekfieaaGreat
open Go.RowKit

theorem infoIT9 : (Tryz.prog.info? 44).map (fun i => (i.zero, i.size, i.bytes)) = some (some (.slice none 0 0), 1, 24) := by kernel_rfl
theorem newsV9 (w : World) (x : Value) : ∀ j u, ([x] : List Value)[j]? = some u → (w.alloc (.cells #[x] 44)).cell? ((⟨w.heap.size, 0, none⟩ : Addr).add j) = some u := by
  intro j u hj
  rcases j with _ | j
  · simp at hj; subst hj; simp [Addr.add]
  · simp at hj
/-- the answer of ForestAt: a forest of the answer's own -/
def FAn9 (w : World) (N : Int) (o : Option (List (List Int))) (e : Ending) (w' : World) : Prop :=
  ∃ a m c R, e = .returned (.tuple #[.agg #[.int .i64 (if o.isSome then N else 0), .slice a m c], .bool o.isSome]) ∧ FB w' w.heap.size w'.heap.size a m c R ∧ rts R = o.getD [] ∧ Below w.heap.size w w'
/-- .. that is only read -/
def FAt9 (w : World) (N : Int) (o : Option (List (List Int))) (e : Ending) (w' : World) : Prop :=
  ∃ a m c, e = .returned (.tuple #[.agg #[.int .i64 (if o.isSome then N else 0), .slice a m c], .bool o.isSome]) ∧ Ts w' w'.heap.size a m (o.getD []) ∧ Below w.heap.size w w'
theorem FAn9.weak {w : World} {N : Int} {o : Option (List (List Int))} {e : Ending} {w' : World} (h : FAn9 w N o e w') : FAt9 w N o e w' := by
  obtain ⟨a, m, c, R, h1, h2, h3, h4⟩ := h
  exact ⟨a, m, c, h1, by rw [← h3]; exact h2.ts, h4⟩
/-- behind the web's box and the forest's -/
def wf2 (w : World) (N : Int) (a : Option Addr) (n c : Nat) : World := (wW w N a n c).alloc (.cells #[.int .i64 0, .slice none 0 0] 57)
theorem wf2_size (w : World) (N : Int) (a : Option Addr) (n c : Nat) : (wf2 w N a n c).heap.size = w.heap.size + 2 := by simp [wf2, wW]
theorem wf2_good (w : World) (N : Int) (a : Option Addr) (n c : Nat) : Good w (wf2 w N a n c) := (wW_good w N a n c).alloc _
theorem wf2_cells {w : World} {N : Int} {a : Option Addr} {n c : Nat} {u : World} (h : Below (w.heap.size + 2) (wf2 w N a n c) u) : (u.cell? ⟨w.heap.size, 0, none⟩ = some (.int .i64 N) ∧ u.cell? ⟨w.heap.size, 1, none⟩ = some (.slice a n c)) ∧ Box7 u (w.heap.size + 1) 57 (.int .i64 0) (.slice none 0 0) := by
  have b1 : Box7 (wf2 w N a n c) w.heap.size 26 (.int .i64 N) (.slice a n c) := (Box7.new w _ _ _ _ rfl).alloc _
  have b2 : Box7 (wf2 w N a n c) (w.heap.size + 1) 57 (.int .i64 0) (.slice none 0 0) := Box7.new _ _ _ _ _ (by simp [wW])
  have c1 := b1.below h (by omega)
  exact ⟨⟨c1.cell0, c1.cell1⟩, b2.below h (by omega)⟩
theorem is_one (w : World) (x : Int) : Is (w.alloc (.cells #[.int .i64 x] 3)) (w.alloc (.cells #[.int .i64 x] 3)).heap.size (some ⟨w.heap.size, 0, none⟩) 1 [x] := ⟨rfl, .inr ⟨w.heap.size, 0, rfl, by simp, fun j y hy => by
  rcases j with _ | j
  · simp at hy; subst hy; simp
  · simp at hy⟩⟩
/-- the trees so far are short -/
theorem ft_short {es : List EdgeV} {nn k : Nat} (hE : ∀ e ∈ es, 0 ≤ e.1 ∧ e.1 < e.2 ∧ e.2 < (nn : Int)) (hn : nn ≤ 12) (hk : k ≤ nn) {ts : List (List Int)} (h : ftK es nn k = some ts) : ∀ t ∈ ts, t.length ≤ 23 ∧ 0 < t.length := fun t ht => by
  obtain ⟨r, h1, ⟨sn, h2⟩, _⟩ := (ft_any hE hn k hk h).tour t ht
  have := tB_len (wk_tree hE hn (by omega) (by omega) h2).1
  omega
theorem ft_in {ts : List (List Int)} {v : Int} : v ∈ ts.flatten ↔ 0 ≤ trI ts v := by
  rcases trI_cases ts v with ⟨k, t, h1, h2, h3⟩ | ⟨h1, h2⟩
  · rw [h3]
    exact ⟨fun _ => by omega, fun _ => List.mem_flatten.2 ⟨t, List.mem_of_getElem? h1, h2⟩⟩
  · rw [h2]
    exact ⟨fun h => by obtain ⟨t, ht, hv⟩ := List.mem_flatten.1 h; exact absurd hv (h1 t ht), fun h => by omega⟩

set_option maxRecDepth 100000 in
set_option maxHeartbeats 4000000 in
theorem iForestAt_no (nn : Nat) (ls : List Ld) (lv : Int) (n : Nat) (a : Option Addr) (c : Nat) (hG : gB (nn : Int) (gE ls) = true) (hl : ∀ x ∈ ls, 0 ≤ x.l) (hB : ¬ Bridge (fE ls 0)) (w : World) (h : Ls w w.heap.size a n ls) :
    Calls Tryz.prog 33 #[.agg #[.int .i64 (nn : Int), .slice a n c], .int .i64 lv] w (FAn9 w (nn : Int) none) := by
  have HP := hideIt ((plantable_any nn ls n a c hG hl _ (h.up (wf2_good w (nn : Int) a n c))).mono fun e v ⟨b, h1, h2, h3⟩ => (show e = Ending.returned (.bool false) ∧ Below (wf2 w (nn : Int) a n c).heap.size (wf2 w (nn : Int) a n c) v from ⟨by
    cases b with
    | false => exact h1
    | true => exact absurd (h2.1 rfl) hB, h3⟩))
  clear h hG hl hB
  go_enter Tryz.func33, Tryz.ntmps33
  go_wp2_with (go_at_call 95; refine HP.out.mono ?_; rintro e w1 ⟨rfl, hb1⟩; refine Hid.out ?_)
  refine (show ∀ {p : Prop}, p → Hid p from fun h => h) ?_
  rw [wf2_size] at hb1
  obtain ⟨⟨cw0, cw1⟩, bx⟩ := wf2_cells hb1
  have r0 := bx.cell0
  have r1 := bx.cell1
  have q0 := bx.frozen 0
  have q1 := bx.frozen 1
  have HG : Hid (Good w w1) := (wf2_good w (nn : Int) a n c).trans (hb1.mono (by omega))
  clear HP hb1
  go_wp2
  refine bodyPost_ret (v := .tuple #[.agg #[.int .i64 0, .slice none 0 0], .bool false]) (by simp [results, Tryz.results33, go_sem, r0, r1]) rfl ⟨none, 0, 0, [], rfl, FB.nil _ _, rfl, ?_⟩
  exact (HG.out.setCell (p := ⟨w.heap.size + 1, 0, none⟩) (by show _ ≤ w.heap.size + 1; omega) _).setCell (p := ⟨w.heap.size + 1, 1, none⟩) (by show _ ≤ w.heap.size + 1; omega) _

set_option maxRecDepth 100000 in
set_option maxHeartbeats 4000000 in
theorem iForestAt_yes (nn : Nat) (ls : List Ld) (lv : Int) (n : Nat) (a : Option Addr) (c : Nat) (hG : gB (nn : Int) (gE ls) = true) (hl : ∀ x ∈ ls, 0 ≤ x.l) (hB : Bridge (fE ls 0)) (hlv : 0 ≤ lv) (ts : List (List Int)) (hts : ftK (fE ls lv) nn nn = some ts) (w : World) (h : Ls w w.heap.size a n ls) :
    Calls Tryz.prog 33 #[.agg #[.int .i64 (nn : Int), .slice a n c], .int .i64 lv] w (FAn9 w (nn : Int) (some ts)) := by
  obtain ⟨i0, hi, hz0, hz1, hz2⟩ := info_parts infoIT9
  have hg := gB_chk hG
  have hn1 : 1 ≤ nn := by omega
  have hn12 : nn ≤ 12 := by omega
  have hlen := h.1
  have h66 : n ≤ 66 := by have := hg.2.2; rw [gE_len] at this; omega
  have hBl : Bridge (fE ls lv) := hB.sub fun e he => fE_low hlv he
  have HE := hideIt (fE_ends hG lv)
  have HP := hideIt ((plantable_any nn ls n a c hG hl _ (h.up (wf2_good w (nn : Int) a n c))).mono fun e v ⟨b, h1, h2, h3⟩ => (show e = Ending.returned (.bool true) ∧ Below (wf2 w (nn : Int) a n c).heap.size (wf2 w (nn : Int) a n c) v from ⟨by
    cases b with
    | true => exact h1
    | false => exact absurd (h2.2 hB) (by simp), h3⟩))
  have HF : Hid (∀ u, Good (wf2 w (nn : Int) a n c) u → Calls Tryz.prog 96 #[.agg #[.int .i64 (nn : Int), .slice a n c], .int .i64 lv] u fun e w' => ∃ g m c', e = .returned (.slice (some ⟨g, 0, none⟩) m c') ∧ Es w' w'.heap.size (some ⟨g, 0, none⟩) m (fE ls lv) ∧ Good (wf2 w (nn : Int) a n c) w') := fun u hu =>
    (forestEdges_any (nn : Int) ls lv n a c (by omega) u ((h.up (wf2_good w _ a n c)).up hu)).mono fun e v ⟨g, m, c', h1, h2, h3⟩ => ⟨g, m, c', h1, Es_of_own h2, hu.up h3⟩
  have HT : Hid (∀ (g m c' k : Nat) (t sn : List Int) (u : World), k < nn → wk (fE ls lv) nn nn (k : Int) (-1) [] = some (t, sn) → t.length ≤ 23 → Es u u.heap.size (some ⟨g, 0, none⟩) m (fE ls lv) → Calls Tryz.prog 99 #[.int .i64 (nn : Int), .slice (some ⟨g, 0, none⟩) m c', .int .i64 (k : Int)] u fun e w' => ∃ a' m c', e = .returned (.tuple #[.slice a' m c', .bool true]) ∧ w'.ownsRow u.heap.size 3 1 (.slice a' m c') m (ic t) ∧ Below u.heap.size u w') := fun g m c' k t sn u hk hw htl hu =>
    iTourOf_n (fE ls lv) nn m hn1 hn12 (some ⟨g, 0, none⟩) c' (k : Int) t sn (by have := hu.1; have := fE_len ls lv; omega) (fun e he => gB_eB hG (fE_g he)) (fE_nodup (gB_nodup hG) lv) (hBl.tree (fE_nodup (gB_nodup hG) lv)) (by omega) (by omega) hw (by omega) u hu
  have HTS := hideIt hts
  clear h hg hG hl hB hBl hts
  go_enter Tryz.func33, Tryz.ntmps33
  go_wp2_with (go_at_call 95; refine HP.out.mono ?_; rintro e w1 ⟨rfl, hb1⟩; refine Hid.out ?_)
  refine (show ∀ {p : Prop}, p → Hid p from fun h => h) ?_
  have G1 : Good (wf2 w (nn : Int) a n c) w1 := hb1
  rw [wf2_size] at hb1
  obtain ⟨⟨cw0, cw1⟩, _⟩ := wf2_cells hb1
  have HFe := hideIt (HF.out w1 G1)
  clear HP hb1 HF
  go_wp2_with (go_at_call 96; refine HFe.out.mono ?_; rintro e w2 ⟨g, m2, c2, rfl, hEs, G2⟩; refine Hid.out ?_)
  refine (show ∀ {p : Prop}, p → Hid p from fun h => h) ?_
  have G2b : Below (w.heap.size + 2) (wf2 w (nn : Int) a n c) w2 := by have := G2; unfold Good at this; rwa [wf2_size] at this
  obtain ⟨⟨cv0, cv1⟩, _⟩ := wf2_cells G2b
  have z2 := G2b.size
  rw [wf2_size] at z2
  have HEs := hideIt hEs
  have HG2 := hideIt G2b
  have HC : Hid (∀ u, Below w2.heap.size w2 u → (u.cell? ⟨w.heap.size, 0, none⟩ = some (.int .i64 (nn : Int)) ∧ u.cell? ⟨w.heap.size, 1, none⟩ = some (.slice a n c)) ∧ Box7 u (w.heap.size + 1) 57 (.int .i64 0) (.slice none 0 0)) := fun u hu => wf2_cells (HG2.out.trans (hu.mono z2))
  have HF0 := hideIt (FB.start w2)
  have HB0 : Hid (Below w2.heap.size w2 (w2.alloc (.cells #[] 44))) := (Below.refl _ _).alloc (Nat.le_refl _) _
  have k0 : (w2.alloc (.cells #[] 44)).cell? ⟨w.heap.size, 0, none⟩ = some (.int .i64 (nn : Int)) := (HC.out _ HB0.out).1.1
  clear HFe hEs G2 G2b G1 cw0 cw1
  go_wp2
  go_loopw [7, 21] (fun r i wr => ∃ (k m c' : Nat) (a' : Option Addr) (R : List Rw), k ≤ nn ∧ m ≤ k ∧ i = .int .i64 (k : Int) ∧ r = .slice a' m c' ∧ Hid (ftK (fE ls lv) nn k = some (rts R)) ∧ FB wr w2.heap.size wr.heap.size a' m c' R ∧ Below w2.heap.size w2 wr) (fun _ i _ => nn - (intOf i).toNat)
  case atStart => exact ⟨0, 0, 0, _, [], by omega, by omega, rfl, rfl, rfl, HF0.out, HB0.out⟩
  case round =>
    obtain ⟨k, m, c', a', R, hk, hm, rfl, rfl, HK, hfb, hb⟩ := hrel
    clear HF0 HB0 k0
    obtain ⟨⟨k0, k1⟩, bx⟩ := HC.out wr hb
    have hz := hb.size
    by_cases hlt : k < nn
    · have hsh := ft_short HE.out hn12 hk HK.out
      have hba : Below wr.heap.size wr (wr.alloc (.cells #[.int .i64 (k : Int)] 3)) := (Below.refl _ _).alloc (Nat.le_refl _) _
      have HPt := hideIt (placeTold_any (rts R) (k : Int) (fun t ht => by have := hsh t ht; omega) m a' c' (by omega) (some ⟨wr.heap.size, 0, none⟩) 1 (wr.alloc (.cells #[.int .i64 (k : Int)] 3)) (hfb.ts.up hba) (is_one wr (k : Int)))
      by_cases hin : (k : Int) ∈ (rts R).flatten
      · have hpos := ft_in.1 hin
        have HK2 := hideIt (ftK_there HK.out hin)
        obtain ⟨j, hj⟩ : ∃ j, trI (rts R) (k : Int) = j := ⟨_, rfl⟩
        rw [hj] at HPt hpos
        have d1 : decide (j < 0) = false := decide_eq_false (by omega)
        have HFB := hideIt (hfb.keep hba)
        have HB := hideIt (hb.trans (hba.mono hz))
        clear hin hj hsh hfb hb hba HK
        go_wp2_with (go_at_call 97; refine HPt.out.mono ?_; rintro e w3 ⟨rfl, hb3⟩)
        exact ⟨⟨k + 1, m, c', a', R, by omega, by omega, by go_num, rfl, HK2, HFB.out.keep hb3, HB.out.trans (hb3.mono (by simp; omega))⟩, by simp [intOf]; omega⟩
      · have hneg : trI (rts R) (k : Int) = -1 := by
          rcases trI_cases (rts R) (k : Int) with ⟨q, t, h1, h2, h3⟩ | ⟨_, h2⟩
          · exact absurd (List.mem_flatten.2 ⟨t, List.mem_of_getElem? h1, h2⟩) hin
          · exact h2
        rw [hneg] at HPt
        obtain ⟨t, sn, hw⟩ : ∃ t sn, wk (fE ls lv) nn nn (k : Int) (-1) [] = some (t, sn) := by
          cases hw : wk (fE ls lv) nn nn (k : Int) (-1) [] with
          | none =>
            have := ftK_none (ftK_ring HK.out hin hw) nn (by omega)
            rw [HTS.out] at this
            cases this
          | some p => exact ⟨p.1, p.2, rfl⟩
        have htB := (wk_tree HE.out hn12 (by omega) (by omega) hw).1
        have htl := tB_len htB
        have HK2 : Hid (∀ r : Rw, r.t = t → ftK (fE ls lv) nn (k + 1) = some (rts (R ++ [r]))) := fun r hr => by rw [ftK_new HK.out hin hw, rts_snoc, hr]
        have HW := hideIt hw
        have HFB := hideIt (hfb.keep hba)
        have HB := hideIt (hb.trans (hba.mono hz))
        clear hin hneg hsh hfb hb hba HK hw htB
        go_wp2_with (go_at_call 97; refine HPt.out.mono ?_; rintro e w3 ⟨rfl, hb3⟩; refine Hid.out ?_)
        refine (show ∀ {p : Prop}, p → Hid p from fun h => h) ?_
        have HFB3 := hideIt (HFB.out.keep hb3)
        have B3 := HB.out.trans (hb3.mono (by simp; omega))
        have z3 := B3.size
        have HB3 := hideIt B3
        obtain ⟨⟨e0, e1⟩, _⟩ := HC.out _ B3
        have HTo := hideIt (HT.out g m2 c2 k t sn w3 hlt HW.out (by omega) (HEs.out.up B3))
        clear HPt hb3 B3 HFB HB k0 k1 bx
        go_wp2_with (go_at_call 99; refine HTo.out.mono ?_; rintro e w4 ⟨a4, m4, c4, rfl, ho4, hb4⟩; refine Hid.out ?_)
        refine (show ∀ {p : Prop}, p → Hid p from fun h => h) ?_
        have hm4 : t.length = m4 := by have := ho4.1; rw [ic_len] at this; omega
        subst hm4
        obtain ⟨g4, c4', hform, _⟩ := ho4.form (by omega)
        simp at hform
        obtain ⟨rfl, rfl⟩ := hform
        have HRw := hideIt (RwB.of_own ho4)
        have hgl := (ho4.lt g4 rfl).1
        have HFr : Hid (∀ x ∈ R, x.g ≠ g4) := fun x hx e => by have := (HFB3.out.ins x hx).2.2; omega
        have HFB4 := hideIt (HFB3.out.keep hb4)
        have B4 := HB3.out.trans (hb4.mono z3)
        have z4 := B4.size
        have HB4 := hideIt B4
        clear HTo ho4 hb4 B4 HFB3 HB3 e0 e1 HW
        go_wp2_with (at_builtin; refine wpList_append_own _ rfl _ _ 55 rfl w2.heap.size 44 i0 _ 1 24 Tryz.underlying55 hi hz0 hz1 hz2 rfl (by decide) _ _ _ rfl (HFB4.out.own.alloc _) ⟨w4.heap.size, 0, none⟩ 1 1 [.slice (some ⟨g4, 0, none⟩) t.length c4] rfl rfl (newsV9 w4 _) (by intro y hy; simp at hy; subst hy; rfl) (by unfold maxLen; omega) (by omega) (by simp; omega) ?_)
        intro v5 w5 hown5 hg5 _
        obtain ⟨a5, c5, rfl, F5⟩ := HFB4.out.app (r := ⟨g4, c4, t⟩) HRw.out (by show w2.heap.size ≤ g4; omega) HFr.out hown5 hg5
        have HF5 := hideIt F5
        have HB5 : Hid (Below w2.heap.size w2 w5) := (HB4.out.alloc z4 _).grown hg5 (by simp; omega) (fun j hj => (HFB4.out.own.lt j hj).1)
        clear hown5 hg5 F5 HFB4 HB4
        go_wp2
        exact ⟨⟨k + 1, m + 1, c5, a5, R ++ [⟨g4, c4, t⟩], by omega, by omega, by go_num, rfl, HK2.out _ rfl, HF5.out, HB5.out⟩, by simp [intOf]; omega⟩
    · obtain rfl : k = nn := by omega
      have HR : Hid (rts R = ts) := by show _ = _; have := HK.out; rw [HTS.out] at this; exact (Option.some.inj this).symm
      have r0 := bx.cell0
      have r1 := bx.cell1
      have q0 := bx.frozen 0
      have q1 := bx.frozen 1
      have HFB := hideIt hfb
      have HG : Hid (Good w wr) := (wf2_good w (k : Int) a n c).trans ((HG2.out.trans (hb.mono z2)).mono (by omega))
      clear hfb hb HK
      go_wp2
      refine bodyPost_ret (v := .tuple #[.agg #[.int .i64 (k : Int), .slice a' m c'], .bool true]) (by simp [results, Tryz.results33, go_sem, r0, r1]) rfl ⟨a', m, c', R, rfl, ?_, HR.out, ?_⟩
      · have h1 := (HFB.out.setLow (x := w.heap.size + 1) (by omega) 0 (.int .i64 (k : Int))).setLow (x := w.heap.size + 1) (by omega) 1 (.slice a' m c')
        exact (h1.lo (by omega)).hi (by simp [World.setCell]) (Nat.le_refl _)
      · exact (HG.out.setCell (p := ⟨w.heap.size + 1, 0, none⟩) (by show _ ≤ w.heap.size + 1; omega) _).setCell (p := ⟨w.heap.size + 1, 1, none⟩) (by show _ ≤ w.heap.size + 1; omega) _
end Go.Proofs.YtgjnlhdgekfieaaGreat
namespace Go.Proofs.YtgjnlhdgekfieaaGreat
open Go.RowKit

theorem levelUp_any (i : Int) (h0 : 0 ≤ i) (h1 : i ≤ 4) (w : World) : Calls Tryz.prog 146 #[.int .i64 i] w fun e w' => e = .returned (.int .i64 (upL i)) ∧ w' = w := by
  have hw : IntKind.i64.wrap (i + 1) = i + 1 := by rw [IntKind.wrap_i64]; omega
  have hm : min (i + 1) 4 = upL i := by unfold upL; split <;> omega
  go_enter Tryz.func146, Tryz.ntmps146
  go_wp2
  go_ret
  exact ⟨by first | rfl | (rw [← hm]; rfl) | simp [hm], rfl⟩

/-- how many of an edge's first k ends are in the tree -/
def endK (t : List Int) (x : Ld) (k : Nat) : Nat := (if 1 ≤ k ∧ x.a ∈ t then 1 else 0) + (if 2 ≤ k ∧ x.b ∈ t then 1 else 0)
theorem endK_two (t : List Int) (x : Ld) : (endK t x 2 = 2 ↔ x.a ∈ t ∧ x.b ∈ t) ∧ (endK t x 2 = 1 ↔ ¬ (x.a ∈ t ∧ x.b ∈ t) ∧ (x.a ∈ t ∨ x.b ∈ t)) := by
  unfold endK
  by_cases ha : x.a ∈ t <;> by_cases hb : x.b ∈ t <;> simp [ha, hb]
theorem endK_le (t : List Int) (x : Ld) (k : Nat) : endK t x k ≤ 2 := by unfold endK; split <;> split <;> omega
theorem endK_step (t : List Int) (x : Ld) (k : Nat) (hk : k < 2) : endK t x (k + 1) = endK t x k + (if (if k = 0 then x.a else x.b) ∈ t then 1 else 0) := by
  unfold endK
  obtain rfl | rfl : k = 0 ∨ k = 1 := by omega
  · by_cases ha : x.a ∈ t <;> simp [ha]
  · by_cases ha : x.a ∈ t <;> by_cases hb : x.b ∈ t <;> simp [ha, hb]

set_option maxRecDepth 100000 in
set_option maxHeartbeats 4000000 in
theorem endsIn_any (t : List Int) (x : Ld) (n : Nat) (a : Option Addr) (c : Nat) (hn : n ≤ 1048576) (w : World) (h : Is w w.heap.size a n t) :
    Calls Tryz.prog 145 #[.slice a n c, .agg #[.int .i64 x.a, .int .i64 x.b, .int .i64 x.l, .bool x.t]] w fun e w' => e = .returned (.int .i64 (endK t x 2 : Int)) ∧ Below w.heap.size w w' := by
  have HC : Hid (∀ W v, Good w W → Calls Tryz.prog 191 #[.slice a n c, .int .i64 v] W fun e w' => e = .returned (.bool (decide (v ∈ t))) ∧ w' = W) := fun W v hW => conI_any t v n a c (by omega) W (h.up hW)
  obtain ⟨W2, hW2⟩ : ∃ W2, W2 = (w.alloc (.cells #[.int .i64 x.a, .int .i64 x.b, .int .i64 x.l, .bool x.t] 52)).alloc (.cells #[.int .i64 x.a, .int .i64 x.b] 3) := ⟨_, rfl⟩
  have G2 : Good w W2 := by rw [hW2]; exact ((Good.refl w).alloc _).alloc _
  have l2 : w.heap.size + 1 < W2.heap.size := by rw [hW2]; simp
  have c0 : W2.cell? ⟨w.heap.size + 1, 0, none⟩ = some (.int .i64 x.a) := by rw [hW2]; simp [go_sem]
  have c1 : W2.cell? ⟨w.heap.size + 1, 1, none⟩ = some (.int .i64 x.b) := by rw [hW2]; simp [go_sem]
  clear h
  go_enter Tryz.func145, Tryz.ntmps145
  go_wp2
  rw [← hW2]
  clear hW2
  have HG2 := hideIt G2
  clear G2
  go_loopw [14, 5] (fun i s wr => ∃ (k : Nat), k ≤ 2 ∧ i = .int .i64 (k : Int) ∧ s = .int .i64 (endK t x k : Int) ∧ Below W2.heap.size W2 wr) (fun i _ _ => 2 - (intOf i).toNat)
  case atStart => exact ⟨0, by omega, rfl, by simp [endK], Below.refl _ _⟩
  case round =>
    obtain ⟨k, hk, rfl, rfl, hb⟩ := hrel
    by_cases hlt : k < 2
    · have hv : wr.cell? ⟨w.heap.size + 1, k, none⟩ = some (.int .i64 (if k = 0 then x.a else x.b)) := by
        rw [hb.cell l2]
        obtain rfl | rfl : k = 0 ∨ k = 1 := by omega
        · exact c0
        · exact c1
      have hst := endK_step t x k hlt
      have hle := endK_le t x k
      obtain ⟨v, hvv⟩ : ∃ v, v = (if k = 0 then x.a else x.b) := ⟨_, rfl⟩
      rw [← hvv] at hv hst
      have hq := hideIt (HC.out wr v (HG2.out.up hb))
      have b1 : (0 : Int) ≤ (k : Int) := by omega
      have b2 : (k : Int) < 2 := by omega
      have b3 : decide ((k : Int) < 2) = true := decide_eq_true b2
      have Hb := hideIt hb
      by_cases hm : v ∈ t
      · rw [decide_eq_true hm] at hq
        rw [if_pos hm] at hst
        obtain ⟨q, hqq⟩ : ∃ q, q = endK t x k := ⟨_, rfl⟩
        rw [← hqq] at hst hle ⊢
        have hwr : IntKind.i64.wrap ((q : Int) + 1) = (q : Int) + 1 := by rw [IntKind.wrap_i64]; omega
        have Hst := hideIt hst
        clear hvv hm hst hqq hb
        go_wp2_with (go_at_call 191; refine hq.out.mono ?_; rintro e w1 ⟨rfl, hw1⟩; have hw1' := hw1.symm; subst hw1'; refine Hid.out ?_)
        refine (show ∀ {p : Prop}, p → Hid p from fun h => h) ?_
        go_wp2
        exact ⟨⟨k + 1, by omega, by go_num, by rw [Hst.out]; simp, Hb.out⟩, by simp [intOf]; omega⟩
      · rw [decide_eq_false hm] at hq
        rw [if_neg hm] at hst
        have Hst := hideIt hst
        clear hvv hm hst hb
        go_wp2_with (go_at_call 191; refine hq.out.mono ?_; rintro e w1 ⟨rfl, hw1⟩; have hw1' := hw1.symm; subst hw1'; refine Hid.out ?_)
        refine (show ∀ {p : Prop}, p → Hid p from fun h => h) ?_
        go_wp2
        exact ⟨⟨k + 1, by omega, by go_num, by rw [Hst.out]; simp, Hb.out⟩, by simp [intOf]; omega⟩
    · obtain rfl : k = 2 := by omega
      have Hb := hideIt hb
      clear hb
      go_wp2
      go_ret
      exact ⟨rfl, HG2.out.up Hb.out⟩
end Go.Proofs.YtgjnlhdgekfieaaGreat
namespace Go.Proofs.YtgjnlhdgekfieaaGreat
open Go.RowKit

def tat (ts : List (List Int)) (i : Int) : List Int := (ts[i.toNat]?).getD []
theorem tat_at {ts : List (List Int)} {k : Nat} {t : List Int} (h : ts[k]? = some t) : tat ts (k : Int) = t := by
  unfold tat
  rw [Int.toNat_natCast, h]
  rfl
/-- what Link answers -/
noncomputable def linkO (N : Int) (ts : List (List Int)) (e : EdgeV) : Option (List (List Int)) :=
  @ite _ (FP N ts ∧ eB N e = true ∧ trI ts e.1 ≠ trI ts e.2) (Classical.propDecidable _)
    (some (srtK (woK ts [(trI ts e.1).toNat, (trI ts e.2).toNat] ts.length ++ [(joO (tat ts (trI ts e.1)) e.1 (tat ts (trI ts e.2)) e.2).getD []]) N.toNat)) none
/-- what Cut answers -/
noncomputable def cutO (N : Int) (ts : List (List Int)) (e : EdgeV) : Option (List (List Int)) :=
  @ite _ (FP N ts ∧ eB N e = true ∧ (spO (tat ts (trI ts e.1)) e.1 e.2).2.2 = true) (Classical.propDecidable _)
    (some (srtK (woK ts [(trI ts e.1).toNat] ts.length ++ [(spO (tat ts (trI ts e.1)) e.1 e.2).1, (spO (tat ts (trI ts e.1)) e.1 e.2).2.1]) N.toNat)) none
theorem linkO_yes {N : Nat} {ts : List (List Int)} {e : EdgeV} (hP : FP (N : Int) ts) (hE : eB (N : Int) e = true) {i j : Nat} {a b J : List Int} (hi : ts[i]? = some a) (hj : ts[j]? = some b) (hu : e.1 ∈ a) (hv : e.2 ∈ b) (hij : i ≠ j) (hJ : joO a e.1 b e.2 = some J) :
    linkO (N : Int) ts e = some (srtK (woK ts [i, j] ts.length ++ [J]) N) := by
  have e1 := trI_of hP.q hi hu
  have e2 := trI_of hP.q hj hv
  unfold linkO
  rw [if_pos ⟨hP, hE, by rw [e1, e2]; omega⟩, e1, e2, tat_at hi, tat_at hj, hJ]
  simp
theorem linkO_no {N : Int} {ts : List (List Int)} {e : EdgeV} (h : ¬ (FP N ts ∧ eB N e = true ∧ trI ts e.1 ≠ trI ts e.2)) : linkO N ts e = none := by unfold linkO; rw [if_neg h]
theorem cutO_yes {N : Nat} {ts : List (List Int)} {e : EdgeV} (hP : FP (N : Int) ts) (hE : eB (N : Int) e = true) {i : Nat} {t a b : List Int} (hi : ts[i]? = some t) (hu : e.1 ∈ t) (hS : spO t e.1 e.2 = (a, b, true)) :
    cutO (N : Int) ts e = some (srtK (woK ts [i] ts.length ++ [a, b]) N) := by
  have e1 := trI_of hP.q hi hu
  unfold cutO
  rw [if_pos ⟨hP, hE, by rw [e1, tat_at hi, hS]⟩, e1, tat_at hi, hS]
  simp
theorem cutO_no {N : Int} {ts : List (List Int)} {e : EdgeV} (h : ¬ (FP N ts ∧ eB N e = true ∧ (spO (tat ts (trI ts e.1)) e.1 e.2).2.2 = true)) : cutO N ts e = none := by unfold cutO; rw [if_neg h]
theorem eB_range {N : Int} {e : EdgeV} (h : eB N e = true) : 0 ≤ e.1 ∧ e.1 < e.2 ∧ e.2 < N := by
  unfold eB at h
  have := of_decide_eq_true h
  omega
/-- both ends of a right edge are in trees -/
theorem edge_at {N : Nat} {ts : List (List Int)} {e : EdgeV} (hP : FP (N : Int) ts) (hE : eB (N : Int) e = true) : ∃ (i j : Nat) (a b : List Int), ts[i]? = some a ∧ ts[j]? = some b ∧ e.1 ∈ a ∧ e.2 ∈ b := by
  have hr := eB_range hE
  obtain ⟨a, ha, hu⟩ := hP.q.cover (x := e.1) (by omega) (by omega)
  obtain ⟨b, hb, hv⟩ := hP.q.cover (x := e.2) (by omega) (by omega)
  obtain ⟨i, hi⟩ := List.mem_iff_getElem?.1 ha
  obtain ⟨j, hj⟩ := List.mem_iff_getElem?.1 hb
  exact ⟨i, j, a, b, hi, hj, hu, hv⟩
theorem FP_nat {N : Int} {ts : List (List Int)} (h : FP N ts) : ∃ M : Nat, N = (M : Int) ∧ 1 ≤ M ∧ M ≤ 12 := ⟨N.toNat, by have := h.1; omega, by have := h.1; omega, by have := h.2.1; omega⟩
/-- the tours whose places are left out are those that a test tells -/
theorem wo_filter {ts : List (List Int)} {outs : List Nat} {p : List Int → Bool} (h : ∀ k t, ts[k]? = some t → (k ∈ outs ↔ p t = false)) (k : Nat) : woK ts outs k = (ts.take k).filter p := by
  induction k with
  | zero => simp [woK]
  | succ k ih =>
    simp only [woK]
    cases hk : ts[k]? with
    | none =>
      have : ts.take (k + 1) = ts.take k := by rw [List.take_add_one, hk]; simp
      rw [this, ih]
      simp
    | some t =>
      rw [take_snocF ts k t hk, List.filter_append, ih]
      by_cases hm : k ∈ outs
      · rw [if_pos hm, List.append_nil]
        simp [(h k t hk).1 hm]
      · rw [if_neg hm]
        have : p t = true := by
          cases hp : p t with
          | true => rfl
          | false => exact absurd ((h k t hk).2 hp) hm
        simp [this]
theorem wo_stay {N : Int} {ts : List (List Int)} (hQ : FQ N ts) {i j : Nat} {a b : List Int} {u v : Int} (hi : ts[i]? = some a) (hj : ts[j]? = some b) (hu : u ∈ a) (hv : v ∈ b) : woK ts [i, j] ts.length = ts.filter fun t => !(t.any fun x => decide (x ∈ [u, v])) := by
  rw [wo_filter (p := fun t => !(t.any fun x => decide (x ∈ [u, v]))) (fun k t ht => ?_), List.take_length]
  simp only [Bool.not_eq_false', List.any_eq_true, decide_eq_true_eq, List.mem_cons, List.not_mem_nil, or_false]
  constructor
  · rintro (rfl | rfl)
    · rw [hi] at ht
      cases ht
      exact ⟨u, hu, .inl rfl⟩
    · rw [hj] at ht
      cases ht
      exact ⟨v, hv, .inr rfl⟩
  · rintro ⟨x, hx, rfl | rfl⟩
    · exact .inl (hQ.place ht hi hx hu)
    · exact .inr (hQ.place ht hj hx hv)
theorem wo_stay1 {N : Int} {ts : List (List Int)} (hQ : FQ N ts) {i : Nat} {a : List Int} {u v : Int} (hi : ts[i]? = some a) (hu : u ∈ a) (hv : v ∈ a) : woK ts [i] ts.length = ts.filter fun t => !(t.any fun x => decide (x ∈ [u, v])) := by
  rw [← wo_stay hQ hi hi hu hv]
  have : ∀ k, woK ts [i] k = woK ts [i, i] k := fun k => by
    induction k with
    | zero => rfl
    | succ k ih => simp only [woK, ih]; simp
  exact this _
/-- linked: the tours side by side, and what it comes to in order -/
theorem link_fq {N : Nat} {ts : List (List Int)} (hP : FP (N : Int) ts) {i j : Nat} {a b J : List Int} {u v : Int} (hi : ts[i]? = some a) (hj : ts[j]? = some b) (hu : u ∈ a) (hv : v ∈ b) (hij : i ≠ j) (hJ : joO a u b v = some J) : FQ (N : Int) (woK ts [i, j] ts.length ++ [J]) := by
  obtain ⟨J', e, L⟩ := lk_is hP hi hj hij hu hv
  rw [hJ] at e
  obtain rfl := Option.some.inj e
  exact L.ok.q.perm L.perm
theorem cut_in {t a b : List Int} {u v : Int} (h : spO t u v = (a, b, true)) : tB t = true ∧ ∃ k : Nat, t[k]? = some u ∧ t[k + 1]? = some v := by
  unfold spO at h
  by_cases hc : tB t = true ∧ 0 ≤ goI t u v
  · refine ⟨hc.1, ?_⟩
    rcases go_at (t := t) (u := u) (v := v) with ⟨k1, e1, _, a1, a2, _⟩ | ⟨e1, _⟩
    · exact ⟨k1, a1, a2⟩
    · have := hc.2; omega
  · rw [if_neg hc] at h
    simp at h
end Go.Proofs.YtgjnlhdgekfieaaGreat
namespace Go.Proofs.YtgjnlhdgekfieaaGreat
open Go.RowKit

/-- the headers hs are of the rows ts -/
def HdT (w : World) (B : Nat) (hs : List Value) (ts : List (List Int)) : Prop := hs.length = ts.length ∧ ∀ (j : Nat) (t : List Int), ts[j]? = some t → ∃ (a' : Option Addr) (c' : Nat), hs[j]? = some (.slice a' t.length c') ∧ Is w B a' t.length t ∧ t.length ≤ c'
theorem HdT.below {w w' : World} {B C : Nat} {hs : List Value} {ts : List (List Int)} (h : HdT w B hs ts) (hb : Below C w w') (hB : B ≤ C) : HdT w' B hs ts :=
  ⟨h.1, fun j t ht => by obtain ⟨a', c', h1, h2, h3⟩ := h.2 j t ht; exact ⟨a', c', h1, h2.below hb hB, h3⟩⟩
theorem HdT.mono {w : World} {B C : Nat} {hs : List Value} {ts : List (List Int)} (h : HdT w B hs ts) (hB : B ≤ C) : HdT w C hs ts :=
  ⟨h.1, fun j t ht => by obtain ⟨a', c', h1, h2, h3⟩ := h.2 j t ht; exact ⟨a', c', h1, h2.mono hB, h3⟩⟩
theorem HdT.nil (w : World) (B : Nat) : HdT w B [] [] := ⟨rfl, fun j t ht => by simp at ht⟩
theorem HdT.app {w : World} {B : Nat} {hs hs' : List Value} {ts ts' : List (List Int)} (h : HdT w B hs ts) (h' : HdT w B hs' ts') : HdT w B (hs ++ hs') (ts ++ ts') := by
  refine ⟨by rw [List.length_append, List.length_append, h.1, h'.1], fun j t ht => ?_⟩
  by_cases hj : j < ts.length
  · rw [List.getElem?_append_left hj] at ht
    obtain ⟨a', c', h1, h2⟩ := h.2 j t ht
    exact ⟨a', c', by rw [List.getElem?_append_left (by rw [h.1]; exact hj)]; exact h1, h2⟩
  · rw [List.getElem?_append_right (by omega)] at ht
    obtain ⟨a', c', h1, h2⟩ := h'.2 _ t ht
    exact ⟨a', c', by rw [List.getElem?_append_right (by rw [h.1]; omega), h.1]; exact h1, h2⟩
theorem HdT.one {w : World} {B : Nat} {a' : Option Addr} {c' : Nat} {t : List Int} (h : Is w B a' t.length t) (hc : t.length ≤ c') : HdT w B [.slice a' t.length c'] [t] := ⟨rfl, fun j s hs => by
  rcases j with _ | j
  · simp at hs
    subst hs
    exact ⟨a', c', rfl, h, hc⟩
  · simp at hs⟩
theorem hdtR {u : World} {R : List Rw} (h : ∀ r ∈ R, RwB u r) : HdT u u.heap.size (rhs R) (rts R) := by
  refine ⟨by rw [rhs_len, rts_len], fun j t ht => ?_⟩
  have hj : j < R.length := by rw [← rts_len]; exact (List.getElem?_eq_some_iff.1 ht).1
  have hr : R[j]? = some R[j] := List.getElem?_eq_getElem hj
  have e := rts_at hr
  rw [ht] at e
  obtain rfl := Option.some.inj e
  have hi2 := h _ (List.mem_of_getElem? hr)
  exact ⟨_, R[j].cp, rhs_at hr, hi2.is, hi2.cap⟩
theorem FB.hdt {u : World} {lo hi : Nat} {a : Option Addr} {n c : Nat} {R : List Rw} (h : FB u lo hi a n c R) : HdT u u.heap.size (rhs R) (rts R) := hdtR fun r hr => (h.ins r hr).1
/-- a row of headers is a list of tours -/
theorem HdT.ts {w : World} {lo : Nat} {a : Option Addr} {n c : Nat} {hs : List Value} {ts : List (List Int)} (h : HdT w w.heap.size hs ts) (ho : w.ownsRow lo 44 1 (.slice a n c) n hs) : Ts w w.heap.size a n ts := by
  have hl := ho.1
  refine ⟨by have := h.1; omega, ?_⟩
  rcases ho.2 with ⟨_, h0⟩ | ⟨g, cap, cur, hv, hg, hcur, hrest⟩
  · exact .inl h0
  · simp at hv
    obtain ⟨rfl, rfl⟩ := hv
    refine .inr ⟨g, 0, rfl, (ho.lt g rfl).2, fun j t ht => ?_⟩
    obtain ⟨a', c', h1, h2⟩ := h.2 j t ht
    have hj := (List.getElem?_eq_some_iff.1 h1).1
    refine ⟨a', c', ?_, h2⟩
    rw [Nat.zero_add, ho.cellAt j (by omega)]
    exact h1
/-- the headers of a list of tours -/
theorem Ts.hdt {w : World} {B b off n : Nat} {ts : List (List Int)} (h : Ts w B (some ⟨b, off, none⟩) n ts) : ∃ hs, HdT w B hs ts ∧ hs.length = n ∧ (∀ j u, hs[j]? = some u → w.cell? ((⟨b, off, none⟩ : Addr).add j) = some u) ∧ ∀ u ∈ hs, u.oneCell' = true := by
  have hn := h.1
  have each : ∀ i : Fin n, ∃ v : Value, w.cell? ⟨b, off + i.1, none⟩ = some v ∧ ∀ t, ts[i.1]? = some t → ∃ (a' : Option Addr) (c' : Nat), v = .slice a' t.length c' ∧ Is w B a' t.length t ∧ t.length ≤ c' := fun i => by
    have hi : i.1 < ts.length := by omega
    obtain ⟨a', c', h1, h2⟩ := h.at (List.getElem?_eq_getElem hi)
    refine ⟨_, h1, fun t ht => ?_⟩
    rw [List.getElem?_eq_getElem hi] at ht
    cases ht
    exact ⟨a', c', rfl, h2⟩
  obtain ⟨F, hF⟩ := Classical.axiomOfChoice each
  refine ⟨List.ofFn F, ⟨by simp; omega, fun j t ht => ?_⟩, by simp, fun j u hu => ?_, fun u hu => ?_⟩
  · have hj : j < n := by have := (List.getElem?_eq_some_iff.1 ht).1; omega
    obtain ⟨a', c', h1, h2⟩ := (hF ⟨j, hj⟩).2 t ht
    exact ⟨a', c', by rw [List.getElem?_ofFn]; simp [hj, h1], h2⟩
  · obtain ⟨hj, rfl⟩ := List.getElem?_eq_some_iff.1 hu
    have hj' : j < n := by simpa using hj
    rw [show ((⟨b, off, none⟩ : Addr).add j) = ⟨b, off + j, none⟩ by by_cases h0 : j = 0 <;> simp [Addr.add, h0]]
    rw [(hF ⟨j, hj'⟩).1]
    simp
  · obtain ⟨i, rfl⟩ := List.mem_ofFn.1 hu
    obtain ⟨a', c', h1, _⟩ := (hF i).2 _ (List.getElem?_eq_getElem (by omega : i.1 < ts.length))
    rw [h1]
    rfl
/-- a header of a row that does not lie in block X -/
def HdN (X : Nat) (v : Value) : Prop := ∀ b off s n c, v = .slice (some ⟨b, off, s⟩) n c → b ≠ X
theorem Is.set {w : World} {B X j n : Nat} {a : Option Addr} {ls : List Int} (h : Is w B a n ls) (v : Value) (hx : ∀ b off s, a = some ⟨b, off, s⟩ → b ≠ X) : Is (w.setCell ⟨X, j, none⟩ v) B a n ls := by
  refine ⟨h.1, h.2.imp id ?_⟩
  rintro ⟨b, off, h1, h2, h3⟩
  exact ⟨b, off, h1, h2, fun j x hj => by rw [set_other (hx b off none h1)]; exact h3 j x hj⟩
theorem HdT.set {w : World} {B X j : Nat} {hs : List Value} {ts : List (List Int)} (h : HdT w B hs ts) (hn : ∀ v ∈ hs, HdN X v) (v : Value) : HdT (w.setCell ⟨X, j, none⟩ v) B hs ts :=
  ⟨h.1, fun i t ht => by
    obtain ⟨a', c', h1, h2, h3⟩ := h.2 i t ht
    exact ⟨a', c', h1, h2.set v (fun b off s e => hn _ (List.mem_of_getElem? h1) b off s _ _ (by rw [e])), h3⟩⟩
theorem HdT.lowN {w : World} {B X : Nat} {hs : List Value} {ts : List (List Int)} (h : HdT w B hs ts) (hp : ∀ t ∈ ts, 0 < t.length) (hB : B ≤ X) : ∀ v ∈ hs, HdN X v := fun v hv => by
  obtain ⟨j, hj⟩ := List.mem_iff_getElem?.1 hv
  have hjl : j < ts.length := by have := (List.getElem?_eq_some_iff.1 hj).1; have := h.1; omega
  obtain ⟨a', c', h1, h2, _⟩ := h.2 j ts[j] (List.getElem?_eq_getElem hjl)
  rw [hj] at h1
  obtain rfl := Option.some.inj h1
  intro b off s n c e
  simp only [Value.slice.injEq] at e
  obtain ⟨rfl, _, _⟩ := e
  rcases h2.2 with h0 | ⟨b', off', hb, hl, _⟩
  · have := hp ts[j] (List.getElem_mem hjl); omega
  · simp only [Option.some.injEq, Addr.mk.injEq] at hb
    omega
theorem rhsN {R : List Rw} {X : Nat} (h : ∀ r ∈ R, r.g ≠ X) : ∀ v ∈ rhs R, HdN X v := fun v hv => by
  obtain ⟨r, hr, rfl⟩ := List.mem_map.1 hv
  intro b off s n c e
  simp only [Rw.hdr, Value.slice.injEq, Option.some.injEq, Addr.mk.injEq] at e
  rw [← e.1.1]
  exact h r hr
/-- a header of a row that lies above lo -/
def HdL (lo : Nat) (v : Value) : Prop := ∀ b off s n c, v = .slice (some ⟨b, off, s⟩) n c → lo ≤ b
theorem HdL.mono {lo lo' : Nat} {v : Value} (h : HdL lo v) (hl : lo' ≤ lo) : HdL lo' v := fun b off s n c e => Nat.le_trans hl (h b off s n c e)
theorem HdL.ne {lo X : Nat} {v : Value} (h : HdL lo v) (hX : X < lo) : HdN X v := fun b off s n c e => by have := h b off s n c e; omega
end Go.Proofs.YtgjnlhdgekfieaaGreat
namespace Go.Proofs.YtgjnlhdgekfieaaGreat
open Go.RowKit

theorem tans_G {F : Nat} {args : Array Value} {o : Option (List Int)} {u : World} (H : Calls Tryz.prog F args u (TAns u o)) :
    Calls Tryz.prog F args u fun e v => ∃ aw mw cw, e = .returned (.tuple #[.slice aw mw cw, .bool o.isSome]) ∧ RBox v u.heap.size v.heap.size aw mw cw (o.getD []) ∧ Below u.heap.size u v :=
  H.mono fun _ _ ⟨aw, mw, cw, he, ho, hb⟩ => ⟨aw, mw, cw, he, RBox.laid ho, hb⟩
theorem Good.rng {w u v : World} {lo hi : Nat} (h : Good w u) (hr : Rng lo hi u v) (hl : w.heap.size ≤ lo) : Good w v := Below.trans h (hr.below hl h.size)
end Go.Proofs.YtgjnlhdgekfieaaGreat
namespace Go.Proofs.YtgjnlhdgekfieaaGreat
open Go.RowKit

set_option maxRecDepth 100000 in
set_option maxHeartbeats 2000000 in
theorem sVertsOf_any (t : List Int) (n : Nat) (a : Option Addr) (c : Nat) (hn : n ≤ 3000000) (w : World) (h : Is w w.heap.size a n t) :
    Calls Tryz.prog 90 #[.slice a n c] w fun e w' => ∃ a' m c', e = .returned (.slice a' m c') ∧ w'.ownsRow w.heap.size 3 1 (.slice a' m c') m (ic (vsL t)) ∧ Below w.heap.size w w' := by
  obtain ⟨i0, hi, hz0, hz1, hz2⟩ := info_parts info3i
  have HIn := hideIt (fun y x (hx : Below w.heap.size w x) => l05In_any t y n a c hn x (h.up hx))
  have S0 := ISt.start w
  clear h
  go_enter Tryz.func90, Tryz.ntmps90
  go_wp2
  go_loopw [3, 4] (fun r i wr => ∃ (k m c1 : Nat) (a1 : Option Addr), k ≤ 12 ∧ m ≤ k ∧ i = .int .i64 (k : Int) ∧ r = .slice a1 m c1 ∧ ISt w a1 m c1 (vsK t k) wr) (fun _ i _ => 12 - (intOf i).toNat)
  case atStart => exact ⟨0, 0, 0, _, by omega, by omega, rfl, rfl, by rw [vsK_zero]; exact S0⟩
  case round =>
    obtain ⟨k, m, c1, a1, hk, hmk, rfl, rfl, hst⟩ := hrel
    clear S0
    by_cases hlt : k < 12
    · have b1 : (0 : Int) ≤ (k : Int) := by omega
      have b2 : (k : Int) < 12 := by omega
      have HN := hideIt (HIn.out (k : Int) wr hst.bel)
      have z1 := hst.size
      have HST := hideIt hst
      by_cases hx : (k : Int) ∈ t
      · rw [decide_eq_true hx] at HN
        have HV := hideIt (vsK_yes hx)
        clear hx hst
        go_wp2_with (first | (go_at_call 101; refine HN.out.mono ?_; rintro e w3 ⟨rfl, hw⟩; have hw' := hw.symm; subst hw'; clear hw) | (at_builtin; refine wpList_append_own _ rfl _ _ 44 rfl w.heap.size 3 i0 _ 1 8 Tryz.underlying44 hi hz0 hz1 hz2 rfl (by decide) _ _ _ rfl (HST.out.own.alloc _) ⟨wr.heap.size, 0, none⟩ 1 1 [.int .i64 (k : Int)] rfl rfl (newsI wr (k : Int)) (by intro u hu; simp at hu; subst hu; rfl) (by unfold maxLen; omega) (by omega) (by simp; omega) ?_))
        intro v5 w5 hown5 hg5 _
        obtain ⟨a5, c5, rfl, S5⟩ := HST.out.app hown5 hg5
        clear hown5 hg5 HST
        go_wp2
        exact ⟨⟨k + 1, m + 1, c5, a5, by omega, by omega, by go_num, rfl, by rw [HV.out]; exact S5⟩, by simp [intOf]; omega⟩
      · rw [decide_eq_false hx] at HN
        have HV := hideIt (vsK_no hx)
        clear hx hst
        go_wp2_with (go_at_call 101; refine HN.out.mono ?_; rintro e w3 ⟨rfl, hw⟩; have hw' := hw.symm; subst hw'; clear hw)
        exact ⟨⟨k + 1, m, c1, a1, by omega, by omega, by go_num, rfl, by rw [HV.out]; exact HST.out⟩, by simp [intOf]; omega⟩
    · obtain rfl : k = 12 := by omega
      have HST := hideIt hst
      clear hst
      go_wp2
      go_ret
      exact ⟨a1, m, c1, rfl, HST.out.own, HST.out.bel⟩
theorem vans_G {F : Nat} {args : Array Value} {ls : List Int} {u : World} (H : Calls Tryz.prog F args u fun e w' => ∃ a' m c', e = .returned (.slice a' m c') ∧ w'.ownsRow u.heap.size 3 1 (.slice a' m c') m (ic ls) ∧ Below u.heap.size u w') :
    Calls Tryz.prog F args u fun e v => ∃ aw mw cw, e = .returned (.slice aw mw cw) ∧ RBox v u.heap.size v.heap.size aw mw cw ls ∧ Below u.heap.size u v :=
  H.mono fun _ _ ⟨aw, mw, cw, he, ho, hb⟩ => ⟨aw, mw, cw, he, RBox.laid ho, hb⟩
end Go.Proofs.YtgjnlhdgekfieaaGreat
