/- The program's ForestAt, where the graph is right. The program's rootsOf. The program's levelOk, where the edges of the forest make no ring. The program's WebOk. What a right web's ground tells: labels, together, height: pure. The program's groundOf, WebLabels, WebTogether. -/
import Derived.Test.YtpfkfbmghddepaaGreatKIFa9
import Derived.Deep.RegionHeld3
import Derived.Test.YtpfkfbmghddepaaGreatKInG6
import Derived.Test.YtpfkfbmghddepaaGreatKWb9
namespace Go.Proofs.YtpfkfbmghddepaaGreat
open Go.RowKit

theorem infoIT9 : (Tryz.prog.info? 44).map (fun i => (i.zero, i.size, i.bytes)) = some (some (.slice none 0 0), 1, 24) := by kernel_rfl
theorem newsV9 (w : World) (x : Value) : ∀ j u, ([x] : List Value)[j]? = some u → (w.alloc (.cells #[x] 44)).cell? ((⟨w.heap.size, 0, none⟩ : Addr).add j) = some u := by
  intro j u hj
  rcases j with _ | j
  · simp at hj; subst hj; simp [Addr.add]
  · simp at hj
/-- the answer of ForestAt: a forest of the answer's own -/
def FAn9 (w : World) (N : Int) (o : Option (List (List Int))) (e : Ending) (w' : World) : Prop :=
  ∃ a m c R, e = .returned (.tuple #[.agg #[.int .i64 (if o.isSome then N else 0), .slice a m c], .bool o.isSome]) ∧ FB w' w.heap.size w'.heap.size a m c R ∧ rts R = o.getD [] ∧ Below w.heap.size w w'
/-- .. that is only read -/
def FAt9 (w : World) (N : Int) (o : Option (List (List Int))) (e : Ending) (w' : World) : Prop :=
  ∃ a m c, e = .returned (.tuple #[.agg #[.int .i64 (if o.isSome then N else 0), .slice a m c], .bool o.isSome]) ∧ Ts w' w'.heap.size a m (o.getD []) ∧ Below w.heap.size w w'
theorem FAn9.weak {w : World} {N : Int} {o : Option (List (List Int))} {e : Ending} {w' : World} (h : FAn9 w N o e w') : FAt9 w N o e w' := by
  obtain ⟨a, m, c, R, h1, h2, h3, h4⟩ := h
  exact ⟨a, m, c, h1, by rw [← h3]; exact h2.ts, h4⟩
/-- behind the web's box and the forest's -/
def wf2 (w : World) (N : Int) (a : Option Addr) (n c : Nat) : World := (wW w N a n c).alloc (.cells #[.int .i64 0, .slice none 0 0] 57)
theorem wf2_size (w : World) (N : Int) (a : Option Addr) (n c : Nat) : (wf2 w N a n c).heap.size = w.heap.size + 2 := by simp [wf2, wW]
theorem wf2_good (w : World) (N : Int) (a : Option Addr) (n c : Nat) : Good w (wf2 w N a n c) := (wW_good w N a n c).alloc _
theorem wf2_cells {w : World} {N : Int} {a : Option Addr} {n c : Nat} {u : World} (h : Below (w.heap.size + 2) (wf2 w N a n c) u) : (u.cell? ⟨w.heap.size, 0, none⟩ = some (.int .i64 N) ∧ u.cell? ⟨w.heap.size, 1, none⟩ = some (.slice a n c)) ∧ Box7 u (w.heap.size + 1) 57 (.int .i64 0) (.slice none 0 0) := by
  have b1 : Box7 (wf2 w N a n c) w.heap.size 26 (.int .i64 N) (.slice a n c) := (Box7.new w _ _ _ _ rfl).alloc _
  have b2 : Box7 (wf2 w N a n c) (w.heap.size + 1) 57 (.int .i64 0) (.slice none 0 0) := Box7.new _ _ _ _ _ (by simp [wW])
  have c1 := b1.below h (by omega)
  exact ⟨⟨c1.cell0, c1.cell1⟩, b2.below h (by omega)⟩
theorem is_one (w : World) (x : Int) : Is (w.alloc (.cells #[.int .i64 x] 3)) (w.alloc (.cells #[.int .i64 x] 3)).heap.size (some ⟨w.heap.size, 0, none⟩) 1 [x] := ⟨rfl, .inr ⟨w.heap.size, 0, rfl, by simp, fun j y hy => by
  rcases j with _ | j
  · simp at hy; subst hy; simp
  · simp at hy⟩⟩
/-- the trees so far are short -/
theorem ft_short {es : List EdgeV} {nn k : Nat} (hE : ∀ e ∈ es, 0 ≤ e.1 ∧ e.1 < e.2 ∧ e.2 < (nn : Int)) (hn : nn ≤ 12) (hk : k ≤ nn) {ts : List (List Int)} (h : ftK es nn k = some ts) : ∀ t ∈ ts, t.length ≤ 23 ∧ 0 < t.length := fun t ht => by
  obtain ⟨r, h1, ⟨sn, h2⟩, _⟩ := (ft_any hE hn k hk h).tour t ht
  have := tB_len (wk_tree hE hn (by omega) (by omega) h2).1
  omega
theorem ft_in {ts : List (List Int)} {v : Int} : v ∈ ts.flatten ↔ 0 ≤ trI ts v := by
  rcases trI_cases ts v with ⟨k, t, h1, h2, h3⟩ | ⟨h1, h2⟩
  · rw [h3]
    exact ⟨fun _ => by omega, fun _ => List.mem_flatten.2 ⟨t, List.mem_of_getElem? h1, h2⟩⟩
  · rw [h2]
    exact ⟨fun h => by obtain ⟨t, ht, hv⟩ := List.mem_flatten.1 h; exact absurd hv (h1 t ht), fun h => by omega⟩

set_option maxRecDepth 100000 in
set_option maxHeartbeats 4000000 in
theorem iForestAt_no (nn : Nat) (ls : List Ld) (lv : Int) (n : Nat) (a : Option Addr) (c : Nat) (hG : gB (nn : Int) (gE ls) = true) (hl : ∀ x ∈ ls, 0 ≤ x.l) (hB : ¬ Bridge (fE ls 0)) (w : World) (h : Ls w w.heap.size a n ls) :
    Calls Tryz.prog 32 #[.agg #[.int .i64 (nn : Int), .slice a n c], .int .i64 lv] w (FAn9 w (nn : Int) none) := by
  have HP := hideIt ((plantable_any nn ls n a c hG hl _ (h.up (wf2_good w (nn : Int) a n c))).mono fun e v ⟨b, h1, h2, h3⟩ => (show e = Ending.returned (.bool false) ∧ Below (wf2 w (nn : Int) a n c).heap.size (wf2 w (nn : Int) a n c) v from ⟨by
    cases b with
    | false => exact h1
    | true => exact absurd (h2.1 rfl) hB, h3⟩))
  clear h hG hl hB
  go_enter Tryz.func32, Tryz.ntmps32
  go_wp2_with (go_at_call 87; refine HP.out.mono ?_; rintro e w1 ⟨rfl, hb1⟩; refine Hid.out ?_)
  refine (show ∀ {p : Prop}, p → Hid p from fun h => h) ?_
  rw [wf2_size] at hb1
  obtain ⟨⟨cw0, cw1⟩, bx⟩ := wf2_cells hb1
  have r0 := bx.cell0
  have r1 := bx.cell1
  have q0 := bx.frozen 0
  have q1 := bx.frozen 1
  have HG : Hid (Good w w1) := (wf2_good w (nn : Int) a n c).trans (hb1.mono (by omega))
  clear HP hb1
  go_wp2
  refine bodyPost_ret (v := .tuple #[.agg #[.int .i64 0, .slice none 0 0], .bool false]) (by simp [results, Tryz.results32, go_sem, r0, r1]) rfl ⟨none, 0, 0, [], rfl, FB.nil _ _, rfl, ?_⟩
  exact (HG.out.setCell (p := ⟨w.heap.size + 1, 0, none⟩) (by show _ ≤ w.heap.size + 1; omega) _).setCell (p := ⟨w.heap.size + 1, 1, none⟩) (by show _ ≤ w.heap.size + 1; omega) _

set_option maxRecDepth 100000 in
set_option maxHeartbeats 4000000 in
theorem iForestAt_yes (nn : Nat) (ls : List Ld) (lv : Int) (n : Nat) (a : Option Addr) (c : Nat) (hG : gB (nn : Int) (gE ls) = true) (hl : ∀ x ∈ ls, 0 ≤ x.l) (hB : Bridge (fE ls 0)) (hlv : 0 ≤ lv) (ts : List (List Int)) (hts : ftK (fE ls lv) nn nn = some ts) (w : World) (h : Ls w w.heap.size a n ls) :
    Calls Tryz.prog 32 #[.agg #[.int .i64 (nn : Int), .slice a n c], .int .i64 lv] w (FAn9 w (nn : Int) (some ts)) := by
  obtain ⟨i0, hi, hz0, hz1, hz2⟩ := info_parts infoIT9
  have hg := gB_chk hG
  have hn1 : 1 ≤ nn := by omega
  have hn12 : nn ≤ 12 := by omega
  have hlen := h.1
  have h66 : n ≤ 66 := by have := hg.2.2; rw [gE_len] at this; omega
  have hBl : Bridge (fE ls lv) := hB.sub fun e he => fE_low hlv he
  have HE := hideIt (fE_ends hG lv)
  have HP := hideIt ((plantable_any nn ls n a c hG hl _ (h.up (wf2_good w (nn : Int) a n c))).mono fun e v ⟨b, h1, h2, h3⟩ => (show e = Ending.returned (.bool true) ∧ Below (wf2 w (nn : Int) a n c).heap.size (wf2 w (nn : Int) a n c) v from ⟨by
    cases b with
    | true => exact h1
    | false => exact absurd (h2.2 hB) (by simp), h3⟩))
  have HF : Hid (∀ u, Good (wf2 w (nn : Int) a n c) u → Calls Tryz.prog 88 #[.agg #[.int .i64 (nn : Int), .slice a n c], .int .i64 lv] u fun e w' => ∃ g m c', e = .returned (.slice (some ⟨g, 0, none⟩) m c') ∧ Es w' w'.heap.size (some ⟨g, 0, none⟩) m (fE ls lv) ∧ Good (wf2 w (nn : Int) a n c) w') := fun u hu =>
    (forestEdges_any (nn : Int) ls lv n a c (by omega) u ((h.up (wf2_good w _ a n c)).up hu)).mono fun e v ⟨g, m, c', h1, h2, h3⟩ => ⟨g, m, c', h1, Es_of_own h2, hu.up h3⟩
  have HT : Hid (∀ (g m c' k : Nat) (t sn : List Int) (u : World), k < nn → wk (fE ls lv) nn nn (k : Int) (-1) [] = some (t, sn) → t.length ≤ 23 → Es u u.heap.size (some ⟨g, 0, none⟩) m (fE ls lv) → Calls Tryz.prog 91 #[.int .i64 (nn : Int), .slice (some ⟨g, 0, none⟩) m c', .int .i64 (k : Int)] u fun e w' => ∃ a' m c', e = .returned (.tuple #[.slice a' m c', .bool true]) ∧ w'.ownsRow u.heap.size 3 1 (.slice a' m c') m (ic t) ∧ Below u.heap.size u w') := fun g m c' k t sn u hk hw htl hu =>
    iTourOf_n (fE ls lv) nn m hn1 hn12 (some ⟨g, 0, none⟩) c' (k : Int) t sn (by have := hu.1; have := fE_len ls lv; omega) (fun e he => gB_eB hG (fE_g he)) (fE_nodup (gB_nodup hG) lv) (hBl.tree (fE_nodup (gB_nodup hG) lv)) (by omega) (by omega) hw (by omega) u hu
  have HTS := hideIt hts
  clear h hg hG hl hB hBl hts
  go_enter Tryz.func32, Tryz.ntmps32
  go_wp2_with (go_at_call 87; refine HP.out.mono ?_; rintro e w1 ⟨rfl, hb1⟩; refine Hid.out ?_)
  refine (show ∀ {p : Prop}, p → Hid p from fun h => h) ?_
  have G1 : Good (wf2 w (nn : Int) a n c) w1 := hb1
  rw [wf2_size] at hb1
  obtain ⟨⟨cw0, cw1⟩, _⟩ := wf2_cells hb1
  have HFe := hideIt (HF.out w1 G1)
  clear HP hb1 HF
  go_wp2_with (go_at_call 88; refine HFe.out.mono ?_; rintro e w2 ⟨g, m2, c2, rfl, hEs, G2⟩; refine Hid.out ?_)
  refine (show ∀ {p : Prop}, p → Hid p from fun h => h) ?_
  have G2b : Below (w.heap.size + 2) (wf2 w (nn : Int) a n c) w2 := by have := G2; unfold Good at this; rwa [wf2_size] at this
  obtain ⟨⟨cv0, cv1⟩, _⟩ := wf2_cells G2b
  have z2 := G2b.size
  rw [wf2_size] at z2
  have HEs := hideIt hEs
  have HG2 := hideIt G2b
  have HC : Hid (∀ u, Below w2.heap.size w2 u → (u.cell? ⟨w.heap.size, 0, none⟩ = some (.int .i64 (nn : Int)) ∧ u.cell? ⟨w.heap.size, 1, none⟩ = some (.slice a n c)) ∧ Box7 u (w.heap.size + 1) 57 (.int .i64 0) (.slice none 0 0)) := fun u hu => wf2_cells (HG2.out.trans (hu.mono z2))
  have HF0 := hideIt (FB.start w2)
  have HB0 : Hid (Below w2.heap.size w2 (w2.alloc (.cells #[] 44))) := (Below.refl _ _).alloc (Nat.le_refl _) _
  have k0 : (w2.alloc (.cells #[] 44)).cell? ⟨w.heap.size, 0, none⟩ = some (.int .i64 (nn : Int)) := (HC.out _ HB0.out).1.1
  clear HFe hEs G2 G2b G1 cw0 cw1
  go_wp2
  go_loopw [7, 21] (fun r i wr => ∃ (k m c' : Nat) (a' : Option Addr) (R : List Rw), k ≤ nn ∧ m ≤ k ∧ i = .int .i64 (k : Int) ∧ r = .slice a' m c' ∧ Hid (ftK (fE ls lv) nn k = some (rts R)) ∧ FB wr w2.heap.size wr.heap.size a' m c' R ∧ Below w2.heap.size w2 wr) (fun _ i _ => nn - (intOf i).toNat)
  case atStart => exact ⟨0, 0, 0, _, [], by omega, by omega, rfl, rfl, rfl, HF0.out, HB0.out⟩
  case round =>
    obtain ⟨k, m, c', a', R, hk, hm, rfl, rfl, HK, hfb, hb⟩ := hrel
    clear HF0 HB0 k0
    obtain ⟨⟨k0, k1⟩, bx⟩ := HC.out wr hb
    have hz := hb.size
    by_cases hlt : k < nn
    · have hsh := ft_short HE.out hn12 hk HK.out
      have hba : Below wr.heap.size wr (wr.alloc (.cells #[.int .i64 (k : Int)] 3)) := (Below.refl _ _).alloc (Nat.le_refl _) _
      have HPt := hideIt (placeTold_any (rts R) (k : Int) (fun t ht => by have := hsh t ht; omega) m a' c' (by omega) (some ⟨wr.heap.size, 0, none⟩) 1 (wr.alloc (.cells #[.int .i64 (k : Int)] 3)) (hfb.ts.up hba) (is_one wr (k : Int)))
      by_cases hin : (k : Int) ∈ (rts R).flatten
      · have hpos := ft_in.1 hin
        have HK2 := hideIt (ftK_there HK.out hin)
        obtain ⟨j, hj⟩ : ∃ j, trI (rts R) (k : Int) = j := ⟨_, rfl⟩
        rw [hj] at HPt hpos
        have d1 : decide (j < 0) = false := decide_eq_false (by omega)
        have HFB := hideIt (hfb.keep hba)
        have HB := hideIt (hb.trans (hba.mono hz))
        clear hin hj hsh hfb hb hba HK
        go_wp2_with (go_at_call 89; refine HPt.out.mono ?_; rintro e w3 ⟨rfl, hb3⟩)
        exact ⟨⟨k + 1, m, c', a', R, by omega, by omega, by go_num, rfl, HK2, HFB.out.keep hb3, HB.out.trans (hb3.mono (by simp; omega))⟩, by simp [intOf]; omega⟩
      · have hneg : trI (rts R) (k : Int) = -1 := by
          rcases trI_cases (rts R) (k : Int) with ⟨q, t, h1, h2, h3⟩ | ⟨_, h2⟩
          · exact absurd (List.mem_flatten.2 ⟨t, List.mem_of_getElem? h1, h2⟩) hin
          · exact h2
        rw [hneg] at HPt
        obtain ⟨t, sn, hw⟩ : ∃ t sn, wk (fE ls lv) nn nn (k : Int) (-1) [] = some (t, sn) := by
          cases hw : wk (fE ls lv) nn nn (k : Int) (-1) [] with
          | none =>
            have := ftK_none (ftK_ring HK.out hin hw) nn (by omega)
            rw [HTS.out] at this
            cases this
          | some p => exact ⟨p.1, p.2, rfl⟩
        have htB := (wk_tree HE.out hn12 (by omega) (by omega) hw).1
        have htl := tB_len htB
        have HK2 : Hid (∀ r : Rw, r.t = t → ftK (fE ls lv) nn (k + 1) = some (rts (R ++ [r]))) := fun r hr => by rw [ftK_new HK.out hin hw, rts_snoc, hr]
        have HW := hideIt hw
        have HFB := hideIt (hfb.keep hba)
        have HB := hideIt (hb.trans (hba.mono hz))
        clear hin hneg hsh hfb hb hba HK hw htB
        go_wp2_with (go_at_call 89; refine HPt.out.mono ?_; rintro e w3 ⟨rfl, hb3⟩; refine Hid.out ?_)
        refine (show ∀ {p : Prop}, p → Hid p from fun h => h) ?_
        have HFB3 := hideIt (HFB.out.keep hb3)
        have B3 := HB.out.trans (hb3.mono (by simp; omega))
        have z3 := B3.size
        have HB3 := hideIt B3
        obtain ⟨⟨e0, e1⟩, _⟩ := HC.out _ B3
        have HTo := hideIt (HT.out g m2 c2 k t sn w3 hlt HW.out (by omega) (HEs.out.up B3))
        clear HPt hb3 B3 HFB HB k0 k1 bx
        go_wp2_with (go_at_call 91; refine HTo.out.mono ?_; rintro e w4 ⟨a4, m4, c4, rfl, ho4, hb4⟩; refine Hid.out ?_)
        refine (show ∀ {p : Prop}, p → Hid p from fun h => h) ?_
        have hm4 : t.length = m4 := by have := ho4.1; rw [ic_len] at this; omega
        subst hm4
        obtain ⟨g4, c4', hform, _⟩ := ho4.form (by omega)
        simp at hform
        obtain ⟨rfl, rfl⟩ := hform
        have HRw := hideIt (RwB.of_own ho4)
        have hgl := (ho4.lt g4 rfl).1
        have HFr : Hid (∀ x ∈ R, x.g ≠ g4) := fun x hx e => by have := (HFB3.out.ins x hx).2.2; omega
        have HFB4 := hideIt (HFB3.out.keep hb4)
        have B4 := HB3.out.trans (hb4.mono z3)
        have z4 := B4.size
        have HB4 := hideIt B4
        clear HTo ho4 hb4 B4 HFB3 HB3 e0 e1 HW
        go_wp2_with (at_builtin; refine wpList_append_own _ rfl _ _ 55 rfl w2.heap.size 44 i0 _ 1 24 Tryz.underlying55 hi hz0 hz1 hz2 rfl (by decide) _ _ _ rfl (HFB4.out.own.alloc _) ⟨w4.heap.size, 0, none⟩ 1 1 [.slice (some ⟨g4, 0, none⟩) t.length c4] rfl rfl (newsV9 w4 _) (by intro y hy; simp at hy; subst hy; rfl) (by unfold maxLen; omega) (by omega) (by simp; omega) ?_)
        intro v5 w5 hown5 hg5 _
        obtain ⟨a5, c5, rfl, F5⟩ := HFB4.out.app (r := ⟨g4, c4, t⟩) HRw.out (by show w2.heap.size ≤ g4; omega) HFr.out hown5 hg5
        have HF5 := hideIt F5
        have HB5 : Hid (Below w2.heap.size w2 w5) := (HB4.out.alloc z4 _).grown hg5 (by simp; omega) (fun j hj => (HFB4.out.own.lt j hj).1)
        clear hown5 hg5 F5 HFB4 HB4
        go_wp2
        exact ⟨⟨k + 1, m + 1, c5, a5, R ++ [⟨g4, c4, t⟩], by omega, by omega, by go_num, rfl, HK2.out _ rfl, HF5.out, HB5.out⟩, by simp [intOf]; omega⟩
    · obtain rfl : k = nn := by omega
      have HR : Hid (rts R = ts) := by show _ = _; have := HK.out; rw [HTS.out] at this; exact (Option.some.inj this).symm
      have r0 := bx.cell0
      have r1 := bx.cell1
      have q0 := bx.frozen 0
      have q1 := bx.frozen 1
      have HFB := hideIt hfb
      have HG : Hid (Good w wr) := (wf2_good w (k : Int) a n c).trans ((HG2.out.trans (hb.mono z2)).mono (by omega))
      clear hfb hb HK
      go_wp2
      refine bodyPost_ret (v := .tuple #[.agg #[.int .i64 (k : Int), .slice a' m c'], .bool true]) (by simp [results, Tryz.results32, go_sem, r0, r1]) rfl ⟨a', m, c', R, rfl, ?_, HR.out, ?_⟩
      · have h1 := (HFB.out.setLow (x := w.heap.size + 1) (by omega) 0 (.int .i64 (k : Int))).setLow (x := w.heap.size + 1) (by omega) 1 (.slice a' m c')
        exact (h1.lo (by omega)).hi (by simp [World.setCell]) (Nat.le_refl _)
      · exact (HG.out.setCell (p := ⟨w.heap.size + 1, 0, none⟩) (by show _ ≤ w.heap.size + 1; omega) _).setCell (p := ⟨w.heap.size + 1, 1, none⟩) (by show _ ≤ w.heap.size + 1; omega) _
end Go.Proofs.YtpfkfbmghddepaaGreat
namespace Go.Proofs.YtpfkfbmghddepaaGreat
open Go.RowKit

theorem ic_set (L : List Int) (v : Nat) (x : Int) : (ic L).set v (.int .i64 x) = ic (L.set v x) := by unfold ic; rw [List.map_set]
set_option maxRecDepth 100000 in
set_option maxHeartbeats 4000000 in
theorem rootsOf_any (nn : Nat) (ts : List (List Int)) (n : Nat) (a : Option Addr) (c : Nat) (hnn : nn ≤ 12) (hn : n ≤ 12) (hr : ∀ t ∈ ts, 0 < t.length ∧ t.length ≤ 23 ∧ ∀ x ∈ t, 0 ≤ x ∧ x < (nn : Int)) (hap : ts.Pairwise Apart) (w : World) (h : Ts w w.heap.size a n ts) :
    Calls Tryz.prog 84 #[.agg #[.int .i64 (nn : Int), .slice a n c]] w fun e w' => ∃ g L, e = .returned (.slice (some ⟨g, 0, none⟩) nn nn) ∧ w'.ownsRow w.heap.size 3 1 (.slice (some ⟨g, 0, none⟩) nn nn) nn (ic L) ∧ (∀ t ∈ ts, ∀ v : Nat, (v : Int) ∈ t → L[v]? = t[0]?) ∧ Below w.heap.size w w' := by
  obtain ⟨i0, hi, hz0, hz1, hz2⟩ := info_parts info3i
  have hmk : ∀ u : World, (Instr.makeSlice 44 (.int .i64 (nn : Int)) (.int .i64 (nn : Int))).run Tryz.prog u =
      .ok (.slice (some ⟨u.heap.size, 0, none⟩) nn nn) (u.alloc (.cells (madeCells #[.int .i64 0] nn) 3)) := fun u => by
    have h := run_make (P := Tryz.prog) u 44 3 i0 _ Tryz.underlying44 hi hz0 .i64 .i64 (nn : Int) (nn : Int) (by omega) (by omega) (by rw [hz2]; omega) (by omega)
    rw [Int.toNat_natCast] at h
    simpa [hz1, Value.cells] using h
  have b0 : Good w (w.alloc (.cells #[.int .i64 (nn : Int), .slice a n c] 57)) := (Good.refl w).alloc _
  have hlen := h.1
  have HA := hideIt h
  have HRg := hideIt hr
  have HAp := hideIt hap
  have o0 := World.ownsRow_lit (base := w.heap.size + 1) (e := 3) (size := 1) (w.alloc (.cells #[.int .i64 (nn : Int), .slice a n c] 57)) (madeCells #[.int .i64 0] nn) nn (by simp) (by unfold maxLen; omega) (by simp [madeCells])
  have eL : (madeCells #[.int .i64 0] nn).toList = ic (List.replicate nn 0) := by
    apply List.ext_getElem?
    intro j
    by_cases hj : j < nn
    · simp [madeCells, ic, hj, Nat.mod_one]
    · simp [madeCells, ic, hj]
  rw [eL] at o0
  have HO0 : Hid (((w.alloc (.cells #[.int .i64 (nn : Int), .slice a n c] 57)).alloc (.cells (madeCells #[.int .i64 0] nn) 3)).ownsRow (w.heap.size + 1) 3 1 (.slice (some ⟨w.heap.size + 1, 0, none⟩) nn nn) nn (ic (List.replicate nn 0))) := by show World.ownsRow _ _ _ _ _ _ _; simpa using o0
  have HB0 : Hid (Below (w.heap.size + 1) (w.alloc (.cells #[.int .i64 (nn : Int), .slice a n c] 57)) ((w.alloc (.cells #[.int .i64 (nn : Int), .slice a n c] 57)).alloc (.cells (madeCells #[.int .i64 0] nn) 3))) := (Below.refl _ _).alloc (by simp) _
  have HGd : Hid (∀ u, Below (w.heap.size + 1) (w.alloc (.cells #[.int .i64 (nn : Int), .slice a n c] 57)) u → Good w u) := fun u hu => b0.trans (hu.mono (by omega))
  clear h hr hap o0 eL b0
  go_enter Tryz.func84, Tryz.ntmps84
  go_wp2
  go_loopw [14] (fun i wr => ∃ (k : Nat) (L : List Int), k ≤ n ∧ i = .int .i64 (k : Int) ∧ Hid (∀ j t, j < k → ts[j]? = some t → ∀ v : Nat, (v : Int) ∈ t → L[v]? = t[0]?) ∧ wr.ownsRow (w.heap.size + 1) 3 1 (.slice (some ⟨w.heap.size + 1, 0, none⟩) nn nn) nn (ic L) ∧ Below (w.heap.size + 1) (w.alloc (.cells #[.int .i64 (nn : Int), .slice a n c] 57)) wr) (fun i _ => n - (intOf i).toNat)
  case atStart => exact ⟨0, _, by omega, rfl, fun j t hj => by omega, HO0.out, HB0.out⟩
  case round =>
    obtain ⟨k, L, hk, rfl, HK, hown, hb⟩ := hrel
    clear HO0 HB0
    by_cases hlt : k < n
    · rcases (HA.out.up (HGd.out _ hb)).2 with hz | ⟨b, off, rfl, hbl, hc⟩
      · omega
      · obtain ⟨t, ht⟩ : ∃ t, ts[k]? = some t := ⟨ts[k]'(by omega), List.getElem?_eq_getElem (by omega)⟩
        obtain ⟨x, cx, e0, iI, _⟩ := hc k t ht
        obtain ⟨ht0, ht23, htr⟩ := HRg.out t (List.mem_of_getElem? ht)
        have b1 : (0 : Int) ≤ (k : Int) := by omega
        have b2 : (k : Int) < (n : Int) := by omega
        rcases (HA.out.below (HGd.out _ hb) (Nat.le_refl _)).2 with hz | ⟨b', off', hbe, hbl', hc'⟩
        · omega
        simp at hbe
        obtain ⟨rfl, rfl⟩ := hbe
        obtain ⟨x', cx', e0', iI', _⟩ := hc' k t ht
        rw [e0'] at e0
        simp at e0
        obtain ⟨rfl, rfl⟩ := e0
        have HIs : Hid (Is w w.heap.size x' t.length t) := by
          rcases HA.out.2 with hz | ⟨b2, off2, hbe, _, hc2⟩
          · omega
          simp at hbe
          obtain ⟨rfl, rfl⟩ := hbe
          obtain ⟨x2, cx2, e2, iI2, _⟩ := hc2 k t ht
          have e3 : wr.cell? ⟨b, off + k, none⟩ = w.cell? ⟨b, off + k, none⟩ := (HGd.out _ hb).cell hbl'
          rw [e0', e2] at e3
          simp at e3
          obtain ⟨rfl, rfl⟩ := e3
          exact iI2
        have HTk := hideIt ht
        have HTr := hideIt htr
        have HApk : Hid (∀ j s, j < k → ts[j]? = some s → ∀ y ∈ s, y ∉ t) := fun j s hj hs y hy hyt => by
          obtain ⟨h1, e1⟩ := List.getElem?_eq_some_iff.1 hs
          obtain ⟨h2, e2⟩ := List.getElem?_eq_some_iff.1 ht
          have := List.pairwise_iff_getElem.1 HAp.out j k h1 h2 hj
          rw [e1, e2] at this
          exact this y hy hyt
        clear hc hc' ht iI iI' htr
        go_wp2
        go_loopw [20] (fun i wr => ∃ (q : Nat) (L : List Int), q ≤ t.length ∧ i = .int .i64 (q : Int) ∧ Hid (∀ j t, j < k → ts[j]? = some t → ∀ v : Nat, (v : Int) ∈ t → L[v]? = t[0]?) ∧ Hid (∀ p (v : Nat), p < q → t[p]? = some (v : Int) → L[v]? = t[0]?) ∧ wr.ownsRow (w.heap.size + 1) 3 1 (.slice (some ⟨w.heap.size + 1, 0, none⟩) nn nn) nn (ic L) ∧ Below (w.heap.size + 1) (w.alloc (.cells #[.int .i64 (nn : Int), .slice (some ⟨b, off, none⟩) n c] 57)) wr) (fun i _ => t.length - (intOf i).toNat)
        case atStart => exact ⟨0, L, by omega, rfl, HK, fun p v hp => by omega, hown, hb⟩
        case round =>
          obtain ⟨q, L2, hq, rfl, HK2, HQ, hown2, hb2⟩ := hrel
          clear HK hown hb e0'
          have hlL : L2.length = nn := by have := hown2.1; rw [ic_len] at this; omega
          by_cases hlt2 : q < t.length
          · rcases (HIs.out.below (HGd.out _ hb2) (Nat.le_refl _)).2 with hz | ⟨b3, off3, rfl, hbl3, hc3⟩
            · omega
            · obtain ⟨y, hy⟩ : ∃ y, t[q]? = some y := ⟨t[q], List.getElem?_eq_getElem hlt2⟩
              obtain ⟨y0, hy0⟩ : ∃ y, t[0]? = some y := ⟨t[0], List.getElem?_eq_getElem ht0⟩
              have hyr := HTr.out y (List.mem_of_getElem? hy)
              obtain ⟨v, rfl⟩ : ∃ v : Nat, y = (v : Int) := ⟨y.toNat, by omega⟩
              have f0 := hc3 q _ hy
              have f1 := hc3 0 _ hy0
              rw [Nat.add_zero] at f1
              have b3' : (0 : Int) ≤ (q : Int) := by omega
              have b4 : (q : Int) < (t.length : Int) := by omega
              have b5 : (0 : Int) < (t.length : Int) := by omega
              have b6 : (0 : Int) ≤ (v : Int) := by omega
              have b7 : (v : Int) < (nn : Int) := hyr.2
              have hvn : v < nn := by omega
              have fz := hown2.frozenAt v
              obtain ⟨o, x0⟩ : ∃ o, wr.cell? ⟨w.heap.size + 1, v, none⟩ = some o := ⟨_, by rw [hown2.cellAt v (by omega)]; exact List.getElem?_eq_getElem (by rw [ic_len]; omega)⟩
              have hst := (hown2.stored v (.int .i64 y0)).1
              rw [ic_set] at hst
              have HO := hideIt hst
              have HB := hideIt (hb2.setCell (p := ⟨w.heap.size + 1, v, none⟩) (Nat.le_refl _) (.int .i64 y0))
              have HK3 : Hid (∀ j s, j < k → ts[j]? = some s → ∀ u : Nat, (u : Int) ∈ s → (L2.set v y0)[u]? = s[0]?) := fun j s hj hs u hu => by
                have hne : v ≠ u := fun e => HApk.out j s hj hs (u : Int) hu (by rw [← e]; exact List.mem_of_getElem? hy)
                rw [List.getElem?_set_ne hne]
                exact HK2.out j s hj hs u hu
              have HQ3 : Hid (∀ p (u : Nat), p < q + 1 → t[p]? = some (u : Int) → (L2.set v y0)[u]? = t[0]?) := fun p u hp hu => by
                by_cases e : v = u
                · subst e
                  rw [List.getElem?_set_self (by omega), hy0]
                · rw [List.getElem?_set_ne e]
                  by_cases hpq : p = q
                  · subst hpq
                    rw [hy] at hu
                    simp at hu
                    omega
                  · exact HQ.out p u (by omega) hu
              clear hc3 hy hy0 hyr hown2 hb2 hst HK2 HQ
              go_wp2
              exact ⟨⟨q + 1, _, by omega, by go_num, HK3, HQ3, HO.out, HB.out⟩, by simp [intOf]; omega⟩
          · obtain rfl : q = t.length := by omega
            have HK3 : Hid (∀ j s, j < k + 1 → ts[j]? = some s → ∀ u : Nat, (u : Int) ∈ s → L2[u]? = s[0]?) := fun j s hj hs u hu => by
              by_cases e : j = k
              · subst e
                rw [HTk.out] at hs
                obtain rfl := Option.some.inj hs
                obtain ⟨p, hp⟩ := List.mem_iff_getElem?.1 hu
                exact HQ.out p u (List.getElem?_eq_some_iff.1 hp).1 hp
              · exact HK2.out j s (by omega) hs u hu
            have HO := hideIt hown2
            have HB := hideIt hb2
            clear hown2 hb2 HK2 HQ
            go_wp2
            exact ⟨⟨k + 1, L2, by omega, by go_num, HK3, HO.out, HB.out⟩, by simp [intOf]; omega⟩
    · obtain rfl : k = n := by omega
      have HF : Hid (∀ t ∈ ts, ∀ v : Nat, (v : Int) ∈ t → L[v]? = t[0]?) := fun t ht v hv => by
        obtain ⟨j, hj⟩ := List.mem_iff_getElem?.1 ht
        exact HK.out j t (by have := (List.getElem?_eq_some_iff.1 hj).1; omega) hj v hv
      have HO := hideIt hown
      have HB := hideIt hb
      clear hown hb HK
      go_wp2
      go_ret
      exact ⟨w.heap.size + 1, L, rfl, own_mono HO.out (by omega), HF.out, HGd.out _ HB.out⟩
end Go.Proofs.YtpfkfbmghddepaaGreat
namespace Go.Proofs.YtpfkfbmghddepaaGreat
open Go.RowKit

theorem vs_half {t : List Int} (hB : tB t = true) : t.length + 1 = 2 * (vsL t).length := by
  obtain ⟨hv, x, s, h⟩ := (tB_iff t).1 hB
  have h1 := trun_len h
  have h2 := trun_nodup h List.nodup_nil
  have h3 := (trun_seen h (by simp)).1
  have e : s.length = (vsL t).length := by
    apply Nat.le_antisymm
    · exact nodup_sub h2 fun y hy => (vs_mem_of hB).2 (by simpa using (h3 y).1 hy)
    · exact nodup_sub (vs_nodup t) fun y hy => (h3 y).2 (.inr ((vs_mem_of hB).1 hy))
  simp at h1
  omega
/-- what levelOk asks of a level -/
def LvQ (nn : Nat) (ls : List Ld) (i : Nat) (ts : List (List Int)) : Prop := (∀ t ∈ ts, 1 < (vsL t).length → (vsL t).length ≤ nn / 2 ^ i) ∧ ∀ x ∈ ls, x.t = false → x.l = (i : Int) → trI ts x.a = trI ts x.b
/-- two heads are one: two places are -/
theorem head_same {es : List EdgeV} {n : Nat} {ts : List (List Int)} (h : FtAll es n ts) {u v : Int} {x y : Int} {s t : List Int} (hs : s ∈ ts) (ht : t ∈ ts) (hu : u ∈ s) (hv : v ∈ t) (hx : s[0]? = some x) (hy : t[0]? = some y) : x = y ↔ trI ts u = trI ts v := by
  have hq := h.fp.q
  obtain ⟨i, hi⟩ := List.mem_iff_getElem?.1 hs
  obtain ⟨j, hj⟩ := List.mem_iff_getElem?.1 ht
  rw [trI_of hq hi hu, trI_of hq hj hv]
  constructor
  · rintro rfl
    have h1 := trI_of hq hi (List.mem_of_getElem? hx)
    have h2 := trI_of hq hj (List.mem_of_getElem? hy)
    omega
  · intro e
    obtain rfl : i = j := by omega
    rw [hi] at hj
    obtain rfl := Option.some.inj hj
    rw [hx] at hy
    exact Option.some.inj hy

set_option maxRecDepth 100000 in
set_option maxHeartbeats 4000000 in
theorem levelOk_any (nn : Nat) (ls : List Ld) (i : Nat) (hi5 : i < 5) (n : Nat) (a : Option Addr) (c : Nat) (hG : gB (nn : Int) (gE ls) = true) (hl : ∀ x ∈ ls, 0 ≤ x.l) (hB : Bridge (fE ls 0)) (ts : List (List Int)) (hts : ftK (fE ls (i : Int)) nn nn = some ts) (w : World) (h : Ls w w.heap.size a n ls) :
    Calls Tryz.prog 79 #[.agg #[.int .i64 (nn : Int), .slice a n c], .int .i64 (i : Int)] w fun e w' => ∃ b : Bool, e = .returned (.bool b) ∧ (b = true ↔ LvQ nn ls i ts) ∧ Below w.heap.size w w' := by
  have hg := gB_chk hG
  have hn1 : 1 ≤ nn := by omega
  have hn12 : nn ≤ 12 := by omega
  have hlen := h.1
  have h66 : n ≤ 66 := by have := hg.2.2; rw [gE_len] at this; omega
  have hall := ft_all (fE_ends hG (i : Int)) hn1 hn12 hts
  have hfa : Good w (wW w (nn : Int) a n c) := wW_good w (nn : Int) a n c
  have HFA := hideIt ((iForestAt_yes nn ls (i : Int) n a c hG hl hB (by omega) ts hts _ (h.up hfa)).mono fun _ _ h => h.weak)
  have HR := hideIt h
  have HQ := hideIt hall
  have HEd : Hid (∀ x ∈ ls, 0 ≤ x.a ∧ x.a < x.b ∧ x.b < (nn : Int)) := fun x hx => gB_ends hG x.e (gE_mem hx)
  clear h hG hl hB hts hall hg
  go_enter Tryz.func79, Tryz.ntmps79
  go_wp2_with (go_at_call 32; refine HFA.out.mono ?_; rintro e w1 ⟨a1, m1, c1, rfl, hT1, hb1⟩; refine Hid.out ?_)
  refine (show ∀ {p : Prop}, p → Hid p from fun h => h) ?_
  simp only [Option.getD_some] at hT1
  rw [wW_size] at hb1
  obtain ⟨cw0, cw1⟩ := wW_cells hb1
  have z1 := hb1.size
  rw [wW_size] at z1
  obtain ⟨Q, hQ0⟩ : ∃ Q, nn / 2 ^ i = Q := ⟨_, rfl⟩
  have hsh : (nn : Int) / 2 ^ i = (Q : Int) := by
    rw [← hQ0]
    simp
  have HQ0 := hideIt hQ0
  have hm12 : m1 ≤ 12 := by have := HQ.out.fp.2.2.1; have := hT1.1; omega
  have HTB : Hid (∀ t ∈ ts, tB t = true ∧ ∀ x ∈ t, 0 ≤ x ∧ x < (nn : Int)) := fun t ht => by
    have h1 := HQ.out.fp.q.1 t ht
    refine ⟨h1.1, fun x hx => ⟨?_, h1.2 x hx⟩⟩
    have := ((tB_iff t).1 h1.1).1 x hx
    unfold vB at this
    have := of_decide_eq_true this
    omega
  obtain ⟨W, hW⟩ : ∃ W, W = w1.alloc (.cells #[.int .i64 (nn : Int), .slice a1 m1 c1] 57) := ⟨_, rfl⟩
  have hbW : Below w1.heap.size w1 W := by rw [hW]; exact (Below.refl _ _).alloc (Nat.le_refl _) _
  have hzW : W.heap.size = w1.heap.size + 1 := by rw [hW]; simp
  have HCW : Hid (∀ u, Below W.heap.size W u → ((u.cell? ⟨w.heap.size, 0, none⟩ = some (.int .i64 (nn : Int)) ∧ u.cell? ⟨w.heap.size, 1, none⟩ = some (.slice a n c)) ∧ (u.cell? ⟨w1.heap.size, 0, none⟩ = some (.int .i64 (nn : Int)) ∧ u.cell? ⟨w1.heap.size, 1, none⟩ = some (.slice a1 m1 c1))) ∧ Good w u) := fun u hu => by
    have hu1 : Below w1.heap.size w1 u := hbW.trans (hu.mono (by omega))
    refine ⟨⟨wW_cells (hb1.trans (hu1.mono z1)), ?_, ?_⟩, (hfa.trans (hb1.mono (by omega))).trans (hu1.mono (by omega))⟩
    · rw [hu.cell (p := ⟨w1.heap.size, 0, none⟩) (by show w1.heap.size < _; omega), hW]; simp
    · rw [hu.cell (p := ⟨w1.heap.size, 1, none⟩) (by show w1.heap.size < _; omega), hW]; simp
  have HTs := hideIt (hT1.up hbW)
  have HLs : Hid (∀ u, Below W.heap.size W u → Ls u w.heap.size a n ls) := fun u hu => HR.out.below (HCW.out u hu).2 (Nat.le_refl _)
  have k1 := (HCW.out W (Below.refl _ _)).1.2.2
  clear HFA hT1 hb1 hbW cw0 cw1
  go_wp2
  rw [← hW]
  go_loopw [23] (fun i wr => ∃ k : Nat, k ≤ m1 ∧ i = .int .i64 (k : Int) ∧ Hid (∀ j t, j < k → ts[j]? = some t → 1 < (vsL t).length → (vsL t).length ≤ Q) ∧ Good W wr) (fun i _ => m1 - (intOf i).toNat)
  case atStart => exact ⟨0, by omega, rfl, fun j t hj => by omega, Good.refl _⟩
  case round =>
    obtain ⟨k, hk, rfl, HK, hg⟩ := hrel
    obtain ⟨⟨⟨cw0, cw1⟩, cf0, cf1⟩, hgw⟩ := HCW.out wr hg
    have HG := hideIt hg
    by_cases hlt : k < m1
    · rcases (HTs.out.up hg).2 with hz | ⟨b, off, rfl, hbl, hc⟩
      · omega
      · obtain ⟨t, ht⟩ : ∃ t, ts[k]? = some t := ⟨ts[k]'(by have := HTs.out.1; omega), List.getElem?_eq_getElem (by have := HTs.out.1; omega)⟩
        obtain ⟨x, cx, e0, iI, _⟩ := hc k t ht
        have htm := List.mem_of_getElem? ht
        have hB := (HTB.out t htm).1
        have hhalf := vs_half hB
        have hl23 := tB_len hB
        have b1 : (0 : Int) ≤ (k : Int) := by omega
        have b2 : (k : Int) < (m1 : Int) := by omega
        have HTk := hideIt ht
        have HV : Hid (∀ u, Good wr u → Calls Tryz.prog 94 #[.slice x t.length cx] u fun e v => ∃ a3 c3, e = .returned (.slice a3 (vsL t).length c3) ∧ Good wr v) := fun u hu =>
          (iVertsOf_any t t.length x cx (by omega) u (iI.up hu)).mono fun e v ⟨a3, m3, c3, he, ho, hb⟩ => by
            have hm : (vsL t).length = m3 := by have := ho.1; rw [ic_len] at this; omega
            subst hm
            exact ⟨a3, c3, he, hu.up hb⟩
        have HC : Hid (∀ u, Good wr u → u.cell? ⟨w.heap.size, 0, none⟩ = some (.int .i64 (nn : Int))) := fun u hu => (HCW.out u (HG.out.up hu)).1.1.1
        obtain ⟨V, hV⟩ : ∃ V, (vsL t).length = V := ⟨_, rfl⟩
        rw [hV] at HV hhalf
        have HVV := hideIt hV
        have g0 : Good wr wr.drew := (Good.refl _).drew
        clear hc ht iI hB htm hV
        by_cases h1 : 1 < t.length
        · have d1 : decide ((1 : Int) < (t.length : Int)) = true := decide_eq_true (by omega)
          by_cases hle : V ≤ Q
          · have d2 : decide ((Q : Int) < (V : Int)) = false := decide_eq_false (by omega)
            have HK2 : Hid (∀ j t, j < k + 1 → ts[j]? = some t → 1 < (vsL t).length → (vsL t).length ≤ Q) := fun j s hj hs h2 => by
              by_cases e : j = k
              · subst e
                rw [HTk.out] at hs
                obtain rfl := Option.some.inj hs
                rw [HVV.out]; exact hle
              · exact HK.out j s (by omega) hs h2
            clear HK
            go_wp2
            go_region_held3 (fun u => u.cell? ⟨w.heap.size, 0, none⟩ = some (.int .i64 (nn : Int))) (first | exact HC.out _ g1 | exact HC.out _ g0) ((go_at_call 94; refine (HV.out _ g0).mono ?_; rintro e w3 ⟨a3, c3, rfl, g1⟩))
            go_wp2
            exact ⟨⟨k + 1, by omega, by go_num, HK2, HG.out.up g1⟩, by simp [intOf]; omega⟩
          · have d2 : decide ((Q : Int) < (V : Int)) = true := decide_eq_true (by omega)
            have HN : Hid (¬ LvQ nn ls i ts) := fun hq => by
              have := hq.1 t (List.mem_of_getElem? HTk.out) (by rw [HVV.out]; omega)
              rw [HVV.out, HQ0.out] at this
              omega
            clear HK
            go_wp2
            go_region_held3 (fun u => u.cell? ⟨w.heap.size, 0, none⟩ = some (.int .i64 (nn : Int))) (first | exact HC.out _ g1 | exact HC.out _ g0) ((go_at_call 94; refine (HV.out _ g0).mono ?_; rintro e w3 ⟨a3, c3, rfl, g1⟩))
            go_wp2
            go_ret
            exact ⟨false, rfl, ⟨fun h => (by cases h), fun h => absurd h HN.out⟩, (HCW.out _ (HG.out.up g1)).2⟩
        · have d1 : decide ((1 : Int) < (t.length : Int)) = false := decide_eq_false (by omega)
          have HK2 : Hid (∀ j t, j < k + 1 → ts[j]? = some t → 1 < (vsL t).length → (vsL t).length ≤ Q) := fun j s hj hs h2 => by
            by_cases e : j = k
            · subst e
              rw [HTk.out] at hs
              obtain rfl := Option.some.inj hs
              rw [HVV.out] at h2
              omega
            · exact HK.out j s (by omega) hs h2
          clear HK
          go_wp2
          refine wp_region_any (by kernel_rfl) ?_
          change wpAny _ _ _ _ _ _ _ (World.drew _)
          refine takeOp (i := 0) (v := ?_) rfl (by kernel_rfl) (by kernel_rfl) (by kernel_rfl) (fun _ _ _ h => h) (by kernel_rfl) ?_ ?_
          rotate_left
          · intro w; go_simp; try with_reducible rfl
          refine takeOp (i := 1) (v := ?_) rfl (by kernel_rfl) (by kernel_rfl) (by kernel_rfl) (fun _ _ _ h => h) (by kernel_rfl) ?_ ?_
          rotate_left
          · intro w; go_simp; try with_reducible rfl
          refine takeOp (i := 2) (v := ?_) rfl (by kernel_rfl) (by kernel_rfl) (by kernel_rfl) (fun _ _ _ h => h) (by kernel_rfl) ?_ ?_
          rotate_left
          · intro w; go_simp; try with_reducible rfl
          refine takeOp (i := 3) (v := ?_) rfl (by kernel_rfl) (by kernel_rfl) (by kernel_rfl) (fun _ _ _ h => h) (by kernel_rfl) ?_ ?_
          rotate_left
          · intro w; go_simp; try with_reducible rfl
          refine skipOp (i := 4) rfl (by kernel_rfl) (by kernel_rfl) (by kernel_rfl) (fun _ _ _ h => h) (by kernel_rfl) ?_
          refine skipOp (i := 5) rfl (by kernel_rfl) (by kernel_rfl) (by kernel_rfl) (fun _ _ _ h => h) (by kernel_rfl) ?_
          refine skipOp (i := 6) rfl (by kernel_rfl) (by kernel_rfl) (by kernel_rfl) (fun _ _ _ h => h) (by kernel_rfl) ?_
          refine skipOp (i := 7) rfl (by kernel_rfl) (by kernel_rfl) (by kernel_rfl) (fun _ _ _ h => h) (by kernel_rfl) ?_
          refine skipOp (i := 8) rfl (by kernel_rfl) (by kernel_rfl) (by kernel_rfl) (fun _ _ _ h => h) (by kernel_rfl) ?_
          refine skipOp (i := 9) rfl (by kernel_rfl) (by kernel_rfl) (by kernel_rfl) (fun _ _ _ h => h) (by kernel_rfl) ?_
          refine skipOp (i := 10) rfl (by kernel_rfl) (by kernel_rfl) (by kernel_rfl) (fun _ _ _ h => h) (by kernel_rfl) ?_
          refine skipOp (i := 11) rfl (by kernel_rfl) (by kernel_rfl) (by kernel_rfl) (fun _ _ _ h => h) (by kernel_rfl) ?_
          refine wpAny_ready (rs := [12]) (by kernel_rfl) (by simp) ?_
          refine AllReady.cons rfl (fun K hK => ?_) AllReady.nil
          go_simp
          refine hK _ _ ?_
          clear hK K
          refine wpAny_done (by kernel_rfl) ?_ _
          go_wp2
          exact ⟨⟨k + 1, by omega, by go_num, HK2, HG.out.drew⟩, by simp [intOf]; omega⟩
    · obtain rfl : k = m1 := by omega
      have HA : Hid (∀ t ∈ ts, 1 < (vsL t).length → (vsL t).length ≤ nn / 2 ^ i) := fun t ht h2 => by
        obtain ⟨j, hj⟩ := List.mem_iff_getElem?.1 ht
        rw [HQ0.out]
        exact HK.out j t (by have := (List.getElem?_eq_some_iff.1 hj).1; have := HTs.out.1; omega) hj h2
      have HRt := hideIt (rootsOf_any nn ts k a1 c1 hn12 hm12 (fun t ht => by have h1 := HTB.out t ht; have h2 := tB_len h1.1; exact ⟨by omega, h2.2, h1.2⟩) HQ.out.fp.q.2.1 wr (HTs.out.up hg))
      clear HK hg
      go_wp2_with (go_at_call 84; refine HRt.out.mono ?_; rintro e w2 ⟨gr, L, rfl, ho2, hL2, hb2⟩; refine Hid.out ?_)
      refine (show ∀ {p : Prop}, p → Hid p from fun h => h) ?_
      have hG2 : Good W w2 := HG.out.up hb2
      obtain ⟨⟨⟨cw0', cw1'⟩, _⟩, _⟩ := HCW.out w2 hG2
      have hLl : L.length = nn := by have := ho2.1; rw [ic_len] at this; omega
      have HL := hideIt hL2
      have HO := hideIt ho2
      have HG2 := hideIt hG2
      have hgr := (ho2.lt gr rfl).2
      clear HRt ho2 hL2 hb2 hG2 cw0 cw1 cf0 cf1 hgw
      go_wp2
      go_loopw [46] (fun i_1 wr => ∃ q : Nat, q ≤ n ∧ i_1 = .int .i64 (q : Int) ∧ Hid (∀ j x, j < q → ls[j]? = some x → x.t = false → x.l = (i : Int) → trI ts x.a = trI ts x.b) ∧ Good w2 wr) (fun i_1 _ => n - (intOf i_1).toNat)
      case atStart => exact ⟨0, by omega, rfl, fun j x hj => by omega, Good.refl _⟩
      case round =>
        obtain ⟨q, hq, rfl, HK, hg⟩ := hrel
        clear cw0' cw1'
        have hz3 := hg.size
        by_cases hlt2 : q < n
        · obtain ⟨b, off, x, rfl, hbl, hxk, hat⟩ := (HLs.out wr (HG2.out.up hg)).at hlt2
          have e0 := hat.ca
          have e1 := hat.cb
          have e2 := hat.cl
          have e3 := hat.ct
          have b1 : (0 : Int) ≤ (q : Int) := by omega
          have b2 : (q : Int) < (n : Int) := by omega
          have HX := hideIt hxk
          have HGa := hideIt (hg.alloc (.cells #[.int .i64 x.a, .int .i64 x.b, .int .i64 x.l, .bool x.t] 52))
          cases ht : x.t with
          | true =>
            rw [ht] at e3 HGa
            have HK2 : Hid (∀ j x, j < q + 1 → ls[j]? = some x → x.t = false → x.l = (i : Int) → trI ts x.a = trI ts x.b) := fun j y hj hy h1 h2 => by
              by_cases e : j = q
              · subst e
                rw [HX.out] at hy
                obtain rfl := Option.some.inj hy
                rw [ht] at h1; cases h1
              · exact HK.out j y (by omega) hy h1 h2
            clear HK hxk hat ht hg
            go_wp2
            go_quiet (fail)
            go_wp2
            exact ⟨⟨q + 1, by omega, by go_num, HK2, below_drewN HGa.out _⟩, by simp [intOf]; omega⟩
          | false =>
            rw [ht] at e3 HGa
            by_cases hli : x.l = (i : Int)
            · have hed := HEd.out x (List.mem_of_getElem? hxk)
              obtain ⟨ua, hua⟩ : ∃ u : Nat, x.a = (u : Int) := ⟨x.a.toNat, by omega⟩
              obtain ⟨ub, hub⟩ : ∃ u : Nat, x.b = (u : Int) := ⟨x.b.toNat, by omega⟩
              obtain ⟨s, hs, hus⟩ := HQ.out.cov x.a (by omega) (by omega)
              obtain ⟨s', hs', hus'⟩ := HQ.out.cov x.b (by omega) (by omega)
              obtain ⟨p, hp⟩ : ∃ p, s[0]? = some p := ⟨_, List.getElem?_eq_getElem (List.length_pos_of_mem hus)⟩
              obtain ⟨p', hp'⟩ : ∃ p, s'[0]? = some p := ⟨_, List.getElem?_eq_getElem (List.length_pos_of_mem hus')⟩
              have hsame := head_same HQ.out hs hs' hus hus' hp hp'
              have h1 := HL.out s hs ua (by rw [← hua]; exact hus)
              have h2 := HL.out s' hs' ub (by rw [← hub]; exact hus')
              rw [hp] at h1
              rw [hp'] at h2
              have HOw := own_up HO.out HGa.out
              have r1 : (wr.alloc (.cells #[.int .i64 x.a, .int .i64 x.b, .int .i64 x.l, .bool false] 52)).cell? ⟨gr, ua, none⟩ = some (.int .i64 p) := by rw [HOw.cellAt ua (by omega)]; exact ic_at h1
              have r2 : (wr.alloc (.cells #[.int .i64 x.a, .int .i64 x.b, .int .i64 x.l, .bool false] 52)).cell? ⟨gr, ub, none⟩ = some (.int .i64 p') := by rw [HOw.cellAt ub (by omega)]; exact ic_at h2
              have b3 : (0 : Int) ≤ (ua : Int) := by omega
              have b4 : (ua : Int) < (nn : Int) := by omega
              have b5 : (0 : Int) ≤ (ub : Int) := by omega
              have b6 : (ub : Int) < (nn : Int) := by omega
              have d2 : (x.l == (i : Int)) = true := by simpa using hli
              have HSame := hideIt hsame
              have HGb := hideIt HGa.out
              have HX2 : Hid (∀ y, ls[q]? = some y → (trI ts y.a = trI ts y.b ↔ p = p')) := fun y hy => by
                rw [HX.out] at hy
                obtain rfl := Option.some.inj hy
                exact HSame.out.symm
              rw [hua, hub] at HGb r1 r2
              rw [hua] at e0
              rw [hub] at e1
              rw [hli] at e2 HGb r1 r2
              have HNq : Hid (p ≠ p' → ¬ LvQ nn ls i ts) := fun hne hq => hne (HSame.out.2 (hq.2 x (List.mem_of_getElem? HX.out) ht hli))
              clear hxk hat ht hg hli d2 hs hs' hus hus' hp hp' hsame h1 h2 HOw HGa hed hua hub
              by_cases hpp : p = p'
              · have d3 : (p != p') = false := by simpa using hpp
                have HK2 : Hid (∀ j x, j < q + 1 → ls[j]? = some x → x.t = false → x.l = (i : Int) → trI ts x.a = trI ts x.b) := fun j y hj hy h1 h2 => by
                  by_cases e : j = q
                  · subst e
                    exact (HX2.out y hy).2 hpp
                  · exact HK.out j y (by omega) hy h1 h2
                have HPP := hideIt hpp
                clear HK hpp
                go_wp2
                go_quiet (fail)
                go_wp2
                exact ⟨⟨q + 1, by omega, by go_num, HK2, below_drewN HGb.out _⟩, by simp [intOf]; omega⟩
              · have d3 : (p != p') = true := by simpa using hpp
                have HN2 := hideIt (HNq.out hpp)
                clear HK hpp
                go_wp2
                go_quiet (fail)
                go_wp2
                go_ret
                exact ⟨false, rfl, ⟨fun h => (by cases h), fun h => absurd h HN2.out⟩, (HCW.out _ (HG2.out.up (below_drewN HGb.out _))).2⟩
            · have d2 : (x.l == (i : Int)) = false := by simpa using hli
              have HK2 : Hid (∀ j x, j < q + 1 → ls[j]? = some x → x.t = false → x.l = (i : Int) → trI ts x.a = trI ts x.b) := fun j y hj hy h1 h2 => by
                by_cases e : j = q
                · subst e
                  rw [HX.out] at hy
                  obtain rfl := Option.some.inj hy
                  exact absurd h2 hli
                · exact HK.out j y (by omega) hy h1 h2
              clear HK hxk hat ht hg hli
              go_wp2
              go_quiet (fail)
              go_wp2
              exact ⟨⟨q + 1, by omega, by go_num, HK2, below_drewN HGa.out _⟩, by simp [intOf]; omega⟩
        · obtain rfl : q = n := by omega
          have HY : Hid (LvQ nn ls i ts) := ⟨HA.out, fun x hx h1 h2 => by
            obtain ⟨j, hj⟩ := List.mem_iff_getElem?.1 hx
            exact HK.out j x (by have := (List.getElem?_eq_some_iff.1 hj).1; omega) hj h1 h2⟩
          clear HK
          go_wp2
          go_ret
          exact ⟨true, rfl, ⟨fun _ => HY.out, fun _ => rfl⟩, (HCW.out _ (HG2.out.up hg)).2⟩
end Go.Proofs.YtpfkfbmghddepaaGreat
namespace Go.Proofs.YtpfkfbmghddepaaGreat
open Go.RowKit

theorem LvOk_iff {nn : Nat} {ls : List Ld} {i : Nat} {ts : List (List Int)} (h : ftK (fE ls (i : Int)) nn nn = some ts) : LvOk nn ls i ↔ LvQ nn ls i ts :=
  ⟨fun ⟨ts', h1, h2⟩ => by rw [h] at h1; obtain rfl := Option.some.inj h1; exact h2, fun h2 => ⟨ts, h, h2⟩⟩
set_option maxRecDepth 100000 in
set_option maxHeartbeats 4000000 in
theorem levelOk_no (nn : Nat) (ls : List Ld) (i : Int) (n : Nat) (a : Option Addr) (c : Nat) (hG : gB (nn : Int) (gE ls) = true) (hl : ∀ x ∈ ls, 0 ≤ x.l) (hB : ¬ Bridge (fE ls 0)) (w : World) (h : Ls w w.heap.size a n ls) :
    Calls Tryz.prog 79 #[.agg #[.int .i64 (nn : Int), .slice a n c], .int .i64 i] w fun e w' => e = .returned (.bool false) ∧ Below w.heap.size w w' := by
  have hfa : Good w (wW w (nn : Int) a n c) := wW_good w (nn : Int) a n c
  have HFA := hideIt ((iForestAt_no nn ls i n a c hG hl hB _ (h.up hfa)).mono fun _ _ h => h.weak)
  clear h hG hl hB
  go_enter Tryz.func79, Tryz.ntmps79
  go_wp2_with (go_at_call 32; refine HFA.out.mono ?_; rintro e w1 ⟨a1, m1, c1, rfl, hT1, hb1⟩)
  go_ret
  exact ⟨rfl, (hfa.up hb1).alloc _⟩
set_option maxRecDepth 100000 in
set_option maxHeartbeats 4000000 in
theorem iWebOk_any (N : Int) (ls : List Ld) (n : Nat) (a : Option Addr) (c : Nat) (hn : n ≤ 1048576) (w : World) (h : Ls w w.heap.size a n ls) :
    Calls Tryz.prog 19 #[.agg #[.int .i64 N, .slice a n c]] w fun e w' => e = .returned (.bool (wB N ls)) ∧ Below w.heap.size w w' := by
  have hlen := h.1
  have hfa : Good w (wW w N a n c) := wW_good w N a n c
  have HR := hideIt h
  have HGo := hideIt (iGraphOf_any N ls n a c hn _ (h.up hfa))
  have HGk : Hid (∀ (g : Nat) (u : World), u.ownsRow (wW w N a n c).heap.size 28 2 (.slice (some ⟨g, 0, none⟩) n n) n (ecells (gE ls)) → Calls Tryz.prog 78 #[.agg #[.int .i64 N, .slice (some ⟨g, 0, none⟩) n n]] u fun e w' => e = .returned (.bool (gB N (gE ls))) ∧ Below u.heap.size u w') := fun g u hu => iGraphOk_any N (gE ls) n (some ⟨g, 0, none⟩) n hn u (Es_of_own hu)
  have HC : Hid (∀ u, Good (wW w N a n c) u → u.cell? ⟨w.heap.size, 0, none⟩ = some (.int .i64 N) ∧ u.cell? ⟨w.heap.size, 1, none⟩ = some (.slice a n c)) := fun u hu => by
    unfold Good at hu
    rw [wW_size] at hu
    exact wW_cells hu
  clear h
  cases hG : gB N (gE ls) with
  | false =>
    rw [hG] at HGk
    have HN := hideIt (wB_no (N := N) (ls := ls) fun hw => by have := hw.1; rw [hG] at this; cases this)
    clear hG
    go_enter Tryz.func19, Tryz.ntmps19
    go_wp2_with (first | (go_at_call 13; refine HGo.out.mono ?_; rintro e w1 ⟨g, rfl, ho1, hb1⟩; have HG2 := HGk.out g w1 ho1; clear ho1) | (go_at_call 78; refine HG2.mono ?_; rintro e w2 ⟨rfl, hb2⟩))
    go_ret
    exact ⟨by rw [HN.out]; rfl, (hfa.up hb1).up hb2⟩
  | true =>
    rw [hG] at HGk
    obtain ⟨nn, rfl, hn1, hn12⟩ := gB_n hG
    have h66 : n ≤ 66 := by have := (gB_chk hG).2.2; rw [gE_len] at this; omega
    go_enter Tryz.func19, Tryz.ntmps19
    go_wp2_with (first | (go_at_call 13; refine HGo.out.mono ?_; rintro e w1 ⟨g, rfl, ho1, hb1⟩; have HG2 := HGk.out g w1 ho1; clear ho1) | (go_at_call 78; refine HG2.mono ?_; rintro e w2 ⟨rfl, hb2⟩; refine Hid.out ?_))
    refine (show ∀ {p : Prop}, p → Hid p from fun h => h) ?_
    have G2 : Good (wW w (nn : Int) a n c) w2 := (show Good (wW w (nn : Int) a n c) w1 from hb1).up hb2
    obtain ⟨cw0, cw1⟩ := HC.out w2 G2
    have HG0 := hideIt hG
    clear HGo HGk HG2 hb1 hb2 hG
    go_wp2
    go_loopw [13] (fun i wr => ∃ k : Nat, k ≤ n ∧ i = .int .i64 (k : Int) ∧ Hid (∀ j x, j < k → ls[j]? = some x → 0 ≤ x.l ∧ x.l ≤ 4) ∧ Good (wW w (nn : Int) a n c) wr) (fun i _ => n - (intOf i).toNat)
    case atStart => exact ⟨0, by omega, rfl, fun j x hj => by omega, G2⟩
    case round =>
      obtain ⟨k, hk, rfl, HK, hg⟩ := hrel
      clear G2 cw0 cw1
      by_cases hlt : k < n
      · obtain ⟨b, off, x, rfl, hbl, hxk, hat⟩ := ((HR.out.up (wW_good w _ a n c)).up hg).at hlt
        have e0 := hat.ca
        have e1 := hat.cb
        have e2 := hat.cl
        have e3 := hat.ct
        have b1 : (0 : Int) ≤ (k : Int) := by omega
        have b2 : (k : Int) < (n : Int) := by omega
        have HGa := hideIt (hg.alloc (.cells #[.int .i64 x.a, .int .i64 x.b, .int .i64 x.l, .bool x.t] 52))
        have HX := hideIt hxk
        clear hxk hat hg
        by_cases hlow : x.l < 0
        · have d1 : decide (x.l < 0) = true := decide_eq_true hlow
          have HN := hideIt (wB_no (N := (nn : Int)) (ls := ls) fun hw => by have := hw.2.1 x (List.mem_of_getElem? HX.out); omega)
          clear HK hlow
          go_wp2
          go_ret
          exact ⟨by rw [HN.out]; rfl, hfa.up HGa.out⟩
        · have d1 : decide (x.l < 0) = false := decide_eq_false hlow
          by_cases hhi : 4 < x.l
          · have d2 : decide (4 < x.l) = true := decide_eq_true hhi
            have HN := hideIt (wB_no (N := (nn : Int)) (ls := ls) fun hw => by have := hw.2.1 x (List.mem_of_getElem? HX.out); omega)
            clear HK hlow hhi
            go_wp2
            go_ret
            exact ⟨by rw [HN.out]; rfl, hfa.up HGa.out⟩
          · have d2 : decide (4 < x.l) = false := decide_eq_false hhi
            have HK2 : Hid (∀ j x, j < k + 1 → ls[j]? = some x → 0 ≤ x.l ∧ x.l ≤ 4) := fun j y hj hy => by
              by_cases e : j = k
              · subst e
                rw [HX.out] at hy
                obtain rfl := Option.some.inj hy
                omega
              · exact HK.out j y (by omega) hy
            clear HK hlow hhi
            go_wp2
            exact ⟨⟨k + 1, by omega, by go_num, HK2, HGa.out⟩, by simp [intOf]; omega⟩
      · obtain rfl : k = n := by omega
        have HLv : Hid (∀ x ∈ ls, 0 ≤ x.l ∧ x.l ≤ 4) := fun x hx => by
          obtain ⟨j, hj⟩ := List.mem_iff_getElem?.1 hx
          exact HK.out j x (by have := (List.getElem?_eq_some_iff.1 hj).1; omega) hj
        have HLs : Hid (∀ u, Good (wW w (nn : Int) a k c) u → Ls u u.heap.size a k ls) := fun u hu => (HR.out.up (wW_good w _ a k c)).up hu
        clear HK
        by_cases hBr : Bridge (fE ls 0)
        · have HLo : Hid (∀ (i : Nat) (u : World), i < 5 → Good (wW w (nn : Int) a k c) u → Calls Tryz.prog 79 #[.agg #[.int .i64 (nn : Int), .slice a k c], .int .i64 (i : Int)] u fun e w' => ∃ b : Bool, e = .returned (.bool b) ∧ (b = true ↔ LvOk nn ls i) ∧ Good (wW w (nn : Int) a k c) w') := fun i u hi hu => by
            obtain ⟨ts, hts⟩ := ft_some (fE_ends HG0.out (i : Int)) (hBr.sub fun e he => fE_low (by omega) he) nn (Nat.le_refl _)
            refine (levelOk_any nn ls i hi k a c HG0.out (fun x hx => (HLv.out x hx).1) hBr ts hts u (HLs.out u hu)).mono fun e v ⟨b, h1, h2, h3⟩ => ⟨b, h1, ?_, hu.up h3⟩
            rw [h2, LvOk_iff hts]
          have HGs := hideIt hg
          clear hBr hg
          go_wp2
          go_loopw [5] (fun i wr => ∃ q : Nat, q ≤ 5 ∧ i = .int .i64 (q : Int) ∧ Hid (∀ j, j < q → LvOk nn ls j) ∧ Good (wW w (nn : Int) a k c) wr) (fun i _ => 5 - (intOf i).toNat)
          case atStart => exact ⟨0, by omega, rfl, fun j hj => by omega, HGs.out⟩
          case round =>
            obtain ⟨q, hq, rfl, HQ, hg⟩ := hrel
            clear HGs
            obtain ⟨cw0, cw1⟩ := HC.out wr hg
            by_cases hq5 : q < 5
            · have d0 : decide ((q : Int) ≤ 4) = true := decide_eq_true (by omega)
              have HCl := hideIt (HLo.out q wr hq5 hg)
              clear hg
              go_wp2_with (go_at_call 79; refine HCl.out.mono ?_; rintro e w3 ⟨b, rfl, hb3, hg3⟩; refine Hid.out ?_)
              refine (show ∀ {p : Prop}, p → Hid p from fun h => h) ?_
              cases b with
              | true =>
                have HQ2 : Hid (∀ j, j < q + 1 → LvOk nn ls j) := fun j hj => by
                  by_cases e : j = q
                  · subst e; exact hb3.1 rfl
                  · exact HQ.out j (by omega)
                clear HQ hb3
                go_wp2
                exact ⟨⟨q + 1, by omega, by go_num, HQ2, hg3⟩, by simp [intOf]; omega⟩
              | false =>
                have HN := hideIt (wB_no (N := (nn : Int)) (ls := ls) fun hw => by
                  have := hw.2.2 q hq5
                  rw [Int.toNat_natCast] at this
                  have := hb3.2 this
                  cases this)
                clear HQ hb3
                go_wp2
                go_ret
                exact ⟨by rw [HN.out]; rfl, hfa.up hg3⟩
            · have d0 : decide ((q : Int) ≤ 4) = false := decide_eq_false (by omega)
              have HY := hideIt (wB_yes (N := (nn : Int)) (ls := ls) ⟨HG0.out, HLv.out, fun i hi => by rw [Int.toNat_natCast]; exact HQ.out i (by omega)⟩)
              clear HQ
              go_wp2
              go_ret
              exact ⟨by rw [HY.out]; rfl, hfa.up hg⟩
        · have HLo := hideIt ((levelOk_no nn ls 0 k a c HG0.out (fun x hx => (HLv.out x hx).1) hBr wr (HLs.out wr hg)).mono fun e v ⟨h1, h2⟩ => And.intro h1 (hg.up h2))
          have HN := hideIt (wB_no (N := (nn : Int)) (ls := ls) fun hw => hBr hw.bridge)
          have HGs := hideIt hg
          obtain ⟨cw0, cw1⟩ := HC.out wr hg
          clear hBr hg
          go_wp2
          go_loopw [5] (fun i wq => i = .int .i64 0 ∧ wq = wr) (fun i _ => 5 - (intOf i).toNat)
          case atStart => exact ⟨rfl, rfl⟩
          case round =>
            obtain ⟨rfl, hw⟩ := hrel
            have hw' := hw.symm
            subst hw'
            go_wp2_with (go_at_call 79; refine HLo.out.mono ?_; rintro e w3 ⟨rfl, hg3⟩)
            go_ret
            exact ⟨by rw [HN.out]; rfl, hfa.up hg3⟩
end Go.Proofs.YtpfkfbmghddepaaGreat
namespace Go.Proofs.YtpfkfbmghddepaaGreat
open Go.RowKit

/-- the least vertex of each vertex's tour -/
def labW (ts : List (List Int)) (nn : Nat) : List Int := (List.range nn).map fun v : Nat => mnV ((ts[(trI ts (v : Int)).toNat]?).getD [])
theorem labW_len (ts : List (List Int)) (nn : Nat) : (labW ts nn).length = nn := by simp [labW]
theorem labW_at {es : List EdgeV} {nn : Nat} {ts : List (List Int)} (h : FtAll es nn ts) {v : Nat} (hv : v < nn) {t : List Int} (ht : t ∈ ts) (hvt : (v : Int) ∈ t) : (labW ts nn)[v]? = some (mnV t) := by
  obtain ⟨k, hk⟩ := List.mem_iff_getElem?.1 ht
  have e := trI_of h.fp.q hk hvt
  simp [labW, hv, e, hk]
/-- a list that tells each tour's first number for each of its vertices is that of the labels -/
theorem labW_of {es : List EdgeV} {nn : Nat} {ts : List (List Int)} (h : FtAll es nn ts) {L : List Int} (hl : L.length = nn) (hL : ∀ t ∈ ts, ∀ v : Nat, (v : Int) ∈ t → L[v]? = t[0]?) : L = labW ts nn := by
  apply List.ext_getElem?
  intro v
  by_cases hv : v < nn
  · obtain ⟨t, ht, hvt⟩ := h.cov (v : Int) (by omega) (by omega)
    rw [hL t ht v hvt, labW_at h hv ht hvt, ← List.head?_eq_getElem?]
    exact h.mn t ht
  · rw [List.getElem?_eq_none (by omega), List.getElem?_eq_none (by rw [labW_len]; omega)]
/-- the ground's trees -/
def gndT (N : Int) (ls : List Ld) : List (List Int) := (ftK (fE ls 0) N.toNat N.toNat).getD []
noncomputable def lbO (N : Int) (ls : List Ld) : List Int := @ite _ (WOk N ls) (Classical.propDecidable _) (labW (gndT N ls) N.toNat) []
theorem lbO_yes {nn : Nat} {ls : List Ld} (h : WOk (nn : Int) ls) {ts : List (List Int)} (hts : ftK (fE ls 0) nn nn = some ts) : lbO (nn : Int) ls = labW ts nn := by
  unfold lbO gndT; rw [if_pos h, Int.toNat_natCast, hts]; rfl
theorem lbO_no {N : Int} {ls : List Ld} (h : ¬ WOk N ls) : lbO N ls = [] := by unfold lbO; rw [if_neg h]
theorem lbO_len (N : Int) (ls : List Ld) : (lbO N ls).length ≤ 12 := by
  by_cases h : WOk N ls
  · obtain ⟨nn, rfl, _, h12⟩ := gB_n h.1
    unfold lbO
    rw [if_pos h, labW_len, Int.toNat_natCast]
    exact h12
  · rw [lbO_no h]; simp
/-- both are in one tree -/
noncomputable def tgB (N : Int) (ls : List Ld) (x y : Int) : Bool := @decide (WOk N ls ∧ (0 ≤ x ∧ x < N) ∧ (0 ≤ y ∧ y < N) ∧ trI (gndT N ls) x = trI (gndT N ls) y) (Classical.propDecidable _)
theorem tgB_iff {N : Int} {ls : List Ld} {x y : Int} : tgB N ls x y = true ↔ (WOk N ls ∧ (0 ≤ x ∧ x < N) ∧ (0 ≤ y ∧ y < N) ∧ trI (gndT N ls) x = trI (gndT N ls) y) := by
  unfold tgB; exact @decide_eq_true_iff _ (Classical.propDecidable _)
theorem tgB_is {N : Int} {ls : List Ld} {x y : Int} {b : Bool} (h : b = true ↔ (WOk N ls ∧ (0 ≤ x ∧ x < N) ∧ (0 ≤ y ∧ y < N) ∧ trI (gndT N ls) x = trI (gndT N ls) y)) : b = tgB N ls x y := by
  rw [Bool.eq_iff_iff, h, tgB_iff]
theorem gndT_is {nn : Nat} {ls : List Ld} {ts : List (List Int)} (hts : ftK (fE ls 0) nn nn = some ts) : gndT (nn : Int) ls = ts := by unfold gndT; rw [Int.toNat_natCast, hts]; rfl
/-- a right web's trees -/
theorem WOk.trees {nn : Nat} {ls : List Ld} (h : WOk (nn : Int) ls) (i : Nat) (hi : i < 5) : ∃ ts, ftK (fE ls (i : Int)) nn nn = some ts ∧ FtAll (fE ls (i : Int)) nn ts := by
  obtain ⟨ts, h1, _⟩ := h.2.2 i hi
  rw [Int.toNat_natCast] at h1
  have hg := (gB_chk h.1).1
  exact ⟨ts, h1, ft_all (fE_ends h.1 _) (by omega) (by omega) h1⟩
/-- the greatest level -/
def htK : List Ld → Int → Int
  | [], m => m
  | x :: r, m => htK r (if m < x.l then x.l else m)
noncomputable def htO (N : Int) (ls : List Ld) : Int := @ite _ (WOk N ls) (Classical.propDecidable _) (htK ls (-1)) (-1)
theorem htO_yes {N : Int} {ls : List Ld} (h : WOk N ls) : htO N ls = htK ls (-1) := by unfold htO; rw [if_pos h]
theorem htO_no {N : Int} {ls : List Ld} (h : ¬ WOk N ls) : htO N ls = -1 := by unfold htO; rw [if_neg h]
theorem htK_drop {ls : List Ld} {k : Nat} {x : Ld} (h : ls[k]? = some x) (m : Int) : htK (ls.drop k) m = htK (ls.drop (k + 1)) (if m < x.l then x.l else m) := by
  obtain ⟨hk, e⟩ := List.getElem?_eq_some_iff.1 h
  rw [List.drop_eq_getElem_cons hk, htK, e]
end Go.Proofs.YtpfkfbmghddepaaGreat
namespace Go.Proofs.YtpfkfbmghddepaaGreat
open Go.RowKit

theorem ft_lnS {es : List EdgeV} {nn : Nat} {ts : List (List Int)} (h : FtAll es nn ts) : ts.length + lnS ts ≤ 1048576 := by
  have h1 : ts.length ≤ 12 := h.fp.2.2.1
  have h2 : ∀ l : List (List Int), (∀ t ∈ l, t.length ≤ 23) → lnS l ≤ 23 * l.length := fun l => by
    induction l with
    | nil => intro _; simp [lnS]
    | cons t l ih =>
      intro hl
      have a := hl t (by simp)
      have b := ih fun s hs => hl s (by simp [hs])
      simp only [lnS, List.map_cons, List.sum_cons, List.length_cons] at b ⊢
      omega
  have := h2 ts fun t ht => (tB_len (h.fp.q.1 t ht).1).2
  omega
theorem ft_rng {es : List EdgeV} {nn : Nat} {ts : List (List Int)} (h : FtAll es nn ts) : ∀ t ∈ ts, 0 < t.length ∧ t.length ≤ 23 ∧ ∀ x ∈ t, 0 ≤ x ∧ x < (nn : Int) := fun t ht => by
  have h1 := h.fp.q.1 t ht
  have h2 := tB_len h1.1
  refine ⟨by omega, h2.2, fun x hx => ⟨?_, h1.2 x hx⟩⟩
  have := ((tB_iff t).1 h1.1).1 x hx
  unfold vB at this
  have := of_decide_eq_true this
  omega
set_option maxRecDepth 100000 in
set_option maxHeartbeats 4000000 in
theorem groundOf_yes (nn : Nat) (ls : List Ld) (n : Nat) (a : Option Addr) (c : Nat) (hn : n ≤ 1048576) (hW : WOk (nn : Int) ls) (ts : List (List Int)) (hts : ftK (fE ls 0) nn nn = some ts) (w : World) (h : Ls w w.heap.size a n ls) :
    Calls Tryz.prog 74 #[.agg #[.int .i64 (nn : Int), .slice a n c]] w fun e w' => ∃ a' m c', e = .returned (.agg #[.int .i64 (nn : Int), .slice a' m c']) ∧ Ts w' w'.heap.size a' m ts ∧ Below w.heap.size w w' := by
  have HO := iWebOk_any (nn : Int) ls n a c hn _ (h.up (wf2_good w (nn : Int) a n c))
  rw [wB_yes hW] at HO
  have HO := hideIt HO
  have HF : Hid (∀ u, Good (wf2 w (nn : Int) a n c) u → Calls Tryz.prog 32 #[.agg #[.int .i64 (nn : Int), .slice a n c], .int .i64 0] u (FAn9 u (nn : Int) (some ts))) := fun u hu => iForestAt_yes nn ls 0 n a c hW.1 (fun x hx => (hW.2.1 x hx).1) hW.bridge (by omega) ts hts u ((h.up (wf2_good w (nn : Int) a n c)).up hu)
  clear h hW hts
  go_enter Tryz.func74, Tryz.ntmps74
  go_wp2_with (go_at_call 19; refine HO.out.mono ?_; rintro e w1 ⟨rfl, hb1⟩; refine Hid.out ?_)
  refine (show ∀ {p : Prop}, p → Hid p from fun h => h) ?_
  have G1 : Good (wf2 w (nn : Int) a n c) w1 := hb1
  rw [wf2_size] at hb1
  obtain ⟨⟨cw0, cw1⟩, _⟩ := wf2_cells hb1
  have z1 := hb1.size
  rw [wf2_size] at z1
  have HF1 := hideIt (HF.out w1 G1)
  clear HO hb1 HF
  go_wp2_with (go_at_call 32; refine HF1.out.mono ?_; rintro e w2 ⟨a2, m2, c2, R2, rfl, hF2, hR2, hb2⟩; refine Hid.out ?_)
  refine (show ∀ {p : Prop}, p → Hid p from fun h => h) ?_
  simp only [Option.getD_some] at hR2
  have G2 := G1.up hb2
  have G2b : Below (w.heap.size + 2) (wf2 w (nn : Int) a n c) w2 := by have := G2; unfold Good at this; rwa [wf2_size] at this
  obtain ⟨_, bx⟩ := wf2_cells G2b
  have r0 := bx.cell0
  have r1 := bx.cell1
  have q0 := bx.frozen 0
  have q1 := bx.frozen 1
  have hlt := bx.lt
  have HG : Hid (Good w w2) := (wf2_good w (nn : Int) a n c).up G2
  have HTf : Hid (∀ v0 v1 o, Ts (((w2.setCell ⟨w.heap.size + 1, 0, none⟩ v0).setCell ⟨w.heap.size + 1, 1, none⟩ v1).alloc o) (((w2.setCell ⟨w.heap.size + 1, 0, none⟩ v0).setCell ⟨w.heap.size + 1, 1, none⟩ v1).alloc o).heap.size a2 m2 ts) := fun v0 v1 o => by
    have h1 := (hF2.setLow (x := w.heap.size + 1) (by omega) 0 v0).setLow (x := w.heap.size + 1) (by omega) 1 v1
    have h2 := h1.ts.up ((Below.refl _ _).alloc (Nat.le_refl _) o)
    rw [hR2] at h2
    exact h2
  have s2 := (bx.set2 (.int .i64 (nn : Int)) (.slice a2 m2 c2)).alloc (.cells #[.int .i64 (nn : Int), .slice a2 m2 c2] 57)
  have s0 := s2.cell0
  have s1 := s2.cell1
  clear hF2 hR2 G1 G2 G2b bx HF1 cw0 cw1 hb2 s2
  go_wp2
  refine bodyPost_ret (v := .agg #[.int .i64 (nn : Int), .slice a2 m2 c2]) (by simp [results, Tryz.results74, go_sem, s0, s1]) rfl ⟨a2, m2, c2, rfl, HTf.out _ _ _, ?_⟩
  exact (((HG.out.setCell (p := ⟨w.heap.size + 1, 0, none⟩) (by show _ ≤ w.heap.size + 1; omega) _).setCell (p := ⟨w.heap.size + 1, 1, none⟩) (by show _ ≤ w.heap.size + 1; omega) _)).alloc (by simp [World.setCell]; omega) _
set_option maxRecDepth 100000 in
set_option maxHeartbeats 4000000 in
theorem groundOf_no (N : Int) (ls : List Ld) (n : Nat) (a : Option Addr) (c : Nat) (hn : n ≤ 1048576) (hW : ¬ WOk N ls) (w : World) (h : Ls w w.heap.size a n ls) :
    Calls Tryz.prog 74 #[.agg #[.int .i64 N, .slice a n c]] w fun e w' => e = .returned (.agg #[.int .i64 0, .slice none 0 0]) ∧ Below w.heap.size w w' := by
  have HO := iWebOk_any N ls n a c hn _ (h.up (wf2_good w N a n c))
  rw [wB_no hW] at HO
  have HO := hideIt HO
  clear h hW
  go_enter Tryz.func74, Tryz.ntmps74
  go_wp2_with (go_at_call 19; refine HO.out.mono ?_; rintro e w1 ⟨rfl, hb1⟩; refine Hid.out ?_)
  refine (show ∀ {p : Prop}, p → Hid p from fun h => h) ?_
  have HG : Hid (Good w w1) := (wf2_good w N a n c).up hb1
  rw [wf2_size] at hb1
  obtain ⟨_, bx⟩ := wf2_cells hb1
  have r0 := bx.cell0
  have r1 := bx.cell1
  have q0 := bx.frozen 0
  have q1 := bx.frozen 1
  have s2 := bx.set2 (.int .i64 0) (.slice none 0 0)
  have s0 := s2.cell0
  have s1 := s2.cell1
  clear HO hb1 s2 bx
  go_wp2
  refine bodyPost_ret (v := .agg #[.int .i64 0, .slice none 0 0]) (by simp [results, Tryz.results74, go_sem, s0, s1]) rfl ⟨rfl, ?_⟩
  exact (HG.out.setCell (p := ⟨w.heap.size + 1, 0, none⟩) (by show _ ≤ w.heap.size + 1; omega) _).setCell (p := ⟨w.heap.size + 1, 1, none⟩) (by show _ ≤ w.heap.size + 1; omega) _
set_option maxRecDepth 100000 in
set_option maxHeartbeats 4000000 in
theorem iWebLabels_any (N : Int) (ls : List Ld) (n : Nat) (a : Option Addr) (c : Nat) (hn : n ≤ 1048576) (w : World) (h : Ls w w.heap.size a n ls) :
    Calls Tryz.prog 22 #[.agg #[.int .i64 N, .slice a n c]] w (IAns w (lbO N ls)) := by
  have hfa : Good w (wW w N a n c) := wW_good w N a n c
  by_cases hW : WOk N ls
  · obtain ⟨nn, rfl, hn1, hn12⟩ := gB_n hW.1
    obtain ⟨ts, hts, hall⟩ := hW.trees 0 (by omega)
    have hts : ftK (fE ls 0) nn nn = some ts := hts
    have HG := hideIt (groundOf_yes nn ls n a c hn hW ts hts _ (h.up hfa))
    have HR : Hid (∀ (a' : Option Addr) (m c' : Nat) (u : World), Ts u u.heap.size a' m ts → Calls Tryz.prog 84 #[.agg #[.int .i64 (nn : Int), .slice a' m c']] u fun e w' => ∃ g, e = .returned (.slice (some ⟨g, 0, none⟩) nn nn) ∧ w'.ownsRow u.heap.size 3 1 (.slice (some ⟨g, 0, none⟩) nn nn) nn (ic (labW ts nn)) ∧ Below u.heap.size u w') := fun a' m c' u hu => by
      refine (rootsOf_any nn ts m a' c' hn12 (by have := hu.1; have := hall.fp.2.2.1; omega) (ft_rng hall) hall.fp.q.2.1 u hu).mono fun e v ⟨g, L, h1, h2, h3, h4⟩ => ⟨g, h1, ?_, h4⟩
      rw [← labW_of hall (by have := h2.1; rw [ic_len] at this; omega) h3]
      exact h2
    have HL := hideIt (lbO_yes hW hts)
    clear h hW hts hall
    go_enter Tryz.func22, Tryz.ntmps22
    go_wp2_with (first | (go_at_call 74; refine HG.out.mono ?_; rintro e w1 ⟨a1, m1, c1, rfl, hT1, hb1⟩; have HR1 := HR.out a1 m1 c1 w1 hT1; clear hT1) | (go_at_call 84; refine HR1.mono ?_; rintro e w2 ⟨g2, rfl, ho2, hb2⟩))
    go_ret
    exact ⟨_, _, _, rfl, by rw [HL.out]; exact own_mono ho2 (by have := (hfa.up hb1).size; omega), (hfa.up hb1).up hb2⟩
  · have HG := hideIt (groundOf_no N ls n a c hn hW _ (h.up hfa))
    have HR : Hid (∀ (u : World), Calls Tryz.prog 84 #[.agg #[.int .i64 0, .slice none 0 0]] u fun e w' => ∃ g, e = .returned (.slice (some ⟨g, 0, none⟩) 0 0) ∧ w'.ownsRow u.heap.size 3 1 (.slice (some ⟨g, 0, none⟩) 0 0) 0 (ic []) ∧ Below u.heap.size u w') := fun u => by
      refine (rootsOf_any 0 [] 0 none 0 (by omega) (by omega) (by simp) List.Pairwise.nil u ⟨rfl, .inl rfl⟩).mono fun e v ⟨g, L, h1, h2, h3, h4⟩ => ⟨g, h1, ?_, h4⟩
      have : L = [] := by have := h2.1; rw [ic_len] at this; exact List.length_eq_zero_iff.1 (by omega)
      rw [← this]
      exact h2
    have HL := hideIt (lbO_no hW)
    clear h hW
    go_enter Tryz.func22, Tryz.ntmps22
    go_wp2_with (first | (go_at_call 74; refine HG.out.mono ?_; rintro e w1 ⟨rfl, hb1⟩) | (go_at_call 84; refine (HR.out _).mono ?_; rintro e w2 ⟨g2, rfl, ho2, hb2⟩))
    go_ret
    exact ⟨_, _, _, rfl, by rw [HL.out]; exact own_mono ho2 (by have := (hfa.up hb1).size; omega), (hfa.up hb1).up hb2⟩
set_option maxRecDepth 100000 in
set_option maxHeartbeats 4000000 in
theorem iWebTogether_any (N : Int) (ls : List Ld) (x y : Int) (n : Nat) (a : Option Addr) (c : Nat) (hn : n ≤ 1048576) (w : World) (h : Ls w w.heap.size a n ls) :
    Calls Tryz.prog 25 #[.agg #[.int .i64 N, .slice a n c], .int .i64 x, .int .i64 y] w fun e w' => e = .returned (.bool (tgB N ls x y)) ∧ Below w.heap.size w w' := by
  have hfa : Good w (wW w N a n c) := wW_good w N a n c
  by_cases hW : WOk N ls
  · obtain ⟨nn, rfl, hn1, hn12⟩ := gB_n hW.1
    obtain ⟨ts, hts, hall⟩ := hW.trees 0 (by omega)
    have hts : ftK (fE ls 0) nn nn = some ts := hts
    have HG := hideIt (groundOf_yes nn ls n a c hn hW ts hts _ (h.up hfa))
    have HR : Hid (∀ (v : Int) (a' : Option Addr) (m c' : Nat) (u : World), Ts u u.heap.size a' m ts → Calls Tryz.prog 75 #[.agg #[.int .i64 (nn : Int), .slice a' m c'], .int .i64 v] u fun e w' => e = .returned (.int .i64 (trI ts v)) ∧ Below u.heap.size u w') := fun v a' m c' u hu => by
      have := iTreeOf_any (nn : Int) ts v m a' c' (by have := hu.1; have := ft_lnS hall; omega) u hu
      rw [treeO_yes hall.fp] at this
      exact this
    have hvert : ∀ v : Int, 0 ≤ trI ts v ↔ 0 ≤ v ∧ v < (nn : Int) := fun v => by
      rw [← ft_in]
      constructor
      · intro hv
        obtain ⟨t, ht, hvt⟩ := List.mem_flatten.1 hv
        exact (ft_rng hall t ht).2.2 v hvt
      · rintro ⟨h0, h1⟩
        obtain ⟨t, ht, hvt⟩ := hall.cov v h0 h1
        exact List.mem_flatten.2 ⟨t, ht, hvt⟩
    have HB : Hid (∀ b : Bool, (b = true ↔ 0 ≤ trI ts x ∧ trI ts x = trI ts y) → b = tgB (nn : Int) ls x y) := fun b hb => tgB_is (by
      rw [hb, gndT_is hts]
      constructor
      · rintro ⟨h1, h2⟩
        exact ⟨hW, (hvert x).1 h1, (hvert y).1 (by omega), h2⟩
      · rintro ⟨_, h1, _, h2⟩
        exact ⟨(hvert x).2 h1, h2⟩)
    have hm1 : ∀ v, -1 ≤ trI ts v := fun v => by
      rcases trI_cases ts v with ⟨k, t, _, _, e⟩ | ⟨_, e⟩ <;> omega
    obtain ⟨p, hp⟩ : ∃ p, trI ts x = p := ⟨_, rfl⟩
    obtain ⟨q, hq⟩ : ∃ q, trI ts y = q := ⟨_, rfl⟩
    have HRx : Hid (∀ (a' : Option Addr) (m c' : Nat) (u : World), Ts u u.heap.size a' m ts → Calls Tryz.prog 75 #[.agg #[.int .i64 (nn : Int), .slice a' m c'], .int .i64 x] u fun e w' => e = .returned (.int .i64 p) ∧ Below u.heap.size u w') := by rw [← hp]; exact HR.out x
    have HRy : Hid (∀ (a' : Option Addr) (m c' : Nat) (u : World), Ts u u.heap.size a' m ts → Calls Tryz.prog 75 #[.agg #[.int .i64 (nn : Int), .slice a' m c'], .int .i64 y] u fun e w' => e = .returned (.int .i64 q) ∧ Below u.heap.size u w') := by rw [← hq]; exact HR.out y
    rw [hp, hq] at HB
    clear h hW hts hall hvert hm1 HR hp hq
    go_enter Tryz.func25, Tryz.ntmps25
    go_wp2_with (go_at_call 74; refine HG.out.mono ?_; rintro e w1 ⟨a1, m1, c1, rfl, hT1, hb1⟩; refine Hid.out ?_)
    refine (show ∀ {p : Prop}, p → Hid p from fun h => h) ?_
    have hba : Below w1.heap.size w1 (w1.alloc (.cells #[.int .i64 (nn : Int), .slice a1 m1 c1] 57)) := (Below.refl _ _).alloc (Nat.le_refl _) _
    have HX := hideIt (HRx.out a1 m1 c1 _ (hT1.up hba))
    have HT1 := hideIt (hT1.up hba)
    have HG1 := hideIt ((hfa.up hb1).up hba)
    clear hT1 hb1 hba HRx HG
    go_wp2_with (go_at_call 75; refine HX.out.mono ?_; rintro e w2 ⟨rfl, hb2⟩; refine Hid.out ?_)
    refine (show ∀ {p : Prop}, p → Hid p from fun h => h) ?_
    have c0 : w2.cell? ⟨w1.heap.size, 0, none⟩ = some (.int .i64 (nn : Int)) := by rw [hb2.cell (by simp)]; simp
    have c1' : w2.cell? ⟨w1.heap.size, 1, none⟩ = some (.slice a1 m1 c1) := by rw [hb2.cell (by simp)]; simp
    have HY := hideIt (HRy.out a1 m1 c1 w2 (HT1.out.up hb2))
    have HG2 := hideIt (HG1.out.up hb2)
    clear HX HT1 HG1 HRy hb2
    by_cases h0 : 0 ≤ p
    · have d0 : decide (0 ≤ p) = true := decide_eq_true h0
      by_cases hpq : p = q
      · have HBt := hideIt (HB.out true ⟨fun _ => ⟨h0, hpq⟩, fun _ => rfl⟩)
        have d1 : (p == q) = true := by simpa using hpq
        have HPQ := hideIt hpq
        clear HB hpq
        go_wp2_with (go_at_call 75; refine HY.out.mono ?_; rintro e w3 ⟨rfl, hb3⟩)
        go_ret
        exact ⟨by rw [← HBt.out]; rfl, HG2.out.up hb3⟩
      · have HBt := hideIt (HB.out false ⟨fun h => (by cases h), fun h => absurd h.2 hpq⟩)
        have d1 : (p == q) = false := by simpa using hpq
        clear HB hpq
        go_wp2_with (go_at_call 75; refine HY.out.mono ?_; rintro e w3 ⟨rfl, hb3⟩)
        go_ret
        exact ⟨by rw [← HBt.out]; rfl, HG2.out.up hb3⟩
    · have d0 : decide (0 ≤ p) = false := decide_eq_false h0
      have HBt := hideIt (HB.out false ⟨fun h => (by cases h), fun h => absurd h.1 h0⟩)
      clear HB
      go_wp2
      go_ret
      exact ⟨by rw [← HBt.out]; rfl, HG2.out⟩
  · have HG := hideIt (groundOf_no N ls n a c hn hW _ (h.up hfa))
    have HR : Hid (∀ (u : World), Calls Tryz.prog 75 #[.agg #[.int .i64 0, .slice none 0 0], .int .i64 x] u fun e w' => e = .returned (.int .i64 (-1)) ∧ Below u.heap.size u w') := fun u => by
      have := iTreeOf_any 0 [] x 0 none 0 (by simp [lnS]) u ⟨rfl, .inl rfl⟩
      rw [treeO_no (fun h => by have := h.1; omega)] at this
      exact this
    have HBt := hideIt (tgB_is (N := N) (ls := ls) (x := x) (y := y) (b := false) ⟨fun h => (by cases h), fun h => absurd h.1 hW⟩)
    clear h hW
    go_enter Tryz.func25, Tryz.ntmps25
    go_wp2_with (first | (go_at_call 74; refine HG.out.mono ?_; rintro e w1 ⟨rfl, hb1⟩) | (go_at_call 75; refine (HR.out _).mono ?_; rintro e w2 ⟨rfl, hb2⟩))
    go_ret
    exact ⟨by rw [← HBt.out]; rfl, ((hfa.up hb1).alloc _).up hb2⟩
end Go.Proofs.YtpfkfbmghddepaaGreat
