/- The program's TourOk. -/
import Derived.Test.YtcpffonenhhfoabSTourOk
namespace Go.Proofs.Ytcpffonenhhfoab
open Go.RowKit

theorem openBad {t : List Int} (h : openB t = false) : tB t = false := by rw [tB_eq, h, Bool.and_false]

/-- the path in the making and the table of what was seen -/
structure PSt (wb : World) (g n c : Nat) (ls : List Int) (gs : Nat) (ss : List Int) (u : World) : Prop where
  own : u.ownsRow wb.heap.size 3 1 (.slice (some ⟨g, 0, none⟩) n c) n (ic ls)
  arr : ∀ j : Nat, j < 12 → u.cell? ⟨gs, j, none⟩ = some (.bool (decide ((j : Int) ∈ ss)))
  frz : ∀ j : Nat, u.frozen? ⟨gs, j, none⟩ = false
  ne : g ≠ gs
  lo : wb.heap.size ≤ gs
  hi : gs < u.heap.size
  bel : Below wb.heap.size wb u

theorem PSt.size {wb : World} {g n c gs : Nat} {ls ss : List Int} {u : World} (h : PSt wb g n c ls gs ss u) : wb.heap.size ≤ u.heap.size := h.bel.size
theorem PSt.len {wb : World} {g n c gs : Nat} {ls ss : List Int} {u : World} (h : PSt wb g n c ls gs ss u) : ls.length = n := by have := h.own.1; rw [ic_len] at this; omega
theorem PSt.cut {wb : World} {g n c gs m : Nat} {ls ss : List Int} {u : World} (h : PSt wb g n c ls gs ss u) (hm : m ≤ n) : PSt wb g m c (ls.take m) gs ss u :=
  ⟨by have := own_cut h.own hm; rw [ic, ← List.map_take] at this; exact this, h.arr, h.frz, h.ne, h.lo, h.hi, h.bel⟩
theorem PSt.cell {wb : World} {g n c gs : Nat} {ls ss : List Int} {u : World} (h : PSt wb g n c ls gs ss u) {j : Nat} {x : Int} (hx : ls[j]? = some x) : u.cell? ⟨g, j, none⟩ = some (.int .i64 x) := by
  have hj := (List.getElem?_eq_some_iff.1 hx).1
  have := h.len
  rw [h.own.cellAt j (by omega)]
  exact ic_at hx
theorem PSt.cap {wb : World} {g n c gs : Nat} {ls ss : List Int} {u : World} (h : PSt wb g n c ls gs ss u) : n ≤ c := by
  rcases h.own.2 with ⟨hv, _⟩ | ⟨g2, cap, cur, hv, hb, hg, hnc, _⟩
  · simp at hv
  · simp only [Value.slice.injEq, Option.some.injEq, Addr.mk.injEq, and_true, true_and] at hv
    obtain ⟨rfl, rfl⟩ := hv
    exact hnc
theorem PSt.app {wb : World} {g n c gs : Nat} {ls ss : List Int} {u : World} (h : PSt wb g n c ls gs ss u) {x : Int} {o : Obj} {G cap : Nat} {u' : World}
    (ho : u'.ownsRow wb.heap.size 3 1 (.slice (some ⟨G, 0, none⟩) (n + 1) cap) (n + 1) (ic ls ++ [.int .i64 x])) (hg : (u.alloc o).grownBy u' (some g)) (hG : (some g : Option Nat) = some G ∨ G = u.heap.size + 1) :
    PSt wb G (n + 1) cap (ls ++ [x]) gs ss u' := by
  have hhi := h.hi
  have hb : u'.heap[gs]? = u.heap[gs]? := by
    rw [hg.block gs (by simp; omega) (by simp; exact fun e => h.ne e.symm)]
    exact Below.heap_alloc u o gs hhi
  refine ⟨by rw [ic_snoc]; exact ho, fun j hj => ?_, fun j => ?_, ?_, h.lo, by have := hg.size; simp at this; omega, ?_⟩
  · rw [World.cell?_of_block (w := u) (a := ⟨gs, j, none⟩) hb]; exact h.arr j hj
  · rw [World.frozen?_of_block (w := u) (a := ⟨gs, j, none⟩) hb]; exact h.frz j
  · rcases hG with hG | hG
    · simp at hG; rw [← hG]; exact h.ne
    · omega
  · exact (h.bel.alloc h.size _).grown hg (by have := h.size; simp; omega) (fun j hj => by simp at hj; subst hj; exact (h.own.lt g rfl).1)
theorem PSt.put {wb : World} {g n c gs : Nat} {ls ss : List Int} {u : World} (h : PSt wb g n c ls gs ss u) (x : Nat) (hx : x < 12) : PSt wb g n c ls gs ((x : Int) :: ss) (u.setCell ⟨gs, x, none⟩ (.bool true)) := by
  refine ⟨own_setOther h.own gs x _ h.ne, fun j hj => ?_, fun j => ?_, h.ne, h.lo, by simp [World.setCell]; exact h.hi, h.bel.setCell (p := ⟨gs, x, none⟩) h.lo _⟩
  · by_cases hjx : j = x
    · subst hjx
      rw [World.cell?_setCell_same u ⟨gs, j, none⟩ _ (h.arr j hj)]
      simp
    · rw [World.cell?_setCell_other]
      · rw [h.arr j hj]
        have : ¬ ((j : Int) = (x : Int)) := by omega
        simp [this]
      · exact fun e => hjx (by simpa using e.symm)
  · rw [World.frozen?_setCell]; exact h.frz j
theorem PSt.start (wb : World) (o : Array Value) (ho : o = #[.bool false, .bool false, .bool false, .bool false, .bool false, .bool false, .bool false, .bool false, .bool false, .bool false, .bool false, .bool false]) :
    PSt wb wb.heap.size 0 0 [] (wb.heap.size + 1) [] ((wb.alloc (.cells #[] 3)).alloc (.cells o 83)) := by
  have hs : (wb.alloc (.cells #[] 3)).heap.size = wb.heap.size + 1 := by simp
  have hb : ((wb.alloc (.cells #[] 3)).alloc (.cells o 83)).heap[wb.heap.size + 1]? = some (.cells o 83 (0, 0)) := by
    have := heap_alloc_new (wb.alloc (.cells #[] 3)) (.cells o 83)
    rw [hs] at this
    exact this
  have h0 := World.ownsRow_lit (base := wb.heap.size) (e := 3) (size := 1) wb #[] 0 (Nat.le_refl _) (by unfold maxLen; omega) (by simp)
  refine ⟨by simpa [ic] using h0.alloc _, fun j hj => ?_, fun j => frozen_of_row _ _ j _ _ hb, by omega, by omega, by simp, ((Below.refl _ _).alloc (Nat.le_refl _) _).alloc (by simp) _⟩
  rw [cell_of_row _ _ j _ _ _ hb, ho]
  rcases (show j = 0 ∨ j = 1 ∨ j = 2 ∨ j = 3 ∨ j = 4 ∨ j = 5 ∨ j = 6 ∨ j = 7 ∨ j = 8 ∨ j = 9 ∨ j = 10 ∨ j = 11 by omega) with h | h | h | h | h | h | h | h | h | h | h | h <;> subst h <;> rfl

theorem beyond_no (f : Int) (h : vB f = true) (w : World) : Calls Try.prog 64 #[.int .i64 f] w fun e w' => e = .returned (.bool false) ∧ w' = w := by
  simp [vB] at h
  have d1 : decide (f < 0) = false := decide_eq_false (by omega)
  have d2 : decide (12 ≤ f) = false := decide_eq_false (by omega)
  go_enter Try.func64, Try.ntmps64
  go_wp2
  go_ret
  exact ⟨rfl, rfl⟩
theorem beyond_yes (f : Int) (h : vB f = false) (w : World) : Calls Try.prog 64 #[.int .i64 f] w fun e w' => e = .returned (.bool true) ∧ w' = w := by
  simp [vB] at h
  by_cases h0 : f < 0
  · have d1 : decide (f < 0) = true := decide_eq_true h0
    go_enter Try.func64, Try.ntmps64
    go_wp2
    go_ret
    exact ⟨rfl, rfl⟩
  · have d1 : decide (f < 0) = false := decide_eq_false h0
    have d2 : decide (12 ≤ f) = true := decide_eq_true (by omega)
    go_enter Try.func64, Try.ntmps64
    go_wp2
    go_ret
    exact ⟨rfl, rfl⟩

set_option maxRecDepth 100000 in
set_option maxHeartbeats 4000000 in
theorem iTourOk_any (t : List Int) (n : Nat) (a : Option Addr) (c : Nat) (hn : n ≤ 3000000) (w : World) (h : Is w w.heap.size a n t) :
    Calls Try.prog 53 #[.slice a n c] w fun e w' => e = .returned (.bool (tB t)) ∧ Below w.heap.size w w' := by
  obtain ⟨i0, hi, hz0, hz1, hz2⟩ := info_parts info3i
  obtain ⟨hlen, hrow⟩ := h
  have HR := hideIt hrow
  clear hrow
  have hst0 := PSt.start w _ rfl
  go_enter Try.func53, Try.ntmps53
  go_wp2
  go_loopw [3, 12] (fun r i wr => ∃ (k n1 g1 c1 : Nat) (wy sn : List Int), k ≤ n ∧ i = .int .i64 (k : Int) ∧ r = .slice (some ⟨g1, 0, none⟩) n1 c1 ∧ n1 ≤ k ∧ Hid (trun [] [] (t.take k) = some (wy, sn)) ∧ Hid (∀ (j : Nat) (f : Int), j < k → t[j]? = some f → vB f = true) ∧ PSt w g1 n1 c1 wy.reverse (w.heap.size + 1) sn wr) (fun _ i _ => n - (intOf i).toNat)
  case atStart => exact ⟨0, 0, _, 0, [], [], by omega, rfl, rfl, by omega, by show _ = _; rfl, fun j _ hj => by omega, hst0⟩
  case round =>
    obtain ⟨k, n1, g1, c1, wy, sn, hk, rfl, rfl, hn1, HT, HV, hst⟩ := hrel
    clear hst0
    by_cases hlt : k < n
    · rcases HR.out with hz | ⟨b, off, rfl, hbl, hc⟩
      · omega
      · obtain ⟨f, hf⟩ : ∃ f, t[k]? = some f := ⟨t[k]'(by omega), List.getElem?_eq_getElem (by omega)⟩
        have e0 : wr.cell? ⟨b, off + k, none⟩ = some (.int .i64 f) := by rw [hst.bel.cell hbl]; exact hc k f hf
        have b1 : (0 : Int) ≤ (k : Int) := by omega
        have b2 : (k : Int) < (n : Int) := by omega
        cases hv : vB f with
        | false =>
          have HB := hideIt (tB_bad hf hv)
          have HW := hideIt hst.bel
          have HY := hideIt (beyond_yes f hv wr)
          clear hc hf HT HV hst hv
          go_wp2_with (go_at_call 64; refine HY.out.mono ?_; rintro e w1 ⟨rfl, hw⟩; have hw' := hw.symm; subst hw'; clear hw)
          go_ret
          exact ⟨by rw [HB.out]; rfl, HW.out⟩
        | true =>
          have hv' := hv
          simp [vB] at hv'
          obtain ⟨vn, rfl⟩ : ∃ vn : Nat, f = (vn : Int) := ⟨f.toNat, by omega⟩
          have hvn : vn < 12 := by omega
          have HV2 : Hid (∀ (j : Nat) (x : Int), j < k + 1 → t[j]? = some x → vB x = true) := fun j x hj hx => by
            by_cases h7 : j = k
            · rw [h7, hf] at hx; simp at hx; rw [← hx]; exact hv
            · exact HV.out j x (by omega) hx
          have HS := hideIt (show trun [] [] (t.take (k + 1)) = tstep wy sn (vn : Int) by rw [take_snocF t k _ hf, trun_snoc, HT.out]; rfl)
          have d1 : decide ((vn : Int) < 0) = false := decide_eq_false (by omega)
          have d2 : decide (12 ≤ (vn : Int)) = false := decide_eq_false (by omega)
          have v1 : (0 : Int) ≤ (vn : Int) := by omega
          have v2 : (vn : Int) < 12 := by omega
          have HY := hideIt (beyond_no (vn : Int) hv wr)
          clear hv hv' HV hc
          go_wp2_with (go_at_call 64; refine HY.out.mono ?_; rintro e w1 ⟨rfl, hw⟩; have hw' := hw.symm; subst hw'; clear hw; refine Hid.out ?_)
          refine (show ∀ {p : Prop}, p → Hid p from fun h => h) ?_
          clear HY
          by_cases hw1 : wy.length ≤ 1
          · have hl1 := hst.len
            rw [List.length_reverse] at hl1
            have d0 : decide (0 < (n1 : Int) - 1) = false := decide_eq_false (by omega)
            obtain ⟨lw, hlw⟩ : ∃ l, l = wy.reverse := ⟨_, rfl⟩
            rw [← hlw] at hst
            have HLW := hideIt hlw
            clear hlw
            have ha := hst.arr vn (by omega)
            by_cases hs : (vn : Int) ∈ sn
            · have HS2 := hideIt (openBad (trun_none (HS.out.trans (tstep_bad1 hw1 hs))))
              rw [decide_eq_true hs] at ha
              have HB := hideIt hst.bel
              clear HS HT hf hst hs
              go_wp2
              go_ret
              exact ⟨by rw [HS2.out]; rfl, HB.out⟩
            · have HS2 := hideIt (HS.out.trans (tstep_down1 hw1 hs))
              rw [decide_eq_false hs] at ha
              have z1 := hst.size
              have HST := hideIt hst
              have HA := hideIt (fun g3 c3 u' (ho : u'.ownsRow w.heap.size 3 1 (.slice (some ⟨g3, 0, none⟩) (n1 + 1) c3) (n1 + 1) (ic lw ++ [.int .i64 (vn : Int)])) (hg : (wr.alloc (.cells #[.int .i64 (vn : Int)] 3)).grownBy u' (some g1)) hG => hst.app ho hg hG)
              clear HS HT hf hst hs
              go_wp2_with (at_builtin; refine wpList_append_lies _ rfl _ _ 45 rfl w.heap.size 3 i0 _ 1 8 Try.underlying45 hi hz0 hz1 hz2 rfl (by decide) _ _ _ rfl (HST.out.own.alloc _) ⟨wr.heap.size, 0, none⟩ 1 1 [.int .i64 (vn : Int)] rfl rfl (newsI wr (vn : Int)) (by intro u hu; simp at hu; subst hu; rfl) (by omega) (by unfold maxLen; omega) (by omega) (by simp; omega) (wr.heap.size + 1) (by simp) ?_)
              intro g3 c3 w3 hown3 hg3 hG3 _
              have S3 := HA.out g3 c3 w3 hown3 hg3 hG3
              clear hown3 hg3 hG3 HST HA z1 ha
              have q0 := S3.arr vn (by omega)
              have q1 := S3.frz vn
              have HS4 := hideIt (S3.put vn (by omega))
              clear S3
              go_wp2
              exact ⟨⟨k + 1, n1 + 1, g3, c3, (vn : Int) :: wy, (vn : Int) :: sn, by omega, by go_num, rfl, by omega, HS2, HV2, by rw [List.reverse_cons, ← HLW.out]; exact HS4.out⟩, by simp [intOf]; omega⟩
          · match wy, hst, HS, hw1 with
            | [], _, _, hw1 => exact absurd (by simp) hw1
            | [_], _, _, hw1 => exact absurd (by simp) hw1
            | c0 :: p :: q, hst, HS, _ =>
              have hl1 := hst.len
              simp only [List.length_reverse, List.length_cons] at hl1
              have m1 : wr.cell? ⟨g1, n1 - 2, none⟩ = some (.int .i64 p) := hst.cell (by rw [show n1 - 2 = q.length by omega]; exact rev_at2 q c0 p)
              have e1 : (((n1 : Int) - 1 - 1).toNat) = n1 - 2 := by omega
              have d0 : decide (0 < (n1 : Int) - 1) = true := decide_eq_true (by omega)
              have b3 : (0 : Int) ≤ (n1 : Int) - 1 - 1 := by omega
              have b4 : (n1 : Int) - 1 - 1 < (n1 : Int) := by omega
              by_cases hp : (vn : Int) = p
              · have d3 : (p == (vn : Int)) = true := by simpa using hp.symm
                have hcap := hst.cap
                have b5 : (0 : Int) ≤ (n1 : Int) - 1 := by omega
                have b6 : (n1 : Int) - 1 ≤ (c1 : Int) := by omega
                have e2 : (((n1 : Int) - 1).toNat) = n1 - 1 := by omega
                have HS2 := hideIt (HS.out.trans (tstep_up hp))
                have HST := hideIt (hst.cut (m := n1 - 1) (by omega))
                rw [show (c0 :: p :: q).reverse.take (n1 - 1) = (p :: q).reverse by rw [show n1 - 1 = q.length + 1 by omega]; exact rev_take1 q c0 p] at HST
                clear HS HT hf hst hp
                go_wp2
                exact ⟨⟨k + 1, n1 - 1, g1, c1, p :: q, sn, by omega, by go_num, rfl, by omega, HS2, HV2, HST.out⟩, by simp [intOf]; omega⟩
              · have d3 : (p == (vn : Int)) = false := by simpa using Ne.symm hp
                obtain ⟨lw, hlw⟩ : ∃ l, l = (c0 :: p :: q).reverse := ⟨_, rfl⟩
                rw [← hlw] at hst
                have HLW := hideIt hlw
                clear hlw
                have ha := hst.arr vn (by omega)
                by_cases hs : (vn : Int) ∈ sn
                · have HS2 := hideIt (openBad (trun_none (HS.out.trans (tstep_bad2 hp hs))))
                  rw [decide_eq_true hs] at ha
                  have HB := hideIt hst.bel
                  clear HS HT hf hst hs
                  go_wp2
                  go_ret
                  exact ⟨by rw [HS2.out]; rfl, HB.out⟩
                · have HS2 := hideIt (HS.out.trans (tstep_down2 hp hs))
                  rw [decide_eq_false hs] at ha
                  have z1 := hst.size
                  have HST := hideIt hst
                  have HA := hideIt (fun g3 c3 u' (ho : u'.ownsRow w.heap.size 3 1 (.slice (some ⟨g3, 0, none⟩) (n1 + 1) c3) (n1 + 1) (ic lw ++ [.int .i64 (vn : Int)])) (hg : (wr.alloc (.cells #[.int .i64 (vn : Int)] 3)).grownBy u' (some g1)) hG => hst.app ho hg hG)
                  clear HS HT hf hst hs
                  go_wp2_with (at_builtin; refine wpList_append_lies _ rfl _ _ 45 rfl w.heap.size 3 i0 _ 1 8 Try.underlying45 hi hz0 hz1 hz2 rfl (by decide) _ _ _ rfl (HST.out.own.alloc _) ⟨wr.heap.size, 0, none⟩ 1 1 [.int .i64 (vn : Int)] rfl rfl (newsI wr (vn : Int)) (by intro u hu; simp at hu; subst hu; rfl) (by omega) (by unfold maxLen; omega) (by omega) (by simp; omega) (wr.heap.size + 1) (by simp) ?_)
                  intro g3 c3 w3 hown3 hg3 hG3 _
                  have S3 := HA.out g3 c3 w3 hown3 hg3 hG3
                  clear hown3 hg3 hG3 HST HA z1 ha
                  have q0 := S3.arr vn (by omega)
                  have q1 := S3.frz vn
                  have HS4 := hideIt (S3.put vn (by omega))
                  clear S3
                  go_wp2
                  exact ⟨⟨k + 1, n1 + 1, g3, c3, (vn : Int) :: (c0 :: p :: q), (vn : Int) :: sn, by omega, by go_num, rfl, by omega, HS2, HV2, by rw [List.reverse_cons, ← HLW.out]; exact HS4.out⟩, by simp [intOf]; omega⟩
    · obtain rfl : k = n := by omega
      have HO : Hid (tB t = ((n1 : Int) == 1)) := by
        show _ = _
        have h1 := HT.out
        rw [List.take_of_length_le (by omega)] at h1
        have h2 := hst.len
        simp only [List.length_reverse] at h2
        rw [tB_eq, all_of_at (fun j f hf => HV.out j f (by have := (List.getElem?_eq_some_iff.1 hf).1; omega) hf), Bool.true_and]
        unfold openB
        rw [h1]
        show (wy.length == 1) = _
        rw [h2, Bool.eq_iff_iff]
        simp
        omega
      have HB := hideIt hst.bel
      clear HT HV hst
      go_wp2
      go_ret
      exact ⟨by rw [HO.out]; rfl, HB.out⟩
end Go.Proofs.Ytcpffonenhhfoab
