/- The specification's TourOk: the whole of it. The program's TourOk. The program's laid: pieces of tours, one behind the other, in memory of their own. A tour from another vertex on, as a list; answers that are a list of ints and a word. Places in a list of ints: the last one of a number, the first step from one number to another. A tour that is split at an edge, as lists. -/
import Derived.Test.YtpfkfbmghddepaaGreatKSTour
import Derived.Test.YtpfkfbmghddepaaGreatKLd9
import Derived.Laws.CopyOwn
namespace Go.Proofs.YtpfkfbmghddepaaGreat
open Go.RowKit

theorem tB_bad {t : List Int} {k : Nat} {f : Int} (hf : t[k]? = some f) (hv : vB f = false) : tB t = false := by
  cases h : tB t with
  | false => rfl
  | true =>
    have := ((tB_iff t).1 h).1 f (List.mem_of_getElem? hf)
    rw [hv] at this
    exact this.symm
theorem all_of_at {t : List Int} (h : ∀ (k : Nat) (f : Int), t[k]? = some f → vB f = true) : t.all vB = true := by
  rw [List.all_eq_true]
  intro x hx
  obtain ⟨k, hk⟩ := List.mem_iff_getElem?.1 hx
  exact h k x hk

set_option maxRecDepth 100000 in
set_option maxHeartbeats 4000000 in
theorem sTourOk_any (t : List Int) (n : Nat) (a : Option Addr) (c : Nat) (hn : n ≤ 3000000) (w : World) (h : Is w w.heap.size a n t) :
    Calls Tryz.prog 92 #[.slice a n c] w fun e w' => e = .returned (.bool (tB t)) ∧ Below w.heap.size w w' := by
  have HI := hideIt l01In_any
  by_cases hr : 1 ≤ n ∧ n ≤ 23
  · have r1 : decide (1 ≤ (n : Int) ∧ (n : Int) ≤ 23) = true := decide_eq_true (by omega)
    have HOp := hideIt (l06Open_any t n a c (by omega) (by omega) w h)
    obtain ⟨hlen, hrow⟩ := h
    have HR := hideIt hrow
    clear hrow
    go_enter Tryz.func92, Tryz.ntmps92
    go_wp2_with (go_at_call 80; refine (HI.out _ _ _ _).mono ?_; rintro e w1 ⟨rfl, hw⟩; have hw' := hw.symm; subst hw'; clear hw)
    go_loopw [3] (fun i wr => ∃ (k : Nat), k ≤ n ∧ i = .int .i64 (k : Int) ∧ Hid (∀ (j : Nat) (f : Int), j < k → t[j]? = some f → vB f = true) ∧ wr = w) (fun i _ => n - (intOf i).toNat)
    case atStart => exact ⟨0, by omega, rfl, fun j _ hj => by omega, rfl⟩
    case round =>
      obtain ⟨k, hk, rfl, HF, hw⟩ := hrel
      have hw' := hw.symm
      subst hw'
      clear hw
      by_cases hlt : k < n
      · rcases HR.out with hz | ⟨b, off, rfl, hbl, hc⟩
        · omega
        · obtain ⟨f, hf⟩ : ∃ f, t[k]? = some f := ⟨t[k]'(by omega), List.getElem?_eq_getElem (by omega)⟩
          have e0 := hc k f hf
          have b1 : (0 : Int) ≤ (k : Int) := by omega
          have b2 : (k : Int) < (n : Int) := by omega
          cases hv : vB f with
          | true =>
            have HF2 : Hid (∀ (j : Nat) (x : Int), j < k + 1 → t[j]? = some x → vB x = true) := fun j x hj hx => by
              by_cases h7 : j = k
              · rw [h7, hf] at hx; simp at hx; rw [← hx]; exact hv
              · exact HF.out j x (by omega) hx
            have r2 : decide (0 ≤ f ∧ f ≤ 11) = true := decide_eq_true (by simp [vB] at hv; omega)
            clear hc hf hv HF HOp
            go_wp2_with (go_at_call 80; refine (HI.out _ _ _ _).mono ?_; rintro e w1 ⟨rfl, hw⟩; have hw' := hw.symm; subst hw'; clear hw)
            exact ⟨⟨k + 1, by omega, by go_num, HF2, by first | trivial | rfl⟩, by simp [intOf]; omega⟩
          | false =>
            have HB := hideIt (tB_bad hf hv)
            have r2 : decide (0 ≤ f ∧ f ≤ 11) = false := decide_eq_false (by simp [vB] at hv; omega)
            clear hc hf hv HF HOp
            go_wp2_with (go_at_call 80; refine (HI.out _ _ _ _).mono ?_; rintro e w1 ⟨rfl, hw⟩; have hw' := hw.symm; subst hw'; clear hw)
            go_ret
            exact ⟨by rw [HB.out]; rfl, Below.refl _ _⟩
      · obtain rfl : k = n := by omega
        have HB : Hid (tB t = openB t) := by
          show _ = _
          rw [tB_eq, all_of_at (fun j f hf => HF.out j f (by have := (List.getElem?_eq_some_iff.1 hf).1; omega) hf), Bool.true_and]
        clear HF HR
        go_wp2_with (go_at_call 152; refine HOp.out.mono ?_; rintro e w1 ⟨rfl, hb1⟩)
        go_ret
        exact ⟨by rw [HB.out]; rfl, hb1⟩
  · have r1 : decide (1 ≤ (n : Int) ∧ (n : Int) ≤ 23) = false := decide_eq_false (by omega)
    have HB : Hid (tB t = false) := by
      show _ = _
      cases hT : tB t with
      | false => rfl
      | true => have := tB_len hT; have := h.1; omega
    clear h
    go_enter Tryz.func92, Tryz.ntmps92
    go_wp2_with (go_at_call 80; refine (HI.out _ _ _ _).mono ?_; rintro e w1 ⟨rfl, hw⟩; have hw' := hw.symm; subst hw'; clear hw)
    go_ret
    exact ⟨by rw [HB.out]; rfl, Below.refl _ _⟩
end Go.Proofs.YtpfkfbmghddepaaGreat
namespace Go.Proofs.YtpfkfbmghddepaaGreat
open Go.RowKit

theorem openBad {t : List Int} (h : openB t = false) : tB t = false := by rw [tB_eq, h, Bool.and_false]

/-- the path in the making and the table of what was seen -/
structure PSt (wb : World) (g n c : Nat) (ls : List Int) (gs : Nat) (ss : List Int) (u : World) : Prop where
  own : u.ownsRow wb.heap.size 3 1 (.slice (some ⟨g, 0, none⟩) n c) n (ic ls)
  arr : ∀ j : Nat, j < 12 → u.cell? ⟨gs, j, none⟩ = some (.bool (decide ((j : Int) ∈ ss)))
  frz : ∀ j : Nat, u.frozen? ⟨gs, j, none⟩ = false
  ne : g ≠ gs
  lo : wb.heap.size ≤ gs
  hi : gs < u.heap.size
  bel : Below wb.heap.size wb u

theorem PSt.size {wb : World} {g n c gs : Nat} {ls ss : List Int} {u : World} (h : PSt wb g n c ls gs ss u) : wb.heap.size ≤ u.heap.size := h.bel.size
theorem PSt.len {wb : World} {g n c gs : Nat} {ls ss : List Int} {u : World} (h : PSt wb g n c ls gs ss u) : ls.length = n := by have := h.own.1; rw [ic_len] at this; omega
theorem PSt.cut {wb : World} {g n c gs m : Nat} {ls ss : List Int} {u : World} (h : PSt wb g n c ls gs ss u) (hm : m ≤ n) : PSt wb g m c (ls.take m) gs ss u :=
  ⟨by have := own_cut h.own hm; rw [ic, ← List.map_take] at this; exact this, h.arr, h.frz, h.ne, h.lo, h.hi, h.bel⟩
theorem PSt.cell {wb : World} {g n c gs : Nat} {ls ss : List Int} {u : World} (h : PSt wb g n c ls gs ss u) {j : Nat} {x : Int} (hx : ls[j]? = some x) : u.cell? ⟨g, j, none⟩ = some (.int .i64 x) := by
  have hj := (List.getElem?_eq_some_iff.1 hx).1
  have := h.len
  rw [h.own.cellAt j (by omega)]
  exact ic_at hx
theorem PSt.cap {wb : World} {g n c gs : Nat} {ls ss : List Int} {u : World} (h : PSt wb g n c ls gs ss u) : n ≤ c := by
  rcases h.own.2 with ⟨hv, _⟩ | ⟨g2, cap, cur, hv, hb, hg, hnc, _⟩
  · simp at hv
  · simp only [Value.slice.injEq, Option.some.injEq, Addr.mk.injEq, and_true, true_and] at hv
    obtain ⟨rfl, rfl⟩ := hv
    exact hnc
theorem PSt.app {wb : World} {g n c gs : Nat} {ls ss : List Int} {u : World} (h : PSt wb g n c ls gs ss u) {x : Int} {o : Obj} {G cap : Nat} {u' : World}
    (ho : u'.ownsRow wb.heap.size 3 1 (.slice (some ⟨G, 0, none⟩) (n + 1) cap) (n + 1) (ic ls ++ [.int .i64 x])) (hg : (u.alloc o).grownBy u' (some g)) (hG : (some g : Option Nat) = some G ∨ G = u.heap.size + 1) :
    PSt wb G (n + 1) cap (ls ++ [x]) gs ss u' := by
  have hhi := h.hi
  have hb : u'.heap[gs]? = u.heap[gs]? := by
    rw [hg.block gs (by simp; omega) (by simp; exact fun e => h.ne e.symm)]
    exact Below.heap_alloc u o gs hhi
  refine ⟨by rw [ic_snoc]; exact ho, fun j hj => ?_, fun j => ?_, ?_, h.lo, by have := hg.size; simp at this; omega, ?_⟩
  · rw [World.cell?_of_block (w := u) (a := ⟨gs, j, none⟩) hb]; exact h.arr j hj
  · rw [World.frozen?_of_block (w := u) (a := ⟨gs, j, none⟩) hb]; exact h.frz j
  · rcases hG with hG | hG
    · simp at hG; rw [← hG]; exact h.ne
    · omega
  · exact (h.bel.alloc h.size _).grown hg (by have := h.size; simp; omega) (fun j hj => by simp at hj; subst hj; exact (h.own.lt g rfl).1)
theorem PSt.put {wb : World} {g n c gs : Nat} {ls ss : List Int} {u : World} (h : PSt wb g n c ls gs ss u) (x : Nat) (hx : x < 12) : PSt wb g n c ls gs ((x : Int) :: ss) (u.setCell ⟨gs, x, none⟩ (.bool true)) := by
  refine ⟨own_setOther h.own gs x _ h.ne, fun j hj => ?_, fun j => ?_, h.ne, h.lo, by simp [World.setCell]; exact h.hi, h.bel.setCell (p := ⟨gs, x, none⟩) h.lo _⟩
  · by_cases hjx : j = x
    · subst hjx
      rw [World.cell?_setCell_same u ⟨gs, j, none⟩ _ (h.arr j hj)]
      simp
    · rw [World.cell?_setCell_other]
      · rw [h.arr j hj]
        have : ¬ ((j : Int) = (x : Int)) := by omega
        simp [this]
      · exact fun e => hjx (by simpa using e.symm)
  · rw [World.frozen?_setCell]; exact h.frz j
theorem PSt.start (wb : World) (o : Array Value) (ho : o = #[.bool false, .bool false, .bool false, .bool false, .bool false, .bool false, .bool false, .bool false, .bool false, .bool false, .bool false, .bool false]) :
    PSt wb wb.heap.size 0 0 [] (wb.heap.size + 1) [] ((wb.alloc (.cells #[] 3)).alloc (.cells o 268)) := by
  have hs : (wb.alloc (.cells #[] 3)).heap.size = wb.heap.size + 1 := by simp
  have hb : ((wb.alloc (.cells #[] 3)).alloc (.cells o 268)).heap[wb.heap.size + 1]? = some (.cells o 268 (0, 0)) := by
    have := heap_alloc_new (wb.alloc (.cells #[] 3)) (.cells o 268)
    rw [hs] at this
    exact this
  have h0 := World.ownsRow_lit (base := wb.heap.size) (e := 3) (size := 1) wb #[] 0 (Nat.le_refl _) (by unfold maxLen; omega) (by simp)
  refine ⟨by simpa [ic] using h0.alloc _, fun j hj => ?_, fun j => frozen_of_row _ _ j _ _ hb, by omega, by omega, by simp, ((Below.refl _ _).alloc (Nat.le_refl _) _).alloc (by simp) _⟩
  rw [cell_of_row _ _ j _ _ _ hb, ho]
  rcases (show j = 0 ∨ j = 1 ∨ j = 2 ∨ j = 3 ∨ j = 4 ∨ j = 5 ∨ j = 6 ∨ j = 7 ∨ j = 8 ∨ j = 9 ∨ j = 10 ∨ j = 11 by omega) with h | h | h | h | h | h | h | h | h | h | h | h <;> subst h <;> rfl

theorem beyond_no (f : Int) (h : vB f = true) (w : World) : Calls Tryz.prog 157 #[.int .i64 f] w fun e w' => e = .returned (.bool false) ∧ w' = w := by
  simp [vB] at h
  have d1 : decide (f < 0) = false := decide_eq_false (by omega)
  have d2 : decide (12 ≤ f) = false := decide_eq_false (by omega)
  go_enter Tryz.func157, Tryz.ntmps157
  go_wp2
  go_ret
  exact ⟨rfl, rfl⟩
theorem beyond_yes (f : Int) (h : vB f = false) (w : World) : Calls Tryz.prog 157 #[.int .i64 f] w fun e w' => e = .returned (.bool true) ∧ w' = w := by
  simp [vB] at h
  by_cases h0 : f < 0
  · have d1 : decide (f < 0) = true := decide_eq_true h0
    go_enter Tryz.func157, Tryz.ntmps157
    go_wp2
    go_ret
    exact ⟨rfl, rfl⟩
  · have d1 : decide (f < 0) = false := decide_eq_false h0
    have d2 : decide (12 ≤ f) = true := decide_eq_true (by omega)
    go_enter Tryz.func157, Tryz.ntmps157
    go_wp2
    go_ret
    exact ⟨rfl, rfl⟩

set_option maxRecDepth 100000 in
set_option maxHeartbeats 4000000 in
theorem iTourOk_any (t : List Int) (n : Nat) (a : Option Addr) (c : Nat) (hn : n ≤ 3000000) (w : World) (h : Is w w.heap.size a n t) :
    Calls Tryz.prog 219 #[.slice a n c] w fun e w' => e = .returned (.bool (tB t)) ∧ Below w.heap.size w w' := by
  obtain ⟨i0, hi, hz0, hz1, hz2⟩ := info_parts info3i
  obtain ⟨hlen, hrow⟩ := h
  have HR := hideIt hrow
  clear hrow
  have hst0 := PSt.start w _ rfl
  go_enter Tryz.func219, Tryz.ntmps219
  go_wp2
  go_loopw [3, 12] (fun r i wr => ∃ (k n1 g1 c1 : Nat) (wy sn : List Int), k ≤ n ∧ i = .int .i64 (k : Int) ∧ r = .slice (some ⟨g1, 0, none⟩) n1 c1 ∧ n1 ≤ k ∧ Hid (trun [] [] (t.take k) = some (wy, sn)) ∧ Hid (∀ (j : Nat) (f : Int), j < k → t[j]? = some f → vB f = true) ∧ PSt w g1 n1 c1 wy.reverse (w.heap.size + 1) sn wr) (fun _ i _ => n - (intOf i).toNat)
  case atStart => exact ⟨0, 0, _, 0, [], [], by omega, rfl, rfl, by omega, by show _ = _; rfl, fun j _ hj => by omega, hst0⟩
  case round =>
    obtain ⟨k, n1, g1, c1, wy, sn, hk, rfl, rfl, hn1, HT, HV, hst⟩ := hrel
    clear hst0
    by_cases hlt : k < n
    · rcases HR.out with hz | ⟨b, off, rfl, hbl, hc⟩
      · omega
      · obtain ⟨f, hf⟩ : ∃ f, t[k]? = some f := ⟨t[k]'(by omega), List.getElem?_eq_getElem (by omega)⟩
        have e0 : wr.cell? ⟨b, off + k, none⟩ = some (.int .i64 f) := by rw [hst.bel.cell hbl]; exact hc k f hf
        have b1 : (0 : Int) ≤ (k : Int) := by omega
        have b2 : (k : Int) < (n : Int) := by omega
        cases hv : vB f with
        | false =>
          have HB := hideIt (tB_bad hf hv)
          have HW := hideIt hst.bel
          have HY := hideIt (beyond_yes f hv wr)
          clear hc hf HT HV hst hv
          go_wp2_with (go_at_call 157; refine HY.out.mono ?_; rintro e w1 ⟨rfl, hw⟩; have hw' := hw.symm; subst hw'; clear hw)
          go_ret
          exact ⟨by rw [HB.out]; rfl, HW.out⟩
        | true =>
          have hv' := hv
          simp [vB] at hv'
          obtain ⟨vn, rfl⟩ : ∃ vn : Nat, f = (vn : Int) := ⟨f.toNat, by omega⟩
          have hvn : vn < 12 := by omega
          have HV2 : Hid (∀ (j : Nat) (x : Int), j < k + 1 → t[j]? = some x → vB x = true) := fun j x hj hx => by
            by_cases h7 : j = k
            · rw [h7, hf] at hx; simp at hx; rw [← hx]; exact hv
            · exact HV.out j x (by omega) hx
          have HS := hideIt (show trun [] [] (t.take (k + 1)) = tstep wy sn (vn : Int) by rw [take_snocF t k _ hf, trun_snoc, HT.out]; rfl)
          have d1 : decide ((vn : Int) < 0) = false := decide_eq_false (by omega)
          have d2 : decide (12 ≤ (vn : Int)) = false := decide_eq_false (by omega)
          have v1 : (0 : Int) ≤ (vn : Int) := by omega
          have v2 : (vn : Int) < 12 := by omega
          have HY := hideIt (beyond_no (vn : Int) hv wr)
          clear hv hv' HV hc
          go_wp2_with (go_at_call 157; refine HY.out.mono ?_; rintro e w1 ⟨rfl, hw⟩; have hw' := hw.symm; subst hw'; clear hw; refine Hid.out ?_)
          refine (show ∀ {p : Prop}, p → Hid p from fun h => h) ?_
          clear HY
          by_cases hw1 : wy.length ≤ 1
          · have hl1 := hst.len
            rw [List.length_reverse] at hl1
            have d0 : decide (0 < (n1 : Int) - 1) = false := decide_eq_false (by omega)
            obtain ⟨lw, hlw⟩ : ∃ l, l = wy.reverse := ⟨_, rfl⟩
            rw [← hlw] at hst
            have HLW := hideIt hlw
            clear hlw
            have ha := hst.arr vn (by omega)
            by_cases hs : (vn : Int) ∈ sn
            · have HS2 := hideIt (openBad (trun_none (HS.out.trans (tstep_bad1 hw1 hs))))
              rw [decide_eq_true hs] at ha
              have HB := hideIt hst.bel
              clear HS HT hf hst hs
              go_wp2
              go_ret
              exact ⟨by rw [HS2.out]; rfl, HB.out⟩
            · have HS2 := hideIt (HS.out.trans (tstep_down1 hw1 hs))
              rw [decide_eq_false hs] at ha
              have z1 := hst.size
              have HST := hideIt hst
              have HA := hideIt (fun g3 c3 u' (ho : u'.ownsRow w.heap.size 3 1 (.slice (some ⟨g3, 0, none⟩) (n1 + 1) c3) (n1 + 1) (ic lw ++ [.int .i64 (vn : Int)])) (hg : (wr.alloc (.cells #[.int .i64 (vn : Int)] 3)).grownBy u' (some g1)) hG => hst.app ho hg hG)
              clear HS HT hf hst hs
              go_wp2_with (at_builtin; refine wpList_append_lies _ rfl _ _ 44 rfl w.heap.size 3 i0 _ 1 8 Tryz.underlying44 hi hz0 hz1 hz2 rfl (by decide) _ _ _ rfl (HST.out.own.alloc _) ⟨wr.heap.size, 0, none⟩ 1 1 [.int .i64 (vn : Int)] rfl rfl (newsI wr (vn : Int)) (by intro u hu; simp at hu; subst hu; rfl) (by omega) (by unfold maxLen; omega) (by omega) (by simp; omega) (wr.heap.size + 1) (by simp) ?_)
              intro g3 c3 w3 hown3 hg3 hG3 _
              have S3 := HA.out g3 c3 w3 hown3 hg3 hG3
              clear hown3 hg3 hG3 HST HA z1 ha
              have q0 := S3.arr vn (by omega)
              have q1 := S3.frz vn
              have HS4 := hideIt (S3.put vn (by omega))
              clear S3
              go_wp2
              exact ⟨⟨k + 1, n1 + 1, g3, c3, (vn : Int) :: wy, (vn : Int) :: sn, by omega, by go_num, rfl, by omega, HS2, HV2, by rw [List.reverse_cons, ← HLW.out]; exact HS4.out⟩, by simp [intOf]; omega⟩
          · match wy, hst, HS, hw1 with
            | [], _, _, hw1 => exact absurd (by simp) hw1
            | [_], _, _, hw1 => exact absurd (by simp) hw1
            | c0 :: p :: q, hst, HS, _ =>
              have hl1 := hst.len
              simp only [List.length_reverse, List.length_cons] at hl1
              have m1 : wr.cell? ⟨g1, n1 - 2, none⟩ = some (.int .i64 p) := hst.cell (by rw [show n1 - 2 = q.length by omega]; exact rev_at2 q c0 p)
              have e1 : (((n1 : Int) - 1 - 1).toNat) = n1 - 2 := by omega
              have d0 : decide (0 < (n1 : Int) - 1) = true := decide_eq_true (by omega)
              have b3 : (0 : Int) ≤ (n1 : Int) - 1 - 1 := by omega
              have b4 : (n1 : Int) - 1 - 1 < (n1 : Int) := by omega
              by_cases hp : (vn : Int) = p
              · have d3 : (p == (vn : Int)) = true := by simpa using hp.symm
                have hcap := hst.cap
                have b5 : (0 : Int) ≤ (n1 : Int) - 1 := by omega
                have b6 : (n1 : Int) - 1 ≤ (c1 : Int) := by omega
                have e2 : (((n1 : Int) - 1).toNat) = n1 - 1 := by omega
                have HS2 := hideIt (HS.out.trans (tstep_up hp))
                have HST := hideIt (hst.cut (m := n1 - 1) (by omega))
                rw [show (c0 :: p :: q).reverse.take (n1 - 1) = (p :: q).reverse by rw [show n1 - 1 = q.length + 1 by omega]; exact rev_take1 q c0 p] at HST
                clear HS HT hf hst hp
                go_wp2
                exact ⟨⟨k + 1, n1 - 1, g1, c1, p :: q, sn, by omega, by go_num, rfl, by omega, HS2, HV2, HST.out⟩, by simp [intOf]; omega⟩
              · have d3 : (p == (vn : Int)) = false := by simpa using Ne.symm hp
                obtain ⟨lw, hlw⟩ : ∃ l, l = (c0 :: p :: q).reverse := ⟨_, rfl⟩
                rw [← hlw] at hst
                have HLW := hideIt hlw
                clear hlw
                have ha := hst.arr vn (by omega)
                by_cases hs : (vn : Int) ∈ sn
                · have HS2 := hideIt (openBad (trun_none (HS.out.trans (tstep_bad2 hp hs))))
                  rw [decide_eq_true hs] at ha
                  have HB := hideIt hst.bel
                  clear HS HT hf hst hs
                  go_wp2
                  go_ret
                  exact ⟨by rw [HS2.out]; rfl, HB.out⟩
                · have HS2 := hideIt (HS.out.trans (tstep_down2 hp hs))
                  rw [decide_eq_false hs] at ha
                  have z1 := hst.size
                  have HST := hideIt hst
                  have HA := hideIt (fun g3 c3 u' (ho : u'.ownsRow w.heap.size 3 1 (.slice (some ⟨g3, 0, none⟩) (n1 + 1) c3) (n1 + 1) (ic lw ++ [.int .i64 (vn : Int)])) (hg : (wr.alloc (.cells #[.int .i64 (vn : Int)] 3)).grownBy u' (some g1)) hG => hst.app ho hg hG)
                  clear HS HT hf hst hs
                  go_wp2_with (at_builtin; refine wpList_append_lies _ rfl _ _ 44 rfl w.heap.size 3 i0 _ 1 8 Tryz.underlying44 hi hz0 hz1 hz2 rfl (by decide) _ _ _ rfl (HST.out.own.alloc _) ⟨wr.heap.size, 0, none⟩ 1 1 [.int .i64 (vn : Int)] rfl rfl (newsI wr (vn : Int)) (by intro u hu; simp at hu; subst hu; rfl) (by omega) (by unfold maxLen; omega) (by omega) (by simp; omega) (wr.heap.size + 1) (by simp) ?_)
                  intro g3 c3 w3 hown3 hg3 hG3 _
                  have S3 := HA.out g3 c3 w3 hown3 hg3 hG3
                  clear hown3 hg3 hG3 HST HA z1 ha
                  have q0 := S3.arr vn (by omega)
                  have q1 := S3.frz vn
                  have HS4 := hideIt (S3.put vn (by omega))
                  clear S3
                  go_wp2
                  exact ⟨⟨k + 1, n1 + 1, g3, c3, (vn : Int) :: (c0 :: p :: q), (vn : Int) :: sn, by omega, by go_num, rfl, by omega, HS2, HV2, by rw [List.reverse_cons, ← HLW.out]; exact HS4.out⟩, by simp [intOf]; omega⟩
    · obtain rfl : k = n := by omega
      have HO : Hid (tB t = ((n1 : Int) == 1)) := by
        show _ = _
        have h1 := HT.out
        rw [List.take_of_length_le (by omega)] at h1
        have h2 := hst.len
        simp only [List.length_reverse] at h2
        rw [tB_eq, all_of_at (fun j f hf => HV.out j f (by have := (List.getElem?_eq_some_iff.1 hf).1; omega) hf), Bool.true_and]
        unfold openB
        rw [h1]
        show (wy.length == 1) = _
        rw [h2, Bool.eq_iff_iff]
        simp
        omega
      have HB := hideIt hst.bel
      clear HT HV hst
      go_wp2
      go_ret
      exact ⟨by rw [HO.out]; rfl, HB.out⟩
end Go.Proofs.YtpfkfbmghddepaaGreat
namespace Go.Proofs.YtpfkfbmghddepaaGreat
open Go.RowKit

/-- one of the pieces -/
structure PartI where
  a : Option Addr
  m : Nat
  c : Nat
  ls : List Int
/-- the pieces stand in block b -/
def PartsI (w : World) (b : Nat) (ps : List PartI) : Prop :=
  b < w.heap.size ∧ ∀ (j : Nat) (p : PartI), ps[j]? = some p → w.cell? ⟨b, j, none⟩ = some (.slice p.a p.m p.c) ∧ Is w w.heap.size p.a p.m p.ls
def qLen (ps : List PartI) : Nat := (ps.map fun p => p.m).sum
def qAll (ps : List PartI) : List Int := ps.flatMap fun p => p.ls
theorem qLen_snoc (ps : List PartI) (p : PartI) : qLen (ps ++ [p]) = qLen ps + p.m := by simp [qLen]
theorem qAll_snoc (ps : List PartI) (p : PartI) : qAll (ps ++ [p]) = qAll ps ++ p.ls := by simp [qAll]
theorem qLen_take (ps : List PartI) (k : Nat) : qLen (ps.take k) ≤ qLen ps := by
  have h := congrArg qLen (List.take_append_drop k ps)
  have e : ∀ a b : List PartI, qLen (a ++ b) = qLen a + qLen b := fun a b => by simp [qLen]
  rw [e] at h
  omega
theorem ic_append (a b : List Int) : ic (a ++ b) = ic a ++ ic b := by simp [ic]
theorem ic_one {ls : List Int} : ∀ u ∈ ic ls, u.oneCell' = true := by
  intro u hu
  simp [ic] at hu
  obtain ⟨x, _, rfl⟩ := hu
  rfl
theorem Is.news {w : World} {B b off n : Nat} {ls : List Int} (h : Is w B (some ⟨b, off, none⟩) n ls) : ∀ j u, (ic ls)[j]? = some u → w.cell? ((⟨b, off, none⟩ : Addr).add j) = some u := by
  intro j u hj
  have hl : j < ls.length := by have := (List.getElem?_eq_some_iff.1 hj).1; rw [ic_len] at this; exact this
  have hn := h.1
  rcases h.2 with h0 | ⟨b', off', hb, _, hc⟩
  · omega
  · simp at hb
    obtain ⟨rfl, rfl⟩ := hb
    obtain ⟨f, hf⟩ : ∃ f, ls[j]? = some f := ⟨ls[j], List.getElem?_eq_getElem hl⟩
    rw [show ((⟨b, off, none⟩ : Addr).add j) = ⟨b, off + j, none⟩ by by_cases h0 : j = 0 <;> simp [Addr.add, h0]]
    rw [hc j f hf, ← hj, ic_at hf]
theorem splice_take {X cs : List Value} {q : Nat} (h : q + cs.length ≤ X.length) : (splice X q cs).take (q + cs.length) = X.take q ++ cs := by
  unfold splice
  rw [← List.append_assoc, List.take_append_of_le_length (by simp; omega)]
  exact List.take_of_length_le (by simp; omega)
theorem info3s : (Tryz.prog.info? 3).map (fun i => i.size) = some 1 := by kernel_rfl

/-- one piece is moved -/
theorem copy_piece {w wr : World} {G x dl m pm pc : Nat} {pa : Option Addr} {X cs : List Value} (hg : wr.heap[G]? = some (.cells X.toArray 3 (0, 0))) (hl : cs.length = pm) (hd : pm ≤ dl)
    (hpos : 0 < cs.length → (some ⟨G, x, none⟩ : Option Addr) = some ⟨G, m, none⟩ ∧ ∃ ad, pa = some ad ∧ ∀ j v, cs[j]? = some v → wr.cell? (ad.add j) = some v)
    (hfit : m + cs.length ≤ X.length) (h1 : ∀ v ∈ cs, v.oneCell' = true) (hb : Below G w wr) :
    ∃ w2, (Builtin.copy_ #[44, 44] 3 #[.slice (some ⟨G, x, none⟩) dl dl, .slice pa pm pc]).run Tryz.prog wr = .ok (.int .i64 (pm : Int)) w2 ∧ w2.heap[G]? = some (.cells (splice X m cs).toArray 3 (0, 0)) ∧ Below G w w2 := by
  have hmin : Nat.min pm dl = pm := Nat.min_eq_left hd
  by_cases h0 : cs.length = 0
  · obtain rfl : cs = [] := List.eq_nil_of_length_eq_zero h0
    have hp0 : pm = 0 := by simpa using hl.symm
    subst hp0
    have hrun := run_copy_none (P := Tryz.prog) wr 44 44 3 3 (some ⟨G, x, none⟩) pa dl dl 0 pc Tryz.underlying44 info3s (by simp)
    exact ⟨wr, hrun, by simpa [splice] using hg, hb⟩
  · obtain ⟨e, ad, rfl, hsrc⟩ := hpos (by omega)
    simp at e
    subst e
    have hrun := run_copy_row (P := Tryz.prog) wr 44 44 3 3 G x dl dl ad pm pc X.toArray 3 cs Tryz.underlying44 info3s hg (by rw [hmin]; exact hl) hsrc (by simpa using hfit) h1
    rw [hl] at hrun
    exact ⟨_, hrun, by simpa [splice, hl] using setRow_heap wr G _ _ 3 _ hg, below_setRow hb (Nat.le_refl _) _⟩

set_option maxRecDepth 100000 in
set_option maxHeartbeats 2000000 in
theorem laid_any (ps : List PartI) (b k0 : Nat) (hk0 : ps.length = k0) (hsm : k0 ≤ 10) (w : World) (h : PartsI w b ps) (hlen : qLen ps ≤ 3000000) :
    Calls Tryz.prog 199 #[.slice (some ⟨b, 0, none⟩) k0 k0] w fun e w' => ∃ g m, e = .returned (.slice (some ⟨g, 0, none⟩) m m) ∧ w'.ownsRow w.heap.size 3 1 (.slice (some ⟨g, 0, none⟩) m m) m (ic (qAll ps)) ∧ Below w.heap.size w w' := by
  obtain ⟨i0, hi, hz0, hz1, hz2⟩ := info_parts info3i
  have HP := hideIt h
  have HL := hideIt hlen
  have HK := hideIt hk0
  have hbw := h.1
  clear h hlen hk0
  have HM : Hid (∀ (n : Nat), n ≤ 3000000 → ∀ u : World, (Instr.makeSlice 44 (.int .i64 (n : Int)) (.int .i64 (n : Int))).run Tryz.prog u =
      .ok (.slice (some ⟨u.heap.size, 0, none⟩) n n) (u.alloc (.cells (madeCells #[.int .i64 0] n) 3))) := fun n hn u => by
    have h := run_make (P := Tryz.prog) u 44 3 i0 _ Tryz.underlying44 hi hz0 .i64 .i64 (n : Int) (n : Int) (by omega) (by omega) (by rw [hz2]; omega) (by omega)
    rw [Int.toNat_natCast] at h
    simpa [hz1, Value.cells] using h
  go_enter Tryz.func199, Tryz.ntmps199
  go_wp2
  go_loopw [3, 12] (fun s i wr => ∃ (k q : Nat), k ≤ k0 ∧ i = .int .i64 (k : Int) ∧ s = .int .i64 (q : Int) ∧ Hid (q = qLen (ps.take k)) ∧ q ≤ 3000000 ∧ wr = w) (fun _ i _ => k0 - (intOf i).toNat)
  case atStart => exact ⟨0, 0, by omega, rfl, rfl, by show _ = _; simp [qLen], by omega, rfl⟩
  case round =>
    obtain ⟨k, q, hk, rfl, rfl, hq, hq1, hw⟩ := hrel
    have hw' := hw.symm
    subst hw'
    clear hw
    by_cases hlt : k < k0
    · obtain ⟨p, hp⟩ : ∃ p, ps[k]? = some p := ⟨ps[k]'(by have := HK.out; omega), List.getElem?_eq_getElem _⟩
      obtain ⟨c0, _⟩ := HP.out.2 k p hp
      have HQ : Hid (q + p.m = qLen (ps.take (k + 1))) := by show _ = _; rw [take_snocF ps k p hp, qLen_snoc, hq.out]
      have hqm : q + p.m ≤ 3000000 := by have := HQ.out; have := qLen_take ps (k + 1); have := HL.out; omega
      have b1 : (0 : Int) ≤ (k : Int) := by omega
      have b2 : (k : Int) < (k0 : Int) := by omega
      clear hq hp
      go_wp2
      exact ⟨⟨k + 1, q + p.m, by omega, by go_num, by go_num, HQ, hqm, by first | trivial | rfl⟩, by simp [intOf]; omega⟩
    · obtain rfl : k = k0 := by omega
      have HQ : Hid (q = qLen ps) := by show _ = _; rw [hq.out, List.take_of_length_le (by have := HK.out; omega)]
      clear hq
      have hmk := HM.out q hq1
      go_wp2
      clear hmk
      go_loopw [7, 26] (fun r i wr => ∃ (j m dl : Nat) (x : Nat) (X : List Value), j ≤ k ∧ i = .int .i64 (j : Int) ∧ r = .slice (some ⟨w.heap.size, x, none⟩) dl dl ∧ m + dl = q ∧ Hid (m = qLen (ps.take j)) ∧ (0 < dl → x = m) ∧ Hid (X.length = q) ∧ Hid (X.take m = ic (qAll (ps.take j))) ∧ Hid (wr.heap[w.heap.size]? = some (.cells X.toArray 3 (0, 0))) ∧ Below w.heap.size w wr) (fun _ i _ => k - (intOf i).toNat)
      case atStart =>
        refine ⟨0, 0, q, 0, (madeCells #[.int .i64 0] q).toList, by omega, rfl, rfl, by omega, by show _ = _; simp [qLen], fun _ => rfl, by show _ = _; simp [madeCells], by show _ = _; simp [qAll, ic], ?_, (Below.refl _ _).alloc (Nat.le_refl _) _⟩
        show _ = _
        rw [Array.toArray_toList]
        exact heap_alloc_new w _
      case round =>
        obtain ⟨j, m, dl, x, X, hj, rfl, rfl, hmd, hm, hx, hXl, hX, hg, hb⟩ := hrel
        by_cases hlt2 : j < k
        · obtain ⟨p, hp⟩ : ∃ p, ps[j]? = some p := ⟨ps[j]'(by have := HK.out; omega), List.getElem?_eq_getElem _⟩
          obtain ⟨c0, his⟩ := HP.out.2 j p hp
          have c1 : wr.cell? ⟨b, j, none⟩ = some (.slice p.a p.m p.c) := by rw [hb.cell hbw]; exact c0
          have HMm : Hid (m + p.m = qLen (ps.take (j + 1))) := by show _ = _; rw [take_snocF ps j p hp, qLen_snoc, hm.out]
          have hmp : m + p.m ≤ q := by have := HMm.out; have := qLen_take ps (j + 1); have := HQ.out; omega
          have HA : Hid (ic (qAll (ps.take (j + 1))) = ic (qAll (ps.take j)) ++ ic p.ls) := by show _ = _; rw [take_snocF ps j p hp, qAll_snoc, ic_append]
          have b1 : (0 : Int) ≤ (j : Int) := by omega
          have b2 : (j : Int) < (k : Int) := by omega
          have hisw := (his.below hb (Nat.le_refl _)).mono hb.size
          have hl2 : (ic p.ls).length = p.m := by rw [ic_len, his.1]
          obtain ⟨cs, hcs⟩ : ∃ cs, cs = ic p.ls := ⟨_, rfl⟩
          rw [← hcs] at hl2 HA
          have HN : Hid (0 < cs.length → (some ⟨w.heap.size, x, none⟩ : Option Addr) = some ⟨w.heap.size, m, none⟩ ∧ ∃ ad, p.a = some ad ∧ ∀ j v, cs[j]? = some v → wr.cell? (ad.add j) = some v) := fun h0 => by
            refine ⟨by rw [hx (by omega)], ?_⟩
            rcases hisw.2 with hz | ⟨b2, off2, hpa, _, _⟩
            · omega
            · exact ⟨_, hpa, by rw [hcs]; rw [hpa] at hisw; exact hisw.news⟩
          have H1 : Hid (∀ v ∈ cs, v.oneCell' = true) := by rw [hcs]; exact ic_one
          have HX2 : Hid ((splice X m cs).take (m + p.m) = ic (qAll (ps.take (j + 1)))) := by
            show _ = _
            rw [← hl2, splice_take (by have := hXl.out; omega), hX.out, HA.out]
          have HXl2 : Hid ((splice X m cs).length = q) := by show _ = _; rw [length_splice _ _ _ (by have := hXl.out; omega)]; exact hXl.out
          have HXq := hXl
          obtain ⟨pa, pm, pc, pls⟩ := p
          dsimp only at *
          clear hm hp c0 his hisw HA hX hXl hcs
          obtain ⟨w2, hcp, hg2, hB2⟩ := copy_piece (pc := pc) hg.out hl2 (show pm ≤ dl by omega) HN.out (by have := HXq.out; omega) H1.out hb
          have HG2 := hideIt hg2
          clear hg2 hg HN H1 HXq
          by_cases hfull : pm = dl
          · subst hfull
            have b3 : (0 : Int) ≤ (pm : Int) := by omega
            go_wp2
            exact ⟨⟨j + 1, m + pm, 0, x, splice X m cs, by omega, by go_num, rfl, by omega, HMm, fun h => by omega, HXl2, HX2, HG2, hB2⟩, by simp [intOf]; omega⟩
          · have b3 : (0 : Int) ≤ (pm : Int) := by omega
            have b4 : (pm : Int) ≤ (dl : Int) := by omega
            have hx2 : 0 < dl - pm → x + pm = m + pm := fun h => by rw [hx (by omega)]
            go_wp2
            exact ⟨⟨j + 1, m + pm, dl - pm, x + pm, splice X m cs, by omega, by go_num, rfl, by omega, HMm, hx2, HXl2, HX2, HG2, hB2⟩, by simp [intOf]; omega⟩
        · obtain rfl : j = k := by omega
          have HE : Hid (m = q) := by show _ = _; have h1 := hm.out; have h2 := HQ.out; rw [List.take_of_length_le (by have := HK.out; omega)] at h1; omega
          have HO : Hid (wr.ownsRow w.heap.size 3 1 (.slice (some ⟨w.heap.size, 0, none⟩) q q) q (ic (qAll ps))) := by
            show World.ownsRow _ _ _ _ _ _ _
            have h1 := hX.out
            have h3 := hXl.out
            rw [List.take_of_length_le (by have := HE.out; omega), List.take_of_length_le (by have := HK.out; omega)] at h1
            rw [← h1]
            exact ⟨by omega, .inr ⟨w.heap.size, q, X.toArray, rfl, Nat.le_refl _, hg.out, Nat.le_refl _, by unfold maxLen; omega, by simpa using h3, by rw [List.take_of_length_le (by simp; omega)]⟩⟩
          clear hm hX hXl hg
          go_wp2
          go_ret
          exact ⟨_, _, rfl, HO.out, hb⟩
end Go.Proofs.YtpfkfbmghddepaaGreat
namespace Go.Proofs.YtpfkfbmghddepaaGreat
open Go.RowKit

/-- what stands from the place k on up to the last but one, what stands ahead, and v -/
def reT (t : List Int) (k : Nat) (v : Int) : List Int := (t.take (t.length - 1)).drop k ++ (t.take k ++ [v])
/-- the tour from v on -/
def reO (t : List Int) (v : Int) : Option (List Int) := if tB t = true ∧ v ∈ t then some (reT t (fstI t v).toNat v) else none

/-- the answer: a list of its own, and whether there is one -/
def TAns (w : World) (o : Option (List Int)) (e : Ending) (w' : World) : Prop :=
  ∃ a m c, e = .returned (.tuple #[.slice a m c, .bool o.isSome]) ∧ w'.ownsRow w.heap.size 3 1 (.slice a m c) m (ic (o.getD [])) ∧ Below w.heap.size w w'
theorem tans_no {w u : World} {o : Option (List Int)} (ho : o = none) (h : Below w.heap.size w u) : TAns w o (.returned (.tuple #[.slice none 0 0, .bool false])) u := by
  subst ho
  exact ⟨none, 0, 0, rfl, World.ownsRow_nil _ _ _ _, h⟩
theorem tans_yes {w u : World} {o : Option (List Int)} {ls : List Int} (ho : o = some ls) {B : Nat} {a : Option Addr} {m c : Nat} (hB : w.heap.size ≤ B) (hown : u.ownsRow B 3 1 (.slice a m c) m (ic ls)) (h : Below w.heap.size w u) : TAns w o (.returned (.tuple #[.slice a m c, .bool true])) u := by
  subst ho
  exact ⟨a, m, c, rfl, own_mono hown hB, h⟩
/-- the first place of a number of the list -/
theorem fst_at {t : List Int} {v : Int} (h : v ∈ t) : ∃ k : Nat, fstI t v = (k : Int) ∧ k < t.length ∧ t[k]? = some v ∧ ∀ j, j < k → atP t v j = false := by
  rcases firstN_cases (atP t v) t.length with ⟨k, h1, h2, h3, h4⟩ | ⟨h1, _⟩
  · exact ⟨k, h4, h1, by simpa [atP] using h2, h3⟩
  · exact absurd h (mem_of_atP rfl h1)
theorem fst_no {t : List Int} {v : Int} (h : v ∉ t) : fstI t v = -1 := by
  rcases firstN_cases (atP t v) t.length with ⟨k, h1, h2, h3, h4⟩ | ⟨_, h2⟩
  · exact absurd (List.mem_of_getElem? (by simpa [atP] using h2 : t[k]? = some v)) h
  · exact h2
/-- the first place of a vertex of a tour of two and more lies ahead of the last one -/
theorem fst_lt {t : List Int} {v : Int} {k : Nat} (hB : tB t = true) (hk : k < t.length) (hv : t[k]? = some v) (hf : ∀ j, j < k → atP t v j = false) : k < t.length - 1 ∨ (k = 0 ∧ t.length = 1) := by
  obtain ⟨x, r, s, rfl, _, _, hr⟩ := tB_open hB
  rcases hr with rfl | ⟨q, rfl⟩
  · simp at hk; right; simp [hk]
  · left
    simp at hk ⊢
    by_cases h : k = q.length + 1
    · subst h
      have : v = x := by simpa using hv.symm
      subst this
      have := hf 0 (by omega)
      simp [atP] at this
    · omega
theorem Is.take {w : World} {B : Nat} {a : Option Addr} {n : Nat} {ls : List Int} (h : Is w B a n ls) {k : Nat} (hk : k ≤ n) : Is w B a k (ls.take k) := by
  refine ⟨by rw [List.length_take, h.1]; omega, ?_⟩
  rcases h.2 with h0 | ⟨b, off, h1, h2, h3⟩
  · exact .inl (by omega)
  · refine .inr ⟨b, off, h1, h2, fun j x hx => h3 j x ?_⟩
    have hj : j < k := by have := (List.getElem?_eq_some_iff.1 hx).1; rw [List.length_take] at this; omega
    rw [List.getElem?_take_of_lt hj] at hx
    exact hx
theorem Is.drop {w : World} {B b off : Nat} {n : Nat} {ls : List Int} (h : Is w B (some ⟨b, off, none⟩) n ls) {k : Nat} (hk : k ≤ n) : Is w B (some ⟨b, off + k, none⟩) (n - k) (ls.drop k) := by
  refine ⟨by rw [List.length_drop, h.1], ?_⟩
  rcases h.2 with h0 | ⟨b', off', h1, h2, h3⟩
  · exact .inl (by omega)
  · simp at h1
    obtain ⟨rfl, rfl⟩ := h1
    refine .inr ⟨b, off + k, rfl, h2, fun j x hx => ?_⟩
    rw [List.getElem?_drop] at hx
    have := h3 (k + j) x hx
    rw [Nat.add_assoc]
    exact this
theorem Is.none_of {w : World} {B : Nat} {a : Option Addr} {ls : List Int} (h : ls.length = 0) : Is w B a 0 ls := ⟨h, .inl rfl⟩
theorem Is.single (w : World) (f : Int) : Is (w.alloc (.cells #[.int .i64 f] 3)) (w.alloc (.cells #[.int .i64 f] 3)).heap.size (some ⟨w.heap.size, 0, none⟩) 1 [f] := by
  refine ⟨rfl, .inr ⟨w.heap.size, 0, rfl, by simp, fun j x hx => ?_⟩⟩
  rcases j with _ | j
  · simp at hx; subst hx; simp
  · simp at hx
theorem Is.cut {w : World} {B b off : Nat} {n : Nat} {ls : List Int} (h : Is w B (some ⟨b, off, none⟩) n ls) {k m : Nat} (hk : k ≤ m) (hm : m ≤ n) : Is w B (if m = k then some ⟨b, off, none⟩ else some ⟨b, off + k, none⟩) (m - k) ((ls.take m).drop k) := by
  by_cases h0 : m = k
  · rw [if_pos h0]
    subst h0
    rw [Nat.sub_self]
    exact Is.none_of (by simp)
  · rw [if_neg h0]
    exact (h.take hm).drop hk
/-- pieces that are laid into a block -/
theorem parts3 {u : World} {p1 p2 p3 : PartI} (h1 : Is u u.heap.size p1.a p1.m p1.ls) (h2 : Is u u.heap.size p2.a p2.m p2.ls) (h3 : Is u u.heap.size p3.a p3.m p3.ls) :
    PartsI (u.alloc (.cells #[.slice p1.a p1.m p1.c, .slice p2.a p2.m p2.c, .slice p3.a p3.m p3.c] 44)).drew u.heap.size [p1, p2, p3] := by
  have hb : Below u.heap.size u (u.alloc (.cells #[.slice p1.a p1.m p1.c, .slice p2.a p2.m p2.c, .slice p3.a p3.m p3.c] 44)).drew := ((Below.refl _ _).alloc (Nat.le_refl _) _).drew
  refine ⟨by simp, fun j q hq => ?_⟩
  rcases j with _ | _ | _ | j
  · simp at hq; subst hq
    exact ⟨by simp [go_sem], h1.up hb⟩
  · simp at hq; subst hq
    exact ⟨by simp [go_sem], h2.up hb⟩
  · simp at hq; subst hq
    exact ⟨by simp [go_sem], h3.up hb⟩
  · simp at hq
theorem parts2 {u : World} {p1 p2 : PartI} (h1 : Is u u.heap.size p1.a p1.m p1.ls) (h2 : Is u u.heap.size p2.a p2.m p2.ls) :
    PartsI (u.alloc (.cells #[.slice p1.a p1.m p1.c, .slice p2.a p2.m p2.c] 44)).drew u.heap.size [p1, p2] := by
  have hb : Below u.heap.size u (u.alloc (.cells #[.slice p1.a p1.m p1.c, .slice p2.a p2.m p2.c] 44)).drew := ((Below.refl _ _).alloc (Nat.le_refl _) _).drew
  refine ⟨by simp, fun j q hq => ?_⟩
  rcases j with _ | _ | j
  · simp at hq; subst hq
    exact ⟨by simp [go_sem], h1.up hb⟩
  · simp at hq; subst hq
    exact ⟨by simp [go_sem], h2.up hb⟩
  · simp at hq
theorem parts1 {u : World} {p1 : PartI} (h1 : Is u u.heap.size p1.a p1.m p1.ls) :
    PartsI (u.alloc (.cells #[.slice p1.a p1.m p1.c] 44)).drew u.heap.size [p1] := by
  have hb : Below u.heap.size u (u.alloc (.cells #[.slice p1.a p1.m p1.c] 44)).drew := ((Below.refl _ _).alloc (Nat.le_refl _) _).drew
  refine ⟨by simp, fun j q hq => ?_⟩
  rcases j with _ | j
  · simp at hq; subst hq
    exact ⟨by simp [go_sem], h1.up hb⟩
  · simp at hq
end Go.Proofs.YtpfkfbmghddepaaGreat
namespace Go.Proofs.YtpfkfbmghddepaaGreat
open Go.RowKit

theorem goP_at {ls : List Int} {u v f g : Int} {k : Nat} (hf : ls[k]? = some f) (hg : ls[k + 1]? = some g) : goP ls u v k = (f == u && g == v) := by simp [goP, hf, hg]

end Go.Proofs.YtpfkfbmghddepaaGreat
namespace Go.Proofs.YtpfkfbmghddepaaGreat
open Go.RowKit

/-- a place of a step that is there -/
theorem go_at {t : List Int} {u v : Int} : (∃ k : Nat, goI t u v = (k : Int) ∧ k + 1 < t.length ∧ t[k]? = some u ∧ t[k + 1]? = some v ∧ ∀ j, j < k → goP t u v j = false) ∨ (goI t u v = -1 ∧ ∀ j, j + 1 < t.length → goP t u v j = false) := by
  rcases firstN_cases (goP t u v) (t.length - 1) with ⟨k, h1, h2, h3, h4⟩ | ⟨h1, h2⟩
  · refine .inl ⟨k, h4, by omega, ?_, ?_, h3⟩
    · simp [goP] at h2; exact h2.1
    · simp [goP] at h2; exact h2.2
  · exact .inr ⟨h2, fun j hj => h1 j (by omega)⟩

/-- the step from u to v is in the list -/
theorem goP_append_right {a b : List Int} {u v : Int} {j : Nat} (h : goP b u v j = true) : goP (a ++ b) u v (a.length + j) = true := by
  simp [goP] at h ⊢
  exact ⟨by rw [List.getElem?_append_right (by omega)]; simpa using h.1, by rw [List.getElem?_append_right (by omega)]; simpa [show a.length + j + 1 - a.length = j + 1 by omega] using h.2⟩

/-- a way that has the step from p up to q, or on whose way down q stands right above p, sees the step p to q: a walk that has gone down from q to p and comes to its end at the root goes back from p to q -/
theorem up_there {r : List Int} {w s w' s' : List Int} {p q : Int} {A B : List Int} (h : trun w s r = some (w', s')) (hw : w = A ++ p :: q :: B) (hl : w'.length ≤ B.length + 1) (x : List Int) (hx : w.head? = (x.getLast?)) :
    ∃ j, goP (x ++ r) p q j = true := by
  induction r generalizing w s A x with
  | nil =>
    simp [trun] at h
    rw [← h.1, hw] at hl
    simp at hl
    omega
  | cons v r ih =>
    have hxv : (x ++ [v]).getLast? = some v := by simp
    rcases trun_cons h with ⟨hu, h1⟩ | ⟨hu, hs, h1⟩
    · obtain ⟨c, z, e⟩ := isUp_some hu
      cases A with
      | nil =>
        rw [hw] at e
        simp at e
        obtain ⟨rfl, rfl, _⟩ := e
        -- the step is here
        rw [hw] at hx
        simp at hx
        rcases List.eq_nil_or_concat x with rfl | ⟨y, z2, e2⟩
        · simp at hx
        · rw [List.concat_eq_append] at e2
          subst e2
          simp at hx
          subst hx
          refine ⟨y.length, ?_⟩
          simp [goP]
      | cons d A =>
        have hw2 : w.tail = A ++ p :: q :: B := by rw [hw]; rfl
        have hh : w.tail.head? = some v := by rw [e]; rfl
        obtain ⟨j, hj⟩ := ih h1 hw2 (x ++ [v]) (by rw [hh, hxv])
        rw [List.append_assoc] at hj
        exact ⟨j, hj⟩
    · obtain ⟨j, hj⟩ := ih h1 (A := v :: A) (by rw [hw]; rfl) (x ++ [v]) (by rw [hxv]; rfl)
      rw [List.append_assoc] at hj
      exact ⟨j, hj⟩

theorem goP_append_left {a b : List Int} {u v : Int} {j : Nat} (h : goP a u v j = true) : goP (a ++ b) u v j = true := by
  simp [goP] at h ⊢
  have h1 := (List.getElem?_eq_some_iff.1 h.1).1
  have h2 := (List.getElem?_eq_some_iff.1 h.2).1
  exact ⟨by rw [List.getElem?_append_left h1]; exact h.1, by rw [List.getElem?_append_left h2]; exact h.2⟩
/-- where c stands right above p on the way, the list x has gone from p to c -/
def Adj (w x : List Int) : Prop := ∀ A c p B, w = A ++ c :: p :: B → ∃ j, goP x p c j = true
theorem adj_run {r : List Int} {w s w' s' x : List Int} (h : trun w s r = some (w', s')) (hA : Adj w x) (hx : w.head? = x.getLast?) : Adj w' (x ++ r) := by
  induction r generalizing w s x with
  | nil =>
    simp [trun] at h
    rw [← h.1, List.append_nil]
    exact hA
  | cons v r ih =>
    have hxv : (x ++ [v]).getLast? = some v := by simp
    rcases trun_cons h with ⟨hu, h1⟩ | ⟨hu, hs, h1⟩
    · obtain ⟨c, z, e⟩ := isUp_some hu
      have h2 : Adj w.tail (x ++ [v]) := fun A c2 p B e2 => by
        obtain ⟨j, hj⟩ := hA (c :: A) c2 p B (by rw [e] at e2 ⊢; simp at e2; rw [e2]; rfl)
        exact ⟨j, goP_append_left hj⟩
      have := ih h1 h2 (by rw [hxv, e]; rfl)
      rw [List.append_assoc] at this
      exact this
    · have h2 : Adj (v :: w) (x ++ [v]) := fun A c2 p B e2 => by
        cases A with
        | nil =>
          simp at e2
          obtain ⟨rfl, e2⟩ := e2
          rw [e2] at hx
          simp at hx
          rcases List.eq_nil_or_concat x with rfl | ⟨y, z2, e3⟩
          · simp at hx
          · rw [List.concat_eq_append] at e3
            subst e3
            simp at hx
            subst hx
            exact ⟨y.length, by simp [goP]⟩
        | cons d A =>
          simp at e2
          obtain ⟨j, hj⟩ := hA A c2 p B e2.2
          exact ⟨j, goP_append_left hj⟩
      have := ih h1 h2 (by rw [hxv]; rfl)
      rw [List.append_assoc] at this
      exact this
/-- a right tour that goes along an edge goes back, too -/
theorem go_back {t : List Int} {u v : Int} (hB : tB t = true) {k : Nat} (h1 : t[k]? = some u) (h2 : t[k + 1]? = some v) : ∃ j, goP t v u j = true := by
  obtain ⟨_, x0, s0, hrun⟩ := (tB_iff t).1 hB
  have hk1 := (List.getElem?_eq_some_iff.1 h2).1
  obtain ⟨Y, hY⟩ : ∃ Y, Y = t.drop (k + 2) := ⟨_, rfl⟩
  have e1 : t = t.take (k + 1) ++ (v :: Y) := by
    rw [hY]
    have := List.take_append_drop (k + 1) t
    rw [List.drop_eq_getElem_cons hk1] at this
    have e : t[k + 1] = v := by rw [List.getElem?_eq_getElem hk1] at h2; simpa using h2
    rw [e] at this
    exact this.symm
  have e2 : t.take (k + 1) = t.take k ++ [u] := take_snocF t k u h1
  have hr := hrun
  rw [e1, trun_append] at hr
  cases hq : trun [] [] (t.take (k + 1)) with
  | none => rw [hq] at hr; simp at hr
  | some z =>
    obtain ⟨w, s⟩ := z
    rw [hq] at hr
    simp only [Option.bind_some] at hr
    have htop : w.head? = some u := by rw [e2] at hq; exact trun_top hq
    have hlast : (t.take (k + 1)).getLast? = some u := by rw [e2]; simp
    rcases trun_cons hr with ⟨hu, h3⟩ | ⟨hu, hs, h3⟩
    · obtain ⟨c, z, e⟩ := isUp_some hu
      rw [e] at htop
      simp at htop
      subst htop
      have hadj := adj_run (x := []) hq (fun A c p B e => by simp at e) rfl
      rw [List.nil_append] at hadj
      obtain ⟨j, hj⟩ := hadj [] c v z (by rw [e]; rfl)
      rw [e1]
      exact ⟨j, goP_append_left hj⟩
    · cases w with
      | nil => simp at htop
      | cons c B =>
        simp at htop
        subst htop
        obtain ⟨j, hj⟩ := up_there (A := []) (p := v) (q := c) (B := B) h3 rfl (by simp) [v] rfl
        refine ⟨(t.take (k + 1)).length + j, ?_⟩
        have := goP_append_right (a := t.take (k + 1)) hj
        rw [show t.take (k + 1) ++ ([v] ++ Y) = t from e1.symm] at this
        exact this
theorem go_both {t : List Int} {u v : Int} (hB : tB t = true) {k : Nat} (hk : goI t u v = (k : Int)) : ∃ p : Nat, goI t v u = (p : Int) ∧ p + 1 < t.length ∧ k + 1 < t.length := by
  rcases go_at (t := t) (u := u) (v := v) with ⟨k2, e, hkl, h1, h2, _⟩ | ⟨e, _⟩
  · have hkk : k = k2 := by omega
    subst hkk
    obtain ⟨j, hj⟩ := go_back hB h1 h2
    rcases go_at (t := t) (u := v) (v := u) with ⟨p, e2, hp, _⟩ | ⟨_, hn⟩
    · exact ⟨p, e2, hp, hkl⟩
    · have hj1 : j + 1 < t.length := by
        simp [goP] at hj
        exact (List.getElem?_eq_some_iff.1 hj.2).1
      rw [hn j hj1] at hj
      simp at hj
  · omega

/-- the part with the root, and the other one -/
def spT (t : List Int) (d p : Nat) : List Int × List Int × Bool := (t.take (d + 1) ++ t.drop (p + 2), (t.take (p + 1)).drop (d + 1), true)
/-- a tour, split at the edge of u and v -/
def spO (t : List Int) (u v : Int) : List Int × List Int × Bool :=
  if tB t = true ∧ 0 ≤ goI t u v then spT t (min (goI t u v) (goI t v u)).toNat (max (goI t u v) (goI t v u)).toNat else ([], [], false)
theorem spO_len (t : List Int) (u v : Int) : (spO t u v).1.length ≤ 200 ∧ (spO t u v).2.1.length ≤ 200 := by
  unfold spO
  by_cases h : tB t = true ∧ 0 ≤ goI t u v
  · rw [if_pos h]
    have := tB_len h.1
    simp [spT]
    omega
  · rw [if_neg h]; simp

/-- the answer: two lists, each of its own, and whether there are any -/
def T2Ans (w : World) (o : List Int × List Int × Bool) (e : Ending) (w' : World) : Prop :=
  ∃ a m c a' m' c' mid, e = .returned (.tuple #[.slice a m c, .slice a' m' c', .bool o.2.2]) ∧ w.heap.size ≤ mid ∧ RBox w' w.heap.size mid a m c o.1 ∧ RBox w' mid w'.heap.size a' m' c' o.2.1 ∧ Below w.heap.size w w'
/-- the same, where both may lie at one place -/
def S2Ans (w : World) (o : List Int × List Int × Bool) (e : Ending) (w' : World) : Prop :=
  ∃ a m c a' m' c', e = .returned (.tuple #[.slice a m c, .slice a' m' c', .bool o.2.2]) ∧ RBox w' w.heap.size w'.heap.size a m c o.1 ∧ RBox w' w.heap.size w'.heap.size a' m' c' o.2.1 ∧ Below w.heap.size w w'
theorem t2_no {w u : World} {o : List Int × List Int × Bool} (ho : o = ([], [], false)) (h : Below w.heap.size w u) : T2Ans w o (.returned (.tuple #[.slice none 0 0, .slice none 0 0, .bool false])) u := by
  subst ho
  exact ⟨none, 0, 0, none, 0, 0, w.heap.size, rfl, Nat.le_refl _, ⟨World.ownsRow_nil _ _ _ _, fun g hg => by simp [Value.ownBlock] at hg, h.size⟩, ⟨World.ownsRow_nil _ _ _ _, fun g hg => by simp [Value.ownBlock] at hg, Nat.le_refl _⟩, h⟩
end Go.Proofs.YtpfkfbmghddepaaGreat
