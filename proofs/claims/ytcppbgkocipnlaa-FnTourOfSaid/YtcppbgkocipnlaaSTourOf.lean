/- The specification's TourOf, where there is no ring. -/
import Derived.Test.YtcppbgkocipnlaaSWalk
namespace Go.Proofs.Ytcppbgkocipnlaa
open Go.RowKit

theorem info4b : (Try.prog.info? 4).map (fun i => (i.zero, i.size, i.bytes)) = some (some (.bool false), 1, 1) := by kernel_rfl
theorem arr_made (w : World) (n : Nat) : Arr (w.alloc (.cells (madeCells #[.bool false] n) 4)) w.heap.size n [] := by
  have hb : (w.alloc (.cells (madeCells #[.bool false] n) 4)).heap[w.heap.size]? = some (.cells (madeCells #[.bool false] n) 4 (0, 0)) := heap_alloc_new w _
  refine ⟨fun j hj => ?_, fun j => frozen_of_row _ _ j _ _ hb, by simp⟩
  rw [cell_of_row _ _ j _ _ _ hb]
  simp [madeCells, hj, Nat.mod_one]
set_option maxRecDepth 100000 in
set_option maxHeartbeats 4000000 in
theorem sTourOf_any (es : List EdgeV) (n ne r : Nat) (a : Option Addr) (c : Nat) (t sn : List Int) (hn0 : 1 ≤ n) (hn : n ≤ 12) (hne : ne ≤ 1000) (hr : r < n) (hok : ∀ e ∈ es, eB (n : Int) e = true) (hwk : wk es n n (r : Int) (-1) [] = some (t, sn)) (htl : t.length ≤ 1000) (w : World) (h : Es w w.heap.size a ne es) :
    Calls Try.prog 21 #[.int .i64 (n : Int), .slice a ne c, .int .i64 (r : Int)] w fun e w' => ∃ a' m c', e = .returned (.tuple #[.slice a' m c', .bool true]) ∧ w'.ownsRow w.heap.size 3 1 (.slice a' m c') m (ic t) ∧ Below w.heap.size w w' := by
  obtain ⟨i0, hi, hz0, hz1, hz2⟩ := info_parts info4b
  have HM : Hid (∀ u : World, (Instr.makeSlice 70 (.int .i64 (n : Int)) (.int .i64 (n : Int))).run Try.prog u =
      .ok (.slice (some ⟨u.heap.size, 0, none⟩) n n) (u.alloc (.cells (madeCells #[.bool false] n) 4))) := fun u => by
    have h := run_make (P := Try.prog) u 70 4 i0 _ Try.underlying70 hi hz0 .i64 .i64 (n : Int) (n : Int) (by omega) (by omega) (by rw [hz2]; omega) (by omega)
    rw [Int.toNat_natCast] at h
    simpa [hz1, Value.cells] using h
  have HE := hideIt h
  have HOk := hideIt hok
  have hlen := h.1
  have HI1 := l01In_any (n : Int) 1 12 w
  rw [decide_eq_true (by omega)] at HI1
  have HI1 := hideIt HI1
  have HI2 := l01In_any (r : Int) 0 ((n : Int) - 1) w
  rw [decide_eq_true (by omega)] at HI2
  have HI2 := hideIt HI2
  have HWk : Hid (∀ u, Below w.heap.size w u → Calls Try.prog 50 #[.int .i64 (n : Int), .slice a ne c, .int .i64 (r : Int), .int .i64 (-1), .slice (some ⟨u.heap.size, 0, none⟩) n n] (u.alloc (.cells (madeCells #[.bool false] n) 4)) fun e w' => ∃ a' m c', e = .returned (.tuple #[.slice a' m c', .bool false]) ∧ w'.ownsRow w.heap.size 3 1 (.slice a' m c') m (ic t) ∧ Below w.heap.size w w') := fun u hu => by
    have hb : Below u.heap.size u (u.alloc (.cells (madeCells #[.bool false] n) 4)) := (Below.refl _ _).alloc (Nat.le_refl _) _
    refine (l06Walk_any es n ne a c u.heap.size n hn hne n r (-1) [] _ t sn hwk htl hr ((HE.out.up hu).below hb (Nat.le_refl _)) (arr_made u n)).mono ?_
    rintro e w' ⟨a', m, c', he, ho, hg, _⟩
    exact ⟨a', m, c', he, own_mono ho (by have := hu.size; simp; omega), (hu.trans (hb.mono hu.size)).grown hg (by have := hu.size; simp; omega) (fun j e => by cases e; exact hu.size)⟩
  clear h hok hwk
  go_enter Try.func21, Try.ntmps21
  go_wp2_with (first | (go_at_call 48; refine HI1.out.mono ?_; clear HI1; rintro e w1 ⟨rfl, hw⟩; have hw' := hw.symm; subst hw'; clear hw) | (go_at_call 48; refine HI2.out.mono ?_; rintro e w1 ⟨rfl, hw⟩; have hw' := hw.symm; subst hw'; clear hw))
  go_loopw [8] (fun i wr => ∃ (k : Nat), k ≤ ne ∧ i = .int .i64 (k : Int) ∧ Good w wr) (fun i _ => ne - (intOf i).toNat)
  case atStart => exact ⟨0, by omega, rfl, Good.refl _⟩
  case round =>
    obtain ⟨k, hk, rfl, hg⟩ := hrel
    by_cases hlt : k < ne
    · rcases HE.out.2 with hz | ⟨b, off, rfl, hbl, hc⟩
      · omega
      · obtain ⟨f, hf⟩ : ∃ f, es[k]? = some f := ⟨es[k]'(by omega), List.getElem?_eq_getElem (by omega)⟩
        have e0 : wr.cell? ⟨b, off + k * 2, none⟩ = some (.int .i64 f.1) := by rw [Below.cell hg hbl]; exact (hc k f hf).1
        have e1 : wr.cell? ⟨b, off + k * 2 + 1, none⟩ = some (.int .i64 f.2) := by rw [Below.cell hg hbl]; exact (hc k f hf).2
        have b1 : (0 : Int) ≤ (k : Int) := by omega
        have b2 : (k : Int) < (ne : Int) := by omega
        have HS := sEdgeOk_any (n : Int) f wr
        rw [HOk.out f (List.mem_of_getElem? hf)] at HS
        have HS := hideIt HS
        clear hc hf
        go_wp2_with (go_at_call 49; refine HS.out.mono ?_; rintro e w1 ⟨rfl, hb1⟩)
        exact ⟨⟨k + 1, by omega, by go_num, hg.up hb1⟩, by simp [intOf]; omega⟩
    · have HW := hideIt (HWk.out wr hg)
      have hmk := HM.out wr
      clear HWk
      go_wp2_with (go_at_call 50; refine HW.out.mono ?_; rintro e w4 ⟨a4, m4, c4, rfl, ho4, hb4⟩)
      go_ret2
      exact ⟨a4, m4, c4, rfl, ho4, hb4⟩
end Go.Proofs.Ytcppbgkocipnlaa
