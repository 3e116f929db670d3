/- toIntS: a list of ints laid anew. -/
import Derived.Test.YtcpffonenhhfoabB6
namespace Go.Proofs.Ytcpffonenhhfoab
open Go.RowKit

set_option maxHeartbeats 1000000 in
theorem toIntS_any (ls : List Int) (n : Nat) (a : Option Addr) (cap : Nat) (hn : n ≤ 1048576) (w : World) (h : Is w w.heap.size a n ls) :
    Calls Try.prog 48 #[.slice a n cap] w fun e w' => ∃ g, e = .returned (.slice (some ⟨g, 0, none⟩) n n) ∧ w'.ownsRow w.heap.size 3 1 (.slice (some ⟨g, 0, none⟩) n n) n (ic ls) ∧ Below w.heap.size w w' := by
  obtain ⟨i0, hi, hz0, hz1, hz2⟩ := info_parts info3i
  obtain ⟨hlen, hrow⟩ := h
  have hmk : ∀ u : World, (Instr.makeSlice 45 (.int .i64 (n : Int)) (.int .i64 (n : Int))).run Try.prog u =
      .ok (.slice (some ⟨u.heap.size, 0, none⟩) n n) (u.alloc (.cells (madeCells #[.int .i64 0] n) 3)) := fun u => by
    have h := run_make (P := Try.prog) u 45 3 i0 _ Try.underlying45 hi hz0 .i64 .i64 (n : Int) (n : Int) (by omega) (by omega) (by rw [hz2]; omega) (by omega)
    rw [Int.toNat_natCast] at h
    simpa [hz1, Value.cells] using h
  have HR := hideIt hrow
  clear hrow
  go_enter Try.func48, Try.ntmps48
  go_wp2
  go_loopw [4] (fun i wr => ∃ (k : Nat) (xs : List Value), k ≤ n ∧ i = .int .i64 (k : Int) ∧ Hid (xs.take k = ic (ls.take k)) ∧ wr.ownsRow w.heap.size 3 1 (.slice (some ⟨w.heap.size, 0, none⟩) n n) n xs ∧ Below w.heap.size w wr)
    (fun i _ => n - (intOf i).toNat)
  case atStart => exact ⟨0, _, by omega, rfl, by show _ = _; simp [ic], World.ownsRow_lit (base := w.heap.size) (e := 3) (size := 1) w (madeCells #[.int .i64 0] n) n (Nat.le_refl _) (by unfold maxLen; omega) (by simp [madeCells]), (Below.refl _ _).alloc (Nat.le_refl _) _⟩
  case round =>
    obtain ⟨k, xs, hk, rfl, hx, hown, hb⟩ := hrel
    have hl3 : xs.length = n * 1 := hown.1
    by_cases hlt : k < n
    · rcases HR.out with hz | ⟨b, off, rfl, hbl, hc⟩
      · omega
      · obtain ⟨f, hf⟩ : ∃ f, ls[k]? = some f := ⟨ls[k]'(by omega), List.getElem?_eq_getElem (by omega)⟩
        have e0 : wr.cell? ⟨b, off + k, none⟩ = some (.int .i64 f) := by rw [hb.cell hbl]; exact hc k f hf
        have b1 : (0 : Int) ≤ (k : Int) := by omega
        have b2 : (k : Int) < (n : Int) := by omega
        have HTk := hideIt (take_snocF ls k f hf)
        have f0 := hown.frozenAt k
        have x0 : wr.cell? ⟨w.heap.size, k, none⟩ = some (xs[k]'(by omega)) := by rw [hown.cellAt k (by omega)]; exact List.getElem?_eq_getElem (by omega)
        clear hc hf
        go_wp2
        refine ⟨⟨k + 1, xs.set k (.int .i64 f), by omega, by go_num, ?_, (hown.stored k _).1, hb.setCell (Nat.le_refl _) _⟩, by simp [intOf]; omega⟩
        show _ = _
        rw [HTk.out, List.take_add_one, List.take_set_of_le (Nat.le_refl _), hx.out]
        simp [ic, show k < xs.length by omega]
    · have e : ls.take k = ls := List.take_of_length_le (by omega)
      have HX : Hid (xs = ic ls) := by
        show _ = _
        have := hx.out
        rw [e, List.take_of_length_le (by omega)] at this
        exact this
      have HO := hideIt hown
      clear hx e hown hl3
      go_wp2
      go_ret
      exact ⟨w.heap.size, rfl, by rw [← HX.out]; exact HO.out, hb⟩

end Go.Proofs.Ytcpffonenhhfoab
