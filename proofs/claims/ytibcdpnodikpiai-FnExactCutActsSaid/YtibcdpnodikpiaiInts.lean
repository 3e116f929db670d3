/- Lists of ints: toIntS, eqIntS, markIntS. -/
import Derived.Test.YtibcdpnodikpiaiIsR
namespace Go.Proofs.Ytibcdpnodikpiai
open Go.RowKit

set_option maxHeartbeats 1000000 in
theorem toIntS_any (ls : List Int) (n : Nat) (a : Option Addr) (cap : Nat) (hn : n ≤ 1048576) (w : World) (h : Is w w.heap.size a n ls) :
    Calls Try.prog 24 #[.slice a n cap] w fun e w' => ∃ g, e = .returned (.slice (some ⟨g, 0, none⟩) n n) ∧ w'.ownsRow w.heap.size 3 1 (.slice (some ⟨g, 0, none⟩) n n) n (ic ls) ∧ Below w.heap.size w w' := by
  obtain ⟨i0, hi, hz0, hz1, hz2⟩ := info_parts info3i
  obtain ⟨hlen, hrow⟩ := h
  have hmk : ∀ u : World, (Instr.makeSlice 49 (.int .i64 (n : Int)) (.int .i64 (n : Int))).run Try.prog u =
      .ok (.slice (some ⟨u.heap.size, 0, none⟩) n n) (u.alloc (.cells (madeCells #[.int .i64 0] n) 3)) := fun u => by
    have h := run_make (P := Try.prog) u 49 3 i0 _ Try.underlying49 hi hz0 .i64 .i64 (n : Int) (n : Int) (by omega) (by omega) (by rw [hz2]; omega) (by omega)
    rw [Int.toNat_natCast] at h
    simpa [hz1, Value.cells] using h
  have HR := hideIt hrow
  clear hrow
  go_enter Try.func24, Try.ntmps24
  go_wp2
  go_loopw [4] (fun i wr => ∃ (k : Nat) (xs : List Value), k ≤ n ∧ i = .int .i64 (k : Int) ∧ Hid (xs.take k = ic (ls.take k)) ∧ wr.ownsRow w.heap.size 3 1 (.slice (some ⟨w.heap.size, 0, none⟩) n n) n xs ∧ Below w.heap.size w wr)
    (fun i _ => n - (intOf i).toNat)
  case atStart => exact ⟨0, _, by omega, rfl, by show _ = _; simp [ic], World.ownsRow_lit (base := w.heap.size) (e := 3) (size := 1) w (madeCells #[.int .i64 0] n) n (Nat.le_refl _) (by unfold maxLen; omega) (by simp [madeCells]), (Below.refl _ _).alloc (Nat.le_refl _) _⟩
  case round =>
    obtain ⟨k, xs, hk, rfl, hx, hown, hb⟩ := hrel
    have hl3 : xs.length = n * 1 := hown.1
    by_cases hlt : k < n
    · rcases HR.out with hz | ⟨b, off, rfl, hbl, hc⟩
      · omega
      · obtain ⟨f, hf⟩ : ∃ f, ls[k]? = some f := ⟨ls[k]'(by omega), List.getElem?_eq_getElem (by omega)⟩
        have e0 : wr.cell? ⟨b, off + k, none⟩ = some (.int .i64 f) := by rw [hb.cell hbl]; exact hc k f hf
        have b1 : (0 : Int) ≤ (k : Int) := by omega
        have b2 : (k : Int) < (n : Int) := by omega
        have HTk := hideIt (take_snocF ls k f hf)
        have f0 := hown.frozenAt k
        have x0 : wr.cell? ⟨w.heap.size, k, none⟩ = some (xs[k]'(by omega)) := by rw [hown.cellAt k (by omega)]; exact List.getElem?_eq_getElem (by omega)
        clear hc hf
        go_wp2
        refine ⟨⟨k + 1, xs.set k (.int .i64 f), by omega, by go_num, ?_, (hown.stored k _).1, hb.setCell (Nat.le_refl _) _⟩, by simp [intOf]; omega⟩
        show _ = _
        rw [HTk.out, List.take_add_one, List.take_set_of_le (Nat.le_refl _), hx.out]
        simp [ic, show k < xs.length by omega]
    · have e : ls.take k = ls := List.take_of_length_le (by omega)
      have HX : Hid (xs = ic ls) := by
        show _ = _
        have := hx.out
        rw [e, List.take_of_length_le (by omega)] at this
        exact this
      have HO := hideIt hown
      clear hx e hown hl3
      go_wp2
      go_ret
      exact ⟨w.heap.size, rfl, by rw [← HX.out]; exact HO.out, hb⟩

set_option maxHeartbeats 1000000 in
theorem eqIntS_same (ls : List Int) (n : Nat) (a a' : Option Addr) (c c' : Nat) (hn : n ≤ 1048576) (w : World) (h : Is w w.heap.size a n ls) (h' : Is w w.heap.size a' n ls) :
    Calls Try.prog 26 #[.slice a n c, .slice a' n c'] w fun e w' => e = .returned (.bool true) ∧ Below w.heap.size w w' := by
  obtain ⟨hlen, hrow⟩ := h
  obtain ⟨_, hrow'⟩ := h'
  have HR := hideIt hrow
  have HR' := hideIt hrow'
  clear hrow hrow'
  have dn : ((n : Int) != (n : Int)) = false := by simp
  go_enter Try.func26, Try.ntmps26
  go_wp2
  go_loopw [5] (fun i wr => ∃ (k : Nat), k ≤ n ∧ i = .int .i64 (k : Int) ∧ Below w.heap.size w wr) (fun i _ => n - (intOf i).toNat)
  case atStart => exact ⟨0, by omega, rfl, Below.refl _ _⟩
  case round =>
    obtain ⟨k, hk, rfl, hb⟩ := hrel
    by_cases hlt : k < n
    · rcases HR.out with hz | ⟨b, off, rfl, hbl, hc⟩
      · omega
      · rcases HR'.out with hz | ⟨b', off', rfl, hbl', hc'⟩
        · omega
        · obtain ⟨f, hf⟩ : ∃ f, ls[k]? = some f := ⟨ls[k]'(by omega), List.getElem?_eq_getElem (by omega)⟩
          have e0 : wr.cell? ⟨b, off + k, none⟩ = some (.int .i64 f) := by rw [hb.cell hbl]; exact hc k f hf
          have e1 : wr.cell? ⟨b', off' + k, none⟩ = some (.int .i64 f) := by rw [hb.cell hbl']; exact hc' k f hf
          have b1 : (0 : Int) ≤ (k : Int) := by omega
          have b2 : (k : Int) < (n : Int) := by omega
          have d1 : (f != f) = false := by simp
          clear hc hc' hf
          go_wp2
          go_quiet (fail)
          go_wp2
          exact ⟨⟨k + 1, by omega, by go_num, below_drewN hb _⟩, by simp [intOf]; omega⟩
    · go_wp2
      go_ret
      exact ⟨rfl, hb⟩

set_option maxHeartbeats 1000000 in
theorem markIntS_any (base g c n k0 : Nat) (xs0 : List Value) (hn : n ≤ 1048576) (hk1 : k0 ≤ 10000000) (w : World) (h : w.ownsRow base 3 1 (.slice (some ⟨g, 0, none⟩) n c) n xs0) :
    Calls Try.prog 27 #[.slice (some ⟨g, 0, none⟩) n c, .int .i64 (k0 : Int)] w fun e w' => e = .returned (.int .i64 ((k0 : Int) + (n : Int))) ∧ w.grownBy w' (some g) := by
  have hbs := (h.lt g rfl)
  have H0 := hideIt h
  clear h
  go_enter Try.func27, Try.ntmps27
  go_wp2
  go_loopw [1, 5] (fun q i wr => ∃ (k : Nat) (xs : List Value), k ≤ n ∧ i = .int .i64 (k : Int) ∧ q = .int .i64 ((k0 : Int) + (k : Int)) ∧ wr.ownsRow base 3 1 (.slice (some ⟨g, 0, none⟩) n c) n xs ∧ w.grownBy wr (some g)) (fun _ i _ => n - (intOf i).toNat)
  case atStart => exact ⟨0, xs0, by omega, rfl, by simp, H0.out, ⟨rfl, rfl, rfl, Nat.le_refl _, fun _ _ _ => rfl⟩⟩
  case round =>
    obtain ⟨k, xs, hk, rfl, rfl, hown, hg⟩ := hrel
    have hl3 : xs.length = n * 1 := hown.1
    by_cases hlt : k < n
    · have b1 : (0 : Int) ≤ (k : Int) := by omega
      have b2 : (k : Int) < (n : Int) := by omega
      have f0 := hown.frozenAt k
      have x0 : wr.cell? ⟨g, k, none⟩ = some (xs[k]'(by omega)) := by rw [hown.cellAt k (by omega)]; exact List.getElem?_eq_getElem (by omega)
      have hg2 := hideIt (show w.grownBy (wr.setCell ⟨g, k, none⟩ (.int .i64 ((k0 : Int) + (k : Int)))) (some g) from
        ⟨hg.os, hg.tape, hg.output, by simpa [World.setCell] using hg.size, fun j hj hne => by rw [heap_setCell_other wr ⟨g, k, none⟩ j _ (by simpa using hne)]; exact hg.block j hj hne⟩)
      go_wp2
      exact ⟨⟨k + 1, _, by omega, by go_num, by go_num, (hown.stored k _).1, hg2.out⟩, by simp [intOf]; omega⟩
    · obtain rfl : k = n := by omega
      go_wp2
      go_ret
      exact ⟨rfl, hg⟩
end Go.Proofs.Ytibcdpnodikpiai
