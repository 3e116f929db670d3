/- The program's EdgeOk. -/
import Derived.Test.YtcpffonenhhfoabE6
namespace Go.Proofs.Ytcpffonenhhfoab
open Go.RowKit

theorem vertsOk_any (x : Int) (w : World) : Calls Try.prog 51 #[.int .i64 x] w fun e w' => e = .returned (.bool (decide (1 ≤ x ∧ x ≤ 12))) ∧ w' = w := by
  by_cases h1 : 1 ≤ x
  · by_cases h2 : x ≤ 12
    · have d1 : decide (1 ≤ x) = true := by simpa using h1
      have d2 : decide (x ≤ 12) = true := by simpa using h2
      go_enter Try.func51, Try.ntmps51
      go_wp2
      go_ret
      exact ⟨by simp [h1, h2], rfl⟩
    · have d1 : decide (1 ≤ x) = true := by simpa using h1
      have d2 : decide (x ≤ 12) = false := by simpa using h2
      go_enter Try.func51, Try.ntmps51
      go_wp2
      go_ret
      exact ⟨by simp, rfl⟩
  · have d1 : decide (1 ≤ x) = false := by simpa using h1
    go_enter Try.func51, Try.ntmps51
    go_wp2
    go_ret
    exact ⟨by simp, rfl⟩

theorem iEdgeOk_any (n : Int) (e : EdgeV) (w : World) :
    Calls Try.prog 28 #[.int .i64 n, .agg #[.int .i64 e.1, .int .i64 e.2]] w fun x w' => x = .returned (.bool (eB n e)) ∧ Below w.heap.size w w' := by
  obtain ⟨a, b⟩ := e
  dsimp only
  have HI := hideIt vertsOk_any
  by_cases h1 : 1 ≤ n ∧ n ≤ 12
  · have r1 : decide (1 ≤ n ∧ n ≤ 12) = true := by simpa using h1
    by_cases h2 : 0 ≤ a
    · have r2 : decide (0 ≤ a) = true := by simpa using h2
      by_cases h3 : a < b
      · have r3 : decide (a < b) = true := by simpa using h3
        go_enter Try.func28, Try.ntmps28
        go_wp2_with (go_at_call 51; refine (HI.out _ _).mono ?_; rintro e w1 ⟨rfl, rfl⟩)
        go_ret
        exact ⟨bret (by dsimp only; omega), (Below.refl _ _).alloc (Nat.le_refl _) _⟩
      · have r3 : decide (a < b) = false := by simpa using h3
        go_enter Try.func28, Try.ntmps28
        go_wp2_with (go_at_call 51; refine (HI.out _ _).mono ?_; rintro e w1 ⟨rfl, rfl⟩)
        go_ret
        exact ⟨by simp [eB]; omega, (Below.refl _ _).alloc (Nat.le_refl _) _⟩
    · have r2 : decide (0 ≤ a) = false := by simpa using h2
      go_enter Try.func28, Try.ntmps28
      go_wp2_with (go_at_call 51; refine (HI.out _ _).mono ?_; rintro e w1 ⟨rfl, rfl⟩)
      go_ret
      exact ⟨by simp [eB]; omega, (Below.refl _ _).alloc (Nat.le_refl _) _⟩
  · have r1 : decide (1 ≤ n ∧ n ≤ 12) = false := by simpa using h1
    go_enter Try.func28, Try.ntmps28
    go_wp2_with (go_at_call 51; refine (HI.out _ _).mono ?_; rintro e w1 ⟨rfl, rfl⟩)
    go_ret
    exact ⟨by simp [eB]; omega, (Below.refl _ _).alloc (Nat.le_refl _) _⟩

end Go.Proofs.Ytcpffonenhhfoab
