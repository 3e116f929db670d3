/- The program's and the specification's EventOk. -/
import Derived.Test.YtgdlpmmbeacejaaDoorKOpenGraph
import Derived.Test.YtgdlpmmbeacejaaDoorKHe13
namespace Go.Proofs.YtgdlpmmbeacejaaDoor
open Go.RowKit

theorem evShOk (x : Int) (w : World) : Calls Tryd.prog 58 #[.int .i64 x] w fun e w' => e = .returned (.bool (decide (1 ≤ x ∧ x ≤ 3))) ∧ w' = w := by
  by_cases h1 : 1 ≤ x
  · by_cases h2 : x ≤ 3
    · have d1 : decide (1 ≤ x) = true := by simpa using h1
      have d2 : decide (x ≤ 3) = true := by simpa using h2
      go_enter Tryd.func58, Tryd.ntmps58
      go_wp2
      go_ret
      exact ⟨by simp [h1, h2], rfl⟩
    · have d1 : decide (1 ≤ x) = true := by simpa using h1
      have d2 : decide (x ≤ 3) = false := by simpa using h2
      go_enter Tryd.func58, Tryd.ntmps58
      go_wp2
      go_ret
      exact ⟨by simp, rfl⟩
  · have d1 : decide (1 ≤ x) = false := by simpa using h1
    go_enter Tryd.func58, Tryd.ntmps58
    go_wp2
    go_ret
    exact ⟨by simp, rfl⟩

theorem evNumOk (x : Int) (w : World) : Calls Tryd.prog 65 #[.int .i64 x] w fun e w' => e = .returned (.bool (decide (1 ≤ x ∧ x ≤ 100000))) ∧ w' = w := by
  by_cases h1 : 1 ≤ x
  · by_cases h2 : x ≤ 100000
    · have d1 : decide (1 ≤ x) = true := by simpa using h1
      have d2 : decide (x ≤ 100000) = true := by simpa using h2
      go_enter Tryd.func65, Tryd.ntmps65
      go_wp2
      go_ret
      exact ⟨by simp [h1, h2], rfl⟩
    · have d1 : decide (1 ≤ x) = true := by simpa using h1
      have d2 : decide (x ≤ 100000) = false := by simpa using h2
      go_enter Tryd.func65, Tryd.ntmps65
      go_wp2
      go_ret
      exact ⟨by simp, rfl⟩
  · have d1 : decide (1 ≤ x) = false := by simpa using h1
    go_enter Tryd.func65, Tryd.ntmps65
    go_wp2
    go_ret
    exact ⟨by simp, rfl⟩

theorem evFits (x : Int) (w : World) : Calls Tryd.prog 64 #[.int .i64 x] w fun e w' => e = .returned (.bool (decide (0 ≤ x ∧ x ≤ 100000))) ∧ w' = w := by
  by_cases h1 : 0 ≤ x
  · by_cases h2 : x ≤ 100000
    · have d1 : decide (0 ≤ x) = true := by simpa using h1
      have d2 : decide (x ≤ 100000) = true := by simpa using h2
      go_enter Tryd.func64, Tryd.ntmps64
      go_wp2
      go_ret
      exact ⟨by simp [h1, h2], rfl⟩
    · have d1 : decide (0 ≤ x) = true := by simpa using h1
      have d2 : decide (x ≤ 100000) = false := by simpa using h2
      go_enter Tryd.func64, Tryd.ntmps64
      go_wp2
      go_ret
      exact ⟨by simp, rfl⟩
  · have d1 : decide (0 ≤ x) = false := by simpa using h1
    go_enter Tryd.func64, Tryd.ntmps64
    go_wp2
    go_ret
    exact ⟨by simp, rfl⟩

/-- the numbers of a question fit a record -/
def N1 (x : Int) : Prop := 1 ≤ x ∧ x ≤ 100000
def N0 (x : Int) : Prop := 0 ≤ x ∧ x ≤ 100000
instance (x : Int) : Decidable (N1 x) := by unfold N1; infer_instance
instance (x : Int) : Decidable (N0 x) := by unfold N0; infer_instance
def akB (i o a b : Int) : Bool := decide (N1 i ∧ N0 o ∧ N0 a ∧ N0 b)
def evB (sh k nd t : Int) (i o a b : Int) (n : Nat) : Bool := decide (1 ≤ sh ∧ sh ≤ 3 ∧ 1 ≤ k ∧ k ≤ 7 ∧ 0 ≤ nd ∧ nd ≤ sh ∧ 0 ≤ t ∧ n ≤ 30) && (k != 1 || akB i o a b)
theorem evNum_t {x : Int} (h : N1 x) (w : World) : Calls Tryd.prog 65 #[.int .i64 x] w fun e w' => e = .returned (.bool true) ∧ w' = w := by have := evNumOk x w; rwa [show decide (1 ≤ x ∧ x ≤ 100000) = true from decide_eq_true h] at this
theorem evNum_f {x : Int} (h : ¬ N1 x) (w : World) : Calls Tryd.prog 65 #[.int .i64 x] w fun e w' => e = .returned (.bool false) ∧ w' = w := by have := evNumOk x w; rwa [show decide (1 ≤ x ∧ x ≤ 100000) = false from decide_eq_false h] at this
theorem evFit_t {x : Int} (h : N0 x) (w : World) : Calls Tryd.prog 64 #[.int .i64 x] w fun e w' => e = .returned (.bool true) ∧ w' = w := by have := evFits x w; rwa [show decide (0 ≤ x ∧ x ≤ 100000) = true from decide_eq_true h] at this
theorem evFit_f {x : Int} (h : ¬ N0 x) (w : World) : Calls Tryd.prog 64 #[.int .i64 x] w fun e w' => e = .returned (.bool false) ∧ w' = w := by have := evFits x w; rwa [show decide (0 ≤ x ∧ x ≤ 100000) = false from decide_eq_false h] at this
theorem evIn {x l r : Int} (q : Bool) (h : decide (l ≤ x ∧ x ≤ r) = q) (w : World) : Calls Tryd.prog 35 #[.int .i64 x, .int .i64 l, .int .i64 r] w fun e w' => e = .returned (.bool q) ∧ w' = w := by have := l01In_any x l r w; rwa [h] at this

set_option maxRecDepth 100000 in
set_option maxHeartbeats 4000000 in
theorem fitsRec_any (i o a b : Int) (w : World) : Calls Tryd.prog 59 #[akV i o a b] w fun e w' => e = .returned (.bool (akB i o a b)) ∧ Below w.heap.size w w' := by
  have HB := hideIt (belA w (.cells #[.int .i64 i, .int .i64 o, .int .i64 a, .int .i64 b] 38))
  unfold akV
  by_cases c0 : N1 i
  · by_cases c1 : N0 o
    · by_cases c2 : N0 a
      · by_cases c3 : N0 b
        · have HR : akB i o a b = true := by simp [akB, *]
          have H0 := hideIt (fun u => evNum_t c0 u)
          have H1 := hideIt (fun u => evFit_t c1 u)
          have H2 := hideIt (fun u => evFit_t c2 u)
          have H3 := hideIt (fun u => evFit_t c3 u)
          clear c0 c1 c2 c3
          go_enter Tryd.func59, Tryd.ntmps59
          go_wp2_with (go_at_call 65; refine (H0.out _).mono ?_; rintro e w1 ⟨rfl, rfl⟩; refine Hid.out ?_)
          refine (show ∀ {p : Prop}, p → Hid p from fun h => h) ?_
          go_wp2_with (go_at_call 64; refine (H1.out _).mono ?_; rintro e w1 ⟨rfl, rfl⟩; refine Hid.out ?_)
          refine (show ∀ {p : Prop}, p → Hid p from fun h => h) ?_
          go_wp2_with (go_at_call 64; refine (H2.out _).mono ?_; rintro e w1 ⟨rfl, rfl⟩; refine Hid.out ?_)
          refine (show ∀ {p : Prop}, p → Hid p from fun h => h) ?_
          go_wp2_with (go_at_call 64; refine (H3.out _).mono ?_; rintro e w1 ⟨rfl, rfl⟩)
          go_ret
          exact ⟨by rw [HR]; rfl, HB.out⟩
        · have HR : akB i o a b = false := by simp [akB, *]
          have H0 := hideIt (fun u => evNum_t c0 u)
          have H1 := hideIt (fun u => evFit_t c1 u)
          have H2 := hideIt (fun u => evFit_t c2 u)
          have H3 := hideIt (fun u => evFit_f c3 u)
          clear c0 c1 c2 c3
          go_enter Tryd.func59, Tryd.ntmps59
          go_wp2_with (go_at_call 65; refine (H0.out _).mono ?_; rintro e w1 ⟨rfl, rfl⟩; refine Hid.out ?_)
          refine (show ∀ {p : Prop}, p → Hid p from fun h => h) ?_
          go_wp2_with (go_at_call 64; refine (H1.out _).mono ?_; rintro e w1 ⟨rfl, rfl⟩; refine Hid.out ?_)
          refine (show ∀ {p : Prop}, p → Hid p from fun h => h) ?_
          go_wp2_with (go_at_call 64; refine (H2.out _).mono ?_; rintro e w1 ⟨rfl, rfl⟩; refine Hid.out ?_)
          refine (show ∀ {p : Prop}, p → Hid p from fun h => h) ?_
          go_wp2_with (go_at_call 64; refine (H3.out _).mono ?_; rintro e w1 ⟨rfl, rfl⟩)
          go_ret
          exact ⟨by rw [HR]; rfl, HB.out⟩
      · have HR : akB i o a b = false := by simp [akB, *]
        have H0 := hideIt (fun u => evNum_t c0 u)
        have H1 := hideIt (fun u => evFit_t c1 u)
        have H2 := hideIt (fun u => evFit_f c2 u)
        clear c0 c1 c2
        go_enter Tryd.func59, Tryd.ntmps59
        go_wp2_with (go_at_call 65; refine (H0.out _).mono ?_; rintro e w1 ⟨rfl, rfl⟩; refine Hid.out ?_)
        refine (show ∀ {p : Prop}, p → Hid p from fun h => h) ?_
        go_wp2_with (go_at_call 64; refine (H1.out _).mono ?_; rintro e w1 ⟨rfl, rfl⟩; refine Hid.out ?_)
        refine (show ∀ {p : Prop}, p → Hid p from fun h => h) ?_
        go_wp2_with (go_at_call 64; refine (H2.out _).mono ?_; rintro e w1 ⟨rfl, rfl⟩)
        go_ret
        exact ⟨by rw [HR]; rfl, HB.out⟩
    · have HR : akB i o a b = false := by simp [akB, *]
      have H0 := hideIt (fun u => evNum_t c0 u)
      have H1 := hideIt (fun u => evFit_f c1 u)
      clear c0 c1
      go_enter Tryd.func59, Tryd.ntmps59
      go_wp2_with (go_at_call 65; refine (H0.out _).mono ?_; rintro e w1 ⟨rfl, rfl⟩; refine Hid.out ?_)
      refine (show ∀ {p : Prop}, p → Hid p from fun h => h) ?_
      go_wp2_with (go_at_call 64; refine (H1.out _).mono ?_; rintro e w1 ⟨rfl, rfl⟩)
      go_ret
      exact ⟨by rw [HR]; rfl, HB.out⟩
  · have HR : akB i o a b = false := by simp [akB, *]
    have H0 := hideIt (fun u => evNum_f c0 u)
    clear c0
    go_enter Tryd.func59, Tryd.ntmps59
    go_wp2_with (go_at_call 65; refine (H0.out _).mono ?_; rintro e w1 ⟨rfl, rfl⟩)
    go_ret
    exact ⟨by rw [HR]; rfl, HB.out⟩
end Go.Proofs.YtgdlpmmbeacejaaDoor
