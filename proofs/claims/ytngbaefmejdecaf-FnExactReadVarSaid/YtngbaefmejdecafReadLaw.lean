/- The walk of FnExactReadVar: for every text and place the law returns true and nothing that was there has turned. -/
import Derived.Test.YtngbaefmejdecafReadS
import Derived.OpenShut
namespace Go.Proofs.Ytngbaefmejdecaf
open Go.RowKit Vt

theorem sReadVar_any (s : ByteArray) (hs : s.size ≤ 1048576) (a : Int) (w : World) :
    Calls Try.prog 8 #[.string s, .int .i64 a] w fun e w' => e = .returned (rvV (rvI s a)) ∧ Below w.heap.size w w' := by
  by_cases h : 0 ≤ a ∧ a ≤ s.size
  · obtain ⟨n, rfl⟩ := Int.eq_ofNat_of_zero_le h.1
    have e : rvI s (n : Int) = rv n (from_ s n) := by unfold rvI; rw [if_pos h, Int.toNat_natCast]
    rw [e]
    exact sReadVar_in s hs n (by omega) w
  · have e : rvI s a = none := by unfold rvI; rw [if_neg h]
    rw [e]
    refine (sReadVar_out s hs a (by omega) w).mono ?_
    rintro e w' ⟨rfl, rfl⟩
    exact ⟨rfl, Below.refl _ _⟩

theorem iReadVar_any (s : ByteArray) (hs : s.size ≤ 1048576) (a : Int) (w : World) :
    Calls Try.prog 9 #[.string s, .int .i64 a] w fun e w' => e = .returned (rvV (rvI s a)) ∧ w' = w := by
  by_cases h : 0 ≤ a ∧ a ≤ s.size
  · obtain ⟨n, rfl⟩ := Int.eq_ofNat_of_zero_le h.1
    have e : rvI s (n : Int) = rv n (from_ s n) := by unfold rvI; rw [if_pos h, Int.toNat_natCast]
    rw [e]
    exact iReadVar_in s hs n (by omega) w
  · have e : rvI s a = none := by unfold rvI; rw [if_neg h]
    rw [e]
    exact iReadVar_out s hs a (by omega) w

theorem fnExactReadVar.walk (s : ByteArray) (hs : s.size ≤ maxLen) (a : Int) (_ha : (Lit.int .i64 a).wf = true) (w : World) :
    Calls Try.prog 4 #[.string s, .int .i64 a] w fun e w' => e = .returned (.bool true) ∧ Below w.heap.size w w' := by
  unfold maxLen at hs
  by_cases hb : s.size ≤ 1048576
  · have H1 := fun w => sReadVar_any s hb a w
    have H2 := fun w => iReadVar_any s hb a w
    cases hr : rvI s a with
    | none =>
      rw [hr] at H1 H2
      unfold rvV at H1 H2
      have K1 : Hid _ := H1
      have K2 : Hid _ := H2
      clear H1 H2 hr
      go_enter Try.func4, Try.ntmps4
      go_wp2_with (go_at_call 8; refine (K1.out _).mono ?_; rintro e w1 ⟨rfl, hb1⟩)
      go_wp2_with (go_at_call 9; refine (K2.out _).mono ?_; rintro e w2 ⟨rfl, hw2⟩; subst hw2)
      go_ret
      exact ⟨rfl, hb1⟩
    | some p =>
      obtain ⟨n, j⟩ := p
      rw [hr] at H1 H2
      unfold rvV at H1 H2
      have K1 : Hid _ := H1
      have K2 : Hid _ := H2
      clear H1 H2 hr
      go_enter Try.func4, Try.ntmps4
      go_wp2_with (go_at_call 8; refine (K1.out _).mono ?_; rintro e w1 ⟨rfl, hb1⟩)
      go_wp2_with (go_at_call 9; refine (K2.out _).mono ?_; rintro e w2 ⟨rfl, hw2⟩; subst hw2)
      go_ret
      exact ⟨rfl, hb1⟩
  · go_enter Try.func4, Try.ntmps4
    go_wp2
    go_ret
    exact ⟨rfl, Below.refl _ _⟩
end Go.Proofs.Ytngbaefmejdecaf
