/- What the two ReadVar answer at every text and place, in one form. -/
import Derived.Test.YtngbaefmejdecagReadS
import Derived.OpenShut
namespace Go.Proofs.Ytngbaefmejdecag
open Go.RowKit Vt

theorem sReadVar_any (s : ByteArray) (hs : s.size ≤ 1048576) (a : Int) (w : World) :
    Calls Try.prog 15 #[.string s, .int .i64 a] w fun e w' => e = .returned (rvV (rvI s a)) ∧ Below w.heap.size w w' := by
  by_cases h : 0 ≤ a ∧ a ≤ s.size
  · obtain ⟨n, rfl⟩ := Int.eq_ofNat_of_zero_le h.1
    have e : rvI s (n : Int) = rv n (from_ s n) := by unfold rvI; rw [if_pos h, Int.toNat_natCast]
    rw [e]
    exact sReadVar_in s hs n (by omega) w
  · have e : rvI s a = none := by unfold rvI; rw [if_neg h]
    rw [e]
    refine (sReadVar_out s hs a (by omega) w).mono ?_
    rintro e w' ⟨rfl, rfl⟩
    exact ⟨rfl, Below.refl _ _⟩

theorem iReadVar_any (s : ByteArray) (hs : s.size ≤ 1048576) (a : Int) (w : World) :
    Calls Try.prog 16 #[.string s, .int .i64 a] w fun e w' => e = .returned (rvV (rvI s a)) ∧ w' = w := by
  by_cases h : 0 ≤ a ∧ a ≤ s.size
  · obtain ⟨n, rfl⟩ := Int.eq_ofNat_of_zero_le h.1
    have e : rvI s (n : Int) = rv n (from_ s n) := by unfold rvI; rw [if_pos h, Int.toNat_natCast]
    rw [e]
    exact iReadVar_in s hs n (by omega) w
  · have e : rvI s a = none := by unfold rvI; rw [if_neg h]
    rw [e]
    exact iReadVar_out s hs a (by omega) w

end Go.Proofs.Ytngbaefmejdecag
