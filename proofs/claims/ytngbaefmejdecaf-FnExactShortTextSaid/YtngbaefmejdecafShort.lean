/- What the two ShortText answer at every text, and the walk of FnExactShortText. -/
import Derived.Test.YtngbaefmejdecafVar
import Derived.Laws.Concat
import Derived.OpenShut
namespace Go.Proofs.Ytngbaefmejdecaf
open Go.RowKit Vt

/-- the number n in bytes, as a text -/
def vtS (n : Nat) : ByteArray := ⟨(vt n).toArray⟩
theorem vtS_size (n : Nat) : (vtS n).size ≤ n + 1 := by
  have h := vt_length n n (Nat.le_refl _)
  have : (vtS n).size = (vt n).length := by simp [vtS, ByteArray.size]
  omega

theorem sShort_yes (s : ByteArray) (hs : s.size ≤ 20000) (w : World) :
    Calls Try.prog 10 #[.string s] w fun e w' => e = .returned (.tuple #[.string (vtS s.size ++ s), .bool true]) ∧ Below w.heap.size w w' := by
  have hz := vtS_size s.size
  go_enter Try.func10, Try.ntmps10
  go_wp2_with (go_at_call 13; refine (show Calls Try.prog 13 #[.int .i64 (s.size : Int)] w fun e w' => e = .returned (.string (vtS s.size)) ∧ Below w.heap.size w w' from l01Var_any s.size (by omega) _).mono ?_; rintro e w1 ⟨rfl, hb1⟩)
  go_ret2
  exact ⟨rfl, hb1⟩

theorem sShort_no (s : ByteArray) (hs : 20000 < s.size) (w : World) :
    Calls Try.prog 10 #[.string s] w fun e w' => e = .returned (.tuple #[.string ⟨#[]⟩, .bool false]) ∧ w' = w := by
  go_enter Try.func10, Try.ntmps10
  go_wp2
  go_ret2
  exact ⟨rfl, rfl⟩

theorem iShort_yes (s : ByteArray) (hs : s.size ≤ 20000) (w : World) :
    Calls Try.prog 11 #[.string s] w fun e w' => e = .returned (.tuple #[.string (vtS s.size ++ s), .bool true]) ∧ Below w.heap.size w w' := by
  have hz := vtS_size s.size
  go_enter Try.func11, Try.ntmps11
  go_wp2_with (go_at_call 7; refine (show Calls Try.prog 7 #[.int .i64 (s.size : Int)] w fun e w' => e = .returned (.tuple #[.string (vtS s.size), .bool true]) ∧ Below w.heap.size w w' from iVarText_yes s.size (by omega) _).mono ?_; rintro e w1 ⟨rfl, hb1⟩)
  go_ret2
  exact ⟨rfl, hb1⟩

theorem iShort_no (s : ByteArray) (hs : 20000 < s.size) (w : World) :
    Calls Try.prog 11 #[.string s] w fun e w' => e = .returned (.tuple #[.string ⟨#[]⟩, .bool false]) ∧ w' = w := by
  go_enter Try.func11, Try.ntmps11
  go_wp2
  go_ret2
  exact ⟨rfl, rfl⟩

theorem fnExactShortText.walk (s : ByteArray) (hs : s.size ≤ maxLen) (w : World) :
    Calls Try.prog 5 #[.string s] w fun e w' => e = .returned (.bool true) ∧ Below w.heap.size w w' := by
  unfold maxLen at hs
  by_cases hb : s.size ≤ 1048576
  · by_cases h2 : s.size ≤ 20000
    · go_enter Try.func5, Try.ntmps5
      go_wp2_with (go_at_call 10; refine (sShort_yes s h2 _).mono ?_; rintro e w1 ⟨rfl, hb1⟩)
      go_wp2_with (go_at_call 11; refine (iShort_yes s h2 _).mono ?_; rintro e w2 ⟨rfl, hb2⟩)
      go_ret
      exact ⟨rfl, hb1.trans (hb2.mono hb1.size)⟩
    · go_enter Try.func5, Try.ntmps5
      go_wp2_with (go_at_call 10; refine (sShort_no s (by omega) _).mono ?_; rintro e w1 ⟨rfl, hw1⟩; subst hw1)
      go_wp2_with (go_at_call 11; refine (iShort_no s (by omega) _).mono ?_; rintro e w2 ⟨rfl, hw2⟩; subst hw2)
      go_ret
      exact ⟨rfl, Below.refl _ _⟩
  · go_enter Try.func5, Try.ntmps5
    go_wp2
    go_ret
    exact ⟨rfl, Below.refl _ _⟩
end Go.Proofs.Ytngbaefmejdecaf
