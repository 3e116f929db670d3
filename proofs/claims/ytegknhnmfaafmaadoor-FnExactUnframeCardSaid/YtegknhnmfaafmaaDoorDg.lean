/- Plain mathematics on numerals: no program is named here. -/
import Derived.WalkKit
import Derived.Lib.ItoaLen
namespace Go.Proofs.YtegknhnmfaafmaaDoor.Dg
open Go.Lib (decDigits itoa nDigits)

/-- the figures of u that are still to be laid -/
def dg0 (u : Nat) : List UInt8 := if u = 0 then [] else decDigits u

theorem dg0_step (u : Nat) (h : u ≠ 0) : dg0 u = dg0 (u / 10) ++ [UInt8.ofNat (48 + u % 10)] := by
  unfold dg0
  rw [if_neg h]
  by_cases h1 : u < 10
  · rw [Go.Lib.decDigits_one h1, if_pos (by omega), Nat.mod_eq_of_lt h1]
    rfl
  · rw [if_neg (by omega), decDigits, dif_neg h1]

theorem dg0_pos (u : Nat) (h : u ≠ 0) : dg0 u = decDigits u := by unfold dg0; rw [if_neg h]

theorem dec_length (u : Nat) (h : u < 18446744073709551616) : (decDigits u).length ≤ 20 := by
  rw [Go.Lib.decDigits_length]; exact Go.Lib.nDigits_le20 u h

/-- a text of one byte -/
def one (b : UInt8) : ByteArray := ⟨#[b]⟩
theorem one_size (b : UInt8) : (one b).size = 1 := rfl
theorem one_app (b : UInt8) (S : ByteArray) : (one b ++ S).data.toList = b :: S.data.toList := by
  simp [one, ByteArray.data_append]
theorem one_app_size (b : UInt8) (S : ByteArray) : (one b ++ S).size = S.size + 1 := by
  have := congrArg List.length (one_app b S)
  simpa using this

end Go.Proofs.YtegknhnmfaafmaaDoor.Dg
