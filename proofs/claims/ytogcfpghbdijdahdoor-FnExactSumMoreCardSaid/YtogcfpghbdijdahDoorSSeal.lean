/- What the specification's Sealed answers. -/
import Derived.Test.YtogcfpghbdijdahDoorSSum
import Derived.Test.YtogcfpghbdijdahDoorISeal
namespace Go.Proofs.YtogcfpghbdijdahDoor
open Go.RowKit Crc

theorem sSumOf_S (s : ByteArray) (hs : s.size ≤ maxLen) (w : World) :
    Calls Tryd.prog 9 #[.string s] w fun e w' => e = .returned (.int .u32 (smS s : Nat)) ∧ w = w' := sSumOf_any s hs w

theorem l02Four_S (x : Nat) (hx : x < 4294967296) (w : World) :
    Calls Tryd.prog 16 #[.int .u32 (x : Int)] w fun e w' => e = .returned (.string (fourS x)) ∧ Below w.heap.size w w' := l02Four_any x hx w

theorem sSealed_yes (s : ByteArray) (hs : s.size ≤ 20000) (w : World) :
    Calls Tryd.prog 11 #[.string s] w fun e w' => e = .returned (.tuple #[.string (s ++ fourS (smS s)), .bool true]) ∧ Below w.heap.size w w' := by
  have hl := smS_lt s
  have hz := fourS_size (smS s)
  have hm : s.size ≤ maxLen := by unfold maxLen; omega
  go_enter Tryd.func11, Tryd.ntmps11
  go_wp2_with (first
    | (go_at_call 9; refine (sSumOf_S s hm _).mono ?_; rintro e w1 ⟨rfl, hw1⟩; subst hw1)
    | (go_at_call 16; refine (l02Four_S (smS s) hl _).mono ?_; rintro e w1 ⟨rfl, hb1⟩))
  go_ret2
  exact ⟨rfl, hb1⟩

theorem sSealed_no (s : ByteArray) (hs : 20000 < s.size) (w : World) :
    Calls Tryd.prog 11 #[.string s] w fun e w' => e = .returned (.tuple #[.string ⟨#[]⟩, .bool false]) ∧ Below w.heap.size w w' := by
  go_enter Tryd.func11, Tryd.ntmps11
  go_wp2
  go_ret2
  exact ⟨rfl, Below.refl _ _⟩

end Go.Proofs.YtogcfpghbdijdahDoor
