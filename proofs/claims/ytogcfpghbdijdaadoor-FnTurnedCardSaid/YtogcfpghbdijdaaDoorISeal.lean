/- What the program's Sealed answers. -/
import Derived.Test.YtogcfpghbdijdaaDoorISum
import Derived.Test.YtogcfpghbdijdaaDoorShelf
import Derived.Laws.Concat
import Derived.WalkSpells
import Derived.OpenShut
namespace Go.Proofs.YtogcfpghbdijdaaDoor
open Go.RowKit Crc

theorem clone_any (s : ByteArray) (h : s.size ≤ 1048576) (w : World) :
    Calls Tryd.prog 29 #[.string s] w fun e w' => e = .returned (.string s) ∧ Below w.heap.size w w' := by
  go_enter Tryd.func29, Tryd.ntmps29
  go_wp2_with (go_at_call 35; refine (Tryd.stringslite_Clone s _ (by omega)).mono ?_; rintro e w1 ⟨rfl, hb1⟩)
  go_ret
  exact ⟨rfl, hb1⟩

/-- the sum of a text -/
def smS (s : ByteArray) : Nat := sm 4294967295 s.data.toList

theorem smS_lt (s : ByteArray) : smS s < 4294967296 := sm_lt (by omega) _

/-- the four bytes of a sum, as a text -/
def fourS (x : Nat) : ByteArray := ⟨(four x).toArray⟩

theorem fourS_size (x : Nat) : (fourS x).size = 4 := rfl

theorem iSumOf_S (s : ByteArray) (hs : s.size ≤ maxLen) (w : World) (ht : Tab w) :
    Calls Tryd.prog 21 #[.string s] w fun e w' => e = .returned (.int .u32 (smS s : Nat)) ∧ w = w' := iSumOf_any s hs w ht

theorem text_S (x : Nat) (hx : x < 4294967296) (w : World) :
    Calls Tryd.prog 31 #[.int .u32 (x : Int)] w fun e w' => e = .returned (.string (fourS x)) ∧ Below w.heap.size w w' := text_any x hx w

theorem iSealed_yes (s : ByteArray) (hs : s.size ≤ 20000) (w : World) (ht : Tab w) :
    Calls Tryd.prog 18 #[.string s] w fun e w' => e = .returned (.tuple #[.string (s ++ fourS (smS s)), .bool true]) ∧ Below w.heap.size w w' := by
  have hl := smS_lt s
  have hz := fourS_size (smS s)
  have hm : s.size ≤ maxLen := by unfold maxLen; omega
  have HT : Hid _ := ht
  clear ht
  go_enter Tryd.func18, Tryd.ntmps18
  go_wp2_with (first
    | (go_at_call 21; refine (iSumOf_S s hm _ HT.out).mono ?_; rintro e w1 ⟨rfl, hw1⟩; subst hw1)
    | (go_at_call 31; refine (text_S (smS s) hl _).mono ?_; rintro e w1 ⟨rfl, hb1⟩))
  go_ret2
  exact ⟨rfl, hb1⟩

theorem iSealed_no (s : ByteArray) (hs : 20000 < s.size) (w : World) :
    Calls Tryd.prog 18 #[.string s] w fun e w' => e = .returned (.tuple #[.string ⟨#[]⟩, .bool false]) ∧ Below w.heap.size w w' := by
  go_enter Tryd.func18, Tryd.ntmps18
  go_wp2
  go_ret2
  exact ⟨rfl, Below.refl _ _⟩

end Go.Proofs.YtogcfpghbdijdaaDoor
