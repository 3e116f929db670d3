/- What the program's Sealed answers. -/
import Derived.Test.YtegknhnmfaafmaaDoorISum
import Derived.Test.YtegknhnmfaafmaaDoorShelf
import Derived.Laws.Concat
import Derived.WalkSpells
import Derived.OpenShut
namespace Go.Proofs.YtegknhnmfaafmaaDoor
open Go.RowKit Crc

theorem clone_any (s : ByteArray) (h : s.size ≤ 1048576) (w : World) :
    Calls Tryd.prog 28 #[.string s] w fun e w' => e = .returned (.string s) ∧ Below w.heap.size w w' := by
  go_enter Tryd.func28, Tryd.ntmps28
  go_wp2_with (go_at_call 38; refine (Tryd.stringslite_Clone s _ (by omega)).mono ?_; rintro e w1 ⟨rfl, hb1⟩)
  go_ret
  exact ⟨rfl, hb1⟩

/-- the sum of a text -/
def smS (s : ByteArray) : Nat := sm 4294967295 s.data.toList

theorem smS_lt (s : ByteArray) : smS s < 4294967296 := sm_lt (by omega) _

/-- the four bytes of a sum, as a text -/
def fourS (x : Nat) : ByteArray := ⟨(four x).toArray⟩

theorem fourS_size (x : Nat) : (fourS x).size = 4 := rfl

theorem iSumOf_S (s : ByteArray) (hs : s.size ≤ maxLen) (w : World) (ht : Tab w) :
    Calls Tryd.prog 25 #[.string s] w fun e w' => e = .returned (.int .u32 (smS s : Nat)) ∧ w = w' := iSumOf_any s hs w ht

theorem text_S (x : Nat) (hx : x < 4294967296) (w : World) :
    Calls Tryd.prog 26 #[.int .u32 (x : Int)] w fun e w' => e = .returned (.string (fourS x)) ∧ Below w.heap.size w w' := text_any x hx w

end Go.Proofs.YtegknhnmfaafmaaDoor
