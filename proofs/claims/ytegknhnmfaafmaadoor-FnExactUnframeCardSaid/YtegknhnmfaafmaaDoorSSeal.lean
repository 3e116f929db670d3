/- What the specification's Sealed answers. -/
import Derived.Test.YtegknhnmfaafmaaDoorSSum
import Derived.Test.YtegknhnmfaafmaaDoorISeal
namespace Go.Proofs.YtegknhnmfaafmaaDoor
open Go.RowKit Crc

theorem sSumOf_S (s : ByteArray) (hs : s.size ≤ maxLen) (w : World) :
    Calls Tryd.prog 32 #[.string s] w fun e w' => e = .returned (.int .u32 (smS s : Nat)) ∧ w = w' := sSumOf_any s hs w

theorem l02Four_S (x : Nat) (hx : x < 4294967296) (w : World) :
    Calls Tryd.prog 31 #[.int .u32 (x : Int)] w fun e w' => e = .returned (.string (fourS x)) ∧ Below w.heap.size w w' := l02Four_any x hx w

end Go.Proofs.YtegknhnmfaafmaaDoor
