/- What a copy of a text is. -/
import Derived.Test.YtibcdpnodikpiaiFiles
import Derived.Test.YtibcdpnodikpiaiShelf
namespace Go.Proofs.Ytibcdpnodikpiai
open Go.RowKit

theorem clone_any (s : ByteArray) (h : s.size ≤ 1048576) (w : World) :
    Calls Try.prog 59 #[.string s] w fun e w' => e = .returned (.string s) ∧ Below w.heap.size w w' := by
  go_enter Try.func59, Try.ntmps59
  go_wp2_with (go_at_call 63; refine (Try.stringslite_Clone s _ (by omega)).mono ?_; rintro e w1 ⟨rfl, hb1⟩)
  go_ret
  exact ⟨rfl, hb1⟩

end Go.Proofs.Ytibcdpnodikpiai
