/- What a copy of a text is. -/
import Derived.Test.YtegknhnmfaafmaaFiles
import Derived.Test.YtegknhnmfaafmaaShelf
namespace Go.Proofs.Ytegknhnmfaafmaa
open Go.RowKit

theorem clone_any (s : ByteArray) (h : s.size ≤ 1048576) (w : World) :
    Calls Try.prog 38 #[.string s] w fun e w' => e = .returned (.string s) ∧ Below w.heap.size w w' := by
  go_enter Try.func38, Try.ntmps38
  go_wp2_with (go_at_call 55; refine (Try.stringslite_Clone s _ (by omega)).mono ?_; rintro e w1 ⟨rfl, hb1⟩)
  go_ret
  exact ⟨rfl, hb1⟩

end Go.Proofs.Ytegknhnmfaafmaa
