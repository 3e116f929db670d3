/- When all of each file is kept. -/
import Derived.Test.YtegknhnmfaafmaaSFiles
namespace Go.Proofs.Ytegknhnmfaafmaa
open Go.RowKit

/-- all of each file is kept -/
def AllR (fs : List FileV) : Prop := DiskR fs ∧ ∀ f ∈ fs, ¬ f.kept < f.text.size
noncomputable def akB (fs : List FileV) : Bool := @decide (AllR fs) (Classical.propDecidable _)
theorem akB_true {fs : List FileV} (h : AllR fs) : akB fs = true := by unfold akB; simp [h]
theorem akB_false {fs : List FileV} (h : ¬ AllR fs) : akB fs = false := by unfold akB; simp [h]

end Go.Proofs.Ytegknhnmfaafmaa
