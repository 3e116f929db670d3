/- What the power leaves: pure. -/
import Derived.Test.YtegknhnmfaafmaaLawKit
import Derived.Test.YtegknhnmfaafmaaSFiles
namespace Go.Proofs.Ytegknhnmfaafmaa
open Go.RowKit

/-- how many bytes of a file are left -/
def cutI (f : FileV) (l : Option Int) : Int := max f.kept (min (l.getD 0) f.text.size)
def cutF (f : FileV) (l : Option Int) : FileV := ⟨f.name, f.text.extract 0 (cutI f l).toNat, cutI f l⟩
def lose (fs : List FileV) (ls : List Int) : List FileV := fs.mapIdx fun i f => cutF f ls[i]?
theorem lose_snoc (fs : List FileV) (f : FileV) (ls : List Int) : lose (fs ++ [f]) ls = lose fs ls ++ [cutF f ls[fs.length]?] := by
  unfold lose
  rw [List.mapIdx_append]
  simp
theorem lose_len (fs : List FileV) (ls : List Int) : (lose fs ls).length = fs.length := by simp [lose]
theorem lose_take {fs : List FileV} {k : Nat} {f : FileV} (ls : List Int) (hf : fs[k]? = some f) : lose (fs.take (k + 1)) ls = lose (fs.take k) ls ++ [cutF f ls[k]?] := by
  have hk := (List.getElem?_eq_some_iff.1 hf).1
  rw [take_snocF fs k f hf, lose_snoc, List.length_take, Nat.min_eq_left (by omega)]
/-- what LoseDisk answers -/
noncomputable def loseO (fs : List FileV) (ls : List Int) : Option (List FileV) := if dB fs then some (lose fs ls) else none
theorem loseO_yes {fs : List FileV} (h : DiskR fs) (ls : List Int) : loseO fs ls = some (lose fs ls) := by unfold loseO; rw [dB_true h]; rfl
theorem loseO_no {fs : List FileV} (h : ¬ DiskR fs) (ls : List Int) : loseO fs ls = none := by unfold loseO; rw [dB_false h]; rfl
theorem loseO_len {fs : List FileV} {ls : List Int} : ((loseO fs ls).getD []).length ≤ 30 := by
  by_cases h : DiskR fs
  · rw [loseO_yes h]; simp [lose_len]; exact h.1
  · rw [loseO_no h]; simp
theorem disk_at {fs : List FileV} (hd : DiskR fs) {k : Nat} {f : FileV} (hf : fs[k]? = some f) : FileOk f := (hd.2 k (List.getElem?_eq_some_iff.1 hf).1 f hf).1
end Go.Proofs.Ytegknhnmfaafmaa
