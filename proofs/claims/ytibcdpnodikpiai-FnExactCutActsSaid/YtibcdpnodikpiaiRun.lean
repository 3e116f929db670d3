/- Acts one behind the other: pure. -/
import Derived.Test.YtibcdpnodikpiaiActIs
import Derived.Test.YtibcdpnodikpiaiAsR
namespace Go.Proofs.Ytibcdpnodikpiai
open Go.RowKit

/-- what acts make of the files, up to the first that is false; how many were true -/
noncomputable def runActs : List FileV → List ActV → List FileV × Nat
  | fs, [] => (fs, 0)
  | fs, x :: xs => match doAct fs x with
    | none => (fs, 0)
    | some gs => ((runActs gs xs).1, (runActs gs xs).2 + 1)
/-- behind k acts that were true the files are gs -/
def Ran (fs : List FileV) (xs : List ActV) (k : Nat) (gs : List FileV) : Prop := runActs fs xs = ((runActs gs (xs.drop k)).1, (runActs gs (xs.drop k)).2 + k)
theorem Ran.start (fs : List FileV) (xs : List ActV) : Ran fs xs 0 fs := rfl
theorem drop_at {α : Type} {xs : List α} {k : Nat} {x : α} (h : xs[k]? = some x) : xs.drop k = x :: xs.drop (k + 1) := by
  obtain ⟨hk, rfl⟩ := List.getElem?_eq_some_iff.1 h
  exact List.drop_eq_getElem_cons hk
theorem Ran.stop {fs : List FileV} {xs : List ActV} {k : Nat} {gs : List FileV} (h : Ran fs xs k gs) {x : ActV} (hx : xs[k]? = some x) (hn : doAct gs x = none) : runActs fs xs = (gs, k) := by
  unfold Ran at h
  rw [h, drop_at hx]
  simp [runActs, hn]
theorem Ran.step {fs : List FileV} {xs : List ActV} {k : Nat} {gs hs : List FileV} (h : Ran fs xs k gs) {x : ActV} (hx : xs[k]? = some x) (hn : doAct gs x = some hs) : Ran fs xs (k + 1) hs := by
  unfold Ran at h ⊢
  rw [h, drop_at hx]
  simp only [runActs, hn]
  rw [Nat.add_assoc, Nat.add_comm 1 k]
theorem Ran.done {fs : List FileV} {xs : List ActV} {gs : List FileV} (h : Ran fs xs xs.length gs) : runActs fs xs = (gs, xs.length) := by
  unfold Ran at h
  rw [h, List.drop_length]
  simp [runActs]
theorem run_bad {fs : List FileV} (h : ¬ DiskR fs) (xs : List ActV) : runActs fs xs = (fs, 0) := by
  cases xs with
  | nil => rfl
  | cons x xs =>
    have : doAct fs x = none := by unfold doAct; rw [if_neg (fun hh => h hh.1)]
    simp [runActs, this]
theorem run_le (xs : List ActV) : ∀ fs : List FileV, (runActs fs xs).2 ≤ xs.length := by
  induction xs with
  | nil => intro fs; simp [runActs]
  | cons x xs ih =>
    intro fs
    simp only [runActs]
    split
    · simp
    · rename_i gs _
      have := ih gs
      simp only [List.length_cons]
      omega
theorem run_disk (xs : List ActV) : ∀ fs : List FileV, DiskR fs → DiskR (runActs fs xs).1 := by
  induction xs with
  | nil => intro fs h; exact h
  | cons x xs ih =>
    intro fs h
    simp only [runActs]
    split
    · exact h
    · rename_i gs hg
      exact ih gs (doAct_disk hg)
end Go.Proofs.Ytibcdpnodikpiai
