/- What the laws over disks share. -/
import Derived.Test.YtegknhnmfaafmaaFiles
namespace Go.Proofs.Ytegknhnmfaafmaa
open Go.RowKit

theorem letters_mem {fs : List FileV} {f : FileV} (h : f ∈ fs) : f.name.size + f.text.size ≤ letters fs := by
  induction fs with
  | nil => simp at h
  | cons g fs ih =>
    simp only [letters, List.map_cons, List.sum_cons] at ih ⊢
    rcases List.mem_cons.1 h with rfl | h
    · omega
    · have := ih h; omega

theorem fits_of {fs : List FileV} (h : fs.length + letters fs ≤ 1048576) : FitsF fs := fun f hf => by
  have := letters_mem hf
  unfold maxLen
  omega

/-- an own list, somewhere below -/
theorem Fs.up {w w' : World} {a : Option Addr} {n : Nat} {fs : List FileV} (h : Fs w w.heap.size a n fs) (hb : Below w.heap.size w w') : Fs w' w'.heap.size a n fs :=
  (h.below hb (Nat.le_refl _)).mono hb.size

/-- nothing below has turned since w -/
def Good (w u : World) : Prop := Below w.heap.size w u
theorem Good.fs {w u : World} (h : Good w u) {a : Option Addr} {n : Nat} {fs : List FileV} (hf : Fs w w.heap.size a n fs) : Fs u u.heap.size a n fs := hf.up h
theorem Good.cell {w u : World} (h : Good w u) {b o : Nat} (hb : b < w.heap.size) : u.cell? ⟨b, o, none⟩ = w.cell? ⟨b, o, none⟩ := Below.cell h hb

end Go.Proofs.Ytegknhnmfaafmaa
