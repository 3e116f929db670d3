/- What the specification's l03At answers at every list of files. -/
import Derived.Test.YtegknhnmfaafmaaSFiles
namespace Go.Proofs.Ytegknhnmfaafmaa
open Go.RowKit

/-- whether a file has this name -/
def hasName (name : ByteArray) (f : FileV) : Bool := f.name.toList == name.toList
/-- the place of the file of this name -/
def atN (fs : List FileV) (name : ByteArray) : Option Nat := fs.findIdx? (hasName name)
def atI : Option Nat → Int
  | none => -1
  | some k => (k : Int)

theorem atN_some {fs : List FileV} {name : ByteArray} {k : Nat} {f : FileV} (hf : fs[k]? = some f) (hn : hasName name f = true) (hb : ∀ j g, j < k → fs[j]? = some g → hasName name g = false) : atN fs name = some k := by
  obtain ⟨hk, rfl⟩ := List.getElem?_eq_some_iff.1 hf
  unfold atN
  rw [List.findIdx?_eq_some_iff_getElem]
  refine ⟨hk, hn, fun j hj => ?_⟩
  have := hb j (fs[j]'(by omega)) hj (List.getElem?_eq_getElem _)
  simp [this]

theorem atN_none {fs : List FileV} {name : ByteArray} (hb : ∀ (j : Nat) (g : FileV), fs[j]? = some g → hasName name g = false) : atN fs name = none := by
  unfold atN
  rw [List.findIdx?_eq_none_iff]
  intro f hf
  obtain ⟨j, hj⟩ := List.getElem?_of_mem hf
  exact hb j f hj

theorem atN_lt {fs : List FileV} {name : ByteArray} {k : Nat} (h : atN fs name = some k) : k < fs.length := by
  unfold atN at h
  rw [List.findIdx?_eq_some_iff_getElem] at h
  exact h.1

set_option maxRecDepth 100000 in
set_option maxHeartbeats 2000000 in
theorem l03At_any (fs : List FileV) (name : ByteArray) (n : Nat) (a : Option Addr) (c : Nat) (hn : n ≤ maxLen) (w : World) (h : Fs w w.heap.size a n fs) :
    Calls Try.prog 51 #[.agg #[.slice a n c], .string name] w fun e w' => e = .returned (.int .i64 (atI (atN fs name))) ∧ Below w.heap.size w w' := by
  unfold maxLen at hn
  obtain ⟨hlen, hrow⟩ := h
  have HR := hideIt hrow
  clear hrow
  generalize hP : atN fs name = P
  have HP := hideIt hP
  clear hP
  go_enter Try.func51, Try.ntmps51
  go_wp2
  go_loopw [5] (fun i wr => ∃ k : Nat, k ≤ n ∧ i = .int .i64 (k : Int) ∧ Hid (∀ j g, j < k → fs[j]? = some g → hasName name g = false) ∧ wr = w.alloc (.cells #[.slice a n c] 26)) (fun i _ => n - (intOf i).toNat)
  case atStart => exact ⟨0, by omega, rfl, fun j g hj => by omega, rfl⟩
  case round =>
    obtain ⟨k, hk, rfl, hno, rfl⟩ := hrel
    by_cases hlt : k < n
    · rcases HR.out with hz | ⟨b, off, rfl, hbl, hc⟩
      · omega
      · obtain ⟨f, hf⟩ : ∃ f, fs[k]? = some f := ⟨fs[k]'(by omega), List.getElem?_eq_getElem (by omega)⟩
        obtain ⟨c0, c1, c2⟩ := hc k f hf
        have b1 : (0 : Int) ≤ (k : Int) := by omega
        have b2 : (k : Int) < (n : Int) := by omega
        cases hh : hasName name f with
        | true =>
          have HA := hideIt (atN_some hf hh hno.out)
          unfold hasName at hh
          clear hc c1 c2 hf hno
          go_wp2
          go_ret
          exact ⟨by rw [← HP.out, HA.out]; rfl, (Below.refl _ _).alloc (Nat.le_refl _) _⟩
        | false =>
          have HO : Hid (∀ j g, j < k + 1 → fs[j]? = some g → hasName name g = false) := fun j g hj hg => by
            by_cases e : j = k
            · subst e
              rw [hf] at hg
              cases hg
              exact hh
            · exact hno.out j g (by omega) hg
          unfold hasName at hh
          clear hc c1 c2 hf hno
          go_wp2
          exact ⟨⟨k + 1, by omega, by go_num, HO, trivial⟩, by simp [intOf]; omega⟩
    · have HA := hideIt (atN_none (fs := fs) (name := name) (fun j g hg => hno.out j g (by have := (List.getElem?_eq_some_iff.1 hg).1; omega) hg))
      clear hno
      go_wp2
      go_ret
      exact ⟨by rw [← HP.out, HA.out]; rfl, (Below.refl _ _).alloc (Nat.le_refl _) _⟩

/-- the file of this name -/
def fileOf (fs : List FileV) (name : ByteArray) : Option FileV := (atN fs name).bind fun k => fs[k]?

end Go.Proofs.Ytegknhnmfaafmaa
