/- slices.Backward over ints: it yields each place with its number, the last one first; the program's lastPlace, which ranges over it. -/
import Derived.RangeFuncNested
import Derived.RangeFuncBound
import Derived.RangeFuncCalls
import Derived.RangeFuncLeaves
import Derived.RangeFuncBox
import Derived.Shelf.Abstract
import Derived.Shelf.RegionOpen
import Derived.WalkKit
import Derived.OwnWalkIn
import Derived.TacticsInMore
import Derived.LoopNIn
import Derived.LoopIn
import Derived.Maps.AppendAt
import Derived.Test.YtcpffonenhhfoabFind6
namespace Go.Proofs.Ytcpffonenhhfoab
open Go.RowKit Go.Shelf
attribute [local go_sem] Oper.semAt_some

/-- a place and what stands there, as yield takes it -/
abbrev plV (x : Int × Int) : Array Value := #[.int .i64 x.1, .int .i64 x.2]
/-- what has come: the places from the last one down -/
def Bw (ls : List Int) (pre : List (Int × Int)) : Prop := pre.length ≤ ls.length ∧ ∀ (j : Nat) (x : Int × Int), pre[j]? = some x → x.1 = (ls.length : Int) - 1 - (j : Int) ∧ ls[ls.length - 1 - j]? = some x.2
theorem Bw.nil (ls : List Int) : Bw ls [] := ⟨by simp, fun j x h => by simp at h⟩
theorem Bw.snoc {ls : List Int} {pre : List (Int × Int)} (h : Bw ls pre) {k : Nat} {f : Int} (hk : pre.length + (k + 1) = ls.length) (hf : ls[k]? = some f) : Bw ls (pre ++ [((k : Int), f)]) := by
  refine ⟨by simp; omega, fun j x hx => ?_⟩
  by_cases hj : j < pre.length
  · rw [List.getElem?_append_left hj] at hx
    exact h.2 j x hx
  · rw [List.getElem?_append_right (by omega)] at hx
    have h0 : j - pre.length = 0 := by
      have := (List.getElem?_eq_some_iff.1 hx).1
      simp at this
      omega
    rw [h0] at hx
    simp at hx
    subst hx
    refine ⟨by show (k : Int) = _; omega, ?_⟩
    rw [show ls.length - 1 - j = k by omega]
    exact hf

theorem lst_at {ls : List Int} {v : Int} {p : Nat} (hp : ls[p]? = some v) (hn : ∀ j, p < j → j < ls.length → ls[j]? ≠ some v) : lstI ls v = (p : Int) := by
  rcases lastN_cases (atP ls v) ls.length with ⟨k, h1, h2, h3, h4⟩ | ⟨h1, _⟩
  · have hk : ls[k]? = some v := by simpa [atP] using h2
    have hpl := (List.getElem?_eq_some_iff.1 hp).1
    rcases Nat.lt_trichotomy k p with h | h | h
    · have := h3 p h hpl
      rw [atP_yes hp] at this
      simp at this
    · rw [← h]; exact h4
    · exact absurd hk (hn k h h1)
  · have := h1 p (List.getElem?_eq_some_iff.1 hp).1
    rw [atP_yes hp] at this
    simp at this
theorem lst_none {ls : List Int} {v : Int} (hn : ∀ j, j < ls.length → ls[j]? ≠ some v) : lstI ls v = -1 := by
  rcases lastN_cases (atP ls v) ls.length with ⟨k, h1, h2, h3, h4⟩ | ⟨_, h2⟩
  · exact absurd (by simpa [atP] using h2) (hn k h1)
  · exact h2
theorem bw_stop {ls : List Int} {v : Int} {pre : List (Int × Int)} {x : Int × Int} (h : Bw ls (pre ++ [x])) (hx : x.2 = v) (hn : ∀ y ∈ pre, y.2 ≠ v) : lstI ls v = x.1 := by
  have hl := h.1
  simp at hl
  obtain ⟨h1, h2⟩ := h.2 pre.length x (by simp)
  rw [h1, show (ls.length : Int) - 1 - (pre.length : Int) = ((ls.length - 1 - pre.length : Nat) : Int) by omega]
  refine lst_at (by rw [h2, hx]) fun j hj hjl e => ?_
  obtain ⟨y, hy⟩ : ∃ y, pre[ls.length - 1 - j]? = some y := ⟨pre[ls.length - 1 - j]'(by omega), List.getElem?_eq_getElem (by omega)⟩
  obtain ⟨_, h4⟩ := h.2 (ls.length - 1 - j) y (by rw [List.getElem?_append_left (by omega)]; exact hy)
  rw [show ls.length - 1 - (ls.length - 1 - j) = j by omega, e] at h4
  exact hn y (List.mem_of_getElem? hy) (by simpa using h4.symm)
theorem bw_done {ls : List Int} {v : Int} {pre : List (Int × Int)} (h : Bw ls pre) (hl : pre.length = ls.length) (hn : ∀ y ∈ pre, y.2 ≠ v) : lstI ls v = -1 := by
  refine lst_none fun j hj e => ?_
  obtain ⟨y, hy⟩ : ∃ y, pre[ls.length - 1 - j]? = some y := ⟨pre[ls.length - 1 - j]'(by omega), List.getElem?_eq_getElem (by omega)⟩
  obtain ⟨_, h4⟩ := h.2 (ls.length - 1 - j) y hy
  rw [show ls.length - 1 - (ls.length - 1 - j) = j by omega, e] at h4
  exact hn y (List.mem_of_getElem? hy) (by simpa using h4.symm)

end Go.Proofs.Ytcpffonenhhfoab
