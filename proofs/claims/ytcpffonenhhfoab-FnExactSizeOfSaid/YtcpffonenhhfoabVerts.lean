/- The vertices of a list of numbers, ascending; a sorted list without its repetitions: pure. -/
import Derived.Test.YtcpffonenhhfoabTourP
import Derived.Lib.SlicesCompact
namespace Go.Proofs.Ytcpffonenhhfoab
open Go.Lib

/-- the vertices below k that stand in t, ascending -/
def vsK (t : List Int) (k : Nat) : List Int := ((List.range k).map fun j : Nat => (j : Int)).filter fun x => decide (x ∈ t)
/-- the vertices that stand in t, ascending -/
def vsL (t : List Int) : List Int := vsK t 12
theorem vsK_zero (t : List Int) : vsK t 0 = [] := by simp [vsK]
theorem vsK_yes {t : List Int} {k : Nat} (h : (k : Int) ∈ t) : vsK t (k + 1) = vsK t k ++ [(k : Int)] := by simp [vsK, List.range_succ, h]
theorem vsK_no {t : List Int} {k : Nat} (h : (k : Int) ∉ t) : vsK t (k + 1) = vsK t k := by simp [vsK, List.range_succ, h]
theorem vsK_len (t : List Int) (k : Nat) : (vsK t k).length ≤ k := by
  have := List.length_filter_le (fun x : Int => decide (x ∈ t)) ((List.range k).map fun j : Nat => (j : Int))
  simpa [vsK] using this
theorem vsL_len (t : List Int) : (vsL t).length ≤ 12 := vsK_len t 12
theorem vsL_mem (t : List Int) (x : Int) : x ∈ vsL t ↔ vB x = true ∧ x ∈ t := by
  simp only [vsL, vsK, List.mem_filter, List.mem_map, List.mem_range, vB, decide_eq_true_eq]
  constructor
  · rintro ⟨⟨j, hj, rfl⟩, h⟩
    exact ⟨by simp; omega, h⟩
  · rintro ⟨h1, h2⟩
    exact ⟨⟨x.toNat, by omega, by omega⟩, h2⟩
theorem vsK_asc (t : List Int) (k : Nat) : (vsK t k).Pairwise (· < ·) := by
  refine List.Pairwise.filter _ ?_
  rw [List.pairwise_map]
  exact List.Pairwise.imp (fun h => by omega) (List.pairwise_lt_range (n := k))
/-- two ascending lists with the same members are one -/
theorem asc_ext : ∀ {a b : List Int}, a.Pairwise (· < ·) → b.Pairwise (· < ·) → (∀ x, x ∈ a ↔ x ∈ b) → a = b
  | [], [], _, _, _ => rfl
  | [], y :: b, _, _, h => by have := (h y).2 (by simp); simp at this
  | x :: a, [], _, _, h => by have := (h x).1 (by simp); simp at this
  | x :: a, y :: b, ha, hb, h => by
    rw [List.pairwise_cons] at ha hb
    have hxy : x = y := by
      have h1 := (h x).1 (by simp)
      have h2 := (h y).2 (by simp)
      rcases List.mem_cons.1 h1 with h1 | h1
      · exact h1
      · rcases List.mem_cons.1 h2 with h2 | h2
        · exact h2.symm
        · have := hb.1 x h1; have := ha.1 y h2; omega
    subst hxy
    have : a = b := asc_ext ha.2 hb.2 fun z => by
      have hz := h z
      simp only [List.mem_cons] at hz
      constructor
      · intro h3
        rcases hz.1 (.inr h3) with h4 | h4
        · have := ha.1 z h3; omega
        · exact h4
      · intro h3
        rcases hz.2 (.inr h3) with h4 | h4
        · have := hb.1 z h3; omega
        · exact h4
    rw [this]
theorem comp_asc (d : Array Int) (hs : ∀ i j, i ≤ j → j < d.size → d[i]! ≤ d[j]!) : ∀ m, m ≤ d.size → (compactUpTo d m).Pairwise (· < ·) ∧ ∀ x, x ∈ compactUpTo d m ↔ ∃ j, j < m ∧ d[j]! = x
  | 0, _ => by simp [compactUpTo]
  | m + 1, hm => by
    obtain ⟨h1, h2⟩ := comp_asc d hs m (by omega)
    rw [compactUpTo_succ]
    by_cases hk : keeps d m = true
    · rw [if_pos hk]
      constructor
      · rw [List.pairwise_append]
        refine ⟨h1, by simp, fun x hx y hy => ?_⟩
        obtain ⟨j, hj, rfl⟩ := (h2 x).1 hx
        simp only [List.mem_singleton] at hy
        subst hy
        simp only [keeps, decide_eq_true_eq] at hk
        rcases hk with hk | hk
        · omega
        · have a1 := hs j (m - 1) (by omega) (by omega)
          have a2 := hs (m - 1) m (by omega) (by omega)
          omega
      · intro x
        simp only [List.mem_append, h2, List.mem_singleton]
        constructor
        · rintro (⟨j, hj, rfl⟩ | rfl)
          · exact ⟨j, by omega, rfl⟩
          · exact ⟨m, by omega, rfl⟩
        · rintro ⟨j, hj, rfl⟩
          by_cases e : j = m
          · exact .inr (by rw [e])
          · exact .inl ⟨j, by omega, rfl⟩
    · rw [if_neg hk, List.append_nil]
      refine ⟨h1, fun x => ?_⟩
      rw [h2]
      have hk' : m ≠ 0 ∧ d[m]! = d[m - 1]! := by
        simp only [keeps, decide_eq_true_eq] at hk
        exact ⟨fun e => hk (.inl e), Classical.not_not.1 (fun e => hk (.inr e))⟩
      constructor
      · rintro ⟨j, hj, rfl⟩; exact ⟨j, by omega, rfl⟩
      · rintro ⟨j, hj, rfl⟩
        by_cases e : j = m
        · exact ⟨m - 1, by omega, by rw [e, hk'.2]⟩
        · exact ⟨j, by omega, rfl⟩
/-- sorted, without repetitions, without what is no vertex -/
def vsI (t : List Int) : List Int := (compactUpTo (t.mergeSort fun x y => decide (x ≤ y)).toArray (t.mergeSort fun x y => decide (x ≤ y)).toArray.size).filter fun x => !(!vB x)
theorem vsI_eq (t : List Int) : vsI t = vsL t := by
  have hp : (t.mergeSort fun x y => decide (x ≤ y)).Pairwise (fun x y => decide (x ≤ y) = true) := List.pairwise_mergeSort (fun a b c h1 h2 => by simp at h1 h2 ⊢; omega) (fun a b => by simp; omega) t
  have hm := fun x => (List.mergeSort_perm t fun x y : Int => decide (x ≤ y)).mem_iff (a := x)
  unfold vsI
  generalize (t.mergeSort fun x y => decide (x ≤ y)) = s at hp hm ⊢
  have hs : ∀ i j, i ≤ j → j < s.toArray.size → s.toArray[i]! ≤ s.toArray[j]! := by
    intro i j hij hj
    have hj' : j < s.length := by simpa using hj
    by_cases e : i = j
    · rw [e]; exact Int.le_refl _
    · have := List.pairwise_iff_getElem.1 hp i j (by omega) hj' (by omega)
      simp at this
      simpa [getElem!_pos, hj', show i < s.length by omega] using this
  obtain ⟨h1, h2⟩ := comp_asc s.toArray hs s.toArray.size (Nat.le_refl _)
  refine asc_ext (List.Pairwise.filter _ h1) (vsK_asc t 12) fun x => ?_
  rw [vsL_mem, List.mem_filter, h2]
  have h3 : (∃ j, j < s.toArray.size ∧ s.toArray[j]! = x) ↔ x ∈ t := by
    rw [← hm x]
    constructor
    · rintro ⟨j, hj, rfl⟩
      have hj' : j < s.length := by simpa using hj
      simp [hj']
    · intro hx
      obtain ⟨j, hj, e⟩ := List.getElem_of_mem hx
      exact ⟨j, by simpa using hj, by simp [hj, e]⟩
  rw [h3]
  simp
  exact And.comm
end Go.Proofs.Ytcpffonenhhfoab
