/- All vertices of right tours, sorted: pure. -/
import Derived.Test.YtcpffonenhhfoabLk7
import Derived.Test.YtcpffonenhhfoabEd7
import Derived.Test.YtcpffonenhhfoabIAsc7
namespace Go.Proofs.Ytcpffonenhhfoab
open Go.RowKit

def rangeI (n : Nat) : List Int := (List.range n).map fun j : Nat => (j : Int)
theorem rangeI_len (n : Nat) : (rangeI n).length = n := by simp [rangeI]
theorem rangeI_at {n k : Nat} (h : k < n) : (rangeI n)[k]? = some (k : Int) := by simp [rangeI, h]
theorem rangeI_mem (n : Nat) (x : Int) : x ∈ rangeI n ↔ 0 ≤ x ∧ x < (n : Int) := by
  simp only [rangeI, List.mem_map, List.mem_range]
  constructor
  · rintro ⟨j, hj, rfl⟩
    omega
  · rintro ⟨h1, h2⟩
    exact ⟨x.toNat, by omega, by omega⟩
theorem rangeI_asc (n : Nat) : (rangeI n).Pairwise (· < ·) := by
  unfold rangeI
  rw [List.pairwise_map]
  exact List.Pairwise.imp (fun h => by omega) (List.pairwise_lt_range (n := n))
/-- all vertices -/
def allV (ts : List (List Int)) : List Int := ts.flatMap vsL
theorem allV_cons (t : List Int) (r : List (List Int)) : allV (t :: r) = vsL t ++ allV r := by simp [allV]
theorem allV_snoc (ts : List (List Int)) (t : List Int) : allV (ts ++ [t]) = allV ts ++ vsL t := by simp [allV]
theorem allV_len (ts : List (List Int)) : (allV ts).length = cnt ts := by
  induction ts with
  | nil => simp [cnt, allV]
  | cons t r ih =>
    rw [allV_cons, List.length_append, ih]
    simp [cnt]
theorem allV_nodup {ts : List (List Int)} (h : ts.Pairwise Apart) : (allV ts).Nodup := by
  induction ts with
  | nil => simp [allV]
  | cons t r ih =>
    rw [List.pairwise_cons] at h
    rw [allV_cons, List.nodup_append]
    refine ⟨vs_nodup t, ih h.2, fun y hy z hz e => ?_⟩
    subst e
    obtain ⟨s, hs, hys⟩ := List.mem_flatMap.1 hz
    exact h.1 s hs y ((vsL_mem t y).1 hy).2 ((vsL_mem s y).1 hys).2
theorem apart_of_nodup {ts : List (List Int)} (hB : ∀ t ∈ ts, tB t = true) (h : (allV ts).Nodup) : ts.Pairwise Apart := by
  induction ts with
  | nil => exact List.Pairwise.nil
  | cons t r ih =>
    rw [allV_cons, List.nodup_append] at h
    rw [List.pairwise_cons]
    refine ⟨fun s hs x hx hxs => ?_, ih (fun s hs => hB s (by simp [hs])) h.2.1⟩
    exact h.2.2 x ((vs_mem_of (hB t (by simp))).2 hx) x (List.mem_flatMap.2 ⟨s, hs, (vs_mem_of (hB s (by simp [hs]))).2 hxs⟩) rfl
/-- sorted -/
def srtI (l : List Int) : List Int := l.mergeSort fun x y => decide (x ≤ y)
theorem srtI_perm (l : List Int) : (srtI l).Perm l := List.mergeSort_perm _ _
theorem srtI_le (l : List Int) : (srtI l).Pairwise fun x y => x ≤ y := by
  have h := List.pairwise_mergeSort (le := fun x y : Int => decide (x ≤ y)) (fun a b c h1 h2 => by simp at *; omega) (fun a b => by simp; omega) l
  exact h.imp fun h => by simpa using h
theorem sh_iff {N : Nat} {ts : List (List Int)} (hB : ∀ t ∈ ts, tB t = true) : FQ (N : Int) ts ↔ srtI (allV ts) = rangeI N := by
  have hp := srtI_perm (allV ts)
  constructor
  · intro h
    have hn : (srtI (allV ts)).Nodup := hp.nodup_iff.2 (allV_nodup h.2.1)
    have hlt : (srtI (allV ts)).Pairwise (· < ·) := by
      have h2 := (srtI_le (allV ts)).and hn
      exact h2.imp fun ⟨h3, h4⟩ => by omega
    refine asc_ext hlt (rangeI_asc N) fun x => ?_
    rw [hp.mem_iff, rangeI_mem]
    constructor
    · intro hx
      obtain ⟨t, ht, hxt⟩ := List.mem_flatMap.1 hx
      obtain ⟨v1, v2⟩ := (vsL_mem t x).1 hxt
      have v1 := of_decide_eq_true (show decide (0 ≤ x ∧ x < 12) = true from v1)
      exact ⟨v1.1, (h.1 t ht).2 x v2⟩
    · rintro ⟨h1, h2⟩
      obtain ⟨t, ht, hx⟩ := h.cover h1 h2
      exact List.mem_flatMap.2 ⟨t, ht, (vs_mem_of (hB t ht)).2 hx⟩
  · intro h
    rw [h] at hp
    have hn : (allV ts).Nodup := hp.nodup_iff.1 ((rangeI_asc N).imp fun h => by omega)
    refine ⟨fun t ht => ⟨hB t ht, fun x hx => ?_⟩, apart_of_nodup hB hn, ?_⟩
    · exact ((rangeI_mem N x).1 (hp.mem_iff.2 (List.mem_flatMap.2 ⟨t, ht, (vs_mem_of (hB t ht)).2 hx⟩))).2
    · rw [← allV_len, ← hp.length_eq, rangeI_len]
theorem asP_B {ts : List (List Int)} (h : asP ts) : ∀ t ∈ ts, tB t = true := fun t ht => by
  obtain ⟨i, hi⟩ := List.mem_iff_getElem?.1 ht
  exact (h i t hi).1
theorem asP_asc {ts : List (List Int)} (h : asP ts) : ts.Pairwise fun s t => mnV s < mnV t := asc_all fun i t j s ht hj hs => (h i t ht).2 j s hj hs
theorem asP_of {ts : List (List Int)} (hB : ∀ t ∈ ts, tB t = true) (h : ts.Pairwise fun s t => mnV s < mnV t) : asP ts := fun i t ht => by
  refine ⟨hB t (List.mem_of_getElem? ht), fun j s hj hs => ?_⟩
  obtain ⟨hi, e⟩ := List.getElem?_eq_some_iff.1 ht
  obtain ⟨hj2, e2⟩ := List.getElem?_eq_some_iff.1 hs
  have := List.pairwise_iff_getElem.1 h j i hj2 hi (by omega)
  rw [e, e2] at this
  exact this
theorem asP_len {ts : List (List Int)} (h : asP ts) : ts.length ≤ 12 := by
  have h1 : (ts.map mnV).Nodup := by
    refine (List.pairwise_map.2 ((asP_asc h).imp fun h => ?_) : (ts.map mnV).Pairwise (· ≠ ·))
    omega
  have h2 := nd_sub (b := rangeI 12) h1 fun x hx => by
    obtain ⟨t, ht, rfl⟩ := List.mem_map.1 hx
    have h3 := ((tB_iff t).1 (asP_B h t ht)).1 _ (mn_mem (asP_B h t ht))
    have h3 := of_decide_eq_true (show decide (0 ≤ mnV t ∧ mnV t < 12) = true from h3)
    exact (rangeI_mem 12 _).2 h3
  rw [List.length_map, rangeI_len] at h2
  exact h2
/-- a right forest, as the program looks -/
theorem FP_prog (N : Int) (ts : List (List Int)) : FP N ts ↔ (1 ≤ N ∧ N ≤ 12) ∧ asP ts ∧ (srtI (allV ts) = rangeI (srtI (allV ts)).length ∧ ((srtI (allV ts)).length : Int) = N) := by
  rw [FP_iff]
  constructor
  · rintro ⟨h1, h2, h3, h4⟩
    have hA := asP_of (fun t ht => (h3.1 t ht).1) h4
    obtain ⟨M, rfl⟩ : ∃ M : Nat, N = (M : Int) := ⟨N.toNat, by omega⟩
    have h5 := (sh_iff (asP_B hA)).1 h3
    exact ⟨⟨h1, h2⟩, hA, by rw [h5, rangeI_len], by rw [h5, rangeI_len]⟩
  · rintro ⟨⟨h1, h2⟩, hA, h3, h4⟩
    refine ⟨h1, h2, ?_, asP_asc hA⟩
    rw [← h4]
    exact (sh_iff (asP_B hA)).2 h3
theorem allV_bound {ts : List (List Int)} (k : Nat) : (allV (ts.take k)).length ≤ 12 * k := by
  rw [allV_len, ← cntV_all]
  have h1 := cntV_le (ts.take k) (ts.take k).length
  have h2 := List.length_take_le k ts
  omega
end Go.Proofs.Ytcpffonenhhfoab
