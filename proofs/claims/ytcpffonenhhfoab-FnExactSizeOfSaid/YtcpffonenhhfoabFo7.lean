/- Right forests, put in order by their least vertices: pure. -/
import Derived.Test.YtcpffonenhhfoabF7
namespace Go.Proofs.Ytcpffonenhhfoab
open Go.RowKit

/-- nothing in common -/
def Apart (s t : List Int) : Prop := ∀ x ∈ s, x ∉ t
theorem Apart.symm {s t : List Int} (h : Apart s t) : Apart t s := fun x hx hs => h x hs hx
/-- how many vertices a list of tours has -/
def cnt (ts : List (List Int)) : Nat := (ts.map fun t => (vsL t).length).sum
theorem cntV_all (ts : List (List Int)) : cntV ts ts.length = cnt ts := by unfold cntV cnt; rw [List.take_length]
theorem cnt_perm {a b : List (List Int)} (h : a.Perm b) : cnt a = cnt b := (h.map _).sum_nat
/-- tours side by side, in whatever order -/
def FQ (N : Int) (ts : List (List Int)) : Prop := (∀ t ∈ ts, tB t = true ∧ ∀ x ∈ t, x < N) ∧ ts.Pairwise Apart ∧ (cnt ts : Int) = N
theorem FQ.perm {N : Int} {a b : List (List Int)} (h : FQ N a) (p : a.Perm b) : FQ N b :=
  ⟨fun t ht => h.1 t (p.mem_iff.2 ht), p.pairwise h.2.1 fun h => h.symm, by rw [← cnt_perm p]; exact h.2.2⟩
theorem cnt_le {ts : List (List Int)} (h : ∀ t ∈ ts, tB t = true) : ts.length ≤ cnt ts := by
  induction ts with
  | nil => simp [cnt]
  | cons t r ih =>
    have h1 := vs_pos (h t (by simp))
    have h2 := ih fun s hs => h s (by simp [hs])
    simp only [cnt, List.map_cons, List.sum_cons, List.length_cons] at h2 ⊢
    omega
/-- neighbours ascend: all ascend -/
theorem asc_all {f : List Int → Int} {ts : List (List Int)} (h : ∀ i t j s, ts[i]? = some t → j + 1 = i → ts[j]? = some s → f s < f t) : ts.Pairwise fun s t => f s < f t := by
  rw [List.pairwise_iff_getElem]
  intro i j hi hj hij
  obtain ⟨d, rfl⟩ : ∃ d, j = i + d + 1 := ⟨j - i - 1, by omega⟩
  clear hij
  induction d with
  | zero => exact h (i + 1) _ i _ (List.getElem?_eq_getElem hj) rfl (List.getElem?_eq_getElem hi)
  | succ d ih =>
    have h1 := ih (by omega)
    have h2 := h (i + (d + 1) + 1) _ (i + d + 1) _ (List.getElem?_eq_getElem hj) rfl (List.getElem?_eq_getElem (by omega))
    omega
theorem FP_iff (N : Int) (ts : List (List Int)) : FP N ts ↔ 1 ≤ N ∧ N ≤ 12 ∧ FQ N ts ∧ ts.Pairwise fun s t => mnV s < mnV t := by
  constructor
  · rintro ⟨h1, h2, _, h4, h5⟩
    rw [cntV_all] at h5
    refine ⟨h1, h2, ⟨fun t ht => ?_, ?_, h5⟩, asc_all fun i t j s ht hj hs => (h4 i t ht).2.2.1 j s hj hs⟩
    · obtain ⟨i, hi⟩ := List.mem_iff_getElem?.1 ht
      exact ⟨(h4 i t hi).1, (h4 i t hi).2.1⟩
    · rw [List.pairwise_iff_getElem]
      intro i j hi hj hij
      exact Apart.symm fun x hx => (h4 j _ (List.getElem?_eq_getElem hj)).2.2.2 i _ hij (List.getElem?_eq_getElem hi) x hx
  · rintro ⟨h1, h2, ⟨h3, h4, h5⟩, h6⟩
    have h7 := cnt_le fun t ht => (h3 t ht).1
    refine ⟨h1, h2, by omega, fun i t ht => ?_, by rw [cntV_all]; exact h5⟩
    obtain ⟨hi, e⟩ := List.getElem?_eq_some_iff.1 ht
    have hm := h3 t (List.mem_of_getElem? ht)
    refine ⟨hm.1, hm.2, fun j s hj hs => ?_, fun k s hk hs x hx hxs => ?_⟩
    · obtain ⟨hj2, e2⟩ := List.getElem?_eq_some_iff.1 hs
      have := List.pairwise_iff_getElem.1 h6 j i hj2 hi (by omega)
      rw [e, e2] at this
      exact this
    · obtain ⟨hk2, e2⟩ := List.getElem?_eq_some_iff.1 hs
      have := List.pairwise_iff_getElem.1 h4 k i hk2 hi hk
      rw [e, e2] at this
      exact this x hxs hx
/-- those with least vertex below k, in order -/
def srtK (l : List (List Int)) : Nat → List (List Int)
  | 0 => []
  | k + 1 => srtK l k ++ l.filter fun t => decide (mnV t = (k : Int))
theorem srtK_mem (l : List (List Int)) (k : Nat) (t : List Int) : t ∈ srtK l k ↔ t ∈ l ∧ ∃ j, j < k ∧ mnV t = ((j : Nat) : Int) := by
  induction k with
  | zero => simp [srtK]
  | succ k ih =>
    simp only [srtK, List.mem_append, ih, List.mem_filter, decide_eq_true_eq]
    constructor
    · rintro (⟨h, j, hj, e⟩ | ⟨h, e⟩)
      · exact ⟨h, j, by omega, e⟩
      · exact ⟨h, k, by omega, e⟩
    · rintro ⟨h, j, hj, e⟩
      by_cases hk : j = k
      · subst hk
        exact .inr ⟨h, e⟩
      · exact .inl ⟨h, j, by omega, e⟩
theorem srtK_cons (t : List Int) (l : List (List Int)) (k : Nat) {j : Nat} (hj : j < k) (e : mnV t = (j : Int)) : (srtK (t :: l) k).Perm (t :: srtK l k) := by
  induction k with
  | zero => omega
  | succ k ih =>
    simp only [srtK]
    by_cases hk : j = k
    · subst hk
      have h0 : srtK (t :: l) j = srtK l j := by
        have : ∀ i, i ≤ j → srtK (t :: l) i = srtK l i := by
          intro i
          induction i with
          | zero => intro _; rfl
          | succ i ih2 =>
            intro hi
            have hne : ¬ mnV t = (i : Int) := by rw [e]; omega
            simp only [srtK]
            rw [ih2 (by omega), List.filter_cons_of_neg (by simpa using hne)]
        exact this j (Nat.le_refl _)
      rw [h0, List.filter_cons_of_pos (by simpa using e)]
      exact List.perm_middle
    · have hne : ¬ mnV t = (k : Int) := by rw [e]; omega
      rw [List.filter_cons_of_neg (by simpa using hne)]
      exact (ih (by omega)).append_right _
theorem srtK_perm {l : List (List Int)} {k : Nat} (h : ∀ t ∈ l, ∃ j, j < k ∧ mnV t = ((j : Nat) : Int)) : (srtK l k).Perm l := by
  induction l with
  | nil =>
    have : ∀ i, srtK [] i = [] := by
      intro i
      induction i with
      | zero => rfl
      | succ i ih => simp [srtK, ih]
    rw [this]
  | cons t l ih =>
    obtain ⟨j, hj, e⟩ := h t (by simp)
    exact (srtK_cons t l k hj e).trans ((ih fun s hs => h s (by simp [hs])).cons t)
theorem mn_mem {t : List Int} (hB : tB t = true) : mnV t ∈ t := by
  have h := vs_pos hB
  have hx : (vsL t)[0]? = some ((vsL t)[0]'h) := List.getElem?_eq_getElem h
  rw [mn_first hx]
  exact (vs_mem_of hB).1 (List.getElem_mem h)
theorem mn_range {t : List Int} (hB : tB t = true) {N : Nat} (hx : ∀ x ∈ t, x < (N : Int)) : ∃ j, j < N ∧ mnV t = ((j : Nat) : Int) := by
  have h1 := mn_mem hB
  have h2 := hx _ h1
  have h3 := ((tB_iff t).1 hB).1 _ h1
  unfold vB at h3
  have h3 := of_decide_eq_true h3
  exact ⟨(mnV t).toNat, by omega, by omega⟩
theorem srtK_asc {l : List (List Int)} (h : l.Pairwise fun s t => mnV s ≠ mnV t) (k : Nat) : (srtK l k).Pairwise fun s t => mnV s < mnV t := by
  induction k with
  | zero => exact List.Pairwise.nil
  | succ k ih =>
    simp only [srtK]
    rw [List.pairwise_append]
    refine ⟨ih, ?_, fun s hs t ht => ?_⟩
    · have h2 : (l.filter fun t => decide (mnV t = (k : Int))).Pairwise fun s t => mnV s ≠ mnV t := h.filter _
      refine h2.imp_of_mem fun hs ht hne => ?_
      have e1 := of_decide_eq_true (List.mem_filter.1 hs).2
      have e2 := of_decide_eq_true (List.mem_filter.1 ht).2
      exact absurd (e1.trans e2.symm) hne
    · obtain ⟨_, j, hj, e⟩ := (srtK_mem l k s).1 hs
      have e2 := of_decide_eq_true (List.mem_filter.1 ht).2
      omega
theorem mn_apart {s t : List Int} (hs : tB s = true) (ht : tB t = true) (h : Apart s t) : mnV s ≠ mnV t := fun e => h _ (mn_mem hs) (e ▸ mn_mem ht)
/-- tours side by side, put in order, are a right forest -/
theorem FP_srt {N : Nat} {l : List (List Int)} (h1 : 1 ≤ N) (h2 : N ≤ 12) (h : FQ (N : Int) l) : FP (N : Int) (srtK l N) := by
  have hp : (srtK l N).Perm l := srtK_perm fun t ht => mn_range (h.1 t ht).1 (h.1 t ht).2
  refine (FP_iff _ _).2 ⟨by omega, by omega, h.perm hp.symm, srtK_asc ?_ N⟩
  exact h.2.1.imp_of_mem fun hs ht hap => mn_apart (h.1 _ hs).1 (h.1 _ ht).1 hap
/-- a right forest is in order already, and two in order with the same tours are one -/
theorem asc_uniq {a b : List (List Int)} (ha : a.Pairwise fun s t => mnV s < mnV t) (hb : b.Pairwise fun s t => mnV s < mnV t) (hp : a.Perm b) : a = b :=
  List.Perm.eq_of_pairwise (fun _ _ _ _ h1 h2 => by omega) ha hb hp
end Go.Proofs.Ytcpffonenhhfoab
