/- What is around a vertex: by the program's way and by the specification's. (No walk.) -/
import Derived.Test.YtcppbgkocipnlaaGr6
namespace Go.Proofs.Ytcppbgkocipnlaa

/-- the other end, where the edge has v -/
def otherE (v : Int) (e : EdgeV) : Option Int := if v = e.1 then some e.2 else if v = e.2 then some e.1 else none
/-- the program's way -/
def arI (es : List EdgeV) (v : Int) : List Int := es.filterMap (otherE v)
/-- the specification's way, of n vertices -/
def arS (es : List EdgeV) (v : Int) (n : Nat) : List Int := ((List.range n).map fun (u : Nat) => (u : Int)).filter fun u => hasB es (u, v) || hasB es (v, u)
theorem arI_snoc (es : List EdgeV) (v : Int) (e : EdgeV) : arI (es ++ [e]) v = arI es v ++ (otherE v e).toList := by
  unfold arI
  rw [List.filterMap_append]
  cases h : otherE v e <;> simp [h]
theorem arS_snoc (es : List EdgeV) (v : Int) (n : Nat) : arS es v (n + 1) = arS es v n ++ (if hasB es ((n : Int), v) || hasB es (v, (n : Int)) then [(n : Int)] else []) := by
  unfold arS
  rw [List.range_succ, List.map_append, List.filter_append]
  simp only [List.map_cons, List.map_nil, List.filter_cons, List.filter_nil]
theorem arI_len (es : List EdgeV) (v : Int) : (arI es v).length ≤ es.length := List.length_filterMap_le _ _
theorem arS_len (es : List EdgeV) (v : Int) (n : Nat) : (arS es v n).length ≤ n := by
  unfold arS
  exact Nat.le_trans (List.length_filter_le _ _) (by simp)

theorem sorted_ext : ∀ {l1 l2 : List Int}, l1.Pairwise (· < ·) → l2.Pairwise (· < ·) → (∀ x, x ∈ l1 ↔ x ∈ l2) → l1 = l2 := by
  intro l1
  induction l1 with
  | nil =>
    intro l2 _ _ h
    cases l2 with
    | nil => rfl
    | cons y l2 => exact absurd ((h y).2 (by simp)) (by simp)
  | cons x l1 ih =>
    intro l2 h1 h2 h
    cases l2 with
    | nil => exact absurd ((h x).1 (by simp)) (by simp)
    | cons y l2 =>
      obtain ⟨a1, b1⟩ := List.pairwise_cons.1 h1
      obtain ⟨a2, b2⟩ := List.pairwise_cons.1 h2
      have hxy : x = y := by
        have hx := (h x).1 (by simp)
        have hy := (h y).2 (by simp)
        rcases List.mem_cons.1 hx with e | hx
        · exact e
        · rcases List.mem_cons.1 hy with e | hy
          · exact e.symm
          · have := a2 x hx
            have := a1 y hy
            omega
      subst hxy
      rw [ih b1 b2 fun z => ?_]
      constructor
      · intro hz
        rcases List.mem_cons.1 ((h z).1 (by simp [hz])) with e | hz'
        · have := a1 z hz; omega
        · exact hz'
      · intro hz
        rcases List.mem_cons.1 ((h z).2 (by simp [hz])) with e | hz'
        · have := a2 z hz; omega
        · exact hz'

theorem eB_iff (n : Int) (e : EdgeV) : eB n e = true ↔ (1 ≤ n ∧ n ≤ 12 ∧ 0 ≤ e.1 ∧ e.1 < e.2 ∧ e.2 < n) := by unfold eB; rw [decide_eq_true_iff]

theorem pairwise_asc {es : List EdgeV} (h : Asc es) : es.Pairwise fun d e => lt d e = true := by
  rw [List.pairwise_iff_getElem]
  exact fun i j hi hj hij => h i j _ _ hij (List.getElem?_eq_getElem hi) (List.getElem?_eq_getElem hj)

theorem ar_same {N : Int} {es : List EdgeV} (v : Int) (hg : gB N es = true) : arI es v = arS es v N.toNat := by
  obtain ⟨⟨hN1, hN2⟩, hck, _⟩ := gB_chk hg
  have hE : ∀ e ∈ es, 0 ≤ e.1 ∧ e.1 < e.2 ∧ e.2 < N := fun e he => by have := (eB_iff N e).1 (chk_eB hck he); omega
  refine sorted_ext ?_ ?_ ?_
  · unfold arI
    rw [List.pairwise_filterMap]
    refine List.Pairwise.imp_of_mem ?_ (pairwise_asc (asc_of_chk hck))
    intro d e hd he hlt b hb b' hb'
    rw [lt_iff] at hlt
    have h1 := hE d hd
    have h2 := hE e he
    unfold otherE at hb hb'
    split at hb
    · split at hb'
      · simp at hb hb'; omega
      · split at hb'
        · simp at hb hb'; omega
        · cases hb'
    · split at hb
      · split at hb'
        · simp at hb hb'; omega
        · split at hb'
          · simp at hb hb'; omega
          · cases hb'
      · cases hb
  · unfold arS
    refine List.Pairwise.filter _ ?_
    rw [List.pairwise_map]
    exact List.Pairwise.imp (fun h => by omega) List.pairwise_lt_range
  · intro x
    unfold arI arS
    rw [List.mem_filterMap, List.mem_filter, List.mem_map]
    constructor
    · rintro ⟨e, he, hx⟩
      have h1 := hE e he
      unfold otherE at hx
      split at hx
      · rename_i hv
        simp at hx
        subst hv hx
        refine ⟨⟨e.2.toNat, by rw [List.mem_range]; omega, by omega⟩, ?_⟩
        rw [Bool.or_eq_true]
        exact .inr (decide_eq_true he)
      · split at hx
        · rename_i hv
          simp at hx
          subst hv hx
          refine ⟨⟨e.1.toNat, by rw [List.mem_range]; omega, by omega⟩, ?_⟩
          rw [Bool.or_eq_true]
          exact .inl (decide_eq_true he)
        · cases hx
    · rintro ⟨_, hx⟩
      rw [Bool.or_eq_true] at hx
      rcases hx with hx | hx
      · have hm : (x, v) ∈ es := of_decide_eq_true hx
        have h1 := hE _ hm
        refine ⟨_, hm, ?_⟩
        unfold otherE
        rw [if_neg (by dsimp only at h1 ⊢; omega), if_pos rfl]
      · have hm : (v, x) ∈ es := of_decide_eq_true hx
        refine ⟨_, hm, ?_⟩
        unfold otherE
        rw [if_pos rfl]

/-- Around -/
def arE (N : Int) (es : List EdgeV) (v : Int) : List Int := if gB N es = true then arS es v N.toNat else []
theorem arE_len {N : Int} {es : List EdgeV} {v : Int} : (arE N es v).length ≤ 200 := by
  unfold arE
  split
  · rename_i h
    have h1 := (gB_chk h).1
    have h2 := arS_len es v N.toNat
    omega
  · simp
end Go.Proofs.Ytcppbgkocipnlaa
