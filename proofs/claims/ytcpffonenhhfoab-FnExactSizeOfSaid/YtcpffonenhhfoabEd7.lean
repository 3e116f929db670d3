/- The edges of a forest, its parts, the place of a vertex: pure. -/
import Derived.Test.YtcpffonenhhfoabLk7
import Derived.Test.YtcpffonenhhfoabTourE
namespace Go.Proofs.Ytcpffonenhhfoab
open Go.RowKit

/-- the edges of all tours -/
def allE (ts : List (List Int)) : List EdgeV := ts.flatMap tE
theorem allE_mem (ts : List (List Int)) (e : EdgeV) : e ∈ allE ts ↔ ∃ t ∈ ts, e ∈ tE t := by simp [allE]
theorem allE_nodup {ts : List (List Int)} (h : ts.Pairwise Apart) : (allE ts).Nodup := by
  induction ts with
  | nil => simp [allE]
  | cons t r ih =>
    rw [List.pairwise_cons] at h
    show (tE t ++ allE r).Nodup
    rw [List.nodup_append]
    refine ⟨eK_nodup t _, ih h.2, fun e he f hf hef => ?_⟩
    subst hef
    obtain ⟨s, hs, hes⟩ := (allE_mem r e).1 hf
    exact h.1 s hs e.1 (tE_in e he).1 (tE_in e hes).1
theorem allE_len {ts : List (List Int)} (h : ∀ t ∈ ts, tB t = true) : 2 * (allE ts).length + ts.length = (ts.map List.length).sum := by
  induction ts with
  | nil => simp [allE]
  | cons t r ih =>
    have h1 := tE_count (h t (by simp))
    have h2 := ih fun s hs => h s (by simp [hs])
    have h3 : (allE (t :: r)).length = (tE t).length + (allE r).length := by
      show (tE t ++ allE r).length = _
      rw [List.length_append]
    simp only [List.map_cons, List.sum_cons, List.length_cons]
    omega
/-- two lists of the same edges, each told once, are of one length -/
theorem len_same {a b : List EdgeV} (ha : a.Nodup) (hb : b.Nodup) (h : ∀ e, e ∈ a ↔ e ∈ b) : a.length = b.length := by
  have h1 := nd_sub ha fun e he => (h e).1 he
  have h2 := nd_sub hb fun e he => (h e).2 he
  omega
/-- one edge more where two tours are joined -/
theorem allE_join {a b J : List Int} {u v : Int} {W : List (List Int)} (ha : tB a = true) (hb : tB b = true) (hW : ∀ t ∈ W, tB t = true) (hJ : JoIs a b u v J) : (allE (W ++ [J])).length = (allE (a :: b :: W)).length + 1 := by
  have h1 := allE_len (ts := a :: b :: W) fun t ht => by
    simp only [List.mem_cons] at ht
    rcases ht with rfl | rfl | ht
    · exact ha
    · exact hb
    · exact hW t ht
  have h2 := allE_len (ts := W ++ [J]) fun t ht => by
    simp only [List.mem_append, List.mem_singleton] at ht
    rcases ht with ht | rfl
    · exact hW t ht
    · exact hJ.ok
  have h3 := hJ.len
  simp only [List.map_cons, List.sum_cons, List.length_cons, List.map_append, List.sum_append, List.length_append, List.map_nil, List.sum_nil, List.length_nil] at h1 h2
  omega
theorem jo_edge {a b J : List Int} {u v : Int} (hJ : JoIs a b u v J) (hl : u < v) : (u, v) ∈ tE J := by
  obtain ⟨k, h1, h2⟩ := hJ.step
  exact (tE_mem J (u, v)).2 ⟨k, h1, h2, hl⟩

/-- a vertex is in one tour alone -/
theorem FQ.place {N : Int} {ts : List (List Int)} (h : FQ N ts) {i j : Nat} {s t : List Int} {x : Int} (hi : ts[i]? = some s) (hj : ts[j]? = some t) (hs : x ∈ s) (ht : x ∈ t) : i = j := by
  obtain ⟨i0, i1⟩ := List.getElem?_eq_some_iff.1 hi
  obtain ⟨j0, j1⟩ := List.getElem?_eq_some_iff.1 hj
  rcases Nat.lt_trichotomy i j with hlt | hlt | hlt
  · have := List.pairwise_iff_getElem.1 h.2.1 i j i0 j0 hlt
    rw [i1, j1] at this
    exact absurd ht (this x hs)
  · exact hlt
  · have := List.pairwise_iff_getElem.1 h.2.1 j i j0 i0 hlt
    rw [i1, j1] at this
    exact absurd hs (this x ht)
theorem FQ.one {N : Int} {ts : List (List Int)} (h : FQ N ts) {s t : List Int} {x : Int} (hs : s ∈ ts) (ht : t ∈ ts) (h1 : x ∈ s) (h2 : x ∈ t) : s = t := by
  obtain ⟨i, hi⟩ := List.mem_iff_getElem?.1 hs
  obtain ⟨j, hj⟩ := List.mem_iff_getElem?.1 ht
  have := h.place hi hj h1 h2
  subst this
  rw [hi] at hj
  exact Option.some.inj hj
theorem vs_alike {a b : List Int} (h : ∀ x, x ∈ a ↔ x ∈ b) : vsL a = vsL b := asc_ext (vsK_asc a 12) (vsK_asc b 12) fun x => by
  show x ∈ vsL a ↔ x ∈ vsL b
  rw [vsL_mem, vsL_mem, h]
theorem mn_alike {a b : List Int} (h : ∀ x, x ∈ a ↔ x ∈ b) : mnV a = mnV b := by unfold mnV; rw [vs_alike h]
/-- every vertex below N is in a tour -/
theorem FQ.cover {N : Nat} {ts : List (List Int)} (h : FQ (N : Int) ts) {x : Int} (h0 : 0 ≤ x) (h1 : x < (N : Int)) : ∃ t ∈ ts, x ∈ t := by
  have hall : ∀ (l : List (List Int)), (l.flatMap vsL).length = cnt l := fun l => by
    induction l with
    | nil => simp [cnt]
    | cons t r ih =>
      simp only [List.flatMap_cons, List.length_append, ih]
      simp [cnt]
  have hnd : ∀ (l : List (List Int)), l.Pairwise Apart → (l.flatMap vsL).Nodup := fun l hl => by
    induction l with
    | nil => simp
    | cons t r ih =>
      rw [List.pairwise_cons] at hl
      rw [List.flatMap_cons, List.nodup_append]
      refine ⟨vs_nodup t, ih hl.2, fun y hy z hz e => ?_⟩
      subst e
      obtain ⟨s, hs, hys⟩ := List.mem_flatMap.1 hz
      exact hl.1 s hs y ((vsL_mem t y).1 hy).2 ((vsL_mem s y).1 hys).2
  by_cases hx : x ∈ ts.flatMap vsL
  · obtain ⟨t, ht, hxt⟩ := List.mem_flatMap.1 hx
    exact ⟨t, ht, ((vsL_mem t x).1 hxt).2⟩
  · exfalso
    have h2 : (x :: ts.flatMap vsL).Nodup := List.nodup_cons.2 ⟨hx, hnd ts h.2.1⟩
    have h3 := nd_sub (b := (List.range N).map fun j : Nat => (j : Int)) h2 fun y hy => by
      have hy2 : 0 ≤ y ∧ y < (N : Int) := by
        rcases List.mem_cons.1 hy with rfl | hy
        · exact ⟨h0, h1⟩
        · obtain ⟨t, ht, hyt⟩ := List.mem_flatMap.1 hy
          obtain ⟨v1, v2⟩ := (vsL_mem t y).1 hyt
          have v1 := of_decide_eq_true (show decide (0 ≤ y ∧ y < 12) = true from v1)
          exact ⟨v1.1, (h.1 t ht).2 y v2⟩
      exact List.mem_map.2 ⟨y.toNat, List.mem_range.2 (by omega), by omega⟩
    have h4 := h.2.2
    rw [List.length_cons, hall, List.length_map, List.length_range] at h3
    omega
/-- the least vertex of the tree of x -/
def Prt (ts : List (List Int)) (x m : Int) : Prop := ∃ t ∈ ts, x ∈ t ∧ m = mnV t
theorem Prt.uniq {N : Int} {ts : List (List Int)} (h : FQ N ts) {x m m' : Int} (h1 : Prt ts x m) (h2 : Prt ts x m') : m = m' := by
  obtain ⟨s, a1, a2, rfl⟩ := h1
  obtain ⟨t, b1, b2, rfl⟩ := h2
  rw [h.one a1 b1 a2 b2]
theorem Prt.like {a b : List (List Int)} (h : ∀ t ∈ a, ∃ s ∈ b, ∀ x, x ∈ t ↔ x ∈ s) {x m : Int} (hp : Prt a x m) : Prt b x m := by
  obtain ⟨t, h1, h2, rfl⟩ := hp
  obtain ⟨s, h3, h4⟩ := h t h1
  exact ⟨s, h3, (h4 x).1 h2, mn_alike h4⟩
end Go.Proofs.Ytcpffonenhhfoab
