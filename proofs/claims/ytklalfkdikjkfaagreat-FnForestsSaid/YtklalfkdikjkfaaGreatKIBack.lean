/- The vertices of a list of numbers, ascending; a sorted list without its repetitions: pure. Lists of tours in memory; what a right forest is: pure. Right forests, put in order by their least vertices: pure. A tour from another of its vertices on is a tour; two that are joined are one; one that is split is two: pure. The program's Reroot. slices.Backward over ints: it yields each place with its number, the last one first; the program's lastPlace, which ranges over it. -/
import Derived.Test.YtklalfkdikjkfaaGreatKITour
import Derived.Lib.SlicesCompact
import Derived.Test.YtklalfkdikjkfaaGreatKSplit
import Derived.RangeFuncNested
import Derived.RangeFuncBound
import Derived.RangeFuncCalls
import Derived.RangeFuncLeaves
import Derived.RangeFuncBox
import Derived.Shelf.Abstract
import Derived.Shelf.RegionOpen
import Derived.WalkKit
import Derived.OwnWalkIn
import Derived.TacticsInMore
import Derived.LoopNIn
import Derived.LoopIn
import Derived.Maps.AppendAt
namespace Go.Proofs.YtklalfkdikjkfaaGreat
open Go.Lib

/-- the vertices below k that stand in t, ascending -/
def vsK (t : List Int) (k : Nat) : List Int := ((List.range k).map fun j : Nat => (j : Int)).filter fun x => decide (x ∈ t)
/-- the vertices that stand in t, ascending -/
def vsL (t : List Int) : List Int := vsK t 12
theorem vsK_zero (t : List Int) : vsK t 0 = [] := by simp [vsK]
theorem vsK_yes {t : List Int} {k : Nat} (h : (k : Int) ∈ t) : vsK t (k + 1) = vsK t k ++ [(k : Int)] := by simp [vsK, List.range_succ, h]
theorem vsK_no {t : List Int} {k : Nat} (h : (k : Int) ∉ t) : vsK t (k + 1) = vsK t k := by simp [vsK, List.range_succ, h]
theorem vsK_len (t : List Int) (k : Nat) : (vsK t k).length ≤ k := by
  have := List.length_filter_le (fun x : Int => decide (x ∈ t)) ((List.range k).map fun j : Nat => (j : Int))
  simpa [vsK] using this
theorem vsL_len (t : List Int) : (vsL t).length ≤ 12 := vsK_len t 12
theorem vsL_mem (t : List Int) (x : Int) : x ∈ vsL t ↔ vB x = true ∧ x ∈ t := by
  simp only [vsL, vsK, List.mem_filter, List.mem_map, List.mem_range, vB, decide_eq_true_eq]
  constructor
  · rintro ⟨⟨j, hj, rfl⟩, h⟩
    exact ⟨by simp; omega, h⟩
  · rintro ⟨h1, h2⟩
    exact ⟨⟨x.toNat, by omega, by omega⟩, h2⟩
theorem vsK_asc (t : List Int) (k : Nat) : (vsK t k).Pairwise (· < ·) := by
  refine List.Pairwise.filter _ ?_
  rw [List.pairwise_map]
  exact List.Pairwise.imp (fun h => by omega) (List.pairwise_lt_range (n := k))
/-- two ascending lists with the same members are one -/
theorem asc_ext : ∀ {a b : List Int}, a.Pairwise (· < ·) → b.Pairwise (· < ·) → (∀ x, x ∈ a ↔ x ∈ b) → a = b
  | [], [], _, _, _ => rfl
  | [], y :: b, _, _, h => by have := (h y).2 (by simp); simp at this
  | x :: a, [], _, _, h => by have := (h x).1 (by simp); simp at this
  | x :: a, y :: b, ha, hb, h => by
    rw [List.pairwise_cons] at ha hb
    have hxy : x = y := by
      have h1 := (h x).1 (by simp)
      have h2 := (h y).2 (by simp)
      rcases List.mem_cons.1 h1 with h1 | h1
      · exact h1
      · rcases List.mem_cons.1 h2 with h2 | h2
        · exact h2.symm
        · have := hb.1 x h1; have := ha.1 y h2; omega
    subst hxy
    have : a = b := asc_ext ha.2 hb.2 fun z => by
      have hz := h z
      simp only [List.mem_cons] at hz
      constructor
      · intro h3
        rcases hz.1 (.inr h3) with h4 | h4
        · have := ha.1 z h3; omega
        · exact h4
      · intro h3
        rcases hz.2 (.inr h3) with h4 | h4
        · have := hb.1 z h3; omega
        · exact h4
    rw [this]
theorem comp_asc (d : Array Int) (hs : ∀ i j, i ≤ j → j < d.size → d[i]! ≤ d[j]!) : ∀ m, m ≤ d.size → (compactUpTo d m).Pairwise (· < ·) ∧ ∀ x, x ∈ compactUpTo d m ↔ ∃ j, j < m ∧ d[j]! = x
  | 0, _ => by simp [compactUpTo]
  | m + 1, hm => by
    obtain ⟨h1, h2⟩ := comp_asc d hs m (by omega)
    rw [compactUpTo_succ]
    by_cases hk : keeps d m = true
    · rw [if_pos hk]
      constructor
      · rw [List.pairwise_append]
        refine ⟨h1, by simp, fun x hx y hy => ?_⟩
        obtain ⟨j, hj, rfl⟩ := (h2 x).1 hx
        simp only [List.mem_singleton] at hy
        subst hy
        simp only [keeps, decide_eq_true_eq] at hk
        rcases hk with hk | hk
        · omega
        · have a1 := hs j (m - 1) (by omega) (by omega)
          have a2 := hs (m - 1) m (by omega) (by omega)
          omega
      · intro x
        simp only [List.mem_append, h2, List.mem_singleton]
        constructor
        · rintro (⟨j, hj, rfl⟩ | rfl)
          · exact ⟨j, by omega, rfl⟩
          · exact ⟨m, by omega, rfl⟩
        · rintro ⟨j, hj, rfl⟩
          by_cases e : j = m
          · exact .inr (by rw [e])
          · exact .inl ⟨j, by omega, rfl⟩
    · rw [if_neg hk, List.append_nil]
      refine ⟨h1, fun x => ?_⟩
      rw [h2]
      have hk' : m ≠ 0 ∧ d[m]! = d[m - 1]! := by
        simp only [keeps, decide_eq_true_eq] at hk
        exact ⟨fun e => hk (.inl e), Classical.not_not.1 (fun e => hk (.inr e))⟩
      constructor
      · rintro ⟨j, hj, rfl⟩; exact ⟨j, by omega, rfl⟩
      · rintro ⟨j, hj, rfl⟩
        by_cases e : j = m
        · exact ⟨m - 1, by omega, by rw [e, hk'.2]⟩
        · exact ⟨j, by omega, rfl⟩
/-- sorted, without repetitions, without what is no vertex -/
def vsI (t : List Int) : List Int := (compactUpTo (t.mergeSort fun x y => decide (x ≤ y)).toArray (t.mergeSort fun x y => decide (x ≤ y)).toArray.size).filter fun x => !(!vB x)
theorem vsI_eq (t : List Int) : vsI t = vsL t := by
  have hp : (t.mergeSort fun x y => decide (x ≤ y)).Pairwise (fun x y => decide (x ≤ y) = true) := List.pairwise_mergeSort (fun a b c h1 h2 => by simp at h1 h2 ⊢; omega) (fun a b => by simp; omega) t
  have hm := fun x => (List.mergeSort_perm t fun x y : Int => decide (x ≤ y)).mem_iff (a := x)
  unfold vsI
  generalize (t.mergeSort fun x y => decide (x ≤ y)) = s at hp hm ⊢
  have hs : ∀ i j, i ≤ j → j < s.toArray.size → s.toArray[i]! ≤ s.toArray[j]! := by
    intro i j hij hj
    have hj' : j < s.length := by simpa using hj
    by_cases e : i = j
    · rw [e]; exact Int.le_refl _
    · have := List.pairwise_iff_getElem.1 hp i j (by omega) hj' (by omega)
      simp at this
      simpa [getElem!_pos, hj', show i < s.length by omega] using this
  obtain ⟨h1, h2⟩ := comp_asc s.toArray hs s.toArray.size (Nat.le_refl _)
  refine asc_ext (List.Pairwise.filter _ h1) (vsK_asc t 12) fun x => ?_
  rw [vsL_mem, List.mem_filter, h2]
  have h3 : (∃ j, j < s.toArray.size ∧ s.toArray[j]! = x) ↔ x ∈ t := by
    rw [← hm x]
    constructor
    · rintro ⟨j, hj, rfl⟩
      have hj' : j < s.length := by simpa using hj
      simp [hj']
    · intro hx
      obtain ⟨j, hj, e⟩ := List.getElem_of_mem hx
      exact ⟨j, by simpa using hj, by simp [hj, e]⟩
  rw [h3]
  simp
  exact And.comm
end Go.Proofs.YtklalfkdikjkfaaGreat
namespace Go.Proofs.YtklalfkdikjkfaaGreat
open Go.RowKit

/-- a list of lists of numbers stands at a -/
def Ts (w : World) (B : Nat) (a : Option Addr) (n : Nat) (ts : List (List Int)) : Prop :=
  ts.length = n ∧ (n = 0 ∨ ∃ b off, a = some ⟨b, off, none⟩ ∧ b < B ∧ ∀ (j : Nat) (t : List Int), ts[j]? = some t →
    ∃ (a' : Option Addr) (c' : Nat), w.cell? ⟨b, off + j, none⟩ = some (.slice a' t.length c') ∧ Is w B a' t.length t ∧ t.length ≤ c')
theorem Ts.below {w w' : World} {B C : Nat} {a : Option Addr} {n : Nat} {ts : List (List Int)} (h : Ts w B a n ts) (hb : Below C w w') (hB : B ≤ C) : Ts w' B a n ts := by
  refine ⟨h.1, h.2.imp id ?_⟩
  rintro ⟨b, off, ha, hbl, hc⟩
  refine ⟨b, off, ha, hbl, fun j t ht => ?_⟩
  obtain ⟨a', c', h1, h2, h3⟩ := hc j t ht
  exact ⟨a', c', by rw [hb.cell (p := ⟨b, _, none⟩) (by show b < C; omega)]; exact h1, h2.below hb hB, h3⟩
theorem Ts.mono {w : World} {B C : Nat} {a : Option Addr} {n : Nat} {ts : List (List Int)} (h : Ts w B a n ts) (hB : B ≤ C) : Ts w C a n ts := by
  refine ⟨h.1, h.2.imp id ?_⟩
  rintro ⟨b, off, ha, hbl, hc⟩
  refine ⟨b, off, ha, by omega, fun j t ht => ?_⟩
  obtain ⟨a', c', h1, h2, h3⟩ := hc j t ht
  exact ⟨a', c', h1, h2.mono hB, h3⟩
theorem Ts.up {w w' : World} {a : Option Addr} {n : Nat} {ts : List (List Int)} (h : Ts w w.heap.size a n ts) (hb : Below w.heap.size w w') : Ts w' w'.heap.size a n ts := (h.below hb (Nat.le_refl _)).mono hb.size
theorem Ts.at {w : World} {B b off n : Nat} {ts : List (List Int)} (h : Ts w B (some ⟨b, off, none⟩) n ts) {j : Nat} {t : List Int} (ht : ts[j]? = some t) :
    ∃ (a' : Option Addr) (c' : Nat), w.cell? ⟨b, off + j, none⟩ = some (.slice a' t.length c') ∧ Is w B a' t.length t ∧ t.length ≤ c' := by
  have hj := (List.getElem?_eq_some_iff.1 ht).1
  have hn := h.1
  rcases h.2 with h0 | ⟨b', off', hb, _, hc⟩
  · omega
  · simp at hb
    obtain ⟨rfl, rfl⟩ := hb
    exact hc j t ht

/-- the least vertex of a tour -/
def mnV (t : List Int) : Int := (vsL t).headD 0
/-- the tour at i is right beside those before it -/
def FAt (N : Int) (ts : List (List Int)) (i : Nat) : Prop := ∀ t, ts[i]? = some t →
  tB t = true ∧ (∀ x ∈ t, x < N) ∧ (∀ j s, j + 1 = i → ts[j]? = some s → mnV s < mnV t) ∧ ∀ k s, k < i → ts[k]? = some s → ∀ x ∈ t, x ∉ s
/-- the vertices of the first k tours, counted -/
def cntV (ts : List (List Int)) (k : Nat) : Nat := ((ts.take k).map fun t => (vsL t).length).sum
/-- N vertices and these tours are a right forest -/
def FP (N : Int) (ts : List (List Int)) : Prop := 1 ≤ N ∧ N ≤ 12 ∧ ts.length ≤ 12 ∧ (∀ i, FAt N ts i) ∧ (cntV ts ts.length : Int) = N
theorem cntV_zero (ts : List (List Int)) : cntV ts 0 = 0 := by simp [cntV]
theorem cntV_succ {ts : List (List Int)} {k : Nat} {t : List Int} (h : ts[k]? = some t) : cntV ts (k + 1) = cntV ts k + (vsL t).length := by
  unfold cntV
  rw [List.take_add_one, h]
  simp
theorem cntV_le (ts : List (List Int)) (k : Nat) : cntV ts k ≤ 12 * k := by
  induction k with
  | zero => simp [cntV]
  | succ k ih =>
    cases h : ts[k]? with
    | none =>
      have : ts.take (k + 1) = ts.take k := by rw [List.take_add_one, h]; simp
      unfold cntV at ih ⊢
      rw [this]
      omega
    | some t =>
      rw [cntV_succ h]
      have := vsL_len t
      omega
theorem vs_mem_of {t : List Int} (hB : tB t = true) {x : Int} : x ∈ vsL t ↔ x ∈ t := by
  rw [vsL_mem]
  exact ⟨fun h => h.2, fun h => ⟨((tB_iff t).1 hB).1 x h, h⟩⟩
theorem tB_pos {t : List Int} (hB : tB t = true) : 0 < t.length := by
  obtain ⟨_, x, s, h⟩ := (tB_iff t).1 hB
  cases t with
  | nil => simp [trun] at h
  | cons a t => simp
theorem vs_pos {t : List Int} (hB : tB t = true) : 0 < (vsL t).length := by
  have := tB_pos hB
  exact List.length_pos_of_mem ((vs_mem_of hB).2 (List.getElem_mem this))
theorem vs_last {t : List Int} (hB : tB t = true) {N x : Int} (hx : (vsL t)[(vsL t).length - 1]? = some x) : (∀ y ∈ t, y < N) ↔ x < N := by
  constructor
  · exact fun h => h x ((vs_mem_of hB).1 (List.mem_of_getElem? hx))
  · intro h y hy
    obtain ⟨p, hp⟩ := List.mem_iff_getElem?.1 ((vs_mem_of hB).2 hy)
    obtain ⟨p0, p1⟩ := List.getElem?_eq_some_iff.1 hp
    obtain ⟨q0, q1⟩ := List.getElem?_eq_some_iff.1 hx
    by_cases e : p = (vsL t).length - 1
    · subst e
      rw [p1] at q1
      omega
    · have := List.pairwise_iff_getElem.1 (vsK_asc t 12) p ((vsL t).length - 1) p0 q0 (by omega)
      rw [show (vsK t 12)[p]'p0 = y from p1, show (vsK t 12)[(vsL t).length - 1]'q0 = x from q1] at this
      omega
theorem mn_first {t : List Int} {x : Int} (hx : (vsL t)[0]? = some x) : mnV t = x := by
  unfold mnV
  cases h : vsL t with
  | nil => rw [h] at hx; simp at hx
  | cons a l => rw [h] at hx; simp at hx; simpa using hx
end Go.Proofs.YtklalfkdikjkfaaGreat
namespace Go.Proofs.YtklalfkdikjkfaaGreat
open Go.RowKit

/-- nothing in common -/
def Apart (s t : List Int) : Prop := ∀ x ∈ s, x ∉ t
theorem Apart.symm {s t : List Int} (h : Apart s t) : Apart t s := fun x hx hs => h x hs hx
/-- how many vertices a list of tours has -/
def cnt (ts : List (List Int)) : Nat := (ts.map fun t => (vsL t).length).sum
theorem cntV_all (ts : List (List Int)) : cntV ts ts.length = cnt ts := by unfold cntV cnt; rw [List.take_length]
theorem cnt_perm {a b : List (List Int)} (h : a.Perm b) : cnt a = cnt b := (h.map _).sum_nat
/-- tours side by side, in whatever order -/
def FQ (N : Int) (ts : List (List Int)) : Prop := (∀ t ∈ ts, tB t = true ∧ ∀ x ∈ t, x < N) ∧ ts.Pairwise Apart ∧ (cnt ts : Int) = N
theorem FQ.perm {N : Int} {a b : List (List Int)} (h : FQ N a) (p : a.Perm b) : FQ N b :=
  ⟨fun t ht => h.1 t (p.mem_iff.2 ht), p.pairwise h.2.1 fun h => h.symm, by rw [← cnt_perm p]; exact h.2.2⟩
theorem cnt_le {ts : List (List Int)} (h : ∀ t ∈ ts, tB t = true) : ts.length ≤ cnt ts := by
  induction ts with
  | nil => simp [cnt]
  | cons t r ih =>
    have h1 := vs_pos (h t (by simp))
    have h2 := ih fun s hs => h s (by simp [hs])
    simp only [cnt, List.map_cons, List.sum_cons, List.length_cons] at h2 ⊢
    omega
/-- neighbours ascend: all ascend -/
theorem asc_all {f : List Int → Int} {ts : List (List Int)} (h : ∀ i t j s, ts[i]? = some t → j + 1 = i → ts[j]? = some s → f s < f t) : ts.Pairwise fun s t => f s < f t := by
  rw [List.pairwise_iff_getElem]
  intro i j hi hj hij
  obtain ⟨d, rfl⟩ : ∃ d, j = i + d + 1 := ⟨j - i - 1, by omega⟩
  clear hij
  induction d with
  | zero => exact h (i + 1) _ i _ (List.getElem?_eq_getElem hj) rfl (List.getElem?_eq_getElem hi)
  | succ d ih =>
    have h1 := ih (by omega)
    have h2 := h (i + (d + 1) + 1) _ (i + d + 1) _ (List.getElem?_eq_getElem hj) rfl (List.getElem?_eq_getElem (by omega))
    omega
theorem FP_iff (N : Int) (ts : List (List Int)) : FP N ts ↔ 1 ≤ N ∧ N ≤ 12 ∧ FQ N ts ∧ ts.Pairwise fun s t => mnV s < mnV t := by
  constructor
  · rintro ⟨h1, h2, _, h4, h5⟩
    rw [cntV_all] at h5
    refine ⟨h1, h2, ⟨fun t ht => ?_, ?_, h5⟩, asc_all fun i t j s ht hj hs => (h4 i t ht).2.2.1 j s hj hs⟩
    · obtain ⟨i, hi⟩ := List.mem_iff_getElem?.1 ht
      exact ⟨(h4 i t hi).1, (h4 i t hi).2.1⟩
    · rw [List.pairwise_iff_getElem]
      intro i j hi hj hij
      exact Apart.symm fun x hx => (h4 j _ (List.getElem?_eq_getElem hj)).2.2.2 i _ hij (List.getElem?_eq_getElem hi) x hx
  · rintro ⟨h1, h2, ⟨h3, h4, h5⟩, h6⟩
    have h7 := cnt_le fun t ht => (h3 t ht).1
    refine ⟨h1, h2, by omega, fun i t ht => ?_, by rw [cntV_all]; exact h5⟩
    obtain ⟨hi, e⟩ := List.getElem?_eq_some_iff.1 ht
    have hm := h3 t (List.mem_of_getElem? ht)
    refine ⟨hm.1, hm.2, fun j s hj hs => ?_, fun k s hk hs x hx hxs => ?_⟩
    · obtain ⟨hj2, e2⟩ := List.getElem?_eq_some_iff.1 hs
      have := List.pairwise_iff_getElem.1 h6 j i hj2 hi (by omega)
      rw [e, e2] at this
      exact this
    · obtain ⟨hk2, e2⟩ := List.getElem?_eq_some_iff.1 hs
      have := List.pairwise_iff_getElem.1 h4 k i hk2 hi hk
      rw [e, e2] at this
      exact this x hxs hx
/-- those with least vertex below k, in order -/
def srtK (l : List (List Int)) : Nat → List (List Int)
  | 0 => []
  | k + 1 => srtK l k ++ l.filter fun t => decide (mnV t = (k : Int))
theorem srtK_mem (l : List (List Int)) (k : Nat) (t : List Int) : t ∈ srtK l k ↔ t ∈ l ∧ ∃ j, j < k ∧ mnV t = ((j : Nat) : Int) := by
  induction k with
  | zero => simp [srtK]
  | succ k ih =>
    simp only [srtK, List.mem_append, ih, List.mem_filter, decide_eq_true_eq]
    constructor
    · rintro (⟨h, j, hj, e⟩ | ⟨h, e⟩)
      · exact ⟨h, j, by omega, e⟩
      · exact ⟨h, k, by omega, e⟩
    · rintro ⟨h, j, hj, e⟩
      by_cases hk : j = k
      · subst hk
        exact .inr ⟨h, e⟩
      · exact .inl ⟨h, j, by omega, e⟩
theorem srtK_cons (t : List Int) (l : List (List Int)) (k : Nat) {j : Nat} (hj : j < k) (e : mnV t = (j : Int)) : (srtK (t :: l) k).Perm (t :: srtK l k) := by
  induction k with
  | zero => omega
  | succ k ih =>
    simp only [srtK]
    by_cases hk : j = k
    · subst hk
      have h0 : srtK (t :: l) j = srtK l j := by
        have : ∀ i, i ≤ j → srtK (t :: l) i = srtK l i := by
          intro i
          induction i with
          | zero => intro _; rfl
          | succ i ih2 =>
            intro hi
            have hne : ¬ mnV t = (i : Int) := by rw [e]; omega
            simp only [srtK]
            rw [ih2 (by omega), List.filter_cons_of_neg (by simpa using hne)]
        exact this j (Nat.le_refl _)
      rw [h0, List.filter_cons_of_pos (by simpa using e)]
      exact List.perm_middle
    · have hne : ¬ mnV t = (k : Int) := by rw [e]; omega
      rw [List.filter_cons_of_neg (by simpa using hne)]
      exact (ih (by omega)).append_right _
theorem srtK_perm {l : List (List Int)} {k : Nat} (h : ∀ t ∈ l, ∃ j, j < k ∧ mnV t = ((j : Nat) : Int)) : (srtK l k).Perm l := by
  induction l with
  | nil =>
    have : ∀ i, srtK [] i = [] := by
      intro i
      induction i with
      | zero => rfl
      | succ i ih => simp [srtK, ih]
    rw [this]
  | cons t l ih =>
    obtain ⟨j, hj, e⟩ := h t (by simp)
    exact (srtK_cons t l k hj e).trans ((ih fun s hs => h s (by simp [hs])).cons t)
theorem mn_mem {t : List Int} (hB : tB t = true) : mnV t ∈ t := by
  have h := vs_pos hB
  have hx : (vsL t)[0]? = some ((vsL t)[0]'h) := List.getElem?_eq_getElem h
  rw [mn_first hx]
  exact (vs_mem_of hB).1 (List.getElem_mem h)
theorem mn_range {t : List Int} (hB : tB t = true) {N : Nat} (hx : ∀ x ∈ t, x < (N : Int)) : ∃ j, j < N ∧ mnV t = ((j : Nat) : Int) := by
  have h1 := mn_mem hB
  have h2 := hx _ h1
  have h3 := ((tB_iff t).1 hB).1 _ h1
  unfold vB at h3
  have h3 := of_decide_eq_true h3
  exact ⟨(mnV t).toNat, by omega, by omega⟩
theorem srtK_asc {l : List (List Int)} (h : l.Pairwise fun s t => mnV s ≠ mnV t) (k : Nat) : (srtK l k).Pairwise fun s t => mnV s < mnV t := by
  induction k with
  | zero => exact List.Pairwise.nil
  | succ k ih =>
    simp only [srtK]
    rw [List.pairwise_append]
    refine ⟨ih, ?_, fun s hs t ht => ?_⟩
    · have h2 : (l.filter fun t => decide (mnV t = (k : Int))).Pairwise fun s t => mnV s ≠ mnV t := h.filter _
      refine h2.imp_of_mem fun hs ht hne => ?_
      have e1 := of_decide_eq_true (List.mem_filter.1 hs).2
      have e2 := of_decide_eq_true (List.mem_filter.1 ht).2
      exact absurd (e1.trans e2.symm) hne
    · obtain ⟨_, j, hj, e⟩ := (srtK_mem l k s).1 hs
      have e2 := of_decide_eq_true (List.mem_filter.1 ht).2
      omega
theorem mn_apart {s t : List Int} (hs : tB s = true) (ht : tB t = true) (h : Apart s t) : mnV s ≠ mnV t := fun e => h _ (mn_mem hs) (e ▸ mn_mem ht)
/-- tours side by side, put in order, are a right forest -/
theorem FP_srt {N : Nat} {l : List (List Int)} (h1 : 1 ≤ N) (h2 : N ≤ 12) (h : FQ (N : Int) l) : FP (N : Int) (srtK l N) := by
  have hp : (srtK l N).Perm l := srtK_perm fun t ht => mn_range (h.1 t ht).1 (h.1 t ht).2
  refine (FP_iff _ _).2 ⟨by omega, by omega, h.perm hp.symm, srtK_asc ?_ N⟩
  exact h.2.1.imp_of_mem fun hs ht hap => mn_apart (h.1 _ hs).1 (h.1 _ ht).1 hap
/-- a right forest is in order already, and two in order with the same tours are one -/
theorem asc_uniq {a b : List (List Int)} (ha : a.Pairwise fun s t => mnV s < mnV t) (hb : b.Pairwise fun s t => mnV s < mnV t) (hp : a.Perm b) : a = b :=
  List.Perm.eq_of_pairwise (fun _ _ _ _ h1 h2 => by omega) ha hb hp
end Go.Proofs.YtklalfkdikjkfaaGreat
namespace Go.Proofs.YtklalfkdikjkfaaGreat

/-- what is seen matters as a set alone: fewer, more or others beside -/
theorem trun_less {r w s w1 s1 s' : List Int} (h : trun w s r = some (w1, s1)) (hs : ∀ x ∈ s', x ∈ s) : ∃ s1', trun w s' r = some (w1, s1') := by
  induction r generalizing w s s' with
  | nil => simp [trun] at h; exact ⟨s', by simp [trun, h.1]⟩
  | cons v r ih =>
    rcases trun_cons h with ⟨hu, h1⟩ | ⟨hu, hv, h1⟩
    · obtain ⟨s1', h2⟩ := ih h1 hs
      exact ⟨s1', by rw [trun_up hu]; exact h2⟩
    · obtain ⟨s1', h2⟩ := ih h1 (s' := v :: s') (fun x hx => by
        rcases List.mem_cons.1 hx with rfl | hx
        · simp
        · exact List.mem_cons_of_mem _ (hs x hx))
      exact ⟨s1', by rw [trun_down hu (fun h3 => hv (hs v h3))]; exact h2⟩
/-- the same run further up, over another way, with more that was seen: nothing of that stands in the list -/
theorem trun_over {r w s w1 s1 E s' : List Int} (h : trun w s r = some (w1, s1)) (hw : w ≠ []) (hs : ∀ x ∈ s', x ∈ s ∨ x ∉ r) (hE : ∀ x ∈ E, x ∈ s ∨ x ∉ r) : ∃ s1', trun (w ++ E) s' r = some (w1 ++ E, s1') := by
  induction r generalizing w s s' with
  | nil => simp [trun] at h; exact ⟨s', by simp [trun, h.1]⟩
  | cons v r ih =>
    rcases trun_cons h with ⟨hu, h1⟩ | ⟨hu, hv, h1⟩
    · obtain ⟨c, q, rfl⟩ := isUp_some hu
      obtain ⟨s1', h2⟩ := ih h1 (by simp) (fun x hx => (hs x hx).imp id (fun h3 h4 => h3 (List.mem_cons_of_mem _ h4))) (fun x hx => (hE x hx).imp id (fun h3 h4 => h3 (List.mem_cons_of_mem _ h4)))
      exact ⟨s1', by rw [trun_up (by simp [isUp])]; exact h2⟩
    · obtain ⟨s1', h2⟩ := ih h1 (by simp) (s' := v :: s') (fun x hx => by
          rcases List.mem_cons.1 hx with rfl | hx
          · exact .inl (by simp)
          · exact (hs x hx).imp (fun h3 => List.mem_cons_of_mem _ h3) (fun h3 h4 => h3 (List.mem_cons_of_mem _ h4))) (fun x hx => (hE x hx).imp (fun h3 => List.mem_cons_of_mem _ h3) (fun h3 h4 => h3 (List.mem_cons_of_mem _ h4)))
      have hvs : v ∉ s' := fun h3 => (hs v h3).elim hv (fun h4 => h4 (by simp))
      have hvE : v ∉ E := fun h3 => (hE v h3).elim hv (fun h4 => h4 (by simp))
      refine ⟨s1', ?_⟩
      rw [trun_down ?_ hvs]
      · exact h2
      · match w, hw with
        | [c], _ =>
          cases E with
          | nil => rfl
          | cons e E => simp [isUp]; rintro rfl; exact hvE (by simp)
        | c :: p :: q, _ => simpa [isUp] using hu
/-- what was seen and is not on the way does not stand in the list -/
theorem trun_avoid {r w s w1 s1 : List Int} (h : trun w s r = some (w1, s1)) {X : Int → Prop} (hX : ∀ x, X x → x ∈ s) (hw : ∀ x ∈ w, ¬ X x) : ∀ x ∈ r, ¬ X x := by
  induction r generalizing w s with
  | nil => simp
  | cons v r ih =>
    intro x hx
    rcases trun_cons h with ⟨hu, h1⟩ | ⟨hu, hv, h1⟩
    · rcases List.mem_cons.1 hx with rfl | hx
      · exact hw _ (isUp_mem hu)
      · exact ih h1 hX (fun y hy => hw y (List.mem_of_mem_tail hy)) x hx
    · rcases List.mem_cons.1 hx with rfl | hx
      · exact fun h2 => hv (hX _ h2)
      · exact ih h1 (fun y hy => List.mem_cons_of_mem _ (hX y hy)) (fun y hy => by
          rcases List.mem_cons.1 hy with rfl | hy
          · exact fun h2 => hv (hX _ h2)
          · exact hw y hy) x hx
theorem trun_way {r w s w1 s1 : List Int} (h : trun w s r = some (w1, s1)) (hn : w.Nodup) (hs : ∀ x ∈ w, x ∈ s) : w1.Nodup := by
  induction r generalizing w s with
  | nil => simp [trun] at h; rw [← h.1]; exact hn
  | cons v r ih =>
    rcases trun_cons h with ⟨hu, h1⟩ | ⟨hu, hv, h1⟩
    · exact ih h1 (hn.sublist (List.tail_sublist _)) (fun x hx => hs x (List.mem_of_mem_tail hx))
    · exact ih h1 (List.nodup_cons.2 ⟨fun h2 => hv (hs v h2), hn⟩) (fun x hx => by
        rcases List.mem_cons.1 hx with rfl | hx
        · simp
        · exact List.mem_cons_of_mem _ (hs x hx))

/-- the root c, left behind: a run over [d, c] that ends at c goes, from d on, to c below d -/
theorem trun_turn {r w s s1 : List Int} {c d : Int} {s' : List Int} (h : trun (w ++ [c]) s r = some ([c], s1)) (hw : w.getLast? = some d) (hs : ∀ x, x ∈ s ↔ x = c ∨ x ∈ s') (hc : c ∉ s') (hd : d ∈ s') : ∃ s1', trun w s' r = some ([c, d], s1') := by
  induction r generalizing w s s' with
  | nil =>
    simp [trun] at h
    rw [h.1] at hw
    simp at hw
  | cons v r ih =>
    match w, hw with
    | [e], hw =>
      simp at hw
      subst hw
      rcases trun_cons h with ⟨hu, h1⟩ | ⟨hu, hv, h1⟩
      · simp [isUp] at hu
        subst hu
        have h1' : trun [c] s r = some ([c], s1) := h1
        have hm : ∀ x ∈ c :: s', x ∈ s ∨ x ∉ r := fun x hx => .inl ((hs x).2 (by simpa using hx))
        obtain ⟨s1', h2⟩ := trun_over (E := [e]) h1' (by simp) hm (fun x hx => by simp at hx; subst hx; exact .inl ((hs x).2 (.inr hd)))
        exact ⟨s1', by rw [trun_down (by rfl) hc]; exact h2⟩
      · have hvc : v ≠ c := fun e => hv ((hs v).2 (.inl e))
        have hvs : v ∉ s' := fun e => hv ((hs v).2 (.inr e))
        obtain ⟨s1', h2⟩ := ih (w := [v, e]) (s' := v :: s') h1 (by simp) (fun x => by
          simp only [List.mem_cons, hs]
          constructor
          · rintro (h | h | h) <;> simp [h]
          · rintro (h | h | h) <;> simp [h]) (by simp [hc]; exact fun e => hvc e.symm) (by simp [hd])
        exact ⟨s1', by rw [trun_down (by rfl) hvs]; exact h2⟩
    | x :: y :: w, hw =>
      rcases trun_cons h with ⟨hu, h1⟩ | ⟨hu, hv, h1⟩
      · have hu' : isUp (x :: y :: w) v = true := by simpa [isUp] using hu
        obtain ⟨s1', h2⟩ := ih (w := y :: w) h1 (by simpa [List.getLast?_cons_cons] using hw) hs hc hd
        exact ⟨s1', by rw [trun_up hu']; exact h2⟩
      · have hu' : isUp (x :: y :: w) v = false := by simpa [isUp] using hu
        have hvc : v ≠ c := fun e => hv ((hs v).2 (.inl e))
        have hvs : v ∉ s' := fun e => hv ((hs v).2 (.inr e))
        obtain ⟨s1', h2⟩ := ih (w := v :: x :: y :: w) (s' := v :: s') h1 (by simpa [List.getLast?_cons_cons] using hw) (fun z => by
          simp only [List.mem_cons, hs]
          constructor
          · rintro (h | h | h) <;> simp [h]
          · rintro (h | h | h) <;> simp [h]) (by simp [hc]; exact fun e => hvc e.symm) (by simp [hd])
        exact ⟨s1', by rw [trun_down hu' hvs]; exact h2⟩
/-- a tour from its second vertex on -/
theorem tour_turn {c d : Int} {m : List Int} (h : tB (c :: d :: (m ++ [c])) = true) : tB (d :: (m ++ [c] ++ [d])) = true := by
  obtain ⟨x, r, s, e, hr, hv, _⟩ := tB_open h
  simp at e
  obtain ⟨rfl, rfl⟩ := e
  rcases trun_cons hr with ⟨hu, _⟩ | ⟨hu, hd, h1⟩
  · simp [isUp] at hu
  · have hdc : d ≠ c := by simpa using hd
    obtain ⟨s1', h2⟩ := trun_turn (w := [d]) (d := d) (s' := [d]) h1 (by simp) (fun x => by simp; exact or_comm) (by simp; exact fun e => hdc e.symm) (by simp)
    refine tB_of (s := s1') (fun v hv' => hv v ?_) ?_
    · simp at hv' ⊢
      rcases hv' with h | h | h | h <;> simp [h]
    · rw [trun_append, h2]
      simp [trun, tstep, isUp]
/-- a tour is a ring of vertices, cut at one of them -/
theorem tour_ring {t : List Int} (h : tB t = true) : (∃ x, t = [x]) ∨ ∃ c d m, t = c :: d :: (m ++ [c]) := by
  obtain ⟨x, r, s, rfl, hr, _, hq⟩ := tB_open h
  rcases hq with rfl | ⟨q, rfl⟩
  · exact .inl ⟨x, rfl⟩
  · cases q with
    | nil =>
      simp [trun, tstep, isUp] at hr
    | cons d m => exact .inr ⟨x, d, m, by simp⟩
/-- the ring, cut at its place k -/
def cutAt (q : List Int) (k : Nat) : List Int := q.drop k ++ (q.take k ++ (q[k]?).toList)
theorem tour_cut {q : List Int} (h : tB (cutAt q 0) = true) (k : Nat) (hk : k < q.length) : tB (cutAt q k) = true := by
  induction k with
  | zero => exact h
  | succ k ih =>
    have h1 := ih (by omega)
    have e1 : q.drop k = q[k]'(by omega) :: q[k + 1] :: q.drop (k + 2) := by
      rw [List.drop_eq_getElem_cons (by omega), List.drop_eq_getElem_cons hk]
    have e2 : cutAt q k = q[k]'(by omega) :: q[k + 1] :: ((q.drop (k + 2) ++ q.take k) ++ [q[k]'(by omega)]) := by
      unfold cutAt
      rw [e1, List.getElem?_eq_getElem (by omega)]
      simp only [Option.toList_some, List.cons_append, List.append_assoc]
    rw [e2] at h1
    have h2 := tour_turn h1
    have e3 : cutAt q (k + 1) = q[k + 1] :: (q.drop (k + 2) ++ q.take k ++ [q[k]'(by omega)] ++ [q[k + 1]]) := by
      unfold cutAt
      rw [List.drop_eq_getElem_cons hk, List.getElem?_eq_getElem hk, List.take_succ_eq_append_getElem (by omega)]
      simp only [Option.toList_some, List.cons_append, List.append_assoc]
    rw [e3]
    exact h2
end Go.Proofs.YtklalfkdikjkfaaGreat
namespace Go.Proofs.YtklalfkdikjkfaaGreat
open Go.RowKit

set_option maxRecDepth 100000 in
set_option maxHeartbeats 4000000 in
theorem iReroot_any (t : List Int) (v : Int) (n : Nat) (a : Option Addr) (c : Nat) (hn : n ≤ 3000000) (hc : n ≤ c) (w : World) (h : Is w w.heap.size a n t) :
    Calls Tryz.prog 102 #[.slice a n c, .int .i64 v] w fun e w' => TAns w (reO t v) e w' := by
  have HX := hideIt (idxI_any t v n a c hn w h)
  have HT := hideIt (iTourOk_any t n a c hn w h)
  cases hT : tB t with
  | false =>
    rw [hT] at HT
    have HO := hideIt (show reO t v = none by unfold reO; rw [hT, if_neg (by simp)])
    clear hT h
    go_enter Tryz.func102, Tryz.ntmps102
    go_wp2_with (first | (go_at_call 148; refine HX.out.mono ?_; rintro e w1 ⟨rfl, hw⟩; have hw' := hw.symm; subst hw'; clear hw) | (go_at_call 103; refine HT.out.mono ?_; rintro e w2 ⟨rfl, hb2⟩))
    go_ret2
    exact tans_no HO.out hb2
  | true =>
    rw [hT] at HT
    by_cases hm : v ∈ t
    · obtain ⟨k, hk, hkn, hkv, hkf⟩ := fst_at hm
      have hlt := fst_lt hT hkn hkv hkf
      have HO := hideIt (show reO t v = some (reT t k v) by unfold reO; rw [hT, if_pos ⟨rfl, hm⟩, hk]; rfl)
      rw [hk] at HX
      have hlen := h.1
      rw [hlen] at hkn hlt
      have HI := hideIt h
      have d1 : decide ((k : Int) < 0) = false := decide_eq_false (by omega)
      obtain ⟨b, off, rfl⟩ : ∃ b off, a = some ⟨b, off, none⟩ := by
        rcases h.2 with hz | ⟨b, off, h1, _⟩
        · omega
        · exact ⟨b, off, h1⟩
      clear hT h hm hkv hkf hk
      go_enter Tryz.func102, Tryz.ntmps102
      go_wp2_with (first | (go_at_call 148; refine HX.out.mono ?_; rintro e w1 ⟨rfl, hw⟩; have hw' := hw.symm; subst hw'; clear hw) | (go_at_call 103; refine HT.out.mono ?_; rintro e w2 ⟨rfl, hb2⟩; refine Hid.out ?_))
      refine (show ∀ {p : Prop}, p → Hid p from fun h => h) ?_
      have HI2 := hideIt (HI.out.up hb2)
      have e1 : ((n : Int) - 1).toNat = n - 1 := by omega
      have b1 : (0 : Int) ≤ (k : Int) := by omega
      have b2 : (k : Int) ≤ (n : Int) - 1 := by omega
      have b3 : (n : Int) - 1 ≤ (c : Int) := by omega
      have b4 : (k : Int) ≤ (c : Int) := by omega
      have HL : Hid (Calls Tryz.prog 104 #[.slice (some ⟨w2.heap.size + 1, 0, none⟩) 3 3] ((w2.alloc (.cells #[.int .i64 v] 3)).alloc (.cells #[.slice (if n - 1 = k then some ⟨b, off, none⟩ else some ⟨b, off + k, none⟩) (n - 1 - k) (n - 1 - k), .slice (some ⟨b, off, none⟩) k k, .slice (some ⟨w2.heap.size, 0, none⟩) 1 1] 39)).drew
          fun e u => ∃ g m, e = .returned (.slice (some ⟨g, 0, none⟩) m m) ∧ u.ownsRow w2.heap.size 3 1 (.slice (some ⟨g, 0, none⟩) m m) m (ic (reT t k v)) ∧ Below w2.heap.size w2 u) := by
        have hb0 : Below w2.heap.size w2 (w2.alloc (.cells #[.int .i64 v] 3)) := (Below.refl _ _).alloc (Nat.le_refl _) _
        have hi2 := HI2.out.up hb0
        have hP := parts3 (p1 := ⟨if n - 1 = k then some ⟨b, off, none⟩ else some ⟨b, off + k, none⟩, n - 1 - k, n - 1 - k, (t.take (n - 1)).drop k⟩) (p2 := ⟨some ⟨b, off, none⟩, k, k, t.take k⟩) (p3 := ⟨some ⟨w2.heap.size, 0, none⟩, 1, 1, [v]⟩) (hi2.cut (by omega) (by omega)) (hi2.take (by show k ≤ n; omega)) (Is.single w2 v)
        have hs : (w2.alloc (.cells #[.int .i64 v] 3)).heap.size = w2.heap.size + 1 := by simp
        rw [hs] at hP
        refine (laid_any _ _ 3 rfl (by omega) _ hP (by simp [qLen]; omega)).mono fun e u ⟨g, m, he, ho, hb⟩ => ⟨g, m, he, ?_, ?_⟩
        · have hq : qAll [⟨if n - 1 = k then some ⟨b, off, none⟩ else some ⟨b, off + k, none⟩, n - 1 - k, n - 1 - k, (t.take (n - 1)).drop k⟩, ⟨some ⟨b, off, none⟩, k, k, t.take k⟩, ⟨some ⟨w2.heap.size, 0, none⟩, 1, 1, [v]⟩] = reT t k v := by
            simp [qAll, reT, hlen]
          rw [hq] at ho
          exact own_mono ho (by simp; omega)
        · exact ((hb0.alloc (by simp) _).drew).trans (hb.mono (by simp; omega))
      clear HI2 HI
      rcases hlt with hlt | ⟨rfl, rfl⟩
      · have hne : ¬ (n - 1 = k) := by omega
        rw [if_neg hne] at HL
        go_wp2
        go_region_held3 (fun _ => True) (trivial) ((go_at_call 104; refine HL.out.mono ?_; rintro e w3 ⟨g, m, rfl, ho3, hb3⟩))
        all_goals
          go_wp2
          go_ret2
          exact tans_yes HO.out hb2.size ho3 (hb2.trans (hb3.mono hb2.size))
      · rw [if_pos (by omega), show 1 - 1 - 0 = 0 from rfl] at HL
        go_wp2
        go_region_held3 (fun _ => True) (trivial) ((go_at_call 104; refine HL.out.mono ?_; rintro e w3 ⟨g, m, rfl, ho3, hb3⟩))
        all_goals
          go_wp2
          go_ret2
          exact tans_yes HO.out hb2.size ho3 (hb2.trans (hb3.mono hb2.size))
    · have HO := hideIt (show reO t v = none by unfold reO; rw [if_neg (by simp [hm])])
      rw [fst_no hm] at HX
      clear hT h hm
      go_enter Tryz.func102, Tryz.ntmps102
      go_wp2_with (first | (go_at_call 148; refine HX.out.mono ?_; rintro e w1 ⟨rfl, hw⟩; have hw' := hw.symm; subst hw'; clear hw) | (go_at_call 103; refine HT.out.mono ?_; rintro e w2 ⟨rfl, hb2⟩))
      go_ret2
      exact tans_no HO.out hb2
end Go.Proofs.YtklalfkdikjkfaaGreat
namespace Go.Proofs.YtklalfkdikjkfaaGreat
open Go.RowKit Go.Shelf
attribute [local go_sem] Oper.semAt_some

/-- a place and what stands there, as yield takes it -/
abbrev plV (x : Int × Int) : Array Value := #[.int .i64 x.1, .int .i64 x.2]
/-- what has come: the places from the last one down -/
def Bw (ls : List Int) (pre : List (Int × Int)) : Prop := pre.length ≤ ls.length ∧ ∀ (j : Nat) (x : Int × Int), pre[j]? = some x → x.1 = (ls.length : Int) - 1 - (j : Int) ∧ ls[ls.length - 1 - j]? = some x.2
theorem Bw.nil (ls : List Int) : Bw ls [] := ⟨by simp, fun j x h => by simp at h⟩
theorem Bw.snoc {ls : List Int} {pre : List (Int × Int)} (h : Bw ls pre) {k : Nat} {f : Int} (hk : pre.length + (k + 1) = ls.length) (hf : ls[k]? = some f) : Bw ls (pre ++ [((k : Int), f)]) := by
  refine ⟨by simp; omega, fun j x hx => ?_⟩
  by_cases hj : j < pre.length
  · rw [List.getElem?_append_left hj] at hx
    exact h.2 j x hx
  · rw [List.getElem?_append_right (by omega)] at hx
    have h0 : j - pre.length = 0 := by
      have := (List.getElem?_eq_some_iff.1 hx).1
      simp at this
      omega
    rw [h0] at hx
    simp at hx
    subst hx
    refine ⟨by show (k : Int) = _; omega, ?_⟩
    rw [show ls.length - 1 - j = k by omega]
    exact hf

set_option maxRecDepth 100000 in
set_option maxHeartbeats 2000000 in
theorem backIt_in (n l B n0 : Nat) (hn : 1 ≤ n) (ls : List Int) (m : Nat) (a : Option Addr) (c : Nat) (hm : m ≤ 3000000) (hB : B < n0) (J Jx : List (Int × Int) → World → Prop)
    (hY : ∀ pre x W1, J pre W1 → pre.length < m → YieldAt Fence.wide (n - 1) Tryz.prog l (plV x) W1 fun e W' =>
      (e = .returned (.bool true) ∧ J (pre ++ [x]) W' ∧ Below n0 W1 W') ∨ (e = .returned (.bool false) ∧ Jx (pre ++ [x]) W'))
    (W : World) (hBc : W.cell? ⟨B, 0, none⟩ = some (.slice a m c)) (hI : Is W n0 a m ls) (h0 : J [] W) :
    CallsIn Fence.wide n Tryz.prog 180 #[.func (.yield l) #[] #[], .pointer (some ⟨B, 0, none⟩)] W fun e W' => (∃ v, e = .returned v) ∧
      ((∃ ys, (Bw ls ys ∧ ys.length = m) ∧ J ys W') ∨ (∃ pre, Bw ls pre ∧ Jx pre W')) := by
  obtain ⟨hlen, hrow⟩ := hI
  have HR := hideIt hrow
  clear hrow
  refine callsIn_of_wp Tryz.func180 rfl trivial ?_ rfl
  simp only [Tryz.ntmps180, List.size_toArray, List.length_cons, List.length_nil, Nat.reduceAdd, Nat.reduceSub, Array.replicate_succ, Array.replicate_zero, List.push_toArray, List.append_toArray, List.nil_append, List.cons_append]
  gi_wp2
  gi_loopw [3] (fun i wr => ∃ (k : Nat) (pre : List (Int × Int)), k ≤ m ∧ i = .int .i64 ((k : Int) - 1) ∧ pre.length + k = m ∧ Hid (Bw ls pre) ∧ Below n0 W wr ∧ J pre wr)
    (fun i _ => (intOf i + 1).toNat)
  case atStart => exact ⟨m, [], by omega, rfl, by simp, Bw.nil ls, Below.refl _ _, h0⟩
  case round =>
    obtain ⟨k, pre, hk, rfl, hpk, HBw, hb, hJ⟩ := hrel
    rcases k with _ | k
    · have d0 : decide ((0 : Int) ≤ ((0 : Nat) : Int) - 1) = false := decide_eq_false (by omega)
      gi_wp2
      go_end0
      exact ⟨⟨_, rfl⟩, .inl ⟨pre, ⟨HBw.out, by omega⟩, hJ⟩⟩
    · rcases HR.out with hz | ⟨b, off, rfl, hbl, hc⟩
      · omega
      · obtain ⟨f, hf⟩ : ∃ f, ls[k]? = some f := ⟨ls[k]'(by omega), List.getElem?_eq_getElem (by omega)⟩
        have e0 : wr.cell? ⟨b, off + k, none⟩ = some (.int .i64 f) := by rw [hb.cell hbl]; exact hc k f hf
        have eB : wr.cell? ⟨B, 0, none⟩ = some (.slice (some ⟨b, off, none⟩) m c) := by rw [hb.cell hB]; exact hBc
        have ek : ((k + 1 : Nat) : Int) - 1 = (k : Int) := by omega
        rw [ek]
        have b1 : (0 : Int) ≤ (k : Int) := by omega
        have b2 : (k : Int) < (m : Int) := by omega
        have d0 : decide ((0 : Int) ≤ (k : Int)) = true := decide_eq_true (by omega)
        have HB2 := hideIt (HBw.out.snoc (by omega) hf)
        obtain ⟨fn, tmps, assign, body, hy, hR⟩ := hY pre ((k : Int), f) wr hJ (by omega)
        dsimp only [plV] at hy
        clear hc hf ek HBw
        gi_wp2
        refine hR.mono ?_
        rintro e W3 (⟨rfl, hJ3, hk3⟩ | ⟨rfl, hJx3⟩)
        · gi_wp2
          exact ⟨⟨k, pre ++ [((k : Int), f)], by omega, rfl, by simp; omega, HB2, hb.trans hk3, hJ3⟩, by simp [intOf]⟩
        · gi_wp2
          (try simp only [Exit.inBlock, Exit.then])
          refine bodyPost_ret (v := .tuple #[]) (results_none rfl _ _ _) rfl ?_
          exact ⟨⟨_, rfl⟩, .inr ⟨_, HB2.out, hJx3⟩⟩

theorem back_stops (n B n0 : Nat) (hn : 1 ≤ n) (ls : List Int) (m : Nat) (a : Option Addr) (c : Nat) (hm : m ≤ 3000000) (hB : B < n0) (w1 : World) (hn0 : n0 ≤ w1.heap.size) (hBc : w1.cell? ⟨B, 0, none⟩ = some (.slice a m c)) (hI : Is w1 n0 a m ls) :
    SeqStopsK Fence.wide n Tryz.prog 180 #[.pointer (some ⟨B, 0, none⟩)] plV (Below n0) (fun ys => Bw ls ys ∧ ys.length = m) (fun pre => Bw ls pre) m w1 := fun l J Jx W hW _ _ hY h0 =>
  backIt_in n l B n0 hn ls m a c hm hB J Jx hY W ((hW.cell (p := ⟨B, 0, none⟩) (by show B < _; omega)).trans hBc) (hI.below hW hn0) h0

theorem backI_in (n : Nat) (a : Option Addr) (m c : Nat) (w : World) :
    CallsIn Fence.wide n Tryz.prog 147 #[.slice a m c] w fun e w' => e = .returned (.func (.func 180) #[] #[.pointer (some ⟨w.heap.size, 0, none⟩)]) ∧ w' = w.alloc (.cells #[.slice a m c] 39) := by
  refine callsIn_of_wp Tryz.func147 rfl trivial ?_ rfl
  simp only [Tryz.ntmps147, List.size_toArray, List.length_cons, List.length_nil, Nat.reduceAdd, Nat.reduceSub, Array.replicate_succ, Array.replicate_zero, List.push_toArray, List.append_toArray, List.nil_append, List.cons_append]
  gi_wp2
  go_ret
  exact ⟨rfl, rfl⟩

theorem lst_at {ls : List Int} {v : Int} {p : Nat} (hp : ls[p]? = some v) (hn : ∀ j, p < j → j < ls.length → ls[j]? ≠ some v) : lstI ls v = (p : Int) := by
  rcases lastN_cases (atP ls v) ls.length with ⟨k, h1, h2, h3, h4⟩ | ⟨h1, _⟩
  · have hk : ls[k]? = some v := by simpa [atP] using h2
    have hpl := (List.getElem?_eq_some_iff.1 hp).1
    rcases Nat.lt_trichotomy k p with h | h | h
    · have := h3 p h hpl
      rw [atP_yes hp] at this
      simp at this
    · rw [← h]; exact h4
    · exact absurd hk (hn k h h1)
  · have := h1 p (List.getElem?_eq_some_iff.1 hp).1
    rw [atP_yes hp] at this
    simp at this
theorem lst_none {ls : List Int} {v : Int} (hn : ∀ j, j < ls.length → ls[j]? ≠ some v) : lstI ls v = -1 := by
  rcases lastN_cases (atP ls v) ls.length with ⟨k, h1, h2, h3, h4⟩ | ⟨_, h2⟩
  · exact absurd (by simpa [atP] using h2) (hn k h1)
  · exact h2
theorem bw_stop {ls : List Int} {v : Int} {pre : List (Int × Int)} {x : Int × Int} (h : Bw ls (pre ++ [x])) (hx : x.2 = v) (hn : ∀ y ∈ pre, y.2 ≠ v) : lstI ls v = x.1 := by
  have hl := h.1
  simp at hl
  obtain ⟨h1, h2⟩ := h.2 pre.length x (by simp)
  rw [h1, show (ls.length : Int) - 1 - (pre.length : Int) = ((ls.length - 1 - pre.length : Nat) : Int) by omega]
  refine lst_at (by rw [h2, hx]) fun j hj hjl e => ?_
  obtain ⟨y, hy⟩ : ∃ y, pre[ls.length - 1 - j]? = some y := ⟨pre[ls.length - 1 - j]'(by omega), List.getElem?_eq_getElem (by omega)⟩
  obtain ⟨_, h4⟩ := h.2 (ls.length - 1 - j) y (by rw [List.getElem?_append_left (by omega)]; exact hy)
  rw [show ls.length - 1 - (ls.length - 1 - j) = j by omega, e] at h4
  exact hn y (List.mem_of_getElem? hy) (by simpa using h4.symm)
theorem bw_done {ls : List Int} {v : Int} {pre : List (Int × Int)} (h : Bw ls pre) (hl : pre.length = ls.length) (hn : ∀ y ∈ pre, y.2 ≠ v) : lstI ls v = -1 := by
  refine lst_none fun j hj e => ?_
  obtain ⟨y, hy⟩ : ∃ y, pre[ls.length - 1 - j]? = some y := ⟨pre[ls.length - 1 - j]'(by omega), List.getElem?_eq_getElem (by omega)⟩
  obtain ⟨_, h4⟩ := h.2 (ls.length - 1 - j) y hy
  rw [show ls.length - 1 - (ls.length - 1 - j) = j by omega, e] at h4
  exact hn y (List.mem_of_getElem? hy) (by simpa using h4.symm)

set_option maxRecDepth 100000 in
set_option maxHeartbeats 2000000 in
theorem lastPlace_any (ls : List Int) (v : Int) (m : Nat) (a : Option Addr) (c : Nat) (hm : m ≤ 3000000) (w : World) (h : Is w w.heap.size a m ls) :
    Calls Tryz.prog 101 #[.slice a m c, .int .i64 v] w fun e w' => e = .returned (.int .i64 (lstI ls v)) ∧ Below w.heap.size w w' := by
  refine (callsIn_wide (n := 6)).1 ?_
  refine callsIn_of_wp_marks Tryz.func101 rfl trivial ?_ rfl
  simp only [Tryz.ntmps101, List.size_toArray, List.length_cons, List.length_nil, Nat.reduceAdd, Nat.reduceSub, Array.replicate_succ, Array.replicate_zero, List.push_toArray, List.append_toArray, List.nil_append, List.cons_append]
  gi_wp2_with (refine ⟨trivial, ?_⟩; gi_at_call 147; refine (backI_in _ _ _ _ _).mono ?_; rintro e w' ⟨rfl, rfl⟩)
  have bV0 := Boxed.new w 3 (.int .i64 v)
  have bR0 := Boxed.new (w.alloc (.cells #[.int .i64 v] 3)) 3 (.int .i64 0)
  rw [World.size_alloc] at bR0
  have bS := Boxed.new ((w.alloc (.cells #[.int .i64 v] 3)).alloc (.cells #[.int .i64 0] 3)) 39 (.slice a m c)
  rw [World.size_alloc, World.size_alloc] at bS
  have bR := bR0.alloc (.cells #[.slice a m c] 39)
  have bV := (bV0.alloc (.cells #[.int .i64 0] 3)).alloc (.cells #[.slice a m c] 39)
  have hB0 : Below w.heap.size w (((w.alloc (.cells #[.int .i64 v] 3)).alloc (.cells #[.int .i64 0] 3)).alloc (.cells #[.slice a m c] 39)) := (((Below.refl _ w).alloc (Nat.le_refl _) _).alloc (by simp) _).alloc (by simp; omega) _
  have hlen := h.1
  have hI0 := (h.up hB0)
  simp only [World.size_alloc] at hI0
  refine wpIn_rangeFunc_ownF rfl (by omega) (gf := 180) (lb := #[.pointer (some ⟨w.heap.size + 1 + 1, 0, none⟩)]) rfl trivial (enters_of Tryz.func180 (by kernel_rfl) rfl)
    (back_stops 5 (w.heap.size + 1 + 1) (w.heap.size + 1 + 1 + 1) (by omega) ls m a c hm (by omega) _ (by simp) bS.cell hI0) belowK_t (belowK_b (by simp)) (Below.refl _ _) (fun _ => rfl)
    (fun pre W => ((Boxed W w.heap.size 3 (.int .i64 v) ∧ Boxed W (w.heap.size + 1) 3 (.int .i64 0)) ∧ Below w.heap.size w W) ∧ ∀ y ∈ pre, y.2 ≠ v)
    (fun cc pre W => ((∃ x, Boxed W (w.heap.size + 1) 3 (.int .i64 x) ∧ (Bw ls pre → lstI ls v = x)) ∧ Below w.heap.size w W) ∧ cc = .ret)
    ?hI ?hIx ⟨⟨⟨bV, bR⟩, hB0⟩, by simp⟩
    (fun x => { tmps := #[.slice a m c, .int .i64 v, undef, .pointer (some ⟨w.heap.size, 0, none⟩), .pointer (some ⟨w.heap.size + 1, 0, none⟩), .int .i64 x.1, .int .i64 x.2, .slice a m c, .func (.func 180) #[] #[.pointer (some ⟨w.heap.size + 1 + 1, 0, none⟩)], .int .i64 x.1, .int .i64 x.2, undef, undef, undef, undef], defers := [] }) ?assign ?body ?done ?stop
  case hI => exact OwnFrom.and (OwnFrom.and (OwnFrom.and (Own.from (boxed_own _ _ _) _) (Own.from (boxed_own _ _ _) _)) (ownFrom_below (Nat.le_refl _) (by simp; omega))) (fun _ _ _ _ hs _ _ => hs)
  case hIx =>
    intro cc
    refine OwnFrom.and (OwnFrom.and ?_ (ownFrom_below (Nat.le_refl _) (by simp; omega))) (fun _ _ _ _ hs _ _ => hs)
    rintro s X Y row ⟨x, hb, hx⟩ hg hr
    exact ⟨x, hb.kept hg (fun e' => by obtain ⟨_, o, ho, hc⟩ := hr _ e'.symm; rw [show X.heap[_]? = _ from hb] at ho; cases ho; cases hc), hx⟩
  case assign =>
    intro l x W K hK
    gi_wp2
    exact hK
  case body =>
    rintro l pre x W ⟨⟨⟨hV, hR⟩, hB⟩, hn⟩ hlt
    have hc := hV.cell
    have hf := hR.frozen
    have hc2 := hR.cell
    by_cases hx : x.2 = v
    · have d1 : (x.2 == v) = true := by simpa using hx
      gi_wp2
      exact ⟨KeepsOthers.setCell _ _ _, ⟨⟨x.1, hR.set _, fun h => bw_stop h hx hn⟩, hB.setCell (p := ⟨w.heap.size + 1, 0, none⟩) (by show w.heap.size ≤ w.heap.size + 1; omega) _⟩, rfl⟩
    · have d1 : (x.2 == v) = false := by simpa using hx
      gi_wp2
      refine ⟨KeepsOthers.refl _, Below.refl _ _, ⟨⟨hV, hR⟩, hB⟩, fun y hy => ?_⟩
      rcases List.mem_append.1 hy with h | h
      · exact hn y h
      · simp at h; rw [h]; exact hx
  case done =>
    rintro D ys W hD ⟨hbw, hl⟩ ⟨⟨⟨hV, hR⟩, hB⟩, hn⟩ hK
    have hc2 := hR.cell
    have hf := hR.frozen
    have hlst := hideIt (bw_done hbw (by omega) hn)
    have HRb := hideIt (hR.set (.int .i64 (-1)))
    have HBb := hideIt (hB.setCell (p := ⟨w.heap.size + 1, 0, none⟩) (by show w.heap.size ≤ w.heap.size + 1; omega) (.int .i64 (-1)))
    clear hn hbw
    gi_wp2
    have hK2 := (KeepsOthers.setCell W ⟨w.heap.size + 1, 0, none⟩ (.int .i64 (-1))).same D _ hK rfl
    refine ⟨by simp, .inl ⟨_, _, rfl, run_takeDeferred hK2, ?_⟩⟩
    simp only [World.size_alloc] at hD
    have hc3 := (HRb.out.kept (grownBy_putObj' _ D (.deferred none)) (fun e => by simp at e; omega)).cell
    refine ⟨.int .i64 (-1), by simp [results, Tryz.results101, go_sem, hc3], by rw [hlst.out], ?_⟩
    exact HBb.out.trans (belowK_b (w := w) (Nat.le_refl _) _ D _ _ (by omega) hK2 rfl rfl)
  case stop =>
    rintro D cc pre W hD hbw ⟨⟨⟨x, hR, hx⟩, hB⟩, rfl⟩ hK
    have hlst := hideIt (hx hbw)
    clear hx hbw
    gi_wp2
    refine ⟨by simp, .inl ⟨_, _, rfl, run_takeDeferred hK, ?_⟩⟩
    simp only [World.size_alloc] at hD
    have hc3 := (hR.kept (grownBy_putObj' _ D (.deferred none)) (fun e => by simp at e; omega)).cell
    refine ⟨.int .i64 x, by simp [results, Tryz.results101, go_sem, hc3], by rw [hlst.out], ?_⟩
    exact hB.trans (belowK_b (w := w) (Nat.le_refl _) _ D _ _ (by omega) hK rfl rfl)
end Go.Proofs.YtklalfkdikjkfaaGreat
