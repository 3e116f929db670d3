/- Lists of tours in memory; what a right forest is: pure. -/
import Derived.Test.YtcpffonenhhfoabSTourOk
import Derived.Test.YtcpffonenhhfoabVerts
namespace Go.Proofs.Ytcpffonenhhfoab
open Go.RowKit

/-- a list of lists of numbers stands at a -/
def Ts (w : World) (B : Nat) (a : Option Addr) (n : Nat) (ts : List (List Int)) : Prop :=
  ts.length = n ∧ (n = 0 ∨ ∃ b off, a = some ⟨b, off, none⟩ ∧ b < B ∧ ∀ (j : Nat) (t : List Int), ts[j]? = some t →
    ∃ (a' : Option Addr) (c' : Nat), w.cell? ⟨b, off + j, none⟩ = some (.slice a' t.length c') ∧ Is w B a' t.length t ∧ t.length ≤ c')
theorem Ts.below {w w' : World} {B C : Nat} {a : Option Addr} {n : Nat} {ts : List (List Int)} (h : Ts w B a n ts) (hb : Below C w w') (hB : B ≤ C) : Ts w' B a n ts := by
  refine ⟨h.1, h.2.imp id ?_⟩
  rintro ⟨b, off, ha, hbl, hc⟩
  refine ⟨b, off, ha, hbl, fun j t ht => ?_⟩
  obtain ⟨a', c', h1, h2, h3⟩ := hc j t ht
  exact ⟨a', c', by rw [hb.cell (p := ⟨b, _, none⟩) (by show b < C; omega)]; exact h1, h2.below hb hB, h3⟩
theorem Ts.mono {w : World} {B C : Nat} {a : Option Addr} {n : Nat} {ts : List (List Int)} (h : Ts w B a n ts) (hB : B ≤ C) : Ts w C a n ts := by
  refine ⟨h.1, h.2.imp id ?_⟩
  rintro ⟨b, off, ha, hbl, hc⟩
  refine ⟨b, off, ha, by omega, fun j t ht => ?_⟩
  obtain ⟨a', c', h1, h2, h3⟩ := hc j t ht
  exact ⟨a', c', h1, h2.mono hB, h3⟩
theorem Ts.up {w w' : World} {a : Option Addr} {n : Nat} {ts : List (List Int)} (h : Ts w w.heap.size a n ts) (hb : Below w.heap.size w w') : Ts w' w'.heap.size a n ts := (h.below hb (Nat.le_refl _)).mono hb.size
theorem Ts.at {w : World} {B b off n : Nat} {ts : List (List Int)} (h : Ts w B (some ⟨b, off, none⟩) n ts) {j : Nat} {t : List Int} (ht : ts[j]? = some t) :
    ∃ (a' : Option Addr) (c' : Nat), w.cell? ⟨b, off + j, none⟩ = some (.slice a' t.length c') ∧ Is w B a' t.length t ∧ t.length ≤ c' := by
  have hj := (List.getElem?_eq_some_iff.1 ht).1
  have hn := h.1
  rcases h.2 with h0 | ⟨b', off', hb, _, hc⟩
  · omega
  · simp at hb
    obtain ⟨rfl, rfl⟩ := hb
    exact hc j t ht

/-- the least vertex of a tour -/
def mnV (t : List Int) : Int := (vsL t).headD 0
/-- the tour at i is right beside those before it -/
def FAt (N : Int) (ts : List (List Int)) (i : Nat) : Prop := ∀ t, ts[i]? = some t →
  tB t = true ∧ (∀ x ∈ t, x < N) ∧ (∀ j s, j + 1 = i → ts[j]? = some s → mnV s < mnV t) ∧ ∀ k s, k < i → ts[k]? = some s → ∀ x ∈ t, x ∉ s
/-- the vertices of the first k tours, counted -/
def cntV (ts : List (List Int)) (k : Nat) : Nat := ((ts.take k).map fun t => (vsL t).length).sum
/-- N vertices and these tours are a right forest -/
def FP (N : Int) (ts : List (List Int)) : Prop := 1 ≤ N ∧ N ≤ 12 ∧ ts.length ≤ 12 ∧ (∀ i, FAt N ts i) ∧ (cntV ts ts.length : Int) = N
theorem cntV_zero (ts : List (List Int)) : cntV ts 0 = 0 := by simp [cntV]
theorem cntV_succ {ts : List (List Int)} {k : Nat} {t : List Int} (h : ts[k]? = some t) : cntV ts (k + 1) = cntV ts k + (vsL t).length := by
  unfold cntV
  rw [List.take_add_one, h]
  simp
theorem cntV_le (ts : List (List Int)) (k : Nat) : cntV ts k ≤ 12 * k := by
  induction k with
  | zero => simp [cntV]
  | succ k ih =>
    cases h : ts[k]? with
    | none =>
      have : ts.take (k + 1) = ts.take k := by rw [List.take_add_one, h]; simp
      unfold cntV at ih ⊢
      rw [this]
      omega
    | some t =>
      rw [cntV_succ h]
      have := vsL_len t
      omega
theorem vs_mem_of {t : List Int} (hB : tB t = true) {x : Int} : x ∈ vsL t ↔ x ∈ t := by
  rw [vsL_mem]
  exact ⟨fun h => h.2, fun h => ⟨((tB_iff t).1 hB).1 x h, h⟩⟩
theorem tB_pos {t : List Int} (hB : tB t = true) : 0 < t.length := by
  obtain ⟨_, x, s, h⟩ := (tB_iff t).1 hB
  cases t with
  | nil => simp [trun] at h
  | cons a t => simp
theorem vs_pos {t : List Int} (hB : tB t = true) : 0 < (vsL t).length := by
  have := tB_pos hB
  exact List.length_pos_of_mem ((vs_mem_of hB).2 (List.getElem_mem this))
theorem vs_last {t : List Int} (hB : tB t = true) {N x : Int} (hx : (vsL t)[(vsL t).length - 1]? = some x) : (∀ y ∈ t, y < N) ↔ x < N := by
  constructor
  · exact fun h => h x ((vs_mem_of hB).1 (List.mem_of_getElem? hx))
  · intro h y hy
    obtain ⟨p, hp⟩ := List.mem_iff_getElem?.1 ((vs_mem_of hB).2 hy)
    obtain ⟨p0, p1⟩ := List.getElem?_eq_some_iff.1 hp
    obtain ⟨q0, q1⟩ := List.getElem?_eq_some_iff.1 hx
    by_cases e : p = (vsL t).length - 1
    · subst e
      rw [p1] at q1
      omega
    · have := List.pairwise_iff_getElem.1 (vsK_asc t 12) p ((vsL t).length - 1) p0 q0 (by omega)
      rw [show (vsK t 12)[p]'p0 = y from p1, show (vsK t 12)[(vsL t).length - 1]'q0 = x from q1] at this
      omega
theorem mn_first {t : List Int} {x : Int} (hx : (vsL t)[0]? = some x) : mnV t = x := by
  unfold mnV
  cases h : vsL t with
  | nil => rw [h] at hx; simp at hx
  | cons a l => rw [h] at hx; simp at hx; simpa using hx
end Go.Proofs.Ytcpffonenhhfoab
