/- A tour from another vertex on, as a list; answers that are a list of ints and a word. -/
import Derived.Test.YtcpffonenhhfoabITour
import Derived.Test.YtcpffonenhhfoabLaid
namespace Go.Proofs.Ytcpffonenhhfoab
open Go.RowKit

/-- what stands from the place k on up to the last but one, what stands ahead, and v -/
def reT (t : List Int) (k : Nat) (v : Int) : List Int := (t.take (t.length - 1)).drop k ++ (t.take k ++ [v])
/-- the tour from v on -/
def reO (t : List Int) (v : Int) : Option (List Int) := if tB t = true ∧ v ∈ t then some (reT t (fstI t v).toNat v) else none

/-- the answer: a list of its own, and whether there is one -/
def TAns (w : World) (o : Option (List Int)) (e : Ending) (w' : World) : Prop :=
  ∃ a m c, e = .returned (.tuple #[.slice a m c, .bool o.isSome]) ∧ w'.ownsRow w.heap.size 3 1 (.slice a m c) m (ic (o.getD [])) ∧ Below w.heap.size w w'
theorem tans_no {w u : World} {o : Option (List Int)} (ho : o = none) (h : Below w.heap.size w u) : TAns w o (.returned (.tuple #[.slice none 0 0, .bool false])) u := by
  subst ho
  exact ⟨none, 0, 0, rfl, World.ownsRow_nil _ _ _ _, h⟩
theorem tans_yes {w u : World} {o : Option (List Int)} {ls : List Int} (ho : o = some ls) {B : Nat} {a : Option Addr} {m c : Nat} (hB : w.heap.size ≤ B) (hown : u.ownsRow B 3 1 (.slice a m c) m (ic ls)) (h : Below w.heap.size w u) : TAns w o (.returned (.tuple #[.slice a m c, .bool true])) u := by
  subst ho
  exact ⟨a, m, c, rfl, own_mono hown hB, h⟩
/-- the first place of a number of the list -/
theorem fst_at {t : List Int} {v : Int} (h : v ∈ t) : ∃ k : Nat, fstI t v = (k : Int) ∧ k < t.length ∧ t[k]? = some v ∧ ∀ j, j < k → atP t v j = false := by
  rcases firstN_cases (atP t v) t.length with ⟨k, h1, h2, h3, h4⟩ | ⟨h1, _⟩
  · exact ⟨k, h4, h1, by simpa [atP] using h2, h3⟩
  · exact absurd h (mem_of_atP rfl h1)
theorem fst_no {t : List Int} {v : Int} (h : v ∉ t) : fstI t v = -1 := by
  rcases firstN_cases (atP t v) t.length with ⟨k, h1, h2, h3, h4⟩ | ⟨_, h2⟩
  · exact absurd (List.mem_of_getElem? (by simpa [atP] using h2 : t[k]? = some v)) h
  · exact h2
/-- the first place of a vertex of a tour of two and more lies ahead of the last one -/
theorem fst_lt {t : List Int} {v : Int} {k : Nat} (hB : tB t = true) (hk : k < t.length) (hv : t[k]? = some v) (hf : ∀ j, j < k → atP t v j = false) : k < t.length - 1 ∨ (k = 0 ∧ t.length = 1) := by
  obtain ⟨x, r, s, rfl, _, _, hr⟩ := tB_open hB
  rcases hr with rfl | ⟨q, rfl⟩
  · simp at hk; right; simp [hk]
  · left
    simp at hk ⊢
    by_cases h : k = q.length + 1
    · subst h
      have : v = x := by simpa using hv.symm
      subst this
      have := hf 0 (by omega)
      simp [atP] at this
    · omega
theorem Is.take {w : World} {B : Nat} {a : Option Addr} {n : Nat} {ls : List Int} (h : Is w B a n ls) {k : Nat} (hk : k ≤ n) : Is w B a k (ls.take k) := by
  refine ⟨by rw [List.length_take, h.1]; omega, ?_⟩
  rcases h.2 with h0 | ⟨b, off, h1, h2, h3⟩
  · exact .inl (by omega)
  · refine .inr ⟨b, off, h1, h2, fun j x hx => h3 j x ?_⟩
    have hj : j < k := by have := (List.getElem?_eq_some_iff.1 hx).1; rw [List.length_take] at this; omega
    rw [List.getElem?_take_of_lt hj] at hx
    exact hx
theorem Is.drop {w : World} {B b off : Nat} {n : Nat} {ls : List Int} (h : Is w B (some ⟨b, off, none⟩) n ls) {k : Nat} (hk : k ≤ n) : Is w B (some ⟨b, off + k, none⟩) (n - k) (ls.drop k) := by
  refine ⟨by rw [List.length_drop, h.1], ?_⟩
  rcases h.2 with h0 | ⟨b', off', h1, h2, h3⟩
  · exact .inl (by omega)
  · simp at h1
    obtain ⟨rfl, rfl⟩ := h1
    refine .inr ⟨b, off + k, rfl, h2, fun j x hx => ?_⟩
    rw [List.getElem?_drop] at hx
    have := h3 (k + j) x hx
    rw [Nat.add_assoc]
    exact this
theorem Is.none_of {w : World} {B : Nat} {a : Option Addr} {ls : List Int} (h : ls.length = 0) : Is w B a 0 ls := ⟨h, .inl rfl⟩
theorem Is.single (w : World) (f : Int) : Is (w.alloc (.cells #[.int .i64 f] 3)) (w.alloc (.cells #[.int .i64 f] 3)).heap.size (some ⟨w.heap.size, 0, none⟩) 1 [f] := by
  refine ⟨rfl, .inr ⟨w.heap.size, 0, rfl, by simp, fun j x hx => ?_⟩⟩
  rcases j with _ | j
  · simp at hx; subst hx; simp
  · simp at hx
theorem Is.cut {w : World} {B b off : Nat} {n : Nat} {ls : List Int} (h : Is w B (some ⟨b, off, none⟩) n ls) {k m : Nat} (hk : k ≤ m) (hm : m ≤ n) : Is w B (if m = k then some ⟨b, off, none⟩ else some ⟨b, off + k, none⟩) (m - k) ((ls.take m).drop k) := by
  by_cases h0 : m = k
  · rw [if_pos h0]
    subst h0
    rw [Nat.sub_self]
    exact Is.none_of (by simp)
  · rw [if_neg h0]
    exact (h.take hm).drop hk
/-- pieces that are laid into a block -/
theorem parts3 {u : World} {p1 p2 p3 : PartI} (h1 : Is u u.heap.size p1.a p1.m p1.ls) (h2 : Is u u.heap.size p2.a p2.m p2.ls) (h3 : Is u u.heap.size p3.a p3.m p3.ls) :
    PartsI (u.alloc (.cells #[.slice p1.a p1.m p1.c, .slice p2.a p2.m p2.c, .slice p3.a p3.m p3.c] 45)).drew u.heap.size [p1, p2, p3] := by
  have hb : Below u.heap.size u (u.alloc (.cells #[.slice p1.a p1.m p1.c, .slice p2.a p2.m p2.c, .slice p3.a p3.m p3.c] 45)).drew := ((Below.refl _ _).alloc (Nat.le_refl _) _).drew
  refine ⟨by simp, fun j q hq => ?_⟩
  rcases j with _ | _ | _ | j
  · simp at hq; subst hq
    exact ⟨by simp [go_sem], h1.up hb⟩
  · simp at hq; subst hq
    exact ⟨by simp [go_sem], h2.up hb⟩
  · simp at hq; subst hq
    exact ⟨by simp [go_sem], h3.up hb⟩
  · simp at hq
theorem parts2 {u : World} {p1 p2 : PartI} (h1 : Is u u.heap.size p1.a p1.m p1.ls) (h2 : Is u u.heap.size p2.a p2.m p2.ls) :
    PartsI (u.alloc (.cells #[.slice p1.a p1.m p1.c, .slice p2.a p2.m p2.c] 45)).drew u.heap.size [p1, p2] := by
  have hb : Below u.heap.size u (u.alloc (.cells #[.slice p1.a p1.m p1.c, .slice p2.a p2.m p2.c] 45)).drew := ((Below.refl _ _).alloc (Nat.le_refl _) _).drew
  refine ⟨by simp, fun j q hq => ?_⟩
  rcases j with _ | _ | j
  · simp at hq; subst hq
    exact ⟨by simp [go_sem], h1.up hb⟩
  · simp at hq; subst hq
    exact ⟨by simp [go_sem], h2.up hb⟩
  · simp at hq
theorem parts1 {u : World} {p1 : PartI} (h1 : Is u u.heap.size p1.a p1.m p1.ls) :
    PartsI (u.alloc (.cells #[.slice p1.a p1.m p1.c] 45)).drew u.heap.size [p1] := by
  have hb : Below u.heap.size u (u.alloc (.cells #[.slice p1.a p1.m p1.c] 45)).drew := ((Below.refl _ _).alloc (Nat.le_refl _) _).drew
  refine ⟨by simp, fun j q hq => ?_⟩
  rcases j with _ | j
  · simp at hq; subst hq
    exact ⟨by simp [go_sem], h1.up hb⟩
  · simp at hq
end Go.Proofs.Ytcpffonenhhfoab
