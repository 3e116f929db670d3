/- Lists of acts: how they stand in memory. -/
import Derived.Test.YtibcdpnodikpiaiActs
namespace Go.Proofs.Ytibcdpnodikpiai
open Go.RowKit

/-- a list of acts stands in memory below B -/
def As (w : World) (B : Nat) (a : Option Addr) (n : Nat) (xs : List ActV) : Prop :=
  xs.length = n ∧ (n = 0 ∨ ∃ b off, a = some ⟨b, off, none⟩ ∧ b < B ∧ ∀ (j : Nat) (x : ActV), xs[j]? = some x →
    w.cell? ⟨b, off + j * 4, none⟩ = some (.int .i64 x.kind) ∧ w.cell? ⟨b, off + j * 4 + 1, none⟩ = some (.string x.name) ∧ w.cell? ⟨b, off + j * 4 + 2, none⟩ = some (.string x.text) ∧ w.cell? ⟨b, off + j * 4 + 3, none⟩ = some (.string x.to))
theorem As.below {w w' : World} {B C : Nat} {a : Option Addr} {n : Nat} {xs : List ActV} (h : As w B a n xs) (hb : Below C w w') (hB : B ≤ C) : As w' B a n xs := by
  refine ⟨h.1, h.2.imp id ?_⟩
  rintro ⟨b, off, h1, h2, h3⟩
  refine ⟨b, off, h1, h2, fun j x hx => ?_⟩
  have hc : ∀ o, w'.cell? ⟨b, o, none⟩ = w.cell? ⟨b, o, none⟩ := fun o => hb.cell (p := ⟨b, o, none⟩) (by show b < _; omega)
  obtain ⟨c0, c1, c2, c3⟩ := h3 j x hx
  exact ⟨by rw [hc]; exact c0, by rw [hc]; exact c1, by rw [hc]; exact c2, by rw [hc]; exact c3⟩
theorem As.mono {w : World} {B C : Nat} {a : Option Addr} {n : Nat} {xs : List ActV} (h : As w B a n xs) (hB : B ≤ C) : As w C a n xs := by
  refine ⟨h.1, h.2.imp id ?_⟩
  rintro ⟨b, off, h1, h2, h3⟩
  exact ⟨b, off, h1, by omega, h3⟩
theorem As.up {w w' : World} {a : Option Addr} {n : Nat} {xs : List ActV} (h : As w w.heap.size a n xs) (hb : Below w.heap.size w w') : As w' w'.heap.size a n xs :=
  (h.below hb (Nat.le_refl _)).mono hb.size
def acell (x : ActV) : List Value := [.int .i64 x.kind, .string x.name, .string x.text, .string x.to]
def acells (xs : List ActV) : List Value := xs.flatMap acell
theorem acells_length (xs : List ActV) : (acells xs).length = xs.length * 4 := by
  induction xs with
  | nil => rfl
  | cons f fs ih => simp only [acells, List.flatMap_cons, List.length_append, List.length_cons] at ih ⊢; rw [ih]; simp [acell]; omega
theorem acells_snoc (xs : List ActV) (x : ActV) : acells (xs ++ [x]) = acells xs ++ [.int .i64 x.kind, .string x.name, .string x.text, .string x.to] := by simp [acells, acell]
theorem acells_at (xs : List ActV) (j : Nat) (x : ActV) (h : xs[j]? = some x) :
    (acells xs)[j * 4]? = some (.int .i64 x.kind) ∧ (acells xs)[j * 4 + 1]? = some (.string x.name) ∧ (acells xs)[j * 4 + 2]? = some (.string x.text) ∧ (acells xs)[j * 4 + 3]? = some (.string x.to) := by
  induction xs generalizing j with
  | nil => simp at h
  | cons g fs ih =>
    cases j with
    | zero => simp at h; subst h; simp [acells, acell]
    | succ j =>
      have h2 := ih j (by simpa using h)
      have e : ∀ m, (acells (g :: fs))[m + 4]? = (acells fs)[m]? := fun m => by simp [acells, acell]
      refine ⟨?_, ?_, ?_, ?_⟩
      · rw [show (j + 1) * 4 = j * 4 + 4 by omega, e]; exact h2.1
      · rw [show (j + 1) * 4 + 1 = j * 4 + 1 + 4 by omega, e]; exact h2.2.1
      · rw [show (j + 1) * 4 + 2 = j * 4 + 2 + 4 by omega, e]; exact h2.2.2.1
      · rw [show (j + 1) * 4 + 3 = j * 4 + 3 + 4 by omega, e]; exact h2.2.2.2
theorem add_off (g j : Nat) : ((⟨g, 0, none⟩ : Addr).add j) = ⟨g, j, none⟩ := by
  by_cases h0 : j = 0
  · subst h0; rfl
  · simp [Addr.add, h0]
theorem As_of_own {w : World} {B g n cap : Nat} {xs : List ActV} (h : w.ownsRow B 35 4 (.slice (some ⟨g, 0, none⟩) n cap) n (acells xs)) : As w w.heap.size (some ⟨g, 0, none⟩) n xs := by
  have hl := h.1
  rw [acells_length] at hl
  refine ⟨by omega, .inr ⟨g, 0, rfl, (h.lt g rfl).2, fun j x hx => ?_⟩⟩
  obtain ⟨c0, c1, c2, c3⟩ := acells_at xs j x hx
  have hc := fun o v (hv : (acells xs)[o]? = some v) => h.cells (g := g) rfl o v hv
  simp only [add_off] at hc
  simp only [Nat.zero_add]
  exact ⟨hc _ _ c0, hc _ _ c1, hc _ _ c2, hc _ _ c3⟩
/-- the letters of a list of acts -/
def lettersA (xs : List ActV) : Nat := (xs.map fun x => x.name.size + x.text.size + x.to.size).sum
theorem lettersA_snoc (xs : List ActV) (x : ActV) : lettersA (xs ++ [x]) = lettersA xs + (x.name.size + x.text.size + x.to.size) := by simp [lettersA]
theorem lettersA_take (xs : List ActV) (k : Nat) : lettersA (xs.take k) ≤ lettersA xs := by
  have h := congrArg lettersA (List.take_append_drop k xs)
  have e : ∀ a b : List ActV, lettersA (a ++ b) = lettersA a + lettersA b := fun a b => by simp [lettersA]
  have := e (xs.take k) (xs.drop k)
  omega
theorem lettersA_mem {xs : List ActV} {x : ActV} (h : x ∈ xs) : x.name.size + x.text.size + x.to.size ≤ lettersA xs := by
  obtain ⟨j, hj⟩ := List.getElem?_of_mem h
  have h1 := lettersA_take xs (j + 1)
  rw [take_snocF xs j x hj, lettersA_snoc] at h1
  omega
theorem infoIA : (Try.prog.info? 35).map (fun i => (i.zero, i.size, i.bytes)) = some (some (.agg #[.int .i64 0, .string .empty, .string .empty, .string .empty]), 4, 56) := by kernel_rfl
/-- all acts fit -/
def FitsA (xs : List ActV) : Prop := ∀ x ∈ xs, FitA x
end Go.Proofs.Ytibcdpnodikpiai
