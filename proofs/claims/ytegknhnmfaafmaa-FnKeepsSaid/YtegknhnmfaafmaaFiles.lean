/- Files in a list, and what the laws' own functions over disks answer. -/
import Derived.Test.YtegknhnmfaafmaaRows
import Derived.WalkKit
import Derived.WalkSpells
import Derived.WalkSmall
import Derived.OwnWalk
import Derived.BigQuiet
import Derived.Deep.QuietTactic
import Derived.Deep.MidRow
import Derived.Deep.RegionHeld3
namespace Go.Proofs.Ytegknhnmfaafmaa
open Go.RowKit

theorem hideIt {p : Prop} (h : p) : Hid p := h

/-- a file -/
structure FileV where
  name : ByteArray
  text : ByteArray
  kept : Int

/-- the list of files fs stands at a, n of them, below block B -/
def Fs (w : World) (B : Nat) (a : Option Addr) (n : Nat) (fs : List FileV) : Prop :=
  fs.length = n ∧ (n = 0 ∨ ∃ b off, a = some ⟨b, off, none⟩ ∧ b < B ∧ ∀ j f, fs[j]? = some f →
    w.cell? ⟨b, off + j * 3, none⟩ = some (.string f.name) ∧ w.cell? ⟨b, off + j * 3 + 1, none⟩ = some (.string f.text) ∧ w.cell? ⟨b, off + j * 3 + 2, none⟩ = some (.int .i64 f.kept))

/-- what is left of a measure behind a file -/
def szF (left : Int) (f : FileV) : Int := if left - f.name.size < 0 then -1 else if left - f.name.size - f.text.size < 0 then -1 else left - f.name.size - f.text.size

/-- the letters of a list of files -/
def letters (fs : List FileV) : Nat := (fs.map fun f => f.name.size + f.text.size).sum
theorem letters_snoc (fs : List FileV) (f : FileV) : letters (fs ++ [f]) = letters fs + (f.name.size + f.text.size) := by simp [letters]

theorem take_snocF {α : Type} (fs : List α) (k : Nat) (f : α) (h : fs[k]? = some f) : fs.take (k + 1) = fs.take k ++ [f] := by
  obtain ⟨hk, rfl⟩ := List.getElem?_eq_some_iff.1 h
  rw [List.take_succ_eq_append_getElem hk]

theorem letters_take (fs : List FileV) (k : Nat) : letters (fs.take k) ≤ letters fs := by
  have h := congrArg letters (List.take_append_drop k fs)
  have e : ∀ a b : List FileV, letters (a ++ b) = letters a + letters b := fun a b => by simp [letters]
  have := e (fs.take k) (fs.drop k)
  omega

theorem szF_yes (left : Int) (f : FileV) (h : 0 ≤ left - f.name.size - f.text.size) : szF left f = left - f.name.size - f.text.size := by
  unfold szF; rw [if_neg (by omega), if_neg (by omega)]
theorem szF_no (left : Int) (f : FileV) (h : left - f.name.size - f.text.size < 0) : szF left f = -1 := by
  unfold szF
  by_cases g : left - f.name.size < 0
  · rw [if_pos g]
  · rw [if_neg g, if_pos h]

/-- what is left of a measure behind a list of files -/
def szFs (left : Int) (fs : List FileV) : Int := if (fs.length : Int) + letters fs ≤ left then left - fs.length - letters fs else -1

theorem szFs_no (left : Int) (fs : List FileV) (h : ¬ (fs.length : Int) + letters fs ≤ left) : szFs left fs = -1 := by unfold szFs; rw [if_neg h]
theorem szFs_yes (left : Int) (fs : List FileV) (h : (fs.length : Int) + letters fs ≤ left) : szFs left fs = left - fs.length - letters fs := by unfold szFs; rw [if_pos h]

/-- the texts of the files are short enough for any machine -/
def FitsF (fs : List FileV) : Prop := ∀ f ∈ fs, f.name.size ≤ maxLen ∧ f.text.size ≤ maxLen

theorem szFs_pos (left : Int) (fs : List FileV) : szFs left fs = -1 ∨ (0 ≤ szFs left fs ∧ (fs.length : Int) + letters fs ≤ left) := by
  by_cases h : (fs.length : Int) + letters fs ≤ left
  · exact .inr ⟨by rw [szFs_yes left fs h]; omega, h⟩
  · exact .inl (szFs_no left fs h)

theorem Fs.alloc {w : World} {B : Nat} {a : Option Addr} {n : Nat} {fs : List FileV} (h : Fs w B a n fs) (hB : B ≤ w.heap.size) (o : Obj) : Fs (w.alloc o) B a n fs := by
  refine ⟨h.1, h.2.imp id ?_⟩
  rintro ⟨b, off, ha, hb, hc⟩
  refine ⟨b, off, ha, hb, fun j f hf => ?_⟩
  have hbl : b < w.heap.size := by omega
  obtain ⟨c0, c1, c2⟩ := hc j f hf
  exact ⟨by rw [World.cell?_of_block (w := w) (Below.heap_alloc w o b hbl)]; exact c0, by rw [World.cell?_of_block (w := w) (Below.heap_alloc w o b hbl)]; exact c1, by rw [World.cell?_of_block (w := w) (Below.heap_alloc w o b hbl)]; exact c2⟩

theorem Fs.below {w w' : World} {B C : Nat} {a : Option Addr} {n : Nat} {fs : List FileV} (h : Fs w B a n fs) (hb : Below C w w') (hB : B ≤ C) : Fs w' B a n fs := by
  refine ⟨h.1, h.2.imp id ?_⟩
  rintro ⟨b, off, ha, hbl, hc⟩
  refine ⟨b, off, ha, hbl, fun j f hf => ?_⟩
  obtain ⟨c0, c1, c2⟩ := hc j f hf
  have hl : b < C := by omega
  exact ⟨by rw [hb.cell (p := ⟨b, _, none⟩) hl]; exact c0, by rw [hb.cell (p := ⟨b, _, none⟩) hl]; exact c1, by rw [hb.cell (p := ⟨b, _, none⟩) hl]; exact c2⟩

theorem Fs.mono {w : World} {B C : Nat} {a : Option Addr} {n : Nat} {fs : List FileV} (h : Fs w B a n fs) (hB : B ≤ C) : Fs w C a n fs := by
  refine ⟨h.1, h.2.imp id ?_⟩
  rintro ⟨b, off, ha, hbl, hc⟩
  exact ⟨b, off, ha, by omega, hc⟩

/-- the cells of a file -/
def fcell (f : FileV) : List Value := [.string f.name, .string f.text, .int .i64 f.kept]
/-- the cells of a list of files -/
def fcells (fs : List FileV) : List Value := fs.flatMap fcell

theorem fcells_length (fs : List FileV) : (fcells fs).length = fs.length * 3 := by
  induction fs with
  | nil => rfl
  | cons f fs ih => simp only [fcells, List.flatMap_cons, List.length_append, List.length_cons] at ih ⊢; rw [ih]; simp [fcell]; omega

theorem fcells_at (fs : List FileV) (j : Nat) (f : FileV) (h : fs[j]? = some f) :
    (fcells fs)[j * 3]? = some (.string f.name) ∧ (fcells fs)[j * 3 + 1]? = some (.string f.text) ∧ (fcells fs)[j * 3 + 2]? = some (.int .i64 f.kept) := by
  induction fs generalizing j with
  | nil => simp at h
  | cons g fs ih =>
    cases j with
    | zero => simp at h; subst h; simp [fcells, fcell]
    | succ j =>
      have h2 := ih j (by simpa using h)
      have e : ∀ m, (fcells (g :: fs))[m + 3]? = (fcells fs)[m]? := fun m => by simp [fcells, fcell]
      refine ⟨?_, ?_, ?_⟩
      · rw [show (j + 1) * 3 = j * 3 + 3 by omega, e]; exact h2.1
      · rw [show (j + 1) * 3 + 1 = j * 3 + 1 + 3 by omega, e]; exact h2.2.1
      · rw [show (j + 1) * 3 + 2 = j * 3 + 2 + 3 by omega, e]; exact h2.2.2

theorem take_set3 {α : Type} (xs : List α) (m : Nat) (a b c : α) (h : m + 3 ≤ xs.length) : (((xs.set m a).set (m + 1) b).set (m + 2) c).take (m + 3) = xs.take m ++ [a, b, c] := by
  apply List.ext_getElem?
  intro i
  have hl : (xs.take m).length = m := by simp; omega
  by_cases h1 : i < m
  · rw [List.getElem?_append_left (by omega), List.getElem?_take_of_lt h1, List.getElem?_take_of_lt (by omega), List.getElem?_set_ne (by omega), List.getElem?_set_ne (by omega), List.getElem?_set_ne (by omega)]
  · rw [List.getElem?_append_right (by omega), hl]
    by_cases h2 : i < m + 3
    · rw [List.getElem?_take_of_lt h2]
      rcases (show i = m ∨ i = m + 1 ∨ i = m + 2 by omega) with rfl | rfl | rfl
      · rw [List.getElem?_set_ne (by omega), List.getElem?_set_ne (by omega), List.getElem?_set_self (by omega)]; simp
      · rw [List.getElem?_set_ne (by omega), List.getElem?_set_self (by simp; omega)]; simp
      · rw [List.getElem?_set_self (by simp; omega)]; simp
    · rw [List.getElem?_eq_none (by simp; omega), List.getElem?_eq_none (by simp; omega)]

theorem fcells_snoc (fs : List FileV) (f : FileV) : fcells (fs ++ [f]) = fcells fs ++ [.string f.name, .string f.text, .int .i64 f.kept] := by simp [fcells, fcell]

theorem infoIF : (Try.prog.info? 36).map (fun i => (i.zero, i.size, i.bytes)) = some (some (.agg #[.string .empty, .string .empty, .int .i64 0]), 3, 40) := by kernel_rfl

theorem bcell {W w1 : World} (hb : Below W.heap.size W w1) : (∀ b o, b < W.heap.size → w1.cell? ⟨b, o, none⟩ = W.cell? ⟨b, o, none⟩) ∧ (∀ b o, b < W.heap.size → w1.frozen? ⟨b, o, none⟩ = W.frozen? ⟨b, o, none⟩) :=
  ⟨fun b o h => hb.cell (p := ⟨b, o, none⟩) h, fun b o h => hb.frozen (p := ⟨b, o, none⟩) h⟩

/-- a list of one's own reads as its files -/
theorem Fs_of_own {w : World} {B g n cap : Nat} {fs : List FileV} (h : w.ownsRow B 36 3 (.slice (some ⟨g, 0, none⟩) n cap) n (fcells fs)) : Fs w w.heap.size (some ⟨g, 0, none⟩) n fs := by
  have hl := h.1
  rw [fcells_length] at hl
  refine ⟨by omega, ?_⟩
  by_cases h0 : n = 0
  · exact .inl h0
  · refine .inr ⟨g, 0, rfl, (h.lt g rfl).2, fun j f hf => ?_⟩
    have hj : j < fs.length := (List.getElem?_eq_some_iff.1 hf).1
    obtain ⟨c0, c1, c2⟩ := fcells_at fs j f hf
    rw [Nat.zero_add]
    exact ⟨by rw [h.cellAt (j * 3) (by omega)]; exact c0, by rw [h.cellAt (j * 3 + 1) (by omega)]; exact c1, by rw [h.cellAt (j * 3 + 2) (by omega)]; exact c2⟩

theorem grownSet (w : World) (G j : Nat) (u : Value) : w.grownBy (w.setCell ⟨G, j, none⟩ u) (some G) :=
  ⟨rfl, rfl, rfl, by simp [World.setCell], fun k _ hk => heap_setCell_other w ⟨G, j, none⟩ k u (fun e => hk (by simp [e]))⟩

theorem own_setOther {w : World} {B e s g n cap : Nat} {xs : List Value} (h : w.ownsRow B e s (.slice (some ⟨g, 0, none⟩) n cap) n xs) (G j : Nat) (u : Value) (hG : g ≠ G) :
    (w.setCell ⟨G, j, none⟩ u).ownsRow B e s (.slice (some ⟨g, 0, none⟩) n cap) n xs :=
  World.ownsRow.kept h (grownSet w G j u) (.inr (by simp [Value.ownBlock]; exact fun e => hG e))

theorem own_mono {w : World} {B B' e s n : Nat} {v : Value} {xs : List Value} (h : w.ownsRow B e s v n xs) (hB : B' ≤ B) : w.ownsRow B' e s v n xs :=
  ⟨h.1, h.2.imp id (fun ⟨g, cap, cur, a, b, rest⟩ => ⟨g, cap, cur, a, Nat.le_trans hB b, rest⟩)⟩

end Go.Proofs.Ytegknhnmfaafmaa
