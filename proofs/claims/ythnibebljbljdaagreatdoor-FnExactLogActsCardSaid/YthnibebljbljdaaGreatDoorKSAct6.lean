/- What the specification's DoAct answers at every list of files and every act. What the specification's DoAct answers where disk and act are as they must be. What the specification's DoAct answers where it adds, keeps, moves, drops. What the specification's DoAct answers where it keeps and drops. What the specification's DoAct answers where the kind is none, and where it does not move. What the specification's DoAct answers where it moves. -/
import Derived.Test.YthnibebljbljdaaGreatDoorKSPut2
import Derived.Lib.Strings
namespace Go.Proofs.YthnibebljbljdaaGreatDoor.F
open Go.RowKit

/-- an act -/
structure ActV where
  kind : Int
  name : ByteArray
  text : ByteArray
  to : ByteArray

def actV (x : ActV) : Value := .agg #[.int .i64 x.kind, .string x.name, .string x.text, .string x.to]

/-- a name as it must be -/
def NameOk (s : ByteArray) : Prop := 1 ≤ s.size ∧ s.size ≤ 8

/-- the worlds of the two arguments and the answer laid -/
def w3 (w : World) (a : Option Addr) (n c : Nat) (x : ActV) : World :=
  ((w.alloc (.cells #[.slice a n c] 48)).alloc (.cells #[.int .i64 x.kind, .string x.name, .string x.text, .string x.to] 83)).alloc (.cells #[.slice none 0 0] 48)

theorem w3_below (w : World) (a : Option Addr) (n c : Nat) (x : ActV) : Below w.heap.size w (w3 w a n c x) :=
  (((Below.refl _ _).alloc (Nat.le_refl _) _).alloc (by simp) _).alloc (by simp; omega) _
theorem w3_size (w : World) (a : Option Addr) (n c : Nat) (x : ActV) : (w3 w a n c x).heap.size = w.heap.size + 3 := by simp [w3]
theorem w3_fs {w : World} {a : Option Addr} {n c : Nat} {x : ActV} {fs : List FileV} (h : Fs w w.heap.size a n fs) : Fs (w3 w a n c x) (w3 w a n c x).heap.size a n fs := h.up (w3_below w a n c x)

/-- where DoAct stands: her two arguments, her answer, all else as it was -/
structure ActAt (w : World) (a : Option Addr) (n c : Nat) (x : ActV) (u : World) : Prop where
  x0 : Box u w.heap.size 48 (.slice a n c)
  x1 : u.heap[w.heap.size + 1]? = some (.cells #[.int .i64 x.kind, .string x.name, .string x.text, .string x.to] 83 (0, 0))
  x2 : Box u (w.heap.size + 1 + 1) 48 (.slice none 0 0)
  size : w.heap.size + 3 ≤ u.heap.size
  below : Below w.heap.size w u

theorem ActAt.start (w : World) (a : Option Addr) (n c : Nat) (x : ActV) : ActAt w a n c x (w3 w a n c x) := by
  refine ⟨((Box.new w _ _ _ rfl).alloc _).alloc _, ?_, Box.new _ _ _ _ (by simp), by rw [w3_size]; omega, w3_below w a n c x⟩
  have h2 : ((w.alloc (.cells #[.slice a n c] 48)).alloc (.cells #[.int .i64 x.kind, .string x.name, .string x.text, .string x.to] 83)).heap[w.heap.size + 1]? = some (.cells #[.int .i64 x.kind, .string x.name, .string x.text, .string x.to] 83 (0, 0)) := by
    have := heap_alloc_new (w.alloc (.cells #[.slice a n c] 48)) (.cells #[.int .i64 x.kind, .string x.name, .string x.text, .string x.to] 83)
    simpa using this
  unfold w3
  rw [Below.heap_alloc _ _ _ (by simp)]
  exact h2

theorem ActAt.up {w : World} {a : Option Addr} {n c : Nat} {x : ActV} {u u' : World} (h : ActAt w a n c x u) (hb : Below u.heap.size u u') : ActAt w a n c x u' := by
  have := h.size
  exact ⟨h.x0.below hb (by omega), by rw [hb.block _ (by omega)]; exact h.x1, h.x2.below hb (by omega), Nat.le_trans h.size hb.size, h.below.trans (hb.mono (by omega))⟩

theorem ActAt.alloc {w : World} {a : Option Addr} {n c : Nat} {x : ActV} {u : World} (h : ActAt w a n c x u) (o : Obj) : ActAt w a n c x (u.alloc o) := h.up ((Below.refl _ _).alloc (Nat.le_refl _) _)
theorem ActAt.set {w : World} {a : Option Addr} {n c : Nat} {x : ActV} {u : World} (h : ActAt w a n c x u) (G j : Nat) (v : Value) (hG : w.heap.size + 3 ≤ G) : ActAt w a n c x (u.setCell ⟨G, j, none⟩ v) :=
  ⟨h.x0.setOther v (by omega), by rw [heap_setCell_other u ⟨G, j, none⟩ _ v (by show w.heap.size + 1 ≠ G; omega)]; exact h.x1, h.x2.setOther v (by omega), by simpa [World.setCell] using h.size, h.below.setCell (p := ⟨G, j, none⟩) (by show w.heap.size ≤ G; omega) v⟩

theorem ActAt.cells {w : World} {a : Option Addr} {n c : Nat} {x : ActV} {u : World} (h : ActAt w a n c x u) :
    u.cell? ⟨w.heap.size, 0, none⟩ = some (.slice a n c) ∧ u.cell? ⟨w.heap.size + 1, 0, none⟩ = some (.int .i64 x.kind) ∧ u.cell? ⟨w.heap.size + 1, 1, none⟩ = some (.string x.name) ∧ u.cell? ⟨w.heap.size + 1, 2, none⟩ = some (.string x.text) ∧ u.cell? ⟨w.heap.size + 1, 3, none⟩ = some (.string x.to) ∧
      u.cell? ⟨w.heap.size + 1 + 1, 0, none⟩ = some (.slice none 0 0) ∧ u.frozen? ⟨w.heap.size + 1 + 1, 0, none⟩ = false :=
  ⟨h.x0.cell, by rw [cell_of_row u _ 0 _ _ _ h.x1]; rfl, by rw [cell_of_row u _ 1 _ _ _ h.x1]; rfl, by rw [cell_of_row u _ 2 _ _ _ h.x1]; rfl, by rw [cell_of_row u _ 3 _ _ _ h.x1]; rfl, h.x2.cell, h.x2.frozen⟩

/-- what a refusal leaves -/
theorem ActAt.refused {w : World} {a : Option Addr} {n c : Nat} {x : ActV} {u : World} (h : ActAt w a n c x u) :
    (u.setCell ⟨w.heap.size + 1 + 1, 0, none⟩ (.slice none 0 0)).cell? ⟨w.heap.size + 1 + 1, 0, none⟩ = some (.slice none 0 0) ∧ Below w.heap.size w (u.setCell ⟨w.heap.size + 1 + 1, 0, none⟩ (.slice none 0 0)) :=
  ⟨(h.x2.set _).cell, h.below.setCell (p := ⟨w.heap.size + 1 + 1, 0, none⟩) (by show w.heap.size ≤ w.heap.size + 1 + 1; omega) _⟩

/-- the rest of what is looked at first -/
def ActBad (x : ActV) : Prop := ¬ NameOk x.name ∨ (x.kind ≠ 3 ∧ x.to.size ≠ 0) ∨ (x.kind ≠ 1 ∧ x.text.size ≠ 0)

theorem str_empty {s : ByteArray} (h : s.size = 0) : s.toList.isEmpty = true := by
  have : s.data.toList.length = 0 := by simpa using h
  rw [Lib.toList_data, List.length_eq_zero_iff.1 this]; rfl
theorem str_nonempty {s : ByteArray} (h : s.size ≠ 0) : s.toList.isEmpty = false := by
  rw [Lib.toList_data]
  cases hl : s.data.toList with
  | nil =>
    exfalso
    apply h
    have := congrArg List.length hl
    simpa using this
  | cons x l => rfl

end Go.Proofs.YthnibebljbljdaaGreatDoor.F
namespace Go.Proofs.YthnibebljbljdaaGreatDoor.F
open Go.RowKit

/-- disk and act are as they must be -/
structure ActFine (fs : List FileV) (x : ActV) : Prop where
  disk : DiskR fs
  name : NameOk x.name
  to : x.kind = 3 ∨ x.to.size = 0
  text : x.kind = 1 ∨ x.text.size = 0

theorem ActFine.d1 {fs : List FileV} {x : ActV} (h : ActFine fs x) : (x.kind != 3 && !x.to.toList.isEmpty) = false := by
  rcases h.to with h | h
  · simp [h]
  · simp [str_empty h]
theorem ActFine.d2 {fs : List FileV} {x : ActV} (h : ActFine fs x) : (x.kind != 1 && !x.text.toList.isEmpty) = false := by
  rcases h.text with h | h
  · simp [h]
  · simp [str_empty h]

theorem disk_n {fs : List FileV} {n : Nat} {w : World} {B : Nat} {a : Option Addr} (hd : DiskR fs) (h : Fs w B a n fs) : n ≤ 30 := by rw [← h.1]; exact hd.1

/-- the four looks at kind, To and Text, decided -/
def Looks (x : ActV) (p q r t : Bool) : Prop := (x.kind != 3) = p ∧ x.to.toList.isEmpty = q ∧ (x.kind != 1) = r ∧ x.text.toList.isEmpty = t

theorem looks3 {fs : List FileV} {x : ActV} (h : ActFine fs x) (hk : x.kind = 3) : ∃ q, Looks x false q true true :=
  ⟨_, by simp [hk], rfl, by simp [hk], str_empty (by rcases h.text with h | h <;> omega)⟩
theorem looks1 {fs : List FileV} {x : ActV} (h : ActFine fs x) (hk : x.kind = 1) : ∃ t, Looks x true true false t :=
  ⟨_, by simp [hk], str_empty (by rcases h.to with h | h <;> omega), by simp [hk], rfl⟩
theorem looks0 {fs : List FileV} {x : ActV} (h : ActFine fs x) (h1 : x.kind ≠ 1) (h3 : x.kind ≠ 3) : Looks x true true true true :=
  ⟨by simp [h3], str_empty (by rcases h.to with h | h <;> omega), by simp [h1], str_empty (by rcases h.text with h | h <;> omega)⟩

end Go.Proofs.YthnibebljbljdaaGreatDoor.F
namespace Go.Proofs.YthnibebljbljdaaGreatDoor.F
open Go.RowKit

theorem Fs_of_ownv {w : World} {B m c' : Nat} {a' : Option Addr} {gs : List FileV} (h : w.ownsRow B 130 3 (.slice a' m c') m (fcells gs)) : Fs w w.heap.size a' m gs := by
  have hl := h.1
  rw [fcells_length] at hl
  rcases h.2 with ⟨hv, hm⟩ | ⟨g, cap, cur, hv, _⟩
  · exact ⟨by omega, .inl hm⟩
  · simp at hv
    obtain ⟨rfl, rfl⟩ := hv
    exact Fs_of_own h

/-- what DoAct answers: a disk of its own, or none -/
def ActAns (w : World) (o : Option (List FileV)) (e : Ending) (w' : World) : Prop :=
  match o with
  | none => e = .returned (.tuple #[.agg #[.slice none 0 0], .bool false]) ∧ Below w.heap.size w w'
  | some gs => ∃ a' m c', e = .returned (.tuple #[.agg #[.slice a' m c'], .bool true]) ∧ w'.ownsRow w.heap.size 130 3 (.slice a' m c') m (fcells gs) ∧ Below w.heap.size w w'

theorem grown_of_below' {w w' : World} (h : Below w.heap.size w w') (row : Option Nat) : w.grownBy w' row :=
  ⟨h.os, h.tape, h.output, h.size, fun k hk _ => h.block k hk⟩

theorem disk_fits {gs : List FileV} (h : DiskR gs) : FitsF gs := fun f hf => by
  obtain ⟨j, hj⟩ := List.getElem?_of_mem hf
  have := (h.2 j (List.getElem?_eq_some_iff.1 hj).1 f hj).1
  obtain ⟨⟨_, h1⟩, h2, _⟩ := this
  unfold maxLen
  omega

end Go.Proofs.YthnibebljbljdaaGreatDoor.F
namespace Go.Proofs.YthnibebljbljdaaGreatDoor.F
open Go.RowKit

end Go.Proofs.YthnibebljbljdaaGreatDoor.F
namespace Go.Proofs.YthnibebljbljdaaGreatDoor.F
open Go.RowKit

theorem str_ne {a b : ByteArray} (h : ¬ a = b) : (a.toList == b.toList) = false := by
  have h1 : ¬ a.toList = b.toList := by
    rw [Lib.toList_data, Lib.toList_data]
    intro e
    apply h
    cases a; cases b
    simpa using e
  simp [h1]

end Go.Proofs.YthnibebljbljdaaGreatDoor.F
namespace Go.Proofs.YthnibebljbljdaaGreatDoor.F
open Go.RowKit

end Go.Proofs.YthnibebljbljdaaGreatDoor.F
