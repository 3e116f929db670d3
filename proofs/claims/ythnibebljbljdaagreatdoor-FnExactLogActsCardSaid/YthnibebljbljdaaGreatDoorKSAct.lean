/- What the specification's DiskOk answers at every list of files. What the specification's l03At answers at every list of files. What the laws over disks share. What the specification's l03Without and l03Put answer at every list of files. What the specification's l03Put answers at every list of files. What the specification's DoAct answers at every list of files and every act. -/
import Derived.Test.YthnibebljbljdaaGreatDoorKFiles
import Derived.Laws.Cover1
import Derived.Deep.AppendLies
import Derived.Deep.RegionLaw
import Derived.Lib.Strings
namespace Go.Proofs.YthnibebljbljdaaGreatDoor.F
open Go.RowKit

theorem l01In_yes (x a b : Int) (h1 : a ≤ x) (h2 : x ≤ b) (w : World) :
    Calls Tryz.prog 57 #[.int .i64 x, .int .i64 a, .int .i64 b] w fun e w' => e = .returned (.bool true) ∧ w' = w := by
  have d1 : decide (a ≤ x) = true := by simp [h1]
  have d2 : decide (x ≤ b) = true := by simp [h2]
  go_enter Tryz.func57, Tryz.ntmps57
  go_wp2
  go_ret
  exact ⟨by simp, rfl⟩

theorem l01In_no (x a b : Int) (h : x < a ∨ b < x) (w : World) :
    Calls Tryz.prog 57 #[.int .i64 x, .int .i64 a, .int .i64 b] w fun e w' => e = .returned (.bool false) ∧ w' = w := by
  by_cases h1 : a ≤ x
  · have d1 : decide (a ≤ x) = true := by simp [h1]
    have h2 : ¬ x ≤ b := by omega
    have d2 : decide (x ≤ b) = false := by simp [h2]
    go_enter Tryz.func57, Tryz.ntmps57
    go_wp2
    go_ret
    exact ⟨by simp, rfl⟩
  · have d1 : decide (a ≤ x) = false := by simp [h1]
    go_enter Tryz.func57, Tryz.ntmps57
    go_wp2
    go_ret
    exact ⟨by simp, rfl⟩

def lessB (a b : ByteArray) : Bool := Op.bytesLess a.toList b.toList
/-- a file as it must be -/
def FileOk (f : FileV) : Prop := (1 ≤ f.name.size ∧ f.name.size ≤ 8) ∧ f.text.size ≤ 20000 ∧ 0 ≤ f.kept ∧ f.kept ≤ f.text.size
/-- the file at k is as it must be, and behind the one ahead of it -/
def OkAt (fs : List FileV) (k : Nat) : Prop := ∀ f, fs[k]? = some f → FileOk f ∧ ∀ g, 0 < k → fs[k - 1]? = some g → lessB g.name f.name = true
/-- a disk as it must be -/
def DiskR (fs : List FileV) : Prop := fs.length ≤ 30 ∧ ∀ k, k < fs.length → OkAt fs k

/-- whether a disk is as it must be -/
noncomputable def dB (fs : List FileV) : Bool := @decide (DiskR fs) (Classical.propDecidable _)
theorem dB_true {fs : List FileV} (h : DiskR fs) : dB fs = true := by unfold dB; simp [h]
theorem dB_false {fs : List FileV} (h : ¬ DiskR fs) : dB fs = false := by unfold dB; simp [h]
theorem dB_iff {fs : List FileV} : dB fs = true ↔ DiskR fs := by unfold dB; simp

theorem not_disk {fs : List FileV} {k : Nat} {f : FileV} (hf : fs[k]? = some f) (h : ¬ FileOk f) : ¬ DiskR fs := fun hd =>
  h ((hd.2 k (List.getElem?_eq_some_iff.1 hf).1 f hf).1)
theorem not_order {fs : List FileV} {m : Nat} {f g : FileV} (hf : fs[m + 1]? = some f) (hg : fs[m]? = some g) (h : lessB g.name f.name = false) : ¬ DiskR fs := fun hd => by
  have := (hd.2 (m + 1) (List.getElem?_eq_some_iff.1 hf).1 f hf).2 g (by omega) hg
  rw [h] at this
  cases this

end Go.Proofs.YthnibebljbljdaaGreatDoor.F
namespace Go.Proofs.YthnibebljbljdaaGreatDoor.F
open Go.RowKit

/-- whether a file has this name -/
def hasName (name : ByteArray) (f : FileV) : Bool := f.name.toList == name.toList
/-- the place of the file of this name -/
def atN (fs : List FileV) (name : ByteArray) : Option Nat := fs.findIdx? (hasName name)
def atI : Option Nat → Int
  | none => -1
  | some k => (k : Int)

theorem atN_some {fs : List FileV} {name : ByteArray} {k : Nat} {f : FileV} (hf : fs[k]? = some f) (hn : hasName name f = true) (hb : ∀ j g, j < k → fs[j]? = some g → hasName name g = false) : atN fs name = some k := by
  obtain ⟨hk, rfl⟩ := List.getElem?_eq_some_iff.1 hf
  unfold atN
  rw [List.findIdx?_eq_some_iff_getElem]
  refine ⟨hk, hn, fun j hj => ?_⟩
  have := hb j (fs[j]'(by omega)) hj (List.getElem?_eq_getElem _)
  simp [this]

theorem atN_none {fs : List FileV} {name : ByteArray} (hb : ∀ (j : Nat) (g : FileV), fs[j]? = some g → hasName name g = false) : atN fs name = none := by
  unfold atN
  rw [List.findIdx?_eq_none_iff]
  intro f hf
  obtain ⟨j, hj⟩ := List.getElem?_of_mem hf
  exact hb j f hj

theorem atN_lt {fs : List FileV} {name : ByteArray} {k : Nat} (h : atN fs name = some k) : k < fs.length := by
  unfold atN at h
  rw [List.findIdx?_eq_some_iff_getElem] at h
  exact h.1

/-- the file of this name -/
def fileOf (fs : List FileV) (name : ByteArray) : Option FileV := (atN fs name).bind fun k => fs[k]?

end Go.Proofs.YthnibebljbljdaaGreatDoor.F
namespace Go.Proofs.YthnibebljbljdaaGreatDoor.F
open Go.RowKit

theorem letters_mem {fs : List FileV} {f : FileV} (h : f ∈ fs) : f.name.size + f.text.size ≤ letters fs := by
  induction fs with
  | nil => simp at h
  | cons g fs ih =>
    simp only [letters, List.map_cons, List.sum_cons] at ih ⊢
    rcases List.mem_cons.1 h with rfl | h
    · omega
    · have := ih h; omega

theorem fits_of {fs : List FileV} (h : fs.length + letters fs ≤ 1048576) : FitsF fs := fun f hf => by
  have := letters_mem hf
  unfold maxLen
  omega

/-- an own list, somewhere below -/
theorem Fs.up {w w' : World} {a : Option Addr} {n : Nat} {fs : List FileV} (h : Fs w w.heap.size a n fs) (hb : Below w.heap.size w w') : Fs w' w'.heap.size a n fs :=
  (h.below hb (Nat.le_refl _)).mono hb.size

/-- nothing below has turned since w -/
def Good (w u : World) : Prop := Below w.heap.size w u
theorem Good.fs {w u : World} (h : Good w u) {a : Option Addr} {n : Nat} {fs : List FileV} (hf : Fs w w.heap.size a n fs) : Fs u u.heap.size a n fs := hf.up h
theorem Good.cell {w u : World} (h : Good w u) {b o : Nat} (hb : b < w.heap.size) : u.cell? ⟨b, o, none⟩ = w.cell? ⟨b, o, none⟩ := Below.cell h hb

end Go.Proofs.YthnibebljbljdaaGreatDoor.F
namespace Go.Proofs.YthnibebljbljdaaGreatDoor.F
open Go.RowKit

/-- one value in a block of its own -/
def Box (w : World) (b : Nat) (t : TypeId) (v : Value) : Prop := w.heap[b]? = some (.cells #[v] t (0, 0))
theorem Box.cell {w : World} {b : Nat} {t : TypeId} {v : Value} (h : Box w b t v) : w.cell? ⟨b, 0, none⟩ = some v := by rw [cell_of_row w b 0 _ _ _ h]; rfl
theorem Box.frozen {w : World} {b : Nat} {t : TypeId} {v : Value} (h : Box w b t v) : w.frozen? ⟨b, 0, none⟩ = false := frozen_of_row w b 0 _ _ h
theorem Box.lt {w : World} {b : Nat} {t : TypeId} {v : Value} (h : Box w b t v) : b < w.heap.size := (Array.getElem?_eq_some_iff.1 h).1
theorem Box.new (w : World) (t : TypeId) (v : Value) (b : Nat) (hb : w.heap.size = b) : Box (w.alloc (.cells #[v] t)) b t v := by subst hb; exact heap_alloc_new w _
theorem Box.grown {w w' : World} {b : Nat} {t : TypeId} {v : Value} {row : Option Nat} (h : Box w b t v) (hg : w.grownBy w' row) (hr : some b ≠ row) : Box w' b t v := by
  unfold Box; rw [hg.block b h.lt hr]; exact h
theorem Box.alloc {w : World} {b : Nat} {t : TypeId} {v : Value} (h : Box w b t v) (o : Obj) : Box (w.alloc o) b t v := by
  unfold Box; rw [Below.heap_alloc w o b h.lt]; exact h
theorem Box.set {w : World} {b : Nat} {t : TypeId} {v : Value} (h : Box w b t v) (u : Value) : Box (w.setCell ⟨b, 0, none⟩ u) b t u := by
  unfold Box; rw [heap_setCell_same w b 0 _ t u h]; rfl
theorem Box.setOther {w : World} {b b' j : Nat} {t : TypeId} {v : Value} (h : Box w b t v) (u : Value) (hb : b ≠ b') : Box (w.setCell ⟨b', j, none⟩ u) b t v := by
  unfold Box; rw [heap_setCell_other w ⟨b', j, none⟩ b u hb]; exact h
theorem Box.below {w w' : World} {b C : Nat} {t : TypeId} {v : Value} (h : Box w b t v) (hb : Below C w w') (hC : b < C) : Box w' b t v := by
  unfold Box; rw [hb.block b hC]; exact h

theorem set_other {u : World} {G j x o : Nat} {v : Value} (h : x ≠ G) : (u.setCell ⟨G, j, none⟩ v).cell? ⟨x, o, none⟩ = u.cell? ⟨x, o, none⟩ := World.cell?_of_block (w := u) (heap_setCell_other u ⟨G, j, none⟩ x v h)

theorem own_setLow {w : World} {B e s n : Nat} {v : Value} {xs : List Value} (h : w.ownsRow B e s v n xs) (G j : Nat) (u : Value) (hG : G < B) : (w.setCell ⟨G, j, none⟩ u).ownsRow B e s v n xs :=
  World.ownsRow.kept h (grownSet w G j u) (.inr (fun e => by have := (h.lt G (by simpa using e)).1; omega))

/-- the files without that of a name -/
def without (fs : List FileV) (name : ByteArray) : List FileV := fs.filter fun f => !(hasName name f)
theorem without_snoc (fs : List FileV) (name : ByteArray) (f : FileV) : without (fs ++ [f]) name = without fs name ++ (if hasName name f then [] else [f]) := by
  unfold without
  cases h : hasName name f <;> simp [h]
theorem without_le (fs : List FileV) (name : ByteArray) : (without fs name).length ≤ fs.length := List.length_filter_le _ _

end Go.Proofs.YthnibebljbljdaaGreatDoor.F
namespace Go.Proofs.YthnibebljbljdaaGreatDoor.F
open Go.RowKit

def moreB (a b : ByteArray) : Bool := !(Op.bytesLess a.toList b.toList || a.toList == b.toList)
/-- the files with one put in its place -/
def put (fs : List FileV) (f : FileV) : List FileV := fs.filter (fun g => lessB g.name f.name) ++ [f] ++ fs.filter (fun g => moreB g.name f.name)

/-- where l03Put stands: her boxes, the list that grows -/
structure PutAt (w : World) (B : Nat) (a : Option Addr) (n c : Nat) (f : FileV) (a' : Option Addr) (m c' : Nat) (gs : List FileV) (u : World) : Prop where
  x0 : Box u B 48 (.slice a n c)
  x1 : u.heap[B + 1]? = some (.cells #[.string f.name, .string f.text, .int .i64 f.kept] 130 (0, 0))
  x2 : Box u (B + 1 + 1) 48 (.slice none 0 0)
  x3 : Box u (B + 1 + 1 + 1) 48 (.slice a' m c')
  own : u.ownsRow (B + 1 + 1 + 1 + 1) 130 3 (.slice a' m c') m (fcells gs)
  below : Below B w u

theorem PutAt.append {w : World} {B : Nat} {a : Option Addr} {n c : Nat} {f : FileV} {a' : Option Addr} {m c' : Nat} {gs : List FileV} {u w1 : World} (h : PutAt w B a n c f a' m c' gs u) (hB : B = w.heap.size) {o : Obj} {g1 cap1 : Nat} {h' : FileV}
    (hown : w1.ownsRow (B + 1 + 1 + 1 + 1) 130 3 (.slice (some ⟨g1, 0, none⟩) (m + 1) cap1) (m + 1) (fcells gs ++ [.string h'.name, .string h'.text, .int .i64 h'.kept])) (hg : (u.alloc o).grownBy w1 (Value.slice a' m c').ownBlock) :
    PutAt w B a n c f a' m c' gs (u.alloc o) → PutAt w B a n c f (some ⟨g1, 0, none⟩) (m + 1) cap1 (gs ++ [h']) (w1.setCell ⟨B + 1 + 1 + 1, 0, none⟩ (.slice (some ⟨g1, 0, none⟩) (m + 1) cap1)) := by
  intro hu
  have hrow : ∀ x, x < B + 1 + 1 + 1 + 1 → some x ≠ (Value.slice a' m c').ownBlock := fun x hx e => by
    have := (h.own.lt x e.symm).1
    omega
  have l3 := h.x3.lt
  have y0 := hu.x0.grown hg (hrow _ (by omega))
  have y2 := hu.x2.grown hg (hrow _ (by omega))
  have y3 := hu.x3.grown hg (hrow _ (by omega))
  have y1 : w1.heap[B + 1]? = some (.cells #[.string f.name, .string f.text, .int .i64 f.kept] 130 (0, 0)) := by rw [hg.block (B + 1) (by simp; omega) (hrow _ (by omega))]; exact hu.x1
  have hb1 : Below B w w1 := hu.below.grown hg (by simp; omega) (fun j hj => by have := (h.own.lt j hj).1; omega)
  have lg := (hown.lt g1 rfl).1
  refine ⟨y0.setOther _ (by omega), ?_, y2.setOther _ (by omega), y3.set _, ?_, hb1.setCell (p := ⟨B + 1 + 1 + 1, 0, none⟩) (by show B ≤ B + 1 + 1 + 1; omega) _⟩
  · rw [heap_setCell_other w1 ⟨B + 1 + 1 + 1, 0, none⟩ (B + 1) _ (by show B + 1 ≠ B + 1 + 1 + 1; omega)]; exact y1
  · rw [fcells_snoc]; exact own_setOther hown _ 0 _ (by omega)

theorem PutAt.alloc {w : World} {B : Nat} {a : Option Addr} {n c : Nat} {f : FileV} {a' : Option Addr} {m c' : Nat} {gs : List FileV} {u : World} (h : PutAt w B a n c f a' m c' gs u) (o : Obj) : PutAt w B a n c f a' m c' gs (u.alloc o) :=
  have l3 := h.x3.lt
  ⟨h.x0.alloc o, by rw [Below.heap_alloc u o (B + 1) (by omega)]; exact h.x1, h.x2.alloc o, h.x3.alloc o, h.own.alloc o, h.below.alloc (by omega) o⟩

theorem PutAt.drewN {w : World} {B : Nat} {a : Option Addr} {n c : Nat} {f : FileV} {a' : Option Addr} {m c' : Nat} {gs : List FileV} {u : World} (h : PutAt w B a n c f a' m c' gs u) (q : Nat) : PutAt w B a n c f a' m c' gs (u.drewN q) :=
  ⟨h.x0, h.x1, h.x2, h.x3, h.own, below_drewN h.below q⟩
theorem PutAt.drew {w : World} {B : Nat} {a : Option Addr} {n c : Nat} {f : FileV} {a' : Option Addr} {m c' : Nat} {gs : List FileV} {u : World} (h : PutAt w B a n c f a' m c' gs u) : PutAt w B a n c f a' m c' gs u.drew :=
  ⟨h.x0, h.x1, h.x2, h.x3, h.own, h.below.drew⟩
theorem PutAt.fcell {w : World} {B : Nat} {a : Option Addr} {n c : Nat} {f : FileV} {a' : Option Addr} {m c' : Nat} {gs : List FileV} {u : World} (h : PutAt w B a n c f a' m c' gs u) :
    u.cell? ⟨B + 1, 0, none⟩ = some (.string f.name) ∧ u.cell? ⟨B + 1, 1, none⟩ = some (.string f.text) ∧ u.cell? ⟨B + 1, 2, none⟩ = some (.int .i64 f.kept) :=
  ⟨by rw [cell_of_row u (B + 1) 0 _ _ _ h.x1]; rfl, by rw [cell_of_row u (B + 1) 1 _ _ _ h.x1]; rfl, by rw [cell_of_row u (B + 1) 2 _ _ _ h.x1]; rfl⟩

end Go.Proofs.YthnibebljbljdaaGreatDoor.F
namespace Go.Proofs.YthnibebljbljdaaGreatDoor.F
open Go.RowKit

/-- an act -/
structure ActV where
  kind : Int
  name : ByteArray
  text : ByteArray
  to : ByteArray

def actV (x : ActV) : Value := .agg #[.int .i64 x.kind, .string x.name, .string x.text, .string x.to]

/-- a name as it must be -/
def NameOk (s : ByteArray) : Prop := 1 ≤ s.size ∧ s.size ≤ 8

/-- the worlds of the two arguments and the answer laid -/
def w3 (w : World) (a : Option Addr) (n c : Nat) (x : ActV) : World :=
  ((w.alloc (.cells #[.slice a n c] 48)).alloc (.cells #[.int .i64 x.kind, .string x.name, .string x.text, .string x.to] 83)).alloc (.cells #[.slice none 0 0] 48)

theorem w3_below (w : World) (a : Option Addr) (n c : Nat) (x : ActV) : Below w.heap.size w (w3 w a n c x) :=
  (((Below.refl _ _).alloc (Nat.le_refl _) _).alloc (by simp) _).alloc (by simp; omega) _
theorem w3_size (w : World) (a : Option Addr) (n c : Nat) (x : ActV) : (w3 w a n c x).heap.size = w.heap.size + 3 := by simp [w3]
theorem w3_fs {w : World} {a : Option Addr} {n c : Nat} {x : ActV} {fs : List FileV} (h : Fs w w.heap.size a n fs) : Fs (w3 w a n c x) (w3 w a n c x).heap.size a n fs := h.up (w3_below w a n c x)

/-- where DoAct stands: her two arguments, her answer, all else as it was -/
structure ActAt (w : World) (a : Option Addr) (n c : Nat) (x : ActV) (u : World) : Prop where
  x0 : Box u w.heap.size 48 (.slice a n c)
  x1 : u.heap[w.heap.size + 1]? = some (.cells #[.int .i64 x.kind, .string x.name, .string x.text, .string x.to] 83 (0, 0))
  x2 : Box u (w.heap.size + 1 + 1) 48 (.slice none 0 0)
  size : w.heap.size + 3 ≤ u.heap.size
  below : Below w.heap.size w u

theorem ActAt.start (w : World) (a : Option Addr) (n c : Nat) (x : ActV) : ActAt w a n c x (w3 w a n c x) := by
  refine ⟨((Box.new w _ _ _ rfl).alloc _).alloc _, ?_, Box.new _ _ _ _ (by simp), by rw [w3_size]; omega, w3_below w a n c x⟩
  have h2 : ((w.alloc (.cells #[.slice a n c] 48)).alloc (.cells #[.int .i64 x.kind, .string x.name, .string x.text, .string x.to] 83)).heap[w.heap.size + 1]? = some (.cells #[.int .i64 x.kind, .string x.name, .string x.text, .string x.to] 83 (0, 0)) := by
    have := heap_alloc_new (w.alloc (.cells #[.slice a n c] 48)) (.cells #[.int .i64 x.kind, .string x.name, .string x.text, .string x.to] 83)
    simpa using this
  unfold w3
  rw [Below.heap_alloc _ _ _ (by simp)]
  exact h2

theorem ActAt.up {w : World} {a : Option Addr} {n c : Nat} {x : ActV} {u u' : World} (h : ActAt w a n c x u) (hb : Below u.heap.size u u') : ActAt w a n c x u' := by
  have := h.size
  exact ⟨h.x0.below hb (by omega), by rw [hb.block _ (by omega)]; exact h.x1, h.x2.below hb (by omega), Nat.le_trans h.size hb.size, h.below.trans (hb.mono (by omega))⟩

theorem ActAt.alloc {w : World} {a : Option Addr} {n c : Nat} {x : ActV} {u : World} (h : ActAt w a n c x u) (o : Obj) : ActAt w a n c x (u.alloc o) := h.up ((Below.refl _ _).alloc (Nat.le_refl _) _)
theorem ActAt.set {w : World} {a : Option Addr} {n c : Nat} {x : ActV} {u : World} (h : ActAt w a n c x u) (G j : Nat) (v : Value) (hG : w.heap.size + 3 ≤ G) : ActAt w a n c x (u.setCell ⟨G, j, none⟩ v) :=
  ⟨h.x0.setOther v (by omega), by rw [heap_setCell_other u ⟨G, j, none⟩ _ v (by show w.heap.size + 1 ≠ G; omega)]; exact h.x1, h.x2.setOther v (by omega), by simpa [World.setCell] using h.size, h.below.setCell (p := ⟨G, j, none⟩) (by show w.heap.size ≤ G; omega) v⟩

theorem ActAt.cells {w : World} {a : Option Addr} {n c : Nat} {x : ActV} {u : World} (h : ActAt w a n c x u) :
    u.cell? ⟨w.heap.size, 0, none⟩ = some (.slice a n c) ∧ u.cell? ⟨w.heap.size + 1, 0, none⟩ = some (.int .i64 x.kind) ∧ u.cell? ⟨w.heap.size + 1, 1, none⟩ = some (.string x.name) ∧ u.cell? ⟨w.heap.size + 1, 2, none⟩ = some (.string x.text) ∧ u.cell? ⟨w.heap.size + 1, 3, none⟩ = some (.string x.to) ∧
      u.cell? ⟨w.heap.size + 1 + 1, 0, none⟩ = some (.slice none 0 0) ∧ u.frozen? ⟨w.heap.size + 1 + 1, 0, none⟩ = false :=
  ⟨h.x0.cell, by rw [cell_of_row u _ 0 _ _ _ h.x1]; rfl, by rw [cell_of_row u _ 1 _ _ _ h.x1]; rfl, by rw [cell_of_row u _ 2 _ _ _ h.x1]; rfl, by rw [cell_of_row u _ 3 _ _ _ h.x1]; rfl, h.x2.cell, h.x2.frozen⟩

/-- what a refusal leaves -/
theorem ActAt.refused {w : World} {a : Option Addr} {n c : Nat} {x : ActV} {u : World} (h : ActAt w a n c x u) :
    (u.setCell ⟨w.heap.size + 1 + 1, 0, none⟩ (.slice none 0 0)).cell? ⟨w.heap.size + 1 + 1, 0, none⟩ = some (.slice none 0 0) ∧ Below w.heap.size w (u.setCell ⟨w.heap.size + 1 + 1, 0, none⟩ (.slice none 0 0)) :=
  ⟨(h.x2.set _).cell, h.below.setCell (p := ⟨w.heap.size + 1 + 1, 0, none⟩) (by show w.heap.size ≤ w.heap.size + 1 + 1; omega) _⟩

/-- the rest of what is looked at first -/
def ActBad (x : ActV) : Prop := ¬ NameOk x.name ∨ (x.kind ≠ 3 ∧ x.to.size ≠ 0) ∨ (x.kind ≠ 1 ∧ x.text.size ≠ 0)

theorem str_empty {s : ByteArray} (h : s.size = 0) : s.toList.isEmpty = true := by
  have : s.data.toList.length = 0 := by simpa using h
  rw [Lib.toList_data, List.length_eq_zero_iff.1 this]; rfl
theorem str_nonempty {s : ByteArray} (h : s.size ≠ 0) : s.toList.isEmpty = false := by
  rw [Lib.toList_data]
  cases hl : s.data.toList with
  | nil =>
    exfalso
    apply h
    have := congrArg List.length hl
    simpa using this
  | cons x l => rfl

end Go.Proofs.YthnibebljbljdaaGreatDoor.F
