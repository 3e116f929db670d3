/- What the specification's DoAct answers at every list of files and every act. -/
import Derived.Test.YtegknhnmfaafmaaSPut2
import Derived.Lib.Strings
namespace Go.Proofs.Ytegknhnmfaafmaa
open Go.RowKit

/-- an act -/
structure ActV where
  kind : Int
  name : ByteArray
  text : ByteArray
  to : ByteArray

def actV (x : ActV) : Value := .agg #[.int .i64 x.kind, .string x.name, .string x.text, .string x.to]

/-- a name as it must be -/
def NameOk (s : ByteArray) : Prop := 1 ≤ s.size ∧ s.size ≤ 8

/-- the worlds of the two arguments and the answer laid -/
def w3 (w : World) (a : Option Addr) (n c : Nat) (x : ActV) : World :=
  ((w.alloc (.cells #[.slice a n c] 26)).alloc (.cells #[.int .i64 x.kind, .string x.name, .string x.text, .string x.to] 45)).alloc (.cells #[.slice none 0 0] 26)

theorem w3_below (w : World) (a : Option Addr) (n c : Nat) (x : ActV) : Below w.heap.size w (w3 w a n c x) :=
  (((Below.refl _ _).alloc (Nat.le_refl _) _).alloc (by simp) _).alloc (by simp; omega) _
theorem w3_size (w : World) (a : Option Addr) (n c : Nat) (x : ActV) : (w3 w a n c x).heap.size = w.heap.size + 3 := by simp [w3]
theorem w3_fs {w : World} {a : Option Addr} {n c : Nat} {x : ActV} {fs : List FileV} (h : Fs w w.heap.size a n fs) : Fs (w3 w a n c x) (w3 w a n c x).heap.size a n fs := h.up (w3_below w a n c x)

/-- where DoAct stands: her two arguments, her answer, all else as it was -/
structure ActAt (w : World) (a : Option Addr) (n c : Nat) (x : ActV) (u : World) : Prop where
  x0 : Box u w.heap.size 26 (.slice a n c)
  x1 : u.heap[w.heap.size + 1]? = some (.cells #[.int .i64 x.kind, .string x.name, .string x.text, .string x.to] 45 (0, 0))
  x2 : Box u (w.heap.size + 1 + 1) 26 (.slice none 0 0)
  size : w.heap.size + 3 ≤ u.heap.size
  below : Below w.heap.size w u

theorem ActAt.start (w : World) (a : Option Addr) (n c : Nat) (x : ActV) : ActAt w a n c x (w3 w a n c x) := by
  refine ⟨((Box.new w _ _ _ rfl).alloc _).alloc _, ?_, Box.new _ _ _ _ (by simp), by rw [w3_size]; omega, w3_below w a n c x⟩
  have h2 : ((w.alloc (.cells #[.slice a n c] 26)).alloc (.cells #[.int .i64 x.kind, .string x.name, .string x.text, .string x.to] 45)).heap[w.heap.size + 1]? = some (.cells #[.int .i64 x.kind, .string x.name, .string x.text, .string x.to] 45 (0, 0)) := by
    have := heap_alloc_new (w.alloc (.cells #[.slice a n c] 26)) (.cells #[.int .i64 x.kind, .string x.name, .string x.text, .string x.to] 45)
    simpa using this
  unfold w3
  rw [Below.heap_alloc _ _ _ (by simp)]
  exact h2

theorem ActAt.up {w : World} {a : Option Addr} {n c : Nat} {x : ActV} {u u' : World} (h : ActAt w a n c x u) (hb : Below u.heap.size u u') : ActAt w a n c x u' := by
  have := h.size
  exact ⟨h.x0.below hb (by omega), by rw [hb.block _ (by omega)]; exact h.x1, h.x2.below hb (by omega), Nat.le_trans h.size hb.size, h.below.trans (hb.mono (by omega))⟩

theorem ActAt.alloc {w : World} {a : Option Addr} {n c : Nat} {x : ActV} {u : World} (h : ActAt w a n c x u) (o : Obj) : ActAt w a n c x (u.alloc o) := h.up ((Below.refl _ _).alloc (Nat.le_refl _) _)
theorem ActAt.set {w : World} {a : Option Addr} {n c : Nat} {x : ActV} {u : World} (h : ActAt w a n c x u) (G j : Nat) (v : Value) (hG : w.heap.size + 3 ≤ G) : ActAt w a n c x (u.setCell ⟨G, j, none⟩ v) :=
  ⟨h.x0.setOther v (by omega), by rw [heap_setCell_other u ⟨G, j, none⟩ _ v (by show w.heap.size + 1 ≠ G; omega)]; exact h.x1, h.x2.setOther v (by omega), by simpa [World.setCell] using h.size, h.below.setCell (p := ⟨G, j, none⟩) (by show w.heap.size ≤ G; omega) v⟩

theorem ActAt.cells {w : World} {a : Option Addr} {n c : Nat} {x : ActV} {u : World} (h : ActAt w a n c x u) :
    u.cell? ⟨w.heap.size, 0, none⟩ = some (.slice a n c) ∧ u.cell? ⟨w.heap.size + 1, 0, none⟩ = some (.int .i64 x.kind) ∧ u.cell? ⟨w.heap.size + 1, 1, none⟩ = some (.string x.name) ∧ u.cell? ⟨w.heap.size + 1, 2, none⟩ = some (.string x.text) ∧ u.cell? ⟨w.heap.size + 1, 3, none⟩ = some (.string x.to) ∧
      u.cell? ⟨w.heap.size + 1 + 1, 0, none⟩ = some (.slice none 0 0) ∧ u.frozen? ⟨w.heap.size + 1 + 1, 0, none⟩ = false :=
  ⟨h.x0.cell, by rw [cell_of_row u _ 0 _ _ _ h.x1]; rfl, by rw [cell_of_row u _ 1 _ _ _ h.x1]; rfl, by rw [cell_of_row u _ 2 _ _ _ h.x1]; rfl, by rw [cell_of_row u _ 3 _ _ _ h.x1]; rfl, h.x2.cell, h.x2.frozen⟩

/-- what a refusal leaves -/
theorem ActAt.refused {w : World} {a : Option Addr} {n c : Nat} {x : ActV} {u : World} (h : ActAt w a n c x u) :
    (u.setCell ⟨w.heap.size + 1 + 1, 0, none⟩ (.slice none 0 0)).cell? ⟨w.heap.size + 1 + 1, 0, none⟩ = some (.slice none 0 0) ∧ Below w.heap.size w (u.setCell ⟨w.heap.size + 1 + 1, 0, none⟩ (.slice none 0 0)) :=
  ⟨(h.x2.set _).cell, h.below.setCell (p := ⟨w.heap.size + 1 + 1, 0, none⟩) (by show w.heap.size ≤ w.heap.size + 1 + 1; omega) _⟩

set_option maxRecDepth 100000 in
set_option maxHeartbeats 4000000 in
theorem sDoAct_bad (fs : List FileV) (hfit : FitsF fs) (n : Nat) (a : Option Addr) (c : Nat) (hn : n ≤ maxLen) (x : ActV) (w : World) (h : Fs w w.heap.size a n fs) (hd : ¬ DiskR fs) :
    Calls Try.prog 36 #[.agg #[.slice a n c], .agg #[.int .i64 x.kind, .string x.name, .string x.text, .string x.to]] w fun e w' => e = .returned (.tuple #[.agg #[.slice none 0 0], .bool false]) ∧ Below w.heap.size w w' := by
  have H := sDiskOk_any fs hfit n a c hn (w3 w a n c x) (w3_fs h)
  rw [dB_false hd] at H
  have HD := hideIt H
  clear H hd h
  go_enter Try.func36, Try.ntmps36
  go_wp2_with (go_at_call 49; refine (show Calls Try.prog 49 #[.agg #[.slice a n c]] (w3 w a n c x) _ from HD.out).mono ?_; rintro e w1 ⟨rfl, hb1⟩; refine Hid.out ?_)
  refine (show ∀ {p : Prop}, p → Hid p from fun h => h) ?_
  have hA := (ActAt.start w a n c x).up hb1
  obtain ⟨c0, c1, c2, c3, c4, c5, f5⟩ := hA.cells
  obtain ⟨s1, q1⟩ := hA.refused
  clear HD hb1 hA
  go_wp2
  exact bodyPost_ret (v := .tuple #[.agg #[.slice none 0 0], .bool false]) (by simp [results, Try.results36, go_sem, s1]) rfl ⟨rfl, q1⟩

/-- the rest of what is looked at first -/
def ActBad (x : ActV) : Prop := ¬ NameOk x.name ∨ (x.kind ≠ 3 ∧ x.to.size ≠ 0) ∨ (x.kind ≠ 1 ∧ x.text.size ≠ 0)

theorem str_empty {s : ByteArray} (h : s.size = 0) : s.toList.isEmpty = true := by
  have : s.data.toList.length = 0 := by simpa using h
  rw [Lib.toList_data, List.length_eq_zero_iff.1 this]; rfl
theorem str_nonempty {s : ByteArray} (h : s.size ≠ 0) : s.toList.isEmpty = false := by
  rw [Lib.toList_data]
  cases hl : s.data.toList with
  | nil =>
    exfalso
    apply h
    have := congrArg List.length hl
    simpa using this
  | cons x l => rfl

set_option maxRecDepth 100000 in
set_option maxHeartbeats 4000000 in
theorem sDoAct_actbad (fs : List FileV) (hfit : FitsF fs) (n : Nat) (a : Option Addr) (c : Nat) (hn : n ≤ maxLen) (x : ActV) (hxn : x.name.size ≤ maxLen) (w : World) (h : Fs w w.heap.size a n fs) (hd : DiskR fs) (hx : ActBad x) :
    Calls Try.prog 36 #[.agg #[.slice a n c], .agg #[.int .i64 x.kind, .string x.name, .string x.text, .string x.to]] w fun e w' => e = .returned (.tuple #[.agg #[.slice none 0 0], .bool false]) ∧ Below w.heap.size w w' := by
  have H := sDiskOk_any fs hfit n a c hn (w3 w a n c x) (w3_fs h)
  rw [dB_true hd] at H
  have HD := hideIt H
  have HX := hideIt hx
  clear H hd h hx
  go_enter Try.func36, Try.ntmps36
  go_wp2_with (go_at_call 49; refine (show Calls Try.prog 49 #[.agg #[.slice a n c]] (w3 w a n c x) _ from HD.out).mono ?_; rintro e w1 ⟨rfl, hb1⟩; refine Hid.out ?_)
  refine (show ∀ {p : Prop}, p → Hid p from fun h => h) ?_
  have hA := (ActAt.start w a n c x).up hb1
  obtain ⟨c0, c1, c2, c3, c4, c5, f5⟩ := hA.cells
  obtain ⟨s1, q1⟩ := hA.refused
  clear HD hb1 hA
  by_cases hnm : NameOk x.name
  · have HN := hideIt (fun W => l03Name_yes x.name hnm.1 hnm.2 W)
    by_cases k3 : x.kind = 3
    · have d1 : (x.kind != 3) = false := by simp [k3]
      have d3 : (x.kind != 1) = true := by simp [k3]
      have d4 := str_nonempty (s := x.text) (by
        rcases HX.out with h | h | h
        · exact absurd hnm h
        · exact absurd k3 h.1
        · exact h.2)
      clear HX hnm k3
      go_wp2_with (go_at_call 50; refine (HN.out _).mono ?_; rintro e w2 ⟨rfl, rfl⟩)
      exact bodyPost_ret (v := .tuple #[.agg #[.slice none 0 0], .bool false]) (by simp [results, Try.results36, go_sem, s1]) rfl ⟨rfl, q1⟩
    · have d1 : (x.kind != 3) = true := by simp [k3]
      by_cases ht : x.to.size = 0
      · have d2 := str_empty ht
        have hh : x.kind ≠ 1 ∧ x.text.size ≠ 0 := by
          rcases HX.out with h | h | h
          · exact absurd hnm h
          · exact absurd ht h.2
          · exact h
        have d3 : (x.kind != 1) = true := by simp [hh.1]
        have d4 := str_nonempty hh.2
        clear HX hnm k3 hh ht
        go_wp2_with (go_at_call 50; refine (HN.out _).mono ?_; rintro e w2 ⟨rfl, rfl⟩)
        exact bodyPost_ret (v := .tuple #[.agg #[.slice none 0 0], .bool false]) (by simp [results, Try.results36, go_sem, s1]) rfl ⟨rfl, q1⟩
      · have d2 := str_nonempty ht
        clear HX hnm k3 ht
        go_wp2_with (go_at_call 50; refine (HN.out _).mono ?_; rintro e w2 ⟨rfl, rfl⟩)
        exact bodyPost_ret (v := .tuple #[.agg #[.slice none 0 0], .bool false]) (by simp [results, Try.results36, go_sem, s1]) rfl ⟨rfl, q1⟩
  · have HN := hideIt (fun W => l03Name_no x.name hxn (by unfold NameOk at hnm; omega) W)
    clear HX hnm
    go_wp2_with (go_at_call 50; refine (HN.out _).mono ?_; rintro e w2 ⟨rfl, rfl⟩)
    exact bodyPost_ret (v := .tuple #[.agg #[.slice none 0 0], .bool false]) (by simp [results, Try.results36, go_sem, s1]) rfl ⟨rfl, q1⟩
end Go.Proofs.Ytegknhnmfaafmaa
