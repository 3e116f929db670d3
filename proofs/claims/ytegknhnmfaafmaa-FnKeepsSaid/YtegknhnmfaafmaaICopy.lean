/- What the program's copyOf answers. -/
import Derived.Test.YtegknhnmfaafmaaIClone
import Derived.Deep.RegionHeld3
import Derived.BigQuiet
namespace Go.Proofs.Ytegknhnmfaafmaa
open Go.RowKit

def fval (f : FileV) : Value := .agg #[.string f.name, .string f.text, .int .i64 f.kept]
/-- the world behind the two boxes of copyOf -/
def cpW (w : World) (f : FileV) : World := (w.alloc (.cells #[.string f.name, .string f.text, .int .i64 f.kept] 36)).alloc (.cells #[.string .empty, .string .empty, .int .i64 0] 36)
/-- nothing but the box for the answer has turned -/
def CpAt (w : World) (f : FileV) (u : World) : Prop := Below (w.heap.size + 1) (cpW w f) u ∧ ∃ v0 v1 v2, u.heap[w.heap.size + 1]? = some (.cells #[v0, v1, v2] 36 (0, 0))
/-- the cells that are read -/
def CpC (w : World) (f : FileV) (u : World) : Prop := u.cell? ⟨w.heap.size, 0, none⟩ = some (.string f.name) ∧ u.cell? ⟨w.heap.size, 1, none⟩ = some (.string f.text) ∧ u.cell? ⟨w.heap.size, 2, none⟩ = some (.int .i64 f.kept)
theorem CpAt.cells {w : World} {f : FileV} {u : World} (h : CpAt w f u) : CpC w f u := by
  refine ⟨?_, ?_, ?_⟩
  all_goals
    rw [Below.cell h.1 (by show w.heap.size < _; omega)]
    simp [cpW]
theorem CpAt.start (w : World) (f : FileV) : CpAt w f (cpW w f) := by
  refine ⟨Below.refl _ _, .string .empty, .string .empty, .int .i64 0, ?_⟩
  have := heap_alloc_new (w.alloc (.cells #[.string f.name, .string f.text, .int .i64 f.kept] 36)) (.cells #[.string .empty, .string .empty, .int .i64 0] 36)
  rw [show (w.alloc (.cells #[.string f.name, .string f.text, .int .i64 f.kept] 36)).heap.size = w.heap.size + 1 by simp] at this
  exact this
theorem CpAt.size {w : World} {f : FileV} {u : World} (h : CpAt w f u) : w.heap.size + 2 ≤ u.heap.size := by have := Below.size h.1; simp [cpW] at this; omega
theorem CpAt.up {w : World} {f : FileV} {u v : World} (h : CpAt w f u) (hb : Below u.heap.size u v) : CpAt w f v := by
  have := h.size
  refine ⟨Below.trans h.1 (hb.mono (by omega)), ?_⟩
  obtain ⟨v0, v1, v2, ho⟩ := h.2
  exact ⟨v0, v1, v2, by rw [hb.block _ (by omega)]; exact ho⟩
theorem CpAt.below {w : World} {f : FileV} {u : World} (h : CpAt w f u) : Below w.heap.size w u :=
  ((((Below.refl w.heap.size w).alloc (Nat.le_refl _) _).alloc (by simp) _)).trans (Below.mono h.1 (by omega))
/-- the cells that are written -/
def CpO (w : World) (u : World) : Prop := ∃ v0 v1 v2, (u.cell? ⟨w.heap.size + 1, 0, none⟩ = some v0 ∧ u.cell? ⟨w.heap.size + 1, 1, none⟩ = some v1 ∧ u.cell? ⟨w.heap.size + 1, 2, none⟩ = some v2) ∧ ∀ j, u.frozen? ⟨w.heap.size + 1, j, none⟩ = false
theorem CpAt.outs {w : World} {f : FileV} {u : World} (h : CpAt w f u) : CpO w u := by
  obtain ⟨v0, v1, v2, ho⟩ := h.2
  exact ⟨v0, v1, v2, ⟨by rw [cell_of_row u _ 0 _ _ _ ho]; rfl, by rw [cell_of_row u _ 1 _ _ _ ho]; rfl, by rw [cell_of_row u _ 2 _ _ _ ho]; rfl⟩, fun j => frozen_of_row u _ j _ _ ho⟩
/-- behind the store -/
theorem CpAt.stored {w : World} {f : FileV} {u : World} (h : CpAt w f u) (x y z : Value) :
    CpC w f (((u.setCell ⟨w.heap.size + 1, 0, none⟩ x).setCell ⟨w.heap.size + 1, 1, none⟩ y).setCell ⟨w.heap.size + 1, 2, none⟩ z) ∧ CpAt w f (((u.setCell ⟨w.heap.size + 1, 0, none⟩ x).setCell ⟨w.heap.size + 1, 1, none⟩ y).setCell ⟨w.heap.size + 1, 2, none⟩ z) := by
  obtain ⟨v0, v1, v2, ho⟩ := h.2
  have h1 : CpAt w f (((u.setCell ⟨w.heap.size + 1, 0, none⟩ x).setCell ⟨w.heap.size + 1, 1, none⟩ y).setCell ⟨w.heap.size + 1, 2, none⟩ z) := by
    refine ⟨((h.1.setCell (by show w.heap.size + 1 ≤ w.heap.size + 1; omega) _).setCell (by show w.heap.size + 1 ≤ w.heap.size + 1; omega) _).setCell (by show w.heap.size + 1 ≤ w.heap.size + 1; omega) _, x, y, z, ?_⟩
    rw [heap_setCell_same _ _ 2 _ 36 _ (heap_setCell_same _ _ 1 _ 36 _ (heap_setCell_same u _ 0 _ 36 x ho))]
    rfl
  exact ⟨h1.cells, h1⟩

theorem CpAt.read {w : World} {f : FileV} {u : World} (h : CpAt w f u) (x y z : Value) :
    (((u.setCell ⟨w.heap.size + 1, 0, none⟩ x).setCell ⟨w.heap.size + 1, 1, none⟩ y).setCell ⟨w.heap.size + 1, 2, none⟩ z).cell? ⟨w.heap.size + 1, 0, none⟩ = some x ∧
    (((u.setCell ⟨w.heap.size + 1, 0, none⟩ x).setCell ⟨w.heap.size + 1, 1, none⟩ y).setCell ⟨w.heap.size + 1, 2, none⟩ z).cell? ⟨w.heap.size + 1, 1, none⟩ = some y ∧
    (((u.setCell ⟨w.heap.size + 1, 0, none⟩ x).setCell ⟨w.heap.size + 1, 1, none⟩ y).setCell ⟨w.heap.size + 1, 2, none⟩ z).cell? ⟨w.heap.size + 1, 2, none⟩ = some z := by
  obtain ⟨v0, v1, v2, ho⟩ := h.2
  have e := heap_setCell_same _ _ 2 _ 36 z (heap_setCell_same _ _ 1 _ 36 y (heap_setCell_same u _ 0 _ 36 x ho))
  refine ⟨?_, ?_, ?_⟩
  all_goals
    rw [cell_of_row _ _ _ _ _ _ e]
    rfl

theorem clone_Cp (s : ByteArray) (hs : s.size ≤ 1048576) {w : World} {f : FileV} {u : World} (h : CpAt w f u) :
    Calls Try.prog 38 #[.string s] u fun e w' => e = .returned (.string s) ∧ (w'.cell? ⟨w.heap.size, 0, none⟩ = some (.string f.name) ∧ w'.cell? ⟨w.heap.size, 1, none⟩ = some (.string f.text) ∧ w'.cell? ⟨w.heap.size, 2, none⟩ = some (.int .i64 f.kept)) ∧ CpAt w f w' ∧ CpO w w' :=
  (clone_any s hs u).mono fun _ _ ⟨he, hb⟩ => ⟨he, (h.up hb).cells, h.up hb, (h.up hb).outs⟩

set_option maxRecDepth 100000 in
set_option maxHeartbeats 4000000 in
theorem copyOf_any (f : FileV) (hf : f.name.size ≤ 1048576) (ht : f.text.size ≤ 1048576) (w : World) :
    Calls Try.prog 27 #[.agg #[.string f.name, .string f.text, .int .i64 f.kept]] w fun e w' => e = .returned (.agg #[.string f.name, .string f.text, .int .i64 f.kept]) ∧ Below w.heap.size w w' := by
  have hS0 : CpAt w f ((w.alloc (.cells #[.string f.name, .string f.text, .int .i64 f.kept] 36)).alloc (.cells #[.string .empty, .string .empty, .int .i64 0] 36)).drew := ⟨Below.drew (CpAt.start w f).1, (CpAt.start w f).2⟩
  have hC0 := hS0.cells
  unfold CpC at hC0
  go_enter Try.func27, Try.ntmps27
  go_wp2
  go_region_held3 (fun u => (u.cell? ⟨w.heap.size, 0, none⟩ = some (.string f.name) ∧ u.cell? ⟨w.heap.size, 1, none⟩ = some (.string f.text) ∧ u.cell? ⟨w.heap.size, 2, none⟩ = some (.int .i64 f.kept)) ∧ CpAt w f u) (first | assumption | exact ⟨hC0, hS0⟩ | exact CpAt.stored (And.right (by assumption)) _ _ _) (first
    | (go_at_call 38; refine (clone_Cp _ (by assumption) (And.right (by assumption))).mono ?_; rintro e w1 ⟨rfl, hS3c, hS3, _, _, _, ⟨o0, o1, o2⟩, oz⟩; have hS4 := And.intro hS3c hS3; have z0 := oz 0; have z1 := oz 1; have z2 := oz 2; clear oz))
  all_goals
    obtain ⟨s0, s1, s2⟩ := hS3.read (.string f.name) (.string f.text) (.int .i64 f.kept)
    have q := hideIt (hS3.stored (.string f.name) (.string f.text) (.int .i64 f.kept)).2.below
    clear o0 o1 o2 z0 z1 z2 hS3c hS3 hS4
    go_wp2
    exact bodyPost_ret (v := .agg #[.string f.name, .string f.text, .int .i64 f.kept]) (by simp [results, Try.results27, go_sem, s0, s1, s2]) rfl ⟨rfl, q.out⟩
end Go.Proofs.Ytegknhnmfaafmaa
