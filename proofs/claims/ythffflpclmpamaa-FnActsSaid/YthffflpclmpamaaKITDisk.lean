/- What the program's copyOf answers. What the program's nameOk and DiskOk answer at every list of files. What the program's tableOf makes. What the program's add, move and do make of the table. What the program's do makes of the table. What the program's table makes again of itself: a disk. -/
import Derived.Test.YthffflpclmpamaaKMarks3
import Derived.Deep.RegionHeld3
import Derived.BigQuiet
import Derived.Test.YthffflpclmpamaaKSFiles
import Derived.Test.YthffflpclmpamaaKSAct2
import Derived.Test.YthffflpclmpamaaKINames
import Derived.Lib.Strings
import Derived.Deep.AppendLies
namespace Go.Proofs.Ythffflpclmpamaa
open Go.RowKit

def fval (f : FileV) : Value := .agg #[.string f.name, .string f.text, .int .i64 f.kept]
/-- the world behind the two boxes of copyOf -/
def cpW (w : World) (f : FileV) : World := (w.alloc (.cells #[.string f.name, .string f.text, .int .i64 f.kept] 49)).alloc (.cells #[.string .empty, .string .empty, .int .i64 0] 49)
/-- nothing but the box for the answer has turned -/
def CpAt (w : World) (f : FileV) (u : World) : Prop := Below (w.heap.size + 1) (cpW w f) u ∧ ∃ v0 v1 v2, u.heap[w.heap.size + 1]? = some (.cells #[v0, v1, v2] 49 (0, 0))
/-- the cells that are read -/
def CpC (w : World) (f : FileV) (u : World) : Prop := u.cell? ⟨w.heap.size, 0, none⟩ = some (.string f.name) ∧ u.cell? ⟨w.heap.size, 1, none⟩ = some (.string f.text) ∧ u.cell? ⟨w.heap.size, 2, none⟩ = some (.int .i64 f.kept)
theorem CpAt.cells {w : World} {f : FileV} {u : World} (h : CpAt w f u) : CpC w f u := by
  refine ⟨?_, ?_, ?_⟩
  all_goals
    rw [Below.cell h.1 (by show w.heap.size < _; omega)]
    simp [cpW]
theorem CpAt.start (w : World) (f : FileV) : CpAt w f (cpW w f) := by
  refine ⟨Below.refl _ _, .string .empty, .string .empty, .int .i64 0, ?_⟩
  have := heap_alloc_new (w.alloc (.cells #[.string f.name, .string f.text, .int .i64 f.kept] 49)) (.cells #[.string .empty, .string .empty, .int .i64 0] 49)
  rw [show (w.alloc (.cells #[.string f.name, .string f.text, .int .i64 f.kept] 49)).heap.size = w.heap.size + 1 by simp] at this
  exact this
theorem CpAt.size {w : World} {f : FileV} {u : World} (h : CpAt w f u) : w.heap.size + 2 ≤ u.heap.size := by have := Below.size h.1; simp [cpW] at this; omega
theorem CpAt.up {w : World} {f : FileV} {u v : World} (h : CpAt w f u) (hb : Below u.heap.size u v) : CpAt w f v := by
  have := h.size
  refine ⟨Below.trans h.1 (hb.mono (by omega)), ?_⟩
  obtain ⟨v0, v1, v2, ho⟩ := h.2
  exact ⟨v0, v1, v2, by rw [hb.block _ (by omega)]; exact ho⟩
theorem CpAt.below {w : World} {f : FileV} {u : World} (h : CpAt w f u) : Below w.heap.size w u :=
  ((((Below.refl w.heap.size w).alloc (Nat.le_refl _) _).alloc (by simp) _)).trans (Below.mono h.1 (by omega))
/-- the cells that are written -/
def CpO (w : World) (u : World) : Prop := ∃ v0 v1 v2, (u.cell? ⟨w.heap.size + 1, 0, none⟩ = some v0 ∧ u.cell? ⟨w.heap.size + 1, 1, none⟩ = some v1 ∧ u.cell? ⟨w.heap.size + 1, 2, none⟩ = some v2) ∧ ∀ j, u.frozen? ⟨w.heap.size + 1, j, none⟩ = false
theorem CpAt.outs {w : World} {f : FileV} {u : World} (h : CpAt w f u) : CpO w u := by
  obtain ⟨v0, v1, v2, ho⟩ := h.2
  exact ⟨v0, v1, v2, ⟨by rw [cell_of_row u _ 0 _ _ _ ho]; rfl, by rw [cell_of_row u _ 1 _ _ _ ho]; rfl, by rw [cell_of_row u _ 2 _ _ _ ho]; rfl⟩, fun j => frozen_of_row u _ j _ _ ho⟩
/-- behind the store -/
theorem CpAt.stored {w : World} {f : FileV} {u : World} (h : CpAt w f u) (x y z : Value) :
    CpC w f (((u.setCell ⟨w.heap.size + 1, 0, none⟩ x).setCell ⟨w.heap.size + 1, 1, none⟩ y).setCell ⟨w.heap.size + 1, 2, none⟩ z) ∧ CpAt w f (((u.setCell ⟨w.heap.size + 1, 0, none⟩ x).setCell ⟨w.heap.size + 1, 1, none⟩ y).setCell ⟨w.heap.size + 1, 2, none⟩ z) := by
  obtain ⟨v0, v1, v2, ho⟩ := h.2
  have h1 : CpAt w f (((u.setCell ⟨w.heap.size + 1, 0, none⟩ x).setCell ⟨w.heap.size + 1, 1, none⟩ y).setCell ⟨w.heap.size + 1, 2, none⟩ z) := by
    refine ⟨((h.1.setCell (by show w.heap.size + 1 ≤ w.heap.size + 1; omega) _).setCell (by show w.heap.size + 1 ≤ w.heap.size + 1; omega) _).setCell (by show w.heap.size + 1 ≤ w.heap.size + 1; omega) _, x, y, z, ?_⟩
    rw [heap_setCell_same _ _ 2 _ 49 _ (heap_setCell_same _ _ 1 _ 49 _ (heap_setCell_same u _ 0 _ 49 x ho))]
    rfl
  exact ⟨h1.cells, h1⟩

theorem CpAt.read {w : World} {f : FileV} {u : World} (h : CpAt w f u) (x y z : Value) :
    (((u.setCell ⟨w.heap.size + 1, 0, none⟩ x).setCell ⟨w.heap.size + 1, 1, none⟩ y).setCell ⟨w.heap.size + 1, 2, none⟩ z).cell? ⟨w.heap.size + 1, 0, none⟩ = some x ∧
    (((u.setCell ⟨w.heap.size + 1, 0, none⟩ x).setCell ⟨w.heap.size + 1, 1, none⟩ y).setCell ⟨w.heap.size + 1, 2, none⟩ z).cell? ⟨w.heap.size + 1, 1, none⟩ = some y ∧
    (((u.setCell ⟨w.heap.size + 1, 0, none⟩ x).setCell ⟨w.heap.size + 1, 1, none⟩ y).setCell ⟨w.heap.size + 1, 2, none⟩ z).cell? ⟨w.heap.size + 1, 2, none⟩ = some z := by
  obtain ⟨v0, v1, v2, ho⟩ := h.2
  have e := heap_setCell_same _ _ 2 _ 49 z (heap_setCell_same _ _ 1 _ 49 y (heap_setCell_same u _ 0 _ 49 x ho))
  refine ⟨?_, ?_, ?_⟩
  all_goals
    rw [cell_of_row _ _ _ _ _ _ e]
    rfl

theorem clone_Cp (s : ByteArray) (hs : s.size ≤ 1048576) {w : World} {f : FileV} {u : World} (h : CpAt w f u) :
    Calls Try.prog 25 #[.string s] u fun e w' => e = .returned (.string s) ∧ (w'.cell? ⟨w.heap.size, 0, none⟩ = some (.string f.name) ∧ w'.cell? ⟨w.heap.size, 1, none⟩ = some (.string f.text) ∧ w'.cell? ⟨w.heap.size, 2, none⟩ = some (.int .i64 f.kept)) ∧ CpAt w f w' ∧ CpO w w' :=
  (clone_any s hs u).mono fun _ _ ⟨he, hb⟩ => ⟨he, (h.up hb).cells, h.up hb, (h.up hb).outs⟩

set_option maxRecDepth 100000 in
set_option maxHeartbeats 4000000 in
theorem copyOf_any (f : FileV) (hf : f.name.size ≤ 1048576) (ht : f.text.size ≤ 1048576) (w : World) :
    Calls Try.prog 19 #[.agg #[.string f.name, .string f.text, .int .i64 f.kept]] w fun e w' => e = .returned (.agg #[.string f.name, .string f.text, .int .i64 f.kept]) ∧ Below w.heap.size w w' := by
  have hS0 : CpAt w f ((w.alloc (.cells #[.string f.name, .string f.text, .int .i64 f.kept] 49)).alloc (.cells #[.string .empty, .string .empty, .int .i64 0] 49)).drew := ⟨Below.drew (CpAt.start w f).1, (CpAt.start w f).2⟩
  have hC0 := hS0.cells
  unfold CpC at hC0
  go_enter Try.func19, Try.ntmps19
  go_wp2
  go_region_held3 (fun u => (u.cell? ⟨w.heap.size, 0, none⟩ = some (.string f.name) ∧ u.cell? ⟨w.heap.size, 1, none⟩ = some (.string f.text) ∧ u.cell? ⟨w.heap.size, 2, none⟩ = some (.int .i64 f.kept)) ∧ CpAt w f u) (first | assumption | exact ⟨hC0, hS0⟩ | exact CpAt.stored (And.right (by assumption)) _ _ _) (first
    | (go_at_call 25; refine (clone_Cp _ (by assumption) (And.right (by assumption))).mono ?_; rintro e w1 ⟨rfl, hS3c, hS3, _, _, _, ⟨o0, o1, o2⟩, oz⟩; have hS4 := And.intro hS3c hS3; have z0 := oz 0; have z1 := oz 1; have z2 := oz 2; clear oz))
  all_goals
    obtain ⟨s0, s1, s2⟩ := hS3.read (.string f.name) (.string f.text) (.int .i64 f.kept)
    have q := hideIt (hS3.stored (.string f.name) (.string f.text) (.int .i64 f.kept)).2.below
    clear o0 o1 o2 z0 z1 z2 hS3c hS3 hS4
    go_wp2
    exact bodyPost_ret (v := .agg #[.string f.name, .string f.text, .int .i64 f.kept]) (by simp [results, Try.results19, go_sem, s0, s1, s2]) rfl ⟨rfl, q.out⟩
end Go.Proofs.Ythffflpclmpamaa
namespace Go.Proofs.Ythffflpclmpamaa
open Go.RowKit

theorem nameOk_yes (s : ByteArray) (h0 : 1 ≤ s.size) (h1 : s.size ≤ 8) (w : World) :
    Calls Try.prog 39 #[.string s] w fun e w' => e = .returned (.bool true) ∧ w' = w := by
  have d1 : decide ((1 : Int) ≤ (s.size : Int)) = true := by simp; omega
  have d2 : decide ((s.size : Int) ≤ 8) = true := by simp; omega
  go_enter Try.func39, Try.ntmps39
  go_wp2
  go_ret
  exact ⟨by simp, rfl⟩

theorem nameOk_no (s : ByteArray) (hm : s.size ≤ maxLen) (h : s.size < 1 ∨ 8 < s.size) (w : World) :
    Calls Try.prog 39 #[.string s] w fun e w' => e = .returned (.bool false) ∧ w' = w := by
  unfold maxLen at hm
  by_cases h1 : 1 ≤ s.size
  · have d1 : decide ((1 : Int) ≤ (s.size : Int)) = true := by simp; omega
    have d2 : decide ((s.size : Int) ≤ 8) = false := by simp; omega
    go_enter Try.func39, Try.ntmps39
    go_wp2
    go_ret
    exact ⟨by simp, rfl⟩
  · have d1 : decide ((1 : Int) ≤ (s.size : Int)) = false := by simp; omega
    go_enter Try.func39, Try.ntmps39
    go_wp2
    go_ret
    exact ⟨by simp, rfl⟩

set_option maxRecDepth 100000 in
set_option maxHeartbeats 8000000 in
theorem iDiskOk_any (fs : List FileV) (hfit : FitsF fs) (n : Nat) (a : Option Addr) (c : Nat) (hn : n ≤ maxLen) (w : World) (h : Fs w w.heap.size a n fs) :
    Calls Try.prog 18 #[.agg #[.slice a n c]] w fun e w' => e = .returned (.bool (dB fs)) ∧ Below w.heap.size w w' := by
  unfold maxLen at hn
  obtain ⟨hlen, hrow⟩ := h
  by_cases h30 : n ≤ 30
  · have HR := hideIt hrow
    have HF := hideIt hfit
    clear hrow hfit
    have up : ∀ {W : World}, Below (w.heap.size + 1) (w.alloc (.cells #[.slice a n c] 26)) W → Below w.heap.size w W := fun hW =>
      ((Below.refl w.heap.size w).alloc (Nat.le_refl _) _).trans (hW.mono (by omega))
    have UP := hideIt (fun W => @up W)
    clear up
    generalize hB : dB fs = B
    have HB := hideIt hB
    clear hB
    have d0 : decide ((30 : Int) < (n : Int)) = false := by simp; omega
    go_enter Try.func18, Try.ntmps18
    go_wp2
    go_loopw [12] (fun i wr => ∃ k : Nat, k ≤ n ∧ i = .int .i64 (k : Int) ∧ Hid (∀ j, j < k → OkAt fs j) ∧ Below (w.heap.size + 1) (w.alloc (.cells #[.slice a n c] 26)) wr) (fun i _ => n - (intOf i).toNat)
    case atStart => exact ⟨0, by omega, rfl, fun j hj => by omega, Below.refl _ _⟩
    case round =>
      obtain ⟨k, hk, rfl, hok, hb⟩ := hrel
      have hsz := hb.size
      simp at hsz
      have hw0 : w.heap.size < wr.heap.size := by omega
      have hd : wr.cell? ⟨w.heap.size, 0, none⟩ = some (.slice a n c) := by rw [hb.cell (by simp)]; simp
      by_cases hlt : k < n
      · rcases HR.out with hz | ⟨b, off, rfl, hbl, hc⟩
        · omega
        · obtain ⟨f, hf⟩ : ∃ f, fs[k]? = some f := ⟨fs[k]'(by omega), List.getElem?_eq_getElem (by omega)⟩
          have hcc : ∀ j f, fs[j]? = some f → wr.cell? ⟨b, off + j * 3, none⟩ = some (.string f.name) ∧ wr.cell? ⟨b, off + j * 3 + 1, none⟩ = some (.string f.text) ∧ wr.cell? ⟨b, off + j * 3 + 2, none⟩ = some (.int .i64 f.kept) := fun j f hf => by
            obtain ⟨c0, c1, c2⟩ := hc j f hf
            have hw := fun o => Below.heap_alloc w o b hbl
            refine ⟨?_, ?_, ?_⟩
            · rw [hb.cell (p := ⟨b, _, none⟩) (by show b < _; omega), World.cell?_of_block (w := w) (hw _)]; exact c0
            · rw [hb.cell (p := ⟨b, _, none⟩) (by show b < _; omega), World.cell?_of_block (w := w) (hw _)]; exact c1
            · rw [hb.cell (p := ⟨b, _, none⟩) (by show b < _; omega), World.cell?_of_block (w := w) (hw _)]; exact c2
          obtain ⟨e0, e1, e2⟩ := hcc k f hf
          have hbw : b < wr.heap.size := by omega
          have b1 : (0 : Int) ≤ (k : Int) := by omega
          have b2 : (k : Int) < (n : Int) := by omega
          have hff := HF.out f (List.mem_of_getElem? hf)
          unfold maxLen at hff
          have K9 : Hid (∀ nq, Below (w.heap.size + 1) (w.alloc (.cells #[.slice (some ⟨b, off, none⟩) n c] 26)) ((wr.alloc (.cells #[.string f.name, .string f.text, .int .i64 f.kept] 49)).drewN nq)) := fun nq => below_drewN (hb.alloc (by omega) _) nq
          by_cases hnm : 1 ≤ f.name.size ∧ f.name.size ≤ 8
          · have HN := hideIt (fun W => nameOk_yes f.name hnm.1 hnm.2 W)
            by_cases htx : f.text.size ≤ 20000
            · have d2 : decide ((20000 : Int) < (f.text.size : Int)) = false := by simp; omega
              by_cases hkp : 0 ≤ f.kept ∧ f.kept ≤ f.text.size
              · have d4 : decide (f.kept < 0) = false := by simp; omega
                have d5 : decide ((f.text.size : Int) < f.kept) = false := by simp; omega
                have hfok : FileOk f := ⟨hnm, htx, hkp⟩
                by_cases hk0 : 0 < k
                · obtain ⟨m, rfl⟩ : ∃ m, k = m + 1 := ⟨k - 1, by omega⟩
                  obtain ⟨g, hg⟩ : ∃ g, fs[m]? = some g := ⟨fs[m]'(by omega), List.getElem?_eq_getElem (by omega)⟩
                  obtain ⟨g0, _, _⟩ := hcc m g hg
                  have d3 : decide ((0 : Int) < (m : Int) + 1) = true := by simp
                  have hw1 : IntKind.i64.wrap (m : Int) = (m : Int) := by rw [IntKind.wrap_i64]; omega
                  have b3 : (0 : Int) ≤ (m : Int) := by omega
                  have b4 : (m : Int) < (n : Int) := by omega
                  by_cases hl : lessB g.name f.name = true
                  · have HO : Hid (∀ j, j < m + 1 + 1 → OkAt fs j) := fun j hj => by
                      by_cases e : j = m + 1
                      · subst e
                        intro f' hf'
                        rw [hf] at hf'
                        cases hf'
                        refine ⟨hfok, fun g' _ hg' => ?_⟩
                        rw [show m + 1 - 1 = m by omega, hg] at hg'
                        cases hg'
                        exact hl
                      · exact hok.out j (by omega)
                    unfold lessB at hl
                    clear hcc hc hg hf hfok hok
                    go_wp2_with (go_at_call 39; refine (HN.out _).mono ?_; rintro e w1 ⟨rfl, rfl⟩)
                    go_quiet (fail)
                    go_wp2
                    exact ⟨⟨m + 1 + 1, by omega, by go_num, HO, K9.out _⟩, by simp [intOf]; omega⟩
                  · have hl' : lessB g.name f.name = false := by simpa using hl
                    have HNO := hideIt (not_order hf hg hl')
                    unfold lessB at hl'
                    clear hcc hc hg hf hfok hok hl
                    go_wp2_with (go_at_call 39; refine (HN.out _).mono ?_; rintro e w1 ⟨rfl, rfl⟩)
                    go_quiet (fail)
                    go_wp2
                    go_ret
                    exact ⟨by rw [← HB.out, dB_false HNO.out]; rfl, UP.out _ (K9.out _)⟩
                · have d3 : decide ((0 : Int) < (k : Int)) = false := by simp; omega
                  have HO : Hid (∀ j, j < k + 1 → OkAt fs j) := fun j hj => by
                    obtain rfl : j = k := by omega
                    intro f' hf'
                    rw [hf] at hf'
                    cases hf'
                    exact ⟨hfok, fun g' h0 _ => absurd h0 hk0⟩
                  clear hcc hc hf hfok hok
                  go_wp2_with (go_at_call 39; refine (HN.out _).mono ?_; rintro e w1 ⟨rfl, rfl⟩)
                  go_quiet (fail)
                  go_wp2
                  exact ⟨⟨k + 1, by omega, by go_num, HO, K9.out _⟩, by simp [intOf]; omega⟩
              · have HNO := hideIt (not_disk hf (fun h => hkp h.2.2))
                by_cases hk1 : 0 ≤ f.kept
                · have d4 : decide (f.kept < 0) = false := by simp; omega
                  have d5 : decide ((f.text.size : Int) < f.kept) = true := by simp; omega
                  clear hcc hc hf hok hkp
                  go_wp2_with (go_at_call 39; refine (HN.out _).mono ?_; rintro e w1 ⟨rfl, rfl⟩)
                  go_ret
                  exact ⟨by rw [← HB.out, dB_false HNO.out]; rfl, UP.out _ (K9.out 0)⟩
                · have d4 : decide (f.kept < 0) = true := by simp; omega
                  clear hcc hc hf hok hkp
                  go_wp2_with (go_at_call 39; refine (HN.out _).mono ?_; rintro e w1 ⟨rfl, rfl⟩)
                  go_ret
                  exact ⟨by rw [← HB.out, dB_false HNO.out]; rfl, UP.out _ (K9.out 0)⟩
            · have d2 : decide ((20000 : Int) < (f.text.size : Int)) = true := by simp; omega
              have HNO := hideIt (not_disk hf (fun h => htx h.2.1))
              clear hcc hc hf hok
              go_wp2_with (go_at_call 39; refine (HN.out _).mono ?_; rintro e w1 ⟨rfl, rfl⟩)
              go_ret
              exact ⟨by rw [← HB.out, dB_false HNO.out]; rfl, UP.out _ (K9.out 0)⟩
          · have HN := hideIt (fun W => nameOk_no f.name (by unfold maxLen; omega) (by omega) W)
            have HNO := hideIt (not_disk hf (fun h => hnm h.1))
            clear hcc hc hf hok hnm
            go_wp2_with (go_at_call 39; refine (HN.out _).mono ?_; rintro e w1 ⟨rfl, rfl⟩)
            go_ret
            exact ⟨by rw [← HB.out, dB_false HNO.out]; rfl, UP.out _ (K9.out 0)⟩
      · have HD := hideIt (show DiskR fs from ⟨by omega, fun j hj => hok.out j (by omega)⟩)
        have K9 := hideIt (UP.out _ hb)
        clear hok
        go_wp2
        go_ret
        exact ⟨by rw [← HB.out, dB_true HD.out]; rfl, K9.out⟩
  · have hno : ¬ DiskR fs := fun hd => h30 (by rw [← hlen]; exact hd.1)
    rw [dB_false hno]
    have d1 : decide ((30 : Int) < (n : Int)) = true := by simp; omega
    clear hno hrow
    go_enter Try.func18, Try.ntmps18
    go_wp2
    go_ret
    exact ⟨rfl, (Below.refl _ _).alloc (Nat.le_refl _) _⟩
end Go.Proofs.Ythffflpclmpamaa
namespace Go.Proofs.Ythffflpclmpamaa
open Go.RowKit Go.WideMaps Go.Maps

theorem run_mkmap (n : Int) (w : World) : (Instr.makeMap 52 (some (.int .i64 n))).run Try.prog w = .ok (.map (some w.heap.size)) (w.alloc (.map #[] 0)) := by
  simp [Instr.makeMap, run_underlying Try.underlying52, asInt, asIntOf, Result.andThen]

set_option maxRecDepth 100000 in
set_option maxHeartbeats 4000000 in
theorem tableOf_any (fs : List FileV) (n : Nat) (a : Option Addr) (c : Nat) (w : World) (hd : DiskR fs) (h : Fs w w.heap.size a n fs) :
    Calls Try.prog 20 #[.agg #[.slice a n c]] w fun e w' => ∃ M loc D, e = .returned (.map (some M)) ∧ Tab w' w.heap.size M loc fs D ∧ Below w.heap.size w w' := by
  obtain ⟨hlen, hrow⟩ := h
  have hn : n ≤ 30 := by rw [← hlen]; exact hd.1
  have HR := hideIt hrow
  have HD := hideIt hd
  clear hrow hd
  have hmm := run_mkmap (n : Int)
  go_enter Try.func20, Try.ntmps20
  go_wp2
  go_loopw [13] (fun i wr => ∃ k : Nat, k ≤ n ∧ i = .int .i64 (k : Int) ∧ Hid (∃ loc D, Tab wr w.heap.size (w.heap.size + 1) loc (fs.take k) D) ∧ Below w.heap.size w wr) (fun i _ => n - (intOf i).toNat)
  case atStart =>
    refine ⟨0, by omega, rfl, ?_, ((Below.refl w.heap.size w).alloc (Nat.le_refl _) _).alloc (by simp) _⟩
    have := Tab.made (w.alloc (.cells #[.slice a n c] 26)) w.heap.size (fun _ => 0) (by simp)
    rw [show (w.alloc (.cells #[.slice a n c] 26)).heap.size = w.heap.size + 1 by simp] at this
    exact ⟨_, _, this⟩
  case round =>
    obtain ⟨k, hk, rfl, hT, hb⟩ := hrel
    have hsz := hb.size
    by_cases hlt : k < n
    · rcases HR.out with hz | ⟨b, off, rfl, hbl, hc⟩
      · omega
      · obtain ⟨f, hf⟩ : ∃ f, fs[k]? = some f := ⟨fs[k]'(by omega), List.getElem?_eq_getElem (by omega)⟩
        obtain ⟨c0, c1, c2⟩ := hc k f hf
        have e0 : wr.cell? ⟨b, off + k * 3, none⟩ = some (.string f.name) := by rw [hb.cell (p := ⟨b, _, none⟩) (by show b < _; omega)]; exact c0
        have e1 : wr.cell? ⟨b, off + k * 3 + 1, none⟩ = some (.string f.text) := by rw [hb.cell (p := ⟨b, _, none⟩) (by show b < _; omega)]; exact c1
        have e2 : wr.cell? ⟨b, off + k * 3 + 2, none⟩ = some (.int .i64 f.kept) := by rw [hb.cell (p := ⟨b, _, none⟩) (by show b < _; omega)]; exact c2
        have hbw : b < wr.heap.size := by omega
        have b1 : (0 : Int) ≤ (k : Int) := by omega
        have b2 : (k : Int) < (n : Int) := by omega
        obtain ⟨loc, D, T⟩ := hT.out
        have hML := T.map_lt
        have hsrt := ((disk_iff fs).1 HD.out).2.2
        have hfm : f ∈ fs := List.mem_of_getElem? hf
        have hok := ((disk_iff fs).1 HD.out).2.1 f hfm
        have hnm : f.name.size ≤ maxLen := by unfold maxLen; have := hok.1; omega
        have htk := take_snocF fs k f hf
        have hnew : ∀ g ∈ fs.take k, g.name ≠ f.name := by
          intro g hg e
          have hp : Sorted (fs.take (k + 1)) := List.Pairwise.sublist (List.take_sublist _ _) hsrt
          rw [htk] at hp
          exact (List.pairwise_append.1 hp.ne).2.2 g hg f (List.mem_singleton.2 rfl) e
        have T2 := hideIt ((T.alloc (.cells #[.string f.name, .string f.text, .int .i64 f.kept] 49)).alloc (.cells #[.string f.name, .string f.text, .int .i64 f.kept] 49))
        have X2 := hideIt (show FBox ((wr.alloc (.cells #[.string f.name, .string f.text, .int .i64 f.kept] 49)).alloc (.cells #[.string f.name, .string f.text, .int .i64 f.kept] 49)) (wr.heap.size + 1) f by
          have := FBox.new (wr.alloc (.cells #[.string f.name, .string f.text, .int .i64 f.kept] 49)) f
          rw [show (wr.alloc (.cells #[.string f.name, .string f.text, .int .i64 f.kept] 49)).heap.size = wr.heap.size + 1 by simp] at this
          exact this)
        have HF : Hid (∀ g ∈ fs.take k, g.name ≠ f.name → loc g.name ≠ wr.heap.size + 1) := fun g hg _ => by have := (T.box g hg).lt; omega
        have HM : Hid (∀ g, g ∈ fs.take (k + 1) ↔ g = f ∨ (g ∈ fs.take k ∧ g.name ≠ f.name)) := fun g => by
          rw [htk, List.mem_append, List.mem_singleton]
          constructor
          · rintro (h1 | h1)
            · exact .inr ⟨h1, hnew g h1⟩
            · exact .inl h1
          · rintro (h1 | h1)
            · exact .inr h1
            · exact .inl h1.1
        have HL : Hid ((fs.take (k + 1)).length + (if isIn (fs.take k) f.name then 1 else 0) = (fs.take k).length + 1) := by
          show (fs.take (k + 1)).length + (if isIn (fs.take k) f.name then 1 else 0) = (fs.take k).length + 1
          rw [isIn_no hnew, htk]
          simp
        have HTL : Hid ((fs.take k).length ≤ 1048576) := by show (fs.take k).length ≤ 1048576; rw [List.length_take]; omega
        have K := hideIt ((hb.alloc (by omega) (.cells #[.string f.name, .string f.text, .int .i64 f.kept] 49)).alloc (by simp; omega) (.cells #[.string f.name, .string f.text, .int .i64 f.kept] 49))
        clear hc c0 c1 c2 hf hT T hsrt hfm hok htk hnew
        go_wp2_with ((at_mapUpdate; refine put_at _ rfl _ _ _ rfl T2.out HTL.out (f := f) rfl hnm X2.out (by omega) (by omega) HF.out HM.out HL.out rfl rfl rfl ?_; intro w1 hT1 hg1))
        exact ⟨⟨k + 1, by omega, by go_num, ⟨_, hT1⟩, K.out.grown hg1 (by simp; omega) (fun j hj => by cases hj; omega)⟩, by simp [intOf]; omega⟩
    · have HT : Hid (∃ loc D, Tab wr w.heap.size (w.heap.size + 1) loc fs D) := by
        have := hT.out
        rw [List.take_of_length_le (by omega)] at this
        exact this
      clear hT
      go_wp2
      go_ret
      obtain ⟨loc, D, T⟩ := HT.out
      exact ⟨_, loc, D, rfl, T, hb⟩
end Go.Proofs.Ythffflpclmpamaa
namespace Go.Proofs.Ythffflpclmpamaa
open Go.RowKit Go.WideMaps Go.Maps

/-- behind what is done to a table -/
def Done (W : World) (B M : Nat) (fs : List FileV) (o : Option (List FileV)) (e : Ending) (w' : World) : Prop :=
  e = .returned (.bool o.isSome) ∧ (∃ loc D, Tab w' B M loc (o.getD fs) D) ∧ Below B W w'

theorem Tab.base_le {W : World} {B M : Nat} {loc : ByteArray → Nat} {fs : List FileV} {D : DataW Unit} (h : Tab W B M loc fs D) : B ≤ W.heap.size := by have := h.base; have := h.map_lt; omega
theorem Tab.loc_ne {W : World} {B M : Nat} {loc : ByteArray → Nat} {fs : List FileV} {D : DataW Unit} (h : Tab W B M loc fs D) {f : FileV} (hf : f ∈ fs) : loc f.name ≠ M ∧ B ≤ loc f.name ∧ loc f.name < W.heap.size :=
  ⟨(h.apart f hf).1, (h.apart f hf).2, (h.box f hf).lt⟩

theorem Tab.len {W : World} {B M : Nat} {loc : ByteArray → Nat} {fs : List FileV} {D : DataW Unit} (h : Tab W B M loc fs D) (ty : TypeId) : (Builtin.len_ #[52] ty #[.map (some M)]).run Try.prog W = .ok (.int .i64 (fs.length : Int)) W := by
  have := h.own.len Try.underlying52 ty
  rw [h.size] at this
  exact this

theorem Tab.drewN {W : World} {B M : Nat} {loc : ByteArray → Nat} {fs : List FileV} {D : DataW Unit} (h : Tab W B M loc fs D) (q : Nat) : Tab (W.drewN q) B M loc fs D := h.up (below_drewN (Below.refl _ _) q)
theorem FBox.drewN {W : World} {b : Nat} {f : FileV} (h : FBox W b f) (q : Nat) : FBox (W.drewN q) b f := h.below (below_drewN (Below.refl _ _) q)

theorem setGrown (w : World) (b j : Nat) (u : Value) : w.grownBy (w.setCell ⟨b, j, none⟩ u) (some b) := grownSet w b j u

/-- a file that is there is put there again -/
theorem Tab.again {w : World} {B M : Nat} {loc : ByteArray → Nat} {gs : List FileV} {D : DataW Unit} (T : Tab w B M loc gs D) (hs : Sorted gs) {f : FileV} (hf : f ∈ gs) {nm : ByteArray} (hn : f.name = nm) :
    (∀ g ∈ gs, g.name ≠ f.name → loc g.name ≠ loc nm) ∧ (∀ g, g ∈ gs ↔ g = f ∨ (g ∈ gs ∧ g.name ≠ f.name)) ∧ gs.length + (if isIn gs f.name then 1 else 0) = gs.length + 1 := by
  subst hn
  refine ⟨fun g hg hne e => hne (T.inj g hg f hf e), fun g => ⟨fun hg => ?_, ?_⟩, by rw [isIn_iff.2 ⟨f, hf, rfl⟩]; simp⟩
  · by_cases e : g.name = f.name
    · exact .inl (hs.inj hg hf e)
    · exact .inr ⟨hg, e⟩
  · rintro (rfl | h)
    · exact hf
    · exact h.1

set_option maxRecDepth 100000 in
set_option maxHeartbeats 4000000 in
theorem tAdd_old (W : World) (B M : Nat) (loc : ByteArray → Nat) (fs : List FileV) (D : DataW Unit) (T : Tab W B M loc fs D) (hd : DiskR fs) (x : ActV) (hx : FitA x) (hs : Shape x) (hk : x.kind = 1) (f : FileV) (hf : fileOf fs x.name = some f) :
    Calls Try.prog 46 #[.map (some M), .string x.name, .string x.text] W (Done W B M fs (doAct fs x)) := by
  obtain ⟨hn, hok, hfm, hfn⟩ := name_of hd hf
  obtain ⟨l1, l2, l3⟩ := T.loc_ne hfm
  rw [hfn] at l1 l2 l3
  have hB := T.base_le
  have X : FBox W (loc x.name) f := hfn ▸ T.box f hfm
  obtain ⟨x0, x1, x2⟩ := X.cells
  have z1 := X.frozen 1
  have hnm : x.name.size ≤ maxLen := by unfold maxLen; have := hn.2; omega
  have htx := hok.2.1
  have hxt := hx.2.1
  have HT := hideIt T
  have HX := hideIt X
  have HD := hideIt hd
  have HM := hideIt hfm
  by_cases ht : f.text.size + x.text.size ≤ 20000
  · have ho := act_add hd hs hk hf ht
    have hw1 : IntKind.i64.wrap ((f.text.size : Int) + (x.text.size : Int)) = (f.text.size : Int) + (x.text.size : Int) := by rw [IntKind.wrap_i64]; omega
    have d1 : decide ((20000 : Int) < (f.text.size : Int) + (x.text.size : Int)) = false := by simp; omega
    have hcat := fun wx => run_string_add_sum (P := Try.prog) wx f.text x.text (by omega)
    have T1 : Tab (W.setCell ⟨loc x.name, 1, none⟩ (.string (f.text ++ x.text))) B M loc (put fs (fAdd f x.text)) D := by
      refine T.turn (f := f) (f' := fAdd f x.text) hfm rfl (by rw [hfn]; exact setGrown _ _ _ _) (by rw [hfn]; exact X.text _) (fun g => mem_put) ?_
      exact len_put_in hd _ (isIn_iff.2 ⟨f, hfm, rfl⟩)
    have X1 : FBox (W.setCell ⟨loc x.name, 1, none⟩ (.string (f.text ++ x.text))) (loc x.name) (fAdd f x.text) := X.text _
    have H1 := hideIt T1
    have H2 := hideIt X1
    have HL : Hid ((put fs (fAdd f x.text)).length ≤ 1048576) := by
      show (put fs (fAdd f x.text)).length ≤ 1048576
      rw [len_put_in hd (fAdd f x.text) (isIn_iff.2 ⟨f, hfm, rfl⟩)]; have := hd.1; omega
    obtain ⟨a1, a2, a3⟩ := T1.again (sorted_put ((disk_iff fs).1 hd).2.2 _) (f := fAdd f x.text) (mem_put.2 (.inl rfl)) hfn
    have A1 := hideIt a1
    have A2 := hideIt a2
    have A3 := hideIt a3
    clear a1 a2 a3
    unfold Done
    rw [ho]
    have K := hideIt ((Below.refl B W).setCell (p := ⟨loc x.name, 1, none⟩) l2 (.string (f.text ++ x.text)))
    clear T X hd hok hf ho T1 X1 htx hs hk hn
    go_enter Try.func46, Try.ntmps46
    go_wp2_with (first
      | (at_lookup; refine look_yes _ rfl _ _ rfl HT.out HM.out hfn hnm rfl rfl ?_)
      | (at_mapUpdate; refine put_at _ rfl _ _ _ rfl (gs := put fs (fAdd f x.text)) H1.out HL.out (f := fAdd f x.text) hfn hnm H2.out l1 l2 A1.out A2.out A3.out rfl rfl rfl ?_; intro w1 hT1 hg1))
    go_ret
    exact ⟨rfl, ⟨_, hT1⟩, K.out.grown hg1 (by simp; omega) (fun j hj => by cases hj; exact HT.out.base)⟩
  · have ho := act_add_no hk hf ht
    have hw1 : IntKind.i64.wrap ((f.text.size : Int) + (x.text.size : Int)) = (f.text.size : Int) + (x.text.size : Int) := by rw [IntKind.wrap_i64]; omega
    have d1 : decide ((20000 : Int) < (f.text.size : Int) + (x.text.size : Int)) = true := by simp; omega
    unfold Done
    rw [ho]
    clear T X hd hok hf ho htx hs hk hn
    go_enter Try.func46, Try.ntmps46
    go_wp2_with (first
      | (at_lookup; refine look_yes _ rfl _ _ rfl HT.out HM.out hfn hnm rfl rfl ?_))
    go_ret
    exact ⟨rfl, ⟨loc, D, HT.out⟩, Below.refl _ _⟩

set_option maxRecDepth 100000 in
set_option maxHeartbeats 4000000 in
theorem tAdd_new (W : World) (B M : Nat) (loc : ByteArray → Nat) (fs : List FileV) (D : DataW Unit) (T : Tab W B M loc fs D) (hd : DiskR fs) (x : ActV) (hx : FitA x) (hs : Shape x) (hk : x.kind = 1) (hf : fileOf fs x.name = none) :
    Calls Try.prog 46 #[.map (some M), .string x.name, .string x.text] W (Done W B M fs (doAct fs x)) := by
  have hB := T.base_le
  have hML := T.map_lt
  have hno := isIn_no (fileOf_not hf)
  obtain ⟨hx1, hxt, _⟩ := hx
  have hnm : x.name.size ≤ maxLen := by unfold maxLen; omega
  have HT := hideIt T
  have HI := hideIt hno
  by_cases hn : NameOk x.name
  · have HN := hideIt (fun W => nameOk_yes x.name hn.1 hn.2 W)
    by_cases h30 : fs.length = 30
    · have ho := act_new_no hd hk hf (.inl h30)
      have d0 : ((fs.length : Int) == 30) = true := by simp; omega
      have hlen := T.len
      unfold Done
      rw [ho]
      clear T hd hf ho hs hk hn hno
      go_enter Try.func46, Try.ntmps46
      go_wp2_with (first
        | (at_lookup; refine look_no _ rfl _ _ rfl HT.out HI.out hnm rfl rfl ?_)
        | (go_at_call 39; refine (HN.out _).mono ?_; rintro e w1 ⟨rfl, rfl⟩))
      go_ret
      exact ⟨rfl, ⟨loc, D, HT.out⟩, Below.refl _ _⟩
    · have d0 : ((fs.length : Int) == 30) = false := by simp; omega
      have hlen := T.len
      have hcat := fun wx => run_string_add_sum (P := Try.prog) wx ⟨#[]⟩ x.text (by show 0 + x.text.size ≤ _; omega)
      have hw1 : IntKind.i64.wrap ((x.text.size : Int)) = (x.text.size : Int) := by rw [IntKind.wrap_i64]; omega
      by_cases ht : x.text.size ≤ 20000
      · have ho := act_new hd hs hk hf hn h30 ht
        have d1 : decide ((20000 : Int) < (x.text.size : Int)) = false := by simp; omega
        have HT2 := hideIt (T.alloc (.cells #[.string x.name, .string (⟨#[]⟩ ++ x.text), .int .i64 0] 49))
        have HX2 := hideIt (FBox.new W (fNew x.name x.text))
        have A1 : Hid (∀ g ∈ fs, g.name ≠ (fNew x.name x.text).name → loc g.name ≠ W.heap.size) := fun g hg _ => by have := (T.box g hg).lt; omega
        have A3 : Hid ((put fs (fNew x.name x.text)).length + (if isIn fs (fNew x.name x.text).name then 1 else 0) = fs.length + 1) := len_put ((disk_iff fs).1 hd).2.2 _
        have HL : Hid (fs.length ≤ 1048576) := by show fs.length ≤ 1048576; have := hd.1; omega
        have K := hideIt ((Below.refl B W).alloc hB (.cells #[.string x.name, .string (⟨#[]⟩ ++ x.text), .int .i64 0] 49))
        have l1 : W.heap.size ≠ M := by omega
        unfold Done
        rw [ho]
        clear T hd hf ho hs hk hn hno
        go_enter Try.func46, Try.ntmps46
        go_wp2_with (first
          | (at_lookup; refine look_no _ rfl _ _ rfl HT.out HI.out hnm rfl rfl ?_)
          | (go_at_call 39; refine (HN.out _).mono ?_; rintro e w1 ⟨rfl, rfl⟩)
          | (at_mapUpdate; refine put_at _ rfl _ _ _ rfl (gs := put fs (fNew x.name x.text)) HT2.out HL.out (f := fNew x.name x.text) rfl hnm HX2.out l1 hB A1.out (fun _ => mem_put) A3.out rfl rfl rfl ?_; intro w1 hT1 hg1))
        go_ret
        exact ⟨rfl, ⟨_, hT1⟩, K.out.grown hg1 (by simp; omega) (fun j hj => by cases hj; exact HT.out.base)⟩
      · have ho := act_new_no hd hk hf (.inr ht)
        have d1 : decide ((20000 : Int) < (x.text.size : Int)) = true := by simp; omega
        have HT2 := hideIt (T.alloc (.cells #[.string x.name, .string .empty, .int .i64 0] 49))
        unfold Done
        rw [ho]
        clear T hd hf ho hs hk hn hno
        go_enter Try.func46, Try.ntmps46
        go_wp2_with (first
          | (at_lookup; refine look_no _ rfl _ _ rfl HT.out HI.out hnm rfl rfl ?_)
          | (go_at_call 39; refine (HN.out _).mono ?_; rintro e w1 ⟨rfl, rfl⟩))
        go_ret
        exact ⟨rfl, ⟨loc, D, HT2.out⟩, (Below.refl B _).alloc hB _⟩
  · have HN := hideIt (fun W => nameOk_no x.name hnm (by unfold NameOk at hn; omega) W)
    have ho := act_new_name (fs := fs) hn
    unfold Done
    rw [ho]
    clear T hd hf ho hs hk hn hno
    go_enter Try.func46, Try.ntmps46
    go_wp2_with (first
      | (at_lookup; refine look_no _ rfl _ _ rfl HT.out HI.out hnm rfl rfl ?_)
      | (go_at_call 39; refine (HN.out _).mono ?_; rintro e w1 ⟨rfl, rfl⟩))
    go_ret
    exact ⟨rfl, ⟨loc, D, HT.out⟩, Below.refl _ _⟩

theorem tAdd_any (W : World) (B M : Nat) (loc : ByteArray → Nat) (fs : List FileV) (D : DataW Unit) (T : Tab W B M loc fs D) (hd : DiskR fs) (x : ActV) (hx : FitA x) (hs : Shape x) (hk : x.kind = 1) :
    Calls Try.prog 46 #[.map (some M), .string x.name, .string x.text] W (Done W B M fs (doAct fs x)) := by
  cases hf : fileOf fs x.name with
  | none => exact tAdd_new W B M loc fs D T hd x hx hs hk hf
  | some f => exact tAdd_old W B M loc fs D T hd x hx hs hk f hf

theorem str_eqB {a b : ByteArray} (h : a = b) : (a.toList == b.toList) = true := by subst h; simp

set_option maxRecDepth 100000 in
set_option maxHeartbeats 4000000 in
theorem tMove_any (W : World) (B M : Nat) (loc : ByteArray → Nat) (fs : List FileV) (D : DataW Unit) (T : Tab W B M loc fs D) (hd : DiskR fs) (x : ActV) (hx : FitA x) (hs : Shape x) (hk : x.kind = 3) (f : FileV) (hf : fileOf fs x.name = some f) :
    Calls Try.prog 47 #[.map (some M), .pointer (some ⟨loc x.name, 0, none⟩), .string x.to] W (Done W B M fs (doAct fs x)) := by
  obtain ⟨hn, hok, hfm, hfn⟩ := name_of hd hf
  obtain ⟨l1, l2, l3⟩ := T.loc_ne hfm
  rw [hfn] at l1 l2 l3
  have hB := T.base_le
  have X : FBox W (loc x.name) f := hfn ▸ T.box f hfm
  obtain ⟨x0, x1, x2⟩ := X.cells
  rw [hfn] at x0
  have hnm : x.name.size ≤ maxLen := by unfold maxLen; have := hn.2; omega
  have hto : x.to.size ≤ maxLen := by unfold maxLen; have := hx.2.2; omega
  have htx := hok.2.1
  have HT := hideIt T
  by_cases h1 : f.kept < f.text.size
  · have ho := act_move_no hk hf (.inl h1)
    have d1 : decide (f.kept < (f.text.size : Int)) = true := by simp; omega
    unfold Done
    rw [ho]
    clear T X hd hok hf ho htx hs hk hn
    go_enter Try.func47, Try.ntmps47
    go_wp2
    go_quiet (fail)
    go_wp2
    go_ret
    exact ⟨rfl, ⟨loc, D, HT.out.drewN _⟩, below_drewN (Below.refl _ _) _⟩
  · have d1 : decide (f.kept < (f.text.size : Int)) = false := by simp; omega
    by_cases h2 : x.to = x.name
    · have ho := act_move_no hk hf (.inr (.inl h2))
      have d2 : (x.to.toList == x.name.toList) = true := str_eqB h2
      unfold Done
      rw [ho]
      clear T X hd hok hf ho htx hs hk hn h2
      go_enter Try.func47, Try.ntmps47
      go_wp2
      go_quiet (fail)
      go_wp2
      go_ret
      exact ⟨rfl, ⟨loc, D, HT.out.drewN _⟩, below_drewN (Below.refl _ _) _⟩
    · have d2 : (x.to.toList == x.name.toList) = false := str_ne h2
      by_cases h3 : NameOk x.to
      · have HN := hideIt (fun W => nameOk_yes x.to h3.1 h3.2 W)
        have ho := act_move hd hs hk hf (by rintro (h | h | h); exact h1 h; exact h2 h; exact h h3)
        have hsrt := ((disk_iff fs).1 hd).2.2
        have HX := hideIt X
        have A1 : Hid (∀ g ∈ without fs x.name, loc g.name ≠ loc x.name) := fun g hg e => by
          have hg' := mem_without.1 hg
          rw [← hfn] at e hg'
          exact hg'.2 (T.inj g hg'.1 f hfm e)
        have HW := hideIt (len_without hsrt x.name)
        have HP := hideIt (len_put (sorted_without hsrt x.name) (fMove f x.to))
        have HL : Hid ((without fs x.name).length ≤ 1048576) := by show (without fs x.name).length ≤ 1048576; have := without_le fs x.name; have := hd.1; omega
        unfold Done
        rw [ho]
        clear T X hd hok hf ho htx hs hk hn h2 hsrt
        go_enter Try.func47, Try.ntmps47
        go_wp2
        go_quiet ((go_at_call 39; exact Calls.quiet_of_same (HN.out _)))
        have HT1 := hideIt (HT.out.drewN nq)
        have HX1 := hideIt (HX.out.drewN nq)
        have K0 := hideIt (below_drewN (Below.refl B W) nq)
        go_wp2_with (first
          | (at_delete; refine del_at _ rfl _ _ rfl (gs := without fs x.name) HT1.out hnm (fun _ => mem_without) HW.out rfl rfl ?_; intro w1 hT1 hg1; refine Hid.out ?_))
        refine (show ∀ {p : Prop}, p → Hid p from fun h => h) ?_
        obtain ⟨D1, T1⟩ := hT1
        have X1 := HX1.out.grown hg1 (by simpa using l1)
        have y0 := X1.cells.1
        have yz := X1.frozen 0
        have g2 := setGrown w1 (loc x.name) 0 (.string x.to)
        have X2 := hideIt (X1.name x.to)
        have hML : loc x.name ≠ M := l1
        have T2 := hideIt (show Tab (w1.setCell ⟨loc x.name, 0, none⟩ (.string x.to)) B M loc (without fs x.name) D1 from
          { T1 with own := T1.own.kept g2 (by simpa using Ne.symm hML), box := fun g hg => (T1.box g hg).grown g2 (by simpa using A1.out g hg) })
        have K1 := hideIt ((K0.out.grown hg1 (by simpa using hB) (fun j hj => by cases hj; exact HT.out.base)).setCell (p := ⟨loc x.name, 0, none⟩) l2 (.string x.to))
        have hB1 : B ≤ w1.heap.size := T1.base_le
        clear hg1 T1 X1 g2 x0 x1 x2
        go_wp2_with (first
          | (at_mapUpdate; refine put_at _ rfl _ _ _ rfl (gs := put (without fs x.name) (fMove f x.to)) T2.out HL.out (f := fMove f x.to) rfl hto X2.out l1 l2 (fun g hg _ => A1.out g hg) (fun _ => mem_put) HP.out rfl rfl rfl ?_; intro w2 hT2 hg2))
        go_ret
        exact ⟨rfl, ⟨_, hT2⟩, K1.out.grown hg2 (by simpa using hB1) (fun j hj => by cases hj; exact HT.out.base)⟩
      · have HN := hideIt (fun W => nameOk_no x.to hto (by unfold NameOk at h3; omega) W)
        have ho := act_move_no hk hf (.inr (.inr h3))
        unfold Done
        rw [ho]
        clear T X hd hok hf ho htx hs hk hn h2
        go_enter Try.func47, Try.ntmps47
        go_wp2
        go_quiet ((go_at_call 39; exact Calls.quiet_of_same (HN.out _)))
        go_wp2
        go_ret
        exact ⟨rfl, ⟨loc, D, HT.out.drewN _⟩, below_drewN (Below.refl _ _) _⟩
end Go.Proofs.Ythffflpclmpamaa
namespace Go.Proofs.Ythffflpclmpamaa
open Go.RowKit Go.WideMaps Go.Maps

/-- the box of an act -/
def aObj (x : ActV) : Obj := .cells #[.int .i64 x.kind, .string x.name, .string x.text, .string x.to] 37

theorem Done.from {W : World} {B M : Nat} {fs : List FileV} {o : Option (List FileV)} {ob : Obj} {e : Ending} {w' : World} (h : Done (W.alloc ob) B M fs o e w') (hB : B ≤ W.heap.size) : Done W B M fs o e w' :=
  ⟨h.1, h.2.1, ((Below.refl B W).alloc hB _).trans h.2.2⟩

/-- the four looks at an act -/
theorem look4 (x : ActV) : ∃ p q r t : Bool, (x.kind != 1) = p ∧ x.text.toList.isEmpty = q ∧ (x.kind != 3) = r ∧ x.to.toList.isEmpty = t ∧ (Shape x ↔ ((p && !q) || (r && !t)) = false) := by
  refine ⟨_, _, _, _, rfl, rfl, rfl, rfl, ?_⟩
  have e1 : ∀ s : ByteArray, s.toList.isEmpty = decide (s.size = 0) := fun s => by
    by_cases h : s.size = 0
    · rw [str_empty h]; simp [h]
    · rw [str_nonempty h]; simp [h]
  rw [e1, e1]
  unfold Shape
  by_cases h1 : x.kind = 1
  · have h3 : ¬ x.kind = 3 := by omega
    by_cases h4 : x.to.size = 0 <;> simp [h1, h4]
  · by_cases h3 : x.kind = 3
    · by_cases h2 : x.text.size = 0 <;> simp [h3, h2]
    · by_cases h2 : x.text.size = 0 <;> by_cases h4 : x.to.size = 0 <;> simp [h1, h2, h3, h4]

set_option maxRecDepth 100000 in
set_option maxHeartbeats 8000000 in
theorem tDo_shape (W : World) (B M : Nat) (loc : ByteArray → Nat) (fs : List FileV) (D : DataW Unit) (T : Tab W B M loc fs D) (x : ActV) (hs : ¬ Shape x) :
    Calls Try.prog 24 #[.map (some M), .agg #[.int .i64 x.kind, .string x.name, .string x.text, .string x.to]] W (Done W B M fs (doAct fs x)) := by
  have ho := doAct_shape (fs := fs) hs
  obtain ⟨p, q, r, t, e1, e2, e3, e4, h⟩ := look4 x
  have hB := T.base_le
  have HT := hideIt T
  have h' : ((p && !q) || (r && !t)) = true := by
    cases hh : ((p && !q) || (r && !t))
    · exact absurd (h.2 hh) hs
    · rfl
  unfold Done
  rw [ho]
  clear T ho hs h
  by_cases hp : (p && !q) = true
  · obtain ⟨rfl, rfl⟩ : p = true ∧ q = false := by cases p <;> cases q <;> simp_all
    clear h' hp
    go_enter Try.func24, Try.ntmps24
    go_wp2
    go_ret
    exact ⟨rfl, ⟨loc, D, HT.out.alloc _⟩, (Below.refl B W).alloc hB _⟩
  · obtain ⟨rfl, rfl⟩ : r = true ∧ t = false := by cases p <;> cases q <;> cases r <;> cases t <;> simp_all
    clear h'
    cases p
    · clear hp
      go_enter Try.func24, Try.ntmps24
      go_wp2
      go_ret
      exact ⟨rfl, ⟨loc, D, HT.out.alloc _⟩, (Below.refl B W).alloc hB _⟩
    · obtain rfl : q = true := by cases q <;> simp_all
      clear hp
      go_enter Try.func24, Try.ntmps24
      go_wp2
      go_ret
      exact ⟨rfl, ⟨loc, D, HT.out.alloc _⟩, (Below.refl B W).alloc hB _⟩

/-- what is seen of an act of a right shape -/
theorem seen1 {x : ActV} (hs : Shape x) (hk : x.kind = 1) : (x.kind != 1) = false ∧ (x.kind != 3) = true ∧ x.to.toList.isEmpty = true ∧ (x.kind == 1) = true := by
  have : x.to.size = 0 := by rcases hs.2 with h | h; omega; exact h
  exact ⟨by simp [hk], by simp [hk], str_empty this, by simp [hk]⟩
theorem seen3 {x : ActV} (hs : Shape x) (hk : x.kind = 3) : (x.kind != 1) = true ∧ x.text.toList.isEmpty = true ∧ (x.kind != 3) = false ∧ (x.kind == 1) = false ∧ (x.kind == 2) = false ∧ (x.kind == 3) = true := by
  have : x.text.size = 0 := by rcases hs.1 with h | h; omega; exact h
  exact ⟨by simp [hk], str_empty this, by simp [hk], by simp [hk], by simp [hk], by simp [hk]⟩
theorem seen0 {x : ActV} (hs : Shape x) (h1 : x.kind ≠ 1) (h3 : x.kind ≠ 3) : (x.kind != 1) = true ∧ x.text.toList.isEmpty = true ∧ (x.kind != 3) = true ∧ x.to.toList.isEmpty = true ∧ (x.kind == 1) = false ∧ (x.kind == 3) = false := by
  have a1 : x.text.size = 0 := by rcases hs.1 with h | h; exact absurd h h1; exact h
  have a2 : x.to.size = 0 := by rcases hs.2 with h | h; exact absurd h h3; exact h
  exact ⟨by simp [h1], str_empty a1, by simp [h3], str_empty a2, by simp [h1], by simp [h3]⟩

set_option maxRecDepth 100000 in
set_option maxHeartbeats 8000000 in
theorem tDo_add (W : World) (B M : Nat) (loc : ByteArray → Nat) (fs : List FileV) (D : DataW Unit) (T : Tab W B M loc fs D) (hd : DiskR fs) (x : ActV) (hx : FitA x) (hs : Shape x) (hk : x.kind = 1) :
    Calls Try.prog 24 #[.map (some M), .agg #[.int .i64 x.kind, .string x.name, .string x.text, .string x.to]] W (Done W B M fs (doAct fs x)) := by
  have hB := T.base_le
  have H := hideIt (tAdd_any _ B M loc fs D (T.alloc (.cells #[.int .i64 x.kind, .string x.name, .string x.text, .string x.to] 37)) hd x hx hs hk)
  obtain ⟨e1, e2, e3, e4⟩ := seen1 hs hk
  generalize doAct fs x = o at *
  clear T hd hs hk hx
  go_enter Try.func24, Try.ntmps24
  go_wp2_with (go_at_call 46; refine H.out.mono ?_; rintro e w1 ⟨rfl, hT1, hb1⟩)
  go_ret
  exact ⟨rfl, hT1, ((Below.refl B W).alloc hB _).trans hb1⟩

set_option maxRecDepth 100000 in
set_option maxHeartbeats 8000000 in
theorem tDo_none (W : World) (B M : Nat) (loc : ByteArray → Nat) (fs : List FileV) (D : DataW Unit) (T : Tab W B M loc fs D) (x : ActV) (hx : FitA x) (hs : Shape x) (hk : x.kind ≠ 1) (hf : fileOf fs x.name = none) :
    Calls Try.prog 24 #[.map (some M), .agg #[.int .i64 x.kind, .string x.name, .string x.text, .string x.to]] W (Done W B M fs (doAct fs x)) := by
  have hB := T.base_le
  have HT := hideIt (T.alloc (.cells #[.int .i64 x.kind, .string x.name, .string x.text, .string x.to] 37))
  have HI := hideIt (isIn_no (fileOf_not hf))
  have ho := act_none hk hf
  have hnm : x.name.size ≤ maxLen := by unfold maxLen; have := hx.1; omega
  unfold Done
  rw [ho]
  by_cases h3 : x.kind = 3
  · obtain ⟨e1, e2, e3, e4, e5, e6⟩ := seen3 hs h3
    clear T hs hk hx ho hf h3
    go_enter Try.func24, Try.ntmps24
    go_wp2_with (at_lookup; refine look_no _ rfl _ _ rfl HT.out HI.out hnm rfl rfl ?_)
    go_ret
    exact ⟨rfl, ⟨loc, D, HT.out⟩, (Below.refl B W).alloc hB _⟩
  · obtain ⟨e1, e2, e3, e4, e5, e6⟩ := seen0 hs hk h3
    clear T hs hk hx ho hf h3
    go_enter Try.func24, Try.ntmps24
    go_wp2_with (at_lookup; refine look_no _ rfl _ _ rfl HT.out HI.out hnm rfl rfl ?_)
    go_ret
    exact ⟨rfl, ⟨loc, D, HT.out⟩, (Below.refl B W).alloc hB _⟩

set_option maxRecDepth 100000 in
set_option maxHeartbeats 8000000 in
theorem tDo_move (W : World) (B M : Nat) (loc : ByteArray → Nat) (fs : List FileV) (D : DataW Unit) (T : Tab W B M loc fs D) (hd : DiskR fs) (x : ActV) (hx : FitA x) (hs : Shape x) (hk : x.kind = 3) (f : FileV) (hf : fileOf fs x.name = some f) :
    Calls Try.prog 24 #[.map (some M), .agg #[.int .i64 x.kind, .string x.name, .string x.text, .string x.to]] W (Done W B M fs (doAct fs x)) := by
  have hB := T.base_le
  obtain ⟨hn, hok, hfm, hfn⟩ := name_of hd hf
  have hnm : x.name.size ≤ maxLen := by unfold maxLen; have := hx.1; omega
  have HT := hideIt (T.alloc (.cells #[.int .i64 x.kind, .string x.name, .string x.text, .string x.to] 37))
  have HM := hideIt hfm
  have H := hideIt (tMove_any _ B M loc fs D (T.alloc (.cells #[.int .i64 x.kind, .string x.name, .string x.text, .string x.to] 37)) hd x hx hs hk f hf)
  obtain ⟨e1, e2, e3, e4, e5, e6⟩ := seen3 hs hk
  generalize doAct fs x = o at *
  clear T hd hs hk hx hok hn hfm hf
  go_enter Try.func24, Try.ntmps24
  go_wp2_with (first
    | (at_lookup; refine look_yes _ rfl _ _ rfl HT.out HM.out hfn hnm rfl rfl ?_)
    | (go_at_call 47; refine H.out.mono ?_; rintro e w1 ⟨rfl, hT1, hb1⟩))
  go_ret
  exact ⟨rfl, hT1, ((Below.refl B W).alloc hB _).trans hb1⟩

set_option maxRecDepth 100000 in
set_option maxHeartbeats 8000000 in
theorem tDo_rest (W : World) (B M : Nat) (loc : ByteArray → Nat) (fs : List FileV) (D : DataW Unit) (T : Tab W B M loc fs D) (hd : DiskR fs) (x : ActV) (hx : FitA x) (hs : Shape x) (h1 : x.kind ≠ 1) (h3 : x.kind ≠ 3) (f : FileV) (hf : fileOf fs x.name = some f) :
    Calls Try.prog 24 #[.map (some M), .agg #[.int .i64 x.kind, .string x.name, .string x.text, .string x.to]] W (Done W B M fs (doAct fs x)) := by
  have hB := T.base_le
  obtain ⟨hn, hok, hfm, hfn⟩ := name_of hd hf
  obtain ⟨l1, l2, l3⟩ := T.loc_ne hfm
  have hnm : x.name.size ≤ maxLen := by unfold maxLen; have := hx.1; omega
  have T1 := T.alloc (.cells #[.int .i64 x.kind, .string x.name, .string x.text, .string x.to] 37)
  have X : FBox (W.alloc (.cells #[.int .i64 x.kind, .string x.name, .string x.text, .string x.to] 37)) (loc f.name) f := T1.box f hfm
  have HT := hideIt T1
  have HM := hideIt hfm
  have hsrt := ((disk_iff fs).1 hd).2.2
  obtain ⟨e1, e2, e3, e4, e5, e6⟩ := seen0 hs h1 h3
  by_cases h2 : x.kind = 2
  · have ho := act_keep hd hs h2 hf
    have e7 : (x.kind == 2) = true := by simp [h2]
    rw [hfn] at X l2 l3
    obtain ⟨x0, x1, x2⟩ := X.cells
    have z2 := X.frozen 2
    have X0 : FBox W (loc x.name) f := hfn ▸ T.box f hfm
    have T2 : Tab (W.setCell ⟨loc x.name, 2, none⟩ (.int .i64 (f.text.size : Int))) B M loc (put fs (fKeep f)) D := by
      refine T.turn (f := f) (f' := fKeep f) hfm rfl (by rw [hfn]; exact setGrown _ _ _ _) (by rw [hfn]; exact X0.kept _) (fun g => mem_put) ?_
      exact len_put_in hd (fKeep f) (isIn_iff.2 ⟨f, hfm, rfl⟩)
    have HT2 := hideIt (T2.alloc (.cells #[.int .i64 x.kind, .string x.name, .string x.text, .string x.to] 37))
    have K := hideIt (((Below.refl B W).setCell (p := ⟨loc x.name, 2, none⟩) l2 (.int .i64 (f.text.size : Int))).alloc (by simpa using hB) (.cells #[.int .i64 x.kind, .string x.name, .string x.text, .string x.to] 37))
    have hl3 : loc x.name < (W.alloc (.cells #[.int .i64 x.kind, .string x.name, .string x.text, .string x.to] 37)).heap.size := by simp; omega
    unfold Done
    rw [ho]
    clear T hd hs hx hok hn hfm hf T1 X X0 T2 ho h1 h3 h2 hsrt
    go_enter Try.func24, Try.ntmps24
    go_wp2_with (first
      | (at_lookup; refine look_yes _ rfl _ _ rfl HT.out HM.out hfn hnm rfl rfl ?_))
    go_ret
    exact ⟨rfl, ⟨loc, D, HT2.out⟩, K.out⟩
  · have e7 : (x.kind == 2) = false := by simp [h2]
    by_cases h4 : x.kind = 4
    · have ho := act_drop hd hs h4 hf
      have e8 : (x.kind == 4) = true := by simp [h4]
      have HW := hideIt (len_without hsrt x.name)
      have K := hideIt ((Below.refl B W).alloc hB (.cells #[.int .i64 x.kind, .string x.name, .string x.text, .string x.to] 37))
      unfold Done
      rw [ho]
      clear T hd hs hx hok hn hfm hf T1 X ho h1 h3 h2 h4 hsrt
      go_enter Try.func24, Try.ntmps24
      go_wp2_with (first
        | (at_lookup; refine look_yes _ rfl _ _ rfl HT.out HM.out hfn hnm rfl rfl ?_)
        | (at_delete; refine del_at _ rfl _ _ rfl (gs := without fs x.name) HT.out hnm (fun _ => mem_without) HW.out rfl rfl ?_; intro w1 hT1 hg1))
      go_ret
      exact ⟨rfl, ⟨loc, hT1⟩, K.out.grown hg1 (by simp; omega) (fun j hj => by cases hj; exact HT.out.base)⟩
    · have ho := act_other (fs := fs) h1 h2 h3 h4
      have e8 : (x.kind == 4) = false := by simp [h4]
      unfold Done
      rw [ho]
      clear T hd hs hx hok hn hfm hf T1 X ho h1 h3 h2 h4 hsrt
      go_enter Try.func24, Try.ntmps24
      go_wp2_with (first
        | (at_lookup; refine look_yes _ rfl _ _ rfl HT.out HM.out hfn hnm rfl rfl ?_))
      go_ret
      exact ⟨rfl, ⟨loc, D, HT.out⟩, (Below.refl B W).alloc hB _⟩

theorem tDo_any (W : World) (B M : Nat) (loc : ByteArray → Nat) (fs : List FileV) (D : DataW Unit) (T : Tab W B M loc fs D) (hd : DiskR fs) (x : ActV) (hx : FitA x) :
    Calls Try.prog 24 #[.map (some M), .agg #[.int .i64 x.kind, .string x.name, .string x.text, .string x.to]] W (Done W B M fs (doAct fs x)) := by
  by_cases hs : Shape x
  · by_cases h1 : x.kind = 1
    · exact tDo_add W B M loc fs D T hd x hx hs h1
    · cases hf : fileOf fs x.name with
      | none => exact tDo_none W B M loc fs D T x hx hs h1 hf
      | some f =>
        by_cases h3 : x.kind = 3
        · exact tDo_move W B M loc fs D T hd x hx hs h3 f hf
        · exact tDo_rest W B M loc fs D T hd x hx hs h1 h3 f hf
  · exact tDo_shape W B M loc fs D T x hs
end Go.Proofs.Ythffflpclmpamaa
namespace Go.Proofs.Ythffflpclmpamaa
open Go.RowKit Go.WideMaps Go.Maps Go.Sort

theorem grown_refl (w : World) (row : Option Nat) : w.grownBy w row := ⟨rfl, rfl, rfl, Nat.le_refl _, fun _ _ _ => rfl⟩
/-- a row of names -/
def Ns (w : World) (va : Option Addr) (n : Nat) (fs : List FileV) : Prop :=
  fs.length = n ∧ (n = 0 ∨ ∃ g, va = some ⟨g, 0, none⟩ ∧ g < w.heap.size ∧ ∀ (j : Nat) (f : FileV), fs[j]? = some f → w.cell? ⟨g, j, none⟩ = some (.string f.name))

theorem keys_any (M : Nat) (w : World) : Calls Try.prog 41 #[.map (some M)] w fun e w' => e = .returned (.func (.func 53) #[] #[.pointer (some ⟨w.heap.size, 0, none⟩)]) ∧ w' = w.alloc (.cells #[.map (some M)] 52) :=
  callsIn_wide.1 (Try.maps_Keys_41 (some M) w)
theorem sorted_any (w : World) (B M : Nat) (loc : ByteArray → Nat) (fs : List FileV) (D : DataW Unit) (T : Tab w B M loc fs D) (hd : DiskR fs) (H : Nat) (hH : w.heap.size = H) :
    Calls Try.prog 40 #[.func (.func 53) #[] #[.pointer (some ⟨H, 0, none⟩)]] (w.alloc (.cells #[.map (some M)] 52)) fun e w' => ∃ va vc, e = .returned (.slice va fs.length vc) ∧ Ns w' va fs.length fs ∧ (∀ g, va = some ⟨g, 0, none⟩ → H < g) ∧ Below (H + 1) (w.alloc (.cells #[.map (some M)] 52)) w' := by
  subst hH
  have h30 := hd.1
  have hsrt := ((disk_iff fs).1 hd).2.2
  have H := callsIn_wide.1 (Try.slices_Sorted_keys_40_41 M _ D ptrR w T.own (by rw [T.size]; unfold maxLen; omega) (by rw [T.size]; omega))
  refine H.mono ?_
  rintro e w' ⟨v, ss, rfl, hp, hrow, hnil, hb⟩
  have hso := names_sorted T hsrt hp
  have hl : ss.length = fs.length := by rw [← List.length_mergeSort (le := fun x y => decide (x ≤ y)) ss, hso, List.length_map]
  rw [hso, hl] at hrow
  have hsz : (w.alloc (.cells #[.map (some M)] 52)).heap.size = w.heap.size + 1 := by simp
  rw [hsz] at hrow hb
  have hr := hrow
  rcases hrow.2 with ⟨rfl, h0⟩ | ⟨g, cap, cur, rfl, hg, hcur, _⟩
  · refine ⟨none, 0, by rw [h0], ⟨rfl, .inl h0⟩, fun g hg => (by cases hg), hb⟩
  · refine ⟨some ⟨g, 0, none⟩, cap, rfl, ⟨rfl, .inr ⟨g, rfl, (Array.getElem?_eq_some_iff.1 hcur).1, fun j f hf => ?_⟩⟩, fun g' hg' => (by cases hg'; omega), hb⟩
    have := hr.cells (g := g) rfl j (.string f.name) (by
      rw [List.getElem?_map, List.getElem?_map, hf]
      simp [nmOf])
    rw [← this]
    by_cases h0 : j = 0
    · subst h0; rfl
    · simp [Addr.add, h0]

set_option maxRecDepth 100000 in
set_option maxHeartbeats 8000000 in
theorem tDisk_any (W : World) (B M : Nat) (loc : ByteArray → Nat) (fs : List FileV) (D : DataW Unit) (T : Tab W B M loc fs D) (hd : DiskR fs) :
    Calls Try.prog 22 #[.map (some M)] W fun e w' => ∃ g c, e = .returned (.agg #[.slice (some ⟨g, 0, none⟩) fs.length c]) ∧ w'.ownsRow W.heap.size 49 3 (.slice (some ⟨g, 0, none⟩) fs.length c) fs.length (fcells fs) ∧ Below W.heap.size W w' := by
  have h30 := hd.1
  obtain ⟨i0, hi, hz0, hz1, hz2⟩ := info_parts infoIF
  have hlen := (T.alloc (.cells #[.slice none 0 0] 26)).len
  have hmk : ∀ u : World, (Instr.makeSlice 24 (.int .i64 0) (.int .i64 (fs.length : Int))).run Try.prog u =
      .ok (.slice (some ⟨u.heap.size, 0, none⟩) 0 fs.length) (u.alloc (.cells (madeCells #[.string .empty, .string .empty, .int .i64 0] (fs.length * 3)) 49)) := fun u => by
    have h := run_make (P := Try.prog) u 24 49 i0 _ Try.underlying24 hi hz0 .i64 .i64 0 (fs.length : Int) (by omega) (by omega) (by rw [hz2]; omega) (by omega)
    rw [Int.toNat_natCast] at h
    simpa [hz1, Value.cells] using h
  have T2 := (T.alloc (.cells #[.slice none 0 0] 26)).alloc (.cells (madeCells #[.string .empty, .string .empty, .int .i64 0] (fs.length * 3)) 49)
  have HS := hideIt (sorted_any _ B M loc fs D T2 hd (W.heap.size + 1 + 1) (by simp))
  have HT := hideIt T
  have HD := hideIt hd
  clear T T2 hd
  go_enter Try.func22, Try.ntmps22
  go_wp2_with (first
    | (go_at_call 41; refine (keys_any _ _).mono ?_; rintro e w1 ⟨rfl, rfl⟩)
    | (go_at_call 40; refine HS.out.mono ?_; rintro e w3 ⟨va, vc, rfl, hN, hgN, hb3⟩; refine Hid.out ?_))
  refine (show ∀ {p : Prop}, p → Hid p from fun h => h) ?_
  have hs3 := hb3.size
  simp at hs3
  have own3 : w3.ownsRow (W.heap.size + 1) 49 3 (.slice (some ⟨W.heap.size + 1, 0, none⟩) 0 fs.length) 0 [] := by
    have h0 := World.ownsRow_made (base := W.heap.size + 1) (e := 49) (size := 3) (W.alloc (.cells #[.slice none 0 0] 26)) (madeCells #[.string .empty, .string .empty, .int .i64 0] (fs.length * 3)) fs.length (by simp) (by unfold maxLen; omega) (by simp [madeCells])
    rw [show (W.alloc (.cells #[.slice none 0 0] 26)).heap.size = W.heap.size + 1 by simp] at h0
    have h1 := h0.alloc (.cells #[.map (some M)] 52)
    refine World.ownsRow.kept h1 (row := none) ⟨hb3.os, hb3.tape, hb3.output, hb3.size, fun k hk _ => hb3.block k ?_⟩ (.inr (by simp [Value.ownBlock]))
    simp at hk
    omega
  have K3 : Below (W.heap.size + 1) (W.alloc (.cells #[.slice none 0 0] 26)) w3 := by
    have h0 := (((Below.refl (W.heap.size + 1) (W.alloc (.cells #[.slice none 0 0] 26))).alloc (by simp) (.cells (madeCells #[.string .empty, .string .empty, .int .i64 0] (fs.length * 3)) 49)).alloc (by simp) (.cells #[.map (some M)] 52))
    exact h0.trans (hb3.mono (by omega))
  have HN := hideIt hN
  have HGN := hideIt hgN
  have HO3 := hideIt own3
  have HK3 := hideIt K3
  clear HS hN hgN hb3 own3 K3 hlen hmk
  have T3 : Tab w3 B M loc fs D := by
    refine (HT.out.alloc (.cells #[.slice none 0 0] 26)).up ?_
    rw [show (W.alloc (.cells #[.slice none 0 0] 26)).heap.size = W.heap.size + 1 by simp]
    exact HK3.out
  have HT3 := hideIt T3
  clear T3
  have hML := HT.out.map_lt
  go_wp2
  go_loopw [3, 13] (fun s i wr => ∃ (k g cap : Nat), k ≤ fs.length ∧ i = .int .i64 (k : Int) ∧ s = .slice (some ⟨g, 0, none⟩) k cap ∧ (g = W.heap.size + 1 ∨ w3.heap.size ≤ g) ∧ Hid (wr.ownsRow (W.heap.size + 1) 49 3 (.slice (some ⟨g, 0, none⟩) k cap) k (fcells (fs.take k))) ∧ w3.grownBy wr (some (W.heap.size + 1))) (fun _ i _ => fs.length - (intOf i).toNat)
  case atStart => exact ⟨0, _, _, by omega, rfl, rfl, .inl rfl, HO3.out, grown_refl _ _⟩
  case round =>
    obtain ⟨k, g, cap, hk, rfl, rfl, hg, hown, hgr⟩ := hrel
    have hsz := hgr.size
    by_cases hlt : k < fs.length
    · obtain ⟨f, hf⟩ : ∃ f, fs[k]? = some f := ⟨fs[k]'(by omega), List.getElem?_eq_getElem (by omega)⟩
      have hfm := List.mem_of_getElem? hf
      obtain ⟨hok, hnm8⟩ : FileOk f ∧ f.name.size ≤ 8 := by
        have := ((disk_iff fs).1 HD.out).2.1 f hfm
        exact ⟨this, this.1.2⟩
      have htx := hok.2.1
      have hnm : f.name.size ≤ maxLen := by unfold maxLen; omega
      rcases HN.out.2 with hz | ⟨g0, hva, hg0, hc0⟩
      · omega
      · have hgg := HGN.out g0 hva
        subst hva
        have e0 : wr.cell? ⟨g0, k, none⟩ = some (.string f.name) := by rw [hgr.cell_far ⟨g0, k, none⟩ hg0 (by simp; omega)]; exact hc0 k f hf
        have b1 : (0 : Int) ≤ (k : Int) := by omega
        have b2 : (k : Int) < (fs.length : Int) := by omega
        have hlf := HT.out.loc_ne hfm
        have Twr : Tab wr B M loc fs D := { HT3.out with own := HT3.out.own.kept hgr (by simp; omega), box := fun x hx => (HT3.out.box x hx).grown hgr (by have := (HT.out.loc_ne hx).2.2; simp; omega) }
        obtain ⟨x0, x1, x2⟩ := (Twr.box f hfm).cells
        have hlw : loc f.name < wr.heap.size := (Twr.box f hfm).lt
        have HTw := hideIt Twr
        have HM := hideIt hfm
        have HC := hideIt (copyOf_any f (by omega) (by omega) wr)
        have HTk := hideIt (take_snocF fs k f hf)
        clear hf hfm Twr hok hc0
        go_wp2_with (first
          | (at_lookup; refine look_at _ rfl _ _ rfl HTw.out HM.out rfl hnm rfl rfl ?_)
          | (go_at_call 19; refine HC.out.mono ?_; rintro e w4 ⟨rfl, hb4⟩; refine Hid.out ?_))
        refine (show ∀ {p : Prop}, p → Hid p from fun h => h) ?_
        have own4 := World.ownsRow.kept hown.out (grownOf hb4 none) (.inr (by simp [Value.ownBlock]))
        have hs4 := hb4.size
        have hs0 : W.heap.size + 1 ≤ w4.heap.size := by omega
        clear HC x0 x1 x2 e0
        go_wp2_with (at_builtin; refine wpList_append_lies _ rfl _ _ 24 rfl (W.heap.size + 1) 49 i0 _ 3 40 Try.underlying24 hi hz0 hz1 hz2 rfl (by decide) _ _ _ rfl (own4.alloc _) ⟨w4.heap.size, 0, none⟩ 1 1 [.string f.name, .string f.text, .int .i64 f.kept] rfl rfl (World.news_of_block (cs := #[.string f.name, .string f.text, .int .i64 f.kept]) (t := 49) (fr := (0, 0)) (heap_alloc_new w4 _)) (by simp [Value.oneCell']) (by omega) (by unfold maxLen; omega) (by omega) (by simp; omega) (w4.heap.size + 1) (by simp) ?_; intro g1 cap1 w5 hown5 hg5 hat5 hlt5)
        have hg6 : (w4.alloc (.cells #[.string f.name, .string f.text, .int .i64 f.kept] 49)).grownBy w5 (some g) := hg5
        have hat6 : some g = some g1 ∨ g1 = w4.heap.size + 1 := hat5
        clear hg5 hat5
        refine ⟨⟨k + 1, g1, cap1, by omega, by go_num, rfl, ?_, ?_, ?_⟩, by simp [intOf]; omega⟩
        · rcases hat6 with h | h
          · simp at h
            subst h
            exact hg
          · right; omega
        · show _
          rw [HTk.out, fcells_snoc]
          exact hown5
        · refine ⟨?_, ?_, ?_, ?_, fun b hb hne => ?_⟩
          · rw [hg6.os]; exact hb4.os.trans hgr.os
          · rw [hg6.tape]; exact hb4.tape.trans hgr.tape
          · rw [hg6.output]; exact hb4.output.trans hgr.output
          · have := hg6.size; simp at this; omega
          · rw [hg6.block b (by simp; omega) (by simp at hne ⊢; omega), Below.heap_alloc _ _ b (by omega), hb4.block b (by omega), hgr.block b hb hne]
    · obtain rfl : k = fs.length := by omega
      have hown' := hown.out
      rw [List.take_of_length_le (Nat.le_refl _)] at hown'
      have HO := hideIt (own_setLow hown' W.heap.size 0 (.slice (some ⟨g, 0, none⟩) fs.length cap) (by omega))
      have bx : Box wr W.heap.size 26 (.slice none 0 0) := by
        refine Box.grown ?_ hgr (by simp)
        exact (Box.new W 26 (.slice none 0 0) W.heap.size rfl).below HK3.out (by omega)
      have r0 := bx.cell
      have r1 := bx.frozen
      have s1 := (bx.set (.slice (some ⟨g, 0, none⟩) fs.length cap)).cell
      have q : Below W.heap.size W wr := by
        have h1 := ((Below.refl W.heap.size W).alloc (Nat.le_refl _) (.cells #[.slice none 0 0] 26)).trans (HK3.out.mono (by omega))
        exact h1.grown hgr (by omega) (fun j hj => by simp at hj; omega)
      have q3 := hideIt (q.setCell (p := ⟨W.heap.size, 0, none⟩) (Nat.le_refl _) (.slice (some ⟨g, 0, none⟩) fs.length cap))
      clear hown hown' bx q
      go_wp2
      exact bodyPost_ret (v := .agg #[.slice (some ⟨g, 0, none⟩) fs.length cap]) (by simp [results, Try.results22, go_sem, s1]) rfl ⟨g, cap, rfl, own_mono HO.out (by omega), q3.out⟩
end Go.Proofs.Ythffflpclmpamaa
