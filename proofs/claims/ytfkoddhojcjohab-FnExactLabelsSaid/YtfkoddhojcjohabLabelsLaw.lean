/- The walk of FnExactLabels. -/
import Derived.Test.YtfkoddhojcjohabSLabels
import Derived.Test.YtfkoddhojcjohabILabels
import Derived.Deep.DeepCutAuto
namespace Go.Proofs.Ytfkoddhojcjohab
open Go.RowKit

theorem ians_G {F : Nat} {args : Array Value} {ls : List Int} {u0 u : World} (h : Good u0 u) (H : Calls Try.prog F args u (IAns u ls)) :
    Calls Try.prog F args u fun e v => ∃ aw mw cw, e = .returned (.slice aw mw cw) ∧ RBox v u.heap.size v.heap.size aw mw cw ls ∧ Good u0 v ∧ Below u.heap.size u v :=
  H.mono fun _ _ ⟨aw, mw, cw, he, ho, hb⟩ => ⟨aw, mw, cw, he, RBox.laid ho, h.up hb, hb⟩

/-- the world behind the law's box -/
def lwL (w : World) (N : Int) (a : Option Addr) (n c : Nat) : World := w.alloc (.cells #[.int .i64 N, .slice a n c] 24)
theorem lwL_size (w : World) (N : Int) (a : Option Addr) (n c : Nat) : (lwL w N a n c).heap.size = w.heap.size + 1 := by simp [lwL]
/-- nothing of it has turned -/
def LL (w : World) (N : Int) (a : Option Addr) (n c : Nat) (u : World) : Prop := Below (w.heap.size + 1) (lwL w N a n c) u
theorem LL.start (w : World) (N : Int) (a : Option Addr) (n c : Nat) : LL w N a n c (lwL w N a n c) := Below.refl _ _
theorem LL.size {w : World} {N : Int} {a : Option Addr} {n c : Nat} {u : World} (h : LL w N a n c u) : w.heap.size + 1 ≤ u.heap.size := by have := Below.size h; rw [lwL_size] at this; exact this
theorem LL.up {w : World} {N : Int} {a : Option Addr} {n c : Nat} {u v : World} (h : LL w N a n c u) (hb : Below u.heap.size u v) : LL w N a n c v := Below.trans h (hb.mono h.size)
theorem LL.good {w : World} {N : Int} {a : Option Addr} {n c : Nat} {u v : World} (h : LL w N a n c u) (hb : Good u v) : LL w N a n c v := h.up hb
theorem LL.rng {w : World} {N : Int} {a : Option Addr} {n c : Nat} {u v : World} {lo hi : Nat} (h : LL w N a n c u) (hr : Rng lo hi u v) (hl : w.heap.size + 1 ≤ lo) : LL w N a n c v := Below.trans h (hr.below hl h.size)
theorem LL.below {w : World} {N : Int} {a : Option Addr} {n c : Nat} {u : World} (h : LL w N a n c u) : Below w.heap.size w u :=
  ((Below.refl w.heap.size w).alloc (Nat.le_refl _) _).trans (Below.mono h (by omega))
theorem LL.es {w : World} {N : Int} {a : Option Addr} {n c : Nat} {u : World} {fs : List EdgeV} (h : LL w N a n c u) (hf : Es w w.heap.size a n fs) : Es u u.heap.size a n fs := hf.up h.below
theorem LL.cells {w : World} {N : Int} {a : Option Addr} {n c : Nat} {u : World} (h : LL w N a n c u) : u.cell? ⟨w.heap.size, 0, none⟩ = some (.int .i64 N) ∧ u.cell? ⟨w.heap.size, 1, none⟩ = some (.slice a n c) := by
  refine ⟨?_, ?_⟩
  · rw [Below.cell h (by show w.heap.size < _; omega)]; simp [lwL]
  · rw [Below.cell h (by show w.heap.size < _; omega)]; simp [lwL]

set_option maxRecDepth 100000 in
set_option maxHeartbeats 8000000 in
theorem fnExactLabels.walk (N : Int) (_hN : (Lit.int .i64 N).wf = true) (fs : List EdgeV) (_hft : ∀ f ∈ fs, FitE f) (n : Nat) (a : Option Addr) (c : Nat) (hn : n ≤ maxLen) (w : World) (h : Es w w.heap.size a n fs) :
    Calls Try.prog 4 #[.agg #[.int .i64 N, .slice a n c]] w fun e w' => e = .returned (.bool true) ∧ Below w.heap.size w w' := by
  have HS := hideIt (szGraph_any N n a c hn (lwL w N a n c))
  have HF := hideIt h
  have HB := hideIt (LL.start w N a n c).below
  clear h
  by_cases hn1 : n ≤ 1048576
  · rw [if_pos hn1] at HS
    have d1 : decide (1048576 - (n : Int) < 0) = false := decide_eq_false (by omega)
    have hgl := labE_len (N := N) (es := fs)
    have HDs := hideIt (fun u0 u (hu : Good u0 u) g (hf : Es u u.heap.size (some ⟨g, 0, none⟩) n fs) => ians_G hu (sLabels_any N fs n (some ⟨g, 0, none⟩) n hn1 u hf))
    have HDi := hideIt (fun u0 u (hu : Good u0 u) g (hf : Es u u.heap.size (some ⟨g, 0, none⟩) n fs) => ians_G hu (iLabels_any N fs n (some ⟨g, 0, none⟩) n hn1 u hf))
    generalize labE N fs = ls at *
    go_enter Try.func4, Try.ntmps4
    go_wp2_with (go_at_call 7; refine (show Calls Try.prog 7 _ (lwL w N a n c) _ from HS.out).mono ?_; rintro e w2 ⟨rfl, hb1⟩; refine Hid.out ?_)
    refine (show ∀ {p : Prop}, p → Hid p from fun h => h) ?_
    have L2 : LL w N a n c w2 := (LL.start w N a n c).up hb1
    clear hb1 HS
    obtain ⟨c0, c1⟩ := L2.cells
    have HT2 := hideIt (toGraph_G N fs n a c hn1 (L2.es HF.out) (Good.refl w2))
    go_wp2_with (go_at_call 9; refine HT2.out.mono ?_; rintro e w3 ⟨g3, rfl, ho3, hg3, _⟩; refine Hid.out ?_)
    refine (show ∀ {p : Prop}, p → Hid p from fun h => h) ?_
    have L3 := L2.good hg3
    have HS3 := hideIt (HDs.out w3 w3 (Good.refl w3) g3 (Es_of_own ho3))
    clear HT2 c0 c1 ho3 hg3 L2
    go_wp2_with (go_at_call 15; refine HS3.out.mono ?_; rintro e w4 ⟨aw, mw, cw, rfl, RW, hg4, _⟩; refine Hid.out ?_)
    refine (show ∀ {p : Prop}, p → Hid p from fun h => h) ?_
    have L4 := L3.good hg4
    have hz3 : w.heap.size + 1 ≤ w3.heap.size := L3.size
    have hmw : mw ≤ 200 := by rw [← RW.len]; exact hgl
    have hz4 : w3.heap.size ≤ w4.heap.size := hg4.size
    clear HS3 hg4 L3 HDs
    obtain ⟨c0, c1⟩ := L4.cells
    have HT4 := hideIt (toGraph_G N fs n a c hn1 (L4.es HF.out) (Good.refl w4))
    go_wp2_with (go_at_call 9; refine HT4.out.mono ?_; rintro e w5 ⟨g5, rfl, ho5, hg5, _⟩; refine Hid.out ?_)
    refine (show ∀ {p : Prop}, p → Hid p from fun h => h) ?_
    clear HT4 c0 c1
    have hz5 := hg5.size
    have DX := GBox.laid (M := N) (lo := w4.heap.size) hz5 ho5
    have G5 := hg5.alloc (.cells #[.int .i64 N, .slice (some ⟨g5, 0, none⟩) n n] 30)
    have L5 := L4.good G5
    have RW5 := RW.up G5
    have HI5 := hideIt (HDi.out _ _ (Good.refl (w5.alloc (.cells #[.int .i64 N, .slice (some ⟨g5, 0, none⟩) n n] 30))) g5 DX.es)
    clear ho5 hg5 RW L4 G5
    go_wp2_with (go_at_call 16; refine HI5.out.mono ?_; rintro e w6 ⟨ag, mg, cg, rfl, RG, hg6, _⟩; refine Hid.out ?_)
    refine (show ∀ {p : Prop}, p → Hid p from fun h => h) ?_
    have L6 := L5.good hg6
    have DX6 := DX.up hg6
    have RW6 := RW5.up hg6
    have hmg : mg ≤ 200 := by rw [← RG.len]; exact hgl
    have h45 : (w5.alloc (.cells #[.int .i64 N, .slice (some ⟨g5, 0, none⟩) n n] 30)).heap.size = w5.heap.size + 1 := by simp
    rw [h45] at RG DX6
    clear HI5 hg6 L5 DX RW5 h45
    have HE6 := hideIt (eqRB RG RW6 (by omega))
    go_wp2_with (go_at_call 17; refine HE6.out.mono ?_; rintro e w7 ⟨rfl, hb7⟩; refine Hid.out ?_)
    refine (show ∀ {p : Prop}, p → Hid p from fun h => h) ?_
    have L7 := L6.up hb7
    have DX7 := DX6.up hb7
    have RW7 := RW6.up hb7
    have RG7 := RG.up hb7
    clear HE6 hb7 L6 DX6 RW6 RG
    have HC7 := hideIt (fun u (hu : Good w7 u) => And.intro (And.intro (DX7.up hu).cells (L7.good hu).cells) hu)
    have hS7 := HC7.out _ (Good.refl w7).drew
    have HT7 := hideIt (fun u (hu : Good w7 u) => toGraph_G N fs n a c hn1 (L7.es HF.out) hu)
    have HX7 := hideIt (fun u (hu : Good w7 u) => (DX7.up hu).es)
    go_upto_region 10 with fail
    go_region_held3 (fun u => ((u.cell? ⟨w5.heap.size, 0, none⟩ = some (.int .i64 N) ∧ u.cell? ⟨w5.heap.size, 1, none⟩ = some (.slice (some ⟨g5, 0, none⟩) n n)) ∧ u.cell? ⟨w.heap.size, 0, none⟩ = some (.int .i64 N) ∧ u.cell? ⟨w.heap.size, 1, none⟩ = some (.slice a n c)) ∧ Good w7 u)
      (first | assumption)
      (first
        | (go_at_call 9; refine (HT7.out _ (And.right (by assumption))).mono ?_; rintro e w8 ⟨g8, rfl, ho8, hg8, _⟩; have hS8 := HC7.out _ hg8)
        | (go_at_call 12; refine (eqGraph_same N fs n _ _ _ _ hn1 _ (HX7.out _ hg8) (Es_of_own ho8)).mono ?_; rintro e w9 ⟨rfl, hb9⟩; have hg9 := hg8.up hb9; have hS9 := HC7.out _ hg9))
    have L9 := L7.good hg9
    have RW9 := RW7.up hg9
    have DX9 := DX7.up hg9
    have RG9 := RG7.up hg9
    clear HC7 hS7 HT7 HX7 hS8 hS9 hg8 ho8 hb9 L7 RW7 DX7 RG7 hg9
    have q2 := DX9.cells.1
    have q3 := DX9.cells.2
    have HM9 := hideIt (markGB DX9 1 hn1 (by omega))
    go_wp2_with (go_at_call 13; refine HM9.out.mono ?_; rintro e w10 ⟨rfl, _, hr10⟩; refine Hid.out ?_)
    refine (show ∀ {p : Prop}, p → Hid p from fun h => h) ?_
    have L10 := L9.rng hr10 (by omega)
    have RW10 := RW9.rng hr10 (.inl (Nat.le_refl _))
    have RG10 := RG9.rng hr10 (.inr (Nat.le_refl _))
    clear HM9 q2 q3 L9 RW9 DX9 RG9 hr10
    have d3 : decide ((1 : Int) + (n : Int) * 2 < 0) = false := decide_eq_false (by omega)
    have HE10 := hideIt (eqRB RG10 RW10 (by omega))
    go_wp2_with (go_at_call 17; refine HE10.out.mono ?_; rintro e w11 ⟨rfl, hb11⟩; refine Hid.out ?_)
    refine (show ∀ {p : Prop}, p → Hid p from fun h => h) ?_
    have L11 := L10.up hb11
    have RW11 := RW10.up hb11
    have RG11 := RG10.up hb11
    clear HE10 hb11 L10 RW10 RG10
    have HM11 := hideIt (markRB RG11 1 (by omega) (by omega))
    go_wp2_with (go_at_call 18; refine HM11.out.mono ?_; rintro e w12 ⟨rfl, RG12, hr12⟩; refine Hid.out ?_)
    refine (show ∀ {p : Prop}, p → Hid p from fun h => h) ?_
    have L12 := L11.rng hr12 (by omega)
    have RW12 := RW11.rng hr12 (.inl (by omega))
    clear HM11 L11 RW11 RG11 hr12
    have HH12 := hideIt (heldRB 1 RG12 (by omega) (by omega))
    have d4 : decide ((1 : Int) + (mg : Int) < 0) = false := decide_eq_false (by omega)
    have d5 : ((1 : Int) + (mg : Int) != (1 : Int) + (mg : Int)) = false := by simp
    go_wp2_with (go_at_call 19; refine HH12.out.mono ?_; rintro e w13 ⟨rfl, rfl⟩; refine Hid.out ?_)
    refine (show ∀ {p : Prop}, p → Hid p from fun h => h) ?_
    clear HH12
    obtain ⟨c0, c1⟩ := L12.cells
    have HT13 := hideIt (toGraph_G N fs n a c hn1 (L12.es HF.out) (Good.refl _))
    go_wp2_with (go_at_call 9; refine HT13.out.mono ?_; rintro e w14 ⟨g14, rfl, ho14, hg14, _⟩; refine Hid.out ?_)
    refine (show ∀ {p : Prop}, p → Hid p from fun h => h) ?_
    have L14 := L12.good hg14
    have RW14 := RW12.up hg14
    have RG14 := RG12.up hg14
    have HI14 := hideIt (HDi.out w14 w14 (Good.refl w14) g14 (Es_of_own ho14))
    clear HT13 c0 c1 ho14 hg14 L12 RW12 RG12
    go_wp2_with (go_at_call 16; refine HI14.out.mono ?_; rintro e w15 ⟨ah, mh, ch, rfl, RH, hg15, _⟩; refine Hid.out ?_)
    refine (show ∀ {p : Prop}, p → Hid p from fun h => h) ?_
    have L15 := L14.good hg15
    have RW15 := RW14.up hg15
    have RG15 := RG14.up hg15
    have hmh : mh ≤ 200 := by rw [← RH.len]; exact hgl
    clear HI14 hg15 L14 RW14 RG14
    have HE15 := hideIt (eqRB RH RW15 (by omega))
    go_wp2_with (go_at_call 17; refine HE15.out.mono ?_; rintro e w16 ⟨rfl, hb16⟩; refine Hid.out ?_)
    refine (show ∀ {p : Prop}, p → Hid p from fun h => h) ?_
    have L16 := L15.up hb16
    have RG16 := RG15.up hb16
    clear HE15 hb16 L15 RW15 RG15 RH
    have HH16 := hideIt (heldRB 1 RG16 (by omega) (by omega))
    go_wp2_with (go_at_call 19; refine HH16.out.mono ?_; rintro e w17 ⟨rfl, rfl⟩)
    go_ret
    exact ⟨rfl, L16.below⟩
  · rw [if_neg hn1] at HS
    go_enter Try.func4, Try.ntmps4
    go_wp2_with (go_at_call 7; refine (show Calls Try.prog 7 _ (lwL w N a n c) _ from HS.out).mono ?_; rintro e w1 ⟨rfl, hb1⟩)
    go_ret
    exact ⟨rfl, HB.out.trans (Below.mono hb1 (by rw [lwL_size]; omega))⟩
end Go.Proofs.Ytfkoddhojcjohab
