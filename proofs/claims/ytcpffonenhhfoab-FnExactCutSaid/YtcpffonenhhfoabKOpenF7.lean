/- The walk of FnExactCut. A forest that comes in. -/
import Derived.Test.YtcpffonenhhfoabKSTree7
import Derived.Test.YtcpffonenhhfoabKICut7
import Derived.Deep.DeepCutAuto
import Derived.Test.YtcpffonenhhfoabKIBack
import Derived.WalkKit
import Derived.ProofKit
import Derived.OpenShut
import Derived.ChangeOld
import Derived.ChangeArms
import Derived.Below
import Derived.ChangeSlices
namespace Go.Proofs.Ytcpffonenhhfoab
open Go.RowKit

/-- an edge as the machine bears it -/
def FitE7 (f : EdgeV) : Prop := (Lit.int .i64 f.1).wf = true ∧ (Lit.int .i64 f.2).wf = true
theorem FP_small {N : Int} {ts : List (List Int)} (h : FP N ts) : ts.length + lnS ts ≤ 1000 := by
  have h1 := h.2.2.1
  have h2 : ∀ l : List (List Int), (∀ t ∈ l, tB t = true) → lnS l ≤ 23 * l.length := fun l hl => by
    induction l with
    | nil => simp [lnS]
    | cons t r ih =>
      have h3 := tB_len (hl t (by simp))
      have h4 := ih fun s hs => hl s (by simp [hs])
      simp only [lnS, List.map_cons, List.sum_cons, List.length_cons] at h4 ⊢
      omega
  have h5 := h2 ts fun t ht => (h.q.1 t ht).1
  omega
theorem cutO_len {N : Int} {ts : List (List Int)} {x : EdgeV} : ((cutO N ts x).getD []).length + lnS ((cutO N ts x).getD []) ≤ 1000 := by
  by_cases h : FP N ts ∧ eB N x = true ∧ (spO (tat ts (trI ts x.1)) x.1 x.2).2.2 = true
  · obtain ⟨M, rfl, hM1, hM2⟩ := FP_nat h.1
    obtain ⟨i, j, p, q, hi, hj, hu, hv⟩ := edge_at h.1 h.2.1
    have h3 := h.2.2
    rw [trI_of h.1.q hi hu, tat_at hi] at h3
    obtain ⟨A, B, hS⟩ : ∃ A B, spO p x.1 x.2 = (A, B, true) := ⟨_, _, by rw [← h3]⟩
    rw [cutO_yes h.1 h.2.1 hi hu hS]
    exact FP_small (FP_srt hM1 hM2 (cut_fq h.1 hi hS))
  · rw [cutO_no h]
    simp [lnS]
set_option maxRecDepth 100000 in
set_option maxHeartbeats 8000000 in
theorem fnExactCut.walk (N : Int) (_hN : (Lit.int .i64 N).wf = true) (fs : List (List Int)) (hft : ∀ f ∈ fs, f.length ≤ maxLen) (n : Nat) (a : Option Addr) (c : Nat) (hn : n ≤ maxLen) (x : EdgeV) (_hx : FitE7 x) (w : World) (h : Ts w w.heap.size a n fs) :
    Calls Try.prog 3 #[.agg #[.int .i64 N, .slice a n c], .agg #[.int .i64 x.1, .int .i64 x.2]] w fun e w' => e = .returned (.bool true) ∧ Below w.heap.size w w' := by
  have HS := hideIt (szForest_any N fs n a c hn hft (lw7 w N a n c x) (h.up (LG7.start w N a n c x).below))
  have HF := hideIt h
  have HB := hideIt (LG7.start w N a n c x).below
  clear h
  by_cases hn1 : n + lnS fs ≤ 1048576
  · have d1 : decide (szv n fs < 0) = false := decide_eq_false (by unfold szv; rw [if_pos hn1]; omega)
    generalize szv n fs = zz0 at *
    have hgl := cutO_len (N := N) (ts := fs) (x := x)
    have HDs := hideIt (fun u0 u (hu : Good u0 u) B g R ho (hR : Hid (rts R = fs)) => ans_S (fun g w h => sCut_any N fs x n (some ⟨g, 0, none⟩) n hn1 w h) hu (B := B) (g := g) (R := R) ho hR.out)
    have HDi := hideIt (fun u0 u (hu : Good u0 u) B g R ho (hR : Hid (rts R = fs)) => ans_I (fun g w h => iCut_any N fs x n (some ⟨g, 0, none⟩) n hn1 w h) hu (B := B) (g := g) (R := R) ho hR.out)
    have HA := hideIt (fun u0 u (hu : Good u0 u) B m aa R ho => toEdge_G7 x hu (B := B) (n := m) (aa := aa) (R := R) ho)
    generalize (if (cutO N fs x).isSome then N else 0) = M at *
    generalize (cutO N fs x).isSome = fl at *
    generalize (cutO N fs x).getD [] = gs at *
    have hff : (fl != fl) = false := by simp
    go_enter Try.func3, Try.ntmps3
    go_wp2_with (go_at_call 6; refine (show Calls Try.prog 6 _ (lw7 w N a n c x) _ from HS.out).mono ?_; rintro e w2 ⟨rfl, hb1⟩; refine Hid.out ?_)
    refine (show ∀ {p : Prop}, p → Hid p from fun h => h) ?_
    have L2 : LG7 w N a n c x w2 := (LG7.start w N a n c x).up hb1
    clear hb1 HS
    obtain ⟨⟨c0, c1⟩, c2, c3⟩ := L2.cells
    have HC := hideIt (fun u (hu : Good w2 u) => And.intro (L2.good hu).cells hu)
    have hS2 := HC.out _ (Good.refl w2).drew
    have zz := L2.size
    go_upto_region 5 with fail
    go_cut [6, 7] (fun p ok wx => ∃ b aw mw cw, p = .pointer (some ⟨b, 0, none⟩) ∧ ok = .bool fl ∧ Good w2 wx ∧ TBox wx wx.heap.size b M aw mw cw gs)
    case first =>
      have HT := hideIt (fun u (hu : Good w2 u) => toForest_G N fs n a c hn1 (L2.ts HF.out) hu)
      go_region_held3 (fun u => ((u.cell? ⟨w.heap.size, 0, none⟩ = some (.int .i64 N) ∧ u.cell? ⟨w.heap.size, 1, none⟩ = some (.slice a n c)) ∧ u.cell? ⟨w.heap.size + 1, 0, none⟩ = some (.int .i64 x.1) ∧ u.cell? ⟨w.heap.size + 1, 1, none⟩ = some (.int .i64 x.2)) ∧ Good w2 u)
        (first | assumption | exact HC.out _ (Good.alloc (And.right (by assumption)) _) | exact HC.out _ (Good.set (Good.set (And.right (by assumption)) _ _ _ (by omega)) _ _ _ (by omega)))
        (first
          | (go_at_call 8; refine (HT.out _ (And.right (by assumption))).mono ?_; rintro e w3 ⟨g3, R3, rfl, ho3, hr3, hg3, hk3⟩; have hS3 := HC.out _ hg3; have z3 := hg3.size; try (have bx := hk3.nil (Box7.new w2 _ _ _ _ rfl)))
          | (go_at_call 9; refine (HA.out w2 _ (And.right (by assumption)) _ _ _ _ (by first | assumption | exact FB.keep (by assumption) ((Below.refl _ _).alloc (Nat.le_refl _) _))).mono ?_; rintro e w4 ⟨rfl, ho4, hg4, hk4⟩; have hS4 := HC.out _ hg4; have z4 := hg4.size; first | have bx := hk4.nil bx | have bx := hk4.nil (Box7.new w3 _ _ _ _ rfl) | skip)
          | (go_at_call 7; refine (HDs.out w2 _ (And.right (by assumption)) _ _ _ (by first | assumption | exact FB.keep (by assumption) ((Below.refl _ _).alloc (Nat.le_refl _) _)) hr3).mono ?_; rintro e w5 ⟨aw, mw, cw, hs5, rfl, ho5, hg5, hk5, hn5⟩; have hS5 := HC.out _ hg5; have z5 := hg5.size; (first | have nx := hn5 _ bx | have nx := hn5 _ (Box7.new w4 _ _ _ _ rfl) | skip); (first | have bx := hk5.nil bx | have bx := hk5.nil (Box7.new w4 _ _ _ _ rfl) | skip); try (have bc0 := bx.cell0; have bc1 := bx.cell1; have bz0 := bx.frozen 0; have bz1 := bx.frozen 1)))
      all_goals
        go_wp2_with fail
        go_meet
        first
          | exact ⟨_, aw, mw, cw, rfl, rfl, Good.set (Good.set hg5 _ _ _ (by omega)) _ _ _ (by omega), TBox.stored bx ho5.1 ho5.2 nx⟩
          | exact ⟨_, aw, mw, cw, rfl, rfl, Good.alloc hg5 _, TBox.laid ho5.1 ho5.2⟩
    case rest =>
      obtain ⟨b, aw, mw, cw, rfl, rfl, G3, DW⟩ := hcut
      have L3 := L2.good G3
      have z3 := L3.size
      clear c0 c1 c2 c3 HC hS2
      obtain ⟨⟨c0, c1⟩, c2, c3⟩ := L3.cells
      have HT3 := hideIt (toForest_G N fs n a c hn1 (L3.ts HF.out) (Good.refl wc))
      go_wp2_with (go_at_call 8; refine HT3.out.mono ?_; rintro e w4 ⟨g4, R4, rfl, ho4, hr4, hg4, _⟩; refine Hid.out ?_)
      refine (show ∀ {p : Prop}, p → Hid p from fun h => h) ?_
      clear HT3 c0 c1 c2 c3
      go_upto_region 7 with fail
      have hz4 := hg4.size
      have DX := OBox.laid (M := N) (lo := wc.heap.size) hz4 ho4
      have G4 := hg4.alloc (.cells #[.int .i64 N, .slice (some ⟨g4, 0, none⟩) n n] 28)
      have L4 := L3.good G4
      have DW4 := DW.up G4
      have hC0 : w.heap.size + 2 ≤ w2.heap.size := zz
      have hC1 : w2.heap.size ≤ wc.heap.size := G3.size
      clear ho4 hg4 DW G3 L3 z3 hz4
      obtain ⟨u1, bX, C1, e1, e2, e3⟩ : ∃ u1 bX C1, u1 = w4.alloc (.cells #[.int .i64 N, .slice (some ⟨g4, 0, none⟩) n n] 28) ∧ bX = w4.heap.size ∧ C1 = wc.heap.size := ⟨_, _, _, rfl, rfl, rfl⟩
      rw [← e1] at DX L4 DW4 G4 ⊢
      rw [← e2] at DX ⊢
      rw [← e3] at DX DW4 hC1
      clear e1 e2 e3 G4
      have z4 := L4.size
      have HC4 := hideIt (fun u (hu : Good u1 u) => And.intro (And.intro (DX.up hu).cells (L4.good hu).cells.2) hu)
      have hS4 := HC4.out _ (Good.refl u1).drew
      have hox := (show FB u1.drew C1 u1.drew.heap.size (some ⟨g4, 0, none⟩) n n R4 from (DX.fb.hi (Nat.le_refl _) DX.fb.there).up (Below.drew (Below.refl _ _)))
      have o1 := DX.cells.1
      have o2 := DX.cells.2
      go_cut [9, 10] (fun p ok wx => ∃ b2 ag mg cg Rg, p = .pointer (some ⟨b2, 0, none⟩) ∧ ok = .bool fl ∧ Good u1 wx ∧ Hid (rts Rg = gs) ∧ OBox wx u1.heap.size wx.heap.size b2 M ag mg cg Rg)
      case first =>
        go_region_held3 (fun u => ((u.cell? ⟨bX, 0, none⟩ = some (.int .i64 N) ∧ u.cell? ⟨bX, 1, none⟩ = some (.slice (some ⟨g4, 0, none⟩) n n)) ∧ u.cell? ⟨w.heap.size + 1, 0, none⟩ = some (.int .i64 x.1) ∧ u.cell? ⟨w.heap.size + 1, 1, none⟩ = some (.int .i64 x.2)) ∧ Good u1 u)
          (first | assumption | exact HC4.out _ (Good.alloc (And.right (by assumption)) _) | exact HC4.out _ (Good.set (Good.set (And.right (by assumption)) _ _ _ (by omega)) _ _ _ (by omega)))
          (first
            | (go_at_call 9; refine (HA.out u1 _ (And.right (by assumption)) C1 n (some ⟨g4, 0, none⟩) R4 (by first | assumption | exact FB.keep (by assumption) ((Below.refl _ _).alloc (Nat.le_refl _) _))).mono ?_; rintro e w5 ⟨rfl, ho5, hg5, hk5⟩; have hS5 := HC4.out _ hg5; have z5 := hg5.size; first | have bx := hk5.nil (Box7.new u1 _ _ _ _ rfl) | skip)
            | (go_at_call 10; refine (HDi.out u1 _ (And.right (by assumption)) C1 g4 R4 (by first | assumption | exact FB.keep (by assumption) ((Below.refl _ _).alloc (Nat.le_refl _) _)) hr4).mono ?_; rintro e w6 ⟨ag, mg, cg, Rg, rfl, ho6, hrg, hg6, hk6⟩; have hS6 := HC4.out _ hg6; have z6 := hg6.size; (first | have bx := hk6.nil bx | have bx := hk6.nil (Box7.new w5 _ _ _ _ rfl) | skip); try (have bc0 := bx.cell0; have bc1 := bx.cell1; have bz0 := bx.frozen 0; have bz1 := bx.frozen 1)))
        all_goals
          go_wp2_with fail
          go_meet
          first
            | exact ⟨_, ag, mg, cg, Rg, rfl, rfl, Good.set (Good.set hg6 _ _ _ (by omega)) _ _ _ (by omega), hrg, OBox.stored bx (by omega) ho6⟩
            | exact ⟨_, ag, mg, cg, Rg, rfl, rfl, Good.alloc hg6 _, hrg, OBox.laid (by omega) ho6⟩
      case rest =>
        obtain ⟨b2, ag, mg, cg, Rg, rfl, rfl, G5, hrg, DG⟩ := hcut
        have L5 := L4.good G5
        have DW5 := DW4.up G5
        have DX5 := DX.up G5
        have hC2 : C1 ≤ u1.heap.size := by have := DX.least; have := DX.most; omega
        have hmg : mg + lnS gs ≤ 1000 := by rw [← DG.fb.len, ← rts_len, hrg.out]; exact hgl
        have hrng : mg + rn Rg ≤ 1000 := by rw [rn_lnS, hrg.out]; exact hmg
        have hrn4 : n + rn R4 ≤ 1048576 := by rw [rn_lnS, hr4.out]; exact hn1
        clear HC4 hS4 hox o1 o2 DX DW4
        have q0 := DG.cells.1
        have q1 := DW5.cells.1
        have q2 := DG.cells.2
        have q3 := DW5.cells.2
        have HE5 := hideIt (eqOT DG DW5 hrg.out (by omega))
        go_wp2_with (go_at_call 11; refine HE5.out.mono ?_; rintro e w6 ⟨rfl, hb6⟩; refine Hid.out ?_)
        refine (show ∀ {p : Prop}, p → Hid p from fun h => h) ?_
        have L6 := L5.up hb6
        have DW6 := DW5.up hb6
        have DX6 := DX5.up hb6
        have DG6 := DG.up hb6
        have hz6 := hb6.size
        clear HE5 hb6 q0 q1 q2 q3 DG DW5 DX5 L5
        have HC6 := hideIt (fun u (hu : Good w6 u) => And.intro (And.intro (DX6.up hu).cells (L6.good hu).cells.1) hu)
        have hS6 := HC6.out _ (Good.refl w6).drew
        have HT6 := hideIt (fun u (hu : Good w6 u) => toForest_G N fs n a c hn1 (L6.ts HF.out) hu)
        have HX6 := hideIt (fun u (hu : Good w6 u) => (show Ts u u.heap.size (some ⟨g4, 0, none⟩) n fs from hr4.out ▸ (DX6.up hu).fb.ts))
        go_upto_region 10 with fail
        go_region_held3 (fun u => ((u.cell? ⟨bX, 0, none⟩ = some (.int .i64 N) ∧ u.cell? ⟨bX, 1, none⟩ = some (.slice (some ⟨g4, 0, none⟩) n n)) ∧ u.cell? ⟨w.heap.size, 0, none⟩ = some (.int .i64 N) ∧ u.cell? ⟨w.heap.size, 1, none⟩ = some (.slice a n c)) ∧ Good w6 u)
          (first | assumption)
          (first
            | (go_at_call 8; refine (HT6.out _ (And.right (by assumption))).mono ?_; rintro e w7 ⟨g7, R7, rfl, ho7, hr7, hg7, _⟩; have hS7 := HC6.out _ hg7)
            | (go_at_call 11; refine (eqForest_same N fs n _ _ _ _ hn1 _ (HX6.out _ hg7) (hr7.out ▸ ho7.ts)).mono ?_; rintro e w8 ⟨rfl, hb8⟩; have hg8 := hg7.up hb8; have hS8 := HC6.out _ hg8))
        have L8 := L6.good hg8
        have DW8 := DW6.up hg8
        have DX8 := DX6.up hg8
        have DG8 := DG6.up hg8
        have hz8 := hg8.size
        clear HC6 hS6 HT6 HX6 hS7 hS8 hg7 ho7 hb8 L6 DW6 DX6 DG6
        have q2 := DX8.cells.1
        have q3 := DX8.cells.2
        have HM8 := hideIt (markOB DX8 1 hrn4 (by omega))
        go_wp2_with (go_at_call 12; refine HM8.out.mono ?_; rintro e w9 ⟨rfl, hDX9, hr9⟩; refine Hid.out ?_)
        refine (show ∀ {p : Prop}, p → Hid p from fun h => h) ?_
        have L9 := L8.rng hr9 (by omega)
        have DW9 := DW8.rng hr9 (Nat.le_refl _)
        have DG9 := DG8.rng hr9 (.inr (Nat.le_refl _))
        clear HM8 q2 q3 L8 DW8 DX8 DG8 hr9 hDX9
        have d3 : decide ((1 : Int) + (rn R4 : Int) < 0) = false := decide_eq_false (by omega)
        have q0 := DG9.cells.1
        have q1 := DW9.cells.1
        have q2 := DG9.cells.2
        have q3 := DW9.cells.2
        have HE9 := hideIt (eqOT DG9 DW9 hrg.out (by omega))
        go_wp2_with (go_at_call 11; refine HE9.out.mono ?_; rintro e w10 ⟨rfl, hb10⟩; refine Hid.out ?_)
        refine (show ∀ {p : Prop}, p → Hid p from fun h => h) ?_
        have L10 := L9.up hb10
        have DW10 := DW9.up hb10
        have DG10 := DG9.up hb10
        clear HE9 hb10 q0 q1 q2 q3 L9 DW9 DG9
        have q0 := DG10.cells.1
        have q1 := DG10.cells.2
        have HM10 := hideIt (markOB DG10 1 (by omega) (by omega))
        go_wp2_with (go_at_call 12; refine HM10.out.mono ?_; rintro e w11 ⟨rfl, DG11, hr11⟩; refine Hid.out ?_)
        refine (show ∀ {p : Prop}, p → Hid p from fun h => h) ?_
        have L11 := L10.rng hr11 (by omega)
        have DW11 := DW10.rng hr11 (by omega)
        clear HM10 q0 q1 L10 DW10 DG10 hr11
        have q0 := DG11.cells.1
        have q1 := DG11.cells.2
        have HH11 := hideIt (heldOB 1 DG11 (by omega) (by omega))
        have d4 : decide ((1 : Int) + (rn Rg : Int) < 0) = false := decide_eq_false (by omega)
        have d5 : ((1 : Int) + (rn Rg : Int) != (1 : Int) + (rn Rg : Int)) = false := by simp
        go_wp2_with (go_at_call 13; refine HH11.out.mono ?_; rintro e w12 ⟨rfl, hb12⟩; refine Hid.out ?_)
        refine (show ∀ {p : Prop}, p → Hid p from fun h => h) ?_
        have L12 := L11.up hb12
        have DW12 := DW11.up hb12
        have DG12 := DG11.up hb12
        clear HH11 hb12 q0 q1 L11 DW11 DG11
        have HC12 := hideIt (fun u (hu : Good w12 u) => And.intro (L12.good hu).cells hu)
        have hS12 := HC12.out _ (Good.refl w12).drew
        have zz12 := L12.size
        obtain ⟨⟨c0, c1⟩, c2, c3⟩ := L12.cells
        go_upto_region 24 with fail
        go_cut [14, 15] (fun p ok wx => ∃ b3 ah mh ch Rh, p = .pointer (some ⟨b3, 0, none⟩) ∧ ok = .bool fl ∧ Good w12 wx ∧ Hid (rts Rh = gs) ∧ OBox wx w12.heap.size wx.heap.size b3 M ah mh ch Rh)
        case first =>
          have HT := hideIt (fun u (hu : Good w12 u) => toForest_G N fs n a c hn1 (L12.ts HF.out) hu)
          go_region_held3 (fun u => ((u.cell? ⟨w.heap.size, 0, none⟩ = some (.int .i64 N) ∧ u.cell? ⟨w.heap.size, 1, none⟩ = some (.slice a n c)) ∧ u.cell? ⟨w.heap.size + 1, 0, none⟩ = some (.int .i64 x.1) ∧ u.cell? ⟨w.heap.size + 1, 1, none⟩ = some (.int .i64 x.2)) ∧ Good w12 u)
            (first | assumption | exact HC12.out _ (Good.alloc (And.right (by assumption)) _) | exact HC12.out _ (Good.set (Good.set (And.right (by assumption)) _ _ _ (by omega)) _ _ _ (by omega)))
            (first
              | (go_at_call 8; refine (HT.out _ (And.right (by assumption))).mono ?_; rintro e w3 ⟨g3, R3, rfl, ho3, hr3, hg3, hk3⟩; have hS3 := HC12.out _ hg3; have z3 := hg3.size; try (have bx := hk3.nil (Box7.new w12 _ _ _ _ rfl)))
              | (go_at_call 9; refine (HA.out w12 _ (And.right (by assumption)) _ _ _ _ (by first | assumption | exact FB.keep (by assumption) ((Below.refl _ _).alloc (Nat.le_refl _) _))).mono ?_; rintro e w4 ⟨rfl, ho4, hg4, hk4⟩; have hS4 := HC12.out _ hg4; have z4 := hg4.size; first | have bx := hk4.nil bx | have bx := hk4.nil (Box7.new w3 _ _ _ _ rfl) | skip)
              | (go_at_call 10; refine (HDi.out w12 _ (And.right (by assumption)) _ _ _ (by first | assumption | exact FB.keep (by assumption) ((Below.refl _ _).alloc (Nat.le_refl _) _)) hr3).mono ?_; rintro e w5 ⟨ah, mh, ch, Rh, rfl, ho5, hrh, hg5, hk5⟩; have hS5 := HC12.out _ hg5; have z5 := hg5.size; (first | have bx := hk5.nil bx | have bx := hk5.nil (Box7.new w4 _ _ _ _ rfl) | skip); try (have bc0 := bx.cell0; have bc1 := bx.cell1; have bz0 := bx.frozen 0; have bz1 := bx.frozen 1)))
          all_goals
            go_wp2_with fail
            go_meet
            first
              | exact ⟨_, ah, mh, ch, Rh, rfl, rfl, Good.set (Good.set hg5 _ _ _ (by omega)) _ _ _ (by omega), hrh, OBox.stored bx (by omega) ho5⟩
              | exact ⟨_, ah, mh, ch, Rh, rfl, rfl, Good.alloc hg5 _, hrh, OBox.laid (by omega) ho5⟩
        case rest =>
          obtain ⟨b3, ah, mh, ch, Rh, rfl, rfl, G13, hrh, DH⟩ := hcut
          have L13 := L12.good G13
          have DW13 := DW12.up G13
          have DG13 := DG12.up G13
          have hmh : mh + lnS gs ≤ 1000 := by rw [← DH.fb.len, ← rts_len, hrh.out]; exact hgl
          clear c0 c1 c2 c3 HC12 hS12 L12 DW12 DG12
          have q0 := DH.cells.1
          have q1 := DW13.cells.1
          have q2 := DH.cells.2
          have q3 := DW13.cells.2
          have HE13 := hideIt (eqOT DH DW13 hrh.out (by omega))
          go_wp2_with (go_at_call 11; refine HE13.out.mono ?_; rintro e w14 ⟨rfl, hb14⟩; refine Hid.out ?_)
          refine (show ∀ {p : Prop}, p → Hid p from fun h => h) ?_
          have L14 := L13.up hb14
          have DG14 := DG13.up hb14
          clear HE13 hb14 q0 q1 q2 q3 L13 DW13 DG13
          have q0 := DG14.cells.1
          have q1 := DG14.cells.2
          have HH14 := hideIt (heldOB 1 DG14 (by omega) (by omega))
          go_wp2_with (go_at_call 13; refine HH14.out.mono ?_; rintro e w15 ⟨rfl, hb15⟩)
          go_ret
          exact ⟨rfl, (L14.up hb15).below⟩
  · have HV : Hid (szv n fs = -1) := by show _ = _; unfold szv; rw [if_neg hn1]
    have d1 : decide (szv n fs < 0) = true := decide_eq_true (by have := HV.out; omega)
    generalize szv n fs = zz0 at *
    go_enter Try.func3, Try.ntmps3
    go_wp2_with (go_at_call 6; refine (show Calls Try.prog 6 _ (lw7 w N a n c x) _ from HS.out).mono ?_; rintro e w1 ⟨rfl, hb1⟩)
    go_ret
    exact ⟨rfl, HB.out.trans (Below.mono hb1 (by rw [lw7_size]; omega))⟩
end Go.Proofs.Ytcpffonenhhfoab
namespace Go.Proofs.Ytcpffonenhhfoab
open Go.RowKit Go.ChangeShapes Go.WideShapes Go.ChangeAt

theorem two7 {α : Type} {l : List α} (h : l.length = 2) : ∃ a b, l = [a, b] := by
  match l, h with
  | [a, b], _ => exact ⟨a, b, rfl⟩
/-- a row of numbers -/
theorem open_int1 {H : Type} {enc : TypeId × Value → H} {W : World} {fuel : Nat} {cs : List Value} {y : DataW H × List MemPlace}
    (h : DataW.trod enc Try.prog W 0 (fun _ => true) true fuel 45 cs = some y) : ∃ (a : Option Addr) (n c : Nat) (ls : List Int), cs = [.slice a n c] ∧ n ≤ maxLen ∧ n ≤ c ∧ Is W W.heap.size a n ls := by
  rcases open_ints Try.underlying45 Try.underlying3 (by kernel_rfl) h with ⟨hcs, _⟩ | ⟨x, l, c, zs, hcs, _, hl, hm, hz, _, hcell, hwz⟩
  · exact ⟨none, 0, 0, [], hcs, by unfold maxLen; omega, by omega, ⟨rfl, .inl rfl⟩⟩
  · have hzl : zs.length = c := by simpa using hz
    by_cases h0 : l = 0
    · subst h0
      exact ⟨_, 0, c, [], hcs, by unfold maxLen; omega, by omega, ⟨rfl, .inl rfl⟩⟩
    · obtain ⟨b, off, rfl, hc⟩ := ints_at hcell (by omega)
      have hb : b < W.heap.size := World.block_lt_of_cell? W _ (hc 0 (by omega))
      refine ⟨_, l, c, zs.take l, hcs, by omega, by omega, ⟨by rw [List.length_take]; omega, .inr ⟨b, off, rfl, hb, fun j x hx => ?_⟩⟩⟩
      have hj : j < l := by have := (List.getElem?_eq_some_iff.1 hx).1; rw [List.length_take] at this; omega
      rw [List.getElem?_take_of_lt hj] at hx
      rw [hc j (by omega), List.getD_eq_getElem?_getD, hx]
      rfl
theorem open_intSS {H : Type} {enc : TypeId × Value → H} {W : World} {a : Option Addr} {len cap fuel : Nat} {x : DataW H × List MemPlace}
    (h : DataW.trod enc Try.prog W 0 (fun _ => true) true fuel 22 [.slice a len cap] = some x) : len ≤ maxLen ∧ ∃ ts : List (List Int), Ts W W.heap.size a len ts ∧ ∀ t ∈ ts, t.length ≤ maxLen := by
  rcases DataW.trod_slice Try.underlying22 h with ⟨hcs, _⟩ | ⟨ad, l, c, elems, rest, n, _, hcs, _, _, hlc, hm, hel, hei, _, _⟩
  · simp at hcs
    obtain ⟨rfl, rfl, rfl⟩ := hcs
    exact ⟨by unfold maxLen; omega, [], ⟨rfl, .inl rfl⟩, by simp⟩
  · simp at hcs
    obtain ⟨rfl, rfl, rfl⟩ := hcs
    refine ⟨by omega, ?_⟩
    have each : ∀ i, i < len → ∃ t : List Int, (∃ (a' : Option Addr) (c' : Nat), W.cell? ((ad.add i).add 0) = some (.slice a' t.length c') ∧ Is W W.heap.size a' t.length t ∧ t.length ≤ c') ∧ t.length ≤ maxLen := by
      intro i hi
      have h1 := hei i hi
      obtain ⟨y, hy⟩ : ∃ y, elems[i]? = some y := ⟨elems[i]'(by omega), List.getElem?_eq_getElem _⟩
      rw [hy, Option.bind_eq_some_iff] at h1
      obtain ⟨cs', hc, ht⟩ := h1
      obtain ⟨a', n', c', ls, rfl, q1, q2, q3⟩ := open_int1 ht
      rw [show Try.prog.cellsOf 45 = 1 by kernel_rfl] at hc
      have hcell := (World.cells?_some hc).2.2
      have hn := q3.1
      subst hn
      refine ⟨ls, ⟨a', c', ?_, q3, q2⟩, q1⟩
      simpa using hcell 0 (by omega)
    by_cases h0 : len = 0
    · subst h0
      exact ⟨[], ⟨rfl, .inl rfl⟩, by simp⟩
    · obtain ⟨f0, ⟨_, _, hc0, _⟩, _⟩ := each 0 (by omega)
      obtain ⟨b, off, spot⟩ := ad
      have hspot : spot = none := by simpa [Addr.add] using World.cell?_spot hc0
      subst hspot
      have hb : b < W.heap.size := by
        have := World.block_lt_of_cell? W _ hc0
        simpa [Addr.add] using this
      obtain ⟨F, hF⟩ := Classical.axiomOfChoice (fun i : Fin len => each i.1 i.2)
      refine ⟨List.ofFn F, ⟨by simp, .inr ⟨b, off, rfl, hb, fun j f hf => ?_⟩⟩, fun f hf => ?_⟩
      · obtain ⟨hj, rfl⟩ := List.getElem?_eq_some_iff.1 hf
        have hj' : j < len := by simpa using hj
        obtain ⟨⟨a', c', c0, c1⟩, _⟩ := hF ⟨j, hj'⟩
        rw [add_plain, add_plain, Nat.add_zero] at c0
        simp only [List.getElem_ofFn]
        exact ⟨a', c', c0, c1⟩
      · obtain ⟨i, rfl⟩ := List.mem_ofFn.1 hf
        exact (hF i).2
set_option maxRecDepth 100000 in
/-- a forest that comes in -/
theorem open_forest {H : Type} {enc : TypeId × Value → H} {W : World} {r : Reach} {base : Nat} {v : Value} {d : DataW H} {p : List MemPlace}
    (hv : Value.okWide Try.prog W r base 24 v) (h : DataW.Trod enc Try.prog W 0 (fun _ => true) true 24 v d p) :
    ∃ (N : Int) (a : Option Addr) (n c : Nat) (ts : List (List Int)), v = .agg #[.int .i64 N, .slice a n c] ∧ (Lit.int .i64 N).wf = true ∧ n ≤ maxLen ∧ Ts W W.heap.size a n ts ∧ ∀ t ∈ ts, t.length ≤ maxLen := by
  obtain ⟨cs, rfl, hcs⟩ := okWide_struct Try.underlying24 hv
  obtain ⟨fuel, hf⟩ := h
  obtain ⟨xs, n, _, _, hl, hlen, hfi⟩ := DataW.trod_struct Try.underlying24 hf
  rw [show Try.prog.cellsOf 24 = 2 by kernel_rfl] at hcs hl
  obtain ⟨l⟩ := cs
  obtain ⟨c0, c1, rfl⟩ := two7 (by simpa using hcs : l.length = 2)
  have ec : (Value.agg (List.toArray [c0, c1])).cells.toList = [c0, c1] := by simp [Value.cells]
  rw [ec] at hfi
  have h0 : DataW.trod enc Try.prog W 0 (fun _ => true) true n 3 (([c0, c1].drop 0).take (Try.prog.cellsOf 3)) = xs[0]? := hfi 0 _ rfl
  have h1 : DataW.trod enc Try.prog W 0 (fun _ => true) true n 22 (([c0, c1].drop 1).take (Try.prog.cellsOf 22)) = xs[1]? := hfi 1 _ rfl
  rw [show Try.prog.cellsOf 3 = 1 by kernel_rfl] at h0
  rw [show Try.prog.cellsOf 22 = 1 by kernel_rfl] at h1
  have g : ∀ i, i < 2 → ∃ z, xs[i]? = some z := fun i hi => ⟨xs[i]'(by simp at hlen; omega), List.getElem?_eq_getElem _⟩
  obtain ⟨z0, e0⟩ := g 0 (by omega)
  obtain ⟨z1, e1⟩ := g 1 (by omega)
  rw [e0] at h0
  rw [e1] at h1
  obtain ⟨k0, hk0, _, w0⟩ := DataW.trod_int Try.underlying3 h0
  simp at hk0
  subst hk0
  have h1' : DataW.trod enc Try.prog W 0 (fun _ => true) true n 22 [c1] = some z1 := by simpa using h1
  rcases DataW.trod_slice Try.underlying22 h1' with ⟨hx, _⟩ | ⟨ad, l, c, _, _, _, _, hx, _⟩
  · simp at hx
    subst hx
    obtain ⟨q1, fs, q2, q3⟩ := open_intSS h1'
    exact ⟨k0, _, _, _, fs, rfl, w0, q1, q2, q3⟩
  · simp at hx
    subst hx
    obtain ⟨q1, fs, q2, q3⟩ := open_intSS h1'
    exact ⟨k0, _, _, _, fs, rfl, w0, q1, q2, q3⟩
theorem open_edge1 {H : Type} {enc : TypeId × Value → H} {W : World} {fuel : Nat} {cs : List Value} {y : DataW H × List MemPlace}
    (h : DataW.trod enc Try.prog W 0 (fun _ => true) true fuel 26 cs = some y) : ∃ f : Int × Int, cs = [.int .i64 f.1, .int .i64 f.2] ∧ ((Lit.int .i64 f.1).wf = true ∧ (Lit.int .i64 f.2).wf = true) := by
  obtain ⟨xs, n, _, _, hl, hlen, hf⟩ := DataW.trod_struct Try.underlying26 h
  rw [show Try.prog.cellsOf 26 = 2 by kernel_rfl] at hl
  obtain ⟨c0, c1, rfl⟩ := two7 hl
  have h0 : DataW.trod enc Try.prog W 0 (fun _ => true) true n 3 (([c0, c1].drop 0).take (Try.prog.cellsOf 3)) = xs[0]? := hf 0 _ rfl
  have h1 : DataW.trod enc Try.prog W 0 (fun _ => true) true n 3 (([c0, c1].drop 1).take (Try.prog.cellsOf 3)) = xs[1]? := hf 1 _ rfl
  rw [show Try.prog.cellsOf 3 = 1 by kernel_rfl] at h0 h1
  have g : ∀ i, i < 2 → ∃ z, xs[i]? = some z := fun i hi => ⟨xs[i]'(by simp at hlen; omega), List.getElem?_eq_getElem _⟩
  obtain ⟨z0, e0⟩ := g 0 (by omega)
  obtain ⟨z1, e1⟩ := g 1 (by omega)
  rw [e0] at h0
  rw [e1] at h1
  obtain ⟨k0, hk0, _, w0⟩ := DataW.trod_int Try.underlying3 h0
  obtain ⟨k1, hk1, _, w1⟩ := DataW.trod_int Try.underlying3 h1
  simp at hk0 hk1
  subst hk0 hk1
  exact ⟨⟨k0, k1⟩, rfl, w0, w1⟩
set_option maxRecDepth 100000 in
/-- an edge that comes in -/
theorem open_edge {H : Type} {enc : TypeId × Value → H} {W : World} {r : Reach} {base : Nat} {v : Value} {d : DataW H} {p : List MemPlace}
    (hv : Value.okWide Try.prog W r base 26 v) (h : DataW.Trod enc Try.prog W 0 (fun _ => true) true 26 v d p) :
    ∃ f : Int × Int, v = .agg #[.int .i64 f.1, .int .i64 f.2] ∧ ((Lit.int .i64 f.1).wf = true ∧ (Lit.int .i64 f.2).wf = true) := by
  obtain ⟨cs, rfl, hcs⟩ := okWide_struct Try.underlying26 hv
  obtain ⟨fuel, hf⟩ := h
  obtain ⟨f, hcs2, hft⟩ := open_edge1 hf
  refine ⟨f, ?_, hft⟩
  have : (Value.agg cs).cells.toList = [.int .i64 f.1, .int .i64 f.2] := hcs2
  obtain ⟨l⟩ := cs
  simp [Value.cells] at this
  rw [this]
end Go.Proofs.Ytcpffonenhhfoab
