/- The walk of FnExactTakeEdge. -/
import Derived.Test.YtfkoddhojcjohabLawSt5
import Derived.Test.YtfkoddhojcjohabSTake
import Derived.Test.YtfkoddhojcjohabITake
import Derived.Deep.DeepCutAuto
namespace Go.Proofs.Ytfkoddhojcjohab
open Go.RowKit

theorem takE_len {N : Int} {fs : List EdgeV} {x : EdgeV} : ((takE N fs x).getD []).length ≤ 200 := by
  unfold takE
  split
  · rename_i h
    have h1 := (gB_chk h.1).2.2
    have h2 := outE_length fs x
    simp only [Option.getD_some]
    omega
  · simp

set_option maxRecDepth 100000 in
set_option maxHeartbeats 8000000 in
theorem fnExactTakeEdge.walk (N : Int) (_hN : (Lit.int .i64 N).wf = true) (fs : List EdgeV) (_hft : ∀ f ∈ fs, FitE f) (n : Nat) (a : Option Addr) (c : Nat) (hn : n ≤ maxLen) (x : EdgeV) (_hx : FitE x) (w : World) (h : Es w w.heap.size a n fs) :
    Calls Try.prog 3 #[.agg #[.int .i64 N, .slice a n c], .agg #[.int .i64 x.1, .int .i64 x.2]] w fun e w' => e = .returned (.bool true) ∧ Below w.heap.size w w' := by
  have HS := hideIt (szGraph_any N n a c hn (lw w N a n c x))
  have HF := hideIt h
  have HB := hideIt (LG.start w N a n c x).below
  clear h
  by_cases hn1 : n ≤ 1048576
  · rw [if_pos hn1] at HS
    have d1 : decide (1048576 - (n : Int) < 0) = false := decide_eq_false (by omega)
    have hgl := takE_len (N := N) (fs := fs) (x := x)
    have hsl : ∀ g, Sl (some ⟨g, 0, none⟩) n n := fun g => ⟨Nat.le_refl _, hn, .inr ⟨g, 0, rfl⟩⟩
    have HDs := hideIt (fun u0 u (hu : Good u0 u) B g ho => ans_G (fun g w h => sTakeEdge_any N fs x n (some ⟨g, 0, none⟩) n hn1 w h) hu (B := B) (g := g) ho)
    have HDi := hideIt (fun u0 u (hu : Good u0 u) B g ho => ans_G (fun g w h => iTakeEdge_any N fs x n (some ⟨g, 0, none⟩) n (hsl g) hn1 w h) hu (B := B) (g := g) ho)
    have HA := hideIt (fun u0 u (hu : Good u0 u) B m cc aa ds ho => toEdge_G x hu (B := B) (m := m) (cc := cc) (aa := aa) (ds := ds) ho)
    generalize (if (takE N fs x).isSome then N else 0) = M at *
    generalize (takE N fs x).isSome = fl at *
    generalize (takE N fs x).getD [] = gs at *
    have hff : (fl != fl) = false := by simp
    clear hsl
    go_enter Try.func3, Try.ntmps3
    go_wp2_with (go_at_call 7; refine (show Calls Try.prog 7 _ (lw w N a n c x) _ from HS.out).mono ?_; rintro e w2 ⟨rfl, hb1⟩; refine Hid.out ?_)
    refine (show ∀ {p : Prop}, p → Hid p from fun h => h) ?_
    have L2 : LG w N a n c x w2 := (LG.start w N a n c x).up hb1
    clear hb1 HS
    obtain ⟨⟨c0, c1⟩, c2, c3⟩ := L2.cells
    have HC := hideIt (fun u (hu : Good w2 u) => And.intro (L2.good hu).cells hu)
    have hS2 := HC.out _ (Good.refl w2).drew
    have zz := L2.size
    go_upto_region 5 with fail
    go_cut [6, 7] (fun p ok wx => ∃ b aw mw cw, p = .pointer (some ⟨b, 0, none⟩) ∧ ok = .bool fl ∧ Good w2 wx ∧ GBox wx w2.heap.size wx.heap.size b M aw mw cw gs)
    case first =>
      have HT := hideIt (fun u (hu : Good w2 u) => toGraph_G N fs n a c hn1 (L2.es HF.out) hu)
      go_region_held3 (fun u => ((u.cell? ⟨w.heap.size, 0, none⟩ = some (.int .i64 N) ∧ u.cell? ⟨w.heap.size, 1, none⟩ = some (.slice a n c)) ∧ u.cell? ⟨w.heap.size + 1, 0, none⟩ = some (.int .i64 x.1) ∧ u.cell? ⟨w.heap.size + 1, 1, none⟩ = some (.int .i64 x.2)) ∧ Good w2 u)
        (first | assumption | exact HC.out _ (Good.alloc (And.right (by assumption)) _) | exact HC.out _ (Good.set (Good.set (And.right (by assumption)) _ _ _ (by omega)) _ _ _ (by omega)))
        (first
          | (go_at_call 9; refine (HT.out _ (And.right (by assumption))).mono ?_; rintro e w3 ⟨g3, rfl, ho3, hg3, hk3⟩; have hS3 := HC.out _ hg3; have z3 := hg3.size; try (have bx := hk3.nil (Box2.new w2 _ _ _ _ rfl)))
          | (go_at_call 10; refine (HA.out w2 _ (And.right (by assumption)) _ _ _ _ _ (by first | assumption | exact World.ownsRow.alloc (by assumption) _)).mono ?_; rintro e w4 ⟨rfl, ho4, hg4, hk4⟩; have hS4 := HC.out _ hg4; have z4 := hg4.size; first | have bx := hk4.nil bx | have bx := hk4.nil (Box2.new w3 _ _ _ _ rfl) | skip)
          | (go_at_call 8; refine (HDs.out w2 _ (And.right (by assumption)) _ _ (by first | assumption | exact World.ownsRow.alloc (by assumption) _)).mono ?_; rintro e w5 ⟨aw, mw, cw, rfl, ho5, hg5, hk5⟩; have hS5 := HC.out _ hg5; have z5 := hg5.size; (first | have bx := hk5.nil bx | have bx := hk5.nil (Box2.new w4 _ _ _ _ rfl) | skip); try (have bc0 := bx.cell0; have bc1 := bx.cell1; have bz0 := bx.frozen 0; have bz1 := bx.frozen 1)))
      all_goals
        go_wp2_with fail
        go_meet
        first
          | exact ⟨_, aw, mw, cw, rfl, rfl, Good.set (Good.set hg5 _ _ _ (by omega)) _ _ _ (by omega), GBox.stored bx (by omega) ho5⟩
          | exact ⟨_, aw, mw, cw, rfl, rfl, Good.alloc hg5 _, GBox.laid (by omega) ho5⟩
    case rest =>
      obtain ⟨b, aw, mw, cw, rfl, rfl, G3, DW⟩ := hcut
      have L3 := L2.good G3
      have z3 := L3.size
      clear c0 c1 c2 c3 HC hS2
      obtain ⟨⟨c0, c1⟩, c2, c3⟩ := L3.cells
      have HT3 := hideIt (toGraph_G N fs n a c hn1 (L3.es HF.out) (Good.refl wc))
      go_wp2_with (go_at_call 9; refine HT3.out.mono ?_; rintro e w4 ⟨g4, rfl, ho4, hg4, _⟩; refine Hid.out ?_)
      refine (show ∀ {p : Prop}, p → Hid p from fun h => h) ?_
      clear HT3 c0 c1 c2 c3
      go_upto_region 7 with fail
      have hz4 := hg4.size
      have DX := GBox.laid (M := N) (lo := wc.heap.size) hz4 ho4
      have G4 := hg4.alloc (.cells #[.int .i64 N, .slice (some ⟨g4, 0, none⟩) n n] 30)
      have L4 := L3.good G4
      have DW4 := DW.up G4
      have hC0 : w.heap.size + 2 ≤ w2.heap.size := zz
      have hC1 : w2.heap.size ≤ wc.heap.size := G3.size
      clear ho4 hg4 DW G3 L3 z3 hz4
      obtain ⟨u1, bX, C1, e1, e2, e3⟩ : ∃ u1 bX C1, u1 = w4.alloc (.cells #[.int .i64 N, .slice (some ⟨g4, 0, none⟩) n n] 30) ∧ bX = w4.heap.size ∧ C1 = wc.heap.size := ⟨_, _, _, rfl, rfl, rfl⟩
      rw [← e1] at DX L4 DW4 G4 ⊢
      rw [← e2] at DX ⊢
      rw [← e3] at DX DW4 hC1
      clear e1 e2 e3 G4
      have z4 := L4.size
      have HC4 := hideIt (fun u (hu : Good u1 u) => And.intro (And.intro (DX.up hu).cells (L4.good hu).cells.2) hu)
      have hS4 := HC4.out _ (Good.refl u1).drew
      have hox := DX.own.drew
      have o1 := DX.cells.1
      have o2 := DX.cells.2
      go_cut [9, 10] (fun p ok wx => ∃ b2 ag mg cg, p = .pointer (some ⟨b2, 0, none⟩) ∧ ok = .bool fl ∧ Good u1 wx ∧ GBox wx u1.heap.size wx.heap.size b2 M ag mg cg gs)
      case first =>
        go_region_held3 (fun u => ((u.cell? ⟨bX, 0, none⟩ = some (.int .i64 N) ∧ u.cell? ⟨bX, 1, none⟩ = some (.slice (some ⟨g4, 0, none⟩) n n)) ∧ u.cell? ⟨w.heap.size + 1, 0, none⟩ = some (.int .i64 x.1) ∧ u.cell? ⟨w.heap.size + 1, 1, none⟩ = some (.int .i64 x.2)) ∧ Good u1 u)
          (first | assumption | exact HC4.out _ (Good.alloc (And.right (by assumption)) _) | exact HC4.out _ (Good.set (Good.set (And.right (by assumption)) _ _ _ (by omega)) _ _ _ (by omega)))
          (first
            | (go_at_call 10; refine (HA.out u1 _ (And.right (by assumption)) C1 n n (some ⟨g4, 0, none⟩) fs (by first | assumption | exact World.ownsRow.alloc (by assumption) _)).mono ?_; rintro e w5 ⟨rfl, ho5, hg5, hk5⟩; have hS5 := HC4.out _ hg5; have z5 := hg5.size; first | have bx := hk5.nil (Box2.new u1 _ _ _ _ rfl) | skip)
            | (go_at_call 11; refine (HDi.out u1 _ (And.right (by assumption)) C1 g4 (by first | assumption | exact World.ownsRow.alloc (by assumption) _)).mono ?_; rintro e w6 ⟨ag, mg, cg, rfl, ho6, hg6, hk6⟩; have hS6 := HC4.out _ hg6; have z6 := hg6.size; (first | have bx := hk6.nil bx | have bx := hk6.nil (Box2.new w5 _ _ _ _ rfl) | skip); try (have bc0 := bx.cell0; have bc1 := bx.cell1; have bz0 := bx.frozen 0; have bz1 := bx.frozen 1)))
        all_goals
          go_wp2_with fail
          go_meet
          first
            | exact ⟨_, ag, mg, cg, rfl, rfl, Good.set (Good.set hg6 _ _ _ (by omega)) _ _ _ (by omega), GBox.stored bx (by omega) ho6⟩
            | exact ⟨_, ag, mg, cg, rfl, rfl, Good.alloc hg6 _, GBox.laid (by omega) ho6⟩
      case rest =>
        obtain ⟨b2, ag, mg, cg, rfl, rfl, G5, DG⟩ := hcut
        have L5 := L4.good G5
        have DW5 := DW4.up G5
        have DX5 := DX.up G5
        have hC2 : C1 ≤ u1.heap.size := by have := DX.least; have := DX.most; omega
        have hmg : mg ≤ 200 := by rw [← DG.len]; exact hgl
        have hmw : mw ≤ 200 := by rw [← DW5.len]; exact hgl
        clear HC4 hS4 hox o1 o2 DX DW4
        have q0 := DG.cells.1
        have q1 := DW5.cells.1
        have q2 := DG.cells.2
        have q3 := DW5.cells.2
        have HE5 := hideIt (eqGB DG DW5 (by omega))
        go_wp2_with (go_at_call 12; refine HE5.out.mono ?_; rintro e w6 ⟨rfl, hb6⟩; refine Hid.out ?_)
        refine (show ∀ {p : Prop}, p → Hid p from fun h => h) ?_
        have L6 := L5.up hb6
        have DW6 := DW5.up hb6
        have DX6 := DX5.up hb6
        have DG6 := DG.up hb6
        have hz6 := hb6.size
        clear HE5 hb6 q0 q1 q2 q3 DG DW5 DX5 L5
        have HC6 := hideIt (fun u (hu : Good w6 u) => And.intro (And.intro (DX6.up hu).cells (L6.good hu).cells.1) hu)
        have hS6 := HC6.out _ (Good.refl w6).drew
        have HT6 := hideIt (fun u (hu : Good w6 u) => toGraph_G N fs n a c hn1 (L6.es HF.out) hu)
        have HX6 := hideIt (fun u (hu : Good w6 u) => (DX6.up hu).es)
        go_upto_region 10 with fail
        go_region_held3 (fun u => ((u.cell? ⟨bX, 0, none⟩ = some (.int .i64 N) ∧ u.cell? ⟨bX, 1, none⟩ = some (.slice (some ⟨g4, 0, none⟩) n n)) ∧ u.cell? ⟨w.heap.size, 0, none⟩ = some (.int .i64 N) ∧ u.cell? ⟨w.heap.size, 1, none⟩ = some (.slice a n c)) ∧ Good w6 u)
          (first | assumption)
          (first
            | (go_at_call 9; refine (HT6.out _ (And.right (by assumption))).mono ?_; rintro e w7 ⟨g7, rfl, ho7, hg7, _⟩; have hS7 := HC6.out _ hg7)
            | (go_at_call 12; refine (eqGraph_same N fs n _ _ _ _ hn1 _ (HX6.out _ hg7) (Es_of_own ho7)).mono ?_; rintro e w8 ⟨rfl, hb8⟩; have hg8 := hg7.up hb8; have hS8 := HC6.out _ hg8))
        have L8 := L6.good hg8
        have DW8 := DW6.up hg8
        have DX8 := DX6.up hg8
        have DG8 := DG6.up hg8
        have hz8 := hg8.size
        clear HC6 hS6 HT6 HX6 hS7 hS8 hg7 ho7 hb8 L6 DW6 DX6 DG6
        have q2 := DX8.cells.1
        have q3 := DX8.cells.2
        have HM8 := hideIt (markGB DX8 1 hn1 (by omega))
        go_wp2_with (go_at_call 13; refine HM8.out.mono ?_; rintro e w9 ⟨rfl, hDX9, hr9⟩; refine Hid.out ?_)
        refine (show ∀ {p : Prop}, p → Hid p from fun h => h) ?_
        have L9 := L8.rng hr9 (by omega)
        have DW9 := DW8.rng hr9 (.inl (Nat.le_refl _))
        have DG9 := DG8.rng hr9 (.inr (Nat.le_refl _))
        clear HM8 q2 q3 L8 DW8 DX8 DG8 hr9 hDX9
        have d3 : decide ((1 : Int) + (n : Int) * 2 < 0) = false := decide_eq_false (by omega)
        have q0 := DG9.cells.1
        have q1 := DW9.cells.1
        have q2 := DG9.cells.2
        have q3 := DW9.cells.2
        have HE9 := hideIt (eqGB DG9 DW9 (by omega))
        go_wp2_with (go_at_call 12; refine HE9.out.mono ?_; rintro e w10 ⟨rfl, hb10⟩; refine Hid.out ?_)
        refine (show ∀ {p : Prop}, p → Hid p from fun h => h) ?_
        have L10 := L9.up hb10
        have DW10 := DW9.up hb10
        have DG10 := DG9.up hb10
        clear HE9 hb10 q0 q1 q2 q3 L9 DW9 DG9
        have q0 := DG10.cells.1
        have q1 := DG10.cells.2
        have HM10 := hideIt (markGB DG10 1 (by omega) (by omega))
        go_wp2_with (go_at_call 13; refine HM10.out.mono ?_; rintro e w11 ⟨rfl, DG11, hr11⟩; refine Hid.out ?_)
        refine (show ∀ {p : Prop}, p → Hid p from fun h => h) ?_
        have L11 := L10.rng hr11 (by omega)
        have DW11 := DW10.rng hr11 (.inl (by omega))
        clear HM10 q0 q1 L10 DW10 DG10 hr11
        have q0 := DG11.cells.1
        have q1 := DG11.cells.2
        have HH11 := hideIt (heldGB 1 DG11 (by omega) (by omega))
        have d4 : decide ((1 : Int) + (mg : Int) * 2 < 0) = false := decide_eq_false (by omega)
        have d5 : ((1 : Int) + (mg : Int) * 2 != (1 : Int) + (mg : Int) * 2) = false := by simp
        go_wp2_with (go_at_call 14; refine HH11.out.mono ?_; rintro e w12 ⟨rfl, hb12⟩; refine Hid.out ?_)
        refine (show ∀ {p : Prop}, p → Hid p from fun h => h) ?_
        have L12 := L11.up hb12
        have DW12 := DW11.up hb12
        have DG12 := DG11.up hb12
        clear HH11 hb12 q0 q1 L11 DW11 DG11
        have HC12 := hideIt (fun u (hu : Good w12 u) => And.intro (L12.good hu).cells hu)
        have hS12 := HC12.out _ (Good.refl w12).drew
        have zz12 := L12.size
        obtain ⟨⟨c0, c1⟩, c2, c3⟩ := L12.cells
        go_upto_region 24 with fail
        go_cut [14, 15] (fun p ok wx => ∃ b3 ah mh ch, p = .pointer (some ⟨b3, 0, none⟩) ∧ ok = .bool fl ∧ Good w12 wx ∧ GBox wx w12.heap.size wx.heap.size b3 M ah mh ch gs)
        case first =>
          have HT := hideIt (fun u (hu : Good w12 u) => toGraph_G N fs n a c hn1 (L12.es HF.out) hu)
          go_region_held3 (fun u => ((u.cell? ⟨w.heap.size, 0, none⟩ = some (.int .i64 N) ∧ u.cell? ⟨w.heap.size, 1, none⟩ = some (.slice a n c)) ∧ u.cell? ⟨w.heap.size + 1, 0, none⟩ = some (.int .i64 x.1) ∧ u.cell? ⟨w.heap.size + 1, 1, none⟩ = some (.int .i64 x.2)) ∧ Good w12 u)
            (first | assumption | exact HC12.out _ (Good.alloc (And.right (by assumption)) _) | exact HC12.out _ (Good.set (Good.set (And.right (by assumption)) _ _ _ (by omega)) _ _ _ (by omega)))
            (first
              | (go_at_call 9; refine (HT.out _ (And.right (by assumption))).mono ?_; rintro e w3 ⟨g3, rfl, ho3, hg3, hk3⟩; have hS3 := HC12.out _ hg3; have z3 := hg3.size; try (have bx := hk3.nil (Box2.new w12 _ _ _ _ rfl)))
              | (go_at_call 10; refine (HA.out w12 _ (And.right (by assumption)) _ _ _ _ _ (by first | assumption | exact World.ownsRow.alloc (by assumption) _)).mono ?_; rintro e w4 ⟨rfl, ho4, hg4, hk4⟩; have hS4 := HC12.out _ hg4; have z4 := hg4.size; first | have bx := hk4.nil bx | have bx := hk4.nil (Box2.new w3 _ _ _ _ rfl) | skip)
              | (go_at_call 11; refine (HDi.out w12 _ (And.right (by assumption)) _ _ (by first | assumption | exact World.ownsRow.alloc (by assumption) _)).mono ?_; rintro e w5 ⟨ah, mh, ch, rfl, ho5, hg5, hk5⟩; have hS5 := HC12.out _ hg5; have z5 := hg5.size; (first | have bx := hk5.nil bx | have bx := hk5.nil (Box2.new w4 _ _ _ _ rfl) | skip); try (have bc0 := bx.cell0; have bc1 := bx.cell1; have bz0 := bx.frozen 0; have bz1 := bx.frozen 1)))
          all_goals
            go_wp2_with fail
            go_meet
            first
              | exact ⟨_, ah, mh, ch, rfl, rfl, Good.set (Good.set hg5 _ _ _ (by omega)) _ _ _ (by omega), GBox.stored bx (by omega) ho5⟩
              | exact ⟨_, ah, mh, ch, rfl, rfl, Good.alloc hg5 _, GBox.laid (by omega) ho5⟩
        case rest =>
          obtain ⟨b3, ah, mh, ch, rfl, rfl, G13, DH⟩ := hcut
          have L13 := L12.good G13
          have DW13 := DW12.up G13
          have DG13 := DG12.up G13
          have hmh : mh ≤ 200 := by rw [← DH.len]; exact hgl
          clear c0 c1 c2 c3 HC12 hS12 L12 DW12 DG12
          have q0 := DH.cells.1
          have q1 := DW13.cells.1
          have q2 := DH.cells.2
          have q3 := DW13.cells.2
          have HE13 := hideIt (eqGB DH DW13 (by omega))
          go_wp2_with (go_at_call 12; refine HE13.out.mono ?_; rintro e w14 ⟨rfl, hb14⟩; refine Hid.out ?_)
          refine (show ∀ {p : Prop}, p → Hid p from fun h => h) ?_
          have L14 := L13.up hb14
          have DG14 := DG13.up hb14
          clear HE13 hb14 q0 q1 q2 q3 L13 DW13 DG13
          have q0 := DG14.cells.1
          have q1 := DG14.cells.2
          have HH14 := hideIt (heldGB 1 DG14 (by omega) (by omega))
          go_wp2_with (go_at_call 14; refine HH14.out.mono ?_; rintro e w15 ⟨rfl, hb15⟩)
          go_ret
          exact ⟨rfl, (L14.up hb15).below⟩
  · rw [if_neg hn1] at HS
    go_enter Try.func3, Try.ntmps3
    go_wp2_with (go_at_call 7; refine (show Calls Try.prog 7 _ (lw w N a n c x) _ from HS.out).mono ?_; rintro e w1 ⟨rfl, hb1⟩)
    go_ret
    exact ⟨rfl, HB.out.trans (Below.mono hb1 (by rw [lw_size]; omega))⟩
end Go.Proofs.Ytfkoddhojcjohab
