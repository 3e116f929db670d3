/- The walk of FnExactModel. A question that comes in. -/
import Derived.Test.YtobcihdjennieaaKMs16
import Derived.Deep.DeepCutAuto
import Derived.Test.YtobcihdjennieaaKSGraph
namespace Go.Proofs.Ytobcihdjennieaa
open Go.RowKit

theorem mdR_len {N : Int} {es : List EdgeV} {xo xa xb : Int} (h : es.length ≤ 1048576) : (mdR N es xo xa xb).1.length ≤ 1048576 := by
  have hA : (chR es (addE N es (edA xa xb))).1.length ≤ 1048576 := by
    unfold chR addE
    split
    · rename_i h0
      have h1 := (gB_chk h0.1).2.2
      have h2 := putE_length es (edA xa xb)
      simp only [Option.getD_some]
      omega
    · simpa using h
  have hT : (chR es (takE N es (edA xa xb))).1.length ≤ 1048576 := by
    unfold chR takE
    split
    · simp only [Option.getD_some]
      have h2 : (outE es (edA xa xb)).length ≤ es.length := by unfold outE; exact List.length_filter_le _ _
      omega
    · simpa using h
  unfold mdR
  split
  · exact h
  · split
    · exact hA
    · split
      · exact hT
      · split <;> exact h
theorem toAskK (xi xo xa xb : Int) (w : World) : Calls Try.prog 14 #[.agg #[.int .i64 xi, .int .i64 xo, .int .i64 xa, .int .i64 xb]] w fun e w' => e = .returned (.agg #[.int .i64 xi, .int .i64 xo, .int .i64 xa, .int .i64 xb]) ∧ Below w.heap.size w w' := by
  go_enter Try.func14, Try.ntmps14
  go_wp2
  exact bodyPost_ret (v := .agg #[.int .i64 xi, .int .i64 xo, .int .i64 xa, .int .i64 xb]) (by simp [results, Try.results14, go_sem]) rfl ⟨rfl, (((Below.refl _ _).alloc (Nat.le_refl _) _).alloc (by simp) _).alloc (by simp; omega) _⟩
theorem toAsk_G (xi xo xa xb : Int) {u0 u : World} (h : Good u0 u) {B m cc : Nat} {aa : Option Addr} {ds : List EdgeV} (ho : u.ownsRow B 59 2 (.slice aa m cc) m (ecells ds)) :
    Calls Try.prog 14 #[.agg #[.int .i64 xi, .int .i64 xo, .int .i64 xa, .int .i64 xb]] u fun e v => e = .returned (.agg #[.int .i64 xi, .int .i64 xo, .int .i64 xa, .int .i64 xb]) ∧ v.ownsRow B 59 2 (.slice aa m cc) m (ecells ds) ∧ Good u0 v ∧ Keep u v :=
  (toAskK xi xo xa xb u).mono fun _ _ ⟨he, hb⟩ => ⟨he, own_up ho hb, h.up hb, Keep.of hb⟩
/-- what is asked of either side -/
theorem ans_K {F : Nat} {N : Int} {fs : List EdgeV} {n : Nat} {xi xo xa xb : Int} {r : List EdgeV × Int}
    (H : ∀ (g : Nat) (w : World) (_ : Es w w.heap.size (some ⟨g, 0, none⟩) n fs), Calls Try.prog F #[.agg #[.int .i64 N, .slice (some ⟨g, 0, none⟩) n n], .agg #[.int .i64 xi, .int .i64 xo, .int .i64 xa, .int .i64 xb]] w (MAns w N r))
    {u0 u : World} (h : Good u0 u) {B g : Nat} (ho : u.ownsRow B 59 2 (.slice (some ⟨g, 0, none⟩) n n) n (ecells fs)) :
    Calls Try.prog F #[.agg #[.int .i64 N, .slice (some ⟨g, 0, none⟩) n n], .agg #[.int .i64 xi, .int .i64 xo, .int .i64 xa, .int .i64 xb]] u fun e v => ∃ aw mw cw, e = .returned (.tuple #[.agg #[.int .i64 N, .slice aw mw cw], .int .i64 r.2]) ∧ v.ownsRow u0.heap.size 59 2 (.slice aw mw cw) mw (ecells r.1) ∧ Good u0 v ∧ Keep u v :=
  (H g u (Es_of_own ho)).mono fun _ _ ⟨aw, mw, cw, he, hw, hb⟩ => ⟨aw, mw, cw, he, own_mono hw h.size, h.up hb, Keep.of hb⟩

/-- the world behind the law's two boxes -/
def lk (w : World) (N : Int) (a : Option Addr) (n c : Nat) (xi xo xa xb : Int) : World := (w.alloc (.cells #[.int .i64 N, .slice a n c] 37)).alloc (.cells #[.int .i64 xi, .int .i64 xo, .int .i64 xa, .int .i64 xb] 38)
theorem lk_size (w : World) (N : Int) (a : Option Addr) (n c : Nat) (xi xo xa xb : Int) : (lk w N a n c xi xo xa xb).heap.size = w.heap.size + 2 := by simp [lk]
/-- nothing of these has turned -/
def LK (w : World) (N : Int) (a : Option Addr) (n c : Nat) (xi xo xa xb : Int) (u : World) : Prop := Below (w.heap.size + 2) (lk w N a n c xi xo xa xb) u
theorem LK.start (w : World) (N : Int) (a : Option Addr) (n c : Nat) (xi xo xa xb : Int) : LK w N a n c xi xo xa xb (lk w N a n c xi xo xa xb) := Below.refl _ _
section
variable {w u v : World} {N : Int} {a : Option Addr} {n c : Nat} {xi xo xa xb : Int}
theorem LK.size (h : LK w N a n c xi xo xa xb u) : w.heap.size + 2 ≤ u.heap.size := by have := Below.size h; rw [lk_size] at this; exact this
theorem LK.up (h : LK w N a n c xi xo xa xb u) (hb : Below u.heap.size u v) : LK w N a n c xi xo xa xb v := Below.trans h (hb.mono h.size)
theorem LK.good (h : LK w N a n c xi xo xa xb u) (hb : Good u v) : LK w N a n c xi xo xa xb v := h.up hb
theorem LK.rng {lo hi : Nat} (h : LK w N a n c xi xo xa xb u) (hr : Rng lo hi u v) (hl : w.heap.size + 2 ≤ lo) : LK w N a n c xi xo xa xb v := Below.trans h (hr.below hl h.size)
theorem LK.below (h : LK w N a n c xi xo xa xb u) : Below w.heap.size w u :=
  (((Below.refl w.heap.size w).alloc (Nat.le_refl _) _).alloc (by simp) _).trans (Below.mono h (by omega))
theorem LK.es {fs : List EdgeV} (h : LK w N a n c xi xo xa xb u) (hf : Es w w.heap.size a n fs) : Es u u.heap.size a n fs := hf.up h.below
theorem LK.cells (h : LK w N a n c xi xo xa xb u) :
    (u.cell? ⟨w.heap.size, 0, none⟩ = some (.int .i64 N) ∧ u.cell? ⟨w.heap.size, 1, none⟩ = some (.slice a n c)) ∧ u.cell? ⟨w.heap.size + 1, 0, none⟩ = some (.int .i64 xi) ∧ u.cell? ⟨w.heap.size + 1, 1, none⟩ = some (.int .i64 xo) ∧ u.cell? ⟨w.heap.size + 1, 2, none⟩ = some (.int .i64 xa) ∧ u.cell? ⟨w.heap.size + 1, 3, none⟩ = some (.int .i64 xb) := by
  refine ⟨⟨?_, ?_⟩, ?_, ?_, ?_, ?_⟩
  · rw [Below.cell h (by show w.heap.size < _; omega)]; simp [lk, go_sem]
  · rw [Below.cell h (by show w.heap.size < _; omega)]; simp [lk, go_sem]
  · rw [Below.cell h (by show w.heap.size + 1 < _; omega)]; simp [lk, go_sem]
  · rw [Below.cell h (by show w.heap.size + 1 < _; omega)]; simp [lk, go_sem]
  · rw [Below.cell h (by show w.heap.size + 1 < _; omega)]; simp [lk, go_sem]
  · rw [Below.cell h (by show w.heap.size + 1 < _; omega)]; simp [lk, go_sem]
end

set_option maxRecDepth 100000 in
set_option maxHeartbeats 8000000 in
theorem fnExactModel.walk (N : Int) (_hN : (Lit.int .i64 N).wf = true) (fs : List EdgeV) (_hft : ∀ f ∈ fs, FitE f) (n : Nat) (a : Option Addr) (c : Nat) (hn : n ≤ maxLen) (xi xo xa xb : Int) (w : World) (h : Es w w.heap.size a n fs) :
    Calls Try.prog 4 #[.agg #[.int .i64 N, .slice a n c], .agg #[.int .i64 xi, .int .i64 xo, .int .i64 xa, .int .i64 xb]] w fun e w' => e = .returned (.bool true) ∧ Below w.heap.size w w' := by
  have HS := hideIt (szGraph_any N n a c hn (lk w N a n c xi xo xa xb))
  have HF := hideIt h
  have HB := hideIt (LK.start w N a n c xi xo xa xb).below
  clear h
  by_cases hn1 : n ≤ 1048576
  · rw [if_pos hn1] at HS
    have d1 : decide (1048576 - (n : Int) < 0) = false := decide_eq_false (by omega)
    have hgl := mdR_len (N := N) (es := fs) (xo := xo) (xa := xa) (xb := xb) (by rw [HF.out.1]; exact hn1)
    have hsl : ∀ g, Sl (some ⟨g, 0, none⟩) n n := fun g => ⟨Nat.le_refl _, hn, .inr ⟨g, 0, rfl⟩⟩
    have HDs := hideIt (fun u0 u (hu : Good u0 u) B g ho => ans_K (fun g w h => sModel_any N fs xi xo xa xb n (some ⟨g, 0, none⟩) n (hsl g) hn1 w h) hu (B := B) (g := g) ho)
    have HDi := hideIt (fun u0 u (hu : Good u0 u) B g ho => ans_K (fun g w h => iModel_any N fs xi xo xa xb n (some ⟨g, 0, none⟩) n (hsl g) hn1 w h) hu (B := B) (g := g) ho)
    have HA := hideIt (fun u0 u (hu : Good u0 u) B m cc aa ds ho => toAsk_G xi xo xa xb hu (B := B) (m := m) (cc := cc) (aa := aa) (ds := ds) ho)
    generalize mdR N fs xo xa xb = rr at *
    obtain ⟨gs, fl⟩ := rr
    dsimp only at hgl HDs HDi
    have hff : (fl != fl) = false := by simp
    clear hsl
    go_enter Try.func4, Try.ntmps4
    go_wp2_with (go_at_call 12; refine (show Calls Try.prog 12 _ (lk w N a n c xi xo xa xb) _ from HS.out).mono ?_; rintro e w2 ⟨rfl, hb1⟩; refine Hid.out ?_)
    refine (show ∀ {p : Prop}, p → Hid p from fun h => h) ?_
    have L2 : LK w N a n c xi xo xa xb w2 := (LK.start w N a n c xi xo xa xb).up hb1
    clear hb1 HS
    obtain ⟨⟨c0, c1⟩, c2, c3, c4, c5⟩ := L2.cells
    have HC := hideIt (fun u (hu : Good w2 u) => And.intro (L2.good hu).cells hu)
    have hS2 := HC.out _ (Good.refl w2).drew
    have zz := L2.size
    go_upto_region 5 with fail
    go_cut [6, 7] (fun p ok wx => ∃ b aw mw cw, p = .pointer (some ⟨b, 0, none⟩) ∧ ok = .int .i64 fl ∧ Good w2 wx ∧ GBox wx w2.heap.size wx.heap.size b N aw mw cw gs)
    case first =>
      have HT := hideIt (fun u (hu : Good w2 u) => toGraph_G N fs n a c hn1 (L2.es HF.out) hu)
      go_region_held3 (fun u => ((u.cell? ⟨w.heap.size, 0, none⟩ = some (.int .i64 N) ∧ u.cell? ⟨w.heap.size, 1, none⟩ = some (.slice a n c)) ∧ u.cell? ⟨w.heap.size + 1, 0, none⟩ = some (.int .i64 xi) ∧ u.cell? ⟨w.heap.size + 1, 1, none⟩ = some (.int .i64 xo) ∧ u.cell? ⟨w.heap.size + 1, 2, none⟩ = some (.int .i64 xa) ∧ u.cell? ⟨w.heap.size + 1, 3, none⟩ = some (.int .i64 xb)) ∧ Good w2 u)
        (first | assumption | exact HC.out _ (Good.alloc (And.right (by assumption)) _) | exact HC.out _ (Good.set (Good.set (And.right (by assumption)) _ _ _ (by omega)) _ _ _ (by omega)))
        (first
          | (go_at_call 13; refine (HT.out _ (And.right (by assumption))).mono ?_; rintro e w3 ⟨g3, rfl, ho3, hg3, hk3⟩; have hS3 := HC.out _ hg3; have z3 := hg3.size; try (have bx := hk3.nil (Box2.new w2 _ _ _ _ rfl)))
          | (go_at_call 14; refine (HA.out w2 _ (And.right (by assumption)) _ _ _ _ _ (by first | assumption | exact World.ownsRow.alloc (by assumption) _)).mono ?_; rintro e w4 ⟨rfl, ho4, hg4, hk4⟩; have hS4 := HC.out _ hg4; have z4 := hg4.size; first | have bx := hk4.nil bx | have bx := hk4.nil (Box2.new w3 _ _ _ _ rfl) | skip)
          | (go_at_call 9; refine (HDs.out w2 _ (And.right (by assumption)) _ _ (by first | assumption | exact World.ownsRow.alloc (by assumption) _)).mono ?_; rintro e w5 ⟨aw, mw, cw, rfl, ho5, hg5, hk5⟩; have hS5 := HC.out _ hg5; have z5 := hg5.size; (first | have bx := hk5.nil bx | have bx := hk5.nil (Box2.new w4 _ _ _ _ rfl) | skip); try (have bc0 := bx.cell0; have bc1 := bx.cell1; have bz0 := bx.frozen 0; have bz1 := bx.frozen 1)))
      all_goals
        go_wp2_with fail
        go_meet
        first
          | exact ⟨_, aw, mw, cw, rfl, rfl, Good.set (Good.set hg5 _ _ _ (by omega)) _ _ _ (by omega), GBox.stored bx (by omega) ho5⟩
          | exact ⟨_, aw, mw, cw, rfl, rfl, Good.alloc hg5 _, GBox.laid (by omega) ho5⟩
    case rest =>
      obtain ⟨b, aw, mw, cw, rfl, rfl, G3, DW⟩ := hcut
      have L3 := L2.good G3
      have z3 := L3.size
      clear c0 c1 c2 c3 c4 c5 HC hS2
      obtain ⟨⟨c0, c1⟩, c2, c3, c4, c5⟩ := L3.cells
      have HT3 := hideIt (toGraph_G N fs n a c hn1 (L3.es HF.out) (Good.refl wc))
      go_wp2_with (go_at_call 13; refine HT3.out.mono ?_; rintro e w4 ⟨g4, rfl, ho4, hg4, _⟩; refine Hid.out ?_)
      refine (show ∀ {p : Prop}, p → Hid p from fun h => h) ?_
      clear HT3 c0 c1 c2 c3
      go_upto_region 7 with fail
      have hz4 := hg4.size
      have DX := GBox.laid (M := N) (lo := wc.heap.size) hz4 ho4
      have G4 := hg4.alloc (.cells #[.int .i64 N, .slice (some ⟨g4, 0, none⟩) n n] 26)
      have L4 := L3.good G4
      have DW4 := DW.up G4
      have hC0 : w.heap.size + 2 ≤ w2.heap.size := zz
      have hC1 : w2.heap.size ≤ wc.heap.size := G3.size
      clear ho4 hg4 DW G3 L3 z3 hz4
      obtain ⟨u1, bX, C1, e1, e2, e3⟩ : ∃ u1 bX C1, u1 = w4.alloc (.cells #[.int .i64 N, .slice (some ⟨g4, 0, none⟩) n n] 26) ∧ bX = w4.heap.size ∧ C1 = wc.heap.size := ⟨_, _, _, rfl, rfl, rfl⟩
      rw [← e1] at DX L4 DW4 G4 ⊢
      rw [← e2] at DX ⊢
      rw [← e3] at DX DW4 hC1
      clear e1 e2 e3 G4
      have z4 := L4.size
      have HC4 := hideIt (fun u (hu : Good u1 u) => And.intro (And.intro (DX.up hu).cells (L4.good hu).cells.2) hu)
      have hS4 := HC4.out _ (Good.refl u1).drew
      have hox := DX.own.drew
      have o1 := DX.cells.1
      have o2 := DX.cells.2
      go_cut [9, 10] (fun p ok wx => ∃ b2 ag mg cg, p = .pointer (some ⟨b2, 0, none⟩) ∧ ok = .int .i64 fl ∧ Good u1 wx ∧ GBox wx u1.heap.size wx.heap.size b2 N ag mg cg gs)
      case first =>
        go_region_held3 (fun u => ((u.cell? ⟨bX, 0, none⟩ = some (.int .i64 N) ∧ u.cell? ⟨bX, 1, none⟩ = some (.slice (some ⟨g4, 0, none⟩) n n)) ∧ u.cell? ⟨w.heap.size + 1, 0, none⟩ = some (.int .i64 xi) ∧ u.cell? ⟨w.heap.size + 1, 1, none⟩ = some (.int .i64 xo) ∧ u.cell? ⟨w.heap.size + 1, 2, none⟩ = some (.int .i64 xa) ∧ u.cell? ⟨w.heap.size + 1, 3, none⟩ = some (.int .i64 xb)) ∧ Good u1 u)
          (first | assumption | exact HC4.out _ (Good.alloc (And.right (by assumption)) _) | exact HC4.out _ (Good.set (Good.set (And.right (by assumption)) _ _ _ (by omega)) _ _ _ (by omega)))
          (first
            | (go_at_call 14; refine (HA.out u1 _ (And.right (by assumption)) C1 n n (some ⟨g4, 0, none⟩) fs (by first | assumption | exact World.ownsRow.alloc (by assumption) _)).mono ?_; rintro e w5 ⟨rfl, ho5, hg5, hk5⟩; have hS5 := HC4.out _ hg5; have z5 := hg5.size; first | have bx := hk5.nil (Box2.new u1 _ _ _ _ rfl) | skip)
            | (go_at_call 8; refine (HDi.out u1 _ (And.right (by assumption)) C1 g4 (by first | assumption | exact World.ownsRow.alloc (by assumption) _)).mono ?_; rintro e w6 ⟨ag, mg, cg, rfl, ho6, hg6, hk6⟩; have hS6 := HC4.out _ hg6; have z6 := hg6.size; (first | have bx := hk6.nil bx | have bx := hk6.nil (Box2.new w5 _ _ _ _ rfl) | skip); try (have bc0 := bx.cell0; have bc1 := bx.cell1; have bz0 := bx.frozen 0; have bz1 := bx.frozen 1)))
        all_goals
          go_wp2_with fail
          go_meet
          first
            | exact ⟨_, ag, mg, cg, rfl, rfl, Good.set (Good.set hg6 _ _ _ (by omega)) _ _ _ (by omega), GBox.stored bx (by omega) ho6⟩
            | exact ⟨_, ag, mg, cg, rfl, rfl, Good.alloc hg6 _, GBox.laid (by omega) ho6⟩
      case rest =>
        obtain ⟨b2, ag, mg, cg, rfl, rfl, G5, DG⟩ := hcut
        have L5 := L4.good G5
        have DW5 := DW4.up G5
        have DX5 := DX.up G5
        have hC2 : C1 ≤ u1.heap.size := by have := DX.least; have := DX.most; omega
        have hmg : mg ≤ 1048576 := by rw [← DG.len]; exact hgl
        have hmw : mw ≤ 1048576 := by rw [← DW5.len]; exact hgl
        clear HC4 hS4 hox o1 o2 DX DW4
        have q0 := DG.cells.1
        have q1 := DW5.cells.1
        have q2 := DG.cells.2
        have q3 := DW5.cells.2
        have HE5 := hideIt (eqGB DG DW5 (by omega))
        go_wp2_with (go_at_call 15; refine HE5.out.mono ?_; rintro e w6 ⟨rfl, hb6⟩; refine Hid.out ?_)
        refine (show ∀ {p : Prop}, p → Hid p from fun h => h) ?_
        have L6 := L5.up hb6
        have DW6 := DW5.up hb6
        have DX6 := DX5.up hb6
        have DG6 := DG.up hb6
        have hz6 := hb6.size
        clear HE5 hb6 q0 q1 q2 q3 DG DW5 DX5 L5
        have HC6 := hideIt (fun u (hu : Good w6 u) => And.intro (And.intro (DX6.up hu).cells (L6.good hu).cells.1) hu)
        have hS6 := HC6.out _ (Good.refl w6).drew
        have HT6 := hideIt (fun u (hu : Good w6 u) => toGraph_G N fs n a c hn1 (L6.es HF.out) hu)
        have HX6 := hideIt (fun u (hu : Good w6 u) => (DX6.up hu).es)
        go_upto_region 10 with fail
        go_region_held3 (fun u => ((u.cell? ⟨bX, 0, none⟩ = some (.int .i64 N) ∧ u.cell? ⟨bX, 1, none⟩ = some (.slice (some ⟨g4, 0, none⟩) n n)) ∧ u.cell? ⟨w.heap.size, 0, none⟩ = some (.int .i64 N) ∧ u.cell? ⟨w.heap.size, 1, none⟩ = some (.slice a n c)) ∧ Good w6 u)
          (first | assumption)
          (first
            | (go_at_call 13; refine (HT6.out _ (And.right (by assumption))).mono ?_; rintro e w7 ⟨g7, rfl, ho7, hg7, _⟩; have hS7 := HC6.out _ hg7)
            | (go_at_call 15; refine (eqGraph_same N fs n _ _ _ _ hn1 _ (HX6.out _ hg7) (Es_of_own ho7)).mono ?_; rintro e w8 ⟨rfl, hb8⟩; have hg8 := hg7.up hb8; have hS8 := HC6.out _ hg8))
        have L8 := L6.good hg8
        have DW8 := DW6.up hg8
        have DX8 := DX6.up hg8
        have DG8 := DG6.up hg8
        have hz8 := hg8.size
        clear HC6 hS6 HT6 HX6 hS7 hS8 hg7 ho7 hb8 L6 DW6 DX6 DG6
        have q2 := DX8.cells.1
        have q3 := DX8.cells.2
        have HM8 := hideIt (markGB DX8 1 hn1 (by omega))
        go_wp2_with (go_at_call 16; refine HM8.out.mono ?_; rintro e w9 ⟨rfl, hDX9, hr9⟩; refine Hid.out ?_)
        refine (show ∀ {p : Prop}, p → Hid p from fun h => h) ?_
        have L9 := L8.rng hr9 (by omega)
        have DW9 := DW8.rng hr9 (.inl (Nat.le_refl _))
        have DG9 := DG8.rng hr9 (.inr (Nat.le_refl _))
        clear HM8 q2 q3 L8 DW8 DX8 DG8 hr9 hDX9
        have d3 : decide ((1 : Int) + (n : Int) * 2 < 0) = false := decide_eq_false (by omega)
        have q0 := DG9.cells.1
        have q1 := DW9.cells.1
        have q2 := DG9.cells.2
        have q3 := DW9.cells.2
        have HE9 := hideIt (eqGB DG9 DW9 (by omega))
        go_wp2_with (go_at_call 15; refine HE9.out.mono ?_; rintro e w10 ⟨rfl, hb10⟩; refine Hid.out ?_)
        refine (show ∀ {p : Prop}, p → Hid p from fun h => h) ?_
        have L10 := L9.up hb10
        have DW10 := DW9.up hb10
        have DG10 := DG9.up hb10
        clear HE9 hb10 q0 q1 q2 q3 L9 DW9 DG9
        have q0 := DG10.cells.1
        have q1 := DG10.cells.2
        have HM10 := hideIt (markGB DG10 1 (by omega) (by omega))
        go_wp2_with (go_at_call 16; refine HM10.out.mono ?_; rintro e w11 ⟨rfl, DG11, hr11⟩; refine Hid.out ?_)
        refine (show ∀ {p : Prop}, p → Hid p from fun h => h) ?_
        have L11 := L10.rng hr11 (by omega)
        have DW11 := DW10.rng hr11 (.inl (by omega))
        clear HM10 q0 q1 L10 DW10 DG10 hr11
        have q0 := DG11.cells.1
        have q1 := DG11.cells.2
        have HH11 := hideIt (heldGB 1 DG11 (by omega) (by omega))
        have d4 : decide ((1 : Int) + (mg : Int) * 2 < 0) = false := decide_eq_false (by omega)
        have d5 : ((1 : Int) + (mg : Int) * 2 != (1 : Int) + (mg : Int) * 2) = false := by simp
        go_wp2_with (go_at_call 17; refine HH11.out.mono ?_; rintro e w12 ⟨rfl, hb12⟩; refine Hid.out ?_)
        refine (show ∀ {p : Prop}, p → Hid p from fun h => h) ?_
        have L12 := L11.up hb12
        have DW12 := DW11.up hb12
        have DG12 := DG11.up hb12
        clear HH11 hb12 q0 q1 L11 DW11 DG11
        have HC12 := hideIt (fun u (hu : Good w12 u) => And.intro (L12.good hu).cells hu)
        have hS12 := HC12.out _ (Good.refl w12).drew
        have zz12 := L12.size
        obtain ⟨⟨c0, c1⟩, c2, c3, c4, c5⟩ := L12.cells
        go_upto_region 24 with fail
        go_cut [14, 15] (fun p ok wx => ∃ b3 ah mh ch, p = .pointer (some ⟨b3, 0, none⟩) ∧ ok = .int .i64 fl ∧ Good w12 wx ∧ GBox wx w12.heap.size wx.heap.size b3 N ah mh ch gs)
        case first =>
          have HT := hideIt (fun u (hu : Good w12 u) => toGraph_G N fs n a c hn1 (L12.es HF.out) hu)
          go_region_held3 (fun u => ((u.cell? ⟨w.heap.size, 0, none⟩ = some (.int .i64 N) ∧ u.cell? ⟨w.heap.size, 1, none⟩ = some (.slice a n c)) ∧ u.cell? ⟨w.heap.size + 1, 0, none⟩ = some (.int .i64 xi) ∧ u.cell? ⟨w.heap.size + 1, 1, none⟩ = some (.int .i64 xo) ∧ u.cell? ⟨w.heap.size + 1, 2, none⟩ = some (.int .i64 xa) ∧ u.cell? ⟨w.heap.size + 1, 3, none⟩ = some (.int .i64 xb)) ∧ Good w12 u)
            (first | assumption | exact HC12.out _ (Good.alloc (And.right (by assumption)) _) | exact HC12.out _ (Good.set (Good.set (And.right (by assumption)) _ _ _ (by omega)) _ _ _ (by omega)))
            (first
              | (go_at_call 13; refine (HT.out _ (And.right (by assumption))).mono ?_; rintro e w3 ⟨g3, rfl, ho3, hg3, hk3⟩; have hS3 := HC12.out _ hg3; have z3 := hg3.size; try (have bx := hk3.nil (Box2.new w12 _ _ _ _ rfl)))
              | (go_at_call 14; refine (HA.out w12 _ (And.right (by assumption)) _ _ _ _ _ (by first | assumption | exact World.ownsRow.alloc (by assumption) _)).mono ?_; rintro e w4 ⟨rfl, ho4, hg4, hk4⟩; have hS4 := HC12.out _ hg4; have z4 := hg4.size; first | have bx := hk4.nil bx | have bx := hk4.nil (Box2.new w3 _ _ _ _ rfl) | skip)
              | (go_at_call 8; refine (HDi.out w12 _ (And.right (by assumption)) _ _ (by first | assumption | exact World.ownsRow.alloc (by assumption) _)).mono ?_; rintro e w5 ⟨ah, mh, ch, rfl, ho5, hg5, hk5⟩; have hS5 := HC12.out _ hg5; have z5 := hg5.size; (first | have bx := hk5.nil bx | have bx := hk5.nil (Box2.new w4 _ _ _ _ rfl) | skip); try (have bc0 := bx.cell0; have bc1 := bx.cell1; have bz0 := bx.frozen 0; have bz1 := bx.frozen 1)))
          all_goals
            go_wp2_with fail
            go_meet
            first
              | exact ⟨_, ah, mh, ch, rfl, rfl, Good.set (Good.set hg5 _ _ _ (by omega)) _ _ _ (by omega), GBox.stored bx (by omega) ho5⟩
              | exact ⟨_, ah, mh, ch, rfl, rfl, Good.alloc hg5 _, GBox.laid (by omega) ho5⟩
        case rest =>
          obtain ⟨b3, ah, mh, ch, rfl, rfl, G13, DH⟩ := hcut
          have L13 := L12.good G13
          have DW13 := DW12.up G13
          have DG13 := DG12.up G13
          have hmh : mh ≤ 1048576 := by rw [← DH.len]; exact hgl
          clear c0 c1 c2 c3 c4 c5 HC12 hS12 L12 DW12 DG12
          have q0 := DH.cells.1
          have q1 := DW13.cells.1
          have q2 := DH.cells.2
          have q3 := DW13.cells.2
          have HE13 := hideIt (eqGB DH DW13 (by omega))
          go_wp2_with (go_at_call 15; refine HE13.out.mono ?_; rintro e w14 ⟨rfl, hb14⟩; refine Hid.out ?_)
          refine (show ∀ {p : Prop}, p → Hid p from fun h => h) ?_
          have L14 := L13.up hb14
          have DG14 := DG13.up hb14
          clear HE13 hb14 q0 q1 q2 q3 L13 DW13 DG13
          have q0 := DG14.cells.1
          have q1 := DG14.cells.2
          have HH14 := hideIt (heldGB 1 DG14 (by omega) (by omega))
          go_wp2_with (go_at_call 17; refine HH14.out.mono ?_; rintro e w15 ⟨rfl, hb15⟩)
          go_ret
          exact ⟨rfl, (L14.up hb15).below⟩
  · rw [if_neg hn1] at HS
    go_enter Try.func4, Try.ntmps4
    go_wp2_with (go_at_call 12; refine (show Calls Try.prog 12 _ (lk w N a n c xi xo xa xb) _ from HS.out).mono ?_; rintro e w1 ⟨rfl, hb1⟩)
    go_ret
    exact ⟨rfl, HB.out.trans (Below.mono hb1 (by rw [lk_size]; omega))⟩
end Go.Proofs.Ytobcihdjennieaa
namespace Go.Proofs.Ytobcihdjennieaa
open Go.ChangeShapes Go.WideShapes Go.ChangeAt Go.RowKit

theorem len4K {α : Type} {l : List α} (h : l.length = 4) : ∃ c0 c1 c2 c3, l = [c0, c1, c2, c3] := by
  match l, h with
  | [c0, c1, c2, c3], _ => exact ⟨c0, c1, c2, c3, rfl⟩
set_option maxRecDepth 100000 in
theorem open_ask {H : Type} {enc : TypeId × Value → H} {W : World} {r : Reach} {base : Nat} {v : Value} {d : DataW H} {p : List MemPlace}
    (hv : Value.okWide Try.prog W r base 38 v) (h : DataW.Trod enc Try.prog W 0 (fun _ => true) true 38 v d p) :
    ∃ i o a b : Int, v = .agg #[.int .i64 i, .int .i64 o, .int .i64 a, .int .i64 b] := by
  obtain ⟨cs, rfl, hcs⟩ := okWide_struct Try.underlying38 hv
  obtain ⟨fuel, hf⟩ := h
  obtain ⟨xs, n, _, _, hl, hlen, hfi⟩ := DataW.trod_struct Try.underlying38 hf
  rw [show Try.prog.cellsOf 38 = 4 by kernel_rfl] at hcs hl
  obtain ⟨l⟩ := cs
  obtain ⟨c0, c1, c2, c3, rfl⟩ := len4K (by simpa using hcs : l.length = 4)
  have ec : (Value.agg (List.toArray [c0, c1, c2, c3])).cells.toList = [c0, c1, c2, c3] := by simp [Value.cells]
  rw [ec] at hfi
  have h0 : DataW.trod enc Try.prog W 0 (fun _ => true) true n 3 (([c0, c1, c2, c3].drop 0).take (Try.prog.cellsOf 3)) = xs[0]? := hfi 0 _ rfl
  have h1 : DataW.trod enc Try.prog W 0 (fun _ => true) true n 3 (([c0, c1, c2, c3].drop 1).take (Try.prog.cellsOf 3)) = xs[1]? := hfi 1 _ rfl
  have h2 : DataW.trod enc Try.prog W 0 (fun _ => true) true n 3 (([c0, c1, c2, c3].drop 2).take (Try.prog.cellsOf 3)) = xs[2]? := hfi 2 _ rfl
  have h3 : DataW.trod enc Try.prog W 0 (fun _ => true) true n 3 (([c0, c1, c2, c3].drop 3).take (Try.prog.cellsOf 3)) = xs[3]? := hfi 3 _ rfl
  rw [cells3] at h0 h1 h2 h3
  have g : ∀ i, i < 4 → ∃ z, xs[i]? = some z := fun i hi => ⟨xs[i]'(by simp at hlen; omega), List.getElem?_eq_getElem _⟩
  obtain ⟨z0, e0⟩ := g 0 (by omega)
  obtain ⟨z1, e1⟩ := g 1 (by omega)
  obtain ⟨z2, e2⟩ := g 2 (by omega)
  obtain ⟨z3, e3⟩ := g 3 (by omega)
  rw [e0] at h0
  rw [e1] at h1
  rw [e2] at h2
  rw [e3] at h3
  obtain ⟨k0, hk0, _, _⟩ := DataW.trod_int Try.underlying3 h0
  obtain ⟨k1, hk1, _, _⟩ := DataW.trod_int Try.underlying3 h1
  obtain ⟨k2, hk2, _, _⟩ := DataW.trod_int Try.underlying3 h2
  obtain ⟨k3, hk3, _, _⟩ := DataW.trod_int Try.underlying3 h3
  simp at hk0 hk1 hk2 hk3
  subst hk0
  subst hk1
  subst hk2
  subst hk3
  exact ⟨_, _, _, _, rfl⟩
end Go.Proofs.Ytobcihdjennieaa
