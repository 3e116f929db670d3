/- The walk of FnExactDoAct. -/
import Derived.Test.YtibcdpnodikpiaiLawSt
import Derived.Test.YtibcdpnodikpiaiIDoAct
import Derived.Test.YtibcdpnodikpiaiActs
import Derived.Deep.DeepCutAuto
namespace Go.Proofs.Ytibcdpnodikpiai
open Go.RowKit

/-- the world behind the law's two boxes -/
def lw (w : World) (a : Option Addr) (n c : Nat) (x : ActV) : World := (w.alloc (.cells #[.slice a n c] 24)).alloc (.cells #[.int .i64 x.kind, .string x.name, .string x.text, .string x.to] 26)
theorem lw_size (w : World) (a : Option Addr) (n c : Nat) (x : ActV) : (lw w a n c x).heap.size = w.heap.size + 2 := by simp [lw]
/-- nothing of these has turned -/
def LG (w : World) (a : Option Addr) (n c : Nat) (x : ActV) (u : World) : Prop := Below (w.heap.size + 2) (lw w a n c x) u
theorem LG.start (w : World) (a : Option Addr) (n c : Nat) (x : ActV) : LG w a n c x (lw w a n c x) := Below.refl _ _
theorem LG.size {w : World} {a : Option Addr} {n c : Nat} {x : ActV} {u : World} (h : LG w a n c x u) : w.heap.size + 2 ≤ u.heap.size := by have := Below.size h; rw [lw_size] at this; exact this
theorem LG.up {w : World} {a : Option Addr} {n c : Nat} {x : ActV} {u v : World} (h : LG w a n c x u) (hb : Below u.heap.size u v) : LG w a n c x v := Below.trans h (hb.mono h.size)
theorem LG.good {w : World} {a : Option Addr} {n c : Nat} {x : ActV} {u v : World} (h : LG w a n c x u) (hb : Good u v) : LG w a n c x v := h.up hb
theorem LG.rng {w : World} {a : Option Addr} {n c : Nat} {x : ActV} {u v : World} {lo hi : Nat} (h : LG w a n c x u) (hr : Rng lo hi u v) (hl : w.heap.size + 2 ≤ lo) : LG w a n c x v := Below.trans h (hr.below hl h.size)
theorem LG.below {w : World} {a : Option Addr} {n c : Nat} {x : ActV} {u : World} (h : LG w a n c x u) : Below w.heap.size w u :=
  (((Below.refl w.heap.size w).alloc (Nat.le_refl _) _).alloc (by simp) _).trans (Below.mono h (by omega))
theorem LG.fs {w : World} {a : Option Addr} {n c : Nat} {x : ActV} {u : World} {fs : List FileV} (h : LG w a n c x u) (hf : Fs w w.heap.size a n fs) : Fs u u.heap.size a n fs := hf.up h.below
theorem LG.cells {w : World} {a : Option Addr} {n c : Nat} {x : ActV} {u : World} (h : LG w a n c x u) :
    u.cell? ⟨w.heap.size, 0, none⟩ = some (.slice a n c) ∧ u.cell? ⟨w.heap.size + 1, 0, none⟩ = some (.int .i64 x.kind) ∧ u.cell? ⟨w.heap.size + 1, 1, none⟩ = some (.string x.name) ∧ u.cell? ⟨w.heap.size + 1, 2, none⟩ = some (.string x.text) ∧ u.cell? ⟨w.heap.size + 1, 3, none⟩ = some (.string x.to) := by
  refine ⟨?_, ?_, ?_, ?_, ?_⟩
  · rw [Below.cell h (by show w.heap.size < _; omega)]; simp [lw]
  all_goals
    rw [Below.cell h (by show w.heap.size + 1 < _; omega)]
    simp [lw]

theorem toAct_G (x : ActV) {u0 u : World} (h : Good u0 u) {B m cc : Nat} {aa : Option Addr} {ds : List FileV} (ho : u.ownsRow B 63 3 (.slice aa m cc) m (fcells ds)) :
    Calls Try.prog 12 #[.agg #[.int .i64 x.kind, .string x.name, .string x.text, .string x.to]] u fun e v => e = .returned (.agg #[.int .i64 x.kind, .string x.name, .string x.text, .string x.to]) ∧ v.ownsRow B 63 3 (.slice aa m cc) m (fcells ds) ∧ Good u0 v ∧ Keep u v :=
  (toAct_any x u).mono fun _ _ ⟨he, hb⟩ => ⟨he, own_up ho hb, h.up hb, Keep.of hb⟩
/-- what is asked of either DoAct -/
theorem doAct_G {F : Nat} (H : ∀ (fs : List FileV) (_ : fs.length + letters fs ≤ 1048576) (n : Nat) (a : Option Addr) (c : Nat) (x : ActV) (_ : FitA x) (w : World) (_ : Fs w w.heap.size a n fs), Calls Try.prog F #[.agg #[.slice a n c], .agg #[.int .i64 x.kind, .string x.name, .string x.text, .string x.to]] w (ActAns w (doAct fs x)))
    (fs : List FileV) (hlet : fs.length + letters fs ≤ 1048576) (n : Nat) (x : ActV) (hx : FitA x) {u0 u : World} (h : Good u0 u) {B g : Nat} (ho : u.ownsRow B 63 3 (.slice (some ⟨g, 0, none⟩) n n) n (fcells fs)) :
    Calls Try.prog F #[.agg #[.slice (some ⟨g, 0, none⟩) n n], .agg #[.int .i64 x.kind, .string x.name, .string x.text, .string x.to]] u fun e v => ∃ aw mw cw, e = .returned (.tuple #[.agg #[.slice aw mw cw], .bool (doAct fs x).isSome]) ∧ v.ownsRow u0.heap.size 63 3 (.slice aw mw cw) mw (fcells ((doAct fs x).getD [])) ∧ Good u0 v ∧ Keep u v :=
  (H fs hlet n (some ⟨g, 0, none⟩) n x hx u (Fs_of_own ho)).mono fun _ _ hA => by
    obtain ⟨aw, mw, cw, he, hw, hb⟩ := act_ans hA
    exact ⟨aw, mw, cw, he, own_mono hw h.size, h.up hb, Keep.of hb⟩

theorem szA_fit {r : Int} {x : ActV} (h1 : r ≤ 1048576) : szA r x = -1 ∨ (0 ≤ szA r x ∧ FitA x) := by
  by_cases h : (x.name.size : Int) + x.text.size + x.to.size ≤ r
  · rw [szA_yes _ _ h]
    refine .inr ⟨by omega, ?_⟩
    unfold FitA
    omega
  · exact .inl (szA_no _ _ h)
theorem doAct_len {fs : List FileV} {x : ActV} : ((doAct fs x).getD []).length ≤ 30 := by
  cases h : doAct fs x with
  | none => simp
  | some gs => exact (doAct_disk h).1

set_option maxRecDepth 100000 in
set_option maxHeartbeats 8000000 in
theorem fnExactDoAct.walk (fs : List FileV) (hfitF : ∀ f ∈ fs, FitF f) (n : Nat) (a : Option Addr) (c : Nat) (hn : n ≤ maxLen) (x : ActV) (hx : BearA x) (w : World) (h : Fs w w.heap.size a n fs) :
    Calls Try.prog 3 #[.agg #[.slice a n c], .agg #[.int .i64 x.kind, .string x.name, .string x.text, .string x.to]] w fun e w' => e = .returned (.bool true) ∧ Below w.heap.size w w' := by
  have hfit : FitsF fs := fun f hf => ⟨(hfitF f hf).1, (hfitF f hf).2.1⟩
  have HS := hideIt (szDisk_any fs hfit 1048576 (by omega) (by omega) n a c hn _ ((LG.start w a n c x).fs h))
  have HF := hideIt h
  have hp := szFs_pos 1048576 fs
  have hp1 : szFs 1048576 fs ≤ 1048576 := by unfold szFs; split <;> omega
  have HX := hideIt hx
  have hlen := h.1
  have HB := hideIt (LG.start w a n c x).below
  clear hfit hfitF h hx
  generalize szFs 1048576 fs = r at *
  by_cases g : r < 0
  · obtain rfl : r = -1 := by omega
    clear hp
    go_enter Try.func3, Try.ntmps3
    go_wp2_with (go_at_call 8; refine (show Calls Try.prog 8 _ (lw w a n c x) _ from HS.out).mono ?_; rintro e w1 ⟨rfl, hb1⟩)
    go_ret
    exact ⟨rfl, HB.out.trans (Below.mono hb1 (by rw [lw_size]; omega))⟩
  · have hlet : fs.length + letters fs ≤ 1048576 := by omega
    have hn1 : n ≤ 1048576 := by omega
    have d1 : decide (r < 0) = false := by simp; omega
    have hr0 : 0 ≤ r := by omega
    go_enter Try.func3, Try.ntmps3
    go_wp2_with (go_at_call 8; refine (show Calls Try.prog 8 _ (lw w a n c x) _ from HS.out).mono ?_; rintro e w1 ⟨rfl, hb1⟩; refine Hid.out ?_)
    refine (show ∀ {p : Prop}, p → Hid p from fun h => h) ?_
    have L1 : LG w a n c x w1 := (LG.start w a n c x).up hb1
    obtain ⟨c0, c1, c2, c3, c4⟩ := L1.cells
    have HSA := hideIt (szAct_any x r (by omega) hp1 HX.out w1)
    have hq := szA_fit (x := x) hp1
    generalize szA r x = q at *
    clear hb1 HS hp
    by_cases g2 : q < 0
    · obtain rfl : q = -1 := by omega
      go_wp2_with (go_at_call 9; refine HSA.out.mono ?_; rintro e w2 ⟨rfl, hb2⟩)
      go_ret
      exact ⟨rfl, (L1.up hb2).below⟩
    · have hxa : FitA x := by
        rcases hq with hq | hq
        · omega
        · exact hq.2
      have d2 : decide (q < 0) = false := by simp; omega
      go_wp2_with (go_at_call 9; refine HSA.out.mono ?_; rintro e w2 ⟨rfl, hb2⟩; refine Hid.out ?_)
      refine (show ∀ {p : Prop}, p → Hid p from fun h => h) ?_
      have L2 := L1.up hb2
      clear hb2 HSA c0 c1 c2 c3 c4 L1
      have hgl := doAct_len (fs := fs) (x := x)
      have HDs := hideIt (fun u0 u (hu : Good u0 u) B g ho => doAct_G sDoAct_any fs hlet n x hxa hu (B := B) (g := g) ho)
      have HDi := hideIt (fun u0 u (hu : Good u0 u) B g ho => doAct_G iDoAct_any fs hlet n x hxa hu (B := B) (g := g) ho)
      have HA := hideIt (fun u0 u (hu : Good u0 u) B m cc aa ds ho => toAct_G x hu (B := B) (m := m) (cc := cc) (aa := aa) (ds := ds) ho)
      generalize (doAct fs x).isSome = fl at *
      generalize (doAct fs x).getD [] = gs at *
      have hff : (fl != fl) = false := by simp
      obtain ⟨c0, c1, c2, c3, c4⟩ := L2.cells
      have HC := hideIt (fun u (hu : Good w2 u) => And.intro (L2.good hu).cells hu)
      have hS2 := HC.out _ (Good.refl w2).drew
      have zz := L2.size
      go_upto_region 8 with fail
      go_cut [6, 7] (fun p ok wx => ∃ b aw mw cw, p = .pointer (some ⟨b, 0, none⟩) ∧ ok = .bool fl ∧ Good w2 wx ∧ DBox wx w2.heap.size wx.heap.size b aw mw cw gs)
      case first =>
        have HT := hideIt (fun u (hu : Good w2 u) => toDisk_G fs n a c hn1 (L2.fs HF.out) hu)
        go_region_held3 (fun u => (u.cell? ⟨w.heap.size, 0, none⟩ = some (.slice a n c) ∧ u.cell? ⟨w.heap.size + 1, 0, none⟩ = some (.int .i64 x.kind) ∧ u.cell? ⟨w.heap.size + 1, 1, none⟩ = some (.string x.name) ∧ u.cell? ⟨w.heap.size + 1, 2, none⟩ = some (.string x.text) ∧ u.cell? ⟨w.heap.size + 1, 3, none⟩ = some (.string x.to)) ∧ Good w2 u)
          (first | assumption | exact HC.out _ (Good.alloc (And.right (by assumption)) _) | exact HC.out _ (Good.set (And.right (by assumption)) _ _ _ (by omega)))
          (first
            | (go_at_call 11; refine (HT.out _ (And.right (by assumption))).mono ?_; rintro e w3 ⟨g3, rfl, ho3, hg3, hk3⟩; have hS3 := HC.out _ hg3; have z3 := hg3.size; try (have bx := hk3.nil (Box.new w2 _ _ _ rfl)))
            | (go_at_call 12; refine (HA.out w2 _ (And.right (by assumption)) _ _ _ _ _ (by first | assumption | exact World.ownsRow.alloc (by assumption) _)).mono ?_; rintro e w4 ⟨rfl, ho4, hg4, hk4⟩; have hS4 := HC.out _ hg4; have z4 := hg4.size; first | have bx := hk4.nil bx | have bx := hk4.nil (Box.new w3 _ _ _ rfl) | skip)
            | (go_at_call 10; refine (HDs.out w2 _ (And.right (by assumption)) _ _ (by first | assumption | exact World.ownsRow.alloc (by assumption) _)).mono ?_; rintro e w5 ⟨aw, mw, cw, rfl, ho5, hg5, hk5⟩; have hS5 := HC.out _ hg5; have z5 := hg5.size; (first | have bx := hk5.nil bx | have bx := hk5.nil (Box.new w4 _ _ _ rfl) | skip); try (have bc := bx.cell; have bz := bx.frozen)))
        all_goals
          go_wp2_with fail
          go_meet
          first
            | exact ⟨_, aw, mw, cw, rfl, rfl, Good.set hg5 _ _ _ (by omega), DBox.stored bx (by omega) ho5⟩
            | exact ⟨_, aw, mw, cw, rfl, rfl, Good.alloc hg5 _, DBox.laid (by omega) ho5⟩
      case rest =>
        obtain ⟨b, aw, mw, cw, rfl, rfl, G3, DW⟩ := hcut
        have L3 := L2.good G3
        have z3 := L3.size
        clear c0 c1 c2 c3 c4 HC hS2
        obtain ⟨c0, c1, c2, c3, c4⟩ := L3.cells
        have HT3 := hideIt (toDisk_G fs n a c hn1 (L3.fs HF.out) (Good.refl wc))
        go_wp2_with (go_at_call 11; refine HT3.out.mono ?_; rintro e w4 ⟨g4, rfl, ho4, hg4, _⟩; refine Hid.out ?_)
        refine (show ∀ {p : Prop}, p → Hid p from fun h => h) ?_
        clear HT3 c0 c1 c2 c3 c4
        go_upto_region 10 with fail
        have hz4 := hg4.size
        have DX := DBox.laid (lo := wc.heap.size) hz4 ho4
        have G4 := hg4.alloc (.cells #[.slice (some ⟨g4, 0, none⟩) n n] 31)
        have L4 := L3.good G4
        have DW4 := DW.up G4
        have hC0 : w.heap.size + 2 ≤ w2.heap.size := zz
        have hC1 : w2.heap.size ≤ wc.heap.size := G3.size
        clear ho4 hg4 DW G3 L3 z3 hz4
        obtain ⟨u1, bX, C1, e1, e2, e3⟩ : ∃ u1 bX C1, u1 = w4.alloc (.cells #[.slice (some ⟨g4, 0, none⟩) n n] 31) ∧ bX = w4.heap.size ∧ C1 = wc.heap.size := ⟨_, _, _, rfl, rfl, rfl⟩
        rw [← e1] at DX L4 DW4 G4 ⊢
        rw [← e2] at DX ⊢
        rw [← e3] at DX DW4 hC1
        clear e1 e2 e3 G4
        have z4 := L4.size
        have HC4 := hideIt (fun u (hu : Good u1 u) => And.intro (And.intro (DX.up hu).cell (L4.good hu).cells.2) hu)
        have hS4 := HC4.out _ (Good.refl u1).drew
        have hox := DX.own.drew
        have o1 := DX.cell
        go_cut [9, 10] (fun p ok wx => ∃ b2 ag mg cg, p = .pointer (some ⟨b2, 0, none⟩) ∧ ok = .bool fl ∧ Good u1 wx ∧ DBox wx u1.heap.size wx.heap.size b2 ag mg cg gs)
        case first =>
          go_region_held3 (fun u => (u.cell? ⟨bX, 0, none⟩ = some (.slice (some ⟨g4, 0, none⟩) n n) ∧ u.cell? ⟨w.heap.size + 1, 0, none⟩ = some (.int .i64 x.kind) ∧ u.cell? ⟨w.heap.size + 1, 1, none⟩ = some (.string x.name) ∧ u.cell? ⟨w.heap.size + 1, 2, none⟩ = some (.string x.text) ∧ u.cell? ⟨w.heap.size + 1, 3, none⟩ = some (.string x.to)) ∧ Good u1 u)
            (first | assumption | exact HC4.out _ (Good.alloc (And.right (by assumption)) _) | exact HC4.out _ (Good.set (And.right (by assumption)) _ _ _ (by omega)))
            (first
              | (go_at_call 12; refine (HA.out u1 _ (And.right (by assumption)) C1 n n (some ⟨g4, 0, none⟩) fs (by first | assumption | exact World.ownsRow.alloc (by assumption) _)).mono ?_; rintro e w5 ⟨rfl, ho5, hg5, hk5⟩; have hS5 := HC4.out _ hg5; have z5 := hg5.size; first | have bx := hk5.nil (Box.new u1 _ _ _ rfl) | skip)
              | (go_at_call 13; refine (HDi.out u1 _ (And.right (by assumption)) C1 g4 (by first | assumption | exact World.ownsRow.alloc (by assumption) _)).mono ?_; rintro e w6 ⟨ag, mg, cg, rfl, ho6, hg6, hk6⟩; have hS6 := HC4.out _ hg6; have z6 := hg6.size; (first | have bx := hk6.nil bx | have bx := hk6.nil (Box.new w5 _ _ _ rfl) | skip); try (have bc := bx.cell; have bz := bx.frozen)))
          all_goals
            go_wp2_with fail
            go_meet
            first
              | exact ⟨_, ag, mg, cg, rfl, rfl, Good.set hg6 _ _ _ (by omega), DBox.stored bx (by omega) ho6⟩
              | exact ⟨_, ag, mg, cg, rfl, rfl, Good.alloc hg6 _, DBox.laid (by omega) ho6⟩
        case rest =>
          obtain ⟨b2, ag, mg, cg, rfl, rfl, G5, DG⟩ := hcut
          have L5 := L4.good G5
          have DW5 := DW4.up G5
          have DX5 := DX.up G5
          have hC2 : C1 ≤ u1.heap.size := by have := DX.least; have := DX.most; omega
          have hmg : mg ≤ 30 := by rw [← DG.len]; exact hgl
          have hmw : mw ≤ 30 := by rw [← DW5.len]; exact hgl
          clear HC4 hS4 hox o1 DX DW4
          have q0 := DG.cell
          have q1 := DW5.cell
          have HE5 := hideIt (eqDB DG DW5 (by omega))
          go_wp2_with (go_at_call 14; refine HE5.out.mono ?_; rintro e w6 ⟨rfl, hb6⟩; refine Hid.out ?_)
          refine (show ∀ {p : Prop}, p → Hid p from fun h => h) ?_
          have L6 := L5.up hb6
          have DW6 := DW5.up hb6
          have DX6 := DX5.up hb6
          have DG6 := DG.up hb6
          have hz6 := hb6.size
          clear HE5 hb6 q0 q1 DG DW5 DX5 L5
          have HC6 := hideIt (fun u (hu : Good w6 u) => And.intro (And.intro (DX6.up hu).cell (L6.good hu).cells.1) hu)
          have hS6 := HC6.out _ (Good.refl w6).drew
          have HT6 := hideIt (fun u (hu : Good w6 u) => toDisk_G fs n a c hn1 (L6.fs HF.out) hu)
          have HX6 := hideIt (fun u (hu : Good w6 u) => (DX6.up hu).fs)
          go_upto_region 13 with fail
          go_region_held3 (fun u => (u.cell? ⟨bX, 0, none⟩ = some (.slice (some ⟨g4, 0, none⟩) n n) ∧ u.cell? ⟨w.heap.size, 0, none⟩ = some (.slice a n c)) ∧ Good w6 u)
            (first | assumption)
            (first
              | (go_at_call 11; refine (HT6.out _ (And.right (by assumption))).mono ?_; rintro e w7 ⟨g7, rfl, ho7, hg7, _⟩; have hS7 := HC6.out _ hg7)
              | (go_at_call 14; refine (eqDisk_same fs n _ _ _ _ hn1 _ (HX6.out _ hg7) (Fs_of_own ho7)).mono ?_; rintro e w8 ⟨rfl, hb8⟩; have hg8 := hg7.up hb8; have hS8 := HC6.out _ hg8))
          have L8 := L6.good hg8
          have DW8 := DW6.up hg8
          have DX8 := DX6.up hg8
          have DG8 := DG6.up hg8
          have hz8 := hg8.size
          clear HC6 hS6 HT6 HX6 hS7 hS8 hg7 ho7 hb8 L6 DW6 DX6 DG6
          have q2 := DX8.cell
          have HM8 := hideIt (markDB DX8 1 hn1 (by omega) (by omega))
          go_wp2_with (go_at_call 15; refine HM8.out.mono ?_; rintro e w9 ⟨rfl, hDX9, hr9⟩; refine Hid.out ?_)
          refine (show ∀ {p : Prop}, p → Hid p from fun h => h) ?_
          have L9 := L8.rng hr9 (by omega)
          have DW9 := DW8.rng hr9 (.inl (Nat.le_refl _))
          have DG9 := DG8.rng hr9 (.inr (Nat.le_refl _))
          clear HM8 q2 L8 DW8 DX8 DG8 hr9 hDX9
          have d3 : decide ((1 : Int) + (n : Int) * 3 < 0) = false := by simp; omega
          have q0 := DG9.cell
          have q1 := DW9.cell
          have HE9 := hideIt (eqDB DG9 DW9 (by omega))
          go_wp2_with (go_at_call 14; refine HE9.out.mono ?_; rintro e w10 ⟨rfl, hb10⟩; refine Hid.out ?_)
          refine (show ∀ {p : Prop}, p → Hid p from fun h => h) ?_
          have L10 := L9.up hb10
          have DW10 := DW9.up hb10
          have DG10 := DG9.up hb10
          clear HE9 hb10 q0 q1 L9 DW9 DG9
          have q0 := DG10.cell
          have HM10 := hideIt (markDB DG10 1 (by omega) (by omega) (by omega))
          go_wp2_with (go_at_call 15; refine HM10.out.mono ?_; rintro e w11 ⟨rfl, DG11, hr11⟩; refine Hid.out ?_)
          refine (show ∀ {p : Prop}, p → Hid p from fun h => h) ?_
          have L11 := L10.rng hr11 (by omega)
          have DW11 := DW10.rng hr11 (.inl (by omega))
          clear HM10 q0 L10 DW10 DG10 hr11
          have q0 := DG11.cell
          have HH11 := hideIt (heldDB 1 DG11 (by omega) (by omega) (by omega))
          have d4 : decide ((1 : Int) + (mg : Int) * 3 < 0) = false := by simp; omega
          have d5 : ((1 : Int) + (mg : Int) * 3 != (1 : Int) + (mg : Int) * 3) = false := by simp
          go_wp2_with (go_at_call 16; refine HH11.out.mono ?_; rintro e w12 ⟨rfl, hb12⟩; refine Hid.out ?_)
          refine (show ∀ {p : Prop}, p → Hid p from fun h => h) ?_
          have L12 := L11.up hb12
          have DW12 := DW11.up hb12
          have DG12 := DG11.up hb12
          clear HH11 hb12 q0 L11 DW11 DG11
          have HC12 := hideIt (fun u (hu : Good w12 u) => And.intro (L12.good hu).cells hu)
          have hS12 := HC12.out _ (Good.refl w12).drew
          have zz12 := L12.size
          obtain ⟨c0, c1, c2, c3, c4⟩ := L12.cells
          go_upto_region 27 with fail
          go_cut [14, 15] (fun p ok wx => ∃ b3 ah mh ch, p = .pointer (some ⟨b3, 0, none⟩) ∧ ok = .bool fl ∧ Good w12 wx ∧ DBox wx w12.heap.size wx.heap.size b3 ah mh ch gs)
          case first =>
            have HT := hideIt (fun u (hu : Good w12 u) => toDisk_G fs n a c hn1 (L12.fs HF.out) hu)
            go_region_held3 (fun u => (u.cell? ⟨w.heap.size, 0, none⟩ = some (.slice a n c) ∧ u.cell? ⟨w.heap.size + 1, 0, none⟩ = some (.int .i64 x.kind) ∧ u.cell? ⟨w.heap.size + 1, 1, none⟩ = some (.string x.name) ∧ u.cell? ⟨w.heap.size + 1, 2, none⟩ = some (.string x.text) ∧ u.cell? ⟨w.heap.size + 1, 3, none⟩ = some (.string x.to)) ∧ Good w12 u)
              (first | assumption | exact HC12.out _ (Good.alloc (And.right (by assumption)) _) | exact HC12.out _ (Good.set (And.right (by assumption)) _ _ _ (by omega)))
              (first
                | (go_at_call 11; refine (HT.out _ (And.right (by assumption))).mono ?_; rintro e w3 ⟨g3, rfl, ho3, hg3, hk3⟩; have hS3 := HC12.out _ hg3; have z3 := hg3.size; try (have bx := hk3.nil (Box.new w12 _ _ _ rfl)))
                | (go_at_call 12; refine (HA.out w12 _ (And.right (by assumption)) _ _ _ _ _ (by first | assumption | exact World.ownsRow.alloc (by assumption) _)).mono ?_; rintro e w4 ⟨rfl, ho4, hg4, hk4⟩; have hS4 := HC12.out _ hg4; have z4 := hg4.size; first | have bx := hk4.nil bx | have bx := hk4.nil (Box.new w3 _ _ _ rfl) | skip)
                | (go_at_call 13; refine (HDi.out w12 _ (And.right (by assumption)) _ _ (by first | assumption | exact World.ownsRow.alloc (by assumption) _)).mono ?_; rintro e w5 ⟨ah, mh, ch, rfl, ho5, hg5, hk5⟩; have hS5 := HC12.out _ hg5; have z5 := hg5.size; (first | have bx := hk5.nil bx | have bx := hk5.nil (Box.new w4 _ _ _ rfl) | skip); try (have bc := bx.cell; have bz := bx.frozen)))
            all_goals
              go_wp2_with fail
              go_meet
              first
                | exact ⟨_, ah, mh, ch, rfl, rfl, Good.set hg5 _ _ _ (by omega), DBox.stored bx (by omega) ho5⟩
                | exact ⟨_, ah, mh, ch, rfl, rfl, Good.alloc hg5 _, DBox.laid (by omega) ho5⟩
          case rest =>
            obtain ⟨b3, ah, mh, ch, rfl, rfl, G13, DH⟩ := hcut
            have L13 := L12.good G13
            have DW13 := DW12.up G13
            have DG13 := DG12.up G13
            have hmh : mh ≤ 30 := by rw [← DH.len]; exact hgl
            clear c0 c1 c2 c3 c4 HC12 hS12 L12 DW12 DG12
            have q0 := DH.cell
            have q1 := DW13.cell
            have HE13 := hideIt (eqDB DH DW13 (by omega))
            go_wp2_with (go_at_call 14; refine HE13.out.mono ?_; rintro e w14 ⟨rfl, hb14⟩; refine Hid.out ?_)
            refine (show ∀ {p : Prop}, p → Hid p from fun h => h) ?_
            have L14 := L13.up hb14
            have DG14 := DG13.up hb14
            clear HE13 hb14 q0 q1 L13 DW13 DG13
            have q0 := DG14.cell
            have HH14 := hideIt (heldDB 1 DG14 (by omega) (by omega) (by omega))
            go_wp2_with (go_at_call 16; refine HH14.out.mono ?_; rintro e w15 ⟨rfl, hb15⟩)
            go_ret
            exact ⟨rfl, (L14.up hb15).below⟩
end Go.Proofs.Ytibcdpnodikpiai
