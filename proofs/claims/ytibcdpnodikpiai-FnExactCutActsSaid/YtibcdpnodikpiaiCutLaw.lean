/- The walk of FnExactCutActs. -/
import Derived.Test.YtibcdpnodikpiaiLawSt1
import Derived.Test.YtibcdpnodikpiaiSCut
import Derived.Test.YtibcdpnodikpiaiICut
import Derived.Test.YtibcdpnodikpiaiActs2
import Derived.Test.YtibcdpnodikpiaiOpenActs
import Derived.Test.YtibcdpnodikpiaiInts
import Derived.Test.YtibcdpnodikpiaiOpenInts
import Derived.Deep.DeepCutAuto
namespace Go.Proofs.Ytibcdpnodikpiai
open Go.RowKit

set_option maxRecDepth 100000 in
set_option maxHeartbeats 8000000 in
theorem fnExactCutActs.walk (fs : List FileV) (hfitF : ∀ f ∈ fs, FitF f) (n : Nat) (a : Option Addr) (c : Nat) (hn : n ≤ maxLen) (xs : List ActV) (hbear : ∀ x ∈ xs, BearA x) (ln : Nat) (al : Option Addr) (cl : Nat) (hln : ln ≤ maxLen) (z : Int) (_ : (Lit.int .i64 z).wf = true) (ls : List Int) (_ : ∀ x ∈ ls, (Lit.int .i64 x).wf = true) (li : Nat) (ai : Option Addr) (ci : Nat) (hli : li ≤ maxLen) (w : World) (h : Fs w w.heap.size a n fs) (hl : As w w.heap.size al ln xs) (hi : Is w w.heap.size ai li ls) :
    Calls Try.prog 6 #[.agg #[.slice a n c], .slice al ln cl, .int .i64 z, .slice ai li ci] w fun e w' => e = .returned (.bool true) ∧ Below w.heap.size w w' := by
  have hfit : FitsF fs := fun f hf => ⟨(hfitF f hf).1, (hfitF f hf).2.1⟩
  have HS := hideIt (szDisk_any fs hfit 1048576 (by omega) (by omega) n a c hn _ (h.up (L1.start w a n c).below))
  have HF := hideIt h
  have HI := hideIt hl
  have HJ := hideIt hi
  have HBr := hideIt hbear
  have hp := szFs_pos 1048576 fs
  have hp1 : szFs 1048576 fs ≤ 1048576 := by unfold szFs; split <;> omega
  have hlen := h.1
  have hlenA := hl.1
  unfold maxLen at hli
  clear hfit hfitF h hl hbear hi
  generalize szFs 1048576 fs = r at *
  by_cases gl : 1048576 < li
  · have d0 : decide ((1048576 : Int) < (li : Int)) = true := by simp; omega
    go_enter Try.func6, Try.ntmps6
    go_wp2
    go_ret
    exact ⟨rfl, (Below.refl _ _).alloc (Nat.le_refl _) _⟩
  have d0 : decide ((1048576 : Int) < (li : Int)) = false := by simp; omega
  have hli1 : li ≤ 1048576 := by omega
  by_cases g : r < 0
  · obtain rfl : r = -1 := by omega
    clear hp
    go_enter Try.func6, Try.ntmps6
    go_wp2_with (go_at_call 8; refine (show Calls Try.prog 8 _ (lw1 w a n c) _ from HS.out).mono ?_; rintro e w1 ⟨rfl, hb1⟩)
    go_ret
    exact ⟨rfl, ((L1.start w a n c).up hb1).below⟩
  · have hlet : fs.length + letters fs ≤ 1048576 := by omega
    have hn1 : n ≤ 1048576 := by omega
    have d1 : decide (r < 0) = false := by simp; omega
    go_enter Try.func6, Try.ntmps6
    go_wp2_with (go_at_call 8; refine (show Calls Try.prog 8 _ (lw1 w a n c) _ from HS.out).mono ?_; rintro e w0 ⟨rfl, hb0⟩; refine Hid.out ?_)
    refine (show ∀ {p : Prop}, p → Hid p from fun h => h) ?_
    have L0 : L1 w a n c w0 := (L1.start w a n c).up hb0
    have HSA := hideIt (szActS_any xs HBr.out r (by omega) hp1 ln al cl hln w0 (HI.out.up L0.below))
    have hq := szAs_pos r xs
    generalize szAs r xs = q at *
    clear hb0 HS hp
    by_cases g2 : q < 0
    · obtain rfl : q = -1 := by omega
      go_wp2_with (go_at_call 17; refine HSA.out.mono ?_; rintro e w2 ⟨rfl, hb2⟩)
      go_ret
      exact ⟨rfl, (L0.up hb2).below⟩
    have d2 : decide (q < 0) = false := by simp; omega
    have hla : (xs.length : Int) + lettersA xs ≤ r := by
      rcases hq with hq | hq
      · omega
      · exact hq.2
    have hln1 : ln ≤ 1048576 := by omega
    have hxa : FitsA xs := fun x hx => by
      have := lettersA_mem hx
      unfold FitA
      omega
    have hgl := cutO_len (fs := fs) (xs := xs) (z := z) (ls := ls)
    have HLs := hideIt (fun u (g : Nat) (gi : Nat) (gj : Nat) (hu : Fs u u.heap.size (some ⟨g, 0, none⟩) n fs) (hi : As u u.heap.size (some ⟨gi, 0, none⟩) ln xs) (hj : Is u u.heap.size (some ⟨gj, 0, none⟩) li ls) => (sCutActs_any fs hlet n g 0 n xs hxa ln gi 0 ln hln1 (Nat.le_refl _) z ls li (some ⟨gj, 0, none⟩) li hli1 u hu hi hj).mono fun _ _ hA => act_ans hA)
    have HLi := hideIt (fun u (g : Nat) (gi : Nat) (gj : Nat) (hu : Fs u u.heap.size (some ⟨g, 0, none⟩) n fs) (hi : As u u.heap.size (some ⟨gi, 0, none⟩) ln xs) (hj : Is u u.heap.size (some ⟨gj, 0, none⟩) li ls) => (iCutActs_any fs hlet n (some ⟨g, 0, none⟩) n xs hxa ln gi 0 ln hln1 (Nat.le_refl _) z ls li (some ⟨gj, 0, none⟩) li hli1 u hu hi hj).mono fun _ _ hA => act_ans hA)
    generalize (cutO fs xs z ls).isSome = fl at *
    generalize (cutO fs xs z ls).getD [] = gs at *
    have hff : (fl != fl) = false := by simp
    have HD := hideIt (fun u (hu : L1 w a n c u) => toDisk_any fs n a c hn1 u (HF.out.up hu.below))
    have HT := hideIt (fun u (hu : L1 w a n c u) => toActS_any xs ln al cl hln1 u (HI.out.up hu.below))
    have HTi := hideIt (fun u (hu : L1 w a n c u) => toIntS_any ls li ai ci hli1 u (HJ.out.up hu.below))
    go_wp2_with (go_at_call 17; refine HSA.out.mono ?_; rintro e w1 ⟨rfl, hb1⟩; refine Hid.out ?_)
    refine (show ∀ {p : Prop}, p → Hid p from fun h => h) ?_
    have La : L1 w a n c w1 := L0.up hb1
    have c0 := La.cell
    clear HSA hb1 L0 hq
    -- the specification's answer
    go_wp2_with (go_at_call 11; refine (HD.out _ La).mono ?_; rintro e w2 ⟨g2, rfl, ho2, hb2⟩; refine Hid.out ?_)
    refine (show ∀ {p : Prop}, p → Hid p from fun h => h) ?_
    have Lb := La.up hb2
    go_wp2_with (go_at_call 19; refine (HT.out _ Lb).mono ?_; rintro e w3 ⟨g3, rfl, ho3, hb3⟩; refine Hid.out ?_)
    refine (show ∀ {p : Prop}, p → Hid p from fun h => h) ?_
    have Lc0 := Lb.up hb3
    go_wp2_with (go_at_call 24; refine (HTi.out _ Lc0).mono ?_; rintro e w3i ⟨g3i, rfl, ho3i, hb3i⟩; refine Hid.out ?_)
    refine (show ∀ {p : Prop}, p → Hid p from fun h => h) ?_
    have Lc := Lc0.up hb3i
    have F3 := Fs_of_own (own_up (own_up ho2 hb3) hb3i)
    have HA := hideIt (HLs.out w3i g2 g3 g3i F3 (As_of_own (own_up ho3 hb3i)) (Is_of_own ho3i))
    have z3i := hb3i.size
    clear c0
    go_wp2_with (go_at_call 28; refine HA.out.mono ?_; rintro e w4 ⟨aw, mw, cw, rfl, how, hb4⟩; refine Hid.out ?_)
    refine (show ∀ {p : Prop}, p → Hid p from fun h => h) ?_
    have Ld := Lc.up hb4
    have z1 := La.size
    have z2 := hb2.size
    have z3 := hb3.size
    have z4 := hb4.size
    have DW := DBox.laid (lo := w1.heap.size) (by omega) (own_mono how (by omega))
    have Le := Ld.up ((Below.refl _ _).alloc (Nat.le_refl _) (.cells #[.slice aw mw cw] 31))
    clear HA F3 ho2 ho3 ho3i hb2 hb3 hb3i hb4 how Lb Lc0 Lc Ld La
    have c0 := Le.cell
    obtain ⟨u1, bW, C1, e1, e2, e3⟩ : ∃ u1 bW C1, u1 = w4.alloc (.cells #[.slice aw mw cw] 31) ∧ bW = w4.heap.size ∧ C1 = (w4.alloc (.cells #[.slice aw mw cw] 31)).heap.size := ⟨_, _, _, rfl, rfl, rfl⟩
    go_upto_region 11 with fail
    rw [← e3, ← e1, ← e2] at DW
    rw [← e1] at Le c0 e3 ⊢
    rw [← e2]
    have hC1 : w1.heap.size ≤ C1 := by have := DW.least; have := DW.most; omega
    clear e1 e2
    -- what is handed to the program
    go_wp2_with (go_at_call 11; refine (HD.out _ Le).mono ?_; rintro e w5 ⟨g5, rfl, ho5, hb5⟩; refine Hid.out ?_)
    refine (show ∀ {p : Prop}, p → Hid p from fun h => h) ?_
    have z5 := hb5.size
    have DX := DBox.laid (lo := C1) (by omega) (own_mono ho5 (by omega))
    have Lf := (Le.up hb5).up ((Below.refl _ _).alloc (Nat.le_refl _) (.cells #[.slice (some ⟨g5, 0, none⟩) n n] 31))
    have DW5 := (DW.up hb5).up ((Below.refl _ _).alloc (Nat.le_refl _) (.cells #[.slice (some ⟨g5, 0, none⟩) n n] 31))
    clear ho5 hb5 c0 Le DW
    go_upto_region 12 with fail
    obtain ⟨u2, bX, C2, e1, e2, e4⟩ : ∃ u2 bX C2, u2 = w5.alloc (.cells #[.slice (some ⟨g5, 0, none⟩) n n] 31) ∧ bX = w5.heap.size ∧ C2 = (w5.alloc (.cells #[.slice (some ⟨g5, 0, none⟩) n n] 31)).heap.size := ⟨_, _, _, rfl, rfl, rfl⟩
    rw [← e4, ← e1, ← e2] at DX
    rw [← e1] at Lf DW5 e4 ⊢
    rw [← e2]
    have hC2 : C1 ≤ C2 := by have := DX.least; have := DX.most; omega
    clear e1 e2
    go_wp2_with (go_at_call 19; refine (HT.out _ Lf).mono ?_; rintro e w6 ⟨g6, rfl, ho6, hb6⟩; refine Hid.out ?_)
    refine (show ∀ {p : Prop}, p → Hid p from fun h => h) ?_
    have z6 := hb6.size
    have IX0 : RBox w6 C2 w6.heap.size g6 35 4 ln (acells xs) := ⟨own_mono ho6 (by omega), (ho6.lt g6 rfl).2, Nat.le_refl _⟩
    have Lg0 := Lf.up hb6
    have DW60 := DW5.up hb6
    have DX60 := DX.up hb6
    clear ho6 hb6 Lf DW5 DX
    go_wp2_with (go_at_call 24; refine (HTi.out _ Lg0).mono ?_; rintro e w6i ⟨g6i, rfl, ho6i, hb6i⟩; refine Hid.out ?_)
    refine (show ∀ {p : Prop}, p → Hid p from fun h => h) ?_
    have z6i := hb6i.size
    have JX : RBox w6i w6.heap.size w6i.heap.size g6i 3 1 li (ic ls) := ⟨ho6i, (ho6i.lt g6i rfl).2, Nat.le_refl _⟩
    have Lg := Lg0.up hb6i
    have DW6 := DW60.up hb6i
    have DX6 := DX60.up hb6i
    have IX := IX0.up hb6i
    have q0 := DX6.cell
    have HA6 := hideIt (HLi.out w6i g5 g6 g6i DX6.fs (As_of_own IX.own) (Is_of_own ho6i))
    clear ho6i hb6i Lg0 DW60 DX60 IX0
    go_wp2_with (go_at_call 29; refine HA6.out.mono ?_; rintro e w7 ⟨ag, mg, cg, rfl, hog, hb7⟩; refine Hid.out ?_)
    refine (show ∀ {p : Prop}, p → Hid p from fun h => h) ?_
    have z7 := hb7.size
    have DG := DBox.laid (lo := w6i.heap.size) (by omega) hog
    have K8 : Below w7.heap.size w7 (w7.alloc (.cells #[.slice ag mg cg] 31)) := (Below.refl _ _).alloc (Nat.le_refl _) _
    have Lh := (Lg.up hb7).up K8
    have DW8 := (DW6.up hb7).up K8
    have DX8 := (DX6.up hb7).up K8
    have IX8 := (IX.up hb7).up K8
    have JX8 := (JX.up hb7).up K8
    clear hog hb7 K8 q0 HA6 Lg DW6 DX6 IX JX
    go_upto_region 15 with fail
    obtain ⟨u3, bG, C4, e1, e2, e5⟩ : ∃ u3 bG C4, u3 = w7.alloc (.cells #[.slice ag mg cg] 31) ∧ bG = w7.heap.size ∧ C4 = (w7.alloc (.cells #[.slice ag mg cg] 31)).heap.size := ⟨_, _, _, rfl, rfl, rfl⟩
    obtain ⟨C3a, e6a⟩ : ∃ C3a, C3a = w6.heap.size := ⟨_, rfl⟩
    obtain ⟨C3, e6⟩ : ∃ C3, C3 = w6i.heap.size := ⟨_, rfl⟩
    rw [← e5, ← e1, ← e2, ← e6] at DG
    rw [← e6a] at IX8 JX8
    rw [← e6] at JX8
    rw [← e1] at Lh DW8 DX8 IX8 JX8 e5 ⊢
    rw [← e2]
    have hC3a : C2 ≤ C3a := by omega
    have hC3b : C3a ≤ C3 := by omega
    have hC3 : C2 ≤ C3 := by omega
    have hC4 : C3 ≤ C4 := by have := DG.least; have := DG.most; omega
    clear e1 e2
    have hmg : mg ≤ 30 := by rw [← DG.len]; exact hgl
    have hmw : mw ≤ 30 := by rw [← DW8.len]; exact hgl
    have q0 := DG.cell
    have q1 := DW8.cell
    have HE := hideIt (eqDB DG DW8 (by omega))
    go_wp2_with (go_at_call 14; refine HE.out.mono ?_; rintro e w9 ⟨rfl, hb9⟩; refine Hid.out ?_)
    refine (show ∀ {p : Prop}, p → Hid p from fun h => h) ?_
    have L9 := Lh.up hb9
    have DW9 := DW8.up hb9
    have DX9 := DX8.up hb9
    have DG9 := DG.up hb9
    have IX9 := IX8.up hb9
    have JX9 := JX8.up hb9
    clear HE hb9 q0 q1 Lh DW8 DX8 DG IX8 JX8
    have HC9 := hideIt (fun u (hu : Good w9 u) => And.intro (And.intro (DX9.up hu).cell (L9.up hu).cell) hu)
    have hS9 := HC9.out _ (Good.refl w9).drew
    have HT9 := hideIt (fun u (hu : Good w9 u) => toDisk_G fs n a c hn1 (HF.out.up L9.below) hu)
    have HX9 := hideIt (fun u (hu : Good w9 u) => (DX9.up hu).fs)
    go_upto_region 17 with fail
    go_region_held3 (fun u => (u.cell? ⟨bX, 0, none⟩ = some (.slice (some ⟨g5, 0, none⟩) n n) ∧ u.cell? ⟨w.heap.size, 0, none⟩ = some (.slice a n c)) ∧ Good w9 u)
      (first | assumption)
      (first
        | (go_at_call 11; refine (HT9.out _ (And.right (by assumption))).mono ?_; rintro e w10 ⟨g10, rfl, ho10, hg10, _⟩; have hS10 := HC9.out _ hg10)
        | (go_at_call 14; refine (eqDisk_same fs n _ _ _ _ hn1 _ (HX9.out _ hg10) (Fs_of_own ho10)).mono ?_; rintro e w11 ⟨rfl, hb11⟩; have hg11 := hg10.up hb11; have hS11 := HC9.out _ hg11))
    have L11 := L9.up hg11
    have DW11 := DW9.up hg11
    have DX11 := DX9.up hg11
    have DG11 := DG9.up hg11
    have IX11 := IX9.up hg11
    have JX11 := JX9.up hg11
    clear HC9 hS9 HT9 HX9 hS10 hS11 hg10 ho10 hb11 hg11 L9 DW9 DX9 DG9 IX9 JX9
    -- the ints are as they were
    go_wp2_with (go_at_call 19; refine (HT.out _ L11).mono ?_; rintro e w12 ⟨g12, rfl, ho12, hb12⟩; refine Hid.out ?_)
    refine (show ∀ {p : Prop}, p → Hid p from fun h => h) ?_
    have IX12 := IX11.up hb12
    have HQ := hideIt (eqActS_same xs ln (some ⟨g6, 0, none⟩) (some ⟨g12, 0, none⟩) ln ln hln1 w12 (As_of_own IX12.own) (As_of_own ho12))
    have L12 := L11.up hb12
    have DW12 := DW11.up hb12
    have DX12 := DX11.up hb12
    have DG12 := DG11.up hb12
    have JX12 := JX11.up hb12
    clear hb12 ho12 L11 DW11 DX11 DG11 IX11 JX11
    go_wp2_with (go_at_call 21; refine HQ.out.mono ?_; rintro e w13 ⟨rfl, hb13⟩; refine Hid.out ?_)
    refine (show ∀ {p : Prop}, p → Hid p from fun h => h) ?_
    have L13 := L12.up hb13
    have DW13 := DW12.up hb13
    have DX13 := DX12.up hb13
    have DG13 := DG12.up hb13
    have IX13 := IX12.up hb13
    have JX13 := JX12.up hb13
    clear hb13 HQ L12 DW12 DX12 DG12 IX12 JX12
    -- the ints are as they were
    go_wp2_with (go_at_call 24; refine (HTi.out _ L13).mono ?_; rintro e w12j ⟨g12j, rfl, ho12j, hb12j⟩; refine Hid.out ?_)
    refine (show ∀ {p : Prop}, p → Hid p from fun h => h) ?_
    have JX12j := JX13.up hb12j
    have HQ := hideIt (eqIntS_same ls li (some ⟨g6i, 0, none⟩) (some ⟨g12j, 0, none⟩) li li hli1 w12j (Is_of_own JX12j.own) (Is_of_own ho12j))
    have L12j := L13.up hb12j
    have DW12j := DW13.up hb12j
    have DX12j := DX13.up hb12j
    have DG12j := DG13.up hb12j
    have IX12j := IX13.up hb12j
    clear hb12j ho12j L13 DW13 DX13 DG13 IX13 JX13
    go_wp2_with (go_at_call 26; refine HQ.out.mono ?_; rintro e w13j ⟨rfl, hb13j⟩; refine Hid.out ?_)
    refine (show ∀ {p : Prop}, p → Hid p from fun h => h) ?_
    have L13 := L12j.up hb13j
    have DW13 := DW12j.up hb13j
    have DX13 := DX12j.up hb13j
    have DG13 := DG12j.up hb13j
    have IX13 := IX12j.up hb13j
    have JX13 := JX12j.up hb13j
    clear hb13j HQ L12j DW12j DX12j DG12j IX12j JX12j
    -- marks
    have q2 := DX13.cell
    have HM := hideIt (markDB DX13 1 hn1 (by omega) (by omega))
    go_wp2_with (go_at_call 15; refine HM.out.mono ?_; rintro e w14 ⟨rfl, _, hr14⟩; refine Hid.out ?_)
    refine (show ∀ {p : Prop}, p → Hid p from fun h => h) ?_
    have L14 := L13.rng hr14 (by omega)
    have DW14 := DW13.rng hr14 (.inl (Nat.le_refl _))
    have DG14 := DG13.rng hr14 (.inr (by omega))
    have IX14 := IX13.rng hr14 (.inr (Nat.le_refl _))
    have JX14 := JX13.rng hr14 (.inr (by omega))
    clear HM q2 L13 DW13 DX13 DG13 IX13 JX13 hr14
    have HMI := hideIt (markActS_any C2 g6 ln ln (1 + n * 3) _ hln1 (by omega) (by omega) w14 IX14.own)
    have hk1 : (((1 + n * 3 : Nat)) : Int) = 1 + (n : Int) * 3 := by omega
    rw [hk1] at HMI
    have hg6a := (IX14.own.lt g6 rfl).1
    have hg6b := IX14.most
    go_wp2_with (go_at_call 22; refine HMI.out.mono ?_; rintro e w15 ⟨rfl, hg15⟩; refine Hid.out ?_)
    refine (show ∀ {p : Prop}, p → Hid p from fun h => h) ?_
    have hr15 := Rng.of_grown hg15 hg6a hg6b
    have L15a := L14.rng hr15 (by omega)
    have DW15a := DW14.rng hr15 (.inl (by omega))
    have DG15a := DG14.rng hr15 (.inr (by omega))
    have JX15 := JX14.rng hr15 (.inr (Nat.le_refl _))
    clear HMI hg15 hr15 L14 DW14 DG14 IX14 JX14
    have HMJ := hideIt (markIntS_any C3a g6i li li (1 + n * 3 + ln * 4) _ hli1 (by omega) w15 JX15.own)
    have hk2 : (((1 + n * 3 + ln * 4 : Nat)) : Int) = 1 + (n : Int) * 3 + (ln : Int) * 4 := by omega
    rw [hk2] at HMJ
    have hg6c := (JX15.own.lt g6i rfl).1
    have hg6d := JX15.most
    go_wp2_with (go_at_call 27; refine HMJ.out.mono ?_; rintro e w15j ⟨rfl, hg15j⟩; refine Hid.out ?_)
    refine (show ∀ {p : Prop}, p → Hid p from fun h => h) ?_
    have hr15j := Rng.of_grown hg15j hg6c hg6d
    have L15 := L15a.rng hr15j (by omega)
    have DW15 := DW15a.rng hr15j (.inl (by omega))
    have DG15 := DG15a.rng hr15j (.inr (Nat.le_refl _))
    clear HMJ hg15j hr15j L15a DW15a DG15a JX15
    have d3 : decide ((1 : Int) + (n : Int) * 3 + (ln : Int) * 4 + (li : Int) < 0) = false := by simp; omega
    have q0 := DG15.cell
    have q1 := DW15.cell
    have HE := hideIt (eqDB DG15 DW15 (by omega))
    go_wp2_with (go_at_call 14; refine HE.out.mono ?_; rintro e w16 ⟨rfl, hb16⟩; refine Hid.out ?_)
    refine (show ∀ {p : Prop}, p → Hid p from fun h => h) ?_
    have L16 := L15.up hb16
    have DW16 := DW15.up hb16
    have DG16 := DG15.up hb16
    clear HE hb16 q0 q1 L15 DW15 DG15
    have q0 := DG16.cell
    have HM := hideIt (markDB DG16 1 (by omega) (by omega) (by omega))
    go_wp2_with (go_at_call 15; refine HM.out.mono ?_; rintro e w17 ⟨rfl, DG17, hr17⟩; refine Hid.out ?_)
    refine (show ∀ {p : Prop}, p → Hid p from fun h => h) ?_
    have L17 := L16.rng hr17 (by omega)
    have DW17 := DW16.rng hr17 (.inl (by omega))
    clear HM q0 L16 DW16 DG16 hr17
    have q0 := DG17.cell
    have HH := hideIt (heldDB 1 DG17 (by omega) (by omega) (by omega))
    have d4 : decide ((1 : Int) + (mg : Int) * 3 < 0) = false := by simp; omega
    have d5 : ((1 : Int) + (mg : Int) * 3 != (1 : Int) + (mg : Int) * 3) = false := by simp
    go_wp2_with (go_at_call 16; refine HH.out.mono ?_; rintro e w18 ⟨rfl, hb18⟩; refine Hid.out ?_)
    refine (show ∀ {p : Prop}, p → Hid p from fun h => h) ?_
    have L18 := L17.up hb18
    have DW18 := DW17.up hb18
    have DG18 := DG17.up hb18
    clear HH hb18 q0 L17 DW17 DG17
    -- the program once more
    have c0 := L18.cell
    go_wp2_with (go_at_call 11; refine (HD.out _ L18).mono ?_; rintro e w19 ⟨g19, rfl, ho19, hb19⟩; refine Hid.out ?_)
    refine (show ∀ {p : Prop}, p → Hid p from fun h => h) ?_
    have L19 := L18.up hb19
    go_wp2_with (go_at_call 19; refine (HT.out _ L19).mono ?_; rintro e w20 ⟨g20, rfl, ho20, hb20⟩; refine Hid.out ?_)
    refine (show ∀ {p : Prop}, p → Hid p from fun h => h) ?_
    have L20a := L19.up hb20
    go_wp2_with (go_at_call 24; refine (HTi.out _ L20a).mono ?_; rintro e w20i ⟨g20i, rfl, ho20i, hb20i⟩; refine Hid.out ?_)
    refine (show ∀ {p : Prop}, p → Hid p from fun h => h) ?_
    have L20 := L20a.up hb20i
    have HA := hideIt (HLi.out w20i g19 g20 g20i (Fs_of_own (own_up (own_up ho19 hb20) hb20i)) (As_of_own (own_up ho20 hb20i)) (Is_of_own ho20i))
    go_wp2_with (go_at_call 29; refine HA.out.mono ?_; rintro e w21 ⟨ah, mh, ch, rfl, hoh, hb21⟩; refine Hid.out ?_)
    refine (show ∀ {p : Prop}, p → Hid p from fun h => h) ?_
    have DH := DBox.laid (lo := w20i.heap.size) hb21.size hoh
    have K22 : Below w21.heap.size w21 (w21.alloc (.cells #[.slice ah mh ch] 31)) := (Below.refl _ _).alloc (Nat.le_refl _) _
    have L22 := (L20.up hb21).up K22
    have DW22 := ((((DW18.up hb19).up hb20).up hb20i).up hb21).up K22
    have DG22 := ((((DG18.up hb19).up hb20).up hb20i).up hb21).up K22
    have hmh : mh ≤ 30 := by rw [← DH.len]; exact hgl
    clear HA hoh hb19 hb20 hb20i hb21 ho19 ho20 ho20i c0 L18 L19 L20a L20 DW18 DG18 K22
    have q0 := DH.cell
    have q1 := DW22.cell
    have HE := hideIt (eqDB DH DW22 (by omega))
    go_wp2_with (go_at_call 14; refine HE.out.mono ?_; rintro e w23 ⟨rfl, hb23⟩; refine Hid.out ?_)
    refine (show ∀ {p : Prop}, p → Hid p from fun h => h) ?_
    have L23 := L22.up hb23
    have DG23 := DG22.up hb23
    clear HE hb23 q0 q1 L22 DW22 DG22 DH
    have q0 := DG23.cell
    have HH := hideIt (heldDB 1 DG23 (by omega) (by omega) (by omega))
    go_wp2_with (go_at_call 16; refine HH.out.mono ?_; rintro e w24 ⟨rfl, hb24⟩)
    go_ret
    exact ⟨rfl, (L23.up hb24).below⟩
end Go.Proofs.Ytibcdpnodikpiai
