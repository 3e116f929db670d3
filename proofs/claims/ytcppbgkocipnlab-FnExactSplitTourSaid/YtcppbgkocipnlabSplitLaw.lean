/- The walk of FnExactSplitTour. -/
import Derived.Test.YtcppbgkocipnlabSSplit2
import Derived.Test.YtcppbgkocipnlabISplit
import Derived.Test.YtcppbgkocipnlabLawT2
namespace Go.Proofs.Ytcppbgkocipnlab
open Go.RowKit

set_option maxRecDepth 100000 in
set_option maxHeartbeats 16000000 in
theorem fnExactSplitTour.walk (fs : List Int) (_hft : ∀ x ∈ fs, (Lit.int .i64 x).wf = true) (n : Nat) (a : Option Addr) (c : Nat) (hn : n ≤ maxLen) (u : Int) (_hu : (Lit.int .i64 u).wf = true) (v : Int) (_hv : (Lit.int .i64 v).wf = true) (w : World) (h : Is w w.heap.size a n fs) :
    Calls Try.prog 3 #[.slice a n c, .int .i64 u, .int .i64 v] w fun e w' => e = .returned (.bool true) ∧ Below w.heap.size w w' := by
  unfold maxLen at hn
  by_cases hn1 : n ≤ 1048576
  · have d1 : decide (1048576 < (n : Int)) = false := decide_eq_false (by omega)
    have HT1 := hideIt (fun x (hx : Good w x) => toIntS_any fs n a c hn1 x (h.up hx))
    obtain ⟨hgl, hgl2⟩ := spO_len fs u v
    have HDs := hideIt (fun x g (hf : Is x x.heap.size (some ⟨g, 0, none⟩) n fs) => sSplitTour_any fs u v n (some ⟨g, 0, none⟩) n hn1 (Nat.le_refl _) x hf)
    have HDi := hideIt (fun x g (hf : Is x x.heap.size (some ⟨g, 0, none⟩) n fs) => iSplitTour_any fs u v n (some ⟨g, 0, none⟩) n hn1 (Nat.le_refl _) x hf)
    unfold S2Ans at HDs
    unfold T2Ans at HDi
    generalize (spO fs u v).1 = ls at *
    generalize (spO fs u v).2.1 = ls2 at *
    generalize (spO fs u v).2.2 = x at *
    have dx : (x != x) = false := by simp
    have G0 := Good.refl w
    clear h
    go_enter Try.func3, Try.ntmps3
    have H1 := hideIt (HT1.out _ G0)
    go_wp2_with (go_at_call 6; refine H1.out.mono ?_; rintro e w1 ⟨g1, rfl, ho1, hb1⟩; refine Hid.out ?_)
    refine (show ∀ {p : Prop}, p → Hid p from fun h => h) ?_
    clear H1
    have G1 := G0.up hb1
    have z1 := hb1.size
    clear hb1 G0 
    have P := RBox.laid ho1
    clear ho1
    have H2 := hideIt (HDs.out _ _ P.is)
    go_wp2_with (go_at_call 5; refine H2.out.mono ?_; rintro e w2 ⟨aw, mw, cw, av, mv, cv, rfl, RW, RV, hb2⟩; refine Hid.out ?_)
    refine (show ∀ {p : Prop}, p → Hid p from fun h => h) ?_
    clear H2
    have G2 := G1.up hb2
    have z2 := hb2.size
    have P_2 := P.up hb2
    clear hb2 G1 P
    have hmw : mw ≤ 200 := by rw [← RW.len]; exact hgl
    have hmv : mv ≤ 200 := by rw [← RV.len]; exact hgl2
    clear P_2
    have H3 := hideIt (HT1.out _ G2)
    go_wp2_with (go_at_call 6; refine H3.out.mono ?_; rintro e w3 ⟨g3, rfl, ho3, hb3⟩; refine Hid.out ?_)
    refine (show ∀ {p : Prop}, p → Hid p from fun h => h) ?_
    clear H3
    have G3 := G2.up hb3
    have z3 := hb3.size
    have RW_3 := RW.up hb3
    have RV_3 := RV.up hb3
    clear hb3 G2 RW RV
    have X := RBox.laid ho3
    clear ho3
    have H4 := hideIt (HDi.out _ _ X.is)
    go_wp2_with (go_at_call 7; refine H4.out.mono ?_; rintro e w4 ⟨ag, mg, cg, af, mf, cf, mid, rfl, hmid, RG, RF, hb4⟩; refine Hid.out ?_)
    refine (show ∀ {p : Prop}, p → Hid p from fun h => h) ?_
    clear H4
    have G4 := G3.up hb4
    have z4 := hb4.size
    have RW_4 := RW_3.up hb4
    have RV_4 := RV_3.up hb4
    have X_4 := X.up hb4
    clear hb4 G3 RW_3 RV_3 X
    have hmg : mg ≤ 200 := by rw [← RG.len]; exact hgl
    have hmf : mf ≤ 200 := by rw [← RF.len]; exact hgl2
    have H5 := hideIt (eqRB RG RW_4 (by omega))
    go_wp2_with (go_at_call 8; refine H5.out.mono ?_; rintro e w5 ⟨rfl, hb5⟩; refine Hid.out ?_)
    refine (show ∀ {p : Prop}, p → Hid p from fun h => h) ?_
    clear H5
    have G5 := G4.up hb5
    have z5 := hb5.size
    have RW_5 := RW_4.up hb5
    have RV_5 := RV_4.up hb5
    have X_5 := X_4.up hb5
    have RG_5 := RG.up hb5
    have RF_5 := RF.up hb5
    clear hb5 G4 RW_4 RV_4 X_4 RG RF
    have H6 := hideIt (eqRB RF_5 RV_5 (by omega))
    go_wp2_with (go_at_call 8; refine H6.out.mono ?_; rintro e w6 ⟨rfl, hb6⟩; refine Hid.out ?_)
    refine (show ∀ {p : Prop}, p → Hid p from fun h => h) ?_
    clear H6
    have G6 := G5.up hb6
    have z6 := hb6.size
    have RW_6 := RW_5.up hb6
    have RV_6 := RV_5.up hb6
    have X_6 := X_5.up hb6
    have RG_6 := RG_5.up hb6
    have RF_6 := RF_5.up hb6
    clear hb6 G5 RW_5 RV_5 X_5 RG_5 RF_5
    have H7 := hideIt (HT1.out _ G6)
    go_wp2_with (go_at_call 6; refine H7.out.mono ?_; rintro e w7 ⟨g7, rfl, ho7, hb7⟩; refine Hid.out ?_)
    refine (show ∀ {p : Prop}, p → Hid p from fun h => h) ?_
    clear H7
    have G7 := G6.up hb7
    have z7 := hb7.size
    have RW_7 := RW_6.up hb7
    have RV_7 := RV_6.up hb7
    have X_7 := X_6.up hb7
    have RG_7 := RG_6.up hb7
    have RF_7 := RF_6.up hb7
    clear hb7 G6 RW_6 RV_6 X_6 RG_6 RF_6
    have P2 := RBox.laid ho7
    clear ho7
    have H8 := hideIt (eqRB X_7 P2 hn1)
    go_wp2_with (go_at_call 8; refine H8.out.mono ?_; rintro e w8 ⟨rfl, hb8⟩; refine Hid.out ?_)
    refine (show ∀ {p : Prop}, p → Hid p from fun h => h) ?_
    clear H8
    have G8 := G7.up hb8
    have z8 := hb8.size
    have RW_8 := RW_7.up hb8
    have RV_8 := RV_7.up hb8
    have X_8 := X_7.up hb8
    have RG_8 := RG_7.up hb8
    have RF_8 := RF_7.up hb8
    have P2_8 := P2.up hb8
    clear hb8 G7 RW_7 RV_7 X_7 RG_7 RF_7 P2
    clear P2_8
    have K1 := hideIt (show (1 : Int) = ((1 : Nat) : Int) from rfl)
    have H9 := hideIt (markRBk X_8 K1.out hn1 (by omega))
    go_wp2_with (go_at_call 9; refine H9.out.mono ?_; rintro e w9 ⟨rfl, _, hr9⟩; refine Hid.out ?_)
    refine (show ∀ {p : Prop}, p → Hid p from fun h => h) ?_
    clear H9
    have G9 := G8.rng hr9 (by omega)
    have z9 := hr9.size
    have RW_9 := RW_8.rng hr9 (by omega)
    have RV_9 := RV_8.rng hr9 (by omega)
    have RG_9 := RG_8.rng hr9 (by omega)
    have RF_9 := RF_8.rng hr9 (by omega)
    clear hr9 G8 RW_8 RV_8 X_8 RG_8 RF_8
    have d3 : decide ((1 : Int) + (n : Int) < 0) = false := decide_eq_false (by omega)
    have H10 := hideIt (eqRB RG_9 RW_9 (by omega))
    go_wp2_with (go_at_call 8; refine H10.out.mono ?_; rintro e w10 ⟨rfl, hb10⟩; refine Hid.out ?_)
    refine (show ∀ {p : Prop}, p → Hid p from fun h => h) ?_
    clear H10
    have G10 := G9.up hb10
    have z10 := hb10.size
    have RW_10 := RW_9.up hb10
    have RV_10 := RV_9.up hb10
    have RG_10 := RG_9.up hb10
    have RF_10 := RF_9.up hb10
    clear hb10 G9 RW_9 RV_9 RG_9 RF_9
    have H11 := hideIt (eqRB RF_10 RV_10 (by omega))
    go_wp2_with (go_at_call 8; refine H11.out.mono ?_; rintro e w11 ⟨rfl, hb11⟩; refine Hid.out ?_)
    refine (show ∀ {p : Prop}, p → Hid p from fun h => h) ?_
    clear H11
    have G11 := G10.up hb11
    have z11 := hb11.size
    have RW_11 := RW_10.up hb11
    have RV_11 := RV_10.up hb11
    have RG_11 := RG_10.up hb11
    have RF_11 := RF_10.up hb11
    clear hb11 G10 RW_10 RV_10 RG_10 RF_10
    have K2 := hideIt (show (1 : Int) + (mg : Int) = ((1 + mg : Nat) : Int) by omega)
    have H12 := hideIt (markRBk RG_11 K1.out (by omega) (by omega))
    go_wp2_with (go_at_call 9; refine H12.out.mono ?_; rintro e w12 ⟨rfl, RGM12, hr12⟩; refine Hid.out ?_)
    refine (show ∀ {p : Prop}, p → Hid p from fun h => h) ?_
    clear H12
    have G12 := G11.rng hr12 (by omega)
    have z12 := hr12.size
    have RW_12 := RW_11.rng hr12 (by omega)
    have RV_12 := RV_11.rng hr12 (by omega)
    have RF_12 := RF_11.rng hr12 (by omega)
    clear hr12 G11 RW_11 RV_11 RG_11 RF_11
    have H13 := hideIt (markRBk RF_12 K2.out (by omega) (by omega))
    go_wp2_with (go_at_call 9; refine H13.out.mono ?_; rintro e w13 ⟨rfl, RFM13, hr13⟩; refine Hid.out ?_)
    refine (show ∀ {p : Prop}, p → Hid p from fun h => h) ?_
    clear H13
    have G13 := G12.rng hr13 (by omega)
    have z13 := hr13.size
    have RW_13 := RW_12.rng hr13 (by omega)
    have RV_13 := RV_12.rng hr13 (by omega)
    have RG_13 := RGM12.rng hr13 (by omega)
    clear hr13 G12 RW_12 RV_12 RF_12 RGM12
    have d4 : decide ((1 : Int) + (mg : Int) < 0) = false := decide_eq_false (by omega)
    have d6 : decide ((1 : Int) + (mg : Int) + (mf : Int) < 0) = false := decide_eq_false (by omega)
    have d5 : ((1 : Int) + (mg : Int) + (mf : Int) != (1 : Int) + (mg : Int) + (mf : Int)) = false := by simp
    have H14 := hideIt (heldRBk K1.out RG_13 (by omega) (by omega))
    go_wp2_with (go_at_call 10; refine H14.out.mono ?_; rintro e w14 ⟨rfl, hw⟩; have hw' := hw.symm; subst hw'; clear hw; refine Hid.out ?_)
    refine (show ∀ {p : Prop}, p → Hid p from fun h => h) ?_
    clear H14
    have H14 := hideIt (heldRBk K2.out RFM13 (by omega) (by omega))
    go_wp2_with (go_at_call 10; refine H14.out.mono ?_; rintro e w14 ⟨rfl, hw⟩; have hw' := hw.symm; subst hw'; clear hw; refine Hid.out ?_)
    refine (show ∀ {p : Prop}, p → Hid p from fun h => h) ?_
    clear H14
    have H14 := hideIt (HT1.out _ G13)
    go_wp2_with (go_at_call 6; refine H14.out.mono ?_; rintro e w14 ⟨g14, rfl, ho14, hb14⟩; refine Hid.out ?_)
    refine (show ∀ {p : Prop}, p → Hid p from fun h => h) ?_
    clear H14
    have G14 := G13.up hb14
    have z14 := hb14.size
    have RW_14 := RW_13.up hb14
    have RV_14 := RV_13.up hb14
    have RG_14 := RG_13.up hb14
    have RF_14 := RFM13.up hb14
    clear hb14 G13 RW_13 RV_13 RG_13 RFM13
    have P3 := RBox.laid ho14
    clear ho14
    have H15 := hideIt (HDi.out _ _ P3.is)
    go_wp2_with (go_at_call 7; refine H15.out.mono ?_; rintro e w15 ⟨ah, mh, ch, ai, mi, ci, mid2, rfl, _, RH, RI, hb15⟩; refine Hid.out ?_)
    refine (show ∀ {p : Prop}, p → Hid p from fun h => h) ?_
    clear H15
    have G15 := G14.up hb15
    have z15 := hb15.size
    have RW_15 := RW_14.up hb15
    have RV_15 := RV_14.up hb15
    have RG_15 := RG_14.up hb15
    have RF_15 := RF_14.up hb15
    have P3_15 := P3.up hb15
    clear hb15 G14 RW_14 RV_14 RG_14 RF_14 P3
    have hmh : mh ≤ 200 := by rw [← RH.len]; exact hgl
    have hmi : mi ≤ 200 := by rw [← RI.len]; exact hgl2
    clear P3_15
    have H16 := hideIt (eqRB RH RW_15 (by omega))
    go_wp2_with (go_at_call 8; refine H16.out.mono ?_; rintro e w16 ⟨rfl, hb16⟩; refine Hid.out ?_)
    refine (show ∀ {p : Prop}, p → Hid p from fun h => h) ?_
    clear H16
    have G16 := G15.up hb16
    have z16 := hb16.size
    have RW_16 := RW_15.up hb16
    have RV_16 := RV_15.up hb16
    have RG_16 := RG_15.up hb16
    have RF_16 := RF_15.up hb16
    have RH_16 := RH.up hb16
    have RI_16 := RI.up hb16
    clear hb16 G15 RW_15 RV_15 RG_15 RF_15 RH RI
    have H17 := hideIt (eqRB RI_16 RV_16 (by omega))
    go_wp2_with (go_at_call 8; refine H17.out.mono ?_; rintro e w17 ⟨rfl, hb17⟩; refine Hid.out ?_)
    refine (show ∀ {p : Prop}, p → Hid p from fun h => h) ?_
    clear H17
    have G17 := G16.up hb17
    have z17 := hb17.size
    have RW_17 := RW_16.up hb17
    have RV_17 := RV_16.up hb17
    have RG_17 := RG_16.up hb17
    have RF_17 := RF_16.up hb17
    have RH_17 := RH_16.up hb17
    have RI_17 := RI_16.up hb17
    clear hb17 G16 RW_16 RV_16 RG_16 RF_16 RH_16 RI_16
    clear RH_17
    clear RI_17
    clear RW_17
    clear RV_17
    have H18 := hideIt (heldRBk K1.out RG_17 (by omega) (by omega))
    go_wp2_with (go_at_call 10; refine H18.out.mono ?_; rintro e w18 ⟨rfl, hw⟩; have hw' := hw.symm; subst hw'; clear hw; refine Hid.out ?_)
    refine (show ∀ {p : Prop}, p → Hid p from fun h => h) ?_
    clear H18
    have H18 := hideIt (heldRBk K2.out RF_17 (by omega) (by omega))
    go_wp2_with (go_at_call 10; refine H18.out.mono ?_; rintro e w18 ⟨rfl, hw⟩; have hw' := hw.symm; subst hw'; clear hw)
    clear H18
    go_ret
    exact ⟨rfl, G17⟩
  · have d1 : decide (1048576 < (n : Int)) = true := decide_eq_true (by omega)
    clear h
    go_enter Try.func3, Try.ntmps3
    go_wp2
    go_ret
    exact ⟨rfl, Below.refl _ _⟩
end Go.Proofs.Ytcppbgkocipnlab
