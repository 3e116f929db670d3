/- The walk of FnExactVertsOf. -/
import Derived.Test.YtcppbgkocipnlabSVerts
import Derived.Test.YtcppbgkocipnlabLawT2
namespace Go.Proofs.Ytcppbgkocipnlab
open Go.RowKit

set_option maxRecDepth 100000 in
set_option maxHeartbeats 16000000 in
theorem fnExactVertsOf.walk (fs : List Int) (_hft : ∀ x ∈ fs, (Lit.int .i64 x).wf = true) (n : Nat) (a : Option Addr) (c : Nat) (hn : n ≤ maxLen) (w : World) (h : Is w w.heap.size a n fs) :
    Calls Try.prog 4 #[.slice a n c] w fun e w' => e = .returned (.bool true) ∧ Below w.heap.size w w' := by
  unfold maxLen at hn
  by_cases hn1 : n ≤ 1048576
  · have d1 : decide (1048576 < (n : Int)) = false := decide_eq_false (by omega)
    have HT1 := hideIt (fun x (hx : Good w x) => toIntS_any fs n a c hn1 x (h.up hx))
    have hgl := vsL_len fs
    have HDs := hideIt (fun x g (hf : Is x x.heap.size (some ⟨g, 0, none⟩) n fs) => vans_G (sVertsOf_any fs n (some ⟨g, 0, none⟩) n (by omega) x hf))
    have HDi := hideIt (fun x g (hf : Is x x.heap.size (some ⟨g, 0, none⟩) n fs) => vans_G (iVertsOf_any fs n (some ⟨g, 0, none⟩) n (by omega) x hf))
    generalize vsL fs = ls at *
    have G0 := Good.refl w
    clear h
    go_enter Try.func4, Try.ntmps4
    have H1 := hideIt (HT1.out _ G0)
    go_wp2_with (go_at_call 6; refine H1.out.mono ?_; rintro e w1 ⟨g1, rfl, ho1, hb1⟩; refine Hid.out ?_)
    refine (show ∀ {p : Prop}, p → Hid p from fun h => h) ?_
    clear H1
    have G1 := G0.up hb1
    have z1 := hb1.size
    clear hb1 G0 
    have P := RBox.laid ho1
    clear ho1
    have H2 := hideIt (HDs.out _ _ P.is)
    go_wp2_with (go_at_call 11; refine H2.out.mono ?_; rintro e w2 ⟨aw, mw, cw, rfl, RW, hb2⟩; refine Hid.out ?_)
    refine (show ∀ {p : Prop}, p → Hid p from fun h => h) ?_
    clear H2
    have G2 := G1.up hb2
    have z2 := hb2.size
    have P_2 := P.up hb2
    clear hb2 G1 P
    have hmw : mw ≤ 200 := by rw [← RW.len]; omega
    clear P_2
    have H3 := hideIt (HT1.out _ G2)
    go_wp2_with (go_at_call 6; refine H3.out.mono ?_; rintro e w3 ⟨g3, rfl, ho3, hb3⟩; refine Hid.out ?_)
    refine (show ∀ {p : Prop}, p → Hid p from fun h => h) ?_
    clear H3
    have G3 := G2.up hb3
    have z3 := hb3.size
    have RW_3 := RW.up hb3
    clear hb3 G2 RW
    have X := RBox.laid ho3
    clear ho3
    have H4 := hideIt (HDi.out _ _ X.is)
    go_wp2_with (go_at_call 12; refine H4.out.mono ?_; rintro e w4 ⟨ag, mg, cg, rfl, RG, hb4⟩; refine Hid.out ?_)
    refine (show ∀ {p : Prop}, p → Hid p from fun h => h) ?_
    clear H4
    have G4 := G3.up hb4
    have z4 := hb4.size
    have RW_4 := RW_3.up hb4
    have X_4 := X.up hb4
    clear hb4 G3 RW_3 X
    have hmg : mg ≤ 200 := by rw [← RG.len]; omega
    have H5 := hideIt (eqRB RG RW_4 (by omega))
    go_wp2_with (go_at_call 8; refine H5.out.mono ?_; rintro e w5 ⟨rfl, hb5⟩; refine Hid.out ?_)
    refine (show ∀ {p : Prop}, p → Hid p from fun h => h) ?_
    clear H5
    have G5 := G4.up hb5
    have z5 := hb5.size
    have RW_5 := RW_4.up hb5
    have X_5 := X_4.up hb5
    have RG_5 := RG.up hb5
    clear hb5 G4 RW_4 X_4 RG
    have H6 := hideIt (HT1.out _ G5)
    go_wp2_with (go_at_call 6; refine H6.out.mono ?_; rintro e w6 ⟨g6, rfl, ho6, hb6⟩; refine Hid.out ?_)
    refine (show ∀ {p : Prop}, p → Hid p from fun h => h) ?_
    clear H6
    have G6 := G5.up hb6
    have z6 := hb6.size
    have RW_6 := RW_5.up hb6
    have X_6 := X_5.up hb6
    have RG_6 := RG_5.up hb6
    clear hb6 G5 RW_5 X_5 RG_5
    have P2 := RBox.laid ho6
    clear ho6
    have H7 := hideIt (eqRB X_6 P2 hn1)
    go_wp2_with (go_at_call 8; refine H7.out.mono ?_; rintro e w7 ⟨rfl, hb7⟩; refine Hid.out ?_)
    refine (show ∀ {p : Prop}, p → Hid p from fun h => h) ?_
    clear H7
    have G7 := G6.up hb7
    have z7 := hb7.size
    have RW_7 := RW_6.up hb7
    have X_7 := X_6.up hb7
    have RG_7 := RG_6.up hb7
    have P2_7 := P2.up hb7
    clear hb7 G6 RW_6 X_6 RG_6 P2
    clear P2_7
    have K1 := hideIt (show (1 : Int) = ((1 : Nat) : Int) from rfl)
    have H8 := hideIt (markRBk X_7 K1.out hn1 (by omega))
    go_wp2_with (go_at_call 9; refine H8.out.mono ?_; rintro e w8 ⟨rfl, _, hr8⟩; refine Hid.out ?_)
    refine (show ∀ {p : Prop}, p → Hid p from fun h => h) ?_
    clear H8
    have G8 := G7.rng hr8 (by omega)
    have z8 := hr8.size
    have RW_8 := RW_7.rng hr8 (by omega)
    have RG_8 := RG_7.rng hr8 (by omega)
    clear hr8 G7 RW_7 X_7 RG_7
    have d3 : decide ((1 : Int) + (n : Int) < 0) = false := decide_eq_false (by omega)
    have H9 := hideIt (eqRB RG_8 RW_8 (by omega))
    go_wp2_with (go_at_call 8; refine H9.out.mono ?_; rintro e w9 ⟨rfl, hb9⟩; refine Hid.out ?_)
    refine (show ∀ {p : Prop}, p → Hid p from fun h => h) ?_
    clear H9
    have G9 := G8.up hb9
    have z9 := hb9.size
    have RW_9 := RW_8.up hb9
    have RG_9 := RG_8.up hb9
    clear hb9 G8 RW_8 RG_8
    have H10 := hideIt (markRBk RG_9 K1.out (by omega) (by omega))
    go_wp2_with (go_at_call 9; refine H10.out.mono ?_; rintro e w10 ⟨rfl, RGM10, hr10⟩; refine Hid.out ?_)
    refine (show ∀ {p : Prop}, p → Hid p from fun h => h) ?_
    clear H10
    have G10 := G9.rng hr10 (by omega)
    have z10 := hr10.size
    have RW_10 := RW_9.rng hr10 (by omega)
    clear hr10 G9 RW_9 RG_9
    have d4 : decide ((1 : Int) + (mg : Int) < 0) = false := decide_eq_false (by omega)
    have d5 : ((1 : Int) + (mg : Int) != (1 : Int) + (mg : Int)) = false := by simp
    have H11 := hideIt (heldRBk K1.out RGM10 (by omega) (by omega))
    go_wp2_with (go_at_call 10; refine H11.out.mono ?_; rintro e w11 ⟨rfl, hw⟩; have hw' := hw.symm; subst hw'; clear hw; refine Hid.out ?_)
    refine (show ∀ {p : Prop}, p → Hid p from fun h => h) ?_
    clear H11
    have H11 := hideIt (HT1.out _ G10)
    go_wp2_with (go_at_call 6; refine H11.out.mono ?_; rintro e w11 ⟨g11, rfl, ho11, hb11⟩; refine Hid.out ?_)
    refine (show ∀ {p : Prop}, p → Hid p from fun h => h) ?_
    clear H11
    have G11 := G10.up hb11
    have z11 := hb11.size
    have RW_11 := RW_10.up hb11
    have RG_11 := RGM10.up hb11
    clear hb11 G10 RW_10 RGM10
    have P3 := RBox.laid ho11
    clear ho11
    have H12 := hideIt (HDi.out _ _ P3.is)
    go_wp2_with (go_at_call 12; refine H12.out.mono ?_; rintro e w12 ⟨ah, mh, ch, rfl, RH, hb12⟩; refine Hid.out ?_)
    refine (show ∀ {p : Prop}, p → Hid p from fun h => h) ?_
    clear H12
    have G12 := G11.up hb12
    have z12 := hb12.size
    have RW_12 := RW_11.up hb12
    have RG_12 := RG_11.up hb12
    have P3_12 := P3.up hb12
    clear hb12 G11 RW_11 RG_11 P3
    have hmh : mh ≤ 200 := by rw [← RH.len]; omega
    clear P3_12
    have H13 := hideIt (eqRB RH RW_12 (by omega))
    go_wp2_with (go_at_call 8; refine H13.out.mono ?_; rintro e w13 ⟨rfl, hb13⟩; refine Hid.out ?_)
    refine (show ∀ {p : Prop}, p → Hid p from fun h => h) ?_
    clear H13
    have G13 := G12.up hb13
    have z13 := hb13.size
    have RW_13 := RW_12.up hb13
    have RG_13 := RG_12.up hb13
    have RH_13 := RH.up hb13
    clear hb13 G12 RW_12 RG_12 RH
    clear RH_13
    clear RW_13
    have H14 := hideIt (heldRBk K1.out RG_13 (by omega) (by omega))
    go_wp2_with (go_at_call 10; refine H14.out.mono ?_; rintro e w14 ⟨rfl, hw⟩; have hw' := hw.symm; subst hw'; clear hw)
    clear H14
    go_ret
    exact ⟨rfl, G13⟩
  · have d1 : decide (1048576 < (n : Int)) = true := decide_eq_true (by omega)
    clear h
    go_enter Try.func4, Try.ntmps4
    go_wp2
    go_ret
    exact ⟨rfl, Below.refl _ _⟩
end Go.Proofs.Ytcppbgkocipnlab
