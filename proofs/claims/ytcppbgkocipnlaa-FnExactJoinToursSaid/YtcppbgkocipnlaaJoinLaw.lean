/- The walk of FnExactJoinTours. -/
import Derived.Test.YtcppbgkocipnlaaSJoin
import Derived.Test.YtcppbgkocipnlaaLawT2
namespace Go.Proofs.Ytcppbgkocipnlaa
open Go.RowKit

theorem joO_len (ta : List Int) (u : Int) (tb : List Int) (v : Int) : ((joO ta u tb v).getD []).length ≤ 200 := by
  unfold joO
  by_cases h : (tB ta = true ∧ tB tb = true) ∧ (u ∈ ta ∧ v ∈ tb) ∧ comB ta tb = false
  · rw [if_pos h]
    have h1 := tB_len h.1.1
    have h2 := reT_len (v := v) h.1.2 (fstI tb v).toNat
    simp [joT]
    omega
  · rw [if_neg h]; simp

set_option maxRecDepth 100000 in
set_option maxHeartbeats 16000000 in
theorem fnExactJoinTours.walk (fs : List Int) (_hft : ∀ x ∈ fs, (Lit.int .i64 x).wf = true) (n : Nat) (a : Option Addr) (c : Nat) (hn : n ≤ maxLen) (u : Int) (_hu : (Lit.int .i64 u).wf = true) (fs2 : List Int) (_hft2 : ∀ x ∈ fs2, (Lit.int .i64 x).wf = true) (n2 : Nat) (a2 : Option Addr) (c2 : Nat) (hn2 : n2 ≤ maxLen) (v : Int) (_hv : (Lit.int .i64 v).wf = true) (w : World) (h : Is w w.heap.size a n fs) (h2 : Is w w.heap.size a2 n2 fs2) :
    Calls Try.prog 8 #[.slice a n c, .int .i64 u, .slice a2 n2 c2, .int .i64 v] w fun e w' => e = .returned (.bool true) ∧ Below w.heap.size w w' := by
  unfold maxLen at hn hn2
  by_cases hn1 : n ≤ 1048576 ∧ n2 ≤ 1048576
  · have d1 : decide (1048576 < (n : Int)) = false := decide_eq_false (by omega)
    have d1b : decide (1048576 < (n2 : Int)) = false := decide_eq_false (by omega)
    have HT1 := hideIt (fun x (hx : Good w x) => toIntS_any fs n a c hn1.1 x (h.up hx))
    have HT2 := hideIt (fun x (hx : Good w x) => toIntS_any fs2 n2 a2 c2 hn1.2 x (h2.up hx))
    have hgl := joO_len fs u fs2 v
    have HDs := hideIt (fun x g (hf : Is x x.heap.size (some ⟨g, 0, none⟩) n fs) g2 (hf2 : Is x x.heap.size (some ⟨g2, 0, none⟩) n2 fs2) => tans_G (sJoinTours_any fs u fs2 v n (some ⟨g, 0, none⟩) n hn1.1 (Nat.le_refl _) n2 (some ⟨g2, 0, none⟩) n2 hn1.2 (Nat.le_refl _) x hf hf2))
    have HDi := hideIt (fun x g (hf : Is x x.heap.size (some ⟨g, 0, none⟩) n fs) g2 (hf2 : Is x x.heap.size (some ⟨g2, 0, none⟩) n2 fs2) => tans_G (iJoinTours_any fs u fs2 v n (some ⟨g, 0, none⟩) n hn1.1 (Nat.le_refl _) n2 (some ⟨g2, 0, none⟩) n2 hn1.2 (Nat.le_refl _) x hf hf2))
    generalize (joO fs u fs2 v).getD [] = ls at *
    generalize (joO fs u fs2 v).isSome = x at *
    have dx : (x != x) = false := by simp
    have G0 := Good.refl w
    clear h h2
    go_enter Try.func8, Try.ntmps8
    have H1 := hideIt (HT1.out _ G0)
    go_wp2_with (go_at_call 23; refine H1.out.mono ?_; rintro e w1 ⟨g1, rfl, ho1, hb1⟩; refine Hid.out ?_)
    refine (show ∀ {p : Prop}, p → Hid p from fun h => h) ?_
    clear H1
    have G1 := G0.up hb1
    have z1 := hb1.size
    clear hb1 G0 
    have P := RBox.laid ho1
    clear ho1
    have H2 := hideIt (HT2.out _ G1)
    go_wp2_with (go_at_call 23; refine H2.out.mono ?_; rintro e w2 ⟨g2, rfl, ho2, hb2⟩; refine Hid.out ?_)
    refine (show ∀ {p : Prop}, p → Hid p from fun h => h) ?_
    clear H2
    have G2 := G1.up hb2
    have z2 := hb2.size
    have P_2 := P.up hb2
    clear hb2 G1 P
    have Q := RBox.laid ho2
    clear ho2
    have H3 := hideIt (HDs.out _ _ P_2.is _ Q.is)
    go_wp2_with (go_at_call 28; refine H3.out.mono ?_; rintro e w3 ⟨aw, mw, cw, rfl, RW, hb3⟩; refine Hid.out ?_)
    refine (show ∀ {p : Prop}, p → Hid p from fun h => h) ?_
    clear H3
    have G3 := G2.up hb3
    have z3 := hb3.size
    have P_3 := P_2.up hb3
    have Q_3 := Q.up hb3
    clear hb3 G2 P_2 Q
    have hmw : mw ≤ 200 := by rw [← RW.len]; exact hgl
    clear P_3
    clear Q_3
    have H4 := hideIt (HT1.out _ G3)
    go_wp2_with (go_at_call 23; refine H4.out.mono ?_; rintro e w4 ⟨g4, rfl, ho4, hb4⟩; refine Hid.out ?_)
    refine (show ∀ {p : Prop}, p → Hid p from fun h => h) ?_
    clear H4
    have G4 := G3.up hb4
    have z4 := hb4.size
    have RW_4 := RW.up hb4
    clear hb4 G3 RW
    have X := RBox.laid ho4
    clear ho4
    have H5 := hideIt (HT2.out _ G4)
    go_wp2_with (go_at_call 23; refine H5.out.mono ?_; rintro e w5 ⟨g5, rfl, ho5, hb5⟩; refine Hid.out ?_)
    refine (show ∀ {p : Prop}, p → Hid p from fun h => h) ?_
    clear H5
    have G5 := G4.up hb5
    have z5 := hb5.size
    have RW_5 := RW_4.up hb5
    have X_5 := X.up hb5
    clear hb5 G4 RW_4 X
    have Y := RBox.laid ho5
    clear ho5
    have H6 := hideIt (HDi.out _ _ X_5.is _ Y.is)
    go_wp2_with (go_at_call 18; refine H6.out.mono ?_; rintro e w6 ⟨ag, mg, cg, rfl, RG, hb6⟩; refine Hid.out ?_)
    refine (show ∀ {p : Prop}, p → Hid p from fun h => h) ?_
    clear H6
    have G6 := G5.up hb6
    have z6 := hb6.size
    have RW_6 := RW_5.up hb6
    have X_6 := X_5.up hb6
    have Y_6 := Y.up hb6
    clear hb6 G5 RW_5 X_5 Y
    have hmg : mg ≤ 200 := by rw [← RG.len]; exact hgl
    have H7 := hideIt (eqRB RG RW_6 (by omega))
    go_wp2_with (go_at_call 24; refine H7.out.mono ?_; rintro e w7 ⟨rfl, hb7⟩; refine Hid.out ?_)
    refine (show ∀ {p : Prop}, p → Hid p from fun h => h) ?_
    clear H7
    have G7 := G6.up hb7
    have z7 := hb7.size
    have RW_7 := RW_6.up hb7
    have X_7 := X_6.up hb7
    have Y_7 := Y_6.up hb7
    have RG_7 := RG.up hb7
    clear hb7 G6 RW_6 X_6 Y_6 RG
    have H8 := hideIt (HT1.out _ G7)
    go_wp2_with (go_at_call 23; refine H8.out.mono ?_; rintro e w8 ⟨g8, rfl, ho8, hb8⟩; refine Hid.out ?_)
    refine (show ∀ {p : Prop}, p → Hid p from fun h => h) ?_
    clear H8
    have G8 := G7.up hb8
    have z8 := hb8.size
    have RW_8 := RW_7.up hb8
    have X_8 := X_7.up hb8
    have Y_8 := Y_7.up hb8
    have RG_8 := RG_7.up hb8
    clear hb8 G7 RW_7 X_7 Y_7 RG_7
    have P2 := RBox.laid ho8
    clear ho8
    have H9 := hideIt (eqRB X_8 P2 hn1.1)
    go_wp2_with (go_at_call 24; refine H9.out.mono ?_; rintro e w9 ⟨rfl, hb9⟩; refine Hid.out ?_)
    refine (show ∀ {p : Prop}, p → Hid p from fun h => h) ?_
    clear H9
    have G9 := G8.up hb9
    have z9 := hb9.size
    have RW_9 := RW_8.up hb9
    have X_9 := X_8.up hb9
    have Y_9 := Y_8.up hb9
    have RG_9 := RG_8.up hb9
    have P2_9 := P2.up hb9
    clear hb9 G8 RW_8 X_8 Y_8 RG_8 P2
    clear P2_9
    have H10 := hideIt (HT2.out _ G9)
    go_wp2_with (go_at_call 23; refine H10.out.mono ?_; rintro e w10 ⟨g10, rfl, ho10, hb10⟩; refine Hid.out ?_)
    refine (show ∀ {p : Prop}, p → Hid p from fun h => h) ?_
    clear H10
    have G10 := G9.up hb10
    have z10 := hb10.size
    have RW_10 := RW_9.up hb10
    have X_10 := X_9.up hb10
    have Y_10 := Y_9.up hb10
    have RG_10 := RG_9.up hb10
    clear hb10 G9 RW_9 X_9 Y_9 RG_9
    have Q2 := RBox.laid ho10
    clear ho10
    have H11 := hideIt (eqRB Y_10 Q2 hn1.2)
    go_wp2_with (go_at_call 24; refine H11.out.mono ?_; rintro e w11 ⟨rfl, hb11⟩; refine Hid.out ?_)
    refine (show ∀ {p : Prop}, p → Hid p from fun h => h) ?_
    clear H11
    have G11 := G10.up hb11
    have z11 := hb11.size
    have RW_11 := RW_10.up hb11
    have X_11 := X_10.up hb11
    have Y_11 := Y_10.up hb11
    have RG_11 := RG_10.up hb11
    have Q2_11 := Q2.up hb11
    clear hb11 G10 RW_10 X_10 Y_10 RG_10 Q2
    clear Q2_11
    have K1 := hideIt (show (1 : Int) = ((1 : Nat) : Int) from rfl)
    have K2 := hideIt (show (1 : Int) + (n : Int) = ((1 + n : Nat) : Int) by omega)
    have H12 := hideIt (markRBk X_11 K1.out hn1.1 (by omega))
    go_wp2_with (go_at_call 26; refine H12.out.mono ?_; rintro e w12 ⟨rfl, _, hr12⟩; refine Hid.out ?_)
    refine (show ∀ {p : Prop}, p → Hid p from fun h => h) ?_
    clear H12
    have G12 := G11.rng hr12 (by omega)
    have z12 := hr12.size
    have RW_12 := RW_11.rng hr12 (by omega)
    have Y_12 := Y_11.rng hr12 (by omega)
    have RG_12 := RG_11.rng hr12 (by omega)
    clear hr12 G11 RW_11 X_11 Y_11 RG_11
    have H13 := hideIt (markRBk Y_12 K2.out hn1.2 (by omega))
    go_wp2_with (go_at_call 26; refine H13.out.mono ?_; rintro e w13 ⟨rfl, _, hr13⟩; refine Hid.out ?_)
    refine (show ∀ {p : Prop}, p → Hid p from fun h => h) ?_
    clear H13
    have G13 := G12.rng hr13 (by omega)
    have z13 := hr13.size
    have RW_13 := RW_12.rng hr13 (by omega)
    have RG_13 := RG_12.rng hr13 (by omega)
    clear hr13 G12 RW_12 Y_12 RG_12
    have d3 : decide ((1 : Int) + (n : Int) + (n2 : Int) < 0) = false := decide_eq_false (by omega)
    have H14 := hideIt (eqRB RG_13 RW_13 (by omega))
    go_wp2_with (go_at_call 24; refine H14.out.mono ?_; rintro e w14 ⟨rfl, hb14⟩; refine Hid.out ?_)
    refine (show ∀ {p : Prop}, p → Hid p from fun h => h) ?_
    clear H14
    have G14 := G13.up hb14
    have z14 := hb14.size
    have RW_14 := RW_13.up hb14
    have RG_14 := RG_13.up hb14
    clear hb14 G13 RW_13 RG_13
    have H15 := hideIt (markRBk RG_14 K1.out (by omega) (by omega))
    go_wp2_with (go_at_call 26; refine H15.out.mono ?_; rintro e w15 ⟨rfl, RGM15, hr15⟩; refine Hid.out ?_)
    refine (show ∀ {p : Prop}, p → Hid p from fun h => h) ?_
    clear H15
    have G15 := G14.rng hr15 (by omega)
    have z15 := hr15.size
    have RW_15 := RW_14.rng hr15 (by omega)
    clear hr15 G14 RW_14 RG_14
    have d4 : decide ((1 : Int) + (mg : Int) < 0) = false := decide_eq_false (by omega)
    have d5 : ((1 : Int) + (mg : Int) != (1 : Int) + (mg : Int)) = false := by simp
    have H16 := hideIt (heldRBk K1.out RGM15 (by omega) (by omega))
    go_wp2_with (go_at_call 27; refine H16.out.mono ?_; rintro e w16 ⟨rfl, hw⟩; have hw' := hw.symm; subst hw'; clear hw; refine Hid.out ?_)
    refine (show ∀ {p : Prop}, p → Hid p from fun h => h) ?_
    clear H16
    have H16 := hideIt (HT1.out _ G15)
    go_wp2_with (go_at_call 23; refine H16.out.mono ?_; rintro e w16 ⟨g16, rfl, ho16, hb16⟩; refine Hid.out ?_)
    refine (show ∀ {p : Prop}, p → Hid p from fun h => h) ?_
    clear H16
    have G16 := G15.up hb16
    have z16 := hb16.size
    have RW_16 := RW_15.up hb16
    have RG_16 := RGM15.up hb16
    clear hb16 G15 RW_15 RGM15
    have P3 := RBox.laid ho16
    clear ho16
    have H17 := hideIt (HT2.out _ G16)
    go_wp2_with (go_at_call 23; refine H17.out.mono ?_; rintro e w17 ⟨g17, rfl, ho17, hb17⟩; refine Hid.out ?_)
    refine (show ∀ {p : Prop}, p → Hid p from fun h => h) ?_
    clear H17
    have G17 := G16.up hb17
    have z17 := hb17.size
    have RW_17 := RW_16.up hb17
    have RG_17 := RG_16.up hb17
    have P3_17 := P3.up hb17
    clear hb17 G16 RW_16 RG_16 P3
    have Q3 := RBox.laid ho17
    clear ho17
    have H18 := hideIt (HDi.out _ _ P3_17.is _ Q3.is)
    go_wp2_with (go_at_call 18; refine H18.out.mono ?_; rintro e w18 ⟨ah, mh, ch, rfl, RH, hb18⟩; refine Hid.out ?_)
    refine (show ∀ {p : Prop}, p → Hid p from fun h => h) ?_
    clear H18
    have G18 := G17.up hb18
    have z18 := hb18.size
    have RW_18 := RW_17.up hb18
    have RG_18 := RG_17.up hb18
    have P3_18 := P3_17.up hb18
    have Q3_18 := Q3.up hb18
    clear hb18 G17 RW_17 RG_17 P3_17 Q3
    have hmh : mh ≤ 200 := by rw [← RH.len]; exact hgl
    clear P3_18
    clear Q3_18
    have H19 := hideIt (eqRB RH RW_18 (by omega))
    go_wp2_with (go_at_call 24; refine H19.out.mono ?_; rintro e w19 ⟨rfl, hb19⟩; refine Hid.out ?_)
    refine (show ∀ {p : Prop}, p → Hid p from fun h => h) ?_
    clear H19
    have G19 := G18.up hb19
    have z19 := hb19.size
    have RW_19 := RW_18.up hb19
    have RG_19 := RG_18.up hb19
    have RH_19 := RH.up hb19
    clear hb19 G18 RW_18 RG_18 RH
    clear RH_19
    clear RW_19
    have H20 := hideIt (heldRBk K1.out RG_19 (by omega) (by omega))
    go_wp2_with (go_at_call 27; refine H20.out.mono ?_; rintro e w20 ⟨rfl, hw⟩; have hw' := hw.symm; subst hw'; clear hw)
    clear H20
    go_ret
    exact ⟨rfl, G19⟩
  · by_cases h1 : n ≤ 1048576
    · have d1 : decide (1048576 < (n : Int)) = false := decide_eq_false (by omega)
      have d1b : decide (1048576 < (n2 : Int)) = true := decide_eq_true (by omega)
      clear h h2
      go_enter Try.func8, Try.ntmps8
      go_wp2
      go_ret
      exact ⟨rfl, Below.refl _ _⟩
    · have d1 : decide (1048576 < (n : Int)) = true := decide_eq_true (by omega)
      clear h h2
      go_enter Try.func8, Try.ntmps8
      go_wp2
      go_ret
      exact ⟨rfl, Below.refl _ _⟩
end Go.Proofs.Ytcppbgkocipnlaa
