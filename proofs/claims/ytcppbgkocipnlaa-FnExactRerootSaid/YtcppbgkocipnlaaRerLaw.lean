/- The walk of FnExactReroot. -/
import Derived.Test.YtcppbgkocipnlaaIRer
import Derived.Test.YtcppbgkocipnlaaSRer
import Derived.Test.YtcppbgkocipnlaaLawT
namespace Go.Proofs.Ytcppbgkocipnlaa
open Go.RowKit

theorem reO_len (t : List Int) (v : Int) : ((reO t v).getD []).length ≤ 50 := by
  unfold reO
  by_cases h : tB t = true ∧ v ∈ t
  · rw [if_pos h]
    have := tB_len h.1
    simp [reT]
    omega
  · rw [if_neg h]; simp

set_option maxRecDepth 100000 in
set_option maxHeartbeats 8000000 in
theorem fnExactReroot.walk (fs : List Int) (_hft : ∀ x ∈ fs, (Lit.int .i64 x).wf = true) (n : Nat) (a : Option Addr) (c : Nat) (hn : n ≤ maxLen) (v : Int) (_hv : (Lit.int .i64 v).wf = true) (w : World) (h : Is w w.heap.size a n fs) :
    Calls Try.prog 7 #[.slice a n c, .int .i64 v] w fun e w' => e = .returned (.bool true) ∧ Below w.heap.size w w' := by
  unfold maxLen at hn
  by_cases hn1 : n ≤ 1048576
  · have d1 : decide (1048576 < (n : Int)) = false := decide_eq_false (by omega)
    have HT := hideIt (fun u (hu : Good w u) => toIntS_any fs n a c hn1 u (h.up hu))
    have hgl := reO_len fs v
    have HDs := hideIt (fun u g (hf : Is u u.heap.size (some ⟨g, 0, none⟩) n fs) => tans_G (sReroot_any fs v n (some ⟨g, 0, none⟩) n (by omega) (Nat.le_refl _) u hf))
    have HDi := hideIt (fun u g (hf : Is u u.heap.size (some ⟨g, 0, none⟩) n fs) => tans_G (iReroot_any fs v n (some ⟨g, 0, none⟩) n (by omega) (Nat.le_refl _) u hf))
    generalize (reO fs v).getD [] = ls at *
    generalize (reO fs v).isSome = x at *
    have dx : (x != x) = false := by simp
    clear h
    go_enter Try.func7, Try.ntmps7
    go_wp2_with (go_at_call 23; refine (HT.out _ (Good.refl w)).mono ?_; rintro e w1 ⟨g1, rfl, ho1, hb1⟩; refine Hid.out ?_)
    refine (show ∀ {p : Prop}, p → Hid p from fun h => h) ?_
    have G1 : Good w w1 := hb1
    have HS1 := hideIt (HDs.out w1 g1 (Is_of_own ho1))
    clear hb1 ho1 HDs
    go_wp2_with (go_at_call 25; refine HS1.out.mono ?_; rintro e w2 ⟨aw, mw, cw, rfl, RW, hb2⟩; refine Hid.out ?_)
    refine (show ∀ {p : Prop}, p → Hid p from fun h => h) ?_
    have G2 := G1.up hb2
    have hmw : mw ≤ 50 := by rw [← RW.len]; exact hgl
    have z1 := G1.size
    have z2 := hb2.size
    clear hb2 HS1 G1
    go_wp2_with (go_at_call 23; refine (HT.out _ G2).mono ?_; rintro e w3 ⟨g3, rfl, ho3, hb3⟩; refine Hid.out ?_)
    refine (show ∀ {p : Prop}, p → Hid p from fun h => h) ?_
    have G3 := G2.up hb3
    have RX := RBox.laid ho3
    have RW3 := RW.up hb3
    have z3 := hb3.size
    have HI3 := hideIt (HDi.out w3 g3 RX.is)
    clear hb3 G2 ho3 RW
    go_wp2_with (go_at_call 11; refine HI3.out.mono ?_; rintro e w4 ⟨ag, mg, cg, rfl, RG, hb4⟩; refine Hid.out ?_)
    refine (show ∀ {p : Prop}, p → Hid p from fun h => h) ?_
    have G4 := G3.up hb4
    have RX4 := RX.up hb4
    have RW4 := RW3.up hb4
    have hmg : mg ≤ 50 := by rw [← RG.len]; exact hgl
    have z4 := hb4.size
    clear hb4 G3 RX RW3 HI3
    have HE4 := hideIt (eqRB RG RW4 (by omega))
    go_wp2_with (go_at_call 24; refine HE4.out.mono ?_; rintro e w5 ⟨rfl, hb5⟩; refine Hid.out ?_)
    refine (show ∀ {p : Prop}, p → Hid p from fun h => h) ?_
    have G5 := G4.up hb5
    have RX5 := RX4.up hb5
    have RW5 := RW4.up hb5
    have RG5 := RG.up hb5
    clear HE4 hb5 G4 RX4 RW4 RG
    go_wp2_with (go_at_call 23; refine (HT.out _ G5).mono ?_; rintro e w6 ⟨g6, rfl, ho6, hb6⟩; refine Hid.out ?_)
    refine (show ∀ {p : Prop}, p → Hid p from fun h => h) ?_
    have G6 := G5.up hb6
    have RX6 := RX5.up hb6
    have RW6 := RW5.up hb6
    have RG6 := RG5.up hb6
    have HE6 := hideIt (eqRB RX6 (RBox.laid ho6) hn1)
    clear hb6 G5 RX5 RW5 RG5 ho6
    go_wp2_with (go_at_call 24; refine HE6.out.mono ?_; rintro e w7 ⟨rfl, hb7⟩; refine Hid.out ?_)
    refine (show ∀ {p : Prop}, p → Hid p from fun h => h) ?_
    have G7 := G6.up hb7
    have RX7 := RX6.up hb7
    have RW7 := RW6.up hb7
    have RG7 := RG6.up hb7
    clear HE6 hb7 G6 RX6 RW6 RG6
    have HM7 := hideIt (markRB RX7 1 hn1 (by omega))
    go_wp2_with (go_at_call 26; refine HM7.out.mono ?_; rintro e w8 ⟨rfl, _, hr8⟩; refine Hid.out ?_)
    refine (show ∀ {p : Prop}, p → Hid p from fun h => h) ?_
    have G8 := G7.rng hr8 (by omega)
    have RW8 := RW7.rng hr8 (.inl (Nat.le_refl _))
    have RG8 := RG7.rng hr8 (.inr (Nat.le_refl _))
    clear HM7 G7 RX7 RW7 RG7 hr8
    have d3 : decide ((1 : Int) + (n : Int) < 0) = false := decide_eq_false (by omega)
    have HE8 := hideIt (eqRB RG8 RW8 (by omega))
    go_wp2_with (go_at_call 24; refine HE8.out.mono ?_; rintro e w9 ⟨rfl, hb9⟩; refine Hid.out ?_)
    refine (show ∀ {p : Prop}, p → Hid p from fun h => h) ?_
    have G9 := G8.up hb9
    have RW9 := RW8.up hb9
    have RG9 := RG8.up hb9
    clear HE8 hb9 G8 RW8 RG8
    have HM9 := hideIt (markRB RG9 1 (by omega) (by omega))
    go_wp2_with (go_at_call 26; refine HM9.out.mono ?_; rintro e w10 ⟨rfl, RG10, hr10⟩; refine Hid.out ?_)
    refine (show ∀ {p : Prop}, p → Hid p from fun h => h) ?_
    have G10 := G9.rng hr10 (by omega)
    have RW10 := RW9.rng hr10 (.inl (by omega))
    clear HM9 G9 RW9 RG9 hr10
    have HH10 := hideIt (heldRB 1 RG10 (by omega) (by omega))
    have d4 : decide ((1 : Int) + (mg : Int) < 0) = false := decide_eq_false (by omega)
    have d5 : ((1 : Int) + (mg : Int) != (1 : Int) + (mg : Int)) = false := by simp
    go_wp2_with (go_at_call 27; refine HH10.out.mono ?_; rintro e w11 ⟨rfl, hw⟩; have hw' := hw.symm; subst hw'; clear hw; refine Hid.out ?_)
    refine (show ∀ {p : Prop}, p → Hid p from fun h => h) ?_
    clear HH10
    go_wp2_with (go_at_call 23; refine (HT.out _ G10).mono ?_; rintro e w12 ⟨g12, rfl, ho12, hb12⟩; refine Hid.out ?_)
    refine (show ∀ {p : Prop}, p → Hid p from fun h => h) ?_
    have G12 := G10.up hb12
    have RW12 := RW10.up hb12
    have RG12 := RG10.up hb12
    have HI12 := hideIt (HDi.out w12 g12 (Is_of_own ho12))
    clear ho12 hb12 G10 RW10 RG10
    go_wp2_with (go_at_call 11; refine HI12.out.mono ?_; rintro e w13 ⟨ah, mh, ch, rfl, RH, hb13⟩; refine Hid.out ?_)
    refine (show ∀ {p : Prop}, p → Hid p from fun h => h) ?_
    have G13 := G12.up hb13
    have RW13 := RW12.up hb13
    have RG13 := RG12.up hb13
    have hmh : mh ≤ 50 := by rw [← RH.len]; exact hgl
    clear HI12 hb13 G12 RW12 RG12
    have HE13 := hideIt (eqRB RH RW13 (by omega))
    go_wp2_with (go_at_call 24; refine HE13.out.mono ?_; rintro e w14 ⟨rfl, hb14⟩; refine Hid.out ?_)
    refine (show ∀ {p : Prop}, p → Hid p from fun h => h) ?_
    have G14 := G13.up hb14
    have RG14 := RG13.up hb14
    clear HE13 hb14 G13 RW13 RG13 RH
    have HH14 := hideIt (heldRB 1 RG14 (by omega) (by omega))
    go_wp2_with (go_at_call 27; refine HH14.out.mono ?_; rintro e w15 ⟨rfl, hw⟩; have hw' := hw.symm; subst hw'; clear hw)
    go_ret
    exact ⟨rfl, G14⟩
  · have d1 : decide (1048576 < (n : Int)) = true := decide_eq_true (by omega)
    clear h
    go_enter Try.func7, Try.ntmps7
    go_wp2
    go_ret
    exact ⟨rfl, Below.refl _ _⟩
end Go.Proofs.Ytcppbgkocipnlaa
