/- The walk of FnExactTourOk. -/
import Derived.Test.YtcppbgkocipnlaaITour
import Derived.Test.YtcppbgkocipnlaaToInt6
namespace Go.Proofs.Ytcppbgkocipnlaa
open Go.RowKit

set_option maxRecDepth 100000 in
set_option maxHeartbeats 4000000 in
theorem fnExactTourOk.walk (fs : List Int) (_hft : ∀ x ∈ fs, (Lit.int .i64 x).wf = true) (n : Nat) (a : Option Addr) (c : Nat) (hn : n ≤ maxLen) (w : World) (h : Is w w.heap.size a n fs) :
    Calls Try.prog 6 #[.slice a n c] w fun e w' => e = .returned (.bool true) ∧ Below w.heap.size w w' := by
  unfold maxLen at hn
  by_cases hn1 : n ≤ 1048576
  · have d1 : decide (1048576 < (n : Int)) = false := decide_eq_false (by omega)
    have HF := hideIt h
    have HT := hideIt (fun u (hu : Good w u) => toIntS_any fs n a c hn1 u (h.up hu))
    clear h
    go_enter Try.func6, Try.ntmps6
    go_wp2_with (go_at_call 23; refine (HT.out _ (Good.refl w)).mono ?_; rintro e w1 ⟨g1, rfl, ho1, hb1⟩; refine Hid.out ?_)
    refine (show ∀ {p : Prop}, p → Hid p from fun h => h) ?_
    have G1 : Good w w1 := hb1
    have HS1 := hideIt (sTourOk_any fs n (some ⟨g1, 0, none⟩) n (by omega) w1 (Is_of_own ho1))
    clear hb1 ho1
    go_wp2_with (go_at_call 22; refine HS1.out.mono ?_; rintro e w2 ⟨rfl, hb2⟩; refine Hid.out ?_)
    refine (show ∀ {p : Prop}, p → Hid p from fun h => h) ?_
    have G2 := G1.up hb2
    clear hb2 HS1 G1
    go_wp2_with (go_at_call 23; refine (HT.out _ G2).mono ?_; rintro e w3 ⟨g3, rfl, ho3, hb3⟩; refine Hid.out ?_)
    refine (show ∀ {p : Prop}, p → Hid p from fun h => h) ?_
    have G3 := G2.up hb3
    have R3 := RBox.laid ho3
    clear hb3 G2 ho3
    have HI3 := hideIt (iTourOk_any fs n (some ⟨g3, 0, none⟩) n (by omega) w3 R3.is)
    go_wp2_with (go_at_call 12; refine HI3.out.mono ?_; rintro e w4 ⟨rfl, hb4⟩; refine Hid.out ?_)
    refine (show ∀ {p : Prop}, p → Hid p from fun h => h) ?_
    have G4 := G3.up hb4
    have R4 := R3.up hb4
    have d2 : (tB fs != tB fs) = false := by simp
    clear hb4 G3 R3 HI3
    generalize tB fs = x at *
    go_wp2_with (go_at_call 23; refine (HT.out _ G4).mono ?_; rintro e w5 ⟨g5, rfl, ho5, hb5⟩; refine Hid.out ?_)
    refine (show ∀ {p : Prop}, p → Hid p from fun h => h) ?_
    have G5 := G4.up hb5
    have R5 := R4.up hb5
    have HE := hideIt (eqRB R5 (RBox.laid ho5) hn1)
    clear hb5 R4 G4 ho5
    go_wp2_with (go_at_call 24; refine HE.out.mono ?_; rintro e w6 ⟨rfl, hb6⟩)
    go_ret
    exact ⟨rfl, G5.up hb6⟩
  · have d1 : decide (1048576 < (n : Int)) = true := decide_eq_true (by omega)
    clear h
    go_enter Try.func6, Try.ntmps6
    go_wp2
    go_ret
    exact ⟨rfl, Below.refl _ _⟩
end Go.Proofs.Ytcppbgkocipnlaa
