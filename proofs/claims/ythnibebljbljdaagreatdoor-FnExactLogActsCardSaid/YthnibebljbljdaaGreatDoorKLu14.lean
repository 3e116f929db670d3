/- szRec, whatever is left. -/
import Derived.Test.YthnibebljbljdaaGreatDoorKLt14
namespace Go.Proofs.YthnibebljbljdaaGreatDoor
open Go.RowKit Vt

theorem szAns_gen (num : Int) (ok : Bool) (n : Nat) (a : Option Addr) (c : Nat) (hn : n ≤ maxLen) (m : Nat) (a' : Option Addr) (c' : Nat) (hm : m ≤ maxLen) (l : Nat) (hl : l ≤ 1048576) (w : World) :
    Calls Tryz.prog 33 #[ansV num ok a n c a' m c', .int .i64 (l : Int)] w fun e w' => e = .returned (.int .i64 (if n + m ≤ l then (l : Int) - (n : Int) - (m : Int) else -1)) ∧ Below w.heap.size w w' := by
  unfold maxLen at hn hm
  unfold ansV
  by_cases g : n ≤ l
  · have d1 : decide ((l : Int) - (n : Int) < 0) = false := by simp; omega
    by_cases g2 : n + m ≤ l
    · rw [if_pos g2]
      have d2 : decide ((l : Int) - (n : Int) - (m : Int) < 0) = false := by simp; omega
      go_enter Tryz.func33, Tryz.ntmps33
      go_wp2
      go_ret
      exact ⟨rfl, bel1 _ _⟩
    · rw [if_neg g2]
      have d2 : decide ((l : Int) - (n : Int) - (m : Int) < 0) = true := by simp; omega
      go_enter Tryz.func33, Tryz.ntmps33
      go_wp2
      go_ret
      exact ⟨rfl, bel1 _ _⟩
  · rw [if_neg (by omega)]
    have d1 : decide ((l : Int) - (n : Int) < 0) = true := by simp; omega
    go_enter Tryz.func33, Tryz.ntmps33
    go_wp2
    go_ret
    exact ⟨rfl, bel1 _ _⟩
set_option maxRecDepth 100000 in
set_option maxHeartbeats 2000000 in
theorem szRec_gen (kind id op a b sh anum : Int) (aok : Bool) (onum oop ov : Int) (a1 : Option Addr) (k1 c1 : Nat) (a2 : Option Addr) (k2 c2 : Nat) (a3 : Option Addr) (k3 c3 : Nat) (g1 : k1 ≤ maxLen) (g2 : k2 ≤ maxLen) (g3 : k3 ≤ maxLen) (l : Nat) (hl : l ≤ 1048576) (w : World) :
    Calls Tryz.prog 11 #[.agg #[.int .i64 kind, .int .i64 id, .int .i64 op, .int .i64 a, .int .i64 b, .int .i64 sh, .int .i64 anum, .bool aok, .slice a1 k1 c1, .slice a2 k2 c2, .int .i64 onum, .int .i64 oop, .slice a3 k3 c3, .int .i64 ov], .int .i64 (l : Int)] w fun e w' => ∃ x : Int, e = .returned (.int .i64 x) ∧ (decide (x < 0) = true ∨ (decide (x < 0) = false ∧ k1 ≤ 1048576 ∧ k2 ≤ 1048576 ∧ k3 ≤ 1048576)) ∧ Below w.heap.size w w' := by
  obtain ⟨W, hW⟩ : ∃ W, W = w.alloc (.cells #[.int .i64 kind, .int .i64 id, .int .i64 op, .int .i64 a, .int .i64 b, .int .i64 sh, .int .i64 anum, .bool aok, .slice a1 k1 c1, .slice a2 k2 c2, .int .i64 onum, .int .i64 oop, .slice a3 k3 c3, .int .i64 ov] 40) := ⟨_, rfl⟩
  have bW : Good w W := by rw [hW]; exact (Good.refl w).alloc _
  have X : BxQ W w.heap.size 40 #[.int .i64 kind, .int .i64 id, .int .i64 op, .int .i64 a, .int .i64 b, .int .i64 sh, .int .i64 anum, .bool aok, .slice a1 k1 c1, .slice a2 k2 c2, .int .i64 onum, .int .i64 oop, .slice a3 k3 c3, .int .i64 ov] := by rw [hW]; exact BxQ.new _ _ _
  have HA := hideIt (szAns_gen anum aok k1 a1 c1 g1 k2 a2 c2 g2 l hl W)
  have x6 := X.at 6 rfl
  have x7 := X.at 7 rfl
  have x8 := X.at 8 rfl
  have x9 := X.at 9 rfl
  have HX := hideIt X
  have HB := hideIt bW
  clear X bW
  by_cases h1 : k1 + k2 ≤ l
  · rw [if_pos h1] at HA
    have e1 : decide ((l : Int) - (k1 : Int) - (k2 : Int) < 0) = false := decide_eq_false (by omega)
    have HO : Hid (∀ U, Calls Tryz.prog 34 #[.agg #[.int .i64 onum, .int .i64 oop, .slice a3 k3 c3, .int .i64 ov], .int .i64 ((l : Int) - (k1 : Int) - (k2 : Int))] U fun e v => e = .returned (.int .i64 (if k3 ≤ l - k1 - k2 then (l : Int) - (k1 : Int) - (k2 : Int) - (k3 : Int) else -1)) ∧ Below U.heap.size U v) := fun U => by
      have ek : ((l - k1 - k2 : Nat) : Int) = (l : Int) - (k1 : Int) - (k2 : Int) := by omega
      have := szOrd_gen onum oop ov k3 (l - k1 - k2) a3 c3 g3 (by omega) U
      rw [ek] at this
      exact this
    by_cases h2 : k3 ≤ l - k1 - k2
    · rw [if_pos h2] at HO
      have e2 : decide (((l : Int) - (k1 : Int) - (k2 : Int) - (k3 : Int)) < 0) = false := decide_eq_false (by omega)
      go_enter Tryz.func11, Tryz.ntmps11
      go_upto_region 1 with fail
      rw [← hW]
      clear hW
      go_wp2_with (go_at_call 33; refine HA.out.mono ?_; rintro e w1 ⟨rfl, b1⟩; refine Hid.out ?_)
      refine (show ∀ {p : Prop}, p → Hid p from fun h => h) ?_
      have Y := HX.out.bel b1
      have y10 := Y.at 10 rfl
      have y11 := Y.at 11 rfl
      have y12 := Y.at 12 rfl
      have y13 := Y.at 13 rfl
      have HB1 := hideIt (HB.out.up b1)
      have HO1 := hideIt (HO.out w1)
      clear Y b1 HA HO x6 x7 x8 x9
      go_wp2_with (go_at_call 34; refine HO1.out.mono ?_; rintro e w2 ⟨rfl, b2⟩)
      go_ret
      exact ⟨((l : Int) - (k1 : Int) - (k2 : Int) - (k3 : Int)), rfl, .inr ⟨e2, by omega, by omega, by omega⟩, HB1.out.up b2⟩
    · rw [if_neg h2] at HO
      have e2 : decide ((-1 : Int) < 0) = true := by decide
      go_enter Tryz.func11, Tryz.ntmps11
      go_upto_region 1 with fail
      rw [← hW]
      clear hW
      go_wp2_with (go_at_call 33; refine HA.out.mono ?_; rintro e w1 ⟨rfl, b1⟩; refine Hid.out ?_)
      refine (show ∀ {p : Prop}, p → Hid p from fun h => h) ?_
      have Y := HX.out.bel b1
      have y10 := Y.at 10 rfl
      have y11 := Y.at 11 rfl
      have y12 := Y.at 12 rfl
      have y13 := Y.at 13 rfl
      have HB1 := hideIt (HB.out.up b1)
      have HO1 := hideIt (HO.out w1)
      clear Y b1 HA HO x6 x7 x8 x9
      go_wp2_with (go_at_call 34; refine HO1.out.mono ?_; rintro e w2 ⟨rfl, b2⟩)
      go_ret
      exact ⟨-1, rfl, .inl e2, HB1.out.up b2⟩
  · rw [if_neg h1] at HA
    have e1 : decide ((-1 : Int) < 0) = true := by decide
    go_enter Tryz.func11, Tryz.ntmps11
    go_upto_region 1 with fail
    rw [← hW]
    clear hW
    go_wp2_with (go_at_call 33; refine HA.out.mono ?_; rintro e w1 ⟨rfl, b1⟩)
    go_ret
    exact ⟨-1, rfl, .inl e1, HB.out.up b1⟩
end Go.Proofs.YthnibebljbljdaaGreatDoor
