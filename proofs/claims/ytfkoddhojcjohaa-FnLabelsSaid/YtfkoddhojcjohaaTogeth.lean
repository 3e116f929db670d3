/- Together, on both sides. -/
import Derived.Test.YtfkoddhojcjohaaILabels
import Derived.Test.YtfkoddhojcjohaaSLabels
namespace Go.Proofs.Ytfkoddhojcjohaa
open Go.RowKit

/-- both have one label -/
def togB (ls : List Int) (x y : Int) : Bool := decide (((0 ≤ x ∧ x < ls.length) ∧ 0 ≤ y ∧ y < ls.length) ∧ atI ls x = atI ls y)

set_option maxRecDepth 100000 in
set_option maxHeartbeats 4000000 in
theorem iTogether_any (N : Int) (es : List EdgeV) (x y : Int) (n : Nat) (a : Option Addr) (c : Nat) (hn : n ≤ 1048576) (w : World) (h : Es w w.heap.size a n es) :
    Calls Try.prog 21 #[.agg #[.int .i64 N, .slice a n c], .int .i64 x, .int .i64 y] w fun e w' => e = .returned (.bool (togB (labE N es) x y)) ∧ Below w.heap.size w w' := by
  have HLb : Hid (∀ u, InG w N a n c u → Calls Try.prog 18 #[.agg #[.int .i64 N, .slice a n c]] u fun e v => ∃ a' m' c', e = .returned (.slice a' m' c') ∧ Is v v.heap.size a' m' (labE N es) ∧ InG w N a n c v) := fun u hu =>
    (iLabels_any N es n a c hn u (h.up hu.below)).mono fun _ _ ⟨a', m', c', he, ho, hb⟩ => ⟨a', m', c', he, Is_of_own ho, hu.up hb⟩
  have S1 := InG.start w N a n c
  have hll := labE_len (N := N) (es := es)
  clear h
  generalize labE N es = ls at *
  by_cases hx : (0 ≤ x ∧ x < ls.length) ∧ 0 ≤ y ∧ y < ls.length
  · have HT : Hid (togB ls x y = decide (atI ls x = atI ls y)) := by
      show _ = _
      unfold togB
      rw [decide_eq_decide]
      exact ⟨fun h => h.2, fun h => ⟨hx, h⟩⟩
    go_enter Try.func21, Try.ntmps21
    go_wp2_with (go_at_call 18; refine (HLb.out _ S1).mono ?_; rintro e w4 ⟨a', m', c', rfl, hI, S4⟩; refine Hid.out ?_)
    refine (show ∀ {p : Prop}, p → Hid p from fun h => h) ?_
    have hlm := hI.1
    rcases hI.2 with h0 | ⟨b, off, rfl, hbl, hc⟩
    · omega
    · have c0 := hc x.toNat _ (atI_some (ls := ls) (by omega))
      have c1 := hc y.toNat _ (atI_some (ls := ls) (by omega))
      rw [show ((x.toNat : Nat) : Int) = x by omega] at c0
      rw [show ((y.toNat : Nat) : Int) = y by omega] at c1
      have b1 : (0 : Int) ≤ x := by omega
      have b2 : x < (m' : Int) := by omega
      have b3 : (0 : Int) ≤ y := by omega
      have b4 : y < (m' : Int) := by omega
      have d1 : decide (min x y < 0) = false := decide_eq_false (by omega)
      have d2 : decide ((m' : Int) ≤ max x y) = false := decide_eq_false (by omega)
      have m1 : ¬ (min x y < 0) := by omega
      have m2 : ¬ ((m' : Int) ≤ max x y) := by omega
      clear hc hI hx hlm hll
      generalize atI ls x = vx at *
      generalize atI ls y = vy at *
      go_wp2
      go_quiet (fail)
      go_wp2
      go_ret
      exact ⟨by rw [HT.out]; rfl, below_drewN S4.below _⟩
  · have HT : Hid (togB ls x y = false) := by
      show _ = _
      unfold togB
      exact decide_eq_false fun h => hx h.1
    go_enter Try.func21, Try.ntmps21
    go_wp2_with (go_at_call 18; refine (HLb.out _ S1).mono ?_; rintro e w4 ⟨a', m', c', rfl, hI, S4⟩; refine Hid.out ?_)
    refine (show ∀ {p : Prop}, p → Hid p from fun h => h) ?_
    have hlm := hI.1
    by_cases h1 : min x y < 0
    · have d1 : decide (min x y < 0) = true := decide_eq_true h1
      clear hI hx hlm hll
      go_wp2
      go_ret
      exact ⟨by rw [HT.out]; rfl, S4.below⟩
    · have d1 : decide (min x y < 0) = false := decide_eq_false h1
      have d2 : decide ((m' : Int) ≤ max x y) = true := decide_eq_true (by omega)
      clear hI hx hlm hll
      go_wp2
      go_ret
      exact ⟨by rw [HT.out]; rfl, S4.below⟩

end Go.Proofs.Ytfkoddhojcjohaa
