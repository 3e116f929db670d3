/- The specification's VertsOf. -/
import Derived.Test.YtcpffonenhhfoabIVerts
import Derived.Test.YtcpffonenhhfoabFind6
import Derived.Test.YtcpffonenhhfoabLawT
namespace Go.Proofs.Ytcpffonenhhfoab
open Go.RowKit

set_option maxRecDepth 100000 in
set_option maxHeartbeats 2000000 in
theorem sVertsOf_any (t : List Int) (n : Nat) (a : Option Addr) (c : Nat) (hn : n ≤ 3000000) (w : World) (h : Is w w.heap.size a n t) :
    Calls Try.prog 34 #[.slice a n c] w fun e w' => ∃ a' m c', e = .returned (.slice a' m c') ∧ w'.ownsRow w.heap.size 3 1 (.slice a' m c') m (ic (vsL t)) ∧ Below w.heap.size w w' := by
  obtain ⟨i0, hi, hz0, hz1, hz2⟩ := info_parts info3i
  have HIn := hideIt (fun y x (hx : Below w.heap.size w x) => l05In_any t y n a c hn x (h.up hx))
  have S0 := ISt.start w
  clear h
  go_enter Try.func34, Try.ntmps34
  go_wp2
  go_loopw [3, 4] (fun r i wr => ∃ (k m c1 : Nat) (a1 : Option Addr), k ≤ 12 ∧ m ≤ k ∧ i = .int .i64 (k : Int) ∧ r = .slice a1 m c1 ∧ ISt w a1 m c1 (vsK t k) wr) (fun _ i _ => 12 - (intOf i).toNat)
  case atStart => exact ⟨0, 0, 0, _, by omega, by omega, rfl, rfl, by rw [vsK_zero]; exact S0⟩
  case round =>
    obtain ⟨k, m, c1, a1, hk, hmk, rfl, rfl, hst⟩ := hrel
    clear S0
    by_cases hlt : k < 12
    · have b1 : (0 : Int) ≤ (k : Int) := by omega
      have b2 : (k : Int) < 12 := by omega
      have HN := hideIt (HIn.out (k : Int) wr hst.bel)
      have z1 := hst.size
      have HST := hideIt hst
      by_cases hx : (k : Int) ∈ t
      · rw [decide_eq_true hx] at HN
        have HV := hideIt (vsK_yes hx)
        clear hx hst
        go_wp2_with (first | (go_at_call 44; refine HN.out.mono ?_; rintro e w3 ⟨rfl, hw⟩; have hw' := hw.symm; subst hw'; clear hw) | (at_builtin; refine wpList_append_own _ rfl _ _ 45 rfl w.heap.size 3 i0 _ 1 8 Try.underlying45 hi hz0 hz1 hz2 rfl (by decide) _ _ _ rfl (HST.out.own.alloc _) ⟨wr.heap.size, 0, none⟩ 1 1 [.int .i64 (k : Int)] rfl rfl (newsI wr (k : Int)) (by intro u hu; simp at hu; subst hu; rfl) (by unfold maxLen; omega) (by omega) (by simp; omega) ?_))
        intro v5 w5 hown5 hg5 _
        obtain ⟨a5, c5, rfl, S5⟩ := HST.out.app hown5 hg5
        clear hown5 hg5 HST
        go_wp2
        exact ⟨⟨k + 1, m + 1, c5, a5, by omega, by omega, by go_num, rfl, by rw [HV.out]; exact S5⟩, by simp [intOf]; omega⟩
      · rw [decide_eq_false hx] at HN
        have HV := hideIt (vsK_no hx)
        clear hx hst
        go_wp2_with (go_at_call 44; refine HN.out.mono ?_; rintro e w3 ⟨rfl, hw⟩; have hw' := hw.symm; subst hw'; clear hw)
        exact ⟨⟨k + 1, m, c1, a1, by omega, by omega, by go_num, rfl, by rw [HV.out]; exact HST.out⟩, by simp [intOf]; omega⟩
    · obtain rfl : k = 12 := by omega
      have HST := hideIt hst
      clear hst
      go_wp2
      go_ret
      exact ⟨a1, m, c1, rfl, HST.out.own, HST.out.bel⟩
theorem vans_G {F : Nat} {args : Array Value} {ls : List Int} {u : World} (H : Calls Try.prog F args u fun e w' => ∃ a' m c', e = .returned (.slice a' m c') ∧ w'.ownsRow u.heap.size 3 1 (.slice a' m c') m (ic ls) ∧ Below u.heap.size u w') :
    Calls Try.prog F args u fun e v => ∃ aw mw cw, e = .returned (.slice aw mw cw) ∧ RBox v u.heap.size v.heap.size aw mw cw ls ∧ Below u.heap.size u v :=
  H.mono fun _ _ ⟨aw, mw, cw, he, ho, hb⟩ => ⟨aw, mw, cw, he, RBox.laid ho, hb⟩
end Go.Proofs.Ytcpffonenhhfoab
