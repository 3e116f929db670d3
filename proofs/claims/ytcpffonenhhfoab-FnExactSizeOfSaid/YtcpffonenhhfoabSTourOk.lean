/- The specification's TourOk: the whole of it. -/
import Derived.Test.YtcpffonenhhfoabSTour
namespace Go.Proofs.Ytcpffonenhhfoab
open Go.RowKit

theorem tB_bad {t : List Int} {k : Nat} {f : Int} (hf : t[k]? = some f) (hv : vB f = false) : tB t = false := by
  cases h : tB t with
  | false => rfl
  | true =>
    have := ((tB_iff t).1 h).1 f (List.mem_of_getElem? hf)
    rw [hv] at this
    exact this.symm
theorem all_of_at {t : List Int} (h : ∀ (k : Nat) (f : Int), t[k]? = some f → vB f = true) : t.all vB = true := by
  rw [List.all_eq_true]
  intro x hx
  obtain ⟨k, hk⟩ := List.mem_iff_getElem?.1 hx
  exact h k x hk

set_option maxRecDepth 100000 in
set_option maxHeartbeats 4000000 in
theorem sTourOk_any (t : List Int) (n : Nat) (a : Option Addr) (c : Nat) (hn : n ≤ 3000000) (w : World) (h : Is w w.heap.size a n t) :
    Calls Try.prog 46 #[.slice a n c] w fun e w' => e = .returned (.bool (tB t)) ∧ Below w.heap.size w w' := by
  have HI := hideIt l01In_any
  by_cases hr : 1 ≤ n ∧ n ≤ 23
  · have r1 : decide (1 ≤ (n : Int) ∧ (n : Int) ≤ 23) = true := decide_eq_true (by omega)
    have HOp := hideIt (l06Open_any t n a c (by omega) (by omega) w h)
    obtain ⟨hlen, hrow⟩ := h
    have HR := hideIt hrow
    clear hrow
    go_enter Try.func46, Try.ntmps46
    go_wp2_with (go_at_call 45; refine (HI.out _ _ _ _).mono ?_; rintro e w1 ⟨rfl, hw⟩; have hw' := hw.symm; subst hw'; clear hw)
    go_loopw [3] (fun i wr => ∃ (k : Nat), k ≤ n ∧ i = .int .i64 (k : Int) ∧ Hid (∀ (j : Nat) (f : Int), j < k → t[j]? = some f → vB f = true) ∧ wr = w) (fun i _ => n - (intOf i).toNat)
    case atStart => exact ⟨0, by omega, rfl, fun j _ hj => by omega, rfl⟩
    case round =>
      obtain ⟨k, hk, rfl, HF, hw⟩ := hrel
      have hw' := hw.symm
      subst hw'
      clear hw
      by_cases hlt : k < n
      · rcases HR.out with hz | ⟨b, off, rfl, hbl, hc⟩
        · omega
        · obtain ⟨f, hf⟩ : ∃ f, t[k]? = some f := ⟨t[k]'(by omega), List.getElem?_eq_getElem (by omega)⟩
          have e0 := hc k f hf
          have b1 : (0 : Int) ≤ (k : Int) := by omega
          have b2 : (k : Int) < (n : Int) := by omega
          cases hv : vB f with
          | true =>
            have HF2 : Hid (∀ (j : Nat) (x : Int), j < k + 1 → t[j]? = some x → vB x = true) := fun j x hj hx => by
              by_cases h7 : j = k
              · rw [h7, hf] at hx; simp at hx; rw [← hx]; exact hv
              · exact HF.out j x (by omega) hx
            have r2 : decide (0 ≤ f ∧ f ≤ 11) = true := decide_eq_true (by simp [vB] at hv; omega)
            clear hc hf hv HF HOp
            go_wp2_with (go_at_call 45; refine (HI.out _ _ _ _).mono ?_; rintro e w1 ⟨rfl, hw⟩; have hw' := hw.symm; subst hw'; clear hw)
            exact ⟨⟨k + 1, by omega, by go_num, HF2, by first | trivial | rfl⟩, by simp [intOf]; omega⟩
          | false =>
            have HB := hideIt (tB_bad hf hv)
            have r2 : decide (0 ≤ f ∧ f ≤ 11) = false := decide_eq_false (by simp [vB] at hv; omega)
            clear hc hf hv HF HOp
            go_wp2_with (go_at_call 45; refine (HI.out _ _ _ _).mono ?_; rintro e w1 ⟨rfl, hw⟩; have hw' := hw.symm; subst hw'; clear hw)
            go_ret
            exact ⟨by rw [HB.out]; rfl, Below.refl _ _⟩
      · obtain rfl : k = n := by omega
        have HB : Hid (tB t = openB t) := by
          show _ = _
          rw [tB_eq, all_of_at (fun j f hf => HF.out j f (by have := (List.getElem?_eq_some_iff.1 hf).1; omega) hf), Bool.true_and]
        clear HF HR
        go_wp2_with (go_at_call 72; refine HOp.out.mono ?_; rintro e w1 ⟨rfl, hb1⟩)
        go_ret
        exact ⟨by rw [HB.out]; rfl, hb1⟩
  · have r1 : decide (1 ≤ (n : Int) ∧ (n : Int) ≤ 23) = false := decide_eq_false (by omega)
    have HB : Hid (tB t = false) := by
      show _ = _
      cases hT : tB t with
      | false => rfl
      | true => have := tB_len hT; have := h.1; omega
    clear h
    go_enter Try.func46, Try.ntmps46
    go_wp2_with (go_at_call 45; refine (HI.out _ _ _ _).mono ?_; rintro e w1 ⟨rfl, hw⟩; have hw' := hw.symm; subst hw'; clear hw)
    go_ret
    exact ⟨by rw [HB.out]; rfl, Below.refl _ _⟩
end Go.Proofs.Ytcpffonenhhfoab
