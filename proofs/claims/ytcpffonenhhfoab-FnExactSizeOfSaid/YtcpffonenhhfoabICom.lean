/- The program's haveCommon. -/
import Derived.Test.YtcpffonenhhfoabFind6
namespace Go.Proofs.Ytcpffonenhhfoab
open Go.RowKit

/-- a number of the one list is in the other -/
def comB (us vs : List Int) : Bool := us.any fun x => decide (x ∈ vs)
def comP (us vs : List Int) (k : Nat) : Bool := match us[k]? with | some x => decide (x ∈ vs) | none => false
theorem comP_at {us vs : List Int} {k : Nat} {f : Int} (h : us[k]? = some f) : comP us vs k = decide (f ∈ vs) := by simp [comP, h]
theorem comB_yes {us vs : List Int} {k : Nat} (hc : comP us vs k = true) : comB us vs = true := by
  unfold comP at hc
  cases h : us[k]? with
  | none => rw [h] at hc; simp at hc
  | some x =>
    rw [h] at hc
    unfold comB
    rw [List.any_eq_true]
    exact ⟨x, List.mem_of_getElem? h, hc⟩
theorem comB_no {us vs : List Int} (hc : ∀ j, j < us.length → comP us vs j = false) : comB us vs = false := by
  unfold comB
  rw [List.any_eq_false]
  intro x hx
  obtain ⟨k, hk⟩ := List.mem_iff_getElem?.1 hx
  have := hc k (List.getElem?_eq_some_iff.1 hk).1
  rw [comP_at hk] at this
  simpa using this
theorem com_first (us vs : List Int) : decide (0 ≤ firstN (comP us vs) us.length) = comB us vs := by
  rcases firstN_cases (comP us vs) us.length with ⟨k, _, h, _, e⟩ | ⟨h, e⟩
  · rw [e, comB_yes h]; simp
  · rw [e, comB_no h]; rfl

theorem comIt_any (vs : List Int) (x : Int) (B n : Nat) (a : Option Addr) (c : Nat) (hn : n ≤ 3000000) (w : World) (hB : w.cell? ⟨B, 0, none⟩ = some (.slice a n c)) (h : Is w w.heap.size a n vs) :
    Calls Try.prog 92 #[.int .i64 x, .pointer (some ⟨B, 0, none⟩)] w fun e w' => e = .returned (.bool (decide (x ∈ vs))) ∧ w' = w := by
  have HC := hideIt (conI_any vs x n a c hn w h)
  clear h
  go_enter Try.func92, Try.ntmps92
  go_wp2_with (go_at_call 93; refine HC.out.mono ?_; rintro e w1 ⟨rfl, rfl⟩)
  go_ret
  exact ⟨rfl, rfl⟩

set_option maxHeartbeats 1000000 in
theorem idxF_any (us vs : List Int) (n : Nat) (a : Option Addr) (c : Nat) (hn : n ≤ 3000000) (B nb : Nat) (b : Option Addr) (cb : Nat) (hnb : nb ≤ 3000000) (w : World) (h : Is w w.heap.size a n us) (hB : w.cell? ⟨B, 0, none⟩ = some (.slice b nb cb)) (hb : Is w w.heap.size b nb vs) :
    Calls Try.prog 76 #[.slice a n c, .func (.func 92) #[] #[.pointer (some ⟨B, 0, none⟩)]] w fun e w' => e = .returned (.int .i64 (firstN (comP us vs) us.length)) ∧ w' = w := by
  have HC := hideIt (fun x => comIt_any vs x B nb b cb hnb w hB hb)
  obtain ⟨hlen, hrow⟩ := h
  have HR := hideIt hrow
  clear hrow hb hB
  go_enter Try.func76, Try.ntmps76
  go_wp2
  go_loopw [8] (fun i wr => ∃ (k : Nat), k ≤ n ∧ i = .int .i64 (k : Int) ∧ Hid (∀ j, j < k → comP us vs j = false) ∧ wr = w) (fun i _ => n - (intOf i).toNat)
  case atStart => exact ⟨0, by omega, rfl, fun j hj => by omega, rfl⟩
  case round =>
    obtain ⟨k, hk, rfl, HF, hw⟩ := hrel
    have hw' := hw.symm
    subst hw'
    clear hw
    by_cases hlt : k < n
    · rcases HR.out with hz | ⟨b1, off, rfl, hbl, hc⟩
      · omega
      · obtain ⟨f, hf⟩ : ∃ f, us[k]? = some f := ⟨us[k]'(by omega), List.getElem?_eq_getElem (by omega)⟩
        have e0 := hc k f hf
        have b1 : (0 : Int) ≤ (k : Int) := by omega
        have b2 : (k : Int) < (n : Int) := by omega
        have HC1 := hideIt (HC.out f)
        have hcf := comP_at (vs := vs) hf
        cases hv : decide (f ∈ vs) with
        | true =>
          rw [hv] at HC1 hcf
          have hm := hideIt (show firstN (comP us vs) us.length = (k : Int) from firstN_yes (by omega) hcf HF.out)
          clear hc hf hv HF hcf
          go_wp2_with (go_at_call 92; refine HC1.out.mono ?_; rintro e w1 ⟨rfl, hw⟩; have hw' := hw.symm; subst hw'; clear hw)
          go_ret
          exact ⟨retI hm.out, rfl⟩
        | false =>
          rw [hv] at HC1 hcf
          have HF2 := hideIt (all_step HF.out hcf)
          clear hc hf hv HF hcf
          go_wp2_with (go_at_call 92; refine HC1.out.mono ?_; rintro e w1 ⟨rfl, hw⟩; have hw' := hw.symm; subst hw'; clear hw)
          exact ⟨⟨k + 1, by omega, by go_num, HF2, by first | trivial | rfl⟩, by simp [intOf]; omega⟩
    · obtain rfl : k = n := by omega
      have hm := hideIt (show firstN (comP us vs) us.length = -1 from firstN_no (by rw [hlen]; exact HF.out))
      clear HF
      go_wp2
      go_ret
      exact ⟨retI hm.out, rfl⟩

theorem conF_any (us vs : List Int) (n : Nat) (a : Option Addr) (c : Nat) (hn : n ≤ 3000000) (B nb : Nat) (b : Option Addr) (cb : Nat) (hnb : nb ≤ 3000000) (w : World) (h : Is w w.heap.size a n us) (hB : w.cell? ⟨B, 0, none⟩ = some (.slice b nb cb)) (hb : Is w w.heap.size b nb vs) :
    Calls Try.prog 91 #[.slice a n c, .func (.func 92) #[] #[.pointer (some ⟨B, 0, none⟩)]] w fun e w' => e = .returned (.bool (comB us vs)) ∧ w' = w := by
  have HI := hideIt (idxF_any us vs n a c hn B nb b cb hnb w h hB hb)
  have HM := hideIt (com_first us vs)
  clear h hB hb
  generalize firstN (comP us vs) us.length = x at *
  go_enter Try.func91, Try.ntmps91
  go_wp2_with (go_at_call 76; refine HI.out.mono ?_; rintro e w1 ⟨rfl, rfl⟩)
  go_ret
  exact ⟨by rw [← HM.out]; rfl, rfl⟩

theorem haveCommon_any (us vs : List Int) (n : Nat) (a : Option Addr) (c : Nat) (hn : n ≤ 3000000) (nb : Nat) (b : Option Addr) (cb : Nat) (hnb : nb ≤ 3000000) (w : World) (h : Is w w.heap.size a n us) (hb : Is w w.heap.size b nb vs) :
    Calls Try.prog 73 #[.slice a n c, .slice b nb cb] w fun e w' => e = .returned (.bool (comB us vs)) ∧ Below w.heap.size w w' := by
  have hbl : Below w.heap.size w (w.alloc (.cells #[.slice b nb cb] 45)) := (Below.refl _ _).alloc (Nat.le_refl _) _
  have HI := hideIt (conF_any us vs n a c hn w.heap.size nb b cb hnb (w.alloc (.cells #[.slice b nb cb] 45)) (h.up hbl) (by simp) (hb.up hbl))
  clear h hb
  go_enter Try.func73, Try.ntmps73
  go_wp2_with (go_at_call 91; refine HI.out.mono ?_; rintro e w1 ⟨rfl, rfl⟩)
  go_ret
  exact ⟨rfl, hbl⟩
end Go.Proofs.Ytcpffonenhhfoab
