/- Places in a list of ints: the last one of a number, the first step from one number to another. -/
import Derived.Test.YtcpffonenhhfoabFind6
namespace Go.Proofs.Ytcpffonenhhfoab
open Go.RowKit

theorem goP_at {ls : List Int} {u v f g : Int} {k : Nat} (hf : ls[k]? = some f) (hg : ls[k + 1]? = some g) : goP ls u v k = (f == u && g == v) := by simp [goP, hf, hg]

set_option maxHeartbeats 1000000 in
theorem stepAt_any (ls : List Int) (u v : Int) (n : Nat) (a : Option Addr) (c : Nat) (hn : n ≤ 3000000) (w : World) (h : Is w w.heap.size a n ls) :
    Calls Try.prog 52 #[.slice a n c, .int .i64 u, .int .i64 v] w fun e w' => e = .returned (.int .i64 (goI ls u v)) ∧ w' = w := by
  obtain ⟨hlen, hrow⟩ := h
  have HR := hideIt hrow
  clear hrow
  go_enter Try.func52, Try.ntmps52
  go_wp2
  go_loopw [11] (fun i wr => ∃ (k : Nat), k ≤ n - 1 ∧ i = .int .i64 (k : Int) ∧ Hid (∀ j, j < k → goP ls u v j = false) ∧ wr = w) (fun i _ => n - (intOf i).toNat)
  case atStart => exact ⟨0, by omega, rfl, fun j hj => by omega, rfl⟩
  case round =>
    obtain ⟨k, hk, rfl, HF, hw⟩ := hrel
    have hw' := hw.symm
    subst hw'
    clear hw
    by_cases hlt : k < n - 1
    · rcases HR.out with hz | ⟨b, off, rfl, hbl, hc⟩
      · omega
      · obtain ⟨f, hf⟩ : ∃ f, ls[k]? = some f := ⟨ls[k]'(by omega), List.getElem?_eq_getElem (by omega)⟩
        obtain ⟨g, hg⟩ : ∃ f, ls[k + 1]? = some f := ⟨ls[k + 1]'(by omega), List.getElem?_eq_getElem (by omega)⟩
        have e0 := hc k f hf
        have e1 := hc (k + 1) g hg
        have ek : ((k : Int) + 1).toNat = k + 1 := by omega
        have hgo := goP_at (u := u) (v := v) hf hg
        have b0 : decide ((k : Int) < (n : Int) - 1) = true := decide_eq_true (by omega)
        have b1 : (0 : Int) ≤ (k : Int) := by omega
        have b2 : (k : Int) < (n : Int) := by omega
        have b3 : (0 : Int) ≤ (k : Int) + 1 := by omega
        have b4 : (k : Int) + 1 < (n : Int) := by omega
        by_cases hu : f = u
        · have d1 : (f == u) = true := by simpa using hu
          by_cases hv : g = v
          · have d2 : (g == v) = true := by simpa using hv
            have hm := hideIt (show goI ls u v = (k : Int) from firstN_yes (by omega) (by rw [hgo, d1, d2]; rfl) HF.out)
            clear hc hf hg hu hv HF hgo
            go_wp2
            go_ret
            exact ⟨retI hm.out, rfl⟩
          · have d2 : (g == v) = false := by simpa using hv
            have HF2 := hideIt (all_step HF.out (by rw [hgo, d1, d2]; rfl))
            clear hc hf hg hu hv HF hgo
            go_wp2
            exact ⟨⟨k + 1, by omega, by go_num, HF2, by first | trivial | rfl⟩, by simp [intOf]; omega⟩
        · have d1 : (f == u) = false := by simpa using hu
          have HF2 := hideIt (all_step HF.out (by rw [hgo, d1]; rfl))
          clear hc hf hg hu HF hgo
          go_wp2
          exact ⟨⟨k + 1, by omega, by go_num, HF2, by first | trivial | rfl⟩, by simp [intOf]; omega⟩
    · obtain rfl : k = n - 1 := by omega
      have hm := hideIt (show goI ls u v = -1 from firstN_no (by rw [hlen]; exact HF.out))
      have b0 : decide (((n - 1 : Nat) : Int) < (n : Int) - 1) = false := decide_eq_false (by omega)
      clear HF
      go_wp2
      go_ret
      exact ⟨retI hm.out, rfl⟩

set_option maxHeartbeats 1000000 in
theorem l06Going_any (ls : List Int) (u v : Int) (n : Nat) (a : Option Addr) (c : Nat) (hn : n ≤ 3000000) (w : World) (h : Is w w.heap.size a n ls) :
    Calls Try.prog 47 #[.slice a n c, .int .i64 u, .int .i64 v] w fun e w' => e = .returned (.int .i64 (goI ls u v)) ∧ w' = w := by
  obtain ⟨hlen, hrow⟩ := h
  have HR := hideIt hrow
  clear hrow
  go_enter Try.func47, Try.ntmps47
  go_wp2
  go_loopw [7] (fun i wr => ∃ (k : Nat), k ≤ n - 1 ∧ i = .int .i64 (k : Int) ∧ Hid (∀ j, j < k → goP ls u v j = false) ∧ wr = w) (fun i _ => n - (intOf i).toNat)
  case atStart => exact ⟨0, by omega, rfl, fun j hj => by omega, rfl⟩
  case round =>
    obtain ⟨k, hk, rfl, HF, hw⟩ := hrel
    have hw' := hw.symm
    subst hw'
    clear hw
    by_cases hlt : k < n - 1
    · rcases HR.out with hz | ⟨b, off, rfl, hbl, hc⟩
      · omega
      · obtain ⟨f, hf⟩ : ∃ f, ls[k]? = some f := ⟨ls[k]'(by omega), List.getElem?_eq_getElem (by omega)⟩
        obtain ⟨g, hg⟩ : ∃ f, ls[k + 1]? = some f := ⟨ls[k + 1]'(by omega), List.getElem?_eq_getElem (by omega)⟩
        have e0 := hc k f hf
        have e1 := hc (k + 1) g hg
        have ek : ((k : Int) + 1).toNat = k + 1 := by omega
        have hgo := goP_at (u := u) (v := v) hf hg
        have b0 : decide ((k : Int) + 1 < (n : Int)) = true := decide_eq_true (by omega)
        have b1 : (0 : Int) ≤ (k : Int) := by omega
        have b2 : (k : Int) < (n : Int) := by omega
        have b3 : (0 : Int) ≤ (k : Int) + 1 := by omega
        have b4 : (k : Int) + 1 < (n : Int) := by omega
        by_cases hu : f = u
        · have d1 : (f == u) = true := by simpa using hu
          by_cases hv : g = v
          · have d2 : (g == v) = true := by simpa using hv
            have hm := hideIt (show goI ls u v = (k : Int) from firstN_yes (by omega) (by rw [hgo, d1, d2]; rfl) HF.out)
            clear hc hf hg hu hv HF hgo
            go_wp2
            go_ret
            exact ⟨retI hm.out, rfl⟩
          · have d2 : (g == v) = false := by simpa using hv
            have HF2 := hideIt (all_step HF.out (by rw [hgo, d1, d2]; rfl))
            clear hc hf hg hu hv HF hgo
            go_wp2
            exact ⟨⟨k + 1, by omega, by go_num, HF2, by first | trivial | rfl⟩, by simp [intOf]; omega⟩
        · have d1 : (f == u) = false := by simpa using hu
          have HF2 := hideIt (all_step HF.out (by rw [hgo, d1]; rfl))
          clear hc hf hg hu HF hgo
          go_wp2
          exact ⟨⟨k + 1, by omega, by go_num, HF2, by first | trivial | rfl⟩, by simp [intOf]; omega⟩
    · obtain rfl : k = n - 1 := by omega
      have hm := hideIt (show goI ls u v = -1 from firstN_no (by rw [hlen]; exact HF.out))
      have b0 : decide (((n - 1 : Nat) : Int) + 1 < (n : Int)) = false := decide_eq_false (by omega)
      clear HF
      go_wp2
      go_ret
      exact ⟨retI hm.out, rfl⟩
end Go.Proofs.Ytcpffonenhhfoab
