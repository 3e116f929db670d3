/- Places in a list of ints: the last one of a number, the first step from one number to another. -/
import Derived.Test.YtcpffonenhhfoaaFind6
namespace Go.Proofs.Ytcpffonenhhfoaa
open Go.RowKit

set_option maxHeartbeats 1000000 in
theorem l06Last_any (ls : List Int) (v : Int) (n : Nat) (a : Option Addr) (c : Nat) (hn : n ≤ 3000000) (w : World) (h : Is w w.heap.size a n ls) :
    Calls Try.prog 76 #[.slice a n c, .int .i64 v] w fun e w' => e = .returned (.int .i64 (lstI ls v)) ∧ w' = w := by
  obtain ⟨hlen, hrow⟩ := h
  have HR := hideIt hrow
  clear hrow
  go_enter Try.func76, Try.ntmps76
  go_wp2
  go_loopw [5] (fun i wr => ∃ (k : Nat), k ≤ n ∧ i = .int .i64 ((k : Int) - 1) ∧ Hid (lstI ls v = lastN (atP ls v) k) ∧ wr = w) (fun i _ => (intOf i + 1).toNat)
  case atStart => exact ⟨n, by omega, rfl, by show _ = _; unfold lstI; rw [hlen], rfl⟩
  case round =>
    obtain ⟨k, hk, rfl, HF, hw⟩ := hrel
    have hw' := hw.symm
    subst hw'
    clear hw
    rcases k with _ | k
    · have hm := hideIt (show lstI ls v = -1 from HF.out)
      have d0 : decide ((0 : Int) ≤ ((0 : Nat) : Int) - 1) = false := decide_eq_false (by omega)
      clear HF
      go_wp2
      go_ret
      exact ⟨retI hm.out, rfl⟩
    · rcases HR.out with hz | ⟨b, off, rfl, hbl, hc⟩
      · omega
      · obtain ⟨f, hf⟩ : ∃ f, ls[k]? = some f := ⟨ls[k]'(by omega), List.getElem?_eq_getElem (by omega)⟩
        have e0 := hc k f hf
        have ek : ((k + 1 : Nat) : Int) - 1 = (k : Int) := by omega
        rw [ek]
        have b1 : (0 : Int) ≤ (k : Int) := by omega
        have b2 : (k : Int) < (n : Int) := by omega
        have d0 : decide ((0 : Int) ≤ (k : Int)) = true := decide_eq_true (by omega)
        by_cases hv : f = v
        · have d1 : (f == v) = true := by simpa using hv
          have hm := hideIt (show lstI ls v = (k : Int) from lastN_hit HF.out (atP_yes (hv ▸ hf)))
          clear hc hf hv HF ek
          go_wp2
          go_ret
          exact ⟨retI hm.out, rfl⟩
        · have d1 : (f == v) = false := by simpa using hv
          have HF2 := hideIt (lastN_step HF.out (atP_no hf hv))
          clear hc hf hv HF ek
          go_wp2
          exact ⟨⟨k, by omega, by go_num, HF2, by first | trivial | rfl⟩, by simp [intOf]⟩

theorem goP_at {ls : List Int} {u v f g : Int} {k : Nat} (hf : ls[k]? = some f) (hg : ls[k + 1]? = some g) : goP ls u v k = (f == u && g == v) := by simp [goP, hf, hg]

end Go.Proofs.Ytcpffonenhhfoaa
