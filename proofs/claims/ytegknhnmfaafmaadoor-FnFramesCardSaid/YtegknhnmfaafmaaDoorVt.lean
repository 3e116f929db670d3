/- Plain mathematics on numbers in bytes: no program is named here. -/
import Derived.WalkKit
namespace Go.Proofs.YtegknhnmfaafmaaDoor.Vt

def vtF : Nat → Nat → List UInt8
  | 0, n => [UInt8.ofNat n]
  | f + 1, n => if n < 128 then [UInt8.ofNat n] else UInt8.ofNat (n % 128 + 128) :: vtF f (n / 128)

def vt (n : Nat) : List UInt8 := vtF n n

theorem vtF_any (f : Nat) : ∀ (g n : Nat), n ≤ f → n ≤ g → vtF f n = vtF g n := by
  induction f with
  | zero =>
    intro g n hf hg
    have : n = 0 := by omega
    subst this
    cases g with
    | zero => rfl
    | succ g => simp [vtF]
  | succ f ih =>
    intro g n hf hg
    cases g with
    | zero =>
      have : n = 0 := by omega
      subst this
      simp [vtF]
    | succ g =>
      simp only [vtF]
      by_cases h : n < 128
      · rw [if_pos h, if_pos h]
      · rw [if_neg h, if_neg h, ih g (n / 128) (by omega) (by omega)]

theorem vt_small (n : Nat) (h : n < 128) : vt n = [UInt8.ofNat n] := by
  unfold vt
  cases n with
  | zero => rfl
  | succ n => simp only [vtF]; rw [if_pos h]

theorem vt_big (n : Nat) (h : ¬ n < 128) : vt n = UInt8.ofNat (n % 128 + 128) :: vt (n / 128) := by
  unfold vt
  cases n with
  | zero => omega
  | succ n =>
    simp only [vtF]
    rw [if_neg h, vtF_any n ((n + 1) / 128) ((n + 1) / 128) (by omega) (by omega)]

theorem vt_length (f : Nat) : ∀ n, n ≤ f → (vt n).length ≤ n + 1 := by
  induction f with
  | zero => intro n h; rw [vt_small n (by omega)]; simp
  | succ f ih =>
    intro n h
    by_cases h1 : n < 128
    · rw [vt_small n h1]; simp
    · rw [vt_big n h1]
      have := ih (n / 128) (by omega)
      simp only [List.length_cons]
      omega

theorem vt_pos (n : Nat) : 0 < (vt n).length := by
  by_cases h : n < 128
  · rw [vt_small n h]; simp
  · rw [vt_big n h]; simp

end Go.Proofs.YtegknhnmfaafmaaDoor.Vt
