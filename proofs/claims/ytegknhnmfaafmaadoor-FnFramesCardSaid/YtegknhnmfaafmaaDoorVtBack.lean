/- A number's shortest form is read back. -/
import Derived.Test.YtegknhnmfaafmaaDoorIRead
namespace Go.Proofs.YtegknhnmfaafmaaDoor
open Go.RowKit Vt

theorem vt_split (f : Nat) : ∀ n, n ≤ f → ∃ (p : List UInt8) (c : UInt8), vt n = p ++ [c] ∧ (∀ b ∈ p, big b = true) ∧ big c = false ∧ val (vt n) = n := by
  induction f with
  | zero =>
    intro n h
    have e : n = 0 := by omega
    subst e
    exact ⟨[], 0, by rw [vt_small 0 (by omega)]; rfl, by simp, rfl, by rw [vt_small 0 (by omega)]; rfl⟩
  | succ f ih =>
    intro n h
    by_cases h1 : n < 128
    · refine ⟨[], UInt8.ofNat n, by rw [vt_small n h1]; rfl, by simp, by simp [big]; omega, ?_⟩
      rw [vt_small n h1]
      simp [val]
      omega
    · obtain ⟨p, c, hp, hb, hc, hv⟩ := ih (n / 128) (by omega)
      refine ⟨UInt8.ofNat (n % 128 + 128) :: p, c, by rw [vt_big n h1, hp]; rfl, ?_, hc, ?_⟩
      · intro b hbm
        rcases List.mem_cons.1 hbm with e | e
        · subst e; simp [big]; omega
        · exact hb b e
      · rw [vt_big n h1]
        simp only [val, hv]
        have : (UInt8.ofNat (n % 128 + 128)).toNat = n % 128 + 128 := by simp; omega
        rw [this]
        omega

theorem vt_len : ∀ (k n : Nat), n < 128 ^ (k + 1) → (vt n).length ≤ k + 1
  | 0, n, h => by rw [vt_small n (by simpa using h)]; simp
  | k + 1, n, h => by
    by_cases h1 : n < 128
    · rw [vt_small n h1]; simp
    · rw [vt_big n h1]
      have := vt_len k (n / 128) (by rw [Nat.pow_succ] at h; omega)
      simp
      omega

theorem rv_vt (a n : Nat) (r : List UInt8) (hn : n ≤ 1000000000) : rv a (vt n ++ r) = some (n, a + (vt n).length) := by
  obtain ⟨p, c, hp, hb, hc, hv⟩ := vt_split n n (Nat.le_refl _)
  have hl := vt_len 4 n (by have : (128 : Nat) ^ (4 + 1) = 34359738368 := by decide
                            omega)
  have hz := (vt_val p hb c hc).1 (by rw [← hp, hv])
  rw [hp] at hl hv ⊢
  simp at hl
  rw [List.append_assoc, List.singleton_append, rv_at a p hb c hc r, if_pos ⟨by omega, hz, by omega⟩, hv]
  simp
  omega

end Go.Proofs.YtegknhnmfaafmaaDoor
