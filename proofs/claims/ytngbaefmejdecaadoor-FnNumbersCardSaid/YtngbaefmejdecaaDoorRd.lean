/- Plain mathematics on reading a numeral: no program is named here. -/
import Derived.Test.YtngbaefmejdecaaDoorDg
namespace Go.Proofs.YtngbaefmejdecaaDoor.Rd10
open Go.Lib (decDigits itoa nDigits)

def figs (l : List UInt8) : Prop := ∀ c ∈ l, 48 ≤ c.toNat ∧ c.toNat ≤ 57

def val10 (l : List UInt8) : Nat := l.foldl (fun a c => 10 * a + (c.toNat - 48)) 0

theorem val10_snoc (l : List UInt8) (c : UInt8) : val10 (l ++ [c]) = 10 * val10 l + (c.toNat - 48) := by simp [val10]

theorem val10_app (l r : List UInt8) : val10 l ≤ val10 (l ++ r) := by
  induction r generalizing l with
  | nil => simp
  | cons c r ih =>
    have := ih (l ++ [c])
    rw [val10_snoc] at this
    rw [show l ++ c :: r = (l ++ [c]) ++ r by simp]
    omega

theorem val10_lt : ∀ (n : Nat) (l : List UInt8), l.length = n → figs l → val10 l < 10 ^ n
  | 0, l, h, _ => by
    have : l = [] := List.length_eq_zero_iff.1 h
    subst this
    simp [val10]
  | n + 1, l, h, hf => by
    have hne : l ≠ [] := by intro e; subst e; simp at h
    have e := List.dropLast_concat_getLast hne
    have hl : l.dropLast.length = n := by simp [h]
    have ih := val10_lt n l.dropLast hl (fun c hc => hf c (List.dropLast_subset l hc))
    have hc := hf (l.getLast hne) (List.getLast_mem hne)
    rw [← e, val10_snoc, Nat.pow_succ]
    omega

theorem val10_bound (l : List UInt8) (h : l.length ≤ 10) (hf : figs l) : val10 l < 10000000000 := by
  have h1 := val10_lt l.length l rfl hf
  have h2 : 10 ^ l.length ≤ 10 ^ 10 := Nat.pow_le_pow_right (by omega) h
  have h3 : (10 : Nat) ^ 10 = 10000000000 := by decide
  omega

theorem dec_small (u : Nat) (h : u < 10) : decDigits u = [UInt8.ofNat (48 + u)] := Go.Lib.decDigits_one h
theorem dec_big (u : Nat) (h : ¬ u < 10) : decDigits u = decDigits (u / 10) ++ [UInt8.ofNat (48 + u % 10)] := by rw [decDigits, dif_neg h]

theorem ofNat_fig (d : Nat) (h : d < 10) : (UInt8.ofNat (48 + d)).toNat = 48 + d := by simp; omega

theorem dec_figs (u : Nat) : figs (decDigits u) := by
  induction u using Nat.strongRecOn with
  | _ u ih =>
    by_cases h : u < 10
    · rw [dec_small u h]
      intro c hc
      simp only [List.mem_singleton] at hc
      subst hc
      rw [ofNat_fig u h]
      omega
    · rw [dec_big u h]
      intro c hc
      rcases List.mem_append.1 hc with hc | hc
      · exact ih (u / 10) (by omega) c hc
      · simp only [List.mem_singleton] at hc
        subst hc
        rw [ofNat_fig _ (by omega)]
        omega

theorem dec_val (u : Nat) : val10 (decDigits u) = u := by
  induction u using Nat.strongRecOn with
  | _ u ih =>
    by_cases h : u < 10
    · rw [dec_small u h]
      show 10 * 0 + ((UInt8.ofNat (48 + u)).toNat - 48) = u
      rw [ofNat_fig u h]
      omega
    · rw [dec_big u h, val10_snoc, ih (u / 10) (by omega), ofNat_fig _ (by omega)]
      omega

theorem dec_ne (u : Nat) : 0 < (decDigits u).length := by
  by_cases h : u < 10
  · rw [dec_small u h]; simp
  · rw [dec_big u h]; simp

/-- the first figure of a number of two figures or more is no nought -/
theorem dec_head (u : Nat) (h : 1 ≤ u) (r : List UInt8) : decDigits u ≠ 48 :: r := by
  induction u using Nat.strongRecOn generalizing r with
  | _ u ih =>
    by_cases h1 : u < 10
    · rw [dec_small u h1]
      intro e
      simp only [List.cons.injEq] at e
      have := congrArg UInt8.toNat e.1
      rw [ofNat_fig u h1] at this
      have h48 : (48 : UInt8).toNat = 48 := rfl
      omega
    · rw [dec_big u h1]
      intro e
      have hp := dec_ne (u / 10)
      cases hd : decDigits (u / 10) with
      | nil => rw [hd] at hp; simp at hp
      | cons a t =>
        rw [hd] at e
        simp only [List.cons_append, List.cons.injEq] at e
        exact ih (u / 10) (by omega) (by omega) t (by rw [hd, e.1])

theorem dec_length : ∀ (k u : Nat), u < 10 ^ (k + 1) → (decDigits u).length ≤ k + 1
  | 0, u, h => by rw [dec_small u (by simpa using h)]; simp
  | k + 1, u, h => by
    by_cases h1 : u < 10
    · rw [dec_small u h1]; simp
    · rw [dec_big u h1]
      have := dec_length k (u / 10) (by rw [Nat.pow_succ] at h; omega)
      simp
      omega

/-- the number that the text is -/
def rd (l : List UInt8) : Option Nat := if val10 l ≤ 1000000000 ∧ decDigits (val10 l) = l then some (val10 l) else none

theorem rd_yes (N : Nat) (l : List UInt8) (hN : N ≤ 1000000000) (h : decDigits N = l) : rd l = some N := by
  have hv : val10 l = N := by rw [← h]; exact dec_val N
  unfold rd
  rw [hv, if_pos ⟨hN, h⟩]

theorem rd_no (l : List UInt8) (h : ∀ N, N ≤ 1000000000 → decDigits N ≠ l) : rd l = none := by
  unfold rd
  rw [if_neg]
  intro hc
  exact h _ hc.1 hc.2

theorem rd_bad (l : List UInt8) (c : UInt8) (hc : c ∈ l) (hb : c.toNat < 48 ∨ 57 < c.toNat) : rd l = none :=
  rd_no l fun N _ e => by
    have := dec_figs N c (by rw [e]; exact hc)
    omega

theorem rd_nil : rd [] = none := rd_no _ fun N _ e => by have := dec_ne N; rw [e] at this; simp at this

theorem rd_nought (r : List UInt8) (h : r ≠ []) : rd (48 :: r) = none :=
  rd_no _ fun N _ e => by
    by_cases h1 : 1 ≤ N
    · exact dec_head N h1 r e
    · have : N = 0 := by omega
      subst this
      rw [dec_small 0 (by omega)] at e
      simp only [List.cons.injEq] at e
      exact h e.2.symm

theorem rd_great (p r : List UInt8) (h : 1000000000 < val10 p) : rd (p ++ r) = none :=
  rd_no _ fun N hN e => by
    have h1 := val10_app p r
    rw [← e, dec_val] at h1
    omega

theorem rd_long (l : List UInt8) (h : 10 < l.length) : rd l = none :=
  rd_no _ fun N hN e => by
    have h1 := dec_length 9 N (by have : (10 : Nat) ^ (9 + 1) = 10000000000 := by decide
                                  omega)
    rw [e] at h1
    omega

/-- one figure more -/
theorem dec_more (n : Nat) (c : UInt8) (h : 1 ≤ n) (h1 : 48 ≤ c.toNat) (h2 : c.toNat ≤ 57) : decDigits (n * 10 + (c.toNat - 48)) = decDigits n ++ [c] := by
  rw [dec_big _ (by omega)]
  have e1 : (n * 10 + (c.toNat - 48)) / 10 = n := by omega
  have e2 : (n * 10 + (c.toNat - 48)) % 10 = c.toNat - 48 := by omega
  rw [e1, e2]
  congr 2
  apply UInt8.toNat_inj.1
  rw [ofNat_fig _ (by omega)]
  omega

theorem dec_first (c : UInt8) (h1 : 48 ≤ c.toNat) (h2 : c.toNat ≤ 57) : decDigits (c.toNat - 48) = [c] := by
  rw [dec_small _ (by omega)]
  congr 1
  apply UInt8.toNat_inj.1
  rw [ofNat_fig _ (by omega)]
  omega

end Go.Proofs.YtngbaefmejdecaaDoor.Rd10
