/- What is written is read back: plain mathematics over the contracts' words. -/
import Derived.Test.YtngbaefmejdecaaDoorIRead
import Derived.Test.YtngbaefmejdecaaDoorIShort
import Derived.Test.YtngbaefmejdecaaDoorIHex
import Derived.Test.YtngbaefmejdecaaDoorIUnhex
import Derived.Test.YtngbaefmejdecaaDoorIReadDec
namespace Go.Proofs.YtngbaefmejdecaaDoor
open Go.RowKit Vt Figs Uh Rd10
open Go.Lib (decDigits itoa)

theorem vt_split (f : Nat) : ∀ n, n ≤ f → ∃ (p : List UInt8) (c : UInt8), vt n = p ++ [c] ∧ (∀ b ∈ p, big b = true) ∧ big c = false ∧ val (vt n) = n := by
  induction f with
  | zero =>
    intro n h
    have e : n = 0 := by omega
    subst e
    exact ⟨[], 0, by rw [vt_small 0 (by omega)]; rfl, by simp, rfl, by rw [vt_small 0 (by omega)]; rfl⟩
  | succ f ih =>
    intro n h
    by_cases h1 : n < 128
    · refine ⟨[], UInt8.ofNat n, by rw [vt_small n h1]; rfl, by simp, by simp [big]; omega, ?_⟩
      rw [vt_small n h1]
      simp [val]
      omega
    · obtain ⟨p, c, hp, hb, hc, hv⟩ := ih (n / 128) (by omega)
      refine ⟨UInt8.ofNat (n % 128 + 128) :: p, c, by rw [vt_big n h1, hp]; rfl, ?_, hc, ?_⟩
      · intro b hbm
        rcases List.mem_cons.1 hbm with e | e
        · subst e; simp [big]; omega
        · exact hb b e
      · rw [vt_big n h1]
        simp only [val, hv]
        have : (UInt8.ofNat (n % 128 + 128)).toNat = n % 128 + 128 := by simp; omega
        rw [this]
        omega

theorem vt_len : ∀ (k n : Nat), n < 128 ^ (k + 1) → (vt n).length ≤ k + 1
  | 0, n, h => by rw [vt_small n (by simpa using h)]; simp
  | k + 1, n, h => by
    by_cases h1 : n < 128
    · rw [vt_small n h1]; simp
    · rw [vt_big n h1]
      have := vt_len k (n / 128) (by rw [Nat.pow_succ] at h; omega)
      simp
      omega

theorem rv_vt (a n : Nat) (r : List UInt8) (hn : n ≤ 1000000000) : rv a (vt n ++ r) = some (n, a + (vt n).length) := by
  obtain ⟨p, c, hp, hb, hc, hv⟩ := vt_split n n (Nat.le_refl _)
  have hl := vt_len 4 n (by have : (128 : Nat) ^ (4 + 1) = 34359738368 := by decide
                            omega)
  have hz := (vt_val p hb c hc).1 (by rw [← hp, hv])
  rw [hp] at hl hv ⊢
  simp at hl
  rw [List.append_assoc, List.singleton_append, rv_at a p hb c hc r, if_pos ⟨by omega, hz, by omega⟩, hv]
  simp
  omega

/-- what stands behind the first of a text that is put together -/
theorem rvI_head (V r : ByteArray) (n : Nat) (hn : n ≤ 1000000000) (hV : V = vtS n) : rvI (V ++ r) 0 = some (n, V.size) := by
  have hb : (V ++ r).data.toList = vt n ++ r.data.toList := by rw [hV]; simp [vtS, ByteArray.data_append]
  unfold rvI
  rw [if_pos ⟨by omega, by omega⟩]
  show rv 0 (from_ (V ++ r) 0) = _
  unfold from_
  rw [List.drop_zero, hb, rv_vt 0 n _ hn, hV]
  simp [vtS, ByteArray.size]

theorem rvI_mid (x : UInt8) (V r : ByteArray) (n : Nat) (hn : n ≤ 1000000000) (hV : V = vtS n) : rvI ((⟨#[x]⟩ ++ V) ++ r) 1 = some (n, 1 + V.size) := by
  have hb : ((⟨#[x]⟩ ++ V) ++ r).data.toList = x :: (vt n ++ r.data.toList) := by rw [hV]; simp [vtS, ByteArray.data_append]
  have hs : 1 ≤ ((⟨#[x]⟩ ++ V) ++ r).size := by
    have e : ((⟨#[x]⟩ ++ V) ++ r).size = ((⟨#[x]⟩ ++ V) ++ r).data.toList.length := by rw [Array.length_toList]; rfl
    rw [e, hb, List.length_cons]
    omega
  unfold rvI
  rw [if_pos ⟨by omega, by omega⟩]
  show rv 1 (from_ ((⟨#[x]⟩ ++ V) ++ r) 1) = _
  unfold from_
  rw [hb, List.drop_one, List.tail_cons, rv_vt 1 n _ hn, hV]
  simp [vtS, ByteArray.size]

theorem cut_back (V t : ByteArray) : (V ++ t).extract V.size (V.size + t.size) = t := by
  apply ByteArray.ext
  apply Array.toList_inj.1
  rw [Lib.extract_data, ByteArray.data_append, Array.toList_append]
  have e : V.size = V.data.toList.length := by simp
  have e2 : t.size = t.data.toList.length := by simp
  rw [Nat.add_sub_cancel_left, e, List.drop_left, e2, List.take_length]

theorem app_size (V t : ByteArray) : (V ++ t).size = V.size + t.size := by
  simp

theorem vl_fig (k : Nat) (h : k < 16) : vl (fig k) = k := by
  have e := fig_toNat k h
  unfold figI at e
  by_cases h1 : (k : Int) < 10
  · rw [if_pos h1] at e
    rw [vl_dec _ (by omega) (by omega)]
    omega
  · rw [if_neg h1] at e
    rw [vl_let _ (by omega) (by omega)]
    omega

theorem uh_hex (l : List UInt8) : uh (hexOf l) = some l := by
  induction l with
  | nil => rfl
  | cons c l ih =>
    have hc := UInt8.toNat_lt c
    have e : hexOf (c :: l) = fig (c.toNat / 16) :: fig (c.toNat % 16) :: hexOf l := by simp [hexOf]
    have v1 := vl_fig (c.toNat / 16) (by omega)
    have v2 := vl_fig (c.toNat % 16) (by omega)
    rw [e, uh, if_pos ⟨by omega, by omega⟩, ih]
    simp
    apply UInt8.toNat_inj.1
    have := two_toNat (fig (c.toNat / 16)) (fig (c.toNat % 16)) (by omega) (by omega)
    rw [v1, v2] at this
    omega

theorem itoa_nat (m : Nat) : itoa (m : Int) = decDigits m := by unfold itoa; rw [if_neg (by omega)]; simp

theorem rd_itoa (n : Nat) (hn : n ≤ 1000000000) : rd (itoa (n : Int)) = some n := rd_yes n _ hn (itoa_nat n).symm

theorem itoa_len (n : Nat) (hn : n ≤ 1000000000) : (itoa (n : Int)).length ≤ 21 := Go.Lib.itoa_length_le n (by omega) (by omega)

end Go.Proofs.YtngbaefmejdecaaDoor
