/- The check sum of chapter 2, reckoned in whole numbers: eight halvings a byte, two steps by a table of 16, and that no two bytes and no two sums come to one. -/
import Derived.Laws.BitsAllLaws
namespace Go.Proofs.YtegknhnmfaafmaaDoor.Crc

/-- the number that is exclusive-or'd when the sum was odd -/
def poly : Nat := 3558460437

def hf (x : Nat) : Nat := if x % 2 = 1 then (x / 2) ^^^ poly else x / 2

def h4 (x : Nat) : Nat := hf (hf (hf (hf x)))
def h8 (x : Nat) : Nat := h4 (h4 x)

def tab : List Nat := [0, 1166650509, 2333301018, 3466261911, 3189058079, 4221339282, 889615109, 1888477064, 3558460437, 2442158232, 1594529039, 444807554, 1779230218, 797264519, 3776954128, 2761298845]

theorem hf_xor (a b : Nat) : hf (a ^^^ b) = hf a ^^^ hf b := by
  have hd : (a ^^^ b) / 2 = a / 2 ^^^ b / 2 := by
    have := Nat.shiftRight_xor_distrib (a := a) (b := b) (i := 1)
    simpa [Nat.shiftRight_eq_div_pow] using this
  have hm : (a ^^^ b) % 2 = (a % 2 + b % 2) % 2 := by
    have h2 := Nat.testBit_xor (x := a) (y := b) (i := 0)
    rw [Nat.testBit_zero, Nat.testBit_zero, Nat.testBit_zero] at h2
    rcases Nat.mod_two_eq_zero_or_one a with ha | ha <;> rcases Nat.mod_two_eq_zero_or_one b with hb | hb <;> rcases Nat.mod_two_eq_zero_or_one (a ^^^ b) with hc | hc <;> rw [ha, hb, hc] at h2 <;> rw [ha, hb, hc] <;> first | rfl | exact absurd h2 (by decide)
  unfold hf
  rw [hd, hm]
  rcases Nat.mod_two_eq_zero_or_one a with ha | ha <;> rcases Nat.mod_two_eq_zero_or_one b with hb | hb <;> simp [ha, hb]
  · exact Nat.xor_assoc _ _ _
  · rw [Nat.xor_assoc, Nat.xor_comm (b / 2) poly, Nat.xor_assoc]
  · rw [Nat.xor_assoc, ← Nat.xor_assoc poly, Nat.xor_comm poly, Nat.xor_assoc, Nat.xor_self, Nat.xor_zero]

theorem h4_xor (a b : Nat) : h4 (a ^^^ b) = h4 a ^^^ h4 b := by simp [h4, hf_xor]

theorem hf_even (y : Nat) : hf (2 * y) = y := by
  unfold hf
  rw [if_neg (by omega)]
  omega

theorem h4_even (y : Nat) : h4 (16 * y) = y := by
  unfold h4
  rw [show 16 * y = 2 * (2 * (2 * (2 * y))) by omega, hf_even, hf_even, hf_even, hf_even]

theorem h4_small : ∀ r, r < 16 → h4 r = tab.getD r 0 := by decide

theorem parts16 (x : Nat) : 16 * (x / 16) ^^^ x % 16 = x := by
  apply Nat.eq_of_testBit_eq
  intro i
  rw [Nat.testBit_xor, show x % 16 = x % 2 ^ 4 from rfl, Nat.testBit_mod_two_pow, show 16 * (x / 16) = 2 ^ 4 * (x / 2 ^ 4) from rfl, Nat.testBit_two_pow_mul]
  by_cases hi : i < 4
  · have : ¬ 4 ≤ i := by omega
    simp [hi, this]
  · have h4 : 4 ≤ i := by omega
    have e : i - 4 + 4 = i := by omega
    rw [Nat.testBit_div_two_pow]
    simp [hi, h4, e]

/-- one step by the table is four halvings -/
theorem h4_tab (x : Nat) : (x / 16) ^^^ tab.getD (x % 16) 0 = h4 x := by
  have h := h4_xor (16 * (x / 16)) (x % 16)
  rw [parts16, h4_even, h4_small _ (Nat.mod_lt _ (by omega))] at h
  exact h.symm

theorem tab_lt : ∀ r, r < 16 → tab.getD r 0 < 4294967296 := by decide

theorem hf_lt {x : Nat} (h : x < 4294967296) : hf x < 4294967296 := by
  unfold hf
  split
  · exact Nat.xor_lt_two_pow (n := 32) (by omega) (by decide)
  · omega

theorem h4_lt {x : Nat} (h : x < 4294967296) : h4 x < 4294967296 := hf_lt (hf_lt (hf_lt (hf_lt h)))
theorem h8_lt {x : Nat} (h : x < 4294967296) : h8 x < 4294967296 := h4_lt (h4_lt h)

theorem hf_inj {x y : Nat} (hx : x < 4294967296) (hy : y < 4294967296) (h : hf x = hf y) : x = y := by
  have top : ∀ z, z < 4294967296 → (hf z).testBit 31 = decide (z % 2 = 1) := by
    intro z hz
    have hs : (z / 2).testBit 31 = false := Nat.testBit_lt_two_pow (by omega)
    unfold hf
    split
    · rename_i ho
      rw [Nat.testBit_xor, hs, show poly.testBit 31 = true by decide]
      simp [ho]
    · rename_i ho
      rw [hs]; simp [ho]
  have ht := top x hx
  rw [h, top y hy] at ht
  unfold hf at h
  by_cases ho : x % 2 = 1
  · have ho' : y % 2 = 1 := by simpa [ho] using ht
    rw [if_pos ho, if_pos ho'] at h
    have h2 : x / 2 = y / 2 := by
      have := congrArg (· ^^^ poly) h
      simpa [Nat.xor_assoc] using this
    omega
  · have ho' : ¬ y % 2 = 1 := by simpa [ho] using ht
    rw [if_neg ho, if_neg ho'] at h
    omega

theorem h8_inj {x y : Nat} (hx : x < 4294967296) (hy : y < 4294967296) (h : h8 x = h8 y) : x = y := by
  unfold h8 h4 at h
  have h1 := hf_inj (by repeat (first | exact hx | apply hf_lt)) (by repeat (first | exact hy | apply hf_lt)) h
  have h2 := hf_inj (by repeat (first | exact hx | apply hf_lt)) (by repeat (first | exact hy | apply hf_lt)) h1
  have h3 := hf_inj (by repeat (first | exact hx | apply hf_lt)) (by repeat (first | exact hy | apply hf_lt)) h2
  have h4' := hf_inj (by repeat (first | exact hx | apply hf_lt)) (by repeat (first | exact hy | apply hf_lt)) h3
  have h5 := hf_inj (by repeat (first | exact hx | apply hf_lt)) (by repeat (first | exact hy | apply hf_lt)) h4'
  have h6 := hf_inj (by repeat (first | exact hx | apply hf_lt)) (by repeat (first | exact hy | apply hf_lt)) h5
  have h7 := hf_inj (by repeat (first | exact hx | apply hf_lt)) (by repeat (first | exact hy | apply hf_lt)) h6
  exact hf_inj hx hy h7

/-- the sum behind one byte more -/
def st (x : Nat) (b : UInt8) : Nat := h8 (x ^^^ b.toNat)
/-- the sum behind the bytes l -/
def sm (x : Nat) (l : List UInt8) : Nat := l.foldl st x

theorem xb_lt {x : Nat} (h : x < 4294967296) (b : UInt8) : x ^^^ b.toNat < 4294967296 :=
  Nat.xor_lt_two_pow (n := 32) (by omega) (by have := b.toNat_lt; omega)
theorem st_lt {x : Nat} (h : x < 4294967296) (b : UInt8) : st x b < 4294967296 := h8_lt (xb_lt h b)
theorem sm_lt {x : Nat} (h : x < 4294967296) (l : List UInt8) : sm x l < 4294967296 := by
  induction l generalizing x with
  | nil => exact h
  | cons b l ih => exact ih (st_lt h b)

theorem st_inj {x y : Nat} (hx : x < 4294967296) (hy : y < 4294967296) {b : UInt8} (h : st x b = st y b) : x = y := by
  have h1 := h8_inj (xb_lt hx b) (xb_lt hy b) h
  have := congrArg (· ^^^ b.toNat) h1
  simpa [Nat.xor_assoc] using this

theorem st_byte {x : Nat} (hx : x < 4294967296) {b c : UInt8} (h : st x b = st x c) : b = c := by
  have h1 := h8_inj (xb_lt hx b) (xb_lt hx c) h
  have := congrArg (x ^^^ ·) h1
  simp only [← Nat.xor_assoc, Nat.xor_self, Nat.zero_xor] at this
  exact UInt8.toNat_inj.1 this

theorem sm_inj {x y : Nat} (hx : x < 4294967296) (hy : y < 4294967296) (l : List UInt8) (h : sm x l = sm y l) : x = y := by
  induction l generalizing x y with
  | nil => exact h
  | cons b l ih => exact st_inj hx hy (ih (st_lt hx b) (st_lt hy b) h)

theorem sm_append (x : Nat) (l m : List UInt8) : sm x (l ++ m) = sm (sm x l) m := List.foldl_append

/-- a text with one byte turned has another sum -/
theorem sm_turned {x : Nat} (hx : x < 4294967296) (l m : List UInt8) {b c : UInt8} (hb : b ≠ c) : sm x (l ++ b :: m) ≠ sm x (l ++ c :: m) := by
  intro h
  rw [sm_append, sm_append] at h
  have h1 := sm_inj (st_lt (sm_lt hx l) b) (st_lt (sm_lt hx l) c) m h
  exact hb (st_byte (sm_lt hx l) h1)

theorem sm_snoc (x : Nat) (l : List UInt8) (b : UInt8) : sm x (l ++ [b]) = st (sm x l) b := by rw [sm_append]; rfl

/-- the four bytes of a sum, the highest first -/
def four (x : Nat) : List UInt8 := [UInt8.ofNat (x / 16777216), UInt8.ofNat (x / 65536), UInt8.ofNat (x / 256), UInt8.ofNat x]
theorem four_length (x : Nat) : (four x).length = 4 := rfl
theorem four_inj {x y : Nat} (hx : x < 4294967296) (hy : y < 4294967296) (h : four x = four y) : x = y := by
  simp only [four, List.cons.injEq, and_true] at h
  obtain ⟨h1, h2, h3, h4⟩ := h
  have e1 := congrArg UInt8.toNat h1
  have e2 := congrArg UInt8.toNat h2
  have e3 := congrArg UInt8.toNat h3
  have e4 := congrArg UInt8.toNat h4
  simp only [UInt8.toNat_ofNat'] at e1 e2 e3 e4
  omega
end Go.Proofs.YtegknhnmfaafmaaDoor.Crc
