/- The check sum of chapter 2, reckoned in whole numbers: eight halvings a byte, two steps by a table of 16, and that no two bytes and no two sums come to one. What the program's SumMore, SumOf and the four bytes of a sum answer, by her table. What the program's Sealed answers. Frames in plain mathematics: the frame of a text, the record that stands at a place, all records of a file. What the program's VarText answers at every number in its range. What the program's Unsealed answers. -/
import Derived.Laws.BitsAllLaws
import Derived.Test.YtcieanhbipbhgaaGreatDoorKMem
import Derived.WalkSpells
import Derived.Lib.LaidTab
import Derived.Lib.AppendIntMem
import Derived.Test.YtcieanhbipbhgaaGreatDoorKRs14
import Derived.Laws.Concat
import Derived.OpenShut
import Derived.Test.YtcieanhbipbhgaaGreatDoorKOr10
import Derived.Lib.Strings
import Derived.Deep.RegionHeld3
import Derived.BigQuiet
import Derived.WalkSmall
namespace Go.Proofs.YtcieanhbipbhgaaGreatDoor.Crc

/-- the number that is exclusive-or'd when the sum was odd -/
def poly : Nat := 3558460437

def hf (x : Nat) : Nat := if x % 2 = 1 then (x / 2) ^^^ poly else x / 2

def h4 (x : Nat) : Nat := hf (hf (hf (hf x)))
def h8 (x : Nat) : Nat := h4 (h4 x)

def tab : List Nat := [0, 1166650509, 2333301018, 3466261911, 3189058079, 4221339282, 889615109, 1888477064, 3558460437, 2442158232, 1594529039, 444807554, 1779230218, 797264519, 3776954128, 2761298845]

theorem hf_xor (a b : Nat) : hf (a ^^^ b) = hf a ^^^ hf b := by
  have hd : (a ^^^ b) / 2 = a / 2 ^^^ b / 2 := by
    have := Nat.shiftRight_xor_distrib (a := a) (b := b) (i := 1)
    simpa [Nat.shiftRight_eq_div_pow] using this
  have hm : (a ^^^ b) % 2 = (a % 2 + b % 2) % 2 := by
    have h2 := Nat.testBit_xor (x := a) (y := b) (i := 0)
    rw [Nat.testBit_zero, Nat.testBit_zero, Nat.testBit_zero] at h2
    rcases Nat.mod_two_eq_zero_or_one a with ha | ha <;> rcases Nat.mod_two_eq_zero_or_one b with hb | hb <;> rcases Nat.mod_two_eq_zero_or_one (a ^^^ b) with hc | hc <;> rw [ha, hb, hc] at h2 <;> rw [ha, hb, hc] <;> first | rfl | exact absurd h2 (by decide)
  unfold hf
  rw [hd, hm]
  rcases Nat.mod_two_eq_zero_or_one a with ha | ha <;> rcases Nat.mod_two_eq_zero_or_one b with hb | hb <;> simp [ha, hb]
  · exact Nat.xor_assoc _ _ _
  · rw [Nat.xor_assoc, Nat.xor_comm (b / 2) poly, Nat.xor_assoc]
  · rw [Nat.xor_assoc, ← Nat.xor_assoc poly, Nat.xor_comm poly, Nat.xor_assoc, Nat.xor_self, Nat.xor_zero]

theorem h4_xor (a b : Nat) : h4 (a ^^^ b) = h4 a ^^^ h4 b := by simp [h4, hf_xor]

theorem hf_even (y : Nat) : hf (2 * y) = y := by
  unfold hf
  rw [if_neg (by omega)]
  omega

theorem h4_even (y : Nat) : h4 (16 * y) = y := by
  unfold h4
  rw [show 16 * y = 2 * (2 * (2 * (2 * y))) by omega, hf_even, hf_even, hf_even, hf_even]

theorem h4_small : ∀ r, r < 16 → h4 r = tab.getD r 0 := by decide

theorem parts16 (x : Nat) : 16 * (x / 16) ^^^ x % 16 = x := by
  apply Nat.eq_of_testBit_eq
  intro i
  rw [Nat.testBit_xor, show x % 16 = x % 2 ^ 4 from rfl, Nat.testBit_mod_two_pow, show 16 * (x / 16) = 2 ^ 4 * (x / 2 ^ 4) from rfl, Nat.testBit_two_pow_mul]
  by_cases hi : i < 4
  · have : ¬ 4 ≤ i := by omega
    simp [hi, this]
  · have h4 : 4 ≤ i := by omega
    have e : i - 4 + 4 = i := by omega
    rw [Nat.testBit_div_two_pow]
    simp [hi, h4, e]

/-- one step by the table is four halvings -/
theorem h4_tab (x : Nat) : (x / 16) ^^^ tab.getD (x % 16) 0 = h4 x := by
  have h := h4_xor (16 * (x / 16)) (x % 16)
  rw [parts16, h4_even, h4_small _ (Nat.mod_lt _ (by omega))] at h
  exact h.symm

theorem tab_lt : ∀ r, r < 16 → tab.getD r 0 < 4294967296 := by decide

theorem hf_lt {x : Nat} (h : x < 4294967296) : hf x < 4294967296 := by
  unfold hf
  split
  · exact Nat.xor_lt_two_pow (n := 32) (by omega) (by decide)
  · omega

theorem h4_lt {x : Nat} (h : x < 4294967296) : h4 x < 4294967296 := hf_lt (hf_lt (hf_lt (hf_lt h)))
theorem h8_lt {x : Nat} (h : x < 4294967296) : h8 x < 4294967296 := h4_lt (h4_lt h)

theorem hf_inj {x y : Nat} (hx : x < 4294967296) (hy : y < 4294967296) (h : hf x = hf y) : x = y := by
  have top : ∀ z, z < 4294967296 → (hf z).testBit 31 = decide (z % 2 = 1) := by
    intro z hz
    have hs : (z / 2).testBit 31 = false := Nat.testBit_lt_two_pow (by omega)
    unfold hf
    split
    · rename_i ho
      rw [Nat.testBit_xor, hs, show poly.testBit 31 = true by decide]
      simp [ho]
    · rename_i ho
      rw [hs]; simp [ho]
  have ht := top x hx
  rw [h, top y hy] at ht
  unfold hf at h
  by_cases ho : x % 2 = 1
  · have ho' : y % 2 = 1 := by simpa [ho] using ht
    rw [if_pos ho, if_pos ho'] at h
    have h2 : x / 2 = y / 2 := by
      have := congrArg (· ^^^ poly) h
      simpa [Nat.xor_assoc] using this
    omega
  · have ho' : ¬ y % 2 = 1 := by simpa [ho] using ht
    rw [if_neg ho, if_neg ho'] at h
    omega

theorem h8_inj {x y : Nat} (hx : x < 4294967296) (hy : y < 4294967296) (h : h8 x = h8 y) : x = y := by
  unfold h8 h4 at h
  have h1 := hf_inj (by repeat (first | exact hx | apply hf_lt)) (by repeat (first | exact hy | apply hf_lt)) h
  have h2 := hf_inj (by repeat (first | exact hx | apply hf_lt)) (by repeat (first | exact hy | apply hf_lt)) h1
  have h3 := hf_inj (by repeat (first | exact hx | apply hf_lt)) (by repeat (first | exact hy | apply hf_lt)) h2
  have h4' := hf_inj (by repeat (first | exact hx | apply hf_lt)) (by repeat (first | exact hy | apply hf_lt)) h3
  have h5 := hf_inj (by repeat (first | exact hx | apply hf_lt)) (by repeat (first | exact hy | apply hf_lt)) h4'
  have h6 := hf_inj (by repeat (first | exact hx | apply hf_lt)) (by repeat (first | exact hy | apply hf_lt)) h5
  have h7 := hf_inj (by repeat (first | exact hx | apply hf_lt)) (by repeat (first | exact hy | apply hf_lt)) h6
  exact hf_inj hx hy h7

/-- the sum behind one byte more -/
def st (x : Nat) (b : UInt8) : Nat := h8 (x ^^^ b.toNat)
/-- the sum behind the bytes l -/
def sm (x : Nat) (l : List UInt8) : Nat := l.foldl st x

theorem xb_lt {x : Nat} (h : x < 4294967296) (b : UInt8) : x ^^^ b.toNat < 4294967296 :=
  Nat.xor_lt_two_pow (n := 32) (by omega) (by have := b.toNat_lt; omega)
theorem st_lt {x : Nat} (h : x < 4294967296) (b : UInt8) : st x b < 4294967296 := h8_lt (xb_lt h b)
theorem sm_lt {x : Nat} (h : x < 4294967296) (l : List UInt8) : sm x l < 4294967296 := by
  induction l generalizing x with
  | nil => exact h
  | cons b l ih => exact ih (st_lt h b)

theorem st_inj {x y : Nat} (hx : x < 4294967296) (hy : y < 4294967296) {b : UInt8} (h : st x b = st y b) : x = y := by
  have h1 := h8_inj (xb_lt hx b) (xb_lt hy b) h
  have := congrArg (· ^^^ b.toNat) h1
  simpa [Nat.xor_assoc] using this

theorem st_byte {x : Nat} (hx : x < 4294967296) {b c : UInt8} (h : st x b = st x c) : b = c := by
  have h1 := h8_inj (xb_lt hx b) (xb_lt hx c) h
  have := congrArg (x ^^^ ·) h1
  simp only [← Nat.xor_assoc, Nat.xor_self, Nat.zero_xor] at this
  exact UInt8.toNat_inj.1 this

theorem sm_inj {x y : Nat} (hx : x < 4294967296) (hy : y < 4294967296) (l : List UInt8) (h : sm x l = sm y l) : x = y := by
  induction l generalizing x y with
  | nil => exact h
  | cons b l ih => exact st_inj hx hy (ih (st_lt hx b) (st_lt hy b) h)

theorem sm_append (x : Nat) (l m : List UInt8) : sm x (l ++ m) = sm (sm x l) m := List.foldl_append

/-- a text with one byte turned has another sum -/
theorem sm_turned {x : Nat} (hx : x < 4294967296) (l m : List UInt8) {b c : UInt8} (hb : b ≠ c) : sm x (l ++ b :: m) ≠ sm x (l ++ c :: m) := by
  intro h
  rw [sm_append, sm_append] at h
  have h1 := sm_inj (st_lt (sm_lt hx l) b) (st_lt (sm_lt hx l) c) m h
  exact hb (st_byte (sm_lt hx l) h1)

theorem sm_snoc (x : Nat) (l : List UInt8) (b : UInt8) : sm x (l ++ [b]) = st (sm x l) b := by rw [sm_append]; rfl

/-- the four bytes of a sum, the highest first -/
def four (x : Nat) : List UInt8 := [UInt8.ofNat (x / 16777216), UInt8.ofNat (x / 65536), UInt8.ofNat (x / 256), UInt8.ofNat x]
theorem four_length (x : Nat) : (four x).length = 4 := rfl
theorem four_inj {x y : Nat} (hx : x < 4294967296) (hy : y < 4294967296) (h : four x = four y) : x = y := by
  simp only [four, List.cons.injEq, and_true] at h
  obtain ⟨h1, h2, h3, h4⟩ := h
  have e1 := congrArg UInt8.toNat h1
  have e2 := congrArg UInt8.toNat h2
  have e3 := congrArg UInt8.toNat h3
  have e4 := congrArg UInt8.toNat h4
  simp only [UInt8.toNat_ofNat'] at e1 e2 e3 e4
  omega
end Go.Proofs.YtcieanhbipbhgaaGreatDoor.Crc
namespace Go.Proofs.YtcieanhbipbhgaaGreatDoor
open Go.RowKit Crc

theorem bytes_snoc (s : ByteArray) (k : Nat) (h : k < s.size) : s.data.toList.take (k + 1) = s.data.toList.take k ++ [s[k]] := by
  rw [List.take_succ_eq_append_getElem (by simpa using h)]; rfl

/-- the program's table, as her text lays it -/
def tabI : List Int := tab.map fun (n : Nat) => (n : Int)

/-- her cells -/
def tb (r : Nat) : Nat := tab.getD r 0

theorem gTab : Tryz.prog.globalNamed "loop.example/g00130/impl.fourHalvings" = some 0 := by kernel_rfl

/-- the table stands in the world -/
def Tab (w : World) : Prop := Lib.TabIs Tryz.prog w "loop.example/g00130/impl.fourHalvings" .u32 tabI

theorem Tab.below {B : Nat} {w w' : World} (h : Tab w) (hb : Below B w w') (hB : w.heap.size ≤ B) : Tab w' := Lib.tabBelow_of_tabIs h w' (hb.mono hB)

theorem Tab.at {w : World} (h : Tab w) (i : Nat) (hi : i < 16) : w.cell? ⟨0, i, none⟩ = some (.int .u32 ((tb i : Nat) : Int)) := by
  have h1 := Lib.TabIs.cell h gTab i (by simpa [tabI, tab] using hi)
  rw [h1]
  have : ∀ j, j < 16 → tabI.getD j 0 = ((tb j : Nat) : Int) := by decide
  rw [this i hi]

set_option maxHeartbeats 1000000 in
theorem more_any (x : Nat) (hx : x < 4294967296) (s : ByteArray) (hs : s.size ≤ maxLen) (w : World) (ht : Tab w) :
    Calls Tryz.prog 70 #[.int .u32 (x : Int), .string s] w fun e w' => e = .returned (.int .u32 (sm x s.data.toList : Nat)) ∧ w = w' := by
  unfold maxLen at hs
  go_enter Tryz.func70, Tryz.ntmps70
  go_wp2
  go_loopw [5, 10] (fun u i wr => ∃ k : Nat, k ≤ s.size ∧ i = .int .i64 (k : Int) ∧ u = .int .u32 ((sm x (s.data.toList.take k) : Nat) : Int) ∧ wr = w)
    (fun _ i _ => s.size - (intOf i).toNat)
  case atStart => exact ⟨0, by omega, rfl, by simp [sm], rfl⟩
  case round =>
    obtain ⟨k, hk, rfl, rfl, rfl⟩ := hrel
    by_cases hlt : k < s.size
    · have hc := UInt8.toNat_lt (s[k])
      have b1 : (0 : Int) ≤ (k : Int) := by omega
      have b2 : (k : Int) < (s.size : Int) := by omega
      have hm := sm_lt hx (s.data.toList.take k)
      have hX := u32_xor_nat (sm x (s.data.toList.take k)) (s[k]).toNat hm (by omega)
      have hL := xb_lt hm (s[k])
      have hE : sm x (s.data.toList.take (k + 1)) = h4 (h4 (sm x (s.data.toList.take k) ^^^ (s[k]).toNat)) := by
        rw [bytes_snoc s k hlt, sm_snoc]; rfl
      generalize sm x (s.data.toList.take k) = y at *
      generalize y ^^^ (s[k]).toNat = z at *
      have hz4 := h4_lt hL
      have hT1 := ht.at (z % 16) (by omega)
      have hX1 : bits .xor .u32 ((z : Int) / 16) ((tb (z % 16) : Nat) : Int) = ((h4 z : Nat) : Int) := (u32_xor_nat (z / 16) (tab.getD (z % 16) 0) (by omega) (tab_lt _ (by omega))).trans (by rw [h4_tab])
      have hT2 := ht.at (h4 z % 16) (by omega)
      have hX2 : bits .xor .u32 (((h4 z : Nat) : Int) / 16) ((tb (h4 z % 16) : Nat) : Int) = ((sm x (s.data.toList.take (k + 1)) : Nat) : Int) := (u32_xor_nat (h4 z / 16) (tab.getD (h4 z % 16) 0) (by omega) (tab_lt _ (by omega))).trans (by rw [h4_tab, hE])
      go_wp2
      go_roundw
      case rel => exact ⟨k + 1, by omega, by go_num, by rw [hE], trivial⟩
      case measure => simp [intOf]; omega
    · have e : s.data.toList.take k = s.data.toList := List.take_of_length_le (by simp; omega)
      rw [e]
      go_wp2
      go_ret
      exact ⟨rfl, rfl⟩

theorem iSumMore_any (x : Nat) (hx : x < 4294967296) (s : ByteArray) (hs : s.size ≤ maxLen) (w : World) (ht : Tab w) :
    Calls Tryz.prog 58 #[.int .u32 (x : Int), .string s] w fun e w' => e = .returned (.int .u32 (sm x s.data.toList : Nat)) ∧ w = w' := by
  go_enter Tryz.func58, Tryz.ntmps58
  go_wp2_with (go_at_call 70; refine (more_any x hx s hs _ ht).mono ?_; rintro e w1 ⟨rfl, hw1⟩; subst hw1)
  go_ret
  exact ⟨rfl, rfl⟩

theorem iSumOf_any (s : ByteArray) (hs : s.size ≤ maxLen) (w : World) (ht : Tab w) :
    Calls Tryz.prog 45 #[.string s] w fun e w' => e = .returned (.int .u32 (sm 4294967295 s.data.toList : Nat)) ∧ w = w' := by
  go_enter Tryz.func45, Tryz.ntmps45
  go_wp2_with (go_at_call 58; refine (iSumMore_any 4294967295 (by omega) s hs _ ht).mono ?_; rintro e w1 ⟨rfl, hw1⟩; subst hw1)
  go_ret
  exact ⟨rfl, rfl⟩

theorem conv4 (u : World) (a b c d : UInt8) :
    (convert 86 9 (.slice (some ⟨u.heap.size, 0, none⟩) 4 4)).run Tryz.prog (u.alloc (.cells #[.int .u8 (a.toNat : Int), .int .u8 (b.toNat : Int), .int .u8 (c.toNat : Int), .int .u8 (d.toNat : Int)] 5)) =
      .ok (.string ⟨[a, b, c, d].toArray⟩) (u.alloc (.cells #[.int .u8 (a.toNat : Int), .int .u8 (b.toNat : Int), .int .u8 (c.toNat : Int), .int .u8 (d.toNat : Int)] 5)) :=
  run_convert_bytes_back (P := Tryz.prog) _ 86 9 5 ⟨u.heap.size, 0, none⟩ 4 [a, b, c, d] Tryz.underlying86 Tryz.underlying5 Tryz.underlying9 (fun j hj => by
    match j, hj with
    | 0, _ => simp [Addr.add]
    | 1, _ => simp [Addr.add]
    | 2, _ => simp [Addr.add]
    | 3, _ => simp [Addr.add])

theorem by8 (n : Nat) : ((UInt8.ofNat n).toNat : Int) = (n : Int) % 256 := by simp

theorem four_conv (x : Nat) (hx : x < 4294967296) (u : World) :
    (convert 86 9 (.slice (some ⟨u.heap.size, 0, none⟩) 4 4)).run Tryz.prog (u.alloc (.cells #[.int .u8 ((x : Int) / 16777216), .int .u8 ((x : Int) / 65536 % 256), .int .u8 ((x : Int) / 256 % 256), .int .u8 ((x : Int) % 256)] 5)) =
      .ok (.string ⟨(four x).toArray⟩) (u.alloc (.cells #[.int .u8 ((x : Int) / 16777216), .int .u8 ((x : Int) / 65536 % 256), .int .u8 ((x : Int) / 256 % 256), .int .u8 ((x : Int) % 256)] 5)) := by
  have h := conv4 u (UInt8.ofNat (x / 16777216)) (UInt8.ofNat (x / 65536)) (UInt8.ofNat (x / 256)) (UInt8.ofNat x)
  simp only [by8] at h
  have e : ((x / 16777216 : Nat) : Int) % 256 = (x : Int) / 16777216 := by omega
  rw [e] at h
  exact h

theorem text_any (x : Nat) (hx : x < 4294967296) (w : World) :
    Calls Tryz.prog 46 #[.int .u32 (x : Int)] w fun e w' => e = .returned (.string ⟨(four x).toArray⟩) ∧ Below w.heap.size w w' := by
  have hc := four_conv x hx w
  go_enter Tryz.func46, Tryz.ntmps46
  go_wp2
  go_ret
  exact ⟨rfl, (Below.refl _ _).alloc (Nat.le_refl _) _⟩

end Go.Proofs.YtcieanhbipbhgaaGreatDoor
namespace Go.Proofs.YtcieanhbipbhgaaGreatDoor
open Go.RowKit Crc

theorem clone_anyC (s : ByteArray) (h : s.size ≤ 1048576) (w : World) :
    Calls Tryz.prog 90 #[.string s] w fun e w' => e = .returned (.string s) ∧ Below w.heap.size w w' := by
  go_enter Tryz.func90, Tryz.ntmps90
  go_wp2_with (go_at_call 95; refine (Tryz.stringslite_Clone s _ (by omega)).mono ?_; rintro e w1 ⟨rfl, hb1⟩)
  go_ret
  exact ⟨rfl, hb1⟩

/-- the sum of a text -/
def smS (s : ByteArray) : Nat := sm 4294967295 s.data.toList

theorem smS_lt (s : ByteArray) : smS s < 4294967296 := sm_lt (by omega) _

/-- the four bytes of a sum, as a text -/
def fourS (x : Nat) : ByteArray := ⟨(four x).toArray⟩

theorem fourS_size (x : Nat) : (fourS x).size = 4 := rfl

theorem iSumOf_S (s : ByteArray) (hs : s.size ≤ maxLen) (w : World) (ht : Tab w) :
    Calls Tryz.prog 45 #[.string s] w fun e w' => e = .returned (.int .u32 (smS s : Nat)) ∧ w = w' := iSumOf_any s hs w ht

theorem text_S (x : Nat) (hx : x < 4294967296) (w : World) :
    Calls Tryz.prog 46 #[.int .u32 (x : Int)] w fun e w' => e = .returned (.string (fourS x)) ∧ Below w.heap.size w w' := text_any x hx w

end Go.Proofs.YtcieanhbipbhgaaGreatDoor
namespace Go.Proofs.YtcieanhbipbhgaaGreatDoor.F
open Go.RowKit Vt Crc

/-- the bytes of a number, as a text -/
def vtS (n : Nat) : ByteArray := ⟨(vt n).toArray⟩

/-- the frame of a text -/
def frm (s : ByteArray) : ByteArray := vtS s.size ++ fourS (smS s) ++ s

/-- the record of the frame that stands at place a, and the place behind it -/
def rf (s : ByteArray) (a : Nat) : Option (ByteArray × Nat) :=
  match rv a (from_ s a) with
  | none => none
  | some (n, j) =>
    if 1 ≤ n ∧ n ≤ 9000 ∧ j + 4 + n ≤ s.size ∧ fourS (smS (s.extract (j + 4) (j + 4 + n))) = s.extract j (j + 4) then
      some (s.extract (j + 4) (j + 4 + n), j + 4 + n) else none

theorem rf_none {s : ByteArray} {a : Nat} (h : rv a (from_ s a) = none) : rf s a = none := by unfold rf; rw [h]

theorem rf_no {s : ByteArray} {a n j : Nat} (h : rv a (from_ s a) = some (n, j)) (hc : ¬ (1 ≤ n ∧ n ≤ 9000 ∧ j + 4 + n ≤ s.size)) : rf s a = none := by
  unfold rf; rw [h]
  exact if_neg (fun hx => hc ⟨hx.1, hx.2.1, hx.2.2.1⟩)

theorem rf_neq {s : ByteArray} {a n j : Nat} (h : rv a (from_ s a) = some (n, j)) (hc : ¬ fourS (smS (s.extract (j + 4) (j + 4 + n))) = s.extract j (j + 4)) : rf s a = none := by
  unfold rf; rw [h]
  exact if_neg (fun hx => hc hx.2.2.2)

theorem rf_yes {s : ByteArray} {a n j : Nat} (h : rv a (from_ s a) = some (n, j)) (h1 : 1 ≤ n) (h2 : n ≤ 9000) (h3 : j + 4 + n ≤ s.size) (hc : fourS (smS (s.extract (j + 4) (j + 4 + n))) = s.extract j (j + 4)) :
    rf s a = some (s.extract (j + 4) (j + 4 + n), j + 4 + n) := by
  unfold rf; rw [h]
  exact if_pos ⟨h1, h2, h3, hc⟩

theorem rv_bounds {s : ByteArray} {a n j : Nat} (h : rv a (from_ s a) = some (n, j)) : n ≤ 1000000000 ∧ a < j ∧ (a ≤ s.size → j ≤ s.size) := by
  have := rv_some h
  rw [from_length] at this
  exact ⟨this.1, this.2.1, fun ha => by omega⟩

theorem rf_some {s : ByteArray} {a : Nat} {r : ByteArray} {b : Nat} (h : rf s a = some (r, b)) : a + 6 ≤ b ∧ b ≤ s.size ∧ r.size ≤ 9000 := by
  unfold rf at h
  split at h
  · cases h
  · rename_i n j hr
    have hb := rv_bounds hr
    split at h
    · rename_i hc
      simp only [Option.some.injEq, Prod.mk.injEq] at h
      obtain ⟨rfl, rfl⟩ := h
      rw [ByteArray.size_extract]
      omega
    · cases h

/-- what a reader of frames answers -/
def rfV : Option (ByteArray × Nat) → Value
  | none => .tuple #[.string ⟨#[]⟩, .int .i64 0, .bool false]
  | some (r, b) => .tuple #[.string r, .int .i64 (b : Int), .bool true]

/-- the records from place a on, behind those that have come -/
def unF : Nat → ByteArray → List ByteArray → Nat → List ByteArray × Nat
  | 0, _, pre, a => (pre, a)
  | f + 1, s, pre, a =>
    match rf s a with
    | none => (pre, a)
    | some (r, b) => unF f s (pre ++ [r]) b

/-- the records of a file, and the place behind the last -/
def un (s : ByteArray) : List ByteArray × Nat := if s.size ≤ 20000 then unF (s.size + 1) s [] 0 else ([], 0)

/-- behind the records pre the reader stands at place a -/
structure UnAt (s : ByteArray) (pre : List ByteArray) (a : Nat) : Prop where
  le : a ≤ s.size
  few : pre.length * 6 ≤ a
  small : ∀ r ∈ pre, r.size ≤ 9000
  rest : ∃ f, s.size < f + a ∧ unF f s pre a = un s

theorem UnAt.start (s : ByteArray) (hs : s.size ≤ 20000) : UnAt s [] 0 :=
  ⟨by omega, by simp, by simp, s.size + 1, by omega, by unfold un; rw [if_pos hs]⟩

theorem UnAt.step {s : ByteArray} {pre : List ByteArray} {a : Nat} (h : UnAt s pre a) {r : ByteArray} {b : Nat} (hr : rf s a = some (r, b)) : UnAt s (pre ++ [r]) b := by
  obtain ⟨hle, hf, hsm, f, hfa, he⟩ := h
  have hb := rf_some hr
  refine ⟨hb.2.1, by simp; omega, ?_, ?_⟩
  · intro x hx
    rcases List.mem_append.1 hx with h | h
    · exact hsm x h
    · simp at h; subst h; exact hb.2.2
  · cases f with
    | zero => omega
    | succ f =>
      refine ⟨f, by omega, ?_⟩
      rw [← he]
      conv => rhs; unfold unF
      rw [hr]

theorem UnAt.done {s : ByteArray} {pre : List ByteArray} {a : Nat} (h : UnAt s pre a) (hr : rf s a = none) : un s = (pre, a) := by
  obtain ⟨hle, _, _, f, hfa, he⟩ := h
  cases f with
  | zero => omega
  | succ f =>
    rw [← he]
    unfold unF
    rw [hr]

theorem un_long (s : ByteArray) (hs : 20000 < s.size) : un s = ([], 0) := by unfold un; rw [if_neg (by omega)]

theorem un_at (s : ByteArray) (hs : s.size ≤ 20000) : ∃ pre a, un s = (pre, a) ∧ UnAt s pre a ∧ rf s a = none := by
  suffices H : ∀ (k : Nat) (pre : List ByteArray) (a : Nat), s.size < k + a → UnAt s pre a → ∃ pre a, un s = (pre, a) ∧ UnAt s pre a ∧ rf s a = none from
    H (s.size + 1) [] 0 (by omega) (UnAt.start s hs)
  intro k
  induction k with
  | zero => intro pre a hk h; have := h.le; omega
  | succ k ih =>
    intro pre a hk h
    cases hr : rf s a with
    | none => exact ⟨pre, a, h.done hr, h, hr⟩
    | some x =>
      obtain ⟨r, b⟩ := x
      have := rf_some hr
      exact ih _ b (by omega) (h.step hr)

/-- the texts of a file are few and small -/
theorem un_few (s : ByteArray) : (un s).1.length ≤ 4000 ∧ (un s).2 ≤ 20000 := by
  by_cases hs : s.size ≤ 20000
  · obtain ⟨pre, a, he, h, _⟩ := un_at s hs
    rw [he]
    have h1 := h.few
    have h2 := h.le
    exact ⟨by show pre.length ≤ 4000; omega, by show a ≤ 20000; omega⟩
  · rw [un_long s (by omega)]
    exact ⟨by simp, by simp⟩

/-- what stands between a place and the place behind a number that was read there is the shortest form of it -/
theorem rv_text {s : ByteArray} {a n j : Nat} (h : rv a (from_ s a) = some (n, j)) : s.extract a j = vtS n := by
  have hL := rv_bounds h
  unfold rv at h
  split at h
  · cases h
  · rename_i c r hd
    split at h
    · rename_i hc
      simp only [Option.some.injEq, Prod.mk.injEq] at h
      obtain ⟨hn, hj⟩ := h
      have hbig : ∀ b ∈ (from_ s a).takeWhile big, big b = true := fun b hb => by
        have := List.all_takeWhile (l := from_ s a) (p := big)
        exact List.all_eq_true.1 this b hb
      have hcb : big c = false := by
        have := List.head?_dropWhile_not big (from_ s a)
        rw [hd] at this
        simpa using this
      have hv := (vt_val _ hbig c hcb).2 hc.2.1
      have e : (from_ s a).takeWhile big ++ (c :: r) = from_ s a := by rw [← hd]; exact List.takeWhile_append_dropWhile
      generalize (from_ s a).takeWhile big = p at *
      apply ByteArray.ext
      apply Array.toList_inj.1
      rw [Lib.extract_data]
      show (from_ s a).take (j - a) = (vt n).toArray.toList
      have el : j - a = (p ++ [c]).length := by simp; omega
      have ep : p ++ c :: r = (p ++ [c]) ++ r := by simp
      rw [← hn, hv, ← e, ep, el, List.take_left']
      rfl
    · cases h

theorem ext_append (s : ByteArray) {a b c : Nat} (h1 : a ≤ b) (h2 : b ≤ c) : s.extract a b ++ s.extract b c = s.extract a c := by
  apply ByteArray.ext
  apply Array.toList_inj.1
  rw [ByteArray.data_append, Array.toList_append, Lib.extract_data, Lib.extract_data, Lib.extract_data]
  have e : c - a = (b - a) + (c - b) := by omega
  rw [e, List.take_add, List.drop_drop]
  congr 3
  omega

/-- the specification's look at a frame is the program's -/
theorem frm_at {s : ByteArray} {a n j : Nat} (h : rv a (from_ s a) = some (n, j)) (h3 : j + 4 + n ≤ s.size) :
    frm (s.extract (j + 4) (j + 4 + n)) = s.extract a (j + 4 + n) ↔ fourS (smS (s.extract (j + 4) (j + 4 + n))) = s.extract j (j + 4) := by
  have hb := rv_bounds h
  have ht := rv_text h
  have hz : (s.extract (j + 4) (j + 4 + n)).size = n := by rw [ByteArray.size_extract]; omega
  unfold frm
  rw [hz, ← ht, ← ext_append s (a := a) (b := j + 4) (c := j + 4 + n) (by omega) (by omega), ← ext_append s (a := a) (b := j) (c := j + 4) (by omega) (by omega)]
  constructor
  · intro e
    have e1 := congrArg (fun x : ByteArray => x.data.toList) e
    simp only [ByteArray.data_append, Array.toList_append] at e1
    have e2 := List.append_cancel_right e1
    have e3 := List.append_cancel_left e2
    apply ByteArray.ext
    exact Array.toList_inj.1 e3
  · intro e
    rw [e]
end Go.Proofs.YtcieanhbipbhgaaGreatDoor.F
namespace Go.Proofs.YtcieanhbipbhgaaGreatDoor
open Go.RowKit Vt

end Go.Proofs.YtcieanhbipbhgaaGreatDoor
namespace Go.Proofs.YtcieanhbipbhgaaGreatDoor
open Go.RowKit Crc

theorem str_neqF {a b : ByteArray} (h : ¬ a = b) : (!a.toList == b.toList) = true := by
  have h1 : ¬ a.toList = b.toList := by
    rw [Lib.toList_data, Lib.toList_data]
    intro e
    apply h
    cases a; cases b
    simpa using e
  simp [h1]

theorem hidOf {p : Prop} (h : p) : Hid p := h

/-- nothing of what was there at w has turned -/
def St (w u : World) : Prop := Below w.heap.size w u

theorem St.here (w : World) : St w w := Below.refl _ _

theorem St.drew {w u : World} (h : St w u) : St w u.drew := Below.drew h

theorem iSumOf_St (s : ByteArray) (hs : s.size ≤ maxLen) {w u : World} (ht : Tab w) (h : St w u) :
    Calls Tryz.prog 45 #[.string s] u fun e w' => e = .returned (.int .u32 (smS s : Nat)) ∧ St w w' :=
  (iSumOf_S s hs u (ht.below h (Nat.le_refl _))).mono fun _ _ ⟨he, hw⟩ => ⟨he, hw ▸ h⟩

theorem text_St (x : Nat) (hx : x < 4294967296) {w u : World} (h : St w u) :
    Calls Tryz.prog 46 #[.int .u32 (x : Int)] u fun e w' => e = .returned (.string (fourS x)) ∧ St w w' :=
  (text_S x hx u).mono fun _ _ ⟨he, hb⟩ => ⟨he, Below.trans h (hb.mono (Below.size h))⟩

end Go.Proofs.YtcieanhbipbhgaaGreatDoor
