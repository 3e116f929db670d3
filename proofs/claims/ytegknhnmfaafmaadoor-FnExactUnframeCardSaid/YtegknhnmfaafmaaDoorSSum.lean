/- What the specification's SumMore, SumOf and the four bytes of a sum answer. -/
import Derived.Test.YtegknhnmfaafmaaDoorISum
namespace Go.Proofs.YtegknhnmfaafmaaDoor
open Go.RowKit Crc

def it : Nat → Nat → Nat
  | 0, x => x
  | n + 1, x => hf (it n x)

theorem it_lt {x : Nat} (h : x < 4294967296) : ∀ n, it n x < 4294967296
  | 0 => h
  | n + 1 => hf_lt (it_lt h n)

set_option maxHeartbeats 1000000 in
theorem sSumMore_any (x : Nat) (hx : x < 4294967296) (s : ByteArray) (hs : s.size ≤ maxLen) (w : World) :
    Calls Tryd.prog 39 #[.int .u32 (x : Int), .string s] w fun e w' => e = .returned (.int .u32 (sm x s.data.toList : Nat)) ∧ w = w' := by
  unfold maxLen at hs
  go_enter Tryd.func39, Tryd.ntmps39
  go_wp2
  go_loopw [0, 5] (fun u i wr => ∃ k : Nat, k ≤ s.size ∧ i = .int .i64 (k : Int) ∧ u = .int .u32 ((sm x (s.data.toList.take k) : Nat) : Int) ∧ wr = w)
    (fun _ i _ => s.size - (intOf i).toNat)
  case atStart => exact ⟨0, by omega, rfl, by simp [sm], rfl⟩
  case round =>
    obtain ⟨k, hk, rfl, rfl, rfl⟩ := hrel
    by_cases hlt : k < s.size
    · have hc := UInt8.toNat_lt (s[k])
      have b1 : (0 : Int) ≤ (k : Int) := by omega
      have b2 : (k : Int) < (s.size : Int) := by omega
      have hm := sm_lt hx (s.data.toList.take k)
      have hX := u32_xor_nat (sm x (s.data.toList.take k)) (s[k]).toNat hm (by omega)
      have hL := xb_lt hm (s[k])
      have hE : sm x (s.data.toList.take (k + 1)) = it 8 (sm x (s.data.toList.take k) ^^^ (s[k]).toNat) := by
        rw [bytes_snoc s k hlt, sm_snoc]; rfl
      generalize sm x (s.data.toList.take k) = y at *
      go_wp2
      generalize y ^^^ (s[k]).toNat = z at *
      go_loopw [0, 6] (fun u j wr' => ∃ m : Nat, m ≤ 8 ∧ j = .int .i64 (m : Int) ∧ u = .int .u32 ((it m z : Nat) : Int) ∧ wr' = wr)
        (fun _ j _ => 8 - (intOf j).toNat)
      case atStart => exact ⟨0, by omega, rfl, rfl, rfl⟩
      case round =>
        obtain ⟨m, hm8, rfl, rfl, rfl⟩ := hrel
        by_cases hlt8 : m < 8
        · have hi := it_lt hL m
          have hE2 : it (m + 1) z = hf (it m z) := rfl
          generalize it m z = v at *
          by_cases ho : v % 2 = 1
          · have d1 : decide ((v : Int) % 2 = 1) = true := by simp; omega
            have hX2 : bits BinOp.xor IntKind.u32 ((v : Int) / 2) 3558460437 = ((v / 2 ^^^ 3558460437 : Nat) : Int) := u32_xor_nat (v / 2) 3558460437 (by omega) (by omega)
            have hV : hf v = v / 2 ^^^ 3558460437 := by unfold hf poly; rw [if_pos ho]
            go_wp2
            go_roundw
            case rel => exact ⟨m + 1, by omega, by go_num, by rw [hE2, hV], trivial⟩
            case measure => simp [intOf]; omega
          · have d1 : decide ((v : Int) % 2 = 1) = false := by simp; omega
            have hV : hf v = v / 2 := by unfold hf; rw [if_neg ho]
            go_wp2
            go_roundw
            case rel => exact ⟨m + 1, by omega, by go_num, by rw [hE2, hV]; rfl, trivial⟩
            case measure => simp [intOf]; omega
        · obtain rfl : m = 8 := by omega
          rw [← hE]
          go_wp2
          go_roundw
          case rel => exact ⟨k + 1, by omega, by go_num, rfl, trivial⟩
          case measure => simp [intOf]; omega
    · have e : s.data.toList.take k = s.data.toList := List.take_of_length_le (by simp; omega)
      rw [e]
      go_wp2
      go_ret
      exact ⟨rfl, rfl⟩

theorem sSumOf_any (s : ByteArray) (hs : s.size ≤ maxLen) (w : World) :
    Calls Tryd.prog 32 #[.string s] w fun e w' => e = .returned (.int .u32 (sm 4294967295 s.data.toList : Nat)) ∧ w = w' := by
  go_enter Tryd.func32, Tryd.ntmps32
  go_wp2_with (go_at_call 39; refine (sSumMore_any 4294967295 (by omega) s hs _).mono ?_; rintro e w1 ⟨rfl, hw1⟩; subst hw1)
  go_ret
  exact ⟨rfl, rfl⟩

theorem l02Four_any (x : Nat) (hx : x < 4294967296) (w : World) :
    Calls Tryd.prog 31 #[.int .u32 (x : Int)] w fun e w' => e = .returned (.string ⟨(four x).toArray⟩) ∧ Below w.heap.size w w' := by
  have hc := four_conv x hx w
  go_enter Tryd.func31, Tryd.ntmps31
  go_wp2
  go_ret
  exact ⟨rfl, (Below.refl _ _).alloc (Nat.le_refl _) _⟩

end Go.Proofs.YtegknhnmfaafmaaDoor
