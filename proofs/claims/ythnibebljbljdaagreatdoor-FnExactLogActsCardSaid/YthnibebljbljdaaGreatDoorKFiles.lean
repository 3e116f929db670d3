/- What the program's Frame and her reader of one frame answer. What the specification's SumMore, SumOf and the four bytes of a sum answer. What the specification's Sealed answers. What the specification's Frame answers. LogActs, both sides: a record's frame is added to the log and kept. Files in a list, and what the laws' own functions over disks answer. -/
import Derived.Test.YthnibebljbljdaaGreatDoorKIUnseal
import Derived.Test.YthnibebljbljdaaGreatDoorKSOt10
import Derived.Test.YthnibebljbljdaaGreatDoorKBq14
import Derived.Test.YthnibebljbljdaaGreatDoorKRc14
import Derived.Test.YthnibebljbljdaaGreatDoorRows
import Derived.WalkKit
import Derived.WalkSpells
import Derived.WalkSmall
import Derived.OwnWalk
import Derived.BigQuiet
import Derived.Deep.QuietTactic
import Derived.Deep.MidRow
import Derived.Deep.RegionHeld3
namespace Go.Proofs.YthnibebljbljdaaGreatDoor.F
open Go.RowKit Vt Crc

theorem vtS_size (n : Nat) : (vtS n).size ≤ n + 1 := by
  have := vt_length n n (Nat.le_refl _)
  simpa [vtS, ByteArray.size] using this

theorem recordOk_yes (n : Int) (h1 : 1 ≤ n) (h2 : n ≤ 9000) (w : World) :
    Calls Tryz.prog 82 #[.int .i64 n] w fun e w' => e = .returned (.bool true) ∧ w = w' := by
  go_enter Tryz.func82, Tryz.ntmps82
  go_wp2
  go_ret
  exact ⟨rfl, rfl⟩

theorem recordOk_no (n : Int) (h : n < 1 ∨ 9000 < n) (w : World) :
    Calls Tryz.prog 82 #[.int .i64 n] w fun e w' => e = .returned (.bool false) ∧ w = w' := by
  rcases h with h | h
  · have d1 : decide (1 ≤ n) = false := by simp; omega
    go_enter Tryz.func82, Tryz.ntmps82
    go_wp2
    go_ret
    exact ⟨rfl, rfl⟩
  · have d1 : decide (1 ≤ n) = true := by simp; omega
    have d2 : decide (n ≤ 9000) = false := by simp; omega
    go_enter Tryz.func82, Tryz.ntmps82
    go_wp2
    go_ret
    exact ⟨rfl, rfl⟩

theorem iVarText_S (N : Nat) (hN : N ≤ 1000000000) (w : World) :
    Calls Tryz.prog 83 #[.int .i64 (N : Int)] w fun e w' => e = .returned (.tuple #[.string (vtS N), .bool true]) ∧ Below w.heap.size w w' := iVarText_yes N hN w

theorem iFrame_no (s : ByteArray) (hs : s.size < 1 ∨ 9000 < s.size) (hm : s.size ≤ maxLen) (w : World) :
    Calls Tryz.prog 41 #[.string s] w fun e w' => e = .returned (.tuple #[.string ⟨#[]⟩, .bool false]) ∧ Below w.heap.size w w' := by
  unfold maxLen at hm
  go_enter Tryz.func41, Tryz.ntmps41
  go_wp2_with (go_at_call 82; refine (recordOk_no _ (by omega) _).mono ?_; rintro e w1 ⟨rfl, hw1⟩; subst hw1)
  go_ret2
  exact ⟨rfl, Below.refl _ _⟩

theorem frm_def (s : ByteArray) : vtS s.size ++ fourS (smS s) ++ s = frm s := rfl

set_option maxHeartbeats 1000000 in
theorem iFrame_yes (s : ByteArray) (h1 : 1 ≤ s.size) (h2 : s.size ≤ 9000) (w : World) (ht : Tab w) :
    Calls Tryz.prog 41 #[.string s] w fun e w' => e = .returned (.tuple #[.string (frm s), .bool true]) ∧ Below w.heap.size w w' := by
  have hl := smS_lt s
  have hz := fourS_size (smS s)
  have hv := vtS_size s.size
  have hm : s.size ≤ maxLen := by unfold maxLen; omega
  have HT := hidOf ht
  have E := hidOf (frm_def s)
  have ha1 := fun wx => run_string_add_sum (P := Tryz.prog) wx (vtS s.size) (fourS (smS s)) (by omega)
  have hz2 : (vtS s.size ++ fourS (smS s)).size = (vtS s.size).size + 4 := by rw [ByteArray.size_append, hz]
  have ha2 := fun wx => run_string_add_sum (P := Tryz.prog) wx (vtS s.size ++ fourS (smS s)) s (by omega)
  clear ht
  go_enter Tryz.func41, Tryz.ntmps41
  go_wp2_with (first
    | (go_at_call 82; refine (recordOk_yes _ (by omega) (by omega) _).mono ?_; rintro e w1 ⟨rfl, hw1⟩; subst hw1)
    | (go_at_call 83; refine (iVarText_S s.size (by omega) _).mono ?_; rintro e w1 ⟨rfl, hb1⟩)
    | (go_at_call 84; refine (iSumOf_S s hm _ (Tab.below HT.out hb1 (Nat.le_refl _))).mono ?_; rintro e w2 ⟨rfl, hw2⟩; subst hw2)
    | (go_at_call 85; refine (text_S (smS s) hl _).mono ?_; rintro e w2 ⟨rfl, hb2⟩))
  go_ret2
  exact ⟨by rw [← E.out]; rfl, hb1.trans (hb2.mono hb1.size)⟩

theorem iReadVar_at (s : ByteArray) (hs : s.size ≤ 20000) (a : Nat) (h : a ≤ s.size) (w : World) :
    Calls Tryz.prog 91 #[.string s, .int .i64 (a : Int)] w fun e w' => e = .returned (rvV (rv a (from_ s a))) ∧ w = w' :=
  (iReadVar_in s (by omega) a h w).mono fun _ _ h => ⟨h.1, h.2.symm⟩

theorem readFrame_none (s : ByteArray) (hs : s.size ≤ 20000) (a : Nat) (h : a ≤ s.size) (hr : rv a (from_ s a) = none) (w : World) :
    Calls Tryz.prog 62 #[.string s, .int .i64 (a : Int)] w fun e w' => e = .returned (rfV none) ∧ Below w.heap.size w w' := by
  have H : Hid (∀ w : World, Calls Tryz.prog 91 #[.string s, .int .i64 (a : Int)] w fun e w' => e = .returned (.tuple #[.int .i64 0, .int .i64 0, .bool false]) ∧ w = w') := fun w => by
    have := iReadVar_at s hs a h w
    rw [hr] at this
    exact this
  clear hr
  unfold rfV
  go_enter Tryz.func62, Tryz.ntmps62
  go_wp2_with (go_at_call 91; refine (H.out _).mono ?_; rintro e w1 ⟨rfl, hw1⟩; subst hw1)
  go_ret3
  exact ⟨rfl, Below.refl _ _⟩

theorem read_hid {s : ByteArray} (hs : s.size ≤ 20000) {a : Nat} (h : a ≤ s.size) {n j : Nat} (hr : rv a (from_ s a) = some (n, j)) :
    Hid (∀ w : World, Calls Tryz.prog 91 #[.string s, .int .i64 (a : Int)] w fun e w' => e = .returned (.tuple #[.int .i64 (n : Int), .int .i64 (j : Int), .bool true]) ∧ w = w') := fun w => by
  have := iReadVar_at s hs a h w
  rw [hr] at this
  exact this

theorem readFrame_no (s : ByteArray) (hs : s.size ≤ 20000) (a : Nat) (h : a ≤ s.size) (n j : Nat) (hr : rv a (from_ s a) = some (n, j)) (hc : ¬ (1 ≤ n ∧ n ≤ 9000 ∧ j + 4 + n ≤ s.size)) (w : World) :
    Calls Tryz.prog 62 #[.string s, .int .i64 (a : Int)] w fun e w' => e = .returned (rfV none) ∧ Below w.heap.size w w' := by
  have H := read_hid hs h hr
  have hb := rv_bounds hr
  have hj : j ≤ s.size := hb.2.2 h
  have hn := hb.1
  clear hr hb
  unfold rfV
  by_cases hok : 1 ≤ n ∧ n ≤ 9000
  · have d1 : decide ((s.size : Int) - (j : Int) - 4 < (n : Int)) = true := by simp; omega
    obtain ⟨k1, k2⟩ := hok
    clear hc
    go_enter Tryz.func62, Tryz.ntmps62
    go_wp2_with (first
      | (go_at_call 91; refine (H.out _).mono ?_; rintro e w1 ⟨rfl, hw1⟩; subst hw1)
      | (go_at_call 82; refine (recordOk_yes _ (by omega) (by omega) _).mono ?_; rintro e w1 ⟨rfl, hw1⟩; subst hw1))
    go_ret3
    exact ⟨rfl, Below.refl _ _⟩
  · clear hc
    go_enter Tryz.func62, Tryz.ntmps62
    go_wp2_with (first
      | (go_at_call 91; refine (H.out _).mono ?_; rintro e w1 ⟨rfl, hw1⟩; subst hw1)
      | (go_at_call 82; refine (recordOk_no _ (by omega) _).mono ?_; rintro e w1 ⟨rfl, hw1⟩; subst hw1))
    go_ret3
    exact ⟨rfl, Below.refl _ _⟩

set_option maxHeartbeats 1000000 in
theorem readFrame_in (s : ByteArray) (hs : s.size ≤ 20000) (a : Nat) (h : a ≤ s.size) (n j : Nat) (hr : rv a (from_ s a) = some (n, j)) (k1 : 1 ≤ n) (k2 : n ≤ 9000) (k3 : j + 4 + n ≤ s.size) (w : World) (ht : Tab w) :
    Calls Tryz.prog 62 #[.string s, .int .i64 (a : Int)] w fun e w' => e = .returned (rfV (rf s a)) ∧ Below w.heap.size w w' := by
  have H := read_hid hs h hr
  have d1 : decide ((s.size : Int) - (j : Int) - 4 < (n : Int)) = false := by simp; omega
  obtain ⟨R, hR⟩ : ∃ R, R = s.extract (j + 4) (j + 4 + n) := ⟨_, rfl⟩
  have n1 : ((j : Int) + 4).toNat = j + 4 := by omega
  have n2 : ((j : Int) + 4 + (n : Int)).toNat = j + 4 + n := by omega
  have n3 : (j : Int).toNat = j := by omega
  have b1 : (0 : Int) ≤ (j : Int) + 4 := by omega
  have b2 : (j : Int) + 4 ≤ (j : Int) + 4 + (n : Int) := by omega
  have b3 : (j : Int) + 4 + (n : Int) ≤ (s.size : Int) := by omega
  have b4 : (0 : Int) ≤ (j : Int) := by omega
  have b5 : (j : Int) ≤ (j : Int) + 4 := by omega
  have b6 : (j : Int) + 4 ≤ (s.size : Int) := by omega
  have hz : (s.extract (j + 4) (j + 4 + n)).size ≤ maxLen := by rw [ByteArray.size_extract]; unfold maxLen; omega
  have HT := hidOf ht
  have hS0 : St w w.drew := (St.here w).drew
  by_cases he : fourS (smS (s.extract (j + 4) (j + 4 + n))) = s.extract j (j + 4)
  · have E := hidOf (rf_yes hr k1 k2 k3 he)
    clear ht hr
    go_enter Tryz.func62, Tryz.ntmps62
    go_wp2_with (first
      | (go_at_call 91; refine (H.out _).mono ?_; rintro e w1 ⟨rfl, hw1⟩; subst hw1)
      | (go_at_call 82; refine (recordOk_yes _ (by omega) (by omega) _).mono ?_; rintro e w1 ⟨rfl, hw1⟩; subst hw1))
    go_region_held3 (fun u => St w u) (first | assumption | exact hS0) (first
      | (go_at_call 84; refine (iSumOf_St _ hz HT.out (by assumption)).mono ?_; rintro e w1 ⟨rfl, hS3⟩)
      | (go_at_call 85; refine (text_St _ (smS_lt _) (by assumption)).mono ?_; rintro e w1 ⟨rfl, hS3⟩))
    all_goals
      go_wp2
      go_ret3
      exact ⟨by rw [E.out]; simp [rfV], hS3⟩
  · have E := hidOf (rf_neq hr he)
    have d3 := str_neq he
    clear ht hr
    go_enter Tryz.func62, Tryz.ntmps62
    go_wp2_with (first
      | (go_at_call 91; refine (H.out _).mono ?_; rintro e w1 ⟨rfl, hw1⟩; subst hw1)
      | (go_at_call 82; refine (recordOk_yes _ (by omega) (by omega) _).mono ?_; rintro e w1 ⟨rfl, hw1⟩; subst hw1))
    go_region_held3 (fun u => St w u) (first | assumption | exact hS0) (first
      | (go_at_call 84; refine (iSumOf_St _ hz HT.out (by assumption)).mono ?_; rintro e w1 ⟨rfl, hS3⟩)
      | (go_at_call 85; refine (text_St _ (smS_lt _) (by assumption)).mono ?_; rintro e w1 ⟨rfl, hS3⟩))
    all_goals
      go_wp2
      go_ret3
      exact ⟨by rw [E.out]; rfl, hS3⟩

theorem readFrame_any (s : ByteArray) (hs : s.size ≤ 20000) (a : Nat) (h : a ≤ s.size) (w : World) (ht : Tab w) :
    Calls Tryz.prog 62 #[.string s, .int .i64 (a : Int)] w fun e w' => e = .returned (rfV (rf s a)) ∧ Below w.heap.size w w' := by
  cases hr : rv a (from_ s a) with
  | none => rw [rf_none hr]; exact readFrame_none s hs a h hr w
  | some x =>
    obtain ⟨n, j⟩ := x
    by_cases hc : 1 ≤ n ∧ n ≤ 9000 ∧ j + 4 + n ≤ s.size
    · exact readFrame_in s hs a h n j hr hc.1 hc.2.1 hc.2.2 w ht
    · rw [rf_no hr hc]; exact readFrame_no s hs a h n j hr hc w
end Go.Proofs.YthnibebljbljdaaGreatDoor.F
namespace Go.Proofs.YthnibebljbljdaaGreatDoor
open Go.RowKit Crc

def it : Nat → Nat → Nat
  | 0, x => x
  | n + 1, x => hf (it n x)

theorem it_lt {x : Nat} (h : x < 4294967296) : ∀ n, it n x < 4294967296
  | 0 => h
  | n + 1 => hf_lt (it_lt h n)

set_option maxHeartbeats 1000000 in
theorem sSumMore_any (x : Nat) (hx : x < 4294967296) (s : ByteArray) (hs : s.size ≤ maxLen) (w : World) :
    Calls Tryz.prog 90 #[.int .u32 (x : Int), .string s] w fun e w' => e = .returned (.int .u32 (sm x s.data.toList : Nat)) ∧ w = w' := by
  unfold maxLen at hs
  go_enter Tryz.func90, Tryz.ntmps90
  go_wp2
  go_loopw [0, 5] (fun u i wr => ∃ k : Nat, k ≤ s.size ∧ i = .int .i64 (k : Int) ∧ u = .int .u32 ((sm x (s.data.toList.take k) : Nat) : Int) ∧ wr = w)
    (fun _ i _ => s.size - (intOf i).toNat)
  case atStart => exact ⟨0, by omega, rfl, by simp [sm], rfl⟩
  case round =>
    obtain ⟨k, hk, rfl, rfl, rfl⟩ := hrel
    by_cases hlt : k < s.size
    · have hc := UInt8.toNat_lt (s[k])
      have b1 : (0 : Int) ≤ (k : Int) := by omega
      have b2 : (k : Int) < (s.size : Int) := by omega
      have hm := sm_lt hx (s.data.toList.take k)
      have hX := u32_xor_nat (sm x (s.data.toList.take k)) (s[k]).toNat hm (by omega)
      have hL := xb_lt hm (s[k])
      have hE : sm x (s.data.toList.take (k + 1)) = it 8 (sm x (s.data.toList.take k) ^^^ (s[k]).toNat) := by
        rw [bytes_snoc s k hlt, sm_snoc]; rfl
      generalize sm x (s.data.toList.take k) = y at *
      go_wp2
      generalize y ^^^ (s[k]).toNat = z at *
      go_loopw [0, 6] (fun u j wr' => ∃ m : Nat, m ≤ 8 ∧ j = .int .i64 (m : Int) ∧ u = .int .u32 ((it m z : Nat) : Int) ∧ wr' = wr)
        (fun _ j _ => 8 - (intOf j).toNat)
      case atStart => exact ⟨0, by omega, rfl, rfl, rfl⟩
      case round =>
        obtain ⟨m, hm8, rfl, rfl, rfl⟩ := hrel
        by_cases hlt8 : m < 8
        · have hi := it_lt hL m
          have hE2 : it (m + 1) z = hf (it m z) := rfl
          generalize it m z = v at *
          by_cases ho : v % 2 = 1
          · have d1 : decide ((v : Int) % 2 = 1) = true := by simp; omega
            have hX2 : bits BinOp.xor IntKind.u32 ((v : Int) / 2) 3558460437 = ((v / 2 ^^^ 3558460437 : Nat) : Int) := u32_xor_nat (v / 2) 3558460437 (by omega) (by omega)
            have hV : hf v = v / 2 ^^^ 3558460437 := by unfold hf poly; rw [if_pos ho]
            go_wp2
            go_roundw
            case rel => exact ⟨m + 1, by omega, by go_num, by rw [hE2, hV], trivial⟩
            case measure => simp [intOf]; omega
          · have d1 : decide ((v : Int) % 2 = 1) = false := by simp; omega
            have hV : hf v = v / 2 := by unfold hf; rw [if_neg ho]
            go_wp2
            go_roundw
            case rel => exact ⟨m + 1, by omega, by go_num, by rw [hE2, hV]; rfl, trivial⟩
            case measure => simp [intOf]; omega
        · obtain rfl : m = 8 := by omega
          rw [← hE]
          go_wp2
          go_roundw
          case rel => exact ⟨k + 1, by omega, by go_num, rfl, trivial⟩
          case measure => simp [intOf]; omega
    · have e : s.data.toList.take k = s.data.toList := List.take_of_length_le (by simp; omega)
      rw [e]
      go_wp2
      go_ret
      exact ⟨rfl, rfl⟩

theorem sSumOf_any (s : ByteArray) (hs : s.size ≤ maxLen) (w : World) :
    Calls Tryz.prog 60 #[.string s] w fun e w' => e = .returned (.int .u32 (sm 4294967295 s.data.toList : Nat)) ∧ w = w' := by
  go_enter Tryz.func60, Tryz.ntmps60
  go_wp2_with (go_at_call 90; refine (sSumMore_any 4294967295 (by omega) s hs _).mono ?_; rintro e w1 ⟨rfl, hw1⟩; subst hw1)
  go_ret
  exact ⟨rfl, rfl⟩

theorem l02Four_any (x : Nat) (hx : x < 4294967296) (w : World) :
    Calls Tryz.prog 59 #[.int .u32 (x : Int)] w fun e w' => e = .returned (.string ⟨(four x).toArray⟩) ∧ Below w.heap.size w w' := by
  have hc := four_conv x hx w
  go_enter Tryz.func59, Tryz.ntmps59
  go_wp2
  go_ret
  exact ⟨rfl, (Below.refl _ _).alloc (Nat.le_refl _) _⟩

end Go.Proofs.YthnibebljbljdaaGreatDoor
namespace Go.Proofs.YthnibebljbljdaaGreatDoor
open Go.RowKit Crc

theorem sSumOf_S (s : ByteArray) (hs : s.size ≤ maxLen) (w : World) :
    Calls Tryz.prog 60 #[.string s] w fun e w' => e = .returned (.int .u32 (smS s : Nat)) ∧ w = w' := sSumOf_any s hs w

theorem l02Four_S (x : Nat) (hx : x < 4294967296) (w : World) :
    Calls Tryz.prog 59 #[.int .u32 (x : Int)] w fun e w' => e = .returned (.string (fourS x)) ∧ Below w.heap.size w w' := l02Four_any x hx w

end Go.Proofs.YthnibebljbljdaaGreatDoor
namespace Go.Proofs.YthnibebljbljdaaGreatDoor.F
open Go.RowKit Vt Crc

theorem l01Var_S (N : Nat) (hN : N ≤ 1000000000) (w : World) :
    Calls Tryz.prog 58 #[.int .i64 (N : Int)] w fun e w' => e = .returned (.string (vtS N)) ∧ Below w.heap.size w w' := l01Var_any N hN w

theorem sFrame_no (s : ByteArray) (hs : s.size < 1 ∨ 9000 < s.size) (hm : s.size ≤ maxLen) (w : World) :
    Calls Tryz.prog 25 #[.string s] w fun e w' => e = .returned (.tuple #[.string ⟨#[]⟩, .bool false]) ∧ Below w.heap.size w w' := by
  unfold maxLen at hm
  go_enter Tryz.func25, Tryz.ntmps25
  go_wp2_with (go_at_call 57; refine (l01In_no _ _ _ (by omega) _).mono ?_; rintro e w' ⟨rfl, rfl⟩)
  go_ret2
  exact ⟨rfl, Below.refl _ _⟩

set_option maxHeartbeats 1000000 in
theorem sFrame_yes (s : ByteArray) (h1 : 1 ≤ s.size) (h2 : s.size ≤ 9000) (w : World) :
    Calls Tryz.prog 25 #[.string s] w fun e w' => e = .returned (.tuple #[.string (frm s), .bool true]) ∧ Below w.heap.size w w' := by
  have hl := smS_lt s
  have hz := fourS_size (smS s)
  have hv := vtS_size s.size
  have hm : s.size ≤ maxLen := by unfold maxLen; omega
  have E := hidOf (frm_def s)
  have ha1 := fun wx => run_string_add_sum (P := Tryz.prog) wx (vtS s.size) (fourS (smS s)) (by omega)
  have hz2 : (vtS s.size ++ fourS (smS s)).size = (vtS s.size).size + 4 := by rw [ByteArray.size_append, hz]
  have ha2 := fun wx => run_string_add_sum (P := Tryz.prog) wx (vtS s.size ++ fourS (smS s)) s (by omega)
  go_enter Tryz.func25, Tryz.ntmps25
  go_wp2_with (first
    | (go_at_call 57; refine (l01In_yes _ _ _ (by omega) (by omega) _).mono ?_; rintro e w' ⟨rfl, rfl⟩)
    | (go_at_call 58; refine (l01Var_S s.size (by omega) _).mono ?_; rintro e w1 ⟨rfl, hb1⟩)
    | (go_at_call 60; refine (sSumOf_S s hm _).mono ?_; rintro e w2 ⟨rfl, hw2⟩; subst hw2)
    | (go_at_call 59; refine (l02Four_S (smS s) hl _).mono ?_; rintro e w2 ⟨rfl, hb2⟩))
  go_ret2
  exact ⟨by rw [← E.out]; rfl, hb1.trans (hb2.mono hb1.size)⟩

end Go.Proofs.YthnibebljbljdaaGreatDoor.F
namespace Go.Proofs.YthnibebljbljdaaGreatDoor
open Go.RowKit Vt

theorem rText_len {n : Int} {r : RecV} (h : RecB n r) : 1 ≤ (rText r).length ∧ (rText r).length ≤ 400 := by
  have hv : ∀ x : Int, N5 x → (vt x.toNat).length ≤ 5 := fun x hx => vt_len14 _ (by have := hx.1; have := hx.2; omega)
  rcases h with ⟨hk, ⟨h1, h2, h3, h4⟩, _⟩ | ⟨hk, _, h1, ha, _⟩ | ⟨hk, _, _, _, ho⟩
  · unfold rText
    rw [if_pos hk]
    have := hv _ h1; have := hv _ h2; have := hv _ h3; have := hv _ h4
    simp only [List.length_cons, List.length_append]
    omega
  · unfold rText sht
    rw [if_neg (by omega), if_pos hk]
    have := hv _ h1; have q := aText_len ha; have := vt_len14 (aText r.an).length (by omega)
    simp only [List.length_cons, List.length_append]
    omega
  · unfold rText sht
    rw [if_neg (by omega), if_neg (by omega)]
    have q := oText_len ho; have := vt_len14 (oText r.o).length (by omega)
    simp only [List.length_cons, List.length_append]
    omega
def logS : ByteArray := ⟨#[108, 111, 103]⟩
/-- the two acts' cells -/
def lgC (f : ByteArray) : List Value := [.int .i64 1, .string logS, .string f, .string ⟨#[]⟩, .int .i64 2, .string logS, .string ⟨#[]⟩, .string ⟨#[]⟩]
theorem str_len14 (L : List UInt8) : (str L).size = L.length := str_size L
set_option maxRecDepth 100000 in
set_option maxHeartbeats 2000000 in
theorem iLogActs_yes (da : Option Addr) (dn dc : Nat) (n kind id op a b sh anum : Int) (aok : Bool) (aes : List EdgeV) (als : List Int) (onum oop : Int) (oes : List EdgeV) (ov : Int) (a1 : Option Addr) (k1 c1 : Nat) (a2 : Option Addr) (k2 c2 : Nat) (a3 : Option Addr) (k3 c3 : Nat) (w : World) (h1 : Es w w.heap.size a1 k1 aes) (h2 : Is w w.heap.size a2 k2 als) (h3 : Es w w.heap.size a3 k3 oes) (l1 : k1 ≤ 1048576) (l2 : k2 ≤ 1048576) (l3 : k3 ≤ 1048576) (hB : RecB n ⟨kind, id, op, a, b, sh, ⟨anum, aok, aes, als⟩, ⟨onum, oop, oes, ov⟩⟩) (ht : Tab w) :
    Calls Tryz.prog 15 #[.agg #[.slice da dn dc], .int .i64 n, .agg #[.int .i64 kind, .int .i64 id, .int .i64 op, .int .i64 a, .int .i64 b, .int .i64 sh, .int .i64 anum, .bool aok, .slice a1 k1 c1, .slice a2 k2 c2, .int .i64 onum, .int .i64 oop, .slice a3 k3 c3, .int .i64 ov]] w fun e w' => ∃ g, e = .returned (.tuple #[.slice (some ⟨g, 0, none⟩) 2 2, .bool true]) ∧ w'.ownsRow w.heap.size 83 4 (.slice (some ⟨g, 0, none⟩) 2 2) 2 (lgC (F.frm (str (rText ⟨kind, id, op, a, b, sh, ⟨anum, aok, aes, als⟩, ⟨onum, oop, oes, ov⟩⟩)))) ∧ Below w.heap.size w w' := by
  obtain ⟨W, hW⟩ : ∃ W, W = (w.alloc (.cells #[.slice da dn dc] 48)).alloc (.cells #[.int .i64 kind, .int .i64 id, .int .i64 op, .int .i64 a, .int .i64 b, .int .i64 sh, .int .i64 anum, .bool aok, .slice a1 k1 c1, .slice a2 k2 c2, .int .i64 onum, .int .i64 oop, .slice a3 k3 c3, .int .i64 ov] 57) := ⟨_, rfl⟩
  have bW : Good w W := by rw [hW]; exact ((Good.refl w).alloc _).alloc _
  have X : BxQ W (w.heap.size + 1) 57 #[.int .i64 kind, .int .i64 id, .int .i64 op, .int .i64 a, .int .i64 b, .int .i64 sh, .int .i64 anum, .bool aok, .slice a1 k1 c1, .slice a2 k2 c2, .int .i64 onum, .int .i64 oop, .slice a3 k3 c3, .int .i64 ov] := by
    have h := BxQ.new (w.alloc (.cells #[.slice da dn dc] 48)) 57 #[.int .i64 kind, .int .i64 id, .int .i64 op, .int .i64 a, .int .i64 b, .int .i64 sh, .int .i64 anum, .bool aok, .slice a1 k1 c1, .slice a2 k2 c2, .int .i64 onum, .int .i64 oop, .slice a3 k3 c3, .int .i64 ov]
    rw [show (w.alloc (.cells #[.slice da dn dc] 48)).heap.size = w.heap.size + 1 by simp] at h
    rw [hW]; exact h
  have HR := hideIt (iRecText_any n kind id op a b sh anum aok aes als onum oop oes ov a1 k1 c1 a2 k2 c2 a3 k3 c3 W (h1.up bW) (h2.up bW) (h3.up bW) l1 l2 l3)
  rw [rtV_yes hB] at HR
  have hl := rText_len hB
  obtain ⟨s, hs⟩ : ∃ s, s = str (rText ⟨kind, id, op, a, b, sh, ⟨anum, aok, aes, als⟩, ⟨onum, oop, oes, ov⟩⟩) := ⟨_, rfl⟩
  have hz := congrArg ByteArray.size hs
  rw [str_len14] at hz
  rw [← hs] at HR ⊢
  rw [← hz] at hl
  clear hs hz
  have HF : Hid (∀ u, Good w u → Calls Tryz.prog 41 #[.string s] u fun e v => e = .returned (.tuple #[.string (F.frm s), .bool true]) ∧ Below u.heap.size u v) := fun u hu => F.iFrame_yes s hl.1 (by omega) u (Tab.below ht hu (Nat.le_refl _))
  clear hl ht
  generalize F.frm s = f at *
  have x0 := X.at 0 rfl
  have x1 := X.at 1 rfl
  have x2 := X.at 2 rfl
  have x3 := X.at 3 rfl
  have x4 := X.at 4 rfl
  have x5 := X.at 5 rfl
  have x6 := X.at 6 rfl
  have x7 := X.at 7 rfl
  have x8 := X.at 8 rfl
  have x9 := X.at 9 rfl
  have x10 := X.at 10 rfl
  have x11 := X.at 11 rfl
  have x12 := X.at 12 rfl
  have x13 := X.at 13 rfl
  have HB := hideIt bW
  clear h1 h2 h3 X bW hB
  go_enter Tryz.func15, Tryz.ntmps15
  go_upto_region 1 with fail
  rw [← hW]
  clear hW
  go_wp2_with (first | (go_at_call 40; refine HR.out.mono ?_; rintro e w1 ⟨rfl, b1⟩; have g1 := HB.out.up b1) | (go_at_call 41; refine (HF.out _ g1).mono ?_; rintro e w2 ⟨rfl, b2⟩; have g2 := g1.up b2))
  go_ret2
  refine ⟨w2.heap.size, rfl, ⟨by simp [lgC], .inr ⟨w2.heap.size, _, _, rfl, g2.size, heap_alloc_new w2 _, ?_⟩⟩, g2.alloc _⟩
  simp [lgC, logS, maxLen]
set_option maxRecDepth 100000 in
set_option maxHeartbeats 2000000 in
theorem iLogActs_no (da : Option Addr) (dn dc : Nat) (n kind id op a b sh anum : Int) (aok : Bool) (aes : List EdgeV) (als : List Int) (onum oop : Int) (oes : List EdgeV) (ov : Int) (a1 : Option Addr) (k1 c1 : Nat) (a2 : Option Addr) (k2 c2 : Nat) (a3 : Option Addr) (k3 c3 : Nat) (w : World) (h1 : Es w w.heap.size a1 k1 aes) (h2 : Is w w.heap.size a2 k2 als) (h3 : Es w w.heap.size a3 k3 oes) (l1 : k1 ≤ 1048576) (l2 : k2 ≤ 1048576) (l3 : k3 ≤ 1048576) (hB : ¬ RecB n ⟨kind, id, op, a, b, sh, ⟨anum, aok, aes, als⟩, ⟨onum, oop, oes, ov⟩⟩) :
    Calls Tryz.prog 15 #[.agg #[.slice da dn dc], .int .i64 n, .agg #[.int .i64 kind, .int .i64 id, .int .i64 op, .int .i64 a, .int .i64 b, .int .i64 sh, .int .i64 anum, .bool aok, .slice a1 k1 c1, .slice a2 k2 c2, .int .i64 onum, .int .i64 oop, .slice a3 k3 c3, .int .i64 ov]] w fun e w' => ∃ x : Option Addr, e = .returned (.tuple #[.slice x 0 0, .bool false]) ∧ Below w.heap.size w w' := by
  obtain ⟨W, hW⟩ : ∃ W, W = (w.alloc (.cells #[.slice da dn dc] 48)).alloc (.cells #[.int .i64 kind, .int .i64 id, .int .i64 op, .int .i64 a, .int .i64 b, .int .i64 sh, .int .i64 anum, .bool aok, .slice a1 k1 c1, .slice a2 k2 c2, .int .i64 onum, .int .i64 oop, .slice a3 k3 c3, .int .i64 ov] 57) := ⟨_, rfl⟩
  have bW : Good w W := by rw [hW]; exact ((Good.refl w).alloc _).alloc _
  have X : BxQ W (w.heap.size + 1) 57 #[.int .i64 kind, .int .i64 id, .int .i64 op, .int .i64 a, .int .i64 b, .int .i64 sh, .int .i64 anum, .bool aok, .slice a1 k1 c1, .slice a2 k2 c2, .int .i64 onum, .int .i64 oop, .slice a3 k3 c3, .int .i64 ov] := by
    have h := BxQ.new (w.alloc (.cells #[.slice da dn dc] 48)) 57 #[.int .i64 kind, .int .i64 id, .int .i64 op, .int .i64 a, .int .i64 b, .int .i64 sh, .int .i64 anum, .bool aok, .slice a1 k1 c1, .slice a2 k2 c2, .int .i64 onum, .int .i64 oop, .slice a3 k3 c3, .int .i64 ov]
    rw [show (w.alloc (.cells #[.slice da dn dc] 48)).heap.size = w.heap.size + 1 by simp] at h
    rw [hW]; exact h
  have HR := hideIt (iRecText_any n kind id op a b sh anum aok aes als onum oop oes ov a1 k1 c1 a2 k2 c2 a3 k3 c3 W (h1.up bW) (h2.up bW) (h3.up bW) l1 l2 l3)
  rw [rtV_no hB] at HR
  have x0 := X.at 0 rfl
  have x1 := X.at 1 rfl
  have x2 := X.at 2 rfl
  have x3 := X.at 3 rfl
  have x4 := X.at 4 rfl
  have x5 := X.at 5 rfl
  have x6 := X.at 6 rfl
  have x7 := X.at 7 rfl
  have x8 := X.at 8 rfl
  have x9 := X.at 9 rfl
  have x10 := X.at 10 rfl
  have x11 := X.at 11 rfl
  have x12 := X.at 12 rfl
  have x13 := X.at 13 rfl
  have HB := hideIt bW
  clear h1 h2 h3 X bW hB
  go_enter Tryz.func15, Tryz.ntmps15
  go_upto_region 1 with fail
  rw [← hW]
  clear hW
  go_wp2_with (go_at_call 40; refine HR.out.mono ?_; rintro e w1 ⟨rfl, b1⟩; have g1 := HB.out.up b1)
  go_ret2
  exact ⟨_, rfl, g1⟩
set_option maxRecDepth 100000 in
set_option maxHeartbeats 2000000 in
theorem sLogActs_yes (da : Option Addr) (dn dc : Nat) (n kind id op a b sh anum : Int) (aok : Bool) (aes : List EdgeV) (als : List Int) (onum oop : Int) (oes : List EdgeV) (ov : Int) (a1 : Option Addr) (k1 c1 : Nat) (a2 : Option Addr) (k2 c2 : Nat) (a3 : Option Addr) (k3 c3 : Nat) (w : World) (h1 : Es w w.heap.size a1 k1 aes) (h2 : Is w w.heap.size a2 k2 als) (h3 : Es w w.heap.size a3 k3 oes) (l1 : k1 ≤ 1048576) (l2 : k2 ≤ 1048576) (l3 : k3 ≤ 1048576) (hB : RecB n ⟨kind, id, op, a, b, sh, ⟨anum, aok, aes, als⟩, ⟨onum, oop, oes, ov⟩⟩) :
    Calls Tryz.prog 12 #[.agg #[.slice da dn dc], .int .i64 n, .agg #[.int .i64 kind, .int .i64 id, .int .i64 op, .int .i64 a, .int .i64 b, .int .i64 sh, .int .i64 anum, .bool aok, .slice a1 k1 c1, .slice a2 k2 c2, .int .i64 onum, .int .i64 oop, .slice a3 k3 c3, .int .i64 ov]] w fun e w' => ∃ g, e = .returned (.tuple #[.slice (some ⟨g, 0, none⟩) 2 2, .bool true]) ∧ w'.ownsRow w.heap.size 83 4 (.slice (some ⟨g, 0, none⟩) 2 2) 2 (lgC (F.frm (str (rText ⟨kind, id, op, a, b, sh, ⟨anum, aok, aes, als⟩, ⟨onum, oop, oes, ov⟩⟩)))) ∧ Below w.heap.size w w' := by
  obtain ⟨W, hW⟩ : ∃ W, W = (w.alloc (.cells #[.slice da dn dc] 48)).alloc (.cells #[.int .i64 kind, .int .i64 id, .int .i64 op, .int .i64 a, .int .i64 b, .int .i64 sh, .int .i64 anum, .bool aok, .slice a1 k1 c1, .slice a2 k2 c2, .int .i64 onum, .int .i64 oop, .slice a3 k3 c3, .int .i64 ov] 57) := ⟨_, rfl⟩
  have bW : Good w W := by rw [hW]; exact ((Good.refl w).alloc _).alloc _
  have X : BxQ W (w.heap.size + 1) 57 #[.int .i64 kind, .int .i64 id, .int .i64 op, .int .i64 a, .int .i64 b, .int .i64 sh, .int .i64 anum, .bool aok, .slice a1 k1 c1, .slice a2 k2 c2, .int .i64 onum, .int .i64 oop, .slice a3 k3 c3, .int .i64 ov] := by
    have h := BxQ.new (w.alloc (.cells #[.slice da dn dc] 48)) 57 #[.int .i64 kind, .int .i64 id, .int .i64 op, .int .i64 a, .int .i64 b, .int .i64 sh, .int .i64 anum, .bool aok, .slice a1 k1 c1, .slice a2 k2 c2, .int .i64 onum, .int .i64 oop, .slice a3 k3 c3, .int .i64 ov]
    rw [show (w.alloc (.cells #[.slice da dn dc] 48)).heap.size = w.heap.size + 1 by simp] at h
    rw [hW]; exact h
  have HR := hideIt (sRecText_any n kind id op a b sh anum aok aes als onum oop oes ov a1 k1 c1 a2 k2 c2 a3 k3 c3 W (h1.up bW) (h2.up bW) (h3.up bW) l1 l2 l3)
  rw [rtV_yes hB] at HR
  have hl := rText_len hB
  obtain ⟨s, hs⟩ : ∃ s, s = str (rText ⟨kind, id, op, a, b, sh, ⟨anum, aok, aes, als⟩, ⟨onum, oop, oes, ov⟩⟩) := ⟨_, rfl⟩
  have hz := congrArg ByteArray.size hs
  rw [str_len14] at hz
  rw [← hs] at HR ⊢
  rw [← hz] at hl
  clear hs hz
  have HF : Hid (∀ u, Good w u → Calls Tryz.prog 25 #[.string s] u fun e v => e = .returned (.tuple #[.string (F.frm s), .bool true]) ∧ Below u.heap.size u v) := fun u _ => F.sFrame_yes s hl.1 (by omega) u
  clear hl
  generalize F.frm s = f at *
  have x0 := X.at 0 rfl
  have x1 := X.at 1 rfl
  have x2 := X.at 2 rfl
  have x3 := X.at 3 rfl
  have x4 := X.at 4 rfl
  have x5 := X.at 5 rfl
  have x6 := X.at 6 rfl
  have x7 := X.at 7 rfl
  have x8 := X.at 8 rfl
  have x9 := X.at 9 rfl
  have x10 := X.at 10 rfl
  have x11 := X.at 11 rfl
  have x12 := X.at 12 rfl
  have x13 := X.at 13 rfl
  have HB := hideIt bW
  clear h1 h2 h3 X bW hB
  go_enter Tryz.func12, Tryz.ntmps12
  go_upto_region 1 with fail
  rw [← hW]
  clear hW
  go_wp2_with (first | (go_at_call 35; refine HR.out.mono ?_; rintro e w1 ⟨rfl, b1⟩; have g1 := HB.out.up b1) | (go_at_call 25; refine (HF.out _ g1).mono ?_; rintro e w2 ⟨rfl, b2⟩; have g2 := g1.up b2))
  go_ret2
  refine ⟨w2.heap.size, rfl, ⟨by simp [lgC], .inr ⟨w2.heap.size, _, _, rfl, g2.size, heap_alloc_new w2 _, ?_⟩⟩, g2.alloc _⟩
  simp [lgC, logS, maxLen]
set_option maxRecDepth 100000 in
set_option maxHeartbeats 2000000 in
theorem sLogActs_no (da : Option Addr) (dn dc : Nat) (n kind id op a b sh anum : Int) (aok : Bool) (aes : List EdgeV) (als : List Int) (onum oop : Int) (oes : List EdgeV) (ov : Int) (a1 : Option Addr) (k1 c1 : Nat) (a2 : Option Addr) (k2 c2 : Nat) (a3 : Option Addr) (k3 c3 : Nat) (w : World) (h1 : Es w w.heap.size a1 k1 aes) (h2 : Is w w.heap.size a2 k2 als) (h3 : Es w w.heap.size a3 k3 oes) (l1 : k1 ≤ 1048576) (l2 : k2 ≤ 1048576) (l3 : k3 ≤ 1048576) (hB : ¬ RecB n ⟨kind, id, op, a, b, sh, ⟨anum, aok, aes, als⟩, ⟨onum, oop, oes, ov⟩⟩) :
    Calls Tryz.prog 12 #[.agg #[.slice da dn dc], .int .i64 n, .agg #[.int .i64 kind, .int .i64 id, .int .i64 op, .int .i64 a, .int .i64 b, .int .i64 sh, .int .i64 anum, .bool aok, .slice a1 k1 c1, .slice a2 k2 c2, .int .i64 onum, .int .i64 oop, .slice a3 k3 c3, .int .i64 ov]] w fun e w' => ∃ x : Option Addr, e = .returned (.tuple #[.slice x 0 0, .bool false]) ∧ Below w.heap.size w w' := by
  obtain ⟨W, hW⟩ : ∃ W, W = (w.alloc (.cells #[.slice da dn dc] 48)).alloc (.cells #[.int .i64 kind, .int .i64 id, .int .i64 op, .int .i64 a, .int .i64 b, .int .i64 sh, .int .i64 anum, .bool aok, .slice a1 k1 c1, .slice a2 k2 c2, .int .i64 onum, .int .i64 oop, .slice a3 k3 c3, .int .i64 ov] 57) := ⟨_, rfl⟩
  have bW : Good w W := by rw [hW]; exact ((Good.refl w).alloc _).alloc _
  have X : BxQ W (w.heap.size + 1) 57 #[.int .i64 kind, .int .i64 id, .int .i64 op, .int .i64 a, .int .i64 b, .int .i64 sh, .int .i64 anum, .bool aok, .slice a1 k1 c1, .slice a2 k2 c2, .int .i64 onum, .int .i64 oop, .slice a3 k3 c3, .int .i64 ov] := by
    have h := BxQ.new (w.alloc (.cells #[.slice da dn dc] 48)) 57 #[.int .i64 kind, .int .i64 id, .int .i64 op, .int .i64 a, .int .i64 b, .int .i64 sh, .int .i64 anum, .bool aok, .slice a1 k1 c1, .slice a2 k2 c2, .int .i64 onum, .int .i64 oop, .slice a3 k3 c3, .int .i64 ov]
    rw [show (w.alloc (.cells #[.slice da dn dc] 48)).heap.size = w.heap.size + 1 by simp] at h
    rw [hW]; exact h
  have HR := hideIt (sRecText_any n kind id op a b sh anum aok aes als onum oop oes ov a1 k1 c1 a2 k2 c2 a3 k3 c3 W (h1.up bW) (h2.up bW) (h3.up bW) l1 l2 l3)
  rw [rtV_no hB] at HR
  have x0 := X.at 0 rfl
  have x1 := X.at 1 rfl
  have x2 := X.at 2 rfl
  have x3 := X.at 3 rfl
  have x4 := X.at 4 rfl
  have x5 := X.at 5 rfl
  have x6 := X.at 6 rfl
  have x7 := X.at 7 rfl
  have x8 := X.at 8 rfl
  have x9 := X.at 9 rfl
  have x10 := X.at 10 rfl
  have x11 := X.at 11 rfl
  have x12 := X.at 12 rfl
  have x13 := X.at 13 rfl
  have HB := hideIt bW
  clear h1 h2 h3 X bW hB
  go_enter Tryz.func12, Tryz.ntmps12
  go_upto_region 1 with fail
  rw [← hW]
  clear hW
  go_wp2_with (go_at_call 35; refine HR.out.mono ?_; rintro e w1 ⟨rfl, b1⟩; have g1 := HB.out.up b1)
  go_ret2
  exact ⟨_, rfl, g1.alloc _⟩
end Go.Proofs.YthnibebljbljdaaGreatDoor
namespace Go.Proofs.YthnibebljbljdaaGreatDoor.F
open Go.RowKit

theorem hideIt {p : Prop} (h : p) : Hid p := h

/-- a file -/
structure FileV where
  name : ByteArray
  text : ByteArray
  kept : Int

/-- the list of files fs stands at a, n of them, below block B -/
def Fs (w : World) (B : Nat) (a : Option Addr) (n : Nat) (fs : List FileV) : Prop :=
  fs.length = n ∧ (n = 0 ∨ ∃ b off, a = some ⟨b, off, none⟩ ∧ b < B ∧ ∀ j f, fs[j]? = some f →
    w.cell? ⟨b, off + j * 3, none⟩ = some (.string f.name) ∧ w.cell? ⟨b, off + j * 3 + 1, none⟩ = some (.string f.text) ∧ w.cell? ⟨b, off + j * 3 + 2, none⟩ = some (.int .i64 f.kept))

/-- what is left of a measure behind a file -/
def szF (left : Int) (f : FileV) : Int := if left - f.name.size < 0 then -1 else if left - f.name.size - f.text.size < 0 then -1 else left - f.name.size - f.text.size

theorem szFile_any (f : FileV) (left : Int) (h0 : -1 ≤ left) (h1 : left ≤ 1048576) (hn : f.name.size ≤ maxLen) (ht : f.text.size ≤ maxLen) (w : World) :
    Calls Tryz.prog 64 #[.agg #[.string f.name, .string f.text, .int .i64 f.kept], .int .i64 left] w fun e w' => e = .returned (.int .i64 (szF left f)) ∧ Below w.heap.size w w' := by
  unfold maxLen at hn ht
  obtain ⟨nm, tx, kp⟩ := f
  dsimp only at hn ht ⊢
  unfold szF
  dsimp only
  by_cases g1 : left - nm.size < 0
  · rw [if_pos g1]
    have d1 : decide (left - (nm.size : Int) < 0) = true := by simp; omega
    go_enter Tryz.func64, Tryz.ntmps64
    go_wp2
    go_ret
    exact ⟨rfl, (Below.refl _ _).alloc (Nat.le_refl _) _⟩
  · rw [if_neg g1]
    by_cases g2 : left - nm.size - tx.size < 0
    · rw [if_pos g2]
      go_enter Tryz.func64, Tryz.ntmps64
      go_wp2
      go_ret
      exact ⟨rfl, (Below.refl _ _).alloc (Nat.le_refl _) _⟩
    · rw [if_neg g2]
      go_enter Tryz.func64, Tryz.ntmps64
      go_wp2
      go_ret
      exact ⟨rfl, (Below.refl _ _).alloc (Nat.le_refl _) _⟩

/-- the letters of a list of files -/
def letters (fs : List FileV) : Nat := (fs.map fun f => f.name.size + f.text.size).sum
theorem letters_snoc (fs : List FileV) (f : FileV) : letters (fs ++ [f]) = letters fs + (f.name.size + f.text.size) := by simp [letters]

theorem take_snocF {α : Type} (fs : List α) (k : Nat) (f : α) (h : fs[k]? = some f) : fs.take (k + 1) = fs.take k ++ [f] := by
  obtain ⟨hk, rfl⟩ := List.getElem?_eq_some_iff.1 h
  rw [List.take_succ_eq_append_getElem hk]

theorem letters_take (fs : List FileV) (k : Nat) : letters (fs.take k) ≤ letters fs := by
  have h := congrArg letters (List.take_append_drop k fs)
  have e : ∀ a b : List FileV, letters (a ++ b) = letters a + letters b := fun a b => by simp [letters]
  have := e (fs.take k) (fs.drop k)
  omega

theorem szF_yes (left : Int) (f : FileV) (h : 0 ≤ left - f.name.size - f.text.size) : szF left f = left - f.name.size - f.text.size := by
  unfold szF; rw [if_neg (by omega), if_neg (by omega)]
theorem szF_no (left : Int) (f : FileV) (h : left - f.name.size - f.text.size < 0) : szF left f = -1 := by
  unfold szF
  by_cases g : left - f.name.size < 0
  · rw [if_pos g]
  · rw [if_neg g, if_pos h]

/-- what is left of a measure behind a list of files -/
def szFs (left : Int) (fs : List FileV) : Int := if (fs.length : Int) + letters fs ≤ left then left - fs.length - letters fs else -1

theorem szFs_no (left : Int) (fs : List FileV) (h : ¬ (fs.length : Int) + letters fs ≤ left) : szFs left fs = -1 := by unfold szFs; rw [if_neg h]
theorem szFs_yes (left : Int) (fs : List FileV) (h : (fs.length : Int) + letters fs ≤ left) : szFs left fs = left - fs.length - letters fs := by unfold szFs; rw [if_pos h]

/-- the texts of the files are short enough for any machine -/
def FitsF (fs : List FileV) : Prop := ∀ f ∈ fs, f.name.size ≤ maxLen ∧ f.text.size ≤ maxLen

set_option maxHeartbeats 1000000 in
theorem szFileS_any (fs : List FileV) (hfit : FitsF fs) (left : Int) (h0 : -1 ≤ left) (h1 : left ≤ 1048576) (n : Nat) (a : Option Addr) (cap : Nat) (hn : n ≤ maxLen) (w : World) (hfs : Fs w w.heap.size a n fs) :
    Calls Tryz.prog 32 #[.slice a n cap, .int .i64 left] w fun e w' => e = .returned (.int .i64 (szFs left fs)) ∧ Below w.heap.size w w' := by
  unfold maxLen at hn
  obtain ⟨hlen, hrow⟩ := hfs
  by_cases g0 : left - n < 0
  · rw [szFs_no left fs (by omega)]
    have d1 : decide (left - (n : Int) < 0) = true := by simp; omega
    clear hrow
    go_enter Tryz.func32, Tryz.ntmps32
    go_wp2
    go_ret
    exact ⟨rfl, Below.refl _ _⟩
  · have d1 : decide (left - (n : Int) < 0) = false := by simp; omega
    have HR := hideIt hrow
    have HF := hideIt hfit
    clear hrow hfit
    go_enter Tryz.func32, Tryz.ntmps32
    go_wp2
    go_loopw [1, 5] (fun l i wr => ∃ (k : Nat) (q : Int), k ≤ n ∧ i = .int .i64 (k : Int) ∧ l = .int .i64 q ∧ Hid (q = left - n - letters (fs.take k)) ∧ 0 ≤ q ∧ q ≤ 1048576 ∧ Below w.heap.size w wr)
      (fun _ i _ => n - (intOf i).toNat)
    case atStart => exact ⟨0, _, by omega, rfl, rfl, by show _ = _; simp [letters], by omega, by omega, Below.refl _ _⟩
    case round =>
      obtain ⟨k, q, hk, rfl, rfl, hq, q0, q1, hb⟩ := hrel
      by_cases hlt : k < n
      · rcases HR.out with hz | ⟨b, off, rfl, hbl, hc⟩
        · omega
        · obtain ⟨f, hf⟩ : ∃ f, fs[k]? = some f := ⟨fs[k]'(by omega), List.getElem?_eq_getElem (by omega)⟩
          obtain ⟨c0, c1, c2⟩ := hc k f hf
          have e0 : wr.cell? ⟨b, off + k * 3, none⟩ = some (.string f.name) := by rw [hb.cell hbl]; exact c0
          have e1 : wr.cell? ⟨b, off + k * 3 + 1, none⟩ = some (.string f.text) := by rw [hb.cell hbl]; exact c1
          have e2 : wr.cell? ⟨b, off + k * 3 + 2, none⟩ = some (.int .i64 f.kept) := by rw [hb.cell hbl]; exact c2
          have b1 : (0 : Int) ≤ (k : Int) := by omega
          have b2 : (k : Int) < (n : Int) := by omega
          have hfit := HF.out f (List.mem_of_getElem? hf)
          have HS := hideIt (szFile_any f q (by omega) q1 hfit.1 hfit.2 wr)
          clear c0 c1 c2 hc
          have HT := hideIt (take_snocF fs k f hf)
          clear hf
          by_cases g1 : q - f.name.size - f.text.size < 0
          · have HL : Hid (¬ (fs.length : Int) + letters fs ≤ left) := by
              have h1 := letters_take fs (k + 1)
              rw [HT.out, letters_snoc] at h1
              have h2 := hq.out
              show ¬ _
              omega
            have hsz := szF_no q f g1
            rw [hsz] at HS
            go_wp2_with (go_at_call 64; refine HS.out.mono ?_; rintro e w1 ⟨rfl, hb1⟩)
            go_ret
            exact ⟨by rw [szFs_no left fs (by have := HL.out; omega)]; rfl, hb.trans (hb1.mono hb.size)⟩
          · have hsz := szF_yes q f (by omega)
            rw [hsz] at HS
            have d2 : decide (q - (f.name.size : Int) - (f.text.size : Int) < 0) = false := by simp; omega
            go_wp2_with (go_at_call 64; refine HS.out.mono ?_; rintro e w1 ⟨rfl, hb1⟩)
            go_roundw
            case rel => exact ⟨k + 1, _, by omega, by go_num, rfl, by show _ = _; rw [HT.out, letters_snoc, hq.out]; omega, by omega, by omega, hb.trans (hb1.mono hb.size)⟩
            case measure => simp [intOf]; omega
      · have e : fs.take k = fs := List.take_of_length_le (by omega)
        have HE : Hid (q = left - n - letters fs) := by show _ = _; rw [← e]; exact hq.out
        clear hq e
        go_wp2
        go_ret
        exact ⟨by rw [szFs_yes left fs (by have := HE.out; omega), HE.out, ← hlen]; rfl, hb⟩

theorem szFs_pos (left : Int) (fs : List FileV) : szFs left fs = -1 ∨ (0 ≤ szFs left fs ∧ (fs.length : Int) + letters fs ≤ left) := by
  by_cases h : (fs.length : Int) + letters fs ≤ left
  · exact .inr ⟨by rw [szFs_yes left fs h]; omega, h⟩
  · exact .inl (szFs_no left fs h)

theorem Fs.alloc {w : World} {B : Nat} {a : Option Addr} {n : Nat} {fs : List FileV} (h : Fs w B a n fs) (hB : B ≤ w.heap.size) (o : Obj) : Fs (w.alloc o) B a n fs := by
  refine ⟨h.1, h.2.imp id ?_⟩
  rintro ⟨b, off, ha, hb, hc⟩
  refine ⟨b, off, ha, hb, fun j f hf => ?_⟩
  have hbl : b < w.heap.size := by omega
  obtain ⟨c0, c1, c2⟩ := hc j f hf
  exact ⟨by rw [World.cell?_of_block (w := w) (Below.heap_alloc w o b hbl)]; exact c0, by rw [World.cell?_of_block (w := w) (Below.heap_alloc w o b hbl)]; exact c1, by rw [World.cell?_of_block (w := w) (Below.heap_alloc w o b hbl)]; exact c2⟩

theorem Fs.below {w w' : World} {B C : Nat} {a : Option Addr} {n : Nat} {fs : List FileV} (h : Fs w B a n fs) (hb : Below C w w') (hB : B ≤ C) : Fs w' B a n fs := by
  refine ⟨h.1, h.2.imp id ?_⟩
  rintro ⟨b, off, ha, hbl, hc⟩
  refine ⟨b, off, ha, hbl, fun j f hf => ?_⟩
  obtain ⟨c0, c1, c2⟩ := hc j f hf
  have hl : b < C := by omega
  exact ⟨by rw [hb.cell (p := ⟨b, _, none⟩) hl]; exact c0, by rw [hb.cell (p := ⟨b, _, none⟩) hl]; exact c1, by rw [hb.cell (p := ⟨b, _, none⟩) hl]; exact c2⟩

theorem Fs.mono {w : World} {B C : Nat} {a : Option Addr} {n : Nat} {fs : List FileV} (h : Fs w B a n fs) (hB : B ≤ C) : Fs w C a n fs := by
  refine ⟨h.1, h.2.imp id ?_⟩
  rintro ⟨b, off, ha, hbl, hc⟩
  exact ⟨b, off, ha, by omega, hc⟩

theorem szDisk_any (fs : List FileV) (hfit : FitsF fs) (left : Int) (h0 : -1 ≤ left) (h1 : left ≤ 1048576) (n : Nat) (a : Option Addr) (cap : Nat) (hn : n ≤ maxLen) (w : World) (hfs : Fs w w.heap.size a n fs) :
    Calls Tryz.prog 10 #[.agg #[.slice a n cap], .int .i64 left] w fun e w' => e = .returned (.int .i64 (szFs left fs)) ∧ Below w.heap.size w w' := by
  have hp := szFs_pos left fs
  have HS := hideIt (szFileS_any fs hfit left h0 h1 n a cap hn (w.alloc (.cells #[.slice a n cap] 30)) ((hfs.alloc (Nat.le_refl _) _).mono (by simp)))
  clear hfs hfit
  generalize szFs left fs = r at *
  by_cases g : r < 0
  · obtain rfl : r = -1 := by omega
    clear hp
    go_enter Tryz.func10, Tryz.ntmps10
    go_wp2_with (go_at_call 32; refine HS.out.mono ?_; rintro e w1 ⟨rfl, hb1⟩)
    go_ret
    exact ⟨rfl, ((Below.refl _ _).alloc (Nat.le_refl _) _).trans (hb1.mono (by simp))⟩
  · have d1 : decide (r < 0) = false := by simp; omega
    clear hp
    go_enter Tryz.func10, Tryz.ntmps10
    go_wp2_with (go_at_call 32; refine HS.out.mono ?_; rintro e w1 ⟨rfl, hb1⟩)
    go_ret
    exact ⟨rfl, ((Below.refl _ _).alloc (Nat.le_refl _) _).trans (hb1.mono (by simp))⟩

theorem toFile_any (f : FileV) (w : World) :
    Calls Tryz.prog 72 #[.agg #[.string f.name, .string f.text, .int .i64 f.kept]] w fun e w' => e = .returned (.agg #[.string f.name, .string f.text, .int .i64 f.kept]) ∧ Below w.heap.size w w' := by
  go_enter Tryz.func72, Tryz.ntmps72
  go_wp2
  exact bodyPost_ret (v := .agg #[.string f.name, .string f.text, .int .i64 f.kept]) (by simp [results, Tryz.results72, go_sem]) rfl ⟨rfl, (((Below.refl _ _).alloc (Nat.le_refl _) _).alloc (by simp) _).alloc (by simp; omega) _⟩

/-- the cells of a file -/
def fcell (f : FileV) : List Value := [.string f.name, .string f.text, .int .i64 f.kept]
/-- the cells of a list of files -/
def fcells (fs : List FileV) : List Value := fs.flatMap fcell

theorem fcells_length (fs : List FileV) : (fcells fs).length = fs.length * 3 := by
  induction fs with
  | nil => rfl
  | cons f fs ih => simp only [fcells, List.flatMap_cons, List.length_append, List.length_cons] at ih ⊢; rw [ih]; simp [fcell]; omega

theorem fcells_at (fs : List FileV) (j : Nat) (f : FileV) (h : fs[j]? = some f) :
    (fcells fs)[j * 3]? = some (.string f.name) ∧ (fcells fs)[j * 3 + 1]? = some (.string f.text) ∧ (fcells fs)[j * 3 + 2]? = some (.int .i64 f.kept) := by
  induction fs generalizing j with
  | nil => simp at h
  | cons g fs ih =>
    cases j with
    | zero => simp at h; subst h; simp [fcells, fcell]
    | succ j =>
      have h2 := ih j (by simpa using h)
      have e : ∀ m, (fcells (g :: fs))[m + 3]? = (fcells fs)[m]? := fun m => by simp [fcells, fcell]
      refine ⟨?_, ?_, ?_⟩
      · rw [show (j + 1) * 3 = j * 3 + 3 by omega, e]; exact h2.1
      · rw [show (j + 1) * 3 + 1 = j * 3 + 1 + 3 by omega, e]; exact h2.2.1
      · rw [show (j + 1) * 3 + 2 = j * 3 + 2 + 3 by omega, e]; exact h2.2.2

theorem take_set3 {α : Type} (xs : List α) (m : Nat) (a b c : α) (h : m + 3 ≤ xs.length) : (((xs.set m a).set (m + 1) b).set (m + 2) c).take (m + 3) = xs.take m ++ [a, b, c] := by
  apply List.ext_getElem?
  intro i
  have hl : (xs.take m).length = m := by simp; omega
  by_cases h1 : i < m
  · rw [List.getElem?_append_left (by omega), List.getElem?_take_of_lt h1, List.getElem?_take_of_lt (by omega), List.getElem?_set_ne (by omega), List.getElem?_set_ne (by omega), List.getElem?_set_ne (by omega)]
  · rw [List.getElem?_append_right (by omega), hl]
    by_cases h2 : i < m + 3
    · rw [List.getElem?_take_of_lt h2]
      rcases (show i = m ∨ i = m + 1 ∨ i = m + 2 by omega) with rfl | rfl | rfl
      · rw [List.getElem?_set_ne (by omega), List.getElem?_set_ne (by omega), List.getElem?_set_self (by omega)]; simp
      · rw [List.getElem?_set_ne (by omega), List.getElem?_set_self (by simp; omega)]; simp
      · rw [List.getElem?_set_self (by simp; omega)]; simp
    · rw [List.getElem?_eq_none (by simp; omega), List.getElem?_eq_none (by simp; omega)]

theorem fcells_snoc (fs : List FileV) (f : FileV) : fcells (fs ++ [f]) = fcells fs ++ [.string f.name, .string f.text, .int .i64 f.kept] := by simp [fcells, fcell]

theorem infoIF : (Tryz.prog.info? 130).map (fun i => (i.zero, i.size, i.bytes)) = some (some (.agg #[.string .empty, .string .empty, .int .i64 0]), 3, 40) := by kernel_rfl

set_option maxHeartbeats 1000000 in
theorem toFileS_any (fs : List FileV) (n : Nat) (a : Option Addr) (cap : Nat) (hn : n ≤ 1048576) (w : World) (hfs : Fs w w.heap.size a n fs) :
    Calls Tryz.prog 36 #[.slice a n cap] w fun e w' => ∃ g, e = .returned (.slice (some ⟨g, 0, none⟩) n n) ∧ w'.ownsRow w.heap.size 130 3 (.slice (some ⟨g, 0, none⟩) n n) n (fcells fs) ∧ Below w.heap.size w w' := by
  obtain ⟨i0, hi, hz0, hz1, hz2⟩ := info_parts infoIF
  obtain ⟨hlen, hrow⟩ := hfs
  have hmk : ∀ u : World, (Instr.makeSlice 46 (.int .i64 (n : Int)) (.int .i64 (n : Int))).run Tryz.prog u =
      .ok (.slice (some ⟨u.heap.size, 0, none⟩) n n) (u.alloc (.cells (madeCells #[.string .empty, .string .empty, .int .i64 0] (n * 3)) 130)) := fun u => by
    have h := run_make (P := Tryz.prog) u 46 130 i0 _ Tryz.underlying46 hi hz0 .i64 .i64 (n : Int) (n : Int) (by omega) (by omega) (by rw [hz2]; omega) (by omega)
    rw [Int.toNat_natCast] at h
    simpa [hz1, Value.cells] using h
  have HR := hideIt hrow
  clear hrow
  go_enter Tryz.func36, Tryz.ntmps36
  go_wp2
  go_loopw [4] (fun i wr => ∃ (k : Nat) (xs : List Value), k ≤ n ∧ i = .int .i64 (k : Int) ∧ Hid (xs.take (k * 3) = fcells (fs.take k)) ∧ wr.ownsRow w.heap.size 130 3 (.slice (some ⟨w.heap.size, 0, none⟩) n n) n xs ∧ Below w.heap.size w wr)
    (fun i _ => n - (intOf i).toNat)
  case atStart => exact ⟨0, _, by omega, rfl, by show _ = _; simp [fcells], World.ownsRow_lit (base := w.heap.size) (e := 130) (size := 3) w (madeCells #[.string .empty, .string .empty, .int .i64 0] (n * 3)) n (Nat.le_refl _) (by unfold maxLen; omega) (by simp [madeCells]), (Below.refl _ _).alloc (Nat.le_refl _) _⟩
  case round =>
    obtain ⟨k, xs, hk, rfl, hx, hown, hb⟩ := hrel
    by_cases hlt : k < n
    · rcases HR.out with hz | ⟨b, off, rfl, hbl, hc⟩
      · omega
      · obtain ⟨f, hf⟩ : ∃ f, fs[k]? = some f := ⟨fs[k]'(by omega), List.getElem?_eq_getElem (by omega)⟩
        obtain ⟨c0, c1, c2⟩ := hc k f hf
        have e0 : wr.cell? ⟨b, off + k * 3, none⟩ = some (.string f.name) := by rw [hb.cell hbl]; exact c0
        have e1 : wr.cell? ⟨b, off + k * 3 + 1, none⟩ = some (.string f.text) := by rw [hb.cell hbl]; exact c1
        have e2 : wr.cell? ⟨b, off + k * 3 + 2, none⟩ = some (.int .i64 f.kept) := by rw [hb.cell hbl]; exact c2
        have b1 : (0 : Int) ≤ (k : Int) := by omega
        have b2 : (k : Int) < (n : Int) := by omega
        have HT := hideIt (toFile_any f wr)
        have HTk := hideIt (take_snocF fs k f hf)
        clear c0 c1 c2 hc hf
        go_wp2_with (go_at_call 72; refine HT.out.mono ?_; rintro e w1 ⟨rfl, hb1⟩; refine Hid.out ?_)
        refine (show ∀ {p : Prop}, p → Hid p from fun h => h) ?_
        have hg1 : wr.grownBy w1 none := ⟨hb1.os, hb1.tape, hb1.output, hb1.size, fun i hi _ => hb1.block i hi⟩
        have hown1 := World.ownsRow.kept hown hg1 (.inr (by simp [Value.ownBlock]))
        have hl3 : xs.length = n * 3 := hown1.1
        have f0 := hown1.frozenAt (k * 3)
        have f1 := hown1.frozenAt (k * 3 + 1)
        have f2 := hown1.frozenAt (k * 3 + 2)
        have x0 : w1.cell? ⟨w.heap.size, k * 3, none⟩ = some (xs[k * 3]'(by omega)) := by rw [hown1.cellAt (k * 3) (by omega)]; exact List.getElem?_eq_getElem (by omega)
        have x1 : w1.cell? ⟨w.heap.size, k * 3 + 1, none⟩ = some (xs[k * 3 + 1]'(by omega)) := by rw [hown1.cellAt (k * 3 + 1) (by omega)]; exact List.getElem?_eq_getElem (by omega)
        have x2 : w1.cell? ⟨w.heap.size, k * 3 + 2, none⟩ = some (xs[k * 3 + 2]'(by omega)) := by rw [hown1.cellAt (k * 3 + 2) (by omega)]; exact List.getElem?_eq_getElem (by omega)
        clear e0 e1 e2 HT
        go_wp2
        refine ⟨⟨k + 1, ((xs.set (k * 3) (.string f.name)).set (k * 3 + 1) (.string f.text)).set (k * 3 + 2) (.int .i64 f.kept), by omega, by go_num, ?_, ?_, ?_⟩, by simp [intOf]; omega⟩
        · show _ = _
          rw [show (k + 1) * 3 = k * 3 + 3 by omega, take_set3 _ _ _ _ _ (by omega), hx.out, HTk.out, fcells_snoc]
        · exact (((hown1.stored (k * 3) _).1.stored (k * 3 + 1) _).1.stored (k * 3 + 2) _).1
        · exact (((hb.trans (hb1.mono hb.size)).setCell (Nat.le_refl _) _).setCell (Nat.le_refl _) _).setCell (Nat.le_refl _) _
    · have e : fs.take k = fs := List.take_of_length_le (by omega)
      have hl3 : xs.length = n * 3 := hown.1
      have HX : Hid (xs = fcells fs) := by
        show _ = _
        have := hx.out
        rw [e, List.take_of_length_le (by omega)] at this
        exact this
      have HO := hideIt hown
      clear hx e hown hl3
      go_wp2
      go_ret
      exact ⟨w.heap.size, rfl, by rw [← HX.out]; exact HO.out, hb⟩

theorem bcell {W w1 : World} (hb : Below W.heap.size W w1) : (∀ b o, b < W.heap.size → w1.cell? ⟨b, o, none⟩ = W.cell? ⟨b, o, none⟩) ∧ (∀ b o, b < W.heap.size → w1.frozen? ⟨b, o, none⟩ = W.frozen? ⟨b, o, none⟩) :=
  ⟨fun b o h => hb.cell (p := ⟨b, o, none⟩) h, fun b o h => hb.frozen (p := ⟨b, o, none⟩) h⟩

/-- a list of one's own reads as its files -/
theorem Fs_of_own {w : World} {B g n cap : Nat} {fs : List FileV} (h : w.ownsRow B 130 3 (.slice (some ⟨g, 0, none⟩) n cap) n (fcells fs)) : Fs w w.heap.size (some ⟨g, 0, none⟩) n fs := by
  have hl := h.1
  rw [fcells_length] at hl
  refine ⟨by omega, ?_⟩
  by_cases h0 : n = 0
  · exact .inl h0
  · refine .inr ⟨g, 0, rfl, (h.lt g rfl).2, fun j f hf => ?_⟩
    have hj : j < fs.length := (List.getElem?_eq_some_iff.1 hf).1
    obtain ⟨c0, c1, c2⟩ := fcells_at fs j f hf
    rw [Nat.zero_add]
    exact ⟨by rw [h.cellAt (j * 3) (by omega)]; exact c0, by rw [h.cellAt (j * 3 + 1) (by omega)]; exact c1, by rw [h.cellAt (j * 3 + 2) (by omega)]; exact c2⟩

theorem grownSet (w : World) (G j : Nat) (u : Value) : w.grownBy (w.setCell ⟨G, j, none⟩ u) (some G) :=
  ⟨rfl, rfl, rfl, by simp [World.setCell], fun k _ hk => heap_setCell_other w ⟨G, j, none⟩ k u (fun e => hk (by simp [e]))⟩

theorem own_setOther {w : World} {B e s g n cap : Nat} {xs : List Value} (h : w.ownsRow B e s (.slice (some ⟨g, 0, none⟩) n cap) n xs) (G j : Nat) (u : Value) (hG : g ≠ G) :
    (w.setCell ⟨G, j, none⟩ u).ownsRow B e s (.slice (some ⟨g, 0, none⟩) n cap) n xs :=
  World.ownsRow.kept h (grownSet w G j u) (.inr (by simp [Value.ownBlock]; exact fun e => hG e))

theorem own_mono {w : World} {B B' e s n : Nat} {v : Value} {xs : List Value} (h : w.ownsRow B e s v n xs) (hB : B' ≤ B) : w.ownsRow B' e s v n xs :=
  ⟨h.1, h.2.imp id (fun ⟨g, cap, cur, a, b, rest⟩ => ⟨g, cap, cur, a, Nat.le_trans hB b, rest⟩)⟩

theorem toDisk_any (fs : List FileV) (n : Nat) (a : Option Addr) (cap : Nat) (hn : n ≤ 1048576) (w : World) (hfs : Fs w w.heap.size a n fs) :
    Calls Tryz.prog 13 #[.agg #[.slice a n cap]] w fun e w' => ∃ g, e = .returned (.agg #[.slice (some ⟨g, 0, none⟩) n n]) ∧ w'.ownsRow w.heap.size 130 3 (.slice (some ⟨g, 0, none⟩) n n) n (fcells fs) ∧ Below w.heap.size w w' := by
  have hfs3 : Fs (((w.alloc (.cells #[.slice a n cap] 30)).alloc (.cells #[.slice none 0 0] 48)).alloc (.cells #[.slice none 0 0] 48)) (((w.alloc (.cells #[.slice a n cap] 30)).alloc (.cells #[.slice none 0 0] 48)).alloc (.cells #[.slice none 0 0] 48)).heap.size a n fs :=
    (((hfs.alloc (Nat.le_refl _) _).alloc (by simp) _).alloc (by simp; omega) _).mono (by simp; omega)
  have HT := hideIt (toFileS_any fs n a cap hn _ hfs3)
  clear hfs hfs3
  go_enter Tryz.func13, Tryz.ntmps13
  go_wp2_with (go_at_call 36; refine HT.out.mono ?_; rintro e w1 ⟨g, rfl, hown, hb1⟩; refine Hid.out ?_)
  refine (show ∀ {p : Prop}, p → Hid p from fun h => h) ?_
  obtain ⟨hc, hf⟩ := bcell hb1
  have HO := hideIt hown
  have hgl := hown.lt g rfl
  have hz := hb1.size
  clear hown HT
  simp at hz hgl
  go_wp2
  refine bodyPost_ret (v := .agg #[.slice (some ⟨g, 0, none⟩) n n]) (by simp [results, Tryz.results13, go_sem, hc]) rfl ⟨g, rfl, ?_, ?_⟩
  · exact own_mono (own_setOther (own_setOther HO.out _ 0 _ (by omega)) _ 0 _ (by omega)) (by simp; omega)
  · exact (((((((Below.refl _ _).alloc (Nat.le_refl _) _).alloc (by simp) _).alloc (by simp; omega) _).trans (hb1.mono (by simp; omega))).setCell (by simp; omega) _).setCell (by simp) _)

theorem eqFile_yes (f : FileV) (w : World) :
    Calls Tryz.prog 86 #[.agg #[.string f.name, .string f.text, .int .i64 f.kept], .agg #[.string f.name, .string f.text, .int .i64 f.kept]] w fun e w' => e = .returned (.bool true) ∧ Below w.heap.size w w' := by
  go_enter Tryz.func86, Tryz.ntmps86
  go_wp2
  go_ret
  exact ⟨rfl, ((Below.refl _ _).alloc (Nat.le_refl _) _).alloc (by simp) _⟩

set_option maxRecDepth 100000 in
set_option maxHeartbeats 2000000 in
theorem eqFileS_same (fs : List FileV) (n : Nat) (a a' : Option Addr) (c c' : Nat) (hn : n ≤ 1048576) (w : World) (h : Fs w w.heap.size a n fs) (h' : Fs w w.heap.size a' n fs) :
    Calls Tryz.prog 43 #[.slice a n c, .slice a' n c'] w fun e w' => e = .returned (.bool true) ∧ Below w.heap.size w w' := by
  obtain ⟨hlen, hrow⟩ := h
  obtain ⟨_, hrow'⟩ := h'
  have HR := hideIt hrow
  have HR' := hideIt hrow'
  clear hrow hrow'
  go_enter Tryz.func43, Tryz.ntmps43
  go_wp2
  go_loopw [5] (fun i wr => ∃ k : Nat, k ≤ n ∧ i = .int .i64 (k : Int) ∧ Below w.heap.size w wr) (fun i _ => n - (intOf i).toNat)
  case atStart => exact ⟨0, by omega, rfl, Below.refl _ _⟩
  case round =>
    obtain ⟨k, hk, rfl, hb⟩ := hrel
    by_cases hlt : k < n
    · rcases HR.out with hz | ⟨b, off, rfl, hbl, hc⟩
      · omega
      · rcases HR'.out with hz | ⟨b', off', rfl, hbl', hc'⟩
        · omega
        · obtain ⟨f, hf⟩ : ∃ f, fs[k]? = some f := ⟨fs[k]'(by omega), List.getElem?_eq_getElem (by omega)⟩
          obtain ⟨c0, c1, c2⟩ := hc k f hf
          obtain ⟨d0, d1, d2⟩ := hc' k f hf
          have e0 : wr.cell? ⟨b, off + k * 3, none⟩ = some (.string f.name) := by rw [hb.cell hbl]; exact c0
          have e1 : wr.cell? ⟨b, off + k * 3 + 1, none⟩ = some (.string f.text) := by rw [hb.cell hbl]; exact c1
          have e2 : wr.cell? ⟨b, off + k * 3 + 2, none⟩ = some (.int .i64 f.kept) := by rw [hb.cell hbl]; exact c2
          have e3 : wr.cell? ⟨b', off' + k * 3, none⟩ = some (.string f.name) := by rw [hb.cell hbl']; exact d0
          have e4 : wr.cell? ⟨b', off' + k * 3 + 1, none⟩ = some (.string f.text) := by rw [hb.cell hbl']; exact d1
          have e5 : wr.cell? ⟨b', off' + k * 3 + 2, none⟩ = some (.int .i64 f.kept) := by rw [hb.cell hbl']; exact d2
          have b1 : (0 : Int) ≤ (k : Int) := by omega
          have b2 : (k : Int) < (n : Int) := by omega
          have HT : Hid (∀ W : World, Below w.heap.size w W → Calls Tryz.prog 86 #[.agg #[.string f.name, .string f.text, .int .i64 f.kept], .agg #[.string f.name, .string f.text, .int .i64 f.kept]] W fun e w' => e = .returned (.bool true) ∧ Below w.heap.size w w') := fun W hW =>
            (eqFile_yes f W).mono fun _ _ ⟨he, hb'⟩ => ⟨he, hW.trans (hb'.mono hW.size)⟩
          have HK : Hid (∀ W : World, Below w.heap.size w W → (W.cell? ⟨b, off + k * 3, none⟩ = some (.string f.name) ∧ W.cell? ⟨b, off + k * 3 + 1, none⟩ = some (.string f.text) ∧ W.cell? ⟨b, off + k * 3 + 2, none⟩ = some (.int .i64 f.kept) ∧ W.cell? ⟨b', off' + k * 3, none⟩ = some (.string f.name) ∧ W.cell? ⟨b', off' + k * 3 + 1, none⟩ = some (.string f.text) ∧ W.cell? ⟨b', off' + k * 3 + 2, none⟩ = some (.int .i64 f.kept))) := fun W hW =>
            ⟨by rw [hW.cell hbl]; exact c0, by rw [hW.cell hbl]; exact c1, by rw [hW.cell hbl]; exact c2, by rw [hW.cell hbl']; exact d0, by rw [hW.cell hbl']; exact d1, by rw [hW.cell hbl']; exact d2⟩
          have hbd := hb.drew
          clear c0 c1 c2 d0 d1 d2 hc hc' hf
          go_wp2
          go_region_held3 (fun u => Below w.heap.size w u ∧ u.cell? ⟨b, off + k * 3, none⟩ = some (.string f.name) ∧ u.cell? ⟨b, off + k * 3 + 1, none⟩ = some (.string f.text) ∧ u.cell? ⟨b, off + k * 3 + 2, none⟩ = some (.int .i64 f.kept) ∧ u.cell? ⟨b', off' + k * 3, none⟩ = some (.string f.name) ∧ u.cell? ⟨b', off' + k * 3 + 1, none⟩ = some (.string f.text) ∧ u.cell? ⟨b', off' + k * 3 + 2, none⟩ = some (.int .i64 f.kept))
            (first | exact ⟨hb3, HK.out _ hb3⟩ | exact ⟨hbd, HK.out _ hbd⟩)
            ((go_at_call 86; refine (HT.out _ hbd).mono ?_; rintro e w1 ⟨rfl, hb3⟩))
          clear hbd
          go_wp2
          go_roundw
          case rel => exact ⟨k + 1, by omega, by go_num, hb3⟩
          case measure => simp [intOf]; omega
    · go_wp2
      go_ret
      exact ⟨rfl, hb⟩

theorem eqDisk_same (fs : List FileV) (n : Nat) (a a' : Option Addr) (c c' : Nat) (hn : n ≤ 1048576) (w : World) (h : Fs w w.heap.size a n fs) (h' : Fs w w.heap.size a' n fs) :
    Calls Tryz.prog 17 #[.agg #[.slice a n c], .agg #[.slice a' n c']] w fun e w' => e = .returned (.bool true) ∧ Below w.heap.size w w' := by
  have up : ∀ {x : Option Addr}, Fs w w.heap.size x n fs → Fs ((w.alloc (.cells #[.slice a n c] 48)).alloc (.cells #[.slice a' n c'] 48)) ((w.alloc (.cells #[.slice a n c] 48)).alloc (.cells #[.slice a' n c'] 48)).heap.size x n fs :=
    fun hx => ((hx.alloc (Nat.le_refl _) _).alloc (by simp) _).mono (by simp; omega)
  have HT := hideIt (eqFileS_same fs n a a' c c' hn _ (up h) (up h'))
  clear up h h'
  go_enter Tryz.func17, Tryz.ntmps17
  go_wp2_with (go_at_call 43; refine HT.out.mono ?_; rintro e w1 ⟨rfl, hb1⟩)
  go_ret
  exact ⟨rfl, (((Below.refl _ _).alloc (Nat.le_refl _) _).alloc (by simp) _).trans (hb1.mono (by simp; omega))⟩
end Go.Proofs.YthnibebljbljdaaGreatDoor.F
