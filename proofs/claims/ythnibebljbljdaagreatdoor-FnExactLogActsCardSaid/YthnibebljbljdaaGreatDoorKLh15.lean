/- What the program's Frame and her reader of one frame answer. What the specification's SumMore, SumOf and the four bytes of a sum answer. What the specification's Sealed answers. What the specification's Frame answers. LogActs, both sides: a record's frame is added to the log and kept. What the laws' own marks and looks on acts answer: markActS with its cells, heldActS. -/
import Derived.Test.YthnibebljbljdaaGreatDoorKIUnseal
import Derived.Test.YthnibebljbljdaaGreatDoorKITy10
import Derived.Test.YthnibebljbljdaaGreatDoorKSRd10
import Derived.Test.YthnibebljbljdaaGreatDoorKRc14
import Derived.Test.YthnibebljbljdaaGreatDoorKOpenGraph
namespace Go.Proofs.YthnibebljbljdaaGreatDoor.F
open Go.RowKit Vt Crc

theorem vtS_size (n : Nat) : (vtS n).size ≤ n + 1 := by
  have := vt_length n n (Nat.le_refl _)
  simpa [vtS, ByteArray.size] using this

theorem recordOk_yes (n : Int) (h1 : 1 ≤ n) (h2 : n ≤ 9000) (w : World) :
    Calls Tryz.prog 82 #[.int .i64 n] w fun e w' => e = .returned (.bool true) ∧ w = w' := by
  go_enter Tryz.func82, Tryz.ntmps82
  go_wp2
  go_ret
  exact ⟨rfl, rfl⟩

theorem recordOk_no (n : Int) (h : n < 1 ∨ 9000 < n) (w : World) :
    Calls Tryz.prog 82 #[.int .i64 n] w fun e w' => e = .returned (.bool false) ∧ w = w' := by
  rcases h with h | h
  · have d1 : decide (1 ≤ n) = false := by simp; omega
    go_enter Tryz.func82, Tryz.ntmps82
    go_wp2
    go_ret
    exact ⟨rfl, rfl⟩
  · have d1 : decide (1 ≤ n) = true := by simp; omega
    have d2 : decide (n ≤ 9000) = false := by simp; omega
    go_enter Tryz.func82, Tryz.ntmps82
    go_wp2
    go_ret
    exact ⟨rfl, rfl⟩

theorem iVarText_S (N : Nat) (hN : N ≤ 1000000000) (w : World) :
    Calls Tryz.prog 83 #[.int .i64 (N : Int)] w fun e w' => e = .returned (.tuple #[.string (vtS N), .bool true]) ∧ Below w.heap.size w w' := iVarText_yes N hN w

theorem iFrame_no (s : ByteArray) (hs : s.size < 1 ∨ 9000 < s.size) (hm : s.size ≤ maxLen) (w : World) :
    Calls Tryz.prog 41 #[.string s] w fun e w' => e = .returned (.tuple #[.string ⟨#[]⟩, .bool false]) ∧ Below w.heap.size w w' := by
  unfold maxLen at hm
  go_enter Tryz.func41, Tryz.ntmps41
  go_wp2_with (go_at_call 82; refine (recordOk_no _ (by omega) _).mono ?_; rintro e w1 ⟨rfl, hw1⟩; subst hw1)
  go_ret2
  exact ⟨rfl, Below.refl _ _⟩

theorem frm_def (s : ByteArray) : vtS s.size ++ fourS (smS s) ++ s = frm s := rfl

set_option maxHeartbeats 1000000 in
theorem iFrame_yes (s : ByteArray) (h1 : 1 ≤ s.size) (h2 : s.size ≤ 9000) (w : World) (ht : Tab w) :
    Calls Tryz.prog 41 #[.string s] w fun e w' => e = .returned (.tuple #[.string (frm s), .bool true]) ∧ Below w.heap.size w w' := by
  have hl := smS_lt s
  have hz := fourS_size (smS s)
  have hv := vtS_size s.size
  have hm : s.size ≤ maxLen := by unfold maxLen; omega
  have HT := hidOf ht
  have E := hidOf (frm_def s)
  have ha1 := fun wx => run_string_add_sum (P := Tryz.prog) wx (vtS s.size) (fourS (smS s)) (by omega)
  have hz2 : (vtS s.size ++ fourS (smS s)).size = (vtS s.size).size + 4 := by rw [ByteArray.size_append, hz]
  have ha2 := fun wx => run_string_add_sum (P := Tryz.prog) wx (vtS s.size ++ fourS (smS s)) s (by omega)
  clear ht
  go_enter Tryz.func41, Tryz.ntmps41
  go_wp2_with (first
    | (go_at_call 82; refine (recordOk_yes _ (by omega) (by omega) _).mono ?_; rintro e w1 ⟨rfl, hw1⟩; subst hw1)
    | (go_at_call 83; refine (iVarText_S s.size (by omega) _).mono ?_; rintro e w1 ⟨rfl, hb1⟩)
    | (go_at_call 84; refine (iSumOf_S s hm _ (Tab.below HT.out hb1 (Nat.le_refl _))).mono ?_; rintro e w2 ⟨rfl, hw2⟩; subst hw2)
    | (go_at_call 85; refine (text_S (smS s) hl _).mono ?_; rintro e w2 ⟨rfl, hb2⟩))
  go_ret2
  exact ⟨by rw [← E.out]; rfl, hb1.trans (hb2.mono hb1.size)⟩

theorem iReadVar_at (s : ByteArray) (hs : s.size ≤ 20000) (a : Nat) (h : a ≤ s.size) (w : World) :
    Calls Tryz.prog 91 #[.string s, .int .i64 (a : Int)] w fun e w' => e = .returned (rvV (rv a (from_ s a))) ∧ w = w' :=
  (iReadVar_in s (by omega) a h w).mono fun _ _ h => ⟨h.1, h.2.symm⟩

theorem readFrame_none (s : ByteArray) (hs : s.size ≤ 20000) (a : Nat) (h : a ≤ s.size) (hr : rv a (from_ s a) = none) (w : World) :
    Calls Tryz.prog 62 #[.string s, .int .i64 (a : Int)] w fun e w' => e = .returned (rfV none) ∧ Below w.heap.size w w' := by
  have H : Hid (∀ w : World, Calls Tryz.prog 91 #[.string s, .int .i64 (a : Int)] w fun e w' => e = .returned (.tuple #[.int .i64 0, .int .i64 0, .bool false]) ∧ w = w') := fun w => by
    have := iReadVar_at s hs a h w
    rw [hr] at this
    exact this
  clear hr
  unfold rfV
  go_enter Tryz.func62, Tryz.ntmps62
  go_wp2_with (go_at_call 91; refine (H.out _).mono ?_; rintro e w1 ⟨rfl, hw1⟩; subst hw1)
  go_ret3
  exact ⟨rfl, Below.refl _ _⟩

theorem read_hid {s : ByteArray} (hs : s.size ≤ 20000) {a : Nat} (h : a ≤ s.size) {n j : Nat} (hr : rv a (from_ s a) = some (n, j)) :
    Hid (∀ w : World, Calls Tryz.prog 91 #[.string s, .int .i64 (a : Int)] w fun e w' => e = .returned (.tuple #[.int .i64 (n : Int), .int .i64 (j : Int), .bool true]) ∧ w = w') := fun w => by
  have := iReadVar_at s hs a h w
  rw [hr] at this
  exact this

theorem readFrame_no (s : ByteArray) (hs : s.size ≤ 20000) (a : Nat) (h : a ≤ s.size) (n j : Nat) (hr : rv a (from_ s a) = some (n, j)) (hc : ¬ (1 ≤ n ∧ n ≤ 9000 ∧ j + 4 + n ≤ s.size)) (w : World) :
    Calls Tryz.prog 62 #[.string s, .int .i64 (a : Int)] w fun e w' => e = .returned (rfV none) ∧ Below w.heap.size w w' := by
  have H := read_hid hs h hr
  have hb := rv_bounds hr
  have hj : j ≤ s.size := hb.2.2 h
  have hn := hb.1
  clear hr hb
  unfold rfV
  by_cases hok : 1 ≤ n ∧ n ≤ 9000
  · have d1 : decide ((s.size : Int) - (j : Int) - 4 < (n : Int)) = true := by simp; omega
    obtain ⟨k1, k2⟩ := hok
    clear hc
    go_enter Tryz.func62, Tryz.ntmps62
    go_wp2_with (first
      | (go_at_call 91; refine (H.out _).mono ?_; rintro e w1 ⟨rfl, hw1⟩; subst hw1)
      | (go_at_call 82; refine (recordOk_yes _ (by omega) (by omega) _).mono ?_; rintro e w1 ⟨rfl, hw1⟩; subst hw1))
    go_ret3
    exact ⟨rfl, Below.refl _ _⟩
  · clear hc
    go_enter Tryz.func62, Tryz.ntmps62
    go_wp2_with (first
      | (go_at_call 91; refine (H.out _).mono ?_; rintro e w1 ⟨rfl, hw1⟩; subst hw1)
      | (go_at_call 82; refine (recordOk_no _ (by omega) _).mono ?_; rintro e w1 ⟨rfl, hw1⟩; subst hw1))
    go_ret3
    exact ⟨rfl, Below.refl _ _⟩

set_option maxHeartbeats 1000000 in
theorem readFrame_in (s : ByteArray) (hs : s.size ≤ 20000) (a : Nat) (h : a ≤ s.size) (n j : Nat) (hr : rv a (from_ s a) = some (n, j)) (k1 : 1 ≤ n) (k2 : n ≤ 9000) (k3 : j + 4 + n ≤ s.size) (w : World) (ht : Tab w) :
    Calls Tryz.prog 62 #[.string s, .int .i64 (a : Int)] w fun e w' => e = .returned (rfV (rf s a)) ∧ Below w.heap.size w w' := by
  have H := read_hid hs h hr
  have d1 : decide ((s.size : Int) - (j : Int) - 4 < (n : Int)) = false := by simp; omega
  obtain ⟨R, hR⟩ : ∃ R, R = s.extract (j + 4) (j + 4 + n) := ⟨_, rfl⟩
  have n1 : ((j : Int) + 4).toNat = j + 4 := by omega
  have n2 : ((j : Int) + 4 + (n : Int)).toNat = j + 4 + n := by omega
  have n3 : (j : Int).toNat = j := by omega
  have b1 : (0 : Int) ≤ (j : Int) + 4 := by omega
  have b2 : (j : Int) + 4 ≤ (j : Int) + 4 + (n : Int) := by omega
  have b3 : (j : Int) + 4 + (n : Int) ≤ (s.size : Int) := by omega
  have b4 : (0 : Int) ≤ (j : Int) := by omega
  have b5 : (j : Int) ≤ (j : Int) + 4 := by omega
  have b6 : (j : Int) + 4 ≤ (s.size : Int) := by omega
  have hz : (s.extract (j + 4) (j + 4 + n)).size ≤ maxLen := by rw [ByteArray.size_extract]; unfold maxLen; omega
  have HT := hidOf ht
  have hS0 : St w w.drew := (St.here w).drew
  by_cases he : fourS (smS (s.extract (j + 4) (j + 4 + n))) = s.extract j (j + 4)
  · have E := hidOf (rf_yes hr k1 k2 k3 he)
    clear ht hr
    go_enter Tryz.func62, Tryz.ntmps62
    go_wp2_with (first
      | (go_at_call 91; refine (H.out _).mono ?_; rintro e w1 ⟨rfl, hw1⟩; subst hw1)
      | (go_at_call 82; refine (recordOk_yes _ (by omega) (by omega) _).mono ?_; rintro e w1 ⟨rfl, hw1⟩; subst hw1))
    go_region_held3 (fun u => St w u) (first | assumption | exact hS0) (first
      | (go_at_call 84; refine (iSumOf_St _ hz HT.out (by assumption)).mono ?_; rintro e w1 ⟨rfl, hS3⟩)
      | (go_at_call 85; refine (text_St _ (smS_lt _) (by assumption)).mono ?_; rintro e w1 ⟨rfl, hS3⟩))
    all_goals
      go_wp2
      go_ret3
      exact ⟨by rw [E.out]; simp [rfV], hS3⟩
  · have E := hidOf (rf_neq hr he)
    have d3 := str_neq he
    clear ht hr
    go_enter Tryz.func62, Tryz.ntmps62
    go_wp2_with (first
      | (go_at_call 91; refine (H.out _).mono ?_; rintro e w1 ⟨rfl, hw1⟩; subst hw1)
      | (go_at_call 82; refine (recordOk_yes _ (by omega) (by omega) _).mono ?_; rintro e w1 ⟨rfl, hw1⟩; subst hw1))
    go_region_held3 (fun u => St w u) (first | assumption | exact hS0) (first
      | (go_at_call 84; refine (iSumOf_St _ hz HT.out (by assumption)).mono ?_; rintro e w1 ⟨rfl, hS3⟩)
      | (go_at_call 85; refine (text_St _ (smS_lt _) (by assumption)).mono ?_; rintro e w1 ⟨rfl, hS3⟩))
    all_goals
      go_wp2
      go_ret3
      exact ⟨by rw [E.out]; rfl, hS3⟩

theorem readFrame_any (s : ByteArray) (hs : s.size ≤ 20000) (a : Nat) (h : a ≤ s.size) (w : World) (ht : Tab w) :
    Calls Tryz.prog 62 #[.string s, .int .i64 (a : Int)] w fun e w' => e = .returned (rfV (rf s a)) ∧ Below w.heap.size w w' := by
  cases hr : rv a (from_ s a) with
  | none => rw [rf_none hr]; exact readFrame_none s hs a h hr w
  | some x =>
    obtain ⟨n, j⟩ := x
    by_cases hc : 1 ≤ n ∧ n ≤ 9000 ∧ j + 4 + n ≤ s.size
    · exact readFrame_in s hs a h n j hr hc.1 hc.2.1 hc.2.2 w ht
    · rw [rf_no hr hc]; exact readFrame_no s hs a h n j hr hc w
end Go.Proofs.YthnibebljbljdaaGreatDoor.F
namespace Go.Proofs.YthnibebljbljdaaGreatDoor
open Go.RowKit Crc

def it : Nat → Nat → Nat
  | 0, x => x
  | n + 1, x => hf (it n x)

theorem it_lt {x : Nat} (h : x < 4294967296) : ∀ n, it n x < 4294967296
  | 0 => h
  | n + 1 => hf_lt (it_lt h n)

set_option maxHeartbeats 1000000 in
theorem sSumMore_any (x : Nat) (hx : x < 4294967296) (s : ByteArray) (hs : s.size ≤ maxLen) (w : World) :
    Calls Tryz.prog 90 #[.int .u32 (x : Int), .string s] w fun e w' => e = .returned (.int .u32 (sm x s.data.toList : Nat)) ∧ w = w' := by
  unfold maxLen at hs
  go_enter Tryz.func90, Tryz.ntmps90
  go_wp2
  go_loopw [0, 5] (fun u i wr => ∃ k : Nat, k ≤ s.size ∧ i = .int .i64 (k : Int) ∧ u = .int .u32 ((sm x (s.data.toList.take k) : Nat) : Int) ∧ wr = w)
    (fun _ i _ => s.size - (intOf i).toNat)
  case atStart => exact ⟨0, by omega, rfl, by simp [sm], rfl⟩
  case round =>
    obtain ⟨k, hk, rfl, rfl, rfl⟩ := hrel
    by_cases hlt : k < s.size
    · have hc := UInt8.toNat_lt (s[k])
      have b1 : (0 : Int) ≤ (k : Int) := by omega
      have b2 : (k : Int) < (s.size : Int) := by omega
      have hm := sm_lt hx (s.data.toList.take k)
      have hX := u32_xor_nat (sm x (s.data.toList.take k)) (s[k]).toNat hm (by omega)
      have hL := xb_lt hm (s[k])
      have hE : sm x (s.data.toList.take (k + 1)) = it 8 (sm x (s.data.toList.take k) ^^^ (s[k]).toNat) := by
        rw [bytes_snoc s k hlt, sm_snoc]; rfl
      generalize sm x (s.data.toList.take k) = y at *
      go_wp2
      generalize y ^^^ (s[k]).toNat = z at *
      go_loopw [0, 6] (fun u j wr' => ∃ m : Nat, m ≤ 8 ∧ j = .int .i64 (m : Int) ∧ u = .int .u32 ((it m z : Nat) : Int) ∧ wr' = wr)
        (fun _ j _ => 8 - (intOf j).toNat)
      case atStart => exact ⟨0, by omega, rfl, rfl, rfl⟩
      case round =>
        obtain ⟨m, hm8, rfl, rfl, rfl⟩ := hrel
        by_cases hlt8 : m < 8
        · have hi := it_lt hL m
          have hE2 : it (m + 1) z = hf (it m z) := rfl
          generalize it m z = v at *
          by_cases ho : v % 2 = 1
          · have d1 : decide ((v : Int) % 2 = 1) = true := by simp; omega
            have hX2 : bits BinOp.xor IntKind.u32 ((v : Int) / 2) 3558460437 = ((v / 2 ^^^ 3558460437 : Nat) : Int) := u32_xor_nat (v / 2) 3558460437 (by omega) (by omega)
            have hV : hf v = v / 2 ^^^ 3558460437 := by unfold hf poly; rw [if_pos ho]
            go_wp2
            go_roundw
            case rel => exact ⟨m + 1, by omega, by go_num, by rw [hE2, hV], trivial⟩
            case measure => simp [intOf]; omega
          · have d1 : decide ((v : Int) % 2 = 1) = false := by simp; omega
            have hV : hf v = v / 2 := by unfold hf; rw [if_neg ho]
            go_wp2
            go_roundw
            case rel => exact ⟨m + 1, by omega, by go_num, by rw [hE2, hV]; rfl, trivial⟩
            case measure => simp [intOf]; omega
        · obtain rfl : m = 8 := by omega
          rw [← hE]
          go_wp2
          go_roundw
          case rel => exact ⟨k + 1, by omega, by go_num, rfl, trivial⟩
          case measure => simp [intOf]; omega
    · have e : s.data.toList.take k = s.data.toList := List.take_of_length_le (by simp; omega)
      rw [e]
      go_wp2
      go_ret
      exact ⟨rfl, rfl⟩

theorem sSumOf_any (s : ByteArray) (hs : s.size ≤ maxLen) (w : World) :
    Calls Tryz.prog 60 #[.string s] w fun e w' => e = .returned (.int .u32 (sm 4294967295 s.data.toList : Nat)) ∧ w = w' := by
  go_enter Tryz.func60, Tryz.ntmps60
  go_wp2_with (go_at_call 90; refine (sSumMore_any 4294967295 (by omega) s hs _).mono ?_; rintro e w1 ⟨rfl, hw1⟩; subst hw1)
  go_ret
  exact ⟨rfl, rfl⟩

theorem l02Four_any (x : Nat) (hx : x < 4294967296) (w : World) :
    Calls Tryz.prog 59 #[.int .u32 (x : Int)] w fun e w' => e = .returned (.string ⟨(four x).toArray⟩) ∧ Below w.heap.size w w' := by
  have hc := four_conv x hx w
  go_enter Tryz.func59, Tryz.ntmps59
  go_wp2
  go_ret
  exact ⟨rfl, (Below.refl _ _).alloc (Nat.le_refl _) _⟩

end Go.Proofs.YthnibebljbljdaaGreatDoor
namespace Go.Proofs.YthnibebljbljdaaGreatDoor
open Go.RowKit Crc

theorem sSumOf_S (s : ByteArray) (hs : s.size ≤ maxLen) (w : World) :
    Calls Tryz.prog 60 #[.string s] w fun e w' => e = .returned (.int .u32 (smS s : Nat)) ∧ w = w' := sSumOf_any s hs w

theorem l02Four_S (x : Nat) (hx : x < 4294967296) (w : World) :
    Calls Tryz.prog 59 #[.int .u32 (x : Int)] w fun e w' => e = .returned (.string (fourS x)) ∧ Below w.heap.size w w' := l02Four_any x hx w

end Go.Proofs.YthnibebljbljdaaGreatDoor
namespace Go.Proofs.YthnibebljbljdaaGreatDoor.F
open Go.RowKit Vt Crc

theorem l01Var_S (N : Nat) (hN : N ≤ 1000000000) (w : World) :
    Calls Tryz.prog 58 #[.int .i64 (N : Int)] w fun e w' => e = .returned (.string (vtS N)) ∧ Below w.heap.size w w' := l01Var_any N hN w

theorem sFrame_no (s : ByteArray) (hs : s.size < 1 ∨ 9000 < s.size) (hm : s.size ≤ maxLen) (w : World) :
    Calls Tryz.prog 25 #[.string s] w fun e w' => e = .returned (.tuple #[.string ⟨#[]⟩, .bool false]) ∧ Below w.heap.size w w' := by
  unfold maxLen at hm
  go_enter Tryz.func25, Tryz.ntmps25
  go_wp2_with (go_at_call 57; refine (l01In_no _ _ _ (by omega) _).mono ?_; rintro e w' ⟨rfl, rfl⟩)
  go_ret2
  exact ⟨rfl, Below.refl _ _⟩

set_option maxHeartbeats 1000000 in
theorem sFrame_yes (s : ByteArray) (h1 : 1 ≤ s.size) (h2 : s.size ≤ 9000) (w : World) :
    Calls Tryz.prog 25 #[.string s] w fun e w' => e = .returned (.tuple #[.string (frm s), .bool true]) ∧ Below w.heap.size w w' := by
  have hl := smS_lt s
  have hz := fourS_size (smS s)
  have hv := vtS_size s.size
  have hm : s.size ≤ maxLen := by unfold maxLen; omega
  have E := hidOf (frm_def s)
  have ha1 := fun wx => run_string_add_sum (P := Tryz.prog) wx (vtS s.size) (fourS (smS s)) (by omega)
  have hz2 : (vtS s.size ++ fourS (smS s)).size = (vtS s.size).size + 4 := by rw [ByteArray.size_append, hz]
  have ha2 := fun wx => run_string_add_sum (P := Tryz.prog) wx (vtS s.size ++ fourS (smS s)) s (by omega)
  go_enter Tryz.func25, Tryz.ntmps25
  go_wp2_with (first
    | (go_at_call 57; refine (l01In_yes _ _ _ (by omega) (by omega) _).mono ?_; rintro e w' ⟨rfl, rfl⟩)
    | (go_at_call 58; refine (l01Var_S s.size (by omega) _).mono ?_; rintro e w1 ⟨rfl, hb1⟩)
    | (go_at_call 60; refine (sSumOf_S s hm _).mono ?_; rintro e w2 ⟨rfl, hw2⟩; subst hw2)
    | (go_at_call 59; refine (l02Four_S (smS s) hl _).mono ?_; rintro e w2 ⟨rfl, hb2⟩))
  go_ret2
  exact ⟨by rw [← E.out]; rfl, hb1.trans (hb2.mono hb1.size)⟩

end Go.Proofs.YthnibebljbljdaaGreatDoor.F
namespace Go.Proofs.YthnibebljbljdaaGreatDoor
open Go.RowKit Vt

theorem rText_len {n : Int} {r : RecV} (h : RecB n r) : 1 ≤ (rText r).length ∧ (rText r).length ≤ 400 := by
  have hv : ∀ x : Int, N5 x → (vt x.toNat).length ≤ 5 := fun x hx => vt_len14 _ (by have := hx.1; have := hx.2; omega)
  rcases h with ⟨hk, ⟨h1, h2, h3, h4⟩, _⟩ | ⟨hk, _, h1, ha, _⟩ | ⟨hk, _, _, _, ho⟩
  · unfold rText
    rw [if_pos hk]
    have := hv _ h1; have := hv _ h2; have := hv _ h3; have := hv _ h4
    simp only [List.length_cons, List.length_append]
    omega
  · unfold rText sht
    rw [if_neg (by omega), if_pos hk]
    have := hv _ h1; have q := aText_len ha; have := vt_len14 (aText r.an).length (by omega)
    simp only [List.length_cons, List.length_append]
    omega
  · unfold rText sht
    rw [if_neg (by omega), if_neg (by omega)]
    have q := oText_len ho; have := vt_len14 (oText r.o).length (by omega)
    simp only [List.length_cons, List.length_append]
    omega
def logS : ByteArray := ⟨#[108, 111, 103]⟩
/-- the two acts' cells -/
def lgC (f : ByteArray) : List Value := [.int .i64 1, .string logS, .string f, .string ⟨#[]⟩, .int .i64 2, .string logS, .string ⟨#[]⟩, .string ⟨#[]⟩]
theorem str_len14 (L : List UInt8) : (str L).size = L.length := str_size L
set_option maxRecDepth 100000 in
set_option maxHeartbeats 2000000 in
theorem iLogActs_yes (da : Option Addr) (dn dc : Nat) (n kind id op a b sh anum : Int) (aok : Bool) (aes : List EdgeV) (als : List Int) (onum oop : Int) (oes : List EdgeV) (ov : Int) (a1 : Option Addr) (k1 c1 : Nat) (a2 : Option Addr) (k2 c2 : Nat) (a3 : Option Addr) (k3 c3 : Nat) (w : World) (h1 : Es w w.heap.size a1 k1 aes) (h2 : Is w w.heap.size a2 k2 als) (h3 : Es w w.heap.size a3 k3 oes) (l1 : k1 ≤ 1048576) (l2 : k2 ≤ 1048576) (l3 : k3 ≤ 1048576) (hB : RecB n ⟨kind, id, op, a, b, sh, ⟨anum, aok, aes, als⟩, ⟨onum, oop, oes, ov⟩⟩) (ht : Tab w) :
    Calls Tryz.prog 15 #[.agg #[.slice da dn dc], .int .i64 n, .agg #[.int .i64 kind, .int .i64 id, .int .i64 op, .int .i64 a, .int .i64 b, .int .i64 sh, .int .i64 anum, .bool aok, .slice a1 k1 c1, .slice a2 k2 c2, .int .i64 onum, .int .i64 oop, .slice a3 k3 c3, .int .i64 ov]] w fun e w' => ∃ g, e = .returned (.tuple #[.slice (some ⟨g, 0, none⟩) 2 2, .bool true]) ∧ w'.ownsRow w.heap.size 83 4 (.slice (some ⟨g, 0, none⟩) 2 2) 2 (lgC (F.frm (str (rText ⟨kind, id, op, a, b, sh, ⟨anum, aok, aes, als⟩, ⟨onum, oop, oes, ov⟩⟩)))) ∧ Below w.heap.size w w' := by
  obtain ⟨W, hW⟩ : ∃ W, W = (w.alloc (.cells #[.slice da dn dc] 48)).alloc (.cells #[.int .i64 kind, .int .i64 id, .int .i64 op, .int .i64 a, .int .i64 b, .int .i64 sh, .int .i64 anum, .bool aok, .slice a1 k1 c1, .slice a2 k2 c2, .int .i64 onum, .int .i64 oop, .slice a3 k3 c3, .int .i64 ov] 57) := ⟨_, rfl⟩
  have bW : Good w W := by rw [hW]; exact ((Good.refl w).alloc _).alloc _
  have X : BxQ W (w.heap.size + 1) 57 #[.int .i64 kind, .int .i64 id, .int .i64 op, .int .i64 a, .int .i64 b, .int .i64 sh, .int .i64 anum, .bool aok, .slice a1 k1 c1, .slice a2 k2 c2, .int .i64 onum, .int .i64 oop, .slice a3 k3 c3, .int .i64 ov] := by
    have h := BxQ.new (w.alloc (.cells #[.slice da dn dc] 48)) 57 #[.int .i64 kind, .int .i64 id, .int .i64 op, .int .i64 a, .int .i64 b, .int .i64 sh, .int .i64 anum, .bool aok, .slice a1 k1 c1, .slice a2 k2 c2, .int .i64 onum, .int .i64 oop, .slice a3 k3 c3, .int .i64 ov]
    rw [show (w.alloc (.cells #[.slice da dn dc] 48)).heap.size = w.heap.size + 1 by simp] at h
    rw [hW]; exact h
  have HR := hideIt (iRecText_any n kind id op a b sh anum aok aes als onum oop oes ov a1 k1 c1 a2 k2 c2 a3 k3 c3 W (h1.up bW) (h2.up bW) (h3.up bW) l1 l2 l3)
  rw [rtV_yes hB] at HR
  have hl := rText_len hB
  obtain ⟨s, hs⟩ : ∃ s, s = str (rText ⟨kind, id, op, a, b, sh, ⟨anum, aok, aes, als⟩, ⟨onum, oop, oes, ov⟩⟩) := ⟨_, rfl⟩
  have hz := congrArg ByteArray.size hs
  rw [str_len14] at hz
  rw [← hs] at HR ⊢
  rw [← hz] at hl
  clear hs hz
  have HF : Hid (∀ u, Good w u → Calls Tryz.prog 41 #[.string s] u fun e v => e = .returned (.tuple #[.string (F.frm s), .bool true]) ∧ Below u.heap.size u v) := fun u hu => F.iFrame_yes s hl.1 (by omega) u (Tab.below ht hu (Nat.le_refl _))
  clear hl ht
  generalize F.frm s = f at *
  have x0 := X.at 0 rfl
  have x1 := X.at 1 rfl
  have x2 := X.at 2 rfl
  have x3 := X.at 3 rfl
  have x4 := X.at 4 rfl
  have x5 := X.at 5 rfl
  have x6 := X.at 6 rfl
  have x7 := X.at 7 rfl
  have x8 := X.at 8 rfl
  have x9 := X.at 9 rfl
  have x10 := X.at 10 rfl
  have x11 := X.at 11 rfl
  have x12 := X.at 12 rfl
  have x13 := X.at 13 rfl
  have HB := hideIt bW
  clear h1 h2 h3 X bW hB
  go_enter Tryz.func15, Tryz.ntmps15
  go_upto_region 1 with fail
  rw [← hW]
  clear hW
  go_wp2_with (first | (go_at_call 40; refine HR.out.mono ?_; rintro e w1 ⟨rfl, b1⟩; have g1 := HB.out.up b1) | (go_at_call 41; refine (HF.out _ g1).mono ?_; rintro e w2 ⟨rfl, b2⟩; have g2 := g1.up b2))
  go_ret2
  refine ⟨w2.heap.size, rfl, ⟨by simp [lgC], .inr ⟨w2.heap.size, _, _, rfl, g2.size, heap_alloc_new w2 _, ?_⟩⟩, g2.alloc _⟩
  simp [lgC, logS, maxLen]
set_option maxRecDepth 100000 in
set_option maxHeartbeats 2000000 in
theorem iLogActs_no (da : Option Addr) (dn dc : Nat) (n kind id op a b sh anum : Int) (aok : Bool) (aes : List EdgeV) (als : List Int) (onum oop : Int) (oes : List EdgeV) (ov : Int) (a1 : Option Addr) (k1 c1 : Nat) (a2 : Option Addr) (k2 c2 : Nat) (a3 : Option Addr) (k3 c3 : Nat) (w : World) (h1 : Es w w.heap.size a1 k1 aes) (h2 : Is w w.heap.size a2 k2 als) (h3 : Es w w.heap.size a3 k3 oes) (l1 : k1 ≤ 1048576) (l2 : k2 ≤ 1048576) (l3 : k3 ≤ 1048576) (hB : ¬ RecB n ⟨kind, id, op, a, b, sh, ⟨anum, aok, aes, als⟩, ⟨onum, oop, oes, ov⟩⟩) :
    Calls Tryz.prog 15 #[.agg #[.slice da dn dc], .int .i64 n, .agg #[.int .i64 kind, .int .i64 id, .int .i64 op, .int .i64 a, .int .i64 b, .int .i64 sh, .int .i64 anum, .bool aok, .slice a1 k1 c1, .slice a2 k2 c2, .int .i64 onum, .int .i64 oop, .slice a3 k3 c3, .int .i64 ov]] w fun e w' => ∃ x : Option Addr, e = .returned (.tuple #[.slice x 0 0, .bool false]) ∧ Below w.heap.size w w' := by
  obtain ⟨W, hW⟩ : ∃ W, W = (w.alloc (.cells #[.slice da dn dc] 48)).alloc (.cells #[.int .i64 kind, .int .i64 id, .int .i64 op, .int .i64 a, .int .i64 b, .int .i64 sh, .int .i64 anum, .bool aok, .slice a1 k1 c1, .slice a2 k2 c2, .int .i64 onum, .int .i64 oop, .slice a3 k3 c3, .int .i64 ov] 57) := ⟨_, rfl⟩
  have bW : Good w W := by rw [hW]; exact ((Good.refl w).alloc _).alloc _
  have X : BxQ W (w.heap.size + 1) 57 #[.int .i64 kind, .int .i64 id, .int .i64 op, .int .i64 a, .int .i64 b, .int .i64 sh, .int .i64 anum, .bool aok, .slice a1 k1 c1, .slice a2 k2 c2, .int .i64 onum, .int .i64 oop, .slice a3 k3 c3, .int .i64 ov] := by
    have h := BxQ.new (w.alloc (.cells #[.slice da dn dc] 48)) 57 #[.int .i64 kind, .int .i64 id, .int .i64 op, .int .i64 a, .int .i64 b, .int .i64 sh, .int .i64 anum, .bool aok, .slice a1 k1 c1, .slice a2 k2 c2, .int .i64 onum, .int .i64 oop, .slice a3 k3 c3, .int .i64 ov]
    rw [show (w.alloc (.cells #[.slice da dn dc] 48)).heap.size = w.heap.size + 1 by simp] at h
    rw [hW]; exact h
  have HR := hideIt (iRecText_any n kind id op a b sh anum aok aes als onum oop oes ov a1 k1 c1 a2 k2 c2 a3 k3 c3 W (h1.up bW) (h2.up bW) (h3.up bW) l1 l2 l3)
  rw [rtV_no hB] at HR
  have x0 := X.at 0 rfl
  have x1 := X.at 1 rfl
  have x2 := X.at 2 rfl
  have x3 := X.at 3 rfl
  have x4 := X.at 4 rfl
  have x5 := X.at 5 rfl
  have x6 := X.at 6 rfl
  have x7 := X.at 7 rfl
  have x8 := X.at 8 rfl
  have x9 := X.at 9 rfl
  have x10 := X.at 10 rfl
  have x11 := X.at 11 rfl
  have x12 := X.at 12 rfl
  have x13 := X.at 13 rfl
  have HB := hideIt bW
  clear h1 h2 h3 X bW hB
  go_enter Tryz.func15, Tryz.ntmps15
  go_upto_region 1 with fail
  rw [← hW]
  clear hW
  go_wp2_with (go_at_call 40; refine HR.out.mono ?_; rintro e w1 ⟨rfl, b1⟩; have g1 := HB.out.up b1)
  go_ret2
  exact ⟨_, rfl, g1⟩
set_option maxRecDepth 100000 in
set_option maxHeartbeats 2000000 in
theorem sLogActs_yes (da : Option Addr) (dn dc : Nat) (n kind id op a b sh anum : Int) (aok : Bool) (aes : List EdgeV) (als : List Int) (onum oop : Int) (oes : List EdgeV) (ov : Int) (a1 : Option Addr) (k1 c1 : Nat) (a2 : Option Addr) (k2 c2 : Nat) (a3 : Option Addr) (k3 c3 : Nat) (w : World) (h1 : Es w w.heap.size a1 k1 aes) (h2 : Is w w.heap.size a2 k2 als) (h3 : Es w w.heap.size a3 k3 oes) (l1 : k1 ≤ 1048576) (l2 : k2 ≤ 1048576) (l3 : k3 ≤ 1048576) (hB : RecB n ⟨kind, id, op, a, b, sh, ⟨anum, aok, aes, als⟩, ⟨onum, oop, oes, ov⟩⟩) :
    Calls Tryz.prog 12 #[.agg #[.slice da dn dc], .int .i64 n, .agg #[.int .i64 kind, .int .i64 id, .int .i64 op, .int .i64 a, .int .i64 b, .int .i64 sh, .int .i64 anum, .bool aok, .slice a1 k1 c1, .slice a2 k2 c2, .int .i64 onum, .int .i64 oop, .slice a3 k3 c3, .int .i64 ov]] w fun e w' => ∃ g, e = .returned (.tuple #[.slice (some ⟨g, 0, none⟩) 2 2, .bool true]) ∧ w'.ownsRow w.heap.size 83 4 (.slice (some ⟨g, 0, none⟩) 2 2) 2 (lgC (F.frm (str (rText ⟨kind, id, op, a, b, sh, ⟨anum, aok, aes, als⟩, ⟨onum, oop, oes, ov⟩⟩)))) ∧ Below w.heap.size w w' := by
  obtain ⟨W, hW⟩ : ∃ W, W = (w.alloc (.cells #[.slice da dn dc] 48)).alloc (.cells #[.int .i64 kind, .int .i64 id, .int .i64 op, .int .i64 a, .int .i64 b, .int .i64 sh, .int .i64 anum, .bool aok, .slice a1 k1 c1, .slice a2 k2 c2, .int .i64 onum, .int .i64 oop, .slice a3 k3 c3, .int .i64 ov] 57) := ⟨_, rfl⟩
  have bW : Good w W := by rw [hW]; exact ((Good.refl w).alloc _).alloc _
  have X : BxQ W (w.heap.size + 1) 57 #[.int .i64 kind, .int .i64 id, .int .i64 op, .int .i64 a, .int .i64 b, .int .i64 sh, .int .i64 anum, .bool aok, .slice a1 k1 c1, .slice a2 k2 c2, .int .i64 onum, .int .i64 oop, .slice a3 k3 c3, .int .i64 ov] := by
    have h := BxQ.new (w.alloc (.cells #[.slice da dn dc] 48)) 57 #[.int .i64 kind, .int .i64 id, .int .i64 op, .int .i64 a, .int .i64 b, .int .i64 sh, .int .i64 anum, .bool aok, .slice a1 k1 c1, .slice a2 k2 c2, .int .i64 onum, .int .i64 oop, .slice a3 k3 c3, .int .i64 ov]
    rw [show (w.alloc (.cells #[.slice da dn dc] 48)).heap.size = w.heap.size + 1 by simp] at h
    rw [hW]; exact h
  have HR := hideIt (sRecText_any n kind id op a b sh anum aok aes als onum oop oes ov a1 k1 c1 a2 k2 c2 a3 k3 c3 W (h1.up bW) (h2.up bW) (h3.up bW) l1 l2 l3)
  rw [rtV_yes hB] at HR
  have hl := rText_len hB
  obtain ⟨s, hs⟩ : ∃ s, s = str (rText ⟨kind, id, op, a, b, sh, ⟨anum, aok, aes, als⟩, ⟨onum, oop, oes, ov⟩⟩) := ⟨_, rfl⟩
  have hz := congrArg ByteArray.size hs
  rw [str_len14] at hz
  rw [← hs] at HR ⊢
  rw [← hz] at hl
  clear hs hz
  have HF : Hid (∀ u, Good w u → Calls Tryz.prog 25 #[.string s] u fun e v => e = .returned (.tuple #[.string (F.frm s), .bool true]) ∧ Below u.heap.size u v) := fun u _ => F.sFrame_yes s hl.1 (by omega) u
  clear hl
  generalize F.frm s = f at *
  have x0 := X.at 0 rfl
  have x1 := X.at 1 rfl
  have x2 := X.at 2 rfl
  have x3 := X.at 3 rfl
  have x4 := X.at 4 rfl
  have x5 := X.at 5 rfl
  have x6 := X.at 6 rfl
  have x7 := X.at 7 rfl
  have x8 := X.at 8 rfl
  have x9 := X.at 9 rfl
  have x10 := X.at 10 rfl
  have x11 := X.at 11 rfl
  have x12 := X.at 12 rfl
  have x13 := X.at 13 rfl
  have HB := hideIt bW
  clear h1 h2 h3 X bW hB
  go_enter Tryz.func12, Tryz.ntmps12
  go_upto_region 1 with fail
  rw [← hW]
  clear hW
  go_wp2_with (first | (go_at_call 35; refine HR.out.mono ?_; rintro e w1 ⟨rfl, b1⟩; have g1 := HB.out.up b1) | (go_at_call 25; refine (HF.out _ g1).mono ?_; rintro e w2 ⟨rfl, b2⟩; have g2 := g1.up b2))
  go_ret2
  refine ⟨w2.heap.size, rfl, ⟨by simp [lgC], .inr ⟨w2.heap.size, _, _, rfl, g2.size, heap_alloc_new w2 _, ?_⟩⟩, g2.alloc _⟩
  simp [lgC, logS, maxLen]
set_option maxRecDepth 100000 in
set_option maxHeartbeats 2000000 in
theorem sLogActs_no (da : Option Addr) (dn dc : Nat) (n kind id op a b sh anum : Int) (aok : Bool) (aes : List EdgeV) (als : List Int) (onum oop : Int) (oes : List EdgeV) (ov : Int) (a1 : Option Addr) (k1 c1 : Nat) (a2 : Option Addr) (k2 c2 : Nat) (a3 : Option Addr) (k3 c3 : Nat) (w : World) (h1 : Es w w.heap.size a1 k1 aes) (h2 : Is w w.heap.size a2 k2 als) (h3 : Es w w.heap.size a3 k3 oes) (l1 : k1 ≤ 1048576) (l2 : k2 ≤ 1048576) (l3 : k3 ≤ 1048576) (hB : ¬ RecB n ⟨kind, id, op, a, b, sh, ⟨anum, aok, aes, als⟩, ⟨onum, oop, oes, ov⟩⟩) :
    Calls Tryz.prog 12 #[.agg #[.slice da dn dc], .int .i64 n, .agg #[.int .i64 kind, .int .i64 id, .int .i64 op, .int .i64 a, .int .i64 b, .int .i64 sh, .int .i64 anum, .bool aok, .slice a1 k1 c1, .slice a2 k2 c2, .int .i64 onum, .int .i64 oop, .slice a3 k3 c3, .int .i64 ov]] w fun e w' => ∃ x : Option Addr, e = .returned (.tuple #[.slice x 0 0, .bool false]) ∧ Below w.heap.size w w' := by
  obtain ⟨W, hW⟩ : ∃ W, W = (w.alloc (.cells #[.slice da dn dc] 48)).alloc (.cells #[.int .i64 kind, .int .i64 id, .int .i64 op, .int .i64 a, .int .i64 b, .int .i64 sh, .int .i64 anum, .bool aok, .slice a1 k1 c1, .slice a2 k2 c2, .int .i64 onum, .int .i64 oop, .slice a3 k3 c3, .int .i64 ov] 57) := ⟨_, rfl⟩
  have bW : Good w W := by rw [hW]; exact ((Good.refl w).alloc _).alloc _
  have X : BxQ W (w.heap.size + 1) 57 #[.int .i64 kind, .int .i64 id, .int .i64 op, .int .i64 a, .int .i64 b, .int .i64 sh, .int .i64 anum, .bool aok, .slice a1 k1 c1, .slice a2 k2 c2, .int .i64 onum, .int .i64 oop, .slice a3 k3 c3, .int .i64 ov] := by
    have h := BxQ.new (w.alloc (.cells #[.slice da dn dc] 48)) 57 #[.int .i64 kind, .int .i64 id, .int .i64 op, .int .i64 a, .int .i64 b, .int .i64 sh, .int .i64 anum, .bool aok, .slice a1 k1 c1, .slice a2 k2 c2, .int .i64 onum, .int .i64 oop, .slice a3 k3 c3, .int .i64 ov]
    rw [show (w.alloc (.cells #[.slice da dn dc] 48)).heap.size = w.heap.size + 1 by simp] at h
    rw [hW]; exact h
  have HR := hideIt (sRecText_any n kind id op a b sh anum aok aes als onum oop oes ov a1 k1 c1 a2 k2 c2 a3 k3 c3 W (h1.up bW) (h2.up bW) (h3.up bW) l1 l2 l3)
  rw [rtV_no hB] at HR
  have x0 := X.at 0 rfl
  have x1 := X.at 1 rfl
  have x2 := X.at 2 rfl
  have x3 := X.at 3 rfl
  have x4 := X.at 4 rfl
  have x5 := X.at 5 rfl
  have x6 := X.at 6 rfl
  have x7 := X.at 7 rfl
  have x8 := X.at 8 rfl
  have x9 := X.at 9 rfl
  have x10 := X.at 10 rfl
  have x11 := X.at 11 rfl
  have x12 := X.at 12 rfl
  have x13 := X.at 13 rfl
  have HB := hideIt bW
  clear h1 h2 h3 X bW hB
  go_enter Tryz.func12, Tryz.ntmps12
  go_upto_region 1 with fail
  rw [← hW]
  clear hW
  go_wp2_with (go_at_call 35; refine HR.out.mono ?_; rintro e w1 ⟨rfl, b1⟩; have g1 := HB.out.up b1)
  go_ret2
  exact ⟨_, rfl, g1.alloc _⟩
end Go.Proofs.YthnibebljbljdaaGreatDoor
namespace Go.Proofs.YthnibebljbljdaaGreatDoor.F
open Go.RowKit

/-- the marked act of a number -/
def mact (k : Nat) : ActV := ⟨(k : Int), mk (k + 1), mk (k + 2), mk (k + 3)⟩
/-- n marked acts from k0 on -/
def amarks (k0 n : Nat) : List ActV := (List.range n).map fun t => mact (k0 + t * 4)
theorem amarks_snoc (k0 n : Nat) : amarks k0 (n + 1) = amarks k0 n ++ [mact (k0 + n * 4)] := by simp [amarks, List.range_succ]
theorem amarks_at (k0 n j : Nat) (h : j < n) : (amarks k0 n)[j]? = some (mact (k0 + j * 4)) := by simp [amarks, h]
theorem amarks_length (k0 n : Nat) : (amarks k0 n).length = n := by simp [amarks]

set_option maxRecDepth 100000 in
set_option maxHeartbeats 4000000 in
theorem markActS_marks (base g c n k0 : Nat) (xs0 : List Value) (hn : n ≤ 1048576) (hk0 : 0 < k0) (hk1 : k0 ≤ 10000000) (w : World) (h : w.ownsRow base 83 4 (.slice (some ⟨g, 0, none⟩) n c) n xs0) :
    Calls Tryz.prog 21 #[.slice (some ⟨g, 0, none⟩) n c, .int .i64 (k0 : Int)] w fun e w' => e = .returned (.int .i64 ((k0 : Int) + (n : Int) * 4)) ∧ w'.ownsRow base 83 4 (.slice (some ⟨g, 0, none⟩) n c) n (acells (amarks k0 n)) ∧ w.grownBy w' (some g) := by
  have H0 := hideIt h
  have HM := hideIt (fun (U : Nat) (h0 : 0 < U) (h1 : U ≤ 1000000000) (x : Int) (hx : (U : Int) = x) u => hx ▸ markText_any U h0 h1 u)
  clear h
  go_enter Tryz.func21, Tryz.ntmps21
  go_wp2
  go_loopw [1, 5] (fun q i wr => ∃ (k : Nat) (xs : List Value), k ≤ n ∧ i = .int .i64 (k : Int) ∧ q = .int .i64 ((k0 : Int) + (k : Int) * 4) ∧ Hid (xs.take (k * 4) = acells (amarks k0 k)) ∧ wr.ownsRow base 83 4 (.slice (some ⟨g, 0, none⟩) n c) n xs ∧ w.grownBy wr (some g)) (fun _ i _ => n - (intOf i).toNat)
  case atStart => exact ⟨0, xs0, by omega, rfl, by simp, (by show _ = _; simp [acells, amarks]), H0.out, ⟨rfl, rfl, rfl, Nat.le_refl _, fun _ _ _ => rfl⟩⟩
  case round =>
    obtain ⟨k, xs, hk, rfl, rfl, hx, hown, hg⟩ := hrel
    have hl3 : xs.length = n * 4 := hown.1
    by_cases hlt : k < n
    · have b1 : (0 : Int) ≤ (k : Int) := by omega
      have b2 : (k : Int) < (n : Int) := by omega
      have f0 := hown.frozenAt (k * 4)
      have x0 : wr.cell? ⟨g, k * 4, none⟩ = some (xs[k * 4]'(by omega)) := by rw [hown.cellAt (k * 4) (by omega)]; exact List.getElem?_eq_getElem (by omega)
      have o1 := (hown.stored (k * 4) (.int .i64 ((k0 : Int) + (k : Int) * 4))).1
      have g1 := grown_set hg (k * 4) (.int .i64 ((k0 : Int) + (k : Int) * 4))
      have HC1 := hideIt (fun u => HM.out (k0 + k * 4 + 1) (by omega) (by omega) ((k0 : Int) + (k : Int) * 4 + 1) (by omega) u)
      go_wp2_with (go_at_call 50; refine (HC1.out _).mono ?_; rintro e w1 ⟨rfl, hb1⟩; refine Hid.out ?_)
      refine (show ∀ {p : Prop}, p → Hid p from fun h => h) ?_
      have ow1 := World.ownsRow.kept o1 (row := none) ⟨hb1.os, hb1.tape, hb1.output, hb1.size, fun i hi _ => hb1.block i hi⟩ (.inr (by simp [Value.ownBlock]))
      have gw1 := grown_up g1 hb1
      have hlw1 := ow1.1
      have f1 := ow1.frozenAt (k * 4 + 1)
      have x1 := ow1.cellAt (k * 4 + 1) (by omega)
      rw [List.getElem?_eq_getElem (by omega)] at x1
      have o2 := (ow1.stored (k * 4 + 1) (.string (mk (k0 + k * 4 + 1)))).1
      have g2 := grown_set gw1 (k * 4 + 1) (.string (mk (k0 + k * 4 + 1)))
      clear hb1 HC1
      have HC2 := hideIt (fun u => HM.out (k0 + k * 4 + 2) (by omega) (by omega) ((k0 : Int) + (k : Int) * 4 + 2) (by omega) u)
      go_wp2_with (go_at_call 50; refine (HC2.out _).mono ?_; rintro e w2 ⟨rfl, hb2⟩; refine Hid.out ?_)
      refine (show ∀ {p : Prop}, p → Hid p from fun h => h) ?_
      have ow2 := World.ownsRow.kept o2 (row := none) ⟨hb2.os, hb2.tape, hb2.output, hb2.size, fun i hi _ => hb2.block i hi⟩ (.inr (by simp [Value.ownBlock]))
      have gw2 := grown_up g2 hb2
      have hlw2 := ow2.1
      have f2 := ow2.frozenAt (k * 4 + 2)
      have x2 := ow2.cellAt (k * 4 + 2) (by omega)
      rw [List.getElem?_eq_getElem (by omega)] at x2
      have o3 := (ow2.stored (k * 4 + 2) (.string (mk (k0 + k * 4 + 2)))).1
      have g3 := grown_set gw2 (k * 4 + 2) (.string (mk (k0 + k * 4 + 2)))
      clear hb2 HC2
      have HC3 := hideIt (fun u => HM.out (k0 + k * 4 + 3) (by omega) (by omega) ((k0 : Int) + (k : Int) * 4 + 3) (by omega) u)
      go_wp2_with (go_at_call 50; refine (HC3.out _).mono ?_; rintro e w3 ⟨rfl, hb3⟩; refine Hid.out ?_)
      refine (show ∀ {p : Prop}, p → Hid p from fun h => h) ?_
      have ow3 := World.ownsRow.kept o3 (row := none) ⟨hb3.os, hb3.tape, hb3.output, hb3.size, fun i hi _ => hb3.block i hi⟩ (.inr (by simp [Value.ownBlock]))
      have gw3 := grown_up g3 hb3
      have hlw3 := ow3.1
      have f3 := ow3.frozenAt (k * 4 + 3)
      have x3 := ow3.cellAt (k * 4 + 3) (by omega)
      rw [List.getElem?_eq_getElem (by omega)] at x3
      have o4 := (ow3.stored (k * 4 + 3) (.string (mk (k0 + k * 4 + 3)))).1
      have g4 := grown_set gw3 (k * 4 + 3) (.string (mk (k0 + k * 4 + 3)))
      have HX : Hid (((((xs.set (k * 4) (.int .i64 ((k0 : Int) + (k : Int) * 4))).set (k * 4 + 1) (.string (mk (k0 + k * 4 + 1)))).set (k * 4 + 2) (.string (mk (k0 + k * 4 + 2)))).set (k * 4 + 3) (.string (mk (k0 + k * 4 + 3)))).take ((k + 1) * 4) = acells (amarks k0 (k + 1))) := by
        show _ = _
        rw [show (k + 1) * 4 = k * 4 + 4 by omega, take_set4 _ _ _ _ _ _ (by omega), hx.out, amarks_snoc, acells_snoc]
        simp [mact]
      have HO4 := hideIt o4
      have HG4 := hideIt g4
      clear hb3 HC3 hx o4 g4
      go_wp2
      exact ⟨⟨k + 1, _, by omega, by go_num, by go_num, HX, HO4.out, HG4.out⟩, by simp [intOf]; omega⟩
    · obtain rfl : k = n := by omega
      have HX : Hid (xs = acells (amarks k0 k)) := by
        show _ = _
        have := hx.out
        rw [List.take_of_length_le (by omega)] at this
        exact this
      have HO := hideIt hown
      clear hx hown
      go_wp2
      go_ret
      exact ⟨rfl, by rw [← HX.out]; exact HO.out, hg⟩

set_option maxRecDepth 100000 in
set_option maxHeartbeats 4000000 in
theorem heldActS_any (n k0 : Nat) (a : Option Addr) (c : Nat) (hn : n ≤ 1048576) (hk0 : 0 < k0) (hk1 : k0 ≤ 10000000) (w : World) (h : As w w.heap.size a n (amarks k0 n)) :
    Calls Tryz.prog 22 #[.slice a n c, .int .i64 (k0 : Int)] w fun e w' => e = .returned (.int .i64 ((k0 : Int) + (n : Int) * 4)) ∧ Below w.heap.size w w' := by
  obtain ⟨_, hrow⟩ := h
  have HR := hideIt hrow
  clear hrow
  go_enter Tryz.func22, Tryz.ntmps22
  go_wp2
  go_loopw [1, 5] (fun kk i wr => ∃ j : Nat, j ≤ n ∧ i = .int .i64 (j : Int) ∧ kk = .int .i64 ((k0 : Int) + (j : Int) * 4) ∧ Below w.heap.size w wr) (fun _ i _ => n - (intOf i).toNat)
  case atStart => exact ⟨0, by omega, rfl, by simp, Below.refl _ _⟩
  case round =>
    obtain ⟨j, hj, rfl, rfl, hb⟩ := hrel
    by_cases hlt : j < n
    · rcases HR.out with hz | ⟨b, off, rfl, hbl, hc⟩
      · omega
      · obtain ⟨c0, c1, c2, c3⟩ := hc j _ (amarks_at k0 n j hlt)
        have HK : Hid (∀ u, Good w u → u.cell? ⟨b, off + j * 4, none⟩ = some (.int .i64 ((k0 : Int) + (j : Int) * 4)) ∧ u.cell? ⟨b, off + j * 4 + 1, none⟩ = some (.string (mk (k0 + j * 4 + 1))) ∧ u.cell? ⟨b, off + j * 4 + 2, none⟩ = some (.string (mk (k0 + j * 4 + 2))) ∧ u.cell? ⟨b, off + j * 4 + 3, none⟩ = some (.string (mk (k0 + j * 4 + 3)))) := fun u hu => by
          refine ⟨?_, by rw [hu.cell hbl]; exact c1, by rw [hu.cell hbl]; exact c2, by rw [hu.cell hbl]; exact c3⟩
          rw [hu.cell hbl, c0]
          simp [mact]
        have HT1 : Hid (∀ u : World, Good w u → Calls Tryz.prog 50 #[.int .i64 ((k0 : Int) + (j : Int) * 4 + 1)] u fun e w' => e = .returned (.string (mk (k0 + j * 4 + 1))) ∧ Good w w') := fun u hu => by
          have := markText_any (k0 + j * 4 + 1) (by omega) (by omega) u
          rw [show ((k0 + j * 4 + 1 : Nat) : Int) = (k0 : Int) + (j : Int) * 4 + 1 by omega] at this
          exact this.mono fun _ _ ⟨he, hb⟩ => ⟨he, Below.trans hu (hb.mono (Below.size hu))⟩
        have HT2 : Hid (∀ u : World, Good w u → Calls Tryz.prog 50 #[.int .i64 ((k0 : Int) + (j : Int) * 4 + 2)] u fun e w' => e = .returned (.string (mk (k0 + j * 4 + 2))) ∧ Good w w') := fun u hu => by
          have := markText_any (k0 + j * 4 + 2) (by omega) (by omega) u
          rw [show ((k0 + j * 4 + 2 : Nat) : Int) = (k0 : Int) + (j : Int) * 4 + 2 by omega] at this
          exact this.mono fun _ _ ⟨he, hb⟩ => ⟨he, Below.trans hu (hb.mono (Below.size hu))⟩
        have HT3 : Hid (∀ u : World, Good w u → Calls Tryz.prog 50 #[.int .i64 ((k0 : Int) + (j : Int) * 4 + 3)] u fun e w' => e = .returned (.string (mk (k0 + j * 4 + 3))) ∧ Good w w') := fun u hu => by
          have := markText_any (k0 + j * 4 + 3) (by omega) (by omega) u
          rw [show ((k0 + j * 4 + 3 : Nat) : Int) = (k0 : Int) + (j : Int) * 4 + 3 by omega] at this
          exact this.mono fun _ _ ⟨he, hb⟩ => ⟨he, Below.trans hu (hb.mono (Below.size hu))⟩
        have b1 : (0 : Int) ≤ (j : Int) := by omega
        have b2 : (j : Int) < (n : Int) := by omega
        have e0 := (HK.out _ hb).1
        have S0 : Good w wr.drew := hb.drew
        clear hc c0 c1 c2 c3
        go_wp2
        go_region_held3 (fun u => Good w u ∧ u.cell? ⟨b, off + j * 4 + 1, none⟩ = some (.string (mk (k0 + j * 4 + 1))))
          (first | exact ⟨S1, (HK.out _ S1).2.1⟩ | exact ⟨S0, (HK.out _ S0).2.1⟩)
          ((go_at_call 50; refine (HT1.out _ S0).mono ?_; rintro e w1 ⟨rfl, S1⟩))
        clear S0 HT1
        have T1 : Good w w1.drew := Below.drew S1
        go_wp2
        go_region_held3 (fun u => Good w u ∧ u.cell? ⟨b, off + j * 4 + 2, none⟩ = some (.string (mk (k0 + j * 4 + 2))))
          (first | exact ⟨S2, (HK.out _ S2).2.2.1⟩ | exact ⟨T1, (HK.out _ T1).2.2.1⟩)
          ((go_at_call 50; refine (HT2.out _ T1).mono ?_; rintro e w2 ⟨rfl, S2⟩))
        clear T1 HT2
        have T2 : Good w w2.drew := Below.drew S2
        go_wp2
        go_region_held3 (fun u => Good w u ∧ u.cell? ⟨b, off + j * 4 + 3, none⟩ = some (.string (mk (k0 + j * 4 + 3))))
          (first | exact ⟨S3, (HK.out _ S3).2.2.2⟩ | exact ⟨T2, (HK.out _ T2).2.2.2⟩)
          ((go_at_call 50; refine (HT3.out _ T2).mono ?_; rintro e w3 ⟨rfl, S3⟩))
        clear T2 HT3
        clear HK
        go_wp2
        exact ⟨⟨j + 1, by omega, by go_num, by go_num, S3⟩, by simp [intOf]; omega⟩
    · obtain rfl : j = n := by omega
      go_wp2
      go_ret
      exact ⟨rfl, hb⟩
end Go.Proofs.YthnibebljbljdaaGreatDoor.F
