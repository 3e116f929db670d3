/- What the program's Frame and her reader of one frame answer. -/
import Derived.Test.YtegknhnmfaafmaaDoorFr
import Derived.Test.YtegknhnmfaafmaaDoorIVar
import Derived.Test.YtegknhnmfaafmaaDoorIUnseal
namespace Go.Proofs.YtegknhnmfaafmaaDoor
open Go.RowKit Vt Crc

theorem vtS_size (n : Nat) : (vtS n).size ≤ n + 1 := by
  have := vt_length n n (Nat.le_refl _)
  simpa [vtS, ByteArray.size] using this

theorem recordOk_yes (n : Int) (h1 : 1 ≤ n) (h2 : n ≤ 9000) (w : World) :
    Calls Tryd.prog 23 #[.int .i64 n] w fun e w' => e = .returned (.bool true) ∧ w = w' := by
  go_enter Tryd.func23, Tryd.ntmps23
  go_wp2
  go_ret
  exact ⟨rfl, rfl⟩

theorem recordOk_no (n : Int) (h : n < 1 ∨ 9000 < n) (w : World) :
    Calls Tryd.prog 23 #[.int .i64 n] w fun e w' => e = .returned (.bool false) ∧ w = w' := by
  rcases h with h | h
  · have d1 : decide (1 ≤ n) = false := by simp; omega
    go_enter Tryd.func23, Tryd.ntmps23
    go_wp2
    go_ret
    exact ⟨rfl, rfl⟩
  · have d1 : decide (1 ≤ n) = true := by simp; omega
    have d2 : decide (n ≤ 9000) = false := by simp; omega
    go_enter Tryd.func23, Tryd.ntmps23
    go_wp2
    go_ret
    exact ⟨rfl, rfl⟩

theorem iVarText_S (N : Nat) (hN : N ≤ 1000000000) (w : World) :
    Calls Tryd.prog 24 #[.int .i64 (N : Int)] w fun e w' => e = .returned (.tuple #[.string (vtS N), .bool true]) ∧ Below w.heap.size w w' := iVarText_yes N hN w

theorem iFrame_no (s : ByteArray) (hs : s.size < 1 ∨ 9000 < s.size) (hm : s.size ≤ maxLen) (w : World) :
    Calls Tryd.prog 9 #[.string s] w fun e w' => e = .returned (.tuple #[.string ⟨#[]⟩, .bool false]) ∧ Below w.heap.size w w' := by
  unfold maxLen at hm
  go_enter Tryd.func9, Tryd.ntmps9
  go_wp2_with (go_at_call 23; refine (recordOk_no _ (by omega) _).mono ?_; rintro e w1 ⟨rfl, hw1⟩; subst hw1)
  go_ret2
  exact ⟨rfl, Below.refl _ _⟩

theorem frm_def (s : ByteArray) : vtS s.size ++ fourS (smS s) ++ s = frm s := rfl

set_option maxHeartbeats 1000000 in
theorem iFrame_yes (s : ByteArray) (h1 : 1 ≤ s.size) (h2 : s.size ≤ 9000) (w : World) (ht : Tab w) :
    Calls Tryd.prog 9 #[.string s] w fun e w' => e = .returned (.tuple #[.string (frm s), .bool true]) ∧ Below w.heap.size w w' := by
  have hl := smS_lt s
  have hz := fourS_size (smS s)
  have hv := vtS_size s.size
  have hm : s.size ≤ maxLen := by unfold maxLen; omega
  have HT := hidOf ht
  have E := hidOf (frm_def s)
  have ha1 := fun wx => run_string_add_sum (P := Tryd.prog) wx (vtS s.size) (fourS (smS s)) (by omega)
  have hz2 : (vtS s.size ++ fourS (smS s)).size = (vtS s.size).size + 4 := by rw [ByteArray.size_append, hz]
  have ha2 := fun wx => run_string_add_sum (P := Tryd.prog) wx (vtS s.size ++ fourS (smS s)) s (by omega)
  clear ht
  go_enter Tryd.func9, Tryd.ntmps9
  go_wp2_with (first
    | (go_at_call 23; refine (recordOk_yes _ (by omega) (by omega) _).mono ?_; rintro e w1 ⟨rfl, hw1⟩; subst hw1)
    | (go_at_call 24; refine (iVarText_S s.size (by omega) _).mono ?_; rintro e w1 ⟨rfl, hb1⟩)
    | (go_at_call 25; refine (iSumOf_S s hm _ (Tab.below HT.out hb1 (Nat.le_refl _))).mono ?_; rintro e w2 ⟨rfl, hw2⟩; subst hw2)
    | (go_at_call 26; refine (text_S (smS s) hl _).mono ?_; rintro e w2 ⟨rfl, hb2⟩))
  go_ret2
  exact ⟨by rw [← E.out]; rfl, hb1.trans (hb2.mono hb1.size)⟩

theorem iReadVar_at (s : ByteArray) (hs : s.size ≤ 20000) (a : Nat) (h : a ≤ s.size) (w : World) :
    Calls Tryd.prog 41 #[.string s, .int .i64 (a : Int)] w fun e w' => e = .returned (rvV (rv a (from_ s a))) ∧ w = w' :=
  (iReadVar_in s (by omega) a h w).mono fun _ _ h => ⟨h.1, h.2.symm⟩

theorem readFrame_none (s : ByteArray) (hs : s.size ≤ 20000) (a : Nat) (h : a ≤ s.size) (hr : rv a (from_ s a) = none) (w : World) :
    Calls Tryd.prog 37 #[.string s, .int .i64 (a : Int)] w fun e w' => e = .returned (rfV none) ∧ Below w.heap.size w w' := by
  have H : Hid (∀ w : World, Calls Tryd.prog 41 #[.string s, .int .i64 (a : Int)] w fun e w' => e = .returned (.tuple #[.int .i64 0, .int .i64 0, .bool false]) ∧ w = w') := fun w => by
    have := iReadVar_at s hs a h w
    rw [hr] at this
    exact this
  clear hr
  unfold rfV
  go_enter Tryd.func37, Tryd.ntmps37
  go_wp2_with (go_at_call 41; refine (H.out _).mono ?_; rintro e w1 ⟨rfl, hw1⟩; subst hw1)
  go_ret3
  exact ⟨rfl, Below.refl _ _⟩

theorem read_hid {s : ByteArray} (hs : s.size ≤ 20000) {a : Nat} (h : a ≤ s.size) {n j : Nat} (hr : rv a (from_ s a) = some (n, j)) :
    Hid (∀ w : World, Calls Tryd.prog 41 #[.string s, .int .i64 (a : Int)] w fun e w' => e = .returned (.tuple #[.int .i64 (n : Int), .int .i64 (j : Int), .bool true]) ∧ w = w') := fun w => by
  have := iReadVar_at s hs a h w
  rw [hr] at this
  exact this

theorem readFrame_no (s : ByteArray) (hs : s.size ≤ 20000) (a : Nat) (h : a ≤ s.size) (n j : Nat) (hr : rv a (from_ s a) = some (n, j)) (hc : ¬ (1 ≤ n ∧ n ≤ 9000 ∧ j + 4 + n ≤ s.size)) (w : World) :
    Calls Tryd.prog 37 #[.string s, .int .i64 (a : Int)] w fun e w' => e = .returned (rfV none) ∧ Below w.heap.size w w' := by
  have H := read_hid hs h hr
  have hb := rv_bounds hr
  have hj : j ≤ s.size := hb.2.2 h
  have hn := hb.1
  clear hr hb
  unfold rfV
  by_cases hok : 1 ≤ n ∧ n ≤ 9000
  · have d1 : decide ((s.size : Int) - (j : Int) - 4 < (n : Int)) = true := by simp; omega
    obtain ⟨k1, k2⟩ := hok
    clear hc
    go_enter Tryd.func37, Tryd.ntmps37
    go_wp2_with (first
      | (go_at_call 41; refine (H.out _).mono ?_; rintro e w1 ⟨rfl, hw1⟩; subst hw1)
      | (go_at_call 23; refine (recordOk_yes _ (by omega) (by omega) _).mono ?_; rintro e w1 ⟨rfl, hw1⟩; subst hw1))
    go_ret3
    exact ⟨rfl, Below.refl _ _⟩
  · clear hc
    go_enter Tryd.func37, Tryd.ntmps37
    go_wp2_with (first
      | (go_at_call 41; refine (H.out _).mono ?_; rintro e w1 ⟨rfl, hw1⟩; subst hw1)
      | (go_at_call 23; refine (recordOk_no _ (by omega) _).mono ?_; rintro e w1 ⟨rfl, hw1⟩; subst hw1))
    go_ret3
    exact ⟨rfl, Below.refl _ _⟩

set_option maxHeartbeats 1000000 in
theorem readFrame_in (s : ByteArray) (hs : s.size ≤ 20000) (a : Nat) (h : a ≤ s.size) (n j : Nat) (hr : rv a (from_ s a) = some (n, j)) (k1 : 1 ≤ n) (k2 : n ≤ 9000) (k3 : j + 4 + n ≤ s.size) (w : World) (ht : Tab w) :
    Calls Tryd.prog 37 #[.string s, .int .i64 (a : Int)] w fun e w' => e = .returned (rfV (rf s a)) ∧ Below w.heap.size w w' := by
  have H := read_hid hs h hr
  have d1 : decide ((s.size : Int) - (j : Int) - 4 < (n : Int)) = false := by simp; omega
  obtain ⟨R, hR⟩ : ∃ R, R = s.extract (j + 4) (j + 4 + n) := ⟨_, rfl⟩
  have n1 : ((j : Int) + 4).toNat = j + 4 := by omega
  have n2 : ((j : Int) + 4 + (n : Int)).toNat = j + 4 + n := by omega
  have n3 : (j : Int).toNat = j := by omega
  have b1 : (0 : Int) ≤ (j : Int) + 4 := by omega
  have b2 : (j : Int) + 4 ≤ (j : Int) + 4 + (n : Int) := by omega
  have b3 : (j : Int) + 4 + (n : Int) ≤ (s.size : Int) := by omega
  have b4 : (0 : Int) ≤ (j : Int) := by omega
  have b5 : (j : Int) ≤ (j : Int) + 4 := by omega
  have b6 : (j : Int) + 4 ≤ (s.size : Int) := by omega
  have hz : (s.extract (j + 4) (j + 4 + n)).size ≤ maxLen := by rw [ByteArray.size_extract]; unfold maxLen; omega
  have HT := hidOf ht
  have hS0 : St w w.drew := (St.here w).drew
  by_cases he : fourS (smS (s.extract (j + 4) (j + 4 + n))) = s.extract j (j + 4)
  · have E := hidOf (rf_yes hr k1 k2 k3 he)
    clear ht hr
    go_enter Tryd.func37, Tryd.ntmps37
    go_wp2_with (first
      | (go_at_call 41; refine (H.out _).mono ?_; rintro e w1 ⟨rfl, hw1⟩; subst hw1)
      | (go_at_call 23; refine (recordOk_yes _ (by omega) (by omega) _).mono ?_; rintro e w1 ⟨rfl, hw1⟩; subst hw1))
    go_region_held3 (fun u => St w u) (first | assumption | exact hS0) (first
      | (go_at_call 25; refine (iSumOf_St _ hz HT.out (by assumption)).mono ?_; rintro e w1 ⟨rfl, hS3⟩)
      | (go_at_call 26; refine (text_St _ (smS_lt _) (by assumption)).mono ?_; rintro e w1 ⟨rfl, hS3⟩))
    all_goals
      go_wp2
      go_ret3
      exact ⟨by rw [E.out]; simp [rfV], hS3⟩
  · have E := hidOf (rf_neq hr he)
    have d3 := str_neq he
    clear ht hr
    go_enter Tryd.func37, Tryd.ntmps37
    go_wp2_with (first
      | (go_at_call 41; refine (H.out _).mono ?_; rintro e w1 ⟨rfl, hw1⟩; subst hw1)
      | (go_at_call 23; refine (recordOk_yes _ (by omega) (by omega) _).mono ?_; rintro e w1 ⟨rfl, hw1⟩; subst hw1))
    go_region_held3 (fun u => St w u) (first | assumption | exact hS0) (first
      | (go_at_call 25; refine (iSumOf_St _ hz HT.out (by assumption)).mono ?_; rintro e w1 ⟨rfl, hS3⟩)
      | (go_at_call 26; refine (text_St _ (smS_lt _) (by assumption)).mono ?_; rintro e w1 ⟨rfl, hS3⟩))
    all_goals
      go_wp2
      go_ret3
      exact ⟨by rw [E.out]; rfl, hS3⟩

theorem readFrame_any (s : ByteArray) (hs : s.size ≤ 20000) (a : Nat) (h : a ≤ s.size) (w : World) (ht : Tab w) :
    Calls Tryd.prog 37 #[.string s, .int .i64 (a : Int)] w fun e w' => e = .returned (rfV (rf s a)) ∧ Below w.heap.size w w' := by
  cases hr : rv a (from_ s a) with
  | none => rw [rf_none hr]; exact readFrame_none s hs a h hr w
  | some x =>
    obtain ⟨n, j⟩ := x
    by_cases hc : 1 ≤ n ∧ n ≤ 9000 ∧ j + 4 + n ≤ s.size
    · exact readFrame_in s hs a h n j hr hc.1 hc.2.1 hc.2.2 w ht
    · rw [rf_no hr hc]; exact readFrame_no s hs a h n j hr hc w
end Go.Proofs.YtegknhnmfaafmaaDoor
