/- What the two Hex answer at every text, and the walk of FnExactHex. -/
import Derived.Test.YtngbaefmejdecagBytes
import Derived.Test.YtngbaefmejdecagFigs
import Derived.WalkSpells
import Derived.OpenShut
import Derived.Deep.RegionHeld3
import Derived.Deep.AppendLies
namespace Go.Proofs.Ytngbaefmejdecag
open Go.RowKit Figs

theorem l01Figure_any (x : Int) (h0 : 0 ≤ x) (h1 : x < 16) (w : World) :
    Calls Try.prog 18 #[.int .i64 x] w fun e w' => e = .returned (.int .u8 (figI x)) ∧ w' = w := by
  by_cases h : x < 10
  · have e : figI x = 48 + x := by unfold figI; rw [if_pos h]
    rw [e]
    go_enter Try.func18, Try.ntmps18
    go_wp2
    go_ret
    exact ⟨rfl, rfl⟩
  · have e : figI x = 97 + x - 10 := by unfold figI; rw [if_neg h]; omega
    rw [e]
    go_enter Try.func18, Try.ntmps18
    go_wp2
    go_ret
    exact ⟨rfl, rfl⟩

theorem bytes_snoc (s : ByteArray) (k : Nat) (h : k < s.size) : s.data.toList.take (k + 1) = s.data.toList.take k ++ [s[k]] := by
  rw [List.take_succ_eq_append_getElem (by simpa using h)]; rfl

theorem bv_two (l : List UInt8) (c : UInt8) : bv (hexOf l) ++ [Value.int .u8 (figI ((c.toNat : Int) / 16)), Value.int .u8 (figI ((c.toNat : Int) % 16))] = bv (hexOf (l ++ [c])) := by
  have hc := UInt8.toNat_lt c
  have e1 := fig_toNat (c.toNat / 16) (by omega)
  have e2 := fig_toNat (c.toNat % 16) (by omega)
  have e3 : ((c.toNat / 16 : Nat) : Int) = (c.toNat : Int) / 16 := by simp
  have e4 : ((c.toNat % 16 : Nat) : Int) = (c.toNat : Int) % 16 := by simp
  rw [hexOf_snoc, ← e3, ← e4, ← e1, ← e2]
  simp [bv]

theorem idx16 (x : Int) (h0 : 0 ≤ x) (h1 : x < 16) (w : World) :
    (Instr.index 9 (.string ⟨#[48, 49, 50, 51, 52, 53, 54, 55, 56, 57, 97, 98, 99, 100, 101, 102]⟩) (.int .u8 x)).run Try.prog w = .ok (.int .u8 (figI x)) w := by
  rcases (show x = 0 ∨ x = 1 ∨ x = 2 ∨ x = 3 ∨ x = 4 ∨ x = 5 ∨ x = 6 ∨ x = 7 ∨ x = 8 ∨ x = 9 ∨ x = 10 ∨ x = 11 ∨ x = 12 ∨ x = 13 ∨ x = 14 ∨ x = 15 from by omega) with rfl | rfl | rfl | rfl | rfl | rfl | rfl | rfl | rfl | rfl | rfl | rfl | rfl | rfl | rfl | rfl <;> kernel_rfl

theorem idxDiv (c : UInt8) (w : World) : (Instr.index 9 (.string ⟨#[48, 49, 50, 51, 52, 53, 54, 55, 56, 57, 97, 98, 99, 100, 101, 102]⟩) (.int .u8 ((c.toNat : Int) / 16))).run Try.prog w = .ok (.int .u8 (figI ((c.toNat : Int) / 16))) w :=
  idx16 _ (by omega) (by have := UInt8.toNat_lt c; omega) w
theorem idxMod (c : UInt8) (w : World) : (Instr.index 9 (.string ⟨#[48, 49, 50, 51, 52, 53, 54, 55, 56, 57, 97, 98, 99, 100, 101, 102]⟩) (.int .u8 ((c.toNat : Int) % 16))).run Try.prog w = .ok (.int .u8 (figI ((c.toNat : Int) % 16))) w :=
  idx16 _ (by omega) (by omega) w

attribute [local go_sem ↓] idxDiv idxMod

set_option maxRecDepth 100000 in
set_option maxHeartbeats 2000000 in
theorem iHex_yes (s : ByteArray) (hs : s.size ≤ 20000) (w : World) :
    Calls Try.prog 10 #[.string s] w fun e w' => e = .returned (.tuple #[.string ⟨(hexOf s.data.toList).toArray⟩, .bool true]) ∧ Below w.heap.size w w' := by
  obtain ⟨i0, hi, hz0, hz1, hz2⟩ := info_parts info5
  have hmk : ∀ u : World, (Instr.makeSlice 33 (.int .i64 0) (.int .i64 (2 * (s.size : Int)))).run Try.prog u =
      .ok (.slice (some ⟨u.heap.size, 0, none⟩) 0 (2 * s.size)) (u.alloc (.cells (madeCells #[.int .u8 0] (2 * s.size)) 5)) := fun u => by
    have h := run_make (P := Try.prog) u 33 5 i0 (.int .u8 0) Try.underlying33 hi hz0 .i64 .i64 0 (2 * (s.size : Int)) (by omega) (by omega) (by rw [hz2]; omega) (by omega)
    have e : (2 * (s.size : Int)).toNat = 2 * s.size := by omega
    rw [e] at h
    simpa [hz1, Value.cells] using h
  have d0 : decide ((20000 : Int) < (s.size : Int)) = false := by simp; omega
  go_enter Try.func10, Try.ntmps10
  go_wp2
  go_loopw [4, 15] (fun out i wr => ∃ k n g cap : Nat, k ≤ s.size ∧ n ≤ 2 * k ∧ i = .int .i64 k ∧ out = .slice (some ⟨g, 0, none⟩) n cap ∧
      wr.ownsRow w.heap.size 5 1 (.slice (some ⟨g, 0, none⟩) n cap) n (bv (hexOf (s.data.toList.take k))) ∧ Below w.heap.size w wr)
    (fun _ i _ => s.size - (intOf i).toNat)
  case atStart => exact ⟨0, 0, w.heap.size, 2 * s.size, by omega, by omega, rfl, rfl, World.ownsRow_made _ _ _ (Nat.le_refl _) (by unfold maxLen; omega) (by simp [madeCells]), (Below.refl _ _).alloc (Nat.le_refl _) _⟩
  case round =>
    obtain ⟨k, n, g, cap, hk, hn, rfl, rfl, hown, hb⟩ := hrel
    have hsz := hb.size
    by_cases hlt : k < s.size
    · have hc := UInt8.toNat_lt (s[k])
      have b1 : (0 : Int) ≤ (k : Int) := by omega
      have b2 : (k : Int) < (s.size : Int) := by omega
      have b3 : IntKind.u8.wrap (((s[k]).toNat : Int) / 16) = ((s[k]).toNat : Int) / 16 := by rw [IntKind.wrap_u8]; omega
      have b4 : (((s[k]).toNat : Int)).tmod 16 = ((s[k]).toNat : Int) % 16 := Int.tmod_eq_emod_of_nonneg (by omega)
      go_wp2
      go_region_held3 (fun _ => True) (trivial) ((refine step_append_lies _ (by rfl) _ _ _ (by rfl) w.heap.size 5 i0 _ 1 1 Try.underlying33 hi hz0 hz1 hz2 rfl (by omega) _ n _ (by rfl) ((hown.alloc _).drew) ⟨wr.heap.size, 0, none⟩ 2 2 [.int .u8 (figI (((s[k]).toNat : Int) / 16)), .int .u8 (figI (((s[k]).toNat : Int) % 16))] (by rfl) (by rfl) (World.news_of_block (cs := #[.int .u8 (figI (((s[k]).toNat : Int) / 16)), .int .u8 (figI (((s[k]).toNat : Int) % 16))]) (t := 5) (fr := (0, 0)) (heap_alloc_new wr _)) (by simp [Value.oneCell']) (by omega) (by unfold maxLen; omega) (by omega) (by simp; omega) (wr.heap.size + 1) (by simp) ?_; intro g1 cap1 w1 hown1 hg1 hat1 hlt1))
      all_goals
        have hb1 := below_appD hb (Nat.le_refl _) hown hg1
        rw [bv_two, ← bytes_snoc s k hlt] at hown1
        clear hg1 hown b3 b4
        go_wp2
        go_roundw
        case rel => exact ⟨k + 1, n + 2, g1, cap1, by omega, by omega, by go_num, rfl, hown1, hb1⟩
        case measure => simp [intOf]; omega
    · have e : s.data.toList.take k = s.data.toList := List.take_of_length_le (by simp; omega)
      rw [e] at hown
      have hcv := conv_at hown
      clear e hown
      go_wp2
      go_ret2
      exact ⟨rfl, hb⟩

theorem iHex_no (s : ByteArray) (hs : 20000 < s.size) (w : World) :
    Calls Try.prog 10 #[.string s] w fun e w' => e = .returned (.tuple #[.string ⟨#[]⟩, .bool false]) ∧ w' = w := by
  go_enter Try.func10, Try.ntmps10
  go_wp2
  go_ret2
  exact ⟨rfl, rfl⟩

theorem sHex_no (s : ByteArray) (hs : 20000 < s.size) (w : World) :
    Calls Try.prog 9 #[.string s] w fun e w' => e = .returned (.tuple #[.string ⟨#[]⟩, .bool false]) ∧ w' = w := by
  go_enter Try.func9, Try.ntmps9
  go_wp2
  go_ret2
  exact ⟨rfl, rfl⟩
set_option maxRecDepth 100000 in
set_option maxHeartbeats 4000000 in
theorem sHex_yes (s : ByteArray) (hs : s.size ≤ 20000) (w : World) :
    Calls Try.prog 9 #[.string s] w fun e w' => e = .returned (.tuple #[.string ⟨(hexOf s.data.toList).toArray⟩, .bool true]) ∧ Below w.heap.size w w' := by
  obtain ⟨i0, hi, hz0, hz1, hz2⟩ := info_parts info5
  have d0 : decide ((20000 : Int) < (s.size : Int)) = false := by simp; omega
  go_enter Try.func9, Try.ntmps9
  go_wp2
  go_loopw [4, 5] (fun out i wr => ∃ k n g cap : Nat, k ≤ s.size ∧ n ≤ 2 * k ∧ i = .int .i64 k ∧ out = .slice (some ⟨g, 0, none⟩) n cap ∧
      wr.ownsRow w.heap.size 5 1 (.slice (some ⟨g, 0, none⟩) n cap) n (bv (hexOf (s.data.toList.take k))) ∧ Below w.heap.size w wr)
    (fun _ i _ => s.size - (intOf i).toNat)
  case atStart => exact ⟨0, 0, w.heap.size, 0, by omega, by omega, rfl, rfl, World.ownsRow_made _ _ _ (Nat.le_refl _) (by unfold maxLen; omega) rfl, (Below.refl _ _).alloc (Nat.le_refl _) _⟩
  case round =>
    obtain ⟨k, n, g, cap, hk, hn, rfl, rfl, hown, hb⟩ := hrel
    have hsz := hb.size
    by_cases hlt : k < s.size
    · have hc := UInt8.toNat_lt (s[k])
      have b1 : (0 : Int) ≤ (k : Int) := by omega
      have b2 : (k : Int) < (s.size : Int) := by omega
      have b3 : IntKind.i64.wrap (((s[k]).toNat : Int) / 16) = ((s[k]).toNat : Int) / 16 := by rw [IntKind.wrap_i64]; omega
      have b4 : (((s[k]).toNat : Int)).tmod 16 = ((s[k]).toNat : Int) % 16 := Int.tmod_eq_emod_of_nonneg (by omega)
      have b5 : IntKind.i64.wrap ((s[k]).toNat : Int) = ((s[k]).toNat : Int) := by rw [IntKind.wrap_i64]; omega
      go_wp2
      go_region_held3 (fun _ => True) (trivial) (first
        | (refine step_append_lies _ (by rfl) _ _ _ (by rfl) w.heap.size 5 i0 _ 1 1 Try.underlying33 hi hz0 hz1 hz2 rfl (by omega) _ n _ (by rfl) ((hown.alloc _).drew) ⟨wr.heap.size, 0, none⟩ 2 2 [.int .u8 (figI (((s[k]).toNat : Int) / 16)), .int .u8 (figI (((s[k]).toNat : Int) % 16))] (by rfl) (by rfl) (World.news_of_block (cs := #[.int .u8 (figI (((s[k]).toNat : Int) / 16)), .int .u8 (figI (((s[k]).toNat : Int) % 16))]) (t := 5) (fr := (0, 0)) (heap_alloc_new wr _)) (by simp [Value.oneCell']) (by omega) (by unfold maxLen; omega) (by omega) (by simp; omega) (wr.heap.size + 1) (by simp) ?_; intro g1 cap1 w1 hown1 hg1 hat1 hlt1)
        | (go_at_call 18; refine (l01Figure_any _ ?_ ?_ _).mono ?_; (omega); (omega); rintro e w1 ⟨rfl, hw1⟩; subst hw1))
      all_goals
        have hb1 := below_appD hb (Nat.le_refl _) hown hg1
        rw [bv_two, ← bytes_snoc s k hlt] at hown1
        clear hg1 hown b3 b4 b5
        go_wp2
        go_roundw
        case rel => exact ⟨k + 1, n + 2, g1, cap1, by omega, by omega, by go_num, rfl, hown1, hb1⟩
        case measure => simp [intOf]; omega
    · have e : s.data.toList.take k = s.data.toList := List.take_of_length_le (by simp; omega)
      rw [e] at hown
      have hcv := conv_at hown
      clear e hown
      go_wp2
      go_ret2
      exact ⟨rfl, hb⟩

theorem fnExactHex.walk (s : ByteArray) (hs : s.size ≤ maxLen) (w : World) :
    Calls Try.prog 4 #[.string s] w fun e w' => e = .returned (.bool true) ∧ Below w.heap.size w w' := by
  unfold maxLen at hs
  by_cases hb : s.size ≤ 1048576
  · by_cases h2 : s.size ≤ 20000
    · go_enter Try.func4, Try.ntmps4
      go_wp2_with (go_at_call 9; refine (sHex_yes s h2 _).mono ?_; rintro e w1 ⟨rfl, hb1⟩)
      go_wp2_with (go_at_call 10; refine (iHex_yes s h2 _).mono ?_; rintro e w2 ⟨rfl, hb2⟩)
      go_ret
      exact ⟨rfl, hb1.trans (hb2.mono hb1.size)⟩
    · go_enter Try.func4, Try.ntmps4
      go_wp2_with (go_at_call 9; refine (sHex_no s (by omega) _).mono ?_; rintro e w1 ⟨rfl, hw1⟩; subst hw1)
      go_wp2_with (go_at_call 10; refine (iHex_no s (by omega) _).mono ?_; rintro e w2 ⟨rfl, hw2⟩; subst hw2)
      go_ret
      exact ⟨rfl, Below.refl _ _⟩
  · go_enter Try.func4, Try.ntmps4
    go_wp2
    go_ret
    exact ⟨rfl, Below.refl _ _⟩

end Go.Proofs.Ytngbaefmejdecag
