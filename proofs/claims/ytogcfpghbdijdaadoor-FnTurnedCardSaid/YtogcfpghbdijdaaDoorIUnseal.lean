/- What the program's Unsealed answers. -/
import Derived.Test.YtogcfpghbdijdaaDoorISeal
import Derived.Deep.RegionHeld3
import Derived.BigQuiet
import Derived.Lib.Strings
import Derived.WalkSmall
namespace Go.Proofs.YtogcfpghbdijdaaDoor
open Go.RowKit Crc

theorem str_neq {a b : ByteArray} (h : ¬ a = b) : (!a.toList == b.toList) = true := by
  have h1 : ¬ a.toList = b.toList := by
    rw [Lib.toList_data, Lib.toList_data]
    intro e
    apply h
    cases a; cases b
    simpa using e
  simp [h1]

theorem hidOf {p : Prop} (h : p) : Hid p := h

theorem iUnsealed_no (s : ByteArray) (hs : s.size < 4 ∨ 20004 < s.size) (hm : s.size ≤ maxLen) (w : World) :
    Calls Tryd.prog 19 #[.string s] w fun e w' => e = .returned (.tuple #[.string ⟨#[]⟩, .bool false]) ∧ Below w.heap.size w w' := by
  unfold maxLen at hm
  by_cases h : s.size < 4
  · have d1 : decide ((s.size : Int) - 4 < 0) = true := by simp; omega
    clear hs
    go_enter Tryd.func19, Tryd.ntmps19
    go_wp2
    go_ret2
    exact ⟨rfl, Below.refl _ _⟩
  · have d1 : decide ((s.size : Int) - 4 < 0) = false := by simp; omega
    have d2 : decide ((20000 : Int) < (s.size : Int) - 4) = true := by simp; omega
    clear hs
    go_enter Tryd.func19, Tryd.ntmps19
    go_wp2
    go_ret2
    exact ⟨rfl, Below.refl _ _⟩

/-- nothing of what was there at w has turned -/
def St (w u : World) : Prop := Below w.heap.size w u

theorem St.here (w : World) : St w w := Below.refl _ _

theorem St.drew {w u : World} (h : St w u) : St w u.drew := Below.drew h

theorem iSumOf_St (s : ByteArray) (hs : s.size ≤ maxLen) {w u : World} (ht : Tab w) (h : St w u) :
    Calls Tryd.prog 21 #[.string s] u fun e w' => e = .returned (.int .u32 (smS s : Nat)) ∧ St w w' :=
  (iSumOf_S s hs u (ht.below h (Nat.le_refl _))).mono fun _ _ ⟨he, hw⟩ => ⟨he, hw ▸ h⟩

theorem text_St (x : Nat) (hx : x < 4294967296) {w u : World} (h : St w u) :
    Calls Tryd.prog 31 #[.int .u32 (x : Int)] u fun e w' => e = .returned (.string (fourS x)) ∧ St w w' :=
  (text_S x hx u).mono fun _ _ ⟨he, hb⟩ => ⟨he, Below.trans h (hb.mono (Below.size h))⟩

set_option maxHeartbeats 1000000 in
theorem iUnsealed_yes (s : ByteArray) (h0 : 4 ≤ s.size) (h1 : s.size ≤ 20004) (w : World) (ht : Tab w) (he : fourS (smS (s.extract 0 (s.size - 4))) = s.extract (s.size - 4) s.size) :
    Calls Tryd.prog 19 #[.string s] w fun e w' => e = .returned (.tuple #[.string (s.extract 0 (s.size - 4)), .bool true]) ∧ Below w.heap.size w w' := by
  have d1 : decide ((s.size : Int) - 4 < 0) = false := by simp; omega
  have d2 : decide ((20000 : Int) < (s.size : Int) - 4) = false := by simp; omega
  have hn : ((s.size : Int) - 4).toNat = s.size - 4 := by omega
  have hwr : IntKind.i64.wrap ((s.size : Int) - 4) = (s.size : Int) - 4 := by rw [IntKind.wrap_i64]; omega
  have b0 : (4 : Int) ≤ (s.size : Int) := by omega
  have b1 : (0 : Int) ≤ (s.size : Int) - 4 := by omega
  have b2 : (s.size : Int) - 4 ≤ (s.size : Int) := by omega
  have hz : (s.extract 0 (s.size - 4)).size ≤ maxLen := by rw [ByteArray.size_extract]; unfold maxLen; omega
  have hz1 : (s.extract 0 (s.size - 4)).size ≤ 1048576 := by rw [ByteArray.size_extract]; omega
  have HT := hidOf ht
  have hS0 : St w w.drew := (St.here w).drew
  clear ht
  go_enter Tryd.func19, Tryd.ntmps19
  go_wp2
  go_region_held3 (fun u => St w u) (first | assumption | exact hS0) (first
    | (go_at_call 21; refine (iSumOf_St _ hz HT.out (by assumption)).mono ?_; rintro e w1 ⟨rfl, hS3⟩)
    | (go_at_call 31; refine (text_St _ (smS_lt _) (by assumption)).mono ?_; rintro e w1 ⟨rfl, hS3⟩))
  all_goals
    go_wp2_with (go_at_call 29; refine (clone_any _ hz1 _).mono ?_; rintro e w2 ⟨rfl, hb2⟩)
    go_ret2
    exact ⟨rfl, Below.trans hS3 (hb2.mono (Below.size hS3))⟩

set_option maxHeartbeats 1000000 in
theorem iUnsealed_neq (s : ByteArray) (h0 : 4 ≤ s.size) (h1 : s.size ≤ 20004) (w : World) (ht : Tab w) (he : ¬ fourS (smS (s.extract 0 (s.size - 4))) = s.extract (s.size - 4) s.size) :
    Calls Tryd.prog 19 #[.string s] w fun e w' => e = .returned (.tuple #[.string ⟨#[]⟩, .bool false]) ∧ Below w.heap.size w w' := by
  have d1 : decide ((s.size : Int) - 4 < 0) = false := by simp; omega
  have d2 : decide ((20000 : Int) < (s.size : Int) - 4) = false := by simp; omega
  have hn : ((s.size : Int) - 4).toNat = s.size - 4 := by omega
  have hwr : IntKind.i64.wrap ((s.size : Int) - 4) = (s.size : Int) - 4 := by rw [IntKind.wrap_i64]; omega
  have b0 : (4 : Int) ≤ (s.size : Int) := by omega
  have b1 : (0 : Int) ≤ (s.size : Int) - 4 := by omega
  have b2 : (s.size : Int) - 4 ≤ (s.size : Int) := by omega
  have hz : (s.extract 0 (s.size - 4)).size ≤ maxLen := by rw [ByteArray.size_extract]; unfold maxLen; omega
  have HT := hidOf ht
  have hS0 : St w w.drew := (St.here w).drew
  have d3 := str_neq he
  clear ht
  go_enter Tryd.func19, Tryd.ntmps19
  go_wp2
  go_region_held3 (fun u => St w u) (first | assumption | exact hS0) (first
    | (go_at_call 21; refine (iSumOf_St _ hz HT.out (by assumption)).mono ?_; rintro e w1 ⟨rfl, hS3⟩)
    | (go_at_call 31; refine (text_St _ (smS_lt _) (by assumption)).mono ?_; rintro e w1 ⟨rfl, hS3⟩))
  all_goals
    go_wp2
    go_ret2
    exact ⟨rfl, hS3⟩

end Go.Proofs.YtogcfpghbdijdaaDoor
