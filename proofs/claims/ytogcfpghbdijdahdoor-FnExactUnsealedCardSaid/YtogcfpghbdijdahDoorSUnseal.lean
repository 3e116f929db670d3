/- What the specification's Unsealed answers. -/
import Derived.Test.YtogcfpghbdijdahDoorSSeal
import Derived.Test.YtogcfpghbdijdahDoorIUnseal
namespace Go.Proofs.YtogcfpghbdijdahDoor
open Go.RowKit Crc

theorem sUnsealed_no (s : ByteArray) (hs : s.size < 4 ∨ 20004 < s.size) (hm : s.size ≤ maxLen) (w : World) :
    Calls Tryd.prog 13 #[.string s] w fun e w' => e = .returned (.tuple #[.string ⟨#[]⟩, .bool false]) ∧ Below w.heap.size w w' := by
  unfold maxLen at hm
  by_cases h : s.size < 4
  · have d1 : decide ((s.size : Int) - 4 < 0) = true := by simp; omega
    clear hs
    go_enter Tryd.func13, Tryd.ntmps13
    go_wp2
    go_quiet (fail)
    go_wp2
    go_ret2
    exact ⟨rfl, below_drewN (Below.refl _ _) _⟩
  · have d1 : decide ((s.size : Int) - 4 < 0) = false := by simp; omega
    have d2 : decide ((20000 : Int) < (s.size : Int) - 4) = true := by simp; omega
    clear hs
    go_enter Tryd.func13, Tryd.ntmps13
    go_wp2
    go_quiet (fail)
    go_wp2
    go_ret2
    exact ⟨rfl, below_drewN (Below.refl _ _) _⟩

theorem sSumOf_St (s : ByteArray) (hs : s.size ≤ maxLen) {w u : World} (h : St w u) :
    Calls Tryd.prog 9 #[.string s] u fun e w' => e = .returned (.int .u32 (smS s : Nat)) ∧ St w w' :=
  (sSumOf_S s hs u).mono fun _ _ ⟨he, hw⟩ => ⟨he, hw ▸ h⟩

theorem l02Four_St (x : Nat) (hx : x < 4294967296) {w u : World} (h : St w u) :
    Calls Tryd.prog 16 #[.int .u32 (x : Int)] u fun e w' => e = .returned (.string (fourS x)) ∧ St w w' :=
  (l02Four_S x hx u).mono fun _ _ ⟨he, hb⟩ => ⟨he, Below.trans h (hb.mono (Below.size h))⟩

set_option maxHeartbeats 1000000 in
theorem sUnsealed_yes (s : ByteArray) (h0 : 4 ≤ s.size) (h1 : s.size ≤ 20004) (w : World) (he : s.extract (s.size - 4) s.size = fourS (smS (s.extract 0 (s.size - 4)))) :
    Calls Tryd.prog 13 #[.string s] w fun e w' => e = .returned (.tuple #[.string (s.extract 0 (s.size - 4)), .bool true]) ∧ Below w.heap.size w w' := by
  have d1 : decide ((s.size : Int) - 4 < 0) = false := by simp; omega
  have d2 : decide ((20000 : Int) < (s.size : Int) - 4) = false := by simp; omega
  have hn : ((s.size : Int) - 4).toNat = s.size - 4 := by omega
  have hwr : IntKind.i64.wrap ((s.size : Int) - 4) = (s.size : Int) - 4 := by rw [IntKind.wrap_i64]; omega
  have b0 : (4 : Int) ≤ (s.size : Int) := by omega
  have b1 : (0 : Int) ≤ (s.size : Int) - 4 := by omega
  have b2 : (s.size : Int) - 4 ≤ (s.size : Int) := by omega
  have hz : (s.extract 0 (s.size - 4)).size ≤ maxLen := by rw [ByteArray.size_extract]; unfold maxLen; omega
  have hS0 : St w w.drew := (St.here w).drew
  go_enter Tryd.func13, Tryd.ntmps13
  go_wp2
  go_region_held3 (fun u => St w u) (first | assumption | exact hS0) (first
    | (go_at_call 9; refine (sSumOf_St _ hz (by assumption)).mono ?_; rintro e w1 ⟨rfl, hS3⟩)
    | (go_at_call 16; refine (l02Four_St _ (smS_lt _) (by assumption)).mono ?_; rintro e w1 ⟨rfl, hS3⟩))
  all_goals
    go_wp2
    go_ret2
    exact ⟨rfl, hS3⟩

set_option maxHeartbeats 1000000 in
theorem sUnsealed_neq (s : ByteArray) (h0 : 4 ≤ s.size) (h1 : s.size ≤ 20004) (w : World) (he : ¬ s.extract (s.size - 4) s.size = fourS (smS (s.extract 0 (s.size - 4)))) :
    Calls Tryd.prog 13 #[.string s] w fun e w' => e = .returned (.tuple #[.string ⟨#[]⟩, .bool false]) ∧ Below w.heap.size w w' := by
  have d1 : decide ((s.size : Int) - 4 < 0) = false := by simp; omega
  have d2 : decide ((20000 : Int) < (s.size : Int) - 4) = false := by simp; omega
  have hn : ((s.size : Int) - 4).toNat = s.size - 4 := by omega
  have hwr : IntKind.i64.wrap ((s.size : Int) - 4) = (s.size : Int) - 4 := by rw [IntKind.wrap_i64]; omega
  have b0 : (4 : Int) ≤ (s.size : Int) := by omega
  have b1 : (0 : Int) ≤ (s.size : Int) - 4 := by omega
  have b2 : (s.size : Int) - 4 ≤ (s.size : Int) := by omega
  have hz : (s.extract 0 (s.size - 4)).size ≤ maxLen := by rw [ByteArray.size_extract]; unfold maxLen; omega
  have hS0 : St w w.drew := (St.here w).drew
  have d3 := str_neq he
  go_enter Tryd.func13, Tryd.ntmps13
  go_wp2
  go_region_held3 (fun u => St w u) (first | assumption | exact hS0) (first
    | (go_at_call 9; refine (sSumOf_St _ hz (by assumption)).mono ?_; rintro e w1 ⟨rfl, hS3⟩)
    | (go_at_call 16; refine (l02Four_St _ (smS_lt _) (by assumption)).mono ?_; rintro e w1 ⟨rfl, hS3⟩))
  all_goals
    go_wp2
    go_ret2
    exact ⟨rfl, hS3⟩

end Go.Proofs.YtogcfpghbdijdahDoor
