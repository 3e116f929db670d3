/- The walks of FnExactSumMore, FnExactSumOf and FnExactSealed, where the program's table stands. -/
import Derived.Test.YtogcfpghbdijdahDoorSSeal
namespace Go.Proofs.YtogcfpghbdijdahDoor
open Go.RowKit Crc

theorem fnExactSumMore.walk (x : Int) (hx : (Lit.int .u32 x).wf = true) (s : ByteArray) (hs : s.size ≤ maxLen) (w : World) (ht : Tab w) :
    Calls Tryd.prog 3 #[.int .u32 x, .string s] w fun e w' => e = .returned (.bool true) ∧ Below w.heap.size w w' := by
  have hb : 0 ≤ x ∧ x ≤ 4294967295 := by simpa [Lit.wf, IntKind.min, IntKind.max, IntKind.signed, IntKind.bits] using hx
  obtain ⟨n, rfl⟩ := Int.eq_ofNat_of_zero_le hb.1
  have hn : n < 4294967296 := by omega
  have HT : Hid (Tab w) := ht
  clear ht hx hb
  by_cases hl : s.size ≤ 1048576
  · go_enter Tryd.func3, Tryd.ntmps3
    go_wp2_with (go_at_call 7; refine (sSumMore_any n hn s hs _).mono ?_; rintro e w1 ⟨rfl, hw1⟩; subst hw1)
    go_wp2_with (go_at_call 8; refine (iSumMore_any n hn s hs _ HT.out).mono ?_; rintro e w1 ⟨rfl, hw1⟩; subst hw1)
    go_ret
    exact ⟨rfl, Below.refl _ _⟩
  · unfold maxLen at hs
    go_enter Tryd.func3, Tryd.ntmps3
    go_wp2
    go_ret
    exact ⟨rfl, Below.refl _ _⟩

theorem fnExactSumOf.walk (s : ByteArray) (hs : s.size ≤ maxLen) (w : World) (ht : Tab w) :
    Calls Tryd.prog 4 #[.string s] w fun e w' => e = .returned (.bool true) ∧ Below w.heap.size w w' := by
  have HT : Hid (Tab w) := ht
  clear ht
  by_cases hl : s.size ≤ 1048576
  · go_enter Tryd.func4, Tryd.ntmps4
    go_wp2_with (go_at_call 9; refine (sSumOf_S s hs _).mono ?_; rintro e w1 ⟨rfl, hw1⟩; subst hw1)
    go_wp2_with (go_at_call 10; refine (iSumOf_S s hs _ HT.out).mono ?_; rintro e w1 ⟨rfl, hw1⟩; subst hw1)
    go_ret
    exact ⟨rfl, Below.refl _ _⟩
  · unfold maxLen at hs
    go_enter Tryd.func4, Tryd.ntmps4
    go_wp2
    go_ret
    exact ⟨rfl, Below.refl _ _⟩

theorem fnExactSealed.walk (s : ByteArray) (hs : s.size ≤ maxLen) (w : World) (ht : Tab w) :
    Calls Tryd.prog 5 #[.string s] w fun e w' => e = .returned (.bool true) ∧ Below w.heap.size w w' := by
  unfold maxLen at hs
  have HT : Hid (Tab w) := ht
  clear ht
  by_cases hl : s.size ≤ 1048576
  · by_cases h2 : s.size ≤ 20000
    · go_enter Tryd.func5, Tryd.ntmps5
      go_wp2_with (go_at_call 11; refine (sSealed_yes s h2 _).mono ?_; rintro e w1 ⟨rfl, hb1⟩)
      go_wp2_with (go_at_call 12; refine (iSealed_yes s h2 _ (Tab.below HT.out hb1 (Nat.le_refl _))).mono ?_; rintro e w2 ⟨rfl, hb2⟩)
      go_ret
      exact ⟨rfl, hb1.trans (hb2.mono hb1.size)⟩
    · go_enter Tryd.func5, Tryd.ntmps5
      go_wp2_with (go_at_call 11; refine (sSealed_no s (by omega) _).mono ?_; rintro e w1 ⟨rfl, hb1⟩)
      go_wp2_with (go_at_call 12; refine (iSealed_no s (by omega) _).mono ?_; rintro e w2 ⟨rfl, hb2⟩)
      go_ret
      exact ⟨rfl, hb1.trans (hb2.mono hb1.size)⟩
  · go_enter Tryd.func5, Tryd.ntmps5
    go_wp2
    go_ret
    exact ⟨rfl, Below.refl _ _⟩
end Go.Proofs.YtogcfpghbdijdahDoor
