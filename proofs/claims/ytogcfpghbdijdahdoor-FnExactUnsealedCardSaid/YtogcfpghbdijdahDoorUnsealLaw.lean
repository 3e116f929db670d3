/- The walk of FnExactUnsealed, where the program's table stands. -/
import Derived.Test.YtogcfpghbdijdahDoorSUnseal
namespace Go.Proofs.YtogcfpghbdijdahDoor
open Go.RowKit Crc

theorem fnExactUnsealed.walk (s : ByteArray) (hs : s.size ≤ maxLen) (w : World) (ht : Tab w) :
    Calls Tryd.prog 6 #[.string s] w fun e w' => e = .returned (.bool true) ∧ Below w.heap.size w w' := by
  have HT : Hid (Tab w) := ht
  clear ht
  by_cases hl : s.size ≤ 1048576
  · by_cases h2 : s.size < 4 ∨ 20004 < s.size
    · go_enter Tryd.func6, Tryd.ntmps6
      go_wp2_with (go_at_call 13; refine (sUnsealed_no s h2 hs _).mono ?_; rintro e w1 ⟨rfl, hb1⟩)
      go_wp2_with (go_at_call 14; refine (iUnsealed_no s h2 hs _).mono ?_; rintro e w2 ⟨rfl, hb2⟩)
      go_ret
      exact ⟨rfl, hb1.trans (hb2.mono hb1.size)⟩
    · have g1 : 4 ≤ s.size := by omega
      have g2 : s.size ≤ 20004 := by omega
      clear h2
      by_cases he : fourS (smS (s.extract 0 (s.size - 4))) = s.extract (s.size - 4) s.size
      · have HE := hideIt he
        clear he
        go_enter Tryd.func6, Tryd.ntmps6
        go_wp2_with (go_at_call 13; refine (sUnsealed_yes s g1 g2 _ HE.out.symm).mono ?_; rintro e w1 ⟨rfl, hb1⟩)
        go_wp2_with (go_at_call 14; refine (iUnsealed_yes s g1 g2 _ (Tab.below HT.out hb1 (Nat.le_refl _)) HE.out).mono ?_; rintro e w2 ⟨rfl, hb2⟩)
        go_ret
        exact ⟨rfl, hb1.trans (hb2.mono hb1.size)⟩
      · have HE := hideIt he
        clear he
        go_enter Tryd.func6, Tryd.ntmps6
        go_wp2_with (go_at_call 13; refine (sUnsealed_neq s g1 g2 _ (fun h => HE.out h.symm)).mono ?_; rintro e w1 ⟨rfl, hb1⟩)
        go_wp2_with (go_at_call 14; refine (iUnsealed_neq s g1 g2 _ (Tab.below HT.out hb1 (Nat.le_refl _)) HE.out).mono ?_; rintro e w2 ⟨rfl, hb2⟩)
        go_ret
        exact ⟨rfl, hb1.trans (hb2.mono hb1.size)⟩
  · unfold maxLen at hs
    go_enter Tryd.func6, Tryd.ntmps6
    go_wp2
    go_ret
    exact ⟨rfl, Below.refl _ _⟩
end Go.Proofs.YtogcfpghbdijdahDoor
