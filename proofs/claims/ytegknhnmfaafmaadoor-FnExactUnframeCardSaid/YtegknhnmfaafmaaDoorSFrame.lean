/- What the specification's Frame answers. -/
import Derived.Test.YtegknhnmfaafmaaDoorIFrame
import Derived.Test.YtegknhnmfaafmaaDoorSSeal
import Derived.Test.YtegknhnmfaafmaaDoorSVar
namespace Go.Proofs.YtegknhnmfaafmaaDoor
open Go.RowKit Vt Crc

theorem l01Var_S (N : Nat) (hN : N ≤ 1000000000) (w : World) :
    Calls Tryd.prog 30 #[.int .i64 (N : Int)] w fun e w' => e = .returned (.string (vtS N)) ∧ Below w.heap.size w w' := l01Var_any N hN w

theorem sFrame_no (s : ByteArray) (hs : s.size < 1 ∨ 9000 < s.size) (hm : s.size ≤ maxLen) (w : World) :
    Calls Tryd.prog 12 #[.string s] w fun e w' => e = .returned (.tuple #[.string ⟨#[]⟩, .bool false]) ∧ Below w.heap.size w w' := by
  unfold maxLen at hm
  go_enter Tryd.func12, Tryd.ntmps12
  go_wp2_with (go_at_call 29; refine (l01In_no _ _ _ (by omega) _).mono ?_; rintro e w' ⟨rfl, rfl⟩)
  go_ret2
  exact ⟨rfl, Below.refl _ _⟩

set_option maxHeartbeats 1000000 in
theorem sFrame_yes (s : ByteArray) (h1 : 1 ≤ s.size) (h2 : s.size ≤ 9000) (w : World) :
    Calls Tryd.prog 12 #[.string s] w fun e w' => e = .returned (.tuple #[.string (frm s), .bool true]) ∧ Below w.heap.size w w' := by
  have hl := smS_lt s
  have hz := fourS_size (smS s)
  have hv := vtS_size s.size
  have hm : s.size ≤ maxLen := by unfold maxLen; omega
  have E := hidOf (frm_def s)
  have ha1 := fun wx => run_string_add_sum (P := Tryd.prog) wx (vtS s.size) (fourS (smS s)) (by omega)
  have hz2 : (vtS s.size ++ fourS (smS s)).size = (vtS s.size).size + 4 := by rw [ByteArray.size_append, hz]
  have ha2 := fun wx => run_string_add_sum (P := Tryd.prog) wx (vtS s.size ++ fourS (smS s)) s (by omega)
  go_enter Tryd.func12, Tryd.ntmps12
  go_wp2_with (first
    | (go_at_call 29; refine (l01In_yes _ _ _ (by omega) (by omega) _).mono ?_; rintro e w' ⟨rfl, rfl⟩)
    | (go_at_call 30; refine (l01Var_S s.size (by omega) _).mono ?_; rintro e w1 ⟨rfl, hb1⟩)
    | (go_at_call 32; refine (sSumOf_S s hm _).mono ?_; rintro e w2 ⟨rfl, hw2⟩; subst hw2)
    | (go_at_call 31; refine (l02Four_S (smS s) hl _).mono ?_; rintro e w2 ⟨rfl, hb2⟩))
  go_ret2
  exact ⟨by rw [← E.out]; rfl, hb1.trans (hb2.mono hb1.size)⟩

theorem fnExactFrame.walk (s : ByteArray) (hs : s.size ≤ maxLen) (w : World) (ht : Tab w) :
    Calls Tryd.prog 4 #[.string s] w fun e w' => e = .returned (.bool true) ∧ Below w.heap.size w w' := by
  have HT := hidOf ht
  clear ht
  by_cases hl : s.size ≤ 1048576
  · by_cases h2 : s.size < 1 ∨ 9000 < s.size
    · go_enter Tryd.func4, Tryd.ntmps4
      go_wp2_with (go_at_call 12; refine (sFrame_no s h2 hs _).mono ?_; rintro e w1 ⟨rfl, hb1⟩)
      go_wp2_with (go_at_call 9; refine (iFrame_no s h2 hs _).mono ?_; rintro e w2 ⟨rfl, hb2⟩)
      go_ret
      exact ⟨rfl, hb1.trans (hb2.mono hb1.size)⟩
    · have g1 : 1 ≤ s.size := by omega
      have g2 : s.size ≤ 9000 := by omega
      clear h2
      go_enter Tryd.func4, Tryd.ntmps4
      go_wp2_with (go_at_call 12; refine (sFrame_yes s g1 g2 _).mono ?_; rintro e w1 ⟨rfl, hb1⟩)
      go_wp2_with (go_at_call 9; refine (iFrame_yes s g1 g2 _ (Tab.below HT.out hb1 (Nat.le_refl _))).mono ?_; rintro e w2 ⟨rfl, hb2⟩)
      go_ret
      exact ⟨rfl, hb1.trans (hb2.mono hb1.size)⟩
  · unfold maxLen at hs
    go_enter Tryd.func4, Tryd.ntmps4
    go_wp2
    go_ret
    exact ⟨rfl, Below.refl _ _⟩
end Go.Proofs.YtegknhnmfaafmaaDoor
