/- What the two ReadShort answer at every text and place, and the walk of FnExactReadShort. -/
import Derived.Test.YtngbaefmejdecagReadLaw0
import Derived.Test.YtngbaefmejdecagShelf
import Derived.WalkSpells
import Derived.OpenShut
namespace Go.Proofs.Ytngbaefmejdecag
open Go.RowKit Vt

theorem cut_size (s : ByteArray) (j n : Nat) (hs : s.size ≤ 1048576) : (s.extract j (j + n)).size ≤ 1048576 := by
  rw [ByteArray.size_extract]
  omega

theorem clone_any (s : ByteArray) (h : s.size ≤ 1048576) (w : World) :
    Calls Try.prog 17 #[.string s] w fun e w' => e = .returned (.string s) ∧ Below w.heap.size w w' := by
  go_enter Try.func17, Try.ntmps17
  go_wp2_with (go_at_call 23; refine (Try.stringslite_Clone s _ (by omega)).mono ?_; rintro e w1 ⟨rfl, hb1⟩)
  go_ret
  exact ⟨rfl, hb1⟩

theorem sReadShort_none (s : ByteArray) (hs : s.size ≤ 1048576) (a : Int) (hr : rvI s a = none) (w : World) :
    Calls Try.prog 7 #[.string s, .int .i64 a] w fun e w' => e = .returned (.tuple #[.string ⟨#[]⟩, .int .i64 0, .bool false]) ∧ Below w.heap.size w w' := by
  have H := fun w => sReadVar_any s hs a w
  rw [hr] at H
  unfold rvV at H
  have K : Hid _ := H
  clear H hr
  go_enter Try.func7, Try.ntmps7
  go_wp2_with (go_at_call 15; refine (K.out _).mono ?_; rintro e w1 ⟨rfl, hb1⟩)
  go_ret3
  exact ⟨rfl, hb1⟩

theorem iReadShort_none (s : ByteArray) (hs : s.size ≤ 1048576) (a : Int) (hr : rvI s a = none) (w : World) :
    Calls Try.prog 8 #[.string s, .int .i64 a] w fun e w' => e = .returned (.tuple #[.string ⟨#[]⟩, .int .i64 0, .bool false]) ∧ Below w.heap.size w w' := by
  have H := fun w => iReadVar_any s hs a w
  rw [hr] at H
  unfold rvV at H
  have K : Hid _ := H
  clear H hr
  go_enter Try.func8, Try.ntmps8
  go_wp2_with (go_at_call 16; refine (K.out _).mono ?_; rintro e w1 ⟨rfl, hw1⟩; subst hw1)
  go_ret3
  exact ⟨rfl, Below.refl _ _⟩

theorem sReadShort_big (s : ByteArray) (hs : s.size ≤ 1048576) (a : Int) (n j : Nat) (hr : rvI s a = some (n, j)) (hb : 20000 < n ∨ s.size < j + n) (w : World) :
    Calls Try.prog 7 #[.string s, .int .i64 a] w fun e w' => e = .returned (.tuple #[.string ⟨#[]⟩, .int .i64 0, .bool false]) ∧ Below w.heap.size w w' := by
  have H := fun w => sReadVar_any s hs a w
  have hbd := rvI_some hr
  rw [hr] at H
  unfold rvV at H
  have K : Hid _ := H
  clear H hr
  by_cases h1 : 20000 < n
  · have d1 : decide ((20000 : Int) < (n : Int)) = true := by simp; omega
    clear hb
    go_enter Try.func7, Try.ntmps7
    go_wp2_with (go_at_call 15; refine (K.out _).mono ?_; rintro e w1 ⟨rfl, hb1⟩)
    go_ret3
    exact ⟨rfl, hb1⟩
  · have d1 : decide ((20000 : Int) < (n : Int)) = false := by simp; omega
    have h2 : (s.size : Int) - (j : Int) < (n : Int) := by omega
    have d2 : decide ((s.size : Int) - (j : Int) < (n : Int)) = true := by simp; omega
    clear hb
    go_enter Try.func7, Try.ntmps7
    go_wp2_with (go_at_call 15; refine (K.out _).mono ?_; rintro e w1 ⟨rfl, hb1⟩)
    go_ret3
    exact ⟨rfl, hb1⟩

theorem iReadShort_big (s : ByteArray) (hs : s.size ≤ 1048576) (a : Int) (n j : Nat) (hr : rvI s a = some (n, j)) (hb : 20000 < n ∨ s.size < j + n) (w : World) :
    Calls Try.prog 8 #[.string s, .int .i64 a] w fun e w' => e = .returned (.tuple #[.string ⟨#[]⟩, .int .i64 0, .bool false]) ∧ Below w.heap.size w w' := by
  have H := fun w => iReadVar_any s hs a w
  have hbd := rvI_some hr
  rw [hr] at H
  unfold rvV at H
  have K : Hid _ := H
  clear H hr
  by_cases h1 : 20000 < n
  · have d1 : decide ((20000 : Int) < (n : Int)) = true := by simp; omega
    clear hb
    go_enter Try.func8, Try.ntmps8
    go_wp2_with (go_at_call 16; refine (K.out _).mono ?_; rintro e w1 ⟨rfl, hw1⟩; subst hw1)
    go_ret3
    exact ⟨rfl, Below.refl _ _⟩
  · have d1 : decide ((20000 : Int) < (n : Int)) = false := by simp; omega
    have h2 : (s.size : Int) - (j : Int) < (n : Int) := by omega
    have d2 : decide ((s.size : Int) - (j : Int) < (n : Int)) = true := by simp; omega
    clear hb
    go_enter Try.func8, Try.ntmps8
    go_wp2_with (go_at_call 16; refine (K.out _).mono ?_; rintro e w1 ⟨rfl, hw1⟩; subst hw1)
    go_ret3
    exact ⟨rfl, Below.refl _ _⟩

theorem sReadShort_yes (s : ByteArray) (hs : s.size ≤ 1048576) (a : Int) (n j : Nat) (hr : rvI s a = some (n, j)) (h1 : n ≤ 20000) (h2 : j + n ≤ s.size) (w : World) :
    Calls Try.prog 7 #[.string s, .int .i64 a] w fun e w' => e = .returned (.tuple #[.string (s.extract j (j + n)), .int .i64 ((j : Int) + (n : Int)), .bool true]) ∧ Below w.heap.size w w' := by
  have H := fun w => sReadVar_any s hs a w
  have hbd := rvI_some hr
  rw [hr] at H
  unfold rvV at H
  have K : Hid _ := H
  clear H hr
  have d1 : decide ((20000 : Int) < (n : Int)) = false := by simp; omega
  have d2 : decide ((s.size : Int) - (j : Int) < (n : Int)) = false := by simp; omega
  go_enter Try.func7, Try.ntmps7
  go_wp2_with (go_at_call 15; refine (K.out _).mono ?_; rintro e w1 ⟨rfl, hb1⟩)
  go_ret3
  exact ⟨rfl, hb1⟩

theorem iReadShort_yes (s : ByteArray) (hs : s.size ≤ 1048576) (a : Int) (n j : Nat) (hr : rvI s a = some (n, j)) (h1 : n ≤ 20000) (h2 : j + n ≤ s.size) (w : World) :
    Calls Try.prog 8 #[.string s, .int .i64 a] w fun e w' => e = .returned (.tuple #[.string (s.extract j (j + n)), .int .i64 ((j : Int) + (n : Int)), .bool true]) ∧ Below w.heap.size w w' := by
  have H := fun w => iReadVar_any s hs a w
  have hbd := rvI_some hr
  rw [hr] at H
  unfold rvV at H
  have K : Hid _ := H
  clear H hr
  have d1 : decide ((20000 : Int) < (n : Int)) = false := by simp; omega
  have d2 : decide ((s.size : Int) - (j : Int) < (n : Int)) = false := by simp; omega
  go_enter Try.func8, Try.ntmps8
  go_wp2_with (go_at_call 16; refine (K.out _).mono ?_; rintro e w1 ⟨rfl, hw1⟩; subst hw1)
  have hz := cut_size s j n hs
  refine (clone_any (s.extract j (j + n)) hz _).mono ?_
  rintro e w2 ⟨rfl, hb2⟩
  go_wp2
  go_ret3
  exact ⟨rfl, hb2⟩

theorem fnExactReadShort.walk (s : ByteArray) (hs : s.size ≤ maxLen) (a : Int) (_ha : (Lit.int .i64 a).wf = true) (w : World) :
    Calls Try.prog 3 #[.string s, .int .i64 a] w fun e w' => e = .returned (.bool true) ∧ Below w.heap.size w w' := by
  unfold maxLen at hs
  by_cases hb : s.size ≤ 1048576
  · cases hr : rvI s a with
    | none =>
      go_enter Try.func3, Try.ntmps3
      go_wp2_with (go_at_call 7; refine (sReadShort_none s hb a hr _).mono ?_; rintro e w1 ⟨rfl, hb1⟩)
      go_wp2_with (go_at_call 8; refine (iReadShort_none s hb a hr _).mono ?_; rintro e w2 ⟨rfl, hb2⟩)
      go_ret
      exact ⟨rfl, hb1.trans (hb2.mono hb1.size)⟩
    | some p =>
      obtain ⟨n, j⟩ := p
      have HR : Hid _ := hr
      clear hr
      by_cases hg : 20000 < n ∨ s.size < j + n
      · go_enter Try.func3, Try.ntmps3
        go_wp2_with (go_at_call 7; refine (sReadShort_big s hb a n j HR.out hg _).mono ?_; rintro e w1 ⟨rfl, hb1⟩)
        go_wp2_with (go_at_call 8; refine (iReadShort_big s hb a n j HR.out hg _).mono ?_; rintro e w2 ⟨rfl, hb2⟩)
        go_ret
        exact ⟨rfl, hb1.trans (hb2.mono hb1.size)⟩
      · have g1 : n ≤ 20000 := by omega
        have g2 : j + n ≤ s.size := by omega
        clear hg
        go_enter Try.func3, Try.ntmps3
        go_wp2_with (go_at_call 7; refine (sReadShort_yes s hb a n j HR.out g1 g2 _).mono ?_; rintro e w1 ⟨rfl, hb1⟩)
        go_wp2_with (go_at_call 8; refine (iReadShort_yes s hb a n j HR.out g1 g2 _).mono ?_; rintro e w2 ⟨rfl, hb2⟩)
        go_ret
        exact ⟨rfl, hb1.trans (hb2.mono hb1.size)⟩
  · go_enter Try.func3, Try.ntmps3
    go_wp2
    go_ret
    exact ⟨rfl, Below.refl _ _⟩
end Go.Proofs.Ytngbaefmejdecag
