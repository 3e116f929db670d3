/- What the program's ReadShort answers where it reads a text. -/
import Derived.Test.YtngbaefmejdecaaDoorIRead
import Derived.Test.YtngbaefmejdecaaDoorShelf
import Derived.Lib.Strings
import Derived.WalkSpells
namespace Go.Proofs.YtngbaefmejdecaaDoor
open Go.RowKit Vt

theorem cut_size (s : ByteArray) (j n : Nat) (hs : s.size ≤ 1048576) : (s.extract j (j + n)).size ≤ 1048576 := by
  rw [ByteArray.size_extract]
  omega

theorem clone_any (s : ByteArray) (h : s.size ≤ 1048576) (w : World) :
    Calls Tryd.prog 22 #[.string s] w fun e w' => e = .returned (.string s) ∧ Below w.heap.size w w' := by
  go_enter Tryd.func22, Tryd.ntmps22
  go_wp2_with (go_at_call 26; refine (Tryd.stringslite_Clone s _ (by omega)).mono ?_; rintro e w1 ⟨rfl, hb1⟩)
  go_ret
  exact ⟨rfl, hb1⟩

theorem iReadShort_yes (s : ByteArray) (hs : s.size ≤ 1048576) (a : Int) (n j : Nat) (hr : rvI s a = some (n, j)) (h1 : n ≤ 20000) (h2 : j + n ≤ s.size) (w : World) :
    Calls Tryd.prog 12 #[.string s, .int .i64 a] w fun e w' => e = .returned (.tuple #[.string (s.extract j (j + n)), .int .i64 ((j : Int) + (n : Int)), .bool true]) ∧ Below w.heap.size w w' := by
  have H := fun w => iReadVar_any s hs a w
  have hbd := rvI_some hr
  rw [hr] at H
  unfold rvV at H
  have K : Hid _ := H
  clear H hr
  have d1 : decide ((20000 : Int) < (n : Int)) = false := by simp; omega
  have d2 : decide ((s.size : Int) - (j : Int) < (n : Int)) = false := by simp; omega
  go_enter Tryd.func12, Tryd.ntmps12
  go_wp2_with (go_at_call 7; refine (K.out _).mono ?_; rintro e w1 ⟨rfl, hw1⟩; subst hw1)
  have hz := cut_size s j n hs
  refine (clone_any (s.extract j (j + n)) hz _).mono ?_
  rintro e w2 ⟨rfl, hb2⟩
  go_wp2
  go_ret3
  exact ⟨rfl, hb2⟩

end Go.Proofs.YtngbaefmejdecaaDoor
