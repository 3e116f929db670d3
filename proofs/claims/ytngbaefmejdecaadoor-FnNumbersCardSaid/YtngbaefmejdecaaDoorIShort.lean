/- What the program's ShortText answers at every text in its range. -/
import Derived.Test.YtngbaefmejdecaaDoorIVar
import Derived.Laws.Concat
namespace Go.Proofs.YtngbaefmejdecaaDoor
open Go.RowKit Vt

/-- the number n in bytes, as a text -/
def vtS (n : Nat) : ByteArray := ⟨(vt n).toArray⟩

theorem vtS_size (n : Nat) : (vtS n).size ≤ n + 1 := by
  have h := vt_length n n (Nat.le_refl _)
  have : (vtS n).size = (vt n).length := by simp [vtS, ByteArray.size]
  omega

theorem iShort_yes (s : ByteArray) (hs : s.size ≤ 20000) (w : World) :
    Calls Tryd.prog 11 #[.string s] w fun e w' => e = .returned (.tuple #[.string (vtS s.size ++ s), .bool true]) ∧ Below w.heap.size w w' := by
  have hz := vtS_size s.size
  go_enter Tryd.func11, Tryd.ntmps11
  go_wp2_with (go_at_call 6; refine (show Calls Tryd.prog 6 #[.int .i64 (s.size : Int)] w fun e w' => e = .returned (.tuple #[.string (vtS s.size), .bool true]) ∧ Below w.heap.size w w' from iVarText_yes s.size (by omega) _).mono ?_; rintro e w1 ⟨rfl, hb1⟩)
  go_ret2
  exact ⟨rfl, hb1⟩

end Go.Proofs.YtngbaefmejdecaaDoor
