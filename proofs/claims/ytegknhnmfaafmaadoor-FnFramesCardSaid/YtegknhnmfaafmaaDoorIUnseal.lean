/- What the program's Unsealed answers. -/
import Derived.Test.YtegknhnmfaafmaaDoorISeal
import Derived.Deep.RegionHeld3
import Derived.BigQuiet
import Derived.Lib.Strings
import Derived.WalkSmall
namespace Go.Proofs.YtegknhnmfaafmaaDoor
open Go.RowKit Crc

theorem str_neq {a b : ByteArray} (h : ¬ a = b) : (!a.toList == b.toList) = true := by
  have h1 : ¬ a.toList = b.toList := by
    rw [Lib.toList_data, Lib.toList_data]
    intro e
    apply h
    cases a; cases b
    simpa using e
  simp [h1]

theorem hidOf {p : Prop} (h : p) : Hid p := h

/-- nothing of what was there at w has turned -/
def St (w u : World) : Prop := Below w.heap.size w u

theorem St.here (w : World) : St w w := Below.refl _ _

theorem St.drew {w u : World} (h : St w u) : St w u.drew := Below.drew h

theorem iSumOf_St (s : ByteArray) (hs : s.size ≤ maxLen) {w u : World} (ht : Tab w) (h : St w u) :
    Calls Tryd.prog 25 #[.string s] u fun e w' => e = .returned (.int .u32 (smS s : Nat)) ∧ St w w' :=
  (iSumOf_S s hs u (ht.below h (Nat.le_refl _))).mono fun _ _ ⟨he, hw⟩ => ⟨he, hw ▸ h⟩

theorem text_St (x : Nat) (hx : x < 4294967296) {w u : World} (h : St w u) :
    Calls Tryd.prog 26 #[.int .u32 (x : Int)] u fun e w' => e = .returned (.string (fourS x)) ∧ St w w' :=
  (text_S x hx u).mono fun _ _ ⟨he, hb⟩ => ⟨he, Below.trans h (hb.mono (Below.size h))⟩

end Go.Proofs.YtegknhnmfaafmaaDoor
