/- The specification's Reroot. -/
import Derived.Test.YtcppbgkocipnlabRer
namespace Go.Proofs.Ytcppbgkocipnlab
open Go.RowKit

theorem ISt.appL {wb : World} {a : Option Addr} {m c : Nat} {ls : List Int} {u : World} (h : ISt wb a m c ls u) {xs : List Int} {m3 : Nat} {v : Value} {u' : World}
    (ho : u'.ownsRow wb.heap.size 3 1 v m3 (ic ls ++ ic xs)) (hg : u.grownBy u' (Value.slice a m c).ownBlock) :
    ∃ a' c', v = .slice a' m3 c' ∧ ISt wb a' m3 c' (ls ++ xs) u' := by
  obtain ⟨a', c', rfl⟩ := own_form ho
  rw [← ic_append] at ho
  refine ⟨a', c', rfl, ho, ?_⟩
  exact h.bel.grown hg (by have := h.size; omega) (fun j hj => (h.own.lt j hj).1)
/-- from its root on a tour is as it is -/
theorem reT_zero {t : List Int} {v : Int} (hB : tB t = true) (hv : t[0]? = some v) : reT t 0 v = t := by
  obtain ⟨x, r, s, rfl, _, _, hr⟩ := tB_open hB
  simp at hv
  subst hv
  rcases hr with rfl | ⟨q, rfl⟩
  · simp [reT]
  · have e : x :: (q ++ [x]) = (x :: q) ++ [x] := rfl
    unfold reT
    rw [e, List.length_append, List.take_append_of_le_length (by simp), List.take_of_length_le (by simp)]
    simp
theorem tans_none {w u : World} {o : Option (List Int)} (ho : o = none) {g : Nat} (hown : u.ownsRow w.heap.size 3 1 (.slice (some ⟨g, 0, none⟩) 0 0) 0 (ic [])) (h : Below w.heap.size w u) : TAns w o (.returned (.tuple #[.slice (some ⟨g, 0, none⟩) 0 0, .bool false])) u := by
  subst ho
  exact ⟨_, 0, 0, rfl, hown, h⟩

end Go.Proofs.Ytcppbgkocipnlab
