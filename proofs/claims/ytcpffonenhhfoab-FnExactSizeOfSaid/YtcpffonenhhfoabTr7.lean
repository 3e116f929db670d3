/- The place of a vertex's tour: pure. -/
import Derived.Test.YtcpffonenhhfoabFind6
import Derived.Test.YtcpffonenhhfoabFn7
namespace Go.Proofs.Ytcpffonenhhfoab
open Go.RowKit

def trP (ts : List (List Int)) (v : Int) (k : Nat) : Bool := match ts[k]? with | some t => decide (v ∈ t) | none => false
theorem trP_at {ts : List (List Int)} {v : Int} {k : Nat} {t : List Int} (h : ts[k]? = some t) : trP ts v k = decide (v ∈ t) := by simp [trP, h]
/-- the first place of a tour that v is in, or -1 -/
def trI (ts : List (List Int)) (v : Int) : Int := firstN (trP ts v) ts.length
theorem trI_cases (ts : List (List Int)) (v : Int) : (∃ (k : Nat) (t : List Int), ts[k]? = some t ∧ v ∈ t ∧ trI ts v = (k : Int)) ∨ ((∀ t ∈ ts, v ∉ t) ∧ trI ts v = -1) := by
  rcases firstN_cases (trP ts v) ts.length with ⟨k, hk, h, _, e⟩ | ⟨h, e⟩
  · refine .inl ⟨k, ts[k], List.getElem?_eq_getElem hk, ?_, e⟩
    rw [trP_at (List.getElem?_eq_getElem hk)] at h
    exact of_decide_eq_true h
  · refine .inr ⟨fun t ht hv => ?_, e⟩
    obtain ⟨k, hk⟩ := List.mem_iff_getElem?.1 ht
    have := h k (List.getElem?_eq_some_iff.1 hk).1
    rw [trP_at hk, decide_eq_true hv] at this
    cases this
theorem trI_of {N : Int} {ts : List (List Int)} (h : FQ N ts) {v : Int} {k : Nat} {t : List Int} (hk : ts[k]? = some t) (hv : v ∈ t) : trI ts v = (k : Int) := by
  rcases trI_cases ts v with ⟨j, s, hj, hs, e⟩ | ⟨hn, _⟩
  · rw [e, h.place hj hk hs hv]
  · exact absurd hv (hn t (List.mem_of_getElem? hk))
/-- what TreeOf answers -/
noncomputable def treeO (N : Int) (ts : List (List Int)) (v : Int) : Int := @ite _ (FP N ts) (Classical.propDecidable _) (trI ts v) (-1)
theorem treeO_yes {N : Int} {ts : List (List Int)} (h : FP N ts) (v : Int) : treeO N ts v = trI ts v := by unfold treeO; rw [if_pos h]
theorem treeO_no {N : Int} {ts : List (List Int)} (h : ¬ FP N ts) (v : Int) : treeO N ts v = -1 := by unfold treeO; rw [if_neg h]
theorem treeO_cases (N : Int) (ts : List (List Int)) (v : Int) : (∃ (k : Nat) (t : List Int), FP N ts ∧ ts[k]? = some t ∧ v ∈ t ∧ treeO N ts v = (k : Int)) ∨ ((FP N ts → ∀ t ∈ ts, v ∉ t) ∧ treeO N ts v = -1) := by
  by_cases h : FP N ts
  · rw [treeO_yes h]
    rcases trI_cases ts v with ⟨k, t, h1, h2, h3⟩ | ⟨h1, h2⟩
    · exact .inl ⟨k, t, h, h1, h2, h3⟩
    · exact .inr ⟨fun _ => h1, h2⟩
  · exact .inr ⟨fun h2 => absurd h2 h, treeO_no h v⟩
/-- what SizeOf answers -/
noncomputable def sizeO (N : Int) (ts : List (List Int)) (v : Int) : Int := if treeO N ts v < 0 then 0 else ((vsL ((ts[(treeO N ts v).toNat]?).getD [])).length : Int)
theorem sizeO_yes {N : Int} {ts : List (List Int)} {v : Int} {k : Nat} {t : List Int} (h : treeO N ts v = (k : Int)) (ht : ts[k]? = some t) : sizeO N ts v = ((vsL t).length : Int) := by
  unfold sizeO
  rw [h, if_neg (by omega), Int.toNat_natCast, ht]
  rfl
theorem sizeO_no {N : Int} {ts : List (List Int)} {v : Int} (h : treeO N ts v = -1) : sizeO N ts v = 0 := by
  unfold sizeO
  rw [h, if_pos (by omega)]
end Go.Proofs.Ytcpffonenhhfoab
