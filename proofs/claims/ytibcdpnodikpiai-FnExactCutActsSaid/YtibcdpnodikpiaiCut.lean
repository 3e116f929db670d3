/- Acts of which the power leaves the first ones: pure. -/
import Derived.Test.YtibcdpnodikpiaiRun
import Derived.Test.YtibcdpnodikpiaiLose
namespace Go.Proofs.Ytibcdpnodikpiai
open Go.RowKit

theorem As.take {w : World} {B : Nat} {a : Option Addr} {n : Nat} {xs : List ActV} (h : As w B a n xs) {k : Nat} (hk : k ≤ n) : As w B a k (xs.take k) := by
  refine ⟨by rw [List.length_take]; have := h.1; omega, ?_⟩
  rcases h.2 with h0 | ⟨b, off, h1, h2, h3⟩
  · exact .inl (by omega)
  · refine .inr ⟨b, off, h1, h2, fun j x hx => h3 j x ?_⟩
    have hj : j < k := by have := (List.getElem?_eq_some_iff.1 hx).1; rw [List.length_take] at this; omega
    rw [List.getElem?_take_of_lt hj] at hx
    exact hx

open Classical in
/-- what CutActs answers -/
noncomputable def cutO (fs : List FileV) (xs : List ActV) (z : Int) (ls : List Int) : Option (List FileV) :=
  if 0 ≤ z ∧ z ≤ xs.length ∧ ¬ (((runActs fs (xs.take z.toNat)).2 : Int) < z) then loseO (runActs fs (xs.take z.toNat)).1 ls else none
theorem cutO_yes {fs : List FileV} {xs : List ActV} {z : Int} (ls : List Int) (h0 : 0 ≤ z) (h1 : z ≤ xs.length) (h2 : ¬ (((runActs fs (xs.take z.toNat)).2 : Int) < z)) : cutO fs xs z ls = loseO (runActs fs (xs.take z.toNat)).1 ls := by
  unfold cutO; rw [if_pos ⟨h0, h1, h2⟩]
theorem cutO_range {fs : List FileV} {xs : List ActV} {z : Int} (ls : List Int) (h : z < 0 ∨ (xs.length : Int) < z) : cutO fs xs z ls = none := by
  unfold cutO; rw [if_neg (by omega)]
theorem cutO_less {fs : List FileV} {xs : List ActV} {z : Int} (ls : List Int) (h : ((runActs fs (xs.take z.toNat)).2 : Int) < z) : cutO fs xs z ls = none := by
  unfold cutO; rw [if_neg (by omega)]
theorem cutO_bad {fs : List FileV} {xs : List ActV} {z : Int} (ls : List Int) (h : ¬ DiskR fs) : cutO fs xs z ls = none := by
  unfold cutO
  rw [run_bad h, loseO_no h]
  split <;> rfl
theorem cutO_len {fs : List FileV} {xs : List ActV} {z : Int} {ls : List Int} : ((cutO fs xs z ls).getD []).length ≤ 30 := by
  unfold cutO
  split
  · exact loseO_len
  · simp
theorem fits_take {xs : List ActV} (h : FitsA xs) (k : Nat) : FitsA (xs.take k) := fun x hx => h x (List.mem_of_mem_take hx)
end Go.Proofs.Ytibcdpnodikpiai
