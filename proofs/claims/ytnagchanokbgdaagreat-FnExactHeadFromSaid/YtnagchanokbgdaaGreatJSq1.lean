/- Shorter words for what every walk of a drawn region says. -/
import Derived.Deep.RegionHeld3
import Derived.KernelRfl
import Derived.RowKit
import Derived.Below
namespace Go.Proofs.YtnagchanokbgdaaGreat
open Go.RowKit

theorem pU0 : ((∀ {α : Type} (xs : List α) (i : Nat) (x : α), xs.toArray.setIfInBounds i x = (xs.set i x).toArray) ∧ (∀ {α : Type} (xs : List α) (a b : α), (a :: xs).set 0 b = b :: xs) ∧ (∀ {α : Type} (xs : List α) (a b : α) (n : Nat), (a :: xs).set (n + 1) b = a :: xs.set n b)) ∧ (∀ {α : Type} (xs : List α) (i : Nat) (h : i < xs.toArray.size), xs.toArray[i] = xs[i]'(by simpa using h)) ∧ (∀ {α : Type} (a : α) (ls : List α) (h : 0 < (a :: ls).length), (a :: ls)[0] = a) ∧ (∀ {α : Type} (a : α) (ls : List α) (i : Nat) (h : i + 1 < (a :: ls).length), (a :: ls)[i + 1] = ls[i]'(by simpa using h)) :=
  ⟨⟨fun _ _ _ => List.setIfInBounds_toArray .., fun _ _ _ => rfl, fun _ _ _ _ => rfl⟩, fun _ _ _ => by simp, fun _ _ _ => rfl, fun _ _ _ _ => rfl⟩
theorem ex0 {α : Type} (a : α) : ∃ z, z = a := ⟨a, rfl⟩
theorem bz0 {y z : World} {o : Obj} (h : z = y.alloc o) : Below y.heap.size y z := by rw [h]; exact (Below.refl _ _).alloc (Nat.le_refl _) _
theorem pz0 {y z : World} {v : Value} {t : TypeId} (h : z = y.alloc (.cells #[v] t)) : z.cell? ⟨y.heap.size, 0, none⟩ = some v ∧ y.heap.size < z.heap.size := by rw [h]; simp [go_sem]
section
variable {P : Program} {md : Region.Mode} {ops : Array Oper} {Q : Exit → Go.Act → World → Prop} {S : World → Prop}
theorem tq0 {i : Nat} {oi : Oper} {v : Value} {fuel : Nat} {listed : Array Bool} {a : Go.Act} {w : World} (hi : ops[i]? = some oi) (hy : ∀ w, S w → (execOp a.eval oi).run P w = .ok (.value v) w) (hS : S w)
    (h : wpAnyH P md ops Q S fuel (listed.setIfInBounds i true) (a.put oi.dst v) w) (hs : Region.noSelect ops = true := by kernel_rfl) (hf : Region.free md ops listed i = true := by kernel_rfl) (hr : (Region.ready md ops listed).contains i = true := by kernel_rfl)
    (hQ : ∀ c a w, Q (.panic c) (a.put oi.dst v) w → Q (.panic c) a w := by exact fun _ _ _ h => h) (hw : Region.wanted oi (yielded ops a.tmps) = true := by rfl) : wpAnyH P md ops Q S (fuel + 1) listed a w :=
  wpAnyH_take hi hs hf hr hQ (.inl ⟨hw, hy⟩) hS h
theorem wr0 {i : Nat} {o : Oper} {fuel : Nat} {listed : Array Bool} {a : Go.Act} {w : World} (ho : ops[i]? = some o) (h : ∀ K' : Go.Act → World → Prop, Shut (∀ a w, S w → (S w → wpAnyH P md ops Q S fuel (listed.setIfInBounds i true) a w) → K' a w) → if Region.wanted o (yielded ops a.tmps) = true then Oper.wp P o a w K' Q else K' (a.put o.dst undef) w)
    (hr : Region.ready md ops listed = [i] := by kernel_rfl) : wpAnyH P md ops Q S (fuel + 1) listed a w := wpAnyH_ready hr (by simp) (AllReadyH.cons ho h AllReadyH.nil)
end
end Go.Proofs.YtnagchanokbgdaaGreat
