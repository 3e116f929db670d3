/- Where a law of one box stands; rows of the law's own. -/
import Derived.Test.YtibcdpnodikpiaiLawSt
namespace Go.Proofs.Ytibcdpnodikpiai
open Go.RowKit

/-- the world behind the law's box -/
def lw1 (w : World) (a : Option Addr) (n c : Nat) : World := w.alloc (.cells #[.slice a n c] 24)
theorem lw1_size (w : World) (a : Option Addr) (n c : Nat) : (lw1 w a n c).heap.size = w.heap.size + 1 := by simp [lw1]
/-- nothing of it has turned -/
def L1 (w : World) (a : Option Addr) (n c : Nat) (u : World) : Prop := Below (w.heap.size + 1) (lw1 w a n c) u
theorem L1.start (w : World) (a : Option Addr) (n c : Nat) : L1 w a n c (lw1 w a n c) := Below.refl _ _
theorem L1.size {w : World} {a : Option Addr} {n c : Nat} {u : World} (h : L1 w a n c u) : w.heap.size + 1 ≤ u.heap.size := by have := Below.size h; rw [lw1_size] at this; exact this
theorem L1.up {w : World} {a : Option Addr} {n c : Nat} {u v : World} (h : L1 w a n c u) (hb : Below u.heap.size u v) : L1 w a n c v := Below.trans h (hb.mono h.size)
theorem L1.rng {w : World} {a : Option Addr} {n c : Nat} {u v : World} {lo hi : Nat} (h : L1 w a n c u) (hr : Rng lo hi u v) (hl : w.heap.size + 1 ≤ lo) : L1 w a n c v := Below.trans h (hr.below hl h.size)
theorem L1.below {w : World} {a : Option Addr} {n c : Nat} {u : World} (h : L1 w a n c u) : Below w.heap.size w u :=
  ((Below.refl w.heap.size w).alloc (Nat.le_refl _) _).trans (Below.mono h (by omega))
theorem L1.cell {w : World} {a : Option Addr} {n c : Nat} {u : World} (h : L1 w a n c u) : u.cell? ⟨w.heap.size, 0, none⟩ = some (.slice a n c) := by
  rw [Below.cell h (by show w.heap.size < _; omega)]; simp [lw1]

/-- a row of the law's own, within lo .. hi -/
structure RBox (u : World) (lo hi g e s n : Nat) (xs : List Value) : Prop where
  own : u.ownsRow lo e s (.slice (some ⟨g, 0, none⟩) n n) n xs
  most : g < hi
  there : hi ≤ u.heap.size
theorem RBox.rng {u v : World} {lo hi g e s n l2 h2 : Nat} {xs : List Value} (h : RBox u lo hi g e s n xs) (hr : Rng l2 h2 u v) (ho : hi ≤ l2 ∨ h2 ≤ lo) : RBox v lo hi g e s n xs := by
  have hth := h.there
  have hm := h.most
  refine ⟨⟨h.own.1, ?_⟩, hm, Nat.le_trans hth hr.size⟩
  rcases h.own.2 with h3 | ⟨g', cap, cur, hv, hg, hcur, hrest⟩
  · exact .inl h3
  · have e' : g = g' := by simp at hv; exact hv.1
    subst e'
    refine .inr ⟨g, cap, cur, hv, hg, ?_, hrest⟩
    rw [hr.block g (by omega) (by omega)]
    exact hcur
theorem RBox.up {u v : World} {lo hi g e s n : Nat} {xs : List Value} (h : RBox u lo hi g e s n xs) (hb : Below u.heap.size u v) : RBox v lo hi g e s n xs :=
  h.rng (l2 := hi) (h2 := hi) (Rng.of_below hb) (.inl (Nat.le_refl _))
end Go.Proofs.Ytibcdpnodikpiai
