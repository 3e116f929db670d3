/- A graph in a box of its own. -/
import Derived.Test.YtcppbgkocipnlaaB6
namespace Go.Proofs.Ytcppbgkocipnlaa
open Go.RowKit

/-- the world behind a graph's box -/
def wG (w : World) (N : Int) (a : Option Addr) (n c : Nat) : World := w.alloc (.cells #[.int .i64 N, .slice a n c] 65)

theorem wG_size (w : World) (N : Int) (a : Option Addr) (n c : Nat) : (wG w N a n c).heap.size = w.heap.size + 1 := by simp [wG]

theorem wG_below (w : World) (N : Int) (a : Option Addr) (n c : Nat) : Below w.heap.size w (wG w N a n c) := (Below.refl _ _).alloc (Nat.le_refl _) _

/-- nothing of it has turned -/
def InG (w : World) (N : Int) (a : Option Addr) (n c : Nat) (u : World) : Prop := Good (wG w N a n c) u

theorem InG.start (w : World) (N : Int) (a : Option Addr) (n c : Nat) : InG w N a n c (wG w N a n c) := Good.refl _

theorem InG.up {w : World} {N : Int} {a : Option Addr} {n c : Nat} {u v : World} (h : InG w N a n c u) (hb : Below u.heap.size u v) : InG w N a n c v := Good.up h hb

theorem InG.below {w : World} {N : Int} {a : Option Addr} {n c : Nat} {u : World} (h : InG w N a n c u) : Below w.heap.size w u := (wG_below w N a n c).trans (Below.mono h (by rw [wG_size]; omega))

theorem InG.size {w : World} {N : Int} {a : Option Addr} {n c : Nat} {u : World} (h : InG w N a n c u) : w.heap.size + 1 ≤ u.heap.size := by have := Good.size h; rw [wG_size] at this; exact this

theorem InG.cells {w : World} {N : Int} {a : Option Addr} {n c : Nat} {u : World} (h : InG w N a n c u) : u.cell? ⟨w.heap.size, 0, none⟩ = some (.int .i64 N) ∧ u.cell? ⟨w.heap.size, 1, none⟩ = some (.slice a n c) := by
  have hs := wG_size w N a n c
  refine ⟨?_, ?_⟩
  · rw [Good.cell h (by omega)]; simp [wG]
  · rw [Good.cell h (by omega)]; simp [wG]

/-- a row made since u0 stands in a world since w -/
theorem ISt.inG {w : World} {N : Int} {a : Option Addr} {n c : Nat} {u0 : World} (h0 : InG w N a n c u0) {a' : Option Addr} {m c' : Nat} {ls : List Int} {u : World} (h : ISt u0 a' m c' ls u) : InG w N a n c u := h0.up h.bel

theorem ISt.ans {w : World} {N : Int} {a : Option Addr} {n c : Nat} {u0 : World} (h0 : InG w N a n c u0) {a' : Option Addr} {m c' : Nat} {ls : List Int} {u : World} (h : ISt u0 a' m c' ls u) : IAns w ls (.returned (.slice a' m c')) u :=
  ⟨a', m, c', rfl, own_mono h.own (by have := h0.size; omega), (h.inG h0).below⟩

end Go.Proofs.Ytcppbgkocipnlaa
