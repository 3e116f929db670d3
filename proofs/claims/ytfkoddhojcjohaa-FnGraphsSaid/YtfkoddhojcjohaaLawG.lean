/- What the laws over graphs share. -/
import Derived.Test.YtfkoddhojcjohaaOpenGraph
namespace Go.Proofs.Ytfkoddhojcjohaa
open Go.RowKit

/-- nothing below has turned since w -/
def Good (w u : World) : Prop := Below w.heap.size w u
theorem Good.refl (w : World) : Good w w := Below.refl _ _
theorem Good.size {w u : World} (h : Good w u) : w.heap.size ≤ u.heap.size := Below.size h
theorem Good.up {w u v : World} (h : Good w u) (hb : Below u.heap.size u v) : Good w v := Below.trans h (hb.mono h.size)
theorem Good.alloc {w u : World} (h : Good w u) (o : Obj) : Good w (u.alloc o) := h.up ((Below.refl _ _).alloc (Nat.le_refl _) _)
theorem Good.drew {w u : World} (h : Good w u) : Good w u.drew := Below.drew h
theorem Good.es {w u : World} (h : Good w u) {a : Option Addr} {n : Nat} {fs : List EdgeV} (hf : Es w w.heap.size a n fs) : Es u u.heap.size a n fs := hf.up h
theorem Good.cell {w u : World} (h : Good w u) {b o : Nat} (hb : b < w.heap.size) : u.cell? ⟨b, o, none⟩ = w.cell? ⟨b, o, none⟩ := Below.cell h hb
end Go.Proofs.Ytfkoddhojcjohaa
