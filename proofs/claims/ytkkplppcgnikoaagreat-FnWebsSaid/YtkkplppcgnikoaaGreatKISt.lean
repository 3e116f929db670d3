/- The program's GraphOk and HasEdge. The library's Index and Contains over edges; the program's HasEdge. The program's AddEdge. Where a law stands that looks at fresh memory: graphs in ranges of blocks of their own. Lists of ints: how they stand in memory; eqIntS, markIntS, heldIntS; an answer that is a list of ints. A row of ints that a function makes for itself. -/
import Derived.Test.YtkkplppcgnikoaaGreatKConcat
import Derived.Test.YtkkplppcgnikoaaGreatKMarkE
import Derived.Deep.AppendLies
namespace Go.Proofs.YtkkplppcgnikoaaGreat.O
open Go.RowKit

end Go.Proofs.YtkkplppcgnikoaaGreat.O
namespace Go.Proofs.YtkkplppcgnikoaaGreat.O
open Go.RowKit

end Go.Proofs.YtkkplppcgnikoaaGreat.O
namespace Go.Proofs.YtkkplppcgnikoaaGreat.O
open Go.RowKit

/-- the answer of AddEdge, TakeEdge: a graph of the answer's own, or nothing -/
def GAns (w : World) (N : Int) (o : Option (List EdgeV)) (e : Ending) (w' : World) : Prop :=
  ∃ a m c, e = .returned (.tuple #[.agg #[.int .i64 (if o.isSome then N else 0), .slice a m c], .bool o.isSome]) ∧ w'.ownsRow w.heap.size 28 2 (.slice a m c) m (ecells (o.getD [])) ∧ Below w.heap.size w w'

theorem set_other {u : World} {G j x o : Nat} {v : Value} (h : x ≠ G) : (u.setCell ⟨G, j, none⟩ v).cell? ⟨x, o, none⟩ = u.cell? ⟨x, o, none⟩ := World.cell?_of_block (w := u) (heap_setCell_other u ⟨G, j, none⟩ x v h)
theorem own_setLow {w : World} {B e s n : Nat} {v : Value} {xs : List Value} (h : w.ownsRow B e s v n xs) (G j : Nat) (u : Value) (hG : G < B) : (w.setCell ⟨G, j, none⟩ u).ownsRow B e s v n xs :=
  World.ownsRow.kept h (grownSet w G j u) (.inr (fun e => by have := (h.lt G (by simpa using e)).1; omega))

/-- the world behind the boxes -/
def w3 (w : World) (N : Int) (a : Option Addr) (n c : Nat) (f : EdgeV) : World :=
  ((w.alloc (.cells #[.int .i64 N, .slice a n c] 33)).alloc (.cells #[.int .i64 f.1, .int .i64 f.2] 28)).alloc (.cells #[.int .i64 0, .slice none 0 0] 33)
theorem w3_size (w : World) (N : Int) (a : Option Addr) (n c : Nat) (f : EdgeV) : (w3 w N a n c f).heap.size = w.heap.size + 3 := by simp [w3]
theorem w3_below (w : World) (N : Int) (a : Option Addr) (n c : Nat) (f : EdgeV) : Below w.heap.size w (w3 w N a n c f) := (((Below.refl _ _).alloc (Nat.le_refl _) _).alloc (by simp) _).alloc (by simp; omega) _

/-- what the boxes hold, whatever has come since -/
structure In3 (w : World) (N : Int) (a : Option Addr) (n c : Nat) (f : EdgeV) (u : World) : Prop where
  good : Good (w3 w N a n c f) u
theorem In3.cells {w : World} {N : Int} {a : Option Addr} {n c : Nat} {f : EdgeV} {u : World} (h : In3 w N a n c f u) :
    (u.cell? ⟨w.heap.size, 0, none⟩ = some (.int .i64 N) ∧ u.cell? ⟨w.heap.size, 1, none⟩ = some (.slice a n c)) ∧ (u.cell? ⟨w.heap.size + 1, 0, none⟩ = some (.int .i64 f.1) ∧ u.cell? ⟨w.heap.size + 1, 1, none⟩ = some (.int .i64 f.2)) := by
  have hs := w3_size w N a n c f
  refine ⟨⟨?_, ?_⟩, ?_, ?_⟩
  · rw [h.good.cell (by omega)]; simp [w3, go_sem]
  · rw [h.good.cell (by omega)]; simp [w3, go_sem]
  · rw [h.good.cell (by omega)]; simp [w3, go_sem]
  · rw [h.good.cell (by omega)]; simp [w3, go_sem]
theorem In3.out {w : World} {N : Int} {a : Option Addr} {n c : Nat} {f : EdgeV} {u : World} (h : In3 w N a n c f u) :
    (u.cell? ⟨w.heap.size + 1 + 1, 0, none⟩ = some (.int .i64 0) ∧ u.cell? ⟨w.heap.size + 1 + 1, 1, none⟩ = some (.slice none 0 0)) ∧ (u.frozen? ⟨w.heap.size + 1 + 1, 0, none⟩ = false ∧ u.frozen? ⟨w.heap.size + 1 + 1, 1, none⟩ = false) := by
  have hs := w3_size w N a n c f
  refine ⟨⟨?_, ?_⟩, ?_, ?_⟩
  · rw [h.good.cell (by omega)]; simp [w3, go_sem]
  · rw [h.good.cell (by omega)]; simp [w3, go_sem]
  · rw [Below.frozen h.good (by show w.heap.size + 1 + 1 < _; omega)]; simp [w3, go_sem]
  · rw [Below.frozen h.good (by show w.heap.size + 1 + 1 < _; omega)]; simp [w3, go_sem]
theorem In3.up {w : World} {N : Int} {a : Option Addr} {n c : Nat} {f : EdgeV} {u v : World} (h : In3 w N a n c f u) (hb : Below u.heap.size u v) : In3 w N a n c f v := ⟨h.good.up hb⟩
theorem In3.start (w : World) (N : Int) (a : Option Addr) (n c : Nat) (f : EdgeV) : In3 w N a n c f (w3 w N a n c f) := ⟨Good.refl _⟩
theorem In3.below {w : World} {N : Int} {a : Option Addr} {n c : Nat} {f : EdgeV} {u : World} (h : In3 w N a n c f u) : Below w.heap.size w u := (w3_below w N a n c f).trans (Below.mono h.good (by rw [w3_size]; omega))
theorem In3.size {w : World} {N : Int} {a : Option Addr} {n c : Nat} {f : EdgeV} {u : World} (h : In3 w N a n c f u) : w.heap.size + 3 ≤ u.heap.size := by have := h.good.size; rw [w3_size] at this; exact this
theorem In3.drew {w : World} {N : Int} {a : Option Addr} {n c : Nat} {f : EdgeV} {u : World} (h : In3 w N a n c f u) : In3 w N a n c f u.drew := ⟨h.good.drew⟩

theorem In3.cellsSet {w : World} {N : Int} {a : Option Addr} {n c : Nat} {f : EdgeV} {u : World} (h : In3 w N a n c f u) (v0 v1 : Value) :
    ((((u.setCell ⟨w.heap.size + 1 + 1, 0, none⟩ v0).setCell ⟨w.heap.size + 1 + 1, 1, none⟩ v1)).cell? ⟨w.heap.size, 0, none⟩ = some (.int .i64 N) ∧ (((u.setCell ⟨w.heap.size + 1 + 1, 0, none⟩ v0).setCell ⟨w.heap.size + 1 + 1, 1, none⟩ v1)).cell? ⟨w.heap.size, 1, none⟩ = some (.slice a n c)) ∧
      ((((u.setCell ⟨w.heap.size + 1 + 1, 0, none⟩ v0).setCell ⟨w.heap.size + 1 + 1, 1, none⟩ v1)).cell? ⟨w.heap.size + 1, 0, none⟩ = some (.int .i64 f.1) ∧ (((u.setCell ⟨w.heap.size + 1 + 1, 0, none⟩ v0).setCell ⟨w.heap.size + 1 + 1, 1, none⟩ v1)).cell? ⟨w.heap.size + 1, 1, none⟩ = some (.int .i64 f.2)) := by
  obtain ⟨⟨k0, k1⟩, k2, k3⟩ := h.cells
  refine ⟨⟨?_, ?_⟩, ?_, ?_⟩
  · rw [set_other (by omega), set_other (by omega)]; exact k0
  · rw [set_other (by omega), set_other (by omega)]; exact k1
  · rw [set_other (by omega), set_other (by omega)]; exact k2
  · rw [set_other (by omega), set_other (by omega)]; exact k3

theorem gans_yes {w u : World} {N : Int} {a : Option Addr} {n c : Nat} {f : EdgeV} (h : In3 w N a n c f u) {o : Option (List EdgeV)} {gs : List EdgeV} (ho : o = some gs) {B : Nat} {a' : Option Addr} {m' c' : Nat}
    (hB : w.heap.size + 3 ≤ B) (hown : u.ownsRow B 28 2 (.slice a' m' c') m' (ecells gs)) :
    GAns w N o (.returned (.tuple #[.agg #[.int .i64 N, .slice a' m' c'], .bool true])) ((u.setCell ⟨w.heap.size + 1 + 1, 0, none⟩ (.int .i64 N)).setCell ⟨w.heap.size + 1 + 1, 1, none⟩ (.slice a' m' c')) := by
  subst ho
  exact ⟨a', m', c', rfl, own_mono (own_setLow (own_setLow hown _ 0 _ (by omega)) _ 1 _ (by omega)) (by omega), (h.below.setCell (by show _ ≤ w.heap.size + 1 + 1; omega) _).setCell (by show _ ≤ w.heap.size + 1 + 1; omega) _⟩

theorem gans_no {w u : World} {N : Int} {a : Option Addr} {n c : Nat} {f : EdgeV} (h : In3 w N a n c f u) {o : Option (List EdgeV)} (ho : o = none) :
    GAns w N o (.returned (.tuple #[.agg #[.int .i64 0, .slice none 0 0], .bool false])) ((u.setCell ⟨w.heap.size + 1 + 1, 0, none⟩ (.int .i64 0)).setCell ⟨w.heap.size + 1 + 1, 1, none⟩ (.slice none 0 0)) := by
  subst ho
  exact ⟨none, 0, 0, rfl, World.ownsRow_nil _ _ _ _, (h.below.setCell (by show _ ≤ w.heap.size + 1 + 1; omega) _).setCell (by show _ ≤ w.heap.size + 1 + 1; omega) _⟩

end Go.Proofs.YtkkplppcgnikoaaGreat.O
namespace Go.Proofs.YtkkplppcgnikoaaGreat.O
open Go.RowKit

end Go.Proofs.YtkkplppcgnikoaaGreat.O
namespace Go.Proofs.YtkkplppcgnikoaaGreat.O
open Go.RowKit

/-- a list of ints stands in memory below B -/
def Is (w : World) (B : Nat) (a : Option Addr) (n : Nat) (ls : List Int) : Prop :=
  ls.length = n ∧ (n = 0 ∨ ∃ b off, a = some ⟨b, off, none⟩ ∧ b < B ∧ ∀ (j : Nat) (x : Int), ls[j]? = some x → w.cell? ⟨b, off + j, none⟩ = some (.int .i64 x))
def ic (ls : List Int) : List Value := ls.map fun x => Value.int .i64 x
theorem ic_len (ls : List Int) : (ic ls).length = ls.length := by simp [ic]
theorem ic_snoc (ls : List Int) (x : Int) : ic (ls ++ [x]) = ic ls ++ [.int .i64 x] := by simp [ic]
theorem ic_at {ls : List Int} {j : Nat} {x : Int} (h : ls[j]? = some x) : (ic ls)[j]? = some (.int .i64 x) := by rw [ic, List.getElem?_map, h]; rfl
theorem Is_of_own {w : World} {B n c : Nat} {a : Option Addr} {ls : List Int} (h : w.ownsRow B 3 1 (.slice a n c) n (ic ls)) : Is w w.heap.size a n ls := by
  have hl := h.1
  rw [ic_len] at hl
  refine ⟨by omega, ?_⟩
  rcases h.2 with ⟨hv, h0⟩ | ⟨g, cap, cur, hv, hrest⟩
  · exact .inl h0
  · simp at hv
    obtain ⟨rfl, rfl⟩ := hv
    refine .inr ⟨g, 0, rfl, (h.lt g rfl).2, fun j x hx => ?_⟩
    have hj : j < ls.length := (List.getElem?_eq_some_iff.1 hx).1
    rw [Nat.zero_add, h.cellAt j (by omega)]
    exact ic_at hx
theorem info3i : (Tryz.prog.info? 3).map (fun i => (i.zero, i.size, i.bytes)) = some (some (.int .i64 0), 1, 8) := by kernel_rfl

/-- the answer of Around, Labels: a list of the answer's own -/
def IAns (w : World) (ls : List Int) (e : Ending) (w' : World) : Prop :=
  ∃ a m c, e = .returned (.slice a m c) ∧ w'.ownsRow w.heap.size 3 1 (.slice a m c) m (ic ls) ∧ Below w.heap.size w w'

end Go.Proofs.YtkkplppcgnikoaaGreat.O
namespace Go.Proofs.YtkkplppcgnikoaaGreat.O
open Go.RowKit

/-- nothing of wb has turned, and the row is ours -/
structure ISt (wb : World) (a : Option Addr) (m c : Nat) (ls : List Int) (u : World) : Prop where
  own : u.ownsRow wb.heap.size 3 1 (.slice a m c) m (ic ls)
  bel : Below wb.heap.size wb u
theorem ISt.size {wb : World} {a : Option Addr} {m c : Nat} {ls : List Int} {u : World} (h : ISt wb a m c ls u) : wb.heap.size ≤ u.heap.size := h.bel.size
theorem ISt.app {wb : World} {a : Option Addr} {m c : Nat} {ls : List Int} {u : World} (h : ISt wb a m c ls u) {x : Int} {o : Obj} {v : Value} {u' : World}
    (ho : u'.ownsRow wb.heap.size 3 1 v (m + 1) (ic ls ++ [.int .i64 x])) (hg : (u.alloc o).grownBy u' (Value.slice a m c).ownBlock) :
    ∃ a' c', v = .slice a' (m + 1) c' ∧ ISt wb a' (m + 1) c' (ls ++ [x]) u' := by
  obtain ⟨a', c', rfl⟩ := own_form ho
  rw [← ic_snoc] at ho
  refine ⟨a', c', rfl, ho, ?_⟩
  exact (h.bel.alloc h.size _).grown hg (by have := h.size; simp; omega) (fun j hj => (h.own.lt j hj).1)
theorem ISt.start (wb : World) : ISt wb (some ⟨wb.heap.size, 0, none⟩) 0 0 [] (wb.alloc (.cells #[] 3)) := by
  refine ⟨?_, (Below.refl _ _).alloc (Nat.le_refl _) _⟩
  have h0 := World.ownsRow_lit (base := wb.heap.size) (e := 3) (size := 1) wb #[] 0 (Nat.le_refl _) (by unfold maxLen; omega) (by simp)
  simpa [ic] using h0
theorem newsI (w : World) (x : Int) : ∀ j u, ([Value.int .i64 x] : List Value)[j]? = some u → (w.alloc (.cells #[.int .i64 x] 3)).cell? ((⟨w.heap.size, 0, none⟩ : Addr).add j) = some u := by
  intro j u hj
  rcases j with _ | j
  · simp at hj; subst hj; simp [Addr.add]
  · simp at hj

/-- the world behind a graph's box -/
def wG (w : World) (N : Int) (a : Option Addr) (n c : Nat) : World := w.alloc (.cells #[.int .i64 N, .slice a n c] 33)
theorem wG_size (w : World) (N : Int) (a : Option Addr) (n c : Nat) : (wG w N a n c).heap.size = w.heap.size + 1 := by simp [wG]
theorem wG_below (w : World) (N : Int) (a : Option Addr) (n c : Nat) : Below w.heap.size w (wG w N a n c) := (Below.refl _ _).alloc (Nat.le_refl _) _
/-- nothing of it has turned -/
def InG (w : World) (N : Int) (a : Option Addr) (n c : Nat) (u : World) : Prop := Good (wG w N a n c) u
theorem InG.start (w : World) (N : Int) (a : Option Addr) (n c : Nat) : InG w N a n c (wG w N a n c) := Good.refl _
theorem InG.up {w : World} {N : Int} {a : Option Addr} {n c : Nat} {u v : World} (h : InG w N a n c u) (hb : Below u.heap.size u v) : InG w N a n c v := Good.up h hb
theorem InG.below {w : World} {N : Int} {a : Option Addr} {n c : Nat} {u : World} (h : InG w N a n c u) : Below w.heap.size w u := (wG_below w N a n c).trans (Below.mono h (by rw [wG_size]; omega))
theorem InG.size {w : World} {N : Int} {a : Option Addr} {n c : Nat} {u : World} (h : InG w N a n c u) : w.heap.size + 1 ≤ u.heap.size := by have := Good.size h; rw [wG_size] at this; exact this
theorem InG.cells {w : World} {N : Int} {a : Option Addr} {n c : Nat} {u : World} (h : InG w N a n c u) : u.cell? ⟨w.heap.size, 0, none⟩ = some (.int .i64 N) ∧ u.cell? ⟨w.heap.size, 1, none⟩ = some (.slice a n c) := by
  have hs := wG_size w N a n c
  refine ⟨?_, ?_⟩
  · rw [Good.cell h (by omega)]; simp [wG]
  · rw [Good.cell h (by omega)]; simp [wG]
/-- a row made since u0 stands in a world since w -/
theorem ISt.inG {w : World} {N : Int} {a : Option Addr} {n c : Nat} {u0 : World} (h0 : InG w N a n c u0) {a' : Option Addr} {m c' : Nat} {ls : List Int} {u : World} (h : ISt u0 a' m c' ls u) : InG w N a n c u := h0.up h.bel
theorem ISt.ans {w : World} {N : Int} {a : Option Addr} {n c : Nat} {u0 : World} (h0 : InG w N a n c u0) {a' : Option Addr} {m c' : Nat} {ls : List Int} {u : World} (h : ISt u0 a' m c' ls u) : IAns w ls (.returned (.slice a' m c')) u :=
  ⟨a', m, c', rfl, own_mono h.own (by have := h0.size; omega), (h.inG h0).below⟩
end Go.Proofs.YtkkplppcgnikoaaGreat.O
