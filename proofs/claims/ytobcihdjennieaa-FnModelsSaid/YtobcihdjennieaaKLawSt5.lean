/- A graph and an edge that come in, as the walks want them. What the laws over graphs share. The program's AddEdge. The specification's l05Put and AddEdge. What the laws' own marks and looks on edges answer: markEdgeS, heldEdgeS, markGraph, heldGraph. Where a law stands that looks at fresh memory: graphs in ranges of blocks of their own. -/
import Derived.Test.YtobcihdjennieaaKSHas
import Derived.WalkKit
import Derived.ProofKit
import Derived.OpenShut
import Derived.ChangeOld
import Derived.ChangeArms
import Derived.Below
import Derived.Test.YtobcihdjennieaaKIHas
import Derived.Deep.AppendLies
namespace Go.Proofs.Ytobcihdjennieaa
open Go.ChangeShapes Go.WideShapes Go.ChangeAt Go.RowKit

theorem cellsLE : Try.prog.cellsOf 97 = 2 := by kernel_rfl
theorem cells3 : Try.prog.cellsOf 3 = 1 := by kernel_rfl

/-- an edge as the machine bears it -/
def FitE (f : EdgeV) : Prop := (Lit.int .i64 f.1).wf = true ∧ (Lit.int .i64 f.2).wf = true

theorem two {α : Type} {l : List α} (h : l.length = 2) : ∃ a b, l = [a, b] := by
  cases l with
  | nil => simp at h
  | cons a l =>
    cases l with
    | nil => simp at h
    | cons b l =>
      cases l with
      | nil => exact ⟨a, b, rfl⟩
      | cons c l => simp at h

theorem open_edge1 {H : Type} {enc : TypeId × Value → H} {W : World} {fuel : Nat} {cs : List Value} {y : DataW H × List MemPlace}
    (h : DataW.trod enc Try.prog W 0 (fun _ => true) true fuel 97 cs = some y) : ∃ f : EdgeV, cs = [.int .i64 f.1, .int .i64 f.2] ∧ FitE f := by
  obtain ⟨xs, n, _, _, hl, hlen, hf⟩ := DataW.trod_struct Try.underlying97 h
  rw [cellsLE] at hl
  obtain ⟨c0, c1, rfl⟩ := two hl
  have h0 : DataW.trod enc Try.prog W 0 (fun _ => true) true n 3 (([c0, c1].drop 0).take (Try.prog.cellsOf 3)) = xs[0]? := hf 0 _ rfl
  have h1 : DataW.trod enc Try.prog W 0 (fun _ => true) true n 3 (([c0, c1].drop 1).take (Try.prog.cellsOf 3)) = xs[1]? := hf 1 _ rfl
  rw [cells3] at h0 h1
  have g : ∀ i, i < 2 → ∃ z, xs[i]? = some z := fun i hi => ⟨xs[i]'(by simp at hlen; omega), List.getElem?_eq_getElem _⟩
  obtain ⟨z0, e0⟩ := g 0 (by omega)
  obtain ⟨z1, e1⟩ := g 1 (by omega)
  rw [e0] at h0
  rw [e1] at h1
  obtain ⟨k0, hk0, _, w0⟩ := DataW.trod_int Try.underlying3 h0
  obtain ⟨k1, hk1, _, w1⟩ := DataW.trod_int Try.underlying3 h1
  simp at hk0 hk1
  subst hk0 hk1
  exact ⟨⟨k0, k1⟩, rfl, w0, w1⟩

theorem open_edgeS {H : Type} {enc : TypeId × Value → H} {W : World} {a : Option Addr} {len cap fuel : Nat} {x : DataW H × List MemPlace}
    (h : DataW.trod enc Try.prog W 0 (fun _ => true) true fuel 35 [.slice a len cap] = some x) : len ≤ maxLen ∧ ∃ fs : List EdgeV, Es W W.heap.size a len fs ∧ ∀ f ∈ fs, FitE f := by
  rcases DataW.trod_slice Try.underlying35 h with ⟨hcs, _⟩ | ⟨ad, l, c, elems, rest, n, _, hcs, _, _, hlc, hm, hel, hei, _, _⟩
  · simp at hcs
    obtain ⟨rfl, rfl, rfl⟩ := hcs
    exact ⟨by unfold maxLen; omega, [], ⟨rfl, .inl rfl⟩, by simp⟩
  · simp at hcs
    obtain ⟨rfl, rfl, rfl⟩ := hcs
    refine ⟨by omega, ?_⟩
    have each : ∀ i, i < len → ∃ f : EdgeV, (W.cell? ((ad.add (i * 2)).add 0) = some (.int .i64 f.1) ∧ W.cell? ((ad.add (i * 2)).add 1) = some (.int .i64 f.2)) ∧ FitE f := by
      intro i hi
      have h1 := hei i hi
      obtain ⟨y, hy⟩ : ∃ y, elems[i]? = some y := ⟨elems[i]'(by omega), List.getElem?_eq_getElem _⟩
      rw [hy, Option.bind_eq_some_iff] at h1
      obtain ⟨cs', hc, ht⟩ := h1
      obtain ⟨f, rfl, hfit⟩ := open_edge1 ht
      rw [cellsLE] at hc
      have hcell := (World.cells?_some hc).2.2
      refine ⟨f, ⟨?_, ?_⟩, hfit⟩
      · simpa using hcell 0 (by omega)
      · simpa using hcell 1 (by omega)
    by_cases h0 : len = 0
    · subst h0
      exact ⟨[], ⟨rfl, .inl rfl⟩, by simp⟩
    · obtain ⟨f0, ⟨hc0, _⟩, _⟩ := each 0 (by omega)
      obtain ⟨b, off, spot⟩ := ad
      have hspot : spot = none := by simpa [Addr.add] using World.cell?_spot hc0
      subst hspot
      have hb : b < W.heap.size := by
        have := World.block_lt_of_cell? W _ hc0
        simpa [Addr.add] using this
      obtain ⟨F, hF⟩ := Classical.axiomOfChoice (fun i : Fin len => each i.1 i.2)
      refine ⟨List.ofFn F, ⟨by simp, .inr ⟨b, off, rfl, hb, fun j f hf => ?_⟩⟩, fun f hf => ?_⟩
      · obtain ⟨hj, rfl⟩ := List.getElem?_eq_some_iff.1 hf
        have hj' : j < len := by simpa using hj
        obtain ⟨⟨c0, c1⟩, _⟩ := hF ⟨j, hj'⟩
        rw [add_plain, add_plain] at c0 c1
        simp only [List.getElem_ofFn]
        exact ⟨c0, c1⟩
      · obtain ⟨i, rfl⟩ := List.mem_ofFn.1 hf
        exact (hF i).2

set_option maxRecDepth 100000 in
/-- an edge that comes in -/
theorem open_edge {H : Type} {enc : TypeId × Value → H} {W : World} {r : Reach} {base : Nat} {v : Value} {d : DataW H} {p : List MemPlace}
    (hv : Value.okWide Try.prog W r base 97 v) (h : DataW.Trod enc Try.prog W 0 (fun _ => true) true 97 v d p) :
    ∃ f : EdgeV, v = .agg #[.int .i64 f.1, .int .i64 f.2] ∧ FitE f := by
  obtain ⟨cs, rfl, hcs⟩ := okWide_struct Try.underlying97 hv
  obtain ⟨fuel, hf⟩ := h
  obtain ⟨f, hcs2, hft⟩ := open_edge1 hf
  refine ⟨f, ?_, hft⟩
  have : (Value.agg cs).cells.toList = [.int .i64 f.1, .int .i64 f.2] := hcs2
  obtain ⟨l⟩ := cs
  simp [Value.cells] at this
  rw [this]

set_option maxRecDepth 100000 in
/-- a graph that comes in -/
theorem open_graph {H : Type} {enc : TypeId × Value → H} {W : World} {r : Reach} {base : Nat} {v : Value} {d : DataW H} {p : List MemPlace}
    (hv : Value.okWide Try.prog W r base 37 v) (h : DataW.Trod enc Try.prog W 0 (fun _ => true) true 37 v d p) :
    ∃ (N : Int) (a : Option Addr) (n c : Nat) (fs : List EdgeV), v = .agg #[.int .i64 N, .slice a n c] ∧ (Lit.int .i64 N).wf = true ∧ n ≤ maxLen ∧ Es W W.heap.size a n fs ∧ ∀ f ∈ fs, FitE f := by
  obtain ⟨cs, rfl, hcs⟩ := okWide_struct Try.underlying37 hv
  obtain ⟨fuel, hf⟩ := h
  obtain ⟨xs, n, _, _, hl, hlen, hfi⟩ := DataW.trod_struct Try.underlying37 hf
  rw [show Try.prog.cellsOf 37 = 2 by kernel_rfl] at hcs hl
  obtain ⟨l⟩ := cs
  obtain ⟨c0, c1, rfl⟩ := two (by simpa using hcs : l.length = 2)
  have ec : (Value.agg (List.toArray [c0, c1])).cells.toList = [c0, c1] := by simp [Value.cells]
  rw [ec] at hfi
  have h0 : DataW.trod enc Try.prog W 0 (fun _ => true) true n 3 (([c0, c1].drop 0).take (Try.prog.cellsOf 3)) = xs[0]? := hfi 0 _ rfl
  have h1 : DataW.trod enc Try.prog W 0 (fun _ => true) true n 35 (([c0, c1].drop 1).take (Try.prog.cellsOf 35)) = xs[1]? := hfi 1 _ rfl
  rw [cells3] at h0
  rw [show Try.prog.cellsOf 35 = 1 by kernel_rfl] at h1
  have g : ∀ i, i < 2 → ∃ z, xs[i]? = some z := fun i hi => ⟨xs[i]'(by simp at hlen; omega), List.getElem?_eq_getElem _⟩
  obtain ⟨z0, e0⟩ := g 0 (by omega)
  obtain ⟨z1, e1⟩ := g 1 (by omega)
  rw [e0] at h0
  rw [e1] at h1
  obtain ⟨k0, hk0, _, w0⟩ := DataW.trod_int Try.underlying3 h0
  simp at hk0
  subst hk0
  have h1' : DataW.trod enc Try.prog W 0 (fun _ => true) true n 35 [c1] = some z1 := by simpa using h1
  rcases DataW.trod_slice Try.underlying35 h1' with ⟨hx, _⟩ | ⟨ad, l, c, _, _, _, _, hx, _⟩
  · simp at hx
    subst hx
    obtain ⟨q1, fs, q2, q3⟩ := open_edgeS h1'
    exact ⟨k0, _, _, _, fs, rfl, w0, q1, q2, q3⟩
  · simp at hx
    subst hx
    obtain ⟨q1, fs, q2, q3⟩ := open_edgeS h1'
    exact ⟨k0, _, _, _, fs, rfl, w0, q1, q2, q3⟩
end Go.Proofs.Ytobcihdjennieaa
namespace Go.Proofs.Ytobcihdjennieaa
open Go.RowKit

/-- nothing below has turned since w -/
def Good (w u : World) : Prop := Below w.heap.size w u
theorem Good.refl (w : World) : Good w w := Below.refl _ _
theorem Good.size {w u : World} (h : Good w u) : w.heap.size ≤ u.heap.size := Below.size h
theorem Good.up {w u v : World} (h : Good w u) (hb : Below u.heap.size u v) : Good w v := Below.trans h (hb.mono h.size)
theorem Good.alloc {w u : World} (h : Good w u) (o : Obj) : Good w (u.alloc o) := h.up ((Below.refl _ _).alloc (Nat.le_refl _) _)
theorem Good.drew {w u : World} (h : Good w u) : Good w u.drew := Below.drew h
theorem Good.es {w u : World} (h : Good w u) {a : Option Addr} {n : Nat} {fs : List EdgeV} (hf : Es w w.heap.size a n fs) : Es u u.heap.size a n fs := hf.up h
theorem Good.cell {w u : World} (h : Good w u) {b o : Nat} (hb : b < w.heap.size) : u.cell? ⟨b, o, none⟩ = w.cell? ⟨b, o, none⟩ := Below.cell h hb
end Go.Proofs.Ytobcihdjennieaa
namespace Go.Proofs.Ytobcihdjennieaa
open Go.RowKit

/-- a slice as the machine has them -/
def Sl (a : Option Addr) (n c : Nat) : Prop := n ≤ c ∧ c ≤ maxLen ∧ (a = none ∧ n = 0 ∧ c = 0 ∨ ∃ b off, a = some ⟨b, off, none⟩)

/-- the answer of AddEdge, TakeEdge: a graph of the answer's own, or nothing -/
def GAns (w : World) (N : Int) (o : Option (List EdgeV)) (e : Ending) (w' : World) : Prop :=
  ∃ a m c, e = .returned (.tuple #[.agg #[.int .i64 (if o.isSome then N else 0), .slice a m c], .bool o.isSome]) ∧ w'.ownsRow w.heap.size 59 2 (.slice a m c) m (ecells (o.getD [])) ∧ Below w.heap.size w w'

theorem set_other {u : World} {G j x o : Nat} {v : Value} (h : x ≠ G) : (u.setCell ⟨G, j, none⟩ v).cell? ⟨x, o, none⟩ = u.cell? ⟨x, o, none⟩ := World.cell?_of_block (w := u) (heap_setCell_other u ⟨G, j, none⟩ x v h)
theorem own_setLow {w : World} {B e s n : Nat} {v : Value} {xs : List Value} (h : w.ownsRow B e s v n xs) (G j : Nat) (u : Value) (hG : G < B) : (w.setCell ⟨G, j, none⟩ u).ownsRow B e s v n xs :=
  World.ownsRow.kept h (grownSet w G j u) (.inr (fun e => by have := (h.lt G (by simpa using e)).1; omega))

/-- the world behind the boxes -/
def w3 (w : World) (N : Int) (a : Option Addr) (n c : Nat) (f : EdgeV) : World :=
  ((w.alloc (.cells #[.int .i64 N, .slice a n c] 26)).alloc (.cells #[.int .i64 f.1, .int .i64 f.2] 59)).alloc (.cells #[.int .i64 0, .slice none 0 0] 26)
theorem w3_size (w : World) (N : Int) (a : Option Addr) (n c : Nat) (f : EdgeV) : (w3 w N a n c f).heap.size = w.heap.size + 3 := by simp [w3]
theorem w3_below (w : World) (N : Int) (a : Option Addr) (n c : Nat) (f : EdgeV) : Below w.heap.size w (w3 w N a n c f) := (((Below.refl _ _).alloc (Nat.le_refl _) _).alloc (by simp) _).alloc (by simp; omega) _

/-- what the boxes hold, whatever has come since -/
structure In3 (w : World) (N : Int) (a : Option Addr) (n c : Nat) (f : EdgeV) (u : World) : Prop where
  good : Good (w3 w N a n c f) u
theorem In3.cells {w : World} {N : Int} {a : Option Addr} {n c : Nat} {f : EdgeV} {u : World} (h : In3 w N a n c f u) :
    (u.cell? ⟨w.heap.size, 0, none⟩ = some (.int .i64 N) ∧ u.cell? ⟨w.heap.size, 1, none⟩ = some (.slice a n c)) ∧ (u.cell? ⟨w.heap.size + 1, 0, none⟩ = some (.int .i64 f.1) ∧ u.cell? ⟨w.heap.size + 1, 1, none⟩ = some (.int .i64 f.2)) := by
  have hs := w3_size w N a n c f
  refine ⟨⟨?_, ?_⟩, ?_, ?_⟩
  · rw [h.good.cell (by omega)]; simp [w3, go_sem]
  · rw [h.good.cell (by omega)]; simp [w3, go_sem]
  · rw [h.good.cell (by omega)]; simp [w3, go_sem]
  · rw [h.good.cell (by omega)]; simp [w3, go_sem]
theorem In3.out {w : World} {N : Int} {a : Option Addr} {n c : Nat} {f : EdgeV} {u : World} (h : In3 w N a n c f u) :
    (u.cell? ⟨w.heap.size + 1 + 1, 0, none⟩ = some (.int .i64 0) ∧ u.cell? ⟨w.heap.size + 1 + 1, 1, none⟩ = some (.slice none 0 0)) ∧ (u.frozen? ⟨w.heap.size + 1 + 1, 0, none⟩ = false ∧ u.frozen? ⟨w.heap.size + 1 + 1, 1, none⟩ = false) := by
  have hs := w3_size w N a n c f
  refine ⟨⟨?_, ?_⟩, ?_, ?_⟩
  · rw [h.good.cell (by omega)]; simp [w3, go_sem]
  · rw [h.good.cell (by omega)]; simp [w3, go_sem]
  · rw [Below.frozen h.good (by show w.heap.size + 1 + 1 < _; omega)]; simp [w3, go_sem]
  · rw [Below.frozen h.good (by show w.heap.size + 1 + 1 < _; omega)]; simp [w3, go_sem]
theorem In3.up {w : World} {N : Int} {a : Option Addr} {n c : Nat} {f : EdgeV} {u v : World} (h : In3 w N a n c f u) (hb : Below u.heap.size u v) : In3 w N a n c f v := ⟨h.good.up hb⟩
theorem In3.start (w : World) (N : Int) (a : Option Addr) (n c : Nat) (f : EdgeV) : In3 w N a n c f (w3 w N a n c f) := ⟨Good.refl _⟩
theorem In3.below {w : World} {N : Int} {a : Option Addr} {n c : Nat} {f : EdgeV} {u : World} (h : In3 w N a n c f u) : Below w.heap.size w u := (w3_below w N a n c f).trans (Below.mono h.good (by rw [w3_size]; omega))
theorem In3.size {w : World} {N : Int} {a : Option Addr} {n c : Nat} {f : EdgeV} {u : World} (h : In3 w N a n c f u) : w.heap.size + 3 ≤ u.heap.size := by have := h.good.size; rw [w3_size] at this; exact this
theorem In3.drew {w : World} {N : Int} {a : Option Addr} {n c : Nat} {f : EdgeV} {u : World} (h : In3 w N a n c f u) : In3 w N a n c f u.drew := ⟨h.good.drew⟩

theorem In3.cellsSet {w : World} {N : Int} {a : Option Addr} {n c : Nat} {f : EdgeV} {u : World} (h : In3 w N a n c f u) (v0 v1 : Value) :
    ((((u.setCell ⟨w.heap.size + 1 + 1, 0, none⟩ v0).setCell ⟨w.heap.size + 1 + 1, 1, none⟩ v1)).cell? ⟨w.heap.size, 0, none⟩ = some (.int .i64 N) ∧ (((u.setCell ⟨w.heap.size + 1 + 1, 0, none⟩ v0).setCell ⟨w.heap.size + 1 + 1, 1, none⟩ v1)).cell? ⟨w.heap.size, 1, none⟩ = some (.slice a n c)) ∧
      ((((u.setCell ⟨w.heap.size + 1 + 1, 0, none⟩ v0).setCell ⟨w.heap.size + 1 + 1, 1, none⟩ v1)).cell? ⟨w.heap.size + 1, 0, none⟩ = some (.int .i64 f.1) ∧ (((u.setCell ⟨w.heap.size + 1 + 1, 0, none⟩ v0).setCell ⟨w.heap.size + 1 + 1, 1, none⟩ v1)).cell? ⟨w.heap.size + 1, 1, none⟩ = some (.int .i64 f.2)) := by
  obtain ⟨⟨k0, k1⟩, k2, k3⟩ := h.cells
  refine ⟨⟨?_, ?_⟩, ?_, ?_⟩
  · rw [set_other (by omega), set_other (by omega)]; exact k0
  · rw [set_other (by omega), set_other (by omega)]; exact k1
  · rw [set_other (by omega), set_other (by omega)]; exact k2
  · rw [set_other (by omega), set_other (by omega)]; exact k3

theorem gans_yes {w u : World} {N : Int} {a : Option Addr} {n c : Nat} {f : EdgeV} (h : In3 w N a n c f u) {o : Option (List EdgeV)} {gs : List EdgeV} (ho : o = some gs) {B : Nat} {a' : Option Addr} {m' c' : Nat}
    (hB : w.heap.size + 3 ≤ B) (hown : u.ownsRow B 59 2 (.slice a' m' c') m' (ecells gs)) :
    GAns w N o (.returned (.tuple #[.agg #[.int .i64 N, .slice a' m' c'], .bool true])) ((u.setCell ⟨w.heap.size + 1 + 1, 0, none⟩ (.int .i64 N)).setCell ⟨w.heap.size + 1 + 1, 1, none⟩ (.slice a' m' c')) := by
  subst ho
  exact ⟨a', m', c', rfl, own_mono (own_setLow (own_setLow hown _ 0 _ (by omega)) _ 1 _ (by omega)) (by omega), (h.below.setCell (by show _ ≤ w.heap.size + 1 + 1; omega) _).setCell (by show _ ≤ w.heap.size + 1 + 1; omega) _⟩

theorem Es.take {w : World} {B : Nat} {a : Option Addr} {n : Nat} {es : List EdgeV} (h : Es w B a n es) {k : Nat} (hk : k ≤ n) : Es w B a k (es.take k) := by
  have hl := h.1
  refine ⟨by rw [List.length_take]; omega, ?_⟩
  rcases h.2 with h0 | ⟨b, off, ha, hb, hc⟩
  · exact .inl (by omega)
  · refine .inr ⟨b, off, ha, hb, fun j e he => hc j e ?_⟩
    have hj : j < k := by have := (List.getElem?_eq_some_iff.1 he).1; rw [List.length_take] at this; omega
    rw [List.getElem?_take_of_lt hj] at he
    exact he
theorem Es.drop {w : World} {B b off : Nat} {n : Nat} {es : List EdgeV} (h : Es w B (some ⟨b, off, none⟩) n es) {k : Nat} (hk : k ≤ n) : Es w B (some ⟨b, off + k * 2, none⟩) (n - k) (es.drop k) := by
  have hl := h.1
  refine ⟨by rw [List.length_drop]; omega, ?_⟩
  rcases h.2 with h0 | ⟨b', off', ha, hb, hc⟩
  · exact .inl (by omega)
  · simp at ha
    obtain ⟨rfl, rfl⟩ := ha
    refine .inr ⟨b, off + k * 2, rfl, hb, fun j e he => ?_⟩
    rw [List.getElem?_drop] at he
    have h1 := hc (k + j) e he
    rw [show off + k * 2 + j * 2 = off + (k + j) * 2 by omega]
    exact h1
theorem Es.none_of {w : World} {B : Nat} {a : Option Addr} {es : List EdgeV} (h : es.length = 0) : Es w B a 0 es := ⟨h, .inl rfl⟩
theorem Es.single (w : World) (f : EdgeV) : Es (w.alloc (.cells #[.int .i64 f.1, .int .i64 f.2] 59)) (w.alloc (.cells #[.int .i64 f.1, .int .i64 f.2] 59)).heap.size (some ⟨w.heap.size, 0, none⟩) 1 [f] := by
  refine ⟨rfl, .inr ⟨w.heap.size, 0, rfl, by simp, fun j e he => ?_⟩⟩
  cases j with
  | zero => simp at he; subst he; simp
  | succ j => simp at he

theorem gans_no {w u : World} {N : Int} {a : Option Addr} {n c : Nat} {f : EdgeV} (h : In3 w N a n c f u) {o : Option (List EdgeV)} (ho : o = none) :
    GAns w N o (.returned (.tuple #[.agg #[.int .i64 0, .slice none 0 0], .bool false])) ((u.setCell ⟨w.heap.size + 1 + 1, 0, none⟩ (.int .i64 0)).setCell ⟨w.heap.size + 1 + 1, 1, none⟩ (.slice none 0 0)) := by
  subst ho
  exact ⟨none, 0, 0, rfl, World.ownsRow_nil _ _ _ _, (h.below.setCell (by show _ ≤ w.heap.size + 1 + 1; omega) _).setCell (by show _ ≤ w.heap.size + 1 + 1; omega) _⟩

set_option maxRecDepth 100000 in
set_option maxHeartbeats 4000000 in
theorem iAddEdge_any (N : Int) (es : List EdgeV) (f : EdgeV) (n : Nat) (a : Option Addr) (c : Nat) (hsl : Sl a n c) (hn : n ≤ 1048576) (w : World) (h : Es w w.heap.size a n es) :
    Calls Try.prog 31 #[.agg #[.int .i64 N, .slice a n c], .agg #[.int .i64 f.1, .int .i64 f.2]] w fun e w' => GAns w N (addE N es f) e w' := by
  have hA : Hid (∀ u, In3 w N a n c f u → Es u u.heap.size a n es) := fun u hu => h.up hu.below
  have HGO : Hid (∀ u, In3 w N a n c f u → Calls Try.prog 56 #[.agg #[.int .i64 N, .slice a n c]] u fun e v => e = .returned (.bool (gB N es)) ∧ In3 w N a n c f v) := fun u hu =>
    (iGraphOk_any N es n a c hn u (hA.out u hu)).mono fun _ _ ⟨he, hb⟩ => ⟨he, hu.up hb⟩
  have HEO : Hid (∀ u, In3 w N a n c f u → Calls Try.prog 57 #[.int .i64 N, .agg #[.int .i64 f.1, .int .i64 f.2]] u fun e v => e = .returned (.bool (eB N f)) ∧ In3 w N a n c f v) := fun u hu =>
    (iEdgeOk_any N f u).mono fun _ _ ⟨he, hb⟩ => ⟨he, hu.up hb⟩
  have HHE : Hid (∀ u, In3 w N a n c f u → Calls Try.prog 58 #[.agg #[.int .i64 N, .slice a n c], .agg #[.int .i64 f.1, .int .i64 f.2]] u fun e v => e = .returned (.bool (hasB es f)) ∧ In3 w N a n c f v) := fun u hu =>
    (iHasEdge_any N es f n a c hn u (hA.out u hu)).mono fun _ _ ⟨he, hb⟩ => ⟨he, hu.up hb⟩
  have S1 := In3.start w N a n c f
  have HK : Hid (∀ u, In3 w N a n c f u → (u.cell? ⟨w.heap.size, 0, none⟩ = some (.int .i64 N) ∧ u.cell? ⟨w.heap.size, 1, none⟩ = some (.slice a n c)) ∧ (u.cell? ⟨w.heap.size + 1, 0, none⟩ = some (.int .i64 f.1) ∧ u.cell? ⟨w.heap.size + 1, 1, none⟩ = some (.int .i64 f.2))) := fun u hu => hu.cells
  cases hG : gB N es with
  | false =>
    rw [hG] at HGO
    have HO := hideIt (show addE N es f = none by unfold addE; rw [hG, if_neg (by simp)])
    clear hG HEO HHE hsl h hA
    go_enter Try.func31, Try.ntmps31
    go_wp2_with (go_at_call 56; refine (HGO.out _ S1).mono ?_; rintro e w4 ⟨rfl, S4⟩; refine Hid.out ?_)
    refine (show ∀ {p : Prop}, p → Hid p from fun h => h) ?_
    obtain ⟨⟨r0, r1⟩, r2, r3⟩ := S4.out
    have s4 := S4.size
    go_wp2
    exact bodyPost_ret (v := .tuple #[.agg #[.int .i64 0, .slice none 0 0], .bool false]) (by simp [results, Try.results31, go_sem, r0, r1]) rfl (gans_no S4 HO.out)
  | true =>
    rw [hG] at HGO
    cases hE : eB N f with
    | false =>
      rw [hE] at HEO
      have HO := hideIt (show addE N es f = none by unfold addE; rw [hE, if_neg (by simp)])
      clear hG hE HHE hsl h hA
      go_enter Try.func31, Try.ntmps31
      go_wp2_with (go_at_call 56; refine (HGO.out _ S1).mono ?_; rintro e w4 ⟨rfl, S4⟩; refine Hid.out ?_)
      refine (show ∀ {p : Prop}, p → Hid p from fun h => h) ?_
      obtain ⟨⟨k0, k1⟩, k2, k3⟩ := HK.out _ S4
      go_wp2_with (go_at_call 57; refine (HEO.out _ S4).mono ?_; rintro e w5 ⟨rfl, S5⟩; refine Hid.out ?_)
      refine (show ∀ {p : Prop}, p → Hid p from fun h => h) ?_
      obtain ⟨⟨r0, r1⟩, r2, r3⟩ := S5.out
      have s5 := S5.size
      clear k0 k1 k2 k3
      go_wp2
      exact bodyPost_ret (v := .tuple #[.agg #[.int .i64 0, .slice none 0 0], .bool false]) (by simp [results, Try.results31, go_sem, r0, r1]) rfl (gans_no S5 HO.out)
    | true =>
      rw [hE] at HEO
      cases hH : hasB es f with
      | true =>
        rw [hH] at HHE
        have HO := hideIt (show addE N es f = none by unfold addE; rw [hH, if_neg (by simp)])
        clear hG hE hH hsl h hA
        go_enter Try.func31, Try.ntmps31
        go_wp2_with (go_at_call 56; refine (HGO.out _ S1).mono ?_; rintro e w4 ⟨rfl, S4⟩; refine Hid.out ?_)
        refine (show ∀ {p : Prop}, p → Hid p from fun h => h) ?_
        obtain ⟨⟨k0, k1⟩, k2, k3⟩ := HK.out _ S4
        go_wp2_with (go_at_call 57; refine (HEO.out _ S4).mono ?_; rintro e w5 ⟨rfl, S5⟩; refine Hid.out ?_)
        refine (show ∀ {p : Prop}, p → Hid p from fun h => h) ?_
        clear k0 k1 k2 k3
        obtain ⟨⟨k0, k1⟩, k2, k3⟩ := HK.out _ S5
        go_wp2_with (go_at_call 58; refine (HHE.out _ S5).mono ?_; rintro e w6 ⟨rfl, S6⟩; refine Hid.out ?_)
        refine (show ∀ {p : Prop}, p → Hid p from fun h => h) ?_
        obtain ⟨⟨r0, r1⟩, r2, r3⟩ := S6.out
        have s6 := S6.size
        clear k0 k1 k2 k3
        go_wp2
        exact bodyPost_ret (v := .tuple #[.agg #[.int .i64 0, .slice none 0 0], .bool false]) (by simp [results, Try.results31, go_sem, r0, r1]) rfl (gans_no S6 HO.out)
      | false =>
        rw [hH] at HHE
        have HO := hideIt (show addE N es f = some (putE es f) by unfold addE; rw [hG, hE, hH, if_pos (by simp)])
        have hasc := asc_of_chk (gB_chk hG).2.1
        have hnot : f ∉ es := fun hm => by unfold hasB at hH; simp [hm] at hH
        have HBS : Hid (∀ u, In3 w N a n c f u → Calls Try.prog 59 #[.slice a n c, .agg #[.int .i64 f.1, .int .i64 f.2], .func (.func 60) #[] #[]] u fun x v => ∃ (p : Nat) (fb : Bool), x = .returned (.tuple #[.int .i64 (p : Int), .bool fb]) ∧ Hid (Split es f p) ∧ In3 w N a n c f v) := fun u hu =>
          (BSF_any es hasc f n a c hn u (hA.out u hu)).mono fun _ _ ⟨p, fb, he, hs, hb⟩ => ⟨p, fb, he, hs, hu.up hb⟩
        have HN := hideIt hnot
        have HLn : Hid (es.length = n) := h.1
        clear hG hE hH h hasc hnot
        go_enter Try.func31, Try.ntmps31
        go_wp2_with (go_at_call 56; refine (HGO.out _ S1).mono ?_; rintro e w4 ⟨rfl, S4⟩; refine Hid.out ?_)
        refine (show ∀ {p : Prop}, p → Hid p from fun h => h) ?_
        obtain ⟨⟨k0, k1⟩, k2, k3⟩ := HK.out _ S4
        go_wp2_with (go_at_call 57; refine (HEO.out _ S4).mono ?_; rintro e w5 ⟨rfl, S5⟩; refine Hid.out ?_)
        refine (show ∀ {p : Prop}, p → Hid p from fun h => h) ?_
        clear k0 k1 k2 k3
        obtain ⟨⟨k0, k1⟩, k2, k3⟩ := HK.out _ S5
        go_wp2_with (go_at_call 58; refine (HHE.out _ S5).mono ?_; rintro e w6 ⟨rfl, S6⟩; refine Hid.out ?_)
        refine (show ∀ {p : Prop}, p → Hid p from fun h => h) ?_
        clear k0 k1 k2 k3
        obtain ⟨⟨k0, k1⟩, k2, k3⟩ := HK.out _ S6
        go_wp2_with (go_at_call 59; refine (HBS.out _ S6).mono ?_; rintro e w7 ⟨p, fb, rfl, hsp, S7⟩; refine Hid.out ?_)
        refine (show ∀ {p : Prop}, p → Hid p from fun h => h) ?_
        clear k0 k1 k2 k3 S4 S5 S6 S1 HGO HEO HHE HBS
        have hpn : p ≤ n := by have := hsp.out.1; have := HLn.out; omega
        obtain ⟨hnc, hcm, hform⟩ := hsl
        unfold maxLen at hcm
        have HES := hideIt (hA.out w7 S7)
        have z7 := S7.size
        have HES := hideIt (hA.out w7 S7)
        have z7 := S7.size
        have HES := hideIt (hA.out w7 S7)
        have z7 := S7.size
        rcases hform with ⟨rfl, rfl, rfl⟩ | ⟨b, off, rfl⟩
        · obtain rfl : p = 0 := by omega
          have S7d := S7.drew
          have T1 : In3 w N none 0 0 f (w7.alloc (.cells #[.int .i64 f.1, .int .i64 f.2] 59)).drew := (S7.up ((Below.refl _ _).alloc (Nat.le_refl _) _)).drew
          have T2b : Below w7.heap.size w7 ((w7.alloc (.cells #[.int .i64 f.1, .int .i64 f.2] 59)).alloc (.cells #[.slice none 0 0, .slice (some ⟨w7.heap.size, 0, none⟩) 1 1, .slice none 0 0] 24)).drew := (((Below.refl _ _).alloc (Nat.le_refl _) _).alloc (by simp) _).drew
          have T2 := S7.up T2b
          have HCc : Hid (Calls Try.prog 55 #[.slice (some ⟨w7.heap.size + 1, 0, none⟩) 3 3] ((w7.alloc (.cells #[.int .i64 f.1, .int .i64 f.2] 59)).alloc (.cells #[.slice none 0 0, .slice (some ⟨w7.heap.size, 0, none⟩) 1 1, .slice none 0 0] 24)).drew
              fun e v => ∃ a' m' c', e = .returned (.slice a' m' c') ∧ Hid (v.ownsRow (w7.heap.size + 2) 59 2 (.slice a' m' c') m' (ecells (putE es f))) ∧ In3 w N none 0 0 f v) := by
            have e0 : es = [] := List.length_eq_zero_iff.1 HLn.out
            refine (Concat_any [⟨none, 0, 0, []⟩, ⟨some ⟨w7.heap.size, 0, none⟩, 1, 1, [f]⟩, ⟨none, 0, 0, []⟩] (w7.heap.size + 1) 3 rfl (by omega) _ ⟨by simp, fun j q hq => ?_⟩ (by simp [pLen])).mono fun e v ⟨a', m', c', he, ho, hb⟩ => ⟨a', m', c', he, ?_, T2.up hb⟩
            · rcases j with _ | _ | _ | j
              · simp at hq; subst hq
                exact ⟨by simp [go_sem], Es.none_of rfl, fun _ => ⟨rfl, rfl⟩⟩
              · simp at hq; subst hq
                refine ⟨by simp [go_sem], ?_, fun h => by cases h⟩
                exact (Es.single w7 f).up (((Below.refl _ _).alloc (Nat.le_refl _) _).drew)
              · simp at hq; subst hq
                exact ⟨by simp [go_sem], Es.none_of rfl, fun _ => ⟨rfl, rfl⟩⟩
              · simp at hq
            · have hp : pAll [⟨none, 0, 0, []⟩, ⟨some ⟨w7.heap.size, 0, none⟩, 1, 1, [f]⟩, ⟨none, 0, 0, []⟩] = putE es f := by rw [e0]; simp [pAll, putE]
              rw [hp] at ho
              exact own_mono ho (by simp)
          clear hA HN
          go_wp2
          go_region_held3 (fun u => (u.cell? ⟨w.heap.size, 0, none⟩ = some (.int .i64 N) ∧ u.cell? ⟨w.heap.size, 1, none⟩ = some (.slice none 0 0)) ∧ (u.cell? ⟨w.heap.size + 1, 0, none⟩ = some (.int .i64 f.1) ∧ u.cell? ⟨w.heap.size + 1, 1, none⟩ = some (.int .i64 f.2)))
            (first | exact S8.cellsSet _ _ | exact HK.out _ S8 | exact HK.out _ T2 | exact HK.out _ T1 | exact HK.out _ S7d)
            ((go_at_call 55; refine HCc.out.mono ?_; rintro e w8 ⟨a', m', c', rfl, hown8, S8⟩; obtain ⟨⟨r0, r1⟩, r2, r3⟩ := S8.out))
          all_goals
            go_wp2
            exact bodyPost_ret (v := .tuple #[.agg #[.int .i64 N, .slice a' m' c'], .bool true]) (by simp [results, Try.results31, go_sem, r0, r1]) rfl (gans_yes S8 HO.out (by omega) hown8.out)
        · by_cases hcp : c = p
          · obtain rfl : n = p := by omega
            subst hcp
            have S7d := S7.drew
            have b1 : (0 : Int) ≤ (c : Int) := by omega
            have T1 : In3 w N (some ⟨b, off, none⟩) c c f (w7.alloc (.cells #[.int .i64 f.1, .int .i64 f.2] 59)).drew := (S7.up ((Below.refl _ _).alloc (Nat.le_refl _) _)).drew
            have T2b : Below w7.heap.size w7 ((w7.alloc (.cells #[.int .i64 f.1, .int .i64 f.2] 59)).alloc (.cells #[.slice (some ⟨b, off, none⟩) c c, .slice (some ⟨w7.heap.size, 0, none⟩) 1 1, .slice (some ⟨b, off, none⟩) 0 0] 24)).drew := (((Below.refl _ _).alloc (Nat.le_refl _) _).alloc (by simp) _).drew
            have T2 := S7.up T2b
            have HCc : Hid (Calls Try.prog 55 #[.slice (some ⟨w7.heap.size + 1, 0, none⟩) 3 3] ((w7.alloc (.cells #[.int .i64 f.1, .int .i64 f.2] 59)).alloc (.cells #[.slice (some ⟨b, off, none⟩) c c, .slice (some ⟨w7.heap.size, 0, none⟩) 1 1, .slice (some ⟨b, off, none⟩) 0 0] 24)).drew
                fun e v => ∃ a' m' c', e = .returned (.slice a' m' c') ∧ Hid (v.ownsRow (w7.heap.size + 2) 59 2 (.slice a' m' c') m' (ecells (putE es f))) ∧ In3 w N (some ⟨b, off, none⟩) c c f v) := by
              have hE2 := HES.out.up T2b
              refine (Concat_any [⟨some ⟨b, off, none⟩, c, c, es.take c⟩, ⟨some ⟨w7.heap.size, 0, none⟩, 1, 1, [f]⟩, ⟨some ⟨b, off, none⟩, 0, 0, es.drop c⟩] (w7.heap.size + 1) 3 rfl (by omega) _ ⟨by simp, fun j q hq => ?_⟩ (by simp [pLen]; omega)).mono fun e v ⟨a', m', c', he, ho, hb⟩ => ⟨a', m', c', he, ?_, T2.up hb⟩
              · rcases j with _ | _ | _ | j
                · simp at hq; subst hq
                  exact ⟨by simp [go_sem], hE2.take (Nat.le_refl _), fun h => by cases h⟩
                · simp at hq; subst hq
                  refine ⟨by simp [go_sem], ?_, fun h => by cases h⟩
                  exact (Es.single w7 f).up (((Below.refl _ _).alloc (Nat.le_refl _) _).drew)
                · simp at hq; subst hq
                  exact ⟨by simp [go_sem], Es.none_of (by rw [List.length_drop]; have := HLn.out; omega), fun h => by cases h⟩
                · simp at hq
              · have hp : pAll [⟨some ⟨b, off, none⟩, c, c, es.take c⟩, ⟨some ⟨w7.heap.size, 0, none⟩, 1, 1, [f]⟩, ⟨some ⟨b, off, none⟩, 0, 0, es.drop c⟩] = putE es f := by rw [put_split hsp.out HN.out]; simp [pAll]
                rw [hp] at ho
                exact own_mono ho (by simp)
            clear hA HN
            go_wp2
            go_region_held3 (fun u => (u.cell? ⟨w.heap.size, 0, none⟩ = some (.int .i64 N) ∧ u.cell? ⟨w.heap.size, 1, none⟩ = some (.slice (some ⟨b, off, none⟩) c c)) ∧ (u.cell? ⟨w.heap.size + 1, 0, none⟩ = some (.int .i64 f.1) ∧ u.cell? ⟨w.heap.size + 1, 1, none⟩ = some (.int .i64 f.2)))
              (first | exact S8.cellsSet _ _ | exact HK.out _ S8 | exact HK.out _ T2 | exact HK.out _ T1 | exact HK.out _ S7d)
              ((go_at_call 55; refine HCc.out.mono ?_; rintro e w8 ⟨a', m', c', rfl, hown8, S8⟩; obtain ⟨⟨r0, r1⟩, r2, r3⟩ := S8.out))
            all_goals
              go_wp2
              exact bodyPost_ret (v := .tuple #[.agg #[.int .i64 N, .slice a' m' c'], .bool true]) (by simp [results, Try.results31, go_sem, r0, r1]) rfl (gans_yes S8 HO.out (by omega) hown8.out)
          · have S7d := S7.drew
            have b1 : (0 : Int) ≤ (p : Int) := by omega
            have b2 : (p : Int) ≤ (n : Int) := by omega
            have b3 : (n : Int) ≤ (c : Int) := by omega
            have b4 : (p : Int) ≤ (c : Int) := by omega
            have T1 : In3 w N (some ⟨b, off, none⟩) n c f (w7.alloc (.cells #[.int .i64 f.1, .int .i64 f.2] 59)).drew := (S7.up ((Below.refl _ _).alloc (Nat.le_refl _) _)).drew
            have T2b : Below w7.heap.size w7 ((w7.alloc (.cells #[.int .i64 f.1, .int .i64 f.2] 59)).alloc (.cells #[.slice (some ⟨b, off, none⟩) p c, .slice (some ⟨w7.heap.size, 0, none⟩) 1 1, .slice (some ⟨b, off + p * 2, none⟩) (n - p) (c - p)] 24)).drew := (((Below.refl _ _).alloc (Nat.le_refl _) _).alloc (by simp) _).drew
            have T2 := S7.up T2b
            have HCc : Hid (Calls Try.prog 55 #[.slice (some ⟨w7.heap.size + 1, 0, none⟩) 3 3] ((w7.alloc (.cells #[.int .i64 f.1, .int .i64 f.2] 59)).alloc (.cells #[.slice (some ⟨b, off, none⟩) p c, .slice (some ⟨w7.heap.size, 0, none⟩) 1 1, .slice (some ⟨b, off + p * 2, none⟩) (n - p) (c - p)] 24)).drew
                fun e v => ∃ a' m' c', e = .returned (.slice a' m' c') ∧ Hid (v.ownsRow (w7.heap.size + 2) 59 2 (.slice a' m' c') m' (ecells (putE es f))) ∧ In3 w N (some ⟨b, off, none⟩) n c f v) := by
              have hE2 := HES.out.up T2b
              refine (Concat_any [⟨some ⟨b, off, none⟩, p, c, es.take p⟩, ⟨some ⟨w7.heap.size, 0, none⟩, 1, 1, [f]⟩, ⟨some ⟨b, off + p * 2, none⟩, n - p, c - p, es.drop p⟩] (w7.heap.size + 1) 3 rfl (by omega) _ ⟨by simp, fun j q hq => ?_⟩ (by simp [pLen]; omega)).mono fun e v ⟨a', m', c', he, ho, hb⟩ => ⟨a', m', c', he, ?_, T2.up hb⟩
              · rcases j with _ | _ | _ | j
                · simp at hq; subst hq
                  exact ⟨by simp [go_sem], hE2.take hpn, fun h => by cases h⟩
                · simp at hq; subst hq
                  refine ⟨by simp [go_sem], ?_, fun h => by cases h⟩
                  exact (Es.single w7 f).up (((Below.refl _ _).alloc (Nat.le_refl _) _).drew)
                · simp at hq; subst hq
                  exact ⟨by simp [go_sem], hE2.drop hpn, fun h => by cases h⟩
                · simp at hq
              · have hp : pAll [⟨some ⟨b, off, none⟩, p, c, es.take p⟩, ⟨some ⟨w7.heap.size, 0, none⟩, 1, 1, [f]⟩, ⟨some ⟨b, off + p * 2, none⟩, n - p, c - p, es.drop p⟩] = putE es f := by rw [put_split hsp.out HN.out]; simp [pAll]
                rw [hp] at ho
                exact own_mono ho (by simp)
            clear hA HN
            go_wp2
            go_region_held3 (fun u => (u.cell? ⟨w.heap.size, 0, none⟩ = some (.int .i64 N) ∧ u.cell? ⟨w.heap.size, 1, none⟩ = some (.slice (some ⟨b, off, none⟩) n c)) ∧ (u.cell? ⟨w.heap.size + 1, 0, none⟩ = some (.int .i64 f.1) ∧ u.cell? ⟨w.heap.size + 1, 1, none⟩ = some (.int .i64 f.2)))
              (first | exact S8.cellsSet _ _ | exact HK.out _ S8 | exact HK.out _ T2 | exact HK.out _ T1 | exact HK.out _ S7d)
              ((go_at_call 55; refine HCc.out.mono ?_; rintro e w8 ⟨a', m', c', rfl, hown8, S8⟩; obtain ⟨⟨r0, r1⟩, r2, r3⟩ := S8.out))
            all_goals
              go_wp2
              exact bodyPost_ret (v := .tuple #[.agg #[.int .i64 N, .slice a' m' c'], .bool true]) (by simp [results, Try.results31, go_sem, r0, r1]) rfl (gans_yes S8 HO.out (by omega) hown8.out)
end Go.Proofs.Ytobcihdjennieaa
namespace Go.Proofs.Ytobcihdjennieaa
open Go.RowKit

/-- the world behind the edge's box -/
def wE (w : World) (e : EdgeV) : World := w.alloc (.cells #[.int .i64 e.1, .int .i64 e.2] 59)
theorem wE_size (w : World) (e : EdgeV) : (wE w e).heap.size = w.heap.size + 1 := by simp [wE]
/-- nothing of it has turned, and the row is ours -/
structure PutSt (w : World) (e : EdgeV) (a : Option Addr) (m c : Nat) (gs : List EdgeV) (u : World) : Prop where
  own : u.ownsRow (w.heap.size + 1) 59 2 (.slice a m c) m (ecells gs)
  bel : Below (w.heap.size + 1) (wE w e) u
theorem PutSt.size {w : World} {e : EdgeV} {a : Option Addr} {m c : Nat} {gs : List EdgeV} {u : World} (h : PutSt w e a m c gs u) : w.heap.size + 1 ≤ u.heap.size := by have := h.bel.size; rw [wE_size] at this; exact this
theorem PutSt.len {w : World} {e : EdgeV} {a : Option Addr} {m c : Nat} {gs : List EdgeV} {u : World} (h : PutSt w e a m c gs u) : gs.length = m := by have := h.own.1; rw [ecells_length] at this; omega
theorem PutSt.below {w : World} {e : EdgeV} {a : Option Addr} {m c : Nat} {gs : List EdgeV} {u : World} (h : PutSt w e a m c gs u) : Below w.heap.size w u :=
  ((Below.refl w.heap.size w).alloc (Nat.le_refl _) _).trans (h.bel.mono (by omega))
theorem PutSt.up {w : World} {e : EdgeV} {a : Option Addr} {m c : Nat} {gs : List EdgeV} {u v : World} (h : PutSt w e a m c gs u) (hb : Below u.heap.size u v) : PutSt w e a m c gs v :=
  ⟨World.ownsRow.kept h.own (show u.grownBy v none from ⟨hb.os, hb.tape, hb.output, hb.size, fun k hk _ => hb.block k hk⟩) (by cases hv : (Value.slice a m c).ownBlock <;> simp), h.bel.trans (hb.mono h.size)⟩
theorem PutSt.box {w : World} {e : EdgeV} {a : Option Addr} {m c : Nat} {gs : List EdgeV} {u : World} (h : PutSt w e a m c gs u) : u.cell? ⟨w.heap.size, 0, none⟩ = some (.int .i64 e.1) ∧ u.cell? ⟨w.heap.size, 1, none⟩ = some (.int .i64 e.2) := by
  refine ⟨?_, ?_⟩
  · rw [h.bel.cell (by show w.heap.size < _; omega)]; simp [wE]
  · rw [h.bel.cell (by show w.heap.size < _; omega)]; simp [wE]
/-- behind an append of one edge -/
theorem PutSt.app {w : World} {e : EdgeV} {a : Option Addr} {m c : Nat} {gs : List EdgeV} {u : World} (h : PutSt w e a m c gs u) {g : EdgeV} {o : Obj} {v : Value} {u' : World}
    (ho : u'.ownsRow (w.heap.size + 1) 59 2 v (m + 1) (ecells gs ++ [.int .i64 g.1, .int .i64 g.2])) (hg : (u.alloc o).grownBy u' (Value.slice a m c).ownBlock) :
    ∃ a' c', v = .slice a' (m + 1) c' ∧ PutSt w e a' (m + 1) c' (gs ++ [g]) u' := by
  obtain ⟨a', c', rfl⟩ := own_form ho
  rw [← ecells_snoc] at ho
  refine ⟨a', c', rfl, ho, ?_⟩
  exact (h.bel.alloc h.size _).grown hg (by have := h.size; simp; omega) (fun j hj => (h.own.lt j hj).1)
theorem news1 (w : World) (g : EdgeV) : ∀ j u, ([Value.int .i64 g.1, Value.int .i64 g.2] : List Value)[j]? = some u → (w.alloc (.cells #[.int .i64 g.1, .int .i64 g.2] 59)).cell? ((⟨w.heap.size, 0, none⟩ : Addr).add j) = some u := by
  intro j u hj
  rcases j with _ | _ | j
  · simp at hj; subst hj; simp [Addr.add]
  · simp at hj; subst hj; simp [Addr.add]
  · simp at hj

set_option maxRecDepth 100000 in
set_option maxHeartbeats 4000000 in
theorem l05Put_any (es : List EdgeV) (e : EdgeV) (n : Nat) (a : Option Addr) (c : Nat) (hn : n ≤ 1048576) (w : World) (h : Es w w.heap.size a n es) :
    Calls Try.prog 66 #[.slice a n c, .agg #[.int .i64 e.1, .int .i64 e.2]] w fun x w' => ∃ a' m' c', x = .returned (.slice a' m' c') ∧ w'.ownsRow w.heap.size 59 2 (.slice a' m' c') m' (ecells (putE es e)) ∧ Below w.heap.size w w' := by
  obtain ⟨i0, hi, hz0, hz1, hz2⟩ := info_parts infoIE
  obtain ⟨hlen, hrow⟩ := h
  have HR := hideIt hrow
  clear hrow
  have HLs : Hid (∀ (a' : Option Addr) (m' c' : Nat) (gs : List EdgeV) (d f : EdgeV) (W : World), PutSt w e a' m' c' gs W → Calls Try.prog 68 #[.agg #[.int .i64 d.1, .int .i64 d.2], .agg #[.int .i64 f.1, .int .i64 f.2]] W fun x w' => x = .returned (.bool (lt d f)) ∧ PutSt w e a' m' c' gs w') := fun _ _ _ _ d f W hW =>
    (l05Less_any d f W).mono fun _ _ ⟨he, hb⟩ => ⟨he, hW.up hb⟩
  go_enter Try.func66, Try.ntmps66
  go_wp2
  go_loopw [5, 6] (fun v i wr => ∃ (k m' : Nat) (a' : Option Addr) (c' : Nat) (gs : List EdgeV), k ≤ n ∧ i = .int .i64 (k : Int) ∧ v = .slice a' m' c' ∧ m' ≤ k ∧ Hid (gs = (es.take k).filter (fun d => lt d e)) ∧ PutSt w e a' m' c' gs wr) (fun _ i _ => n - (intOf i).toNat)
  case atStart =>
    refine ⟨0, 0, _, _, [], by omega, rfl, rfl, by omega, by show _ = _; simp, ?_, ?_⟩
    · have h0 := World.ownsRow_lit (base := w.heap.size + 1) (e := 59) (size := 2) (wE w e) #[] 0 (by rw [wE_size]; omega) (by unfold maxLen; omega) (by simp)
      rw [wE_size] at h0
      simpa [ecells, wE] using h0
    · have h1 := (Below.refl (w.heap.size + 1) (wE w e)).alloc (by rw [wE_size]; omega) (.cells #[] 59)
      simpa [wE] using h1
  case round =>
    obtain ⟨k, m', a', c', gs, hk, rfl, rfl, hm, hgs, hst⟩ := hrel
    by_cases hlt : k < n
    · rcases HR.out with hz | ⟨b, off, rfl, hbl, hc⟩
      · omega
      · obtain ⟨f, hf⟩ : ∃ f, es[k]? = some f := ⟨es[k]'(by omega), List.getElem?_eq_getElem (by omega)⟩
        obtain ⟨c0, c1⟩ := hc k f hf
        have b1 : (0 : Int) ≤ (k : Int) := by omega
        have b2 : (k : Int) < (n : Int) := by omega
        have HK : Hid (∀ W : World, PutSt w e a' m' c' gs W → (W.cell? ⟨b, off + k * 2, none⟩ = some (.int .i64 f.1) ∧ W.cell? ⟨b, off + k * 2 + 1, none⟩ = some (.int .i64 f.2)) ∧ W.cell? ⟨w.heap.size, 0, none⟩ = some (.int .i64 e.1) ∧ W.cell? ⟨w.heap.size, 1, none⟩ = some (.int .i64 e.2)) := fun W hW =>
          ⟨⟨by rw [hW.below.cell hbl]; exact c0, by rw [hW.below.cell hbl]; exact c1⟩, hW.box⟩
        have S0 := hst.up (Below.refl _ _).drew
        have HLc := hideIt (HLs.out a' m' c' gs f e _ S0)
        have e0 := (HK.out _ hst).1.1
        have e1 := (HK.out _ hst).1.2
        cases hL : lt f e with
        | true =>
          rw [hL] at HLc
          have HG : Hid (gs ++ [f] = (es.take (k + 1)).filter (fun d => lt d e)) := by
            show _ = _
            rw [take_snocF es k f hf, List.filter_append, hgs.out]
            simp [hL]
          clear hc hf c0 c1 hL
          go_wp2
          go_region_held3 (fun u => PutSt w e a' m' c' gs u ∧ (u.cell? ⟨b, off + k * 2, none⟩ = some (.int .i64 f.1) ∧ u.cell? ⟨b, off + k * 2 + 1, none⟩ = some (.int .i64 f.2)) ∧ u.cell? ⟨w.heap.size, 0, none⟩ = some (.int .i64 e.1) ∧ u.cell? ⟨w.heap.size, 1, none⟩ = some (.int .i64 e.2))
            (first | exact ⟨S1, HK.out _ S1⟩ | exact ⟨S0, HK.out _ S0⟩)
            ((go_at_call 68; refine HLc.out.mono ?_; rintro x w1 ⟨rfl, S1⟩))
          obtain ⟨⟨y0, y1⟩, _, _⟩ := HK.out _ S1
          have z1 := S1.size
          clear HLc S0
          go_wp2_with (at_builtin; refine wpList_append_own _ rfl _ _ 24 rfl (w.heap.size + 1) 59 i0 _ 2 16 Try.underlying24 hi hz0 hz1 hz2 rfl (by decide) _ _ _ rfl (S1.own.alloc _) ⟨w1.heap.size, 0, none⟩ 1 1 [.int .i64 f.1, .int .i64 f.2] rfl rfl (news1 _ _) (by intro u hu; simp at hu; rcases hu with rfl | rfl <;> rfl) (by unfold maxLen; omega) (by omega) (by simp; omega) ?_)
          intro v2 w2 hown2 hg2 hn2
          obtain ⟨a2, c2, rfl, hst2⟩ := S1.app hown2 hg2
          clear hown2 hg2 hn2 S1 y0 y1 e0 e1 hst
          go_wp2
          exact ⟨⟨k + 1, m' + 1, a2, c2, gs ++ [f], by omega, by go_num, rfl, by omega, HG, hst2⟩, by simp [intOf]; omega⟩
        | false =>
          rw [hL] at HLc
          have HG : Hid (gs = (es.take (k + 1)).filter (fun d => lt d e)) := by
            show _ = _
            rw [take_snocF es k f hf, List.filter_append, hgs.out]
            simp [hL]
          clear hc hf c0 c1 hL
          go_wp2
          go_region_held3 (fun u => PutSt w e a' m' c' gs u ∧ (u.cell? ⟨b, off + k * 2, none⟩ = some (.int .i64 f.1) ∧ u.cell? ⟨b, off + k * 2 + 1, none⟩ = some (.int .i64 f.2)) ∧ u.cell? ⟨w.heap.size, 0, none⟩ = some (.int .i64 e.1) ∧ u.cell? ⟨w.heap.size, 1, none⟩ = some (.int .i64 e.2))
            (first | exact ⟨S1, HK.out _ S1⟩ | exact ⟨S0, HK.out _ S0⟩)
            ((go_at_call 68; refine HLc.out.mono ?_; rintro x w1 ⟨rfl, S1⟩))
          go_wp2
          exact ⟨⟨k + 1, m', a', c', gs, by omega, by go_num, rfl, by omega, HG, S1⟩, by simp [intOf]; omega⟩
    · obtain rfl : k = n := by omega
      have HG : Hid (gs ++ [e] = es.filter (fun d => lt d e) ++ [e]) := by show _ = _; rw [hgs.out, List.take_of_length_le (by omega)]
      obtain ⟨x0, x1⟩ := hst.box
      have z1 := hst.size
      clear hgs
      go_wp2_with (at_builtin; refine wpList_append_own _ rfl _ _ 24 rfl (w.heap.size + 1) 59 i0 _ 2 16 Try.underlying24 hi hz0 hz1 hz2 rfl (by decide) _ _ _ rfl (hst.own.alloc _) ⟨wr.heap.size, 0, none⟩ 1 1 [.int .i64 e.1, .int .i64 e.2] rfl rfl (news1 _ _) (by intro u hu; simp at hu; rcases hu with rfl | rfl <;> rfl) (by unfold maxLen; omega) (by omega) (by simp; omega) ?_)
      intro v2 w2 hown2 hg2 hn2
      obtain ⟨a2, c2, rfl, hst2⟩ := hst.app hown2 hg2
      have hmk : m' + 1 ≤ k + 1 := by omega
      generalize m' + 1 = m3 at hst2 hmk
      generalize gs ++ [e] = g0 at HG hst2
      clear hown2 hg2 hn2 x0 x1 hst
      go_wp2
      go_loopw [5, 7] (fun v i wr => ∃ (q m' : Nat) (a' : Option Addr) (c' : Nat) (gs : List EdgeV), q ≤ k ∧ i = .int .i64 (q : Int) ∧ v = .slice a' m' c' ∧ m' ≤ k + 1 + q ∧ Hid (gs = g0 ++ (es.take q).filter (fun d => lt e d)) ∧ PutSt w e a' m' c' gs wr) (fun _ i _ => k - (intOf i).toNat)
      case atStart => exact ⟨0, m3, a2, c2, g0, by omega, rfl, rfl, by omega, by show _ = _; simp, hst2⟩
      case round =>
        obtain ⟨q, m', a', c', gs, hq, rfl, rfl, hm, hgs, hst⟩ := hrel
        by_cases hlt : q < k
        · rcases HR.out with hz | ⟨b, off, rfl, hbl, hc⟩
          · omega
          · obtain ⟨f, hf⟩ : ∃ f, es[q]? = some f := ⟨es[q]'(by omega), List.getElem?_eq_getElem (by omega)⟩
            obtain ⟨c0, c1⟩ := hc q f hf
            have b1 : (0 : Int) ≤ (q : Int) := by omega
            have b2 : (q : Int) < (k : Int) := by omega
            have HK : Hid (∀ W : World, PutSt w e a' m' c' gs W → (W.cell? ⟨b, off + q * 2, none⟩ = some (.int .i64 f.1) ∧ W.cell? ⟨b, off + q * 2 + 1, none⟩ = some (.int .i64 f.2)) ∧ W.cell? ⟨w.heap.size, 0, none⟩ = some (.int .i64 e.1) ∧ W.cell? ⟨w.heap.size, 1, none⟩ = some (.int .i64 e.2)) := fun W hW =>
              ⟨⟨by rw [hW.below.cell hbl]; exact c0, by rw [hW.below.cell hbl]; exact c1⟩, hW.box⟩
            have S0 := hst.up (Below.refl _ _).drew
            have HLc := hideIt (HLs.out a' m' c' gs e f _ S0)
            have e0 := (HK.out _ hst).1.1
            have e1 := (HK.out _ hst).1.2
            cases hL : lt e f with
            | true =>
              rw [hL] at HLc
              have HG : Hid (gs ++ [f] = g0 ++ (es.take (q + 1)).filter (fun d => lt e d)) := by
                show _ = _
                rw [take_snocF es q f hf, List.filter_append, hgs.out]
                simp [hL]
              clear hc hf c0 c1 hL
              go_wp2
              go_region_held3 (fun u => PutSt w e a' m' c' gs u ∧ (u.cell? ⟨b, off + q * 2, none⟩ = some (.int .i64 f.1) ∧ u.cell? ⟨b, off + q * 2 + 1, none⟩ = some (.int .i64 f.2)) ∧ u.cell? ⟨w.heap.size, 0, none⟩ = some (.int .i64 e.1) ∧ u.cell? ⟨w.heap.size, 1, none⟩ = some (.int .i64 e.2))
                (first | exact ⟨S1, HK.out _ S1⟩ | exact ⟨S0, HK.out _ S0⟩)
                ((go_at_call 68; refine HLc.out.mono ?_; rintro x w1 ⟨rfl, S1⟩))
              obtain ⟨⟨y0, y1⟩, _, _⟩ := HK.out _ S1
              have z1 := S1.size
              clear HLc S0
              go_wp2_with (at_builtin; refine wpList_append_own _ rfl _ _ 24 rfl (w.heap.size + 1) 59 i0 _ 2 16 Try.underlying24 hi hz0 hz1 hz2 rfl (by decide) _ _ _ rfl (S1.own.alloc _) ⟨w1.heap.size, 0, none⟩ 1 1 [.int .i64 f.1, .int .i64 f.2] rfl rfl (news1 _ _) (by intro u hu; simp at hu; rcases hu with rfl | rfl <;> rfl) (by unfold maxLen; omega) (by omega) (by simp; omega) ?_)
              intro v2 w2 hown2 hg2 hn2
              obtain ⟨a2, c2, rfl, hst2⟩ := S1.app hown2 hg2
              clear hown2 hg2 hn2 S1 y0 y1 e0 e1 hst
              go_wp2
              exact ⟨⟨q + 1, m' + 1, a2, c2, gs ++ [f], by omega, by go_num, rfl, by omega, HG, hst2⟩, by simp [intOf]; omega⟩
            | false =>
              rw [hL] at HLc
              have HG : Hid (gs = g0 ++ (es.take (q + 1)).filter (fun d => lt e d)) := by
                show _ = _
                rw [take_snocF es q f hf, List.filter_append, hgs.out]
                simp [hL]
              clear hc hf c0 c1 hL
              go_wp2
              go_region_held3 (fun u => PutSt w e a' m' c' gs u ∧ (u.cell? ⟨b, off + q * 2, none⟩ = some (.int .i64 f.1) ∧ u.cell? ⟨b, off + q * 2 + 1, none⟩ = some (.int .i64 f.2)) ∧ u.cell? ⟨w.heap.size, 0, none⟩ = some (.int .i64 e.1) ∧ u.cell? ⟨w.heap.size, 1, none⟩ = some (.int .i64 e.2))
                (first | exact ⟨S1, HK.out _ S1⟩ | exact ⟨S0, HK.out _ S0⟩)
                ((go_at_call 68; refine HLc.out.mono ?_; rintro x w1 ⟨rfl, S1⟩))
              go_wp2
              exact ⟨⟨q + 1, m', a', c', gs, by omega, by go_num, rfl, by omega, HG, S1⟩, by simp [intOf]; omega⟩
        · obtain rfl : q = k := by omega
          have HF : Hid (gs = putE es e) := by show _ = _; rw [hgs.out, HG.out, List.take_of_length_le (by omega)]; unfold putE; rfl
          have HO := hideIt (own_mono hst.own (show w.heap.size ≤ w.heap.size + 1 by omega))
          have hb := hst.below
          clear hgs hst
          go_wp2
          go_ret
          exact ⟨a', m', c', rfl, by rw [← HF.out]; exact HO.out, hb⟩
end Go.Proofs.Ytobcihdjennieaa
namespace Go.Proofs.Ytobcihdjennieaa
open Go.RowKit

theorem grown_of_below {w w' : World} (h : Below w.heap.size w w') (row : Option Nat) : w.grownBy w' row :=
  ⟨h.os, h.tape, h.output, h.size, fun k hk _ => h.block k hk⟩
theorem grown_trans {a b c : World} {row : Option Nat} (h : a.grownBy b row) (k : b.grownBy c row) : a.grownBy c row :=
  ⟨k.os.trans h.os, k.tape.trans h.tape, k.output.trans h.output, Nat.le_trans h.size k.size, fun i hi hr => (k.block i (Nat.lt_of_lt_of_le hi h.size) hr).trans (h.block i hi hr)⟩

/-- n marked edges from k0 on -/
def marks (k0 n : Nat) : List EdgeV := (List.range n).map fun (t : Nat) => ((k0 : Int) + (t : Int) * 2, (k0 : Int) + (t : Int) * 2 + 1)
theorem marks_snoc (k0 n : Nat) : marks k0 (n + 1) = marks k0 n ++ [((k0 : Int) + (n : Int) * 2, (k0 : Int) + (n : Int) * 2 + 1)] := by simp [marks, List.range_succ]
theorem marks_length (k0 n : Nat) : (marks k0 n).length = n := by simp [marks]
theorem marks_at (k0 n j : Nat) (h : j < n) : (marks k0 n)[j]? = some ((k0 : Int) + (j : Int) * 2, (k0 : Int) + (j : Int) * 2 + 1) := by simp [marks, h]

theorem markEdgeS_zero (a : Option Addr) (c : Nat) (k0 : Int) (w : World) :
    Calls Try.prog 43 #[.slice a 0 c, .int .i64 k0] w fun e w' => e = .returned (.int .i64 k0) ∧ w' = w := by
  go_enter Try.func43, Try.ntmps43
  go_wp2
  refine wp_loop_rounds 1 ?_
  rw [rounds_succ]
  go_wp2
  go_ret
  exact ⟨rfl, rfl⟩

set_option maxRecDepth 100000 in
set_option maxHeartbeats 4000000 in
theorem markEdgeS_any (base g c n k0 : Nat) (fs : List EdgeV) (hn : n ≤ 1048576) (hk1 : k0 ≤ 10000000) (w : World)
    (h : w.ownsRow base 59 2 (.slice (some ⟨g, 0, none⟩) n c) n (ecells fs)) :
    Calls Try.prog 43 #[.slice (some ⟨g, 0, none⟩) n c, .int .i64 (k0 : Int)] w fun e w' => e = .returned (.int .i64 ((k0 : Int) + (n : Int) * 2)) ∧
      w'.ownsRow base 59 2 (.slice (some ⟨g, 0, none⟩) n c) n (ecells (marks k0 n)) ∧ w.grownBy w' (some g) := by
  have HO0 := hideIt h
  clear h
  go_enter Try.func43, Try.ntmps43
  go_wp2
  go_loopw [1, 5] (fun kk i wr => ∃ (j : Nat) (xs : List Value), j ≤ n ∧ i = .int .i64 (j : Int) ∧ kk = .int .i64 ((k0 : Int) + (j : Int) * 2) ∧ Hid (xs.take (j * 2) = ecells (marks k0 j)) ∧
      wr.ownsRow base 59 2 (.slice (some ⟨g, 0, none⟩) n c) n xs ∧ w.grownBy wr (some g)) (fun _ i _ => n - (intOf i).toNat)
  case atStart => exact ⟨0, _, by omega, rfl, by simp, by show _ = _; simp [ecells, marks], HO0.out, ⟨rfl, rfl, rfl, Nat.le_refl _, fun _ _ _ => rfl⟩⟩
  case round =>
    obtain ⟨j, xs, hj, rfl, rfl, hx, hown, hgr⟩ := hrel
    clear HO0
    have hl3 : xs.length = n * 2 := hown.1
    by_cases hlt : j < n
    · have b1 : (0 : Int) ≤ (j : Int) := by omega
      have b2 : (j : Int) < (n : Int) := by omega
      obtain ⟨y0, c0⟩ : ∃ y, wr.cell? ⟨g, j * 2, none⟩ = some y := ⟨_, by rw [hown.cellAt (j * 2) (by omega)]; exact List.getElem?_eq_getElem (by omega)⟩
      obtain ⟨y1, c1⟩ : ∃ y, wr.cell? ⟨g, j * 2 + 1, none⟩ = some y := ⟨_, by rw [hown.cellAt (j * 2 + 1) (by omega)]; exact List.getElem?_eq_getElem (by omega)⟩
      have f0 := hown.frozenAt (j * 2)
      have f1 := hown.frozenAt (j * 2 + 1)
      have hst1 := hown.stored (j * 2) (.int .i64 ((k0 : Int) + (j : Int) * 2))
      have hst2 := hst1.1.stored (j * 2 + 1) (.int .i64 ((k0 : Int) + (j : Int) * 2 + 1))
      have HO2 := hideIt hst2.1
      have HG2 := hideIt (grown_trans (grown_trans hgr hst1.2) hst2.2)
      have HX : Hid (((xs.set (j * 2) (.int .i64 ((k0 : Int) + (j : Int) * 2))).set (j * 2 + 1) (.int .i64 ((k0 : Int) + (j : Int) * 2 + 1))).take ((j + 1) * 2) = ecells (marks k0 (j + 1))) := by
        show _ = _
        rw [show (j + 1) * 2 = j * 2 + 2 by omega, take_set2 _ _ _ _ (by omega), hx.out, marks_snoc, ecells_snoc]
      clear hst1 hst2 hx hown hgr
      go_wp2
      exact ⟨⟨j + 1, _, by omega, by go_num, by go_num, HX, HO2.out, HG2.out⟩, by simp [intOf]; omega⟩
    · obtain rfl : j = n := by omega
      have HX : Hid (xs = ecells (marks k0 j)) := by
        show _ = _
        have := hx.out
        rw [List.take_of_length_le (by omega)] at this
        exact this
      have HO := hideIt hown
      clear hx hown
      go_wp2
      go_ret
      exact ⟨rfl, by rw [← HX.out]; exact HO.out, hgr⟩

set_option maxRecDepth 100000 in
set_option maxHeartbeats 4000000 in
theorem heldEdgeS_any (n k0 : Nat) (a : Option Addr) (c : Nat) (hn : n ≤ 1048576) (hk1 : k0 ≤ 10000000) (w : World) (h : Es w w.heap.size a n (marks k0 n)) :
    Calls Try.prog 44 #[.slice a n c, .int .i64 (k0 : Int)] w fun e w' => e = .returned (.int .i64 ((k0 : Int) + (n : Int) * 2)) ∧ w' = w := by
  obtain ⟨_, hrow⟩ := h
  have HR := hideIt hrow
  clear hrow
  go_enter Try.func44, Try.ntmps44
  go_wp2
  go_loopw [1, 5] (fun kk i wr => ∃ j : Nat, j ≤ n ∧ i = .int .i64 (j : Int) ∧ kk = .int .i64 ((k0 : Int) + (j : Int) * 2) ∧ wr = w) (fun _ i _ => n - (intOf i).toNat)
  case atStart => exact ⟨0, by omega, rfl, by simp, rfl⟩
  case round =>
    obtain ⟨j, hj, rfl, rfl, hw⟩ := hrel
    have hw' := hw.symm
    subst hw'
    clear hw
    by_cases hlt : j < n
    · rcases HR.out with hz | ⟨b, off, rfl, hbl, hc⟩
      · omega
      · obtain ⟨c0, c1⟩ := hc j _ (marks_at k0 n j hlt)
        dsimp only at c0 c1
        have b1 : (0 : Int) ≤ (j : Int) := by omega
        have b2 : (j : Int) < (n : Int) := by omega
        clear hc
        go_wp2
        exact ⟨⟨j + 1, by omega, by go_num, by go_num, by first | trivial | rfl⟩, by simp [intOf]; omega⟩
    · obtain rfl : j = n := by omega
      go_wp2
      go_ret
      exact ⟨rfl, rfl⟩

theorem markGraph_zero (N : Int) (a : Option Addr) (c : Nat) (k0 : Int) (w : World) :
    Calls Try.prog 16 #[.agg #[.int .i64 N, .slice a 0 c], .int .i64 k0] w fun e w' => e = .returned (.int .i64 k0) ∧ Below w.heap.size w w' := by
  have HT := hideIt (markEdgeS_zero a c k0)
  go_enter Try.func16, Try.ntmps16
  go_wp2_with (go_at_call 43; refine (HT.out _).mono ?_; rintro e w1 ⟨rfl, rfl⟩)
  go_ret
  exact ⟨rfl, (Below.refl _ _).alloc (Nat.le_refl _) _⟩
theorem markGraph_any (N : Int) (base g c n k0 : Nat) (fs : List EdgeV) (hn : n ≤ 1048576) (hk1 : k0 ≤ 10000000) (w : World)
    (h : w.ownsRow base 59 2 (.slice (some ⟨g, 0, none⟩) n c) n (ecells fs)) :
    Calls Try.prog 16 #[.agg #[.int .i64 N, .slice (some ⟨g, 0, none⟩) n c], .int .i64 (k0 : Int)] w fun e w' => e = .returned (.int .i64 ((k0 : Int) + (n : Int) * 2)) ∧
      w'.ownsRow base 59 2 (.slice (some ⟨g, 0, none⟩) n c) n (ecells (marks k0 n)) ∧ w.grownBy w' (some g) := by
  have HT := hideIt (markEdgeS_any base g c n k0 fs hn hk1 _ (h.alloc (.cells #[.int .i64 N, .slice (some ⟨g, 0, none⟩) n c] 26)))
  clear h
  go_enter Try.func16, Try.ntmps16
  go_wp2_with (go_at_call 43; refine HT.out.mono ?_; rintro e w1 ⟨rfl, ho, hg⟩; refine Hid.out ?_)
  refine (show ∀ {p : Prop}, p → Hid p from fun h => h) ?_
  have HO := hideIt ho
  have HG := hideIt (grown_trans (grown_of_below ((Below.refl w.heap.size w).alloc (Nat.le_refl _) (.cells #[.int .i64 N, .slice (some ⟨g, 0, none⟩) n c] 26)) (some g)) hg)
  clear ho hg HT
  go_wp2
  go_ret
  exact ⟨rfl, HO.out, HG.out⟩
theorem heldGraph_any (N : Int) (n k0 : Nat) (a : Option Addr) (c : Nat) (hn : n ≤ 1048576) (hk1 : k0 ≤ 10000000) (w : World) (h : Es w w.heap.size a n (marks k0 n)) :
    Calls Try.prog 17 #[.agg #[.int .i64 N, .slice a n c], .int .i64 (k0 : Int)] w fun e w' => e = .returned (.int .i64 ((k0 : Int) + (n : Int) * 2)) ∧ Below w.heap.size w w' := by
  have HT := hideIt (heldEdgeS_any n k0 a c hn hk1 (w.alloc (.cells #[.int .i64 N, .slice a n c] 26)) ((h.alloc (Nat.le_refl _) _).mono (by simp)))
  have d1 : decide ((k0 : Int) + (n : Int) * 2 < 0) = false := decide_eq_false (by omega)
  clear h
  go_enter Try.func17, Try.ntmps17
  go_wp2_with (go_at_call 44; refine HT.out.mono ?_; rintro e w1 ⟨rfl, rfl⟩)
  go_ret
  exact ⟨rfl, (Below.refl _ _).alloc (Nat.le_refl _) _⟩
end Go.Proofs.Ytobcihdjennieaa
namespace Go.Proofs.Ytobcihdjennieaa
open Go.RowKit

/-- a graph in a block of its own -/
def Box2 (w : World) (b : Nat) (t : TypeId) (v0 v1 : Value) : Prop := w.heap[b]? = some (.cells #[v0, v1] t (0, 0))
theorem Box2.cell0 {w : World} {b : Nat} {t : TypeId} {v0 v1 : Value} (h : Box2 w b t v0 v1) : w.cell? ⟨b, 0, none⟩ = some v0 := by rw [cell_of_row w b 0 _ _ _ h]; rfl
theorem Box2.cell1 {w : World} {b : Nat} {t : TypeId} {v0 v1 : Value} (h : Box2 w b t v0 v1) : w.cell? ⟨b, 1, none⟩ = some v1 := by rw [cell_of_row w b 1 _ _ _ h]; rfl
theorem Box2.frozen {w : World} {b : Nat} {t : TypeId} {v0 v1 : Value} (h : Box2 w b t v0 v1) (j : Nat) : w.frozen? ⟨b, j, none⟩ = false := frozen_of_row w b j _ _ h
theorem Box2.lt {w : World} {b : Nat} {t : TypeId} {v0 v1 : Value} (h : Box2 w b t v0 v1) : b < w.heap.size := (Array.getElem?_eq_some_iff.1 h).1
theorem Box2.new (w : World) (t : TypeId) (v0 v1 : Value) (b : Nat) (hb : w.heap.size = b) : Box2 (w.alloc (.cells #[v0, v1] t)) b t v0 v1 := by subst hb; exact heap_alloc_new w _
theorem Box2.grown {w w' : World} {b : Nat} {t : TypeId} {v0 v1 : Value} {row : Option Nat} (h : Box2 w b t v0 v1) (hg : w.grownBy w' row) (hr : some b ≠ row) : Box2 w' b t v0 v1 := by
  unfold Box2; rw [hg.block b h.lt hr]; exact h
theorem Box2.alloc {w : World} {b : Nat} {t : TypeId} {v0 v1 : Value} (h : Box2 w b t v0 v1) (o : Obj) : Box2 (w.alloc o) b t v0 v1 := by
  unfold Box2; rw [Below.heap_alloc w o b h.lt]; exact h
theorem Box2.set {w : World} {b : Nat} {t : TypeId} {v0 v1 : Value} (h : Box2 w b t v0 v1) (u0 u1 : Value) : Box2 ((w.setCell ⟨b, 0, none⟩ u0).setCell ⟨b, 1, none⟩ u1) b t u0 u1 := by
  have h1 : (w.setCell ⟨b, 0, none⟩ u0).heap[b]? = some (.cells #[u0, v1] t (0, 0)) := by rw [heap_setCell_same w b 0 _ t u0 h]; rfl
  unfold Box2
  rw [heap_setCell_same _ b 1 _ t u1 h1]; rfl
theorem Box2.below {w w' : World} {b C : Nat} {t : TypeId} {v0 v1 : Value} (h : Box2 w b t v0 v1) (hb : Below C w w') (hC : b < C) : Box2 w' b t v0 v1 := by
  unfold Box2; rw [hb.block b hC]; exact h
theorem Good.set {w u : World} (h : Good w u) (b j : Nat) (v : Value) (hb : w.heap.size ≤ b) : Good w (u.setCell ⟨b, j, none⟩ v) := Below.setCell h (p := ⟨b, j, none⟩) hb v

/-- a graph that is ours: its box and its edges lie in blocks lo .. hi -/
structure GBox (u : World) (lo hi b : Nat) (M : Int) (a : Option Addr) (m c : Nat) (gs : List EdgeV) : Prop where
  box : Box2 u b 26 (.int .i64 M) (.slice a m c)
  own : u.ownsRow lo 59 2 (.slice a m c) m (ecells gs)
  least : lo ≤ b
  most : b < hi
  row : ∀ g, (Value.slice a m c).ownBlock = some g → g < hi
  there : hi ≤ u.heap.size

/-- what lies outside lo .. hi has not turned -/
structure Rng (lo hi : Nat) (u v : World) : Prop where
  os : v.os = u.os
  tape : v.tape = u.tape
  output : v.output = u.output
  size : u.heap.size ≤ v.heap.size
  block : ∀ k, k < u.heap.size → (k < lo ∨ hi ≤ k) → v.heap[k]? = u.heap[k]?

theorem Rng.of_below {u v : World} {lo hi : Nat} (h : Below u.heap.size u v) : Rng lo hi u v := ⟨h.os, h.tape, h.output, h.size, fun k hk _ => h.block k hk⟩
theorem Rng.of_grown {u v : World} {lo hi g : Nat} (h : u.grownBy v (some g)) (h1 : lo ≤ g) (h2 : g < hi) : Rng lo hi u v :=
  ⟨h.os, h.tape, h.output, h.size, fun k hk ho => h.block k hk (by simp; omega)⟩
theorem Rng.below {u v : World} {lo hi B : Nat} (h : Rng lo hi u v) (h1 : B ≤ lo) (h2 : B ≤ u.heap.size) : Below B u v := ⟨h.os, h.tape, h.output, h.size, fun k hk => h.block k (by omega) (.inl (by omega))⟩

theorem GBox.len {u : World} {lo hi b : Nat} {M : Int} {a : Option Addr} {m c : Nat} {gs : List EdgeV} (h : GBox u lo hi b M a m c gs) : gs.length = m := by
  have := h.own.1; rw [ecells_length] at this; omega
theorem GBox.es {u : World} {lo hi b : Nat} {M : Int} {a : Option Addr} {m c : Nat} {gs : List EdgeV} (h : GBox u lo hi b M a m c gs) : Es u u.heap.size a m gs := Es_of_own h.own
theorem GBox.rng {u v : World} {lo hi b l2 h2 : Nat} {M : Int} {a : Option Addr} {m c : Nat} {gs : List EdgeV} (h : GBox u lo hi b M a m c gs) (hr : Rng l2 h2 u v) (ho : hi ≤ l2 ∨ h2 ≤ lo) : GBox v lo hi b M a m c gs := by
  have hth := h.there
  have hb := h.least
  have hb' := h.most
  have g1 : ∀ k, lo ≤ k → k < hi → v.heap[k]? = u.heap[k]? := fun k h3 h4 => hr.block k (by omega) (by omega)
  refine ⟨?_, ?_, hb, hb', h.row, Nat.le_trans hth hr.size⟩
  · unfold Box2; rw [g1 b hb hb']; exact h.box
  · refine ⟨h.own.1, ?_⟩
    rcases h.own.2 with h3 | ⟨g, cap, cur, hv, hg, hcur, hrest⟩
    · exact .inl h3
    · refine .inr ⟨g, cap, cur, hv, hg, ?_, hrest⟩
      rw [g1 g hg (h.row g (by rw [hv]; rfl))]
      exact hcur
theorem GBox.up {u v : World} {lo hi b : Nat} {M : Int} {a : Option Addr} {m c : Nat} {gs : List EdgeV} (h : GBox u lo hi b M a m c gs) (hb : Below u.heap.size u v) : GBox v lo hi b M a m c gs :=
  h.rng (l2 := hi) (h2 := hi) (Rng.of_below hb) (.inl (Nat.le_refl _))
theorem GBox.cells {u : World} {lo hi b : Nat} {M : Int} {a : Option Addr} {m c : Nat} {gs : List EdgeV} (h : GBox u lo hi b M a m c gs) : u.cell? ⟨b, 0, none⟩ = some (.int .i64 M) ∧ u.cell? ⟨b, 1, none⟩ = some (.slice a m c) := ⟨h.box.cell0, h.box.cell1⟩

/-- a graph of lo .. is marked -/
theorem markGB {u : World} {lo hi b : Nat} {M : Int} {a : Option Addr} {m c : Nat} {gs : List EdgeV} (h : GBox u lo hi b M a m c gs) (k0 : Nat) (hm : m ≤ 1048576) (h1 : k0 ≤ 10000000) :
    Calls Try.prog 16 #[.agg #[.int .i64 M, .slice a m c], .int .i64 (k0 : Int)] u fun e v => e = .returned (.int .i64 ((k0 : Int) + (m : Int) * 2)) ∧ GBox v lo hi b M a m c (marks k0 m) ∧ Rng lo hi u v := by
  have hth := h.there
  rcases h.own.2 with ⟨hv, hm0⟩ | ⟨g, cap, cur, hv, hg, hcur, hrest⟩
  · subst hm0
    refine (markGraph_zero M a c (k0 : Int) u).mono fun e v ⟨he, hb⟩ => ⟨by rw [he]; simp, ?_, Rng.of_below hb⟩
    have h2 := h.up hb
    have hg0 : gs = [] := List.length_eq_zero_iff.1 h.len
    subst hg0
    exact h2
  · have hv' := hv
    simp at hv'
    obtain ⟨rfl, rfl⟩ := hv'
    have hgh := h.row g rfl
    refine (markGraph_any M lo g c m k0 gs hm h1 u h.own).mono fun e v ⟨he, ho, hgr⟩ => ⟨he, ?_, Rng.of_grown hgr hg hgh⟩
    by_cases hbg : b = g
    · exfalso
      subst hbg
      have hbx : u.heap[b]? = some (.cells #[.int .i64 M, .slice (some ⟨b, 0, none⟩) m c] 26 (0, 0)) := h.box
      rw [hbx] at hcur
      simp at hcur
    · exact ⟨h.box.grown hgr (by simpa using hbg), ho, h.least, h.most, h.row, Nat.le_trans hth hgr.size⟩
theorem heldGB {u : World} {lo hi b : Nat} {M : Int} {a : Option Addr} {m c : Nat} (k0 : Nat) (h : GBox u lo hi b M a m c (marks k0 m)) (hm : m ≤ 1048576) (h1 : k0 ≤ 10000000) :
    Calls Try.prog 17 #[.agg #[.int .i64 M, .slice a m c], .int .i64 (k0 : Int)] u fun e v => e = .returned (.int .i64 ((k0 : Int) + (m : Int) * 2)) ∧ Below u.heap.size u v :=
  heldGraph_any M m k0 a c hm h1 u h.es
theorem eqGB {u : World} {lo hi b lo' hi' b' : Nat} {M : Int} {a a' : Option Addr} {m c m' c' : Nat} {gs : List EdgeV} (h : GBox u lo hi b M a m c gs) (h' : GBox u lo' hi' b' M a' m' c' gs) (hm : m ≤ 1048576) :
    Calls Try.prog 15 #[.agg #[.int .i64 M, .slice a m c], .agg #[.int .i64 M, .slice a' m' c']] u fun e v => e = .returned (.bool true) ∧ Below u.heap.size u v := by
  have e : m' = m := by rw [← h.len, ← h'.len]
  subst e
  exact eqGraph_same M gs m' a a' c c' hm u h.es h'.es
/-- a graph that a call has made is laid into a box: the box came ahead of the call -/
theorem GBox.stored {u : World} {lo b : Nat} {M : Int} {a : Option Addr} {m c : Nat} {gs : List EdgeV} {v0 v1 : Value} (hb : Box2 u b 26 v0 v1) (hl : lo ≤ b) (ho : u.ownsRow lo 59 2 (.slice a m c) m (ecells gs)) :
    GBox ((u.setCell ⟨b, 0, none⟩ (.int .i64 M)).setCell ⟨b, 1, none⟩ (.slice a m c)) lo ((u.setCell ⟨b, 0, none⟩ (.int .i64 M)).setCell ⟨b, 1, none⟩ (.slice a m c)).heap.size b M a m c gs := by
  have hne : (Value.slice a m c).ownBlock ≠ some b := fun e => by
    rcases ho.2 with ⟨h3, _⟩ | ⟨g, cap, cur, hv, hg, hcur, hrest⟩
    · simp at h3
      obtain ⟨rfl, _⟩ := h3
      cases e
    · simp at hv
      obtain ⟨rfl, rfl⟩ := hv
      have e' : some g = some b := e
      simp at e'
      rw [e'] at hcur
      have hbx : u.heap[b]? = some (.cells #[v0, v1] 26 (0, 0)) := hb
      rw [hbx] at hcur
      simp at hcur
  have ho1 : (u.setCell ⟨b, 0, none⟩ (.int .i64 M)).ownsRow lo 59 2 (.slice a m c) m (ecells gs) := World.ownsRow.kept ho (grownSet u b 0 _) (.inr hne)
  have ho' : ((u.setCell ⟨b, 0, none⟩ (.int .i64 M)).setCell ⟨b, 1, none⟩ (.slice a m c)).ownsRow lo 59 2 (.slice a m c) m (ecells gs) := World.ownsRow.kept ho1 (grownSet _ b 1 _) (.inr hne)
  have hb' := hb.set (.int .i64 M) (.slice a m c)
  exact ⟨hb', ho', hl, hb'.lt, fun g hg => (ho'.lt g hg).2, Nat.le_refl _⟩
/-- .. or comes behind it -/
theorem GBox.laid {u : World} {lo : Nat} {M : Int} {a : Option Addr} {m c : Nat} {gs : List EdgeV} (hl : lo ≤ u.heap.size) (ho : u.ownsRow lo 59 2 (.slice a m c) m (ecells gs)) :
    GBox (u.alloc (.cells #[.int .i64 M, .slice a m c] 26)) lo (u.alloc (.cells #[.int .i64 M, .slice a m c] 26)).heap.size u.heap.size M a m c gs :=
  ⟨Box2.new _ _ _ _ _ rfl, ho.alloc _, hl, by simp, fun g hg => by have := (ho.lt g hg).2; simp; omega, Nat.le_refl _⟩

/-- any box stands behind a call -/
def Keep (u v : World) : Prop := ∀ b t x y, Box2 u b t x y → Box2 v b t x y
theorem Keep.of {u v : World} (h : Below u.heap.size u v) : Keep u v := fun _ _ _ _ hb => hb.below h hb.lt
theorem Keep.nil {u v : World} (h : Keep u v) {b : Nat} (hb : Box2 u b 26 (.int .i64 0) (.slice none 0 0)) : Box2 v b 26 (.int .i64 0) (.slice none 0 0) := h _ _ _ _ hb
theorem own_up {w w' : World} {B e s n : Nat} {v : Value} {xs : List Value} (h : w.ownsRow B e s v n xs) (hb : Below w.heap.size w w') : w'.ownsRow B e s v n xs :=
  World.ownsRow.kept h (grown_of_below hb none) (by cases hv : v.ownBlock <;> simp)

/-- a graph is made of what came in -/
theorem toGraph_G (N : Int) (fs : List EdgeV) (n : Nat) (a : Option Addr) (c : Nat) (hn : n ≤ 1048576) {u0 u : World} (hf : Es u0 u0.heap.size a n fs) (h : Good u0 u) :
    Calls Try.prog 13 #[.agg #[.int .i64 N, .slice a n c]] u fun e v => ∃ g, e = .returned (.agg #[.int .i64 N, .slice (some ⟨g, 0, none⟩) n n]) ∧ v.ownsRow u0.heap.size 59 2 (.slice (some ⟨g, 0, none⟩) n n) n (ecells fs) ∧ Good u0 v ∧ Keep u v :=
  (toGraph_any N fs n a c hn u (h.es hf)).mono fun _ _ ⟨g, he, ho, hb⟩ => ⟨g, he, own_mono ho h.size, h.up hb, Keep.of hb⟩
theorem toEdge_G (x : EdgeV) {u0 u : World} (h : Good u0 u) {B m cc : Nat} {aa : Option Addr} {ds : List EdgeV} (ho : u.ownsRow B 59 2 (.slice aa m cc) m (ecells ds)) :
    Calls Try.prog 69 #[.agg #[.int .i64 x.1, .int .i64 x.2]] u fun e v => e = .returned (.agg #[.int .i64 x.1, .int .i64 x.2]) ∧ v.ownsRow B 59 2 (.slice aa m cc) m (ecells ds) ∧ Good u0 v ∧ Keep u v :=
  (toEdge_any x u).mono fun _ _ ⟨he, hb⟩ => ⟨he, own_up ho hb, h.up hb, Keep.of hb⟩
/-- what is asked of either side -/
theorem ans_G {F : Nat} {N : Int} {fs : List EdgeV} {n : Nat} {x : EdgeV} {o : Option (List EdgeV)}
    (H : ∀ (g : Nat) (w : World) (_ : Es w w.heap.size (some ⟨g, 0, none⟩) n fs), Calls Try.prog F #[.agg #[.int .i64 N, .slice (some ⟨g, 0, none⟩) n n], .agg #[.int .i64 x.1, .int .i64 x.2]] w (GAns w N o))
    {u0 u : World} (h : Good u0 u) {B g : Nat} (ho : u.ownsRow B 59 2 (.slice (some ⟨g, 0, none⟩) n n) n (ecells fs)) :
    Calls Try.prog F #[.agg #[.int .i64 N, .slice (some ⟨g, 0, none⟩) n n], .agg #[.int .i64 x.1, .int .i64 x.2]] u fun e v => ∃ aw mw cw, e = .returned (.tuple #[.agg #[.int .i64 (if o.isSome then N else 0), .slice aw mw cw], .bool o.isSome]) ∧ v.ownsRow u0.heap.size 59 2 (.slice aw mw cw) mw (ecells (o.getD [])) ∧ Good u0 v ∧ Keep u v :=
  (H g u (Es_of_own ho)).mono fun _ _ ⟨aw, mw, cw, he, hw, hb⟩ => ⟨aw, mw, cw, he, own_mono hw h.size, h.up hb, Keep.of hb⟩

/-- the world behind the law's two boxes -/
def lw (w : World) (N : Int) (a : Option Addr) (n c : Nat) (x : EdgeV) : World := (w.alloc (.cells #[.int .i64 N, .slice a n c] 37)).alloc (.cells #[.int .i64 x.1, .int .i64 x.2] 97)
theorem lw_size (w : World) (N : Int) (a : Option Addr) (n c : Nat) (x : EdgeV) : (lw w N a n c x).heap.size = w.heap.size + 2 := by simp [lw]
/-- nothing of these has turned -/
def LG (w : World) (N : Int) (a : Option Addr) (n c : Nat) (x : EdgeV) (u : World) : Prop := Below (w.heap.size + 2) (lw w N a n c x) u
theorem LG.start (w : World) (N : Int) (a : Option Addr) (n c : Nat) (x : EdgeV) : LG w N a n c x (lw w N a n c x) := Below.refl _ _
theorem LG.size {w : World} {N : Int} {a : Option Addr} {n c : Nat} {x : EdgeV} {u : World} (h : LG w N a n c x u) : w.heap.size + 2 ≤ u.heap.size := by have := Below.size h; rw [lw_size] at this; exact this
theorem LG.up {w : World} {N : Int} {a : Option Addr} {n c : Nat} {x : EdgeV} {u v : World} (h : LG w N a n c x u) (hb : Below u.heap.size u v) : LG w N a n c x v := Below.trans h (hb.mono h.size)
theorem LG.good {w : World} {N : Int} {a : Option Addr} {n c : Nat} {x : EdgeV} {u v : World} (h : LG w N a n c x u) (hb : Good u v) : LG w N a n c x v := h.up hb
theorem LG.rng {w : World} {N : Int} {a : Option Addr} {n c : Nat} {x : EdgeV} {u v : World} {lo hi : Nat} (h : LG w N a n c x u) (hr : Rng lo hi u v) (hl : w.heap.size + 2 ≤ lo) : LG w N a n c x v := Below.trans h (hr.below hl h.size)
theorem LG.below {w : World} {N : Int} {a : Option Addr} {n c : Nat} {x : EdgeV} {u : World} (h : LG w N a n c x u) : Below w.heap.size w u :=
  (((Below.refl w.heap.size w).alloc (Nat.le_refl _) _).alloc (by simp) _).trans (Below.mono h (by omega))
theorem LG.es {w : World} {N : Int} {a : Option Addr} {n c : Nat} {x : EdgeV} {u : World} {fs : List EdgeV} (h : LG w N a n c x u) (hf : Es w w.heap.size a n fs) : Es u u.heap.size a n fs := hf.up h.below
theorem LG.cells {w : World} {N : Int} {a : Option Addr} {n c : Nat} {x : EdgeV} {u : World} (h : LG w N a n c x u) :
    (u.cell? ⟨w.heap.size, 0, none⟩ = some (.int .i64 N) ∧ u.cell? ⟨w.heap.size, 1, none⟩ = some (.slice a n c)) ∧ u.cell? ⟨w.heap.size + 1, 0, none⟩ = some (.int .i64 x.1) ∧ u.cell? ⟨w.heap.size + 1, 1, none⟩ = some (.int .i64 x.2) := by
  refine ⟨⟨?_, ?_⟩, ?_, ?_⟩
  · rw [Below.cell h (by show w.heap.size < _; omega)]; simp [lw, go_sem]
  · rw [Below.cell h (by show w.heap.size < _; omega)]; simp [lw, go_sem]
  · rw [Below.cell h (by show w.heap.size + 1 < _; omega)]; simp [lw, go_sem]
  · rw [Below.cell h (by show w.heap.size + 1 < _; omega)]; simp [lw, go_sem]
end Go.Proofs.Ytobcihdjennieaa
