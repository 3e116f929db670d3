/- The program's table of 16 words as a row lists it, and as it reads. The program's table of 16 words, where a row lists the library's sentinel ahead of it. An order and an answer that come in, as the walks want them. A record that comes in. -/
import Derived.Test.YthnibebljbljdaaGreatDoorRows
import Derived.Test.YthnibebljbljdaaGreatDoorKIUnseal
import Derived.WalkKit
import Derived.ProofKit
import Derived.OpenShut
import Derived.ShutString
import Derived.ChangeOld
import Derived.ChangeVars
import Derived.Below
import Derived.Deep.DeepHandedRow
import Derived.Test.YthnibebljbljdaaGreatDoorKOpenGraph
import Derived.Test.YthnibebljbljdaaGreatDoorKICmd10
import Derived.ChangeSlices
import Derived.ChangeArms
namespace Go.Proofs.YthnibebljbljdaaGreatDoor
open Go.ChangeShapes Go.WideShapes Go.ChangeAt Go.RowKit

theorem own : ownKnob Tryz.prog.godebug = none := by kernel_rfl
theorem gTabType : (Tryz.prog.globals[1]?).map (·.type) = some 197 := by kernel_rfl
theorem cellsT : Tryz.prog.cellsOf 197 = 16 := by kernel_rfl
theorem cellsE : Tryz.prog.cellsOf 110 = 1 := by kernel_rfl

/-- what a row's list gives: the table -/
theorem table {W : World} (h : laidMet Tryz.prog [("loop.example/g00130/impl.fourHalvings", Rows.laid_loop_example_g00130_impl_fourHalvings)] W) : Tab W := by
  have h3 : laidMet Tryz.prog [("loop.example/g00130/impl.fourHalvings", Lib.tabData .u32 tabI)] W := h
  exact Lib.tabIs_of_head (rest := []) gTab gTabType Tryz.underlying197 Tryz.underlying110 cellsE cellsT h3

def cellsTab : Array Value := (tabI.map fun z => Value.int .u32 z).toArray
def tableH {H : Type} : DataW H := Lib.tabData .u32 tabI

theorem reads_table {H : Type} (enc : TypeId × Value → H) (W : World) (sp : Nat → Bool) : DataW.trod enc Tryz.prog W 0 sp true 3 197 cellsTab.toList = some (tableH, []) := by kernel_rfl

/-- the table read, in each world where it stands -/
theorem vars_table {H : Type} (enc : TypeId × Value → H) {W : World} (ht : Tab W) (sp : Nat → Bool) :
    DataW.TrodVars enc Tryz.prog W sp ["loop.example/g00130/impl.fourHalvings"] [tableH] (MemPlace.row ⟨1, 0, none⟩ cellsTab.size ++ [] ++ []) :=
  ⟨1, 197, cellsTab, 3, [], [], gTab, gTabType, ht, reads_table enc W sp, rfl, rfl⟩

/-- what was read there at the start is the table -/
theorem vars_is {H : Type} {enc : TypeId × Value → H} {W : World} (ht : Tab W) {sp : Nat → Bool} {gs : List (DataW H)} {q : List MemPlace}
    (hV : DataW.TrodVars enc Tryz.prog W sp ["loop.example/g00130/impl.fourHalvings"] gs q) : gs = [tableH] := by
  obtain ⟨g, t, cs, fuel, d, p', rfl, hg, hty, hvar, hd, rfl⟩ := trodVars_one hV
  obtain rfl := Option.some.inj (gTab.symm.trans hg)
  obtain rfl := Option.some.inj (gTabType.symm.trans hty)
  obtain rfl : cs = cellsTab := Option.some.inj (hvar.symm.trans ht)
  obtain ⟨rfl, rfl⟩ := DataW.Trod.unique (v := .agg cellsTab) ⟨fuel, hd⟩ ⟨3, reads_table enc W _⟩
  rfl

/-- the cells of a listed array of numbers -/
def cellsIn (d : DataW Unit) : Array Value :=
  match d with
  | .agg l => (l.map fun x => match x with
    | .lit (.int k z) => Value.int k z
    | _ => Value.int .i64 0).toArray
  | _ => #[]

/-- a block's cells laid anew -/
def put (cs : Array Value) (o : Obj) : Obj :=
  match o with
  | .cells _ t frozen => .cells cs t frozen
  | o => o

/-- a world in which the table holds what the list says -/
def laidWorld (P : Program) (os : Os) : World :=
  { World.holding P os ⟨#[], #[], []⟩ with heap := (World.holding P os ⟨#[], #[], []⟩).heap.modify 1 (put (cellsIn Rows.laid_loop_example_g00130_impl_fourHalvings)) }
end Go.Proofs.YthnibebljbljdaaGreatDoor
namespace Go.Proofs.YthnibebljbljdaaGreatDoor
open Go.ChangeShapes Go.WideShapes Go.ChangeAt Go.RowKit

theorem table2 {W : World} (h : laidMet Tryz.prog [("bytes.ErrTooLarge", Rows.laid_bytes_ErrTooLarge), ("loop.example/g00130/impl.fourHalvings", Rows.laid_loop_example_g00130_impl_fourHalvings)] W) : Tab W := by
  obtain ⟨ps, ⟨g1, t1, cs1, fuel1, p1, q1, _, _, _, _, hL2, _⟩, _⟩ := h
  obtain ⟨g', t', cs, fuel, p, q, hg', ht', hvar, hd, _, _⟩ := hL2
  have hd2 : DataW.trod (fun _ => ()) Tryz.prog W 0 (fun _ => true) false fuel t' cs.toList = some (Lib.tabData .u32 tabI, p) := hd
  obtain rfl := Option.some.inj (gTab.symm.trans hg')
  obtain rfl := Option.some.inj (gTabType.symm.trans ht')
  have hc := Lib.cells_of_tab Tryz.underlying197 Tryz.underlying110 cellsE cellsT hd2
  show Lib.TabIs _ _ _ _ _
  unfold Lib.TabIs
  rw [hvar, ← hc]
end Go.Proofs.YthnibebljbljdaaGreatDoor
namespace Go.Proofs.YthnibebljbljdaaGreatDoor
open Go.ChangeShapes Go.WideShapes Go.ChangeAt Go.RowKit

theorem four10 {α : Type} {l : List α} (h : l.length = 4) : ∃ a b c d, l = [a, b, c, d] := by
  match l, h with
  | [a, b, c, d], _ => exact ⟨a, b, c, d, rfl⟩

theorem slice1 {H : Type} {enc : TypeId × Value → H} {W : World} {fuel : Nat} {t e : TypeId} {cs : List Value} {x : DataW H × List MemPlace} (hu : Tryz.prog.underlying t = some (.slice e))
    (h : DataW.trod enc Tryz.prog W 0 (fun _ => true) true fuel t cs = some x) : ∃ a n c, cs = [.slice a n c] := by
  rcases DataW.trod_slice hu h with ⟨hcs, _⟩ | ⟨ad, l, c, _, _, _, _, hcs, _⟩
  · exact ⟨_, _, _, hcs⟩
  · exact ⟨_, _, _, hcs⟩

theorem open_ints10 {H : Type} {enc : TypeId × Value → H} {W : World} {fuel : Nat} {a : Option Addr} {len cap : Nat} {y : DataW H × List MemPlace}
    (hf : DataW.trod enc Tryz.prog W 0 (fun _ => true) true fuel 34 [.slice a len cap] = some y) : len ≤ maxLen ∧ ∃ ls : List Int, Is W W.heap.size a len ls := by
  obtain ⟨d, p⟩ := y
  rcases open_ints Tryz.underlying34 Tryz.underlying3 (by kernel_rfl) hf with ⟨hcs, _⟩ | ⟨x, l, c, zs, hcs, _, hl, hm, hz, _, hcell, hwz⟩
  · simp at hcs
    obtain ⟨rfl, rfl, rfl⟩ := hcs
    exact ⟨by unfold maxLen; omega, [], ⟨rfl, .inl rfl⟩⟩
  · simp at hcs
    obtain ⟨rfl, rfl, rfl⟩ := hcs
    have hzl : zs.length = cap := by simpa using hz
    by_cases h0 : len = 0
    · subst h0
      exact ⟨by unfold maxLen; omega, [], ⟨rfl, .inl rfl⟩⟩
    · obtain ⟨b, off, rfl, hc⟩ := ints_at hcell (by omega)
      have hb : b < W.heap.size := World.block_lt_of_cell? W _ (hc 0 (by omega))
      refine ⟨by omega, zs.take len, ⟨by rw [List.length_take]; omega, .inr ⟨b, off, rfl, hb, fun j x hx => ?_⟩⟩⟩
      have hj : j < len := by have := (List.getElem?_eq_some_iff.1 hx).1; rw [List.length_take] at this; omega
      rw [List.getElem?_take_of_lt hj] at hx
      rw [hc j (by omega), List.getD_eq_getElem?_getD, hx]
      rfl

set_option maxRecDepth 100000 in
/-- an order that comes in -/
theorem open_order {H : Type} {enc : TypeId × Value → H} {W : World} {r : Reach} {base : Nat} {v : Value} {d : DataW H} {p : List MemPlace}
    (hv : Value.okWide Tryz.prog W r base 38 v) (h : DataW.Trod enc Tryz.prog W 0 (fun _ => true) true 38 v d p) :
    ∃ (num op x : Int) (a : Option Addr) (n c : Nat) (fs : List EdgeV), v = .agg #[.int .i64 num, .int .i64 op, .slice a n c, .int .i64 x] ∧ n ≤ maxLen ∧ Es W W.heap.size a n fs := by
  obtain ⟨cs, rfl, hcs⟩ := okWide_struct Tryz.underlying38 hv
  obtain ⟨fuel, hf⟩ := h
  obtain ⟨xs, n, _, _, hl, hlen, hfi⟩ := DataW.trod_struct Tryz.underlying38 hf
  rw [show Tryz.prog.cellsOf 38 = 4 by kernel_rfl] at hcs hl
  obtain ⟨l⟩ := cs
  obtain ⟨c0, c1, c2, c3, rfl⟩ := four10 (by simpa using hcs : l.length = 4)
  have ec : (Value.agg (List.toArray [c0, c1, c2, c3])).cells.toList = [c0, c1, c2, c3] := by simp [Value.cells]
  rw [ec] at hfi
  have h0 : DataW.trod enc Tryz.prog W 0 (fun _ => true) true n 3 (([c0, c1, c2, c3].drop 0).take (Tryz.prog.cellsOf 3)) = xs[0]? := hfi 0 _ rfl
  have h1 : DataW.trod enc Tryz.prog W 0 (fun _ => true) true n 3 (([c0, c1, c2, c3].drop 1).take (Tryz.prog.cellsOf 3)) = xs[1]? := hfi 1 _ rfl
  have h2 : DataW.trod enc Tryz.prog W 0 (fun _ => true) true n 33 (([c0, c1, c2, c3].drop 2).take (Tryz.prog.cellsOf 33)) = xs[2]? := hfi 2 _ rfl
  have h3 : DataW.trod enc Tryz.prog W 0 (fun _ => true) true n 3 (([c0, c1, c2, c3].drop 3).take (Tryz.prog.cellsOf 3)) = xs[3]? := hfi 3 _ rfl
  rw [cells3] at h0 h1 h3
  rw [show Tryz.prog.cellsOf 33 = 1 by kernel_rfl] at h2
  have g : ∀ i, i < 4 → ∃ z, xs[i]? = some z := fun i hi => ⟨xs[i]'(by simp at hlen; omega), List.getElem?_eq_getElem _⟩
  obtain ⟨z0, e0⟩ := g 0 (by omega)
  obtain ⟨z1, e1⟩ := g 1 (by omega)
  obtain ⟨z2, e2⟩ := g 2 (by omega)
  obtain ⟨z3, e3⟩ := g 3 (by omega)
  rw [e0] at h0
  rw [e1] at h1
  rw [e2] at h2
  rw [e3] at h3
  obtain ⟨k0, hk0, _⟩ := DataW.trod_int Tryz.underlying3 h0
  obtain ⟨k1, hk1, _⟩ := DataW.trod_int Tryz.underlying3 h1
  obtain ⟨k3, hk3, _⟩ := DataW.trod_int Tryz.underlying3 h3
  simp at hk0 hk1 hk3
  subst hk0 hk1 hk3
  have h2' : DataW.trod enc Tryz.prog W 0 (fun _ => true) true n 33 [c2] = some z2 := by simpa using h2
  obtain ⟨a, m, c, hx⟩ := slice1 Tryz.underlying33 h2'
  simp at hx
  subst hx
  obtain ⟨q1, fs, q2, _⟩ := open_edgeS h2'
  exact ⟨k0, k1, k3, a, m, c, fs, rfl, q1, q2⟩

set_option maxRecDepth 100000 in
/-- an answer that comes in -/
theorem open_answer {H : Type} {enc : TypeId × Value → H} {W : World} {r : Reach} {base : Nat} {v : Value} {d : DataW H} {p : List MemPlace}
    (hv : Value.okWide Tryz.prog W r base 36 v) (h : DataW.Trod enc Tryz.prog W 0 (fun _ => true) true 36 v d p) :
    ∃ (num : Int) (ok : Bool) (a : Option Addr) (n c : Nat) (fs : List EdgeV) (a' : Option Addr) (n' c' : Nat) (ls : List Int), v = .agg #[.int .i64 num, .bool ok, .slice a n c, .slice a' n' c'] ∧ n ≤ maxLen ∧ n' ≤ maxLen ∧ Es W W.heap.size a n fs ∧ Is W W.heap.size a' n' ls := by
  obtain ⟨cs, rfl, hcs⟩ := okWide_struct Tryz.underlying36 hv
  obtain ⟨fuel, hf⟩ := h
  obtain ⟨xs, n, _, _, hl, hlen, hfi⟩ := DataW.trod_struct Tryz.underlying36 hf
  rw [show Tryz.prog.cellsOf 36 = 4 by kernel_rfl] at hcs hl
  obtain ⟨l⟩ := cs
  obtain ⟨c0, c1, c2, c3, rfl⟩ := four10 (by simpa using hcs : l.length = 4)
  have ec : (Value.agg (List.toArray [c0, c1, c2, c3])).cells.toList = [c0, c1, c2, c3] := by simp [Value.cells]
  rw [ec] at hfi
  have h0 : DataW.trod enc Tryz.prog W 0 (fun _ => true) true n 3 (([c0, c1, c2, c3].drop 0).take (Tryz.prog.cellsOf 3)) = xs[0]? := hfi 0 _ rfl
  have h1 : DataW.trod enc Tryz.prog W 0 (fun _ => true) true n 4 (([c0, c1, c2, c3].drop 1).take (Tryz.prog.cellsOf 4)) = xs[1]? := hfi 1 _ rfl
  have h2 : DataW.trod enc Tryz.prog W 0 (fun _ => true) true n 33 (([c0, c1, c2, c3].drop 2).take (Tryz.prog.cellsOf 33)) = xs[2]? := hfi 2 _ rfl
  have h3 : DataW.trod enc Tryz.prog W 0 (fun _ => true) true n 34 (([c0, c1, c2, c3].drop 3).take (Tryz.prog.cellsOf 34)) = xs[3]? := hfi 3 _ rfl
  rw [cells3] at h0
  rw [show Tryz.prog.cellsOf 4 = 1 by kernel_rfl] at h1
  rw [show Tryz.prog.cellsOf 33 = 1 by kernel_rfl] at h2
  rw [show Tryz.prog.cellsOf 34 = 1 by kernel_rfl] at h3
  have g : ∀ i, i < 4 → ∃ z, xs[i]? = some z := fun i hi => ⟨xs[i]'(by simp at hlen; omega), List.getElem?_eq_getElem _⟩
  obtain ⟨z0, e0⟩ := g 0 (by omega)
  obtain ⟨z1, e1⟩ := g 1 (by omega)
  obtain ⟨z2, e2⟩ := g 2 (by omega)
  obtain ⟨z3, e3⟩ := g 3 (by omega)
  rw [e0] at h0
  rw [e1] at h1
  rw [e2] at h2
  rw [e3] at h3
  obtain ⟨k0, hk0, _⟩ := DataW.trod_int Tryz.underlying3 h0
  obtain ⟨k1, hk1, _⟩ := DataW.trod_bool Tryz.underlying4 h1
  simp at hk0 hk1
  subst hk0 hk1
  have h2' : DataW.trod enc Tryz.prog W 0 (fun _ => true) true n 33 [c2] = some z2 := by simpa using h2
  have h3' : DataW.trod enc Tryz.prog W 0 (fun _ => true) true n 34 [c3] = some z3 := by simpa using h3
  obtain ⟨a, m, c, hx⟩ := slice1 Tryz.underlying33 h2'
  obtain ⟨a', m', c', hx'⟩ := slice1 Tryz.underlying34 h3'
  simp at hx hx'
  subst hx hx'
  obtain ⟨q1, fs, q2, _⟩ := open_edgeS h2'
  obtain ⟨q3, ls, q4⟩ := open_ints10 h3'
  exact ⟨k0, k1, a, m, c, fs, a', m', c', ls, rfl, q1, q3, q2, q4⟩
end Go.Proofs.YthnibebljbljdaaGreatDoor
namespace Go.Proofs.YthnibebljbljdaaGreatDoor
open Go.ChangeShapes Go.WideShapes Go.ChangeAt Go.RowKit

theorem len14 {α : Type} {l : List α} (h : l.length = 14) : ∃ c0 c1 c2 c3 c4 c5 c6 c7 c8 c9 c10 c11 c12 c13, l = [c0, c1, c2, c3, c4, c5, c6, c7, c8, c9, c10, c11, c12, c13] := by
  match l, h with
  | [c0, c1, c2, c3, c4, c5, c6, c7, c8, c9, c10, c11, c12, c13], _ => exact ⟨c0, c1, c2, c3, c4, c5, c6, c7, c8, c9, c10, c11, c12, c13, rfl⟩
theorem trod_flag {H : Type} {enc : TypeId × Value → H} {W : World} {fuel : Nat} {c : Value} {y : DataW H × List MemPlace}
    (h : DataW.trod enc Tryz.prog W 0 (fun _ => true) true fuel 4 [c] = some y) : ∃ b : Bool, c = .bool b := by
  obtain ⟨k, hk, _⟩ := DataW.trod_bool Tryz.underlying4 h
  simp at hk
  exact ⟨k, hk⟩
set_option maxRecDepth 100000 in
theorem trod_ask {H : Type} {enc : TypeId × Value → H} {W : World} {fuel : Nat} {c0 c1 c2 c3 : Value} {y : DataW H × List MemPlace}
    (h : DataW.trod enc Tryz.prog W 0 (fun _ => true) true fuel 32 [c0, c1, c2, c3] = some y) : ∃ i o a b : Int, c0 = .int .i64 i ∧ c1 = .int .i64 o ∧ c2 = .int .i64 a ∧ c3 = .int .i64 b := by
  obtain ⟨xs, n, _, _, hl, hlen, hfi⟩ := DataW.trod_struct Tryz.underlying32 h
  have h0 : DataW.trod enc Tryz.prog W 0 (fun _ => true) true n 3 (([c0, c1, c2, c3].drop 0).take (Tryz.prog.cellsOf 3)) = xs[0]? := hfi 0 _ rfl
  have h1 : DataW.trod enc Tryz.prog W 0 (fun _ => true) true n 3 (([c0, c1, c2, c3].drop 1).take (Tryz.prog.cellsOf 3)) = xs[1]? := hfi 1 _ rfl
  have h2 : DataW.trod enc Tryz.prog W 0 (fun _ => true) true n 3 (([c0, c1, c2, c3].drop 2).take (Tryz.prog.cellsOf 3)) = xs[2]? := hfi 2 _ rfl
  have h3 : DataW.trod enc Tryz.prog W 0 (fun _ => true) true n 3 (([c0, c1, c2, c3].drop 3).take (Tryz.prog.cellsOf 3)) = xs[3]? := hfi 3 _ rfl
  rw [show Tryz.prog.cellsOf 3 = 1 by kernel_rfl] at h0
  rw [show Tryz.prog.cellsOf 3 = 1 by kernel_rfl] at h1
  rw [show Tryz.prog.cellsOf 3 = 1 by kernel_rfl] at h2
  rw [show Tryz.prog.cellsOf 3 = 1 by kernel_rfl] at h3
  have g : ∀ i, i < 4 → ∃ z, xs[i]? = some z := fun i hi => ⟨xs[i]'(by simp at hlen; omega), List.getElem?_eq_getElem _⟩
  obtain ⟨z0, e0⟩ := g 0 (by omega)
  rw [e0] at h0
  have h0' : DataW.trod enc Tryz.prog W 0 (fun _ => true) true n 3 [c0] = some z0 := by simpa using h0
  obtain ⟨k0, hk0, _⟩ := DataW.trod_int Tryz.underlying3 h0'
  simp at hk0
  subst hk0
  obtain ⟨z1, e1⟩ := g 1 (by omega)
  rw [e1] at h1
  have h1' : DataW.trod enc Tryz.prog W 0 (fun _ => true) true n 3 [c1] = some z1 := by simpa using h1
  obtain ⟨k1, hk1, _⟩ := DataW.trod_int Tryz.underlying3 h1'
  simp at hk1
  subst hk1
  obtain ⟨z2, e2⟩ := g 2 (by omega)
  rw [e2] at h2
  have h2' : DataW.trod enc Tryz.prog W 0 (fun _ => true) true n 3 [c2] = some z2 := by simpa using h2
  obtain ⟨k2, hk2, _⟩ := DataW.trod_int Tryz.underlying3 h2'
  simp at hk2
  subst hk2
  obtain ⟨z3, e3⟩ := g 3 (by omega)
  rw [e3] at h3
  have h3' : DataW.trod enc Tryz.prog W 0 (fun _ => true) true n 3 [c3] = some z3 := by simpa using h3
  obtain ⟨k3, hk3, _⟩ := DataW.trod_int Tryz.underlying3 h3'
  simp at hk3
  subst hk3
  exact ⟨k0, k1, k2, k3, rfl, rfl, rfl, rfl⟩
set_option maxRecDepth 100000 in
theorem trod_ans {H : Type} {enc : TypeId × Value → H} {W : World} {fuel : Nat} {c0 c1 c2 c3 : Value} {y : DataW H × List MemPlace}
    (h : DataW.trod enc Tryz.prog W 0 (fun _ => true) true fuel 36 [c0, c1, c2, c3] = some y) : ∃ (num : Int) (ok : Bool) (a : Option Addr) (n c : Nat) (fs : List EdgeV) (a' : Option Addr) (n' c' : Nat) (ls : List Int), (c0 = .int .i64 num ∧ c1 = .bool ok ∧ c2 = .slice a n c ∧ c3 = .slice a' n' c') ∧ n ≤ maxLen ∧ n' ≤ maxLen ∧ Es W W.heap.size a n fs ∧ Is W W.heap.size a' n' ls := by
  obtain ⟨xs, n, _, _, hl, hlen, hfi⟩ := DataW.trod_struct Tryz.underlying36 h
  have h0 : DataW.trod enc Tryz.prog W 0 (fun _ => true) true n 3 (([c0, c1, c2, c3].drop 0).take (Tryz.prog.cellsOf 3)) = xs[0]? := hfi 0 _ rfl
  have h1 : DataW.trod enc Tryz.prog W 0 (fun _ => true) true n 4 (([c0, c1, c2, c3].drop 1).take (Tryz.prog.cellsOf 4)) = xs[1]? := hfi 1 _ rfl
  have h2 : DataW.trod enc Tryz.prog W 0 (fun _ => true) true n 33 (([c0, c1, c2, c3].drop 2).take (Tryz.prog.cellsOf 33)) = xs[2]? := hfi 2 _ rfl
  have h3 : DataW.trod enc Tryz.prog W 0 (fun _ => true) true n 34 (([c0, c1, c2, c3].drop 3).take (Tryz.prog.cellsOf 34)) = xs[3]? := hfi 3 _ rfl
  rw [show Tryz.prog.cellsOf 3 = 1 by kernel_rfl] at h0
  rw [show Tryz.prog.cellsOf 4 = 1 by kernel_rfl] at h1
  rw [show Tryz.prog.cellsOf 33 = 1 by kernel_rfl] at h2
  rw [show Tryz.prog.cellsOf 34 = 1 by kernel_rfl] at h3
  have g : ∀ i, i < 4 → ∃ z, xs[i]? = some z := fun i hi => ⟨xs[i]'(by simp at hlen; omega), List.getElem?_eq_getElem _⟩
  obtain ⟨z0, e0⟩ := g 0 (by omega)
  rw [e0] at h0
  have h0' : DataW.trod enc Tryz.prog W 0 (fun _ => true) true n 3 [c0] = some z0 := by simpa using h0
  obtain ⟨k0, hk0, _⟩ := DataW.trod_int Tryz.underlying3 h0'
  simp at hk0
  subst hk0
  obtain ⟨z1, e1⟩ := g 1 (by omega)
  rw [e1] at h1
  have h1' : DataW.trod enc Tryz.prog W 0 (fun _ => true) true n 4 [c1] = some z1 := by simpa using h1
  obtain ⟨k1, rfl⟩ := trod_flag h1'
  obtain ⟨z2, e2⟩ := g 2 (by omega)
  rw [e2] at h2
  have h2' : DataW.trod enc Tryz.prog W 0 (fun _ => true) true n 33 [c2] = some z2 := by simpa using h2
  obtain ⟨a2, m2, d2, hx2⟩ := slice1 Tryz.underlying33 h2'
  simp at hx2
  subst hx2
  obtain ⟨q2, fs, r2, _⟩ := open_edgeS h2'
  obtain ⟨z3, e3⟩ := g 3 (by omega)
  rw [e3] at h3
  have h3' : DataW.trod enc Tryz.prog W 0 (fun _ => true) true n 34 [c3] = some z3 := by simpa using h3
  obtain ⟨a3, m3, d3, hx3⟩ := slice1 Tryz.underlying34 h3'
  simp at hx3
  subst hx3
  obtain ⟨q3, ls, r3⟩ := open_ints10 h3'
  exact ⟨k0, k1, a2, m2, d2, fs, a3, m3, d3, ls, ⟨rfl, rfl, rfl, rfl⟩, q2, q3, r2, r3⟩
set_option maxRecDepth 100000 in
theorem trod_ord {H : Type} {enc : TypeId × Value → H} {W : World} {fuel : Nat} {c0 c1 c2 c3 : Value} {y : DataW H × List MemPlace}
    (h : DataW.trod enc Tryz.prog W 0 (fun _ => true) true fuel 38 [c0, c1, c2, c3] = some y) : ∃ (num op : Int) (a : Option Addr) (n c : Nat) (fs : List EdgeV) (v : Int), (c0 = .int .i64 num ∧ c1 = .int .i64 op ∧ c2 = .slice a n c ∧ c3 = .int .i64 v) ∧ n ≤ maxLen ∧ Es W W.heap.size a n fs := by
  obtain ⟨xs, n, _, _, hl, hlen, hfi⟩ := DataW.trod_struct Tryz.underlying38 h
  have h0 : DataW.trod enc Tryz.prog W 0 (fun _ => true) true n 3 (([c0, c1, c2, c3].drop 0).take (Tryz.prog.cellsOf 3)) = xs[0]? := hfi 0 _ rfl
  have h1 : DataW.trod enc Tryz.prog W 0 (fun _ => true) true n 3 (([c0, c1, c2, c3].drop 1).take (Tryz.prog.cellsOf 3)) = xs[1]? := hfi 1 _ rfl
  have h2 : DataW.trod enc Tryz.prog W 0 (fun _ => true) true n 33 (([c0, c1, c2, c3].drop 2).take (Tryz.prog.cellsOf 33)) = xs[2]? := hfi 2 _ rfl
  have h3 : DataW.trod enc Tryz.prog W 0 (fun _ => true) true n 3 (([c0, c1, c2, c3].drop 3).take (Tryz.prog.cellsOf 3)) = xs[3]? := hfi 3 _ rfl
  rw [show Tryz.prog.cellsOf 3 = 1 by kernel_rfl] at h0
  rw [show Tryz.prog.cellsOf 3 = 1 by kernel_rfl] at h1
  rw [show Tryz.prog.cellsOf 33 = 1 by kernel_rfl] at h2
  rw [show Tryz.prog.cellsOf 3 = 1 by kernel_rfl] at h3
  have g : ∀ i, i < 4 → ∃ z, xs[i]? = some z := fun i hi => ⟨xs[i]'(by simp at hlen; omega), List.getElem?_eq_getElem _⟩
  obtain ⟨z0, e0⟩ := g 0 (by omega)
  rw [e0] at h0
  have h0' : DataW.trod enc Tryz.prog W 0 (fun _ => true) true n 3 [c0] = some z0 := by simpa using h0
  obtain ⟨k0, hk0, _⟩ := DataW.trod_int Tryz.underlying3 h0'
  simp at hk0
  subst hk0
  obtain ⟨z1, e1⟩ := g 1 (by omega)
  rw [e1] at h1
  have h1' : DataW.trod enc Tryz.prog W 0 (fun _ => true) true n 3 [c1] = some z1 := by simpa using h1
  obtain ⟨k1, hk1, _⟩ := DataW.trod_int Tryz.underlying3 h1'
  simp at hk1
  subst hk1
  obtain ⟨z2, e2⟩ := g 2 (by omega)
  rw [e2] at h2
  have h2' : DataW.trod enc Tryz.prog W 0 (fun _ => true) true n 33 [c2] = some z2 := by simpa using h2
  obtain ⟨a2, m2, d2, hx2⟩ := slice1 Tryz.underlying33 h2'
  simp at hx2
  subst hx2
  obtain ⟨q2, fs, r2, _⟩ := open_edgeS h2'
  obtain ⟨z3, e3⟩ := g 3 (by omega)
  rw [e3] at h3
  have h3' : DataW.trod enc Tryz.prog W 0 (fun _ => true) true n 3 [c3] = some z3 := by simpa using h3
  obtain ⟨k3, hk3, _⟩ := DataW.trod_int Tryz.underlying3 h3'
  simp at hk3
  subst hk3
  exact ⟨k0, k1, a2, m2, d2, fs, k3, ⟨rfl, rfl, rfl, rfl⟩, q2, r2⟩
set_option maxRecDepth 100000 in
set_option maxHeartbeats 1000000 in
/-- a record that comes in -/
theorem open_rec {H : Type} {enc : TypeId × Value → H} {W : World} {r : Reach} {base : Nat} {v : Value} {d : DataW H} {p : List MemPlace}
    (hv : Value.okWide Tryz.prog W r base 40 v) (h : DataW.Trod enc Tryz.prog W 0 (fun _ => true) true 40 v d p) :
    ∃ (kind id op a b sh anum : Int) (aok : Bool) (onum oop ov : Int) (a1 : Option Addr) (k1 c1 : Nat) (a2 : Option Addr) (k2 c2 : Nat) (a3 : Option Addr) (k3 c3 : Nat) (aes : List EdgeV) (als : List Int) (oes : List EdgeV), v = .agg #[.int .i64 kind, .int .i64 id, .int .i64 op, .int .i64 a, .int .i64 b, .int .i64 sh, .int .i64 anum, .bool aok, .slice a1 k1 c1, .slice a2 k2 c2, .int .i64 onum, .int .i64 oop, .slice a3 k3 c3, .int .i64 ov] ∧ (k1 ≤ maxLen ∧ k2 ≤ maxLen ∧ k3 ≤ maxLen) ∧ Es W W.heap.size a1 k1 aes ∧ Is W W.heap.size a2 k2 als ∧ Es W W.heap.size a3 k3 oes := by
  obtain ⟨cs, rfl, hcs⟩ := okWide_struct Tryz.underlying40 hv
  obtain ⟨fuel, hf⟩ := h
  obtain ⟨xs, n, _, _, hl, hlen, hfi⟩ := DataW.trod_struct Tryz.underlying40 hf
  rw [show Tryz.prog.cellsOf 40 = 14 by kernel_rfl] at hcs hl
  obtain ⟨l⟩ := cs
  obtain ⟨c0, c1, c2, c3, c4, c5, c6, c7, c8, c9, c10, c11, c12, c13, rfl⟩ := len14 (by simpa using hcs : l.length = 14)
  have ec : (Value.agg (List.toArray [c0, c1, c2, c3, c4, c5, c6, c7, c8, c9, c10, c11, c12, c13])).cells.toList = [c0, c1, c2, c3, c4, c5, c6, c7, c8, c9, c10, c11, c12, c13] := by simp [Value.cells]
  rw [ec] at hfi
  have h0 : DataW.trod enc Tryz.prog W 0 (fun _ => true) true n 3 (([c0, c1, c2, c3, c4, c5, c6, c7, c8, c9, c10, c11, c12, c13].drop 0).take (Tryz.prog.cellsOf 3)) = xs[0]? := hfi 0 _ rfl
  have h1 : DataW.trod enc Tryz.prog W 0 (fun _ => true) true n 32 (([c0, c1, c2, c3, c4, c5, c6, c7, c8, c9, c10, c11, c12, c13].drop 1).take (Tryz.prog.cellsOf 32)) = xs[1]? := hfi 1 _ rfl
  have h2 : DataW.trod enc Tryz.prog W 0 (fun _ => true) true n 3 (([c0, c1, c2, c3, c4, c5, c6, c7, c8, c9, c10, c11, c12, c13].drop 5).take (Tryz.prog.cellsOf 3)) = xs[2]? := hfi 2 _ rfl
  have h3 : DataW.trod enc Tryz.prog W 0 (fun _ => true) true n 36 (([c0, c1, c2, c3, c4, c5, c6, c7, c8, c9, c10, c11, c12, c13].drop 6).take (Tryz.prog.cellsOf 36)) = xs[3]? := hfi 3 _ rfl
  have h4 : DataW.trod enc Tryz.prog W 0 (fun _ => true) true n 38 (([c0, c1, c2, c3, c4, c5, c6, c7, c8, c9, c10, c11, c12, c13].drop 10).take (Tryz.prog.cellsOf 38)) = xs[4]? := hfi 4 _ rfl
  rw [show Tryz.prog.cellsOf 3 = 1 by kernel_rfl] at h0
  rw [show Tryz.prog.cellsOf 32 = 4 by kernel_rfl] at h1
  rw [show Tryz.prog.cellsOf 3 = 1 by kernel_rfl] at h2
  rw [show Tryz.prog.cellsOf 36 = 4 by kernel_rfl] at h3
  rw [show Tryz.prog.cellsOf 38 = 4 by kernel_rfl] at h4
  have g : ∀ i, i < 5 → ∃ z, xs[i]? = some z := fun i hi => ⟨xs[i]'(by simp at hlen; omega), List.getElem?_eq_getElem _⟩
  obtain ⟨z0, e0⟩ := g 0 (by omega)
  rw [e0] at h0
  have h0' : DataW.trod enc Tryz.prog W 0 (fun _ => true) true n 3 [c0] = some z0 := by simpa using h0
  obtain ⟨k0, hk0, _⟩ := DataW.trod_int Tryz.underlying3 h0'
  simp at hk0
  subst hk0
  obtain ⟨z1, e1⟩ := g 1 (by omega)
  rw [e1] at h1
  have h1' : DataW.trod enc Tryz.prog W 0 (fun _ => true) true n 32 [c1, c2, c3, c4] = some z1 := by simpa using h1
  obtain ⟨i, o, a, b, rfl, rfl, rfl, rfl⟩ := trod_ask h1'
  obtain ⟨z2, e2⟩ := g 2 (by omega)
  rw [e2] at h2
  have h2' : DataW.trod enc Tryz.prog W 0 (fun _ => true) true n 3 [c5] = some z2 := by simpa using h2
  obtain ⟨k2, hk2, _⟩ := DataW.trod_int Tryz.underlying3 h2'
  simp at hk2
  subst hk2
  obtain ⟨z3, e3⟩ := g 3 (by omega)
  rw [e3] at h3
  have h3' : DataW.trod enc Tryz.prog W 0 (fun _ => true) true n 36 [c6, c7, c8, c9] = some z3 := by simpa using h3
  obtain ⟨an, ok, b1, n1, e1, f1, b2, n2, e2, ls, ⟨rfl, rfl, rfl, rfl⟩, s1, s2, t1, t2⟩ := trod_ans h3'
  obtain ⟨z4, e4⟩ := g 4 (by omega)
  rw [e4] at h4
  have h4' : DataW.trod enc Tryz.prog W 0 (fun _ => true) true n 38 [c10, c11, c12, c13] = some z4 := by simpa using h4
  obtain ⟨on, oo, b3, n3, e3, f3, ov, ⟨rfl, rfl, rfl, rfl⟩, s3, t3⟩ := trod_ord h4'
  exact ⟨k0, i, o, a, b, k2, an, ok, on, oo, ov, b1, n1, e1, b2, n2, e2, b3, n3, e3, f1, ls, f3, rfl, ⟨s1, s2, s3⟩, t1, t2, t3⟩
end Go.Proofs.YthnibebljbljdaaGreatDoor
