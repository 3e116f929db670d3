/- The program's table of 16 words as a row lists it, and as it reads. -/
import Derived.Test.YtegknhnmfaafmaaDoorISum
import Derived.WalkKit
import Derived.ProofKit
import Derived.OpenShut
import Derived.ShutString
import Derived.ChangeOld
import Derived.ChangeVars
import Derived.Below
import Derived.Deep.DeepHandedRow
namespace Go.Proofs.YtegknhnmfaafmaaDoor
open Go.ChangeShapes Go.WideShapes Go.ChangeAt Go.RowKit

theorem own : ownKnob Tryd.prog.godebug = none := by kernel_rfl
theorem gTabType : (Tryd.prog.globals[0]?).map (·.type) = some 66 := by kernel_rfl
theorem cellsT : Tryd.prog.cellsOf 66 = 16 := by kernel_rfl
theorem cellsE : Tryd.prog.cellsOf 44 = 1 := by kernel_rfl

/-- what a row's list gives: the table -/
theorem table {W : World} (h : laidMet Tryd.prog [("loop.example/g00130/impl.fourHalvings", Rows.laid_loop_example_g00130_impl_fourHalvings)] W) : Tab W := by
  have h3 : laidMet Tryd.prog [("loop.example/g00130/impl.fourHalvings", Lib.tabData .u32 tabI)] W := h
  exact Lib.tabIs_of_head (rest := []) gTab gTabType Tryd.underlying66 Tryd.underlying44 cellsE cellsT h3

def cellsTab : Array Value := (tabI.map fun z => Value.int .u32 z).toArray
def tableH {H : Type} : DataW H := Lib.tabData .u32 tabI

theorem reads_table {H : Type} (enc : TypeId × Value → H) (W : World) (sp : Nat → Bool) : DataW.trod enc Tryd.prog W 0 sp true 3 66 cellsTab.toList = some (tableH, []) := by kernel_rfl

/-- the table read, in each world where it stands -/
theorem vars_table {H : Type} (enc : TypeId × Value → H) {W : World} (ht : Tab W) (sp : Nat → Bool) :
    DataW.TrodVars enc Tryd.prog W sp ["loop.example/g00130/impl.fourHalvings"] [tableH] (MemPlace.row ⟨0, 0, none⟩ cellsTab.size ++ [] ++ []) :=
  ⟨0, 66, cellsTab, 3, [], [], gTab, gTabType, ht, reads_table enc W sp, rfl, rfl⟩

/-- what was read there at the start is the table -/
theorem vars_is {H : Type} {enc : TypeId × Value → H} {W : World} (ht : Tab W) {sp : Nat → Bool} {gs : List (DataW H)} {q : List MemPlace}
    (hV : DataW.TrodVars enc Tryd.prog W sp ["loop.example/g00130/impl.fourHalvings"] gs q) : gs = [tableH] := by
  obtain ⟨g, t, cs, fuel, d, p', rfl, hg, hty, hvar, hd, rfl⟩ := trodVars_one hV
  obtain rfl := Option.some.inj (gTab.symm.trans hg)
  obtain rfl := Option.some.inj (gTabType.symm.trans hty)
  obtain rfl : cs = cellsTab := Option.some.inj (hvar.symm.trans ht)
  obtain ⟨rfl, rfl⟩ := DataW.Trod.unique (v := .agg cellsTab) ⟨fuel, hd⟩ ⟨3, reads_table enc W _⟩
  rfl

/-- the cells of a listed array of numbers -/
def cellsIn (d : DataW Unit) : Array Value :=
  match d with
  | .agg l => (l.map fun x => match x with
    | .lit (.int k z) => Value.int k z
    | _ => Value.int .i64 0).toArray
  | _ => #[]

/-- a block's cells laid anew -/
def put (cs : Array Value) (o : Obj) : Obj :=
  match o with
  | .cells _ t frozen => .cells cs t frozen
  | o => o

/-- a world in which the table holds what the list says -/
def laidWorld (P : Program) (os : Os) : World :=
  { World.holding P os ⟨#[], #[], []⟩ with heap := (World.holding P os ⟨#[], #[], []⟩).heap.modify 0 (put (cellsIn Rows.laid_loop_example_g00130_impl_fourHalvings)) }
end Go.Proofs.YtegknhnmfaafmaaDoor
