/-
  No cell of these rows narrows 'for every input' (looked for: loops, veiled, ifaces, maps, wideKeys, modest, calm, conditions, laid).
  DERIVED. THE GIVEN ROWS OF THIS SEAT. 5 by the template 'for every input the law returns true; each argument reads behind the call as it read before'; 0 by the template 'total and deterministic' (their statements: YtklalfkdikjkfaaGreatTotals.lean).
  GIVEN WITH THE SEED: the statements are not yours to turn. If you find one false, say at which input.
  Laid BY PROGRAM, IN A SANDBOX (cutbox-rows.mjs): the forced cells as the released guide's own fill.sh prints them over the translation b0e8c587a6df2578… (all of the seat's roots in one cut). By AI agents, Wed Nov 11 2026. No macro, syntax, notation, axiom, sorry.
-/
import Derived.Test.YtklalfkdikjkfaaGreatChecked
import GoSem.Claim
import GoSem.ClaimJoined
import GoSem.ClaimMapViews
import Derived.JoinedTies
import Derived.KernelRfl
namespace Go.Proofs.YtklalfkdikjkfaaGreat
/- THE CELL 'sum', in the pinned program and in every row, IS THE sha256 OF THE DUMP (.gsa) THAT YtklalfkdikjkfaaGreatProg.lean LOADS. Nothing in Lean hashes anything: it is a label: what it is worth is what the hold of that sum in a sandbox is worth. -/
noncomputable def Tryz.pinned : Pinned := { name := "ytklalfkdikjkfaagreat", sum := "b0e8c587a6df25789de06b25c4f0200a2b1702d3bbc53f6e2d60726826c0ac25", checked := Tryz.checked }
namespace Rows
def none {H : Type} : Left H := { results := [], args := [] }

/-- 'laws.FnForests': WHATEVER THE INPUT: true; the input reads as it did. -/
def fnForestsSpec : ChangeSpec := { name := "fnForests", fn := fun _ => fun
  | [d] => { results := [.lit (.bool true)], args := [d] }
  | _ => none }
def fnForestsRow : OpenClaim := { program := "ytklalfkdikjkfaagreat", sum := "b0e8c587a6df25789de06b25c4f0200a2b1702d3bbc53f6e2d60726826c0ac25", func := "loop.example/g00130/laws.FnForests", spec := "fnForests", unfollowed := true, recurses := true, apart := false }
def FnForestsSaid : Prop := fnForestsRow.holds Tryz.pinned (OpenSpec.ofChange fnForestsSpec)

/-- ITS FALSE NEIGHBOUR: 'it returns false'. Refute it at one input. -/
def fnForestsWrong : ChangeSpec := { name := "fnForests", fn := fun _ => fun
  | [d] => { results := [.lit (.bool false)], args := [d] }
  | _ => none }
def FnForestsWrongFalsely : Prop := fnForestsRow.holds Tryz.pinned (OpenSpec.ofChange fnForestsWrong)

/-- 'laws.FnWebs': WHATEVER THE INPUT: true; the input reads as it did. -/
def fnWebsSpec : ChangeSpec := { name := "fnWebs", fn := fun _ => fun
  | [d] => { results := [.lit (.bool true)], args := [d] }
  | _ => none }
def fnWebsRow : OpenClaim := { program := "ytklalfkdikjkfaagreat", sum := "b0e8c587a6df25789de06b25c4f0200a2b1702d3bbc53f6e2d60726826c0ac25", func := "loop.example/g00130/laws.FnWebs", spec := "fnWebs", unfollowed := true, recurses := true, apart := false }
def FnWebsSaid : Prop := fnWebsRow.holds Tryz.pinned (OpenSpec.ofChange fnWebsSpec)

/-- ITS FALSE NEIGHBOUR: 'it returns false'. Refute it at one input. -/
def fnWebsWrong : ChangeSpec := { name := "fnWebs", fn := fun _ => fun
  | [d] => { results := [.lit (.bool false)], args := [d] }
  | _ => none }
def FnWebsWrongFalsely : Prop := fnWebsRow.holds Tryz.pinned (OpenSpec.ofChange fnWebsWrong)

/-- 'laws.FnTakes': WHATEVER THE INPUT: true; the input reads as it did. -/
def fnTakesSpec : ChangeSpec := { name := "fnTakes", fn := fun _ => fun
  | [d] => { results := [.lit (.bool true)], args := [d] }
  | _ => none }
def fnTakesRow : OpenClaim := { program := "ytklalfkdikjkfaagreat", sum := "b0e8c587a6df25789de06b25c4f0200a2b1702d3bbc53f6e2d60726826c0ac25", func := "loop.example/g00130/laws.FnTakes", spec := "fnTakes", unfollowed := true, recurses := true, apart := false }
def FnTakesSaid : Prop := fnTakesRow.holds Tryz.pinned (OpenSpec.ofChange fnTakesSpec)

/-- ITS FALSE NEIGHBOUR: 'it returns false'. Refute it at one input. -/
def fnTakesWrong : ChangeSpec := { name := "fnTakes", fn := fun _ => fun
  | [d] => { results := [.lit (.bool false)], args := [d] }
  | _ => none }
def FnTakesWrongFalsely : Prop := fnTakesRow.holds Tryz.pinned (OpenSpec.ofChange fnTakesWrong)

/-- 'laws.FnLevels': WHATEVER THE INPUT: true; the input reads as it did. -/
def fnLevelsSpec : ChangeSpec := { name := "fnLevels", fn := fun _ => fun
  | [d] => { results := [.lit (.bool true)], args := [d] }
  | _ => none }
def fnLevelsRow : OpenClaim := { program := "ytklalfkdikjkfaagreat", sum := "b0e8c587a6df25789de06b25c4f0200a2b1702d3bbc53f6e2d60726826c0ac25", func := "loop.example/g00130/laws.FnLevels", spec := "fnLevels", unfollowed := true, recurses := true, apart := false }
def FnLevelsSaid : Prop := fnLevelsRow.holds Tryz.pinned (OpenSpec.ofChange fnLevelsSpec)

/-- ITS FALSE NEIGHBOUR: 'it returns false'. Refute it at one input. -/
def fnLevelsWrong : ChangeSpec := { name := "fnLevels", fn := fun _ => fun
  | [d] => { results := [.lit (.bool false)], args := [d] }
  | _ => none }
def FnLevelsWrongFalsely : Prop := fnLevelsRow.holds Tryz.pinned (OpenSpec.ofChange fnLevelsWrong)

/-- 'laws.FnExactWebTake': WHATEVER THE INPUT: true; the input reads as it did. -/
def fnExactWebTakeSpec : ChangeSpec := { name := "fnExactWebTake", fn := fun _ => fun
  | [d1, d2] => { results := [.lit (.bool true)], args := [d1, d2] }
  | _ => none }
def fnExactWebTakeRow : OpenClaim := { program := "ytklalfkdikjkfaagreat", sum := "b0e8c587a6df25789de06b25c4f0200a2b1702d3bbc53f6e2d60726826c0ac25", func := "loop.example/g00130/laws.FnExactWebTake", spec := "fnExactWebTake", unfollowed := true, recurses := true, apart := false }
def FnExactWebTakeSaid : Prop := fnExactWebTakeRow.holds Tryz.pinned (OpenSpec.ofChange fnExactWebTakeSpec)

/-- ITS FALSE NEIGHBOUR: 'it returns false'. Refute it at one input. -/
def fnExactWebTakeWrong : ChangeSpec := { name := "fnExactWebTake", fn := fun _ => fun
  | [d1, d2] => { results := [.lit (.bool false)], args := [d1, d2] }
  | _ => none }
def FnExactWebTakeWrongFalsely : Prop := fnExactWebTakeRow.holds Tryz.pinned (OpenSpec.ofChange fnExactWebTakeWrong)

/- THE SECOND FORM. 'bulk': how many values and letters a reading holds, each counted each time it is reached (what is shared counts as often as it is met; a slice's spare places count too). A statement '..UptoSaid' is the law's where the arguments, and the package variables that the reading takes, are together of bulk at most 1048576: NARROWER than '..Said'. Prove '..Said' where nothing that the law and all that it calls make is longer than what came in: it says more and counts as full. Else prove '..UptoSaid'. A law counts once. -/
mutual
def uptoBulk {H : Type} : DataW H → Nat
  | .lit (.string bytes) => bytes.length + 1
  | .lit _ => 1
  | .nil => 1
  | .ptr d => uptoBulk d + 1
  | .slice elems spare => uptoBulkAll elems + uptoBulkAll spare + 1
  | .agg parts => uptoBulkAll parts + 1
  | .iface _ d => uptoBulk d + 1
  | .map entries => uptoBulkEntries entries + 1
  | .held _ => 1
def uptoBulkAll {H : Type} : List (DataW H) → Nat
  | [] => 0
  | d :: r => uptoBulk d + uptoBulkAll r
def uptoBulkEntries {H : Type} : List (Lit × DataW H) → Nat
  | [] => 0
  | x :: r => uptoBulkEntry x + uptoBulkEntries r
def uptoBulkEntry {H : Type} : Lit × DataW H → Nat
  | (.string bytes, d) => bytes.length + uptoBulk d + 1
  | (_, d) => uptoBulk d + 1
 end
def uptoSmall : (H : Type) → List (DataW H) → Bool := fun _ ds => decide (uptoBulkAll ds ≤ 1048576)
def OpenSpec.upto (s : _root_.Go.ChangeSpec) : _root_.Go.OpenSpec := { _root_.Go.OpenSpec.ofChange s with cond := some uptoSmall }

/-- 'laws.FnForests', WHERE WHAT IT READS IS OF BULK AT MOST 1048576: true; the input reads as it did. -/
def fnForestsUptoRow : OpenClaim := { program := "ytklalfkdikjkfaagreat", sum := "b0e8c587a6df25789de06b25c4f0200a2b1702d3bbc53f6e2d60726826c0ac25", func := "loop.example/g00130/laws.FnForests", spec := "fnForests", unfollowed := true, recurses := true, apart := false, narrowed := true }
def FnForestsUptoSaid : Prop := fnForestsUptoRow.holds Tryz.pinned (OpenSpec.upto fnForestsSpec)

/-- 'laws.FnWebs', WHERE WHAT IT READS IS OF BULK AT MOST 1048576: true; the input reads as it did. -/
def fnWebsUptoRow : OpenClaim := { program := "ytklalfkdikjkfaagreat", sum := "b0e8c587a6df25789de06b25c4f0200a2b1702d3bbc53f6e2d60726826c0ac25", func := "loop.example/g00130/laws.FnWebs", spec := "fnWebs", unfollowed := true, recurses := true, apart := false, narrowed := true }
def FnWebsUptoSaid : Prop := fnWebsUptoRow.holds Tryz.pinned (OpenSpec.upto fnWebsSpec)

/-- 'laws.FnTakes', WHERE WHAT IT READS IS OF BULK AT MOST 1048576: true; the input reads as it did. -/
def fnTakesUptoRow : OpenClaim := { program := "ytklalfkdikjkfaagreat", sum := "b0e8c587a6df25789de06b25c4f0200a2b1702d3bbc53f6e2d60726826c0ac25", func := "loop.example/g00130/laws.FnTakes", spec := "fnTakes", unfollowed := true, recurses := true, apart := false, narrowed := true }
def FnTakesUptoSaid : Prop := fnTakesUptoRow.holds Tryz.pinned (OpenSpec.upto fnTakesSpec)

/-- 'laws.FnLevels', WHERE WHAT IT READS IS OF BULK AT MOST 1048576: true; the input reads as it did. -/
def fnLevelsUptoRow : OpenClaim := { program := "ytklalfkdikjkfaagreat", sum := "b0e8c587a6df25789de06b25c4f0200a2b1702d3bbc53f6e2d60726826c0ac25", func := "loop.example/g00130/laws.FnLevels", spec := "fnLevels", unfollowed := true, recurses := true, apart := false, narrowed := true }
def FnLevelsUptoSaid : Prop := fnLevelsUptoRow.holds Tryz.pinned (OpenSpec.upto fnLevelsSpec)

/-- 'laws.FnExactWebTake', WHERE WHAT IT READS IS OF BULK AT MOST 1048576: true; the input reads as it did. -/
def fnExactWebTakeUptoRow : OpenClaim := { program := "ytklalfkdikjkfaagreat", sum := "b0e8c587a6df25789de06b25c4f0200a2b1702d3bbc53f6e2d60726826c0ac25", func := "loop.example/g00130/laws.FnExactWebTake", spec := "fnExactWebTake", unfollowed := true, recurses := true, apart := false, narrowed := true }
def FnExactWebTakeUptoSaid : Prop := fnExactWebTakeUptoRow.holds Tryz.pinned (OpenSpec.upto fnExactWebTakeSpec)

end Rows
end Go.Proofs.YtklalfkdikjkfaaGreat
