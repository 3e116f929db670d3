/-
  No cell of these rows narrows 'for every input' (looked for: loops, veiled, ifaces, maps, wideKeys, modest, calm, conditions, laid).
  DERIVED. THE GIVEN ROWS OF THIS SEAT. 5 by the template 'for every input the law returns true; each argument reads behind the call as it read before'; 0 by the template 'total and deterministic' (their statements: YtcmjfnaenkdidaaTotals.lean).
  GIVEN WITH THE SEED: the statements are not yours to turn. If you find one false, say at which input.
  Laid BY PROGRAM, IN A SANDBOX (cutbox-rows.mjs): the forced cells as the released guide's own fill.sh prints them over the translation 0c4947cbb01a3d03… (all of the seat's roots in one cut). By AI agents, Wed Nov 11 2026. No macro, syntax, notation, axiom, sorry.
-/
import Derived.Test.YtcmjfnaenkdidaaChecked
import GoSem.Claim
import GoSem.ClaimJoined
import GoSem.ClaimMapViews
import Derived.JoinedTies
import Derived.KernelRfl
namespace Go.Proofs.Ytcmjfnaenkdidaa
/- THE CELL 'sum', in the pinned program and in every row, IS THE sha256 OF THE DUMP (.gsa) THAT YtcmjfnaenkdidaaProg.lean LOADS. Nothing in Lean hashes anything: it is a label: what it is worth is what the hold of that sum in a sandbox is worth. -/
noncomputable def Try.pinned : Pinned := { name := "ytcmjfnaenkdidaa", sum := "0c4947cbb01a3d0343e6baff68549b76fd72350f6d4126640725abdd77ccb09d", checked := Try.checked }
namespace Rows
def none {H : Type} : Left H := { results := [], args := [] }

/-- 'laws.FnWholes': WHATEVER THE INPUT: true; the input reads as it did. -/
def fnWholesSpec : ChangeSpec := { name := "fnWholes", fn := fun _ => fun
  | [d] => { results := [.lit (.bool true)], args := [d] }
  | _ => none }
def fnWholesRow : OpenClaim := { program := "ytcmjfnaenkdidaa", sum := "0c4947cbb01a3d0343e6baff68549b76fd72350f6d4126640725abdd77ccb09d", func := "loop.example/g00130/laws.FnWholes", spec := "fnWholes", unfollowed := true, recurses := true, apart := false }
def FnWholesSaid : Prop := fnWholesRow.holds Try.pinned (OpenSpec.ofChange fnWholesSpec)

/-- ITS FALSE NEIGHBOUR: 'it returns false'. Refute it at one input. -/
def fnWholesWrong : ChangeSpec := { name := "fnWholes", fn := fun _ => fun
  | [d] => { results := [.lit (.bool false)], args := [d] }
  | _ => none }
def FnWholesWrongFalsely : Prop := fnWholesRow.holds Try.pinned (OpenSpec.ofChange fnWholesWrong)

/-- 'laws.FnInside': WHATEVER THE INPUT: true; the input reads as it did. -/
def fnInsideSpec : ChangeSpec := { name := "fnInside", fn := fun _ => fun
  | [d] => { results := [.lit (.bool true)], args := [d] }
  | _ => none }
def fnInsideRow : OpenClaim := { program := "ytcmjfnaenkdidaa", sum := "0c4947cbb01a3d0343e6baff68549b76fd72350f6d4126640725abdd77ccb09d", func := "loop.example/g00130/laws.FnInside", spec := "fnInside", apart := false }
def FnInsideSaid : Prop := fnInsideRow.holds Try.pinned (OpenSpec.ofChange fnInsideSpec)

/-- ITS FALSE NEIGHBOUR: 'it returns false'. Refute it at one input. -/
def fnInsideWrong : ChangeSpec := { name := "fnInside", fn := fun _ => fun
  | [d] => { results := [.lit (.bool false)], args := [d] }
  | _ => none }
def FnInsideWrongFalsely : Prop := fnInsideRow.holds Try.pinned (OpenSpec.ofChange fnInsideWrong)

/-- 'laws.FnExactWholeLabels': WHATEVER THE INPUT: true; the input reads as it did. -/
def fnExactWholeLabelsSpec : ChangeSpec := { name := "fnExactWholeLabels", fn := fun _ => fun
  | [d1, d2, d3] => { results := [.lit (.bool true)], args := [d1, d2, d3] }
  | _ => none }
def fnExactWholeLabelsRow : OpenClaim := { program := "ytcmjfnaenkdidaa", sum := "0c4947cbb01a3d0343e6baff68549b76fd72350f6d4126640725abdd77ccb09d", func := "loop.example/g00130/laws.FnExactWholeLabels", spec := "fnExactWholeLabels", apart := false }
def FnExactWholeLabelsSaid : Prop := fnExactWholeLabelsRow.holds Try.pinned (OpenSpec.ofChange fnExactWholeLabelsSpec)

/-- ITS FALSE NEIGHBOUR: 'it returns false'. Refute it at one input. -/
def fnExactWholeLabelsWrong : ChangeSpec := { name := "fnExactWholeLabels", fn := fun _ => fun
  | [d1, d2, d3] => { results := [.lit (.bool false)], args := [d1, d2, d3] }
  | _ => none }
def FnExactWholeLabelsWrongFalsely : Prop := fnExactWholeLabelsRow.holds Try.pinned (OpenSpec.ofChange fnExactWholeLabelsWrong)

/-- 'laws.FnExactWholeEdges': WHATEVER THE INPUT: true; the input reads as it did. -/
def fnExactWholeEdgesSpec : ChangeSpec := { name := "fnExactWholeEdges", fn := fun _ => fun
  | [d1, d2] => { results := [.lit (.bool true)], args := [d1, d2] }
  | _ => none }
def fnExactWholeEdgesRow : OpenClaim := { program := "ytcmjfnaenkdidaa", sum := "0c4947cbb01a3d0343e6baff68549b76fd72350f6d4126640725abdd77ccb09d", func := "loop.example/g00130/laws.FnExactWholeEdges", spec := "fnExactWholeEdges", unfollowed := true, recurses := true, apart := false }
def FnExactWholeEdgesSaid : Prop := fnExactWholeEdgesRow.holds Try.pinned (OpenSpec.ofChange fnExactWholeEdgesSpec)

/-- ITS FALSE NEIGHBOUR: 'it returns false'. Refute it at one input. -/
def fnExactWholeEdgesWrong : ChangeSpec := { name := "fnExactWholeEdges", fn := fun _ => fun
  | [d1, d2] => { results := [.lit (.bool false)], args := [d1, d2] }
  | _ => none }
def FnExactWholeEdgesWrongFalsely : Prop := fnExactWholeEdgesRow.holds Try.pinned (OpenSpec.ofChange fnExactWholeEdgesWrong)

/-- 'laws.FnExactInside': WHATEVER THE INPUT: true; the input reads as it did. -/
def fnExactInsideSpec : ChangeSpec := { name := "fnExactInside", fn := fun _ => fun
  | [d1, d2, d3] => { results := [.lit (.bool true)], args := [d1, d2, d3] }
  | _ => none }
def fnExactInsideRow : OpenClaim := { program := "ytcmjfnaenkdidaa", sum := "0c4947cbb01a3d0343e6baff68549b76fd72350f6d4126640725abdd77ccb09d", func := "loop.example/g00130/laws.FnExactInside", spec := "fnExactInside", apart := false }
def FnExactInsideSaid : Prop := fnExactInsideRow.holds Try.pinned (OpenSpec.ofChange fnExactInsideSpec)

/-- ITS FALSE NEIGHBOUR: 'it returns false'. Refute it at one input. -/
def fnExactInsideWrong : ChangeSpec := { name := "fnExactInside", fn := fun _ => fun
  | [d1, d2, d3] => { results := [.lit (.bool false)], args := [d1, d2, d3] }
  | _ => none }
def FnExactInsideWrongFalsely : Prop := fnExactInsideRow.holds Try.pinned (OpenSpec.ofChange fnExactInsideWrong)

/- THE SECOND FORM. 'bulk': how many values and letters a reading holds, each counted each time it is reached (what is shared counts as often as it is met; a slice's spare places count too). A statement '..UptoSaid' is the law's where the arguments, and the package variables that the reading takes, are together of bulk at most 1048576: NARROWER than '..Said'. Prove '..Said' where nothing that the law and all that it calls make is longer than what came in: it says more and counts as full. Else prove '..UptoSaid'. A law counts once. -/
mutual
def uptoBulk {H : Type} : DataW H → Nat
  | .lit (.string bytes) => bytes.length + 1
  | .lit _ => 1
  | .nil => 1
  | .ptr d => uptoBulk d + 1
  | .slice elems spare => uptoBulkAll elems + uptoBulkAll spare + 1
  | .agg parts => uptoBulkAll parts + 1
  | .iface _ d => uptoBulk d + 1
  | .map entries => uptoBulkEntries entries + 1
  | .held _ => 1
def uptoBulkAll {H : Type} : List (DataW H) → Nat
  | [] => 0
  | d :: r => uptoBulk d + uptoBulkAll r
def uptoBulkEntries {H : Type} : List (Lit × DataW H) → Nat
  | [] => 0
  | x :: r => uptoBulkEntry x + uptoBulkEntries r
def uptoBulkEntry {H : Type} : Lit × DataW H → Nat
  | (.string bytes, d) => bytes.length + uptoBulk d + 1
  | (_, d) => uptoBulk d + 1
 end
def uptoSmall : (H : Type) → List (DataW H) → Bool := fun _ ds => decide (uptoBulkAll ds ≤ 1048576)
def OpenSpec.upto (s : _root_.Go.ChangeSpec) : _root_.Go.OpenSpec := { _root_.Go.OpenSpec.ofChange s with cond := some uptoSmall }

/-- 'laws.FnWholes', WHERE WHAT IT READS IS OF BULK AT MOST 1048576: true; the input reads as it did. -/
def fnWholesUptoRow : OpenClaim := { program := "ytcmjfnaenkdidaa", sum := "0c4947cbb01a3d0343e6baff68549b76fd72350f6d4126640725abdd77ccb09d", func := "loop.example/g00130/laws.FnWholes", spec := "fnWholes", unfollowed := true, recurses := true, apart := false, narrowed := true }
def FnWholesUptoSaid : Prop := fnWholesUptoRow.holds Try.pinned (OpenSpec.upto fnWholesSpec)

/-- 'laws.FnInside', WHERE WHAT IT READS IS OF BULK AT MOST 1048576: true; the input reads as it did. -/
def fnInsideUptoRow : OpenClaim := { program := "ytcmjfnaenkdidaa", sum := "0c4947cbb01a3d0343e6baff68549b76fd72350f6d4126640725abdd77ccb09d", func := "loop.example/g00130/laws.FnInside", spec := "fnInside", apart := false, narrowed := true }
def FnInsideUptoSaid : Prop := fnInsideUptoRow.holds Try.pinned (OpenSpec.upto fnInsideSpec)

/-- 'laws.FnExactWholeLabels', WHERE WHAT IT READS IS OF BULK AT MOST 1048576: true; the input reads as it did. -/
def fnExactWholeLabelsUptoRow : OpenClaim := { program := "ytcmjfnaenkdidaa", sum := "0c4947cbb01a3d0343e6baff68549b76fd72350f6d4126640725abdd77ccb09d", func := "loop.example/g00130/laws.FnExactWholeLabels", spec := "fnExactWholeLabels", apart := false, narrowed := true }
def FnExactWholeLabelsUptoSaid : Prop := fnExactWholeLabelsUptoRow.holds Try.pinned (OpenSpec.upto fnExactWholeLabelsSpec)

/-- 'laws.FnExactWholeEdges', WHERE WHAT IT READS IS OF BULK AT MOST 1048576: true; the input reads as it did. -/
def fnExactWholeEdgesUptoRow : OpenClaim := { program := "ytcmjfnaenkdidaa", sum := "0c4947cbb01a3d0343e6baff68549b76fd72350f6d4126640725abdd77ccb09d", func := "loop.example/g00130/laws.FnExactWholeEdges", spec := "fnExactWholeEdges", unfollowed := true, recurses := true, apart := false, narrowed := true }
def FnExactWholeEdgesUptoSaid : Prop := fnExactWholeEdgesUptoRow.holds Try.pinned (OpenSpec.upto fnExactWholeEdgesSpec)

/-- 'laws.FnExactInside', WHERE WHAT IT READS IS OF BULK AT MOST 1048576: true; the input reads as it did. -/
def fnExactInsideUptoRow : OpenClaim := { program := "ytcmjfnaenkdidaa", sum := "0c4947cbb01a3d0343e6baff68549b76fd72350f6d4126640725abdd77ccb09d", func := "loop.example/g00130/laws.FnExactInside", spec := "fnExactInside", apart := false, narrowed := true }
def FnExactInsideUptoSaid : Prop := fnExactInsideUptoRow.holds Try.pinned (OpenSpec.upto fnExactInsideSpec)

end Rows
end Go.Proofs.Ytcmjfnaenkdidaa
