/-
  No cell of these rows narrows 'for every input' (looked for: loops, veiled, ifaces, maps, wideKeys, modest, calm, conditions, laid).
  DERIVED. THE GIVEN ROWS OF THIS SEAT. 2 by the template 'for every input the law returns true; each argument reads behind the call as it read before'; 0 by the template 'total and deterministic' (their statements: YtdiichcoeebbcabTotals.lean).
  GIVEN WITH THE SEED: the statements are not yours to turn. If you find one false, say at which input.
  Laid BY PROGRAM, IN A SANDBOX (cutbox-rows.mjs): the forced cells as the released guide's own fill.sh prints them over the translation bf96e14f71c1da1a… (all of the seat's roots in one cut). By AI agents, Wed Nov 11 2026. No macro, syntax, notation, axiom, sorry.
-/
import Derived.Test.YtdiichcoeebbcabChecked
import GoSem.Claim
import GoSem.ClaimJoined
import GoSem.ClaimMapViews
import Derived.JoinedTies
import Derived.KernelRfl
namespace Go.Proofs.Ytdiichcoeebbcab
/- THE CELL 'sum', in the pinned program and in every row, IS THE sha256 OF THE DUMP (.gsa) THAT YtdiichcoeebbcabProg.lean LOADS. Nothing in Lean hashes anything: it is a label: what it is worth is what the hold of that sum in a sandbox is worth. -/
noncomputable def Try.pinned : Pinned := { name := "ytdiichcoeebbcab", sum := "bf96e14f71c1da1a89abb131a8c826eb77de847f8050c035890781fa645135a0", checked := Try.checked }
namespace Rows
def none {H : Type} : Left H := { results := [], args := [] }

/-- 'laws.FnExactJoinTours': WHATEVER THE INPUT: true; the input reads as it did. -/
def fnExactJoinToursSpec : ChangeSpec := { name := "fnExactJoinTours", fn := fun _ => fun
  | [d1, d2, d3, d4] => { results := [.lit (.bool true)], args := [d1, d2, d3, d4] }
  | _ => none }
def fnExactJoinToursRow : OpenClaim := { program := "ytdiichcoeebbcab", sum := "bf96e14f71c1da1a89abb131a8c826eb77de847f8050c035890781fa645135a0", func := "loop.example/g00130/laws.FnExactJoinTours", spec := "fnExactJoinTours", unfollowed := true, recurses := true, apart := false }
def FnExactJoinToursSaid : Prop := fnExactJoinToursRow.holds Try.pinned (OpenSpec.ofChange fnExactJoinToursSpec)

/-- ITS FALSE NEIGHBOUR: 'it returns false'. Refute it at one input. -/
def fnExactJoinToursWrong : ChangeSpec := { name := "fnExactJoinTours", fn := fun _ => fun
  | [d1, d2, d3, d4] => { results := [.lit (.bool false)], args := [d1, d2, d3, d4] }
  | _ => none }
def FnExactJoinToursWrongFalsely : Prop := fnExactJoinToursRow.holds Try.pinned (OpenSpec.ofChange fnExactJoinToursWrong)

/-- 'laws.FnExactSplitTour': WHATEVER THE INPUT: true; the input reads as it did. -/
def fnExactSplitTourSpec : ChangeSpec := { name := "fnExactSplitTour", fn := fun _ => fun
  | [d1, d2, d3] => { results := [.lit (.bool true)], args := [d1, d2, d3] }
  | _ => none }
def fnExactSplitTourRow : OpenClaim := { program := "ytdiichcoeebbcab", sum := "bf96e14f71c1da1a89abb131a8c826eb77de847f8050c035890781fa645135a0", func := "loop.example/g00130/laws.FnExactSplitTour", spec := "fnExactSplitTour", apart := false }
def FnExactSplitTourSaid : Prop := fnExactSplitTourRow.holds Try.pinned (OpenSpec.ofChange fnExactSplitTourSpec)

/-- ITS FALSE NEIGHBOUR: 'it returns false'. Refute it at one input. -/
def fnExactSplitTourWrong : ChangeSpec := { name := "fnExactSplitTour", fn := fun _ => fun
  | [d1, d2, d3] => { results := [.lit (.bool false)], args := [d1, d2, d3] }
  | _ => none }
def FnExactSplitTourWrongFalsely : Prop := fnExactSplitTourRow.holds Try.pinned (OpenSpec.ofChange fnExactSplitTourWrong)

/- THE SECOND FORM. 'bulk': how many values and letters a reading holds, each counted each time it is reached (what is shared counts as often as it is met; a slice's spare places count too). A statement '..UptoSaid' is the law's where the arguments, and the package variables that the reading takes, are together of bulk at most 1048576: NARROWER than '..Said'. Prove '..Said' where nothing that the law and all that it calls make is longer than what came in: it says more and counts as full. Else prove '..UptoSaid'. A law counts once. -/
mutual
def uptoBulk {H : Type} : DataW H → Nat
  | .lit (.string bytes) => bytes.length + 1
  | .lit _ => 1
  | .nil => 1
  | .ptr d => uptoBulk d + 1
  | .slice elems spare => uptoBulkAll elems + uptoBulkAll spare + 1
  | .agg parts => uptoBulkAll parts + 1
  | .iface _ d => uptoBulk d + 1
  | .map entries => uptoBulkEntries entries + 1
  | .held _ => 1
def uptoBulkAll {H : Type} : List (DataW H) → Nat
  | [] => 0
  | d :: r => uptoBulk d + uptoBulkAll r
def uptoBulkEntries {H : Type} : List (Lit × DataW H) → Nat
  | [] => 0
  | x :: r => uptoBulkEntry x + uptoBulkEntries r
def uptoBulkEntry {H : Type} : Lit × DataW H → Nat
  | (.string bytes, d) => bytes.length + uptoBulk d + 1
  | (_, d) => uptoBulk d + 1
 end
def uptoSmall : (H : Type) → List (DataW H) → Bool := fun _ ds => decide (uptoBulkAll ds ≤ 1048576)
def OpenSpec.upto (s : _root_.Go.ChangeSpec) : _root_.Go.OpenSpec := { _root_.Go.OpenSpec.ofChange s with cond := some uptoSmall }

/-- 'laws.FnExactJoinTours', WHERE WHAT IT READS IS OF BULK AT MOST 1048576: true; the input reads as it did. -/
def fnExactJoinToursUptoRow : OpenClaim := { program := "ytdiichcoeebbcab", sum := "bf96e14f71c1da1a89abb131a8c826eb77de847f8050c035890781fa645135a0", func := "loop.example/g00130/laws.FnExactJoinTours", spec := "fnExactJoinTours", unfollowed := true, recurses := true, apart := false, narrowed := true }
def FnExactJoinToursUptoSaid : Prop := fnExactJoinToursUptoRow.holds Try.pinned (OpenSpec.upto fnExactJoinToursSpec)

/-- 'laws.FnExactSplitTour', WHERE WHAT IT READS IS OF BULK AT MOST 1048576: true; the input reads as it did. -/
def fnExactSplitTourUptoRow : OpenClaim := { program := "ytdiichcoeebbcab", sum := "bf96e14f71c1da1a89abb131a8c826eb77de847f8050c035890781fa645135a0", func := "loop.example/g00130/laws.FnExactSplitTour", spec := "fnExactSplitTour", apart := false, narrowed := true }
def FnExactSplitTourUptoSaid : Prop := fnExactSplitTourUptoRow.holds Try.pinned (OpenSpec.upto fnExactSplitTourSpec)

end Rows
end Go.Proofs.Ytdiichcoeebbcab
