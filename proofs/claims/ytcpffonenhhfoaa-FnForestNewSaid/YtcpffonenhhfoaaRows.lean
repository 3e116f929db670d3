/-
  No cell of these rows narrows 'for every input' (looked for: loops, veiled, ifaces, maps, wideKeys, modest, calm, conditions, laid).
  DERIVED. THE GIVEN ROWS OF THIS SEAT. 5 by the template 'for every input the law returns true; each argument reads behind the call as it read before'; 0 by the template 'total and deterministic' (their statements: YtcpffonenhhfoaaTotals.lean).
  GIVEN WITH THE SEED: the statements are not yours to turn. If you find one false, say at which input.
  Laid BY PROGRAM, IN A SANDBOX (cutbox-rows.mjs): the forced cells as the released guide's own fill.sh prints them over the translation d2710cd6acd1e76b… (all of the seat's roots in one cut). By AI agents, Wed Nov 11 2026. No macro, syntax, notation, axiom, sorry.
-/
import Derived.Test.YtcpffonenhhfoaaChecked
import GoSem.Claim
import GoSem.ClaimJoined
import GoSem.ClaimMapViews
import Derived.JoinedTies
import Derived.KernelRfl
namespace Go.Proofs.Ytcpffonenhhfoaa
/- THE CELL 'sum', in the pinned program and in every row, IS THE sha256 OF THE DUMP (.gsa) THAT YtcpffonenhhfoaaProg.lean LOADS. Nothing in Lean hashes anything: it is a label: what it is worth is what the hold of that sum in a sandbox is worth. -/
noncomputable def Try.pinned : Pinned := { name := "ytcpffonenhhfoaa", sum := "d2710cd6acd1e76b1a86547d9cb89ef61ef42b85c388d90666c8d6aa96d2488f", checked := Try.checked }
namespace Rows
def none {H : Type} : Left H := { results := [], args := [] }

/-- 'laws.FnForestNew': WHATEVER THE INPUT: true; the input reads as it did. -/
def fnForestNewSpec : ChangeSpec := { name := "fnForestNew", fn := fun _ => fun
  | [d] => { results := [.lit (.bool true)], args := [d] }
  | _ => none }
def fnForestNewRow : OpenClaim := { program := "ytcpffonenhhfoaa", sum := "d2710cd6acd1e76b1a86547d9cb89ef61ef42b85c388d90666c8d6aa96d2488f", func := "loop.example/g00130/laws.FnForestNew", spec := "fnForestNew", unfollowed := true, recurses := true, apart := false }
def FnForestNewSaid : Prop := fnForestNewRow.holds Try.pinned (OpenSpec.ofChange fnForestNewSpec)

/-- ITS FALSE NEIGHBOUR: 'it returns false'. Refute it at one input. -/
def fnForestNewWrong : ChangeSpec := { name := "fnForestNew", fn := fun _ => fun
  | [d] => { results := [.lit (.bool false)], args := [d] }
  | _ => none }
def FnForestNewWrongFalsely : Prop := fnForestNewRow.holds Try.pinned (OpenSpec.ofChange fnForestNewWrong)

/-- 'laws.FnExactForestNew': WHATEVER THE INPUT: true; the input reads as it did. -/
def fnExactForestNewSpec : ChangeSpec := { name := "fnExactForestNew", fn := fun _ => fun
  | [d] => { results := [.lit (.bool true)], args := [d] }
  | _ => none }
def fnExactForestNewRow : OpenClaim := { program := "ytcpffonenhhfoaa", sum := "d2710cd6acd1e76b1a86547d9cb89ef61ef42b85c388d90666c8d6aa96d2488f", func := "loop.example/g00130/laws.FnExactForestNew", spec := "fnExactForestNew", apart := false }
def FnExactForestNewSaid : Prop := fnExactForestNewRow.holds Try.pinned (OpenSpec.ofChange fnExactForestNewSpec)

/-- ITS FALSE NEIGHBOUR: 'it returns false'. Refute it at one input. -/
def fnExactForestNewWrong : ChangeSpec := { name := "fnExactForestNew", fn := fun _ => fun
  | [d] => { results := [.lit (.bool false)], args := [d] }
  | _ => none }
def FnExactForestNewWrongFalsely : Prop := fnExactForestNewRow.holds Try.pinned (OpenSpec.ofChange fnExactForestNewWrong)

/-- 'laws.FnExactForestOk': WHATEVER THE INPUT: true; the input reads as it did. -/
def fnExactForestOkSpec : ChangeSpec := { name := "fnExactForestOk", fn := fun _ => fun
  | [d] => { results := [.lit (.bool true)], args := [d] }
  | _ => none }
def fnExactForestOkRow : OpenClaim := { program := "ytcpffonenhhfoaa", sum := "d2710cd6acd1e76b1a86547d9cb89ef61ef42b85c388d90666c8d6aa96d2488f", func := "loop.example/g00130/laws.FnExactForestOk", spec := "fnExactForestOk", unfollowed := true, recurses := true, apart := false }
def FnExactForestOkSaid : Prop := fnExactForestOkRow.holds Try.pinned (OpenSpec.ofChange fnExactForestOkSpec)

/-- ITS FALSE NEIGHBOUR: 'it returns false'. Refute it at one input. -/
def fnExactForestOkWrong : ChangeSpec := { name := "fnExactForestOk", fn := fun _ => fun
  | [d] => { results := [.lit (.bool false)], args := [d] }
  | _ => none }
def FnExactForestOkWrongFalsely : Prop := fnExactForestOkRow.holds Try.pinned (OpenSpec.ofChange fnExactForestOkWrong)

/-- 'laws.FnExactTreeOf': WHATEVER THE INPUT: true; the input reads as it did. -/
def fnExactTreeOfSpec : ChangeSpec := { name := "fnExactTreeOf", fn := fun _ => fun
  | [d1, d2] => { results := [.lit (.bool true)], args := [d1, d2] }
  | _ => none }
def fnExactTreeOfRow : OpenClaim := { program := "ytcpffonenhhfoaa", sum := "d2710cd6acd1e76b1a86547d9cb89ef61ef42b85c388d90666c8d6aa96d2488f", func := "loop.example/g00130/laws.FnExactTreeOf", spec := "fnExactTreeOf", unfollowed := true, recurses := true, apart := false }
def FnExactTreeOfSaid : Prop := fnExactTreeOfRow.holds Try.pinned (OpenSpec.ofChange fnExactTreeOfSpec)

/-- ITS FALSE NEIGHBOUR: 'it returns false'. Refute it at one input. -/
def fnExactTreeOfWrong : ChangeSpec := { name := "fnExactTreeOf", fn := fun _ => fun
  | [d1, d2] => { results := [.lit (.bool false)], args := [d1, d2] }
  | _ => none }
def FnExactTreeOfWrongFalsely : Prop := fnExactTreeOfRow.holds Try.pinned (OpenSpec.ofChange fnExactTreeOfWrong)

/-- 'laws.FnExactLink': WHATEVER THE INPUT: true; the input reads as it did. -/
def fnExactLinkSpec : ChangeSpec := { name := "fnExactLink", fn := fun _ => fun
  | [d1, d2] => { results := [.lit (.bool true)], args := [d1, d2] }
  | _ => none }
def fnExactLinkRow : OpenClaim := { program := "ytcpffonenhhfoaa", sum := "d2710cd6acd1e76b1a86547d9cb89ef61ef42b85c388d90666c8d6aa96d2488f", func := "loop.example/g00130/laws.FnExactLink", spec := "fnExactLink", unfollowed := true, recurses := true, apart := false }
def FnExactLinkSaid : Prop := fnExactLinkRow.holds Try.pinned (OpenSpec.ofChange fnExactLinkSpec)

/-- ITS FALSE NEIGHBOUR: 'it returns false'. Refute it at one input. -/
def fnExactLinkWrong : ChangeSpec := { name := "fnExactLink", fn := fun _ => fun
  | [d1, d2] => { results := [.lit (.bool false)], args := [d1, d2] }
  | _ => none }
def FnExactLinkWrongFalsely : Prop := fnExactLinkRow.holds Try.pinned (OpenSpec.ofChange fnExactLinkWrong)

/- THE SECOND FORM. 'bulk': how many values and letters a reading holds, each counted each time it is reached (what is shared counts as often as it is met; a slice's spare places count too). A statement '..UptoSaid' is the law's where the arguments, and the package variables that the reading takes, are together of bulk at most 1048576: NARROWER than '..Said'. Prove '..Said' where nothing that the law and all that it calls make is longer than what came in: it says more and counts as full. Else prove '..UptoSaid'. A law counts once. -/
mutual
def uptoBulk {H : Type} : DataW H → Nat
  | .lit (.string bytes) => bytes.length + 1
  | .lit _ => 1
  | .nil => 1
  | .ptr d => uptoBulk d + 1
  | .slice elems spare => uptoBulkAll elems + uptoBulkAll spare + 1
  | .agg parts => uptoBulkAll parts + 1
  | .iface _ d => uptoBulk d + 1
  | .map entries => uptoBulkEntries entries + 1
  | .held _ => 1
def uptoBulkAll {H : Type} : List (DataW H) → Nat
  | [] => 0
  | d :: r => uptoBulk d + uptoBulkAll r
def uptoBulkEntries {H : Type} : List (Lit × DataW H) → Nat
  | [] => 0
  | x :: r => uptoBulkEntry x + uptoBulkEntries r
def uptoBulkEntry {H : Type} : Lit × DataW H → Nat
  | (.string bytes, d) => bytes.length + uptoBulk d + 1
  | (_, d) => uptoBulk d + 1
 end
def uptoSmall : (H : Type) → List (DataW H) → Bool := fun _ ds => decide (uptoBulkAll ds ≤ 1048576)
def OpenSpec.upto (s : _root_.Go.ChangeSpec) : _root_.Go.OpenSpec := { _root_.Go.OpenSpec.ofChange s with cond := some uptoSmall }

/-- 'laws.FnForestNew', WHERE WHAT IT READS IS OF BULK AT MOST 1048576: true; the input reads as it did. -/
def fnForestNewUptoRow : OpenClaim := { program := "ytcpffonenhhfoaa", sum := "d2710cd6acd1e76b1a86547d9cb89ef61ef42b85c388d90666c8d6aa96d2488f", func := "loop.example/g00130/laws.FnForestNew", spec := "fnForestNew", unfollowed := true, recurses := true, apart := false, narrowed := true }
def FnForestNewUptoSaid : Prop := fnForestNewUptoRow.holds Try.pinned (OpenSpec.upto fnForestNewSpec)

/-- 'laws.FnExactForestNew', WHERE WHAT IT READS IS OF BULK AT MOST 1048576: true; the input reads as it did. -/
def fnExactForestNewUptoRow : OpenClaim := { program := "ytcpffonenhhfoaa", sum := "d2710cd6acd1e76b1a86547d9cb89ef61ef42b85c388d90666c8d6aa96d2488f", func := "loop.example/g00130/laws.FnExactForestNew", spec := "fnExactForestNew", apart := false, narrowed := true }
def FnExactForestNewUptoSaid : Prop := fnExactForestNewUptoRow.holds Try.pinned (OpenSpec.upto fnExactForestNewSpec)

/-- 'laws.FnExactForestOk', WHERE WHAT IT READS IS OF BULK AT MOST 1048576: true; the input reads as it did. -/
def fnExactForestOkUptoRow : OpenClaim := { program := "ytcpffonenhhfoaa", sum := "d2710cd6acd1e76b1a86547d9cb89ef61ef42b85c388d90666c8d6aa96d2488f", func := "loop.example/g00130/laws.FnExactForestOk", spec := "fnExactForestOk", unfollowed := true, recurses := true, apart := false, narrowed := true }
def FnExactForestOkUptoSaid : Prop := fnExactForestOkUptoRow.holds Try.pinned (OpenSpec.upto fnExactForestOkSpec)

/-- 'laws.FnExactTreeOf', WHERE WHAT IT READS IS OF BULK AT MOST 1048576: true; the input reads as it did. -/
def fnExactTreeOfUptoRow : OpenClaim := { program := "ytcpffonenhhfoaa", sum := "d2710cd6acd1e76b1a86547d9cb89ef61ef42b85c388d90666c8d6aa96d2488f", func := "loop.example/g00130/laws.FnExactTreeOf", spec := "fnExactTreeOf", unfollowed := true, recurses := true, apart := false, narrowed := true }
def FnExactTreeOfUptoSaid : Prop := fnExactTreeOfUptoRow.holds Try.pinned (OpenSpec.upto fnExactTreeOfSpec)

/-- 'laws.FnExactLink', WHERE WHAT IT READS IS OF BULK AT MOST 1048576: true; the input reads as it did. -/
def fnExactLinkUptoRow : OpenClaim := { program := "ytcpffonenhhfoaa", sum := "d2710cd6acd1e76b1a86547d9cb89ef61ef42b85c388d90666c8d6aa96d2488f", func := "loop.example/g00130/laws.FnExactLink", spec := "fnExactLink", unfollowed := true, recurses := true, apart := false, narrowed := true }
def FnExactLinkUptoSaid : Prop := fnExactLinkUptoRow.holds Try.pinned (OpenSpec.upto fnExactLinkSpec)

end Rows
end Go.Proofs.Ytcpffonenhhfoaa
