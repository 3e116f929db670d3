/-
  No cell of these rows narrows 'for every input' (looked for: loops, veiled, ifaces, maps, wideKeys, modest, calm, conditions, laid).
  DERIVED. THE GIVEN ROWS OF THIS SEAT. 5 by the template 'for every input the law returns true; each argument reads behind the call as it read before'; 0 by the template 'total and deterministic' (their statements: YtdihemjfnjhdiaaTotals.lean).
  GIVEN WITH THE SEED: the statements are not yours to turn. If you find one false, say at which input.
  Laid BY PROGRAM, IN A SANDBOX (cutbox-rows.mjs): the forced cells as the released guide's own fill.sh prints them over the translation 0043f0f8f7fb6fb5… (all of the seat's roots in one cut). By AI agents, Wed Nov 11 2026. No macro, syntax, notation, axiom, sorry.
-/
import Derived.Test.YtdihemjfnjhdiaaChecked
import GoSem.Claim
import GoSem.ClaimJoined
import GoSem.ClaimMapViews
import Derived.JoinedTies
import Derived.KernelRfl
namespace Go.Proofs.Ytdihemjfnjhdiaa
/- THE CELL 'sum', in the pinned program and in every row, IS THE sha256 OF THE DUMP (.gsa) THAT YtdihemjfnjhdiaaProg.lean LOADS. Nothing in Lean hashes anything: it is a label: what it is worth is what the hold of that sum in a sandbox is worth. -/
noncomputable def Try.pinned : Pinned := { name := "ytdihemjfnjhdiaa", sum := "0043f0f8f7fb6fb55af2c7bcc13f578b2d4cd14c40f20a40a7215e61031718a5", checked := Try.checked }
namespace Rows
def none {H : Type} : Left H := { results := [], args := [] }

/-- 'laws.FnHeadNew': WHATEVER THE INPUT: true; the input reads as it did. -/
def fnHeadNewSpec : ChangeSpec := { name := "fnHeadNew", fn := fun _ => fun
  | [d] => { results := [.lit (.bool true)], args := [d] }
  | _ => none }
def fnHeadNewRow : OpenClaim := { program := "ytdihemjfnjhdiaa", sum := "0043f0f8f7fb6fb55af2c7bcc13f578b2d4cd14c40f20a40a7215e61031718a5", func := "loop.example/g00130/laws.FnHeadNew", spec := "fnHeadNew", unfollowed := true, recurses := true, apart := false }
def FnHeadNewSaid : Prop := fnHeadNewRow.holds Try.pinned (OpenSpec.ofChange fnHeadNewSpec)

/-- ITS FALSE NEIGHBOUR: 'it returns false'. Refute it at one input. -/
def fnHeadNewWrong : ChangeSpec := { name := "fnHeadNew", fn := fun _ => fun
  | [d] => { results := [.lit (.bool false)], args := [d] }
  | _ => none }
def FnHeadNewWrongFalsely : Prop := fnHeadNewRow.holds Try.pinned (OpenSpec.ofChange fnHeadNewWrong)

/-- 'laws.FnExactHeadNew': WHATEVER THE INPUT: true; the input reads as it did. -/
def fnExactHeadNewSpec : ChangeSpec := { name := "fnExactHeadNew", fn := fun _ => fun
  | [d1, d2] => { results := [.lit (.bool true)], args := [d1, d2] }
  | _ => none }
def fnExactHeadNewRow : OpenClaim := { program := "ytdihemjfnjhdiaa", sum := "0043f0f8f7fb6fb55af2c7bcc13f578b2d4cd14c40f20a40a7215e61031718a5", func := "loop.example/g00130/laws.FnExactHeadNew", spec := "fnExactHeadNew", apart := false }
def FnExactHeadNewSaid : Prop := fnExactHeadNewRow.holds Try.pinned (OpenSpec.ofChange fnExactHeadNewSpec)

/-- ITS FALSE NEIGHBOUR: 'it returns false'. Refute it at one input. -/
def fnExactHeadNewWrong : ChangeSpec := { name := "fnExactHeadNew", fn := fun _ => fun
  | [d1, d2] => { results := [.lit (.bool false)], args := [d1, d2] }
  | _ => none }
def FnExactHeadNewWrongFalsely : Prop := fnExactHeadNewRow.holds Try.pinned (OpenSpec.ofChange fnExactHeadNewWrong)

/-- 'laws.FnExactHeadOk': WHATEVER THE INPUT: true; the input reads as it did. -/
def fnExactHeadOkSpec : ChangeSpec := { name := "fnExactHeadOk", fn := fun _ => fun
  | [d] => { results := [.lit (.bool true)], args := [d] }
  | _ => none }
def fnExactHeadOkRow : OpenClaim := { program := "ytdihemjfnjhdiaa", sum := "0043f0f8f7fb6fb55af2c7bcc13f578b2d4cd14c40f20a40a7215e61031718a5", func := "loop.example/g00130/laws.FnExactHeadOk", spec := "fnExactHeadOk", unfollowed := true, recurses := true, apart := false }
def FnExactHeadOkSaid : Prop := fnExactHeadOkRow.holds Try.pinned (OpenSpec.ofChange fnExactHeadOkSpec)

/-- ITS FALSE NEIGHBOUR: 'it returns false'. Refute it at one input. -/
def fnExactHeadOkWrong : ChangeSpec := { name := "fnExactHeadOk", fn := fun _ => fun
  | [d] => { results := [.lit (.bool false)], args := [d] }
  | _ => none }
def FnExactHeadOkWrongFalsely : Prop := fnExactHeadOkRow.holds Try.pinned (OpenSpec.ofChange fnExactHeadOkWrong)

/-- 'laws.FnExactBusy': WHATEVER THE INPUT: true; the input reads as it did. -/
def fnExactBusySpec : ChangeSpec := { name := "fnExactBusy", fn := fun _ => fun
  | [d] => { results := [.lit (.bool true)], args := [d] }
  | _ => none }
def fnExactBusyRow : OpenClaim := { program := "ytdihemjfnjhdiaa", sum := "0043f0f8f7fb6fb55af2c7bcc13f578b2d4cd14c40f20a40a7215e61031718a5", func := "loop.example/g00130/laws.FnExactBusy", spec := "fnExactBusy", apart := false }
def FnExactBusySaid : Prop := fnExactBusyRow.holds Try.pinned (OpenSpec.ofChange fnExactBusySpec)

/-- ITS FALSE NEIGHBOUR: 'it returns false'. Refute it at one input. -/
def fnExactBusyWrong : ChangeSpec := { name := "fnExactBusy", fn := fun _ => fun
  | [d] => { results := [.lit (.bool false)], args := [d] }
  | _ => none }
def FnExactBusyWrongFalsely : Prop := fnExactBusyRow.holds Try.pinned (OpenSpec.ofChange fnExactBusyWrong)

/-- 'laws.FnExactReplyOf': WHATEVER THE INPUT: true; the input reads as it did. -/
def fnExactReplyOfSpec : ChangeSpec := { name := "fnExactReplyOf", fn := fun _ => fun
  | [d1, d2] => { results := [.lit (.bool true)], args := [d1, d2] }
  | _ => none }
def fnExactReplyOfRow : OpenClaim := { program := "ytdihemjfnjhdiaa", sum := "0043f0f8f7fb6fb55af2c7bcc13f578b2d4cd14c40f20a40a7215e61031718a5", func := "loop.example/g00130/laws.FnExactReplyOf", spec := "fnExactReplyOf", unfollowed := true, recurses := true, apart := false }
def FnExactReplyOfSaid : Prop := fnExactReplyOfRow.holds Try.pinned (OpenSpec.ofChange fnExactReplyOfSpec)

/-- ITS FALSE NEIGHBOUR: 'it returns false'. Refute it at one input. -/
def fnExactReplyOfWrong : ChangeSpec := { name := "fnExactReplyOf", fn := fun _ => fun
  | [d1, d2] => { results := [.lit (.bool false)], args := [d1, d2] }
  | _ => none }
def FnExactReplyOfWrongFalsely : Prop := fnExactReplyOfRow.holds Try.pinned (OpenSpec.ofChange fnExactReplyOfWrong)

/- THE SECOND FORM. 'bulk': how many values and letters a reading holds, each counted each time it is reached (what is shared counts as often as it is met; a slice's spare places count too). A statement '..UptoSaid' is the law's where the arguments, and the package variables that the reading takes, are together of bulk at most 1048576: NARROWER than '..Said'. Prove '..Said' where nothing that the law and all that it calls make is longer than what came in: it says more and counts as full. Else prove '..UptoSaid'. A law counts once. -/
mutual
def uptoBulk {H : Type} : DataW H → Nat
  | .lit (.string bytes) => bytes.length + 1
  | .lit _ => 1
  | .nil => 1
  | .ptr d => uptoBulk d + 1
  | .slice elems spare => uptoBulkAll elems + uptoBulkAll spare + 1
  | .agg parts => uptoBulkAll parts + 1
  | .iface _ d => uptoBulk d + 1
  | .map entries => uptoBulkEntries entries + 1
  | .held _ => 1
def uptoBulkAll {H : Type} : List (DataW H) → Nat
  | [] => 0
  | d :: r => uptoBulk d + uptoBulkAll r
def uptoBulkEntries {H : Type} : List (Lit × DataW H) → Nat
  | [] => 0
  | x :: r => uptoBulkEntry x + uptoBulkEntries r
def uptoBulkEntry {H : Type} : Lit × DataW H → Nat
  | (.string bytes, d) => bytes.length + uptoBulk d + 1
  | (_, d) => uptoBulk d + 1
 end
def uptoSmall : (H : Type) → List (DataW H) → Bool := fun _ ds => decide (uptoBulkAll ds ≤ 1048576)
def OpenSpec.upto (s : _root_.Go.ChangeSpec) : _root_.Go.OpenSpec := { _root_.Go.OpenSpec.ofChange s with cond := some uptoSmall }

/-- 'laws.FnHeadNew', WHERE WHAT IT READS IS OF BULK AT MOST 1048576: true; the input reads as it did. -/
def fnHeadNewUptoRow : OpenClaim := { program := "ytdihemjfnjhdiaa", sum := "0043f0f8f7fb6fb55af2c7bcc13f578b2d4cd14c40f20a40a7215e61031718a5", func := "loop.example/g00130/laws.FnHeadNew", spec := "fnHeadNew", unfollowed := true, recurses := true, apart := false, narrowed := true }
def FnHeadNewUptoSaid : Prop := fnHeadNewUptoRow.holds Try.pinned (OpenSpec.upto fnHeadNewSpec)

/-- 'laws.FnExactHeadNew', WHERE WHAT IT READS IS OF BULK AT MOST 1048576: true; the input reads as it did. -/
def fnExactHeadNewUptoRow : OpenClaim := { program := "ytdihemjfnjhdiaa", sum := "0043f0f8f7fb6fb55af2c7bcc13f578b2d4cd14c40f20a40a7215e61031718a5", func := "loop.example/g00130/laws.FnExactHeadNew", spec := "fnExactHeadNew", apart := false, narrowed := true }
def FnExactHeadNewUptoSaid : Prop := fnExactHeadNewUptoRow.holds Try.pinned (OpenSpec.upto fnExactHeadNewSpec)

/-- 'laws.FnExactHeadOk', WHERE WHAT IT READS IS OF BULK AT MOST 1048576: true; the input reads as it did. -/
def fnExactHeadOkUptoRow : OpenClaim := { program := "ytdihemjfnjhdiaa", sum := "0043f0f8f7fb6fb55af2c7bcc13f578b2d4cd14c40f20a40a7215e61031718a5", func := "loop.example/g00130/laws.FnExactHeadOk", spec := "fnExactHeadOk", unfollowed := true, recurses := true, apart := false, narrowed := true }
def FnExactHeadOkUptoSaid : Prop := fnExactHeadOkUptoRow.holds Try.pinned (OpenSpec.upto fnExactHeadOkSpec)

/-- 'laws.FnExactBusy', WHERE WHAT IT READS IS OF BULK AT MOST 1048576: true; the input reads as it did. -/
def fnExactBusyUptoRow : OpenClaim := { program := "ytdihemjfnjhdiaa", sum := "0043f0f8f7fb6fb55af2c7bcc13f578b2d4cd14c40f20a40a7215e61031718a5", func := "loop.example/g00130/laws.FnExactBusy", spec := "fnExactBusy", apart := false, narrowed := true }
def FnExactBusyUptoSaid : Prop := fnExactBusyUptoRow.holds Try.pinned (OpenSpec.upto fnExactBusySpec)

/-- 'laws.FnExactReplyOf', WHERE WHAT IT READS IS OF BULK AT MOST 1048576: true; the input reads as it did. -/
def fnExactReplyOfUptoRow : OpenClaim := { program := "ytdihemjfnjhdiaa", sum := "0043f0f8f7fb6fb55af2c7bcc13f578b2d4cd14c40f20a40a7215e61031718a5", func := "loop.example/g00130/laws.FnExactReplyOf", spec := "fnExactReplyOf", unfollowed := true, recurses := true, apart := false, narrowed := true }
def FnExactReplyOfUptoSaid : Prop := fnExactReplyOfUptoRow.holds Try.pinned (OpenSpec.upto fnExactReplyOfSpec)

end Rows
end Go.Proofs.Ytdihemjfnjhdiaa
