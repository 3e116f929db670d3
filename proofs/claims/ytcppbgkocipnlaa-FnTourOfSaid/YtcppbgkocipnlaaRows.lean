/-
  No cell of these rows narrows 'for every input' (looked for: loops, veiled, ifaces, maps, wideKeys, modest, calm, conditions, laid).
  DERIVED. THE GIVEN ROWS OF THIS SEAT. 6 by the template 'for every input the law returns true; each argument reads behind the call as it read before'; 0 by the template 'total and deterministic' (their statements: YtcppbgkocipnlaaTotals.lean).
  GIVEN WITH THE SEED: the statements are not yours to turn. If you find one false, say at which input.
  Laid BY PROGRAM, IN A SANDBOX (cutbox-rows.mjs): the forced cells as the released guide's own fill.sh prints them over the translation 9e9bfd287ceff293… (all of the seat's roots in one cut). By AI agents, Wed Nov 11 2026. No macro, syntax, notation, axiom, sorry.
-/
import Derived.Test.YtcppbgkocipnlaaChecked
import GoSem.Claim
import GoSem.ClaimJoined
import GoSem.ClaimMapViews
import Derived.JoinedTies
import Derived.KernelRfl
namespace Go.Proofs.Ytcppbgkocipnlaa
/- THE CELL 'sum', in the pinned program and in every row, IS THE sha256 OF THE DUMP (.gsa) THAT YtcppbgkocipnlaaProg.lean LOADS. Nothing in Lean hashes anything: it is a label: what it is worth is what the hold of that sum in a sandbox is worth. -/
noncomputable def Try.pinned : Pinned := { name := "ytcppbgkocipnlaa", sum := "9e9bfd287ceff293cbf536791f3fc40f4baf7cd2a44f57f1aca7ed43aec29535", checked := Try.checked }
namespace Rows
def none {H : Type} : Left H := { results := [], args := [] }

/-- 'laws.FnTours': WHATEVER THE INPUT: true; the input reads as it did. -/
def fnToursSpec : ChangeSpec := { name := "fnTours", fn := fun _ => fun
  | [d] => { results := [.lit (.bool true)], args := [d] }
  | _ => none }
def fnToursRow : OpenClaim := { program := "ytcppbgkocipnlaa", sum := "9e9bfd287ceff293cbf536791f3fc40f4baf7cd2a44f57f1aca7ed43aec29535", func := "loop.example/g00130/laws.FnTours", spec := "fnTours", unfollowed := true, recurses := true, apart := false }
def FnToursSaid : Prop := fnToursRow.holds Try.pinned (OpenSpec.ofChange fnToursSpec)

/-- ITS FALSE NEIGHBOUR: 'it returns false'. Refute it at one input. -/
def fnToursWrong : ChangeSpec := { name := "fnTours", fn := fun _ => fun
  | [d] => { results := [.lit (.bool false)], args := [d] }
  | _ => none }
def FnToursWrongFalsely : Prop := fnToursRow.holds Try.pinned (OpenSpec.ofChange fnToursWrong)

/-- 'laws.FnSplits': WHATEVER THE INPUT: true; the input reads as it did. -/
def fnSplitsSpec : ChangeSpec := { name := "fnSplits", fn := fun _ => fun
  | [d] => { results := [.lit (.bool true)], args := [d] }
  | _ => none }
def fnSplitsRow : OpenClaim := { program := "ytcppbgkocipnlaa", sum := "9e9bfd287ceff293cbf536791f3fc40f4baf7cd2a44f57f1aca7ed43aec29535", func := "loop.example/g00130/laws.FnSplits", spec := "fnSplits", unfollowed := true, recurses := true, apart := false }
def FnSplitsSaid : Prop := fnSplitsRow.holds Try.pinned (OpenSpec.ofChange fnSplitsSpec)

/-- ITS FALSE NEIGHBOUR: 'it returns false'. Refute it at one input. -/
def fnSplitsWrong : ChangeSpec := { name := "fnSplits", fn := fun _ => fun
  | [d] => { results := [.lit (.bool false)], args := [d] }
  | _ => none }
def FnSplitsWrongFalsely : Prop := fnSplitsRow.holds Try.pinned (OpenSpec.ofChange fnSplitsWrong)

/-- 'laws.FnTourOf': WHATEVER THE INPUT: true; the input reads as it did. -/
def fnTourOfSpec : ChangeSpec := { name := "fnTourOf", fn := fun _ => fun
  | [d] => { results := [.lit (.bool true)], args := [d] }
  | _ => none }
def fnTourOfRow : OpenClaim := { program := "ytcppbgkocipnlaa", sum := "9e9bfd287ceff293cbf536791f3fc40f4baf7cd2a44f57f1aca7ed43aec29535", func := "loop.example/g00130/laws.FnTourOf", spec := "fnTourOf", unfollowed := true, recurses := true, apart := false }
def FnTourOfSaid : Prop := fnTourOfRow.holds Try.pinned (OpenSpec.ofChange fnTourOfSpec)

/-- ITS FALSE NEIGHBOUR: 'it returns false'. Refute it at one input. -/
def fnTourOfWrong : ChangeSpec := { name := "fnTourOf", fn := fun _ => fun
  | [d] => { results := [.lit (.bool false)], args := [d] }
  | _ => none }
def FnTourOfWrongFalsely : Prop := fnTourOfRow.holds Try.pinned (OpenSpec.ofChange fnTourOfWrong)

/-- 'laws.FnExactTourOk': WHATEVER THE INPUT: true; the input reads as it did. -/
def fnExactTourOkSpec : ChangeSpec := { name := "fnExactTourOk", fn := fun _ => fun
  | [d] => { results := [.lit (.bool true)], args := [d] }
  | _ => none }
def fnExactTourOkRow : OpenClaim := { program := "ytcppbgkocipnlaa", sum := "9e9bfd287ceff293cbf536791f3fc40f4baf7cd2a44f57f1aca7ed43aec29535", func := "loop.example/g00130/laws.FnExactTourOk", spec := "fnExactTourOk", apart := false }
def FnExactTourOkSaid : Prop := fnExactTourOkRow.holds Try.pinned (OpenSpec.ofChange fnExactTourOkSpec)

/-- ITS FALSE NEIGHBOUR: 'it returns false'. Refute it at one input. -/
def fnExactTourOkWrong : ChangeSpec := { name := "fnExactTourOk", fn := fun _ => fun
  | [d] => { results := [.lit (.bool false)], args := [d] }
  | _ => none }
def FnExactTourOkWrongFalsely : Prop := fnExactTourOkRow.holds Try.pinned (OpenSpec.ofChange fnExactTourOkWrong)

/-- 'laws.FnExactReroot': WHATEVER THE INPUT: true; the input reads as it did. -/
def fnExactRerootSpec : ChangeSpec := { name := "fnExactReroot", fn := fun _ => fun
  | [d1, d2] => { results := [.lit (.bool true)], args := [d1, d2] }
  | _ => none }
def fnExactRerootRow : OpenClaim := { program := "ytcppbgkocipnlaa", sum := "9e9bfd287ceff293cbf536791f3fc40f4baf7cd2a44f57f1aca7ed43aec29535", func := "loop.example/g00130/laws.FnExactReroot", spec := "fnExactReroot", apart := false }
def FnExactRerootSaid : Prop := fnExactRerootRow.holds Try.pinned (OpenSpec.ofChange fnExactRerootSpec)

/-- ITS FALSE NEIGHBOUR: 'it returns false'. Refute it at one input. -/
def fnExactRerootWrong : ChangeSpec := { name := "fnExactReroot", fn := fun _ => fun
  | [d1, d2] => { results := [.lit (.bool false)], args := [d1, d2] }
  | _ => none }
def FnExactRerootWrongFalsely : Prop := fnExactRerootRow.holds Try.pinned (OpenSpec.ofChange fnExactRerootWrong)

/-- 'laws.FnExactJoinTours': WHATEVER THE INPUT: true; the input reads as it did. -/
def fnExactJoinToursSpec : ChangeSpec := { name := "fnExactJoinTours", fn := fun _ => fun
  | [d1, d2, d3, d4] => { results := [.lit (.bool true)], args := [d1, d2, d3, d4] }
  | _ => none }
def fnExactJoinToursRow : OpenClaim := { program := "ytcppbgkocipnlaa", sum := "9e9bfd287ceff293cbf536791f3fc40f4baf7cd2a44f57f1aca7ed43aec29535", func := "loop.example/g00130/laws.FnExactJoinTours", spec := "fnExactJoinTours", unfollowed := true, recurses := true, apart := false }
def FnExactJoinToursSaid : Prop := fnExactJoinToursRow.holds Try.pinned (OpenSpec.ofChange fnExactJoinToursSpec)

/-- ITS FALSE NEIGHBOUR: 'it returns false'. Refute it at one input. -/
def fnExactJoinToursWrong : ChangeSpec := { name := "fnExactJoinTours", fn := fun _ => fun
  | [d1, d2, d3, d4] => { results := [.lit (.bool false)], args := [d1, d2, d3, d4] }
  | _ => none }
def FnExactJoinToursWrongFalsely : Prop := fnExactJoinToursRow.holds Try.pinned (OpenSpec.ofChange fnExactJoinToursWrong)

/- THE SECOND FORM. 'bulk': how many values and letters a reading holds, each counted each time it is reached (what is shared counts as often as it is met; a slice's spare places count too). A statement '..UptoSaid' is the law's where the arguments, and the package variables that the reading takes, are together of bulk at most 1048576: NARROWER than '..Said'. Prove '..Said' where nothing that the law and all that it calls make is longer than what came in: it says more and counts as full. Else prove '..UptoSaid'. A law counts once. -/
mutual
def uptoBulk {H : Type} : DataW H → Nat
  | .lit (.string bytes) => bytes.length + 1
  | .lit _ => 1
  | .nil => 1
  | .ptr d => uptoBulk d + 1
  | .slice elems spare => uptoBulkAll elems + uptoBulkAll spare + 1
  | .agg parts => uptoBulkAll parts + 1
  | .iface _ d => uptoBulk d + 1
  | .map entries => uptoBulkEntries entries + 1
  | .held _ => 1
def uptoBulkAll {H : Type} : List (DataW H) → Nat
  | [] => 0
  | d :: r => uptoBulk d + uptoBulkAll r
def uptoBulkEntries {H : Type} : List (Lit × DataW H) → Nat
  | [] => 0
  | x :: r => uptoBulkEntry x + uptoBulkEntries r
def uptoBulkEntry {H : Type} : Lit × DataW H → Nat
  | (.string bytes, d) => bytes.length + uptoBulk d + 1
  | (_, d) => uptoBulk d + 1
 end
def uptoSmall : (H : Type) → List (DataW H) → Bool := fun _ ds => decide (uptoBulkAll ds ≤ 1048576)
def OpenSpec.upto (s : _root_.Go.ChangeSpec) : _root_.Go.OpenSpec := { _root_.Go.OpenSpec.ofChange s with cond := some uptoSmall }

/-- 'laws.FnTours', WHERE WHAT IT READS IS OF BULK AT MOST 1048576: true; the input reads as it did. -/
def fnToursUptoRow : OpenClaim := { program := "ytcppbgkocipnlaa", sum := "9e9bfd287ceff293cbf536791f3fc40f4baf7cd2a44f57f1aca7ed43aec29535", func := "loop.example/g00130/laws.FnTours", spec := "fnTours", unfollowed := true, recurses := true, apart := false, narrowed := true }
def FnToursUptoSaid : Prop := fnToursUptoRow.holds Try.pinned (OpenSpec.upto fnToursSpec)

/-- 'laws.FnSplits', WHERE WHAT IT READS IS OF BULK AT MOST 1048576: true; the input reads as it did. -/
def fnSplitsUptoRow : OpenClaim := { program := "ytcppbgkocipnlaa", sum := "9e9bfd287ceff293cbf536791f3fc40f4baf7cd2a44f57f1aca7ed43aec29535", func := "loop.example/g00130/laws.FnSplits", spec := "fnSplits", unfollowed := true, recurses := true, apart := false, narrowed := true }
def FnSplitsUptoSaid : Prop := fnSplitsUptoRow.holds Try.pinned (OpenSpec.upto fnSplitsSpec)

/-- 'laws.FnTourOf', WHERE WHAT IT READS IS OF BULK AT MOST 1048576: true; the input reads as it did. -/
def fnTourOfUptoRow : OpenClaim := { program := "ytcppbgkocipnlaa", sum := "9e9bfd287ceff293cbf536791f3fc40f4baf7cd2a44f57f1aca7ed43aec29535", func := "loop.example/g00130/laws.FnTourOf", spec := "fnTourOf", unfollowed := true, recurses := true, apart := false, narrowed := true }
def FnTourOfUptoSaid : Prop := fnTourOfUptoRow.holds Try.pinned (OpenSpec.upto fnTourOfSpec)

/-- 'laws.FnExactTourOk', WHERE WHAT IT READS IS OF BULK AT MOST 1048576: true; the input reads as it did. -/
def fnExactTourOkUptoRow : OpenClaim := { program := "ytcppbgkocipnlaa", sum := "9e9bfd287ceff293cbf536791f3fc40f4baf7cd2a44f57f1aca7ed43aec29535", func := "loop.example/g00130/laws.FnExactTourOk", spec := "fnExactTourOk", apart := false, narrowed := true }
def FnExactTourOkUptoSaid : Prop := fnExactTourOkUptoRow.holds Try.pinned (OpenSpec.upto fnExactTourOkSpec)

/-- 'laws.FnExactReroot', WHERE WHAT IT READS IS OF BULK AT MOST 1048576: true; the input reads as it did. -/
def fnExactRerootUptoRow : OpenClaim := { program := "ytcppbgkocipnlaa", sum := "9e9bfd287ceff293cbf536791f3fc40f4baf7cd2a44f57f1aca7ed43aec29535", func := "loop.example/g00130/laws.FnExactReroot", spec := "fnExactReroot", apart := false, narrowed := true }
def FnExactRerootUptoSaid : Prop := fnExactRerootUptoRow.holds Try.pinned (OpenSpec.upto fnExactRerootSpec)

/-- 'laws.FnExactJoinTours', WHERE WHAT IT READS IS OF BULK AT MOST 1048576: true; the input reads as it did. -/
def fnExactJoinToursUptoRow : OpenClaim := { program := "ytcppbgkocipnlaa", sum := "9e9bfd287ceff293cbf536791f3fc40f4baf7cd2a44f57f1aca7ed43aec29535", func := "loop.example/g00130/laws.FnExactJoinTours", spec := "fnExactJoinTours", unfollowed := true, recurses := true, apart := false, narrowed := true }
def FnExactJoinToursUptoSaid : Prop := fnExactJoinToursUptoRow.holds Try.pinned (OpenSpec.upto fnExactJoinToursSpec)

end Rows
end Go.Proofs.Ytcppbgkocipnlaa
