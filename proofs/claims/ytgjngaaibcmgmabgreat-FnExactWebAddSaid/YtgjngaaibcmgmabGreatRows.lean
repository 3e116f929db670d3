/-
  No cell of these rows narrows 'for every input' (looked for: loops, veiled, ifaces, maps, wideKeys, modest, calm, conditions, laid).
  DERIVED. THE GIVEN ROWS OF THIS SEAT. 5 by the template 'for every input the law returns true; each argument reads behind the call as it read before'; 0 by the template 'total and deterministic' (their statements: YtgjngaaibcmgmabGreatTotals.lean).
  GIVEN WITH THE SEED: the statements are not yours to turn. If you find one false, say at which input.
  Laid BY PROGRAM, IN A SANDBOX (cutbox-rows.mjs): the forced cells as the released guide's own fill.sh prints them over the translation 0a2bfb5464201c78… (all of the seat's roots in one cut). By AI agents, Wed Nov 11 2026. No macro, syntax, notation, axiom, sorry.
-/
import Derived.Test.YtgjngaaibcmgmabGreatChecked
import GoSem.Claim
import GoSem.ClaimJoined
import GoSem.ClaimMapViews
import Derived.JoinedTies
import Derived.KernelRfl
namespace Go.Proofs.YtgjngaaibcmgmabGreat
/- THE CELL 'sum', in the pinned program and in every row, IS THE sha256 OF THE DUMP (.gsa) THAT YtgjngaaibcmgmabGreatProg.lean LOADS. Nothing in Lean hashes anything: it is a label: what it is worth is what the hold of that sum in a sandbox is worth. -/
noncomputable def Tryz.pinned : Pinned := { name := "ytgjngaaibcmgmabgreat", sum := "0a2bfb5464201c7807b94c01769d6fb830841dc2343fc7021aabcb317b8ba09a", checked := Tryz.checked }
namespace Rows
def none {H : Type} : Left H := { results := [], args := [] }

/-- 'laws.FnExactWebOk': WHATEVER THE INPUT: true; the input reads as it did. -/
def fnExactWebOkSpec : ChangeSpec := { name := "fnExactWebOk", fn := fun _ => fun
  | [d] => { results := [.lit (.bool true)], args := [d] }
  | _ => none }
def fnExactWebOkRow : OpenClaim := { program := "ytgjngaaibcmgmabgreat", sum := "0a2bfb5464201c7807b94c01769d6fb830841dc2343fc7021aabcb317b8ba09a", func := "loop.example/g00130/laws.FnExactWebOk", spec := "fnExactWebOk", unfollowed := true, recurses := true, apart := false }
def FnExactWebOkSaid : Prop := fnExactWebOkRow.holds Tryz.pinned (OpenSpec.ofChange fnExactWebOkSpec)

/-- ITS FALSE NEIGHBOUR: 'it returns false'. Refute it at one input. -/
def fnExactWebOkWrong : ChangeSpec := { name := "fnExactWebOk", fn := fun _ => fun
  | [d] => { results := [.lit (.bool false)], args := [d] }
  | _ => none }
def FnExactWebOkWrongFalsely : Prop := fnExactWebOkRow.holds Tryz.pinned (OpenSpec.ofChange fnExactWebOkWrong)

/-- 'laws.FnExactWebAdd': WHATEVER THE INPUT: true; the input reads as it did. -/
def fnExactWebAddSpec : ChangeSpec := { name := "fnExactWebAdd", fn := fun _ => fun
  | [d1, d2] => { results := [.lit (.bool true)], args := [d1, d2] }
  | _ => none }
def fnExactWebAddRow : OpenClaim := { program := "ytgjngaaibcmgmabgreat", sum := "0a2bfb5464201c7807b94c01769d6fb830841dc2343fc7021aabcb317b8ba09a", func := "loop.example/g00130/laws.FnExactWebAdd", spec := "fnExactWebAdd", unfollowed := true, recurses := true, apart := false }
def FnExactWebAddSaid : Prop := fnExactWebAddRow.holds Tryz.pinned (OpenSpec.ofChange fnExactWebAddSpec)

/-- ITS FALSE NEIGHBOUR: 'it returns false'. Refute it at one input. -/
def fnExactWebAddWrong : ChangeSpec := { name := "fnExactWebAdd", fn := fun _ => fun
  | [d1, d2] => { results := [.lit (.bool false)], args := [d1, d2] }
  | _ => none }
def FnExactWebAddWrongFalsely : Prop := fnExactWebAddRow.holds Tryz.pinned (OpenSpec.ofChange fnExactWebAddWrong)

/-- 'laws.FnExactWebTake': WHATEVER THE INPUT: true; the input reads as it did. -/
def fnExactWebTakeSpec : ChangeSpec := { name := "fnExactWebTake", fn := fun _ => fun
  | [d1, d2] => { results := [.lit (.bool true)], args := [d1, d2] }
  | _ => none }
def fnExactWebTakeRow : OpenClaim := { program := "ytgjngaaibcmgmabgreat", sum := "0a2bfb5464201c7807b94c01769d6fb830841dc2343fc7021aabcb317b8ba09a", func := "loop.example/g00130/laws.FnExactWebTake", spec := "fnExactWebTake", unfollowed := true, recurses := true, apart := false }
def FnExactWebTakeSaid : Prop := fnExactWebTakeRow.holds Tryz.pinned (OpenSpec.ofChange fnExactWebTakeSpec)

/-- ITS FALSE NEIGHBOUR: 'it returns false'. Refute it at one input. -/
def fnExactWebTakeWrong : ChangeSpec := { name := "fnExactWebTake", fn := fun _ => fun
  | [d1, d2] => { results := [.lit (.bool false)], args := [d1, d2] }
  | _ => none }
def FnExactWebTakeWrongFalsely : Prop := fnExactWebTakeRow.holds Tryz.pinned (OpenSpec.ofChange fnExactWebTakeWrong)

/-- 'laws.FnExactWebTogether': WHATEVER THE INPUT: true; the input reads as it did. -/
def fnExactWebTogetherSpec : ChangeSpec := { name := "fnExactWebTogether", fn := fun _ => fun
  | [d1, d2, d3] => { results := [.lit (.bool true)], args := [d1, d2, d3] }
  | _ => none }
def fnExactWebTogetherRow : OpenClaim := { program := "ytgjngaaibcmgmabgreat", sum := "0a2bfb5464201c7807b94c01769d6fb830841dc2343fc7021aabcb317b8ba09a", func := "loop.example/g00130/laws.FnExactWebTogether", spec := "fnExactWebTogether", unfollowed := true, recurses := true, apart := false }
def FnExactWebTogetherSaid : Prop := fnExactWebTogetherRow.holds Tryz.pinned (OpenSpec.ofChange fnExactWebTogetherSpec)

/-- ITS FALSE NEIGHBOUR: 'it returns false'. Refute it at one input. -/
def fnExactWebTogetherWrong : ChangeSpec := { name := "fnExactWebTogether", fn := fun _ => fun
  | [d1, d2, d3] => { results := [.lit (.bool false)], args := [d1, d2, d3] }
  | _ => none }
def FnExactWebTogetherWrongFalsely : Prop := fnExactWebTogetherRow.holds Tryz.pinned (OpenSpec.ofChange fnExactWebTogetherWrong)

/-- 'laws.FnExactWebLabels': WHATEVER THE INPUT: true; the input reads as it did. -/
def fnExactWebLabelsSpec : ChangeSpec := { name := "fnExactWebLabels", fn := fun _ => fun
  | [d] => { results := [.lit (.bool true)], args := [d] }
  | _ => none }
def fnExactWebLabelsRow : OpenClaim := { program := "ytgjngaaibcmgmabgreat", sum := "0a2bfb5464201c7807b94c01769d6fb830841dc2343fc7021aabcb317b8ba09a", func := "loop.example/g00130/laws.FnExactWebLabels", spec := "fnExactWebLabels", unfollowed := true, recurses := true, apart := false }
def FnExactWebLabelsSaid : Prop := fnExactWebLabelsRow.holds Tryz.pinned (OpenSpec.ofChange fnExactWebLabelsSpec)

/-- ITS FALSE NEIGHBOUR: 'it returns false'. Refute it at one input. -/
def fnExactWebLabelsWrong : ChangeSpec := { name := "fnExactWebLabels", fn := fun _ => fun
  | [d] => { results := [.lit (.bool false)], args := [d] }
  | _ => none }
def FnExactWebLabelsWrongFalsely : Prop := fnExactWebLabelsRow.holds Tryz.pinned (OpenSpec.ofChange fnExactWebLabelsWrong)

/- THE SECOND FORM. 'bulk': how many values and letters a reading holds, each counted each time it is reached (what is shared counts as often as it is met; a slice's spare places count too). A statement '..UptoSaid' is the law's where the arguments, and the package variables that the reading takes, are together of bulk at most 1048576: NARROWER than '..Said'. Prove '..Said' where nothing that the law and all that it calls make is longer than what came in: it says more and counts as full. Else prove '..UptoSaid'. A law counts once. -/
mutual
def uptoBulk {H : Type} : DataW H → Nat
  | .lit (.string bytes) => bytes.length + 1
  | .lit _ => 1
  | .nil => 1
  | .ptr d => uptoBulk d + 1
  | .slice elems spare => uptoBulkAll elems + uptoBulkAll spare + 1
  | .agg parts => uptoBulkAll parts + 1
  | .iface _ d => uptoBulk d + 1
  | .map entries => uptoBulkEntries entries + 1
  | .held _ => 1
def uptoBulkAll {H : Type} : List (DataW H) → Nat
  | [] => 0
  | d :: r => uptoBulk d + uptoBulkAll r
def uptoBulkEntries {H : Type} : List (Lit × DataW H) → Nat
  | [] => 0
  | x :: r => uptoBulkEntry x + uptoBulkEntries r
def uptoBulkEntry {H : Type} : Lit × DataW H → Nat
  | (.string bytes, d) => bytes.length + uptoBulk d + 1
  | (_, d) => uptoBulk d + 1
 end
def uptoSmall : (H : Type) → List (DataW H) → Bool := fun _ ds => decide (uptoBulkAll ds ≤ 1048576)
def OpenSpec.upto (s : _root_.Go.ChangeSpec) : _root_.Go.OpenSpec := { _root_.Go.OpenSpec.ofChange s with cond := some uptoSmall }

/-- 'laws.FnExactWebOk', WHERE WHAT IT READS IS OF BULK AT MOST 1048576: true; the input reads as it did. -/
def fnExactWebOkUptoRow : OpenClaim := { program := "ytgjngaaibcmgmabgreat", sum := "0a2bfb5464201c7807b94c01769d6fb830841dc2343fc7021aabcb317b8ba09a", func := "loop.example/g00130/laws.FnExactWebOk", spec := "fnExactWebOk", unfollowed := true, recurses := true, apart := false, narrowed := true }
def FnExactWebOkUptoSaid : Prop := fnExactWebOkUptoRow.holds Tryz.pinned (OpenSpec.upto fnExactWebOkSpec)

/-- 'laws.FnExactWebAdd', WHERE WHAT IT READS IS OF BULK AT MOST 1048576: true; the input reads as it did. -/
def fnExactWebAddUptoRow : OpenClaim := { program := "ytgjngaaibcmgmabgreat", sum := "0a2bfb5464201c7807b94c01769d6fb830841dc2343fc7021aabcb317b8ba09a", func := "loop.example/g00130/laws.FnExactWebAdd", spec := "fnExactWebAdd", unfollowed := true, recurses := true, apart := false, narrowed := true }
def FnExactWebAddUptoSaid : Prop := fnExactWebAddUptoRow.holds Tryz.pinned (OpenSpec.upto fnExactWebAddSpec)

/-- 'laws.FnExactWebTake', WHERE WHAT IT READS IS OF BULK AT MOST 1048576: true; the input reads as it did. -/
def fnExactWebTakeUptoRow : OpenClaim := { program := "ytgjngaaibcmgmabgreat", sum := "0a2bfb5464201c7807b94c01769d6fb830841dc2343fc7021aabcb317b8ba09a", func := "loop.example/g00130/laws.FnExactWebTake", spec := "fnExactWebTake", unfollowed := true, recurses := true, apart := false, narrowed := true }
def FnExactWebTakeUptoSaid : Prop := fnExactWebTakeUptoRow.holds Tryz.pinned (OpenSpec.upto fnExactWebTakeSpec)

/-- 'laws.FnExactWebTogether', WHERE WHAT IT READS IS OF BULK AT MOST 1048576: true; the input reads as it did. -/
def fnExactWebTogetherUptoRow : OpenClaim := { program := "ytgjngaaibcmgmabgreat", sum := "0a2bfb5464201c7807b94c01769d6fb830841dc2343fc7021aabcb317b8ba09a", func := "loop.example/g00130/laws.FnExactWebTogether", spec := "fnExactWebTogether", unfollowed := true, recurses := true, apart := false, narrowed := true }
def FnExactWebTogetherUptoSaid : Prop := fnExactWebTogetherUptoRow.holds Tryz.pinned (OpenSpec.upto fnExactWebTogetherSpec)

/-- 'laws.FnExactWebLabels', WHERE WHAT IT READS IS OF BULK AT MOST 1048576: true; the input reads as it did. -/
def fnExactWebLabelsUptoRow : OpenClaim := { program := "ytgjngaaibcmgmabgreat", sum := "0a2bfb5464201c7807b94c01769d6fb830841dc2343fc7021aabcb317b8ba09a", func := "loop.example/g00130/laws.FnExactWebLabels", spec := "fnExactWebLabels", unfollowed := true, recurses := true, apart := false, narrowed := true }
def FnExactWebLabelsUptoSaid : Prop := fnExactWebLabelsUptoRow.holds Tryz.pinned (OpenSpec.upto fnExactWebLabelsSpec)

end Rows
end Go.Proofs.YtgjngaaibcmgmabGreat
