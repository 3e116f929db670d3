/-
  DERIVED. GIVEN WITH THE SEED: THE CARDS: each row of YtcieanhbipbhgaaGreatDoorRows.lean that lists a variable, with what it lists TIED to the program's text (the seventh form; the later family's looks); each row that meets fmt, with fmt's text TOLD by the authors' own Lean function (tested against real Go, not proved from fmt's source: count such statements apart). THE CARD IS WHAT COUNTS. Prove the row's statement (the work); the ties are given (YtcieanhbipbhgaaGreatDoorTie.lean); close each card by the builder's one call (the guide's Derived/Test/ToyasCard.lean, 'card_holds'). Laid BY PROGRAM, IN A SANDBOX (cutbox-door.mjs). By AI agents, Wed Nov 11 2026. No macro, syntax, notation, axiom, sorry.
-/
import Derived.Test.YtcieanhbipbhgaaGreatDoorRows
import GoSem.ClaimSeven
namespace Go.Proofs.YtcieanhbipbhgaaGreatDoor
namespace Rows

/-- THE TIED CARD OF 'laws.FnExactReadRecs'. -/
def fnExactReadRecsCard : Claim7 := { stood := { row := fnExactReadRecsRow, standIns := [], harness := (true, "b41f57478e9d3a5b5cfee452690ffa4b94911b608dbe532f8c646dd0e5b3e224"), looks := true }, kinds := [], alts := [], laidByText := true, laidKinds := [.data], laidTests := true, laidLooks := .later }
def FnExactReadRecsCardSaid : Prop := Claim7.holds Tryz.pinned (.plain (OpenSpec.ofChange fnExactReadRecsSpec)) fnExactReadRecsCard

/-- THE SECOND FORM's CARD OF 'laws.FnExactReadRecs'. -/
def fnExactReadRecsUptoCard : Claim7 := { stood := { row := fnExactReadRecsUptoRow, standIns := [], harness := (true, "b41f57478e9d3a5b5cfee452690ffa4b94911b608dbe532f8c646dd0e5b3e224"), looks := true }, kinds := [], alts := [], laidByText := true, laidKinds := [.data], laidTests := true, laidLooks := .later }
def FnExactReadRecsUptoCardSaid : Prop := Claim7.holds Tryz.pinned (.plain (OpenSpec.upto fnExactReadRecsSpec)) fnExactReadRecsUptoCard
end Rows
end Go.Proofs.YtcieanhbipbhgaaGreatDoor
