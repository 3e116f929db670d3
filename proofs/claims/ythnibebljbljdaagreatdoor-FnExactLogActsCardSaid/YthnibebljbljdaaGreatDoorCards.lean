/-
  DERIVED. GIVEN WITH THE SEED: THE CARDS: each row of YthnibebljbljdaaGreatDoorRows.lean that lists a variable, with what it lists TIED to the program's text (the seventh form; the later family's looks); each row that meets fmt, with fmt's text TOLD by the authors' own Lean function (tested against real Go, not proved from fmt's source: count such statements apart). THE CARD IS WHAT COUNTS. Prove the row's statement (the work); the ties are given (YthnibebljbljdaaGreatDoorTie.lean); close each card by the builder's one call (the guide's Derived/Test/ToyasCard.lean, 'card_holds'). Laid BY PROGRAM, IN A SANDBOX (cutbox-door.mjs). By AI agents, Wed Nov 11 2026. No macro, syntax, notation, axiom, sorry.
-/
import Derived.Test.YthnibebljbljdaaGreatDoorRows
import GoSem.ClaimSeven
namespace Go.Proofs.YthnibebljbljdaaGreatDoor
namespace Rows

/-- THE TIED CARD OF 'laws.FnExactReadRecs'. -/
def fnExactReadRecsCard : Claim7 := { stood := { row := fnExactReadRecsRow, standIns := [], harness := (true, "75792e79991539660fd413c8c581110f14f88924ce5efc3d4a85a20bdb1487e8"), looks := true }, kinds := [], alts := [], laidByText := true, laidKinds := [.data], laidTests := true, laidLooks := .later }
def FnExactReadRecsCardSaid : Prop := Claim7.holds Tryz.pinned (.plain (OpenSpec.ofChange fnExactReadRecsSpec)) fnExactReadRecsCard

/-- THE TIED CARD OF 'laws.FnExactLogActs'. -/
def fnExactLogActsCard : Claim7 := { stood := { row := fnExactLogActsRow, standIns := [], harness := (true, "75792e79991539660fd413c8c581110f14f88924ce5efc3d4a85a20bdb1487e8"), looks := true }, kinds := [], alts := [], laidByText := true, laidKinds := [.sentinel, .data], laidTests := true, laidLooks := .later }
def FnExactLogActsCardSaid : Prop := Claim7.holds Tryz.pinned (.plain (OpenSpec.ofChange fnExactLogActsSpec)) fnExactLogActsCard

/-- THE SECOND FORM's CARD OF 'laws.FnExactReadRecs'. -/
def fnExactReadRecsUptoCard : Claim7 := { stood := { row := fnExactReadRecsUptoRow, standIns := [], harness := (true, "75792e79991539660fd413c8c581110f14f88924ce5efc3d4a85a20bdb1487e8"), looks := true }, kinds := [], alts := [], laidByText := true, laidKinds := [.data], laidTests := true, laidLooks := .later }
def FnExactReadRecsUptoCardSaid : Prop := Claim7.holds Tryz.pinned (.plain (OpenSpec.upto fnExactReadRecsSpec)) fnExactReadRecsUptoCard

/-- THE SECOND FORM's CARD OF 'laws.FnExactLogActs'. -/
def fnExactLogActsUptoCard : Claim7 := { stood := { row := fnExactLogActsUptoRow, standIns := [], harness := (true, "75792e79991539660fd413c8c581110f14f88924ce5efc3d4a85a20bdb1487e8"), looks := true }, kinds := [], alts := [], laidByText := true, laidKinds := [.sentinel, .data], laidTests := true, laidLooks := .later }
def FnExactLogActsUptoCardSaid : Prop := Claim7.holds Tryz.pinned (.plain (OpenSpec.upto fnExactLogActsSpec)) fnExactLogActsUptoCard
end Rows
end Go.Proofs.YthnibebljbljdaaGreatDoor
