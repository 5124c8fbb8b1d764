/-
  DERIVED. GIVEN WITH THE SEED: THE CARDS: each row of YtnpfgamlncfikaaGreatDoorRows.lean that lists a variable, with what it lists TIED to the program's text (the seventh form; the later family's looks); each row that meets fmt, with fmt's text TOLD by the authors' own Lean function (tested against real Go, not proved from fmt's source: count such statements apart). THE CARD IS WHAT COUNTS. Prove the row's statement (the work); the ties are given (YtnpfgamlncfikaaGreatDoorTie.lean); close each card by the builder's one call (the guide's Derived/Test/ToyasCard.lean, 'card_holds'). Laid BY PROGRAM, IN A SANDBOX (cutbox-door.mjs). By AI agents, Wed Nov 11 2026. No macro, syntax, notation, axiom, sorry.
-/
import Derived.Test.YtnpfgamlncfikaaGreatDoorRows
import GoSem.ClaimSeven
namespace Go.Proofs.YtnpfgamlncfikaaGreatDoor
namespace Rows

/-- THE TIED CARD OF 'laws.FnDefs'. -/
def fnDefsCard : Claim7 := { stood := { row := fnDefsRow, standIns := [], harness := (true, "0c52a7f224679dbc44eb7f271219d550cd269a0a56cb24eeb8001de59e6c075f"), looks := true }, kinds := [], alts := [], laidByText := true, laidKinds := [.handle, .data, .sentinel], laidTests := true, laidLooks := .later }
def FnDefsCardSaid : Prop := Claim7.holds Tryz.pinned (.plain (OpenSpec.ofChange fnDefsSpec)) fnDefsCard

/-- THE TIED CARD OF 'laws.FnDefsRead'. -/
def fnDefsReadCard : Claim7 := { stood := { row := fnDefsReadRow, standIns := [], harness := (true, "0c52a7f224679dbc44eb7f271219d550cd269a0a56cb24eeb8001de59e6c075f"), looks := true }, kinds := [], alts := [], laidByText := true, laidKinds := [.handle, .data, .sentinel], laidTests := true, laidLooks := .later }
def FnDefsReadCardSaid : Prop := Claim7.holds Tryz.pinned (.plain (OpenSpec.ofChange fnDefsReadSpec)) fnDefsReadCard

/-- THE TIED CARD OF 'laws.FnExactParseDefs'. -/
def fnExactParseDefsCard : Claim7 := { stood := { row := fnExactParseDefsRow, standIns := [], harness := (true, "0c52a7f224679dbc44eb7f271219d550cd269a0a56cb24eeb8001de59e6c075f"), looks := true }, kinds := [], alts := [], laidByText := true, laidKinds := [.handle, .data, .sentinel], laidTests := true, laidLooks := .later }
def FnExactParseDefsCardSaid : Prop := Claim7.holds Tryz.pinned (.plain (OpenSpec.ofChange fnExactParseDefsSpec)) fnExactParseDefsCard

/-- THE TIED CARD OF 'laws.FnExactDefsText'. -/
def fnExactDefsTextCard : Claim7 := { stood := { row := fnExactDefsTextRow, standIns := [], harness := (true, "0c52a7f224679dbc44eb7f271219d550cd269a0a56cb24eeb8001de59e6c075f"), looks := true }, kinds := [], alts := [], laidByText := true, laidKinds := [.handle, .data], laidTests := true, laidLooks := .later }
def FnExactDefsTextCardSaid : Prop := Claim7.holds Tryz.pinned (.plain (OpenSpec.ofChange fnExactDefsTextSpec)) fnExactDefsTextCard

/-- THE TIED CARD OF 'laws.FnExactFirstBad'. -/
def fnExactFirstBadCard : Claim7 := { stood := { row := fnExactFirstBadRow, standIns := [], harness := (true, "0c52a7f224679dbc44eb7f271219d550cd269a0a56cb24eeb8001de59e6c075f"), looks := true }, kinds := [], alts := [], laidByText := true, laidKinds := [.handle], laidTests := true, laidLooks := .later }
def FnExactFirstBadCardSaid : Prop := Claim7.holds Tryz.pinned (.plain (OpenSpec.ofChange fnExactFirstBadSpec)) fnExactFirstBadCard

/-- THE SECOND FORM's CARD OF 'laws.FnDefs'. -/
def fnDefsUptoCard : Claim7 := { stood := { row := fnDefsUptoRow, standIns := [], harness := (true, "0c52a7f224679dbc44eb7f271219d550cd269a0a56cb24eeb8001de59e6c075f"), looks := true }, kinds := [], alts := [], laidByText := true, laidKinds := [.handle, .data, .sentinel], laidTests := true, laidLooks := .later }
def FnDefsUptoCardSaid : Prop := Claim7.holds Tryz.pinned (.plain (OpenSpec.upto fnDefsSpec)) fnDefsUptoCard

/-- THE SECOND FORM's CARD OF 'laws.FnDefsRead'. -/
def fnDefsReadUptoCard : Claim7 := { stood := { row := fnDefsReadUptoRow, standIns := [], harness := (true, "0c52a7f224679dbc44eb7f271219d550cd269a0a56cb24eeb8001de59e6c075f"), looks := true }, kinds := [], alts := [], laidByText := true, laidKinds := [.handle, .data, .sentinel], laidTests := true, laidLooks := .later }
def FnDefsReadUptoCardSaid : Prop := Claim7.holds Tryz.pinned (.plain (OpenSpec.upto fnDefsReadSpec)) fnDefsReadUptoCard

/-- THE SECOND FORM's CARD OF 'laws.FnExactParseDefs'. -/
def fnExactParseDefsUptoCard : Claim7 := { stood := { row := fnExactParseDefsUptoRow, standIns := [], harness := (true, "0c52a7f224679dbc44eb7f271219d550cd269a0a56cb24eeb8001de59e6c075f"), looks := true }, kinds := [], alts := [], laidByText := true, laidKinds := [.handle, .data, .sentinel], laidTests := true, laidLooks := .later }
def FnExactParseDefsUptoCardSaid : Prop := Claim7.holds Tryz.pinned (.plain (OpenSpec.upto fnExactParseDefsSpec)) fnExactParseDefsUptoCard

/-- THE SECOND FORM's CARD OF 'laws.FnExactDefsText'. -/
def fnExactDefsTextUptoCard : Claim7 := { stood := { row := fnExactDefsTextUptoRow, standIns := [], harness := (true, "0c52a7f224679dbc44eb7f271219d550cd269a0a56cb24eeb8001de59e6c075f"), looks := true }, kinds := [], alts := [], laidByText := true, laidKinds := [.handle, .data], laidTests := true, laidLooks := .later }
def FnExactDefsTextUptoCardSaid : Prop := Claim7.holds Tryz.pinned (.plain (OpenSpec.upto fnExactDefsTextSpec)) fnExactDefsTextUptoCard

/-- THE SECOND FORM's CARD OF 'laws.FnExactFirstBad'. -/
def fnExactFirstBadUptoCard : Claim7 := { stood := { row := fnExactFirstBadUptoRow, standIns := [], harness := (true, "0c52a7f224679dbc44eb7f271219d550cd269a0a56cb24eeb8001de59e6c075f"), looks := true }, kinds := [], alts := [], laidByText := true, laidKinds := [.handle], laidTests := true, laidLooks := .later }
def FnExactFirstBadUptoCardSaid : Prop := Claim7.holds Tryz.pinned (.plain (OpenSpec.upto fnExactFirstBadSpec)) fnExactFirstBadUptoCard
end Rows
end Go.Proofs.YtnpfgamlncfikaaGreatDoor
