/-
  DERIVED. GIVEN WITH THE SEED: THE CARDS: each row of YtfjlmkphnciglatGreatDoorRows.lean that lists a variable, with what it lists TIED to the program's text (the seventh form; the later family's looks); each row that meets fmt, with fmt's text TOLD by the authors' own Lean function (tested against real Go, not proved from fmt's source: count such statements apart). THE CARD IS WHAT COUNTS. Prove the row's statement (the work); the ties are given (YtfjlmkphnciglatGreatDoorTie.lean); close each card by the builder's one call (the guide's Derived/Test/ToyasCard.lean, 'card_holds'). Laid BY PROGRAM, IN A SANDBOX (cutbox-door.mjs). By AI agents, Wed Nov 11 2026. No macro, syntax, notation, axiom, sorry.
-/
import Derived.Test.YtfjlmkphnciglatGreatDoorRows
import GoSem.ClaimSeven
namespace Go.Proofs.YtfjlmkphnciglatGreatDoor
namespace Rows

/-- THE TIED CARD OF 'laws.FnExactCheckDef'. -/
def fnExactCheckDefCard : Claim7 := { stood := { row := fnExactCheckDefRow, standIns := [], harness := (true, "fa1d6646a21e03dcca996d684de40ccec7e2b1c50788e5bc3fadf782c7aa9af8"), looks := true }, kinds := [], alts := [], laidByText := true, laidKinds := [.handle], laidTests := true, laidLooks := .later }
def FnExactCheckDefCardSaid : Prop := Claim7.holds Tryz.pinned (.plain (OpenSpec.ofChange fnExactCheckDefSpec)) fnExactCheckDefCard

/-- THE TIED CARD OF 'laws.FnExactDefText'. -/
def fnExactDefTextCard : Claim7 := { stood := { row := fnExactDefTextRow, standIns := [], harness := (true, "fa1d6646a21e03dcca996d684de40ccec7e2b1c50788e5bc3fadf782c7aa9af8"), looks := true }, kinds := [], alts := [], laidByText := true, laidKinds := [.handle, .data], laidTests := true, laidLooks := .later }
def FnExactDefTextCardSaid : Prop := Claim7.holds Tryz.pinned (.plain (OpenSpec.ofChange fnExactDefTextSpec)) fnExactDefTextCard

/-- THE SECOND FORM's CARD OF 'laws.FnExactCheckDef'. -/
def fnExactCheckDefUptoCard : Claim7 := { stood := { row := fnExactCheckDefUptoRow, standIns := [], harness := (true, "fa1d6646a21e03dcca996d684de40ccec7e2b1c50788e5bc3fadf782c7aa9af8"), looks := true }, kinds := [], alts := [], laidByText := true, laidKinds := [.handle], laidTests := true, laidLooks := .later }
def FnExactCheckDefUptoCardSaid : Prop := Claim7.holds Tryz.pinned (.plain (OpenSpec.upto fnExactCheckDefSpec)) fnExactCheckDefUptoCard

/-- THE SECOND FORM's CARD OF 'laws.FnExactDefText'. -/
def fnExactDefTextUptoCard : Claim7 := { stood := { row := fnExactDefTextUptoRow, standIns := [], harness := (true, "fa1d6646a21e03dcca996d684de40ccec7e2b1c50788e5bc3fadf782c7aa9af8"), looks := true }, kinds := [], alts := [], laidByText := true, laidKinds := [.handle, .data], laidTests := true, laidLooks := .later }
def FnExactDefTextUptoCardSaid : Prop := Claim7.holds Tryz.pinned (.plain (OpenSpec.upto fnExactDefTextSpec)) fnExactDefTextUptoCard
end Rows
end Go.Proofs.YtfjlmkphnciglatGreatDoor
