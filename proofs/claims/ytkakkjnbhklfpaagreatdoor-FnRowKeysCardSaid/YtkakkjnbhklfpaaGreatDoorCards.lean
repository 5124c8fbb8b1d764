/-
  DERIVED. GIVEN WITH THE SEED: THE CARDS: each row of YtkakkjnbhklfpaaGreatDoorRows.lean that lists a variable, with what it lists TIED to the program's text (the seventh form; the later family's looks); each row that meets fmt, with fmt's text TOLD by the authors' own Lean function (tested against real Go, not proved from fmt's source: count such statements apart). THE CARD IS WHAT COUNTS. Prove the row's statement (the work); the ties are given (YtkakkjnbhklfpaaGreatDoorTie.lean); close each card by the builder's one call (the guide's Derived/Test/ToyasCard.lean, 'card_holds'). Laid BY PROGRAM, IN A SANDBOX (cutbox-door.mjs). By AI agents, Wed Nov 11 2026. No macro, syntax, notation, axiom, sorry.
-/
import Derived.Test.YtkakkjnbhklfpaaGreatDoorRows
import GoSem.ClaimSeven
namespace Go.Proofs.YtkakkjnbhklfpaaGreatDoor
namespace Rows

/-- THE TIED CARD OF 'laws.FnRowKeys'. -/
def fnRowKeysCard : Claim7 := { stood := { row := fnRowKeysRow, standIns := [], harness := (true, "00a8d68d92fda9b52a375b6edf69b81bc14f958e7e0aa0b75d6e981c8cf981fb"), looks := true }, kinds := [], alts := [], laidByText := true, laidKinds := [.handle], laidTests := true, laidLooks := .later }
def FnRowKeysCardSaid : Prop := Claim7.holds Tryz.pinned (.plain (OpenSpec.ofChange fnRowKeysSpec)) fnRowKeysCard

/-- THE TIED CARD OF 'laws.FnPlans'. -/
def fnPlansCard : Claim7 := { stood := { row := fnPlansRow, standIns := [], harness := (true, "00a8d68d92fda9b52a375b6edf69b81bc14f958e7e0aa0b75d6e981c8cf981fb"), looks := true }, kinds := [], alts := [], laidByText := true, laidKinds := [.handle], laidTests := true, laidLooks := .later }
def FnPlansCardSaid : Prop := Claim7.holds Tryz.pinned (.plain (OpenSpec.ofChange fnPlansSpec)) fnPlansCard

/-- THE SECOND FORM's CARD OF 'laws.FnRowKeys'. -/
def fnRowKeysUptoCard : Claim7 := { stood := { row := fnRowKeysUptoRow, standIns := [], harness := (true, "00a8d68d92fda9b52a375b6edf69b81bc14f958e7e0aa0b75d6e981c8cf981fb"), looks := true }, kinds := [], alts := [], laidByText := true, laidKinds := [.handle], laidTests := true, laidLooks := .later }
def FnRowKeysUptoCardSaid : Prop := Claim7.holds Tryz.pinned (.plain (OpenSpec.upto fnRowKeysSpec)) fnRowKeysUptoCard

/-- THE SECOND FORM's CARD OF 'laws.FnPlans'. -/
def fnPlansUptoCard : Claim7 := { stood := { row := fnPlansUptoRow, standIns := [], harness := (true, "00a8d68d92fda9b52a375b6edf69b81bc14f958e7e0aa0b75d6e981c8cf981fb"), looks := true }, kinds := [], alts := [], laidByText := true, laidKinds := [.handle], laidTests := true, laidLooks := .later }
def FnPlansUptoCardSaid : Prop := Claim7.holds Tryz.pinned (.plain (OpenSpec.upto fnPlansSpec)) fnPlansUptoCard
end Rows
end Go.Proofs.YtkakkjnbhklfpaaGreatDoor
