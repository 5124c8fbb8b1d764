/-
  DERIVED. GIVEN WITH THE SEED: THE CARDS: each row of YtjoimkfpenbkmaaGreatDoorRows.lean that lists a variable, with what it lists TIED to the program's text (the seventh form; the later family's looks); each row that meets fmt, with fmt's text TOLD by the authors' own Lean function (tested against real Go, not proved from fmt's source: count such statements apart). THE CARD IS WHAT COUNTS. Prove the row's statement (the work); the ties are given (YtjoimkfpenbkmaaGreatDoorTie.lean); close each card by the builder's one call (the guide's Derived/Test/ToyasCard.lean, 'card_holds'). Laid BY PROGRAM, IN A SANDBOX (cutbox-door.mjs). By AI agents, Wed Nov 11 2026. No macro, syntax, notation, axiom, sorry.
-/
import Derived.Test.YtjoimkfpenbkmaaGreatDoorRows
import GoSem.ClaimSeven
namespace Go.Proofs.YtjoimkfpenbkmaaGreatDoor
namespace Rows

/-- THE TIED CARD OF 'laws.FnPlans'. -/
def fnPlansCard : Claim7 := { stood := { row := fnPlansRow, standIns := [], harness := (true, "951bc76232e18f020bb1b175f3b3852efce1295458bdae4b73ce1dc065f17f81"), looks := true }, kinds := [], alts := [], laidByText := true, laidKinds := [.handle], laidTests := true, laidLooks := .later }
def FnPlansCardSaid : Prop := Claim7.holds Tryz.pinned (.plain (OpenSpec.ofChange fnPlansSpec)) fnPlansCard

/-- THE TIED CARD OF 'laws.FnRowKeys'. -/
def fnRowKeysCard : Claim7 := { stood := { row := fnRowKeysRow, standIns := [], harness := (true, "951bc76232e18f020bb1b175f3b3852efce1295458bdae4b73ce1dc065f17f81"), looks := true }, kinds := [], alts := [], laidByText := true, laidKinds := [.handle], laidTests := true, laidLooks := .later }
def FnRowKeysCardSaid : Prop := Claim7.holds Tryz.pinned (.plain (OpenSpec.ofChange fnRowKeysSpec)) fnRowKeysCard

/-- THE TIED CARD OF 'laws.FnRowKeysBent'. -/
def fnRowKeysBentCard : Claim7 := { stood := { row := fnRowKeysBentRow, standIns := [], harness := (true, "951bc76232e18f020bb1b175f3b3852efce1295458bdae4b73ce1dc065f17f81"), looks := true }, kinds := [], alts := [], laidByText := true, laidKinds := [.handle], laidTests := true, laidLooks := .later }
def FnRowKeysBentCardSaid : Prop := Claim7.holds Tryz.pinned (.plain (OpenSpec.ofChange fnRowKeysBentSpec)) fnRowKeysBentCard

/-- THE TIED CARD OF 'laws.FnExactPrimaryPlan'. -/
def fnExactPrimaryPlanCard : Claim7 := { stood := { row := fnExactPrimaryPlanRow, standIns := [], harness := (true, "951bc76232e18f020bb1b175f3b3852efce1295458bdae4b73ce1dc065f17f81"), looks := true }, kinds := [], alts := [], laidByText := true, laidKinds := [.handle], laidTests := true, laidLooks := .later }
def FnExactPrimaryPlanCardSaid : Prop := Claim7.holds Tryz.pinned (.plain (OpenSpec.ofChange fnExactPrimaryPlanSpec)) fnExactPrimaryPlanCard

/-- THE TIED CARD OF 'laws.FnExactIndexPlan'. -/
def fnExactIndexPlanCard : Claim7 := { stood := { row := fnExactIndexPlanRow, standIns := [], harness := (true, "951bc76232e18f020bb1b175f3b3852efce1295458bdae4b73ce1dc065f17f81"), looks := true }, kinds := [], alts := [], laidByText := true, laidKinds := [.handle], laidTests := true, laidLooks := .later }
def FnExactIndexPlanCardSaid : Prop := Claim7.holds Tryz.pinned (.plain (OpenSpec.ofChange fnExactIndexPlanSpec)) fnExactIndexPlanCard

/-- THE TIED CARD OF 'laws.FnExactRowPlan'. -/
def fnExactRowPlanCard : Claim7 := { stood := { row := fnExactRowPlanRow, standIns := [], harness := (true, "951bc76232e18f020bb1b175f3b3852efce1295458bdae4b73ce1dc065f17f81"), looks := true }, kinds := [], alts := [], laidByText := true, laidKinds := [.handle], laidTests := true, laidLooks := .later }
def FnExactRowPlanCardSaid : Prop := Claim7.holds Tryz.pinned (.plain (OpenSpec.ofChange fnExactRowPlanSpec)) fnExactRowPlanCard

/-- THE SECOND FORM's CARD OF 'laws.FnPlans'. -/
def fnPlansUptoCard : Claim7 := { stood := { row := fnPlansUptoRow, standIns := [], harness := (true, "951bc76232e18f020bb1b175f3b3852efce1295458bdae4b73ce1dc065f17f81"), looks := true }, kinds := [], alts := [], laidByText := true, laidKinds := [.handle], laidTests := true, laidLooks := .later }
def FnPlansUptoCardSaid : Prop := Claim7.holds Tryz.pinned (.plain (OpenSpec.upto fnPlansSpec)) fnPlansUptoCard

/-- THE SECOND FORM's CARD OF 'laws.FnRowKeys'. -/
def fnRowKeysUptoCard : Claim7 := { stood := { row := fnRowKeysUptoRow, standIns := [], harness := (true, "951bc76232e18f020bb1b175f3b3852efce1295458bdae4b73ce1dc065f17f81"), looks := true }, kinds := [], alts := [], laidByText := true, laidKinds := [.handle], laidTests := true, laidLooks := .later }
def FnRowKeysUptoCardSaid : Prop := Claim7.holds Tryz.pinned (.plain (OpenSpec.upto fnRowKeysSpec)) fnRowKeysUptoCard

/-- THE SECOND FORM's CARD OF 'laws.FnRowKeysBent'. -/
def fnRowKeysBentUptoCard : Claim7 := { stood := { row := fnRowKeysBentUptoRow, standIns := [], harness := (true, "951bc76232e18f020bb1b175f3b3852efce1295458bdae4b73ce1dc065f17f81"), looks := true }, kinds := [], alts := [], laidByText := true, laidKinds := [.handle], laidTests := true, laidLooks := .later }
def FnRowKeysBentUptoCardSaid : Prop := Claim7.holds Tryz.pinned (.plain (OpenSpec.upto fnRowKeysBentSpec)) fnRowKeysBentUptoCard

/-- THE SECOND FORM's CARD OF 'laws.FnExactPrimaryPlan'. -/
def fnExactPrimaryPlanUptoCard : Claim7 := { stood := { row := fnExactPrimaryPlanUptoRow, standIns := [], harness := (true, "951bc76232e18f020bb1b175f3b3852efce1295458bdae4b73ce1dc065f17f81"), looks := true }, kinds := [], alts := [], laidByText := true, laidKinds := [.handle], laidTests := true, laidLooks := .later }
def FnExactPrimaryPlanUptoCardSaid : Prop := Claim7.holds Tryz.pinned (.plain (OpenSpec.upto fnExactPrimaryPlanSpec)) fnExactPrimaryPlanUptoCard

/-- THE SECOND FORM's CARD OF 'laws.FnExactIndexPlan'. -/
def fnExactIndexPlanUptoCard : Claim7 := { stood := { row := fnExactIndexPlanUptoRow, standIns := [], harness := (true, "951bc76232e18f020bb1b175f3b3852efce1295458bdae4b73ce1dc065f17f81"), looks := true }, kinds := [], alts := [], laidByText := true, laidKinds := [.handle], laidTests := true, laidLooks := .later }
def FnExactIndexPlanUptoCardSaid : Prop := Claim7.holds Tryz.pinned (.plain (OpenSpec.upto fnExactIndexPlanSpec)) fnExactIndexPlanUptoCard

/-- THE SECOND FORM's CARD OF 'laws.FnExactRowPlan'. -/
def fnExactRowPlanUptoCard : Claim7 := { stood := { row := fnExactRowPlanUptoRow, standIns := [], harness := (true, "951bc76232e18f020bb1b175f3b3852efce1295458bdae4b73ce1dc065f17f81"), looks := true }, kinds := [], alts := [], laidByText := true, laidKinds := [.handle], laidTests := true, laidLooks := .later }
def FnExactRowPlanUptoCardSaid : Prop := Claim7.holds Tryz.pinned (.plain (OpenSpec.upto fnExactRowPlanSpec)) fnExactRowPlanUptoCard
end Rows
end Go.Proofs.YtjoimkfpenbkmaaGreatDoor
