/-
  DERIVED. GIVEN WITH THE SEED: THE PROGRAM's TIES (one call each: nine closed facts by the kernel) AND EACH ROW's TIE, after the 31st guide's Derived/Test/Toyas{Tie, Card}.lean. No idea stands in it: it is a product of the set-up. Laid BY PROGRAM, IN A SANDBOX (cutbox-door.mjs). By AI agents, Wed Nov 11 2026. No macro, syntax, notation, axiom, sorry.
-/
import Derived.Test.YtnpfgamlncfikaaGreatDoorRows
import Derived.LaidByTextLater
import Derived.SevenTiedAt
import Derived.LaidSub
import Derived.LaidOnce
namespace Go.Proofs.YtnpfgamlncfikaaGreatDoor
open Go
set_option maxRecDepth 100000
theorem seatTie1 : Tryz.prog.laidByTextLater [("errors.errorType", Rows.laid_errors_errorType), ("loop.example/g00322/impl.typeNames", Rows.laid_loop_example_g00322_impl_typeNames), ("loop.example/g00322/impl.errUnread", Rows.laid_loop_example_g00322_impl_errUnread)] [.handle, .data, .sentinel] true :=
  Program.laidByTextLater_by_one 40 8 6 (by kernel_rfl) (by kernel_rfl) (by kernel_rfl) (by kernel_rfl) (by kernel_rfl) (by kernel_rfl) (fun _ _ => by kernel_rfl)
theorem noOwnUnsafe : Tryz.pinned.checked.prog.headLifts.contains "ownunsafe" = false := by kernel_rfl
theorem tie : Tryz.prog.laidByTextLater [("errors.errorType", Rows.laid_errors_errorType), ("loop.example/g00322/impl.typeNames", Rows.laid_loop_example_g00322_impl_typeNames), ("loop.example/g00322/impl.errUnread", Rows.laid_loop_example_g00322_impl_errUnread)] [.handle, .data, .sentinel] true :=
  Program.laidByTextLater.sub seatTie1 ["errors.errorType", "loop.example/g00322/impl.typeNames", "loop.example/g00322/impl.errUnread"] (by kernel_rfl) (by kernel_rfl)
theorem fnDefs_row_tie : Rows.fnDefsRow.laidByTextAt .later Tryz.pinned [.handle, .data, .sentinel] true :=
  OpenClaim.laidByTextAt_later rfl rfl tie noOwnUnsafe
theorem fnDefsRead_row_tie : Rows.fnDefsReadRow.laidByTextAt .later Tryz.pinned [.handle, .data, .sentinel] true :=
  OpenClaim.laidByTextAt_later rfl rfl tie noOwnUnsafe
theorem fnExactParseDefs_row_tie : Rows.fnExactParseDefsRow.laidByTextAt .later Tryz.pinned [.handle, .data, .sentinel] true :=
  OpenClaim.laidByTextAt_later rfl rfl tie noOwnUnsafe
theorem tie2 : Tryz.prog.laidByTextLater [("errors.errorType", Rows.laid_errors_errorType), ("loop.example/g00322/impl.typeNames", Rows.laid_loop_example_g00322_impl_typeNames)] [.handle, .data] true :=
  Program.laidByTextLater.sub seatTie1 ["errors.errorType", "loop.example/g00322/impl.typeNames"] (by kernel_rfl) (by kernel_rfl)
theorem fnExactDefsText_row_tie : Rows.fnExactDefsTextRow.laidByTextAt .later Tryz.pinned [.handle, .data] true :=
  OpenClaim.laidByTextAt_later rfl rfl tie2 noOwnUnsafe
theorem tie3 : Tryz.prog.laidByTextLater [("errors.errorType", Rows.laid_errors_errorType)] [.handle] true :=
  Program.laidByTextLater.sub seatTie1 ["errors.errorType"] (by kernel_rfl) (by kernel_rfl)
theorem fnExactFirstBad_row_tie : Rows.fnExactFirstBadRow.laidByTextAt .later Tryz.pinned [.handle] true :=
  OpenClaim.laidByTextAt_later rfl rfl tie3 noOwnUnsafe
theorem fnDefsUpto_row_tie : Rows.fnDefsUptoRow.laidByTextAt .later Tryz.pinned [.handle, .data, .sentinel] true :=
  OpenClaim.laidByTextAt_later rfl rfl tie noOwnUnsafe
theorem fnDefsReadUpto_row_tie : Rows.fnDefsReadUptoRow.laidByTextAt .later Tryz.pinned [.handle, .data, .sentinel] true :=
  OpenClaim.laidByTextAt_later rfl rfl tie noOwnUnsafe
theorem fnExactParseDefsUpto_row_tie : Rows.fnExactParseDefsUptoRow.laidByTextAt .later Tryz.pinned [.handle, .data, .sentinel] true :=
  OpenClaim.laidByTextAt_later rfl rfl tie noOwnUnsafe
theorem fnExactDefsTextUpto_row_tie : Rows.fnExactDefsTextUptoRow.laidByTextAt .later Tryz.pinned [.handle, .data] true :=
  OpenClaim.laidByTextAt_later rfl rfl tie2 noOwnUnsafe
theorem fnExactFirstBadUpto_row_tie : Rows.fnExactFirstBadUptoRow.laidByTextAt .later Tryz.pinned [.handle] true :=
  OpenClaim.laidByTextAt_later rfl rfl tie3 noOwnUnsafe
end Go.Proofs.YtnpfgamlncfikaaGreatDoor
