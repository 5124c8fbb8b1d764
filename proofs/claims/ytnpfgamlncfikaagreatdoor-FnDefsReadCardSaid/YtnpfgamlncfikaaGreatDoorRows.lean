/-
  NARROWER THAN 'FOR EVERY INPUT', by the rows' own cells (each row's printed sentence says how): FnDefs: ifaces, laid · FnDefsRead: ifaces, laid · FnExactParseDefs: ifaces, laid · FnExactDefsText: laid · FnExactFirstBad: laid.
  DERIVED. THE GIVEN ROWS OF THIS SEAT. 5 by the template 'for every input the law returns true; each argument reads behind the call as it read before'; 0 by the template 'total and deterministic' (their statements: YtnpfgamlncfikaaGreatDoorTotals.lean).
  GIVEN WITH THE SEED: the statements are not yours to turn. If you find one false, say at which input.
  Laid BY PROGRAM, IN A SANDBOX (cutbox-rows.mjs): the forced cells as the released guide's own fill.sh prints them over the translation 41304b82046182f3… (all of the seat's roots in one cut). By AI agents, Wed Nov 11 2026. No macro, syntax, notation, axiom, sorry.
-/
import Derived.Test.YtnpfgamlncfikaaGreatDoorChecked
import GoSem.Claim
import GoSem.ClaimJoined
import GoSem.ClaimMapViews
import Derived.JoinedTies
import Derived.KernelRfl
namespace Go.Proofs.YtnpfgamlncfikaaGreatDoor
/- THE CELL 'sum', in the pinned program and in every row, IS THE sha256 OF THE DUMP (.gsa) THAT YtnpfgamlncfikaaGreatDoorProg.lean LOADS. Nothing in Lean hashes anything: it is a label: what it is worth is what the hold of that sum in a sandbox is worth. -/
noncomputable def Tryz.pinned : Pinned := { name := "ytnpfgamlncfikaagreatdoor", sum := "41304b82046182f3eb3c0a293dd63fcc6be6366a3754cfb9eccf76aeef8d8ad3", checked := Tryz.checked }
namespace Rows
def none {H : Type} : Left H := { results := [], args := [] }

/- WHAT THE LISTED PACKAGE-LEVEL VARIABLES READ AS WHEN THE CALL BEGINS. Each datum BY PROGRAM (the guide's laid-datum.mjs) off the statement by which the dump's own 'gosem.cut.vars' lays the variable. In a bare row this is a premise. The card (YtnpfgamlncfikaaGreatDoorCards.lean) ties it to the program's text. -/
def laid_errors_errorType {H : Type} : DataW H := .iface "internal/reflectlite.rtype" (.agg [.ptr (.lit (.string [101, 114, 114, 111, 114]))])
def laid_loop_example_g00322_impl_typeNames {H : Type} : DataW H := .agg [.lit (.string []), .lit (.string [105, 110, 116]), .lit (.string [110, 117, 109]), .lit (.string [116, 101, 120, 116]), .lit (.string [98, 111, 111, 108])]
def laid_loop_example_g00322_impl_errUnread {H : Type} : DataW H := .iface "*errors.errorString" (.ptr (.agg [.lit (.string [110, 111, 32, 116, 97, 98, 108, 101, 115, 32, 99, 97, 110, 32, 98, 101, 32, 114, 101, 97, 100, 32, 111, 102, 32, 116, 104, 105, 115])]))

/-- 'laws.FnDefs': WHATEVER THE INPUT: true; the input reads as it did. -/
def fnDefsSpec : ChangeSpec := { name := "fnDefs", vars := ["loop.example/g00322/impl.typeNames", "loop.example/g00322/impl.errUnread"], fn := fun _ => fun
  | [d, g1, g2] => { results := [.lit (.bool true)], args := [d], vars := [g1, g2] }
  | _ => none }
def fnDefsRow : OpenClaim := { program := "ytnpfgamlncfikaagreatdoor", sum := "41304b82046182f3eb3c0a293dd63fcc6be6366a3754cfb9eccf76aeef8d8ad3", func := "loop.example/g00322/laws.FnDefs", spec := "fnDefs", inPlace := ["internal/reflectlite.ValueOf", "(internal/reflectlite.Value).Type", "(internal/reflectlite.Value).IsNil", "internal/reflectlite.TypeOf", "(internal/reflectlite.Value).Elem", "(internal/reflectlite.Value).Set", "internal/abi.NoEscape", "internal/bytealg.MakeNoZero"], unfollowed := true, recurses := true, named := ["errors.errorType", "loop.example/g00322/impl.typeNames", "loop.example/g00322/impl.errUnread"], ifaces := true, apart := false, laid := [("errors.errorType", laid_errors_errorType), ("loop.example/g00322/impl.typeNames", laid_loop_example_g00322_impl_typeNames), ("loop.example/g00322/impl.errUnread", laid_loop_example_g00322_impl_errUnread)] }
def FnDefsSaid : Prop := fnDefsRow.holds Tryz.pinned (OpenSpec.ofChange fnDefsSpec)

/-- ITS FALSE NEIGHBOUR: 'it returns false'. Refute it at one input. -/
def fnDefsWrong : ChangeSpec := { name := "fnDefs", vars := ["loop.example/g00322/impl.typeNames", "loop.example/g00322/impl.errUnread"], fn := fun _ => fun
  | [d, g1, g2] => { results := [.lit (.bool false)], args := [d], vars := [g1, g2] }
  | _ => none }
def FnDefsWrongFalsely : Prop := fnDefsRow.holds Tryz.pinned (OpenSpec.ofChange fnDefsWrong)

/-- 'laws.FnDefsRead': WHATEVER THE INPUT: true; the input reads as it did. -/
def fnDefsReadSpec : ChangeSpec := { name := "fnDefsRead", vars := ["loop.example/g00322/impl.errUnread", "loop.example/g00322/impl.typeNames"], fn := fun _ => fun
  | [d, g1, g2] => { results := [.lit (.bool true)], args := [d], vars := [g1, g2] }
  | _ => none }
def fnDefsReadRow : OpenClaim := { program := "ytnpfgamlncfikaagreatdoor", sum := "41304b82046182f3eb3c0a293dd63fcc6be6366a3754cfb9eccf76aeef8d8ad3", func := "loop.example/g00322/laws.FnDefsRead", spec := "fnDefsRead", inPlace := ["internal/reflectlite.ValueOf", "(internal/reflectlite.Value).Type", "(internal/reflectlite.Value).IsNil", "internal/reflectlite.TypeOf", "(internal/reflectlite.Value).Elem", "(internal/reflectlite.Value).Set", "internal/abi.NoEscape", "internal/bytealg.MakeNoZero"], unfollowed := true, recurses := true, named := ["loop.example/g00322/impl.errUnread", "loop.example/g00322/impl.typeNames", "errors.errorType"], ifaces := true, apart := false, laid := [("errors.errorType", laid_errors_errorType), ("loop.example/g00322/impl.typeNames", laid_loop_example_g00322_impl_typeNames), ("loop.example/g00322/impl.errUnread", laid_loop_example_g00322_impl_errUnread)] }
def FnDefsReadSaid : Prop := fnDefsReadRow.holds Tryz.pinned (OpenSpec.ofChange fnDefsReadSpec)

/-- ITS FALSE NEIGHBOUR: 'it returns false'. Refute it at one input. -/
def fnDefsReadWrong : ChangeSpec := { name := "fnDefsRead", vars := ["loop.example/g00322/impl.errUnread", "loop.example/g00322/impl.typeNames"], fn := fun _ => fun
  | [d, g1, g2] => { results := [.lit (.bool false)], args := [d], vars := [g1, g2] }
  | _ => none }
def FnDefsReadWrongFalsely : Prop := fnDefsReadRow.holds Tryz.pinned (OpenSpec.ofChange fnDefsReadWrong)

/-- 'laws.FnExactParseDefs': WHATEVER THE INPUT: true; the input reads as it did. -/
def fnExactParseDefsSpec : ChangeSpec := { name := "fnExactParseDefs", vars := ["loop.example/g00322/impl.errUnread", "loop.example/g00322/impl.typeNames"], fn := fun _ => fun
  | [d, g1, g2] => { results := [.lit (.bool true)], args := [d], vars := [g1, g2] }
  | _ => none }
def fnExactParseDefsRow : OpenClaim := { program := "ytnpfgamlncfikaagreatdoor", sum := "41304b82046182f3eb3c0a293dd63fcc6be6366a3754cfb9eccf76aeef8d8ad3", func := "loop.example/g00322/laws.FnExactParseDefs", spec := "fnExactParseDefs", inPlace := ["internal/reflectlite.ValueOf", "(internal/reflectlite.Value).Type", "(internal/reflectlite.Value).IsNil", "internal/reflectlite.TypeOf", "(internal/reflectlite.Value).Elem", "(internal/reflectlite.Value).Set"], unfollowed := true, recurses := true, named := ["loop.example/g00322/impl.errUnread", "loop.example/g00322/impl.typeNames", "errors.errorType"], ifaces := true, apart := false, laid := [("errors.errorType", laid_errors_errorType), ("loop.example/g00322/impl.typeNames", laid_loop_example_g00322_impl_typeNames), ("loop.example/g00322/impl.errUnread", laid_loop_example_g00322_impl_errUnread)] }
def FnExactParseDefsSaid : Prop := fnExactParseDefsRow.holds Tryz.pinned (OpenSpec.ofChange fnExactParseDefsSpec)

/-- ITS FALSE NEIGHBOUR: 'it returns false'. Refute it at one input. -/
def fnExactParseDefsWrong : ChangeSpec := { name := "fnExactParseDefs", vars := ["loop.example/g00322/impl.errUnread", "loop.example/g00322/impl.typeNames"], fn := fun _ => fun
  | [d, g1, g2] => { results := [.lit (.bool false)], args := [d], vars := [g1, g2] }
  | _ => none }
def FnExactParseDefsWrongFalsely : Prop := fnExactParseDefsRow.holds Tryz.pinned (OpenSpec.ofChange fnExactParseDefsWrong)

/-- 'laws.FnExactDefsText': WHATEVER THE INPUT: true; the input reads as it did. -/
def fnExactDefsTextSpec : ChangeSpec := { name := "fnExactDefsText", vars := ["loop.example/g00322/impl.typeNames"], fn := fun _ => fun
  | [d, g1] => { results := [.lit (.bool true)], args := [d], vars := [g1] }
  | _ => none }
def fnExactDefsTextRow : OpenClaim := { program := "ytnpfgamlncfikaagreatdoor", sum := "41304b82046182f3eb3c0a293dd63fcc6be6366a3754cfb9eccf76aeef8d8ad3", func := "loop.example/g00322/laws.FnExactDefsText", spec := "fnExactDefsText", inPlace := ["internal/reflectlite.ValueOf", "(internal/reflectlite.Value).Type", "(internal/reflectlite.Value).IsNil", "internal/reflectlite.TypeOf", "(internal/reflectlite.Value).Elem", "(internal/reflectlite.Value).Set", "internal/abi.NoEscape", "internal/bytealg.MakeNoZero"], unfollowed := true, recurses := true, named := ["errors.errorType", "loop.example/g00322/impl.typeNames"], apart := false, laid := [("errors.errorType", laid_errors_errorType), ("loop.example/g00322/impl.typeNames", laid_loop_example_g00322_impl_typeNames)] }
def FnExactDefsTextSaid : Prop := fnExactDefsTextRow.holds Tryz.pinned (OpenSpec.ofChange fnExactDefsTextSpec)

/-- ITS FALSE NEIGHBOUR: 'it returns false'. Refute it at one input. -/
def fnExactDefsTextWrong : ChangeSpec := { name := "fnExactDefsText", vars := ["loop.example/g00322/impl.typeNames"], fn := fun _ => fun
  | [d, g1] => { results := [.lit (.bool false)], args := [d], vars := [g1] }
  | _ => none }
def FnExactDefsTextWrongFalsely : Prop := fnExactDefsTextRow.holds Tryz.pinned (OpenSpec.ofChange fnExactDefsTextWrong)

/-- 'laws.FnExactFirstBad': WHATEVER THE INPUT: true; the input reads as it did. -/
def fnExactFirstBadSpec : ChangeSpec := { name := "fnExactFirstBad", fn := fun _ => fun
  | [d] => { results := [.lit (.bool true)], args := [d] }
  | _ => none }
def fnExactFirstBadRow : OpenClaim := { program := "ytnpfgamlncfikaagreatdoor", sum := "41304b82046182f3eb3c0a293dd63fcc6be6366a3754cfb9eccf76aeef8d8ad3", func := "loop.example/g00322/laws.FnExactFirstBad", spec := "fnExactFirstBad", inPlace := ["internal/reflectlite.ValueOf", "(internal/reflectlite.Value).Type", "(internal/reflectlite.Value).IsNil", "internal/reflectlite.TypeOf", "(internal/reflectlite.Value).Elem", "(internal/reflectlite.Value).Set"], unfollowed := true, recurses := true, named := ["errors.errorType"], apart := false, laid := [("errors.errorType", laid_errors_errorType)] }
def FnExactFirstBadSaid : Prop := fnExactFirstBadRow.holds Tryz.pinned (OpenSpec.ofChange fnExactFirstBadSpec)

/-- ITS FALSE NEIGHBOUR: 'it returns false'. Refute it at one input. -/
def fnExactFirstBadWrong : ChangeSpec := { name := "fnExactFirstBad", fn := fun _ => fun
  | [d] => { results := [.lit (.bool false)], args := [d] }
  | _ => none }
def FnExactFirstBadWrongFalsely : Prop := fnExactFirstBadRow.holds Tryz.pinned (OpenSpec.ofChange fnExactFirstBadWrong)

/- THE SECOND FORM. 'bulk': how many values and letters a reading holds, each counted each time it is reached (what is shared counts as often as it is met; a slice's spare places count too). A statement '..UptoSaid' is the law's where the arguments, and the package variables that the reading takes, are together of bulk at most 1048576: NARROWER than '..Said'. Prove '..Said' where nothing that the law and all that it calls make is longer than what came in: it says more and counts as full. Else prove '..UptoSaid'. A law counts once. -/
mutual
def uptoBulk {H : Type} : DataW H → Nat
  | .lit (.string bytes) => bytes.length + 1
  | .lit _ => 1
  | .nil => 1
  | .ptr d => uptoBulk d + 1
  | .slice elems spare => uptoBulkAll elems + uptoBulkAll spare + 1
  | .agg parts => uptoBulkAll parts + 1
  | .iface _ d => uptoBulk d + 1
  | .map entries => uptoBulkEntries entries + 1
  | .held _ => 1
def uptoBulkAll {H : Type} : List (DataW H) → Nat
  | [] => 0
  | d :: r => uptoBulk d + uptoBulkAll r
def uptoBulkEntries {H : Type} : List (Lit × DataW H) → Nat
  | [] => 0
  | x :: r => uptoBulkEntry x + uptoBulkEntries r
def uptoBulkEntry {H : Type} : Lit × DataW H → Nat
  | (.string bytes, d) => bytes.length + uptoBulk d + 1
  | (_, d) => uptoBulk d + 1
 end
def uptoSmall : (H : Type) → List (DataW H) → Bool := fun _ ds => decide (uptoBulkAll ds ≤ 1048576)
def OpenSpec.upto (s : _root_.Go.ChangeSpec) : _root_.Go.OpenSpec := { _root_.Go.OpenSpec.ofChange s with cond := some uptoSmall }

/-- 'laws.FnDefs', WHERE WHAT IT READS IS OF BULK AT MOST 1048576: true; the input reads as it did. -/
def fnDefsUptoRow : OpenClaim := { program := "ytnpfgamlncfikaagreatdoor", sum := "41304b82046182f3eb3c0a293dd63fcc6be6366a3754cfb9eccf76aeef8d8ad3", func := "loop.example/g00322/laws.FnDefs", spec := "fnDefs", inPlace := ["internal/reflectlite.ValueOf", "(internal/reflectlite.Value).Type", "(internal/reflectlite.Value).IsNil", "internal/reflectlite.TypeOf", "(internal/reflectlite.Value).Elem", "(internal/reflectlite.Value).Set", "internal/abi.NoEscape", "internal/bytealg.MakeNoZero"], unfollowed := true, recurses := true, named := ["errors.errorType", "loop.example/g00322/impl.typeNames", "loop.example/g00322/impl.errUnread"], ifaces := true, apart := false, laid := [("errors.errorType", laid_errors_errorType), ("loop.example/g00322/impl.typeNames", laid_loop_example_g00322_impl_typeNames), ("loop.example/g00322/impl.errUnread", laid_loop_example_g00322_impl_errUnread)], narrowed := true }
def FnDefsUptoSaid : Prop := fnDefsUptoRow.holds Tryz.pinned (OpenSpec.upto fnDefsSpec)

/-- 'laws.FnDefsRead', WHERE WHAT IT READS IS OF BULK AT MOST 1048576: true; the input reads as it did. -/
def fnDefsReadUptoRow : OpenClaim := { program := "ytnpfgamlncfikaagreatdoor", sum := "41304b82046182f3eb3c0a293dd63fcc6be6366a3754cfb9eccf76aeef8d8ad3", func := "loop.example/g00322/laws.FnDefsRead", spec := "fnDefsRead", inPlace := ["internal/reflectlite.ValueOf", "(internal/reflectlite.Value).Type", "(internal/reflectlite.Value).IsNil", "internal/reflectlite.TypeOf", "(internal/reflectlite.Value).Elem", "(internal/reflectlite.Value).Set", "internal/abi.NoEscape", "internal/bytealg.MakeNoZero"], unfollowed := true, recurses := true, named := ["loop.example/g00322/impl.errUnread", "loop.example/g00322/impl.typeNames", "errors.errorType"], ifaces := true, apart := false, laid := [("errors.errorType", laid_errors_errorType), ("loop.example/g00322/impl.typeNames", laid_loop_example_g00322_impl_typeNames), ("loop.example/g00322/impl.errUnread", laid_loop_example_g00322_impl_errUnread)], narrowed := true }
def FnDefsReadUptoSaid : Prop := fnDefsReadUptoRow.holds Tryz.pinned (OpenSpec.upto fnDefsReadSpec)

/-- 'laws.FnExactParseDefs', WHERE WHAT IT READS IS OF BULK AT MOST 1048576: true; the input reads as it did. -/
def fnExactParseDefsUptoRow : OpenClaim := { program := "ytnpfgamlncfikaagreatdoor", sum := "41304b82046182f3eb3c0a293dd63fcc6be6366a3754cfb9eccf76aeef8d8ad3", func := "loop.example/g00322/laws.FnExactParseDefs", spec := "fnExactParseDefs", inPlace := ["internal/reflectlite.ValueOf", "(internal/reflectlite.Value).Type", "(internal/reflectlite.Value).IsNil", "internal/reflectlite.TypeOf", "(internal/reflectlite.Value).Elem", "(internal/reflectlite.Value).Set"], unfollowed := true, recurses := true, named := ["loop.example/g00322/impl.errUnread", "loop.example/g00322/impl.typeNames", "errors.errorType"], ifaces := true, apart := false, laid := [("errors.errorType", laid_errors_errorType), ("loop.example/g00322/impl.typeNames", laid_loop_example_g00322_impl_typeNames), ("loop.example/g00322/impl.errUnread", laid_loop_example_g00322_impl_errUnread)], narrowed := true }
def FnExactParseDefsUptoSaid : Prop := fnExactParseDefsUptoRow.holds Tryz.pinned (OpenSpec.upto fnExactParseDefsSpec)

/-- 'laws.FnExactDefsText', WHERE WHAT IT READS IS OF BULK AT MOST 1048576: true; the input reads as it did. -/
def fnExactDefsTextUptoRow : OpenClaim := { program := "ytnpfgamlncfikaagreatdoor", sum := "41304b82046182f3eb3c0a293dd63fcc6be6366a3754cfb9eccf76aeef8d8ad3", func := "loop.example/g00322/laws.FnExactDefsText", spec := "fnExactDefsText", inPlace := ["internal/reflectlite.ValueOf", "(internal/reflectlite.Value).Type", "(internal/reflectlite.Value).IsNil", "internal/reflectlite.TypeOf", "(internal/reflectlite.Value).Elem", "(internal/reflectlite.Value).Set", "internal/abi.NoEscape", "internal/bytealg.MakeNoZero"], unfollowed := true, recurses := true, named := ["errors.errorType", "loop.example/g00322/impl.typeNames"], apart := false, laid := [("errors.errorType", laid_errors_errorType), ("loop.example/g00322/impl.typeNames", laid_loop_example_g00322_impl_typeNames)], narrowed := true }
def FnExactDefsTextUptoSaid : Prop := fnExactDefsTextUptoRow.holds Tryz.pinned (OpenSpec.upto fnExactDefsTextSpec)

/-- 'laws.FnExactFirstBad', WHERE WHAT IT READS IS OF BULK AT MOST 1048576: true; the input reads as it did. -/
def fnExactFirstBadUptoRow : OpenClaim := { program := "ytnpfgamlncfikaagreatdoor", sum := "41304b82046182f3eb3c0a293dd63fcc6be6366a3754cfb9eccf76aeef8d8ad3", func := "loop.example/g00322/laws.FnExactFirstBad", spec := "fnExactFirstBad", inPlace := ["internal/reflectlite.ValueOf", "(internal/reflectlite.Value).Type", "(internal/reflectlite.Value).IsNil", "internal/reflectlite.TypeOf", "(internal/reflectlite.Value).Elem", "(internal/reflectlite.Value).Set"], unfollowed := true, recurses := true, named := ["errors.errorType"], apart := false, laid := [("errors.errorType", laid_errors_errorType)], narrowed := true }
def FnExactFirstBadUptoSaid : Prop := fnExactFirstBadUptoRow.holds Tryz.pinned (OpenSpec.upto fnExactFirstBadSpec)

end Rows
end Go.Proofs.YtnpfgamlncfikaaGreatDoor
