/-
  No cell of these rows narrows 'for every input' (looked for: loops, veiled, ifaces, maps, wideKeys, modest, calm, conditions, laid).
  DERIVED. THE GIVEN ROWS OF THIS SEAT. 4 by the template 'for every input the law returns true; each argument reads behind the call as it read before'; 0 by the template 'total and deterministic' (their statements: YthjddmhcppdleaoTotals.lean).
  GIVEN WITH THE SEED: the statements are not yours to turn. If you find one false, say at which input.
  Laid BY PROGRAM, IN A SANDBOX (cutbox-rows.mjs): the forced cells as the released guide's own fill.sh prints them over the translation 463cc67df0869f85… (all of the seat's roots in one cut). By AI agents, Wed Nov 11 2026. No macro, syntax, notation, axiom, sorry.
-/
import Derived.Test.YthjddmhcppdleaoChecked
import GoSem.Claim
import GoSem.ClaimJoined
import GoSem.ClaimMapViews
import Derived.JoinedTies
import Derived.KernelRfl
namespace Go.Proofs.Ythjddmhcppdleao
/- THE CELL 'sum', in the pinned program and in every row, IS THE sha256 OF THE DUMP (.gsa) THAT YthjddmhcppdleaoProg.lean LOADS. Nothing in Lean hashes anything: it is a label: what it is worth is what the hold of that sum in a sandbox is worth. -/
noncomputable def Try.pinned : Pinned := { name := "ythjddmhcppdleao", sum := "463cc67df0869f85ac5c42df09e773396e31e5d9ae0b745f200c696d65a37bc1", checked := Try.checked }
namespace Rows
def none {H : Type} : Left H := { results := [], args := [] }

/-- 'laws.FnExactSameVal': WHATEVER THE INPUT: true; the input reads as it did. -/
def fnExactSameValSpec : ChangeSpec := { name := "fnExactSameVal", fn := fun _ => fun
  | [d1, d2] => { results := [.lit (.bool true)], args := [d1, d2] }
  | _ => none }
def fnExactSameValRow : OpenClaim := { program := "ythjddmhcppdleao", sum := "463cc67df0869f85ac5c42df09e773396e31e5d9ae0b745f200c696d65a37bc1", func := "loop.example/g00322/laws.FnExactSameVal", spec := "fnExactSameVal", apart := false }
def FnExactSameValSaid : Prop := fnExactSameValRow.holds Try.pinned (OpenSpec.ofChange fnExactSameValSpec)

/-- ITS FALSE NEIGHBOUR: 'it returns false'. Refute it at one input. -/
def fnExactSameValWrong : ChangeSpec := { name := "fnExactSameVal", fn := fun _ => fun
  | [d1, d2] => { results := [.lit (.bool false)], args := [d1, d2] }
  | _ => none }
def FnExactSameValWrongFalsely : Prop := fnExactSameValRow.holds Try.pinned (OpenSpec.ofChange fnExactSameValWrong)

/-- 'laws.FnExactLessVal': WHATEVER THE INPUT: true; the input reads as it did. -/
def fnExactLessValSpec : ChangeSpec := { name := "fnExactLessVal", fn := fun _ => fun
  | [d1, d2] => { results := [.lit (.bool true)], args := [d1, d2] }
  | _ => none }
def fnExactLessValRow : OpenClaim := { program := "ythjddmhcppdleao", sum := "463cc67df0869f85ac5c42df09e773396e31e5d9ae0b745f200c696d65a37bc1", func := "loop.example/g00322/laws.FnExactLessVal", spec := "fnExactLessVal", apart := false }
def FnExactLessValSaid : Prop := fnExactLessValRow.holds Try.pinned (OpenSpec.ofChange fnExactLessValSpec)

/-- ITS FALSE NEIGHBOUR: 'it returns false'. Refute it at one input. -/
def fnExactLessValWrong : ChangeSpec := { name := "fnExactLessVal", fn := fun _ => fun
  | [d1, d2] => { results := [.lit (.bool false)], args := [d1, d2] }
  | _ => none }
def FnExactLessValWrongFalsely : Prop := fnExactLessValRow.holds Try.pinned (OpenSpec.ofChange fnExactLessValWrong)

/-- 'laws.FnExactSameRow': WHATEVER THE INPUT: true; the input reads as it did. -/
def fnExactSameRowSpec : ChangeSpec := { name := "fnExactSameRow", fn := fun _ => fun
  | [d1, d2] => { results := [.lit (.bool true)], args := [d1, d2] }
  | _ => none }
def fnExactSameRowRow : OpenClaim := { program := "ythjddmhcppdleao", sum := "463cc67df0869f85ac5c42df09e773396e31e5d9ae0b745f200c696d65a37bc1", func := "loop.example/g00322/laws.FnExactSameRow", spec := "fnExactSameRow", unfollowed := true, recurses := true, apart := false }
def FnExactSameRowSaid : Prop := fnExactSameRowRow.holds Try.pinned (OpenSpec.ofChange fnExactSameRowSpec)

/-- ITS FALSE NEIGHBOUR: 'it returns false'. Refute it at one input. -/
def fnExactSameRowWrong : ChangeSpec := { name := "fnExactSameRow", fn := fun _ => fun
  | [d1, d2] => { results := [.lit (.bool false)], args := [d1, d2] }
  | _ => none }
def FnExactSameRowWrongFalsely : Prop := fnExactSameRowRow.holds Try.pinned (OpenSpec.ofChange fnExactSameRowWrong)

/-- 'laws.FnExactPutEsc': WHATEVER THE INPUT: true; the input reads as it did. -/
def fnExactPutEscSpec : ChangeSpec := { name := "fnExactPutEsc", fn := fun _ => fun
  | [d1, d2] => { results := [.lit (.bool true)], args := [d1, d2] }
  | _ => none }
def fnExactPutEscRow : OpenClaim := { program := "ythjddmhcppdleao", sum := "463cc67df0869f85ac5c42df09e773396e31e5d9ae0b745f200c696d65a37bc1", func := "loop.example/g00322/laws.FnExactPutEsc", spec := "fnExactPutEsc", apart := false }
def FnExactPutEscSaid : Prop := fnExactPutEscRow.holds Try.pinned (OpenSpec.ofChange fnExactPutEscSpec)

/-- ITS FALSE NEIGHBOUR: 'it returns false'. Refute it at one input. -/
def fnExactPutEscWrong : ChangeSpec := { name := "fnExactPutEsc", fn := fun _ => fun
  | [d1, d2] => { results := [.lit (.bool false)], args := [d1, d2] }
  | _ => none }
def FnExactPutEscWrongFalsely : Prop := fnExactPutEscRow.holds Try.pinned (OpenSpec.ofChange fnExactPutEscWrong)

/- THE SECOND FORM. 'bulk': how many values and letters a reading holds, each counted each time it is reached (what is shared counts as often as it is met; a slice's spare places count too). A statement '..UptoSaid' is the law's where the arguments, and the package variables that the reading takes, are together of bulk at most 1048576: NARROWER than '..Said'. Prove '..Said' where nothing that the law and all that it calls make is longer than what came in: it says more and counts as full. Else prove '..UptoSaid'. A law counts once. -/
mutual
def uptoBulk {H : Type} : DataW H → Nat
  | .lit (.string bytes) => bytes.length + 1
  | .lit _ => 1
  | .nil => 1
  | .ptr d => uptoBulk d + 1
  | .slice elems spare => uptoBulkAll elems + uptoBulkAll spare + 1
  | .agg parts => uptoBulkAll parts + 1
  | .iface _ d => uptoBulk d + 1
  | .map entries => uptoBulkEntries entries + 1
  | .held _ => 1
def uptoBulkAll {H : Type} : List (DataW H) → Nat
  | [] => 0
  | d :: r => uptoBulk d + uptoBulkAll r
def uptoBulkEntries {H : Type} : List (Lit × DataW H) → Nat
  | [] => 0
  | x :: r => uptoBulkEntry x + uptoBulkEntries r
def uptoBulkEntry {H : Type} : Lit × DataW H → Nat
  | (.string bytes, d) => bytes.length + uptoBulk d + 1
  | (_, d) => uptoBulk d + 1
 end
def uptoSmall : (H : Type) → List (DataW H) → Bool := fun _ ds => decide (uptoBulkAll ds ≤ 1048576)
def OpenSpec.upto (s : _root_.Go.ChangeSpec) : _root_.Go.OpenSpec := { _root_.Go.OpenSpec.ofChange s with cond := some uptoSmall }

/-- 'laws.FnExactSameVal', WHERE WHAT IT READS IS OF BULK AT MOST 1048576: true; the input reads as it did. -/
def fnExactSameValUptoRow : OpenClaim := { program := "ythjddmhcppdleao", sum := "463cc67df0869f85ac5c42df09e773396e31e5d9ae0b745f200c696d65a37bc1", func := "loop.example/g00322/laws.FnExactSameVal", spec := "fnExactSameVal", apart := false, narrowed := true }
def FnExactSameValUptoSaid : Prop := fnExactSameValUptoRow.holds Try.pinned (OpenSpec.upto fnExactSameValSpec)

/-- 'laws.FnExactLessVal', WHERE WHAT IT READS IS OF BULK AT MOST 1048576: true; the input reads as it did. -/
def fnExactLessValUptoRow : OpenClaim := { program := "ythjddmhcppdleao", sum := "463cc67df0869f85ac5c42df09e773396e31e5d9ae0b745f200c696d65a37bc1", func := "loop.example/g00322/laws.FnExactLessVal", spec := "fnExactLessVal", apart := false, narrowed := true }
def FnExactLessValUptoSaid : Prop := fnExactLessValUptoRow.holds Try.pinned (OpenSpec.upto fnExactLessValSpec)

/-- 'laws.FnExactSameRow', WHERE WHAT IT READS IS OF BULK AT MOST 1048576: true; the input reads as it did. -/
def fnExactSameRowUptoRow : OpenClaim := { program := "ythjddmhcppdleao", sum := "463cc67df0869f85ac5c42df09e773396e31e5d9ae0b745f200c696d65a37bc1", func := "loop.example/g00322/laws.FnExactSameRow", spec := "fnExactSameRow", unfollowed := true, recurses := true, apart := false, narrowed := true }
def FnExactSameRowUptoSaid : Prop := fnExactSameRowUptoRow.holds Try.pinned (OpenSpec.upto fnExactSameRowSpec)

/-- 'laws.FnExactPutEsc', WHERE WHAT IT READS IS OF BULK AT MOST 1048576: true; the input reads as it did. -/
def fnExactPutEscUptoRow : OpenClaim := { program := "ythjddmhcppdleao", sum := "463cc67df0869f85ac5c42df09e773396e31e5d9ae0b745f200c696d65a37bc1", func := "loop.example/g00322/laws.FnExactPutEsc", spec := "fnExactPutEsc", apart := false, narrowed := true }
def FnExactPutEscUptoSaid : Prop := fnExactPutEscUptoRow.holds Try.pinned (OpenSpec.upto fnExactPutEscSpec)

end Rows
end Go.Proofs.Ythjddmhcppdleao
