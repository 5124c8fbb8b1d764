/-
  No cell of these rows narrows 'for every input' (looked for: loops, veiled, ifaces, maps, wideKeys, modest, calm, conditions, laid).
  DERIVED. THE GIVEN ROWS OF THIS SEAT. 6 by the template 'for every input the law returns true; each argument reads behind the call as it read before'; 0 by the template 'total and deterministic' (their statements: YtbcgonfihdpjnabTotals.lean).
  GIVEN WITH THE SEED: the statements are not yours to turn. If you find one false, say at which input.
  Laid BY PROGRAM, IN A SANDBOX (cutbox-rows.mjs): the forced cells as the released guide's own fill.sh prints them over the translation 01326499f4c58eb6… (all of the seat's roots in one cut). By AI agents, Wed Nov 11 2026. No macro, syntax, notation, axiom, sorry.
-/
import Derived.Test.YtbcgonfihdpjnabChecked
import GoSem.Claim
import GoSem.ClaimJoined
import GoSem.ClaimMapViews
import Derived.JoinedTies
import Derived.KernelRfl
namespace Go.Proofs.Ytbcgonfihdpjnab
/- THE CELL 'sum', in the pinned program and in every row, IS THE sha256 OF THE DUMP (.gsa) THAT YtbcgonfihdpjnabProg.lean LOADS. Nothing in Lean hashes anything: it is a label: what it is worth is what the hold of that sum in a sandbox is worth. -/
noncomputable def Try.pinned : Pinned := { name := "ytbcgonfihdpjnab", sum := "01326499f4c58eb6f64561d7f3dbecebe37ca353d94c6c8fc11494a55929f6fd", checked := Try.checked }
namespace Rows
def none {H : Type} : Left H := { results := [], args := [] }

/-- 'laws.FnEscs': WHATEVER THE INPUT: true; the input reads as it did. -/
def fnEscsSpec : ChangeSpec := { name := "fnEscs", fn := fun _ => fun
  | [d] => { results := [.lit (.bool true)], args := [d] }
  | _ => none }
def fnEscsRow : OpenClaim := { program := "ytbcgonfihdpjnab", sum := "01326499f4c58eb6f64561d7f3dbecebe37ca353d94c6c8fc11494a55929f6fd", func := "loop.example/g00322/laws.FnEscs", spec := "fnEscs", inPlace := ["internal/bytealg.Compare"], apart := false }
def FnEscsSaid : Prop := fnEscsRow.holds Try.pinned (OpenSpec.ofChange fnEscsSpec)

/-- ITS FALSE NEIGHBOUR: 'it returns false'. Refute it at one input. -/
def fnEscsWrong : ChangeSpec := { name := "fnEscs", fn := fun _ => fun
  | [d] => { results := [.lit (.bool false)], args := [d] }
  | _ => none }
def FnEscsWrongFalsely : Prop := fnEscsRow.holds Try.pinned (OpenSpec.ofChange fnEscsWrong)

/-- 'laws.FnEscsRead': WHATEVER THE INPUT: true; the input reads as it did. -/
def fnEscsReadSpec : ChangeSpec := { name := "fnEscsRead", fn := fun _ => fun
  | [d] => { results := [.lit (.bool true)], args := [d] }
  | _ => none }
def fnEscsReadRow : OpenClaim := { program := "ytbcgonfihdpjnab", sum := "01326499f4c58eb6f64561d7f3dbecebe37ca353d94c6c8fc11494a55929f6fd", func := "loop.example/g00322/laws.FnEscsRead", spec := "fnEscsRead", apart := false }
def FnEscsReadSaid : Prop := fnEscsReadRow.holds Try.pinned (OpenSpec.ofChange fnEscsReadSpec)

/-- ITS FALSE NEIGHBOUR: 'it returns false'. Refute it at one input. -/
def fnEscsReadWrong : ChangeSpec := { name := "fnEscsRead", fn := fun _ => fun
  | [d] => { results := [.lit (.bool false)], args := [d] }
  | _ => none }
def FnEscsReadWrongFalsely : Prop := fnEscsReadRow.holds Try.pinned (OpenSpec.ofChange fnEscsReadWrong)

/-- 'laws.FnFixes': WHATEVER THE INPUT: true; the input reads as it did. -/
def fnFixesSpec : ChangeSpec := { name := "fnFixes", fn := fun _ => fun
  | [d] => { results := [.lit (.bool true)], args := [d] }
  | _ => none }
def fnFixesRow : OpenClaim := { program := "ytbcgonfihdpjnab", sum := "01326499f4c58eb6f64561d7f3dbecebe37ca353d94c6c8fc11494a55929f6fd", func := "loop.example/g00322/laws.FnFixes", spec := "fnFixes", inPlace := ["internal/bytealg.Compare"], apart := false }
def FnFixesSaid : Prop := fnFixesRow.holds Try.pinned (OpenSpec.ofChange fnFixesSpec)

/-- ITS FALSE NEIGHBOUR: 'it returns false'. Refute it at one input. -/
def fnFixesWrong : ChangeSpec := { name := "fnFixes", fn := fun _ => fun
  | [d] => { results := [.lit (.bool false)], args := [d] }
  | _ => none }
def FnFixesWrongFalsely : Prop := fnFixesRow.holds Try.pinned (OpenSpec.ofChange fnFixesWrong)

/-- 'laws.FnVars': WHATEVER THE INPUT: true; the input reads as it did. -/
def fnVarsSpec : ChangeSpec := { name := "fnVars", fn := fun _ => fun
  | [d] => { results := [.lit (.bool true)], args := [d] }
  | _ => none }
def fnVarsRow : OpenClaim := { program := "ytbcgonfihdpjnab", sum := "01326499f4c58eb6f64561d7f3dbecebe37ca353d94c6c8fc11494a55929f6fd", func := "loop.example/g00322/laws.FnVars", spec := "fnVars", inPlace := ["internal/bytealg.Compare"], apart := false }
def FnVarsSaid : Prop := fnVarsRow.holds Try.pinned (OpenSpec.ofChange fnVarsSpec)

/-- ITS FALSE NEIGHBOUR: 'it returns false'. Refute it at one input. -/
def fnVarsWrong : ChangeSpec := { name := "fnVars", fn := fun _ => fun
  | [d] => { results := [.lit (.bool false)], args := [d] }
  | _ => none }
def FnVarsWrongFalsely : Prop := fnVarsRow.holds Try.pinned (OpenSpec.ofChange fnVarsWrong)

/-- 'laws.FnVarsRead': WHATEVER THE INPUT: true; the input reads as it did. -/
def fnVarsReadSpec : ChangeSpec := { name := "fnVarsRead", fn := fun _ => fun
  | [d] => { results := [.lit (.bool true)], args := [d] }
  | _ => none }
def fnVarsReadRow : OpenClaim := { program := "ytbcgonfihdpjnab", sum := "01326499f4c58eb6f64561d7f3dbecebe37ca353d94c6c8fc11494a55929f6fd", func := "loop.example/g00322/laws.FnVarsRead", spec := "fnVarsRead", apart := false }
def FnVarsReadSaid : Prop := fnVarsReadRow.holds Try.pinned (OpenSpec.ofChange fnVarsReadSpec)

/-- ITS FALSE NEIGHBOUR: 'it returns false'. Refute it at one input. -/
def fnVarsReadWrong : ChangeSpec := { name := "fnVarsRead", fn := fun _ => fun
  | [d] => { results := [.lit (.bool false)], args := [d] }
  | _ => none }
def FnVarsReadWrongFalsely : Prop := fnVarsReadRow.holds Try.pinned (OpenSpec.ofChange fnVarsReadWrong)

/-- 'laws.FnParts': WHATEVER THE INPUT: true; the input reads as it did. -/
def fnPartsSpec : ChangeSpec := { name := "fnParts", fn := fun _ => fun
  | [d] => { results := [.lit (.bool true)], args := [d] }
  | _ => none }
def fnPartsRow : OpenClaim := { program := "ytbcgonfihdpjnab", sum := "01326499f4c58eb6f64561d7f3dbecebe37ca353d94c6c8fc11494a55929f6fd", func := "loop.example/g00322/laws.FnParts", spec := "fnParts", unfollowed := true, recurses := true, apart := false }
def FnPartsSaid : Prop := fnPartsRow.holds Try.pinned (OpenSpec.ofChange fnPartsSpec)

/-- ITS FALSE NEIGHBOUR: 'it returns false'. Refute it at one input. -/
def fnPartsWrong : ChangeSpec := { name := "fnParts", fn := fun _ => fun
  | [d] => { results := [.lit (.bool false)], args := [d] }
  | _ => none }
def FnPartsWrongFalsely : Prop := fnPartsRow.holds Try.pinned (OpenSpec.ofChange fnPartsWrong)

/- THE SECOND FORM. 'bulk': how many values and letters a reading holds, each counted each time it is reached (what is shared counts as often as it is met; a slice's spare places count too). A statement '..UptoSaid' is the law's where the arguments, and the package variables that the reading takes, are together of bulk at most 1048576: NARROWER than '..Said'. Prove '..Said' where nothing that the law and all that it calls make is longer than what came in: it says more and counts as full. Else prove '..UptoSaid'. A law counts once. -/
mutual
def uptoBulk {H : Type} : DataW H → Nat
  | .lit (.string bytes) => bytes.length + 1
  | .lit _ => 1
  | .nil => 1
  | .ptr d => uptoBulk d + 1
  | .slice elems spare => uptoBulkAll elems + uptoBulkAll spare + 1
  | .agg parts => uptoBulkAll parts + 1
  | .iface _ d => uptoBulk d + 1
  | .map entries => uptoBulkEntries entries + 1
  | .held _ => 1
def uptoBulkAll {H : Type} : List (DataW H) → Nat
  | [] => 0
  | d :: r => uptoBulk d + uptoBulkAll r
def uptoBulkEntries {H : Type} : List (Lit × DataW H) → Nat
  | [] => 0
  | x :: r => uptoBulkEntry x + uptoBulkEntries r
def uptoBulkEntry {H : Type} : Lit × DataW H → Nat
  | (.string bytes, d) => bytes.length + uptoBulk d + 1
  | (_, d) => uptoBulk d + 1
 end
def uptoSmall : (H : Type) → List (DataW H) → Bool := fun _ ds => decide (uptoBulkAll ds ≤ 1048576)
def OpenSpec.upto (s : _root_.Go.ChangeSpec) : _root_.Go.OpenSpec := { _root_.Go.OpenSpec.ofChange s with cond := some uptoSmall }

/-- 'laws.FnEscs', WHERE WHAT IT READS IS OF BULK AT MOST 1048576: true; the input reads as it did. -/
def fnEscsUptoRow : OpenClaim := { program := "ytbcgonfihdpjnab", sum := "01326499f4c58eb6f64561d7f3dbecebe37ca353d94c6c8fc11494a55929f6fd", func := "loop.example/g00322/laws.FnEscs", spec := "fnEscs", inPlace := ["internal/bytealg.Compare"], apart := false, narrowed := true }
def FnEscsUptoSaid : Prop := fnEscsUptoRow.holds Try.pinned (OpenSpec.upto fnEscsSpec)

/-- 'laws.FnEscsRead', WHERE WHAT IT READS IS OF BULK AT MOST 1048576: true; the input reads as it did. -/
def fnEscsReadUptoRow : OpenClaim := { program := "ytbcgonfihdpjnab", sum := "01326499f4c58eb6f64561d7f3dbecebe37ca353d94c6c8fc11494a55929f6fd", func := "loop.example/g00322/laws.FnEscsRead", spec := "fnEscsRead", apart := false, narrowed := true }
def FnEscsReadUptoSaid : Prop := fnEscsReadUptoRow.holds Try.pinned (OpenSpec.upto fnEscsReadSpec)

/-- 'laws.FnFixes', WHERE WHAT IT READS IS OF BULK AT MOST 1048576: true; the input reads as it did. -/
def fnFixesUptoRow : OpenClaim := { program := "ytbcgonfihdpjnab", sum := "01326499f4c58eb6f64561d7f3dbecebe37ca353d94c6c8fc11494a55929f6fd", func := "loop.example/g00322/laws.FnFixes", spec := "fnFixes", inPlace := ["internal/bytealg.Compare"], apart := false, narrowed := true }
def FnFixesUptoSaid : Prop := fnFixesUptoRow.holds Try.pinned (OpenSpec.upto fnFixesSpec)

/-- 'laws.FnVars', WHERE WHAT IT READS IS OF BULK AT MOST 1048576: true; the input reads as it did. -/
def fnVarsUptoRow : OpenClaim := { program := "ytbcgonfihdpjnab", sum := "01326499f4c58eb6f64561d7f3dbecebe37ca353d94c6c8fc11494a55929f6fd", func := "loop.example/g00322/laws.FnVars", spec := "fnVars", inPlace := ["internal/bytealg.Compare"], apart := false, narrowed := true }
def FnVarsUptoSaid : Prop := fnVarsUptoRow.holds Try.pinned (OpenSpec.upto fnVarsSpec)

/-- 'laws.FnVarsRead', WHERE WHAT IT READS IS OF BULK AT MOST 1048576: true; the input reads as it did. -/
def fnVarsReadUptoRow : OpenClaim := { program := "ytbcgonfihdpjnab", sum := "01326499f4c58eb6f64561d7f3dbecebe37ca353d94c6c8fc11494a55929f6fd", func := "loop.example/g00322/laws.FnVarsRead", spec := "fnVarsRead", apart := false, narrowed := true }
def FnVarsReadUptoSaid : Prop := fnVarsReadUptoRow.holds Try.pinned (OpenSpec.upto fnVarsReadSpec)

/-- 'laws.FnParts', WHERE WHAT IT READS IS OF BULK AT MOST 1048576: true; the input reads as it did. -/
def fnPartsUptoRow : OpenClaim := { program := "ytbcgonfihdpjnab", sum := "01326499f4c58eb6f64561d7f3dbecebe37ca353d94c6c8fc11494a55929f6fd", func := "loop.example/g00322/laws.FnParts", spec := "fnParts", unfollowed := true, recurses := true, apart := false, narrowed := true }
def FnPartsUptoSaid : Prop := fnPartsUptoRow.holds Try.pinned (OpenSpec.upto fnPartsSpec)

end Rows
end Go.Proofs.Ytbcgonfihdpjnab
