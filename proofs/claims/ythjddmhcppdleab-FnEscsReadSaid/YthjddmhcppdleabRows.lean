/-
  No cell of these rows narrows 'for every input' (looked for: loops, veiled, ifaces, maps, wideKeys, modest, calm, conditions, laid).
  DERIVED. THE GIVEN ROWS OF THIS SEAT. 2 by the template 'for every input the law returns true; each argument reads behind the call as it read before'; 0 by the template 'total and deterministic' (their statements: YthjddmhcppdleabTotals.lean).
  GIVEN WITH THE SEED: the statements are not yours to turn. If you find one false, say at which input.
  Laid BY PROGRAM, IN A SANDBOX (cutbox-rows.mjs): the forced cells as the released guide's own fill.sh prints them over the translation d9424531b1897e39… (all of the seat's roots in one cut). By AI agents, Wed Nov 11 2026. No macro, syntax, notation, axiom, sorry.
-/
import Derived.Test.YthjddmhcppdleabChecked
import GoSem.Claim
import GoSem.ClaimJoined
import GoSem.ClaimMapViews
import Derived.JoinedTies
import Derived.KernelRfl
namespace Go.Proofs.Ythjddmhcppdleab
/- THE CELL 'sum', in the pinned program and in every row, IS THE sha256 OF THE DUMP (.gsa) THAT YthjddmhcppdleabProg.lean LOADS. Nothing in Lean hashes anything: it is a label: what it is worth is what the hold of that sum in a sandbox is worth. -/
noncomputable def Try.pinned : Pinned := { name := "ythjddmhcppdleab", sum := "d9424531b1897e39cd427e33fc7829e235b78b0144eeac2a942b6a8bd7d502ae", checked := Try.checked }
namespace Rows
def none {H : Type} : Left H := { results := [], args := [] }

/-- 'laws.FnEscs': WHATEVER THE INPUT: true; the input reads as it did. -/
def fnEscsSpec : ChangeSpec := { name := "fnEscs", fn := fun _ => fun
  | [d] => { results := [.lit (.bool true)], args := [d] }
  | _ => none }
def fnEscsRow : OpenClaim := { program := "ythjddmhcppdleab", sum := "d9424531b1897e39cd427e33fc7829e235b78b0144eeac2a942b6a8bd7d502ae", func := "loop.example/g00322/laws.FnEscs", spec := "fnEscs", inPlace := ["internal/bytealg.Compare"], apart := false }
def FnEscsSaid : Prop := fnEscsRow.holds Try.pinned (OpenSpec.ofChange fnEscsSpec)

/-- ITS FALSE NEIGHBOUR: 'it returns false'. Refute it at one input. -/
def fnEscsWrong : ChangeSpec := { name := "fnEscs", fn := fun _ => fun
  | [d] => { results := [.lit (.bool false)], args := [d] }
  | _ => none }
def FnEscsWrongFalsely : Prop := fnEscsRow.holds Try.pinned (OpenSpec.ofChange fnEscsWrong)

/-- 'laws.FnEscsRead': WHATEVER THE INPUT: true; the input reads as it did. -/
def fnEscsReadSpec : ChangeSpec := { name := "fnEscsRead", fn := fun _ => fun
  | [d] => { results := [.lit (.bool true)], args := [d] }
  | _ => none }
def fnEscsReadRow : OpenClaim := { program := "ythjddmhcppdleab", sum := "d9424531b1897e39cd427e33fc7829e235b78b0144eeac2a942b6a8bd7d502ae", func := "loop.example/g00322/laws.FnEscsRead", spec := "fnEscsRead", apart := false }
def FnEscsReadSaid : Prop := fnEscsReadRow.holds Try.pinned (OpenSpec.ofChange fnEscsReadSpec)

/-- ITS FALSE NEIGHBOUR: 'it returns false'. Refute it at one input. -/
def fnEscsReadWrong : ChangeSpec := { name := "fnEscsRead", fn := fun _ => fun
  | [d] => { results := [.lit (.bool false)], args := [d] }
  | _ => none }
def FnEscsReadWrongFalsely : Prop := fnEscsReadRow.holds Try.pinned (OpenSpec.ofChange fnEscsReadWrong)

/- THE SECOND FORM. 'bulk': how many values and letters a reading holds, each counted each time it is reached (what is shared counts as often as it is met; a slice's spare places count too). A statement '..UptoSaid' is the law's where the arguments, and the package variables that the reading takes, are together of bulk at most 1048576: NARROWER than '..Said'. Prove '..Said' where nothing that the law and all that it calls make is longer than what came in: it says more and counts as full. Else prove '..UptoSaid'. A law counts once. -/
mutual
def uptoBulk {H : Type} : DataW H → Nat
  | .lit (.string bytes) => bytes.length + 1
  | .lit _ => 1
  | .nil => 1
  | .ptr d => uptoBulk d + 1
  | .slice elems spare => uptoBulkAll elems + uptoBulkAll spare + 1
  | .agg parts => uptoBulkAll parts + 1
  | .iface _ d => uptoBulk d + 1
  | .map entries => uptoBulkEntries entries + 1
  | .held _ => 1
def uptoBulkAll {H : Type} : List (DataW H) → Nat
  | [] => 0
  | d :: r => uptoBulk d + uptoBulkAll r
def uptoBulkEntries {H : Type} : List (Lit × DataW H) → Nat
  | [] => 0
  | x :: r => uptoBulkEntry x + uptoBulkEntries r
def uptoBulkEntry {H : Type} : Lit × DataW H → Nat
  | (.string bytes, d) => bytes.length + uptoBulk d + 1
  | (_, d) => uptoBulk d + 1
 end
def uptoSmall : (H : Type) → List (DataW H) → Bool := fun _ ds => decide (uptoBulkAll ds ≤ 1048576)
def OpenSpec.upto (s : _root_.Go.ChangeSpec) : _root_.Go.OpenSpec := { _root_.Go.OpenSpec.ofChange s with cond := some uptoSmall }

/-- 'laws.FnEscs', WHERE WHAT IT READS IS OF BULK AT MOST 1048576: true; the input reads as it did. -/
def fnEscsUptoRow : OpenClaim := { program := "ythjddmhcppdleab", sum := "d9424531b1897e39cd427e33fc7829e235b78b0144eeac2a942b6a8bd7d502ae", func := "loop.example/g00322/laws.FnEscs", spec := "fnEscs", inPlace := ["internal/bytealg.Compare"], apart := false, narrowed := true }
def FnEscsUptoSaid : Prop := fnEscsUptoRow.holds Try.pinned (OpenSpec.upto fnEscsSpec)

/-- 'laws.FnEscsRead', WHERE WHAT IT READS IS OF BULK AT MOST 1048576: true; the input reads as it did. -/
def fnEscsReadUptoRow : OpenClaim := { program := "ythjddmhcppdleab", sum := "d9424531b1897e39cd427e33fc7829e235b78b0144eeac2a942b6a8bd7d502ae", func := "loop.example/g00322/laws.FnEscsRead", spec := "fnEscsRead", apart := false, narrowed := true }
def FnEscsReadUptoSaid : Prop := fnEscsReadUptoRow.holds Try.pinned (OpenSpec.upto fnEscsReadSpec)

end Rows
end Go.Proofs.Ythjddmhcppdleab
