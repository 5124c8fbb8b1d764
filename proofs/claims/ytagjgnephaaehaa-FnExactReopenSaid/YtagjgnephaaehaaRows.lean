/-
  No cell of these rows narrows 'for every input' (looked for: loops, veiled, ifaces, maps, wideKeys, modest, calm, conditions, laid).
  DERIVED. THE GIVEN ROWS OF THIS SEAT. 3 by the template 'for every input the law returns true; each argument reads behind the call as it read before'; 0 by the template 'total and deterministic' (their statements: YtagjgnephaaehaaTotals.lean).
  GIVEN WITH THE SEED: the statements are not yours to turn. If you find one false, say at which input.
  Laid BY PROGRAM, IN A SANDBOX (cutbox-rows.mjs): the forced cells as the released guide's own fill.sh prints them over the translation 43283e83c1a010eb… (all of the seat's roots in one cut). By AI agents, Wed Nov 11 2026. No macro, syntax, notation, axiom, sorry.
-/
import Derived.Test.YtagjgnephaaehaaChecked
import GoSem.Claim
import GoSem.ClaimJoined
import GoSem.ClaimMapViews
import Derived.JoinedTies
import Derived.KernelRfl
namespace Go.Proofs.Ytagjgnephaaehaa
/- THE CELL 'sum', in the pinned program and in every row, IS THE sha256 OF THE DUMP (.gsa) THAT YtagjgnephaaehaaProg.lean LOADS. Nothing in Lean hashes anything: it is a label: what it is worth is what the hold of that sum in a sandbox is worth. -/
noncomputable def Try.pinned : Pinned := { name := "ytagjgnephaaehaa", sum := "43283e83c1a010eb2d31cb7587f28bb2422b277aaaaa08987756cff8bf53aafd", checked := Try.checked }
namespace Rows
def none {H : Type} : Left H := { results := [], args := [] }

/-- 'laws.FnExactTurnOn': WHATEVER THE INPUT: true; the input reads as it did. -/
def fnExactTurnOnSpec : ChangeSpec := { name := "fnExactTurnOn", fn := fun _ => fun
  | [d] => { results := [.lit (.bool true)], args := [d] }
  | _ => none }
def fnExactTurnOnRow : OpenClaim := { program := "ytagjgnephaaehaa", sum := "43283e83c1a010eb2d31cb7587f28bb2422b277aaaaa08987756cff8bf53aafd", func := "loop.example/g00322/laws.FnExactTurnOn", spec := "fnExactTurnOn", apart := false }
def FnExactTurnOnSaid : Prop := fnExactTurnOnRow.holds Try.pinned (OpenSpec.ofChange fnExactTurnOnSpec)

/-- ITS FALSE NEIGHBOUR: 'it returns false'. Refute it at one input. -/
def fnExactTurnOnWrong : ChangeSpec := { name := "fnExactTurnOn", fn := fun _ => fun
  | [d] => { results := [.lit (.bool false)], args := [d] }
  | _ => none }
def FnExactTurnOnWrongFalsely : Prop := fnExactTurnOnRow.holds Try.pinned (OpenSpec.ofChange fnExactTurnOnWrong)

/-- 'laws.FnExactDiskOk': WHATEVER THE INPUT: true; the input reads as it did. -/
def fnExactDiskOkSpec : ChangeSpec := { name := "fnExactDiskOk", fn := fun _ => fun
  | [d] => { results := [.lit (.bool true)], args := [d] }
  | _ => none }
def fnExactDiskOkRow : OpenClaim := { program := "ytagjgnephaaehaa", sum := "43283e83c1a010eb2d31cb7587f28bb2422b277aaaaa08987756cff8bf53aafd", func := "loop.example/g00322/laws.FnExactDiskOk", spec := "fnExactDiskOk", unfollowed := true, recurses := true, apart := false }
def FnExactDiskOkSaid : Prop := fnExactDiskOkRow.holds Try.pinned (OpenSpec.ofChange fnExactDiskOkSpec)

/-- ITS FALSE NEIGHBOUR: 'it returns false'. Refute it at one input. -/
def fnExactDiskOkWrong : ChangeSpec := { name := "fnExactDiskOk", fn := fun _ => fun
  | [d] => { results := [.lit (.bool false)], args := [d] }
  | _ => none }
def FnExactDiskOkWrongFalsely : Prop := fnExactDiskOkRow.holds Try.pinned (OpenSpec.ofChange fnExactDiskOkWrong)

/-- 'laws.FnExactReopen': WHATEVER THE INPUT: true; the input reads as it did. -/
def fnExactReopenSpec : ChangeSpec := { name := "fnExactReopen", fn := fun _ => fun
  | [d] => { results := [.lit (.bool true)], args := [d] }
  | _ => none }
def fnExactReopenRow : OpenClaim := { program := "ytagjgnephaaehaa", sum := "43283e83c1a010eb2d31cb7587f28bb2422b277aaaaa08987756cff8bf53aafd", func := "loop.example/g00322/laws.FnExactReopen", spec := "fnExactReopen", apart := false }
def FnExactReopenSaid : Prop := fnExactReopenRow.holds Try.pinned (OpenSpec.ofChange fnExactReopenSpec)

/-- ITS FALSE NEIGHBOUR: 'it returns false'. Refute it at one input. -/
def fnExactReopenWrong : ChangeSpec := { name := "fnExactReopen", fn := fun _ => fun
  | [d] => { results := [.lit (.bool false)], args := [d] }
  | _ => none }
def FnExactReopenWrongFalsely : Prop := fnExactReopenRow.holds Try.pinned (OpenSpec.ofChange fnExactReopenWrong)

/- THE SECOND FORM. 'bulk': how many values and letters a reading holds, each counted each time it is reached (what is shared counts as often as it is met; a slice's spare places count too). A statement '..UptoSaid' is the law's where the arguments, and the package variables that the reading takes, are together of bulk at most 1048576: NARROWER than '..Said'. Prove '..Said' where nothing that the law and all that it calls make is longer than what came in: it says more and counts as full. Else prove '..UptoSaid'. A law counts once. -/
mutual
def uptoBulk {H : Type} : DataW H → Nat
  | .lit (.string bytes) => bytes.length + 1
  | .lit _ => 1
  | .nil => 1
  | .ptr d => uptoBulk d + 1
  | .slice elems spare => uptoBulkAll elems + uptoBulkAll spare + 1
  | .agg parts => uptoBulkAll parts + 1
  | .iface _ d => uptoBulk d + 1
  | .map entries => uptoBulkEntries entries + 1
  | .held _ => 1
def uptoBulkAll {H : Type} : List (DataW H) → Nat
  | [] => 0
  | d :: r => uptoBulk d + uptoBulkAll r
def uptoBulkEntries {H : Type} : List (Lit × DataW H) → Nat
  | [] => 0
  | x :: r => uptoBulkEntry x + uptoBulkEntries r
def uptoBulkEntry {H : Type} : Lit × DataW H → Nat
  | (.string bytes, d) => bytes.length + uptoBulk d + 1
  | (_, d) => uptoBulk d + 1
 end
def uptoSmall : (H : Type) → List (DataW H) → Bool := fun _ ds => decide (uptoBulkAll ds ≤ 1048576)
def OpenSpec.upto (s : _root_.Go.ChangeSpec) : _root_.Go.OpenSpec := { _root_.Go.OpenSpec.ofChange s with cond := some uptoSmall }

/-- 'laws.FnExactTurnOn', WHERE WHAT IT READS IS OF BULK AT MOST 1048576: true; the input reads as it did. -/
def fnExactTurnOnUptoRow : OpenClaim := { program := "ytagjgnephaaehaa", sum := "43283e83c1a010eb2d31cb7587f28bb2422b277aaaaa08987756cff8bf53aafd", func := "loop.example/g00322/laws.FnExactTurnOn", spec := "fnExactTurnOn", apart := false, narrowed := true }
def FnExactTurnOnUptoSaid : Prop := fnExactTurnOnUptoRow.holds Try.pinned (OpenSpec.upto fnExactTurnOnSpec)

/-- 'laws.FnExactDiskOk', WHERE WHAT IT READS IS OF BULK AT MOST 1048576: true; the input reads as it did. -/
def fnExactDiskOkUptoRow : OpenClaim := { program := "ytagjgnephaaehaa", sum := "43283e83c1a010eb2d31cb7587f28bb2422b277aaaaa08987756cff8bf53aafd", func := "loop.example/g00322/laws.FnExactDiskOk", spec := "fnExactDiskOk", unfollowed := true, recurses := true, apart := false, narrowed := true }
def FnExactDiskOkUptoSaid : Prop := fnExactDiskOkUptoRow.holds Try.pinned (OpenSpec.upto fnExactDiskOkSpec)

/-- 'laws.FnExactReopen', WHERE WHAT IT READS IS OF BULK AT MOST 1048576: true; the input reads as it did. -/
def fnExactReopenUptoRow : OpenClaim := { program := "ytagjgnephaaehaa", sum := "43283e83c1a010eb2d31cb7587f28bb2422b277aaaaa08987756cff8bf53aafd", func := "loop.example/g00322/laws.FnExactReopen", spec := "fnExactReopen", apart := false, narrowed := true }
def FnExactReopenUptoSaid : Prop := fnExactReopenUptoRow.holds Try.pinned (OpenSpec.upto fnExactReopenSpec)

end Rows
end Go.Proofs.Ytagjgnephaaehaa
