/-
  No cell of these rows narrows 'for every input' (looked for: loops, veiled, ifaces, maps, wideKeys, modest, calm, conditions, laid).
  DERIVED. THE GIVEN ROWS OF THIS SEAT. 4 by the template 'for every input the law returns true; each argument reads behind the call as it read before'; 0 by the template 'total and deterministic' (their statements: YtgnhlnlejkgnkaaTotals.lean).
  GIVEN WITH THE SEED: the statements are not yours to turn. If you find one false, say at which input.
  Laid BY PROGRAM, IN A SANDBOX (cutbox-rows.mjs): the forced cells as the released guide's own fill.sh prints them over the translation d314008cb60aade0… (all of the seat's roots in one cut). By AI agents, Wed Nov 11 2026. No macro, syntax, notation, axiom, sorry.
-/
import Derived.Test.YtgnhlnlejkgnkaaChecked
import GoSem.Claim
import GoSem.ClaimJoined
import GoSem.ClaimMapViews
import Derived.JoinedTies
import Derived.KernelRfl
namespace Go.Proofs.Ytgnhlnlejkgnkaa
/- THE CELL 'sum', in the pinned program and in every row, IS THE sha256 OF THE DUMP (.gsa) THAT YtgnhlnlejkgnkaaProg.lean LOADS. Nothing in Lean hashes anything: it is a label: what it is worth is what the hold of that sum in a sandbox is worth. -/
noncomputable def Try.pinned : Pinned := { name := "ytgnhlnlejkgnkaa", sum := "d314008cb60aade068677d497a82f31c0b760cafc28d771a3111d0d3850e3d9e", checked := Try.checked }
namespace Rows
def none {H : Type} : Left H := { results := [], args := [] }

/-- 'laws.FnExactMetaOk': WHATEVER THE INPUT: true; the input reads as it did. -/
def fnExactMetaOkSpec : ChangeSpec := { name := "fnExactMetaOk", fn := fun _ => fun
  | [d] => { results := [.lit (.bool true)], args := [d] }
  | _ => none }
def fnExactMetaOkRow : OpenClaim := { program := "ytgnhlnlejkgnkaa", sum := "d314008cb60aade068677d497a82f31c0b760cafc28d771a3111d0d3850e3d9e", func := "loop.example/g00322/laws.FnExactMetaOk", spec := "fnExactMetaOk", apart := false }
def FnExactMetaOkSaid : Prop := fnExactMetaOkRow.holds Try.pinned (OpenSpec.ofChange fnExactMetaOkSpec)

/-- ITS FALSE NEIGHBOUR: 'it returns false'. Refute it at one input. -/
def fnExactMetaOkWrong : ChangeSpec := { name := "fnExactMetaOk", fn := fun _ => fun
  | [d] => { results := [.lit (.bool false)], args := [d] }
  | _ => none }
def FnExactMetaOkWrongFalsely : Prop := fnExactMetaOkRow.holds Try.pinned (OpenSpec.ofChange fnExactMetaOkWrong)

/-- 'laws.FnExactPutMeta': WHATEVER THE INPUT: true; the input reads as it did. -/
def fnExactPutMetaSpec : ChangeSpec := { name := "fnExactPutMeta", fn := fun _ => fun
  | [d] => { results := [.lit (.bool true)], args := [d] }
  | _ => none }
def fnExactPutMetaRow : OpenClaim := { program := "ytgnhlnlejkgnkaa", sum := "d314008cb60aade068677d497a82f31c0b760cafc28d771a3111d0d3850e3d9e", func := "loop.example/g00322/laws.FnExactPutMeta", spec := "fnExactPutMeta", apart := false }
def FnExactPutMetaSaid : Prop := fnExactPutMetaRow.holds Try.pinned (OpenSpec.ofChange fnExactPutMetaSpec)

/-- ITS FALSE NEIGHBOUR: 'it returns false'. Refute it at one input. -/
def fnExactPutMetaWrong : ChangeSpec := { name := "fnExactPutMeta", fn := fun _ => fun
  | [d] => { results := [.lit (.bool false)], args := [d] }
  | _ => none }
def FnExactPutMetaWrongFalsely : Prop := fnExactPutMetaRow.holds Try.pinned (OpenSpec.ofChange fnExactPutMetaWrong)

/-- 'laws.FnExactGetMeta': WHATEVER THE INPUT: true; the input reads as it did. -/
def fnExactGetMetaSpec : ChangeSpec := { name := "fnExactGetMeta", fn := fun _ => fun
  | [d] => { results := [.lit (.bool true)], args := [d] }
  | _ => none }
def fnExactGetMetaRow : OpenClaim := { program := "ytgnhlnlejkgnkaa", sum := "d314008cb60aade068677d497a82f31c0b760cafc28d771a3111d0d3850e3d9e", func := "loop.example/g00322/laws.FnExactGetMeta", spec := "fnExactGetMeta", apart := false }
def FnExactGetMetaSaid : Prop := fnExactGetMetaRow.holds Try.pinned (OpenSpec.ofChange fnExactGetMetaSpec)

/-- ITS FALSE NEIGHBOUR: 'it returns false'. Refute it at one input. -/
def fnExactGetMetaWrong : ChangeSpec := { name := "fnExactGetMeta", fn := fun _ => fun
  | [d] => { results := [.lit (.bool false)], args := [d] }
  | _ => none }
def FnExactGetMetaWrongFalsely : Prop := fnExactGetMetaRow.holds Try.pinned (OpenSpec.ofChange fnExactGetMetaWrong)

/-- 'laws.FnMetas': WHATEVER THE INPUT: true; the input reads as it did. -/
def fnMetasSpec : ChangeSpec := { name := "fnMetas", fn := fun _ => fun
  | [d] => { results := [.lit (.bool true)], args := [d] }
  | _ => none }
def fnMetasRow : OpenClaim := { program := "ytgnhlnlejkgnkaa", sum := "d314008cb60aade068677d497a82f31c0b760cafc28d771a3111d0d3850e3d9e", func := "loop.example/g00322/laws.FnMetas", spec := "fnMetas", apart := false }
def FnMetasSaid : Prop := fnMetasRow.holds Try.pinned (OpenSpec.ofChange fnMetasSpec)

/-- ITS FALSE NEIGHBOUR: 'it returns false'. Refute it at one input. -/
def fnMetasWrong : ChangeSpec := { name := "fnMetas", fn := fun _ => fun
  | [d] => { results := [.lit (.bool false)], args := [d] }
  | _ => none }
def FnMetasWrongFalsely : Prop := fnMetasRow.holds Try.pinned (OpenSpec.ofChange fnMetasWrong)

/- THE SECOND FORM. 'bulk': how many values and letters a reading holds, each counted each time it is reached (what is shared counts as often as it is met; a slice's spare places count too). A statement '..UptoSaid' is the law's where the arguments, and the package variables that the reading takes, are together of bulk at most 1048576: NARROWER than '..Said'. Prove '..Said' where nothing that the law and all that it calls make is longer than what came in: it says more and counts as full. Else prove '..UptoSaid'. A law counts once. -/
mutual
def uptoBulk {H : Type} : DataW H → Nat
  | .lit (.string bytes) => bytes.length + 1
  | .lit _ => 1
  | .nil => 1
  | .ptr d => uptoBulk d + 1
  | .slice elems spare => uptoBulkAll elems + uptoBulkAll spare + 1
  | .agg parts => uptoBulkAll parts + 1
  | .iface _ d => uptoBulk d + 1
  | .map entries => uptoBulkEntries entries + 1
  | .held _ => 1
def uptoBulkAll {H : Type} : List (DataW H) → Nat
  | [] => 0
  | d :: r => uptoBulk d + uptoBulkAll r
def uptoBulkEntries {H : Type} : List (Lit × DataW H) → Nat
  | [] => 0
  | x :: r => uptoBulkEntry x + uptoBulkEntries r
def uptoBulkEntry {H : Type} : Lit × DataW H → Nat
  | (.string bytes, d) => bytes.length + uptoBulk d + 1
  | (_, d) => uptoBulk d + 1
 end
def uptoSmall : (H : Type) → List (DataW H) → Bool := fun _ ds => decide (uptoBulkAll ds ≤ 1048576)
def OpenSpec.upto (s : _root_.Go.ChangeSpec) : _root_.Go.OpenSpec := { _root_.Go.OpenSpec.ofChange s with cond := some uptoSmall }

/-- 'laws.FnExactMetaOk', WHERE WHAT IT READS IS OF BULK AT MOST 1048576: true; the input reads as it did. -/
def fnExactMetaOkUptoRow : OpenClaim := { program := "ytgnhlnlejkgnkaa", sum := "d314008cb60aade068677d497a82f31c0b760cafc28d771a3111d0d3850e3d9e", func := "loop.example/g00322/laws.FnExactMetaOk", spec := "fnExactMetaOk", apart := false, narrowed := true }
def FnExactMetaOkUptoSaid : Prop := fnExactMetaOkUptoRow.holds Try.pinned (OpenSpec.upto fnExactMetaOkSpec)

/-- 'laws.FnExactPutMeta', WHERE WHAT IT READS IS OF BULK AT MOST 1048576: true; the input reads as it did. -/
def fnExactPutMetaUptoRow : OpenClaim := { program := "ytgnhlnlejkgnkaa", sum := "d314008cb60aade068677d497a82f31c0b760cafc28d771a3111d0d3850e3d9e", func := "loop.example/g00322/laws.FnExactPutMeta", spec := "fnExactPutMeta", apart := false, narrowed := true }
def FnExactPutMetaUptoSaid : Prop := fnExactPutMetaUptoRow.holds Try.pinned (OpenSpec.upto fnExactPutMetaSpec)

/-- 'laws.FnExactGetMeta', WHERE WHAT IT READS IS OF BULK AT MOST 1048576: true; the input reads as it did. -/
def fnExactGetMetaUptoRow : OpenClaim := { program := "ytgnhlnlejkgnkaa", sum := "d314008cb60aade068677d497a82f31c0b760cafc28d771a3111d0d3850e3d9e", func := "loop.example/g00322/laws.FnExactGetMeta", spec := "fnExactGetMeta", apart := false, narrowed := true }
def FnExactGetMetaUptoSaid : Prop := fnExactGetMetaUptoRow.holds Try.pinned (OpenSpec.upto fnExactGetMetaSpec)

/-- 'laws.FnMetas', WHERE WHAT IT READS IS OF BULK AT MOST 1048576: true; the input reads as it did. -/
def fnMetasUptoRow : OpenClaim := { program := "ytgnhlnlejkgnkaa", sum := "d314008cb60aade068677d497a82f31c0b760cafc28d771a3111d0d3850e3d9e", func := "loop.example/g00322/laws.FnMetas", spec := "fnMetas", apart := false, narrowed := true }
def FnMetasUptoSaid : Prop := fnMetasUptoRow.holds Try.pinned (OpenSpec.upto fnMetasSpec)

end Rows
end Go.Proofs.Ytgnhlnlejkgnkaa
