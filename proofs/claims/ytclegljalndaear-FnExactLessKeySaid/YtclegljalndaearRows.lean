/-
  No cell of these rows narrows 'for every input' (looked for: loops, veiled, ifaces, maps, wideKeys, modest, calm, conditions, laid).
  DERIVED. THE GIVEN ROWS OF THIS SEAT. 6 by the template 'for every input the law returns true; each argument reads behind the call as it read before'; 0 by the template 'total and deterministic' (their statements: YtclegljalndaearTotals.lean).
  GIVEN WITH THE SEED: the statements are not yours to turn. If you find one false, say at which input.
  Laid BY PROGRAM, IN A SANDBOX (cutbox-rows.mjs): the forced cells as the released guide's own fill.sh prints them over the translation 36af45b2844225c4… (all of the seat's roots in one cut). By AI agents, Wed Nov 11 2026. No macro, syntax, notation, axiom, sorry.
-/
import Derived.Test.YtclegljalndaearChecked
import GoSem.Claim
import GoSem.ClaimJoined
import GoSem.ClaimMapViews
import Derived.JoinedTies
import Derived.KernelRfl
namespace Go.Proofs.Ytclegljalndaear
/- THE CELL 'sum', in the pinned program and in every row, IS THE sha256 OF THE DUMP (.gsa) THAT YtclegljalndaearProg.lean LOADS. Nothing in Lean hashes anything: it is a label: what it is worth is what the hold of that sum in a sandbox is worth. -/
noncomputable def Try.pinned : Pinned := { name := "ytclegljalndaear", sum := "36af45b2844225c44ec328fbdc0dd5f19317af6d78320562eb0aa444a4942bc9", checked := Try.checked }
namespace Rows
def none {H : Type} : Left H := { results := [], args := [] }

/-- 'laws.FnExactPlanOk': WHATEVER THE INPUT: true; the input reads as it did. -/
def fnExactPlanOkSpec : ChangeSpec := { name := "fnExactPlanOk", fn := fun _ => fun
  | [d] => { results := [.lit (.bool true)], args := [d] }
  | _ => none }
def fnExactPlanOkRow : OpenClaim := { program := "ytclegljalndaear", sum := "36af45b2844225c44ec328fbdc0dd5f19317af6d78320562eb0aa444a4942bc9", func := "loop.example/g00322/laws.FnExactPlanOk", spec := "fnExactPlanOk", apart := false }
def FnExactPlanOkSaid : Prop := fnExactPlanOkRow.holds Try.pinned (OpenSpec.ofChange fnExactPlanOkSpec)

/-- ITS FALSE NEIGHBOUR: 'it returns false'. Refute it at one input. -/
def fnExactPlanOkWrong : ChangeSpec := { name := "fnExactPlanOk", fn := fun _ => fun
  | [d] => { results := [.lit (.bool false)], args := [d] }
  | _ => none }
def FnExactPlanOkWrongFalsely : Prop := fnExactPlanOkRow.holds Try.pinned (OpenSpec.ofChange fnExactPlanOkWrong)

/-- 'laws.FnExactFitsAll': WHATEVER THE INPUT: true; the input reads as it did. -/
def fnExactFitsAllSpec : ChangeSpec := { name := "fnExactFitsAll", fn := fun _ => fun
  | [d1, d2] => { results := [.lit (.bool true)], args := [d1, d2] }
  | _ => none }
def fnExactFitsAllRow : OpenClaim := { program := "ytclegljalndaear", sum := "36af45b2844225c44ec328fbdc0dd5f19317af6d78320562eb0aa444a4942bc9", func := "loop.example/g00322/laws.FnExactFitsAll", spec := "fnExactFitsAll", unfollowed := true, recurses := true, apart := false }
def FnExactFitsAllSaid : Prop := fnExactFitsAllRow.holds Try.pinned (OpenSpec.ofChange fnExactFitsAllSpec)

/-- ITS FALSE NEIGHBOUR: 'it returns false'. Refute it at one input. -/
def fnExactFitsAllWrong : ChangeSpec := { name := "fnExactFitsAll", fn := fun _ => fun
  | [d1, d2] => { results := [.lit (.bool false)], args := [d1, d2] }
  | _ => none }
def FnExactFitsAllWrongFalsely : Prop := fnExactFitsAllRow.holds Try.pinned (OpenSpec.ofChange fnExactFitsAllWrong)

/-- 'laws.FnExactEncodeKey': WHATEVER THE INPUT: true; the input reads as it did. -/
def fnExactEncodeKeySpec : ChangeSpec := { name := "fnExactEncodeKey", fn := fun _ => fun
  | [d1, d2] => { results := [.lit (.bool true)], args := [d1, d2] }
  | _ => none }
def fnExactEncodeKeyRow : OpenClaim := { program := "ytclegljalndaear", sum := "36af45b2844225c44ec328fbdc0dd5f19317af6d78320562eb0aa444a4942bc9", func := "loop.example/g00322/laws.FnExactEncodeKey", spec := "fnExactEncodeKey", unfollowed := true, recurses := true, apart := false }
def FnExactEncodeKeySaid : Prop := fnExactEncodeKeyRow.holds Try.pinned (OpenSpec.ofChange fnExactEncodeKeySpec)

/-- ITS FALSE NEIGHBOUR: 'it returns false'. Refute it at one input. -/
def fnExactEncodeKeyWrong : ChangeSpec := { name := "fnExactEncodeKey", fn := fun _ => fun
  | [d1, d2] => { results := [.lit (.bool false)], args := [d1, d2] }
  | _ => none }
def FnExactEncodeKeyWrongFalsely : Prop := fnExactEncodeKeyRow.holds Try.pinned (OpenSpec.ofChange fnExactEncodeKeyWrong)

/-- 'laws.FnExactDecodeKey': WHATEVER THE INPUT: true; the input reads as it did. -/
def fnExactDecodeKeySpec : ChangeSpec := { name := "fnExactDecodeKey", fn := fun _ => fun
  | [d1, d2] => { results := [.lit (.bool true)], args := [d1, d2] }
  | _ => none }
def fnExactDecodeKeyRow : OpenClaim := { program := "ytclegljalndaear", sum := "36af45b2844225c44ec328fbdc0dd5f19317af6d78320562eb0aa444a4942bc9", func := "loop.example/g00322/laws.FnExactDecodeKey", spec := "fnExactDecodeKey", unfollowed := true, recurses := true, apart := false }
def FnExactDecodeKeySaid : Prop := fnExactDecodeKeyRow.holds Try.pinned (OpenSpec.ofChange fnExactDecodeKeySpec)

/-- ITS FALSE NEIGHBOUR: 'it returns false'. Refute it at one input. -/
def fnExactDecodeKeyWrong : ChangeSpec := { name := "fnExactDecodeKey", fn := fun _ => fun
  | [d1, d2] => { results := [.lit (.bool false)], args := [d1, d2] }
  | _ => none }
def FnExactDecodeKeyWrongFalsely : Prop := fnExactDecodeKeyRow.holds Try.pinned (OpenSpec.ofChange fnExactDecodeKeyWrong)

/-- 'laws.FnExactLessKey': WHATEVER THE INPUT: true; the input reads as it did. -/
def fnExactLessKeySpec : ChangeSpec := { name := "fnExactLessKey", fn := fun _ => fun
  | [d1, d2, d3] => { results := [.lit (.bool true)], args := [d1, d2, d3] }
  | _ => none }
def fnExactLessKeyRow : OpenClaim := { program := "ytclegljalndaear", sum := "36af45b2844225c44ec328fbdc0dd5f19317af6d78320562eb0aa444a4942bc9", func := "loop.example/g00322/laws.FnExactLessKey", spec := "fnExactLessKey", apart := false }
def FnExactLessKeySaid : Prop := fnExactLessKeyRow.holds Try.pinned (OpenSpec.ofChange fnExactLessKeySpec)

/-- ITS FALSE NEIGHBOUR: 'it returns false'. Refute it at one input. -/
def fnExactLessKeyWrong : ChangeSpec := { name := "fnExactLessKey", fn := fun _ => fun
  | [d1, d2, d3] => { results := [.lit (.bool false)], args := [d1, d2, d3] }
  | _ => none }
def FnExactLessKeyWrongFalsely : Prop := fnExactLessKeyRow.holds Try.pinned (OpenSpec.ofChange fnExactLessKeyWrong)

/-- 'laws.FnExactPick': WHATEVER THE INPUT: true; the input reads as it did. -/
def fnExactPickSpec : ChangeSpec := { name := "fnExactPick", fn := fun _ => fun
  | [d1, d2] => { results := [.lit (.bool true)], args := [d1, d2] }
  | _ => none }
def fnExactPickRow : OpenClaim := { program := "ytclegljalndaear", sum := "36af45b2844225c44ec328fbdc0dd5f19317af6d78320562eb0aa444a4942bc9", func := "loop.example/g00322/laws.FnExactPick", spec := "fnExactPick", unfollowed := true, recurses := true, apart := false }
def FnExactPickSaid : Prop := fnExactPickRow.holds Try.pinned (OpenSpec.ofChange fnExactPickSpec)

/-- ITS FALSE NEIGHBOUR: 'it returns false'. Refute it at one input. -/
def fnExactPickWrong : ChangeSpec := { name := "fnExactPick", fn := fun _ => fun
  | [d1, d2] => { results := [.lit (.bool false)], args := [d1, d2] }
  | _ => none }
def FnExactPickWrongFalsely : Prop := fnExactPickRow.holds Try.pinned (OpenSpec.ofChange fnExactPickWrong)

/- THE SECOND FORM. 'bulk': how many values and letters a reading holds, each counted each time it is reached (what is shared counts as often as it is met; a slice's spare places count too). A statement '..UptoSaid' is the law's where the arguments, and the package variables that the reading takes, are together of bulk at most 1048576: NARROWER than '..Said'. Prove '..Said' where nothing that the law and all that it calls make is longer than what came in: it says more and counts as full. Else prove '..UptoSaid'. A law counts once. -/
mutual
def uptoBulk {H : Type} : DataW H → Nat
  | .lit (.string bytes) => bytes.length + 1
  | .lit _ => 1
  | .nil => 1
  | .ptr d => uptoBulk d + 1
  | .slice elems spare => uptoBulkAll elems + uptoBulkAll spare + 1
  | .agg parts => uptoBulkAll parts + 1
  | .iface _ d => uptoBulk d + 1
  | .map entries => uptoBulkEntries entries + 1
  | .held _ => 1
def uptoBulkAll {H : Type} : List (DataW H) → Nat
  | [] => 0
  | d :: r => uptoBulk d + uptoBulkAll r
def uptoBulkEntries {H : Type} : List (Lit × DataW H) → Nat
  | [] => 0
  | x :: r => uptoBulkEntry x + uptoBulkEntries r
def uptoBulkEntry {H : Type} : Lit × DataW H → Nat
  | (.string bytes, d) => bytes.length + uptoBulk d + 1
  | (_, d) => uptoBulk d + 1
 end
def uptoSmall : (H : Type) → List (DataW H) → Bool := fun _ ds => decide (uptoBulkAll ds ≤ 1048576)
def OpenSpec.upto (s : _root_.Go.ChangeSpec) : _root_.Go.OpenSpec := { _root_.Go.OpenSpec.ofChange s with cond := some uptoSmall }

/-- 'laws.FnExactPlanOk', WHERE WHAT IT READS IS OF BULK AT MOST 1048576: true; the input reads as it did. -/
def fnExactPlanOkUptoRow : OpenClaim := { program := "ytclegljalndaear", sum := "36af45b2844225c44ec328fbdc0dd5f19317af6d78320562eb0aa444a4942bc9", func := "loop.example/g00322/laws.FnExactPlanOk", spec := "fnExactPlanOk", apart := false, narrowed := true }
def FnExactPlanOkUptoSaid : Prop := fnExactPlanOkUptoRow.holds Try.pinned (OpenSpec.upto fnExactPlanOkSpec)

/-- 'laws.FnExactFitsAll', WHERE WHAT IT READS IS OF BULK AT MOST 1048576: true; the input reads as it did. -/
def fnExactFitsAllUptoRow : OpenClaim := { program := "ytclegljalndaear", sum := "36af45b2844225c44ec328fbdc0dd5f19317af6d78320562eb0aa444a4942bc9", func := "loop.example/g00322/laws.FnExactFitsAll", spec := "fnExactFitsAll", unfollowed := true, recurses := true, apart := false, narrowed := true }
def FnExactFitsAllUptoSaid : Prop := fnExactFitsAllUptoRow.holds Try.pinned (OpenSpec.upto fnExactFitsAllSpec)

/-- 'laws.FnExactEncodeKey', WHERE WHAT IT READS IS OF BULK AT MOST 1048576: true; the input reads as it did. -/
def fnExactEncodeKeyUptoRow : OpenClaim := { program := "ytclegljalndaear", sum := "36af45b2844225c44ec328fbdc0dd5f19317af6d78320562eb0aa444a4942bc9", func := "loop.example/g00322/laws.FnExactEncodeKey", spec := "fnExactEncodeKey", unfollowed := true, recurses := true, apart := false, narrowed := true }
def FnExactEncodeKeyUptoSaid : Prop := fnExactEncodeKeyUptoRow.holds Try.pinned (OpenSpec.upto fnExactEncodeKeySpec)

/-- 'laws.FnExactDecodeKey', WHERE WHAT IT READS IS OF BULK AT MOST 1048576: true; the input reads as it did. -/
def fnExactDecodeKeyUptoRow : OpenClaim := { program := "ytclegljalndaear", sum := "36af45b2844225c44ec328fbdc0dd5f19317af6d78320562eb0aa444a4942bc9", func := "loop.example/g00322/laws.FnExactDecodeKey", spec := "fnExactDecodeKey", unfollowed := true, recurses := true, apart := false, narrowed := true }
def FnExactDecodeKeyUptoSaid : Prop := fnExactDecodeKeyUptoRow.holds Try.pinned (OpenSpec.upto fnExactDecodeKeySpec)

/-- 'laws.FnExactLessKey', WHERE WHAT IT READS IS OF BULK AT MOST 1048576: true; the input reads as it did. -/
def fnExactLessKeyUptoRow : OpenClaim := { program := "ytclegljalndaear", sum := "36af45b2844225c44ec328fbdc0dd5f19317af6d78320562eb0aa444a4942bc9", func := "loop.example/g00322/laws.FnExactLessKey", spec := "fnExactLessKey", apart := false, narrowed := true }
def FnExactLessKeyUptoSaid : Prop := fnExactLessKeyUptoRow.holds Try.pinned (OpenSpec.upto fnExactLessKeySpec)

/-- 'laws.FnExactPick', WHERE WHAT IT READS IS OF BULK AT MOST 1048576: true; the input reads as it did. -/
def fnExactPickUptoRow : OpenClaim := { program := "ytclegljalndaear", sum := "36af45b2844225c44ec328fbdc0dd5f19317af6d78320562eb0aa444a4942bc9", func := "loop.example/g00322/laws.FnExactPick", spec := "fnExactPick", unfollowed := true, recurses := true, apart := false, narrowed := true }
def FnExactPickUptoSaid : Prop := fnExactPickUptoRow.holds Try.pinned (OpenSpec.upto fnExactPickSpec)

end Rows
end Go.Proofs.Ytclegljalndaear
