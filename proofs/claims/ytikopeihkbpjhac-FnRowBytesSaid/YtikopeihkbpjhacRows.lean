/-
  No cell of these rows narrows 'for every input' (looked for: loops, veiled, ifaces, maps, wideKeys, modest, calm, conditions, laid).
  DERIVED. THE GIVEN ROWS OF THIS SEAT. 6 by the template 'for every input the law returns true; each argument reads behind the call as it read before'; 0 by the template 'total and deterministic' (their statements: YtikopeihkbpjhacTotals.lean).
  GIVEN WITH THE SEED: the statements are not yours to turn. If you find one false, say at which input.
  Laid BY PROGRAM, IN A SANDBOX (cutbox-rows.mjs): the forced cells as the released guide's own fill.sh prints them over the translation a3debfd514563215… (all of the seat's roots in one cut). By AI agents, Wed Nov 11 2026. No macro, syntax, notation, axiom, sorry.
-/
import Derived.Test.YtikopeihkbpjhacChecked
import GoSem.Claim
import GoSem.ClaimJoined
import GoSem.ClaimMapViews
import Derived.JoinedTies
import Derived.KernelRfl
namespace Go.Proofs.Ytikopeihkbpjhac
/- THE CELL 'sum', in the pinned program and in every row, IS THE sha256 OF THE DUMP (.gsa) THAT YtikopeihkbpjhacProg.lean LOADS. Nothing in Lean hashes anything: it is a label: what it is worth is what the hold of that sum in a sandbox is worth. -/
noncomputable def Try.pinned : Pinned := { name := "ytikopeihkbpjhac", sum := "a3debfd514563215c0f45a306e8c3b4738469506b711d5d5fb9c81089b9a5c1d", checked := Try.checked }
namespace Rows
def none {H : Type} : Left H := { results := [], args := [] }

/-- 'laws.FnPartsRead': WHATEVER THE INPUT: true; the input reads as it did. -/
def fnPartsReadSpec : ChangeSpec := { name := "fnPartsRead", fn := fun _ => fun
  | [d] => { results := [.lit (.bool true)], args := [d] }
  | _ => none }
def fnPartsReadRow : OpenClaim := { program := "ytikopeihkbpjhac", sum := "a3debfd514563215c0f45a306e8c3b4738469506b711d5d5fb9c81089b9a5c1d", func := "loop.example/g00322/laws.FnPartsRead", spec := "fnPartsRead", unfollowed := true, recurses := true, apart := false }
def FnPartsReadSaid : Prop := fnPartsReadRow.holds Try.pinned (OpenSpec.ofChange fnPartsReadSpec)

/-- ITS FALSE NEIGHBOUR: 'it returns false'. Refute it at one input. -/
def fnPartsReadWrong : ChangeSpec := { name := "fnPartsRead", fn := fun _ => fun
  | [d] => { results := [.lit (.bool false)], args := [d] }
  | _ => none }
def FnPartsReadWrongFalsely : Prop := fnPartsReadRow.holds Try.pinned (OpenSpec.ofChange fnPartsReadWrong)

/-- 'laws.FnKeys': WHATEVER THE INPUT: true; the input reads as it did. -/
def fnKeysSpec : ChangeSpec := { name := "fnKeys", fn := fun _ => fun
  | [d] => { results := [.lit (.bool true)], args := [d] }
  | _ => none }
def fnKeysRow : OpenClaim := { program := "ytikopeihkbpjhac", sum := "a3debfd514563215c0f45a306e8c3b4738469506b711d5d5fb9c81089b9a5c1d", func := "loop.example/g00322/laws.FnKeys", spec := "fnKeys", inPlace := ["internal/bytealg.Compare"], unfollowed := true, recurses := true, apart := false }
def FnKeysSaid : Prop := fnKeysRow.holds Try.pinned (OpenSpec.ofChange fnKeysSpec)

/-- ITS FALSE NEIGHBOUR: 'it returns false'. Refute it at one input. -/
def fnKeysWrong : ChangeSpec := { name := "fnKeys", fn := fun _ => fun
  | [d] => { results := [.lit (.bool false)], args := [d] }
  | _ => none }
def FnKeysWrongFalsely : Prop := fnKeysRow.holds Try.pinned (OpenSpec.ofChange fnKeysWrong)

/-- 'laws.FnBeginnings': WHATEVER THE INPUT: true; the input reads as it did. -/
def fnBeginningsSpec : ChangeSpec := { name := "fnBeginnings", fn := fun _ => fun
  | [d] => { results := [.lit (.bool true)], args := [d] }
  | _ => none }
def fnBeginningsRow : OpenClaim := { program := "ytikopeihkbpjhac", sum := "a3debfd514563215c0f45a306e8c3b4738469506b711d5d5fb9c81089b9a5c1d", func := "loop.example/g00322/laws.FnBeginnings", spec := "fnBeginnings", unfollowed := true, recurses := true, apart := false }
def FnBeginningsSaid : Prop := fnBeginningsRow.holds Try.pinned (OpenSpec.ofChange fnBeginningsSpec)

/-- ITS FALSE NEIGHBOUR: 'it returns false'. Refute it at one input. -/
def fnBeginningsWrong : ChangeSpec := { name := "fnBeginnings", fn := fun _ => fun
  | [d] => { results := [.lit (.bool false)], args := [d] }
  | _ => none }
def FnBeginningsWrongFalsely : Prop := fnBeginningsRow.holds Try.pinned (OpenSpec.ofChange fnBeginningsWrong)

/-- 'laws.FnKeysRead': WHATEVER THE INPUT: true; the input reads as it did. -/
def fnKeysReadSpec : ChangeSpec := { name := "fnKeysRead", fn := fun _ => fun
  | [d] => { results := [.lit (.bool true)], args := [d] }
  | _ => none }
def fnKeysReadRow : OpenClaim := { program := "ytikopeihkbpjhac", sum := "a3debfd514563215c0f45a306e8c3b4738469506b711d5d5fb9c81089b9a5c1d", func := "loop.example/g00322/laws.FnKeysRead", spec := "fnKeysRead", unfollowed := true, recurses := true, apart := false }
def FnKeysReadSaid : Prop := fnKeysReadRow.holds Try.pinned (OpenSpec.ofChange fnKeysReadSpec)

/-- ITS FALSE NEIGHBOUR: 'it returns false'. Refute it at one input. -/
def fnKeysReadWrong : ChangeSpec := { name := "fnKeysRead", fn := fun _ => fun
  | [d] => { results := [.lit (.bool false)], args := [d] }
  | _ => none }
def FnKeysReadWrongFalsely : Prop := fnKeysReadRow.holds Try.pinned (OpenSpec.ofChange fnKeysReadWrong)

/-- 'laws.FnLessKeys': WHATEVER THE INPUT: true; the input reads as it did. -/
def fnLessKeysSpec : ChangeSpec := { name := "fnLessKeys", fn := fun _ => fun
  | [d] => { results := [.lit (.bool true)], args := [d] }
  | _ => none }
def fnLessKeysRow : OpenClaim := { program := "ytikopeihkbpjhac", sum := "a3debfd514563215c0f45a306e8c3b4738469506b711d5d5fb9c81089b9a5c1d", func := "loop.example/g00322/laws.FnLessKeys", spec := "fnLessKeys", unfollowed := true, recurses := true, apart := false }
def FnLessKeysSaid : Prop := fnLessKeysRow.holds Try.pinned (OpenSpec.ofChange fnLessKeysSpec)

/-- ITS FALSE NEIGHBOUR: 'it returns false'. Refute it at one input. -/
def fnLessKeysWrong : ChangeSpec := { name := "fnLessKeys", fn := fun _ => fun
  | [d] => { results := [.lit (.bool false)], args := [d] }
  | _ => none }
def FnLessKeysWrongFalsely : Prop := fnLessKeysRow.holds Try.pinned (OpenSpec.ofChange fnLessKeysWrong)

/-- 'laws.FnRowBytes': WHATEVER THE INPUT: true; the input reads as it did. -/
def fnRowBytesSpec : ChangeSpec := { name := "fnRowBytes", fn := fun _ => fun
  | [d] => { results := [.lit (.bool true)], args := [d] }
  | _ => none }
def fnRowBytesRow : OpenClaim := { program := "ytikopeihkbpjhac", sum := "a3debfd514563215c0f45a306e8c3b4738469506b711d5d5fb9c81089b9a5c1d", func := "loop.example/g00322/laws.FnRowBytes", spec := "fnRowBytes", unfollowed := true, recurses := true, apart := false }
def FnRowBytesSaid : Prop := fnRowBytesRow.holds Try.pinned (OpenSpec.ofChange fnRowBytesSpec)

/-- ITS FALSE NEIGHBOUR: 'it returns false'. Refute it at one input. -/
def fnRowBytesWrong : ChangeSpec := { name := "fnRowBytes", fn := fun _ => fun
  | [d] => { results := [.lit (.bool false)], args := [d] }
  | _ => none }
def FnRowBytesWrongFalsely : Prop := fnRowBytesRow.holds Try.pinned (OpenSpec.ofChange fnRowBytesWrong)

/- THE SECOND FORM. 'bulk': how many values and letters a reading holds, each counted each time it is reached (what is shared counts as often as it is met; a slice's spare places count too). A statement '..UptoSaid' is the law's where the arguments, and the package variables that the reading takes, are together of bulk at most 1048576: NARROWER than '..Said'. Prove '..Said' where nothing that the law and all that it calls make is longer than what came in: it says more and counts as full. Else prove '..UptoSaid'. A law counts once. -/
mutual
def uptoBulk {H : Type} : DataW H → Nat
  | .lit (.string bytes) => bytes.length + 1
  | .lit _ => 1
  | .nil => 1
  | .ptr d => uptoBulk d + 1
  | .slice elems spare => uptoBulkAll elems + uptoBulkAll spare + 1
  | .agg parts => uptoBulkAll parts + 1
  | .iface _ d => uptoBulk d + 1
  | .map entries => uptoBulkEntries entries + 1
  | .held _ => 1
def uptoBulkAll {H : Type} : List (DataW H) → Nat
  | [] => 0
  | d :: r => uptoBulk d + uptoBulkAll r
def uptoBulkEntries {H : Type} : List (Lit × DataW H) → Nat
  | [] => 0
  | x :: r => uptoBulkEntry x + uptoBulkEntries r
def uptoBulkEntry {H : Type} : Lit × DataW H → Nat
  | (.string bytes, d) => bytes.length + uptoBulk d + 1
  | (_, d) => uptoBulk d + 1
 end
def uptoSmall : (H : Type) → List (DataW H) → Bool := fun _ ds => decide (uptoBulkAll ds ≤ 1048576)
def OpenSpec.upto (s : _root_.Go.ChangeSpec) : _root_.Go.OpenSpec := { _root_.Go.OpenSpec.ofChange s with cond := some uptoSmall }

/-- 'laws.FnPartsRead', WHERE WHAT IT READS IS OF BULK AT MOST 1048576: true; the input reads as it did. -/
def fnPartsReadUptoRow : OpenClaim := { program := "ytikopeihkbpjhac", sum := "a3debfd514563215c0f45a306e8c3b4738469506b711d5d5fb9c81089b9a5c1d", func := "loop.example/g00322/laws.FnPartsRead", spec := "fnPartsRead", unfollowed := true, recurses := true, apart := false, narrowed := true }
def FnPartsReadUptoSaid : Prop := fnPartsReadUptoRow.holds Try.pinned (OpenSpec.upto fnPartsReadSpec)

/-- 'laws.FnKeys', WHERE WHAT IT READS IS OF BULK AT MOST 1048576: true; the input reads as it did. -/
def fnKeysUptoRow : OpenClaim := { program := "ytikopeihkbpjhac", sum := "a3debfd514563215c0f45a306e8c3b4738469506b711d5d5fb9c81089b9a5c1d", func := "loop.example/g00322/laws.FnKeys", spec := "fnKeys", inPlace := ["internal/bytealg.Compare"], unfollowed := true, recurses := true, apart := false, narrowed := true }
def FnKeysUptoSaid : Prop := fnKeysUptoRow.holds Try.pinned (OpenSpec.upto fnKeysSpec)

/-- 'laws.FnBeginnings', WHERE WHAT IT READS IS OF BULK AT MOST 1048576: true; the input reads as it did. -/
def fnBeginningsUptoRow : OpenClaim := { program := "ytikopeihkbpjhac", sum := "a3debfd514563215c0f45a306e8c3b4738469506b711d5d5fb9c81089b9a5c1d", func := "loop.example/g00322/laws.FnBeginnings", spec := "fnBeginnings", unfollowed := true, recurses := true, apart := false, narrowed := true }
def FnBeginningsUptoSaid : Prop := fnBeginningsUptoRow.holds Try.pinned (OpenSpec.upto fnBeginningsSpec)

/-- 'laws.FnKeysRead', WHERE WHAT IT READS IS OF BULK AT MOST 1048576: true; the input reads as it did. -/
def fnKeysReadUptoRow : OpenClaim := { program := "ytikopeihkbpjhac", sum := "a3debfd514563215c0f45a306e8c3b4738469506b711d5d5fb9c81089b9a5c1d", func := "loop.example/g00322/laws.FnKeysRead", spec := "fnKeysRead", unfollowed := true, recurses := true, apart := false, narrowed := true }
def FnKeysReadUptoSaid : Prop := fnKeysReadUptoRow.holds Try.pinned (OpenSpec.upto fnKeysReadSpec)

/-- 'laws.FnLessKeys', WHERE WHAT IT READS IS OF BULK AT MOST 1048576: true; the input reads as it did. -/
def fnLessKeysUptoRow : OpenClaim := { program := "ytikopeihkbpjhac", sum := "a3debfd514563215c0f45a306e8c3b4738469506b711d5d5fb9c81089b9a5c1d", func := "loop.example/g00322/laws.FnLessKeys", spec := "fnLessKeys", unfollowed := true, recurses := true, apart := false, narrowed := true }
def FnLessKeysUptoSaid : Prop := fnLessKeysUptoRow.holds Try.pinned (OpenSpec.upto fnLessKeysSpec)

/-- 'laws.FnRowBytes', WHERE WHAT IT READS IS OF BULK AT MOST 1048576: true; the input reads as it did. -/
def fnRowBytesUptoRow : OpenClaim := { program := "ytikopeihkbpjhac", sum := "a3debfd514563215c0f45a306e8c3b4738469506b711d5d5fb9c81089b9a5c1d", func := "loop.example/g00322/laws.FnRowBytes", spec := "fnRowBytes", unfollowed := true, recurses := true, apart := false, narrowed := true }
def FnRowBytesUptoSaid : Prop := fnRowBytesUptoRow.holds Try.pinned (OpenSpec.upto fnRowBytesSpec)

end Rows
end Go.Proofs.Ytikopeihkbpjhac
