/-
  No cell of these rows narrows 'for every input' (looked for: loops, veiled, ifaces, maps, wideKeys, modest, calm, conditions, laid).
  DERIVED. THE GIVEN ROWS OF THIS SEAT. 6 by the template 'for every input the law returns true; each argument reads behind the call as it read before'; 0 by the template 'total and deterministic' (their statements: YtdhfbblameiloaaTotals.lean).
  GIVEN WITH THE SEED: the statements are not yours to turn. If you find one false, say at which input.
  Laid BY PROGRAM, IN A SANDBOX (cutbox-rows.mjs): the forced cells as the released guide's own fill.sh prints them over the translation a80d193d41e3d2ef… (all of the seat's roots in one cut). By AI agents, Wed Nov 11 2026. No macro, syntax, notation, axiom, sorry.
-/
import Derived.Test.YtdhfbblameiloaaChecked
import GoSem.Claim
import GoSem.ClaimJoined
import GoSem.ClaimMapViews
import Derived.JoinedTies
import Derived.KernelRfl
namespace Go.Proofs.Ytdhfbblameiloaa
/- THE CELL 'sum', in the pinned program and in every row, IS THE sha256 OF THE DUMP (.gsa) THAT YtdhfbblameiloaaProg.lean LOADS. Nothing in Lean hashes anything: it is a label: what it is worth is what the hold of that sum in a sandbox is worth. -/
noncomputable def Try.pinned : Pinned := { name := "ytdhfbblameiloaa", sum := "a80d193d41e3d2efb7219a3ce6ac6e73f4a43047c50334d21fdcf3eb503c2169", checked := Try.checked }
namespace Rows
def none {H : Type} : Left H := { results := [], args := [] }

/-- 'laws.FnExactWriteSec': WHATEVER THE INPUT: true; the input reads as it did. -/
def fnExactWriteSecSpec : ChangeSpec := { name := "fnExactWriteSec", fn := fun _ => fun
  | [d1, d2, d3] => { results := [.lit (.bool true)], args := [d1, d2, d3] }
  | _ => none }
def fnExactWriteSecRow : OpenClaim := { program := "ytdhfbblameiloaa", sum := "a80d193d41e3d2efb7219a3ce6ac6e73f4a43047c50334d21fdcf3eb503c2169", func := "loop.example/g00322/laws.FnExactWriteSec", spec := "fnExactWriteSec", unfollowed := true, recurses := true, apart := false }
def FnExactWriteSecSaid : Prop := fnExactWriteSecRow.holds Try.pinned (OpenSpec.ofChange fnExactWriteSecSpec)

/-- ITS FALSE NEIGHBOUR: 'it returns false'. Refute it at one input. -/
def fnExactWriteSecWrong : ChangeSpec := { name := "fnExactWriteSec", fn := fun _ => fun
  | [d1, d2, d3] => { results := [.lit (.bool false)], args := [d1, d2, d3] }
  | _ => none }
def FnExactWriteSecWrongFalsely : Prop := fnExactWriteSecRow.holds Try.pinned (OpenSpec.ofChange fnExactWriteSecWrong)

/-- 'laws.FnDisks': WHATEVER THE INPUT: true; the input reads as it did. -/
def fnDisksSpec : ChangeSpec := { name := "fnDisks", fn := fun _ => fun
  | [d] => { results := [.lit (.bool true)], args := [d] }
  | _ => none }
def fnDisksRow : OpenClaim := { program := "ytdhfbblameiloaa", sum := "a80d193d41e3d2efb7219a3ce6ac6e73f4a43047c50334d21fdcf3eb503c2169", func := "loop.example/g00322/laws.FnDisks", spec := "fnDisks", unfollowed := true, recurses := true, apart := false }
def FnDisksSaid : Prop := fnDisksRow.holds Try.pinned (OpenSpec.ofChange fnDisksSpec)

/-- ITS FALSE NEIGHBOUR: 'it returns false'. Refute it at one input. -/
def fnDisksWrong : ChangeSpec := { name := "fnDisks", fn := fun _ => fun
  | [d] => { results := [.lit (.bool false)], args := [d] }
  | _ => none }
def FnDisksWrongFalsely : Prop := fnDisksRow.holds Try.pinned (OpenSpec.ofChange fnDisksWrong)

/-- 'laws.FnFlushed': WHATEVER THE INPUT: true; the input reads as it did. -/
def fnFlushedSpec : ChangeSpec := { name := "fnFlushed", fn := fun _ => fun
  | [d] => { results := [.lit (.bool true)], args := [d] }
  | _ => none }
def fnFlushedRow : OpenClaim := { program := "ytdhfbblameiloaa", sum := "a80d193d41e3d2efb7219a3ce6ac6e73f4a43047c50334d21fdcf3eb503c2169", func := "loop.example/g00322/laws.FnFlushed", spec := "fnFlushed", unfollowed := true, recurses := true, apart := false }
def FnFlushedSaid : Prop := fnFlushedRow.holds Try.pinned (OpenSpec.ofChange fnFlushedSpec)

/-- ITS FALSE NEIGHBOUR: 'it returns false'. Refute it at one input. -/
def fnFlushedWrong : ChangeSpec := { name := "fnFlushed", fn := fun _ => fun
  | [d] => { results := [.lit (.bool false)], args := [d] }
  | _ => none }
def FnFlushedWrongFalsely : Prop := fnFlushedRow.holds Try.pinned (OpenSpec.ofChange fnFlushedWrong)

/-- 'laws.FnNewDisks': WHATEVER THE INPUT: true; the input reads as it did. -/
def fnNewDisksSpec : ChangeSpec := { name := "fnNewDisks", fn := fun _ => fun
  | [d] => { results := [.lit (.bool true)], args := [d] }
  | _ => none }
def fnNewDisksRow : OpenClaim := { program := "ytdhfbblameiloaa", sum := "a80d193d41e3d2efb7219a3ce6ac6e73f4a43047c50334d21fdcf3eb503c2169", func := "loop.example/g00322/laws.FnNewDisks", spec := "fnNewDisks", unfollowed := true, recurses := true, apart := false }
def FnNewDisksSaid : Prop := fnNewDisksRow.holds Try.pinned (OpenSpec.ofChange fnNewDisksSpec)

/-- ITS FALSE NEIGHBOUR: 'it returns false'. Refute it at one input. -/
def fnNewDisksWrong : ChangeSpec := { name := "fnNewDisks", fn := fun _ => fun
  | [d] => { results := [.lit (.bool false)], args := [d] }
  | _ => none }
def FnNewDisksWrongFalsely : Prop := fnNewDisksRow.holds Try.pinned (OpenSpec.ofChange fnNewDisksWrong)

/-- 'laws.FnPagesRead': WHATEVER THE INPUT: true; the input reads as it did. -/
def fnPagesReadSpec : ChangeSpec := { name := "fnPagesRead", fn := fun _ => fun
  | [d] => { results := [.lit (.bool true)], args := [d] }
  | _ => none }
def fnPagesReadRow : OpenClaim := { program := "ytdhfbblameiloaa", sum := "a80d193d41e3d2efb7219a3ce6ac6e73f4a43047c50334d21fdcf3eb503c2169", func := "loop.example/g00322/laws.FnPagesRead", spec := "fnPagesRead", unfollowed := true, recurses := true, apart := false }
def FnPagesReadSaid : Prop := fnPagesReadRow.holds Try.pinned (OpenSpec.ofChange fnPagesReadSpec)

/-- ITS FALSE NEIGHBOUR: 'it returns false'. Refute it at one input. -/
def fnPagesReadWrong : ChangeSpec := { name := "fnPagesRead", fn := fun _ => fun
  | [d] => { results := [.lit (.bool false)], args := [d] }
  | _ => none }
def FnPagesReadWrongFalsely : Prop := fnPagesReadRow.holds Try.pinned (OpenSpec.ofChange fnPagesReadWrong)

/-- 'laws.FnBest': WHATEVER THE INPUT: true; the input reads as it did. -/
def fnBestSpec : ChangeSpec := { name := "fnBest", fn := fun _ => fun
  | [d] => { results := [.lit (.bool true)], args := [d] }
  | _ => none }
def fnBestRow : OpenClaim := { program := "ytdhfbblameiloaa", sum := "a80d193d41e3d2efb7219a3ce6ac6e73f4a43047c50334d21fdcf3eb503c2169", func := "loop.example/g00322/laws.FnBest", spec := "fnBest", unfollowed := true, recurses := true, apart := false }
def FnBestSaid : Prop := fnBestRow.holds Try.pinned (OpenSpec.ofChange fnBestSpec)

/-- ITS FALSE NEIGHBOUR: 'it returns false'. Refute it at one input. -/
def fnBestWrong : ChangeSpec := { name := "fnBest", fn := fun _ => fun
  | [d] => { results := [.lit (.bool false)], args := [d] }
  | _ => none }
def FnBestWrongFalsely : Prop := fnBestRow.holds Try.pinned (OpenSpec.ofChange fnBestWrong)

/- THE SECOND FORM. 'bulk': how many values and letters a reading holds, each counted each time it is reached (what is shared counts as often as it is met; a slice's spare places count too). A statement '..UptoSaid' is the law's where the arguments, and the package variables that the reading takes, are together of bulk at most 1048576: NARROWER than '..Said'. Prove '..Said' where nothing that the law and all that it calls make is longer than what came in: it says more and counts as full. Else prove '..UptoSaid'. A law counts once. -/
mutual
def uptoBulk {H : Type} : DataW H → Nat
  | .lit (.string bytes) => bytes.length + 1
  | .lit _ => 1
  | .nil => 1
  | .ptr d => uptoBulk d + 1
  | .slice elems spare => uptoBulkAll elems + uptoBulkAll spare + 1
  | .agg parts => uptoBulkAll parts + 1
  | .iface _ d => uptoBulk d + 1
  | .map entries => uptoBulkEntries entries + 1
  | .held _ => 1
def uptoBulkAll {H : Type} : List (DataW H) → Nat
  | [] => 0
  | d :: r => uptoBulk d + uptoBulkAll r
def uptoBulkEntries {H : Type} : List (Lit × DataW H) → Nat
  | [] => 0
  | x :: r => uptoBulkEntry x + uptoBulkEntries r
def uptoBulkEntry {H : Type} : Lit × DataW H → Nat
  | (.string bytes, d) => bytes.length + uptoBulk d + 1
  | (_, d) => uptoBulk d + 1
 end
def uptoSmall : (H : Type) → List (DataW H) → Bool := fun _ ds => decide (uptoBulkAll ds ≤ 1048576)
def OpenSpec.upto (s : _root_.Go.ChangeSpec) : _root_.Go.OpenSpec := { _root_.Go.OpenSpec.ofChange s with cond := some uptoSmall }

/-- 'laws.FnExactWriteSec', WHERE WHAT IT READS IS OF BULK AT MOST 1048576: true; the input reads as it did. -/
def fnExactWriteSecUptoRow : OpenClaim := { program := "ytdhfbblameiloaa", sum := "a80d193d41e3d2efb7219a3ce6ac6e73f4a43047c50334d21fdcf3eb503c2169", func := "loop.example/g00322/laws.FnExactWriteSec", spec := "fnExactWriteSec", unfollowed := true, recurses := true, apart := false, narrowed := true }
def FnExactWriteSecUptoSaid : Prop := fnExactWriteSecUptoRow.holds Try.pinned (OpenSpec.upto fnExactWriteSecSpec)

/-- 'laws.FnDisks', WHERE WHAT IT READS IS OF BULK AT MOST 1048576: true; the input reads as it did. -/
def fnDisksUptoRow : OpenClaim := { program := "ytdhfbblameiloaa", sum := "a80d193d41e3d2efb7219a3ce6ac6e73f4a43047c50334d21fdcf3eb503c2169", func := "loop.example/g00322/laws.FnDisks", spec := "fnDisks", unfollowed := true, recurses := true, apart := false, narrowed := true }
def FnDisksUptoSaid : Prop := fnDisksUptoRow.holds Try.pinned (OpenSpec.upto fnDisksSpec)

/-- 'laws.FnFlushed', WHERE WHAT IT READS IS OF BULK AT MOST 1048576: true; the input reads as it did. -/
def fnFlushedUptoRow : OpenClaim := { program := "ytdhfbblameiloaa", sum := "a80d193d41e3d2efb7219a3ce6ac6e73f4a43047c50334d21fdcf3eb503c2169", func := "loop.example/g00322/laws.FnFlushed", spec := "fnFlushed", unfollowed := true, recurses := true, apart := false, narrowed := true }
def FnFlushedUptoSaid : Prop := fnFlushedUptoRow.holds Try.pinned (OpenSpec.upto fnFlushedSpec)

/-- 'laws.FnNewDisks', WHERE WHAT IT READS IS OF BULK AT MOST 1048576: true; the input reads as it did. -/
def fnNewDisksUptoRow : OpenClaim := { program := "ytdhfbblameiloaa", sum := "a80d193d41e3d2efb7219a3ce6ac6e73f4a43047c50334d21fdcf3eb503c2169", func := "loop.example/g00322/laws.FnNewDisks", spec := "fnNewDisks", unfollowed := true, recurses := true, apart := false, narrowed := true }
def FnNewDisksUptoSaid : Prop := fnNewDisksUptoRow.holds Try.pinned (OpenSpec.upto fnNewDisksSpec)

/-- 'laws.FnPagesRead', WHERE WHAT IT READS IS OF BULK AT MOST 1048576: true; the input reads as it did. -/
def fnPagesReadUptoRow : OpenClaim := { program := "ytdhfbblameiloaa", sum := "a80d193d41e3d2efb7219a3ce6ac6e73f4a43047c50334d21fdcf3eb503c2169", func := "loop.example/g00322/laws.FnPagesRead", spec := "fnPagesRead", unfollowed := true, recurses := true, apart := false, narrowed := true }
def FnPagesReadUptoSaid : Prop := fnPagesReadUptoRow.holds Try.pinned (OpenSpec.upto fnPagesReadSpec)

/-- 'laws.FnBest', WHERE WHAT IT READS IS OF BULK AT MOST 1048576: true; the input reads as it did. -/
def fnBestUptoRow : OpenClaim := { program := "ytdhfbblameiloaa", sum := "a80d193d41e3d2efb7219a3ce6ac6e73f4a43047c50334d21fdcf3eb503c2169", func := "loop.example/g00322/laws.FnBest", spec := "fnBest", unfollowed := true, recurses := true, apart := false, narrowed := true }
def FnBestUptoSaid : Prop := fnBestUptoRow.holds Try.pinned (OpenSpec.upto fnBestSpec)

end Rows
end Go.Proofs.Ytdhfbblameiloaa
