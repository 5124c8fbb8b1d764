/-
  A part of a key in a variable of the call's own.
-/
import Derived.Test.YtbcgonfihdpjnaqInfo
namespace Go.Proofs.Ytbcgonfihdpjnaq
open Go.RowKit
set_option maxRecDepth 4000

/-- The four cells of a part. -/
def partC (c t : Int) (nul d : Bool) : Nat → Value
  | 0 => .int .i64 c
  | 1 => .int .i64 t
  | 2 => .bool nul
  | _ => .bool d

/-- A part in a variable of the call's own. -/
def PBox (w : World) (B : Nat) (c t : Int) (nul d : Bool) : Prop := w.rowIs B 31 4 (partC c t nul d)
section
variable {w w' : World} {B D i : Nat} {c t : Int} {nul d : Bool}
theorem PBox.new (w : World) (c t : Int) (nul d : Bool) : PBox (w.alloc (.cells #[.int .i64 c, .int .i64 t, .bool nul, .bool d] 31)) w.heap.size c t nul d :=
  World.rowIs_alloc w _ 31 (partC c t nul d) (fun j hj => by match j, hj with | 0, _ => rfl | 1, _ => rfl | 2, _ => rfl | 3, _ => rfl)
theorem PBox.cells (h : PBox w B c t nul d) : w.cell? ⟨B, 0, none⟩ = some (.int .i64 c) ∧ w.cell? ⟨B, 1, none⟩ = some (.int .i64 t) ∧ w.cell? ⟨B, 2, none⟩ = some (.bool nul) ∧ w.cell? ⟨B, 3, none⟩ = some (.bool d) :=
  ⟨h.cell (i := 0) (by decide), h.cell (i := 1) (by decide), h.cell (i := 2) (by decide), h.cell (i := 3) (by decide)⟩
theorem PBox.frozen (h : PBox w B c t nul d) : w.frozen? ⟨B, 0, none⟩ = false ∧ w.frozen? ⟨B, 1, none⟩ = false ∧ w.frozen? ⟨B, 2, none⟩ = false ∧ w.frozen? ⟨B, 3, none⟩ = false :=
  ⟨World.rowIs.frozen h 0, World.rowIs.frozen h 1, World.rowIs.frozen h 2, World.rowIs.frozen h 3⟩
theorem PBox.lt (h : PBox w B c t nul d) : B < w.heap.size := World.rowIs.lt h
theorem PBox.below (h : PBox w B c t nul d) (hb : Below w.heap.size w w') : PBox w' B c t nul d := h.of_block (hb.block B h.lt)
theorem PBox.other (h : PBox w B c t nul d) (hne : B ≠ D) (u : Value) : PBox (w.setCell ⟨D, i, none⟩ u) B c t nul d := h.of_block (Below.heap_setCell _ _ _ _ hne)
theorem PBox.drew (h : PBox w B c t nul d) : PBox w.drew B c t nul d := h
end
end Go.Proofs.Ytbcgonfihdpjnaq
