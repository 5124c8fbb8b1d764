/-
  PartTwo
-/
import Derived.Test.YtkakkjnbhklfpaaGreatDoorPackR9
import Derived.Test.YtkakkjnbhklfpaaGreatDoorPackR2
/-
  A part and a value that were put into variables of the call's own, in later worlds.
-/
namespace Go.Proofs.YtkakkjnbhklfpaaGreatDoor
open Go.RowKit
set_option maxRecDepth 4000

/-- A part and a value stand in variables of the call's own. -/
structure PV (w : World) (T U : TypeId) (c t : Int) (nul d : Bool) (k n : Int) (s : ByteArray) (W : World) : Prop where
  below : Below (w.heap.size + 2) ((w.alloc (.cells #[.int .i64 c, .int .i64 t, .bool nul, .bool d] T)).alloc (.cells #[.int .i64 k, .int .i64 n, .string s] U)) W
  size : w.heap.size + 2 ≤ W.heap.size
section
variable {w : World} {T U : TypeId} {c t : Int} {nul d : Bool} {k n : Int} {s : ByteArray} {W W' : World}
theorem PV.start (w : World) (T U : TypeId) (c t : Int) (nul d : Bool) (k n : Int) (s : ByteArray) : PV w T U c t nul d k n s ((w.alloc (.cells #[.int .i64 c, .int .i64 t, .bool nul, .bool d] T)).alloc (.cells #[.int .i64 k, .int .i64 n, .string s] U)) := ⟨Below.refl _ _, by simp⟩
theorem PV.drew (h : PV w T U c t nul d k n s W) : PV w T U c t nul d k n s W.drew := ⟨h.below.drew, h.size⟩
theorem PV.step (h : PV w T U c t nul d k n s W) (hB : Below W.heap.size W W') : PV w T U c t nul d k n s W' := ⟨h.below.trans (hB.mono h.size), Nat.le_trans h.size hB.size⟩
theorem PV.part (h : PV w T U c t nul d k n s W) : W.cell? ⟨w.heap.size, 0, none⟩ = some (.int .i64 c) ∧ W.cell? ⟨w.heap.size, 1, none⟩ = some (.int .i64 t) ∧ W.cell? ⟨w.heap.size, 2, none⟩ = some (.bool nul) ∧ W.cell? ⟨w.heap.size, 3, none⟩ = some (.bool d) := by
  refine ⟨?_, ?_, ?_, ?_⟩
  all_goals (rw [h.below.cell (by show _ < _; simp)]; simp [go_sem])
theorem PV.val (h : PV w T U c t nul d k n s W) : W.cell? ⟨w.heap.size + 1, 0, none⟩ = some (.int .i64 k) ∧ W.cell? ⟨w.heap.size + 1, 1, none⟩ = some (.int .i64 n) ∧ W.cell? ⟨w.heap.size + 1, 2, none⟩ = some (.string s) := by
  refine ⟨?_, ?_, ?_⟩
  all_goals (rw [h.below.cell (by show _ < _; simp)]; simp [go_sem])
theorem PV.all (h : PV w T U c t nul d k n s W) : Below w.heap.size w W := (((Below.refl _ _).alloc (Nat.le_refl _) _).alloc (by simp) _).trans (h.below.mono (by omega))
end
end Go.Proofs.YtkakkjnbhklfpaaGreatDoor

