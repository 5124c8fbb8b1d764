/-
  A part and two values that were put into variables of the call's own, in later worlds.
-/
import Derived.Test.YtbcgonfihdpjnaqPartBox
import Derived.Test.YtbcgonfihdpjnaqValBox
namespace Go.Proofs.Ytbcgonfihdpjnaq
open Go.RowKit
set_option maxRecDepth 4000

/-- A part and two values stand in variables of the call's own. -/
structure PVV (w : World) (T U : TypeId) (c t : Int) (nul d : Bool) (k n : Int) (s : ByteArray) (k' n' : Int) (s' : ByteArray) (W : World) : Prop where
  below : Below (w.heap.size + 3) (((w.alloc (.cells #[.int .i64 c, .int .i64 t, .bool nul, .bool d] T)).alloc (.cells #[.int .i64 k, .int .i64 n, .string s] U)).alloc (.cells #[.int .i64 k', .int .i64 n', .string s'] U)) W
  size : w.heap.size + 3 ≤ W.heap.size
section
variable {w : World} {T U : TypeId} {c t : Int} {nul d : Bool} {k n : Int} {s : ByteArray} {k' n' : Int} {s' : ByteArray} {W W' : World}
theorem PVV.start (w : World) (T U : TypeId) (c t : Int) (nul d : Bool) (k n : Int) (s : ByteArray) (k' n' : Int) (s' : ByteArray) : PVV w T U c t nul d k n s k' n' s' (((w.alloc (.cells #[.int .i64 c, .int .i64 t, .bool nul, .bool d] T)).alloc (.cells #[.int .i64 k, .int .i64 n, .string s] U)).alloc (.cells #[.int .i64 k', .int .i64 n', .string s'] U)) := ⟨Below.refl _ _, by simp⟩
theorem PVV.drew (h : PVV w T U c t nul d k n s k' n' s' W) : PVV w T U c t nul d k n s k' n' s' W.drew := ⟨h.below.drew, h.size⟩
theorem PVV.step (h : PVV w T U c t nul d k n s k' n' s' W) (hB : Below W.heap.size W W') : PVV w T U c t nul d k n s k' n' s' W' := ⟨h.below.trans (hB.mono h.size), Nat.le_trans h.size hB.size⟩
theorem PVV.part (h : PVV w T U c t nul d k n s k' n' s' W) : W.cell? ⟨w.heap.size, 0, none⟩ = some (.int .i64 c) ∧ W.cell? ⟨w.heap.size, 1, none⟩ = some (.int .i64 t) ∧ W.cell? ⟨w.heap.size, 2, none⟩ = some (.bool nul) ∧ W.cell? ⟨w.heap.size, 3, none⟩ = some (.bool d) := by
  refine ⟨?_, ?_, ?_, ?_⟩
  all_goals (rw [h.below.cell (by show _ < _; simp)]; simp [go_sem])
theorem PVV.val (h : PVV w T U c t nul d k n s k' n' s' W) : W.cell? ⟨w.heap.size + 1, 0, none⟩ = some (.int .i64 k) ∧ W.cell? ⟨w.heap.size + 1, 1, none⟩ = some (.int .i64 n) ∧ W.cell? ⟨w.heap.size + 1, 2, none⟩ = some (.string s) := by
  refine ⟨?_, ?_, ?_⟩
  all_goals (rw [h.below.cell (by show _ < _; simp)]; simp [go_sem])
theorem PVV.val2 (h : PVV w T U c t nul d k n s k' n' s' W) : W.cell? ⟨w.heap.size + 1 + 1, 0, none⟩ = some (.int .i64 k') ∧ W.cell? ⟨w.heap.size + 1 + 1, 1, none⟩ = some (.int .i64 n') ∧ W.cell? ⟨w.heap.size + 1 + 1, 2, none⟩ = some (.string s') := by
  refine ⟨?_, ?_, ?_⟩
  all_goals (rw [h.below.cell (by show _ < _; simp)]; simp [go_sem])
theorem PVV.all (h : PVV w T U c t nul d k n s k' n' s' W) : Below w.heap.size w W := ((((Below.refl _ _).alloc (Nat.le_refl _) _).alloc (by simp) _).alloc (by simp; omega) _).trans (h.below.mono (by omega))
end
end Go.Proofs.Ytbcgonfihdpjnaq
