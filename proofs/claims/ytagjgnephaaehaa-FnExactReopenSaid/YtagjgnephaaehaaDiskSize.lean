/-
  How much a disk holds, as the law counts it; where that is not too much, nothing of it is long.
-/
import Derived.Test.YtagjgnephaaehaaDiskView
import Derived.Test.YtagjgnephaaehaaInfo
import Derived.Deep.LoopGhost
namespace Go.Proofs.Ytagjgnephaaehaa
open Go.RowKit
set_option maxRecDepth 4000

/-- What was put into a variable of five cells is there while nothing of it is written. -/
theorem box5 {w wr : World} {T : TypeId} {x0 x1 x2 x3 x4 : Value} (h : Below (w.heap.size + 1) (w.alloc (.cells #[x0, x1, x2, x3, x4] T)) wr) :
    wr.cell? ⟨w.heap.size, 0, none⟩ = some x0 ∧ wr.cell? ⟨w.heap.size, 1, none⟩ = some x1 ∧ wr.cell? ⟨w.heap.size, 2, none⟩ = some x2 ∧ wr.cell? ⟨w.heap.size, 3, none⟩ = some x3 ∧ wr.cell? ⟨w.heap.size, 4, none⟩ = some x4 := by
  refine ⟨?_, ?_, ?_, ?_, ?_⟩
  all_goals (rw [h.cell (by simp)]; simp [go_sem])
theorem box5_below {w wr : World} {o : Obj} (h : Below (w.heap.size + 1) (w.alloc o) wr) : Below w.heap.size w wr ∧ w.heap.size + 1 ≤ wr.heap.size := by
  refine ⟨((Below.refl _ _).alloc (Nat.le_refl _) _).trans (h.mono (by simp)), ?_⟩
  have := h.size
  simpa using this
theorem box5_start (w : World) (o : Obj) : Below (w.heap.size + 1) (w.alloc o) (w.alloc o) := Below.refl _ _
theorem box5_on {w wr w' : World} {o : Obj} (h : Below (w.heap.size + 1) (w.alloc o) wr) (h' : Below wr.heap.size wr w') : Below (w.heap.size + 1) (w.alloc o) w' := h.trans (h'.mono (box5_below h).2)

/-- Rows that a machine can have. -/
structure KLim (D : PDisk) : Prop where
  ns : D.secs.length ≤ maxLen
  sec : ∀ i (h : i < D.secs.length), (D.secs[i]).length ≤ maxLen
  nc : D.cache.length ≤ maxLen
  cache : ∀ i (h : i < D.cache.length), (D.cache[i]).2.length ≤ maxLen
  nf : D.faults.length ≤ maxLen

/-- What a count comes to: too much, or what is left. -/
def LeftK (w : World) (left : Int) (P : Prop) (e : Ending) (w' : World) : Prop := ∃ L : Int, e = .returned (.int .i64 L) ∧ Below w.heap.size w w' ∧ (L = -1 ∨ (0 ≤ L ∧ L ≤ left ∧ P))

set_option maxHeartbeats 1000000 in
theorem szByteS_fine (a : Option Addr) (n cap : Nat) (left : Int) (w : World) (hs : n ≤ maxLen) (h0 : 0 ≤ left) (hl : left ≤ 1048576) :
    Calls Try.prog 40 #[.slice a n cap, .int .i64 left] w (LeftK w left (n ≤ 1048576)) := by
  have hs' : (n : Int) ≤ 9223372036854775807 := by unfold maxLen at hs; omega
  by_cases hb : left - (n : Int) < 0
  · go_enter Try.func40, Try.ntmps40
    go_wp2
    go_ret
    exact ⟨_, rfl, Below.refl _ _, .inl rfl⟩
  · go_enter Try.func40, Try.ntmps40
    go_wp2
    go_ret
    exact ⟨_, rfl, Below.refl _ _, .inr ⟨by omega, by omega, by omega⟩⟩
set_option maxHeartbeats 1000000 in
theorem szFaultS_fine (a : Option Addr) (n cap : Nat) (left : Int) (w : World) (hs : n ≤ maxLen) (h0 : 0 ≤ left) (hl : left ≤ 1048576) :
    Calls Try.prog 19 #[.slice a n cap, .int .i64 left] w (LeftK w left (n ≤ 1048576)) := by
  have hs' : (n : Int) ≤ 9223372036854775807 := by unfold maxLen at hs; omega
  by_cases hb : left - (n : Int) < 0
  · go_enter Try.func19, Try.ntmps19
    go_wp2
    go_ret
    exact ⟨_, rfl, Below.refl _ _, .inl rfl⟩
  · go_enter Try.func19, Try.ntmps19
    go_wp2
    go_ret
    exact ⟨_, rfl, Below.refl _ _, .inr ⟨by omega, by omega, by omega⟩⟩
end Go.Proofs.Ytagjgnephaaehaa
