/-
  Together: IterBox, AllUpto, ValInner, ValOfWalk, ValOkImpl, PartImpl, PlanImpl, FitsImpl, FitsOk
-/
import Derived.Test.YtkakkjnbhklfpaaGreatDoorPackR9
import Derived.Test.YtkakkjnbhklfpaaGreatDoorPackR2
import Derived.Test.YtkakkjnbhklfpaaGreatDoorPackR1
import Derived.Deep.RegionWith
import Derived.BigQuiet
import Derived.Test.YtkakkjnbhklfpaaGreatDoorPackR4
import Derived.Deep.LoopGhost
import Derived.Deep.RegionHeld3
/-
  Parts and values in boxes of a round, and what the loop itself turns.
-/
namespace Go.Proofs.YtkakkjnbhklfpaaGreatDoor
open Go.RowKit
set_option maxRecDepth 4000

theorem PBox.ownK {W W' : World} {row : Option Nat} {B : Nat} {c t : Int} {nul d : Bool} (h : PBox W B c t nul d) (hg : W.grownBy W' row) (hr : ∀ r, row = some r → ∃ o : Obj, W.heap[r]? = some o ∧ o.isCells = false) : PBox W' B c t nul d := by
  obtain ⟨o, ho, hc⟩ := cells_of_cell h.cells.1
  exact h.of_block (grownBy_keeps_cells hg hr ho hc)
theorem Box.ownK {W W' : World} {row : Option Nat} {B : Nat} {k n : Int} {s : ByteArray} (h : Box W B k n s) (hg : W.grownBy W' row) (hr : ∀ r, row = some r → ∃ o : Obj, W.heap[r]? = some o ∧ o.isCells = false) : Box W' B k n s := by
  obtain ⟨o, ho, hc⟩ := cells_of_cell h.cells.1
  exact h.of_block (grownBy_keeps_cells hg hr ho hc)
end Go.Proofs.YtkakkjnbhklfpaaGreatDoor

/-
  All up to a number.
-/

namespace Go.Proofs.YtkakkjnbhklfpaaGreatDoor

theorem allUpto_no {p : Nat → Bool} {n k : Nat} (hk : k < n) (h : p k = false) : (List.range n).all p = false := by
  rw [Bool.eq_false_iff]
  intro e
  have := List.all_eq_true.1 e k (List.mem_range.2 hk)
  rw [h] at this; cases this
theorem allUpto_yes {p : Nat → Bool} {n : Nat} (h : ∀ i, i < n → p i = true) : (List.range n).all p = true :=
  List.all_eq_true.2 (fun i hi => h i (List.mem_range.1 hi))
end Go.Proofs.YtkakkjnbhklfpaaGreatDoor

/-
  The program's values within: what each function answers of each kind.
-/
namespace Go.Proofs.YtkakkjnbhklfpaaGreatDoor
open Go.RowKit
set_option maxRecDepth 4000

/-- A value within, as the machine holds it. -/
def V.enc : V → Value
  | .null => .iface 232 (.agg #[])
  | .int n => .iface 233 (.int .i64 n)
  | .num n => .iface 234 (.int .i64 n)
  | .text s => .iface 235 (.string s)
  | .bool b => .iface 236 (.bool b)

theorem as_null_int (W : World) : (Instr.typeAssert (.iface 232 (.agg #[])) 212 233 true).run Tryz.prog W = .ok (.tuple #[.int .i64 0, .bool false]) W := by kernel_rfl
theorem as_null_num (W : World) : (Instr.typeAssert (.iface 232 (.agg #[])) 212 234 true).run Tryz.prog W = .ok (.tuple #[.int .i64 0, .bool false]) W := by kernel_rfl
theorem as_null_text (W : World) : (Instr.typeAssert (.iface 232 (.agg #[])) 212 235 true).run Tryz.prog W = .ok (.tuple #[.string ⟨#[]⟩, .bool false]) W := by kernel_rfl
theorem as_null_bool (W : World) : (Instr.typeAssert (.iface 232 (.agg #[])) 212 236 true).run Tryz.prog W = .ok (.tuple #[.bool false, .bool false]) W := by kernel_rfl
theorem as_int_int (n : Int) (W : World) : (Instr.typeAssert (.iface 233 (.int .i64 n)) 212 233 true).run Tryz.prog W = .ok (.tuple #[.int .i64 n, .bool true]) W := by kernel_rfl
theorem as_num_int (n : Int) (W : World) : (Instr.typeAssert (.iface 234 (.int .i64 n)) 212 233 true).run Tryz.prog W = .ok (.tuple #[.int .i64 0, .bool false]) W := by kernel_rfl
theorem as_num_num (n : Int) (W : World) : (Instr.typeAssert (.iface 234 (.int .i64 n)) 212 234 true).run Tryz.prog W = .ok (.tuple #[.int .i64 n, .bool true]) W := by kernel_rfl
theorem as_text_int (s : ByteArray) (W : World) : (Instr.typeAssert (.iface 235 (.string s)) 212 233 true).run Tryz.prog W = .ok (.tuple #[.int .i64 0, .bool false]) W := by kernel_rfl
theorem as_text_num (s : ByteArray) (W : World) : (Instr.typeAssert (.iface 235 (.string s)) 212 234 true).run Tryz.prog W = .ok (.tuple #[.int .i64 0, .bool false]) W := by kernel_rfl
theorem as_text_text (s : ByteArray) (W : World) : (Instr.typeAssert (.iface 235 (.string s)) 212 235 true).run Tryz.prog W = .ok (.tuple #[.string s, .bool true]) W := by kernel_rfl
theorem as_bool_int (b : Bool) (W : World) : (Instr.typeAssert (.iface 236 (.bool b)) 212 233 true).run Tryz.prog W = .ok (.tuple #[.int .i64 0, .bool false]) W := by kernel_rfl
theorem as_bool_num (b : Bool) (W : World) : (Instr.typeAssert (.iface 236 (.bool b)) 212 234 true).run Tryz.prog W = .ok (.tuple #[.int .i64 0, .bool false]) W := by kernel_rfl
theorem as_bool_text (b : Bool) (W : World) : (Instr.typeAssert (.iface 236 (.bool b)) 212 235 true).run Tryz.prog W = .ok (.tuple #[.string ⟨#[]⟩, .bool false]) W := by kernel_rfl
theorem as_bool_bool (b : Bool) (W : World) : (Instr.typeAssert (.iface 236 (.bool b)) 212 236 true).run Tryz.prog W = .ok (.tuple #[.bool b, .bool true]) W := by kernel_rfl

set_option maxHeartbeats 1000000 in
theorem inRange_any (v : V) (w : World) :
    Calls Tryz.prog 197 #[v.enc] w fun e w' => e = .returned (.bool v.rng) ∧ w' = w := by
  cases v with
  | null =>
    have q_int := as_null_int
    have q_num := as_null_num
    have q_text := as_null_text
    unfold V.enc
    go_enter Tryz.func197, Tryz.ntmps197
    go_wp2
    all_goals go_ret
    all_goals (refine ⟨?_, rfl⟩; first | rfl | (simp_all [V.rng] <;> omega))
  | int n =>
    have q_int := as_int_int n
    unfold V.enc
    go_enter Tryz.func197, Tryz.ntmps197
    go_wp2
    all_goals go_ret
    all_goals (refine ⟨?_, rfl⟩; first | rfl | (simp_all [V.rng] <;> omega))
  | num n =>
    have q_int := as_num_int n
    have q_num := as_num_num n
    unfold V.enc
    go_enter Tryz.func197, Tryz.ntmps197
    go_wp2
    all_goals go_ret
    all_goals (refine ⟨?_, rfl⟩; first | rfl | (simp_all [V.rng] <;> omega))
  | text s =>
    have q_int := as_text_int s
    have q_num := as_text_num s
    have q_text := as_text_text s
    unfold V.enc
    go_enter Tryz.func197, Tryz.ntmps197
    go_wp2
    all_goals go_ret
    all_goals (refine ⟨?_, rfl⟩; first | rfl | (simp_all [V.rng] <;> omega))
  | bool b =>
    have q_int := as_bool_int b
    have q_num := as_bool_num b
    have q_text := as_bool_text b
    unfold V.enc
    go_enter Tryz.func197, Tryz.ntmps197
    go_wp2
    all_goals go_ret
    all_goals (refine ⟨?_, rfl⟩; first | rfl | (simp_all [V.rng] <;> omega))

set_option maxHeartbeats 1000000 in
theorem valOf_any (v : V) (w : World) :
    Calls Tryz.prog 198 #[v.enc] w fun e w' => e = .returned (valAgg v.k v.n v.s) ∧ Below w.heap.size w w' := by
  cases v with
  | null =>
    have q_int := as_null_int
    have q_num := as_null_num
    have q_text := as_null_text
    have q_bool := as_null_bool
    have hm : ∀ W : World, (method 378 232 (.agg #[]) "loop.example/g00322/impl.kind").run Tryz.prog W = .ok (239, .agg #[]) W := fun _ => by kernel_rfl
    have hn : ∀ W : World, (nilAhead 378 232 (.agg #[]) "loop.example/g00322/impl.kind").run Tryz.prog W = .ok (some false) W := fun _ => by kernel_rfl
    unfold V.enc
    go_enter Tryz.func198, Tryz.ntmps198
    go_wp2
    all_goals refine bodyPost_ret (v := valAgg _ _ _) (by simp [results, Tryz.results198, go_sem, valAgg]; try exact ⟨rfl, rfl, rfl⟩) rfl ⟨rfl, ?_⟩
    all_goals repeat (first | exact Below.refl _ _ | refine Below.alloc ?_ (by simp <;> omega) _ | refine Below.drew ?_)
  | int n =>
    have q_int := as_int_int n
    have hm : ∀ W : World, (method 378 233 (.int .i64 n) "loop.example/g00322/impl.kind").run Tryz.prog W = .ok (240, .int .i64 n) W := fun _ => by kernel_rfl
    have hn : ∀ W : World, (nilAhead 378 233 (.int .i64 n) "loop.example/g00322/impl.kind").run Tryz.prog W = .ok (some false) W := fun _ => by kernel_rfl
    unfold V.enc
    go_enter Tryz.func198, Tryz.ntmps198
    go_wp2
    all_goals refine bodyPost_ret (v := valAgg _ _ _) (by simp [results, Tryz.results198, go_sem, valAgg]; try exact ⟨rfl, rfl, rfl⟩) rfl ⟨rfl, ?_⟩
    all_goals repeat (first | exact Below.refl _ _ | refine Below.alloc ?_ (by simp <;> omega) _ | refine Below.drew ?_)
  | num n =>
    have q_int := as_num_int n
    have q_num := as_num_num n
    have hm : ∀ W : World, (method 378 234 (.int .i64 n) "loop.example/g00322/impl.kind").run Tryz.prog W = .ok (241, .int .i64 n) W := fun _ => by kernel_rfl
    have hn : ∀ W : World, (nilAhead 378 234 (.int .i64 n) "loop.example/g00322/impl.kind").run Tryz.prog W = .ok (some false) W := fun _ => by kernel_rfl
    unfold V.enc
    go_enter Tryz.func198, Tryz.ntmps198
    go_wp2
    all_goals refine bodyPost_ret (v := valAgg _ _ _) (by simp [results, Tryz.results198, go_sem, valAgg]; try exact ⟨rfl, rfl, rfl⟩) rfl ⟨rfl, ?_⟩
    all_goals repeat (first | exact Below.refl _ _ | refine Below.alloc ?_ (by simp <;> omega) _ | refine Below.drew ?_)
  | text s =>
    have q_int := as_text_int s
    have q_num := as_text_num s
    have q_text := as_text_text s
    have hm : ∀ W : World, (method 378 235 (.string s) "loop.example/g00322/impl.kind").run Tryz.prog W = .ok (242, .string s) W := fun _ => by kernel_rfl
    have hn : ∀ W : World, (nilAhead 378 235 (.string s) "loop.example/g00322/impl.kind").run Tryz.prog W = .ok (some false) W := fun _ => by kernel_rfl
    unfold V.enc
    go_enter Tryz.func198, Tryz.ntmps198
    go_wp2
    all_goals refine bodyPost_ret (v := valAgg _ _ _) (by simp [results, Tryz.results198, go_sem, valAgg]; try exact ⟨rfl, rfl, rfl⟩) rfl ⟨rfl, ?_⟩
    all_goals repeat (first | exact Below.refl _ _ | refine Below.alloc ?_ (by simp <;> omega) _ | refine Below.drew ?_)
  | bool b =>
    have q_int := as_bool_int b
    have q_num := as_bool_num b
    have q_text := as_bool_text b
    have q_bool := as_bool_bool b
    have hm : ∀ W : World, (method 378 236 (.bool b) "loop.example/g00322/impl.kind").run Tryz.prog W = .ok (243, .bool b) W := fun _ => by kernel_rfl
    have hn : ∀ W : World, (nilAhead 378 236 (.bool b) "loop.example/g00322/impl.kind").run Tryz.prog W = .ok (some false) W := fun _ => by kernel_rfl
    unfold V.enc
    go_enter Tryz.func198, Tryz.ntmps198
    cases b <;> go_wp2
    all_goals refine bodyPost_ret (v := valAgg _ _ _) (by simp [results, Tryz.results198, go_sem, valAgg]; try exact ⟨rfl, rfl, rfl⟩) rfl ⟨rfl, ?_⟩
    all_goals repeat (first | exact Below.refl _ _ | refine Below.alloc ?_ (by simp <;> omega) _ | refine Below.drew ?_)

end Go.Proofs.YtkakkjnbhklfpaaGreatDoor

/-
  What the program holds of three fields: the value within, and whether it is sound.
-/
namespace Go.Proofs.YtkakkjnbhklfpaaGreatDoor
open Go.RowKit
set_option maxRecDepth 4000

theorem okF_at {k n : Int} {s : ByteArray} {v : V} (h : ofFields k n s = some v) : okF k n s = (v.rng && eqV v.k v.n v.s k n s) := by
  unfold okF
  rw [h]
  rfl

theorem box_cells (w W' : World) (k n : Int) (s : ByteArray) (h : Below (w.heap.size + 1) (w.alloc (.cells #[.int .i64 k, .int .i64 n, .string s] 58)) W') : W'.cell? ⟨w.heap.size, 0, none⟩ = some (.int .i64 k) ∧ W'.cell? ⟨w.heap.size, 1, none⟩ = some (.int .i64 n) ∧ W'.cell? ⟨w.heap.size, 2, none⟩ = some (.string s) := by
  refine ⟨?_, ?_, ?_⟩
  all_goals (rw [h.cell (by simp)]; simp [go_sem])

set_option maxHeartbeats 2000000 in
theorem valueOf_bool_true (n : Int) (s : ByteArray) (hz : (n != 0) = true) (w : World) :
    Calls Tryz.prog 179 #[.agg #[.int .i64 4, .int .i64 n, .string s]] w fun e w' => e = .returned (.tuple #[V.enc (.bool true), .bool (eqV 4 1 ⟨#[]⟩ 4 n s)]) ∧ Below w.heap.size w w' := by
  have hO : ∀ W, Calls Tryz.prog 198 #[.iface 236 (.bool true)] W fun e w' => e = .returned (.agg #[.int .i64 4, .int .i64 1, .string ⟨#[]⟩]) ∧ Below W.heap.size W w' := fun W => valOf_any (.bool true) W
  have hbox := fun W' h => box_cells w W' 4 n s h
  have qe := eqVal_run 4 1 ⟨#[]⟩ 4 n s
  have hI : ∀ W, Calls Tryz.prog 197 #[.iface 236 (.bool true)] W fun e w' => e = .returned (.bool true) ∧ w' = W := fun W => inRange_any (.bool true) W
  go_enter Tryz.func179, Tryz.ntmps179
  go_wp2_with (fail)
  go_region_with (first | (go_at_call 197; refine (hI _).mono ?_; rintro e _ ⟨rfl, rfl⟩) | (go_at_call 198; refine (hO _).mono ?_; rintro e w2 ⟨rfl, hB⟩; obtain ⟨hb0, hb1, hb2⟩ := hbox _ (Below.trans (by repeat (first | exact Below.refl _ _ | refine Below.drew ?_)) (hB.mono (by simp)))))
  all_goals go_wp2
  all_goals go_ret2
  all_goals refine ⟨rfl, Below.trans (b := w.alloc _) ((Below.refl _ _).alloc (Nat.le_refl _) _) (Below.trans (by repeat (first | exact Below.refl _ _ | refine Below.drew ?_)) (hB.mono (by simp)))⟩

set_option maxHeartbeats 2000000 in
theorem valueOf_bool_false (s : ByteArray) (w : World) :
    Calls Tryz.prog 179 #[.agg #[.int .i64 4, .int .i64 0, .string s]] w fun e w' => e = .returned (.tuple #[V.enc (.bool false), .bool (eqV 4 0 ⟨#[]⟩ 4 0 s)]) ∧ Below w.heap.size w w' := by
  have hO : ∀ W, Calls Tryz.prog 198 #[.iface 236 (.bool false)] W fun e w' => e = .returned (.agg #[.int .i64 4, .int .i64 0, .string ⟨#[]⟩]) ∧ Below W.heap.size W w' := fun W => valOf_any (.bool false) W
  have hbox := fun W' h => box_cells w W' 4 0 s h
  have qe := eqVal_run 4 0 ⟨#[]⟩ 4 0 s
  have hI : ∀ W, Calls Tryz.prog 197 #[.iface 236 (.bool false)] W fun e w' => e = .returned (.bool true) ∧ w' = W := fun W => inRange_any (.bool false) W
  go_enter Tryz.func179, Tryz.ntmps179
  go_wp2_with (fail)
  go_region_with (first | (go_at_call 197; refine (hI _).mono ?_; rintro e _ ⟨rfl, rfl⟩) | (go_at_call 198; refine (hO _).mono ?_; rintro e w2 ⟨rfl, hB⟩; obtain ⟨hb0, hb1, hb2⟩ := hbox _ (Below.trans (by repeat (first | exact Below.refl _ _ | refine Below.drew ?_)) (hB.mono (by simp)))))
  all_goals go_wp2
  all_goals go_ret2
  all_goals refine ⟨rfl, Below.trans (b := w.alloc _) ((Below.refl _ _).alloc (Nat.le_refl _) _) (Below.trans (by repeat (first | exact Below.refl _ _ | refine Below.drew ?_)) (hB.mono (by simp)))⟩

set_option maxHeartbeats 2000000 in
theorem valueOf_null (n : Int) (s : ByteArray) (w : World) :
    Calls Tryz.prog 179 #[.agg #[.int .i64 0, .int .i64 n, .string s]] w fun e w' => e = .returned (.tuple #[V.enc .null, .bool (V.rng .null && eqV 0 0 ⟨#[]⟩ 0 n s)]) ∧ Below w.heap.size w w' := by
  have hO : ∀ W, Calls Tryz.prog 198 #[.iface 232 (.agg #[])] W fun e w' => e = .returned (.agg #[.int .i64 0, .int .i64 0, .string ⟨#[]⟩]) ∧ Below W.heap.size W w' := fun W => valOf_any .null W
  have hbox := fun W' h => box_cells w W' 0 n s h
  have qe := eqVal_run 0 0 ⟨#[]⟩ 0 n s
  have hI : ∀ W, Calls Tryz.prog 197 #[.iface 232 (.agg #[])] W fun e w' => e = .returned (.bool true) ∧ w' = W := fun W => by have := inRange_any .null W; exact this
  go_enter Tryz.func179, Tryz.ntmps179
  go_wp2_with (fail)
  go_region_with (first | (go_at_call 197; refine (hI _).mono ?_; rintro e _ ⟨rfl, rfl⟩) | (go_at_call 198; refine (hO _).mono ?_; rintro e w2 ⟨rfl, hB⟩; obtain ⟨hb0, hb1, hb2⟩ := hbox _ (Below.trans (by repeat (first | exact Below.refl _ _ | refine Below.drew ?_)) (hB.mono (by simp)))))
  all_goals go_wp2
  all_goals go_ret2
  all_goals refine ⟨rfl, Below.trans (b := w.alloc _) ((Below.refl _ _).alloc (Nat.le_refl _) _) (Below.trans (by repeat (first | exact Below.refl _ _ | refine Below.drew ?_)) (hB.mono (by simp)))⟩

set_option maxHeartbeats 2000000 in
theorem valueOf_int (n : Int) (s : ByteArray) (w : World) :
    Calls Tryz.prog 179 #[.agg #[.int .i64 1, .int .i64 n, .string s]] w fun e w' => e = .returned (.tuple #[V.enc (.int n), .bool (V.rng (.int n) && eqV 1 n ⟨#[]⟩ 1 n s)]) ∧ Below w.heap.size w w' := by
  have hO : ∀ W, Calls Tryz.prog 198 #[.iface 233 (.int .i64 n)] W fun e w' => e = .returned (.agg #[.int .i64 1, .int .i64 n, .string ⟨#[]⟩]) ∧ Below W.heap.size W w' := fun W => valOf_any (.int n) W
  have hbox := fun W' h => box_cells w W' 1 n s h
  have qe := eqVal_run 1 n ⟨#[]⟩ 1 n s
  cases hr : V.rng (.int n)
  case true =>
    have hI : ∀ W, Calls Tryz.prog 197 #[.iface 233 (.int .i64 n)] W fun e w' => e = .returned (.bool true) ∧ w' = W := fun W => by have := inRange_any (.int n) W; rw [hr] at this; exact this
    clear hr
    go_enter Tryz.func179, Tryz.ntmps179
    go_wp2_with (fail)
    go_region_with (first | (go_at_call 197; refine (hI _).mono ?_; rintro e _ ⟨rfl, rfl⟩) | (go_at_call 198; refine (hO _).mono ?_; rintro e w2 ⟨rfl, hB⟩; obtain ⟨hb0, hb1, hb2⟩ := hbox _ (Below.trans (by repeat (first | exact Below.refl _ _ | refine Below.drew ?_)) (hB.mono (by simp)))))
    all_goals go_wp2
    all_goals go_ret2
    all_goals refine ⟨rfl, Below.trans (b := w.alloc _) ((Below.refl _ _).alloc (Nat.le_refl _) _) (Below.trans (by repeat (first | exact Below.refl _ _ | refine Below.drew ?_)) (hB.mono (by simp)))⟩
  case false =>
    have hI : ∀ W, Calls Tryz.prog 197 #[.iface 233 (.int .i64 n)] W fun e w' => e = .returned (.bool false) ∧ w' = W := fun W => by have := inRange_any (.int n) W; rw [hr] at this; exact this
    clear hr
    go_enter Tryz.func179, Tryz.ntmps179
    go_wp2_with (fail)
    go_quiet (first | (go_at_call 197; exact Calls.quiet_of_same (hI _)))
    all_goals go_wp2
    all_goals go_ret2
    all_goals refine ⟨rfl, ?_⟩
    exact Below.trans ((Below.refl _ _).alloc (Nat.le_refl _) _) ⟨rfl, rfl, rfl, Nat.le_refl _, fun _ _ => rfl⟩

set_option maxHeartbeats 2000000 in
theorem valueOf_num (n : Int) (s : ByteArray) (w : World) :
    Calls Tryz.prog 179 #[.agg #[.int .i64 2, .int .i64 n, .string s]] w fun e w' => e = .returned (.tuple #[V.enc (.num n), .bool (V.rng (.num n) && eqV 2 n ⟨#[]⟩ 2 n s)]) ∧ Below w.heap.size w w' := by
  have hO : ∀ W, Calls Tryz.prog 198 #[.iface 234 (.int .i64 n)] W fun e w' => e = .returned (.agg #[.int .i64 2, .int .i64 n, .string ⟨#[]⟩]) ∧ Below W.heap.size W w' := fun W => valOf_any (.num n) W
  have hbox := fun W' h => box_cells w W' 2 n s h
  have qe := eqVal_run 2 n ⟨#[]⟩ 2 n s
  cases hr : V.rng (.num n)
  case true =>
    have hI : ∀ W, Calls Tryz.prog 197 #[.iface 234 (.int .i64 n)] W fun e w' => e = .returned (.bool true) ∧ w' = W := fun W => by have := inRange_any (.num n) W; rw [hr] at this; exact this
    clear hr
    go_enter Tryz.func179, Tryz.ntmps179
    go_wp2_with (fail)
    go_region_with (first | (go_at_call 197; refine (hI _).mono ?_; rintro e _ ⟨rfl, rfl⟩) | (go_at_call 198; refine (hO _).mono ?_; rintro e w2 ⟨rfl, hB⟩; obtain ⟨hb0, hb1, hb2⟩ := hbox _ (Below.trans (by repeat (first | exact Below.refl _ _ | refine Below.drew ?_)) (hB.mono (by simp)))))
    all_goals go_wp2
    all_goals go_ret2
    all_goals refine ⟨rfl, Below.trans (b := w.alloc _) ((Below.refl _ _).alloc (Nat.le_refl _) _) (Below.trans (by repeat (first | exact Below.refl _ _ | refine Below.drew ?_)) (hB.mono (by simp)))⟩
  case false =>
    have hI : ∀ W, Calls Tryz.prog 197 #[.iface 234 (.int .i64 n)] W fun e w' => e = .returned (.bool false) ∧ w' = W := fun W => by have := inRange_any (.num n) W; rw [hr] at this; exact this
    clear hr
    go_enter Tryz.func179, Tryz.ntmps179
    go_wp2_with (fail)
    go_quiet (first | (go_at_call 197; exact Calls.quiet_of_same (hI _)))
    all_goals go_wp2
    all_goals go_ret2
    all_goals refine ⟨rfl, ?_⟩
    exact Below.trans ((Below.refl _ _).alloc (Nat.le_refl _) _) ⟨rfl, rfl, rfl, Nat.le_refl _, fun _ _ => rfl⟩

set_option maxHeartbeats 2000000 in
theorem valueOf_text (n : Int) (s : ByteArray) (w : World) :
    Calls Tryz.prog 179 #[.agg #[.int .i64 3, .int .i64 n, .string s]] w fun e w' => e = .returned (.tuple #[V.enc (.text s), .bool (V.rng (.text s) && eqV 3 0 s 3 n s)]) ∧ Below w.heap.size w w' := by
  have hO : ∀ W, Calls Tryz.prog 198 #[.iface 235 (.string s)] W fun e w' => e = .returned (.agg #[.int .i64 3, .int .i64 0, .string s]) ∧ Below W.heap.size W w' := fun W => valOf_any (.text s) W
  have hbox := fun W' h => box_cells w W' 3 n s h
  have qe := eqVal_run 3 0 s 3 n s
  cases hr : V.rng (.text s)
  case true =>
    have hI : ∀ W, Calls Tryz.prog 197 #[.iface 235 (.string s)] W fun e w' => e = .returned (.bool true) ∧ w' = W := fun W => by have := inRange_any (.text s) W; rw [hr] at this; exact this
    clear hr
    go_enter Tryz.func179, Tryz.ntmps179
    go_wp2_with (fail)
    go_region_with (first | (go_at_call 197; refine (hI _).mono ?_; rintro e _ ⟨rfl, rfl⟩) | (go_at_call 198; refine (hO _).mono ?_; rintro e w2 ⟨rfl, hB⟩; obtain ⟨hb0, hb1, hb2⟩ := hbox _ (Below.trans (by repeat (first | exact Below.refl _ _ | refine Below.drew ?_)) (hB.mono (by simp)))))
    all_goals go_wp2
    all_goals go_ret2
    all_goals refine ⟨rfl, Below.trans (b := w.alloc _) ((Below.refl _ _).alloc (Nat.le_refl _) _) (Below.trans (by repeat (first | exact Below.refl _ _ | refine Below.drew ?_)) (hB.mono (by simp)))⟩
  case false =>
    have hI : ∀ W, Calls Tryz.prog 197 #[.iface 235 (.string s)] W fun e w' => e = .returned (.bool false) ∧ w' = W := fun W => by have := inRange_any (.text s) W; rw [hr] at this; exact this
    clear hr
    go_enter Tryz.func179, Tryz.ntmps179
    go_wp2_with (fail)
    go_quiet (first | (go_at_call 197; exact Calls.quiet_of_same (hI _)))
    all_goals go_wp2
    all_goals go_ret2
    all_goals refine ⟨rfl, ?_⟩
    exact Below.trans ((Below.refl _ _).alloc (Nat.le_refl _) _) ⟨rfl, rfl, rfl, Nat.le_refl _, fun _ _ => rfl⟩

def vOpt : Option V → Value
  | none => .nilIface
  | some v => v.enc

set_option maxHeartbeats 2000000 in
theorem valueOf_any (k n : Int) (s : ByteArray) (w : World) :
    Calls Tryz.prog 179 #[valAgg k n s] w fun e w' => e = .returned (.tuple #[vOpt (ofFields k n s), .bool (okF k n s)]) ∧ Below w.heap.size w w' := by
  unfold valAgg
  by_cases k0 : k = 0
  · subst k0
    have e : ofFields 0 n s = some .null := rfl
    rw [okF_at e, e]
    exact valueOf_null n s w
  by_cases k1 : k = 1
  · subst k1
    have e : ofFields 1 n s = some (.int n) := rfl
    rw [okF_at e, e]
    exact valueOf_int n s w
  by_cases k2 : k = 2
  · subst k2
    have e : ofFields 2 n s = some (.num n) := rfl
    rw [okF_at e, e]
    exact valueOf_num n s w
  by_cases k3 : k = 3
  · subst k3
    have e : ofFields 3 n s = some (.text s) := rfl
    rw [okF_at e, e]
    exact valueOf_text n s w
  by_cases k4 : k = 4
  · subst k4
    have e : ofFields 4 n s = some (.bool (n != 0)) := rfl
    rw [okF_at e, e]
    by_cases hz : n = 0
    · subst hz
      exact valueOf_bool_false s w
    · have hz : (n != 0) = true := by simpa using hz
      rw [hz]
      exact valueOf_bool_true n s hz w
  have e : ofFields k n s = none := by simp [ofFields, k0, k1, k2, k3, k4]
  have e2 : okF k n s = false := by unfold okF; rw [e]
  rw [e2, e]
  have q0 : (k == 0) = false := by simpa using k0
  have q1 : (k == 1) = false := by simpa using k1
  have q2 : (k == 2) = false := by simpa using k2
  have q3 : (k == 3) = false := by simpa using k3
  have q4 : (k == 4) = false := by simpa using k4
  clear e e2 k0 k1 k2 k3 k4
  go_enter Tryz.func179, Tryz.ntmps179
  go_wp2
  go_ret2
  refine ⟨rfl, ?_⟩
  repeat (first | exact Below.refl _ _ | refine Below.alloc ?_ (by simp <;> omega) _ | refine Below.drew ?_)
end Go.Proofs.YtkakkjnbhklfpaaGreatDoor

/-
  The program's ValOk comes to the plain one.
-/
namespace Go.Proofs.YtkakkjnbhklfpaaGreatDoor
open Go.RowKit
set_option maxRecDepth 4000

set_option maxHeartbeats 1000000 in
theorem valOk_any (k n : Int) (s : ByteArray) (w : World) :
    Calls Tryz.prog 158 #[.agg #[.int .i64 k, .int .i64 n, .string s]] w fun e w' => e = .returned (.bool (okF k n s)) ∧ Below w.heap.size w w' := by
  go_enter Tryz.func158, Tryz.ntmps158
  go_wp2_with fail
  refine (valueOf_any k n s _).mono ?_
  rintro e w1 ⟨rfl, hB⟩
  go_wp2
  go_ret
  exact ⟨rfl, ((Below.refl _ _).alloc (Nat.le_refl _) _).trans (hB.mono (by simp))⟩

end Go.Proofs.YtkakkjnbhklfpaaGreatDoor

/-
  The program's PartOk and Fits. (Nothing fits a part of no type, even where it may not be nothing: as the program has it.)
-/
namespace Go.Proofs.YtkakkjnbhklfpaaGreatDoor
open Go.RowKit
set_option maxRecDepth 4000

set_option maxHeartbeats 1000000 in
theorem implPartOk_any (c t : Int) (nul d : Bool) (w : World) :
    Calls Tryz.prog 53 #[.agg #[.int .i64 c, .int .i64 t, .bool nul, .bool d]] w fun e w' => e = .returned (.bool (partOk c t)) ∧ Below w.heap.size w w' := by
  have hb0 : ∀ o, Below w.heap.size w (w.alloc o) := fun o => (Below.refl _ _).alloc (Nat.le_refl _) _
  by_cases h1 : 0 ≤ c
  · by_cases h2 : c ≤ 9
    · by_cases h3 : 1 ≤ t
      · by_cases h4 : t ≤ 4
        · have e : partOk c t = true := by unfold partOk; simp [h1, h2, h3, h4]
          rw [e]
          go_enter Tryz.func53, Tryz.ntmps53
          go_wp2
          go_ret
          exact ⟨rfl, hb0 _⟩
        · have e : partOk c t = false := by unfold partOk; simp [h1, h2, h3, h4]
          rw [e]
          go_enter Tryz.func53, Tryz.ntmps53
          go_wp2
          go_ret
          exact ⟨rfl, hb0 _⟩
      · have e : partOk c t = false := by unfold partOk; simp [h1, h2, h3]
        rw [e]
        go_enter Tryz.func53, Tryz.ntmps53
        go_wp2
        go_ret
        exact ⟨rfl, hb0 _⟩
    · have e : partOk c t = false := by unfold partOk; simp [h1, h2]
      rw [e]
      go_enter Tryz.func53, Tryz.ntmps53
      go_wp2
      go_ret
      exact ⟨rfl, hb0 _⟩
  · have e : partOk c t = false := by unfold partOk; simp [h1]
    rw [e]
    go_enter Tryz.func53, Tryz.ntmps53
    go_wp2
    go_ret
    exact ⟨rfl, hb0 _⟩

/-- What fits, as the program has it. -/
def fitsI (t : Int) (nul : Bool) (k n : Int) (s : ByteArray) : Bool := okF k n s && (decide (k = t) || (decide (k = 0) && nul))
theorem fitsI_ok {t : Int} {nul : Bool} {k n : Int} {s : ByteArray} (ht : 1 ≤ t) : fitsI t nul k n s = fitsP t nul k n s := by
  unfold fitsI fitsP
  by_cases hk : k = t
  · simp [hk, show t ≠ 0 by omega]
  · simp [hk]

set_option maxHeartbeats 1000000 in
theorem implFits_any (c t : Int) (nul d : Bool) (k n : Int) (s : ByteArray) (w : World) :
    Calls Tryz.prog 137 #[.agg #[.int .i64 c, .int .i64 t, .bool nul, .bool d], .agg #[.int .i64 k, .int .i64 n, .string s]] w fun e w' => e = .returned (.bool (fitsI t nul k n s)) ∧ Below w.heap.size w w' := by
  have hP := (PBox.new w c t nul d).below ((Below.refl _ _).alloc (Nat.le_refl _) (.cells #[.int .i64 k, .int .i64 n, .string s] 58))
  have hV := Box.new (w.alloc (.cells #[.int .i64 c, .int .i64 t, .bool nul, .bool d] 50)) k n s
  rw [show (w.alloc (.cells #[.int .i64 c, .int .i64 t, .bool nul, .bool d] 50)).heap.size = w.heap.size + 1 by simp] at hV
  have hb0 : Below w.heap.size w ((w.alloc (.cells #[.int .i64 c, .int .i64 t, .bool nul, .bool d] 50)).alloc (.cells #[.int .i64 k, .int .i64 n, .string s] 58)) := ((Below.refl _ _).alloc (Nat.le_refl _) _).alloc (by simp) _
  cases ho : okF k n s with
  | false =>
    have hr : fitsI t nul k n s = false := by unfold fitsI; rw [ho]; rfl
    rw [hr]
    clear hr
    go_enter Tryz.func137, Tryz.ntmps137
    go_wp2_with fail
    refine (valOk_any k n s _).mono ?_
    rw [ho]
    rintro e w1 ⟨rfl, hb1⟩
    have hB : Below w.heap.size w w1 := hb0.trans (hb1.mono hb0.size)
    clear hP hV hb0 hb1 ho
    go_wp2
    go_ret
    exact ⟨rfl, hB⟩
  | true =>
    by_cases kt : k = t
    · subst kt
      have hr : fitsI k nul k n s = true := by unfold fitsI; rw [ho]; simp
      rw [hr]
      have q4 : (k == k) = true := by simp
      clear hr
      go_enter Tryz.func137, Tryz.ntmps137
      go_wp2_with fail
      refine (valOk_any k n s _).mono ?_
      rw [ho]
      rintro e w1 ⟨rfl, hb1⟩
      obtain ⟨p0, p1, p2, p3⟩ := (hP.below hb1).cells
      obtain ⟨v0, v1, v2⟩ := (hV.below hb1).cells
      have hB : Below w.heap.size w w1 := hb0.trans (hb1.mono hb0.size)
      clear hP hV hb0 hb1 ho
      go_wp2
      go_ret
      exact ⟨rfl, hB⟩
    · have q4 : (k == t) = false := by simpa using kt
      by_cases k0 : k = 0
      · have hr : fitsI t nul k n s = nul := by unfold fitsI; rw [ho]; simp [k0, show ¬ (0 : Int) = t by omega]
        rw [hr]
        have q2 : (k == 0) = true := by simpa using k0
        clear hr k0 kt
        go_enter Tryz.func137, Tryz.ntmps137
        go_wp2_with fail
        refine (valOk_any k n s _).mono ?_
        rw [ho]
        rintro e w1 ⟨rfl, hb1⟩
        obtain ⟨p0, p1, p2, p3⟩ := (hP.below hb1).cells
        obtain ⟨v0, v1, v2⟩ := (hV.below hb1).cells
        have hB : Below w.heap.size w w1 := hb0.trans (hb1.mono hb0.size)
        clear hP hV hb0 hb1 ho
        go_wp2
        go_ret
        exact ⟨rfl, hB⟩
      · have hr : fitsI t nul k n s = false := by unfold fitsI; rw [ho]; simp [kt, k0]
        rw [hr]
        have q2 : (k == 0) = false := by simpa using k0
        clear hr k0 kt
        go_enter Tryz.func137, Tryz.ntmps137
        go_wp2_with fail
        refine (valOk_any k n s _).mono ?_
        rw [ho]
        rintro e w1 ⟨rfl, hb1⟩
        obtain ⟨p0, p1, p2, p3⟩ := (hP.below hb1).cells
        obtain ⟨v0, v1, v2⟩ := (hV.below hb1).cells
        have hB : Below w.heap.size w w1 := hb0.trans (hb1.mono hb0.size)
        clear hP hV hb0 hb1 ho
        go_wp2
        go_ret
        exact ⟨rfl, hB⟩
end Go.Proofs.YtkakkjnbhklfpaaGreatDoor

/-
  The program's PlanOk comes to the plain one.
-/
namespace Go.Proofs.YtkakkjnbhklfpaaGreatDoor
open Go.RowKit
set_option maxRecDepth 4000

set_option maxHeartbeats 2000000 in
theorem implPlanOk_any (a : Option Addr) (n cap : Nat) (fc ft : Nat → Int) (fu fd : Nat → Bool) (w : World) (h : PView w a n cap fc ft fu fd) :
    Calls Tryz.prog 22 #[.slice a n cap] w fun e w' => e = .returned (.bool (planOk n fc ft)) ∧ Below w.heap.size w w' := by
  by_cases h6 : n ≤ 6
  · have h6z : ¬ (n : Int) > 6 := by omega
    have h6y : (n : Int) ≤ 6 := by omega
    go_enter Tryz.func22, Tryz.ntmps22
    go_wp2
    go_loopg [10] n (fun q i wr => ∃ k : Nat, k ≤ n ∧ q = n - k ∧ i = .int .i64 k ∧ Below w.heap.size w wr ∧ ∀ j, j < k → partOk (fc j) (ft j) = true)
    case atStart => exact ⟨0, Nat.zero_le _, rfl, rfl, Below.refl _ _, fun j hj => absurd hj (Nat.not_lt_zero _)⟩
    case round =>
      obtain ⟨k, hk, rfl, rfl, hB, hall⟩ := hrel
      have HA : Hid (∀ j, j < k → partOk (fc j) (ft j) = true) := hall
      clear hall
      by_cases hlt : k < n
      · obtain ⟨b1, o1, rfl, hb1, hd1⟩ := (h.below hB).cells (by omega)
        obtain ⟨x0, x1, x2, x3⟩ := hd1 k hlt
        have hkz : (k : Int) < (n : Int) := by omega
        clear hd1 h
        go_wp2_with fail
        clear x0 x1 x2 x3
        refine (implPartOk_any (fc k) (ft k) (fu k) (fd k) _).mono ?_
        cases ho : partOk (fc k) (ft k) with
        | true =>
          rintro e w2 ⟨rfl, hB2⟩
          have hB3 : Hid (Below w.heap.size w w2) := (hB.alloc hB.size _).trans (hB2.mono (by have := hB.size; simp; omega))
          clear hB2
          have HN : Hid (∀ j, j < k + 1 → partOk (fc j) (ft j) = true) := by
            intro j hj
            by_cases e : j < k
            · exact HA.out j e
            · obtain rfl : j = k := by omega
              exact ho
          clear ho HA
          go_wp2
          go_roundg (n - (k + 1))
          case measure => omega
          case rel => exact ⟨k + 1, by omega, rfl, by go_num, hB3.out, HN.out⟩
        | false =>
          rintro e w2 ⟨rfl, hB2⟩
          have hB3 : Hid (Below w.heap.size w w2) := (hB.alloc hB.size _).trans (hB2.mono (by have := hB.size; simp; omega))
          have HF : Hid (planOk n fc ft = false) := by show _ = _; unfold planOk; rw [allUpto_no hlt ho]; rfl
          clear hB2 ho HA
          go_wp2
          go_ret
          exact ⟨by rw [HF.out]; rfl, hB3.out⟩
      · have hkz : ¬ (k : Int) < (n : Int) := by omega
        have HF : Hid (planOk n fc ft = true) := planOk_iff.2 ⟨fun i hi => HA.out i (by omega), h6⟩
        clear HA
        go_wp2
        go_ret
        exact ⟨by rw [HF.out]; rfl, hB⟩
  · have h6z : (n : Int) > 6 := by omega
    have HF : Hid (planOk n fc ft = false) := by show _ = _; unfold planOk; simp [h6]
    go_enter Tryz.func22, Tryz.ntmps22
    go_wp2
    go_ret
    exact ⟨by rw [HF.out]; rfl, Below.refl _ _⟩
end Go.Proofs.YtkakkjnbhklfpaaGreatDoor

/-
  The program's FitsAll: each value is asked beside its part.
-/
namespace Go.Proofs.YtkakkjnbhklfpaaGreatDoor
open Go.RowKit
set_option maxRecDepth 4000

attribute [local go_sem] Oper.semAt_some

/-- What the program's FitsAll answers. -/
def fitsAllI (n m : Nat) (ft : Nat → Int) (fu : Nat → Bool) (fk fn : Nat → Int) (fs : Nat → ByteArray) : Bool := decide (m ≤ n) && (List.range m).all (fun i => fitsI (ft i) (fu i) (fk i) (fn i) (fs i))

set_option linter.unusedSimpArgs false in
set_option maxRecDepth 100000 in
set_option maxHeartbeats 4000000 in
theorem implFitsAll_any (a : Option Addr) (n cap : Nat) (fc ft : Nat → Int) (fu fd : Nat → Bool) (a2 : Option Addr) (m c2 : Nat) (fk fn : Nat → Int) (fs : Nat → ByteArray) (w : World) (hp : PView w a n cap fc ft fu fd) (hq : VView w a2 m c2 fk fn fs) (hn : n ≤ 281474976710656) (hm : m ≤ 281474976710656) :
    Calls Tryz.prog 104 #[.slice a n cap, .slice a2 m c2] w fun e w' => e = .returned (.bool (fitsAllI n m ft fu fk fn fs)) ∧ Below w.heap.size w w' := by
  refine (callsIn_wide (n := 6)).1 ?_
  refine callsIn_of_wp_marks Tryz.func104 rfl trivial ?_ rfl
  simp only [Tryz.ntmps104, List.size_toArray, List.length_cons, List.length_nil, Nat.reduceAdd, Nat.reduceSub, Array.replicate_succ, Array.replicate_zero, List.push_toArray, List.append_toArray, List.nil_append, List.cons_append]
  by_cases hmn : m ≤ n
  · have hmz : ¬ (m : Int) > (n : Int) := by omega
    gi_wp2_with (refine ⟨trivial, ?_⟩; gi_at_call 105; refine (valsByPart_in _ _ _ _ _ _ _ _).mono ?_; rintro e w' ⟨rfl, rfl⟩)
    have bR := ((Boxed.new w 4 (.bool false)).alloc (.cells #[.slice a n cap] 30)).alloc (.cells #[.slice a2 m c2] 25)
    have bL := (Boxed.new (w.alloc (.cells #[.bool false] 4)) 30 (.slice a n cap)).alloc (.cells #[.slice a2 m c2] 25)
    have bV := Boxed.new ((w.alloc (.cells #[.bool false] 4)).alloc (.cells #[.slice a n cap] 30)) 25 (.slice a2 m c2)
    have hB0 : Below w.heap.size w (((w.alloc (.cells #[.bool false] 4)).alloc (.cells #[.slice a n cap] 30)).alloc (.cells #[.slice a2 m c2] 25)) := (((Below.refl _ w).alloc (Nat.le_refl _) _).alloc (by simp) _).alloc (by simp; omega) _
    have hsz : (((w.alloc (.cells #[.bool false] 4)).alloc (.cells #[.slice a n cap] 30)).alloc (.cells #[.slice a2 m c2] 25)).heap.size = w.heap.size + 3 := by simp
    simp only [World.size_alloc] at bL bV ⊢
    obtain ⟨W0, hW0⟩ : ∃ W0, ((w.alloc (.cells #[.bool false] 4)).alloc (.cells #[.slice a n cap] 30)).alloc (.cells #[.slice a2 m c2] 25) = W0 := ⟨_, rfl⟩
    rw [hW0] at bR bL bV hB0 hsz ⊢
    clear hW0
    refine wpIn_rangeFunc_ownH rfl (by decide) (gf := 138) (lb := #[.pointer (some ⟨w.heap.size + 1, 0, none⟩), .pointer (some ⟨w.heap.size + 1 + 1, 0, none⟩)]) rfl trivial (enters_of Tryz.func138 (by kernel_rfl) rfl)
      (byPart_stops (6 - 1) (by decide) (w.heap.size + 1) (w.heap.size + 1 + 1) a n cap fc ft fu fd a2 m c2 fk fn fs w hp hq hn hm W0 hB0 bL bV) (fun h k => KpB.trans h k) (KpB.put (by omega) (by omega) (by omega)) (Below.refl _ _) (fun _ => rfl)
      (fun pre W => (Boxed W w.heap.size 4 (.bool false) ∧ ∀ x ∈ pre, fitsI (ft x.1) (fu x.1) (fk x.1) (fn x.1) (fs x.1) = true) ∧ KpB w.heap.size (w.heap.size + 1) (w.heap.size + 1 + 1) W0 W)
      (fun c pre W => c = .ret ∧ (Boxed W w.heap.size 4 (.bool false) ∧ ∃ x ∈ pre, fitsI (ft x.1) (fu x.1) (fk x.1) (fn x.1) (fs x.1) = false) ∧ Below w.heap.size W0 W)
      (OwnFrom.and (fun s X Y row hs hg hr => ⟨Boxed.ownK hs.1 hg (fun r e => (hr r e).2), hs.2⟩) (ownFrom_kpB (by omega) (by omega) (by omega) (Nat.le_refl _)))
      (fun c s X Y row hs hg hr => ⟨hs.1, ⟨Boxed.ownK hs.2.1.1 hg (fun r e => (hr r e).2), hs.2.1.2⟩, ownFrom_below (w₀ := W0) (n₀ := w.heap.size) (B := W0.heap.size) (β := Unit) (by omega) (by omega) () X Y row hs.2.2 hg hr⟩)
      ⟨⟨bR, fun x hx => by cases hx⟩, KpB.refl _ _ _ _⟩
      (fun x a' W => ∃ Bp Bq, (PBox W Bp (fc x.1) (ft x.1) (fu x.1) (fd x.1) ∧ Box W Bq (fk x.1) (fn x.1) (fs x.1)) ∧ a' = { tmps := #[.slice a n cap, .slice a2 m c2, undef, undef, .pointer (some ⟨w.heap.size, 0, none⟩), .pointer (some ⟨Bp, 0, none⟩), .pointer (some ⟨Bq, 0, none⟩), .slice a2 m c2, .int .i64 m, .slice a n cap, .int .i64 n, .bool false, .slice a n cap, .slice a2 m c2, .func (.func 138) #[] #[.pointer (some ⟨w.heap.size + 1, 0, none⟩), .pointer (some ⟨w.heap.size + 1 + 1, 0, none⟩)], encP fc ft fu fd x.1, encV fk fn fs x.1, undef, undef, undef, undef], defers := [] })
      (fun x a' _ X Y row hs hg hr => by obtain ⟨Bp, Bq, ⟨h1, h2⟩, h3⟩ := hs; exact ⟨Bp, Bq, ⟨h1.ownK hg (fun r e => (hr r e).2), h2.ownK hg (fun r e => (hr r e).2)⟩, h3⟩)
      ?assign ?body ?done ?stop
    case assign =>
      rintro l pre x W K ⟨⟨bR1, hall⟩, hk⟩ hK
      gi_wp2
      have hb1 : Below W.heap.size W ((W.alloc (.cells #[.int .i64 (fc x.1), .int .i64 (ft x.1), .bool (fu x.1), .bool (fd x.1)] 50)).alloc (.cells #[.int .i64 (fk x.1), .int .i64 (fn x.1), .string (fs x.1)] 58)) := ((Below.refl _ _).alloc (Nat.le_refl _) _).alloc (by simp) _
      have hs1 := hk.below.size
      have hkk := KpB.ofBelow (n₀ := w.heap.size) (Bl := w.heap.size + 1) (Bv := w.heap.size + 1 + 1) hb1 (by omega) (by omega) (by omega)
      refine hK _ _ (KeepsFrom.ofBelow hb1) hkk ⟨⟨Boxed.below' bR1 hb1, hall⟩, hk.trans hkk⟩ ⟨W.heap.size, W.heap.size + 1, ⟨(PBox.new W _ _ _ _).below ((Below.refl _ _).alloc (Nat.le_refl _) _), by have := Box.new (W.alloc (.cells #[.int .i64 (fc x.1), .int .i64 (ft x.1), .bool (fu x.1), .bool (fd x.1)] 50)) (fk x.1) (fn x.1) (fs x.1); rw [World.size_alloc] at this; exact this⟩, ?_⟩
      simp
    case body =>
      rintro l pre x a' W hl ⟨r, hr⟩ ⟨⟨bR1, hall⟩, hk⟩ ⟨Bp, Bq, ⟨hP, hQ⟩, rfl⟩ hlt
      obtain ⟨p0, p1, p2, p3⟩ := hP.cells
      obtain ⟨q0, q1, q2⟩ := hQ.cells
      have cR := bR1.cell
      have fR := bR1.frozen
      have hs1 := hk.below.size
      have HA : Hid (∀ x ∈ pre, fitsI (ft x.1) (fu x.1) (fk x.1) (fn x.1) (fs x.1) = true) := hall
      have hC := fun W => implFits_any (fc x.1) (ft x.1) (fu x.1) (fd x.1) (fk x.1) (fn x.1) (fs x.1) W
      obtain ⟨o, ho⟩ : ∃ o, Hid (fitsI (ft x.1) (fu x.1) (fk x.1) (fn x.1) (fs x.1) = o) := ⟨_, rfl⟩
      rw [ho.out] at hC
      clear hall hP hQ hr
      cases o with
      | true =>
        gi_wp2_with (refine ⟨trivial, ?_⟩; gi_at_call 137; refine (CallsIn.inRound l (callsIn_wide.2 (hC _))).mono ?_; rintro e w2 ⟨rfl, hB2⟩)
        have hkk := KpB.ofBelow (n₀ := w.heap.size) (Bl := w.heap.size + 1) (Bv := w.heap.size + 1 + 1) hB2 (by omega) (by omega) (by omega)
        refine ⟨KeepsFrom.ofBelow hB2, hkk, ⟨Boxed.below' bR1 hB2, fun y hy => ?_⟩, hk.trans hkk⟩
        rcases List.mem_append.1 hy with hy | hy
        · exact HA.out y hy
        · simp at hy; subst hy; exact ho.out
      | false =>
        gi_wp2_with (refine ⟨trivial, ?_⟩; gi_at_call 137; refine (CallsIn.inRound l (callsIn_wide.2 (hC _))).mono ?_; rintro e w2 ⟨rfl, hB2⟩; have cR2 := (Boxed.below' bR1 hB2).cell; have fR2 := (Boxed.below' bR1 hB2).frozen)
        have bR2 : Boxed (w2.setCell ⟨w.heap.size, 0, none⟩ (.bool false)) w.heap.size 4 (.bool false) := Boxed.set _ (Boxed.below' bR1 hB2)
        refine ⟨(KeepsFrom.ofBelow hB2).trans ((KeepsOthers.setCell _ _ _).from _), rfl, ⟨bR2, x, List.mem_append.2 (.inr (by simp)), ho.out⟩, ?_⟩
        exact (hk.below.trans (hB2.mono (by omega))).setCell (p := ⟨w.heap.size, 0, none⟩) (Nat.le_refl _) _
    case done =>
      rintro D ys W hD rfl ⟨⟨bR1, hall⟩, hk⟩ hK
      have cR := bR1.cell
      have fR := bR1.frozen
      have HF : Hid (fitsAllI n m ft fu fk fn fs = true) := by
        show _ = _
        unfold fitsAllI
        rw [decide_eq_true hmn, Bool.true_and]
        exact allUpto_yes (fun i hi => hall ⟨i, by omega⟩ (List.mem_finRange _))
      have hk0 := hB0.trans hk.below
      clear hall hk
      gi_wp2
      have hK' := (KeepsOthers.setCell W ⟨w.heap.size, 0, none⟩ (.bool true)).same D _ hK rfl
      refine ⟨by simp, .inl ⟨_, _, rfl, run_takeDeferred hK', ?_⟩⟩
      have hc5 := cell_kept (Boxed.set (.bool true) bR1).cell (grownBy_putObj' _ D (.deferred none)) (fun r e => by cases e; exact ⟨_, hK', rfl⟩)
      refine ⟨.bool true, ?_, by rw [HF.out], Below.put' (hk0.setCell (p := ⟨w.heap.size, 0, none⟩) (Nat.le_refl _) _) (by omega) hK'⟩
      simp [results, Tryz.f104, go_sem, hc5]
    case stop =>
      rintro D c pre W hD hpre ⟨rfl, ⟨bR1, hno⟩, hk⟩ hK
      have HF : Hid (fitsAllI n m ft fu fk fn fs = false) := by
        show _ = _
        unfold fitsAllI
        obtain ⟨x, _, hx⟩ := hno
        rw [allUpto_no (k := x.1) (by have := x.2; omega) hx, Bool.and_false]
      have hk0 := hB0.trans hk
      clear hno hk
      gi_wp2
      refine ⟨by simp, .inl ⟨_, _, rfl, run_takeDeferred hK, ?_⟩⟩
      have hc5 := cell_kept bR1.cell (grownBy_putObj' _ D (.deferred none)) (fun r e => by cases e; exact ⟨_, hK, rfl⟩)
      refine ⟨.bool false, ?_, by rw [HF.out], Below.put' hk0 (by omega) hK⟩
      simp [results, Tryz.f104, go_sem, hc5]
  · have hmz : (m : Int) > (n : Int) := by omega
    have HF : Hid (fitsAllI n m ft fu fk fn fs = false) := by show _ = _; unfold fitsAllI; rw [decide_eq_false hmn]; rfl
    gi_wp2
    refine ⟨.bool false, ?_, by rw [HF.out], (Below.refl _ w).alloc (Nat.le_refl _) _⟩
    simp [results, Tryz.f104, go_sem]
end Go.Proofs.YtkakkjnbhklfpaaGreatDoor

/-
  Where a plan is right the program's FitsAll is the plain one.
-/
namespace Go.Proofs.YtkakkjnbhklfpaaGreatDoor
open Go.RowKit
set_option maxRecDepth 4000

/-- Where the plan is right the program's answer is the plain one. -/
theorem fitsAllI_ok {n m : Nat} {fc ft : Nat → Int} {fu : Nat → Bool} {fk fn : Nat → Int} {fs : Nat → ByteArray} (h : planOk n fc ft = true) : fitsAllI n m ft fu fk fn fs = fitsAll n m ft fu fk fn fs := by
  unfold fitsAllI fitsAll
  by_cases hm : m ≤ n
  · rw [decide_eq_true hm, Bool.true_and, Bool.true_and]
    have hp := (planOk_iff.1 h).1
    have e : ∀ i, i < m → fitsI (ft i) (fu i) (fk i) (fn i) (fs i) = fitsP (ft i) (fu i) (fk i) (fn i) (fs i) := fun i hi => by
      have := hp i (by omega)
      refine fitsI_ok ?_
      unfold partOk at this; simp at this; omega
    rw [Bool.eq_iff_iff, List.all_eq_true, List.all_eq_true]
    constructor
    · intro h' i hi; rw [← e i (List.mem_range.1 hi)]; exact h' i hi
    · intro h' i hi; rw [e i (List.mem_range.1 hi)]; exact h' i hi
  · rw [decide_eq_false hm, Bool.false_and, Bool.false_and]
end Go.Proofs.YtkakkjnbhklfpaaGreatDoor

