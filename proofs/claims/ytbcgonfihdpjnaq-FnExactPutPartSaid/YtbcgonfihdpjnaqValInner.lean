/-
  The program's values within: what each function answers of each kind.
-/
import Derived.Test.YtbcgonfihdpjnaqInfo
import Derived.Test.YtbcgonfihdpjnaqValPlain
import Derived.Test.YtbcgonfihdpjnaqValEq
namespace Go.Proofs.Ytbcgonfihdpjnaq
open Go.RowKit
set_option maxRecDepth 4000

/-- A value within, as the machine holds it. -/
def V.enc : V → Value
  | .null => .iface 85 (.agg #[])
  | .int n => .iface 86 (.int .i64 n)
  | .num n => .iface 87 (.int .i64 n)
  | .text s => .iface 88 (.string s)
  | .bool b => .iface 89 (.bool b)

theorem as_null_null (W : World) : (Instr.typeAssert (.iface 85 (.agg #[])) 78 85 true).run Try.prog W = .ok (.tuple #[.agg #[], .bool true]) W := by kernel_rfl
theorem as_null_int (W : World) : (Instr.typeAssert (.iface 85 (.agg #[])) 78 86 true).run Try.prog W = .ok (.tuple #[.int .i64 0, .bool false]) W := by kernel_rfl
theorem as_null_num (W : World) : (Instr.typeAssert (.iface 85 (.agg #[])) 78 87 true).run Try.prog W = .ok (.tuple #[.int .i64 0, .bool false]) W := by kernel_rfl
theorem as_null_text (W : World) : (Instr.typeAssert (.iface 85 (.agg #[])) 78 88 true).run Try.prog W = .ok (.tuple #[.string ⟨#[]⟩, .bool false]) W := by kernel_rfl
theorem as_null_bool (W : World) : (Instr.typeAssert (.iface 85 (.agg #[])) 78 89 true).run Try.prog W = .ok (.tuple #[.bool false, .bool false]) W := by kernel_rfl
theorem as_int_null (n : Int) (W : World) : (Instr.typeAssert (.iface 86 (.int .i64 n)) 78 85 true).run Try.prog W = .ok (.tuple #[.agg #[], .bool false]) W := by kernel_rfl
theorem as_int_int (n : Int) (W : World) : (Instr.typeAssert (.iface 86 (.int .i64 n)) 78 86 true).run Try.prog W = .ok (.tuple #[.int .i64 n, .bool true]) W := by kernel_rfl
theorem as_int_num (n : Int) (W : World) : (Instr.typeAssert (.iface 86 (.int .i64 n)) 78 87 true).run Try.prog W = .ok (.tuple #[.int .i64 0, .bool false]) W := by kernel_rfl
theorem as_int_text (n : Int) (W : World) : (Instr.typeAssert (.iface 86 (.int .i64 n)) 78 88 true).run Try.prog W = .ok (.tuple #[.string ⟨#[]⟩, .bool false]) W := by kernel_rfl
theorem as_int_bool (n : Int) (W : World) : (Instr.typeAssert (.iface 86 (.int .i64 n)) 78 89 true).run Try.prog W = .ok (.tuple #[.bool false, .bool false]) W := by kernel_rfl
theorem as_num_null (n : Int) (W : World) : (Instr.typeAssert (.iface 87 (.int .i64 n)) 78 85 true).run Try.prog W = .ok (.tuple #[.agg #[], .bool false]) W := by kernel_rfl
theorem as_num_int (n : Int) (W : World) : (Instr.typeAssert (.iface 87 (.int .i64 n)) 78 86 true).run Try.prog W = .ok (.tuple #[.int .i64 0, .bool false]) W := by kernel_rfl
theorem as_num_num (n : Int) (W : World) : (Instr.typeAssert (.iface 87 (.int .i64 n)) 78 87 true).run Try.prog W = .ok (.tuple #[.int .i64 n, .bool true]) W := by kernel_rfl
theorem as_num_text (n : Int) (W : World) : (Instr.typeAssert (.iface 87 (.int .i64 n)) 78 88 true).run Try.prog W = .ok (.tuple #[.string ⟨#[]⟩, .bool false]) W := by kernel_rfl
theorem as_num_bool (n : Int) (W : World) : (Instr.typeAssert (.iface 87 (.int .i64 n)) 78 89 true).run Try.prog W = .ok (.tuple #[.bool false, .bool false]) W := by kernel_rfl
theorem as_text_null (s : ByteArray) (W : World) : (Instr.typeAssert (.iface 88 (.string s)) 78 85 true).run Try.prog W = .ok (.tuple #[.agg #[], .bool false]) W := by kernel_rfl
theorem as_text_int (s : ByteArray) (W : World) : (Instr.typeAssert (.iface 88 (.string s)) 78 86 true).run Try.prog W = .ok (.tuple #[.int .i64 0, .bool false]) W := by kernel_rfl
theorem as_text_num (s : ByteArray) (W : World) : (Instr.typeAssert (.iface 88 (.string s)) 78 87 true).run Try.prog W = .ok (.tuple #[.int .i64 0, .bool false]) W := by kernel_rfl
theorem as_text_text (s : ByteArray) (W : World) : (Instr.typeAssert (.iface 88 (.string s)) 78 88 true).run Try.prog W = .ok (.tuple #[.string s, .bool true]) W := by kernel_rfl
theorem as_text_bool (s : ByteArray) (W : World) : (Instr.typeAssert (.iface 88 (.string s)) 78 89 true).run Try.prog W = .ok (.tuple #[.bool false, .bool false]) W := by kernel_rfl
theorem as_bool_null (b : Bool) (W : World) : (Instr.typeAssert (.iface 89 (.bool b)) 78 85 true).run Try.prog W = .ok (.tuple #[.agg #[], .bool false]) W := by kernel_rfl
theorem as_bool_int (b : Bool) (W : World) : (Instr.typeAssert (.iface 89 (.bool b)) 78 86 true).run Try.prog W = .ok (.tuple #[.int .i64 0, .bool false]) W := by kernel_rfl
theorem as_bool_num (b : Bool) (W : World) : (Instr.typeAssert (.iface 89 (.bool b)) 78 87 true).run Try.prog W = .ok (.tuple #[.int .i64 0, .bool false]) W := by kernel_rfl
theorem as_bool_text (b : Bool) (W : World) : (Instr.typeAssert (.iface 89 (.bool b)) 78 88 true).run Try.prog W = .ok (.tuple #[.string ⟨#[]⟩, .bool false]) W := by kernel_rfl
theorem as_bool_bool (b : Bool) (W : World) : (Instr.typeAssert (.iface 89 (.bool b)) 78 89 true).run Try.prog W = .ok (.tuple #[.bool b, .bool true]) W := by kernel_rfl

set_option maxHeartbeats 1000000 in
theorem inRange_any (v : V) (w : World) :
    Calls Try.prog 69 #[v.enc] w fun e w' => e = .returned (.bool v.rng) ∧ w' = w := by
  cases v with
  | null =>
    have q_int := as_null_int
    have q_num := as_null_num
    have q_text := as_null_text
    unfold V.enc
    go_enter Try.func69, Try.ntmps69
    go_wp2
    all_goals go_ret
    all_goals (refine ⟨?_, rfl⟩; first | rfl | (simp_all [V.rng] <;> omega))
  | int n =>
    have q_int := as_int_int n
    unfold V.enc
    go_enter Try.func69, Try.ntmps69
    go_wp2
    all_goals go_ret
    all_goals (refine ⟨?_, rfl⟩; first | rfl | (simp_all [V.rng] <;> omega))
  | num n =>
    have q_int := as_num_int n
    have q_num := as_num_num n
    unfold V.enc
    go_enter Try.func69, Try.ntmps69
    go_wp2
    all_goals go_ret
    all_goals (refine ⟨?_, rfl⟩; first | rfl | (simp_all [V.rng] <;> omega))
  | text s =>
    have q_int := as_text_int s
    have q_num := as_text_num s
    have q_text := as_text_text s
    unfold V.enc
    go_enter Try.func69, Try.ntmps69
    go_wp2
    all_goals go_ret
    all_goals (refine ⟨?_, rfl⟩; first | rfl | (simp_all [V.rng] <;> omega))
  | bool b =>
    have q_int := as_bool_int b
    have q_num := as_bool_num b
    have q_text := as_bool_text b
    unfold V.enc
    go_enter Try.func69, Try.ntmps69
    go_wp2
    all_goals go_ret
    all_goals (refine ⟨?_, rfl⟩; first | rfl | (simp_all [V.rng] <;> omega))

set_option maxHeartbeats 1000000 in
theorem valOf_any (v : V) (w : World) :
    Calls Try.prog 70 #[v.enc] w fun e w' => e = .returned (valAgg v.k v.n v.s) ∧ Below w.heap.size w w' := by
  cases v with
  | null =>
    have q_int := as_null_int
    have q_num := as_null_num
    have q_text := as_null_text
    have q_bool := as_null_bool
    have hm : ∀ W : World, (method 216 85 (.agg #[]) "loop.example/g00322/impl.kind").run Try.prog W = .ok (90, .agg #[]) W := fun _ => by kernel_rfl
    have hn : ∀ W : World, (nilAhead 216 85 (.agg #[]) "loop.example/g00322/impl.kind").run Try.prog W = .ok (some false) W := fun _ => by kernel_rfl
    unfold V.enc
    go_enter Try.func70, Try.ntmps70
    go_wp2
    all_goals refine bodyPost_ret (v := valAgg _ _ _) (by simp [results, Try.results70, go_sem, valAgg]; try exact ⟨rfl, rfl, rfl⟩) rfl ⟨rfl, ?_⟩
    all_goals repeat (first | exact Below.refl _ _ | refine Below.alloc ?_ (by simp <;> omega) _ | refine Below.drew ?_)
  | int n =>
    have q_int := as_int_int n
    have hm : ∀ W : World, (method 216 86 (.int .i64 n) "loop.example/g00322/impl.kind").run Try.prog W = .ok (91, .int .i64 n) W := fun _ => by kernel_rfl
    have hn : ∀ W : World, (nilAhead 216 86 (.int .i64 n) "loop.example/g00322/impl.kind").run Try.prog W = .ok (some false) W := fun _ => by kernel_rfl
    unfold V.enc
    go_enter Try.func70, Try.ntmps70
    go_wp2
    all_goals refine bodyPost_ret (v := valAgg _ _ _) (by simp [results, Try.results70, go_sem, valAgg]; try exact ⟨rfl, rfl, rfl⟩) rfl ⟨rfl, ?_⟩
    all_goals repeat (first | exact Below.refl _ _ | refine Below.alloc ?_ (by simp <;> omega) _ | refine Below.drew ?_)
  | num n =>
    have q_int := as_num_int n
    have q_num := as_num_num n
    have hm : ∀ W : World, (method 216 87 (.int .i64 n) "loop.example/g00322/impl.kind").run Try.prog W = .ok (92, .int .i64 n) W := fun _ => by kernel_rfl
    have hn : ∀ W : World, (nilAhead 216 87 (.int .i64 n) "loop.example/g00322/impl.kind").run Try.prog W = .ok (some false) W := fun _ => by kernel_rfl
    unfold V.enc
    go_enter Try.func70, Try.ntmps70
    go_wp2
    all_goals refine bodyPost_ret (v := valAgg _ _ _) (by simp [results, Try.results70, go_sem, valAgg]; try exact ⟨rfl, rfl, rfl⟩) rfl ⟨rfl, ?_⟩
    all_goals repeat (first | exact Below.refl _ _ | refine Below.alloc ?_ (by simp <;> omega) _ | refine Below.drew ?_)
  | text s =>
    have q_int := as_text_int s
    have q_num := as_text_num s
    have q_text := as_text_text s
    have hm : ∀ W : World, (method 216 88 (.string s) "loop.example/g00322/impl.kind").run Try.prog W = .ok (93, .string s) W := fun _ => by kernel_rfl
    have hn : ∀ W : World, (nilAhead 216 88 (.string s) "loop.example/g00322/impl.kind").run Try.prog W = .ok (some false) W := fun _ => by kernel_rfl
    unfold V.enc
    go_enter Try.func70, Try.ntmps70
    go_wp2
    all_goals refine bodyPost_ret (v := valAgg _ _ _) (by simp [results, Try.results70, go_sem, valAgg]; try exact ⟨rfl, rfl, rfl⟩) rfl ⟨rfl, ?_⟩
    all_goals repeat (first | exact Below.refl _ _ | refine Below.alloc ?_ (by simp <;> omega) _ | refine Below.drew ?_)
  | bool b =>
    have q_int := as_bool_int b
    have q_num := as_bool_num b
    have q_text := as_bool_text b
    have q_bool := as_bool_bool b
    have hm : ∀ W : World, (method 216 89 (.bool b) "loop.example/g00322/impl.kind").run Try.prog W = .ok (94, .bool b) W := fun _ => by kernel_rfl
    have hn : ∀ W : World, (nilAhead 216 89 (.bool b) "loop.example/g00322/impl.kind").run Try.prog W = .ok (some false) W := fun _ => by kernel_rfl
    unfold V.enc
    go_enter Try.func70, Try.ntmps70
    cases b <;> go_wp2
    all_goals refine bodyPost_ret (v := valAgg _ _ _) (by simp [results, Try.results70, go_sem, valAgg]; try exact ⟨rfl, rfl, rfl⟩) rfl ⟨rfl, ?_⟩
    all_goals repeat (first | exact Below.refl _ _ | refine Below.alloc ?_ (by simp <;> omega) _ | refine Below.drew ?_)

end Go.Proofs.Ytbcgonfihdpjnaq
