/-
  What the law's own helper over parts comes to.
-/
import Derived.Test.YtbcgonfihdpjnaqPartBox
namespace Go.Proofs.Ytbcgonfihdpjnaq
open Go.RowKit
set_option maxRecDepth 4000

set_option maxHeartbeats 1000000 in
theorem toPart_any (c t : Int) (nul d : Bool) (w : World) :
    Calls Try.prog 13 #[.agg #[.int .i64 c, .int .i64 t, .bool nul, .bool d]] w fun e w' => e = .returned (.agg #[.int .i64 c, .int .i64 t, .bool nul, .bool d]) ∧ Below w.heap.size w w' := by
  go_enter Try.func13, Try.ntmps13
  go_wp2
  refine bodyPost_ret (v := .agg #[.int .i64 c, .int .i64 t, .bool nul, .bool d]) (by simp [results, Try.results13, go_sem]) rfl ⟨rfl, ?_⟩
  repeat (first | exact Below.refl _ _ | refine Below.alloc ?_ (by simp <;> omega) _ | refine Below.drew ?_)
end Go.Proofs.Ytbcgonfihdpjnaq
