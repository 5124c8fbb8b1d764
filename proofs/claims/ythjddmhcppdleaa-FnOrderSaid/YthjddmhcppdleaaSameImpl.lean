/-
  The program's SameVal: whether two values are alike.
-/
import Derived.Test.YthjddmhcppdleaaValEq
namespace Go.Proofs.Ythjddmhcppdleaa
open Go.RowKit

set_option maxHeartbeats 1000000 in
theorem sameVal_impl (k n : Int) (s : ByteArray) (k' n' : Int) (s' : ByteArray) (w : World) :
    Calls Try.prog 22 #[.agg #[.int .i64 k, .int .i64 n, .string s], .agg #[.int .i64 k', .int .i64 n', .string s']] w fun e w' => e = .returned (.bool (eqV k n s k' n' s')) ∧ Below w.heap.size w w' := by
  have q := eqVal_run k n s k' n' s'
  go_enter Try.func22, Try.ntmps22
  go_wp2
  go_ret
  refine ⟨rfl, ?_⟩
  repeat (first | exact Below.refl _ _ | refine Below.alloc ?_ (by simp <;> omega) _ | refine Below.drew ?_)

end Go.Proofs.Ythjddmhcppdleaa
