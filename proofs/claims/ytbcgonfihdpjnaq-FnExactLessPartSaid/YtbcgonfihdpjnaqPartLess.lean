/-
  The model's LessPart: values as they stand, the other way round where it is asked.
-/
import Derived.Test.YtbcgonfihdpjnaqLessSpec
import Derived.Test.YtbcgonfihdpjnaqPartBox
namespace Go.Proofs.Ytbcgonfihdpjnaq
open Go.RowKit
set_option maxRecDepth 4000

def lessP (d : Bool) (k n : Int) (s : ByteArray) (k' n' : Int) (s' : ByteArray) : Bool := if d then lessV k' n' s' k n s else lessV k n s k' n' s'

set_option maxHeartbeats 1000000 in
theorem specLessPart_any (c t : Int) (nul d : Bool) (k n : Int) (s : ByteArray) (k' n' : Int) (s' : ByteArray) (w : World) :
    Calls Try.prog 24 #[.agg #[.int .i64 c, .int .i64 t, .bool nul, .bool d], .agg #[.int .i64 k, .int .i64 n, .string s], .agg #[.int .i64 k', .int .i64 n', .string s']] w fun e w' => e = .returned (.bool (lessP d k n s k' n' s')) ∧ Below w.heap.size w w' := by
  have hb0 : ∀ o o' o'', Below w.heap.size w (((w.alloc o).alloc o').alloc o'') := fun o o' o'' => (((Below.refl _ _).alloc (Nat.le_refl _) _).alloc (by simp) _).alloc (by simp; omega) _
  cases d with
  | true =>
    go_enter Try.func24, Try.ntmps24
    go_wp2_with fail
    refine (lessVal_spec k' n' s' k n s _).mono ?_
    rintro e w1 ⟨rfl, hb1⟩
    have HB : Hid (Below w.heap.size w w1) := (hb0 _ _ _).trans (hb1.mono (by simp; omega))
    clear hb1 hb0
    go_wp2
    go_ret
    exact ⟨rfl, HB.out⟩
  | false =>
    go_enter Try.func24, Try.ntmps24
    go_wp2_with fail
    refine (lessVal_spec k n s k' n' s' _).mono ?_
    rintro e w1 ⟨rfl, hb1⟩
    have HB : Hid (Below w.heap.size w w1) := (hb0 _ _ _).trans (hb1.mono (by simp; omega))
    clear hb1 hb0
    go_wp2
    go_ret
    exact ⟨rfl, HB.out⟩
end Go.Proofs.Ytbcgonfihdpjnaq
