/-
  The program's LessPart: values as they stand, the other way round where it is asked.
-/
import Derived.Test.YtbcgonfihdpjnaqPartLess
import Derived.Test.YtbcgonfihdpjnaqPartBox
namespace Go.Proofs.Ytbcgonfihdpjnaq
open Go.RowKit
set_option maxRecDepth 4000

set_option maxHeartbeats 1000000 in
theorem implLessPart_any (c t : Int) (nul d : Bool) (k n : Int) (s : ByteArray) (k' n' : Int) (s' : ByteArray) (w : World) :
    Calls Try.prog 25 #[.agg #[.int .i64 c, .int .i64 t, .bool nul, .bool d], .agg #[.int .i64 k, .int .i64 n, .string s], .agg #[.int .i64 k', .int .i64 n', .string s']] w fun e w' => e = .returned (.bool (lessP d k n s k' n' s')) ∧ Below w.heap.size w w' := by
  have hb0 : ∀ o o' o'', Below w.heap.size w (((w.alloc o).alloc o').alloc o'') := fun o o' o'' => (((Below.refl _ _).alloc (Nat.le_refl _) _).alloc (by simp) _).alloc (by simp; omega) _
  cases d with
  | true =>
    go_enter Try.func25, Try.ntmps25
    go_wp2_with fail
    refine (lessVal_impl k' n' s' k n s _).mono ?_
    rintro e w1 ⟨rfl, hb1⟩
    have HB : Hid (Below w.heap.size w w1) := (hb0 _ _ _).trans (hb1.mono (by simp; omega))
    clear hb1 hb0
    go_wp2
    go_ret
    exact ⟨rfl, HB.out⟩
  | false =>
    go_enter Try.func25, Try.ntmps25
    go_wp2_with fail
    refine (lessVal_impl k n s k' n' s' _).mono ?_
    rintro e w1 ⟨rfl, hb1⟩
    have HB : Hid (Below w.heap.size w w1) := (hb0 _ _ _).trans (hb1.mono (by simp; omega))
    clear hb1 hb0
    go_wp2
    go_ret
    exact ⟨rfl, HB.out⟩
end Go.Proofs.Ytbcgonfihdpjnaq
