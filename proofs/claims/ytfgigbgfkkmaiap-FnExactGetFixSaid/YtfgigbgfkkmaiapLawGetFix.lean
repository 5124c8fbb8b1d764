/-
  The walk over the law FnExactGetFix: it answers true and writes nothing that was there, at every slice of bytes that reads and at every place.
-/
import Derived.Test.YtfgigbgfkkmaiapGetFixWalks
import Derived.Test.YtfgigbgfkkmaiapSlices
namespace Go.Proofs.Ytfgigbgfkkmaiap
open Go.RowKit

set_option maxHeartbeats 1000000 in
theorem lawGetFix (ao : Option Addr) (n cap : Nat) (f : Nat → Int) (p : Int) (w : World) (hv : View w ao n cap f) (hp1 : p ≤ 9223372036854775807) :
    Calls Try.prog 7 #[.slice ao n cap, .int .i64 p] w fun e w' => e = .returned (.bool true) ∧ Below w.heap.size w w' := by
  by_cases hbig : 1048576 < n
  · have hz : (1048576 : Int) < (n : Int) := by omega
    go_enter Try.func7, Try.ntmps7
    go_wp2
    go_ret
    exact ⟨rfl, Below.refl _ _⟩
  have hz : (n : Int) ≤ 1048576 := by omega
  go_enter Try.func7, Try.ntmps7
  go_wp2_with fail
  refine (toByteS_any ao n cap f w hv (by omega)).mono ?_
  rintro e w1 ⟨rfl, hr1, hb1, -⟩
  obtain ⟨a, b, c, hg⟩ : ∃ a b c, Hid (getF n f p = (a, b, c)) := ⟨_, _, _, rfl⟩
  go_wp2_with fail
  refine (getFix_spec _ 0 n n f p w1 hg (View.ofRow hr1 (Nat.le_refl _) (Nat.le_refl _) hv.byte) (by omega) hp1).mono ?_
  rintro e _ ⟨rfl, rfl⟩
  go_wp2_with fail
  refine (toByteS_any ao n cap f w1 (hv.below hb1) (by omega)).mono ?_
  rintro e w2 ⟨rfl, hr2, hb2, -⟩
  go_wp2_with fail
  refine (getFix_impl _ 0 n n f p w2 hg (View.ofRow hr2 (Nat.le_refl _) (Nat.le_refl _) hv.byte) (by omega) hp1).mono ?_
  rintro e _ ⟨rfl, rfl⟩
  go_wp2_with fail
  have hb12 : Below w.heap.size w w2 := hb1.trans (hb2.mono hb1.size)
  refine (toByteS_any ao n cap f w2 (hv.below hb12) (by omega)).mono ?_
  rintro e w3 ⟨rfl, hr3, hb3, -⟩
  go_wp2_with fail
  refine (eqByteS_same _ _ n n n f f w3 (View.ofRow (rowBelow hr2 hb3 hr2.lt) (Nat.le_refl _) (Nat.le_refl _) hv.byte) (View.ofRow hr3 (Nat.le_refl _) (Nat.le_refl _) hv.byte) (by omega) (fun _ _ => rfl)).mono ?_
  rintro e w4 ⟨rfl, hb4⟩
  go_wp2
  go_ret
  exact ⟨rfl, hb12.trans ((hb3.mono hb12.size).trans (hb4.mono (Nat.le_trans hb12.size hb3.size)))⟩
end Go.Proofs.Ytfgigbgfkkmaiap
