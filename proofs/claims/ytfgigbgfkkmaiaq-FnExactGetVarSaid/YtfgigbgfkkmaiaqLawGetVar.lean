/-
  The walk over the law FnExactGetVar: it answers true and writes nothing that was there, at every slice of bytes that reads and at every place.
-/
import Derived.Test.YtfgigbgfkkmaiaqGetVarSpec
import Derived.Test.YtfgigbgfkkmaiaqGetVarImpl
import Derived.Test.YtfgigbgfkkmaiaqSlices
namespace Go.Proofs.Ytfgigbgfkkmaiaq
open Go.RowKit

set_option maxHeartbeats 1000000 in
theorem lawGetVar (ao : Option Addr) (n cap : Nat) (f : Nat → Int) (p : Int) (w : World) (hv : View w ao n cap f) (hp1 : p ≤ 9223372036854775807) :
    Calls Try.prog 3 #[.slice ao n cap, .int .i64 p] w fun e w' => e = .returned (.bool true) ∧ Below w.heap.size w w' := by
  by_cases hbig : 1048576 < n
  · have hz : (1048576 : Int) < (n : Int) := by omega
    go_enter Try.func3, Try.ntmps3
    go_wp2
    go_ret
    exact ⟨rfl, Below.refl _ _⟩
  have hz : (n : Int) ≤ 1048576 := by omega
  go_enter Try.func3, Try.ntmps3
  go_wp2_with fail
  refine (toByteS_any ao n cap f w hv (by omega)).mono ?_
  rintro e w1 ⟨rfl, hr1, hb1, -⟩
  obtain ⟨a, b, c, hg⟩ : ∃ a b c, Hid (getV n f p = (a, b, c)) := ⟨_, _, _, rfl⟩
  go_wp2_with fail
  refine (getVar_spec _ 0 n n f p w1 hg (View.ofRow hr1 (Nat.le_refl _) (Nat.le_refl _) hv.byte) (by omega) hp1).mono ?_
  rintro e w2 ⟨rfl, hb2⟩
  replace hb2 := hb1.trans (hb2.mono hb1.size)
  clear hr1 hb1
  go_wp2_with fail
  refine (toByteS_any ao n cap f w2 (hv.below hb2) (by omega)).mono ?_
  rintro e w3 ⟨rfl, hr3, hb3, -⟩
  replace hb3 := hb2.trans (hb3.mono hb2.size)
  go_wp2_with fail
  refine (getVar_impl _ 0 n n f p w3 hg (View.ofRow hr3 (Nat.le_refl _) (Nat.le_refl _) hv.byte) (by omega) hp1).mono ?_
  rintro e w4 ⟨rfl, hb4⟩
  have hr4 := rowBelow hr3 hb4 hr3.lt
  replace hb4 := hb3.trans (hb4.mono hb3.size)
  clear hr3 hb3 hb2
  go_wp2_with fail
  refine (toByteS_any ao n cap f w4 (hv.below hb4) (by omega)).mono ?_
  rintro e w5 ⟨rfl, hr5, hb5, -⟩
  have hr6 := rowBelow hr4 hb5 hr4.lt
  replace hb5 := hb4.trans (hb5.mono hb4.size)
  clear hr4 hb4
  go_wp2_with fail
  refine (eqByteS_same _ _ n n n f f w5 (View.ofRow hr6 (Nat.le_refl _) (Nat.le_refl _) hv.byte) (View.ofRow hr5 (Nat.le_refl _) (Nat.le_refl _) hv.byte) (by omega) (fun _ _ => rfl)).mono ?_
  rintro e w6 ⟨rfl, hb6⟩
  replace hb6 := hb5.trans (hb6.mono hb5.size)
  clear hr5 hr6 hb5
  go_wp2
  go_ret
  exact ⟨rfl, hb6⟩
end Go.Proofs.Ytfgigbgfkkmaiaq
