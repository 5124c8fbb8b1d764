/-
  The law FnExactValText, walked.
-/
import Derived.Test.YtamfibkgnbjiiaoDoorValHelp
import Derived.Test.YtamfibkgnbjiiaoDoorTextModel
import Derived.Test.YtamfibkgnbjiiaoDoorTextImpl
namespace Go.Proofs.YtamfibkgnbjiiaoDoor
open Go.RowKit

set_option maxHeartbeats 1000000 in
theorem lawValText (k n : Int) (s : ByteArray) (w : World) (hs : s.size ≤ maxLen) (ht : Tab w) :
    Calls Tryd.prog 3 #[.agg #[.int .i64 k, .int .i64 n, .string s]] w fun e w' => e = .returned (.bool true) ∧ Below w.heap.size w w' := by
  generalize hr : bytesOf (textF k n s) = r
  by_cases hb : (1048576 : Int) < (s.size : Int)
  · go_enter Tryd.func3, Tryd.ntmps3
    go_wp2_with fail
    refine (szVal_big k n s 1048576 _ hb (by omega) hs).mono ?_
    rintro e w1 ⟨rfl, hB1⟩
    go_wp2
    go_ret
    exact ⟨rfl, ((Below.refl _ _).alloc (Nat.le_refl _) _).trans (hB1.mono (by simp))⟩
  · have hb1 : (s.size : Int) ≤ 1048576 := by omega
    have hb2 : ¬ 1048576 - (s.size : Int) < 0 := by omega
    go_enter Tryd.func3, Tryd.ntmps3
    go_wp2_with fail
    refine (szVal_small k n s 1048576 _ hb1 (by omega)).mono ?_
    rintro e w1 ⟨rfl, hB1⟩
    have hC1 := hB1.mono (show w.heap.size + 1 ≤ _ by simp)
    obtain ⟨c0, c1, c2⟩ := boxed hC1 (by omega)
    have hD1 : Below w.heap.size w w1 := ((Below.refl _ _).alloc (Nat.le_refl _) _).trans (hB1.mono (by simp))
    have hs1 : w.heap.size + 1 ≤ w1.heap.size := by have := hB1.size; simpa using this
    go_wp2_with fail
    refine (toVal_any k n s _).mono ?_
    rintro e w2 ⟨rfl, hB2⟩
    have hC2 := hC1.trans (hB2.mono hs1)
    have hD2 := hD1.trans (hB2.mono (by omega))
    have hs2 : w.heap.size + 1 ≤ w2.heap.size := by have := hB2.size; omega
    clear hB1 hB2 c0 c1 c2
    go_wp2_with fail
    refine (specValText_any k n s _ (by omega)).mono ?_
    rintro e w3 ⟨rfl, hB3⟩
    have hC3 := hC2.trans (hB3.mono hs2)
    have hD3 := hD2.trans (hB3.mono (by omega))
    have hs3 : w.heap.size + 1 ≤ w3.heap.size := by have := hB3.size; omega
    obtain ⟨c0, c1, c2⟩ := boxed hC3 (by omega)
    clear hB3 hC1 hC2 hD1 hD2 hs1 hs2
    go_wp2_with fail
    refine (toVal_any k n s _).mono ?_
    rintro e w4 ⟨rfl, hB4⟩
    have hD4 := hD3.trans (hB4.mono (by omega))
    have hs4 : w.heap.size + 1 ≤ w4.heap.size := by have := hB4.size; omega
    go_wp2_with fail
    refine (valText_any k n s _ (tab_below ht hD4)).mono ?_
    rintro e w5 ⟨rfl, hB5⟩
    have hD5 : Hid (Below w.heap.size w w5) := hD4.trans (hB5.mono (by omega))
    clear hB4 hB5 hs3 hs4 hD3 hD4 hC3 c0 c1 c2
    go_wp2
    go_ret
    exact ⟨rfl, hD5.out⟩
end Go.Proofs.YtamfibkgnbjiiaoDoor
