/-
  The law FnExactParseVal, walked.
-/
import Derived.Test.YtamfibkgnbjiiaoDoorReadAll
namespace Go.Proofs.YtamfibkgnbjiiaoDoor
open Go.RowKit Go.Lib

set_option maxHeartbeats 1000000 in
theorem eqVal_same (k n : Int) (s : ByteArray) (w : World) :
    Calls Tryd.prog 11 #[.agg #[.int .i64 k, .int .i64 n, .string s], .agg #[.int .i64 k, .int .i64 n, .string s]] w fun e w' => e = .returned (.bool true) ∧ Below w.heap.size w w' := by
  have e1 : (k != k) = false := by simp
  have e2 : (n != n) = false := by simp
  go_enter Tryd.func11, Tryd.ntmps11
  go_wp2
  go_ret
  refine ⟨rfl, ?_⟩
  repeat (first | exact Below.refl _ _ | refine Below.alloc ?_ (by simp <;> omega) _ | refine Below.drew ?_)

set_option maxHeartbeats 1000000 in
theorem lawParseVal (s : ByteArray) (w : World) (hs : s.size ≤ maxLen) (ht : Tab w) (E1 : ErrVar "strconv.ErrSyntax" w) (E2 : ErrVar "strconv.ErrRange" w) :
    Calls Tryd.prog 4 #[.string s] w fun e w' => e = .returned (.bool true) ∧ Below w.heap.size w w' := by
  by_cases hb : (1048576 : Int) < (s.size : Int)
  · have hs : (s.size : Int) ≤ 9223372036854775807 := by unfold maxLen at hs; omega
    go_enter Tryd.func4, Tryd.ntmps4
    go_wp2
    go_ret
    exact ⟨rfl, Below.refl _ _⟩
  · have hP := finM_parsed s.data.toList
    have hS := fun W => specParseVal_any s W (by omega)
    unfold retM at hS
    generalize finM (readM s.data.toList) = r at *
    obtain ⟨k, n, t, b⟩ := r
    unfold valAgg at hS
    simp only at hP hS
    have hI := fun W h1 h2 h3 => parseVal_impl s W (by omega) h1 h2 h3 k n t b hP
    clear hP hs
    go_enter Tryd.func4, Tryd.ntmps4
    go_wp2_with fail
    refine (hS _).mono ?_
    rintro e w1 ⟨rfl, hB1⟩
    have hA : Below w.heap.size w (w1.alloc (.cells #[.int .i64 k, .int .i64 n, .string t] 26)) := hB1.alloc hB1.size _
    have ht1 := tab_below ht hA
    have e1 := errVar_below E1 hA
    have e2 := errVar_below E2 hA
    go_wp2_with fail
    refine (hI _ ht1 e1 e2).mono ?_
    rintro e w2 ⟨rfl, hB2⟩
    have hC := hB2.mono (show w1.heap.size + 1 ≤ _ by simp)
    obtain ⟨c0, c1, c2⟩ := boxed hC (by omega)
    have hD2 : Below w.heap.size w w2 := hA.trans (hB2.mono (by have := hB1.size; simp; omega))
    have hlt : w1.heap.size < w2.heap.size := by have := hB2.size; simp at this; omega
    clear hB2 hC hB1 hA ht1 e1 e2 hS hI ht E1 E2
    go_wp2_with fail
    refine (eqVal_same k n t _).mono ?_
    rintro e w3 ⟨rfl, hB3⟩
    have hD3 : Hid (Below w.heap.size w w3) := (hD2.alloc hD2.size _).trans (hB3.mono (by have := hD2.size; simp; omega))
    clear hB3 hD2 c0 c1 c2 hlt
    go_wp2
    all_goals go_ret
    all_goals exact ⟨rfl, hD3.out⟩
end Go.Proofs.YtamfibkgnbjiiaoDoor
