/-
  The program's LessVal comes to the plain order.
-/
import Derived.Test.YtbcgonfihdpjnaqLessPlain
import Derived.Deep.RegionWith
import Derived.Deep.RegionHeld3
namespace Go.Proofs.Ytbcgonfihdpjnaq
open Go.RowKit
set_option maxRecDepth 4000

/-- The lower kind first; of one kind the lower number, then the lower text. -/
def lessV (k n : Int) (s : ByteArray) (k' n' : Int) (s' : ByteArray) : Bool := if k ≠ k' then decide (k < k') else if n ≠ n' then decide (n < n') else ltS s s'

theorem lessV_cmp (k n : Int) (s : ByteArray) (k' n' : Int) (s' : ByteArray) : decide (first3 (cmpI k k') (cmpI n n') (cmpS s s') < 0) = lessV k n s k' n' s' := by
  unfold first3 lessV cmpI cmpS
  by_cases h1 : k = k'
  · subst h1
    by_cases h2 : n = n'
    · subst h2
      cases ltS s s' <;> simp
      split <;> decide
    · by_cases h3 : n < n'
      · simp [h2, h3]
      · have : n' < n := by omega
        simp [h2, h3, this]
  · by_cases h3 : k < k'
    · simp [h1, h3]
    · have : k' < k := by omega
      simp [h1, h3, this]

set_option maxHeartbeats 4000000 in
theorem lessVal_impl (k n : Int) (s : ByteArray) (k' n' : Int) (s' : ByteArray) (w : World) :
    Calls Try.prog 43 #[.agg #[.int .i64 k, .int .i64 n, .string s], .agg #[.int .i64 k', .int .i64 n', .string s']] w fun e w' => e = .returned (.bool (lessV k n s k' n' s')) ∧ Below w.heap.size w w' := by
  rw [← lessV_cmp]
  have hI := fun W => cmpInt_any k k' W
  have hN := fun W => cmpInt_any n n' W
  have hS := fun W => cmpStr_any s s' W
  generalize cmpI k k' = x at *
  generalize cmpI n n' = y at *
  generalize cmpS s s' = z at *
  go_enter Try.func43, Try.ntmps43
  go_wp2_with fail
  go_region_held3 (fun W => W.cell? ⟨w.heap.size, 0, none⟩ = some (.int .i64 k) ∧ W.cell? ⟨w.heap.size, 1, none⟩ = some (.int .i64 n) ∧ W.cell? ⟨w.heap.size, 2, none⟩ = some (.string s) ∧ W.cell? ⟨w.heap.size + 1, 0, none⟩ = some (.int .i64 k') ∧ W.cell? ⟨w.heap.size + 1, 1, none⟩ = some (.int .i64 n') ∧ W.cell? ⟨w.heap.size + 1, 2, none⟩ = some (.string s')) (go_keep) (first
    | (go_at_call_of 59 (Value.int IntKind.i64 k); refine (hI _).mono ?_; rintro e _ ⟨rfl, rfl⟩)
    | (go_at_call_of 59 (Value.int IntKind.i64 n); refine (hN _).mono ?_; rintro e _ ⟨rfl, rfl⟩)
    | (go_at_call 60; refine (hS _).mono ?_; rintro e _ ⟨rfl, rfl⟩)
    | (go_at_call 58; refine (or3_any _ x y z _ (by simp [go_sem]) (by simp [go_sem]) (by simp [go_sem])).mono ?_; rintro e _ ⟨rfl, rfl⟩))
  go_wp2
  go_ret
  refine ⟨rfl, ?_⟩
  repeat (first | exact Below.refl _ _ | refine Below.alloc ?_ (by simp <;> omega) _ | refine Below.drew ?_)


end Go.Proofs.Ytbcgonfihdpjnaq
