/-
  The law FnExactLessVal, walked.
-/
import Derived.Test.YtamfibkgnbjiiaoValHelp
import Derived.Test.YtamfibkgnbjiiaoLessSpec
import Derived.Deep.RegionHeld3
namespace Go.Proofs.Ytamfibkgnbjiiao
open Go.RowKit

set_option maxHeartbeats 4000000 in
theorem lawLessVal (k n : Int) (s : ByteArray) (k' n' : Int) (s' : ByteArray) (w : World) (hs : s.size ≤ maxLen) (hs' : s'.size ≤ maxLen) :
    Calls Try.prog 4 #[.agg #[.int .i64 k, .int .i64 n, .string s], .agg #[.int .i64 k', .int .i64 n', .string s']] w fun e w' => e = .returned (.bool true) ∧ Below w.heap.size w w' := by
  have hT := Two.start w 23 k n s k' n' s'
  by_cases hb : (1048576 : Int) < (s.size : Int)
  · go_enter Try.func4, Try.ntmps4
    go_wp2_with fail
    refine (szVal_big k n s 1048576 _ hb (by omega) hs).mono ?_
    rintro e w1 ⟨rfl, hB1⟩
    have hT1 : Hid _ := hT.step hB1
    clear hB1 hT
    go_wp2
    go_ret
    exact ⟨rfl, hT1.out.all⟩
  have hb1 : (s.size : Int) ≤ 1048576 := by omega
  have hb2 : ¬ 1048576 - (s.size : Int) < 0 := by omega
  by_cases hc : 1048576 - (s.size : Int) < (s'.size : Int)
  · go_enter Try.func4, Try.ntmps4
    go_wp2_with fail
    refine (szVal_small k n s 1048576 _ hb1 (by omega)).mono ?_
    rintro e w1 ⟨rfl, hB1⟩
    have hT1 := hT.step hB1
    obtain ⟨⟨c0, c1, c2⟩, d0, d1, d2⟩ := hT1.cells
    clear hB1 hT
    go_wp2_with fail
    refine (szVal_big k' n' s' (1048576 - s.size) _ hc (by omega) hs').mono ?_
    rintro e w2 ⟨rfl, hB2⟩
    have hT2 : Hid _ := hT1.step hB2
    clear hB2 hT1 c0 c1 c2 d0 d1 d2
    go_wp2
    go_ret
    exact ⟨rfl, hT2.out.all⟩
  have hc1 : (s'.size : Int) ≤ 1048576 - (s.size : Int) := by omega
  have hc2 : ¬ (1048576 - (s.size : Int)) - (s'.size : Int) < 0 := by omega
  go_enter Try.func4, Try.ntmps4
  go_wp2_with fail
  refine (szVal_small k n s 1048576 _ hb1 (by omega)).mono ?_
  rintro e w1 ⟨rfl, hB1⟩
  have hT1 := hT.step hB1
  obtain ⟨⟨c0, c1, c2⟩, d0, d1, d2⟩ := hT1.cells
  clear hB1 hT
  go_wp2_with fail
  refine (szVal_small k' n' s' (1048576 - s.size) _ hc1 (by omega)).mono ?_
  rintro e w2 ⟨rfl, hB2⟩
  have hT2 := hT1.step hB2
  clear hB2 hT1 c0 c1 c2 d0 d1 d2
  obtain ⟨⟨c0, c1, c2⟩, d0, d1, d2⟩ := hT2.cells
  go_wp2_with fail
  go_region_held3 (fun W => (W.cell? ⟨w.heap.size, 0, none⟩ = some (.int .i64 k) ∧ W.cell? ⟨w.heap.size, 1, none⟩ = some (.int .i64 n) ∧ W.cell? ⟨w.heap.size, 2, none⟩ = some (.string s)) ∧ (W.cell? ⟨w.heap.size + 1, 0, none⟩ = some (.int .i64 k') ∧ W.cell? ⟨w.heap.size + 1, 1, none⟩ = some (.int .i64 n') ∧ W.cell? ⟨w.heap.size + 1, 2, none⟩ = some (.string s'))) (first | assumption | go_keep) (first | (go_at_call 8; refine (toVal_any _ _ _ _).mono ?_; rintro e wn ⟨rfl, hB⟩; have hT2 : Two w 23 k n s k' n' s' wn := Two.step (by repeat (first | assumption | refine Two.drew ?_)) hB; have hcells := hT2.cells; obtain ⟨⟨c0, c1, c2⟩, d0, d1, d2⟩ := hcells; clear hB) | (go_at_call 10; refine (lessVal_spec k n s k' n' s' _).mono ?_; rintro e wn ⟨rfl, hB⟩; have hT2 : Two w 23 k n s k' n' s' wn := Two.step (by repeat (first | assumption | refine Two.drew ?_)) hB; have hcells := hT2.cells; obtain ⟨⟨c0, c1, c2⟩, d0, d1, d2⟩ := hcells; clear hB))
  all_goals
    go_wp2_with fail
    go_region_held3 (fun W => (W.cell? ⟨w.heap.size, 0, none⟩ = some (.int .i64 k) ∧ W.cell? ⟨w.heap.size, 1, none⟩ = some (.int .i64 n) ∧ W.cell? ⟨w.heap.size, 2, none⟩ = some (.string s)) ∧ (W.cell? ⟨w.heap.size + 1, 0, none⟩ = some (.int .i64 k') ∧ W.cell? ⟨w.heap.size + 1, 1, none⟩ = some (.int .i64 n') ∧ W.cell? ⟨w.heap.size + 1, 2, none⟩ = some (.string s'))) (first | assumption | go_keep) (first | (go_at_call 8; refine (toVal_any _ _ _ _).mono ?_; rintro e wn ⟨rfl, hB⟩; have hT2 : Two w 23 k n s k' n' s' wn := Two.step (by repeat (first | assumption | refine Two.drew ?_)) hB; have hcells := hT2.cells; obtain ⟨⟨c0, c1, c2⟩, d0, d1, d2⟩ := hcells; clear hB) | (go_at_call 11; refine (lessVal_impl k n s k' n' s' _).mono ?_; rintro e wn ⟨rfl, hB⟩; have hT2 : Two w 23 k n s k' n' s' wn := Two.step (by repeat (first | assumption | refine Two.drew ?_)) hB; have hcells := hT2.cells; obtain ⟨⟨c0, c1, c2⟩, d0, d1, d2⟩ := hcells; clear hB))
    all_goals
      have hD : Hid (Below w.heap.size w wn) := hT2.all
      clear hT2
      go_wp2
      go_ret
      exact ⟨rfl, hD.out⟩
end Go.Proofs.Ytamfibkgnbjiiao
