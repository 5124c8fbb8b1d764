/-
  The program's putBytes behind bytes that may be nil.
-/
import Derived.Test.YtagjgnephaaehaaPutBytes
namespace Go.Proofs.Ytagjgnephaaehaa
open Go.RowKit
set_option maxRecDepth 4000

set_option maxHeartbeats 1000000 in
theorem putBytes_opt (ai : Option Addr) (n cap : Nat) (f : Nat → Int) (ao : Option Addr) (m c : Nat) (g : Nat → Int) (w : World) (hv : View w ai n cap f) (hni : ai = none → n = 0 ∧ cap = 0) (hg : View w ao m c g) (hno : ao = none → m = 0 ∧ c = 0) (hn : n + m ≤ 70368744177664) :
    Calls Try.prog 46 #[.slice ai n cap, .slice ao m c] w fun e w' => e = .returned (.slice (some ⟨w.heap.size, 0, none⟩) (n + m) (n + m)) ∧ w'.ownsRow w.heap.size 5 1 (.slice (some ⟨w.heap.size, 0, none⟩) (n + m) (n + m)) (n + m) (bl (lof n f ++ lof m g)) ∧ Below w.heap.size w w' := by
  obtain ⟨i0, hi, hz0, hz1, hz2⟩ := info_parts Try.info5
  go_enter Try.func46, Try.ntmps46
  go_wp2_with (first | (at_make; go_must (refine wpList_make_own _ rfl (.const (.int .i64 0)) (.tmp 10) 49 rfl w.heap.size 5 i0 (.int .u8 0) 1 Try.underlying49 hi hz0 hz1 .i64 .i64 ((n : Int) + (m : Int)) (n + m) rfl rfl (by omega) (by rw [hz2]; omega) (by unfold maxLen; omega) (Nat.le_refl _) ?_); intro w1 hown1 hgr1) | (at_builtin; refine wpList_append_fits_any _ rfl (.tmp 12) (.tmp 13) 49 rfl w.heap.size 5 i0 1 Try.underlying49 hi hz1 w.heap.size 0 (n + m) [] rfl hown1 ai n cap (bl (lof n f)) rfl (by rw [bl_len, lof_len]; omega) hni (cells_of_any (hv.below (below_new hgr1))) (bl_one _) (by omega) ?_; intro w2 hown2 hgr2; simp only [Nat.zero_add, List.nil_append] at hown2) | (at_builtin; refine wpList_append_fits_any _ rfl (.tmp 15) (.tmp 16) 49 rfl w.heap.size 5 i0 1 Try.underlying49 hi hz1 w.heap.size n (n + m) (bl (lof n f)) rfl hown2 ao m c (bl (lof m g)) rfl (by rw [bl_len, lof_len]; omega) hno (cells_of_any (hg.below (below_app hgr1 hgr2))) (bl_one _) (by omega) ?_; intro w3 hown3 hgr3))
  go_ret
  exact ⟨rfl, by rw [bl_append]; exact hown3, (below_app hgr1 hgr2).grown hgr3 (Nat.le_trans hgr1.size hgr2.size) (by intro k hk; cases hk; exact Nat.le_refl _)⟩
end Go.Proofs.Ytagjgnephaaehaa
