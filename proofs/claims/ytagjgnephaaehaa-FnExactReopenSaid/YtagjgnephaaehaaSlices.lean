/-
  What the law's own helpers over bytes come to: toByteS copies into a new row, eqByteS answers true where both read alike. For every slice of bytes that reads.
-/
import Derived.Test.YtagjgnephaaehaaInfo
import Derived.Test.YtagjgnephaaehaaEqBytes
namespace Go.Proofs.Ytagjgnephaaehaa
open Go.RowKit
set_option maxRecDepth 4000

/-- k of the n bytes are copied into the new row. -/
structure Copied (w wr : World) (n : Nat) (f : Nat → Int) (k : Nat) : Prop where
  below : Below w.heap.size w wr
  size : wr.heap.size = w.heap.size + 1
  row : wr.rowIs w.heap.size 5 n (fun i => .int .u8 (if i < k then f i else 0))

theorem copied_start (w : World) (n : Nat) (f : Nat → Int) : Copied w (w.alloc (.cells (madeCells #[.int .u8 0] n) 5)) n f 0 :=
  ⟨(Below.refl _ _).alloc (Nat.le_refl _) _, by simp, (World.rowIs_made w _ n 5).congr (fun i _ => by simp)⟩

theorem copied_step {w wr : World} {n : Nat} {f : Nat → Int} {k : Nat} (h : Copied w wr n f k) : Copied w (wr.setCell ⟨w.heap.size, k, none⟩ (.int .u8 (f k))) n f (k + 1) := by
  refine ⟨h.below.setCell (Nat.le_refl _) _, by simp [h.size], (h.row.set k _).congr (fun i _ => ?_)⟩
  by_cases e : i = k
  · subst e; simp
  · rw [if_neg e]
    by_cases hlt : i < k
    · rw [if_pos hlt, if_pos (by omega)]
    · rw [if_neg hlt, if_neg (by omega)]

theorem Copied.drew {w wr : World} {n : Nat} {f : Nat → Int} {k : Nat} (h : Copied w wr n f k) : Copied w wr.drew n f k := ⟨h.below.drew, h.size, h.row.drew⟩

set_option maxHeartbeats 400000 in
theorem toByteS_any (ao : Option Addr) (n cap : Nat) (f : Nat → Int) (w : World) (hv : View w ao n cap f) (hn : n ≤ 281474976710656) :
    Calls Try.prog 42 #[.slice ao n cap] w fun e w' => e = .returned (.slice (some ⟨w.heap.size, 0, none⟩) n n) ∧ w'.rowIs w.heap.size 5 n (fun i => .int .u8 (f i)) ∧ Below w.heap.size w w' ∧ w'.heap.size = w.heap.size + 1 := by
  have hmk := run_make_row' (P := Try.prog) 49 5 (.int .u8 0) 1 Try.underlying49 Try.info5 rfl .i64 .i64 n (by omega) (by omega)
  go_enter Try.func42, Try.ntmps42
  go_wp2
  clear hmk
  go_loopg [4] n (fun g i wr => ∃ k : Nat, k ≤ n ∧ g = n - k ∧ i = .int .i64 k ∧ Copied w wr n f k)
  case atStart => exact ⟨0, Nat.zero_le _, rfl, rfl, copied_start w n f⟩
  case round =>
    obtain ⟨k, hk, rfl, rfl, hC⟩ := hrel
    by_cases hlt : k < n
    · obtain ⟨b, off, rfl, hb, hc⟩ := hv.cells (by omega)
      have hkz : (k : Int) < (n : Int) := by omega
      have hc1 : wr.cell? ⟨b, off + k, none⟩ = some (.int .u8 (f k)) := by rw [hC.below.cell (p := ⟨b, off + k, none⟩) hb]; exact hc k hlt
      have hc2 : wr.cell? ⟨w.heap.size, k, none⟩ = some (.int .u8 (if k < k then f k else 0)) := hC.row.cell hlt
      have hf2 := hC.row.frozen k
      have hS : Hid (Copied w (wr.setCell ⟨w.heap.size, k, none⟩ (.int .u8 (f k))) n f (k + 1)) := copied_step hC
      clear hC hc
      go_wp2
      go_roundg (n - (k + 1))
      case measure => omega
      case rel => exact ⟨k + 1, by omega, rfl, by go_num, hS.out⟩
    · have hkn : k = n := by omega
      have hF : wr.rowIs w.heap.size 5 n (fun i => .int .u8 (f i)) := hC.row.congr (fun i hi => by rw [if_pos (by omega)])
      go_wp2
      go_ret
      exact ⟨rfl, hF, hC.below, hC.size⟩

end Go.Proofs.Ytagjgnephaaehaa
