/-
  What the law's own helpers markByteS and heldByteS come to: the one writes a count into a row of the call's own, the other finds it there.
-/
import Derived.Test.YtagjgnephaaehaaEqBytes
namespace Go.Proofs.Ytagjgnephaaehaa
open Go.RowKit
set_option maxRecDepth 4000

structure Marked (w wr : World) (b n : Nat) (f : Nat → Int) (k : Int) (j : Nat) : Prop where
  only : Only b w wr
  row : Row 5 wr b n (fun i => if i < j then (k + i) % 256 else f i)

theorem marked_step {w wr : World} {b n : Nat} {f : Nat → Int} {k : Int} {j : Nat} (h : Marked w wr b n f k j) : Marked w (wr.setCell ⟨b, j, none⟩ (.int .u8 ((k + j) % 256))) b n f k (j + 1) := by
  refine ⟨h.only.setCell _, (h.row.set j _).congr (fun i _ => ?_)⟩
  by_cases e : i = j
  · subst e; simp
  · rw [if_neg e]
    by_cases hlt : i < j
    · rw [if_pos hlt, if_pos (by omega)]
    · rw [if_neg hlt, if_neg (by omega)]

set_option maxHeartbeats 400000 in
theorem mark_any (b n cap : Nat) (f : Nat → Int) (k : Int) (w : World) (hr : Row 5 w b n f) (hk : 0 ≤ k) (hk1 : k + n ≤ 4611686018427387904) :
    Calls Try.prog 50 #[.slice (some ⟨b, 0, none⟩) n cap, .int .i64 k] w fun e w' => e = .returned (.int .i64 (k + n)) ∧ Row 5 w' b n (fun i => (k + i) % 256) ∧ Only b w w' := by
  go_enter Try.func50, Try.ntmps50
  go_wp2
  go_loopg [1, 5] n (fun g s i wr => ∃ j : Nat, j ≤ n ∧ g = n - j ∧ s = .int .i64 (k + j) ∧ i = .int .i64 j ∧ Marked w wr b n f k j)
  case atStart => exact ⟨0, Nat.zero_le _, rfl, by simp, rfl, Only.refl _ _, hr.congr (fun i _ => by simp)⟩
  case round =>
    obtain ⟨j, hj, rfl, rfl, rfl, hM⟩ := hrel
    clear hr
    by_cases hlt : j < n
    · have hjz : (j : Int) < (n : Int) := by omega
      have hc := hM.row.cell hlt
      have hf := hM.row.frozen j
      have hS : Hid (Marked w (wr.setCell ⟨b, j, none⟩ (.int .u8 ((k + j) % 256))) b n f k (j + 1)) := marked_step hM
      have hw : ∀ x : Int, IntKind.u8.wrap x = x % 256 := u8_wrap
      clear hM
      go_wp2
      go_roundg (n - (j + 1))
      case measure => omega
      case rel => exact ⟨j + 1, by omega, rfl, by go_num, by go_num, hS.out⟩
    · obtain rfl : j = n := by omega
      have hF : Hid (Row 5 wr b j (fun i => (k + i) % 256)) := hM.row.congr (fun i hi => by rw [if_pos (by omega)])
      have hO := hM.only
      clear hM
      go_wp2
      go_ret
      exact ⟨rfl, hF.out, hO⟩

set_option maxHeartbeats 400000 in
theorem held_any (ao : Option Addr) (n cap : Nat) (f : Nat → Int) (k : Int) (w : World) (hv : View w ao n cap f) (he : ∀ i, i < n → f i = (k + i) % 256) (hk : 0 ≤ k) (hk1 : k + n ≤ 4611686018427387904) :
    Calls Try.prog 51 #[.slice ao n cap, .int .i64 k] w fun e w' => e = .returned (.int .i64 (k + n)) ∧ Below w.heap.size w w' := by
  go_enter Try.func51, Try.ntmps51
  go_wp2
  go_loopg [1, 5] n (fun g s i wr => ∃ j : Nat, j ≤ n ∧ g = n - j ∧ s = .int .i64 (k + j) ∧ i = .int .i64 j ∧ Below w.heap.size w wr)
  case atStart => exact ⟨0, Nat.zero_le _, rfl, by simp, rfl, Below.refl _ _⟩
  case round =>
    obtain ⟨j, hj, rfl, rfl, rfl, hB⟩ := hrel
    by_cases hlt : j < n
    · obtain ⟨b, off, rfl, hb, hc⟩ := hv.cells (by omega)
      have hjz : (j : Int) < (n : Int) := by omega
      have hc1 : wr.cell? ⟨b, off + j, none⟩ = some (.int .u8 ((k + j) % 256)) := by rw [hB.cell (p := ⟨b, off + j, none⟩) hb, ← he j hlt]; exact hc j hlt
      have hw : ∀ x : Int, IntKind.u8.wrap x = x % 256 := u8_wrap
      clear hc he
      go_wp2
      all_goals
        go_roundg (n - (j + 1))
        case measure => omega
        case rel => exact ⟨j + 1, by omega, rfl, by go_num, by go_num, by first | exact hB.drew | exact hB⟩
    · obtain rfl : j = n := by omega
      go_wp2
      go_ret
      exact ⟨rfl, hB⟩
end Go.Proofs.Ytagjgnephaaehaa
