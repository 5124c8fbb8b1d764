/-
  FormOf
-/
import Derived.Test.YtclegljalndaearPack1
/-
  The program's table of forms: a type's writer and reader.
-/
namespace Go.Proofs.Ytclegljalndaear
open Go.RowKit
set_option maxRecDepth 4000

theorem form_put (F G : Nat) (W : World) : (Instr.field 86 (.agg #[.func (.func F) #[] #[], .func (.func G) #[] #[]]) 0).run Try.prog W = .ok (.func (.func F) #[] #[]) W := by kernel_rfl
theorem form_get (F G : Nat) (W : World) : (Instr.field 86 (.agg #[.func (.func F) #[] #[], .func (.func G) #[] #[]]) 1).run Try.prog W = .ok (.func (.func G) #[] #[]) W := by kernel_rfl
theorem store_nil (W : World) (a : Addr) (m : Mode) : (store a .nilFunc m).run Try.prog W = stored Try.prog W a .nilFunc m := run_store Try.prog W a _ m rfl
theorem store_fn (W : World) (a : Addr) (m : Mode) (n : Nat) : (store a (.func (.func n) #[] #[]) m).run Try.prog W = stored Try.prog W a (.func (.func n) #[] #[]) m := run_store Try.prog W a _ m rfl
def fv (n : Nat) : Value := .func (.func n) #[] #[]
/-- The form of a type: its writer and its reader. -/
def formV (t : Int) : Value × Value := if t = 1 then (fv 76, fv 77) else if t = 2 then (fv 78, fv 79) else if t = 3 then (fv 80, fv 81) else (fv 82, fv 83)

set_option maxHeartbeats 1000000 in
theorem formOf_Int (w : World) :
    Calls Try.prog 63 #[.int .i64 1] w fun e w' => e = .returned (.agg #[.func (.func 76) #[] #[], .func (.func 77) #[] #[]]) ∧ Below w.heap.size w w' := by
  have hR := World.rowIs_alloc (w.alloc (.cells #[.nilFunc, .nilFunc] 86)) #[.nilFunc, .nilFunc, .nilFunc, .nilFunc, .nilFunc, .nilFunc, .nilFunc, .nilFunc, .nilFunc, .nilFunc] 99 (fun _ => .nilFunc) (fun j hj => by match j, hj with | 0, _ => rfl | 1, _ => rfl | 2, _ => rfl | 3, _ => rfl | 4, _ => rfl | 5, _ => rfl | 6, _ => rfl | 7, _ => rfl | 8, _ => rfl | 9, _ => rfl)
  rw [show (w.alloc (.cells #[.nilFunc, .nilFunc] 86)).heap.size = w.heap.size + 1 by simp] at hR
  have hS := (World.rowIs_alloc w #[.nilFunc, .nilFunc] 86 (fun _ => .nilFunc) (fun j hj => by match j, hj with | 0, _ => rfl | 1, _ => rfl)).of_block (w' := ((w.alloc (.cells #[.nilFunc, .nilFunc] 86)).alloc (.cells #[.nilFunc, .nilFunc, .nilFunc, .nilFunc, .nilFunc, .nilFunc, .nilFunc, .nilFunc, .nilFunc, .nilFunc] 99))) (Below.heap_alloc _ _ _ (by simp))
  have hB : Below w.heap.size w ((w.alloc (.cells #[.nilFunc, .nilFunc] 86)).alloc (.cells #[.nilFunc, .nilFunc, .nilFunc, .nilFunc, .nilFunc, .nilFunc, .nilFunc, .nilFunc, .nilFunc, .nilFunc] 99)) := ((Below.refl _ _).alloc (Nat.le_refl _) _).alloc (by simp) _
  obtain ⟨W, hW⟩ : ∃ W, Hid (W = ((w.alloc (.cells #[.nilFunc, .nilFunc] 86)).alloc (.cells #[.nilFunc, .nilFunc, .nilFunc, .nilFunc, .nilFunc, .nilFunc, .nilFunc, .nilFunc, .nilFunc, .nilFunc] 99))) := ⟨_, rfl⟩
  rw [← hW.out] at hR hS hB
  have c0 : W.cell? ⟨w.heap.size + 1, 0, none⟩ = some .nilFunc := hR.cell (i := 0) (by decide)
  have r0 : W.frozen? ⟨w.heap.size + 1, 0, none⟩ = false := World.rowIs.frozen hR 0
  have c1 : W.cell? ⟨w.heap.size + 1, 1, none⟩ = some .nilFunc := hR.cell (i := 1) (by decide)
  have r1 : W.frozen? ⟨w.heap.size + 1, 1, none⟩ = false := World.rowIs.frozen hR 1
  have c2 : W.cell? ⟨w.heap.size + 1, 2, none⟩ = some .nilFunc := hR.cell (i := 2) (by decide)
  have r2 : W.frozen? ⟨w.heap.size + 1, 2, none⟩ = false := World.rowIs.frozen hR 2
  have c3 : W.cell? ⟨w.heap.size + 1, 3, none⟩ = some .nilFunc := hR.cell (i := 3) (by decide)
  have r3 : W.frozen? ⟨w.heap.size + 1, 3, none⟩ = false := World.rowIs.frozen hR 3
  have c4 : W.cell? ⟨w.heap.size + 1, 4, none⟩ = some .nilFunc := hR.cell (i := 4) (by decide)
  have r4 : W.frozen? ⟨w.heap.size + 1, 4, none⟩ = false := World.rowIs.frozen hR 4
  have c5 : W.cell? ⟨w.heap.size + 1, 5, none⟩ = some .nilFunc := hR.cell (i := 5) (by decide)
  have r5 : W.frozen? ⟨w.heap.size + 1, 5, none⟩ = false := World.rowIs.frozen hR 5
  have c6 : W.cell? ⟨w.heap.size + 1, 6, none⟩ = some .nilFunc := hR.cell (i := 6) (by decide)
  have r6 : W.frozen? ⟨w.heap.size + 1, 6, none⟩ = false := World.rowIs.frozen hR 6
  have c7 : W.cell? ⟨w.heap.size + 1, 7, none⟩ = some .nilFunc := hR.cell (i := 7) (by decide)
  have r7 : W.frozen? ⟨w.heap.size + 1, 7, none⟩ = false := World.rowIs.frozen hR 7
  have c8 : W.cell? ⟨w.heap.size + 1, 8, none⟩ = some .nilFunc := hR.cell (i := 8) (by decide)
  have r8 : W.frozen? ⟨w.heap.size + 1, 8, none⟩ = false := World.rowIs.frozen hR 8
  have c9 : W.cell? ⟨w.heap.size + 1, 9, none⟩ = some .nilFunc := hR.cell (i := 9) (by decide)
  have r9 : W.frozen? ⟨w.heap.size + 1, 9, none⟩ = false := World.rowIs.frozen hR 9
  have d0 : W.cell? ⟨w.heap.size, 0, none⟩ = some .nilFunc := hS.cell (i := 0) (by decide)
  have s0 : W.frozen? ⟨w.heap.size, 0, none⟩ = false := World.rowIs.frozen hS 0
  have d1 : W.cell? ⟨w.heap.size, 1, none⟩ = some .nilFunc := hS.cell (i := 1) (by decide)
  have s1 : W.frozen? ⟨w.heap.size, 1, none⟩ = false := World.rowIs.frozen hS 1
  have HB : Hid (Below w.heap.size w ((((((((((((W.setCell ⟨w.heap.size + 1, 0, none⟩ (.nilFunc)).setCell ⟨w.heap.size + 1, 1, none⟩ (.nilFunc)).setCell ⟨w.heap.size + 1, 2, none⟩ (.func (.func 76) #[] #[])).setCell ⟨w.heap.size + 1, 3, none⟩ (.func (.func 77) #[] #[])).setCell ⟨w.heap.size + 1, 4, none⟩ (.func (.func 78) #[] #[])).setCell ⟨w.heap.size + 1, 5, none⟩ (.func (.func 79) #[] #[])).setCell ⟨w.heap.size + 1, 6, none⟩ (.func (.func 80) #[] #[])).setCell ⟨w.heap.size + 1, 7, none⟩ (.func (.func 81) #[] #[])).setCell ⟨w.heap.size + 1, 8, none⟩ (.func (.func 82) #[] #[])).setCell ⟨w.heap.size + 1, 9, none⟩ (.func (.func 83) #[] #[])).setCell ⟨w.heap.size, 0, none⟩ (.func (.func 76) #[] #[])).setCell ⟨w.heap.size, 1, none⟩ (.func (.func 77) #[] #[]))) := (((((((((((hB.setCell (Nat.le_succ _) _).setCell (Nat.le_succ _) _).setCell (Nat.le_succ _) _).setCell (Nat.le_succ _) _).setCell (Nat.le_succ _) _).setCell (Nat.le_succ _) _).setCell (Nat.le_succ _) _).setCell (Nat.le_succ _) _).setCell (Nat.le_succ _) _).setCell (Nat.le_succ _) _).setCell (Nat.le_refl _) _).setCell (Nat.le_refl _) _
  clear hR hS
  have sn := store_nil
  have sf := store_fn
  go_enter Try.func63, Try.ntmps63
  go_wp2_with (rw [← hW.out])
  exact bodyPost_ret (v := .agg #[.func (.func 76) #[] #[], .func (.func 77) #[] #[]]) (by simp [results, Try.results63, go_sem, d0, d1]) rfl ⟨rfl, HB.out⟩
set_option maxHeartbeats 1000000 in
theorem formOf_Num (w : World) :
    Calls Try.prog 63 #[.int .i64 2] w fun e w' => e = .returned (.agg #[.func (.func 78) #[] #[], .func (.func 79) #[] #[]]) ∧ Below w.heap.size w w' := by
  have hR := World.rowIs_alloc (w.alloc (.cells #[.nilFunc, .nilFunc] 86)) #[.nilFunc, .nilFunc, .nilFunc, .nilFunc, .nilFunc, .nilFunc, .nilFunc, .nilFunc, .nilFunc, .nilFunc] 99 (fun _ => .nilFunc) (fun j hj => by match j, hj with | 0, _ => rfl | 1, _ => rfl | 2, _ => rfl | 3, _ => rfl | 4, _ => rfl | 5, _ => rfl | 6, _ => rfl | 7, _ => rfl | 8, _ => rfl | 9, _ => rfl)
  rw [show (w.alloc (.cells #[.nilFunc, .nilFunc] 86)).heap.size = w.heap.size + 1 by simp] at hR
  have hS := (World.rowIs_alloc w #[.nilFunc, .nilFunc] 86 (fun _ => .nilFunc) (fun j hj => by match j, hj with | 0, _ => rfl | 1, _ => rfl)).of_block (w' := ((w.alloc (.cells #[.nilFunc, .nilFunc] 86)).alloc (.cells #[.nilFunc, .nilFunc, .nilFunc, .nilFunc, .nilFunc, .nilFunc, .nilFunc, .nilFunc, .nilFunc, .nilFunc] 99))) (Below.heap_alloc _ _ _ (by simp))
  have hB : Below w.heap.size w ((w.alloc (.cells #[.nilFunc, .nilFunc] 86)).alloc (.cells #[.nilFunc, .nilFunc, .nilFunc, .nilFunc, .nilFunc, .nilFunc, .nilFunc, .nilFunc, .nilFunc, .nilFunc] 99)) := ((Below.refl _ _).alloc (Nat.le_refl _) _).alloc (by simp) _
  obtain ⟨W, hW⟩ : ∃ W, Hid (W = ((w.alloc (.cells #[.nilFunc, .nilFunc] 86)).alloc (.cells #[.nilFunc, .nilFunc, .nilFunc, .nilFunc, .nilFunc, .nilFunc, .nilFunc, .nilFunc, .nilFunc, .nilFunc] 99))) := ⟨_, rfl⟩
  rw [← hW.out] at hR hS hB
  have c0 : W.cell? ⟨w.heap.size + 1, 0, none⟩ = some .nilFunc := hR.cell (i := 0) (by decide)
  have r0 : W.frozen? ⟨w.heap.size + 1, 0, none⟩ = false := World.rowIs.frozen hR 0
  have c1 : W.cell? ⟨w.heap.size + 1, 1, none⟩ = some .nilFunc := hR.cell (i := 1) (by decide)
  have r1 : W.frozen? ⟨w.heap.size + 1, 1, none⟩ = false := World.rowIs.frozen hR 1
  have c2 : W.cell? ⟨w.heap.size + 1, 2, none⟩ = some .nilFunc := hR.cell (i := 2) (by decide)
  have r2 : W.frozen? ⟨w.heap.size + 1, 2, none⟩ = false := World.rowIs.frozen hR 2
  have c3 : W.cell? ⟨w.heap.size + 1, 3, none⟩ = some .nilFunc := hR.cell (i := 3) (by decide)
  have r3 : W.frozen? ⟨w.heap.size + 1, 3, none⟩ = false := World.rowIs.frozen hR 3
  have c4 : W.cell? ⟨w.heap.size + 1, 4, none⟩ = some .nilFunc := hR.cell (i := 4) (by decide)
  have r4 : W.frozen? ⟨w.heap.size + 1, 4, none⟩ = false := World.rowIs.frozen hR 4
  have c5 : W.cell? ⟨w.heap.size + 1, 5, none⟩ = some .nilFunc := hR.cell (i := 5) (by decide)
  have r5 : W.frozen? ⟨w.heap.size + 1, 5, none⟩ = false := World.rowIs.frozen hR 5
  have c6 : W.cell? ⟨w.heap.size + 1, 6, none⟩ = some .nilFunc := hR.cell (i := 6) (by decide)
  have r6 : W.frozen? ⟨w.heap.size + 1, 6, none⟩ = false := World.rowIs.frozen hR 6
  have c7 : W.cell? ⟨w.heap.size + 1, 7, none⟩ = some .nilFunc := hR.cell (i := 7) (by decide)
  have r7 : W.frozen? ⟨w.heap.size + 1, 7, none⟩ = false := World.rowIs.frozen hR 7
  have c8 : W.cell? ⟨w.heap.size + 1, 8, none⟩ = some .nilFunc := hR.cell (i := 8) (by decide)
  have r8 : W.frozen? ⟨w.heap.size + 1, 8, none⟩ = false := World.rowIs.frozen hR 8
  have c9 : W.cell? ⟨w.heap.size + 1, 9, none⟩ = some .nilFunc := hR.cell (i := 9) (by decide)
  have r9 : W.frozen? ⟨w.heap.size + 1, 9, none⟩ = false := World.rowIs.frozen hR 9
  have d0 : W.cell? ⟨w.heap.size, 0, none⟩ = some .nilFunc := hS.cell (i := 0) (by decide)
  have s0 : W.frozen? ⟨w.heap.size, 0, none⟩ = false := World.rowIs.frozen hS 0
  have d1 : W.cell? ⟨w.heap.size, 1, none⟩ = some .nilFunc := hS.cell (i := 1) (by decide)
  have s1 : W.frozen? ⟨w.heap.size, 1, none⟩ = false := World.rowIs.frozen hS 1
  have HB : Hid (Below w.heap.size w ((((((((((((W.setCell ⟨w.heap.size + 1, 0, none⟩ (.nilFunc)).setCell ⟨w.heap.size + 1, 1, none⟩ (.nilFunc)).setCell ⟨w.heap.size + 1, 2, none⟩ (.func (.func 76) #[] #[])).setCell ⟨w.heap.size + 1, 3, none⟩ (.func (.func 77) #[] #[])).setCell ⟨w.heap.size + 1, 4, none⟩ (.func (.func 78) #[] #[])).setCell ⟨w.heap.size + 1, 5, none⟩ (.func (.func 79) #[] #[])).setCell ⟨w.heap.size + 1, 6, none⟩ (.func (.func 80) #[] #[])).setCell ⟨w.heap.size + 1, 7, none⟩ (.func (.func 81) #[] #[])).setCell ⟨w.heap.size + 1, 8, none⟩ (.func (.func 82) #[] #[])).setCell ⟨w.heap.size + 1, 9, none⟩ (.func (.func 83) #[] #[])).setCell ⟨w.heap.size, 0, none⟩ (.func (.func 78) #[] #[])).setCell ⟨w.heap.size, 1, none⟩ (.func (.func 79) #[] #[]))) := (((((((((((hB.setCell (Nat.le_succ _) _).setCell (Nat.le_succ _) _).setCell (Nat.le_succ _) _).setCell (Nat.le_succ _) _).setCell (Nat.le_succ _) _).setCell (Nat.le_succ _) _).setCell (Nat.le_succ _) _).setCell (Nat.le_succ _) _).setCell (Nat.le_succ _) _).setCell (Nat.le_succ _) _).setCell (Nat.le_refl _) _).setCell (Nat.le_refl _) _
  clear hR hS
  have sn := store_nil
  have sf := store_fn
  go_enter Try.func63, Try.ntmps63
  go_wp2_with (rw [← hW.out])
  exact bodyPost_ret (v := .agg #[.func (.func 78) #[] #[], .func (.func 79) #[] #[]]) (by simp [results, Try.results63, go_sem, d0, d1]) rfl ⟨rfl, HB.out⟩
set_option maxHeartbeats 1000000 in
theorem formOf_Text (w : World) :
    Calls Try.prog 63 #[.int .i64 3] w fun e w' => e = .returned (.agg #[.func (.func 80) #[] #[], .func (.func 81) #[] #[]]) ∧ Below w.heap.size w w' := by
  have hR := World.rowIs_alloc (w.alloc (.cells #[.nilFunc, .nilFunc] 86)) #[.nilFunc, .nilFunc, .nilFunc, .nilFunc, .nilFunc, .nilFunc, .nilFunc, .nilFunc, .nilFunc, .nilFunc] 99 (fun _ => .nilFunc) (fun j hj => by match j, hj with | 0, _ => rfl | 1, _ => rfl | 2, _ => rfl | 3, _ => rfl | 4, _ => rfl | 5, _ => rfl | 6, _ => rfl | 7, _ => rfl | 8, _ => rfl | 9, _ => rfl)
  rw [show (w.alloc (.cells #[.nilFunc, .nilFunc] 86)).heap.size = w.heap.size + 1 by simp] at hR
  have hS := (World.rowIs_alloc w #[.nilFunc, .nilFunc] 86 (fun _ => .nilFunc) (fun j hj => by match j, hj with | 0, _ => rfl | 1, _ => rfl)).of_block (w' := ((w.alloc (.cells #[.nilFunc, .nilFunc] 86)).alloc (.cells #[.nilFunc, .nilFunc, .nilFunc, .nilFunc, .nilFunc, .nilFunc, .nilFunc, .nilFunc, .nilFunc, .nilFunc] 99))) (Below.heap_alloc _ _ _ (by simp))
  have hB : Below w.heap.size w ((w.alloc (.cells #[.nilFunc, .nilFunc] 86)).alloc (.cells #[.nilFunc, .nilFunc, .nilFunc, .nilFunc, .nilFunc, .nilFunc, .nilFunc, .nilFunc, .nilFunc, .nilFunc] 99)) := ((Below.refl _ _).alloc (Nat.le_refl _) _).alloc (by simp) _
  obtain ⟨W, hW⟩ : ∃ W, Hid (W = ((w.alloc (.cells #[.nilFunc, .nilFunc] 86)).alloc (.cells #[.nilFunc, .nilFunc, .nilFunc, .nilFunc, .nilFunc, .nilFunc, .nilFunc, .nilFunc, .nilFunc, .nilFunc] 99))) := ⟨_, rfl⟩
  rw [← hW.out] at hR hS hB
  have c0 : W.cell? ⟨w.heap.size + 1, 0, none⟩ = some .nilFunc := hR.cell (i := 0) (by decide)
  have r0 : W.frozen? ⟨w.heap.size + 1, 0, none⟩ = false := World.rowIs.frozen hR 0
  have c1 : W.cell? ⟨w.heap.size + 1, 1, none⟩ = some .nilFunc := hR.cell (i := 1) (by decide)
  have r1 : W.frozen? ⟨w.heap.size + 1, 1, none⟩ = false := World.rowIs.frozen hR 1
  have c2 : W.cell? ⟨w.heap.size + 1, 2, none⟩ = some .nilFunc := hR.cell (i := 2) (by decide)
  have r2 : W.frozen? ⟨w.heap.size + 1, 2, none⟩ = false := World.rowIs.frozen hR 2
  have c3 : W.cell? ⟨w.heap.size + 1, 3, none⟩ = some .nilFunc := hR.cell (i := 3) (by decide)
  have r3 : W.frozen? ⟨w.heap.size + 1, 3, none⟩ = false := World.rowIs.frozen hR 3
  have c4 : W.cell? ⟨w.heap.size + 1, 4, none⟩ = some .nilFunc := hR.cell (i := 4) (by decide)
  have r4 : W.frozen? ⟨w.heap.size + 1, 4, none⟩ = false := World.rowIs.frozen hR 4
  have c5 : W.cell? ⟨w.heap.size + 1, 5, none⟩ = some .nilFunc := hR.cell (i := 5) (by decide)
  have r5 : W.frozen? ⟨w.heap.size + 1, 5, none⟩ = false := World.rowIs.frozen hR 5
  have c6 : W.cell? ⟨w.heap.size + 1, 6, none⟩ = some .nilFunc := hR.cell (i := 6) (by decide)
  have r6 : W.frozen? ⟨w.heap.size + 1, 6, none⟩ = false := World.rowIs.frozen hR 6
  have c7 : W.cell? ⟨w.heap.size + 1, 7, none⟩ = some .nilFunc := hR.cell (i := 7) (by decide)
  have r7 : W.frozen? ⟨w.heap.size + 1, 7, none⟩ = false := World.rowIs.frozen hR 7
  have c8 : W.cell? ⟨w.heap.size + 1, 8, none⟩ = some .nilFunc := hR.cell (i := 8) (by decide)
  have r8 : W.frozen? ⟨w.heap.size + 1, 8, none⟩ = false := World.rowIs.frozen hR 8
  have c9 : W.cell? ⟨w.heap.size + 1, 9, none⟩ = some .nilFunc := hR.cell (i := 9) (by decide)
  have r9 : W.frozen? ⟨w.heap.size + 1, 9, none⟩ = false := World.rowIs.frozen hR 9
  have d0 : W.cell? ⟨w.heap.size, 0, none⟩ = some .nilFunc := hS.cell (i := 0) (by decide)
  have s0 : W.frozen? ⟨w.heap.size, 0, none⟩ = false := World.rowIs.frozen hS 0
  have d1 : W.cell? ⟨w.heap.size, 1, none⟩ = some .nilFunc := hS.cell (i := 1) (by decide)
  have s1 : W.frozen? ⟨w.heap.size, 1, none⟩ = false := World.rowIs.frozen hS 1
  have HB : Hid (Below w.heap.size w ((((((((((((W.setCell ⟨w.heap.size + 1, 0, none⟩ (.nilFunc)).setCell ⟨w.heap.size + 1, 1, none⟩ (.nilFunc)).setCell ⟨w.heap.size + 1, 2, none⟩ (.func (.func 76) #[] #[])).setCell ⟨w.heap.size + 1, 3, none⟩ (.func (.func 77) #[] #[])).setCell ⟨w.heap.size + 1, 4, none⟩ (.func (.func 78) #[] #[])).setCell ⟨w.heap.size + 1, 5, none⟩ (.func (.func 79) #[] #[])).setCell ⟨w.heap.size + 1, 6, none⟩ (.func (.func 80) #[] #[])).setCell ⟨w.heap.size + 1, 7, none⟩ (.func (.func 81) #[] #[])).setCell ⟨w.heap.size + 1, 8, none⟩ (.func (.func 82) #[] #[])).setCell ⟨w.heap.size + 1, 9, none⟩ (.func (.func 83) #[] #[])).setCell ⟨w.heap.size, 0, none⟩ (.func (.func 80) #[] #[])).setCell ⟨w.heap.size, 1, none⟩ (.func (.func 81) #[] #[]))) := (((((((((((hB.setCell (Nat.le_succ _) _).setCell (Nat.le_succ _) _).setCell (Nat.le_succ _) _).setCell (Nat.le_succ _) _).setCell (Nat.le_succ _) _).setCell (Nat.le_succ _) _).setCell (Nat.le_succ _) _).setCell (Nat.le_succ _) _).setCell (Nat.le_succ _) _).setCell (Nat.le_succ _) _).setCell (Nat.le_refl _) _).setCell (Nat.le_refl _) _
  clear hR hS
  have sn := store_nil
  have sf := store_fn
  go_enter Try.func63, Try.ntmps63
  go_wp2_with (rw [← hW.out])
  exact bodyPost_ret (v := .agg #[.func (.func 80) #[] #[], .func (.func 81) #[] #[]]) (by simp [results, Try.results63, go_sem, d0, d1]) rfl ⟨rfl, HB.out⟩
set_option maxHeartbeats 1000000 in
theorem formOf_Bool (w : World) :
    Calls Try.prog 63 #[.int .i64 4] w fun e w' => e = .returned (.agg #[.func (.func 82) #[] #[], .func (.func 83) #[] #[]]) ∧ Below w.heap.size w w' := by
  have hR := World.rowIs_alloc (w.alloc (.cells #[.nilFunc, .nilFunc] 86)) #[.nilFunc, .nilFunc, .nilFunc, .nilFunc, .nilFunc, .nilFunc, .nilFunc, .nilFunc, .nilFunc, .nilFunc] 99 (fun _ => .nilFunc) (fun j hj => by match j, hj with | 0, _ => rfl | 1, _ => rfl | 2, _ => rfl | 3, _ => rfl | 4, _ => rfl | 5, _ => rfl | 6, _ => rfl | 7, _ => rfl | 8, _ => rfl | 9, _ => rfl)
  rw [show (w.alloc (.cells #[.nilFunc, .nilFunc] 86)).heap.size = w.heap.size + 1 by simp] at hR
  have hS := (World.rowIs_alloc w #[.nilFunc, .nilFunc] 86 (fun _ => .nilFunc) (fun j hj => by match j, hj with | 0, _ => rfl | 1, _ => rfl)).of_block (w' := ((w.alloc (.cells #[.nilFunc, .nilFunc] 86)).alloc (.cells #[.nilFunc, .nilFunc, .nilFunc, .nilFunc, .nilFunc, .nilFunc, .nilFunc, .nilFunc, .nilFunc, .nilFunc] 99))) (Below.heap_alloc _ _ _ (by simp))
  have hB : Below w.heap.size w ((w.alloc (.cells #[.nilFunc, .nilFunc] 86)).alloc (.cells #[.nilFunc, .nilFunc, .nilFunc, .nilFunc, .nilFunc, .nilFunc, .nilFunc, .nilFunc, .nilFunc, .nilFunc] 99)) := ((Below.refl _ _).alloc (Nat.le_refl _) _).alloc (by simp) _
  obtain ⟨W, hW⟩ : ∃ W, Hid (W = ((w.alloc (.cells #[.nilFunc, .nilFunc] 86)).alloc (.cells #[.nilFunc, .nilFunc, .nilFunc, .nilFunc, .nilFunc, .nilFunc, .nilFunc, .nilFunc, .nilFunc, .nilFunc] 99))) := ⟨_, rfl⟩
  rw [← hW.out] at hR hS hB
  have c0 : W.cell? ⟨w.heap.size + 1, 0, none⟩ = some .nilFunc := hR.cell (i := 0) (by decide)
  have r0 : W.frozen? ⟨w.heap.size + 1, 0, none⟩ = false := World.rowIs.frozen hR 0
  have c1 : W.cell? ⟨w.heap.size + 1, 1, none⟩ = some .nilFunc := hR.cell (i := 1) (by decide)
  have r1 : W.frozen? ⟨w.heap.size + 1, 1, none⟩ = false := World.rowIs.frozen hR 1
  have c2 : W.cell? ⟨w.heap.size + 1, 2, none⟩ = some .nilFunc := hR.cell (i := 2) (by decide)
  have r2 : W.frozen? ⟨w.heap.size + 1, 2, none⟩ = false := World.rowIs.frozen hR 2
  have c3 : W.cell? ⟨w.heap.size + 1, 3, none⟩ = some .nilFunc := hR.cell (i := 3) (by decide)
  have r3 : W.frozen? ⟨w.heap.size + 1, 3, none⟩ = false := World.rowIs.frozen hR 3
  have c4 : W.cell? ⟨w.heap.size + 1, 4, none⟩ = some .nilFunc := hR.cell (i := 4) (by decide)
  have r4 : W.frozen? ⟨w.heap.size + 1, 4, none⟩ = false := World.rowIs.frozen hR 4
  have c5 : W.cell? ⟨w.heap.size + 1, 5, none⟩ = some .nilFunc := hR.cell (i := 5) (by decide)
  have r5 : W.frozen? ⟨w.heap.size + 1, 5, none⟩ = false := World.rowIs.frozen hR 5
  have c6 : W.cell? ⟨w.heap.size + 1, 6, none⟩ = some .nilFunc := hR.cell (i := 6) (by decide)
  have r6 : W.frozen? ⟨w.heap.size + 1, 6, none⟩ = false := World.rowIs.frozen hR 6
  have c7 : W.cell? ⟨w.heap.size + 1, 7, none⟩ = some .nilFunc := hR.cell (i := 7) (by decide)
  have r7 : W.frozen? ⟨w.heap.size + 1, 7, none⟩ = false := World.rowIs.frozen hR 7
  have c8 : W.cell? ⟨w.heap.size + 1, 8, none⟩ = some .nilFunc := hR.cell (i := 8) (by decide)
  have r8 : W.frozen? ⟨w.heap.size + 1, 8, none⟩ = false := World.rowIs.frozen hR 8
  have c9 : W.cell? ⟨w.heap.size + 1, 9, none⟩ = some .nilFunc := hR.cell (i := 9) (by decide)
  have r9 : W.frozen? ⟨w.heap.size + 1, 9, none⟩ = false := World.rowIs.frozen hR 9
  have d0 : W.cell? ⟨w.heap.size, 0, none⟩ = some .nilFunc := hS.cell (i := 0) (by decide)
  have s0 : W.frozen? ⟨w.heap.size, 0, none⟩ = false := World.rowIs.frozen hS 0
  have d1 : W.cell? ⟨w.heap.size, 1, none⟩ = some .nilFunc := hS.cell (i := 1) (by decide)
  have s1 : W.frozen? ⟨w.heap.size, 1, none⟩ = false := World.rowIs.frozen hS 1
  have HB : Hid (Below w.heap.size w ((((((((((((W.setCell ⟨w.heap.size + 1, 0, none⟩ (.nilFunc)).setCell ⟨w.heap.size + 1, 1, none⟩ (.nilFunc)).setCell ⟨w.heap.size + 1, 2, none⟩ (.func (.func 76) #[] #[])).setCell ⟨w.heap.size + 1, 3, none⟩ (.func (.func 77) #[] #[])).setCell ⟨w.heap.size + 1, 4, none⟩ (.func (.func 78) #[] #[])).setCell ⟨w.heap.size + 1, 5, none⟩ (.func (.func 79) #[] #[])).setCell ⟨w.heap.size + 1, 6, none⟩ (.func (.func 80) #[] #[])).setCell ⟨w.heap.size + 1, 7, none⟩ (.func (.func 81) #[] #[])).setCell ⟨w.heap.size + 1, 8, none⟩ (.func (.func 82) #[] #[])).setCell ⟨w.heap.size + 1, 9, none⟩ (.func (.func 83) #[] #[])).setCell ⟨w.heap.size, 0, none⟩ (.func (.func 82) #[] #[])).setCell ⟨w.heap.size, 1, none⟩ (.func (.func 83) #[] #[]))) := (((((((((((hB.setCell (Nat.le_succ _) _).setCell (Nat.le_succ _) _).setCell (Nat.le_succ _) _).setCell (Nat.le_succ _) _).setCell (Nat.le_succ _) _).setCell (Nat.le_succ _) _).setCell (Nat.le_succ _) _).setCell (Nat.le_succ _) _).setCell (Nat.le_succ _) _).setCell (Nat.le_succ _) _).setCell (Nat.le_refl _) _).setCell (Nat.le_refl _) _
  clear hR hS
  have sn := store_nil
  have sf := store_fn
  go_enter Try.func63, Try.ntmps63
  go_wp2_with (rw [← hW.out])
  exact bodyPost_ret (v := .agg #[.func (.func 82) #[] #[], .func (.func 83) #[] #[]]) (by simp [results, Try.results63, go_sem, d0, d1]) rfl ⟨rfl, HB.out⟩

theorem formOf_any (t : Int) (w : World) (h : 1 ≤ t ∧ t ≤ 4) :
    Calls Try.prog 63 #[.int .i64 t] w fun e w' => e = .returned (.agg #[(formV t).1, (formV t).2]) ∧ Below w.heap.size w w' := by
  obtain rfl | rfl | rfl | rfl : t = 1 ∨ t = 2 ∨ t = 3 ∨ t = 4 := by omega
  · exact formOf_Int w
  · exact formOf_Num w
  · exact formOf_Text w
  · exact formOf_Bool w
end Go.Proofs.Ytclegljalndaear

