/-
  Together: FormOf, SetDigits, PutFixImpl
-/
import Derived.Test.YtkakkjnbhklfpaaGreatDoorPackR1
import Derived.Test.YtkakkjnbhklfpaaGreatDoorPackR2
/-
  The program's table of forms: a type's writer and reader.
-/
namespace Go.Proofs.YtkakkjnbhklfpaaGreatDoor
open Go.RowKit
set_option maxRecDepth 4000

theorem form_put (F G : Nat) (W : World) : (Instr.field 187 (.agg #[.func (.func F) #[] #[], .func (.func G) #[] #[]]) 0).run Tryz.prog W = .ok (.func (.func F) #[] #[]) W := by kernel_rfl
theorem store_nil (W : World) (a : Addr) (m : Mode) : (store a .nilFunc m).run Tryz.prog W = stored Tryz.prog W a .nilFunc m := run_store Tryz.prog W a _ m rfl
theorem store_fn (W : World) (a : Addr) (m : Mode) (n : Nat) : (store a (.func (.func n) #[] #[]) m).run Tryz.prog W = stored Tryz.prog W a (.func (.func n) #[] #[]) m := run_store Tryz.prog W a _ m rfl
def fv (n : Nat) : Value := .func (.func n) #[] #[]
/-- The form of a type: its writer and its reader. -/
def formV (t : Int) : Value × Value := if t = 1 then (fv 159, fv 160) else if t = 2 then (fv 161, fv 162) else if t = 3 then (fv 163, fv 164) else (fv 165, fv 166)

set_option maxHeartbeats 1000000 in
theorem formOf_Int (w : World) :
    Calls Tryz.prog 140 #[.int .i64 1] w fun e w' => e = .returned (.agg #[.func (.func 159) #[] #[], .func (.func 160) #[] #[]]) ∧ Below w.heap.size w w' := by
  have hR := World.rowIs_alloc (w.alloc (.cells #[.nilFunc, .nilFunc] 187)) #[.nilFunc, .nilFunc, .nilFunc, .nilFunc, .nilFunc, .nilFunc, .nilFunc, .nilFunc, .nilFunc, .nilFunc] 202 (fun _ => .nilFunc) (fun j hj => by match j, hj with | 0, _ => rfl | 1, _ => rfl | 2, _ => rfl | 3, _ => rfl | 4, _ => rfl | 5, _ => rfl | 6, _ => rfl | 7, _ => rfl | 8, _ => rfl | 9, _ => rfl)
  rw [show (w.alloc (.cells #[.nilFunc, .nilFunc] 187)).heap.size = w.heap.size + 1 by simp] at hR
  have hS := (World.rowIs_alloc w #[.nilFunc, .nilFunc] 187 (fun _ => .nilFunc) (fun j hj => by match j, hj with | 0, _ => rfl | 1, _ => rfl)).of_block (w' := ((w.alloc (.cells #[.nilFunc, .nilFunc] 187)).alloc (.cells #[.nilFunc, .nilFunc, .nilFunc, .nilFunc, .nilFunc, .nilFunc, .nilFunc, .nilFunc, .nilFunc, .nilFunc] 202))) (Below.heap_alloc _ _ _ (by simp))
  have hB : Below w.heap.size w ((w.alloc (.cells #[.nilFunc, .nilFunc] 187)).alloc (.cells #[.nilFunc, .nilFunc, .nilFunc, .nilFunc, .nilFunc, .nilFunc, .nilFunc, .nilFunc, .nilFunc, .nilFunc] 202)) := ((Below.refl _ _).alloc (Nat.le_refl _) _).alloc (by simp) _
  obtain ⟨W, hW⟩ : ∃ W, Hid (W = ((w.alloc (.cells #[.nilFunc, .nilFunc] 187)).alloc (.cells #[.nilFunc, .nilFunc, .nilFunc, .nilFunc, .nilFunc, .nilFunc, .nilFunc, .nilFunc, .nilFunc, .nilFunc] 202))) := ⟨_, rfl⟩
  rw [← hW.out] at hR hS hB
  have c0 : W.cell? ⟨w.heap.size + 1, 0, none⟩ = some .nilFunc := hR.cell (i := 0) (by decide)
  have r0 : W.frozen? ⟨w.heap.size + 1, 0, none⟩ = false := World.rowIs.frozen hR 0
  have c1 : W.cell? ⟨w.heap.size + 1, 1, none⟩ = some .nilFunc := hR.cell (i := 1) (by decide)
  have r1 : W.frozen? ⟨w.heap.size + 1, 1, none⟩ = false := World.rowIs.frozen hR 1
  have c2 : W.cell? ⟨w.heap.size + 1, 2, none⟩ = some .nilFunc := hR.cell (i := 2) (by decide)
  have r2 : W.frozen? ⟨w.heap.size + 1, 2, none⟩ = false := World.rowIs.frozen hR 2
  have c3 : W.cell? ⟨w.heap.size + 1, 3, none⟩ = some .nilFunc := hR.cell (i := 3) (by decide)
  have r3 : W.frozen? ⟨w.heap.size + 1, 3, none⟩ = false := World.rowIs.frozen hR 3
  have c4 : W.cell? ⟨w.heap.size + 1, 4, none⟩ = some .nilFunc := hR.cell (i := 4) (by decide)
  have r4 : W.frozen? ⟨w.heap.size + 1, 4, none⟩ = false := World.rowIs.frozen hR 4
  have c5 : W.cell? ⟨w.heap.size + 1, 5, none⟩ = some .nilFunc := hR.cell (i := 5) (by decide)
  have r5 : W.frozen? ⟨w.heap.size + 1, 5, none⟩ = false := World.rowIs.frozen hR 5
  have c6 : W.cell? ⟨w.heap.size + 1, 6, none⟩ = some .nilFunc := hR.cell (i := 6) (by decide)
  have r6 : W.frozen? ⟨w.heap.size + 1, 6, none⟩ = false := World.rowIs.frozen hR 6
  have c7 : W.cell? ⟨w.heap.size + 1, 7, none⟩ = some .nilFunc := hR.cell (i := 7) (by decide)
  have r7 : W.frozen? ⟨w.heap.size + 1, 7, none⟩ = false := World.rowIs.frozen hR 7
  have c8 : W.cell? ⟨w.heap.size + 1, 8, none⟩ = some .nilFunc := hR.cell (i := 8) (by decide)
  have r8 : W.frozen? ⟨w.heap.size + 1, 8, none⟩ = false := World.rowIs.frozen hR 8
  have c9 : W.cell? ⟨w.heap.size + 1, 9, none⟩ = some .nilFunc := hR.cell (i := 9) (by decide)
  have r9 : W.frozen? ⟨w.heap.size + 1, 9, none⟩ = false := World.rowIs.frozen hR 9
  have d0 : W.cell? ⟨w.heap.size, 0, none⟩ = some .nilFunc := hS.cell (i := 0) (by decide)
  have s0 : W.frozen? ⟨w.heap.size, 0, none⟩ = false := World.rowIs.frozen hS 0
  have d1 : W.cell? ⟨w.heap.size, 1, none⟩ = some .nilFunc := hS.cell (i := 1) (by decide)
  have s1 : W.frozen? ⟨w.heap.size, 1, none⟩ = false := World.rowIs.frozen hS 1
  have HB : Hid (Below w.heap.size w ((((((((((((W.setCell ⟨w.heap.size + 1, 0, none⟩ (.nilFunc)).setCell ⟨w.heap.size + 1, 1, none⟩ (.nilFunc)).setCell ⟨w.heap.size + 1, 2, none⟩ (.func (.func 159) #[] #[])).setCell ⟨w.heap.size + 1, 3, none⟩ (.func (.func 160) #[] #[])).setCell ⟨w.heap.size + 1, 4, none⟩ (.func (.func 161) #[] #[])).setCell ⟨w.heap.size + 1, 5, none⟩ (.func (.func 162) #[] #[])).setCell ⟨w.heap.size + 1, 6, none⟩ (.func (.func 163) #[] #[])).setCell ⟨w.heap.size + 1, 7, none⟩ (.func (.func 164) #[] #[])).setCell ⟨w.heap.size + 1, 8, none⟩ (.func (.func 165) #[] #[])).setCell ⟨w.heap.size + 1, 9, none⟩ (.func (.func 166) #[] #[])).setCell ⟨w.heap.size, 0, none⟩ (.func (.func 159) #[] #[])).setCell ⟨w.heap.size, 1, none⟩ (.func (.func 160) #[] #[]))) := (((((((((((hB.setCell (Nat.le_succ _) _).setCell (Nat.le_succ _) _).setCell (Nat.le_succ _) _).setCell (Nat.le_succ _) _).setCell (Nat.le_succ _) _).setCell (Nat.le_succ _) _).setCell (Nat.le_succ _) _).setCell (Nat.le_succ _) _).setCell (Nat.le_succ _) _).setCell (Nat.le_succ _) _).setCell (Nat.le_refl _) _).setCell (Nat.le_refl _) _
  clear hR hS
  have sn := store_nil
  have sf := store_fn
  go_enter Tryz.func140, Tryz.ntmps140
  go_wp2_with (rw [← hW.out])
  exact bodyPost_ret (v := .agg #[.func (.func 159) #[] #[], .func (.func 160) #[] #[]]) (by simp [results, Tryz.results140, go_sem, d0, d1]) rfl ⟨rfl, HB.out⟩
set_option maxHeartbeats 1000000 in
theorem formOf_Num (w : World) :
    Calls Tryz.prog 140 #[.int .i64 2] w fun e w' => e = .returned (.agg #[.func (.func 161) #[] #[], .func (.func 162) #[] #[]]) ∧ Below w.heap.size w w' := by
  have hR := World.rowIs_alloc (w.alloc (.cells #[.nilFunc, .nilFunc] 187)) #[.nilFunc, .nilFunc, .nilFunc, .nilFunc, .nilFunc, .nilFunc, .nilFunc, .nilFunc, .nilFunc, .nilFunc] 202 (fun _ => .nilFunc) (fun j hj => by match j, hj with | 0, _ => rfl | 1, _ => rfl | 2, _ => rfl | 3, _ => rfl | 4, _ => rfl | 5, _ => rfl | 6, _ => rfl | 7, _ => rfl | 8, _ => rfl | 9, _ => rfl)
  rw [show (w.alloc (.cells #[.nilFunc, .nilFunc] 187)).heap.size = w.heap.size + 1 by simp] at hR
  have hS := (World.rowIs_alloc w #[.nilFunc, .nilFunc] 187 (fun _ => .nilFunc) (fun j hj => by match j, hj with | 0, _ => rfl | 1, _ => rfl)).of_block (w' := ((w.alloc (.cells #[.nilFunc, .nilFunc] 187)).alloc (.cells #[.nilFunc, .nilFunc, .nilFunc, .nilFunc, .nilFunc, .nilFunc, .nilFunc, .nilFunc, .nilFunc, .nilFunc] 202))) (Below.heap_alloc _ _ _ (by simp))
  have hB : Below w.heap.size w ((w.alloc (.cells #[.nilFunc, .nilFunc] 187)).alloc (.cells #[.nilFunc, .nilFunc, .nilFunc, .nilFunc, .nilFunc, .nilFunc, .nilFunc, .nilFunc, .nilFunc, .nilFunc] 202)) := ((Below.refl _ _).alloc (Nat.le_refl _) _).alloc (by simp) _
  obtain ⟨W, hW⟩ : ∃ W, Hid (W = ((w.alloc (.cells #[.nilFunc, .nilFunc] 187)).alloc (.cells #[.nilFunc, .nilFunc, .nilFunc, .nilFunc, .nilFunc, .nilFunc, .nilFunc, .nilFunc, .nilFunc, .nilFunc] 202))) := ⟨_, rfl⟩
  rw [← hW.out] at hR hS hB
  have c0 : W.cell? ⟨w.heap.size + 1, 0, none⟩ = some .nilFunc := hR.cell (i := 0) (by decide)
  have r0 : W.frozen? ⟨w.heap.size + 1, 0, none⟩ = false := World.rowIs.frozen hR 0
  have c1 : W.cell? ⟨w.heap.size + 1, 1, none⟩ = some .nilFunc := hR.cell (i := 1) (by decide)
  have r1 : W.frozen? ⟨w.heap.size + 1, 1, none⟩ = false := World.rowIs.frozen hR 1
  have c2 : W.cell? ⟨w.heap.size + 1, 2, none⟩ = some .nilFunc := hR.cell (i := 2) (by decide)
  have r2 : W.frozen? ⟨w.heap.size + 1, 2, none⟩ = false := World.rowIs.frozen hR 2
  have c3 : W.cell? ⟨w.heap.size + 1, 3, none⟩ = some .nilFunc := hR.cell (i := 3) (by decide)
  have r3 : W.frozen? ⟨w.heap.size + 1, 3, none⟩ = false := World.rowIs.frozen hR 3
  have c4 : W.cell? ⟨w.heap.size + 1, 4, none⟩ = some .nilFunc := hR.cell (i := 4) (by decide)
  have r4 : W.frozen? ⟨w.heap.size + 1, 4, none⟩ = false := World.rowIs.frozen hR 4
  have c5 : W.cell? ⟨w.heap.size + 1, 5, none⟩ = some .nilFunc := hR.cell (i := 5) (by decide)
  have r5 : W.frozen? ⟨w.heap.size + 1, 5, none⟩ = false := World.rowIs.frozen hR 5
  have c6 : W.cell? ⟨w.heap.size + 1, 6, none⟩ = some .nilFunc := hR.cell (i := 6) (by decide)
  have r6 : W.frozen? ⟨w.heap.size + 1, 6, none⟩ = false := World.rowIs.frozen hR 6
  have c7 : W.cell? ⟨w.heap.size + 1, 7, none⟩ = some .nilFunc := hR.cell (i := 7) (by decide)
  have r7 : W.frozen? ⟨w.heap.size + 1, 7, none⟩ = false := World.rowIs.frozen hR 7
  have c8 : W.cell? ⟨w.heap.size + 1, 8, none⟩ = some .nilFunc := hR.cell (i := 8) (by decide)
  have r8 : W.frozen? ⟨w.heap.size + 1, 8, none⟩ = false := World.rowIs.frozen hR 8
  have c9 : W.cell? ⟨w.heap.size + 1, 9, none⟩ = some .nilFunc := hR.cell (i := 9) (by decide)
  have r9 : W.frozen? ⟨w.heap.size + 1, 9, none⟩ = false := World.rowIs.frozen hR 9
  have d0 : W.cell? ⟨w.heap.size, 0, none⟩ = some .nilFunc := hS.cell (i := 0) (by decide)
  have s0 : W.frozen? ⟨w.heap.size, 0, none⟩ = false := World.rowIs.frozen hS 0
  have d1 : W.cell? ⟨w.heap.size, 1, none⟩ = some .nilFunc := hS.cell (i := 1) (by decide)
  have s1 : W.frozen? ⟨w.heap.size, 1, none⟩ = false := World.rowIs.frozen hS 1
  have HB : Hid (Below w.heap.size w ((((((((((((W.setCell ⟨w.heap.size + 1, 0, none⟩ (.nilFunc)).setCell ⟨w.heap.size + 1, 1, none⟩ (.nilFunc)).setCell ⟨w.heap.size + 1, 2, none⟩ (.func (.func 159) #[] #[])).setCell ⟨w.heap.size + 1, 3, none⟩ (.func (.func 160) #[] #[])).setCell ⟨w.heap.size + 1, 4, none⟩ (.func (.func 161) #[] #[])).setCell ⟨w.heap.size + 1, 5, none⟩ (.func (.func 162) #[] #[])).setCell ⟨w.heap.size + 1, 6, none⟩ (.func (.func 163) #[] #[])).setCell ⟨w.heap.size + 1, 7, none⟩ (.func (.func 164) #[] #[])).setCell ⟨w.heap.size + 1, 8, none⟩ (.func (.func 165) #[] #[])).setCell ⟨w.heap.size + 1, 9, none⟩ (.func (.func 166) #[] #[])).setCell ⟨w.heap.size, 0, none⟩ (.func (.func 161) #[] #[])).setCell ⟨w.heap.size, 1, none⟩ (.func (.func 162) #[] #[]))) := (((((((((((hB.setCell (Nat.le_succ _) _).setCell (Nat.le_succ _) _).setCell (Nat.le_succ _) _).setCell (Nat.le_succ _) _).setCell (Nat.le_succ _) _).setCell (Nat.le_succ _) _).setCell (Nat.le_succ _) _).setCell (Nat.le_succ _) _).setCell (Nat.le_succ _) _).setCell (Nat.le_succ _) _).setCell (Nat.le_refl _) _).setCell (Nat.le_refl _) _
  clear hR hS
  have sn := store_nil
  have sf := store_fn
  go_enter Tryz.func140, Tryz.ntmps140
  go_wp2_with (rw [← hW.out])
  exact bodyPost_ret (v := .agg #[.func (.func 161) #[] #[], .func (.func 162) #[] #[]]) (by simp [results, Tryz.results140, go_sem, d0, d1]) rfl ⟨rfl, HB.out⟩
set_option maxHeartbeats 1000000 in
theorem formOf_Text (w : World) :
    Calls Tryz.prog 140 #[.int .i64 3] w fun e w' => e = .returned (.agg #[.func (.func 163) #[] #[], .func (.func 164) #[] #[]]) ∧ Below w.heap.size w w' := by
  have hR := World.rowIs_alloc (w.alloc (.cells #[.nilFunc, .nilFunc] 187)) #[.nilFunc, .nilFunc, .nilFunc, .nilFunc, .nilFunc, .nilFunc, .nilFunc, .nilFunc, .nilFunc, .nilFunc] 202 (fun _ => .nilFunc) (fun j hj => by match j, hj with | 0, _ => rfl | 1, _ => rfl | 2, _ => rfl | 3, _ => rfl | 4, _ => rfl | 5, _ => rfl | 6, _ => rfl | 7, _ => rfl | 8, _ => rfl | 9, _ => rfl)
  rw [show (w.alloc (.cells #[.nilFunc, .nilFunc] 187)).heap.size = w.heap.size + 1 by simp] at hR
  have hS := (World.rowIs_alloc w #[.nilFunc, .nilFunc] 187 (fun _ => .nilFunc) (fun j hj => by match j, hj with | 0, _ => rfl | 1, _ => rfl)).of_block (w' := ((w.alloc (.cells #[.nilFunc, .nilFunc] 187)).alloc (.cells #[.nilFunc, .nilFunc, .nilFunc, .nilFunc, .nilFunc, .nilFunc, .nilFunc, .nilFunc, .nilFunc, .nilFunc] 202))) (Below.heap_alloc _ _ _ (by simp))
  have hB : Below w.heap.size w ((w.alloc (.cells #[.nilFunc, .nilFunc] 187)).alloc (.cells #[.nilFunc, .nilFunc, .nilFunc, .nilFunc, .nilFunc, .nilFunc, .nilFunc, .nilFunc, .nilFunc, .nilFunc] 202)) := ((Below.refl _ _).alloc (Nat.le_refl _) _).alloc (by simp) _
  obtain ⟨W, hW⟩ : ∃ W, Hid (W = ((w.alloc (.cells #[.nilFunc, .nilFunc] 187)).alloc (.cells #[.nilFunc, .nilFunc, .nilFunc, .nilFunc, .nilFunc, .nilFunc, .nilFunc, .nilFunc, .nilFunc, .nilFunc] 202))) := ⟨_, rfl⟩
  rw [← hW.out] at hR hS hB
  have c0 : W.cell? ⟨w.heap.size + 1, 0, none⟩ = some .nilFunc := hR.cell (i := 0) (by decide)
  have r0 : W.frozen? ⟨w.heap.size + 1, 0, none⟩ = false := World.rowIs.frozen hR 0
  have c1 : W.cell? ⟨w.heap.size + 1, 1, none⟩ = some .nilFunc := hR.cell (i := 1) (by decide)
  have r1 : W.frozen? ⟨w.heap.size + 1, 1, none⟩ = false := World.rowIs.frozen hR 1
  have c2 : W.cell? ⟨w.heap.size + 1, 2, none⟩ = some .nilFunc := hR.cell (i := 2) (by decide)
  have r2 : W.frozen? ⟨w.heap.size + 1, 2, none⟩ = false := World.rowIs.frozen hR 2
  have c3 : W.cell? ⟨w.heap.size + 1, 3, none⟩ = some .nilFunc := hR.cell (i := 3) (by decide)
  have r3 : W.frozen? ⟨w.heap.size + 1, 3, none⟩ = false := World.rowIs.frozen hR 3
  have c4 : W.cell? ⟨w.heap.size + 1, 4, none⟩ = some .nilFunc := hR.cell (i := 4) (by decide)
  have r4 : W.frozen? ⟨w.heap.size + 1, 4, none⟩ = false := World.rowIs.frozen hR 4
  have c5 : W.cell? ⟨w.heap.size + 1, 5, none⟩ = some .nilFunc := hR.cell (i := 5) (by decide)
  have r5 : W.frozen? ⟨w.heap.size + 1, 5, none⟩ = false := World.rowIs.frozen hR 5
  have c6 : W.cell? ⟨w.heap.size + 1, 6, none⟩ = some .nilFunc := hR.cell (i := 6) (by decide)
  have r6 : W.frozen? ⟨w.heap.size + 1, 6, none⟩ = false := World.rowIs.frozen hR 6
  have c7 : W.cell? ⟨w.heap.size + 1, 7, none⟩ = some .nilFunc := hR.cell (i := 7) (by decide)
  have r7 : W.frozen? ⟨w.heap.size + 1, 7, none⟩ = false := World.rowIs.frozen hR 7
  have c8 : W.cell? ⟨w.heap.size + 1, 8, none⟩ = some .nilFunc := hR.cell (i := 8) (by decide)
  have r8 : W.frozen? ⟨w.heap.size + 1, 8, none⟩ = false := World.rowIs.frozen hR 8
  have c9 : W.cell? ⟨w.heap.size + 1, 9, none⟩ = some .nilFunc := hR.cell (i := 9) (by decide)
  have r9 : W.frozen? ⟨w.heap.size + 1, 9, none⟩ = false := World.rowIs.frozen hR 9
  have d0 : W.cell? ⟨w.heap.size, 0, none⟩ = some .nilFunc := hS.cell (i := 0) (by decide)
  have s0 : W.frozen? ⟨w.heap.size, 0, none⟩ = false := World.rowIs.frozen hS 0
  have d1 : W.cell? ⟨w.heap.size, 1, none⟩ = some .nilFunc := hS.cell (i := 1) (by decide)
  have s1 : W.frozen? ⟨w.heap.size, 1, none⟩ = false := World.rowIs.frozen hS 1
  have HB : Hid (Below w.heap.size w ((((((((((((W.setCell ⟨w.heap.size + 1, 0, none⟩ (.nilFunc)).setCell ⟨w.heap.size + 1, 1, none⟩ (.nilFunc)).setCell ⟨w.heap.size + 1, 2, none⟩ (.func (.func 159) #[] #[])).setCell ⟨w.heap.size + 1, 3, none⟩ (.func (.func 160) #[] #[])).setCell ⟨w.heap.size + 1, 4, none⟩ (.func (.func 161) #[] #[])).setCell ⟨w.heap.size + 1, 5, none⟩ (.func (.func 162) #[] #[])).setCell ⟨w.heap.size + 1, 6, none⟩ (.func (.func 163) #[] #[])).setCell ⟨w.heap.size + 1, 7, none⟩ (.func (.func 164) #[] #[])).setCell ⟨w.heap.size + 1, 8, none⟩ (.func (.func 165) #[] #[])).setCell ⟨w.heap.size + 1, 9, none⟩ (.func (.func 166) #[] #[])).setCell ⟨w.heap.size, 0, none⟩ (.func (.func 163) #[] #[])).setCell ⟨w.heap.size, 1, none⟩ (.func (.func 164) #[] #[]))) := (((((((((((hB.setCell (Nat.le_succ _) _).setCell (Nat.le_succ _) _).setCell (Nat.le_succ _) _).setCell (Nat.le_succ _) _).setCell (Nat.le_succ _) _).setCell (Nat.le_succ _) _).setCell (Nat.le_succ _) _).setCell (Nat.le_succ _) _).setCell (Nat.le_succ _) _).setCell (Nat.le_succ _) _).setCell (Nat.le_refl _) _).setCell (Nat.le_refl _) _
  clear hR hS
  have sn := store_nil
  have sf := store_fn
  go_enter Tryz.func140, Tryz.ntmps140
  go_wp2_with (rw [← hW.out])
  exact bodyPost_ret (v := .agg #[.func (.func 163) #[] #[], .func (.func 164) #[] #[]]) (by simp [results, Tryz.results140, go_sem, d0, d1]) rfl ⟨rfl, HB.out⟩
set_option maxHeartbeats 1000000 in
theorem formOf_Bool (w : World) :
    Calls Tryz.prog 140 #[.int .i64 4] w fun e w' => e = .returned (.agg #[.func (.func 165) #[] #[], .func (.func 166) #[] #[]]) ∧ Below w.heap.size w w' := by
  have hR := World.rowIs_alloc (w.alloc (.cells #[.nilFunc, .nilFunc] 187)) #[.nilFunc, .nilFunc, .nilFunc, .nilFunc, .nilFunc, .nilFunc, .nilFunc, .nilFunc, .nilFunc, .nilFunc] 202 (fun _ => .nilFunc) (fun j hj => by match j, hj with | 0, _ => rfl | 1, _ => rfl | 2, _ => rfl | 3, _ => rfl | 4, _ => rfl | 5, _ => rfl | 6, _ => rfl | 7, _ => rfl | 8, _ => rfl | 9, _ => rfl)
  rw [show (w.alloc (.cells #[.nilFunc, .nilFunc] 187)).heap.size = w.heap.size + 1 by simp] at hR
  have hS := (World.rowIs_alloc w #[.nilFunc, .nilFunc] 187 (fun _ => .nilFunc) (fun j hj => by match j, hj with | 0, _ => rfl | 1, _ => rfl)).of_block (w' := ((w.alloc (.cells #[.nilFunc, .nilFunc] 187)).alloc (.cells #[.nilFunc, .nilFunc, .nilFunc, .nilFunc, .nilFunc, .nilFunc, .nilFunc, .nilFunc, .nilFunc, .nilFunc] 202))) (Below.heap_alloc _ _ _ (by simp))
  have hB : Below w.heap.size w ((w.alloc (.cells #[.nilFunc, .nilFunc] 187)).alloc (.cells #[.nilFunc, .nilFunc, .nilFunc, .nilFunc, .nilFunc, .nilFunc, .nilFunc, .nilFunc, .nilFunc, .nilFunc] 202)) := ((Below.refl _ _).alloc (Nat.le_refl _) _).alloc (by simp) _
  obtain ⟨W, hW⟩ : ∃ W, Hid (W = ((w.alloc (.cells #[.nilFunc, .nilFunc] 187)).alloc (.cells #[.nilFunc, .nilFunc, .nilFunc, .nilFunc, .nilFunc, .nilFunc, .nilFunc, .nilFunc, .nilFunc, .nilFunc] 202))) := ⟨_, rfl⟩
  rw [← hW.out] at hR hS hB
  have c0 : W.cell? ⟨w.heap.size + 1, 0, none⟩ = some .nilFunc := hR.cell (i := 0) (by decide)
  have r0 : W.frozen? ⟨w.heap.size + 1, 0, none⟩ = false := World.rowIs.frozen hR 0
  have c1 : W.cell? ⟨w.heap.size + 1, 1, none⟩ = some .nilFunc := hR.cell (i := 1) (by decide)
  have r1 : W.frozen? ⟨w.heap.size + 1, 1, none⟩ = false := World.rowIs.frozen hR 1
  have c2 : W.cell? ⟨w.heap.size + 1, 2, none⟩ = some .nilFunc := hR.cell (i := 2) (by decide)
  have r2 : W.frozen? ⟨w.heap.size + 1, 2, none⟩ = false := World.rowIs.frozen hR 2
  have c3 : W.cell? ⟨w.heap.size + 1, 3, none⟩ = some .nilFunc := hR.cell (i := 3) (by decide)
  have r3 : W.frozen? ⟨w.heap.size + 1, 3, none⟩ = false := World.rowIs.frozen hR 3
  have c4 : W.cell? ⟨w.heap.size + 1, 4, none⟩ = some .nilFunc := hR.cell (i := 4) (by decide)
  have r4 : W.frozen? ⟨w.heap.size + 1, 4, none⟩ = false := World.rowIs.frozen hR 4
  have c5 : W.cell? ⟨w.heap.size + 1, 5, none⟩ = some .nilFunc := hR.cell (i := 5) (by decide)
  have r5 : W.frozen? ⟨w.heap.size + 1, 5, none⟩ = false := World.rowIs.frozen hR 5
  have c6 : W.cell? ⟨w.heap.size + 1, 6, none⟩ = some .nilFunc := hR.cell (i := 6) (by decide)
  have r6 : W.frozen? ⟨w.heap.size + 1, 6, none⟩ = false := World.rowIs.frozen hR 6
  have c7 : W.cell? ⟨w.heap.size + 1, 7, none⟩ = some .nilFunc := hR.cell (i := 7) (by decide)
  have r7 : W.frozen? ⟨w.heap.size + 1, 7, none⟩ = false := World.rowIs.frozen hR 7
  have c8 : W.cell? ⟨w.heap.size + 1, 8, none⟩ = some .nilFunc := hR.cell (i := 8) (by decide)
  have r8 : W.frozen? ⟨w.heap.size + 1, 8, none⟩ = false := World.rowIs.frozen hR 8
  have c9 : W.cell? ⟨w.heap.size + 1, 9, none⟩ = some .nilFunc := hR.cell (i := 9) (by decide)
  have r9 : W.frozen? ⟨w.heap.size + 1, 9, none⟩ = false := World.rowIs.frozen hR 9
  have d0 : W.cell? ⟨w.heap.size, 0, none⟩ = some .nilFunc := hS.cell (i := 0) (by decide)
  have s0 : W.frozen? ⟨w.heap.size, 0, none⟩ = false := World.rowIs.frozen hS 0
  have d1 : W.cell? ⟨w.heap.size, 1, none⟩ = some .nilFunc := hS.cell (i := 1) (by decide)
  have s1 : W.frozen? ⟨w.heap.size, 1, none⟩ = false := World.rowIs.frozen hS 1
  have HB : Hid (Below w.heap.size w ((((((((((((W.setCell ⟨w.heap.size + 1, 0, none⟩ (.nilFunc)).setCell ⟨w.heap.size + 1, 1, none⟩ (.nilFunc)).setCell ⟨w.heap.size + 1, 2, none⟩ (.func (.func 159) #[] #[])).setCell ⟨w.heap.size + 1, 3, none⟩ (.func (.func 160) #[] #[])).setCell ⟨w.heap.size + 1, 4, none⟩ (.func (.func 161) #[] #[])).setCell ⟨w.heap.size + 1, 5, none⟩ (.func (.func 162) #[] #[])).setCell ⟨w.heap.size + 1, 6, none⟩ (.func (.func 163) #[] #[])).setCell ⟨w.heap.size + 1, 7, none⟩ (.func (.func 164) #[] #[])).setCell ⟨w.heap.size + 1, 8, none⟩ (.func (.func 165) #[] #[])).setCell ⟨w.heap.size + 1, 9, none⟩ (.func (.func 166) #[] #[])).setCell ⟨w.heap.size, 0, none⟩ (.func (.func 165) #[] #[])).setCell ⟨w.heap.size, 1, none⟩ (.func (.func 166) #[] #[]))) := (((((((((((hB.setCell (Nat.le_succ _) _).setCell (Nat.le_succ _) _).setCell (Nat.le_succ _) _).setCell (Nat.le_succ _) _).setCell (Nat.le_succ _) _).setCell (Nat.le_succ _) _).setCell (Nat.le_succ _) _).setCell (Nat.le_succ _) _).setCell (Nat.le_succ _) _).setCell (Nat.le_succ _) _).setCell (Nat.le_refl _) _).setCell (Nat.le_refl _) _
  clear hR hS
  have sn := store_nil
  have sf := store_fn
  go_enter Tryz.func140, Tryz.ntmps140
  go_wp2_with (rw [← hW.out])
  exact bodyPost_ret (v := .agg #[.func (.func 165) #[] #[], .func (.func 166) #[] #[]]) (by simp [results, Tryz.results140, go_sem, d0, d1]) rfl ⟨rfl, HB.out⟩

theorem formOf_any (t : Int) (w : World) (h : 1 ≤ t ∧ t ≤ 4) :
    Calls Tryz.prog 140 #[.int .i64 t] w fun e w' => e = .returned (.agg #[(formV t).1, (formV t).2]) ∧ Below w.heap.size w w' := by
  obtain rfl | rfl | rfl | rfl : t = 1 ∨ t = 2 ∨ t = 3 ∨ t = 4 := by omega
  · exact formOf_Int w
  · exact formOf_Num w
  · exact formOf_Text w
  · exact formOf_Bool w
end Go.Proofs.YtkakkjnbhklfpaaGreatDoor

/-
  The program's setDigits: it fills all of the room with the number's last bytes, the highest first, and writes nothing else.
-/
namespace Go.Proofs.YtkakkjnbhklfpaaGreatDoor
open Go.RowKit
set_option maxRecDepth 4000

/-- From d on the room holds what it is to hold. -/
def fillF (off k d : Nat) (n : Int) (f : Nat → Int) (i : Nat) : Int := if off + d ≤ i ∧ i < off + k then be k n (i - off) else f i
theorem fillF_step (off k d : Nat) (n : Int) (f : Nat → Int) (hd : d + 1 ≤ k) (i : Nat) : (if i = off + d then n / 256 ^ (k - (d + 1)) % 256 else fillF off k (d + 1) n f i) = fillF off k d n f i := by
  unfold fillF
  by_cases e : i = off + d
  · subst e
    rw [if_pos rfl, if_pos (by omega)]
    unfold be dg
    rw [show k - 1 - (off + d - off) = k - (d + 1) by omega]
  · rw [if_neg e]
    by_cases h : off + (d + 1) ≤ i ∧ i < off + k
    · rw [if_pos h, if_pos (by omega)]
    · rw [if_neg h, if_neg (by omega)]

/-- Of the room all behind d is filled. -/
structure Filled (t : TypeId) (w wr : World) (g off k m : Nat) (n : Int) (f : Nat → Int) (d : Nat) : Prop where
  row : Row t wr g m (fillF off k d n f)
  only : Only g w wr
theorem filled_step {t : TypeId} {w wr : World} {g off k m : Nat} {n : Int} {f : Nat → Int} {d : Nat} (h : Filled t w wr g off k m n f (d + 1)) (hd : d + 1 ≤ k) : Filled t w (wr.setCell ⟨g, off + d, none⟩ (.int .u8 (n / 256 ^ (k - (d + 1)) % 256))) g off k m n f d :=
  ⟨(h.row.set (off + d) _).congr (fun i _ => fillF_step off k d n f hd i), h.only.setCell _⟩

set_option maxHeartbeats 1000000 in
theorem setDigits_any (t : TypeId) (g off k c m : Nat) (f : Nat → Int) (n : Int) (w : World) (hr : Row t w g m f) (hm : off + k ≤ m) (hk : k ≤ 1000) (hn0 : 0 ≤ n) :
    Calls Tryz.prog 168 #[.slice (some ⟨g, off, none⟩) k c, .int .i64 n] w fun e w' => e = .returned (.tuple #[]) ∧ Row t w' g m (fillF off k 0 n f) ∧ Only g w w' := by
  have hF0 : Filled t w w g off k m n f k := ⟨hr.congr (fun i _ => by unfold fillF; rw [if_neg (by omega)]), Only.refl _ _⟩
  clear hr
  go_enter Tryz.func168, Tryz.ntmps168
  go_wp2
  go_loopg [1, 4] k (fun q a i wr => ∃ d : Nat, d ≤ k ∧ q = d ∧ a = .int .i64 (n / 256 ^ (k - d)) ∧ i = .int .i64 ((d : Int) - 1) ∧ Filled t w wr g off k m n f d)
  case atStart => exact ⟨k, Nat.le_refl _, rfl, by simp, rfl, hF0⟩
  case round =>
    obtain ⟨d, hd, hq, rfl, rfl, hF⟩ := hrel
    clear hF0
    have ha0 : 0 ≤ n / 256 ^ (k - d) := Int.ediv_nonneg hn0 (Int.le_of_lt (Int.pow_pos (by decide)))
    have ha1 : n / 256 ^ (k - d) ≤ n := Int.ediv_le_self _ hn0
    rcases d with _ | d
    · have hR := hF.row
      have hO := hF.only
      clear hF
      go_wp2
      go_end0
      exact ⟨rfl, hR, hO⟩
    · have HS : Hid _ := filled_step hF hd
      have hc := hF.row.cell (i := off + d) (by omega)
      have hf := hF.row.frozen (off + d)
      have HN : Hid (n / 256 ^ (k - (d + 1)) / 256 = n / 256 ^ (k - d)) := by show _ = _; rw [div_pow_succ, show k - (d + 1) + 1 = k - d by omega]
      clear hF
      generalize n / 256 ^ (k - (d + 1)) = a at *
      go_wp2
      go_roundg d
      case measure => omega
      case rel => exact ⟨d, by omega, rfl, by rw [← HN.out], by go_num, HS.out⟩
end Go.Proofs.YtkakkjnbhklfpaaGreatDoor

/-
  The program's PutFix: what was there, and behind it the number's four bytes, in memory of its own.
-/
namespace Go.Proofs.YtkakkjnbhklfpaaGreatDoor
open Go.RowKit
set_option maxRecDepth 4000

theorem Row.zero4 (w : World) (t : TypeId) : Row t (w.alloc (.cells #[.int .u8 0, .int .u8 0, .int .u8 0, .int .u8 0] t)) w.heap.size 4 (fun _ => 0) :=
  Row.ofIs (World.rowIs_alloc w #[.int .u8 0, .int .u8 0, .int .u8 0, .int .u8 0] t (fun _ => .int .u8 0) (fun j hj => by match j, hj with | 0, _ => rfl | 1, _ => rfl | 2, _ => rfl | 3, _ => rfl))

theorem fix_row {t : TypeId} {w : World} {g : Nat} {y : Int} {f : Nat → Int} (x : Int) (h : Row t w g 4 (fillF 0 4 0 y f)) (hy : y = clampF x + 2147483648) : Row t w g 4 (fun i => (fixL x).getD i 0) := by
  subst hy
  refine h.congr (fun i hi => ?_)
  unfold fillF
  rw [if_pos (by omega), Nat.sub_zero]
  unfold fixL
  rw [lof_get 4 _ i hi]

set_option maxHeartbeats 1000000 in
theorem putFix_impl (b off n cap : Nat) (f : Nat → Int) (x : Int) (w : World) (hv : View w (some ⟨b, off, none⟩) n cap f) (hn : n ≤ 70368744170000) (hx0 : -9223372036854775808 ≤ x) (hx1 : x ≤ 9223372036854775807) :
    Calls Tryz.prog 180 #[.slice (some ⟨b, off, none⟩) n cap, .int .i64 x] w fun e w' => ∃ g c, e = .returned (.slice (some ⟨g, 0, none⟩) (n + 4) c) ∧ w.heap.size ≤ g ∧ n + 4 ≤ c ∧ Row 5 w' g (n + 4) (fun i => (lof n f ++ fixL x).getD i 0) ∧ Below w.heap.size w w' := by
  have hb0 : ∀ o, Below w.heap.size w (w.alloc o) := fun o => (Below.refl _ _).alloc (Nat.le_refl _) _
  go_enter Tryz.func180, Tryz.ntmps180
  go_wp2_with fail
  all_goals
    refine (setDigits_any _ w.heap.size 0 4 4 4 (fun _ => 0) _ _ (Row.zero4 w _) (by omega) (by omega) (by omega)).mono ?_
    rintro e w1 ⟨rfl, hr1, ho1⟩
    replace hr1 := fix_row x hr1 (by unfold clampF; split <;> (try split) <;> omega)
    have hb1 : Below w.heap.size w w1 := (hb0 _).trans (ho1.below (Nat.le_refl _))
    have hV1 := hr1.view (cap := 4) (Nat.le_refl _) (fun i hi => fixL_byte x _ (getD_in (by rw [fixL_len]; exact hi)))
    clear hb0 ho1 hr1
    go_wp2_with fail
    refine (putBytes_any b off n cap f (some ⟨w.heap.size, 0, none⟩) 4 4 _ w1 (hv.below hb1) hV1 (fun h => by cases h) (by omega)).mono ?_
    rintro e w2 ⟨rfl, hown, hb2⟩
    have hE : lof 4 (fun i => (fixL x).getD i 0) = fixL x := by have := lof_self (fixL x); rw [fixL_len] at this; exact this
    rw [hE] at hown
    have HR : Hid _ := row_of_owned hown
    replace hb2 := hb1.trans (hb2.mono hb1.size)
    have hs := hb1.size
    clear hown hE hV1 hb1
    go_wp2
    go_ret
    exact ⟨_, _, rfl, hs, Nat.le_refl _, HR.out, hb2⟩
end Go.Proofs.YtkakkjnbhklfpaaGreatDoor

