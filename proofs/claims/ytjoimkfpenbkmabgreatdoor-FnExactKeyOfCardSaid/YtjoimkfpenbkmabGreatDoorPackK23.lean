/-
  Together: FormOf, SetDigits, PutFixImpl, BitsLen, PutVarImpl
-/
import Derived.Test.YtjoimkfpenbkmabGreatDoorPackK1
import Derived.Test.YtjoimkfpenbkmabGreatDoorPackK10
import Derived.Test.YtjoimkfpenbkmabGreatDoorPackK15
import Derived.Test.YtjoimkfpenbkmabGreatDoorShelf
import Derived.Test.YtjoimkfpenbkmabGreatDoorFlipWalks
/-
  The program's table of forms: a type's writer and reader.
-/
namespace Go.Proofs.YtjoimkfpenbkmabGreatDoor
open Go.RowKit
set_option maxRecDepth 4000

theorem form_put (F G : Nat) (W : World) : (Instr.field 160 (.agg #[.func (.func F) #[] #[], .func (.func G) #[] #[]]) 0).run Tryz.prog W = .ok (.func (.func F) #[] #[]) W := by kernel_rfl
theorem form_get (F G : Nat) (W : World) : (Instr.field 160 (.agg #[.func (.func F) #[] #[], .func (.func G) #[] #[]]) 1).run Tryz.prog W = .ok (.func (.func G) #[] #[]) W := by kernel_rfl
theorem store_nil (W : World) (a : Addr) (m : Mode) : (store a .nilFunc m).run Tryz.prog W = stored Tryz.prog W a .nilFunc m := run_store Tryz.prog W a _ m rfl
theorem store_fn (W : World) (a : Addr) (m : Mode) (n : Nat) : (store a (.func (.func n) #[] #[]) m).run Tryz.prog W = stored Tryz.prog W a (.func (.func n) #[] #[]) m := run_store Tryz.prog W a _ m rfl
def fv (n : Nat) : Value := .func (.func n) #[] #[]
/-- The form of a type: its writer and its reader. -/
def formV (t : Int) : Value × Value := if t = 1 then (fv 148, fv 149) else if t = 2 then (fv 150, fv 151) else if t = 3 then (fv 152, fv 153) else (fv 154, fv 155)

set_option maxHeartbeats 1000000 in
theorem formOf_Int (w : World) :
    Calls Tryz.prog 121 #[.int .i64 1] w fun e w' => e = .returned (.agg #[.func (.func 148) #[] #[], .func (.func 149) #[] #[]]) ∧ Below w.heap.size w w' := by
  have hR := World.rowIs_alloc (w.alloc (.cells #[.nilFunc, .nilFunc] 160)) #[.nilFunc, .nilFunc, .nilFunc, .nilFunc, .nilFunc, .nilFunc, .nilFunc, .nilFunc, .nilFunc, .nilFunc] 186 (fun _ => .nilFunc) (fun j hj => by match j, hj with | 0, _ => rfl | 1, _ => rfl | 2, _ => rfl | 3, _ => rfl | 4, _ => rfl | 5, _ => rfl | 6, _ => rfl | 7, _ => rfl | 8, _ => rfl | 9, _ => rfl)
  rw [show (w.alloc (.cells #[.nilFunc, .nilFunc] 160)).heap.size = w.heap.size + 1 by simp] at hR
  have hS := (World.rowIs_alloc w #[.nilFunc, .nilFunc] 160 (fun _ => .nilFunc) (fun j hj => by match j, hj with | 0, _ => rfl | 1, _ => rfl)).of_block (w' := ((w.alloc (.cells #[.nilFunc, .nilFunc] 160)).alloc (.cells #[.nilFunc, .nilFunc, .nilFunc, .nilFunc, .nilFunc, .nilFunc, .nilFunc, .nilFunc, .nilFunc, .nilFunc] 186))) (Below.heap_alloc _ _ _ (by simp))
  have hB : Below w.heap.size w ((w.alloc (.cells #[.nilFunc, .nilFunc] 160)).alloc (.cells #[.nilFunc, .nilFunc, .nilFunc, .nilFunc, .nilFunc, .nilFunc, .nilFunc, .nilFunc, .nilFunc, .nilFunc] 186)) := ((Below.refl _ _).alloc (Nat.le_refl _) _).alloc (by simp) _
  obtain ⟨W, hW⟩ : ∃ W, Hid (W = ((w.alloc (.cells #[.nilFunc, .nilFunc] 160)).alloc (.cells #[.nilFunc, .nilFunc, .nilFunc, .nilFunc, .nilFunc, .nilFunc, .nilFunc, .nilFunc, .nilFunc, .nilFunc] 186))) := ⟨_, rfl⟩
  rw [← hW.out] at hR hS hB
  have c0 : W.cell? ⟨w.heap.size + 1, 0, none⟩ = some .nilFunc := hR.cell (i := 0) (by decide)
  have r0 : W.frozen? ⟨w.heap.size + 1, 0, none⟩ = false := World.rowIs.frozen hR 0
  have c1 : W.cell? ⟨w.heap.size + 1, 1, none⟩ = some .nilFunc := hR.cell (i := 1) (by decide)
  have r1 : W.frozen? ⟨w.heap.size + 1, 1, none⟩ = false := World.rowIs.frozen hR 1
  have c2 : W.cell? ⟨w.heap.size + 1, 2, none⟩ = some .nilFunc := hR.cell (i := 2) (by decide)
  have r2 : W.frozen? ⟨w.heap.size + 1, 2, none⟩ = false := World.rowIs.frozen hR 2
  have c3 : W.cell? ⟨w.heap.size + 1, 3, none⟩ = some .nilFunc := hR.cell (i := 3) (by decide)
  have r3 : W.frozen? ⟨w.heap.size + 1, 3, none⟩ = false := World.rowIs.frozen hR 3
  have c4 : W.cell? ⟨w.heap.size + 1, 4, none⟩ = some .nilFunc := hR.cell (i := 4) (by decide)
  have r4 : W.frozen? ⟨w.heap.size + 1, 4, none⟩ = false := World.rowIs.frozen hR 4
  have c5 : W.cell? ⟨w.heap.size + 1, 5, none⟩ = some .nilFunc := hR.cell (i := 5) (by decide)
  have r5 : W.frozen? ⟨w.heap.size + 1, 5, none⟩ = false := World.rowIs.frozen hR 5
  have c6 : W.cell? ⟨w.heap.size + 1, 6, none⟩ = some .nilFunc := hR.cell (i := 6) (by decide)
  have r6 : W.frozen? ⟨w.heap.size + 1, 6, none⟩ = false := World.rowIs.frozen hR 6
  have c7 : W.cell? ⟨w.heap.size + 1, 7, none⟩ = some .nilFunc := hR.cell (i := 7) (by decide)
  have r7 : W.frozen? ⟨w.heap.size + 1, 7, none⟩ = false := World.rowIs.frozen hR 7
  have c8 : W.cell? ⟨w.heap.size + 1, 8, none⟩ = some .nilFunc := hR.cell (i := 8) (by decide)
  have r8 : W.frozen? ⟨w.heap.size + 1, 8, none⟩ = false := World.rowIs.frozen hR 8
  have c9 : W.cell? ⟨w.heap.size + 1, 9, none⟩ = some .nilFunc := hR.cell (i := 9) (by decide)
  have r9 : W.frozen? ⟨w.heap.size + 1, 9, none⟩ = false := World.rowIs.frozen hR 9
  have d0 : W.cell? ⟨w.heap.size, 0, none⟩ = some .nilFunc := hS.cell (i := 0) (by decide)
  have s0 : W.frozen? ⟨w.heap.size, 0, none⟩ = false := World.rowIs.frozen hS 0
  have d1 : W.cell? ⟨w.heap.size, 1, none⟩ = some .nilFunc := hS.cell (i := 1) (by decide)
  have s1 : W.frozen? ⟨w.heap.size, 1, none⟩ = false := World.rowIs.frozen hS 1
  have HB : Hid (Below w.heap.size w ((((((((((((W.setCell ⟨w.heap.size + 1, 0, none⟩ (.nilFunc)).setCell ⟨w.heap.size + 1, 1, none⟩ (.nilFunc)).setCell ⟨w.heap.size + 1, 2, none⟩ (.func (.func 148) #[] #[])).setCell ⟨w.heap.size + 1, 3, none⟩ (.func (.func 149) #[] #[])).setCell ⟨w.heap.size + 1, 4, none⟩ (.func (.func 150) #[] #[])).setCell ⟨w.heap.size + 1, 5, none⟩ (.func (.func 151) #[] #[])).setCell ⟨w.heap.size + 1, 6, none⟩ (.func (.func 152) #[] #[])).setCell ⟨w.heap.size + 1, 7, none⟩ (.func (.func 153) #[] #[])).setCell ⟨w.heap.size + 1, 8, none⟩ (.func (.func 154) #[] #[])).setCell ⟨w.heap.size + 1, 9, none⟩ (.func (.func 155) #[] #[])).setCell ⟨w.heap.size, 0, none⟩ (.func (.func 148) #[] #[])).setCell ⟨w.heap.size, 1, none⟩ (.func (.func 149) #[] #[]))) := (((((((((((hB.setCell (Nat.le_succ _) _).setCell (Nat.le_succ _) _).setCell (Nat.le_succ _) _).setCell (Nat.le_succ _) _).setCell (Nat.le_succ _) _).setCell (Nat.le_succ _) _).setCell (Nat.le_succ _) _).setCell (Nat.le_succ _) _).setCell (Nat.le_succ _) _).setCell (Nat.le_succ _) _).setCell (Nat.le_refl _) _).setCell (Nat.le_refl _) _
  clear hR hS
  have sn := store_nil
  have sf := store_fn
  go_enter Tryz.func121, Tryz.ntmps121
  go_wp2_with (rw [← hW.out])
  exact bodyPost_ret (v := .agg #[.func (.func 148) #[] #[], .func (.func 149) #[] #[]]) (by simp [results, Tryz.results121, go_sem, d0, d1]) rfl ⟨rfl, HB.out⟩
set_option maxHeartbeats 1000000 in
theorem formOf_Num (w : World) :
    Calls Tryz.prog 121 #[.int .i64 2] w fun e w' => e = .returned (.agg #[.func (.func 150) #[] #[], .func (.func 151) #[] #[]]) ∧ Below w.heap.size w w' := by
  have hR := World.rowIs_alloc (w.alloc (.cells #[.nilFunc, .nilFunc] 160)) #[.nilFunc, .nilFunc, .nilFunc, .nilFunc, .nilFunc, .nilFunc, .nilFunc, .nilFunc, .nilFunc, .nilFunc] 186 (fun _ => .nilFunc) (fun j hj => by match j, hj with | 0, _ => rfl | 1, _ => rfl | 2, _ => rfl | 3, _ => rfl | 4, _ => rfl | 5, _ => rfl | 6, _ => rfl | 7, _ => rfl | 8, _ => rfl | 9, _ => rfl)
  rw [show (w.alloc (.cells #[.nilFunc, .nilFunc] 160)).heap.size = w.heap.size + 1 by simp] at hR
  have hS := (World.rowIs_alloc w #[.nilFunc, .nilFunc] 160 (fun _ => .nilFunc) (fun j hj => by match j, hj with | 0, _ => rfl | 1, _ => rfl)).of_block (w' := ((w.alloc (.cells #[.nilFunc, .nilFunc] 160)).alloc (.cells #[.nilFunc, .nilFunc, .nilFunc, .nilFunc, .nilFunc, .nilFunc, .nilFunc, .nilFunc, .nilFunc, .nilFunc] 186))) (Below.heap_alloc _ _ _ (by simp))
  have hB : Below w.heap.size w ((w.alloc (.cells #[.nilFunc, .nilFunc] 160)).alloc (.cells #[.nilFunc, .nilFunc, .nilFunc, .nilFunc, .nilFunc, .nilFunc, .nilFunc, .nilFunc, .nilFunc, .nilFunc] 186)) := ((Below.refl _ _).alloc (Nat.le_refl _) _).alloc (by simp) _
  obtain ⟨W, hW⟩ : ∃ W, Hid (W = ((w.alloc (.cells #[.nilFunc, .nilFunc] 160)).alloc (.cells #[.nilFunc, .nilFunc, .nilFunc, .nilFunc, .nilFunc, .nilFunc, .nilFunc, .nilFunc, .nilFunc, .nilFunc] 186))) := ⟨_, rfl⟩
  rw [← hW.out] at hR hS hB
  have c0 : W.cell? ⟨w.heap.size + 1, 0, none⟩ = some .nilFunc := hR.cell (i := 0) (by decide)
  have r0 : W.frozen? ⟨w.heap.size + 1, 0, none⟩ = false := World.rowIs.frozen hR 0
  have c1 : W.cell? ⟨w.heap.size + 1, 1, none⟩ = some .nilFunc := hR.cell (i := 1) (by decide)
  have r1 : W.frozen? ⟨w.heap.size + 1, 1, none⟩ = false := World.rowIs.frozen hR 1
  have c2 : W.cell? ⟨w.heap.size + 1, 2, none⟩ = some .nilFunc := hR.cell (i := 2) (by decide)
  have r2 : W.frozen? ⟨w.heap.size + 1, 2, none⟩ = false := World.rowIs.frozen hR 2
  have c3 : W.cell? ⟨w.heap.size + 1, 3, none⟩ = some .nilFunc := hR.cell (i := 3) (by decide)
  have r3 : W.frozen? ⟨w.heap.size + 1, 3, none⟩ = false := World.rowIs.frozen hR 3
  have c4 : W.cell? ⟨w.heap.size + 1, 4, none⟩ = some .nilFunc := hR.cell (i := 4) (by decide)
  have r4 : W.frozen? ⟨w.heap.size + 1, 4, none⟩ = false := World.rowIs.frozen hR 4
  have c5 : W.cell? ⟨w.heap.size + 1, 5, none⟩ = some .nilFunc := hR.cell (i := 5) (by decide)
  have r5 : W.frozen? ⟨w.heap.size + 1, 5, none⟩ = false := World.rowIs.frozen hR 5
  have c6 : W.cell? ⟨w.heap.size + 1, 6, none⟩ = some .nilFunc := hR.cell (i := 6) (by decide)
  have r6 : W.frozen? ⟨w.heap.size + 1, 6, none⟩ = false := World.rowIs.frozen hR 6
  have c7 : W.cell? ⟨w.heap.size + 1, 7, none⟩ = some .nilFunc := hR.cell (i := 7) (by decide)
  have r7 : W.frozen? ⟨w.heap.size + 1, 7, none⟩ = false := World.rowIs.frozen hR 7
  have c8 : W.cell? ⟨w.heap.size + 1, 8, none⟩ = some .nilFunc := hR.cell (i := 8) (by decide)
  have r8 : W.frozen? ⟨w.heap.size + 1, 8, none⟩ = false := World.rowIs.frozen hR 8
  have c9 : W.cell? ⟨w.heap.size + 1, 9, none⟩ = some .nilFunc := hR.cell (i := 9) (by decide)
  have r9 : W.frozen? ⟨w.heap.size + 1, 9, none⟩ = false := World.rowIs.frozen hR 9
  have d0 : W.cell? ⟨w.heap.size, 0, none⟩ = some .nilFunc := hS.cell (i := 0) (by decide)
  have s0 : W.frozen? ⟨w.heap.size, 0, none⟩ = false := World.rowIs.frozen hS 0
  have d1 : W.cell? ⟨w.heap.size, 1, none⟩ = some .nilFunc := hS.cell (i := 1) (by decide)
  have s1 : W.frozen? ⟨w.heap.size, 1, none⟩ = false := World.rowIs.frozen hS 1
  have HB : Hid (Below w.heap.size w ((((((((((((W.setCell ⟨w.heap.size + 1, 0, none⟩ (.nilFunc)).setCell ⟨w.heap.size + 1, 1, none⟩ (.nilFunc)).setCell ⟨w.heap.size + 1, 2, none⟩ (.func (.func 148) #[] #[])).setCell ⟨w.heap.size + 1, 3, none⟩ (.func (.func 149) #[] #[])).setCell ⟨w.heap.size + 1, 4, none⟩ (.func (.func 150) #[] #[])).setCell ⟨w.heap.size + 1, 5, none⟩ (.func (.func 151) #[] #[])).setCell ⟨w.heap.size + 1, 6, none⟩ (.func (.func 152) #[] #[])).setCell ⟨w.heap.size + 1, 7, none⟩ (.func (.func 153) #[] #[])).setCell ⟨w.heap.size + 1, 8, none⟩ (.func (.func 154) #[] #[])).setCell ⟨w.heap.size + 1, 9, none⟩ (.func (.func 155) #[] #[])).setCell ⟨w.heap.size, 0, none⟩ (.func (.func 150) #[] #[])).setCell ⟨w.heap.size, 1, none⟩ (.func (.func 151) #[] #[]))) := (((((((((((hB.setCell (Nat.le_succ _) _).setCell (Nat.le_succ _) _).setCell (Nat.le_succ _) _).setCell (Nat.le_succ _) _).setCell (Nat.le_succ _) _).setCell (Nat.le_succ _) _).setCell (Nat.le_succ _) _).setCell (Nat.le_succ _) _).setCell (Nat.le_succ _) _).setCell (Nat.le_succ _) _).setCell (Nat.le_refl _) _).setCell (Nat.le_refl _) _
  clear hR hS
  have sn := store_nil
  have sf := store_fn
  go_enter Tryz.func121, Tryz.ntmps121
  go_wp2_with (rw [← hW.out])
  exact bodyPost_ret (v := .agg #[.func (.func 150) #[] #[], .func (.func 151) #[] #[]]) (by simp [results, Tryz.results121, go_sem, d0, d1]) rfl ⟨rfl, HB.out⟩
set_option maxHeartbeats 1000000 in
theorem formOf_Text (w : World) :
    Calls Tryz.prog 121 #[.int .i64 3] w fun e w' => e = .returned (.agg #[.func (.func 152) #[] #[], .func (.func 153) #[] #[]]) ∧ Below w.heap.size w w' := by
  have hR := World.rowIs_alloc (w.alloc (.cells #[.nilFunc, .nilFunc] 160)) #[.nilFunc, .nilFunc, .nilFunc, .nilFunc, .nilFunc, .nilFunc, .nilFunc, .nilFunc, .nilFunc, .nilFunc] 186 (fun _ => .nilFunc) (fun j hj => by match j, hj with | 0, _ => rfl | 1, _ => rfl | 2, _ => rfl | 3, _ => rfl | 4, _ => rfl | 5, _ => rfl | 6, _ => rfl | 7, _ => rfl | 8, _ => rfl | 9, _ => rfl)
  rw [show (w.alloc (.cells #[.nilFunc, .nilFunc] 160)).heap.size = w.heap.size + 1 by simp] at hR
  have hS := (World.rowIs_alloc w #[.nilFunc, .nilFunc] 160 (fun _ => .nilFunc) (fun j hj => by match j, hj with | 0, _ => rfl | 1, _ => rfl)).of_block (w' := ((w.alloc (.cells #[.nilFunc, .nilFunc] 160)).alloc (.cells #[.nilFunc, .nilFunc, .nilFunc, .nilFunc, .nilFunc, .nilFunc, .nilFunc, .nilFunc, .nilFunc, .nilFunc] 186))) (Below.heap_alloc _ _ _ (by simp))
  have hB : Below w.heap.size w ((w.alloc (.cells #[.nilFunc, .nilFunc] 160)).alloc (.cells #[.nilFunc, .nilFunc, .nilFunc, .nilFunc, .nilFunc, .nilFunc, .nilFunc, .nilFunc, .nilFunc, .nilFunc] 186)) := ((Below.refl _ _).alloc (Nat.le_refl _) _).alloc (by simp) _
  obtain ⟨W, hW⟩ : ∃ W, Hid (W = ((w.alloc (.cells #[.nilFunc, .nilFunc] 160)).alloc (.cells #[.nilFunc, .nilFunc, .nilFunc, .nilFunc, .nilFunc, .nilFunc, .nilFunc, .nilFunc, .nilFunc, .nilFunc] 186))) := ⟨_, rfl⟩
  rw [← hW.out] at hR hS hB
  have c0 : W.cell? ⟨w.heap.size + 1, 0, none⟩ = some .nilFunc := hR.cell (i := 0) (by decide)
  have r0 : W.frozen? ⟨w.heap.size + 1, 0, none⟩ = false := World.rowIs.frozen hR 0
  have c1 : W.cell? ⟨w.heap.size + 1, 1, none⟩ = some .nilFunc := hR.cell (i := 1) (by decide)
  have r1 : W.frozen? ⟨w.heap.size + 1, 1, none⟩ = false := World.rowIs.frozen hR 1
  have c2 : W.cell? ⟨w.heap.size + 1, 2, none⟩ = some .nilFunc := hR.cell (i := 2) (by decide)
  have r2 : W.frozen? ⟨w.heap.size + 1, 2, none⟩ = false := World.rowIs.frozen hR 2
  have c3 : W.cell? ⟨w.heap.size + 1, 3, none⟩ = some .nilFunc := hR.cell (i := 3) (by decide)
  have r3 : W.frozen? ⟨w.heap.size + 1, 3, none⟩ = false := World.rowIs.frozen hR 3
  have c4 : W.cell? ⟨w.heap.size + 1, 4, none⟩ = some .nilFunc := hR.cell (i := 4) (by decide)
  have r4 : W.frozen? ⟨w.heap.size + 1, 4, none⟩ = false := World.rowIs.frozen hR 4
  have c5 : W.cell? ⟨w.heap.size + 1, 5, none⟩ = some .nilFunc := hR.cell (i := 5) (by decide)
  have r5 : W.frozen? ⟨w.heap.size + 1, 5, none⟩ = false := World.rowIs.frozen hR 5
  have c6 : W.cell? ⟨w.heap.size + 1, 6, none⟩ = some .nilFunc := hR.cell (i := 6) (by decide)
  have r6 : W.frozen? ⟨w.heap.size + 1, 6, none⟩ = false := World.rowIs.frozen hR 6
  have c7 : W.cell? ⟨w.heap.size + 1, 7, none⟩ = some .nilFunc := hR.cell (i := 7) (by decide)
  have r7 : W.frozen? ⟨w.heap.size + 1, 7, none⟩ = false := World.rowIs.frozen hR 7
  have c8 : W.cell? ⟨w.heap.size + 1, 8, none⟩ = some .nilFunc := hR.cell (i := 8) (by decide)
  have r8 : W.frozen? ⟨w.heap.size + 1, 8, none⟩ = false := World.rowIs.frozen hR 8
  have c9 : W.cell? ⟨w.heap.size + 1, 9, none⟩ = some .nilFunc := hR.cell (i := 9) (by decide)
  have r9 : W.frozen? ⟨w.heap.size + 1, 9, none⟩ = false := World.rowIs.frozen hR 9
  have d0 : W.cell? ⟨w.heap.size, 0, none⟩ = some .nilFunc := hS.cell (i := 0) (by decide)
  have s0 : W.frozen? ⟨w.heap.size, 0, none⟩ = false := World.rowIs.frozen hS 0
  have d1 : W.cell? ⟨w.heap.size, 1, none⟩ = some .nilFunc := hS.cell (i := 1) (by decide)
  have s1 : W.frozen? ⟨w.heap.size, 1, none⟩ = false := World.rowIs.frozen hS 1
  have HB : Hid (Below w.heap.size w ((((((((((((W.setCell ⟨w.heap.size + 1, 0, none⟩ (.nilFunc)).setCell ⟨w.heap.size + 1, 1, none⟩ (.nilFunc)).setCell ⟨w.heap.size + 1, 2, none⟩ (.func (.func 148) #[] #[])).setCell ⟨w.heap.size + 1, 3, none⟩ (.func (.func 149) #[] #[])).setCell ⟨w.heap.size + 1, 4, none⟩ (.func (.func 150) #[] #[])).setCell ⟨w.heap.size + 1, 5, none⟩ (.func (.func 151) #[] #[])).setCell ⟨w.heap.size + 1, 6, none⟩ (.func (.func 152) #[] #[])).setCell ⟨w.heap.size + 1, 7, none⟩ (.func (.func 153) #[] #[])).setCell ⟨w.heap.size + 1, 8, none⟩ (.func (.func 154) #[] #[])).setCell ⟨w.heap.size + 1, 9, none⟩ (.func (.func 155) #[] #[])).setCell ⟨w.heap.size, 0, none⟩ (.func (.func 152) #[] #[])).setCell ⟨w.heap.size, 1, none⟩ (.func (.func 153) #[] #[]))) := (((((((((((hB.setCell (Nat.le_succ _) _).setCell (Nat.le_succ _) _).setCell (Nat.le_succ _) _).setCell (Nat.le_succ _) _).setCell (Nat.le_succ _) _).setCell (Nat.le_succ _) _).setCell (Nat.le_succ _) _).setCell (Nat.le_succ _) _).setCell (Nat.le_succ _) _).setCell (Nat.le_succ _) _).setCell (Nat.le_refl _) _).setCell (Nat.le_refl _) _
  clear hR hS
  have sn := store_nil
  have sf := store_fn
  go_enter Tryz.func121, Tryz.ntmps121
  go_wp2_with (rw [← hW.out])
  exact bodyPost_ret (v := .agg #[.func (.func 152) #[] #[], .func (.func 153) #[] #[]]) (by simp [results, Tryz.results121, go_sem, d0, d1]) rfl ⟨rfl, HB.out⟩
set_option maxHeartbeats 1000000 in
theorem formOf_Bool (w : World) :
    Calls Tryz.prog 121 #[.int .i64 4] w fun e w' => e = .returned (.agg #[.func (.func 154) #[] #[], .func (.func 155) #[] #[]]) ∧ Below w.heap.size w w' := by
  have hR := World.rowIs_alloc (w.alloc (.cells #[.nilFunc, .nilFunc] 160)) #[.nilFunc, .nilFunc, .nilFunc, .nilFunc, .nilFunc, .nilFunc, .nilFunc, .nilFunc, .nilFunc, .nilFunc] 186 (fun _ => .nilFunc) (fun j hj => by match j, hj with | 0, _ => rfl | 1, _ => rfl | 2, _ => rfl | 3, _ => rfl | 4, _ => rfl | 5, _ => rfl | 6, _ => rfl | 7, _ => rfl | 8, _ => rfl | 9, _ => rfl)
  rw [show (w.alloc (.cells #[.nilFunc, .nilFunc] 160)).heap.size = w.heap.size + 1 by simp] at hR
  have hS := (World.rowIs_alloc w #[.nilFunc, .nilFunc] 160 (fun _ => .nilFunc) (fun j hj => by match j, hj with | 0, _ => rfl | 1, _ => rfl)).of_block (w' := ((w.alloc (.cells #[.nilFunc, .nilFunc] 160)).alloc (.cells #[.nilFunc, .nilFunc, .nilFunc, .nilFunc, .nilFunc, .nilFunc, .nilFunc, .nilFunc, .nilFunc, .nilFunc] 186))) (Below.heap_alloc _ _ _ (by simp))
  have hB : Below w.heap.size w ((w.alloc (.cells #[.nilFunc, .nilFunc] 160)).alloc (.cells #[.nilFunc, .nilFunc, .nilFunc, .nilFunc, .nilFunc, .nilFunc, .nilFunc, .nilFunc, .nilFunc, .nilFunc] 186)) := ((Below.refl _ _).alloc (Nat.le_refl _) _).alloc (by simp) _
  obtain ⟨W, hW⟩ : ∃ W, Hid (W = ((w.alloc (.cells #[.nilFunc, .nilFunc] 160)).alloc (.cells #[.nilFunc, .nilFunc, .nilFunc, .nilFunc, .nilFunc, .nilFunc, .nilFunc, .nilFunc, .nilFunc, .nilFunc] 186))) := ⟨_, rfl⟩
  rw [← hW.out] at hR hS hB
  have c0 : W.cell? ⟨w.heap.size + 1, 0, none⟩ = some .nilFunc := hR.cell (i := 0) (by decide)
  have r0 : W.frozen? ⟨w.heap.size + 1, 0, none⟩ = false := World.rowIs.frozen hR 0
  have c1 : W.cell? ⟨w.heap.size + 1, 1, none⟩ = some .nilFunc := hR.cell (i := 1) (by decide)
  have r1 : W.frozen? ⟨w.heap.size + 1, 1, none⟩ = false := World.rowIs.frozen hR 1
  have c2 : W.cell? ⟨w.heap.size + 1, 2, none⟩ = some .nilFunc := hR.cell (i := 2) (by decide)
  have r2 : W.frozen? ⟨w.heap.size + 1, 2, none⟩ = false := World.rowIs.frozen hR 2
  have c3 : W.cell? ⟨w.heap.size + 1, 3, none⟩ = some .nilFunc := hR.cell (i := 3) (by decide)
  have r3 : W.frozen? ⟨w.heap.size + 1, 3, none⟩ = false := World.rowIs.frozen hR 3
  have c4 : W.cell? ⟨w.heap.size + 1, 4, none⟩ = some .nilFunc := hR.cell (i := 4) (by decide)
  have r4 : W.frozen? ⟨w.heap.size + 1, 4, none⟩ = false := World.rowIs.frozen hR 4
  have c5 : W.cell? ⟨w.heap.size + 1, 5, none⟩ = some .nilFunc := hR.cell (i := 5) (by decide)
  have r5 : W.frozen? ⟨w.heap.size + 1, 5, none⟩ = false := World.rowIs.frozen hR 5
  have c6 : W.cell? ⟨w.heap.size + 1, 6, none⟩ = some .nilFunc := hR.cell (i := 6) (by decide)
  have r6 : W.frozen? ⟨w.heap.size + 1, 6, none⟩ = false := World.rowIs.frozen hR 6
  have c7 : W.cell? ⟨w.heap.size + 1, 7, none⟩ = some .nilFunc := hR.cell (i := 7) (by decide)
  have r7 : W.frozen? ⟨w.heap.size + 1, 7, none⟩ = false := World.rowIs.frozen hR 7
  have c8 : W.cell? ⟨w.heap.size + 1, 8, none⟩ = some .nilFunc := hR.cell (i := 8) (by decide)
  have r8 : W.frozen? ⟨w.heap.size + 1, 8, none⟩ = false := World.rowIs.frozen hR 8
  have c9 : W.cell? ⟨w.heap.size + 1, 9, none⟩ = some .nilFunc := hR.cell (i := 9) (by decide)
  have r9 : W.frozen? ⟨w.heap.size + 1, 9, none⟩ = false := World.rowIs.frozen hR 9
  have d0 : W.cell? ⟨w.heap.size, 0, none⟩ = some .nilFunc := hS.cell (i := 0) (by decide)
  have s0 : W.frozen? ⟨w.heap.size, 0, none⟩ = false := World.rowIs.frozen hS 0
  have d1 : W.cell? ⟨w.heap.size, 1, none⟩ = some .nilFunc := hS.cell (i := 1) (by decide)
  have s1 : W.frozen? ⟨w.heap.size, 1, none⟩ = false := World.rowIs.frozen hS 1
  have HB : Hid (Below w.heap.size w ((((((((((((W.setCell ⟨w.heap.size + 1, 0, none⟩ (.nilFunc)).setCell ⟨w.heap.size + 1, 1, none⟩ (.nilFunc)).setCell ⟨w.heap.size + 1, 2, none⟩ (.func (.func 148) #[] #[])).setCell ⟨w.heap.size + 1, 3, none⟩ (.func (.func 149) #[] #[])).setCell ⟨w.heap.size + 1, 4, none⟩ (.func (.func 150) #[] #[])).setCell ⟨w.heap.size + 1, 5, none⟩ (.func (.func 151) #[] #[])).setCell ⟨w.heap.size + 1, 6, none⟩ (.func (.func 152) #[] #[])).setCell ⟨w.heap.size + 1, 7, none⟩ (.func (.func 153) #[] #[])).setCell ⟨w.heap.size + 1, 8, none⟩ (.func (.func 154) #[] #[])).setCell ⟨w.heap.size + 1, 9, none⟩ (.func (.func 155) #[] #[])).setCell ⟨w.heap.size, 0, none⟩ (.func (.func 154) #[] #[])).setCell ⟨w.heap.size, 1, none⟩ (.func (.func 155) #[] #[]))) := (((((((((((hB.setCell (Nat.le_succ _) _).setCell (Nat.le_succ _) _).setCell (Nat.le_succ _) _).setCell (Nat.le_succ _) _).setCell (Nat.le_succ _) _).setCell (Nat.le_succ _) _).setCell (Nat.le_succ _) _).setCell (Nat.le_succ _) _).setCell (Nat.le_succ _) _).setCell (Nat.le_succ _) _).setCell (Nat.le_refl _) _).setCell (Nat.le_refl _) _
  clear hR hS
  have sn := store_nil
  have sf := store_fn
  go_enter Tryz.func121, Tryz.ntmps121
  go_wp2_with (rw [← hW.out])
  exact bodyPost_ret (v := .agg #[.func (.func 154) #[] #[], .func (.func 155) #[] #[]]) (by simp [results, Tryz.results121, go_sem, d0, d1]) rfl ⟨rfl, HB.out⟩

theorem formOf_any (t : Int) (w : World) (h : 1 ≤ t ∧ t ≤ 4) :
    Calls Tryz.prog 121 #[.int .i64 t] w fun e w' => e = .returned (.agg #[(formV t).1, (formV t).2]) ∧ Below w.heap.size w w' := by
  obtain rfl | rfl | rfl | rfl : t = 1 ∨ t = 2 ∨ t = 3 ∨ t = 4 := by omega
  · exact formOf_Int w
  · exact formOf_Num w
  · exact formOf_Text w
  · exact formOf_Bool w
end Go.Proofs.YtjoimkfpenbkmabGreatDoor

/-
  The program's setDigits: it fills all of the room with the number's last bytes, the highest first, and writes nothing else.
-/
namespace Go.Proofs.YtjoimkfpenbkmabGreatDoor
open Go.RowKit
set_option maxRecDepth 4000

/-- From d on the room holds what it is to hold. -/
def fillF (off k d : Nat) (n : Int) (f : Nat → Int) (i : Nat) : Int := if off + d ≤ i ∧ i < off + k then be k n (i - off) else f i
theorem fillF_step (off k d : Nat) (n : Int) (f : Nat → Int) (hd : d + 1 ≤ k) (i : Nat) : (if i = off + d then n / 256 ^ (k - (d + 1)) % 256 else fillF off k (d + 1) n f i) = fillF off k d n f i := by
  unfold fillF
  by_cases e : i = off + d
  · subst e
    rw [if_pos rfl, if_pos (by omega)]
    unfold be dg
    rw [show k - 1 - (off + d - off) = k - (d + 1) by omega]
  · rw [if_neg e]
    by_cases h : off + (d + 1) ≤ i ∧ i < off + k
    · rw [if_pos h, if_pos (by omega)]
    · rw [if_neg h, if_neg (by omega)]

/-- Of the room all behind d is filled. -/
structure Filled (t : TypeId) (w wr : World) (g off k m : Nat) (n : Int) (f : Nat → Int) (d : Nat) : Prop where
  row : Row t wr g m (fillF off k d n f)
  only : Only g w wr
theorem filled_step {t : TypeId} {w wr : World} {g off k m : Nat} {n : Int} {f : Nat → Int} {d : Nat} (h : Filled t w wr g off k m n f (d + 1)) (hd : d + 1 ≤ k) : Filled t w (wr.setCell ⟨g, off + d, none⟩ (.int .u8 (n / 256 ^ (k - (d + 1)) % 256))) g off k m n f d :=
  ⟨(h.row.set (off + d) _).congr (fun i _ => fillF_step off k d n f hd i), h.only.setCell _⟩

set_option maxHeartbeats 1000000 in
theorem setDigits_any (t : TypeId) (g off k c m : Nat) (f : Nat → Int) (n : Int) (w : World) (hr : Row t w g m f) (hm : off + k ≤ m) (hk : k ≤ 1000) (hn0 : 0 ≤ n) :
    Calls Tryz.prog 158 #[.slice (some ⟨g, off, none⟩) k c, .int .i64 n] w fun e w' => e = .returned (.tuple #[]) ∧ Row t w' g m (fillF off k 0 n f) ∧ Only g w w' := by
  have hF0 : Filled t w w g off k m n f k := ⟨hr.congr (fun i _ => by unfold fillF; rw [if_neg (by omega)]), Only.refl _ _⟩
  clear hr
  go_enter Tryz.func158, Tryz.ntmps158
  go_wp2
  go_loopg [1, 4] k (fun q a i wr => ∃ d : Nat, d ≤ k ∧ q = d ∧ a = .int .i64 (n / 256 ^ (k - d)) ∧ i = .int .i64 ((d : Int) - 1) ∧ Filled t w wr g off k m n f d)
  case atStart => exact ⟨k, Nat.le_refl _, rfl, by simp, rfl, hF0⟩
  case round =>
    obtain ⟨d, hd, hq, rfl, rfl, hF⟩ := hrel
    clear hF0
    have ha0 : 0 ≤ n / 256 ^ (k - d) := Int.ediv_nonneg hn0 (Int.le_of_lt (Int.pow_pos (by decide)))
    have ha1 : n / 256 ^ (k - d) ≤ n := Int.ediv_le_self _ hn0
    rcases d with _ | d
    · have hR := hF.row
      have hO := hF.only
      clear hF
      go_wp2
      go_end0
      exact ⟨rfl, hR, hO⟩
    · have HS : Hid _ := filled_step hF hd
      have hc := hF.row.cell (i := off + d) (by omega)
      have hf := hF.row.frozen (off + d)
      have HN : Hid (n / 256 ^ (k - (d + 1)) / 256 = n / 256 ^ (k - d)) := by show _ = _; rw [div_pow_succ, show k - (d + 1) + 1 = k - d by omega]
      clear hF
      generalize n / 256 ^ (k - (d + 1)) = a at *
      go_wp2
      go_roundg d
      case measure => omega
      case rel => exact ⟨d, by omega, rfl, by rw [← HN.out], by go_num, HS.out⟩
end Go.Proofs.YtjoimkfpenbkmabGreatDoor

/-
  The program's PutFix: what was there, and behind it the number's four bytes, in memory of its own.
-/
namespace Go.Proofs.YtjoimkfpenbkmabGreatDoor
open Go.RowKit
set_option maxRecDepth 4000

theorem Row.zero4 (w : World) (t : TypeId) : Row t (w.alloc (.cells #[.int .u8 0, .int .u8 0, .int .u8 0, .int .u8 0] t)) w.heap.size 4 (fun _ => 0) :=
  Row.ofIs (World.rowIs_alloc w #[.int .u8 0, .int .u8 0, .int .u8 0, .int .u8 0] t (fun _ => .int .u8 0) (fun j hj => by match j, hj with | 0, _ => rfl | 1, _ => rfl | 2, _ => rfl | 3, _ => rfl))

theorem fix_row {t : TypeId} {w : World} {g : Nat} {y : Int} {f : Nat → Int} (x : Int) (h : Row t w g 4 (fillF 0 4 0 y f)) (hy : y = clampF x + 2147483648) : Row t w g 4 (fun i => (fixL x).getD i 0) := by
  subst hy
  refine h.congr (fun i hi => ?_)
  unfold fillF
  rw [if_pos (by omega), Nat.sub_zero]
  unfold fixL
  rw [lof_get 4 _ i hi]

set_option maxHeartbeats 1000000 in
theorem putFix_impl (b off n cap : Nat) (f : Nat → Int) (x : Int) (w : World) (hv : View w (some ⟨b, off, none⟩) n cap f) (hn : n ≤ 70368744170000) (hx0 : -9223372036854775808 ≤ x) (hx1 : x ≤ 9223372036854775807) :
    Calls Tryz.prog 175 #[.slice (some ⟨b, off, none⟩) n cap, .int .i64 x] w fun e w' => ∃ g c, e = .returned (.slice (some ⟨g, 0, none⟩) (n + 4) c) ∧ w.heap.size ≤ g ∧ n + 4 ≤ c ∧ Row 5 w' g (n + 4) (fun i => (lof n f ++ fixL x).getD i 0) ∧ Below w.heap.size w w' := by
  have hb0 : ∀ o, Below w.heap.size w (w.alloc o) := fun o => (Below.refl _ _).alloc (Nat.le_refl _) _
  go_enter Tryz.func175, Tryz.ntmps175
  go_wp2_with fail
  all_goals
    refine (setDigits_any _ w.heap.size 0 4 4 4 (fun _ => 0) _ _ (Row.zero4 w _) (by omega) (by omega) (by omega)).mono ?_
    rintro e w1 ⟨rfl, hr1, ho1⟩
    replace hr1 := fix_row x hr1 (by unfold clampF; split <;> (try split) <;> omega)
    have hb1 : Below w.heap.size w w1 := (hb0 _).trans (ho1.below (Nat.le_refl _))
    have hV1 := hr1.view (cap := 4) (Nat.le_refl _) (fun i hi => fixL_byte x _ (getD_in (by rw [fixL_len]; exact hi)))
    clear hb0 ho1 hr1
    go_wp2_with fail
    refine (putBytes_any b off n cap f (some ⟨w.heap.size, 0, none⟩) 4 4 _ w1 (hv.below hb1) hV1 (fun h => by cases h) (by omega)).mono ?_
    rintro e w2 ⟨rfl, hown, hb2⟩
    have hE : lof 4 (fun i => (fixL x).getD i 0) = fixL x := by have := lof_self (fixL x); rw [fixL_len] at this; exact this
    rw [hE] at hown
    have HR : Hid _ := row_of_owned hown
    replace hb2 := hb1.trans (hb2.mono hb1.size)
    have hs := hb1.size
    clear hown hE hV1 hb1
    go_wp2
    go_ret
    exact ⟨_, _, rfl, hs, Nat.le_refl _, HR.out, hb2⟩
end Go.Proofs.YtjoimkfpenbkmabGreatDoor

/-
  math/bits.Len, as far as the program leans on it: of how many bits a number is follows how many bytes it has.
-/
namespace Go.Proofs.YtjoimkfpenbkmabGreatDoor
open Go.RowKit
set_option maxRecDepth 4000

theorem bitLen_byte (x : Nat) (h0 : 0 < x) (h1 : x < 256) : 1 ≤ Lib.bitLen x ∧ Lib.bitLen x ≤ 8 := by
  refine ⟨?_, Lib.bitLen_le8 ⟨x, h1⟩⟩
  rw [Lib.bitLen_half x (by omega) (by omega)]
  omega
theorem cnt_bits (x : Nat) (h : x < 72057594037927936) : (Lib.bitLen x + 7) / 8 = cnt (x : Int) ∧ Lib.bitLen x ≤ 56 := by
  unfold cnt
  by_cases h0 : x = 0
  · subst h0; exact ⟨rfl, by decide⟩
  rw [if_neg (by omega)]
  by_cases h1 : x < 256
  · rw [if_pos (by omega)]
    have := bitLen_byte x (by omega) h1
    omega
  rw [if_neg (by omega)]
  by_cases h2 : x < 65536
  · rw [if_pos (by omega), Lib.bitLen_shift8 x (by omega) (by omega)]
    have := bitLen_byte (x / 256) (by omega) (by omega)
    omega
  rw [if_neg (by omega)]
  by_cases h3 : x < 16777216
  · rw [if_pos (by omega), Lib.bitLen_shift16 x (by omega) (by omega)]
    have := bitLen_byte (x / 65536) (by omega) (by omega)
    omega
  rw [if_neg (by omega)]
  by_cases h4 : x < 4294967296
  · rw [if_pos (by omega), Lib.bitLen_shift24 x (by omega) (by omega)]
    have := bitLen_byte (x / 16777216) (by omega) (by omega)
    omega
  rw [if_neg (by omega)]
  by_cases h5 : x < 1099511627776
  · rw [if_pos (by omega), Lib.bitLen_shift32 x (by omega) (by omega)]
    have := bitLen_byte (x / 4294967296) (by omega) (by omega)
    omega
  rw [if_neg (by omega)]
  by_cases h6 : x < 281474976710656
  · rw [if_pos (by omega), Lib.bitLen_shift40 x (by omega) (by omega)]
    have := bitLen_byte (x / 1099511627776) (by omega) (by omega)
    omega
  rw [if_neg (by omega)]
  rw [Lib.bitLen_shift48 x (by omega) (by omega)]
  have := bitLen_byte (x / 281474976710656) (by omega) (by omega)
  omega

theorem bitsLen_any (x : Int) (w : World) (h0 : 0 ≤ x) (h1 : x < 72057594037927936) :
    Calls Tryz.prog 157 #[.int .u64 x] w fun e w' => ∃ L : Nat, e = .returned (.int .i64 (L : Int)) ∧ L ≤ 56 ∧ Hid ((L + 7) / 8 = cnt x) ∧ w = w' := by
  refine (Tryz.bits_Len x w h0 (by omega)).mono ?_
  rintro e w' ⟨rfl, rfl⟩
  have h := cnt_bits x.toNat (by omega)
  rw [Int.toNat_of_nonneg h0] at h
  exact ⟨_, rfl, h.2, h.1, rfl⟩
end Go.Proofs.YtjoimkfpenbkmabGreatDoor

/-
  The program's PutVar: what was there, and behind it the number's bytes, in memory of its own.
-/
namespace Go.Proofs.YtjoimkfpenbkmabGreatDoor
open Go.RowKit
set_option maxRecDepth 4000

theorem slice8 (A c : Nat) (hc : c ≤ 7) (W : World) :
    (Instr.sliceAt 190 (.pointer (some ⟨A, 0, none⟩)) (some (.int .i64 0)) (some (.int .i64 (1 + (c : Int)))) (some (.int .i64 (1 + (c : Int))))).run Tryz.prog W = .ok (.slice (some ⟨A, 0, none⟩) (1 + c) (1 + c)) W := by
  have e8 : Tryz.prog.arrayLen 190 = 8 := by kernel_rfl
  have e5 : Tryz.prog.elem 190 = 5 := by kernel_rfl
  rw [run_sliceAt_array_lhm W 190 _ (by kernel_rfl) .i64 .i64 .i64 0 (1 + (c : Int)) (1 + (c : Int)) (by omega) (by omega) (by omega) (by rw [e8]; omega), e5]
  have e1 : (sizeOf 5).run Tryz.prog W = .ok 1 W := by go_simp
  rw [e1]
  simp only [Result.andThen, slicedAt]
  rw [show (1 + (c : Int)).toNat = 1 + c by omega]
  simp [Addr.add]

/-- The head and the bytes behind it, as they stand ahead of a turn. -/
def wholeF (c : Nat) (s : Int) (i : Nat) : Int := if i = 0 then 128 + (c : Int) else be c s (i - 1)
theorem wholeF_bd (c : Nat) (s : Int) (hc : c ≤ 7) (i : Nat) : 0 ≤ wholeF c s i ∧ wholeF c s i ≤ 255 := by
  have := be_bd c s (i - 1)
  unfold wholeF
  split <;> omega
theorem whole_up {c : Nat} {s y : Int} (hs : s = sizeV y) (hc : c = cnt s) (hy : 0 ≤ y) : lof (1 + c) (wholeF c s) = keptL y := by
  subst hs hc
  rw [lof_cons]
  unfold keptL headV
  rw [if_neg (by omega)]
  congr 1
  unfold lof
  apply List.map_congr_left
  intro i _
  unfold wholeF tailV
  rw [if_neg (by omega), if_neg (by omega)]
  rfl
theorem whole_down {c : Nat} {s y : Int} (hs : s = sizeV y) (hc : c = cnt s) (hy : y < 0) : lof (1 + c) (flipF (wholeF c s) 0) = keptL y := by
  subst hs hc
  rw [lof_cons]
  unfold keptL headV
  rw [if_pos hy]
  congr 1
  · unfold flipF wholeF
    rw [if_pos (by omega), if_pos rfl]
    omega
  · unfold lof
    apply List.map_congr_left
    intro i _
    unfold flipF wholeF tailV
    rw [if_pos (by omega), if_neg (by omega), if_pos hy]
    rfl

theorem Row.zero8 (w : World) (t : TypeId) (h : Int) : Row t (w.alloc (.cells #[.int .u8 h, .int .u8 0, .int .u8 0, .int .u8 0, .int .u8 0, .int .u8 0, .int .u8 0, .int .u8 0] t)) w.heap.size 8 (fun i => if i = 0 then h else 0) :=
  Row.ofIs (World.rowIs_alloc w #[.int .u8 h, .int .u8 0, .int .u8 0, .int .u8 0, .int .u8 0, .int .u8 0, .int .u8 0, .int .u8 0] t (fun i => .int .u8 (if i = 0 then h else 0)) (fun j hj => by match j, hj with | 0, _ => rfl | 1, _ => rfl | 2, _ => rfl | 3, _ => rfl | 4, _ => rfl | 5, _ => rfl | 6, _ => rfl | 7, _ => rfl))
theorem Row.cut {t : TypeId} {w : World} {b n m : Nat} {f g : Nat → Int} (h : Row t w b n f) (hm : m ≤ n) (e : ∀ i, i < m → f i = g i) : Row t w b m g := by
  obtain ⟨c, hb, hn, hc⟩ := h
  exact ⟨c, hb, by omega, fun i hi => by rw [hc i (by omega), e i hi]⟩

set_option maxHeartbeats 1000000 in
theorem putVar_impl (b off n cap : Nat) (f : Nat → Int) (x : Int) (w : World) (hv : View w (some ⟨b, off, none⟩) n cap f) (hn : n ≤ 70368744170000) (hx0 : -9223372036854775808 ≤ x) (hx1 : x ≤ 9223372036854775807) :
    Calls Tryz.prog 126 #[.slice (some ⟨b, off, none⟩) n cap, .int .i64 x] w fun e w' => ∃ g c, e = .returned (.slice (some ⟨g, 0, none⟩) (n + (varL x).length) c) ∧ w.heap.size ≤ g ∧ n + (varL x).length ≤ c ∧ Row 5 w' g (n + (varL x).length) (fun i => (lof n f ++ varL x).getD i 0) ∧ Below w.heap.size w w' := by
  have hb0 : ∀ o, Below w.heap.size w (w.alloc o) := fun o => (Below.refl _ _).alloc (Nat.le_refl _) _
  obtain ⟨y, hy⟩ : ∃ y, y = clampV x := ⟨_, rfl⟩
  have hyb := clampV_bd x
  obtain ⟨s, hs⟩ : ∃ s, s = sizeV y := ⟨_, rfl⟩
  have hsb := sizeV_bd (clampV x) hyb
  rw [← hy] at hyb hsb
  rw [← hs] at hsb
  have hy1 : min (max x (-1000000000000000)) 1000000000000000 = y := by rw [hy]; unfold clampV; (repeat' split) <;> omega
  have hy2 : max y (-1 - y) = s := by rw [hs]; unfold sizeV; split <;> omega
  have HY : Hid (y = clampV x) := hy
  have HS : Hid (s = sizeV y) := hs
  clear hy hs
  obtain ⟨c, hcd⟩ : ∃ c : Nat, Hid (c = cnt s) := ⟨_, rfl⟩
  have hc7 : c ≤ 7 := by rw [hcd.out]; exact cnt_le _
  have HF : Hid (∀ (g off k : Nat) (w1 : World) (t : TypeId), Row t w1 g 8 (fillF off k 0 s (fun i => if i = 0 then 128 + (c : Int) else 0)) → (c = 0 ∧ k = 0) ∨ (off = 1 ∧ k = c) → View w1 (some ⟨g, 0, none⟩) (1 + c) (1 + c) (wholeF c s)) := by
    intro g off k w1 t hr hk
    refine (hr.cut (m := 1 + c) (by omega) (g := wholeF c s) (fun i hi => ?_)).view (Nat.le_refl _) (fun i _ => wholeF_bd c s hc7 i)
    unfold fillF wholeF
    by_cases h0 : i = 0
    · subst h0
      rw [if_neg (by omega), if_pos rfl]
      exact if_pos rfl
    · rw [if_pos (by omega), if_neg h0]
      rcases hk with ⟨h1, h2⟩ | ⟨rfl, rfl⟩
      · omega
      · rfl
  have hlen : n + (varL x).length = n + (1 + c) := by
    unfold varL
    rw [keptL_len, ← HY.out, ← HS.out, ← hcd.out]
    omega
  have HL : Hid (varL x = keptL y) := by show _ = _; unfold varL; rw [← HY.out]
  rw [hlen]
  clear hlen
  have hsl := slice8 w.heap.size c hc7
  go_enter Tryz.func126, Tryz.ntmps126
  go_wp2_with fail
  refine (bitsLen_any s w hsb.1 (by omega)).mono ?_
  rintro e _ ⟨L, rfl, hL, hcl, rfl⟩
  have hLc : ((L : Int) + 7) / 8 = (c : Int) := by
    have h1 : (L + 7) / 8 = c := by
      rw [hcd.out]
      exact hcl.out
    omega
  clear hcl
  by_cases hc0 : c = 0
  · subst hc0
    go_wp2_with fail
    refine (setDigits_any _ w.heap.size 0 0 0 8 (fun i => if i = 0 then 128 + ((0 : Nat) : Int) else 0) s _ (Row.zero8 w _ (128 + ((0 : Nat) : Int))) (by omega) (by omega) hsb.1).mono ?_
    rintro e w1 ⟨rfl, hr1, ho1⟩
    have hV1 := HF.out w.heap.size 0 0 w1 _ hr1 (by simp)
    have hb1 : Below w.heap.size w w1 := (hb0 _).trans (ho1.below (Nat.le_refl _))
    clear hr1 ho1 HF hb0 hsl
    by_cases hyn : y < 0
    · go_wp2_with fail
      refine (flip_impl w.heap.size 0 (1 + 0) (1 + 0) (wholeF 0 s) 0 w1 hV1 (by omega) (by omega)).mono ?_
      rintro e w2 ⟨g, cg, rfl, hg, hgc, hr2, hb2⟩
      have hV2 := hr2.view hgc (flipF_byte 0 (fun i _ => wholeF_bd 0 s hc7 i))
      replace hb2 := hb1.trans (hb2.mono hb1.size)
      clear hr2 hV1 hb1 hg hgc
      go_wp2_with fail
      refine (putBytes_any b off n cap f (some ⟨g, 0, none⟩) (1 + 0) cg _ w2 (hv.below hb2) hV2 (fun h => by cases h) (by omega)).mono ?_
      rintro e w3 ⟨rfl, hown, hb3⟩
      have HE : lof (1 + 0) (flipF (wholeF 0 s) 0) = varL x := (whole_down HS.out hcd.out hyn).trans HL.out.symm
      rw [HE] at hown
      have HR : Hid _ := row_of_owned hown
      have hb4 := hb2.trans (hb3.mono hb2.size)
      have hsz := hb2.size
      clear hown HE hV2 hb3 hb2 hv
      go_wp2
      go_ret
      exact ⟨_, _, rfl, hsz, Nat.le_refl _, HR.out, hb4⟩
    · have hb2 := hb1
      have hV2 := hV1
      clear hb1 hV1
      go_wp2_with fail
      refine (putBytes_any b off n cap f (some ⟨w.heap.size, 0, none⟩) (1 + 0) (1 + 0) _ w1 (hv.below hb2) hV2 (fun h => by cases h) (by omega)).mono ?_
      rintro e w3 ⟨rfl, hown, hb3⟩
      have HE : lof (1 + 0) (wholeF 0 s) = varL x := (whole_up HS.out hcd.out (by omega)).trans HL.out.symm
      rw [HE] at hown
      have HR : Hid _ := row_of_owned hown
      have hb4 := hb2.trans (hb3.mono hb2.size)
      have hsz := hb2.size
      clear hown HE hV2 hb3 hb2 hv
      go_wp2
      go_ret
      exact ⟨_, _, rfl, hsz, Nat.le_refl _, HR.out, hb4⟩
  · go_wp2_with fail
    refine (setDigits_any _ w.heap.size 1 c c 8 (fun i => if i = 0 then 128 + (c : Int) else 0) s _ (Row.zero8 w _ (128 + (c : Int))) (by omega) (by omega) hsb.1).mono ?_
    rintro e w1 ⟨rfl, hr1, ho1⟩
    have hV1 := HF.out w.heap.size 1 c w1 _ hr1 (Or.inr ⟨rfl, rfl⟩)
    have hb1 : Below w.heap.size w w1 := (hb0 _).trans (ho1.below (Nat.le_refl _))
    clear hr1 ho1 HF hb0 hsl
    by_cases hyn : y < 0
    · go_wp2_with fail
      refine (flip_impl w.heap.size 0 (1 + c) (1 + c) (wholeF c s) 0 w1 hV1 (by omega) (by omega)).mono ?_
      rintro e w2 ⟨g, cg, rfl, hg, hgc, hr2, hb2⟩
      have hV2 := hr2.view hgc (flipF_byte 0 (fun i _ => wholeF_bd c s hc7 i))
      replace hb2 := hb1.trans (hb2.mono hb1.size)
      clear hr2 hV1 hb1 hg hgc
      go_wp2_with fail
      refine (putBytes_any b off n cap f (some ⟨g, 0, none⟩) (1 + c) cg _ w2 (hv.below hb2) hV2 (fun h => by cases h) (by omega)).mono ?_
      rintro e w3 ⟨rfl, hown, hb3⟩
      have HE : lof (1 + c) (flipF (wholeF c s) 0) = varL x := (whole_down HS.out hcd.out hyn).trans HL.out.symm
      rw [HE] at hown
      have HR : Hid _ := row_of_owned hown
      have hb4 := hb2.trans (hb3.mono hb2.size)
      have hsz := hb2.size
      clear hown HE hV2 hb3 hb2 hv
      go_wp2
      go_ret
      exact ⟨_, _, rfl, hsz, Nat.le_refl _, HR.out, hb4⟩
    · have hb2 := hb1
      have hV2 := hV1
      clear hb1 hV1
      go_wp2_with fail
      refine (putBytes_any b off n cap f (some ⟨w.heap.size, 0, none⟩) (1 + c) (1 + c) _ w1 (hv.below hb2) hV2 (fun h => by cases h) (by omega)).mono ?_
      rintro e w3 ⟨rfl, hown, hb3⟩
      have HE : lof (1 + c) (wholeF c s) = varL x := (whole_up HS.out hcd.out (by omega)).trans HL.out.symm
      rw [HE] at hown
      have HR : Hid _ := row_of_owned hown
      have hb4 := hb2.trans (hb3.mono hb2.size)
      have hsz := hb2.size
      clear hown HE hV2 hb3 hb2 hv
      go_wp2
      go_ret
      exact ⟨_, _, rfl, hsz, Nat.le_refl _, HR.out, hb4⟩
end Go.Proofs.YtjoimkfpenbkmabGreatDoor

