/-
  WriteSpec
-/
import Derived.Test.YtdhfbblameiloaaUP8
import Derived.Test.YtdhfbblameiloaaUP17
import Derived.Test.YtdhfbblameiloaaUP15
import Derived.Test.YtdhfbblameiloaaUP3
/-
  The model's WriteSec.
-/
namespace Go.Proofs.Ytdhfbblameiloaa
open Go.RowKit
set_option maxRecDepth 4000

set_option maxHeartbeats 8000000 in
theorem specWrite_any (v : Value) (D : PDisk) (n : Int) (ba : Option Addr) (bc : Nat) (l : List Int) (w : World) (h : KView w v D) (hf : KFine D) (hb : View w ba l.length bc (bf l)) (hbn : ba = none → bc = 0) (hbl : l.length ≤ 1048576) :
    Calls Try.prog 10 #[v, .int .i64 n, .slice ba l.length bc] w (DTo w (writeD D n l).1 (writeD D n l).2) := by
  have HVB : Hid (View w ba l.length bc (bf l)) := hb
  clear hb
  obtain ⟨sa, sc, ca, cc, fa, fc, rfl, hs, hc, hfv⟩ := h.is
  have hv : KView w (.agg #[.slice sa D.secs.length sc, .slice ca D.cache.length cc, .int .i64 D.ops, .slice fa D.faults.length fc, .bool D.down]) D := ⟨sa, sc, ca, cc, fa, fc, rfl, hs, hc, hfv⟩
  clear h hs hc hfv
  have hA0 := VN.new w 32 [.slice sa D.secs.length sc, .slice ca D.cache.length cc, .int .i64 D.ops, .slice fa D.faults.length fc, .bool D.down]
  have hR := VN.new (w.alloc (.cells #[.slice sa D.secs.length sc, .slice ca D.cache.length cc, .int .i64 D.ops, .slice fa D.faults.length fc, .bool D.down] 32)) 32 [.slice none 0 0, .slice none 0 0, .int .i64 0, .slice none 0 0, .bool false]
  rw [alloc_sizeK] at hR
  have hbel : Below w.heap.size w ((w.alloc (.cells #[.slice sa D.secs.length sc, .slice ca D.cache.length cc, .int .i64 D.ops, .slice fa D.faults.length fc, .bool D.down] 32)).alloc (.cells #[.slice none 0 0, .slice none 0 0, .int .i64 0, .slice none 0 0, .bool false] 32)) := ((Below.refl _ _).alloc (Nat.le_refl _) _).alloc (by simp) _
  obtain ⟨W0, hW0⟩ := hidEx ((w.alloc (.cells #[.slice sa D.secs.length sc, .slice ca D.cache.length cc, .int .i64 D.ops, .slice fa D.faults.length fc, .bool D.down] 32)).alloc (.cells #[.slice none 0 0, .slice none 0 0, .int .i64 0, .slice none 0 0, .bool false] 32))
  have hz : W0.heap.size = w.heap.size + 1 + 1 := by rw [← hW0.out]; simp
  have hA := hA0.below ((Below.refl _ _).alloc (Nat.le_refl _) (.cells #[.slice none 0 0, .slice none 0 0, .int .i64 0, .slice none 0 0, .bool false] 32))
  rw [hW0.out] at hbel
  replace hA : VN W0 w.heap.size 32 [.slice sa D.secs.length sc, .slice ca D.cache.length cc, .int .i64 D.ops, .slice fa D.faults.length fc, .bool D.down] := by rw [← hW0.out]; exact hA
  replace hR : VN W0 (w.heap.size + 1) 32 [.slice none 0 0, .slice none 0 0, .int .i64 0, .slice none 0 0, .bool false] := by rw [← hW0.out]; exact hR
  have hS := l12Copy_own _ D W0 (hv.below hbel) hf
  have x0 : W0.cell? ⟨w.heap.size, 0, none⟩ = some (.slice sa D.secs.length sc) := hA.cell 0
  have x1 : W0.cell? ⟨w.heap.size, 1, none⟩ = some (.slice ca D.cache.length cc) := hA.cell 1
  have x2 : W0.cell? ⟨w.heap.size, 2, none⟩ = some (.int .i64 D.ops) := hA.cell 2
  have x3 : W0.cell? ⟨w.heap.size, 3, none⟩ = some (.slice fa D.faults.length fc) := hA.cell 3
  have x4 : W0.cell? ⟨w.heap.size, 4, none⟩ = some (.bool D.down) := hA.cell 4
  clear hA0
  go_enter Try.func10, Try.ntmps10
  go_wp2_with (rw [hW0.out])
  refine hS.mono ?_
  rintro e W1 ⟨v1, rfl, hO1, hb1⟩
  obtain ⟨ta, tc, da, dc, ga, gc, ss, cs, rfl, hk, hO, hFo⟩ := hO1
  rw [hz] at hk hO hFo
  unfold dval
  clear x0 x1 x2 x3 x4 hS
  have hbw : Below w.heap.size w W1 := hbel.trans (hb1.mono hbel.size)
  replace hR := hR.below hb1
  replace hA := hA.below hb1
  have hsz : w.heap.size + 1 + 1 ≤ W1.heap.size := by rw [← hz]; exact hb1.size
  have hbA : Below W1.heap.size W1 (W1.alloc (.cells #[.slice ta D.secs.length tc, .slice da D.cache.length dc, .int .i64 D.ops, .slice ga D.faults.length gc, .bool D.down] 32)) := (Below.refl _ _).alloc (Nat.le_refl _) _
  have hX := VN.new W1 32 [.slice ta D.secs.length tc, .slice da D.cache.length dc, .int .i64 D.ops, .slice ga D.faults.length gc, .bool D.down]
  have hk2 := hk.up (Up.ofBelow hbA)
  have hO2 := own_upK hO (Up.ofBelow hbA)
  have hFo2 := own_upK hFo (Up.ofBelow hbA)
  replace hR := hR.below hbA
  replace hA := hA.below hbA
  replace hbw := hbw.trans (hbA.mono hbw.size)
  have x0 : (W1.alloc (.cells #[.slice ta D.secs.length tc, .slice da D.cache.length dc, .int .i64 D.ops, .slice ga D.faults.length gc, .bool D.down] 32)).cell? ⟨w.heap.size, 0, none⟩ = some (.slice sa D.secs.length sc) := hA.cell 0
  have x1 : (W1.alloc (.cells #[.slice ta D.secs.length tc, .slice da D.cache.length dc, .int .i64 D.ops, .slice ga D.faults.length gc, .bool D.down] 32)).cell? ⟨w.heap.size, 1, none⟩ = some (.slice ca D.cache.length cc) := hA.cell 1
  have x2 : (W1.alloc (.cells #[.slice ta D.secs.length tc, .slice da D.cache.length dc, .int .i64 D.ops, .slice ga D.faults.length gc, .bool D.down] 32)).cell? ⟨w.heap.size, 2, none⟩ = some (.int .i64 D.ops) := hA.cell 2
  have x3 : (W1.alloc (.cells #[.slice ta D.secs.length tc, .slice da D.cache.length dc, .int .i64 D.ops, .slice ga D.faults.length gc, .bool D.down] 32)).cell? ⟨w.heap.size, 3, none⟩ = some (.slice fa D.faults.length fc) := hA.cell 3
  have x4 : (W1.alloc (.cells #[.slice ta D.secs.length tc, .slice da D.cache.length dc, .int .i64 D.ops, .slice ga D.faults.length gc, .bool D.down] 32)).cell? ⟨w.heap.size, 4, none⟩ = some (.bool D.down) := hA.cell 4
  have hMy := specDiskOk_any _ D (W1.alloc (.cells #[.slice ta D.secs.length tc, .slice da D.cache.length dc, .int .i64 D.ops, .slice ga D.faults.length gc, .bool D.down] 32)) (hv.below hbw) hf
  have hn0 := hf.ns
  clear hk hb1 hbA hbel hO
  go_wp2_with fail
  refine hMy.mono ?_
  rintro e W3 ⟨rok, rfl, hrok0, hb3⟩
  have hrok : Hid (rok = true ↔ OkD D) := hrok0
  clear x0 x1 x2 x3 x4 hMy hrok0
  obtain ⟨X, hXe⟩ := hidEx W1.heap.size
  rw [hXe.out] at hX hsz ⊢
  obtain ⟨W2, hW2⟩ := hidEx (W1.alloc (.cells #[.slice ta D.secs.length tc, .slice da D.cache.length dc, .int .i64 D.ops, .slice ga D.faults.length gc, .bool D.down] 32))
  rw [hW2.out] at hX hk2 hR hA hbw hb3 hO2 hFo2
  have hX3 := hX.below hb3
  have hk3 := hk2.up (Up.ofBelow hb3)
  have hO3 := own_upK hO2 (Up.ofBelow hb3)
  have hFo3 := own_upK hFo2 (Up.ofBelow hb3)
  have hR3 := hR.below hb3
  have hA3 := hA.below hb3
  have hXl := hX.lt
  have hb3' := hbw.trans (hb3.mono hbw.size)
  have hsz3 := hb3.size
  clear hX hk2 hR hA hbw hb3 hW2 hXe hO2 hFo2
  cases rok
  · have HF : Hid (writeD D n l = (D, 1)) := writeD_no (fun h => by have := hrok.out.2 h.1; cases this)
    have hBw := hb3'
    have hXw := hX3
    have hRw := hR3
    have a0 : W3.cell? ⟨X, 0, none⟩ = some (.slice ta D.secs.length tc) := hXw.cell 0
    have a1 : W3.cell? ⟨X, 1, none⟩ = some (.slice da D.cache.length dc) := hXw.cell 1
    have a2 : W3.cell? ⟨X, 2, none⟩ = some (.int .i64 D.ops) := hXw.cell 2
    have a3 : W3.cell? ⟨X, 3, none⟩ = some (.slice ga D.faults.length gc) := hXw.cell 3
    have a4 : W3.cell? ⟨X, 4, none⟩ = some (.bool D.down) := hXw.cell 4
    have r0 : W3.cell? ⟨w.heap.size + 1, 0, none⟩ = some (.slice none 0 0) := hRw.cell 0
    have r1 : W3.cell? ⟨w.heap.size + 1, 1, none⟩ = some (.slice none 0 0) := hRw.cell 1
    have r2 : W3.cell? ⟨w.heap.size + 1, 2, none⟩ = some (.int .i64 0) := hRw.cell 2
    have r3 : W3.cell? ⟨w.heap.size + 1, 3, none⟩ = some (.slice none 0 0) := hRw.cell 3
    have r4 : W3.cell? ⟨w.heap.size + 1, 4, none⟩ = some (.bool false) := hRw.cell 4
    have z0 := hRw.fz 0
    have z1 := hRw.fz 1
    have z2 := hRw.fz 2
    have z3 := hRw.fz 3
    have z4 := hRw.fz 4
    have hRv := ret5_vn (.slice ta D.secs.length tc) (.slice da D.cache.length dc) (.int .i64 D.ops) (.slice ga D.faults.length gc) (.bool D.down) hRw
    have hRk := ret5_keep (.slice ta D.secs.length tc) (.slice da D.cache.length dc) (.int .i64 D.ops) (.slice ga D.faults.length gc) (.bool D.down) hRw
    have hRb := ret5_below (R := w.heap.size + 1) (.slice ta D.secs.length tc) (.slice da D.cache.length dc) (.int .i64 D.ops) (.slice ga D.faults.length gc) (.bool D.down) hBw (by omega)
    have m0 : (((((W3.setCell ⟨w.heap.size + 1, 0, none⟩ (.slice ta D.secs.length tc)).setCell ⟨w.heap.size + 1, 1, none⟩ (.slice da D.cache.length dc)).setCell ⟨w.heap.size + 1, 2, none⟩ (.int .i64 D.ops)).setCell ⟨w.heap.size + 1, 3, none⟩ (.slice ga D.faults.length gc)).setCell ⟨w.heap.size + 1, 4, none⟩ (.bool D.down)).cell? ⟨w.heap.size + 1, 0, none⟩ = some (.slice ta D.secs.length tc) := hRv.cell 0
    have m1 : (((((W3.setCell ⟨w.heap.size + 1, 0, none⟩ (.slice ta D.secs.length tc)).setCell ⟨w.heap.size + 1, 1, none⟩ (.slice da D.cache.length dc)).setCell ⟨w.heap.size + 1, 2, none⟩ (.int .i64 D.ops)).setCell ⟨w.heap.size + 1, 3, none⟩ (.slice ga D.faults.length gc)).setCell ⟨w.heap.size + 1, 4, none⟩ (.bool D.down)).cell? ⟨w.heap.size + 1, 1, none⟩ = some (.slice da D.cache.length dc) := hRv.cell 1
    have m2 : (((((W3.setCell ⟨w.heap.size + 1, 0, none⟩ (.slice ta D.secs.length tc)).setCell ⟨w.heap.size + 1, 1, none⟩ (.slice da D.cache.length dc)).setCell ⟨w.heap.size + 1, 2, none⟩ (.int .i64 D.ops)).setCell ⟨w.heap.size + 1, 3, none⟩ (.slice ga D.faults.length gc)).setCell ⟨w.heap.size + 1, 4, none⟩ (.bool D.down)).cell? ⟨w.heap.size + 1, 2, none⟩ = some (.int .i64 D.ops) := hRv.cell 2
    have m3 : (((((W3.setCell ⟨w.heap.size + 1, 0, none⟩ (.slice ta D.secs.length tc)).setCell ⟨w.heap.size + 1, 1, none⟩ (.slice da D.cache.length dc)).setCell ⟨w.heap.size + 1, 2, none⟩ (.int .i64 D.ops)).setCell ⟨w.heap.size + 1, 3, none⟩ (.slice ga D.faults.length gc)).setCell ⟨w.heap.size + 1, 4, none⟩ (.bool D.down)).cell? ⟨w.heap.size + 1, 3, none⟩ = some (.slice ga D.faults.length gc) := hRv.cell 3
    have m4 : (((((W3.setCell ⟨w.heap.size + 1, 0, none⟩ (.slice ta D.secs.length tc)).setCell ⟨w.heap.size + 1, 1, none⟩ (.slice da D.cache.length dc)).setCell ⟨w.heap.size + 1, 2, none⟩ (.int .i64 D.ops)).setCell ⟨w.heap.size + 1, 3, none⟩ (.slice ga D.faults.length gc)).setCell ⟨w.heap.size + 1, 4, none⟩ (.bool D.down)).cell? ⟨w.heap.size + 1, 4, none⟩ = some (.bool D.down) := hRv.cell 4
    have HR : Hid (DTo w (writeD D n l).1 (writeD D n l).2 (.returned (.tuple #[dval D ta tc da dc ga gc, .int .i64 1])) (((((W3.setCell ⟨w.heap.size + 1, 0, none⟩ (.slice ta D.secs.length tc)).setCell ⟨w.heap.size + 1, 1, none⟩ (.slice da D.cache.length dc)).setCell ⟨w.heap.size + 1, 2, none⟩ (.int .i64 D.ops)).setCell ⟨w.heap.size + 1, 3, none⟩ (.slice ga D.faults.length gc)).setCell ⟨w.heap.size + 1, 4, none⟩ (.bool D.down))) := by
      rw [HF.out]
      have k9 := hk3.keepT hRk (by rw [ret5_size]; exact Nat.le_refl _) (by decide) (by decide) (by decide) (by decide)
      obtain ⟨q1, q2, q3⟩ := k9.view
      exact ⟨ta, tc, da, dc, ga, gc, rfl, ⟨_, _, _, _, _, _, rfl, q1, q2, q3⟩, hRb⟩
    clear hk3
    clear hRv hRk hRb hXw hRw
    go_wp2
    refine bodyPost_ret (v := .tuple #[dval D ta tc da dc ga gc, .int .i64 1]) (by simp [results, Try.results10, go_sem, m0, m1, m2, m3, m4, dval]) rfl HR.out
  have hok : OkD D := hrok.out.1 rfl
  clear hrok
  have x0 : W3.cell? ⟨w.heap.size, 0, none⟩ = some (.slice sa D.secs.length sc) := hA3.cell 0
  have x1 : W3.cell? ⟨w.heap.size, 1, none⟩ = some (.slice ca D.cache.length cc) := hA3.cell 1
  have x2 : W3.cell? ⟨w.heap.size, 2, none⟩ = some (.int .i64 D.ops) := hA3.cell 2
  have x3 : W3.cell? ⟨w.heap.size, 3, none⟩ = some (.slice fa D.faults.length fc) := hA3.cell 3
  have x4 : W3.cell? ⟨w.heap.size, 4, none⟩ = some (.bool D.down) := hA3.cell 4
  have hHs := l1In_any n 0 ((D.secs.length : Int) - 1) W3
  have hwr : IntKind.i64.wrap ((D.secs.length : Int) - 1) = (D.secs.length : Int) - 1 := by rw [IntKind.wrap_i64]; omega
  obtain ⟨rh, hrh0⟩ := hidEx (decide (0 ≤ n) && decide (n ≤ (D.secs.length : Int) - 1))
  have hrh : Hid (rh = true ↔ HasS D n) := by
    show _ ↔ _
    rw [← hrh0.out]
    unfold HasS
    simp only [Bool.and_eq_true, decide_eq_true_eq]
    omega
  rw [hrh0.out] at hHs
  clear hrh0
  go_wp2_with fail
  refine hHs.mono ?_
  rintro e _ ⟨rfl, rfl⟩
  clear hHs
  cases rh
  · have HF : Hid (writeD D n l = (D, 1)) := writeD_no (fun h => by have := hrh.out.2 h.2.1; cases this)
    clear x0 x1 x2 x3 x4
    have hBw := hb3'
    have hXw := hX3
    have hRw := hR3
    have a0 : W3.cell? ⟨X, 0, none⟩ = some (.slice ta D.secs.length tc) := hXw.cell 0
    have a1 : W3.cell? ⟨X, 1, none⟩ = some (.slice da D.cache.length dc) := hXw.cell 1
    have a2 : W3.cell? ⟨X, 2, none⟩ = some (.int .i64 D.ops) := hXw.cell 2
    have a3 : W3.cell? ⟨X, 3, none⟩ = some (.slice ga D.faults.length gc) := hXw.cell 3
    have a4 : W3.cell? ⟨X, 4, none⟩ = some (.bool D.down) := hXw.cell 4
    have r0 : W3.cell? ⟨w.heap.size + 1, 0, none⟩ = some (.slice none 0 0) := hRw.cell 0
    have r1 : W3.cell? ⟨w.heap.size + 1, 1, none⟩ = some (.slice none 0 0) := hRw.cell 1
    have r2 : W3.cell? ⟨w.heap.size + 1, 2, none⟩ = some (.int .i64 0) := hRw.cell 2
    have r3 : W3.cell? ⟨w.heap.size + 1, 3, none⟩ = some (.slice none 0 0) := hRw.cell 3
    have r4 : W3.cell? ⟨w.heap.size + 1, 4, none⟩ = some (.bool false) := hRw.cell 4
    have z0 := hRw.fz 0
    have z1 := hRw.fz 1
    have z2 := hRw.fz 2
    have z3 := hRw.fz 3
    have z4 := hRw.fz 4
    have hRv := ret5_vn (.slice ta D.secs.length tc) (.slice da D.cache.length dc) (.int .i64 D.ops) (.slice ga D.faults.length gc) (.bool D.down) hRw
    have hRk := ret5_keep (.slice ta D.secs.length tc) (.slice da D.cache.length dc) (.int .i64 D.ops) (.slice ga D.faults.length gc) (.bool D.down) hRw
    have hRb := ret5_below (R := w.heap.size + 1) (.slice ta D.secs.length tc) (.slice da D.cache.length dc) (.int .i64 D.ops) (.slice ga D.faults.length gc) (.bool D.down) hBw (by omega)
    have m0 : (((((W3.setCell ⟨w.heap.size + 1, 0, none⟩ (.slice ta D.secs.length tc)).setCell ⟨w.heap.size + 1, 1, none⟩ (.slice da D.cache.length dc)).setCell ⟨w.heap.size + 1, 2, none⟩ (.int .i64 D.ops)).setCell ⟨w.heap.size + 1, 3, none⟩ (.slice ga D.faults.length gc)).setCell ⟨w.heap.size + 1, 4, none⟩ (.bool D.down)).cell? ⟨w.heap.size + 1, 0, none⟩ = some (.slice ta D.secs.length tc) := hRv.cell 0
    have m1 : (((((W3.setCell ⟨w.heap.size + 1, 0, none⟩ (.slice ta D.secs.length tc)).setCell ⟨w.heap.size + 1, 1, none⟩ (.slice da D.cache.length dc)).setCell ⟨w.heap.size + 1, 2, none⟩ (.int .i64 D.ops)).setCell ⟨w.heap.size + 1, 3, none⟩ (.slice ga D.faults.length gc)).setCell ⟨w.heap.size + 1, 4, none⟩ (.bool D.down)).cell? ⟨w.heap.size + 1, 1, none⟩ = some (.slice da D.cache.length dc) := hRv.cell 1
    have m2 : (((((W3.setCell ⟨w.heap.size + 1, 0, none⟩ (.slice ta D.secs.length tc)).setCell ⟨w.heap.size + 1, 1, none⟩ (.slice da D.cache.length dc)).setCell ⟨w.heap.size + 1, 2, none⟩ (.int .i64 D.ops)).setCell ⟨w.heap.size + 1, 3, none⟩ (.slice ga D.faults.length gc)).setCell ⟨w.heap.size + 1, 4, none⟩ (.bool D.down)).cell? ⟨w.heap.size + 1, 2, none⟩ = some (.int .i64 D.ops) := hRv.cell 2
    have m3 : (((((W3.setCell ⟨w.heap.size + 1, 0, none⟩ (.slice ta D.secs.length tc)).setCell ⟨w.heap.size + 1, 1, none⟩ (.slice da D.cache.length dc)).setCell ⟨w.heap.size + 1, 2, none⟩ (.int .i64 D.ops)).setCell ⟨w.heap.size + 1, 3, none⟩ (.slice ga D.faults.length gc)).setCell ⟨w.heap.size + 1, 4, none⟩ (.bool D.down)).cell? ⟨w.heap.size + 1, 3, none⟩ = some (.slice ga D.faults.length gc) := hRv.cell 3
    have m4 : (((((W3.setCell ⟨w.heap.size + 1, 0, none⟩ (.slice ta D.secs.length tc)).setCell ⟨w.heap.size + 1, 1, none⟩ (.slice da D.cache.length dc)).setCell ⟨w.heap.size + 1, 2, none⟩ (.int .i64 D.ops)).setCell ⟨w.heap.size + 1, 3, none⟩ (.slice ga D.faults.length gc)).setCell ⟨w.heap.size + 1, 4, none⟩ (.bool D.down)).cell? ⟨w.heap.size + 1, 4, none⟩ = some (.bool D.down) := hRv.cell 4
    have HR : Hid (DTo w (writeD D n l).1 (writeD D n l).2 (.returned (.tuple #[dval D ta tc da dc ga gc, .int .i64 1])) (((((W3.setCell ⟨w.heap.size + 1, 0, none⟩ (.slice ta D.secs.length tc)).setCell ⟨w.heap.size + 1, 1, none⟩ (.slice da D.cache.length dc)).setCell ⟨w.heap.size + 1, 2, none⟩ (.int .i64 D.ops)).setCell ⟨w.heap.size + 1, 3, none⟩ (.slice ga D.faults.length gc)).setCell ⟨w.heap.size + 1, 4, none⟩ (.bool D.down))) := by
      rw [HF.out]
      have k9 := hk3.keepT hRk (by rw [ret5_size]; exact Nat.le_refl _) (by decide) (by decide) (by decide) (by decide)
      obtain ⟨q1, q2, q3⟩ := k9.view
      exact ⟨ta, tc, da, dc, ga, gc, rfl, ⟨_, _, _, _, _, _, rfl, q1, q2, q3⟩, hRb⟩
    clear hk3
    clear hRv hRk hRb hXw hRw
    go_wp2
    refine bodyPost_ret (v := .tuple #[dval D ta tc da dc ga gc, .int .i64 1]) (by simp [results, Try.results10, go_sem, m0, m1, m2, m3, m4, dval]) rfl HR.out
  have HHS : Hid (HasS D n ∧ OkD D) := ⟨hrh.out.1 rfl, hok⟩
  clear hrh hok
  by_cases hbig : (256 : Int) < (l.length : Int)
  · have HF : Hid (writeD D n l = (D, 1)) := writeD_no (fun h => by have := h.2.2.1; omega)
    clear x0 x1 x2 x3 x4
    have hBw := hb3'
    have hXw := hX3
    have hRw := hR3
    have a0 : W3.cell? ⟨X, 0, none⟩ = some (.slice ta D.secs.length tc) := hXw.cell 0
    have a1 : W3.cell? ⟨X, 1, none⟩ = some (.slice da D.cache.length dc) := hXw.cell 1
    have a2 : W3.cell? ⟨X, 2, none⟩ = some (.int .i64 D.ops) := hXw.cell 2
    have a3 : W3.cell? ⟨X, 3, none⟩ = some (.slice ga D.faults.length gc) := hXw.cell 3
    have a4 : W3.cell? ⟨X, 4, none⟩ = some (.bool D.down) := hXw.cell 4
    have r0 : W3.cell? ⟨w.heap.size + 1, 0, none⟩ = some (.slice none 0 0) := hRw.cell 0
    have r1 : W3.cell? ⟨w.heap.size + 1, 1, none⟩ = some (.slice none 0 0) := hRw.cell 1
    have r2 : W3.cell? ⟨w.heap.size + 1, 2, none⟩ = some (.int .i64 0) := hRw.cell 2
    have r3 : W3.cell? ⟨w.heap.size + 1, 3, none⟩ = some (.slice none 0 0) := hRw.cell 3
    have r4 : W3.cell? ⟨w.heap.size + 1, 4, none⟩ = some (.bool false) := hRw.cell 4
    have z0 := hRw.fz 0
    have z1 := hRw.fz 1
    have z2 := hRw.fz 2
    have z3 := hRw.fz 3
    have z4 := hRw.fz 4
    have hRv := ret5_vn (.slice ta D.secs.length tc) (.slice da D.cache.length dc) (.int .i64 D.ops) (.slice ga D.faults.length gc) (.bool D.down) hRw
    have hRk := ret5_keep (.slice ta D.secs.length tc) (.slice da D.cache.length dc) (.int .i64 D.ops) (.slice ga D.faults.length gc) (.bool D.down) hRw
    have hRb := ret5_below (R := w.heap.size + 1) (.slice ta D.secs.length tc) (.slice da D.cache.length dc) (.int .i64 D.ops) (.slice ga D.faults.length gc) (.bool D.down) hBw (by omega)
    have m0 : (((((W3.setCell ⟨w.heap.size + 1, 0, none⟩ (.slice ta D.secs.length tc)).setCell ⟨w.heap.size + 1, 1, none⟩ (.slice da D.cache.length dc)).setCell ⟨w.heap.size + 1, 2, none⟩ (.int .i64 D.ops)).setCell ⟨w.heap.size + 1, 3, none⟩ (.slice ga D.faults.length gc)).setCell ⟨w.heap.size + 1, 4, none⟩ (.bool D.down)).cell? ⟨w.heap.size + 1, 0, none⟩ = some (.slice ta D.secs.length tc) := hRv.cell 0
    have m1 : (((((W3.setCell ⟨w.heap.size + 1, 0, none⟩ (.slice ta D.secs.length tc)).setCell ⟨w.heap.size + 1, 1, none⟩ (.slice da D.cache.length dc)).setCell ⟨w.heap.size + 1, 2, none⟩ (.int .i64 D.ops)).setCell ⟨w.heap.size + 1, 3, none⟩ (.slice ga D.faults.length gc)).setCell ⟨w.heap.size + 1, 4, none⟩ (.bool D.down)).cell? ⟨w.heap.size + 1, 1, none⟩ = some (.slice da D.cache.length dc) := hRv.cell 1
    have m2 : (((((W3.setCell ⟨w.heap.size + 1, 0, none⟩ (.slice ta D.secs.length tc)).setCell ⟨w.heap.size + 1, 1, none⟩ (.slice da D.cache.length dc)).setCell ⟨w.heap.size + 1, 2, none⟩ (.int .i64 D.ops)).setCell ⟨w.heap.size + 1, 3, none⟩ (.slice ga D.faults.length gc)).setCell ⟨w.heap.size + 1, 4, none⟩ (.bool D.down)).cell? ⟨w.heap.size + 1, 2, none⟩ = some (.int .i64 D.ops) := hRv.cell 2
    have m3 : (((((W3.setCell ⟨w.heap.size + 1, 0, none⟩ (.slice ta D.secs.length tc)).setCell ⟨w.heap.size + 1, 1, none⟩ (.slice da D.cache.length dc)).setCell ⟨w.heap.size + 1, 2, none⟩ (.int .i64 D.ops)).setCell ⟨w.heap.size + 1, 3, none⟩ (.slice ga D.faults.length gc)).setCell ⟨w.heap.size + 1, 4, none⟩ (.bool D.down)).cell? ⟨w.heap.size + 1, 3, none⟩ = some (.slice ga D.faults.length gc) := hRv.cell 3
    have m4 : (((((W3.setCell ⟨w.heap.size + 1, 0, none⟩ (.slice ta D.secs.length tc)).setCell ⟨w.heap.size + 1, 1, none⟩ (.slice da D.cache.length dc)).setCell ⟨w.heap.size + 1, 2, none⟩ (.int .i64 D.ops)).setCell ⟨w.heap.size + 1, 3, none⟩ (.slice ga D.faults.length gc)).setCell ⟨w.heap.size + 1, 4, none⟩ (.bool D.down)).cell? ⟨w.heap.size + 1, 4, none⟩ = some (.bool D.down) := hRv.cell 4
    have HR : Hid (DTo w (writeD D n l).1 (writeD D n l).2 (.returned (.tuple #[dval D ta tc da dc ga gc, .int .i64 1])) (((((W3.setCell ⟨w.heap.size + 1, 0, none⟩ (.slice ta D.secs.length tc)).setCell ⟨w.heap.size + 1, 1, none⟩ (.slice da D.cache.length dc)).setCell ⟨w.heap.size + 1, 2, none⟩ (.int .i64 D.ops)).setCell ⟨w.heap.size + 1, 3, none⟩ (.slice ga D.faults.length gc)).setCell ⟨w.heap.size + 1, 4, none⟩ (.bool D.down))) := by
      rw [HF.out]
      have k9 := hk3.keepT hRk (by rw [ret5_size]; exact Nat.le_refl _) (by decide) (by decide) (by decide) (by decide)
      obtain ⟨q1, q2, q3⟩ := k9.view
      exact ⟨ta, tc, da, dc, ga, gc, rfl, ⟨_, _, _, _, _, _, rfl, q1, q2, q3⟩, hRb⟩
    clear hk3
    clear hRv hRk hRb hXw hRw
    go_wp2
    refine bodyPost_ret (v := .tuple #[dval D ta tc da dc ga gc, .int .i64 1]) (by simp [results, Try.results10, go_sem, m0, m1, m2, m3, m4, dval]) rfl HR.out
  by_cases hc60 : (60 : Int) ≤ (D.cache.length : Int)
  · have HF : Hid (writeD D n l = (D, 1)) := writeD_no (fun h => by have := h.2.2.2; omega)
    have hBw := hb3'
    have hXw := hX3
    have hRw := hR3
    have a0 : W3.cell? ⟨X, 0, none⟩ = some (.slice ta D.secs.length tc) := hXw.cell 0
    have a1 : W3.cell? ⟨X, 1, none⟩ = some (.slice da D.cache.length dc) := hXw.cell 1
    have a2 : W3.cell? ⟨X, 2, none⟩ = some (.int .i64 D.ops) := hXw.cell 2
    have a3 : W3.cell? ⟨X, 3, none⟩ = some (.slice ga D.faults.length gc) := hXw.cell 3
    have a4 : W3.cell? ⟨X, 4, none⟩ = some (.bool D.down) := hXw.cell 4
    have r0 : W3.cell? ⟨w.heap.size + 1, 0, none⟩ = some (.slice none 0 0) := hRw.cell 0
    have r1 : W3.cell? ⟨w.heap.size + 1, 1, none⟩ = some (.slice none 0 0) := hRw.cell 1
    have r2 : W3.cell? ⟨w.heap.size + 1, 2, none⟩ = some (.int .i64 0) := hRw.cell 2
    have r3 : W3.cell? ⟨w.heap.size + 1, 3, none⟩ = some (.slice none 0 0) := hRw.cell 3
    have r4 : W3.cell? ⟨w.heap.size + 1, 4, none⟩ = some (.bool false) := hRw.cell 4
    have z0 := hRw.fz 0
    have z1 := hRw.fz 1
    have z2 := hRw.fz 2
    have z3 := hRw.fz 3
    have z4 := hRw.fz 4
    have hRv := ret5_vn (.slice ta D.secs.length tc) (.slice da D.cache.length dc) (.int .i64 D.ops) (.slice ga D.faults.length gc) (.bool D.down) hRw
    have hRk := ret5_keep (.slice ta D.secs.length tc) (.slice da D.cache.length dc) (.int .i64 D.ops) (.slice ga D.faults.length gc) (.bool D.down) hRw
    have hRb := ret5_below (R := w.heap.size + 1) (.slice ta D.secs.length tc) (.slice da D.cache.length dc) (.int .i64 D.ops) (.slice ga D.faults.length gc) (.bool D.down) hBw (by omega)
    have m0 : (((((W3.setCell ⟨w.heap.size + 1, 0, none⟩ (.slice ta D.secs.length tc)).setCell ⟨w.heap.size + 1, 1, none⟩ (.slice da D.cache.length dc)).setCell ⟨w.heap.size + 1, 2, none⟩ (.int .i64 D.ops)).setCell ⟨w.heap.size + 1, 3, none⟩ (.slice ga D.faults.length gc)).setCell ⟨w.heap.size + 1, 4, none⟩ (.bool D.down)).cell? ⟨w.heap.size + 1, 0, none⟩ = some (.slice ta D.secs.length tc) := hRv.cell 0
    have m1 : (((((W3.setCell ⟨w.heap.size + 1, 0, none⟩ (.slice ta D.secs.length tc)).setCell ⟨w.heap.size + 1, 1, none⟩ (.slice da D.cache.length dc)).setCell ⟨w.heap.size + 1, 2, none⟩ (.int .i64 D.ops)).setCell ⟨w.heap.size + 1, 3, none⟩ (.slice ga D.faults.length gc)).setCell ⟨w.heap.size + 1, 4, none⟩ (.bool D.down)).cell? ⟨w.heap.size + 1, 1, none⟩ = some (.slice da D.cache.length dc) := hRv.cell 1
    have m2 : (((((W3.setCell ⟨w.heap.size + 1, 0, none⟩ (.slice ta D.secs.length tc)).setCell ⟨w.heap.size + 1, 1, none⟩ (.slice da D.cache.length dc)).setCell ⟨w.heap.size + 1, 2, none⟩ (.int .i64 D.ops)).setCell ⟨w.heap.size + 1, 3, none⟩ (.slice ga D.faults.length gc)).setCell ⟨w.heap.size + 1, 4, none⟩ (.bool D.down)).cell? ⟨w.heap.size + 1, 2, none⟩ = some (.int .i64 D.ops) := hRv.cell 2
    have m3 : (((((W3.setCell ⟨w.heap.size + 1, 0, none⟩ (.slice ta D.secs.length tc)).setCell ⟨w.heap.size + 1, 1, none⟩ (.slice da D.cache.length dc)).setCell ⟨w.heap.size + 1, 2, none⟩ (.int .i64 D.ops)).setCell ⟨w.heap.size + 1, 3, none⟩ (.slice ga D.faults.length gc)).setCell ⟨w.heap.size + 1, 4, none⟩ (.bool D.down)).cell? ⟨w.heap.size + 1, 3, none⟩ = some (.slice ga D.faults.length gc) := hRv.cell 3
    have m4 : (((((W3.setCell ⟨w.heap.size + 1, 0, none⟩ (.slice ta D.secs.length tc)).setCell ⟨w.heap.size + 1, 1, none⟩ (.slice da D.cache.length dc)).setCell ⟨w.heap.size + 1, 2, none⟩ (.int .i64 D.ops)).setCell ⟨w.heap.size + 1, 3, none⟩ (.slice ga D.faults.length gc)).setCell ⟨w.heap.size + 1, 4, none⟩ (.bool D.down)).cell? ⟨w.heap.size + 1, 4, none⟩ = some (.bool D.down) := hRv.cell 4
    have HR : Hid (DTo w (writeD D n l).1 (writeD D n l).2 (.returned (.tuple #[dval D ta tc da dc ga gc, .int .i64 1])) (((((W3.setCell ⟨w.heap.size + 1, 0, none⟩ (.slice ta D.secs.length tc)).setCell ⟨w.heap.size + 1, 1, none⟩ (.slice da D.cache.length dc)).setCell ⟨w.heap.size + 1, 2, none⟩ (.int .i64 D.ops)).setCell ⟨w.heap.size + 1, 3, none⟩ (.slice ga D.faults.length gc)).setCell ⟨w.heap.size + 1, 4, none⟩ (.bool D.down))) := by
      rw [HF.out]
      have k9 := hk3.keepT hRk (by rw [ret5_size]; exact Nat.le_refl _) (by decide) (by decide) (by decide) (by decide)
      obtain ⟨q1, q2, q3⟩ := k9.view
      exact ⟨ta, tc, da, dc, ga, gc, rfl, ⟨_, _, _, _, _, _, rfl, q1, q2, q3⟩, hRb⟩
    clear hk3
    clear hRv hRk hRb hXw hRw
    go_wp2
    refine bodyPost_ret (v := .tuple #[dval D ta tc da dc ga gc, .int .i64 1]) (by simp [results, Try.results10, go_sem, m0, m1, m2, m3, m4, dval]) rfl HR.out
  have HMAY : Hid (MayW D n l) := ⟨HHS.out.2, HHS.out.1, by omega, by omega⟩
  have HF : Hid (writeD D n l = writeF D n l) := writeD_ok HMAY.out
  have hp : 0 < D.secs.length := by have := HHS.out.2.1.1; omega
  obtain ⟨gs, es⟩ : ∃ gs, ta = some ⟨gs, 0, none⟩ := by
    obtain ⟨g, e, -⟩ := hk3.secs.cell (by rw [hk3.ns]; exact hp)
    exact ⟨g, e⟩
  subst es
  have hMS := MS.start hk3 hX3 hO3 hFo3
  have hFl := l12Write_any (w.heap.size + 1 + 1) X gs tc da dc ga gc ss cs D n ba bc l W3 hMS ⟨hk3.sle, hk3.cle, hk3.cnil, hk3.fle, hk3.fnil⟩ HMAY.out (HVB.out.below hb3') hbn (by omega) hsz
  have hps : 0 < (writeF D n l).1.secs.length := by
    unfold writeF
    split
    · exact hp
    · split
      · show 0 < (settleL D.secs _).length
        rw [settleL_len]; exact hp
      · exact hp
  clear hMS hk3 hX3 hO3 hFo3
  go_wp2_with fail
  refine hFl.mono ?_
  rintro e W4 ⟨rfl, ⟨ca4, cc4, ss4, cs4, hM4, hL4⟩, hb4⟩
  clear hFl x0 x1 x2 x3 x4
  have hXw := hM4.x
  have hRw : VN W4 (w.heap.size + 1) 32 [.slice none 0 0, .slice none 0 0, .int .i64 0, .slice none 0 0, .bool false] := hR3.block (hb4.block _ (by omega))
  have hBw : Below w.heap.size w W4 := hb3'.trans (hb4.mono (by omega))
  obtain ⟨DD, hDD⟩ := hidEx (writeF D n l).1
  obtain ⟨cd, hcd⟩ := hidEx (writeF D n l).2
  rw [hDD.out] at hM4 hL4 hXw hps
  rw [hcd.out]
  clear hR3 hb4 hb3' hA3
  have a0 : W4.cell? ⟨X, 0, none⟩ = some (.slice (some ⟨gs, 0, none⟩) DD.secs.length tc) := hXw.cell 0
  have a1 : W4.cell? ⟨X, 1, none⟩ = some (.slice ca4 DD.cache.length cc4) := hXw.cell 1
  have a2 : W4.cell? ⟨X, 2, none⟩ = some (.int .i64 DD.ops) := hXw.cell 2
  have a3 : W4.cell? ⟨X, 3, none⟩ = some (.slice ga DD.faults.length gc) := hXw.cell 3
  have a4 : W4.cell? ⟨X, 4, none⟩ = some (.bool DD.down) := hXw.cell 4
  have r0 : W4.cell? ⟨w.heap.size + 1, 0, none⟩ = some (.slice none 0 0) := hRw.cell 0
  have r1 : W4.cell? ⟨w.heap.size + 1, 1, none⟩ = some (.slice none 0 0) := hRw.cell 1
  have r2 : W4.cell? ⟨w.heap.size + 1, 2, none⟩ = some (.int .i64 0) := hRw.cell 2
  have r3 : W4.cell? ⟨w.heap.size + 1, 3, none⟩ = some (.slice none 0 0) := hRw.cell 3
  have r4 : W4.cell? ⟨w.heap.size + 1, 4, none⟩ = some (.bool false) := hRw.cell 4
  have z0 := hRw.fz 0
  have z1 := hRw.fz 1
  have z2 := hRw.fz 2
  have z3 := hRw.fz 3
  have z4 := hRw.fz 4
  have hRv := ret5_vn (.slice (some ⟨gs, 0, none⟩) DD.secs.length tc) (.slice ca4 DD.cache.length cc4) (.int .i64 DD.ops) (.slice ga DD.faults.length gc) (.bool DD.down) hRw
  have hRk := ret5_keep (.slice (some ⟨gs, 0, none⟩) DD.secs.length tc) (.slice ca4 DD.cache.length cc4) (.int .i64 DD.ops) (.slice ga DD.faults.length gc) (.bool DD.down) hRw
  have hRb := ret5_below (R := w.heap.size + 1) (.slice (some ⟨gs, 0, none⟩) DD.secs.length tc) (.slice ca4 DD.cache.length cc4) (.int .i64 DD.ops) (.slice ga DD.faults.length gc) (.bool DD.down) hBw (by omega)
  have m0 : (((((W4.setCell ⟨w.heap.size + 1, 0, none⟩ (.slice (some ⟨gs, 0, none⟩) DD.secs.length tc)).setCell ⟨w.heap.size + 1, 1, none⟩ (.slice ca4 DD.cache.length cc4)).setCell ⟨w.heap.size + 1, 2, none⟩ (.int .i64 DD.ops)).setCell ⟨w.heap.size + 1, 3, none⟩ (.slice ga DD.faults.length gc)).setCell ⟨w.heap.size + 1, 4, none⟩ (.bool DD.down)).cell? ⟨w.heap.size + 1, 0, none⟩ = some (.slice (some ⟨gs, 0, none⟩) DD.secs.length tc) := hRv.cell 0
  have m1 : (((((W4.setCell ⟨w.heap.size + 1, 0, none⟩ (.slice (some ⟨gs, 0, none⟩) DD.secs.length tc)).setCell ⟨w.heap.size + 1, 1, none⟩ (.slice ca4 DD.cache.length cc4)).setCell ⟨w.heap.size + 1, 2, none⟩ (.int .i64 DD.ops)).setCell ⟨w.heap.size + 1, 3, none⟩ (.slice ga DD.faults.length gc)).setCell ⟨w.heap.size + 1, 4, none⟩ (.bool DD.down)).cell? ⟨w.heap.size + 1, 1, none⟩ = some (.slice ca4 DD.cache.length cc4) := hRv.cell 1
  have m2 : (((((W4.setCell ⟨w.heap.size + 1, 0, none⟩ (.slice (some ⟨gs, 0, none⟩) DD.secs.length tc)).setCell ⟨w.heap.size + 1, 1, none⟩ (.slice ca4 DD.cache.length cc4)).setCell ⟨w.heap.size + 1, 2, none⟩ (.int .i64 DD.ops)).setCell ⟨w.heap.size + 1, 3, none⟩ (.slice ga DD.faults.length gc)).setCell ⟨w.heap.size + 1, 4, none⟩ (.bool DD.down)).cell? ⟨w.heap.size + 1, 2, none⟩ = some (.int .i64 DD.ops) := hRv.cell 2
  have m3 : (((((W4.setCell ⟨w.heap.size + 1, 0, none⟩ (.slice (some ⟨gs, 0, none⟩) DD.secs.length tc)).setCell ⟨w.heap.size + 1, 1, none⟩ (.slice ca4 DD.cache.length cc4)).setCell ⟨w.heap.size + 1, 2, none⟩ (.int .i64 DD.ops)).setCell ⟨w.heap.size + 1, 3, none⟩ (.slice ga DD.faults.length gc)).setCell ⟨w.heap.size + 1, 4, none⟩ (.bool DD.down)).cell? ⟨w.heap.size + 1, 3, none⟩ = some (.slice ga DD.faults.length gc) := hRv.cell 3
  have m4 : (((((W4.setCell ⟨w.heap.size + 1, 0, none⟩ (.slice (some ⟨gs, 0, none⟩) DD.secs.length tc)).setCell ⟨w.heap.size + 1, 1, none⟩ (.slice ca4 DD.cache.length cc4)).setCell ⟨w.heap.size + 1, 2, none⟩ (.int .i64 DD.ops)).setCell ⟨w.heap.size + 1, 3, none⟩ (.slice ga DD.faults.length gc)).setCell ⟨w.heap.size + 1, 4, none⟩ (.bool DD.down)).cell? ⟨w.heap.size + 1, 4, none⟩ = some (.bool DD.down) := hRv.cell 4
  have HR : Hid (DTo w (writeD D n l).1 (writeD D n l).2 (.returned (.tuple #[dval DD (some ⟨gs, 0, none⟩) tc ca4 cc4 ga gc, .int .i64 cd])) (((((W4.setCell ⟨w.heap.size + 1, 0, none⟩ (.slice (some ⟨gs, 0, none⟩) DD.secs.length tc)).setCell ⟨w.heap.size + 1, 1, none⟩ (.slice ca4 DD.cache.length cc4)).setCell ⟨w.heap.size + 1, 2, none⟩ (.int .i64 DD.ops)).setCell ⟨w.heap.size + 1, 3, none⟩ (.slice ga DD.faults.length gc)).setCell ⟨w.heap.size + 1, 4, none⟩ (.bool DD.down))) := by
    rw [HF.out, hDD.out, hcd.out]
    exact ⟨_, _, _, _, _, _, rfl, (hM4.keepX hRk _ hRv).kview hL4 hps, hRb⟩
  clear hM4 hL4
  clear hRv hRk hRb hXw hRw
  go_wp2
  refine bodyPost_ret (v := .tuple #[dval DD (some ⟨gs, 0, none⟩) tc ca4 cc4 ga gc, .int .i64 cd]) (by simp [results, Try.results10, go_sem, m0, m1, m2, m3, m4, dval]) rfl HR.out
end Go.Proofs.Ytdhfbblameiloaa

