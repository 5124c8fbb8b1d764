/-
  Together: FlushSpec, DiskFacts, SameB
-/
import Derived.Test.YtdhfbblameiloaaUP7
import Derived.Test.YtdhfbblameiloaaUP9
import Derived.Test.YtdhfbblameiloaaUP15
import Derived.Test.YtdhfbblameiloaaUP16
import Derived.Test.YtdhfbblameiloaaUP3
import Derived.Test.YtdhfbblameiloaaUP10
import Derived.Test.YtdhfbblameiloaaUP1
/-
  The model's Flush.
-/
namespace Go.Proofs.Ytdhfbblameiloaa
open Go.RowKit
set_option maxRecDepth 4000

noncomputable def flushD (D : PDisk) : PDisk × Int := open Classical in if OkD D then flushF D else (D, 1)
theorem flushD_no {D : PDisk} (h : ¬ OkD D) : flushD D = (D, 1) := by unfold flushD; rw [if_neg h]
theorem flushD_ok {D : PDisk} (h : OkD D) : flushD D = flushF D := by unfold flushD; rw [if_pos h]
/-- What Flush of the model comes to. -/
def DTo (w : World) (D : PDisk) (code : Int) (e : Ending) (w' : World) : Prop := ∃ sa sc ca cc fa fc, e = .returned (.tuple #[dval D sa sc ca cc fa fc, .int .i64 code]) ∧ KView w' (dval D sa sc ca cc fa fc) D ∧ Below w.heap.size w w'

set_option maxHeartbeats 8000000 in
theorem specFlush_any (v : Value) (D : PDisk) (w : World) (h : KView w v D) (hf : KFine D) :
    Calls Try.prog 27 #[v] w (DTo w (flushD D).1 (flushD D).2) := by
  obtain ⟨sa, sc, ca, cc, fa, fc, rfl, hs, hc, hfv⟩ := h.is
  have hv : KView w (.agg #[.slice sa D.secs.length sc, .slice ca D.cache.length cc, .int .i64 D.ops, .slice fa D.faults.length fc, .bool D.down]) D := ⟨sa, sc, ca, cc, fa, fc, rfl, hs, hc, hfv⟩
  clear h hs hc hfv
  have hA0 := VN.new w 32 [.slice sa D.secs.length sc, .slice ca D.cache.length cc, .int .i64 D.ops, .slice fa D.faults.length fc, .bool D.down]
  have hR := VN.new (w.alloc (.cells #[.slice sa D.secs.length sc, .slice ca D.cache.length cc, .int .i64 D.ops, .slice fa D.faults.length fc, .bool D.down] 32)) 32 [.slice none 0 0, .slice none 0 0, .int .i64 0, .slice none 0 0, .bool false]
  rw [alloc_sizeK] at hR
  have hbel : Below w.heap.size w ((w.alloc (.cells #[.slice sa D.secs.length sc, .slice ca D.cache.length cc, .int .i64 D.ops, .slice fa D.faults.length fc, .bool D.down] 32)).alloc (.cells #[.slice none 0 0, .slice none 0 0, .int .i64 0, .slice none 0 0, .bool false] 32)) := ((Below.refl _ _).alloc (Nat.le_refl _) _).alloc (by simp) _
  obtain ⟨W0, hW0⟩ := hidEx ((w.alloc (.cells #[.slice sa D.secs.length sc, .slice ca D.cache.length cc, .int .i64 D.ops, .slice fa D.faults.length fc, .bool D.down] 32)).alloc (.cells #[.slice none 0 0, .slice none 0 0, .int .i64 0, .slice none 0 0, .bool false] 32))
  have hz : W0.heap.size = w.heap.size + 1 + 1 := by rw [← hW0.out]; simp
  have hA := hA0.below ((Below.refl _ _).alloc (Nat.le_refl _) (.cells #[.slice none 0 0, .slice none 0 0, .int .i64 0, .slice none 0 0, .bool false] 32))
  rw [hW0.out] at hbel
  replace hA : VN W0 w.heap.size 32 [.slice sa D.secs.length sc, .slice ca D.cache.length cc, .int .i64 D.ops, .slice fa D.faults.length fc, .bool D.down] := by rw [← hW0.out]; exact hA
  replace hR : VN W0 (w.heap.size + 1) 32 [.slice none 0 0, .slice none 0 0, .int .i64 0, .slice none 0 0, .bool false] := by rw [← hW0.out]; exact hR
  have hS := l12Copy_own _ D W0 (hv.below hbel) hf
  have x0 : W0.cell? ⟨w.heap.size, 0, none⟩ = some (.slice sa D.secs.length sc) := hA.cell 0
  have x1 : W0.cell? ⟨w.heap.size, 1, none⟩ = some (.slice ca D.cache.length cc) := hA.cell 1
  have x2 : W0.cell? ⟨w.heap.size, 2, none⟩ = some (.int .i64 D.ops) := hA.cell 2
  have x3 : W0.cell? ⟨w.heap.size, 3, none⟩ = some (.slice fa D.faults.length fc) := hA.cell 3
  have x4 : W0.cell? ⟨w.heap.size, 4, none⟩ = some (.bool D.down) := hA.cell 4
  clear hA0
  go_enter Try.func27, Try.ntmps27
  go_wp2_with (rw [hW0.out])
  refine hS.mono ?_
  rintro e W1 ⟨v1, rfl, hO1, hb1⟩
  obtain ⟨ta, tc, da, dc, ga, gc, ss, cs, rfl, hk, hO, hFo⟩ := hO1
  rw [hz] at hk hO hFo
  unfold dval
  clear x0 x1 x2 x3 x4 hS
  have hbw : Below w.heap.size w W1 := hbel.trans (hb1.mono hbel.size)
  replace hR := hR.below hb1
  replace hA := hA.below hb1
  have hsz : w.heap.size + 1 + 1 ≤ W1.heap.size := by rw [← hz]; exact hb1.size
  have hbA : Below W1.heap.size W1 (W1.alloc (.cells #[.slice ta D.secs.length tc, .slice da D.cache.length dc, .int .i64 D.ops, .slice ga D.faults.length gc, .bool D.down] 32)) := (Below.refl _ _).alloc (Nat.le_refl _) _
  have hX := VN.new W1 32 [.slice ta D.secs.length tc, .slice da D.cache.length dc, .int .i64 D.ops, .slice ga D.faults.length gc, .bool D.down]
  have hk2 := hk.up (Up.ofBelow hbA)
  have hO2 := own_upK hO (Up.ofBelow hbA)
  have hFo2 := own_upK hFo (Up.ofBelow hbA)
  replace hR := hR.below hbA
  replace hA := hA.below hbA
  replace hbw := hbw.trans (hbA.mono hbw.size)
  have x0 : (W1.alloc (.cells #[.slice ta D.secs.length tc, .slice da D.cache.length dc, .int .i64 D.ops, .slice ga D.faults.length gc, .bool D.down] 32)).cell? ⟨w.heap.size, 0, none⟩ = some (.slice sa D.secs.length sc) := hA.cell 0
  have x1 : (W1.alloc (.cells #[.slice ta D.secs.length tc, .slice da D.cache.length dc, .int .i64 D.ops, .slice ga D.faults.length gc, .bool D.down] 32)).cell? ⟨w.heap.size, 1, none⟩ = some (.slice ca D.cache.length cc) := hA.cell 1
  have x2 : (W1.alloc (.cells #[.slice ta D.secs.length tc, .slice da D.cache.length dc, .int .i64 D.ops, .slice ga D.faults.length gc, .bool D.down] 32)).cell? ⟨w.heap.size, 2, none⟩ = some (.int .i64 D.ops) := hA.cell 2
  have x3 : (W1.alloc (.cells #[.slice ta D.secs.length tc, .slice da D.cache.length dc, .int .i64 D.ops, .slice ga D.faults.length gc, .bool D.down] 32)).cell? ⟨w.heap.size, 3, none⟩ = some (.slice fa D.faults.length fc) := hA.cell 3
  have x4 : (W1.alloc (.cells #[.slice ta D.secs.length tc, .slice da D.cache.length dc, .int .i64 D.ops, .slice ga D.faults.length gc, .bool D.down] 32)).cell? ⟨w.heap.size, 4, none⟩ = some (.bool D.down) := hA.cell 4
  have hMy := l12May_any _ D (W1.alloc (.cells #[.slice ta D.secs.length tc, .slice da D.cache.length dc, .int .i64 D.ops, .slice ga D.faults.length gc, .bool D.down] 32)) (hv.below hbw) hf
  clear hk hb1 hbA hbel hO
  go_wp2_with fail
  refine hMy.mono ?_
  rintro e W3 ⟨hb3, hres⟩
  clear x0 x1 x2 x3 x4 hMy
  obtain ⟨X, hXe⟩ := hidEx W1.heap.size
  rw [hXe.out] at hX hsz ⊢
  obtain ⟨W2, hW2⟩ := hidEx (W1.alloc (.cells #[.slice ta D.secs.length tc, .slice da D.cache.length dc, .int .i64 D.ops, .slice ga D.faults.length gc, .bool D.down] 32))
  rw [hW2.out] at hX hk2 hR hA hbw hb3 hO2 hFo2
  have hX3 := hX.below hb3
  have hk3 := hk2.up (Up.ofBelow hb3)
  have hO3 := own_upK hO2 (Up.ofBelow hb3)
  have hFo3 := own_upK hFo2 (Up.ofBelow hb3)
  have hR3 := hR.below hb3
  have hXl := hX.lt
  have hb3' := hbw.trans (hb3.mono hbw.size)
  have hsz3 := hb3.size
  clear hX hk2 hR hA hbw hb3 hW2 hXe hO2 hFo2
  --REST
  have hBw := hb3'
  have hXw := hX3
  have hRw := hR3
  rcases hres with ⟨hno, rfl⟩ | ⟨hok, hdn, rfl⟩ | ⟨hok, hdn, rfl⟩
  · have HF : Hid (flushD D = (D, 1)) := flushD_no hno
    have a0 : W3.cell? ⟨X, 0, none⟩ = some (.slice ta D.secs.length tc) := hXw.cell 0
    have a1 : W3.cell? ⟨X, 1, none⟩ = some (.slice da D.cache.length dc) := hXw.cell 1
    have a2 : W3.cell? ⟨X, 2, none⟩ = some (.int .i64 D.ops) := hXw.cell 2
    have a3 : W3.cell? ⟨X, 3, none⟩ = some (.slice ga D.faults.length gc) := hXw.cell 3
    have a4 : W3.cell? ⟨X, 4, none⟩ = some (.bool D.down) := hXw.cell 4
    have r0 : W3.cell? ⟨w.heap.size + 1, 0, none⟩ = some (.slice none 0 0) := hRw.cell 0
    have r1 : W3.cell? ⟨w.heap.size + 1, 1, none⟩ = some (.slice none 0 0) := hRw.cell 1
    have r2 : W3.cell? ⟨w.heap.size + 1, 2, none⟩ = some (.int .i64 0) := hRw.cell 2
    have r3 : W3.cell? ⟨w.heap.size + 1, 3, none⟩ = some (.slice none 0 0) := hRw.cell 3
    have r4 : W3.cell? ⟨w.heap.size + 1, 4, none⟩ = some (.bool false) := hRw.cell 4
    have z0 := hRw.fz 0
    have z1 := hRw.fz 1
    have z2 := hRw.fz 2
    have z3 := hRw.fz 3
    have z4 := hRw.fz 4
    have hRv := ret5_vn (.slice ta D.secs.length tc) (.slice da D.cache.length dc) (.int .i64 D.ops) (.slice ga D.faults.length gc) (.bool D.down) hRw
    have hRk := ret5_keep (.slice ta D.secs.length tc) (.slice da D.cache.length dc) (.int .i64 D.ops) (.slice ga D.faults.length gc) (.bool D.down) hRw
    have hRb := ret5_below (R := w.heap.size + 1) (.slice ta D.secs.length tc) (.slice da D.cache.length dc) (.int .i64 D.ops) (.slice ga D.faults.length gc) (.bool D.down) hBw (by omega)
    have m0 : (((((W3.setCell ⟨w.heap.size + 1, 0, none⟩ (.slice ta D.secs.length tc)).setCell ⟨w.heap.size + 1, 1, none⟩ (.slice da D.cache.length dc)).setCell ⟨w.heap.size + 1, 2, none⟩ (.int .i64 D.ops)).setCell ⟨w.heap.size + 1, 3, none⟩ (.slice ga D.faults.length gc)).setCell ⟨w.heap.size + 1, 4, none⟩ (.bool D.down)).cell? ⟨w.heap.size + 1, 0, none⟩ = some (.slice ta D.secs.length tc) := hRv.cell 0
    have m1 : (((((W3.setCell ⟨w.heap.size + 1, 0, none⟩ (.slice ta D.secs.length tc)).setCell ⟨w.heap.size + 1, 1, none⟩ (.slice da D.cache.length dc)).setCell ⟨w.heap.size + 1, 2, none⟩ (.int .i64 D.ops)).setCell ⟨w.heap.size + 1, 3, none⟩ (.slice ga D.faults.length gc)).setCell ⟨w.heap.size + 1, 4, none⟩ (.bool D.down)).cell? ⟨w.heap.size + 1, 1, none⟩ = some (.slice da D.cache.length dc) := hRv.cell 1
    have m2 : (((((W3.setCell ⟨w.heap.size + 1, 0, none⟩ (.slice ta D.secs.length tc)).setCell ⟨w.heap.size + 1, 1, none⟩ (.slice da D.cache.length dc)).setCell ⟨w.heap.size + 1, 2, none⟩ (.int .i64 D.ops)).setCell ⟨w.heap.size + 1, 3, none⟩ (.slice ga D.faults.length gc)).setCell ⟨w.heap.size + 1, 4, none⟩ (.bool D.down)).cell? ⟨w.heap.size + 1, 2, none⟩ = some (.int .i64 D.ops) := hRv.cell 2
    have m3 : (((((W3.setCell ⟨w.heap.size + 1, 0, none⟩ (.slice ta D.secs.length tc)).setCell ⟨w.heap.size + 1, 1, none⟩ (.slice da D.cache.length dc)).setCell ⟨w.heap.size + 1, 2, none⟩ (.int .i64 D.ops)).setCell ⟨w.heap.size + 1, 3, none⟩ (.slice ga D.faults.length gc)).setCell ⟨w.heap.size + 1, 4, none⟩ (.bool D.down)).cell? ⟨w.heap.size + 1, 3, none⟩ = some (.slice ga D.faults.length gc) := hRv.cell 3
    have m4 : (((((W3.setCell ⟨w.heap.size + 1, 0, none⟩ (.slice ta D.secs.length tc)).setCell ⟨w.heap.size + 1, 1, none⟩ (.slice da D.cache.length dc)).setCell ⟨w.heap.size + 1, 2, none⟩ (.int .i64 D.ops)).setCell ⟨w.heap.size + 1, 3, none⟩ (.slice ga D.faults.length gc)).setCell ⟨w.heap.size + 1, 4, none⟩ (.bool D.down)).cell? ⟨w.heap.size + 1, 4, none⟩ = some (.bool D.down) := hRv.cell 4
    have HR : Hid (DTo w (flushD D).1 (flushD D).2 (.returned (.tuple #[dval D ta tc da dc ga gc, .int .i64 1])) (((((W3.setCell ⟨w.heap.size + 1, 0, none⟩ (.slice ta D.secs.length tc)).setCell ⟨w.heap.size + 1, 1, none⟩ (.slice da D.cache.length dc)).setCell ⟨w.heap.size + 1, 2, none⟩ (.int .i64 D.ops)).setCell ⟨w.heap.size + 1, 3, none⟩ (.slice ga D.faults.length gc)).setCell ⟨w.heap.size + 1, 4, none⟩ (.bool D.down))) := by
      rw [HF.out]
      have k9 := hk3.keepT hRk (by rw [ret5_size]; exact Nat.le_refl _) (by decide) (by decide) (by decide) (by decide)
      obtain ⟨q1, q2, q3⟩ := k9.view
      exact ⟨ta, tc, da, dc, ga, gc, rfl, ⟨_, _, _, _, _, _, rfl, q1, q2, q3⟩, hRb⟩
    clear hk3
    clear hRv hRk hRb hXw hRw
    go_wp2
    refine bodyPost_ret (v := .tuple #[dval D ta tc da dc ga gc, .int .i64 1]) (by simp [results, Try.results27, go_sem, m0, m1, m2, m3, m4, dval]) rfl HR.out
  · have HF : Hid (flushD D = (D, 9)) := by show _ = _; rw [flushD_ok hok, flushF_down hdn]
    have a0 : W3.cell? ⟨X, 0, none⟩ = some (.slice ta D.secs.length tc) := hXw.cell 0
    have a1 : W3.cell? ⟨X, 1, none⟩ = some (.slice da D.cache.length dc) := hXw.cell 1
    have a2 : W3.cell? ⟨X, 2, none⟩ = some (.int .i64 D.ops) := hXw.cell 2
    have a3 : W3.cell? ⟨X, 3, none⟩ = some (.slice ga D.faults.length gc) := hXw.cell 3
    have a4 : W3.cell? ⟨X, 4, none⟩ = some (.bool D.down) := hXw.cell 4
    have r0 : W3.cell? ⟨w.heap.size + 1, 0, none⟩ = some (.slice none 0 0) := hRw.cell 0
    have r1 : W3.cell? ⟨w.heap.size + 1, 1, none⟩ = some (.slice none 0 0) := hRw.cell 1
    have r2 : W3.cell? ⟨w.heap.size + 1, 2, none⟩ = some (.int .i64 0) := hRw.cell 2
    have r3 : W3.cell? ⟨w.heap.size + 1, 3, none⟩ = some (.slice none 0 0) := hRw.cell 3
    have r4 : W3.cell? ⟨w.heap.size + 1, 4, none⟩ = some (.bool false) := hRw.cell 4
    have z0 := hRw.fz 0
    have z1 := hRw.fz 1
    have z2 := hRw.fz 2
    have z3 := hRw.fz 3
    have z4 := hRw.fz 4
    have hRv := ret5_vn (.slice ta D.secs.length tc) (.slice da D.cache.length dc) (.int .i64 D.ops) (.slice ga D.faults.length gc) (.bool D.down) hRw
    have hRk := ret5_keep (.slice ta D.secs.length tc) (.slice da D.cache.length dc) (.int .i64 D.ops) (.slice ga D.faults.length gc) (.bool D.down) hRw
    have hRb := ret5_below (R := w.heap.size + 1) (.slice ta D.secs.length tc) (.slice da D.cache.length dc) (.int .i64 D.ops) (.slice ga D.faults.length gc) (.bool D.down) hBw (by omega)
    have m0 : (((((W3.setCell ⟨w.heap.size + 1, 0, none⟩ (.slice ta D.secs.length tc)).setCell ⟨w.heap.size + 1, 1, none⟩ (.slice da D.cache.length dc)).setCell ⟨w.heap.size + 1, 2, none⟩ (.int .i64 D.ops)).setCell ⟨w.heap.size + 1, 3, none⟩ (.slice ga D.faults.length gc)).setCell ⟨w.heap.size + 1, 4, none⟩ (.bool D.down)).cell? ⟨w.heap.size + 1, 0, none⟩ = some (.slice ta D.secs.length tc) := hRv.cell 0
    have m1 : (((((W3.setCell ⟨w.heap.size + 1, 0, none⟩ (.slice ta D.secs.length tc)).setCell ⟨w.heap.size + 1, 1, none⟩ (.slice da D.cache.length dc)).setCell ⟨w.heap.size + 1, 2, none⟩ (.int .i64 D.ops)).setCell ⟨w.heap.size + 1, 3, none⟩ (.slice ga D.faults.length gc)).setCell ⟨w.heap.size + 1, 4, none⟩ (.bool D.down)).cell? ⟨w.heap.size + 1, 1, none⟩ = some (.slice da D.cache.length dc) := hRv.cell 1
    have m2 : (((((W3.setCell ⟨w.heap.size + 1, 0, none⟩ (.slice ta D.secs.length tc)).setCell ⟨w.heap.size + 1, 1, none⟩ (.slice da D.cache.length dc)).setCell ⟨w.heap.size + 1, 2, none⟩ (.int .i64 D.ops)).setCell ⟨w.heap.size + 1, 3, none⟩ (.slice ga D.faults.length gc)).setCell ⟨w.heap.size + 1, 4, none⟩ (.bool D.down)).cell? ⟨w.heap.size + 1, 2, none⟩ = some (.int .i64 D.ops) := hRv.cell 2
    have m3 : (((((W3.setCell ⟨w.heap.size + 1, 0, none⟩ (.slice ta D.secs.length tc)).setCell ⟨w.heap.size + 1, 1, none⟩ (.slice da D.cache.length dc)).setCell ⟨w.heap.size + 1, 2, none⟩ (.int .i64 D.ops)).setCell ⟨w.heap.size + 1, 3, none⟩ (.slice ga D.faults.length gc)).setCell ⟨w.heap.size + 1, 4, none⟩ (.bool D.down)).cell? ⟨w.heap.size + 1, 3, none⟩ = some (.slice ga D.faults.length gc) := hRv.cell 3
    have m4 : (((((W3.setCell ⟨w.heap.size + 1, 0, none⟩ (.slice ta D.secs.length tc)).setCell ⟨w.heap.size + 1, 1, none⟩ (.slice da D.cache.length dc)).setCell ⟨w.heap.size + 1, 2, none⟩ (.int .i64 D.ops)).setCell ⟨w.heap.size + 1, 3, none⟩ (.slice ga D.faults.length gc)).setCell ⟨w.heap.size + 1, 4, none⟩ (.bool D.down)).cell? ⟨w.heap.size + 1, 4, none⟩ = some (.bool D.down) := hRv.cell 4
    have HR : Hid (DTo w (flushD D).1 (flushD D).2 (.returned (.tuple #[dval D ta tc da dc ga gc, .int .i64 9])) (((((W3.setCell ⟨w.heap.size + 1, 0, none⟩ (.slice ta D.secs.length tc)).setCell ⟨w.heap.size + 1, 1, none⟩ (.slice da D.cache.length dc)).setCell ⟨w.heap.size + 1, 2, none⟩ (.int .i64 D.ops)).setCell ⟨w.heap.size + 1, 3, none⟩ (.slice ga D.faults.length gc)).setCell ⟨w.heap.size + 1, 4, none⟩ (.bool D.down))) := by
      rw [HF.out]
      have k9 := hk3.keepT hRk (by rw [ret5_size]; exact Nat.le_refl _) (by decide) (by decide) (by decide) (by decide)
      obtain ⟨q1, q2, q3⟩ := k9.view
      exact ⟨ta, tc, da, dc, ga, gc, rfl, ⟨_, _, _, _, _, _, rfl, q1, q2, q3⟩, hRb⟩
    clear hk3
    clear hRv hRk hRb hXw hRw
    go_wp2
    refine bodyPost_ret (v := .tuple #[dval D ta tc da dc ga gc, .int .i64 9]) (by simp [results, Try.results27, go_sem, m0, m1, m2, m3, m4, dval]) rfl HR.out
  · have HF : Hid (flushD D = flushF D) := flushD_ok hok
    have hp : 0 < D.secs.length := by have := hok.1.1; omega
    obtain ⟨gs, es⟩ : ∃ gs, ta = some ⟨gs, 0, none⟩ := by
      obtain ⟨g, e, -⟩ := hk3.secs.cell (by rw [hk3.ns]; exact hp)
      exact ⟨g, e⟩
    subst es
    have hMS := MS.start hk3 hX3 hO3 hFo3
    have hFl := l12Flush_any (w.heap.size + 1 + 1) X gs tc da dc ga gc ss cs D W3 hMS ⟨hk3.sle, hk3.cle, hk3.cnil, hk3.fle, hk3.fnil⟩ hok (by omega) hsz
    have hps : 0 < (flushF D).1.secs.length := by
      unfold flushF
      split
      · exact hp
      · split
        · show 0 < (settleL D.secs _).length
          rw [settleL_len]; exact hp
        · show 0 < (settleL D.secs _).length
          rw [settleL_len]; exact hp
    clear hXw hRw hBw hMS hk3 hX3 hdn
    go_wp2_with fail
    refine hFl.mono ?_
    rintro e W4 ⟨rfl, ⟨ca4, cc4, ss4, cs4, hM4, hL4⟩, hb4⟩
    clear hFl
    have hXw := hM4.x
    have hRw : VN W4 (w.heap.size + 1) 32 [.slice none 0 0, .slice none 0 0, .int .i64 0, .slice none 0 0, .bool false] := hR3.block (hb4.block _ (by omega))
    have hBw : Below w.heap.size w W4 := hb3'.trans (hb4.mono (by omega))
    obtain ⟨DD, hDD⟩ := hidEx (flushF D).1
    obtain ⟨cd, hcd⟩ := hidEx (flushF D).2
    rw [hDD.out] at hM4 hL4 hXw hps
    rw [hcd.out]
    clear hR3 hb4 hb3'
    have a0 : W4.cell? ⟨X, 0, none⟩ = some (.slice (some ⟨gs, 0, none⟩) DD.secs.length tc) := hXw.cell 0
    have a1 : W4.cell? ⟨X, 1, none⟩ = some (.slice ca4 DD.cache.length cc4) := hXw.cell 1
    have a2 : W4.cell? ⟨X, 2, none⟩ = some (.int .i64 DD.ops) := hXw.cell 2
    have a3 : W4.cell? ⟨X, 3, none⟩ = some (.slice ga DD.faults.length gc) := hXw.cell 3
    have a4 : W4.cell? ⟨X, 4, none⟩ = some (.bool DD.down) := hXw.cell 4
    have r0 : W4.cell? ⟨w.heap.size + 1, 0, none⟩ = some (.slice none 0 0) := hRw.cell 0
    have r1 : W4.cell? ⟨w.heap.size + 1, 1, none⟩ = some (.slice none 0 0) := hRw.cell 1
    have r2 : W4.cell? ⟨w.heap.size + 1, 2, none⟩ = some (.int .i64 0) := hRw.cell 2
    have r3 : W4.cell? ⟨w.heap.size + 1, 3, none⟩ = some (.slice none 0 0) := hRw.cell 3
    have r4 : W4.cell? ⟨w.heap.size + 1, 4, none⟩ = some (.bool false) := hRw.cell 4
    have z0 := hRw.fz 0
    have z1 := hRw.fz 1
    have z2 := hRw.fz 2
    have z3 := hRw.fz 3
    have z4 := hRw.fz 4
    have hRv := ret5_vn (.slice (some ⟨gs, 0, none⟩) DD.secs.length tc) (.slice ca4 DD.cache.length cc4) (.int .i64 DD.ops) (.slice ga DD.faults.length gc) (.bool DD.down) hRw
    have hRk := ret5_keep (.slice (some ⟨gs, 0, none⟩) DD.secs.length tc) (.slice ca4 DD.cache.length cc4) (.int .i64 DD.ops) (.slice ga DD.faults.length gc) (.bool DD.down) hRw
    have hRb := ret5_below (R := w.heap.size + 1) (.slice (some ⟨gs, 0, none⟩) DD.secs.length tc) (.slice ca4 DD.cache.length cc4) (.int .i64 DD.ops) (.slice ga DD.faults.length gc) (.bool DD.down) hBw (by omega)
    have m0 : (((((W4.setCell ⟨w.heap.size + 1, 0, none⟩ (.slice (some ⟨gs, 0, none⟩) DD.secs.length tc)).setCell ⟨w.heap.size + 1, 1, none⟩ (.slice ca4 DD.cache.length cc4)).setCell ⟨w.heap.size + 1, 2, none⟩ (.int .i64 DD.ops)).setCell ⟨w.heap.size + 1, 3, none⟩ (.slice ga DD.faults.length gc)).setCell ⟨w.heap.size + 1, 4, none⟩ (.bool DD.down)).cell? ⟨w.heap.size + 1, 0, none⟩ = some (.slice (some ⟨gs, 0, none⟩) DD.secs.length tc) := hRv.cell 0
    have m1 : (((((W4.setCell ⟨w.heap.size + 1, 0, none⟩ (.slice (some ⟨gs, 0, none⟩) DD.secs.length tc)).setCell ⟨w.heap.size + 1, 1, none⟩ (.slice ca4 DD.cache.length cc4)).setCell ⟨w.heap.size + 1, 2, none⟩ (.int .i64 DD.ops)).setCell ⟨w.heap.size + 1, 3, none⟩ (.slice ga DD.faults.length gc)).setCell ⟨w.heap.size + 1, 4, none⟩ (.bool DD.down)).cell? ⟨w.heap.size + 1, 1, none⟩ = some (.slice ca4 DD.cache.length cc4) := hRv.cell 1
    have m2 : (((((W4.setCell ⟨w.heap.size + 1, 0, none⟩ (.slice (some ⟨gs, 0, none⟩) DD.secs.length tc)).setCell ⟨w.heap.size + 1, 1, none⟩ (.slice ca4 DD.cache.length cc4)).setCell ⟨w.heap.size + 1, 2, none⟩ (.int .i64 DD.ops)).setCell ⟨w.heap.size + 1, 3, none⟩ (.slice ga DD.faults.length gc)).setCell ⟨w.heap.size + 1, 4, none⟩ (.bool DD.down)).cell? ⟨w.heap.size + 1, 2, none⟩ = some (.int .i64 DD.ops) := hRv.cell 2
    have m3 : (((((W4.setCell ⟨w.heap.size + 1, 0, none⟩ (.slice (some ⟨gs, 0, none⟩) DD.secs.length tc)).setCell ⟨w.heap.size + 1, 1, none⟩ (.slice ca4 DD.cache.length cc4)).setCell ⟨w.heap.size + 1, 2, none⟩ (.int .i64 DD.ops)).setCell ⟨w.heap.size + 1, 3, none⟩ (.slice ga DD.faults.length gc)).setCell ⟨w.heap.size + 1, 4, none⟩ (.bool DD.down)).cell? ⟨w.heap.size + 1, 3, none⟩ = some (.slice ga DD.faults.length gc) := hRv.cell 3
    have m4 : (((((W4.setCell ⟨w.heap.size + 1, 0, none⟩ (.slice (some ⟨gs, 0, none⟩) DD.secs.length tc)).setCell ⟨w.heap.size + 1, 1, none⟩ (.slice ca4 DD.cache.length cc4)).setCell ⟨w.heap.size + 1, 2, none⟩ (.int .i64 DD.ops)).setCell ⟨w.heap.size + 1, 3, none⟩ (.slice ga DD.faults.length gc)).setCell ⟨w.heap.size + 1, 4, none⟩ (.bool DD.down)).cell? ⟨w.heap.size + 1, 4, none⟩ = some (.bool DD.down) := hRv.cell 4
    have HR : Hid (DTo w (flushD D).1 (flushD D).2 (.returned (.tuple #[dval DD (some ⟨gs, 0, none⟩) tc ca4 cc4 ga gc, .int .i64 cd])) (((((W4.setCell ⟨w.heap.size + 1, 0, none⟩ (.slice (some ⟨gs, 0, none⟩) DD.secs.length tc)).setCell ⟨w.heap.size + 1, 1, none⟩ (.slice ca4 DD.cache.length cc4)).setCell ⟨w.heap.size + 1, 2, none⟩ (.int .i64 DD.ops)).setCell ⟨w.heap.size + 1, 3, none⟩ (.slice ga DD.faults.length gc)).setCell ⟨w.heap.size + 1, 4, none⟩ (.bool DD.down))) := by
      rw [HF.out, hDD.out, hcd.out]
      exact ⟨_, _, _, _, _, _, rfl, (hM4.keepX hRk _ hRv).kview hL4 hps, hRb⟩
    clear hM4 hL4
    clear hRv hRk hRb hXw hRw
    go_wp2
    refine bodyPost_ret (v := .tuple #[dval DD (some ⟨gs, 0, none⟩) tc ca4 cc4 ga gc, .int .i64 cd]) (by simp [results, Try.results27, go_sem, m0, m1, m2, m3, m4, dval]) rfl HR.out
end Go.Proofs.Ytdhfbblameiloaa

/-
  What writing, flushing and losing come to, plainly.
-/
namespace Go.Proofs.Ytdhfbblameiloaa
open Go.RowKit
set_option maxRecDepth 4000

theorem lastW_app (l : List (Int × List Int)) (x : Int × List Int) (n : Int) : ∀ k, k ≤ l.length → lastW (l ++ [x]) n k = lastW l n k
  | 0, _ => rfl
  | k + 1, h => by rw [lastW, lastW, List.getElem?_append_left (by omega), lastW_app l x n k (by omega)]
theorem lastW_snoc (l : List (Int × List Int)) (x : Int × List Int) (n : Int) : lastW (l ++ [x]) n (l ++ [x]).length = if x.1 = n then some x.2 else lastW l n l.length := by
  rw [show (l ++ [x]).length = l.length + 1 by simp, lastW, lastW_app _ _ _ _ (Nat.le_refl _)]
  simp
theorem settle_take {l : List (Int × List Int)} {s : List (List Int)} (hl : ∀ j (h : j < l.length), 0 ≤ (l[j]).1) {i : Nat} (hi : i < s.length) : ∀ k, k ≤ l.length → (settleL s (l.take k))[i]? = some ((lastW l i k).getD (s.getD i []))
  | 0, _ => by simp [settleL, lastW, hi]
  | k + 1, h => by
    have hk : k < l.length := by omega
    rw [settleL_one hk]
    have ih := settle_take hl hi k (by omega)
    have h0 := hl k hk
    by_cases e : (l[k]).1 = (i : Int)
    · rw [lastW_hit hk e, e]
      have : ((i : Int)).toNat = i := by omega
      rw [this, List.getElem?_set, if_pos rfl, if_pos (by rw [settleL_len]; exact hi)]
      rfl
    · rw [lastW_miss hk e, List.getElem?_set, if_neg (by omega)]
      exact ih
/-- What is flushed is what was read. -/
theorem calm_sec {D : PDisk} (h : CacheOk D.secs.length D.cache) {i : Nat} (hi : i < D.secs.length) : (calmD D).secs[i]? = some (readB D i) := by
  show (settleL D.secs D.cache)[i]? = _
  have := settle_take (l := D.cache) (s := D.secs) (fun j hj => (h.2 j hj).1) hi D.cache.length (Nat.le_refl _)
  rw [List.take_length] at this
  rw [this]
  unfold readB
  rw [if_pos (by omega)]
  simp
theorem settle_from : ∀ (l : List (Int × List Int)) (s : List (List Int)) (i : Nat), (settleL s l)[i]? = s[i]? ∨ ∃ x ∈ l, x.1.toNat = i ∧ (settleL s l)[i]? = some x.2
  | [], _, _ => .inl rfl
  | x :: l, s, i => by
    rw [settleL]
    rcases settle_from l (s.set x.1.toNat x.2) i with h | ⟨y, hy, h1, h2⟩
    · rw [h, List.getElem?_set]
      by_cases e : x.1.toNat = i
      · rw [if_pos e]
        by_cases e2 : x.1.toNat < s.length
        · rw [if_pos e2]; exact .inr ⟨x, by simp, e, rfl⟩
        · rw [if_neg e2]; left; rw [List.getElem?_eq_none (by omega)]
      · rw [if_neg e]; exact .inl rfl
    · exact .inr ⟨y, by simp [hy], h1, h2⟩
theorem cutLast_from {r : Nat} {l : List (Int × List Int)} {x : Int × List Int} (h : x ∈ cutLast (cutW r) l) : ∃ y ∈ l, x.1 = y.1 ∧ ∃ q, x.2 = y.2.take q := by
  rcases List.eq_nil_or_concat l with rfl | ⟨l0, y, rfl⟩
  · simp [cutLast_nil] at h
  · rw [List.concat_eq_append] at h ⊢
    rw [cutLast_app, List.mem_append] at h
    rcases h with h | h
    · exact ⟨x, List.mem_append_left _ h, rfl, x.2.length, by rw [List.take_length]⟩
    · simp at h
      subst h
      exact ⟨y, by simp, rfl, r, rfl⟩
/-- Where the power went each sector has what it had, or what was written to it, or the beginning of that. -/
theorem lose_sec {D : PDisk} (f : PFault) (i : Nat) : (loseD D f).secs[i]? = D.secs[i]? ∨ ∃ (k : Nat) (h : k < D.cache.length), (D.cache[k]).1.toNat = i ∧ ∃ q, (loseD D f).secs[i]? = some ((D.cache[k]).2.take q) := by
  rcases settle_from (cutLast (cutW f.cut.toNat) (keptG f.keep D.cache D.cache.length)) D.secs i with h | ⟨x, hx, h1, h2⟩
  · exact .inl h
  · obtain ⟨y, hy, e1, q, e2⟩ := cutLast_from hx
    obtain ⟨k, hk, rfl⟩ := List.getElem_of_mem (keptG_mem hy)
    exact .inr ⟨k, hk, by rw [← e1]; exact h1, q, by rw [← e2]; exact h2⟩
theorem settle_short {l : List (Int × List Int)} {s : List (List Int)} (hs : Short s) (hl : ∀ x ∈ l, x.2.length ≤ 256) : Short (settleL s l) := by
  intro i h
  rcases settleL_mem (List.getElem_mem h) with h1 | h1
  · obtain ⟨j, hj, e⟩ := List.getElem_of_mem h1
    rw [← e]; exact hs j hj
  · obtain ⟨y, hy, e⟩ := List.mem_map.1 h1
    rw [← e]; exact hl y hy
theorem lose_ok {D : PDisk} (h : OkD D) (f : PFault) : OkD (loseD D f) := by
  obtain ⟨⟨h1, h2, h3⟩, ⟨h4, h5⟩, h6, h7, h8⟩ := h
  refine ⟨⟨by show 4 ≤ (settleL D.secs _).length; rw [settleL_len]; exact h1, by show (settleL D.secs _).length ≤ 48; rw [settleL_len]; exact h2, settle_short h3 (fun x hx => ?_)⟩, ⟨Nat.zero_le _, fun i hi => absurd hi (Nat.not_lt_zero _)⟩, h6, h7, fun hx => absurd hx.2 (Nat.lt_irrefl _)⟩
  obtain ⟨y, hy, -, q, e⟩ := cutLast_from hx
  obtain ⟨k, hk, rfl⟩ := List.getElem_of_mem (keptG_mem hy)
  rw [e, List.length_take]
  have := (h5 k hk).2.2
  omega
theorem calm_ok {D : PDisk} (h : OkD D) : OkD (calmD D) := by
  obtain ⟨⟨h1, h2, h3⟩, ⟨h4, h5⟩, h6, h7, h8⟩ := h
  refine ⟨⟨by show 4 ≤ (settleL D.secs _).length; rw [settleL_len]; exact h1, by show (settleL D.secs _).length ≤ 48; rw [settleL_len]; exact h2, settle_short h3 (fun x hx => ?_)⟩, ⟨Nat.zero_le _, fun i hi => absurd hi (Nat.not_lt_zero _)⟩, h6, h7, fun hx => absurd hx.2 (Nat.lt_irrefl _)⟩
  obtain ⟨k, hk, rfl⟩ := List.getElem_of_mem hx
  exact (h5 k hk).2.2
theorem ops_ok {D : PDisk} (h : OkD D) (hd : ¬ (D.down = true ∨ 100000 ≤ D.ops)) : OkD { D with ops := D.ops + 1 } := by
  obtain ⟨h1, h4, h6, h7, h8⟩ := h
  have : ¬ 100000 ≤ D.ops := fun h => hd (.inr h)
  exact ⟨h1, h4, ⟨by show 0 ≤ D.ops + 1; have := h6.1; omega, by show D.ops + 1 ≤ 100000; omega⟩, h7, h8⟩
/-- What a write comes to: nothing turned, the power went, or it is in the cache. -/
theorem write_ways (D : PDisk) (n : Int) (l : List Int) : (((writeD D n l).2 = 1 ∨ (writeD D n l).2 = 9) ∧ (writeD D n l).1 = D) ∨ ((writeD D n l).2 = 9 ∧ (writeD D n l).1.ops = D.ops + 1 ∧ (writeD D n l).1.down = true ∧ (writeD D n l).1.cache = [] ∧ OkD (writeD D n l).1) ∨ ((writeD D n l).2 = 0 ∧ (writeD D n l).1 = moreD D n l ∧ OkD D ∧ HasS D n ∧ OkD (moreD D n l)) := by
  by_cases hm : MayW D n l
  · by_cases hd : D.down = true ∨ 100000 ≤ D.ops
    · left; rw [writeD_ok hm, writeF_down hd]; exact ⟨.inr rfl, rfl⟩
    · have hok := moreD_ok hm hd
      cases hf : findF D.faults D.ops with
      | some f => right; left; rw [writeD_ok hm, writeF_lose hd hf]; exact ⟨rfl, rfl, rfl, rfl, lose_ok hok f⟩
      | none => right; right; rw [writeD_ok hm, writeF_good hd hf]; exact ⟨rfl, rfl, hm.1, hm.2.1, hok⟩
  · left; rw [writeD_no hm]; exact ⟨.inl rfl, rfl⟩
theorem more_read {D : PDisk} {n : Int} {l : List Int} (h : HasS D n) : readB (moreD D n l) n = l ∧ ∀ i : Int, i ≠ n → readB (moreD D n l) i = readB D i := by
  refine ⟨?_, fun i hi => ?_⟩
  · unfold readB moreD
    dsimp only
    rw [if_pos (show 0 ≤ n ∧ n < (D.secs.length : Int) from h), lastW_snoc, if_pos rfl]
    rfl
  · unfold readB moreD
    dsimp only
    rw [lastW_snoc, if_neg (show ¬ (n, l).1 = i from fun e => hi e.symm)]
/-- What is flushed without a fault: all is there, or nothing was done. -/
theorem flush_nofault {D : PDisk} (h : OkD D) (hd : D.down = false) (hf : D.faults = []) : ((flushD D).2 = 0 ∧ (flushD D).1 = calmD { D with ops := D.ops + 1 }) ∨ ((flushD D).2 = 9 ∧ (flushD D).1 = D) := by
  rw [flushD_ok h]
  by_cases ho : 100000 ≤ D.ops
  · right; rw [flushF_down (.inr ho)]; exact ⟨rfl, rfl⟩
  · left
    rw [flushF_calm (by rw [hd]; simp; omega) (by rw [hf]; rfl)]
    exact ⟨rfl, rfl⟩
theorem calm_read {D : PDisk} (h : CacheOk D.secs.length D.cache) (x : Int) (i : Nat) : readB (calmD { D with ops := x }) i = readB D i := by
  have hlen : (calmD { D with ops := x }).secs.length = D.secs.length := settleL_len _ _
  by_cases hi : i < D.secs.length
  · have hs := calm_sec (D := { D with ops := x }) h hi
    rw [readB_sec (n := (i : Int)) ⟨by omega, by rw [hlen]; omega⟩ rfl (by rw [hlen]; simpa using hi)]
    have e2 : ((i : Int)).toNat = i := by omega
    simp only [e2]
    rw [List.getElem?_eq_getElem (by rw [hlen]; exact hi)] at hs
    have := Option.some.inj hs
    rw [this]
    rfl
  · rw [readB_none (D := calmD _) (fun h => by have := h.2; rw [hlen] at this; omega), readB_none (fun h => by have := h.2; omega)]
/-- What a flush comes to. -/
theorem flush_ways {D : PDisk} (h : OkD D) : ((flushD D).2 = 9 ∧ (flushD D).1 = D ∧ (D.down = true ∨ 100000 ≤ D.ops)) ∨ (∃ f, (flushD D).2 = 9 ∧ (flushD D).1 = loseD { D with ops := D.ops + 1 } f ∧ OkD (flushD D).1) ∨ ((flushD D).2 = 0 ∧ (flushD D).1 = calmD { D with ops := D.ops + 1 } ∧ OkD (flushD D).1) := by
  rw [flushD_ok h]
  by_cases hd : D.down = true ∨ 100000 ≤ D.ops
  · left; rw [flushF_down hd]; exact ⟨rfl, rfl, hd⟩
  · have hok := ops_ok h hd
    cases hf : findF D.faults D.ops with
    | some f => right; left; rw [flushF_lose hd hf]; exact ⟨f, rfl, rfl, lose_ok hok f⟩
    | none => right; right; rw [flushF_calm hd hf]; exact ⟨rfl, rfl, calm_ok hok⟩
end Go.Proofs.Ytdhfbblameiloaa

/-
  What the law's own helpers sameBytes and begins come to, at every two slices of bytes that read.
-/
namespace Go.Proofs.Ytdhfbblameiloaa
open Go.RowKit
set_option maxRecDepth 4000

set_option maxHeartbeats 1000000 in
theorem sameBytes_any (a1 a2 : Option Addr) (n m c1 c2 : Nat) (f g : Nat → Int) (w : World) (h1 : View w a1 n c1 f) (h2 : View w a2 m c2 g) (hn : n ≤ 281474976710656) (hm : m ≤ 281474976710656) :
    Calls Try.prog 25 #[.slice a1 n c1, .slice a2 m c2] w fun e w' => e = .returned (.bool (decide (lof n f = lof m g))) ∧ Below w.heap.size w w' := by
  by_cases hnm : n = m
  · subst hnm
    have q0 : ((n : Int) != (n : Int)) = false := by simp
    go_enter Try.func25, Try.ntmps25
    go_wp2
    go_loopg [5] n (fun q i wr => ∃ k : Nat, k ≤ n ∧ q = n - k ∧ i = .int .i64 k ∧ Below w.heap.size w wr ∧ ∀ j, j < k → f j = g j)
    case atStart => exact ⟨0, Nat.zero_le _, rfl, rfl, Below.refl _ _, fun j hj => absurd hj (Nat.not_lt_zero _)⟩
    case round =>
      obtain ⟨k, hk, rfl, rfl, hB, hE⟩ := hrel
      have HE : Hid (∀ j, j < k → f j = g j) := hE
      clear hE
      by_cases hlt : k < n
      · obtain ⟨b1, o1, rfl, hb1, hc1⟩ := h1.cells (by omega)
        obtain ⟨b2, o2, rfl, hb2, hc2⟩ := h2.cells (by omega)
        have hkz : (k : Int) < (n : Int) := by omega
        have e1 : wr.cell? ⟨b1, o1 + k, none⟩ = some (.int .u8 (f k)) := by rw [hB.cell (p := ⟨b1, o1 + k, none⟩) hb1]; exact hc1 k hlt
        have e2 : wr.cell? ⟨b2, o2 + k, none⟩ = some (.int .u8 (g k)) := by rw [hB.cell (p := ⟨b2, o2 + k, none⟩) hb2]; exact hc2 k hlt
        clear hc1 hc2
        by_cases he : f k = g k
        · have q1 : (f k != g k) = false := by simpa using he
          have HE2 : Hid (∀ j, j < k + 1 → f j = g j) := fun j hj => by
            by_cases e : j = k
            · subst e; exact he
            · exact HE.out j (by omega)
          clear he
          go_wp2
          go_region
          all_goals go_wp2
          all_goals
            go_roundg (n - (k + 1))
            case measure => omega
            case rel => exact ⟨k + 1, by omega, rfl, by go_num, by first | exact hB.drew | exact hB, HE2.out⟩
        · have q1 : (f k != g k) = true := by simpa using he
          have HD : Hid (decide (lof n f = lof n g) = false) := by
            show _ = _
            rw [decide_eq_false_iff_not, lof_eq]
            exact fun h => he (h k hlt)
          clear he
          go_wp2
          go_region
          all_goals go_wp2
          all_goals
            go_ret
            exact ⟨by rw [HD.out]; rfl, by first | exact hB.drew | exact hB⟩
      · obtain rfl : k = n := by omega
        have HD : Hid (decide (lof k f = lof k g) = true) := by
          show _ = _
          rw [decide_eq_true_iff, lof_eq]
          exact HE.out
        go_wp2
        go_ret
        exact ⟨by rw [HD.out]; rfl, hB⟩
  · have q0 : ((n : Int) != (m : Int)) = true := by simp; omega
    have HD : Hid (decide (lof n f = lof m g) = false) := by
      show _ = _
      rw [decide_eq_false_iff_not]
      intro h
      have := congrArg List.length h
      rw [lof_len, lof_len] at this
      exact hnm this
    go_enter Try.func25, Try.ntmps25
    go_wp2
    go_ret
    exact ⟨by rw [HD.out]; rfl, Below.refl _ _⟩
end Go.Proofs.Ytdhfbblameiloaa

