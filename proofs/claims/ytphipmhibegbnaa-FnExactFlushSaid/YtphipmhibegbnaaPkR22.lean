/-
  FlushI
-/
import Derived.Test.YtphipmhibegbnaaPkR19
import Derived.Test.YtphipmhibegbnaaPkR20
import Derived.Test.YtphipmhibegbnaaPkR21
import Derived.Test.YtphipmhibegbnaaPkR15
/-
  The program's Flush.
-/
namespace Go.Proofs.Ytphipmhibegbnaa
open Go.RowKit
set_option maxRecDepth 4000

theorem cut_fst (r : Nat) (l : List (Int × List Int)) : (cutLast (cutW r) l).map (·.1) = l.map (·.1) := by
  rcases List.eq_nil_or_concat l with rfl | ⟨l0, x, rfl⟩
  · rfl
  · rw [List.concat_eq_append, cutLast_app, List.map_append, List.map_append]
    rfl
theorem SettleTo.below {w w' : World} {B X gs ns sc n : Nat} {ca : Option Addr} {o f b : Value} {rows : List Value} (h : SettleTo w B X gs ns sc ca o f b rows w') (hB : n ≤ B) (hX : n ≤ X) (hs : n ≤ w.heap.size) : Below n w w' :=
  ⟨h.io.1, h.io.2.1, h.io.2.2, h.size, fun k hk => h.low k (by omega) (by omega) (by omega)⟩
theorem ButX.below {X n : Nat} {w w' : World} (h : ButX X w w') (hX : n ≤ X) (hs : n ≤ w.heap.size) : Below n w w' := ⟨h.os, h.tape, h.output, h.size, fun k hk => h.block k (by omega) (by omega)⟩
theorem KO.mono {w : World} {B B' : Nat} {sa : Option Addr} {sc : Nat} {ca : Option Addr} {cc : Nat} {fa : Option Addr} {fc : Nat} {ss cs : List Value} {D : PDisk} (h : KO w B sa sc ca cc fa fc ss cs D) (hB : B' ≤ B) : KO w B' sa sc ca cc fa fc ss cs D :=
  ⟨h.sle, h.snil, h.cle, h.cnil, h.fle, h.fnil, h.ns, h.nc, h.secs.mono hB, h.cache.mono hB, h.faults.mono hB, h.bytes.mono hB⟩
/-- What an operation of the program comes to. -/
def ITo (w : World) (D : PDisk) (code : Int) (e : Ending) (w' : World) : Prop := ∃ v, e = .returned (.tuple #[v, .int .i64 code]) ∧ KOwn w' w.heap.size v D ∧ Below w.heap.size w w'
theorem KO.slices {w : World} {B : Nat} {sa : Option Addr} {sc : Nat} {ca : Option Addr} {cc : Nat} {fa : Option Addr} {fc : Nat} {ss cs : List Value} {D : PDisk} (h : KO w B sa sc ca cc fa fc ss cs D) (hok : OkD D) : ∀ (i : Nat) v, cs[i]? = some v → ∃ a n c, v = .slice a n c ∧ n ≤ c ∧ n ≤ 256 ∧ (a = none → c = 0) := by
  intro i v hv
  have hi : i < D.cache.length := by rw [← h.nc]; exact (List.getElem?_eq_some_iff.1 hv).1
  have hO := h.bytes.ob (ss.length + i) v (D.cache[i]).2 (by rw [List.getElem?_append_right (by omega), Nat.add_sub_cancel_left]; exact hv) (by rw [h.ns, List.getElem?_append_right (by omega), Nat.add_sub_cancel_left]; simp [hi])
  obtain ⟨a, c, e, h1, h2, -, -⟩ := hO.is
  exact ⟨a, _, c, e, h1, (hok.2.1.2 i hi).2.2, h2⟩

set_option maxHeartbeats 8000000 in
theorem implFlush_any (v : Value) (D : PDisk) (w : World) (h : KView w v D) (hf : KFine D) :
    Calls Try.prog 23 #[v] w (ITo w (flushD D).1 (flushD D).2) := by
  obtain ⟨sa, sc, ca, cc, fa, fc, rfl, hs, hc, hfv⟩ := h.is
  have hv : KView w (.agg #[.slice sa D.secs.length sc, .slice ca D.cache.length cc, .int .i64 D.ops, .slice fa D.faults.length fc, .bool D.down]) D := ⟨sa, sc, ca, cc, fa, fc, rfl, hs, hc, hfv⟩
  clear h hs hc hfv
  have hA0 := VN.new w 34 [.slice sa D.secs.length sc, .slice ca D.cache.length cc, .int .i64 D.ops, .slice fa D.faults.length fc, .bool D.down]
  have hR := VN.new (w.alloc (.cells #[.slice sa D.secs.length sc, .slice ca D.cache.length cc, .int .i64 D.ops, .slice fa D.faults.length fc, .bool D.down] 34)) 34 [.slice none 0 0, .slice none 0 0, .int .i64 0, .slice none 0 0, .bool false]
  rw [alloc_sizeK] at hR
  have hbel : Below w.heap.size w ((w.alloc (.cells #[.slice sa D.secs.length sc, .slice ca D.cache.length cc, .int .i64 D.ops, .slice fa D.faults.length fc, .bool D.down] 34)).alloc (.cells #[.slice none 0 0, .slice none 0 0, .int .i64 0, .slice none 0 0, .bool false] 34)) := ((Below.refl _ _).alloc (Nat.le_refl _) _).alloc (by simp) _
  obtain ⟨W0, hW0⟩ := hidEx ((w.alloc (.cells #[.slice sa D.secs.length sc, .slice ca D.cache.length cc, .int .i64 D.ops, .slice fa D.faults.length fc, .bool D.down] 34)).alloc (.cells #[.slice none 0 0, .slice none 0 0, .int .i64 0, .slice none 0 0, .bool false] 34))
  have hz : W0.heap.size = w.heap.size + 1 + 1 := by rw [← hW0.out]; simp
  have hA := hA0.below ((Below.refl _ _).alloc (Nat.le_refl _) (.cells #[.slice none 0 0, .slice none 0 0, .int .i64 0, .slice none 0 0, .bool false] 34))
  rw [hW0.out] at hbel
  replace hA : VN W0 w.heap.size 34 [.slice sa D.secs.length sc, .slice ca D.cache.length cc, .int .i64 D.ops, .slice fa D.faults.length fc, .bool D.down] := by rw [← hW0.out]; exact hA
  replace hR : VN W0 (w.heap.size + 1) 34 [.slice none 0 0, .slice none 0 0, .int .i64 0, .slice none 0 0, .bool false] := by rw [← hW0.out]; exact hR
  have hS := copyDisk_any _ D W0 (hv.below hbel) hf
  have x0 : W0.cell? ⟨w.heap.size, 0, none⟩ = some (.slice sa D.secs.length sc) := hA.cell 0
  have x1 : W0.cell? ⟨w.heap.size, 1, none⟩ = some (.slice ca D.cache.length cc) := hA.cell 1
  have x2 : W0.cell? ⟨w.heap.size, 2, none⟩ = some (.int .i64 D.ops) := hA.cell 2
  have x3 : W0.cell? ⟨w.heap.size, 3, none⟩ = some (.slice fa D.faults.length fc) := hA.cell 3
  have x4 : W0.cell? ⟨w.heap.size, 4, none⟩ = some (.bool D.down) := hA.cell 4
  clear hA0
  go_enter Try.func23, Try.ntmps23
  go_wp2_with (rw [hW0.out])
  refine hS.mono ?_
  rintro e W1 ⟨v1, rfl, hO1, hb1⟩
  obtain ⟨ta, tc, da, dc, ga, gc, ss, cs, rfl, hk⟩ := hO1
  rw [hz] at hk
  unfold dval
  clear x0 x1 x2 x3 x4 hS
  have hbw : Below w.heap.size w W1 := hbel.trans (hb1.mono hbel.size)
  replace hR := hR.below hb1
  replace hA := hA.below hb1
  have hsz : w.heap.size + 1 + 1 ≤ W1.heap.size := by rw [← hz]; exact hb1.size
  have hbA : Below W1.heap.size W1 (W1.alloc (.cells #[.slice ta D.secs.length tc, .slice da D.cache.length dc, .int .i64 D.ops, .slice ga D.faults.length gc, .bool D.down] 34)) := (Below.refl _ _).alloc (Nat.le_refl _) _
  have hX := VN.new W1 34 [.slice ta D.secs.length tc, .slice da D.cache.length dc, .int .i64 D.ops, .slice ga D.faults.length gc, .bool D.down]
  have hk2 := hk.up (Up.ofBelow hbA)
  replace hR := hR.below hbA
  replace hA := hA.below hbA
  replace hbw := hbw.trans (hbA.mono hbw.size)
  have x0 : (W1.alloc (.cells #[.slice ta D.secs.length tc, .slice da D.cache.length dc, .int .i64 D.ops, .slice ga D.faults.length gc, .bool D.down] 34)).cell? ⟨w.heap.size, 0, none⟩ = some (.slice sa D.secs.length sc) := hA.cell 0
  have x1 : (W1.alloc (.cells #[.slice ta D.secs.length tc, .slice da D.cache.length dc, .int .i64 D.ops, .slice ga D.faults.length gc, .bool D.down] 34)).cell? ⟨w.heap.size, 1, none⟩ = some (.slice ca D.cache.length cc) := hA.cell 1
  have x2 : (W1.alloc (.cells #[.slice ta D.secs.length tc, .slice da D.cache.length dc, .int .i64 D.ops, .slice ga D.faults.length gc, .bool D.down] 34)).cell? ⟨w.heap.size, 2, none⟩ = some (.int .i64 D.ops) := hA.cell 2
  have x3 : (W1.alloc (.cells #[.slice ta D.secs.length tc, .slice da D.cache.length dc, .int .i64 D.ops, .slice ga D.faults.length gc, .bool D.down] 34)).cell? ⟨w.heap.size, 3, none⟩ = some (.slice fa D.faults.length fc) := hA.cell 3
  have x4 : (W1.alloc (.cells #[.slice ta D.secs.length tc, .slice da D.cache.length dc, .int .i64 D.ops, .slice ga D.faults.length gc, .bool D.down] 34)).cell? ⟨w.heap.size, 4, none⟩ = some (.bool D.down) := hA.cell 4
  have hMy := implDiskOk_any _ D (W1.alloc (.cells #[.slice ta D.secs.length tc, .slice da D.cache.length dc, .int .i64 D.ops, .slice ga D.faults.length gc, .bool D.down] 34)) (hv.below hbw) hf
  clear hk hb1 hbA hbel
  go_wp2_with fail
  refine hMy.mono ?_
  rintro e W3 ⟨rok, rfl, hrok0, hb3⟩
  have hrok : Hid (rok = true ↔ OkD D) := hrok0
  clear hrok0
  clear x0 x1 x2 x3 x4 hMy
  obtain ⟨X, hXe⟩ := hidEx W1.heap.size
  rw [hXe.out] at hX hsz ⊢
  obtain ⟨W2, hW2⟩ := hidEx (W1.alloc (.cells #[.slice ta D.secs.length tc, .slice da D.cache.length dc, .int .i64 D.ops, .slice ga D.faults.length gc, .bool D.down] 34))
  rw [hW2.out] at hX hk2 hR hA hbw hb3
  have hX3 := hX.below hb3
  have hk3 := hk2.up (Up.ofBelow hb3)
  have hR3 := hR.below hb3
  have hA3 := hA.below hb3
  have hXl := hX.lt
  have hb3' := hbw.trans (hb3.mono hbw.size)
  have hsz3 := hb3.size
  clear hX hk2 hR hA hbw hb3 hW2 hXe
  have HV : Hid (KView w (.agg #[.slice sa D.secs.length sc, .slice ca D.cache.length cc, .int .i64 D.ops, .slice fa D.faults.length fc, .bool D.down]) D) := hv
  clear hv
  cases rok
  · have HF : Hid (flushD D = (D, 1)) := flushD_no (fun h => by have := hrok.out.2 h; cases this)
    have hBw := hb3'
    have hXw := hX3
    have hRw := hR3
    have a0 : W3.cell? ⟨X, 0, none⟩ = some (.slice ta D.secs.length tc) := hXw.cell 0
    have a1 : W3.cell? ⟨X, 1, none⟩ = some (.slice da D.cache.length dc) := hXw.cell 1
    have a2 : W3.cell? ⟨X, 2, none⟩ = some (.int .i64 D.ops) := hXw.cell 2
    have a3 : W3.cell? ⟨X, 3, none⟩ = some (.slice ga D.faults.length gc) := hXw.cell 3
    have a4 : W3.cell? ⟨X, 4, none⟩ = some (.bool D.down) := hXw.cell 4
    have r0 : W3.cell? ⟨w.heap.size + 1, 0, none⟩ = some (.slice none 0 0) := hRw.cell 0
    have r1 : W3.cell? ⟨w.heap.size + 1, 1, none⟩ = some (.slice none 0 0) := hRw.cell 1
    have r2 : W3.cell? ⟨w.heap.size + 1, 2, none⟩ = some (.int .i64 0) := hRw.cell 2
    have r3 : W3.cell? ⟨w.heap.size + 1, 3, none⟩ = some (.slice none 0 0) := hRw.cell 3
    have r4 : W3.cell? ⟨w.heap.size + 1, 4, none⟩ = some (.bool false) := hRw.cell 4
    have z0 := hRw.fz 0
    have z1 := hRw.fz 1
    have z2 := hRw.fz 2
    have z3 := hRw.fz 3
    have z4 := hRw.fz 4
    have hRv := ret5_vn (.slice ta D.secs.length tc) (.slice da D.cache.length dc) (.int .i64 D.ops) (.slice ga D.faults.length gc) (.bool D.down) hRw
    have hRk := ret5_keep (.slice ta D.secs.length tc) (.slice da D.cache.length dc) (.int .i64 D.ops) (.slice ga D.faults.length gc) (.bool D.down) hRw
    have hRb := ret5_below (R := w.heap.size + 1) (.slice ta D.secs.length tc) (.slice da D.cache.length dc) (.int .i64 D.ops) (.slice ga D.faults.length gc) (.bool D.down) hBw (by omega)
    have m0 : (((((W3.setCell ⟨w.heap.size + 1, 0, none⟩ (.slice ta D.secs.length tc)).setCell ⟨w.heap.size + 1, 1, none⟩ (.slice da D.cache.length dc)).setCell ⟨w.heap.size + 1, 2, none⟩ (.int .i64 D.ops)).setCell ⟨w.heap.size + 1, 3, none⟩ (.slice ga D.faults.length gc)).setCell ⟨w.heap.size + 1, 4, none⟩ (.bool D.down)).cell? ⟨w.heap.size + 1, 0, none⟩ = some (.slice ta D.secs.length tc) := hRv.cell 0
    have m1 : (((((W3.setCell ⟨w.heap.size + 1, 0, none⟩ (.slice ta D.secs.length tc)).setCell ⟨w.heap.size + 1, 1, none⟩ (.slice da D.cache.length dc)).setCell ⟨w.heap.size + 1, 2, none⟩ (.int .i64 D.ops)).setCell ⟨w.heap.size + 1, 3, none⟩ (.slice ga D.faults.length gc)).setCell ⟨w.heap.size + 1, 4, none⟩ (.bool D.down)).cell? ⟨w.heap.size + 1, 1, none⟩ = some (.slice da D.cache.length dc) := hRv.cell 1
    have m2 : (((((W3.setCell ⟨w.heap.size + 1, 0, none⟩ (.slice ta D.secs.length tc)).setCell ⟨w.heap.size + 1, 1, none⟩ (.slice da D.cache.length dc)).setCell ⟨w.heap.size + 1, 2, none⟩ (.int .i64 D.ops)).setCell ⟨w.heap.size + 1, 3, none⟩ (.slice ga D.faults.length gc)).setCell ⟨w.heap.size + 1, 4, none⟩ (.bool D.down)).cell? ⟨w.heap.size + 1, 2, none⟩ = some (.int .i64 D.ops) := hRv.cell 2
    have m3 : (((((W3.setCell ⟨w.heap.size + 1, 0, none⟩ (.slice ta D.secs.length tc)).setCell ⟨w.heap.size + 1, 1, none⟩ (.slice da D.cache.length dc)).setCell ⟨w.heap.size + 1, 2, none⟩ (.int .i64 D.ops)).setCell ⟨w.heap.size + 1, 3, none⟩ (.slice ga D.faults.length gc)).setCell ⟨w.heap.size + 1, 4, none⟩ (.bool D.down)).cell? ⟨w.heap.size + 1, 3, none⟩ = some (.slice ga D.faults.length gc) := hRv.cell 3
    have m4 : (((((W3.setCell ⟨w.heap.size + 1, 0, none⟩ (.slice ta D.secs.length tc)).setCell ⟨w.heap.size + 1, 1, none⟩ (.slice da D.cache.length dc)).setCell ⟨w.heap.size + 1, 2, none⟩ (.int .i64 D.ops)).setCell ⟨w.heap.size + 1, 3, none⟩ (.slice ga D.faults.length gc)).setCell ⟨w.heap.size + 1, 4, none⟩ (.bool D.down)).cell? ⟨w.heap.size + 1, 4, none⟩ = some (.bool D.down) := hRv.cell 4
    have HR : Hid (ITo w (flushD D).1 (flushD D).2 (.returned (.tuple #[dval D ta tc da dc ga gc, .int .i64 1])) (((((W3.setCell ⟨w.heap.size + 1, 0, none⟩ (.slice ta D.secs.length tc)).setCell ⟨w.heap.size + 1, 1, none⟩ (.slice da D.cache.length dc)).setCell ⟨w.heap.size + 1, 2, none⟩ (.int .i64 D.ops)).setCell ⟨w.heap.size + 1, 3, none⟩ (.slice ga D.faults.length gc)).setCell ⟨w.heap.size + 1, 4, none⟩ (.bool D.down))) := by
      rw [HF.out]
      have k9 := hk3.keepT hRk (by rw [ret5_size]; exact Nat.le_refl _) (by decide) (by decide) (by decide) (by decide)
      exact ⟨_, rfl, ⟨_, _, _, _, _, _, _, _, rfl, k9.mono (by omega)⟩, hRb⟩
    clear hk3
    clear hRv hRk hRb hXw hRw
    go_wp2
    refine bodyPost_ret (v := .tuple #[dval D ta tc da dc ga gc, .int .i64 1]) (by simp [results, Try.results23, go_sem, m0, m1, m2, m3, m4, dval]) rfl HR.out
  have hok : OkD D := hrok.out.1 rfl
  clear hrok
  have x0 : W3.cell? ⟨w.heap.size, 0, none⟩ = some (.slice sa D.secs.length sc) := hA3.cell 0
  have x1 : W3.cell? ⟨w.heap.size, 1, none⟩ = some (.slice ca D.cache.length cc) := hA3.cell 1
  have x2 : W3.cell? ⟨w.heap.size, 2, none⟩ = some (.int .i64 D.ops) := hA3.cell 2
  have x3 : W3.cell? ⟨w.heap.size, 3, none⟩ = some (.slice fa D.faults.length fc) := hA3.cell 3
  have x4 : W3.cell? ⟨w.heap.size, 4, none⟩ = some (.bool D.down) := hA3.cell 4
  have hSt := isStopped_any _ D W3 (HV.out.below hb3')
  go_wp2_with fail
  refine hSt.mono ?_
  rintro e W4 ⟨rst, rfl, hrst0, hb4⟩
  have hrst : Hid (rst = true ↔ D.down = true ∨ 100000 ≤ D.ops) := hrst0
  clear hrst0
  clear x0 x1 x2 x3 x4 hSt HV hA3
  have hX4 := hX3.below hb4
  have hk4 := hk3.up (Up.ofBelow hb4)
  have hR4 := hR3.below hb4
  have hb4' := hb3'.trans (hb4.mono hb3'.size)
  have hsz4 := hb4.size
  clear hX3 hk3 hR3 hb3' hb4
  cases rst
  case true =>
    have HF : Hid (flushD D = (D, 9)) := by show _ = _; rw [flushD_ok hok, flushF_down (hrst.out.1 rfl)]
    have hBw := hb4'
    have hXw := hX4
    have hRw := hR4
    clear hrst
    have a0 : W4.cell? ⟨X, 0, none⟩ = some (.slice ta D.secs.length tc) := hXw.cell 0
    have a1 : W4.cell? ⟨X, 1, none⟩ = some (.slice da D.cache.length dc) := hXw.cell 1
    have a2 : W4.cell? ⟨X, 2, none⟩ = some (.int .i64 D.ops) := hXw.cell 2
    have a3 : W4.cell? ⟨X, 3, none⟩ = some (.slice ga D.faults.length gc) := hXw.cell 3
    have a4 : W4.cell? ⟨X, 4, none⟩ = some (.bool D.down) := hXw.cell 4
    have r0 : W4.cell? ⟨w.heap.size + 1, 0, none⟩ = some (.slice none 0 0) := hRw.cell 0
    have r1 : W4.cell? ⟨w.heap.size + 1, 1, none⟩ = some (.slice none 0 0) := hRw.cell 1
    have r2 : W4.cell? ⟨w.heap.size + 1, 2, none⟩ = some (.int .i64 0) := hRw.cell 2
    have r3 : W4.cell? ⟨w.heap.size + 1, 3, none⟩ = some (.slice none 0 0) := hRw.cell 3
    have r4 : W4.cell? ⟨w.heap.size + 1, 4, none⟩ = some (.bool false) := hRw.cell 4
    have z0 := hRw.fz 0
    have z1 := hRw.fz 1
    have z2 := hRw.fz 2
    have z3 := hRw.fz 3
    have z4 := hRw.fz 4
    have hRv := ret5_vn (.slice ta D.secs.length tc) (.slice da D.cache.length dc) (.int .i64 D.ops) (.slice ga D.faults.length gc) (.bool D.down) hRw
    have hRk := ret5_keep (.slice ta D.secs.length tc) (.slice da D.cache.length dc) (.int .i64 D.ops) (.slice ga D.faults.length gc) (.bool D.down) hRw
    have hRb := ret5_below (R := w.heap.size + 1) (.slice ta D.secs.length tc) (.slice da D.cache.length dc) (.int .i64 D.ops) (.slice ga D.faults.length gc) (.bool D.down) hBw (by omega)
    have m0 : (((((W4.setCell ⟨w.heap.size + 1, 0, none⟩ (.slice ta D.secs.length tc)).setCell ⟨w.heap.size + 1, 1, none⟩ (.slice da D.cache.length dc)).setCell ⟨w.heap.size + 1, 2, none⟩ (.int .i64 D.ops)).setCell ⟨w.heap.size + 1, 3, none⟩ (.slice ga D.faults.length gc)).setCell ⟨w.heap.size + 1, 4, none⟩ (.bool D.down)).cell? ⟨w.heap.size + 1, 0, none⟩ = some (.slice ta D.secs.length tc) := hRv.cell 0
    have m1 : (((((W4.setCell ⟨w.heap.size + 1, 0, none⟩ (.slice ta D.secs.length tc)).setCell ⟨w.heap.size + 1, 1, none⟩ (.slice da D.cache.length dc)).setCell ⟨w.heap.size + 1, 2, none⟩ (.int .i64 D.ops)).setCell ⟨w.heap.size + 1, 3, none⟩ (.slice ga D.faults.length gc)).setCell ⟨w.heap.size + 1, 4, none⟩ (.bool D.down)).cell? ⟨w.heap.size + 1, 1, none⟩ = some (.slice da D.cache.length dc) := hRv.cell 1
    have m2 : (((((W4.setCell ⟨w.heap.size + 1, 0, none⟩ (.slice ta D.secs.length tc)).setCell ⟨w.heap.size + 1, 1, none⟩ (.slice da D.cache.length dc)).setCell ⟨w.heap.size + 1, 2, none⟩ (.int .i64 D.ops)).setCell ⟨w.heap.size + 1, 3, none⟩ (.slice ga D.faults.length gc)).setCell ⟨w.heap.size + 1, 4, none⟩ (.bool D.down)).cell? ⟨w.heap.size + 1, 2, none⟩ = some (.int .i64 D.ops) := hRv.cell 2
    have m3 : (((((W4.setCell ⟨w.heap.size + 1, 0, none⟩ (.slice ta D.secs.length tc)).setCell ⟨w.heap.size + 1, 1, none⟩ (.slice da D.cache.length dc)).setCell ⟨w.heap.size + 1, 2, none⟩ (.int .i64 D.ops)).setCell ⟨w.heap.size + 1, 3, none⟩ (.slice ga D.faults.length gc)).setCell ⟨w.heap.size + 1, 4, none⟩ (.bool D.down)).cell? ⟨w.heap.size + 1, 3, none⟩ = some (.slice ga D.faults.length gc) := hRv.cell 3
    have m4 : (((((W4.setCell ⟨w.heap.size + 1, 0, none⟩ (.slice ta D.secs.length tc)).setCell ⟨w.heap.size + 1, 1, none⟩ (.slice da D.cache.length dc)).setCell ⟨w.heap.size + 1, 2, none⟩ (.int .i64 D.ops)).setCell ⟨w.heap.size + 1, 3, none⟩ (.slice ga D.faults.length gc)).setCell ⟨w.heap.size + 1, 4, none⟩ (.bool D.down)).cell? ⟨w.heap.size + 1, 4, none⟩ = some (.bool D.down) := hRv.cell 4
    have HR : Hid (ITo w (flushD D).1 (flushD D).2 (.returned (.tuple #[dval D ta tc da dc ga gc, .int .i64 9])) (((((W4.setCell ⟨w.heap.size + 1, 0, none⟩ (.slice ta D.secs.length tc)).setCell ⟨w.heap.size + 1, 1, none⟩ (.slice da D.cache.length dc)).setCell ⟨w.heap.size + 1, 2, none⟩ (.int .i64 D.ops)).setCell ⟨w.heap.size + 1, 3, none⟩ (.slice ga D.faults.length gc)).setCell ⟨w.heap.size + 1, 4, none⟩ (.bool D.down))) := by
      rw [HF.out]
      have k9 := hk4.keepT hRk (by rw [ret5_size]; exact Nat.le_refl _) (by decide) (by decide) (by decide) (by decide)
      exact ⟨_, rfl, ⟨_, _, _, _, _, _, _, _, rfl, k9.mono (by omega)⟩, hRb⟩
    clear hk4
    clear hRv hRk hRb hXw hRw
    go_wp2
    refine bodyPost_ret (v := .tuple #[dval D ta tc da dc ga gc, .int .i64 9]) (by simp [results, Try.results23, go_sem, m0, m1, m2, m3, m4, dval]) rfl HR.out
  have hdn : ¬ (D.down = true ∨ 100000 ≤ D.ops) := fun h => by have := hrst.out.2 h; cases this
  clear hrst
  have hp : 0 < D.secs.length := by have := hok.1.1; omega
  obtain ⟨gs, es⟩ : ∃ gs, ta = some ⟨gs, 0, none⟩ := by
    obtain ⟨g, e, -⟩ := hk4.secs.cell (by rw [hk4.ns]; exact hp)
    exact ⟨g, e⟩
  subst es
  have hops : 0 ≤ D.ops ∧ D.ops ≤ 100000 := hok.2.2.1
  have hBe := begin_any X (w.heap.size + 1 + 1) _ _ D.ops ga gc D.faults _ W4 hX4 hk4.faults hk4.fle hk4.fnil hf.nf hops.1 (by omega)
  have HOK : Hid (OkD D) := hok
  have HDN : Hid (¬ (D.down = true ∨ 100000 ≤ D.ops)) := hdn
  have HKF : Hid (KFine D) := hf
  clear hok hdn hf
  go_wp2_with fail
  refine hBe.mono ?_
  rintro e W5 ⟨hbx, hX5, hres⟩
  clear hBe
  have hk5 := (hk4.keepT (hbx.keep hX4) hbx.size (by decide) (by decide) (by decide) (by decide)).opsUp (D.ops + 1)
  have hR5 := hR4.block (hbx.block _ (by omega) (by omega))
  have hb5' := hb4'.trans (hbx.below (n := w.heap.size) (by omega) (by omega))
  have hsz5 := hbx.size
  clear hX4 hk4 hR4 hb4' hbx
  rcases hres with ⟨f, hff, rfl⟩ | ⟨hff, rfl⟩
  · have HF0 : Hid (flushD D = (loseD { D with ops := D.ops + 1 } f, 9)) := by show _ = _; rw [flushD_ok HOK.out, flushF_lose HDN.out hff]
    have hfo := findF_ok HOK.out hff
    obtain ⟨p, q, c⟩ := f
    obtain ⟨-, ⟨hq0, hq1⟩, hc0, hc1⟩ := hfo
    dsimp only at hq0 hq1 hc0 hc1 ⊢
    obtain ⟨r, rfl⟩ := Int.eq_ofNat_of_zero_le hc0
    have hbA : Below W5.heap.size W5 (W5.alloc (.cells #[.int .i64 p, .int .i64 q, .int .i64 (r : Int)] 78)) := (Below.refl _ _).alloc (Nat.le_refl _) _
    have hFv := VN.new W5 78 [.int .i64 p, .int .i64 q, .int .i64 (r : Int)]
    have hX6 := hX5.below hbA
    have hk6 := hk5.up (Up.ofBelow hbA)
    have hR6 := hR5.below hbA
    have hb6 := hb5'.trans (hbA.mono hb5'.size)
    have f0 : (W5.alloc (.cells #[.int .i64 p, .int .i64 q, .int .i64 (r : Int)] 78)).cell? ⟨W5.heap.size, 0, none⟩ = some (.int .i64 p) := hFv.cell 0
    have f1 : (W5.alloc (.cells #[.int .i64 p, .int .i64 q, .int .i64 (r : Int)] 78)).cell? ⟨W5.heap.size, 1, none⟩ = some (.int .i64 q) := hFv.cell 1
    have f2 : (W5.alloc (.cells #[.int .i64 p, .int .i64 q, .int .i64 (r : Int)] 78)).cell? ⟨W5.heap.size, 2, none⟩ = some (.int .i64 (r : Int)) := hFv.cell 2
    have hsz6 : w.heap.size + 1 + 1 ≤ (W5.alloc (.cells #[.int .i64 p, .int .i64 q, .int .i64 (r : Int)] 78)).heap.size := by simp; omega
    have hPo := powerOff_any X (w.heap.size + 1 + 1) gs D.secs.length tc p q r da dc _ _ _ D.cache ss cs _ hX6 hk6.secs hk6.ns hp HKF.out.ns hk6.cache hk6.nc (fun e => by have h1 := hk6.cnil e; have h2 := hk6.cle; show D.cache.length = 0; have : D.cache.length ≤ dc := h2; omega) (hk6.slices (by exact ⟨HOK.out.1, HOK.out.2.1, ⟨by show 0 ≤ D.ops + 1; omega, by have := HDN.out; show D.ops + 1 ≤ 100000; have h9 : ¬ 100000 ≤ D.ops := fun h => this (.inr h); omega⟩, HOK.out.2.2.2.1, HOK.out.2.2.2.2⟩)) (fun x hx => by obtain ⟨i, hi, rfl⟩ := List.getElem_of_mem hx; exact ⟨(HOK.out.2.1.2 i hi).1, (HOK.out.2.1.2 i hi).2.1⟩) hq0 hq1 HOK.out.2.1.1 (by omega) hsz6
    obtain ⟨hBl, hBn⟩ := hk6.bytes.lost hk6.ns q r
    have HBL : Hid (Bs (W5.alloc (.cells #[.int .i64 p, .int .i64 q, .int .i64 (r : Int)] 78)) (w.heap.size + 1 + 1) (ss ++ cutLast (cutVal r) (keptG q cs D.cache.length)) (D.secs ++ (cutLast (cutW r) (keptG q D.cache D.cache.length)).map (·.2)) ∧ (cutLast (cutVal r) (keptG q cs D.cache.length)).length = (cutLast (cutW r) (keptG q D.cache D.cache.length)).length) := ⟨hBl, hBn⟩
    rw [← cut_fst r] at hPo
    clear hBl hBn hX5 hk5 hR5 hb5' hbA hFv
    go_wp2_with fail
    refine hPo.mono ?_
    rintro e W7 ⟨rfl, hT⟩
    have hk7 := KO.settled (D := { D with ops := D.ops + 1 }) hk6 hX6 hp _ _ HBL.out.1 HBL.out.2 hT true
    have hX7 := hT.x
    have hR7 := hR6.block (hT.low _ hR6.lt (by omega) (by omega))
    have hb7 := hb6.trans (hT.below (n := w.heap.size) (by omega) (by omega) (by omega))
    have hsz7 := hT.size
    clear hPo hT hk6 hX6 hR6 hb6 HBL f0 f1 f2
    obtain ⟨DD, hDD⟩ := hidEx (loseD { D with ops := D.ops + 1 } ⟨p, q, r⟩)
    have HF : Hid (flushD D = (DD, 9)) := by show _ = _; rw [HF0.out, hDD.out]
    have eDD : ({ D with ops := D.ops + 1, secs := settleL D.secs (cutLast (cutW r) (keptG q D.cache D.cache.length)), cache := [], down := true } : PDisk) = DD := by rw [← hDD.out]; rfl
    have hk8 : KO W7 (w.heap.size + 1 + 1) (some ⟨gs, 0, none⟩) tc da 0 ga gc (settleL ss (((cutLast (cutW r) (keptG q D.cache D.cache.length)).map (·.1)).zip (cutLast (cutVal r) (keptG q cs D.cache.length)))) [] DD := by rw [← eDD]; exact hk7
    have hX8 : VN W7 X 34 [.slice (some ⟨gs, 0, none⟩) DD.secs.length tc, .slice da DD.cache.length 0, .int .i64 DD.ops, .slice ga DD.faults.length gc, .bool DD.down] := by
      rw [← eDD]
      show VN W7 X 34 [.slice (some ⟨gs, 0, none⟩) (settleL D.secs _).length tc, .slice da 0 0, .int .i64 (D.ops + 1), .slice ga D.faults.length gc, .bool true]
      rw [settleL_len]; exact hX7
    clear hk7 hX7 eDD hDD HF0
    have hBw := hb7
    have hXw := hX8
    have hRw := hR7
    have a0 : W7.cell? ⟨X, 0, none⟩ = some (.slice (some ⟨gs, 0, none⟩) DD.secs.length tc) := hXw.cell 0
    have a1 : W7.cell? ⟨X, 1, none⟩ = some (.slice da DD.cache.length 0) := hXw.cell 1
    have a2 : W7.cell? ⟨X, 2, none⟩ = some (.int .i64 DD.ops) := hXw.cell 2
    have a3 : W7.cell? ⟨X, 3, none⟩ = some (.slice ga DD.faults.length gc) := hXw.cell 3
    have a4 : W7.cell? ⟨X, 4, none⟩ = some (.bool DD.down) := hXw.cell 4
    have r0 : W7.cell? ⟨w.heap.size + 1, 0, none⟩ = some (.slice none 0 0) := hRw.cell 0
    have r1 : W7.cell? ⟨w.heap.size + 1, 1, none⟩ = some (.slice none 0 0) := hRw.cell 1
    have r2 : W7.cell? ⟨w.heap.size + 1, 2, none⟩ = some (.int .i64 0) := hRw.cell 2
    have r3 : W7.cell? ⟨w.heap.size + 1, 3, none⟩ = some (.slice none 0 0) := hRw.cell 3
    have r4 : W7.cell? ⟨w.heap.size + 1, 4, none⟩ = some (.bool false) := hRw.cell 4
    have z0 := hRw.fz 0
    have z1 := hRw.fz 1
    have z2 := hRw.fz 2
    have z3 := hRw.fz 3
    have z4 := hRw.fz 4
    have hRv := ret5_vn (.slice (some ⟨gs, 0, none⟩) DD.secs.length tc) (.slice da DD.cache.length 0) (.int .i64 DD.ops) (.slice ga DD.faults.length gc) (.bool DD.down) hRw
    have hRk := ret5_keep (.slice (some ⟨gs, 0, none⟩) DD.secs.length tc) (.slice da DD.cache.length 0) (.int .i64 DD.ops) (.slice ga DD.faults.length gc) (.bool DD.down) hRw
    have hRb := ret5_below (R := w.heap.size + 1) (.slice (some ⟨gs, 0, none⟩) DD.secs.length tc) (.slice da DD.cache.length 0) (.int .i64 DD.ops) (.slice ga DD.faults.length gc) (.bool DD.down) hBw (by omega)
    have m0 : (((((W7.setCell ⟨w.heap.size + 1, 0, none⟩ (.slice (some ⟨gs, 0, none⟩) DD.secs.length tc)).setCell ⟨w.heap.size + 1, 1, none⟩ (.slice da DD.cache.length 0)).setCell ⟨w.heap.size + 1, 2, none⟩ (.int .i64 DD.ops)).setCell ⟨w.heap.size + 1, 3, none⟩ (.slice ga DD.faults.length gc)).setCell ⟨w.heap.size + 1, 4, none⟩ (.bool DD.down)).cell? ⟨w.heap.size + 1, 0, none⟩ = some (.slice (some ⟨gs, 0, none⟩) DD.secs.length tc) := hRv.cell 0
    have m1 : (((((W7.setCell ⟨w.heap.size + 1, 0, none⟩ (.slice (some ⟨gs, 0, none⟩) DD.secs.length tc)).setCell ⟨w.heap.size + 1, 1, none⟩ (.slice da DD.cache.length 0)).setCell ⟨w.heap.size + 1, 2, none⟩ (.int .i64 DD.ops)).setCell ⟨w.heap.size + 1, 3, none⟩ (.slice ga DD.faults.length gc)).setCell ⟨w.heap.size + 1, 4, none⟩ (.bool DD.down)).cell? ⟨w.heap.size + 1, 1, none⟩ = some (.slice da DD.cache.length 0) := hRv.cell 1
    have m2 : (((((W7.setCell ⟨w.heap.size + 1, 0, none⟩ (.slice (some ⟨gs, 0, none⟩) DD.secs.length tc)).setCell ⟨w.heap.size + 1, 1, none⟩ (.slice da DD.cache.length 0)).setCell ⟨w.heap.size + 1, 2, none⟩ (.int .i64 DD.ops)).setCell ⟨w.heap.size + 1, 3, none⟩ (.slice ga DD.faults.length gc)).setCell ⟨w.heap.size + 1, 4, none⟩ (.bool DD.down)).cell? ⟨w.heap.size + 1, 2, none⟩ = some (.int .i64 DD.ops) := hRv.cell 2
    have m3 : (((((W7.setCell ⟨w.heap.size + 1, 0, none⟩ (.slice (some ⟨gs, 0, none⟩) DD.secs.length tc)).setCell ⟨w.heap.size + 1, 1, none⟩ (.slice da DD.cache.length 0)).setCell ⟨w.heap.size + 1, 2, none⟩ (.int .i64 DD.ops)).setCell ⟨w.heap.size + 1, 3, none⟩ (.slice ga DD.faults.length gc)).setCell ⟨w.heap.size + 1, 4, none⟩ (.bool DD.down)).cell? ⟨w.heap.size + 1, 3, none⟩ = some (.slice ga DD.faults.length gc) := hRv.cell 3
    have m4 : (((((W7.setCell ⟨w.heap.size + 1, 0, none⟩ (.slice (some ⟨gs, 0, none⟩) DD.secs.length tc)).setCell ⟨w.heap.size + 1, 1, none⟩ (.slice da DD.cache.length 0)).setCell ⟨w.heap.size + 1, 2, none⟩ (.int .i64 DD.ops)).setCell ⟨w.heap.size + 1, 3, none⟩ (.slice ga DD.faults.length gc)).setCell ⟨w.heap.size + 1, 4, none⟩ (.bool DD.down)).cell? ⟨w.heap.size + 1, 4, none⟩ = some (.bool DD.down) := hRv.cell 4
    have HR : Hid (ITo w (flushD D).1 (flushD D).2 (.returned (.tuple #[dval DD (some ⟨gs, 0, none⟩) tc da 0 ga gc, .int .i64 9])) (((((W7.setCell ⟨w.heap.size + 1, 0, none⟩ (.slice (some ⟨gs, 0, none⟩) DD.secs.length tc)).setCell ⟨w.heap.size + 1, 1, none⟩ (.slice da DD.cache.length 0)).setCell ⟨w.heap.size + 1, 2, none⟩ (.int .i64 DD.ops)).setCell ⟨w.heap.size + 1, 3, none⟩ (.slice ga DD.faults.length gc)).setCell ⟨w.heap.size + 1, 4, none⟩ (.bool DD.down))) := by
      rw [HF.out]
      have k9 := hk8.keepT hRk (by rw [ret5_size]; exact Nat.le_refl _) (by decide) (by decide) (by decide) (by decide)
      exact ⟨_, rfl, ⟨_, _, _, _, _, _, _, _, rfl, k9.mono (by omega)⟩, hRb⟩
    clear hk8
    clear hRv hRk hRb hXw hRw
    go_wp2
    refine bodyPost_ret (v := .tuple #[dval DD (some ⟨gs, 0, none⟩) tc da 0 ga gc, .int .i64 9]) (by simp [results, Try.results23, go_sem, m0, m1, m2, m3, m4, dval]) rfl HR.out
  · have HF0 : Hid (flushD D = (calmD { D with ops := D.ops + 1 }, 0)) := by show _ = _; rw [flushD_ok HOK.out, flushF_calm HDN.out hff]
    have hbA : Below W5.heap.size W5 (W5.alloc (.cells #[.int .i64 0, .int .i64 0, .int .i64 0] 78)) := (Below.refl _ _).alloc (Nat.le_refl _) _
    have hX6 := hX5.below hbA
    have hk6 := hk5.up (Up.ofBelow hbA)
    have hR6 := hR5.below hbA
    have hb6 := hb5'.trans (hbA.mono hb5'.size)
    have x1 : (W5.alloc (.cells #[.int .i64 0, .int .i64 0, .int .i64 0] 78)).cell? ⟨X, 1, none⟩ = some (.slice da D.cache.length dc) := hX6.cell 1
    have hsz6 : w.heap.size + 1 + 1 ≤ (W5.alloc (.cells #[.int .i64 0, .int .i64 0, .int .i64 0] 78)).heap.size := by simp; omega
    have hSe := settle_any (w.heap.size + 1 + 1) X gs D.secs.length tc da D.cache.length dc _ _ _ ss cs (wcells D.cache cs) da dc D.cache _ hX6 hk6.secs hk6.ns hp hk6.cache hk6.nc hk6.cache (wcells_len hk6.nc) (fun e => by have h1 := hk6.cnil e; have h2 := hk6.cle; have : D.cache.length ≤ dc := h2; omega) (fun i v hv => by
        have hi : i < D.cache.length := by rw [← hk6.nc]; exact (List.getElem?_eq_some_iff.1 hv).1
        have hO := hk6.bytes.ob (ss.length + i) v (D.cache[i]).2 (by rw [List.getElem?_append_right (by omega), Nat.add_sub_cancel_left]; exact hv) (by rw [hk6.ns, List.getElem?_append_right (by omega), Nat.add_sub_cancel_left]; simp [hi])
        obtain ⟨a, c, e, -⟩ := hO.is
        exact ⟨a, _, c, e⟩) (fun i hi => ⟨(HOK.out.2.1.2 i hi).1, (HOK.out.2.1.2 i hi).2.1⟩) HKF.out.nc HKF.out.nc HKF.out.ns
    clear hX5 hk5 hR5 hb5' hbA
    go_wp2_with fail
    refine hSe.mono ?_
    rintro e W7 ⟨rfl, hT⟩
    have hk7 := KO.settled (D := { D with ops := D.ops + 1 }) hk6 hX6 hp cs D.cache hk6.bytes hk6.nc hT D.down
    have hX7 := hT.x
    have hR7 := hR6.block (hT.low _ hR6.lt (by omega) (by omega))
    have hb7 := hb6.trans (hT.below (n := w.heap.size) (by omega) (by omega) (by omega))
    have hsz7 := hT.size
    clear hSe hT hk6 hX6 hR6 hb6 x1
    obtain ⟨DD, hDD⟩ := hidEx (calmD { D with ops := D.ops + 1 })
    have HF : Hid (flushD D = (DD, 0)) := by show _ = _; rw [HF0.out, hDD.out]
    have eDD : ({ D with ops := D.ops + 1, secs := settleL D.secs D.cache, cache := [] } : PDisk) = DD := by rw [← hDD.out]; rfl
    have hk8 : KO W7 (w.heap.size + 1 + 1) (some ⟨gs, 0, none⟩) tc da 0 ga gc (settleL ss ((D.cache.map (·.1)).zip cs)) [] DD := by rw [← eDD]; exact hk7
    have hX8 : VN W7 X 34 [.slice (some ⟨gs, 0, none⟩) DD.secs.length tc, .slice da DD.cache.length 0, .int .i64 DD.ops, .slice ga DD.faults.length gc, .bool DD.down] := by
      rw [← eDD]
      show VN W7 X 34 [.slice (some ⟨gs, 0, none⟩) (settleL D.secs _).length tc, .slice da 0 0, .int .i64 (D.ops + 1), .slice ga D.faults.length gc, .bool D.down]
      rw [settleL_len]; exact hX7
    clear hk7 hX7 eDD hDD HF0
    have hBw := hb7
    have hXw := hX8
    have hRw := hR7
    have a0 : W7.cell? ⟨X, 0, none⟩ = some (.slice (some ⟨gs, 0, none⟩) DD.secs.length tc) := hXw.cell 0
    have a1 : W7.cell? ⟨X, 1, none⟩ = some (.slice da DD.cache.length 0) := hXw.cell 1
    have a2 : W7.cell? ⟨X, 2, none⟩ = some (.int .i64 DD.ops) := hXw.cell 2
    have a3 : W7.cell? ⟨X, 3, none⟩ = some (.slice ga DD.faults.length gc) := hXw.cell 3
    have a4 : W7.cell? ⟨X, 4, none⟩ = some (.bool DD.down) := hXw.cell 4
    have r0 : W7.cell? ⟨w.heap.size + 1, 0, none⟩ = some (.slice none 0 0) := hRw.cell 0
    have r1 : W7.cell? ⟨w.heap.size + 1, 1, none⟩ = some (.slice none 0 0) := hRw.cell 1
    have r2 : W7.cell? ⟨w.heap.size + 1, 2, none⟩ = some (.int .i64 0) := hRw.cell 2
    have r3 : W7.cell? ⟨w.heap.size + 1, 3, none⟩ = some (.slice none 0 0) := hRw.cell 3
    have r4 : W7.cell? ⟨w.heap.size + 1, 4, none⟩ = some (.bool false) := hRw.cell 4
    have z0 := hRw.fz 0
    have z1 := hRw.fz 1
    have z2 := hRw.fz 2
    have z3 := hRw.fz 3
    have z4 := hRw.fz 4
    have hRv := ret5_vn (.slice (some ⟨gs, 0, none⟩) DD.secs.length tc) (.slice da DD.cache.length 0) (.int .i64 DD.ops) (.slice ga DD.faults.length gc) (.bool DD.down) hRw
    have hRk := ret5_keep (.slice (some ⟨gs, 0, none⟩) DD.secs.length tc) (.slice da DD.cache.length 0) (.int .i64 DD.ops) (.slice ga DD.faults.length gc) (.bool DD.down) hRw
    have hRb := ret5_below (R := w.heap.size + 1) (.slice (some ⟨gs, 0, none⟩) DD.secs.length tc) (.slice da DD.cache.length 0) (.int .i64 DD.ops) (.slice ga DD.faults.length gc) (.bool DD.down) hBw (by omega)
    have m0 : (((((W7.setCell ⟨w.heap.size + 1, 0, none⟩ (.slice (some ⟨gs, 0, none⟩) DD.secs.length tc)).setCell ⟨w.heap.size + 1, 1, none⟩ (.slice da DD.cache.length 0)).setCell ⟨w.heap.size + 1, 2, none⟩ (.int .i64 DD.ops)).setCell ⟨w.heap.size + 1, 3, none⟩ (.slice ga DD.faults.length gc)).setCell ⟨w.heap.size + 1, 4, none⟩ (.bool DD.down)).cell? ⟨w.heap.size + 1, 0, none⟩ = some (.slice (some ⟨gs, 0, none⟩) DD.secs.length tc) := hRv.cell 0
    have m1 : (((((W7.setCell ⟨w.heap.size + 1, 0, none⟩ (.slice (some ⟨gs, 0, none⟩) DD.secs.length tc)).setCell ⟨w.heap.size + 1, 1, none⟩ (.slice da DD.cache.length 0)).setCell ⟨w.heap.size + 1, 2, none⟩ (.int .i64 DD.ops)).setCell ⟨w.heap.size + 1, 3, none⟩ (.slice ga DD.faults.length gc)).setCell ⟨w.heap.size + 1, 4, none⟩ (.bool DD.down)).cell? ⟨w.heap.size + 1, 1, none⟩ = some (.slice da DD.cache.length 0) := hRv.cell 1
    have m2 : (((((W7.setCell ⟨w.heap.size + 1, 0, none⟩ (.slice (some ⟨gs, 0, none⟩) DD.secs.length tc)).setCell ⟨w.heap.size + 1, 1, none⟩ (.slice da DD.cache.length 0)).setCell ⟨w.heap.size + 1, 2, none⟩ (.int .i64 DD.ops)).setCell ⟨w.heap.size + 1, 3, none⟩ (.slice ga DD.faults.length gc)).setCell ⟨w.heap.size + 1, 4, none⟩ (.bool DD.down)).cell? ⟨w.heap.size + 1, 2, none⟩ = some (.int .i64 DD.ops) := hRv.cell 2
    have m3 : (((((W7.setCell ⟨w.heap.size + 1, 0, none⟩ (.slice (some ⟨gs, 0, none⟩) DD.secs.length tc)).setCell ⟨w.heap.size + 1, 1, none⟩ (.slice da DD.cache.length 0)).setCell ⟨w.heap.size + 1, 2, none⟩ (.int .i64 DD.ops)).setCell ⟨w.heap.size + 1, 3, none⟩ (.slice ga DD.faults.length gc)).setCell ⟨w.heap.size + 1, 4, none⟩ (.bool DD.down)).cell? ⟨w.heap.size + 1, 3, none⟩ = some (.slice ga DD.faults.length gc) := hRv.cell 3
    have m4 : (((((W7.setCell ⟨w.heap.size + 1, 0, none⟩ (.slice (some ⟨gs, 0, none⟩) DD.secs.length tc)).setCell ⟨w.heap.size + 1, 1, none⟩ (.slice da DD.cache.length 0)).setCell ⟨w.heap.size + 1, 2, none⟩ (.int .i64 DD.ops)).setCell ⟨w.heap.size + 1, 3, none⟩ (.slice ga DD.faults.length gc)).setCell ⟨w.heap.size + 1, 4, none⟩ (.bool DD.down)).cell? ⟨w.heap.size + 1, 4, none⟩ = some (.bool DD.down) := hRv.cell 4
    have HR : Hid (ITo w (flushD D).1 (flushD D).2 (.returned (.tuple #[dval DD (some ⟨gs, 0, none⟩) tc da 0 ga gc, .int .i64 0])) (((((W7.setCell ⟨w.heap.size + 1, 0, none⟩ (.slice (some ⟨gs, 0, none⟩) DD.secs.length tc)).setCell ⟨w.heap.size + 1, 1, none⟩ (.slice da DD.cache.length 0)).setCell ⟨w.heap.size + 1, 2, none⟩ (.int .i64 DD.ops)).setCell ⟨w.heap.size + 1, 3, none⟩ (.slice ga DD.faults.length gc)).setCell ⟨w.heap.size + 1, 4, none⟩ (.bool DD.down))) := by
      rw [HF.out]
      have k9 := hk8.keepT hRk (by rw [ret5_size]; exact Nat.le_refl _) (by decide) (by decide) (by decide) (by decide)
      exact ⟨_, rfl, ⟨_, _, _, _, _, _, _, _, rfl, k9.mono (by omega)⟩, hRb⟩
    clear hk8
    clear hRv hRk hRb hXw hRw
    go_wp2
    refine bodyPost_ret (v := .tuple #[dval DD (some ⟨gs, 0, none⟩) tc da 0 ga gc, .int .i64 0]) (by simp [results, Try.results23, go_sem, m0, m1, m2, m3, m4, dval]) rfl HR.out
end Go.Proofs.Ytphipmhibegbnaa

