/-
  Together: FlushI, IterKit, IterOwn, BackI
-/
import Derived.Test.YtdhfbblameiloaaUP17
import Derived.Test.YtdhfbblameiloaaUP19
import Derived.Test.YtdhfbblameiloaaUP20
import Derived.Test.YtdhfbblameiloaaUP9
import Derived.Test.YtdhfbblameiloaaUP1
import Derived.RangeFuncNested
import Derived.RangeFuncBound
import Derived.RangeFuncCalls
import Derived.RangeFuncLeaves
import Derived.OwnWalkIn
import Derived.TacticsInMore
import Derived.LoopNIn
import Derived.LoopIn
import Derived.Shelf.RegionOpen
/-
  The program's Flush.
-/
namespace Go.Proofs.Ytdhfbblameiloaa
open Go.RowKit
set_option maxRecDepth 4000

theorem cut_fst (r : Nat) (l : List (Int × List Int)) : (cutLast (cutW r) l).map (·.1) = l.map (·.1) := by
  rcases List.eq_nil_or_concat l with rfl | ⟨l0, x, rfl⟩
  · rfl
  · rw [List.concat_eq_append, cutLast_app, List.map_append, List.map_append]
    rfl
theorem SettleTo.below {w w' : World} {B X gs ns sc n : Nat} {ca : Option Addr} {o f b : Value} {rows : List Value} (h : SettleTo w B X gs ns sc ca o f b rows w') (hB : n ≤ B) (hX : n ≤ X) (hs : n ≤ w.heap.size) : Below n w w' :=
  ⟨h.io.1, h.io.2.1, h.io.2.2, h.size, fun k hk => h.low k (by omega) (by omega) (by omega)⟩
theorem ButX.below {X n : Nat} {w w' : World} (h : ButX X w w') (hX : n ≤ X) (hs : n ≤ w.heap.size) : Below n w w' := ⟨h.os, h.tape, h.output, h.size, fun k hk => h.block k (by omega) (by omega)⟩
theorem KO.mono {w : World} {B B' : Nat} {sa : Option Addr} {sc : Nat} {ca : Option Addr} {cc : Nat} {fa : Option Addr} {fc : Nat} {ss cs : List Value} {D : PDisk} (h : KO w B sa sc ca cc fa fc ss cs D) (hB : B' ≤ B) : KO w B' sa sc ca cc fa fc ss cs D :=
  ⟨h.sle, h.snil, h.cle, h.cnil, h.fle, h.fnil, h.ns, h.nc, h.secs.mono hB, h.cache.mono hB, h.faults.mono hB, h.bytes.mono hB⟩
/-- What an operation of the program comes to. -/
def ITo (w : World) (D : PDisk) (code : Int) (e : Ending) (w' : World) : Prop := ∃ v, e = .returned (.tuple #[v, .int .i64 code]) ∧ KOwn w' w.heap.size v D ∧ Below w.heap.size w w'
theorem KO.slices {w : World} {B : Nat} {sa : Option Addr} {sc : Nat} {ca : Option Addr} {cc : Nat} {fa : Option Addr} {fc : Nat} {ss cs : List Value} {D : PDisk} (h : KO w B sa sc ca cc fa fc ss cs D) (hok : OkD D) : ∀ (i : Nat) v, cs[i]? = some v → ∃ a n c, v = .slice a n c ∧ n ≤ c ∧ n ≤ 256 ∧ (a = none → c = 0) := by
  intro i v hv
  have hi : i < D.cache.length := by rw [← h.nc]; exact (List.getElem?_eq_some_iff.1 hv).1
  have hO := h.bytes.ob (ss.length + i) v (D.cache[i]).2 (by rw [List.getElem?_append_right (by omega), Nat.add_sub_cancel_left]; exact hv) (by rw [h.ns, List.getElem?_append_right (by omega), Nat.add_sub_cancel_left]; simp [hi])
  obtain ⟨a, c, e, h1, h2, -, -⟩ := hO.is
  exact ⟨a, _, c, e, h1, (hok.2.1.2 i hi).2.2, h2⟩

set_option maxHeartbeats 8000000 in
theorem implFlush_any (v : Value) (D : PDisk) (w : World) (h : KView w v D) (hf : KFine D) :
    Calls Try.prog 24 #[v] w (ITo w (flushD D).1 (flushD D).2) := by
  obtain ⟨sa, sc, ca, cc, fa, fc, rfl, hs, hc, hfv⟩ := h.is
  have hv : KView w (.agg #[.slice sa D.secs.length sc, .slice ca D.cache.length cc, .int .i64 D.ops, .slice fa D.faults.length fc, .bool D.down]) D := ⟨sa, sc, ca, cc, fa, fc, rfl, hs, hc, hfv⟩
  clear h hs hc hfv
  have hA0 := VN.new w 32 [.slice sa D.secs.length sc, .slice ca D.cache.length cc, .int .i64 D.ops, .slice fa D.faults.length fc, .bool D.down]
  have hR := VN.new (w.alloc (.cells #[.slice sa D.secs.length sc, .slice ca D.cache.length cc, .int .i64 D.ops, .slice fa D.faults.length fc, .bool D.down] 32)) 32 [.slice none 0 0, .slice none 0 0, .int .i64 0, .slice none 0 0, .bool false]
  rw [alloc_sizeK] at hR
  have hbel : Below w.heap.size w ((w.alloc (.cells #[.slice sa D.secs.length sc, .slice ca D.cache.length cc, .int .i64 D.ops, .slice fa D.faults.length fc, .bool D.down] 32)).alloc (.cells #[.slice none 0 0, .slice none 0 0, .int .i64 0, .slice none 0 0, .bool false] 32)) := ((Below.refl _ _).alloc (Nat.le_refl _) _).alloc (by simp) _
  obtain ⟨W0, hW0⟩ := hidEx ((w.alloc (.cells #[.slice sa D.secs.length sc, .slice ca D.cache.length cc, .int .i64 D.ops, .slice fa D.faults.length fc, .bool D.down] 32)).alloc (.cells #[.slice none 0 0, .slice none 0 0, .int .i64 0, .slice none 0 0, .bool false] 32))
  have hz : W0.heap.size = w.heap.size + 1 + 1 := by rw [← hW0.out]; simp
  have hA := hA0.below ((Below.refl _ _).alloc (Nat.le_refl _) (.cells #[.slice none 0 0, .slice none 0 0, .int .i64 0, .slice none 0 0, .bool false] 32))
  rw [hW0.out] at hbel
  replace hA : VN W0 w.heap.size 32 [.slice sa D.secs.length sc, .slice ca D.cache.length cc, .int .i64 D.ops, .slice fa D.faults.length fc, .bool D.down] := by rw [← hW0.out]; exact hA
  replace hR : VN W0 (w.heap.size + 1) 32 [.slice none 0 0, .slice none 0 0, .int .i64 0, .slice none 0 0, .bool false] := by rw [← hW0.out]; exact hR
  have hS := copyDisk_any _ D W0 (hv.below hbel) hf
  have x0 : W0.cell? ⟨w.heap.size, 0, none⟩ = some (.slice sa D.secs.length sc) := hA.cell 0
  have x1 : W0.cell? ⟨w.heap.size, 1, none⟩ = some (.slice ca D.cache.length cc) := hA.cell 1
  have x2 : W0.cell? ⟨w.heap.size, 2, none⟩ = some (.int .i64 D.ops) := hA.cell 2
  have x3 : W0.cell? ⟨w.heap.size, 3, none⟩ = some (.slice fa D.faults.length fc) := hA.cell 3
  have x4 : W0.cell? ⟨w.heap.size, 4, none⟩ = some (.bool D.down) := hA.cell 4
  clear hA0
  go_enter Try.func24, Try.ntmps24
  go_wp2_with (rw [hW0.out])
  refine hS.mono ?_
  rintro e W1 ⟨v1, rfl, hO1, hb1⟩
  obtain ⟨ta, tc, da, dc, ga, gc, ss, cs, rfl, hk⟩ := hO1
  rw [hz] at hk
  unfold dval
  clear x0 x1 x2 x3 x4 hS
  have hbw : Below w.heap.size w W1 := hbel.trans (hb1.mono hbel.size)
  replace hR := hR.below hb1
  replace hA := hA.below hb1
  have hsz : w.heap.size + 1 + 1 ≤ W1.heap.size := by rw [← hz]; exact hb1.size
  have hbA : Below W1.heap.size W1 (W1.alloc (.cells #[.slice ta D.secs.length tc, .slice da D.cache.length dc, .int .i64 D.ops, .slice ga D.faults.length gc, .bool D.down] 32)) := (Below.refl _ _).alloc (Nat.le_refl _) _
  have hX := VN.new W1 32 [.slice ta D.secs.length tc, .slice da D.cache.length dc, .int .i64 D.ops, .slice ga D.faults.length gc, .bool D.down]
  have hk2 := hk.up (Up.ofBelow hbA)
  replace hR := hR.below hbA
  replace hA := hA.below hbA
  replace hbw := hbw.trans (hbA.mono hbw.size)
  have x0 : (W1.alloc (.cells #[.slice ta D.secs.length tc, .slice da D.cache.length dc, .int .i64 D.ops, .slice ga D.faults.length gc, .bool D.down] 32)).cell? ⟨w.heap.size, 0, none⟩ = some (.slice sa D.secs.length sc) := hA.cell 0
  have x1 : (W1.alloc (.cells #[.slice ta D.secs.length tc, .slice da D.cache.length dc, .int .i64 D.ops, .slice ga D.faults.length gc, .bool D.down] 32)).cell? ⟨w.heap.size, 1, none⟩ = some (.slice ca D.cache.length cc) := hA.cell 1
  have x2 : (W1.alloc (.cells #[.slice ta D.secs.length tc, .slice da D.cache.length dc, .int .i64 D.ops, .slice ga D.faults.length gc, .bool D.down] 32)).cell? ⟨w.heap.size, 2, none⟩ = some (.int .i64 D.ops) := hA.cell 2
  have x3 : (W1.alloc (.cells #[.slice ta D.secs.length tc, .slice da D.cache.length dc, .int .i64 D.ops, .slice ga D.faults.length gc, .bool D.down] 32)).cell? ⟨w.heap.size, 3, none⟩ = some (.slice fa D.faults.length fc) := hA.cell 3
  have x4 : (W1.alloc (.cells #[.slice ta D.secs.length tc, .slice da D.cache.length dc, .int .i64 D.ops, .slice ga D.faults.length gc, .bool D.down] 32)).cell? ⟨w.heap.size, 4, none⟩ = some (.bool D.down) := hA.cell 4
  have hMy := implDiskOk_any _ D (W1.alloc (.cells #[.slice ta D.secs.length tc, .slice da D.cache.length dc, .int .i64 D.ops, .slice ga D.faults.length gc, .bool D.down] 32)) (hv.below hbw) hf
  clear hk hb1 hbA hbel
  go_wp2_with fail
  refine hMy.mono ?_
  rintro e W3 ⟨rok, rfl, hrok0, hb3⟩
  have hrok : Hid (rok = true ↔ OkD D) := hrok0
  clear hrok0
  clear x0 x1 x2 x3 x4 hMy
  obtain ⟨X, hXe⟩ := hidEx W1.heap.size
  rw [hXe.out] at hX hsz ⊢
  obtain ⟨W2, hW2⟩ := hidEx (W1.alloc (.cells #[.slice ta D.secs.length tc, .slice da D.cache.length dc, .int .i64 D.ops, .slice ga D.faults.length gc, .bool D.down] 32))
  rw [hW2.out] at hX hk2 hR hA hbw hb3
  have hX3 := hX.below hb3
  have hk3 := hk2.up (Up.ofBelow hb3)
  have hR3 := hR.below hb3
  have hA3 := hA.below hb3
  have hXl := hX.lt
  have hb3' := hbw.trans (hb3.mono hbw.size)
  have hsz3 := hb3.size
  clear hX hk2 hR hA hbw hb3 hW2 hXe
  have HV : Hid (KView w (.agg #[.slice sa D.secs.length sc, .slice ca D.cache.length cc, .int .i64 D.ops, .slice fa D.faults.length fc, .bool D.down]) D) := hv
  clear hv
  cases rok
  · have HF : Hid (flushD D = (D, 1)) := flushD_no (fun h => by have := hrok.out.2 h; cases this)
    have hBw := hb3'
    have hXw := hX3
    have hRw := hR3
    have a0 : W3.cell? ⟨X, 0, none⟩ = some (.slice ta D.secs.length tc) := hXw.cell 0
    have a1 : W3.cell? ⟨X, 1, none⟩ = some (.slice da D.cache.length dc) := hXw.cell 1
    have a2 : W3.cell? ⟨X, 2, none⟩ = some (.int .i64 D.ops) := hXw.cell 2
    have a3 : W3.cell? ⟨X, 3, none⟩ = some (.slice ga D.faults.length gc) := hXw.cell 3
    have a4 : W3.cell? ⟨X, 4, none⟩ = some (.bool D.down) := hXw.cell 4
    have r0 : W3.cell? ⟨w.heap.size + 1, 0, none⟩ = some (.slice none 0 0) := hRw.cell 0
    have r1 : W3.cell? ⟨w.heap.size + 1, 1, none⟩ = some (.slice none 0 0) := hRw.cell 1
    have r2 : W3.cell? ⟨w.heap.size + 1, 2, none⟩ = some (.int .i64 0) := hRw.cell 2
    have r3 : W3.cell? ⟨w.heap.size + 1, 3, none⟩ = some (.slice none 0 0) := hRw.cell 3
    have r4 : W3.cell? ⟨w.heap.size + 1, 4, none⟩ = some (.bool false) := hRw.cell 4
    have z0 := hRw.fz 0
    have z1 := hRw.fz 1
    have z2 := hRw.fz 2
    have z3 := hRw.fz 3
    have z4 := hRw.fz 4
    have hRv := ret5_vn (.slice ta D.secs.length tc) (.slice da D.cache.length dc) (.int .i64 D.ops) (.slice ga D.faults.length gc) (.bool D.down) hRw
    have hRk := ret5_keep (.slice ta D.secs.length tc) (.slice da D.cache.length dc) (.int .i64 D.ops) (.slice ga D.faults.length gc) (.bool D.down) hRw
    have hRb := ret5_below (R := w.heap.size + 1) (.slice ta D.secs.length tc) (.slice da D.cache.length dc) (.int .i64 D.ops) (.slice ga D.faults.length gc) (.bool D.down) hBw (by omega)
    have m0 : (((((W3.setCell ⟨w.heap.size + 1, 0, none⟩ (.slice ta D.secs.length tc)).setCell ⟨w.heap.size + 1, 1, none⟩ (.slice da D.cache.length dc)).setCell ⟨w.heap.size + 1, 2, none⟩ (.int .i64 D.ops)).setCell ⟨w.heap.size + 1, 3, none⟩ (.slice ga D.faults.length gc)).setCell ⟨w.heap.size + 1, 4, none⟩ (.bool D.down)).cell? ⟨w.heap.size + 1, 0, none⟩ = some (.slice ta D.secs.length tc) := hRv.cell 0
    have m1 : (((((W3.setCell ⟨w.heap.size + 1, 0, none⟩ (.slice ta D.secs.length tc)).setCell ⟨w.heap.size + 1, 1, none⟩ (.slice da D.cache.length dc)).setCell ⟨w.heap.size + 1, 2, none⟩ (.int .i64 D.ops)).setCell ⟨w.heap.size + 1, 3, none⟩ (.slice ga D.faults.length gc)).setCell ⟨w.heap.size + 1, 4, none⟩ (.bool D.down)).cell? ⟨w.heap.size + 1, 1, none⟩ = some (.slice da D.cache.length dc) := hRv.cell 1
    have m2 : (((((W3.setCell ⟨w.heap.size + 1, 0, none⟩ (.slice ta D.secs.length tc)).setCell ⟨w.heap.size + 1, 1, none⟩ (.slice da D.cache.length dc)).setCell ⟨w.heap.size + 1, 2, none⟩ (.int .i64 D.ops)).setCell ⟨w.heap.size + 1, 3, none⟩ (.slice ga D.faults.length gc)).setCell ⟨w.heap.size + 1, 4, none⟩ (.bool D.down)).cell? ⟨w.heap.size + 1, 2, none⟩ = some (.int .i64 D.ops) := hRv.cell 2
    have m3 : (((((W3.setCell ⟨w.heap.size + 1, 0, none⟩ (.slice ta D.secs.length tc)).setCell ⟨w.heap.size + 1, 1, none⟩ (.slice da D.cache.length dc)).setCell ⟨w.heap.size + 1, 2, none⟩ (.int .i64 D.ops)).setCell ⟨w.heap.size + 1, 3, none⟩ (.slice ga D.faults.length gc)).setCell ⟨w.heap.size + 1, 4, none⟩ (.bool D.down)).cell? ⟨w.heap.size + 1, 3, none⟩ = some (.slice ga D.faults.length gc) := hRv.cell 3
    have m4 : (((((W3.setCell ⟨w.heap.size + 1, 0, none⟩ (.slice ta D.secs.length tc)).setCell ⟨w.heap.size + 1, 1, none⟩ (.slice da D.cache.length dc)).setCell ⟨w.heap.size + 1, 2, none⟩ (.int .i64 D.ops)).setCell ⟨w.heap.size + 1, 3, none⟩ (.slice ga D.faults.length gc)).setCell ⟨w.heap.size + 1, 4, none⟩ (.bool D.down)).cell? ⟨w.heap.size + 1, 4, none⟩ = some (.bool D.down) := hRv.cell 4
    have HR : Hid (ITo w (flushD D).1 (flushD D).2 (.returned (.tuple #[dval D ta tc da dc ga gc, .int .i64 1])) (((((W3.setCell ⟨w.heap.size + 1, 0, none⟩ (.slice ta D.secs.length tc)).setCell ⟨w.heap.size + 1, 1, none⟩ (.slice da D.cache.length dc)).setCell ⟨w.heap.size + 1, 2, none⟩ (.int .i64 D.ops)).setCell ⟨w.heap.size + 1, 3, none⟩ (.slice ga D.faults.length gc)).setCell ⟨w.heap.size + 1, 4, none⟩ (.bool D.down))) := by
      rw [HF.out]
      have k9 := hk3.keepT hRk (by rw [ret5_size]; exact Nat.le_refl _) (by decide) (by decide) (by decide) (by decide)
      exact ⟨_, rfl, ⟨_, _, _, _, _, _, _, _, rfl, k9.mono (by omega)⟩, hRb⟩
    clear hk3
    clear hRv hRk hRb hXw hRw
    go_wp2
    refine bodyPost_ret (v := .tuple #[dval D ta tc da dc ga gc, .int .i64 1]) (by simp [results, Try.results24, go_sem, m0, m1, m2, m3, m4, dval]) rfl HR.out
  have hok : OkD D := hrok.out.1 rfl
  clear hrok
  have x0 : W3.cell? ⟨w.heap.size, 0, none⟩ = some (.slice sa D.secs.length sc) := hA3.cell 0
  have x1 : W3.cell? ⟨w.heap.size, 1, none⟩ = some (.slice ca D.cache.length cc) := hA3.cell 1
  have x2 : W3.cell? ⟨w.heap.size, 2, none⟩ = some (.int .i64 D.ops) := hA3.cell 2
  have x3 : W3.cell? ⟨w.heap.size, 3, none⟩ = some (.slice fa D.faults.length fc) := hA3.cell 3
  have x4 : W3.cell? ⟨w.heap.size, 4, none⟩ = some (.bool D.down) := hA3.cell 4
  have hSt := isStopped_any _ D W3 (HV.out.below hb3')
  go_wp2_with fail
  refine hSt.mono ?_
  rintro e W4 ⟨rst, rfl, hrst0, hb4⟩
  have hrst : Hid (rst = true ↔ D.down = true ∨ 100000 ≤ D.ops) := hrst0
  clear hrst0
  clear x0 x1 x2 x3 x4 hSt HV hA3
  have hX4 := hX3.below hb4
  have hk4 := hk3.up (Up.ofBelow hb4)
  have hR4 := hR3.below hb4
  have hb4' := hb3'.trans (hb4.mono hb3'.size)
  have hsz4 := hb4.size
  clear hX3 hk3 hR3 hb3' hb4
  cases rst
  case true =>
    have HF : Hid (flushD D = (D, 9)) := by show _ = _; rw [flushD_ok hok, flushF_down (hrst.out.1 rfl)]
    have hBw := hb4'
    have hXw := hX4
    have hRw := hR4
    clear hrst
    have a0 : W4.cell? ⟨X, 0, none⟩ = some (.slice ta D.secs.length tc) := hXw.cell 0
    have a1 : W4.cell? ⟨X, 1, none⟩ = some (.slice da D.cache.length dc) := hXw.cell 1
    have a2 : W4.cell? ⟨X, 2, none⟩ = some (.int .i64 D.ops) := hXw.cell 2
    have a3 : W4.cell? ⟨X, 3, none⟩ = some (.slice ga D.faults.length gc) := hXw.cell 3
    have a4 : W4.cell? ⟨X, 4, none⟩ = some (.bool D.down) := hXw.cell 4
    have r0 : W4.cell? ⟨w.heap.size + 1, 0, none⟩ = some (.slice none 0 0) := hRw.cell 0
    have r1 : W4.cell? ⟨w.heap.size + 1, 1, none⟩ = some (.slice none 0 0) := hRw.cell 1
    have r2 : W4.cell? ⟨w.heap.size + 1, 2, none⟩ = some (.int .i64 0) := hRw.cell 2
    have r3 : W4.cell? ⟨w.heap.size + 1, 3, none⟩ = some (.slice none 0 0) := hRw.cell 3
    have r4 : W4.cell? ⟨w.heap.size + 1, 4, none⟩ = some (.bool false) := hRw.cell 4
    have z0 := hRw.fz 0
    have z1 := hRw.fz 1
    have z2 := hRw.fz 2
    have z3 := hRw.fz 3
    have z4 := hRw.fz 4
    have hRv := ret5_vn (.slice ta D.secs.length tc) (.slice da D.cache.length dc) (.int .i64 D.ops) (.slice ga D.faults.length gc) (.bool D.down) hRw
    have hRk := ret5_keep (.slice ta D.secs.length tc) (.slice da D.cache.length dc) (.int .i64 D.ops) (.slice ga D.faults.length gc) (.bool D.down) hRw
    have hRb := ret5_below (R := w.heap.size + 1) (.slice ta D.secs.length tc) (.slice da D.cache.length dc) (.int .i64 D.ops) (.slice ga D.faults.length gc) (.bool D.down) hBw (by omega)
    have m0 : (((((W4.setCell ⟨w.heap.size + 1, 0, none⟩ (.slice ta D.secs.length tc)).setCell ⟨w.heap.size + 1, 1, none⟩ (.slice da D.cache.length dc)).setCell ⟨w.heap.size + 1, 2, none⟩ (.int .i64 D.ops)).setCell ⟨w.heap.size + 1, 3, none⟩ (.slice ga D.faults.length gc)).setCell ⟨w.heap.size + 1, 4, none⟩ (.bool D.down)).cell? ⟨w.heap.size + 1, 0, none⟩ = some (.slice ta D.secs.length tc) := hRv.cell 0
    have m1 : (((((W4.setCell ⟨w.heap.size + 1, 0, none⟩ (.slice ta D.secs.length tc)).setCell ⟨w.heap.size + 1, 1, none⟩ (.slice da D.cache.length dc)).setCell ⟨w.heap.size + 1, 2, none⟩ (.int .i64 D.ops)).setCell ⟨w.heap.size + 1, 3, none⟩ (.slice ga D.faults.length gc)).setCell ⟨w.heap.size + 1, 4, none⟩ (.bool D.down)).cell? ⟨w.heap.size + 1, 1, none⟩ = some (.slice da D.cache.length dc) := hRv.cell 1
    have m2 : (((((W4.setCell ⟨w.heap.size + 1, 0, none⟩ (.slice ta D.secs.length tc)).setCell ⟨w.heap.size + 1, 1, none⟩ (.slice da D.cache.length dc)).setCell ⟨w.heap.size + 1, 2, none⟩ (.int .i64 D.ops)).setCell ⟨w.heap.size + 1, 3, none⟩ (.slice ga D.faults.length gc)).setCell ⟨w.heap.size + 1, 4, none⟩ (.bool D.down)).cell? ⟨w.heap.size + 1, 2, none⟩ = some (.int .i64 D.ops) := hRv.cell 2
    have m3 : (((((W4.setCell ⟨w.heap.size + 1, 0, none⟩ (.slice ta D.secs.length tc)).setCell ⟨w.heap.size + 1, 1, none⟩ (.slice da D.cache.length dc)).setCell ⟨w.heap.size + 1, 2, none⟩ (.int .i64 D.ops)).setCell ⟨w.heap.size + 1, 3, none⟩ (.slice ga D.faults.length gc)).setCell ⟨w.heap.size + 1, 4, none⟩ (.bool D.down)).cell? ⟨w.heap.size + 1, 3, none⟩ = some (.slice ga D.faults.length gc) := hRv.cell 3
    have m4 : (((((W4.setCell ⟨w.heap.size + 1, 0, none⟩ (.slice ta D.secs.length tc)).setCell ⟨w.heap.size + 1, 1, none⟩ (.slice da D.cache.length dc)).setCell ⟨w.heap.size + 1, 2, none⟩ (.int .i64 D.ops)).setCell ⟨w.heap.size + 1, 3, none⟩ (.slice ga D.faults.length gc)).setCell ⟨w.heap.size + 1, 4, none⟩ (.bool D.down)).cell? ⟨w.heap.size + 1, 4, none⟩ = some (.bool D.down) := hRv.cell 4
    have HR : Hid (ITo w (flushD D).1 (flushD D).2 (.returned (.tuple #[dval D ta tc da dc ga gc, .int .i64 9])) (((((W4.setCell ⟨w.heap.size + 1, 0, none⟩ (.slice ta D.secs.length tc)).setCell ⟨w.heap.size + 1, 1, none⟩ (.slice da D.cache.length dc)).setCell ⟨w.heap.size + 1, 2, none⟩ (.int .i64 D.ops)).setCell ⟨w.heap.size + 1, 3, none⟩ (.slice ga D.faults.length gc)).setCell ⟨w.heap.size + 1, 4, none⟩ (.bool D.down))) := by
      rw [HF.out]
      have k9 := hk4.keepT hRk (by rw [ret5_size]; exact Nat.le_refl _) (by decide) (by decide) (by decide) (by decide)
      exact ⟨_, rfl, ⟨_, _, _, _, _, _, _, _, rfl, k9.mono (by omega)⟩, hRb⟩
    clear hk4
    clear hRv hRk hRb hXw hRw
    go_wp2
    refine bodyPost_ret (v := .tuple #[dval D ta tc da dc ga gc, .int .i64 9]) (by simp [results, Try.results24, go_sem, m0, m1, m2, m3, m4, dval]) rfl HR.out
  have hdn : ¬ (D.down = true ∨ 100000 ≤ D.ops) := fun h => by have := hrst.out.2 h; cases this
  clear hrst
  have hp : 0 < D.secs.length := by have := hok.1.1; omega
  obtain ⟨gs, es⟩ : ∃ gs, ta = some ⟨gs, 0, none⟩ := by
    obtain ⟨g, e, -⟩ := hk4.secs.cell (by rw [hk4.ns]; exact hp)
    exact ⟨g, e⟩
  subst es
  have hops : 0 ≤ D.ops ∧ D.ops ≤ 100000 := hok.2.2.1
  have hBe := begin_any X (w.heap.size + 1 + 1) _ _ D.ops ga gc D.faults _ W4 hX4 hk4.faults hk4.fle hk4.fnil hf.nf hops.1 (by omega)
  have HOK : Hid (OkD D) := hok
  have HDN : Hid (¬ (D.down = true ∨ 100000 ≤ D.ops)) := hdn
  have HKF : Hid (KFine D) := hf
  clear hok hdn hf
  go_wp2_with fail
  refine hBe.mono ?_
  rintro e W5 ⟨hbx, hX5, hres⟩
  clear hBe
  have hk5 := (hk4.keepT (hbx.keep hX4) hbx.size (by decide) (by decide) (by decide) (by decide)).opsUp (D.ops + 1)
  have hR5 := hR4.block (hbx.block _ (by omega) (by omega))
  have hb5' := hb4'.trans (hbx.below (n := w.heap.size) (by omega) (by omega))
  have hsz5 := hbx.size
  clear hX4 hk4 hR4 hb4' hbx
  rcases hres with ⟨f, hff, rfl⟩ | ⟨hff, rfl⟩
  · have HF0 : Hid (flushD D = (loseD { D with ops := D.ops + 1 } f, 9)) := by show _ = _; rw [flushD_ok HOK.out, flushF_lose HDN.out hff]
    have hfo := findF_ok HOK.out hff
    obtain ⟨p, q, c⟩ := f
    obtain ⟨-, ⟨hq0, hq1⟩, hc0, hc1⟩ := hfo
    dsimp only at hq0 hq1 hc0 hc1 ⊢
    obtain ⟨r, rfl⟩ := Int.eq_ofNat_of_zero_le hc0
    have hbA : Below W5.heap.size W5 (W5.alloc (.cells #[.int .i64 p, .int .i64 q, .int .i64 (r : Int)] 79)) := (Below.refl _ _).alloc (Nat.le_refl _) _
    have hFv := VN.new W5 79 [.int .i64 p, .int .i64 q, .int .i64 (r : Int)]
    have hX6 := hX5.below hbA
    have hk6 := hk5.up (Up.ofBelow hbA)
    have hR6 := hR5.below hbA
    have hb6 := hb5'.trans (hbA.mono hb5'.size)
    have f0 : (W5.alloc (.cells #[.int .i64 p, .int .i64 q, .int .i64 (r : Int)] 79)).cell? ⟨W5.heap.size, 0, none⟩ = some (.int .i64 p) := hFv.cell 0
    have f1 : (W5.alloc (.cells #[.int .i64 p, .int .i64 q, .int .i64 (r : Int)] 79)).cell? ⟨W5.heap.size, 1, none⟩ = some (.int .i64 q) := hFv.cell 1
    have f2 : (W5.alloc (.cells #[.int .i64 p, .int .i64 q, .int .i64 (r : Int)] 79)).cell? ⟨W5.heap.size, 2, none⟩ = some (.int .i64 (r : Int)) := hFv.cell 2
    have hsz6 : w.heap.size + 1 + 1 ≤ (W5.alloc (.cells #[.int .i64 p, .int .i64 q, .int .i64 (r : Int)] 79)).heap.size := by simp; omega
    have hPo := powerOff_any X (w.heap.size + 1 + 1) gs D.secs.length tc p q r da dc _ _ _ D.cache ss cs _ hX6 hk6.secs hk6.ns hp HKF.out.ns hk6.cache hk6.nc (fun e => by have h1 := hk6.cnil e; have h2 := hk6.cle; show D.cache.length = 0; have : D.cache.length ≤ dc := h2; omega) (hk6.slices (by exact ⟨HOK.out.1, HOK.out.2.1, ⟨by show 0 ≤ D.ops + 1; omega, by have := HDN.out; show D.ops + 1 ≤ 100000; have h9 : ¬ 100000 ≤ D.ops := fun h => this (.inr h); omega⟩, HOK.out.2.2.2.1, HOK.out.2.2.2.2⟩)) (fun x hx => by obtain ⟨i, hi, rfl⟩ := List.getElem_of_mem hx; exact ⟨(HOK.out.2.1.2 i hi).1, (HOK.out.2.1.2 i hi).2.1⟩) hq0 hq1 HOK.out.2.1.1 (by omega) hsz6
    obtain ⟨hBl, hBn⟩ := hk6.bytes.lost hk6.ns q r
    have HBL : Hid (Bs (W5.alloc (.cells #[.int .i64 p, .int .i64 q, .int .i64 (r : Int)] 79)) (w.heap.size + 1 + 1) (ss ++ cutLast (cutVal r) (keptG q cs D.cache.length)) (D.secs ++ (cutLast (cutW r) (keptG q D.cache D.cache.length)).map (·.2)) ∧ (cutLast (cutVal r) (keptG q cs D.cache.length)).length = (cutLast (cutW r) (keptG q D.cache D.cache.length)).length) := ⟨hBl, hBn⟩
    rw [← cut_fst r] at hPo
    clear hBl hBn hX5 hk5 hR5 hb5' hbA hFv
    go_wp2_with fail
    refine hPo.mono ?_
    rintro e W7 ⟨rfl, hT⟩
    have hk7 := KO.settled (D := { D with ops := D.ops + 1 }) hk6 hX6 hp _ _ HBL.out.1 HBL.out.2 hT true
    have hX7 := hT.x
    have hR7 := hR6.block (hT.low _ hR6.lt (by omega) (by omega))
    have hb7 := hb6.trans (hT.below (n := w.heap.size) (by omega) (by omega) (by omega))
    have hsz7 := hT.size
    clear hPo hT hk6 hX6 hR6 hb6 HBL f0 f1 f2
    obtain ⟨DD, hDD⟩ := hidEx (loseD { D with ops := D.ops + 1 } ⟨p, q, r⟩)
    have HF : Hid (flushD D = (DD, 9)) := by show _ = _; rw [HF0.out, hDD.out]
    have eDD : ({ D with ops := D.ops + 1, secs := settleL D.secs (cutLast (cutW r) (keptG q D.cache D.cache.length)), cache := [], down := true } : PDisk) = DD := by rw [← hDD.out]; rfl
    have hk8 : KO W7 (w.heap.size + 1 + 1) (some ⟨gs, 0, none⟩) tc da 0 ga gc (settleL ss (((cutLast (cutW r) (keptG q D.cache D.cache.length)).map (·.1)).zip (cutLast (cutVal r) (keptG q cs D.cache.length)))) [] DD := by rw [← eDD]; exact hk7
    have hX8 : VN W7 X 32 [.slice (some ⟨gs, 0, none⟩) DD.secs.length tc, .slice da DD.cache.length 0, .int .i64 DD.ops, .slice ga DD.faults.length gc, .bool DD.down] := by
      rw [← eDD]
      show VN W7 X 32 [.slice (some ⟨gs, 0, none⟩) (settleL D.secs _).length tc, .slice da 0 0, .int .i64 (D.ops + 1), .slice ga D.faults.length gc, .bool true]
      rw [settleL_len]; exact hX7
    clear hk7 hX7 eDD hDD HF0
    have hBw := hb7
    have hXw := hX8
    have hRw := hR7
    have a0 : W7.cell? ⟨X, 0, none⟩ = some (.slice (some ⟨gs, 0, none⟩) DD.secs.length tc) := hXw.cell 0
    have a1 : W7.cell? ⟨X, 1, none⟩ = some (.slice da DD.cache.length 0) := hXw.cell 1
    have a2 : W7.cell? ⟨X, 2, none⟩ = some (.int .i64 DD.ops) := hXw.cell 2
    have a3 : W7.cell? ⟨X, 3, none⟩ = some (.slice ga DD.faults.length gc) := hXw.cell 3
    have a4 : W7.cell? ⟨X, 4, none⟩ = some (.bool DD.down) := hXw.cell 4
    have r0 : W7.cell? ⟨w.heap.size + 1, 0, none⟩ = some (.slice none 0 0) := hRw.cell 0
    have r1 : W7.cell? ⟨w.heap.size + 1, 1, none⟩ = some (.slice none 0 0) := hRw.cell 1
    have r2 : W7.cell? ⟨w.heap.size + 1, 2, none⟩ = some (.int .i64 0) := hRw.cell 2
    have r3 : W7.cell? ⟨w.heap.size + 1, 3, none⟩ = some (.slice none 0 0) := hRw.cell 3
    have r4 : W7.cell? ⟨w.heap.size + 1, 4, none⟩ = some (.bool false) := hRw.cell 4
    have z0 := hRw.fz 0
    have z1 := hRw.fz 1
    have z2 := hRw.fz 2
    have z3 := hRw.fz 3
    have z4 := hRw.fz 4
    have hRv := ret5_vn (.slice (some ⟨gs, 0, none⟩) DD.secs.length tc) (.slice da DD.cache.length 0) (.int .i64 DD.ops) (.slice ga DD.faults.length gc) (.bool DD.down) hRw
    have hRk := ret5_keep (.slice (some ⟨gs, 0, none⟩) DD.secs.length tc) (.slice da DD.cache.length 0) (.int .i64 DD.ops) (.slice ga DD.faults.length gc) (.bool DD.down) hRw
    have hRb := ret5_below (R := w.heap.size + 1) (.slice (some ⟨gs, 0, none⟩) DD.secs.length tc) (.slice da DD.cache.length 0) (.int .i64 DD.ops) (.slice ga DD.faults.length gc) (.bool DD.down) hBw (by omega)
    have m0 : (((((W7.setCell ⟨w.heap.size + 1, 0, none⟩ (.slice (some ⟨gs, 0, none⟩) DD.secs.length tc)).setCell ⟨w.heap.size + 1, 1, none⟩ (.slice da DD.cache.length 0)).setCell ⟨w.heap.size + 1, 2, none⟩ (.int .i64 DD.ops)).setCell ⟨w.heap.size + 1, 3, none⟩ (.slice ga DD.faults.length gc)).setCell ⟨w.heap.size + 1, 4, none⟩ (.bool DD.down)).cell? ⟨w.heap.size + 1, 0, none⟩ = some (.slice (some ⟨gs, 0, none⟩) DD.secs.length tc) := hRv.cell 0
    have m1 : (((((W7.setCell ⟨w.heap.size + 1, 0, none⟩ (.slice (some ⟨gs, 0, none⟩) DD.secs.length tc)).setCell ⟨w.heap.size + 1, 1, none⟩ (.slice da DD.cache.length 0)).setCell ⟨w.heap.size + 1, 2, none⟩ (.int .i64 DD.ops)).setCell ⟨w.heap.size + 1, 3, none⟩ (.slice ga DD.faults.length gc)).setCell ⟨w.heap.size + 1, 4, none⟩ (.bool DD.down)).cell? ⟨w.heap.size + 1, 1, none⟩ = some (.slice da DD.cache.length 0) := hRv.cell 1
    have m2 : (((((W7.setCell ⟨w.heap.size + 1, 0, none⟩ (.slice (some ⟨gs, 0, none⟩) DD.secs.length tc)).setCell ⟨w.heap.size + 1, 1, none⟩ (.slice da DD.cache.length 0)).setCell ⟨w.heap.size + 1, 2, none⟩ (.int .i64 DD.ops)).setCell ⟨w.heap.size + 1, 3, none⟩ (.slice ga DD.faults.length gc)).setCell ⟨w.heap.size + 1, 4, none⟩ (.bool DD.down)).cell? ⟨w.heap.size + 1, 2, none⟩ = some (.int .i64 DD.ops) := hRv.cell 2
    have m3 : (((((W7.setCell ⟨w.heap.size + 1, 0, none⟩ (.slice (some ⟨gs, 0, none⟩) DD.secs.length tc)).setCell ⟨w.heap.size + 1, 1, none⟩ (.slice da DD.cache.length 0)).setCell ⟨w.heap.size + 1, 2, none⟩ (.int .i64 DD.ops)).setCell ⟨w.heap.size + 1, 3, none⟩ (.slice ga DD.faults.length gc)).setCell ⟨w.heap.size + 1, 4, none⟩ (.bool DD.down)).cell? ⟨w.heap.size + 1, 3, none⟩ = some (.slice ga DD.faults.length gc) := hRv.cell 3
    have m4 : (((((W7.setCell ⟨w.heap.size + 1, 0, none⟩ (.slice (some ⟨gs, 0, none⟩) DD.secs.length tc)).setCell ⟨w.heap.size + 1, 1, none⟩ (.slice da DD.cache.length 0)).setCell ⟨w.heap.size + 1, 2, none⟩ (.int .i64 DD.ops)).setCell ⟨w.heap.size + 1, 3, none⟩ (.slice ga DD.faults.length gc)).setCell ⟨w.heap.size + 1, 4, none⟩ (.bool DD.down)).cell? ⟨w.heap.size + 1, 4, none⟩ = some (.bool DD.down) := hRv.cell 4
    have HR : Hid (ITo w (flushD D).1 (flushD D).2 (.returned (.tuple #[dval DD (some ⟨gs, 0, none⟩) tc da 0 ga gc, .int .i64 9])) (((((W7.setCell ⟨w.heap.size + 1, 0, none⟩ (.slice (some ⟨gs, 0, none⟩) DD.secs.length tc)).setCell ⟨w.heap.size + 1, 1, none⟩ (.slice da DD.cache.length 0)).setCell ⟨w.heap.size + 1, 2, none⟩ (.int .i64 DD.ops)).setCell ⟨w.heap.size + 1, 3, none⟩ (.slice ga DD.faults.length gc)).setCell ⟨w.heap.size + 1, 4, none⟩ (.bool DD.down))) := by
      rw [HF.out]
      have k9 := hk8.keepT hRk (by rw [ret5_size]; exact Nat.le_refl _) (by decide) (by decide) (by decide) (by decide)
      exact ⟨_, rfl, ⟨_, _, _, _, _, _, _, _, rfl, k9.mono (by omega)⟩, hRb⟩
    clear hk8
    clear hRv hRk hRb hXw hRw
    go_wp2
    refine bodyPost_ret (v := .tuple #[dval DD (some ⟨gs, 0, none⟩) tc da 0 ga gc, .int .i64 9]) (by simp [results, Try.results24, go_sem, m0, m1, m2, m3, m4, dval]) rfl HR.out
  · have HF0 : Hid (flushD D = (calmD { D with ops := D.ops + 1 }, 0)) := by show _ = _; rw [flushD_ok HOK.out, flushF_calm HDN.out hff]
    have hbA : Below W5.heap.size W5 (W5.alloc (.cells #[.int .i64 0, .int .i64 0, .int .i64 0] 79)) := (Below.refl _ _).alloc (Nat.le_refl _) _
    have hX6 := hX5.below hbA
    have hk6 := hk5.up (Up.ofBelow hbA)
    have hR6 := hR5.below hbA
    have hb6 := hb5'.trans (hbA.mono hb5'.size)
    have x1 : (W5.alloc (.cells #[.int .i64 0, .int .i64 0, .int .i64 0] 79)).cell? ⟨X, 1, none⟩ = some (.slice da D.cache.length dc) := hX6.cell 1
    have hsz6 : w.heap.size + 1 + 1 ≤ (W5.alloc (.cells #[.int .i64 0, .int .i64 0, .int .i64 0] 79)).heap.size := by simp; omega
    have hSe := settle_any (w.heap.size + 1 + 1) X gs D.secs.length tc da D.cache.length dc _ _ _ ss cs (wcells D.cache cs) da dc D.cache _ hX6 hk6.secs hk6.ns hp hk6.cache hk6.nc hk6.cache (wcells_len hk6.nc) (fun e => by have h1 := hk6.cnil e; have h2 := hk6.cle; have : D.cache.length ≤ dc := h2; omega) (fun i v hv => by
        have hi : i < D.cache.length := by rw [← hk6.nc]; exact (List.getElem?_eq_some_iff.1 hv).1
        have hO := hk6.bytes.ob (ss.length + i) v (D.cache[i]).2 (by rw [List.getElem?_append_right (by omega), Nat.add_sub_cancel_left]; exact hv) (by rw [hk6.ns, List.getElem?_append_right (by omega), Nat.add_sub_cancel_left]; simp [hi])
        obtain ⟨a, c, e, -⟩ := hO.is
        exact ⟨a, _, c, e⟩) (fun i hi => ⟨(HOK.out.2.1.2 i hi).1, (HOK.out.2.1.2 i hi).2.1⟩) HKF.out.nc HKF.out.nc HKF.out.ns
    clear hX5 hk5 hR5 hb5' hbA
    go_wp2_with fail
    refine hSe.mono ?_
    rintro e W7 ⟨rfl, hT⟩
    have hk7 := KO.settled (D := { D with ops := D.ops + 1 }) hk6 hX6 hp cs D.cache hk6.bytes hk6.nc hT D.down
    have hX7 := hT.x
    have hR7 := hR6.block (hT.low _ hR6.lt (by omega) (by omega))
    have hb7 := hb6.trans (hT.below (n := w.heap.size) (by omega) (by omega) (by omega))
    have hsz7 := hT.size
    clear hSe hT hk6 hX6 hR6 hb6 x1
    obtain ⟨DD, hDD⟩ := hidEx (calmD { D with ops := D.ops + 1 })
    have HF : Hid (flushD D = (DD, 0)) := by show _ = _; rw [HF0.out, hDD.out]
    have eDD : ({ D with ops := D.ops + 1, secs := settleL D.secs D.cache, cache := [] } : PDisk) = DD := by rw [← hDD.out]; rfl
    have hk8 : KO W7 (w.heap.size + 1 + 1) (some ⟨gs, 0, none⟩) tc da 0 ga gc (settleL ss ((D.cache.map (·.1)).zip cs)) [] DD := by rw [← eDD]; exact hk7
    have hX8 : VN W7 X 32 [.slice (some ⟨gs, 0, none⟩) DD.secs.length tc, .slice da DD.cache.length 0, .int .i64 DD.ops, .slice ga DD.faults.length gc, .bool DD.down] := by
      rw [← eDD]
      show VN W7 X 32 [.slice (some ⟨gs, 0, none⟩) (settleL D.secs _).length tc, .slice da 0 0, .int .i64 (D.ops + 1), .slice ga D.faults.length gc, .bool D.down]
      rw [settleL_len]; exact hX7
    clear hk7 hX7 eDD hDD HF0
    have hBw := hb7
    have hXw := hX8
    have hRw := hR7
    have a0 : W7.cell? ⟨X, 0, none⟩ = some (.slice (some ⟨gs, 0, none⟩) DD.secs.length tc) := hXw.cell 0
    have a1 : W7.cell? ⟨X, 1, none⟩ = some (.slice da DD.cache.length 0) := hXw.cell 1
    have a2 : W7.cell? ⟨X, 2, none⟩ = some (.int .i64 DD.ops) := hXw.cell 2
    have a3 : W7.cell? ⟨X, 3, none⟩ = some (.slice ga DD.faults.length gc) := hXw.cell 3
    have a4 : W7.cell? ⟨X, 4, none⟩ = some (.bool DD.down) := hXw.cell 4
    have r0 : W7.cell? ⟨w.heap.size + 1, 0, none⟩ = some (.slice none 0 0) := hRw.cell 0
    have r1 : W7.cell? ⟨w.heap.size + 1, 1, none⟩ = some (.slice none 0 0) := hRw.cell 1
    have r2 : W7.cell? ⟨w.heap.size + 1, 2, none⟩ = some (.int .i64 0) := hRw.cell 2
    have r3 : W7.cell? ⟨w.heap.size + 1, 3, none⟩ = some (.slice none 0 0) := hRw.cell 3
    have r4 : W7.cell? ⟨w.heap.size + 1, 4, none⟩ = some (.bool false) := hRw.cell 4
    have z0 := hRw.fz 0
    have z1 := hRw.fz 1
    have z2 := hRw.fz 2
    have z3 := hRw.fz 3
    have z4 := hRw.fz 4
    have hRv := ret5_vn (.slice (some ⟨gs, 0, none⟩) DD.secs.length tc) (.slice da DD.cache.length 0) (.int .i64 DD.ops) (.slice ga DD.faults.length gc) (.bool DD.down) hRw
    have hRk := ret5_keep (.slice (some ⟨gs, 0, none⟩) DD.secs.length tc) (.slice da DD.cache.length 0) (.int .i64 DD.ops) (.slice ga DD.faults.length gc) (.bool DD.down) hRw
    have hRb := ret5_below (R := w.heap.size + 1) (.slice (some ⟨gs, 0, none⟩) DD.secs.length tc) (.slice da DD.cache.length 0) (.int .i64 DD.ops) (.slice ga DD.faults.length gc) (.bool DD.down) hBw (by omega)
    have m0 : (((((W7.setCell ⟨w.heap.size + 1, 0, none⟩ (.slice (some ⟨gs, 0, none⟩) DD.secs.length tc)).setCell ⟨w.heap.size + 1, 1, none⟩ (.slice da DD.cache.length 0)).setCell ⟨w.heap.size + 1, 2, none⟩ (.int .i64 DD.ops)).setCell ⟨w.heap.size + 1, 3, none⟩ (.slice ga DD.faults.length gc)).setCell ⟨w.heap.size + 1, 4, none⟩ (.bool DD.down)).cell? ⟨w.heap.size + 1, 0, none⟩ = some (.slice (some ⟨gs, 0, none⟩) DD.secs.length tc) := hRv.cell 0
    have m1 : (((((W7.setCell ⟨w.heap.size + 1, 0, none⟩ (.slice (some ⟨gs, 0, none⟩) DD.secs.length tc)).setCell ⟨w.heap.size + 1, 1, none⟩ (.slice da DD.cache.length 0)).setCell ⟨w.heap.size + 1, 2, none⟩ (.int .i64 DD.ops)).setCell ⟨w.heap.size + 1, 3, none⟩ (.slice ga DD.faults.length gc)).setCell ⟨w.heap.size + 1, 4, none⟩ (.bool DD.down)).cell? ⟨w.heap.size + 1, 1, none⟩ = some (.slice da DD.cache.length 0) := hRv.cell 1
    have m2 : (((((W7.setCell ⟨w.heap.size + 1, 0, none⟩ (.slice (some ⟨gs, 0, none⟩) DD.secs.length tc)).setCell ⟨w.heap.size + 1, 1, none⟩ (.slice da DD.cache.length 0)).setCell ⟨w.heap.size + 1, 2, none⟩ (.int .i64 DD.ops)).setCell ⟨w.heap.size + 1, 3, none⟩ (.slice ga DD.faults.length gc)).setCell ⟨w.heap.size + 1, 4, none⟩ (.bool DD.down)).cell? ⟨w.heap.size + 1, 2, none⟩ = some (.int .i64 DD.ops) := hRv.cell 2
    have m3 : (((((W7.setCell ⟨w.heap.size + 1, 0, none⟩ (.slice (some ⟨gs, 0, none⟩) DD.secs.length tc)).setCell ⟨w.heap.size + 1, 1, none⟩ (.slice da DD.cache.length 0)).setCell ⟨w.heap.size + 1, 2, none⟩ (.int .i64 DD.ops)).setCell ⟨w.heap.size + 1, 3, none⟩ (.slice ga DD.faults.length gc)).setCell ⟨w.heap.size + 1, 4, none⟩ (.bool DD.down)).cell? ⟨w.heap.size + 1, 3, none⟩ = some (.slice ga DD.faults.length gc) := hRv.cell 3
    have m4 : (((((W7.setCell ⟨w.heap.size + 1, 0, none⟩ (.slice (some ⟨gs, 0, none⟩) DD.secs.length tc)).setCell ⟨w.heap.size + 1, 1, none⟩ (.slice da DD.cache.length 0)).setCell ⟨w.heap.size + 1, 2, none⟩ (.int .i64 DD.ops)).setCell ⟨w.heap.size + 1, 3, none⟩ (.slice ga DD.faults.length gc)).setCell ⟨w.heap.size + 1, 4, none⟩ (.bool DD.down)).cell? ⟨w.heap.size + 1, 4, none⟩ = some (.bool DD.down) := hRv.cell 4
    have HR : Hid (ITo w (flushD D).1 (flushD D).2 (.returned (.tuple #[dval DD (some ⟨gs, 0, none⟩) tc da 0 ga gc, .int .i64 0])) (((((W7.setCell ⟨w.heap.size + 1, 0, none⟩ (.slice (some ⟨gs, 0, none⟩) DD.secs.length tc)).setCell ⟨w.heap.size + 1, 1, none⟩ (.slice da DD.cache.length 0)).setCell ⟨w.heap.size + 1, 2, none⟩ (.int .i64 DD.ops)).setCell ⟨w.heap.size + 1, 3, none⟩ (.slice ga DD.faults.length gc)).setCell ⟨w.heap.size + 1, 4, none⟩ (.bool DD.down))) := by
      rw [HF.out]
      have k9 := hk8.keepT hRk (by rw [ret5_size]; exact Nat.le_refl _) (by decide) (by decide) (by decide) (by decide)
      exact ⟨_, rfl, ⟨_, _, _, _, _, _, _, _, rfl, k9.mono (by omega)⟩, hRb⟩
    clear hk8
    clear hRv hRk hRb hXw hRw
    go_wp2
    refine bodyPost_ret (v := .tuple #[dval DD (some ⟨gs, 0, none⟩) tc da 0 ga gc, .int .i64 0]) (by simp [results, Try.results24, go_sem, m0, m1, m2, m3, m4, dval]) rfl HR.out
end Go.Proofs.Ytdhfbblameiloaa

/-
  What a round of a loop over an iterator keeps: all that lay at the start of the call, and the two boxes that the iterator holds.
-/
namespace Go.Proofs.Ytdhfbblameiloaa
open Go.RowKit
set_option maxRecDepth 4000

/-- What a round that goes on keeps. -/
structure KpB (n₀ Bl Bv : Nat) (W W' : World) : Prop where
  below : Below n₀ W W'
  bl : W'.heap[Bl]? = W.heap[Bl]?
  bv : W'.heap[Bv]? = W.heap[Bv]?
theorem KpB.refl (n₀ Bl Bv : Nat) (W : World) : KpB n₀ Bl Bv W W := ⟨Below.refl _ _, rfl, rfl⟩
theorem KpB.trans {n₀ Bl Bv : Nat} {A B C : World} (h : KpB n₀ Bl Bv A B) (k : KpB n₀ Bl Bv B C) : KpB n₀ Bl Bv A C := ⟨h.below.trans k.below, k.bl.trans h.bl, k.bv.trans h.bv⟩
/-- Whatever leaves all that lay as it lay. -/
theorem KpB.ofBelow {n₀ Bl Bv : Nat} {W W' : World} (h : Below W.heap.size W W') (hn : n₀ ≤ W.heap.size) (hl : Bl < W.heap.size) (hv : Bv < W.heap.size) : KpB n₀ Bl Bv W W' := ⟨h.mono hn, h.block Bl hl, h.block Bv hv⟩
theorem KpB.put {n₀ Bl Bv : Nat} {w : World} (hn : n₀ ≤ w.heap.size) (hl : Bl < w.heap.size) (hv : Bv < w.heap.size) (W : World) (l : Nat) (o o' : Obj) (hle : w.heap.size ≤ l) (h : W.heap[l]? = some o) (h1 : o.isCells = false) (h2 : o.isWalk = false) : KpB n₀ Bl Bv W (W.putObj l o') :=
  ⟨belowK_b hn W l o o' hle h h1 h2, World.putObj_heap_other (by omega), World.putObj_heap_other (by omega)⟩
theorem Boxed.kpl {n₀ Bl Bv : Nat} {W W' : World} {t : TypeId} {v : Value} (h : Boxed W Bl t v) (k : KpB n₀ Bl Bv W W') : Boxed W' Bl t v := k.bl.trans h
theorem Boxed.below' {W W' : World} {B : Nat} {t : TypeId} {v : Value} (h : Boxed W B t v) (k : Below W.heap.size W W') : Boxed W' B t v := (k.block B h.lt).trans h
/-- 'KeepsFrom' of whatever leaves all that lay as it lay. -/
theorem KeepsFrom.ofBelow {B : Nat} {W W' : World} (h : Below W.heap.size W W') : KeepsFrom B W W' := ⟨h.size, fun k _ _ hk _ => (h.block k (Array.getElem?_eq_some_iff.1 hk).1).trans hk⟩
/-- 'KpB .. w₀ ·' abides what the loop itself turns. -/
theorem ownFrom_kpB {β : Type} {n₀ Bl Bv B' : Nat} {w₀ : World} (hn : n₀ ≤ B') (hl : Bl < B') (hv : Bv < B') (hB : B' ≤ w₀.heap.size) : OwnFrom B' (fun (_ : β) W => KpB n₀ Bl Bv w₀ W) :=
  fun _ X Y row hs hg hr => by
    have hs0 := hs.below.size
    refine ⟨hs.below.trans ⟨hg.os, hg.tape, hg.output, hg.size, fun k hk => hg.block k (by omega) (fun e => by have := (hr k e.symm).1; omega)⟩, ?_, ?_⟩
    · exact (hg.block Bl (by omega) (fun e => by have := (hr Bl e.symm).1; omega)).trans hs.bl
    · exact (hg.block Bv (by omega) (fun e => by have := (hr Bv e.symm).1; omega)).trans hs.bv

/-- The first j of the indices. -/
theorem fin_take {k j : Nat} (h : j < k) : (List.finRange k).take (j + 1) = (List.finRange k).take j ++ [⟨j, h⟩] := by
  rw [List.take_add_one, List.getElem?_eq_getElem (by simpa using h)]
  simp
theorem fin_len {k j : Nat} (h : j ≤ k) : ((List.finRange k).take j).length = j := by simp [h]
end Go.Proofs.Ytdhfbblameiloaa

/-
  A box of a round, and what the loop itself turns.
-/
namespace Go.Proofs.Ytdhfbblameiloaa
open Go.RowKit
set_option maxRecDepth 4000

theorem Boxed.ownK {W W' : World} {row : Option Nat} {B : Nat} {t : TypeId} {v : Value} (h : Boxed W B t v) (hg : W.grownBy W' row) (hr : ∀ r, row = some r → ∃ o : Obj, W.heap[r]? = some o ∧ o.isCells = false) : Boxed W' B t v := by
  obtain ⟨o, ho, hc⟩ := cells_of_cell h.cell
  exact (grownBy_keeps_cells hg hr ho hc).trans h
theorem Below.put' {n₀ : Nat} {w₀ W : World} {D : Nat} {o o' : Obj} (h : Below n₀ w₀ W) (hn : n₀ ≤ D) (hK : W.heap[D]? = some o) : Below n₀ w₀ (W.putObj D o') :=
  h.trans ((Below.refl n₀ W).grown (grownBy_putObj' W D o') (by have := (Array.getElem?_eq_some_iff.1 hK).1; omega) (fun k e => by cases e; omega))
end Go.Proofs.Ytdhfbblameiloaa

/-
  slices.Backward of a row of writes.
-/
namespace Go.Proofs.Ytdhfbblameiloaa
open Go.RowKit
set_option maxRecDepth 4000

attribute [local go_sem] Oper.semAt_some

/-- The write at place i from the end, as it is yielded. -/
abbrev encK (n : Nat) (fn : Nat → Int) (us : Nat → Value) (x : Nat) : Array Value := #[.int .i64 ((n - 1 - x : Nat) : Int), .agg #[.int .i64 (fn (n - 1 - x)), us (n - 1 - x)]]
/-- The cells of a row of writes. -/
def WCells (w : World) (a : Option Addr) (n : Nat) (fn : Nat → Int) (us : Nat → Value) : Prop := 0 < n → ∃ b off, a = some ⟨b, off, none⟩ ∧ b < w.heap.size ∧ ∀ i, i < n → w.cell? ⟨b, off + i * 2, none⟩ = some (.int .i64 (fn i)) ∧ w.cell? ⟨b, off + i * 2 + 1, none⟩ = some (us i) ∧ (us i).oneCell' = true
theorem WCells.below {w w' : World} {a : Option Addr} {n : Nat} {fn : Nat → Int} {us : Nat → Value} (h : WCells w a n fn us) (hb : Below w.heap.size w w') : WCells w' a n fn us := by
  intro hn
  obtain ⟨b, off, e, hlt, hc⟩ := h hn
  refine ⟨b, off, e, Nat.lt_of_lt_of_le hlt hb.size, fun i hi => ?_⟩
  obtain ⟨h1, h2, h3⟩ := hc i hi
  exact ⟨by rw [hb.cell (p := ⟨b, off + i * 2, none⟩) hlt]; exact h1, by rw [hb.cell (p := ⟨b, off + i * 2 + 1, none⟩) hlt]; exact h2, h3⟩
/-- A row of writes that reads, by functions of the index. -/
theorem wcells_of {w : World} {a : Option Addr} {cap : Nat} {l : List (Int × List Int)} (h : WView w a cap l) : ∃ us : Nat → Value, WCells w a l.length (fun i => (l.getD i (0, [])).1) us ∧ ∀ i (hi : i < l.length), LV w (us i) (l[i]).2 := by
  by_cases hn : 0 < l.length
  case neg => exact ⟨fun _ => undef, fun h => absurd h hn, fun i hi => absurd (Nat.lt_of_le_of_lt (Nat.zero_le _) hi) hn⟩
  obtain ⟨b, off, e, hlt, hc⟩ := h.cells hn
  have key : ∀ i (hi : i < l.length), ∃ u, w.cell? ⟨b, off + i * 2, none⟩ = some (.int .i64 (l[i]).1) ∧ w.cell? ⟨b, off + i * 2 + 1, none⟩ = some u ∧ LV w u (l[i]).2 := by
    intro i hi
    obtain ⟨us, ⟨u, rfl, hu⟩, h2⟩ := hc i l[i] (List.getElem?_eq_getElem hi)
    exact ⟨u, by simpa using h2 0 _ rfl, by simpa using h2 1 _ rfl, hu⟩
  refine ⟨fun i => (w.cell? ⟨b, off + i * 2 + 1, none⟩).getD undef, fun _ => ⟨b, off, e, hlt, fun i hi => ?_⟩, fun i hi => ?_⟩
  · obtain ⟨u, h1, h2, h3⟩ := key i hi
    refine ⟨by rw [h1]; simp [hi], by show _ = some ((w.cell? ⟨b, off + i * 2 + 1, none⟩).getD undef); rw [h2]; rfl, ?_⟩
    show ((w.cell? ⟨b, off + i * 2 + 1, none⟩).getD undef).oneCell' = true
    rw [h2]
    obtain ⟨a', c', rfl, -, -⟩ := h3.is
    rfl
  · obtain ⟨u, h1, h2, h3⟩ := key i hi
    show LV w ((w.cell? ⟨b, off + i * 2 + 1, none⟩).getD undef) _
    rw [h2]
    exact h3

set_option linter.unusedSimpArgs false in
set_option maxRecDepth 100000 in
set_option maxHeartbeats 4000000 in
theorem back1_in (NN : Nat) (hNN : 1 ≤ NN) (l B : Nat) (a : Option Addr) (n cap : Nat) (fn : Nat → Int) (us : Nat → Value) (w : World) (hp : WCells w a n fn us) (hn : n ≤ 281474976710656)
    (J Jx : List (Fin n) → World → Prop) (W : World)
    (hY : ∀ pre x W1, J pre W1 → pre.length < n → YieldAt Fence.wide (NN - 1) Try.prog l (encK n fn us x.1) W1 fun e W' =>
      (e = .returned (.bool true) ∧ J (pre ++ [x]) W' ∧ KpB w.heap.size B B W1 W') ∨ (e = .returned (.bool false) ∧ Jx (pre ++ [x]) W'))
    (hb : Below w.heap.size w W) (hl : Boxed W B 29 (.slice a n cap)) (h0 : J [] W) :
    CallsIn Fence.wide NN Try.prog 126 #[.func (.yield l) #[] #[], .pointer (some ⟨B, 0, none⟩)] W fun e W' => (∃ v, e = .returned v) ∧
      ((∃ xs, xs = List.finRange n ∧ J xs W') ∨ (∃ pre, pre <+: List.finRange n ∧ Jx pre W')) := by
  refine callsIn_of_wp Try.func126 rfl trivial ?_ rfl
  simp only [Try.ntmps126, List.size_toArray, List.length_cons, List.length_nil, Nat.reduceAdd, Nat.reduceSub, Array.replicate_succ, Array.replicate_zero, List.push_toArray, List.append_toArray, List.nil_append, List.cons_append]
  have cl := hl.cell
  have hw0 : IntKind.i64.wrap ((n : Int) - 1) = (n : Int) - 1 := by rw [IntKind.wrap_i64]; omega
  gi_wp2
  gi_loopw [3] (fun i wr => ∃ (j : Nat), j ≤ n ∧ i = .int .i64 ((n : Int) - 1 - j) ∧ J ((List.finRange n).take j) wr ∧ KpB w.heap.size B B W wr) (fun i _ => ((intOf i) + 1).toNat)
  case atStart => exact ⟨0, Nat.zero_le _, by simp, h0, KpB.refl _ _ _ _⟩
  case round =>
    obtain ⟨j, hj, rfl, hJs, hk⟩ := hrel
    by_cases hlt : j < n
    · have hbw : Below w.heap.size w wr := hb.trans hk.below
      obtain ⟨b1, o1, rfl, hb1, hd1⟩ := (hp.below hbw) (by omega)
      obtain ⟨x0, x1, xo⟩ := hd1 (n - 1 - j) (by omega)
      have cl' := (Boxed.kpl hl hk).cell
      have ei : (n : Int) - 1 - j = ((n - 1 - j : Nat) : Int) := by omega
      have hfl : ((List.finRange n).take j).length < n := by rw [fin_len hj]; exact hlt
      have HU : Hid ((List.finRange n).take (j + 1) = (List.finRange n).take j ++ [⟨j, hlt⟩]) := fin_take hlt
      obtain ⟨fn', tmps, assign, body, hy, hR⟩ := hY ((List.finRange n).take j) ⟨j, hlt⟩ wr hJs hfl
      dsimp only [encK] at hy
      have hw1 : IntKind.i64.wrap (((n - 1 - j : Nat) : Int) - 1) = ((n - 1 - j : Nat) : Int) - 1 := by rw [IntKind.wrap_i64]; omega
      have e2 : ((n - 1 - j : Nat) : Int) - 1 = (n : Int) - 1 - ((j + 1 : Nat) : Int) := by omega
      have hin : n - 1 - j < n := by omega
      rw [ei]
      obtain ⟨p, hpp⟩ : ∃ p, Hid (n - 1 - j = p) := ⟨_, rfl⟩
      rw [hpp.out] at x0 x1 xo hy hw1 e2 hin ⊢
      have HE2 : Hid ((p : Int) - 1 = (n : Int) - 1 - ((j + 1 : Nat) : Int)) := e2
      have hpz : (p : Int) < (n : Int) := by omega
      obtain ⟨z, hz⟩ : ∃ z, Hid (fn p = z) := ⟨_, rfl⟩
      obtain ⟨u, hu⟩ : ∃ u, Hid (us p = u) := ⟨_, rfl⟩
      rw [hz.out] at x0 hy
      rw [hu.out] at x1 xo hy
      clear hd1 cl hJs ei e2
      gi_wp2
      refine hR.mono ?_
      rintro e W3 (⟨rfl, hJ3, hk3⟩ | ⟨rfl, hJx3⟩)
      · clear hy hR x0 x1 cl'
        have hJ4 : Hid (J ((List.finRange n).take (j + 1)) W3) := by show J _ W3; rw [HU.out]; exact hJ3
        have HP : Hid (p + j + 1 = n) := by show _ = _; have := hpp.out; omega
        clear hJ3 hpp
        gi_wp2
        go_roundw
        case rel => exact ⟨j + 1, by omega, by rw [HE2.out], hJ4.out, hk.trans hk3⟩
        case measure => simp [intOf]; try omega
      · have hJ4 : Hid (Jx ((List.finRange n).take (j + 1)) W3) := by show Jx _ W3; rw [HU.out]; exact hJx3
        clear hy hR x0 x1 cl' hJx3
        gi_wp2
        refine bodyPost_ret (results_none rfl _ _ _) rfl ?_
        exact ⟨⟨_, rfl⟩, .inr ⟨_, List.take_prefix _ _, hJ4.out⟩⟩
    · obtain rfl : j = n := by omega
      have hJe : Hid (J (List.finRange j) wr) := by
        show J _ wr
        have e : (List.finRange j).take j = List.finRange j := List.take_of_length_le (by simp)
        rw [← e]; exact hJs
      have hz : ¬ (0 : Int) ≤ (j : Int) - 1 - j := by omega
      clear hJs
      gi_wp2
      go_end0
      first
        | exact ⟨⟨_, rfl⟩, .inl hJe.out⟩
        | exact ⟨⟨_, rfl⟩, .inl ⟨_, rfl, hJe.out⟩⟩

theorem back_stops (NN : Nat) (hNN : 1 ≤ NN) (B : Nat) (a : Option Addr) (n cap : Nat) (fn : Nat → Int) (us : Nat → Value) (w : World) (hp : WCells w a n fn us) (hn : n ≤ 281474976710656)
    (W0 : World) (hb : Below w.heap.size w W0) (hl : Boxed W0 B 29 (.slice a n cap)) :
    SeqStopsK Fence.wide NN Try.prog 126 #[.pointer (some ⟨B, 0, none⟩)] (fun x : Fin n => encK n fn us x.1) (KpB w.heap.size B B) (fun xs => xs = List.finRange n) (fun pre => pre <+: List.finRange n) n W0 :=
  fun l J Jx W hW _ _ hY h0 => back1_in NN hNN l B a n cap fn us w hp hn J Jx W hY (hb.trans (hW.mono hb.size)) (Boxed.below' hl hW) h0

set_option maxHeartbeats 1000000 in
/-- slices.Backward boxes its argument. -/
theorem backward_in (NN : Nat) (a : Option Addr) (n cap : Nat) (w : World) :
    CallsIn Fence.wide NN Try.prog 87 #[.slice a n cap] w fun e w' => e = .returned (.func (.func 126) #[] #[.pointer (some ⟨w.heap.size, 0, none⟩)]) ∧ w' = w.alloc (.cells #[.slice a n cap] 29) := by
  refine callsIn_of_wp Try.func87 rfl trivial ?_ rfl
  simp only [Try.ntmps87, List.size_toArray, List.length_cons, List.length_nil, Nat.reduceAdd, Nat.reduceSub, Array.replicate_succ, Array.replicate_zero, List.push_toArray, List.append_toArray, List.nil_append, List.cons_append]
  gi_wp2
  go_ret
  exact ⟨rfl, rfl⟩
end Go.Proofs.Ytdhfbblameiloaa

