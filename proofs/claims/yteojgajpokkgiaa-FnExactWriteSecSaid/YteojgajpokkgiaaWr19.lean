/-
  Together: LawWriteSecOf, FineD, LawWriteSec, DiskIn
-/
import Derived.Test.YteojgajpokkgiaaWr12
import Derived.Test.YteojgajpokkgiaaWr17
import Derived.Test.YteojgajpokkgiaaWr18
import Derived.Test.YteojgajpokkgiaaWr3
import Derived.Deep.RegionHeld3
import Derived.Test.YteojgajpokkgiaaWr6
import Derived.Test.YteojgajpokkgiaaWr2
import Derived.Deep.Strs
import Derived.ChangeSame
import Derived.Lib.SmallJoins
/-
  The law FnExactWriteSec, walked.
-/
namespace Go.Proofs.Yteojgajpokkgiaa
open Go.RowKit
set_option maxRecDepth 4000

set_option maxHeartbeats 16000000 in
theorem lawWriteSecOf (v : Value) (D D2 : PDisk) (n : Int) (ba : Option Addr) (bc : Nat) (l : List Int) (cd : Int) (w : World) (h : KView w v D) (hm : KLim D) (hvb : View w ba l.length bc (bf l)) (hbl0 : l.length ≤ 9223372036854775807) (hS : ∀ W u a c, KFine D → l.length ≤ 1048576 → KView W u D → View W (some a) l.length c (bf l) → Calls Try.prog 11 #[u, .int .i64 n, .slice (some a) l.length c] W (DTo W D2 cd)) (hP : ∀ W u a c, KFine D → l.length ≤ 1048576 → KView W u D → View W (some a) l.length c (bf l) → Calls Try.prog 10 #[u, .int .i64 n, .slice (some a) l.length c] W (ITo W D2 cd)) (hf2' : KFine D → l.length ≤ 1048576 → KFine D2) :
    Calls Try.prog 7 #[v, .int .i64 n, .slice ba l.length bc] w fun e w' => e = .returned (.bool true) ∧ Below w.heap.size w w' := by
  have hv := h
  obtain ⟨sa, sc, ca, cc, fa, fc, rfl, -, -, -⟩ := h.is
  clear h
  have hBw : Below w.heap.size w (w.alloc (.cells #[.slice sa D.secs.length sc, .slice ca D.cache.length cc, .int .i64 D.ops, .slice fa D.faults.length fc, .bool D.down] 57)) := (Below.refl _ _).alloc (Nat.le_refl _) _
  have nA : VN (w.alloc (.cells #[.slice sa D.secs.length sc, .slice ca D.cache.length cc, .int .i64 D.ops, .slice fa D.faults.length fc, .bool D.down] 57)) w.heap.size 57 [.slice sa D.secs.length sc, .slice ca D.cache.length cc, .int .i64 D.ops, .slice fa D.faults.length fc, .bool D.down] := VN.new w 57 [.slice sa D.secs.length sc, .slice ca D.cache.length cc, .int .i64 D.ops, .slice fa D.faults.length fc, .bool D.down]
  have zA : (w.alloc (.cells #[.slice sa D.secs.length sc, .slice ca D.cache.length cc, .int .i64 D.ops, .slice fa D.faults.length fc, .bool D.down] 57)).heap.size = w.heap.size + 1 := by simp
  have HVB : Hid (View w ba l.length bc (bf l)) := hvb
  have hlz : (l.length : Int) ≤ 9223372036854775807 := by omega
  clear hvb
  by_cases hbig : (1048576 : Int) < (l.length : Int)
  · have HB : Hid (Below w.heap.size w (w.alloc (.cells #[.slice sa D.secs.length sc, .slice ca D.cache.length cc, .int .i64 D.ops, .slice fa D.faults.length fc, .bool D.down] 57))) := hBw
    clear hv nA hBw hS hP hm
    go_enter Try.func7, Try.ntmps7
    go_wp2
    go_ret
    exact ⟨rfl, HB.out⟩
  have hll : l.length ≤ 1048576 := by omega
  have HBY : Hid (∀ i, i < l.length → 0 ≤ bf l i ∧ bf l i ≤ 255) := HVB.out.byte
  have hZ := szDisk_fine _ D 1048576 _ (hv.below hBw) hm (by omega) (by omega)
  clear hm
  go_enter Try.func7, Try.ntmps7
  go_wp2_with fail
  refine hZ.mono ?_
  rintro e w1 ⟨L, rfl, hb1, hL⟩
  clear hZ
  have zw1 := hb1.size
  replace nA := nA.below hb1
  replace hBw := hBw.trans (hb1.mono hBw.size)
  rcases hL with rfl | ⟨hL0, hL1, hf⟩
  · have HB : Hid (Below w.heap.size w w1) := hBw
    clear hv nA hBw hb1
    go_wp2
    go_ret
    exact ⟨rfl, HB.out⟩
  have hLn : ¬ L < 0 := by omega
  have hf2 := hf2' hf hll
  clear hf2'
  have hqq : (cd != cd) = false := bne_self_eq_false _
  clear hb1
  have hC := toDisk_any _ D w1 (hv.below hBw) hf
  have nA0 : w1.cell? ⟨w.heap.size, 0, none⟩ = some (.slice sa D.secs.length sc) := nA.cell 0
  have nA1 : w1.cell? ⟨w.heap.size, 1, none⟩ = some (.slice ca D.cache.length cc) := nA.cell 1
  have nA2 : w1.cell? ⟨w.heap.size, 2, none⟩ = some (.int .i64 D.ops) := nA.cell 2
  have nA3 : w1.cell? ⟨w.heap.size, 3, none⟩ = some (.slice fa D.faults.length fc) := nA.cell 3
  have nA4 : w1.cell? ⟨w.heap.size, 4, none⟩ = some (.bool D.down) := nA.cell 4
  go_wp2_with fail
  refine hC.mono ?_
  rintro e w2 ⟨v2, rfl, hO2, hb2⟩
  clear hC
  clear nA0 nA1 nA2 nA3 nA4
  have zw2 := hb2.size
  replace nA := nA.below hb2
  replace hBw := hBw.trans (hb2.mono hBw.size)
  clear hb2
  have hC := toByteS_any ba l.length bc (bf l) w2 (HVB.out.below hBw) (by omega)
  go_wp2_with fail
  refine hC.mono ?_
  rintro e w2b ⟨rfl, hrb, hbb, -⟩
  clear hC
  have hO2v := hO2.view.below hbb
  clear hO2
  have zw2b := hbb.size
  replace nA := nA.below hbb
  replace hBw := hBw.trans (hbb.mono hBw.size)
  clear hbb
  have hC := hS w2b v2 ⟨w2.heap.size, 0, none⟩ l.length hf hll hO2v ((Row.ofIs hrb).view (Nat.le_refl _) HBY.out)
  go_wp2_with fail
  refine hC.mono ?_
  rintro e w3 ⟨p1, p2, p3, p4, p5, p6, rfl, hV0, hb3⟩
  clear hC hO2v hS hrb
  have zw3 := hb3.size
  replace nA := nA.below hb3
  replace hBw := hBw.trans (hb3.mono hBw.size)
  clear hb3
  unfold dval at hV0 ⊢
  have hB0 : Below w3.heap.size w3 w3 := Below.refl _ _
  have hbA : Below w3.heap.size w3 (w3.alloc (.cells #[.slice p1 D2.secs.length p2, .slice p3 D2.cache.length p4, .int .i64 D2.ops, .slice p5 D2.faults.length p6, .bool D2.down] 28)) := (Below.refl _ _).alloc (Nat.le_refl _) _
  have nw : VN (w3.alloc (.cells #[.slice p1 D2.secs.length p2, .slice p3 D2.cache.length p4, .int .i64 D2.ops, .slice p5 D2.faults.length p6, .bool D2.down] 28)) w3.heap.size 28 [.slice p1 D2.secs.length p2, .slice p3 D2.cache.length p4, .int .i64 D2.ops, .slice p5 D2.faults.length p6, .bool D2.down] := VN.new w3 28 [.slice p1 D2.secs.length p2, .slice p3 D2.cache.length p4, .int .i64 D2.ops, .slice p5 D2.faults.length p6, .bool D2.down]
  have zanw : (w3.alloc (.cells #[.slice p1 D2.secs.length p2, .slice p3 D2.cache.length p4, .int .i64 D2.ops, .slice p5 D2.faults.length p6, .bool D2.down] 28)).heap.size = w3.heap.size + 1 := by simp
  replace nA := nA.below hbA
  replace hBw := hBw.trans (hbA.mono hBw.size)
  replace hB0 := hB0.trans (hbA.mono hB0.size)
  clear hbA
  have hC := toDisk_any _ D (w3.alloc (.cells #[.slice p1 D2.secs.length p2, .slice p3 D2.cache.length p4, .int .i64 D2.ops, .slice p5 D2.faults.length p6, .bool D2.down] 28)) (hv.below hBw) hf
  have nA0 : (w3.alloc (.cells #[.slice p1 D2.secs.length p2, .slice p3 D2.cache.length p4, .int .i64 D2.ops, .slice p5 D2.faults.length p6, .bool D2.down] 28)).cell? ⟨w.heap.size, 0, none⟩ = some (.slice sa D.secs.length sc) := nA.cell 0
  have nA1 : (w3.alloc (.cells #[.slice p1 D2.secs.length p2, .slice p3 D2.cache.length p4, .int .i64 D2.ops, .slice p5 D2.faults.length p6, .bool D2.down] 28)).cell? ⟨w.heap.size, 1, none⟩ = some (.slice ca D.cache.length cc) := nA.cell 1
  have nA2 : (w3.alloc (.cells #[.slice p1 D2.secs.length p2, .slice p3 D2.cache.length p4, .int .i64 D2.ops, .slice p5 D2.faults.length p6, .bool D2.down] 28)).cell? ⟨w.heap.size, 2, none⟩ = some (.int .i64 D.ops) := nA.cell 2
  have nA3 : (w3.alloc (.cells #[.slice p1 D2.secs.length p2, .slice p3 D2.cache.length p4, .int .i64 D2.ops, .slice p5 D2.faults.length p6, .bool D2.down] 28)).cell? ⟨w.heap.size, 3, none⟩ = some (.slice fa D.faults.length fc) := nA.cell 3
  have nA4 : (w3.alloc (.cells #[.slice p1 D2.secs.length p2, .slice p3 D2.cache.length p4, .int .i64 D2.ops, .slice p5 D2.faults.length p6, .bool D2.down] 28)).cell? ⟨w.heap.size, 4, none⟩ = some (.bool D.down) := nA.cell 4
  go_wp2_with fail
  refine hC.mono ?_
  rintro e w4 ⟨v4, rfl, hO4, hb4⟩
  clear hC
  clear nA0 nA1 nA2 nA3 nA4
  have zw4 := hb4.size
  replace nA := nA.below hb4
  replace nw := nw.below hb4
  replace hBw := hBw.trans (hb4.mono hBw.size)
  replace hB0 := hB0.trans (hb4.mono hB0.size)
  clear hb4
  have hIx := hO4.kin
  clear hO4
  rw [zanw] at hIx zw4
  have hVx := hIx.own.view
  obtain ⟨x1, x2, x3, x4, x5, x6, cx1, cx2, ex, -⟩ := id hIx
  subst ex
  unfold dval at hIx hVx ⊢
  have hBx : Below w4.heap.size w4 w4 := Below.refl _ _
  have hbA : Below w4.heap.size w4 (w4.alloc (.cells #[.slice x1 D.secs.length x2, .slice x3 D.cache.length x4, .int .i64 D.ops, .slice x5 D.faults.length x6, .bool D.down] 28)) := (Below.refl _ _).alloc (Nat.le_refl _) _
  have nx : VN (w4.alloc (.cells #[.slice x1 D.secs.length x2, .slice x3 D.cache.length x4, .int .i64 D.ops, .slice x5 D.faults.length x6, .bool D.down] 28)) w4.heap.size 28 [.slice x1 D.secs.length x2, .slice x3 D.cache.length x4, .int .i64 D.ops, .slice x5 D.faults.length x6, .bool D.down] := VN.new w4 28 [.slice x1 D.secs.length x2, .slice x3 D.cache.length x4, .int .i64 D.ops, .slice x5 D.faults.length x6, .bool D.down]
  have zanx : (w4.alloc (.cells #[.slice x1 D.secs.length x2, .slice x3 D.cache.length x4, .int .i64 D.ops, .slice x5 D.faults.length x6, .bool D.down] 28)).heap.size = w4.heap.size + 1 := by simp
  replace nA := nA.below hbA
  replace nw := nw.below hbA
  replace hBw := hBw.trans (hbA.mono hBw.size)
  replace hB0 := hB0.trans (hbA.mono hB0.size)
  replace hBx := hBx.trans (hbA.mono hBx.size)
  replace hIx := hIx.up (Up.ofBelow hbA)
  clear hbA
  have hC := toByteS_any ba l.length bc (bf l) (w4.alloc (.cells #[.slice x1 D.secs.length x2, .slice x3 D.cache.length x4, .int .i64 D.ops, .slice x5 D.faults.length x6, .bool D.down] 28)) (HVB.out.below hBw) (by omega)
  go_wp2_with fail
  refine hC.mono ?_
  rintro e w4b ⟨rfl, hxr, hb4b, -⟩
  clear hC
  have zw4b := hb4b.size
  replace nA := nA.below hb4b
  replace nw := nw.below hb4b
  replace nx := nx.below hb4b
  replace hBw := hBw.trans (hb4b.mono hBw.size)
  replace hB0 := hB0.trans (hb4b.mono hB0.size)
  replace hBx := hBx.trans (hb4b.mono hBx.size)
  replace hIx := hIx.up (Up.ofBelow hb4b)
  clear hb4b
  rw [zanx] at hxr
  try rw [zanx]
  rw [zanx] at zw4b
  have hxlt := hxr.lt
  have hC := hP w4b _ ⟨w4.heap.size + 1, 0, none⟩ l.length hf hll (hVx.below hBx) ((Row.ofIs hxr).view (Nat.le_refl _) HBY.out)
  have nx0 : w4b.cell? ⟨w4.heap.size, 0, none⟩ = some (.slice x1 D.secs.length x2) := nx.cell 0
  have nx1 : w4b.cell? ⟨w4.heap.size, 1, none⟩ = some (.slice x3 D.cache.length x4) := nx.cell 1
  have nx2 : w4b.cell? ⟨w4.heap.size, 2, none⟩ = some (.int .i64 D.ops) := nx.cell 2
  have nx3 : w4b.cell? ⟨w4.heap.size, 3, none⟩ = some (.slice x5 D.faults.length x6) := nx.cell 3
  have nx4 : w4b.cell? ⟨w4.heap.size, 4, none⟩ = some (.bool D.down) := nx.cell 4
  go_wp2_with fail
  refine hC.mono ?_
  rintro e w5 ⟨v5, rfl, hO5, hb5⟩
  clear hC
  clear nx0 nx1 nx2 nx3 nx4
  have zw5 := hb5.size
  replace nA := nA.below hb5
  replace nw := nw.below hb5
  replace nx := nx.below hb5
  replace hBw := hBw.trans (hb5.mono hBw.size)
  replace hB0 := hB0.trans (hb5.mono hB0.size)
  replace hBx := hBx.trans (hb5.mono hBx.size)
  replace hIx := hIx.up (Up.ofBelow hb5)
  replace hxr := rowIsBelow hxr hb5
  clear hb5
  have hIg := hO5.kin
  clear hO5
  obtain ⟨g1, g2, g3, g4, g5, g6, cg1, cg2, eg, -⟩ := id hIg
  subst eg
  unfold dval at hIg ⊢
  have hbA : Below w5.heap.size w5 (w5.alloc (.cells #[.slice g1 D2.secs.length g2, .slice g3 D2.cache.length g4, .int .i64 D2.ops, .slice g5 D2.faults.length g6, .bool D2.down] 28)) := (Below.refl _ _).alloc (Nat.le_refl _) _
  have ng : VN (w5.alloc (.cells #[.slice g1 D2.secs.length g2, .slice g3 D2.cache.length g4, .int .i64 D2.ops, .slice g5 D2.faults.length g6, .bool D2.down] 28)) w5.heap.size 28 [.slice g1 D2.secs.length g2, .slice g3 D2.cache.length g4, .int .i64 D2.ops, .slice g5 D2.faults.length g6, .bool D2.down] := VN.new w5 28 [.slice g1 D2.secs.length g2, .slice g3 D2.cache.length g4, .int .i64 D2.ops, .slice g5 D2.faults.length g6, .bool D2.down]
  have zang : (w5.alloc (.cells #[.slice g1 D2.secs.length g2, .slice g3 D2.cache.length g4, .int .i64 D2.ops, .slice g5 D2.faults.length g6, .bool D2.down] 28)).heap.size = w5.heap.size + 1 := by simp
  replace nA := nA.below hbA
  replace nw := nw.below hbA
  replace nx := nx.below hbA
  replace hBw := hBw.trans (hbA.mono hBw.size)
  replace hB0 := hB0.trans (hbA.mono hB0.size)
  replace hBx := hBx.trans (hbA.mono hBx.size)
  replace hIx := hIx.up (Up.ofBelow hbA)
  replace hIg := hIg.up (Up.ofBelow hbA)
  replace hxr := rowIsBelow hxr hbA
  clear hbA
  have hC := eqDisk_same _ _ D2 (w5.alloc (.cells #[.slice g1 D2.secs.length g2, .slice g3 D2.cache.length g4, .int .i64 D2.ops, .slice g5 D2.faults.length g6, .bool D2.down] 28)) (hIg.own.view) (hV0.below hB0) hf2
  have ng0 : (w5.alloc (.cells #[.slice g1 D2.secs.length g2, .slice g3 D2.cache.length g4, .int .i64 D2.ops, .slice g5 D2.faults.length g6, .bool D2.down] 28)).cell? ⟨w5.heap.size, 0, none⟩ = some (.slice g1 D2.secs.length g2) := ng.cell 0
  have ng1 : (w5.alloc (.cells #[.slice g1 D2.secs.length g2, .slice g3 D2.cache.length g4, .int .i64 D2.ops, .slice g5 D2.faults.length g6, .bool D2.down] 28)).cell? ⟨w5.heap.size, 1, none⟩ = some (.slice g3 D2.cache.length g4) := ng.cell 1
  have ng2 : (w5.alloc (.cells #[.slice g1 D2.secs.length g2, .slice g3 D2.cache.length g4, .int .i64 D2.ops, .slice g5 D2.faults.length g6, .bool D2.down] 28)).cell? ⟨w5.heap.size, 2, none⟩ = some (.int .i64 D2.ops) := ng.cell 2
  have ng3 : (w5.alloc (.cells #[.slice g1 D2.secs.length g2, .slice g3 D2.cache.length g4, .int .i64 D2.ops, .slice g5 D2.faults.length g6, .bool D2.down] 28)).cell? ⟨w5.heap.size, 3, none⟩ = some (.slice g5 D2.faults.length g6) := ng.cell 3
  have ng4 : (w5.alloc (.cells #[.slice g1 D2.secs.length g2, .slice g3 D2.cache.length g4, .int .i64 D2.ops, .slice g5 D2.faults.length g6, .bool D2.down] 28)).cell? ⟨w5.heap.size, 4, none⟩ = some (.bool D2.down) := ng.cell 4
  have nw0 : (w5.alloc (.cells #[.slice g1 D2.secs.length g2, .slice g3 D2.cache.length g4, .int .i64 D2.ops, .slice g5 D2.faults.length g6, .bool D2.down] 28)).cell? ⟨w3.heap.size, 0, none⟩ = some (.slice p1 D2.secs.length p2) := nw.cell 0
  have nw1 : (w5.alloc (.cells #[.slice g1 D2.secs.length g2, .slice g3 D2.cache.length g4, .int .i64 D2.ops, .slice g5 D2.faults.length g6, .bool D2.down] 28)).cell? ⟨w3.heap.size, 1, none⟩ = some (.slice p3 D2.cache.length p4) := nw.cell 1
  have nw2 : (w5.alloc (.cells #[.slice g1 D2.secs.length g2, .slice g3 D2.cache.length g4, .int .i64 D2.ops, .slice g5 D2.faults.length g6, .bool D2.down] 28)).cell? ⟨w3.heap.size, 2, none⟩ = some (.int .i64 D2.ops) := nw.cell 2
  have nw3 : (w5.alloc (.cells #[.slice g1 D2.secs.length g2, .slice g3 D2.cache.length g4, .int .i64 D2.ops, .slice g5 D2.faults.length g6, .bool D2.down] 28)).cell? ⟨w3.heap.size, 3, none⟩ = some (.slice p5 D2.faults.length p6) := nw.cell 3
  have nw4 : (w5.alloc (.cells #[.slice g1 D2.secs.length g2, .slice g3 D2.cache.length g4, .int .i64 D2.ops, .slice g5 D2.faults.length g6, .bool D2.down] 28)).cell? ⟨w3.heap.size, 4, none⟩ = some (.bool D2.down) := nw.cell 4
  go_wp2_with fail
  refine hC.mono ?_
  rintro e w6 ⟨rfl, hb6⟩
  clear hC
  clear ng0 ng1 ng2 ng3 ng4
  clear nw0 nw1 nw2 nw3 nw4
  have zw6 := hb6.size
  replace nA := nA.below hb6
  replace nw := nw.below hb6
  replace nx := nx.below hb6
  replace ng := ng.below hb6
  replace hBw := hBw.trans (hb6.mono hBw.size)
  replace hB0 := hB0.trans (hb6.mono hB0.size)
  replace hBx := hBx.trans (hb6.mono hBx.size)
  replace hIx := hIx.up (Up.ofBelow hb6)
  replace hIg := hIg.up (Up.ofBelow hb6)
  replace hxr := rowIsBelow hxr hb6
  clear hb6
  go_wp2_with fail
  refine wp_region_held_drew (S := fun WW => (WW.cell? ⟨w.heap.size, 0, none⟩ = some (.slice sa D.secs.length sc) ∧ WW.cell? ⟨w.heap.size, 1, none⟩ = some (.slice ca D.cache.length cc) ∧ WW.cell? ⟨w.heap.size, 2, none⟩ = some (.int .i64 D.ops) ∧ WW.cell? ⟨w.heap.size, 3, none⟩ = some (.slice fa D.faults.length fc) ∧ WW.cell? ⟨w.heap.size, 4, none⟩ = some (.bool D.down)) ∧ (WW.cell? ⟨w4.heap.size, 0, none⟩ = some (.slice x1 D.secs.length x2) ∧ WW.cell? ⟨w4.heap.size, 1, none⟩ = some (.slice x3 D.cache.length x4) ∧ WW.cell? ⟨w4.heap.size, 2, none⟩ = some (.int .i64 D.ops) ∧ WW.cell? ⟨w4.heap.size, 3, none⟩ = some (.slice x5 D.faults.length x6) ∧ WW.cell? ⟨w4.heap.size, 4, none⟩ = some (.bool D.down))) (by kernel_rfl) ⟨⟨nA.cell 0, nA.cell 1, nA.cell 2, nA.cell 3, nA.cell 4⟩, nx.cell 0, nx.cell 1, nx.cell 2, nx.cell 3, nx.cell 4⟩ (fun hHeld => ?_)
  have hbd : Below w6.heap.size w6 w6.drew := (Below.refl _ _).drew
  obtain ⟨wd, hwd⟩ := hidEx w6.drew
  rw [hwd.out] at hbd hHeld ⊢
  have zwd := hbd.size
  replace nA := nA.below hbd
  replace nw := nw.below hbd
  replace nx := nx.below hbd
  replace ng := ng.below hbd
  replace hBw := hBw.trans (hbd.mono hBw.size)
  replace hB0 := hB0.trans (hbd.mono hB0.size)
  replace hBx := hBx.trans (hbd.mono hBx.size)
  replace hIx := hIx.up (Up.ofBelow hbd)
  replace hIg := hIg.up (Up.ofBelow hbd)
  replace hxr := rowIsBelow hxr hbd
  clear hbd
  refine' wpAnyH_take (i := 0) (v := _) rfl (by kernel_rfl) (by kernel_rfl) (by kernel_rfl) (fun _ _ _ h => h) (Or.inl ⟨by kernel_rfl, ?hdd1⟩) (by assumption) ?rdd1
  case hdd1 => intro W hW; obtain ⟨⟨a0, a1, a2, a3, a4⟩, y0, y1, y2, y3, y4⟩ := hW; go_simp; all_goals with_reducible rfl
  change wpAnyH _ _ _ _ _ _ _ (Act.put _ (some 56) _) _
  simp only [Act.put, List.setIfInBounds_toArray, List.set_cons_zero, List.set_cons_succ]
  refine' wpAnyH_take (i := 1) (v := _) rfl (by kernel_rfl) (by kernel_rfl) (by kernel_rfl) (fun _ _ _ h => h) (Or.inl ⟨by kernel_rfl, ?hdd2⟩) (by assumption) ?rdd2
  case hdd2 => intro W hW; obtain ⟨⟨a0, a1, a2, a3, a4⟩, y0, y1, y2, y3, y4⟩ := hW; go_simp; all_goals with_reducible rfl
  change wpAnyH _ _ _ _ _ _ _ (Act.put _ (some 57) _) _
  simp only [Act.put, List.setIfInBounds_toArray, List.set_cons_zero, List.set_cons_succ]
  refine wpAnyH_ready (rs := [2]) (by kernel_rfl) (by simp) ?_
  refine AllReadyH.cons rfl (fun KK hK => ?_) AllReadyH.nil
  go_simp
  refine (toDisk_any _ D wd (hv.below hBw) hf).mono ?_
  rintro e w7 ⟨v7, rfl, hO7, hb7⟩
  have zw7 := hb7.size
  replace nA := nA.below hb7
  replace nw := nw.below hb7
  replace nx := nx.below hb7
  replace ng := ng.below hb7
  replace hBw := hBw.trans (hb7.mono hBw.size)
  replace hB0 := hB0.trans (hb7.mono hB0.size)
  replace hBx := hBx.trans (hb7.mono hBx.size)
  replace hIx := hIx.up (Up.ofBelow hb7)
  replace hIg := hIg.up (Up.ofBelow hb7)
  replace hxr := rowIsBelow hxr hb7
  clear hb7
  go_wp2_with fail
  refine hK.out _ _ ⟨⟨nA.cell 0, nA.cell 1, nA.cell 2, nA.cell 3, nA.cell 4⟩, nx.cell 0, nx.cell 1, nx.cell 2, nx.cell 3, nx.cell 4⟩ (fun hHeld => ?_)
  clear hK KK
  try simp only [Act.put, List.setIfInBounds_toArray, List.set_cons_zero, List.set_cons_succ]
  refine wpAnyH_ready (rs := [3]) (by kernel_rfl) (by simp) ?_
  refine AllReadyH.cons rfl (fun KK hK => ?_) AllReadyH.nil
  go_simp
  refine (eqDisk_same _ _ D w7 (hIx.own.view) hO7.view hf).mono ?_
  rintro e w8 ⟨rfl, hb8⟩
  clear hO7
  have zw8 := hb8.size
  replace nA := nA.below hb8
  replace nw := nw.below hb8
  replace nx := nx.below hb8
  replace ng := ng.below hb8
  replace hBw := hBw.trans (hb8.mono hBw.size)
  replace hB0 := hB0.trans (hb8.mono hB0.size)
  replace hBx := hBx.trans (hb8.mono hBx.size)
  replace hIx := hIx.up (Up.ofBelow hb8)
  replace hIg := hIg.up (Up.ofBelow hb8)
  replace hxr := rowIsBelow hxr hb8
  clear hb8
  go_wp2_with fail
  refine hK.out _ _ ⟨⟨nA.cell 0, nA.cell 1, nA.cell 2, nA.cell 3, nA.cell 4⟩, nx.cell 0, nx.cell 1, nx.cell 2, nx.cell 3, nx.cell 4⟩ (fun hHeld => ?_)
  clear hK KK
  try simp only [Act.put, List.setIfInBounds_toArray, List.set_cons_zero, List.set_cons_succ]
  refine' wpAnyH_take (i := 4) (v := _) rfl (by kernel_rfl) (by kernel_rfl) (by kernel_rfl) (fun _ _ _ h => h) (Or.inl ⟨by kernel_rfl, ?hdd3⟩) (by assumption) ?rdd3
  case hdd3 => intro W hW; obtain ⟨⟨a0, a1, a2, a3, a4⟩, y0, y1, y2, y3, y4⟩ := hW; go_simp; all_goals with_reducible rfl
  change wpAnyH _ _ _ _ _ _ _ (Act.put _ (some 60) _) _
  simp only [Act.put, List.setIfInBounds_toArray, List.set_cons_zero, List.set_cons_succ]
  refine wpAnyH_done (by kernel_rfl) ?_ _
  clear hHeld
  have hC := toByteS_any ba l.length bc (bf l) w8 (HVB.out.below hBw) (by omega)
  go_wp2_with fail
  refine hC.mono ?_
  rintro e w8b ⟨rfl, hrb, hb8b, -⟩
  clear hC
  have zw8b := hb8b.size
  replace nA := nA.below hb8b
  replace nw := nw.below hb8b
  replace nx := nx.below hb8b
  replace ng := ng.below hb8b
  replace hBw := hBw.trans (hb8b.mono hBw.size)
  replace hB0 := hB0.trans (hb8b.mono hB0.size)
  replace hBx := hBx.trans (hb8b.mono hBx.size)
  replace hIx := hIx.up (Up.ofBelow hb8b)
  replace hIg := hIg.up (Up.ofBelow hb8b)
  replace hxr := rowIsBelow hxr hb8b
  clear hb8b
  have hC := eqByteS_same (some ⟨w4.heap.size + 1, 0, none⟩) (some ⟨w8.heap.size, 0, none⟩) l.length l.length l.length (bf l) (bf l) w8b ((Row.ofIs hxr).view (Nat.le_refl _) HBY.out) ((Row.ofIs hrb).view (Nat.le_refl _) HBY.out) (by omega) (fun _ _ => rfl)
  go_wp2_with fail
  refine hC.mono ?_
  rintro e w8c ⟨rfl, hb8c⟩
  clear hC hrb
  have zw8c := hb8c.size
  replace nA := nA.below hb8c
  replace nw := nw.below hb8c
  replace nx := nx.below hb8c
  replace ng := ng.below hb8c
  replace hBw := hBw.trans (hb8c.mono hBw.size)
  replace hB0 := hB0.trans (hb8c.mono hB0.size)
  replace hBx := hBx.trans (hb8c.mono hBx.size)
  replace hIx := hIx.up (Up.ofBelow hb8c)
  replace hIg := hIg.up (Up.ofBelow hb8c)
  replace hxr := rowIsBelow hxr hb8c
  clear hb8c
  clear hBx hVx
  have hC := markDisk_any _ D (w3.heap.size + 1) (w4.heap.size) 1 w8c hIx hf (by omega) (by omega)
  have nx0 : w8c.cell? ⟨w4.heap.size, 0, none⟩ = some (.slice x1 D.secs.length x2) := nx.cell 0
  have nx1 : w8c.cell? ⟨w4.heap.size, 1, none⟩ = some (.slice x3 D.cache.length x4) := nx.cell 1
  have nx2 : w8c.cell? ⟨w4.heap.size, 2, none⟩ = some (.int .i64 D.ops) := nx.cell 2
  have nx3 : w8c.cell? ⟨w4.heap.size, 3, none⟩ = some (.slice x5 D.faults.length x6) := nx.cell 3
  have nx4 : w8c.cell? ⟨w4.heap.size, 4, none⟩ = some (.bool D.down) := nx.cell 4
  go_wp2_with fail
  refine hC.mono ?_
  rintro e w9 ⟨rfl, hI, hO⟩
  clear hC
  clear nx0 nx1 nx2 nx3 nx4
  have zw9 := hO.size
  replace nA := nA.block (hO.block _ nA.lt (by omega))
  replace nw := nw.block (hO.block _ nw.lt (by omega))
  replace nx := nx.block (hO.block _ nx.lt (by omega))
  replace ng := ng.block (hO.block _ ng.lt (by omega))
  replace hBw := hBw.trans ((hO.below (by omega)).mono (by omega))
  replace hB0 := hB0.trans ((hO.below (by omega)).mono (by omega))
  replace hIg := hIg.up ((hO.up).mono (by omega))
  replace hxr := hxr.of_block (hO.block _ hxr.lt (by omega))
  clear hIx
  clear hO
  obtain ⟨km, hkm⟩ := hidEx (1 + (szD D : Int))
  have hkmp : ¬ km < 0 := by have := hkm.out; omega
  rw [hkm.out]
  clear hI
  have hkm1 : km ≤ 4398046511104 := by
    have h1 := hkm.out
    have h2 := hf.sum
    unfold szD at h1
    omega
  have hC := mark_any (w4.heap.size + 1) l.length l.length (bf l) km w9 (Row.ofIs hxr) (by omega) (by omega)
  go_wp2_with fail
  refine hC.mono ?_
  rintro e w9b ⟨rfl, -, hOn⟩
  clear hC hxr
  have zw9b := hOn.size
  replace nA := nA.block (hOn.block _ (by omega))
  replace nw := nw.block (hOn.block _ (by omega))
  replace nx := nx.block (hOn.block _ (by omega))
  replace ng := ng.block (hOn.block _ (by omega))
  replace hBw := hBw.trans ((hOn.below (B := w.heap.size) (by omega)).mono (by omega))
  replace hB0 := hB0.trans ((hOn.below (B := w3.heap.size) (by omega)).mono (by omega))
  replace hIg := hIg.up ⟨by omega, fun k h1 h2 => hOn.block k (by omega)⟩
  clear hOn
  obtain ⟨kn, hkn⟩ := hidEx (km + (l.length : Int))
  have hknp : ¬ kn < 0 := by have := hkn.out; omega
  rw [hkn.out]
  have hC := eqDisk_same _ _ D2 w9b (hIg.own.view) (hV0.below hB0) hf2
  have ng0 : w9b.cell? ⟨w5.heap.size, 0, none⟩ = some (.slice g1 D2.secs.length g2) := ng.cell 0
  have ng1 : w9b.cell? ⟨w5.heap.size, 1, none⟩ = some (.slice g3 D2.cache.length g4) := ng.cell 1
  have ng2 : w9b.cell? ⟨w5.heap.size, 2, none⟩ = some (.int .i64 D2.ops) := ng.cell 2
  have ng3 : w9b.cell? ⟨w5.heap.size, 3, none⟩ = some (.slice g5 D2.faults.length g6) := ng.cell 3
  have ng4 : w9b.cell? ⟨w5.heap.size, 4, none⟩ = some (.bool D2.down) := ng.cell 4
  have nw0 : w9b.cell? ⟨w3.heap.size, 0, none⟩ = some (.slice p1 D2.secs.length p2) := nw.cell 0
  have nw1 : w9b.cell? ⟨w3.heap.size, 1, none⟩ = some (.slice p3 D2.cache.length p4) := nw.cell 1
  have nw2 : w9b.cell? ⟨w3.heap.size, 2, none⟩ = some (.int .i64 D2.ops) := nw.cell 2
  have nw3 : w9b.cell? ⟨w3.heap.size, 3, none⟩ = some (.slice p5 D2.faults.length p6) := nw.cell 3
  have nw4 : w9b.cell? ⟨w3.heap.size, 4, none⟩ = some (.bool D2.down) := nw.cell 4
  go_wp2_with fail
  refine hC.mono ?_
  rintro e w10 ⟨rfl, hb10⟩
  clear hC
  clear ng0 ng1 ng2 ng3 ng4
  clear nw0 nw1 nw2 nw3 nw4
  have zw10 := hb10.size
  replace nA := nA.below hb10
  replace nw := nw.below hb10
  replace nx := nx.below hb10
  replace ng := ng.below hb10
  replace hBw := hBw.trans (hb10.mono hBw.size)
  replace hB0 := hB0.trans (hb10.mono hB0.size)
  replace hIg := hIg.up (Up.ofBelow hb10)
  clear hb10
  have hC := markDisk_any _ D2 (w4b.heap.size) (w5.heap.size) 1 w10 hIg hf2 (by omega) (by omega)
  have ng0 : w10.cell? ⟨w5.heap.size, 0, none⟩ = some (.slice g1 D2.secs.length g2) := ng.cell 0
  have ng1 : w10.cell? ⟨w5.heap.size, 1, none⟩ = some (.slice g3 D2.cache.length g4) := ng.cell 1
  have ng2 : w10.cell? ⟨w5.heap.size, 2, none⟩ = some (.int .i64 D2.ops) := ng.cell 2
  have ng3 : w10.cell? ⟨w5.heap.size, 3, none⟩ = some (.slice g5 D2.faults.length g6) := ng.cell 3
  have ng4 : w10.cell? ⟨w5.heap.size, 4, none⟩ = some (.bool D2.down) := ng.cell 4
  go_wp2_with fail
  refine hC.mono ?_
  rintro e w11 ⟨rfl, hI, hO⟩
  clear hC
  clear ng0 ng1 ng2 ng3 ng4
  have zw11 := hO.size
  replace nA := nA.block (hO.block _ nA.lt (by omega))
  replace nw := nw.block (hO.block _ nw.lt (by omega))
  replace nx := nx.block (hO.block _ nx.lt (by omega))
  replace ng := ng.block (hO.block _ ng.lt (by omega))
  replace hBw := hBw.trans ((hO.below (by omega)).mono (by omega))
  replace hB0 := hB0.trans ((hO.below (by omega)).mono (by omega))
  clear hIg
  clear hO
  obtain ⟨kg, hkg⟩ := hidEx (1 + (szD D2 : Int))
  have hkgp : ¬ kg < 0 := by have := hkg.out; omega
  rw [hkg.out]
  have hIh := hI
  clear hI
  have hq : (kg != kg) = false := bne_self_eq_false _
  have hC := heldDisk_any _ D2 1 w11 hIh.own.view hf2 (by omega) (by omega)
  rw [hkg.out] at hC
  have ng0 : w11.cell? ⟨w5.heap.size, 0, none⟩ = some (.slice g1 D2.secs.length g2) := ng.cell 0
  have ng1 : w11.cell? ⟨w5.heap.size, 1, none⟩ = some (.slice g3 D2.cache.length g4) := ng.cell 1
  have ng2 : w11.cell? ⟨w5.heap.size, 2, none⟩ = some (.int .i64 D2.ops) := ng.cell 2
  have ng3 : w11.cell? ⟨w5.heap.size, 3, none⟩ = some (.slice g5 D2.faults.length g6) := ng.cell 3
  have ng4 : w11.cell? ⟨w5.heap.size, 4, none⟩ = some (.bool D2.down) := ng.cell 4
  go_wp2_with fail
  refine hC.mono ?_
  rintro e w12 ⟨rfl, hbw12⟩
  clear hC
  clear ng0 ng1 ng2 ng3 ng4
  have zw12 := hbw12.size
  replace nA := nA.below hbw12
  replace nw := nw.below hbw12
  replace nx := nx.below hbw12
  replace ng := ng.below hbw12
  replace hBw := hBw.trans (hbw12.mono hBw.size)
  replace hB0 := hB0.trans (hbw12.mono hB0.size)
  replace hIh := hIh.up (Up.ofBelow hbw12)
  clear hbw12
  have hC := toDisk_any _ D w12 (hv.below hBw) hf
  have nA0 : w12.cell? ⟨w.heap.size, 0, none⟩ = some (.slice sa D.secs.length sc) := nA.cell 0
  have nA1 : w12.cell? ⟨w.heap.size, 1, none⟩ = some (.slice ca D.cache.length cc) := nA.cell 1
  have nA2 : w12.cell? ⟨w.heap.size, 2, none⟩ = some (.int .i64 D.ops) := nA.cell 2
  have nA3 : w12.cell? ⟨w.heap.size, 3, none⟩ = some (.slice fa D.faults.length fc) := nA.cell 3
  have nA4 : w12.cell? ⟨w.heap.size, 4, none⟩ = some (.bool D.down) := nA.cell 4
  go_wp2_with fail
  refine hC.mono ?_
  rintro e w13 ⟨v13, rfl, hO13, hb13⟩
  clear hC
  clear nA0 nA1 nA2 nA3 nA4
  have zw13 := hb13.size
  replace nA := nA.below hb13
  replace nw := nw.below hb13
  replace nx := nx.below hb13
  replace ng := ng.below hb13
  replace hBw := hBw.trans (hb13.mono hBw.size)
  replace hB0 := hB0.trans (hb13.mono hB0.size)
  replace hIh := hIh.up (Up.ofBelow hb13)
  clear hb13
  have hC := toByteS_any ba l.length bc (bf l) w13 (HVB.out.below hBw) (by omega)
  go_wp2_with fail
  refine hC.mono ?_
  rintro e w13b ⟨rfl, hrb, hb13b, -⟩
  clear hC
  have hO13v := hO13.view.below hb13b
  clear hO13
  have zw13b := hb13b.size
  replace nA := nA.below hb13b
  replace nw := nw.below hb13b
  replace nx := nx.below hb13b
  replace ng := ng.below hb13b
  replace hBw := hBw.trans (hb13b.mono hBw.size)
  replace hB0 := hB0.trans (hb13b.mono hB0.size)
  replace hIh := hIh.up (Up.ofBelow hb13b)
  clear hb13b
  have hC := hP w13b v13 ⟨w13.heap.size, 0, none⟩ l.length hf hll hO13v ((Row.ofIs hrb).view (Nat.le_refl _) HBY.out)
  go_wp2_with fail
  refine hC.mono ?_
  rintro e w14 ⟨v14, rfl, hO14, hb14⟩
  clear hC hO13v hrb
  have zw14 := hb14.size
  replace nA := nA.below hb14
  replace nw := nw.below hb14
  replace nx := nx.below hb14
  replace ng := ng.below hb14
  replace hBw := hBw.trans (hb14.mono hBw.size)
  replace hB0 := hB0.trans (hb14.mono hB0.size)
  replace hIh := hIh.up (Up.ofBelow hb14)
  clear hb14
  have hVh : KView w14 v14 D2 := hO14.view
  obtain ⟨q1, q2, q3, q4, q5, q6, -, -, rfl, -⟩ := hO14
  unfold dval at hVh ⊢
  have hBh : Below w14.heap.size w14 w14 := Below.refl _ _
  have hbA : Below w14.heap.size w14 (w14.alloc (.cells #[.slice q1 D2.secs.length q2, .slice q3 D2.cache.length q4, .int .i64 D2.ops, .slice q5 D2.faults.length q6, .bool D2.down] 28)) := (Below.refl _ _).alloc (Nat.le_refl _) _
  have nh : VN (w14.alloc (.cells #[.slice q1 D2.secs.length q2, .slice q3 D2.cache.length q4, .int .i64 D2.ops, .slice q5 D2.faults.length q6, .bool D2.down] 28)) w14.heap.size 28 [.slice q1 D2.secs.length q2, .slice q3 D2.cache.length q4, .int .i64 D2.ops, .slice q5 D2.faults.length q6, .bool D2.down] := VN.new w14 28 [.slice q1 D2.secs.length q2, .slice q3 D2.cache.length q4, .int .i64 D2.ops, .slice q5 D2.faults.length q6, .bool D2.down]
  have zanh : (w14.alloc (.cells #[.slice q1 D2.secs.length q2, .slice q3 D2.cache.length q4, .int .i64 D2.ops, .slice q5 D2.faults.length q6, .bool D2.down] 28)).heap.size = w14.heap.size + 1 := by simp
  replace nA := nA.below hbA
  replace nw := nw.below hbA
  replace nx := nx.below hbA
  replace ng := ng.below hbA
  replace hBw := hBw.trans (hbA.mono hBw.size)
  replace hB0 := hB0.trans (hbA.mono hB0.size)
  replace hBh := hBh.trans (hbA.mono hBh.size)
  replace hIh := hIh.up (Up.ofBelow hbA)
  clear hbA
  have hC := eqDisk_same _ _ D2 (w14.alloc (.cells #[.slice q1 D2.secs.length q2, .slice q3 D2.cache.length q4, .int .i64 D2.ops, .slice q5 D2.faults.length q6, .bool D2.down] 28)) (hVh.below hBh) (hV0.below hB0) hf2
  have nh0 : (w14.alloc (.cells #[.slice q1 D2.secs.length q2, .slice q3 D2.cache.length q4, .int .i64 D2.ops, .slice q5 D2.faults.length q6, .bool D2.down] 28)).cell? ⟨w14.heap.size, 0, none⟩ = some (.slice q1 D2.secs.length q2) := nh.cell 0
  have nh1 : (w14.alloc (.cells #[.slice q1 D2.secs.length q2, .slice q3 D2.cache.length q4, .int .i64 D2.ops, .slice q5 D2.faults.length q6, .bool D2.down] 28)).cell? ⟨w14.heap.size, 1, none⟩ = some (.slice q3 D2.cache.length q4) := nh.cell 1
  have nh2 : (w14.alloc (.cells #[.slice q1 D2.secs.length q2, .slice q3 D2.cache.length q4, .int .i64 D2.ops, .slice q5 D2.faults.length q6, .bool D2.down] 28)).cell? ⟨w14.heap.size, 2, none⟩ = some (.int .i64 D2.ops) := nh.cell 2
  have nh3 : (w14.alloc (.cells #[.slice q1 D2.secs.length q2, .slice q3 D2.cache.length q4, .int .i64 D2.ops, .slice q5 D2.faults.length q6, .bool D2.down] 28)).cell? ⟨w14.heap.size, 3, none⟩ = some (.slice q5 D2.faults.length q6) := nh.cell 3
  have nh4 : (w14.alloc (.cells #[.slice q1 D2.secs.length q2, .slice q3 D2.cache.length q4, .int .i64 D2.ops, .slice q5 D2.faults.length q6, .bool D2.down] 28)).cell? ⟨w14.heap.size, 4, none⟩ = some (.bool D2.down) := nh.cell 4
  have nw0 : (w14.alloc (.cells #[.slice q1 D2.secs.length q2, .slice q3 D2.cache.length q4, .int .i64 D2.ops, .slice q5 D2.faults.length q6, .bool D2.down] 28)).cell? ⟨w3.heap.size, 0, none⟩ = some (.slice p1 D2.secs.length p2) := nw.cell 0
  have nw1 : (w14.alloc (.cells #[.slice q1 D2.secs.length q2, .slice q3 D2.cache.length q4, .int .i64 D2.ops, .slice q5 D2.faults.length q6, .bool D2.down] 28)).cell? ⟨w3.heap.size, 1, none⟩ = some (.slice p3 D2.cache.length p4) := nw.cell 1
  have nw2 : (w14.alloc (.cells #[.slice q1 D2.secs.length q2, .slice q3 D2.cache.length q4, .int .i64 D2.ops, .slice q5 D2.faults.length q6, .bool D2.down] 28)).cell? ⟨w3.heap.size, 2, none⟩ = some (.int .i64 D2.ops) := nw.cell 2
  have nw3 : (w14.alloc (.cells #[.slice q1 D2.secs.length q2, .slice q3 D2.cache.length q4, .int .i64 D2.ops, .slice q5 D2.faults.length q6, .bool D2.down] 28)).cell? ⟨w3.heap.size, 3, none⟩ = some (.slice p5 D2.faults.length p6) := nw.cell 3
  have nw4 : (w14.alloc (.cells #[.slice q1 D2.secs.length q2, .slice q3 D2.cache.length q4, .int .i64 D2.ops, .slice q5 D2.faults.length q6, .bool D2.down] 28)).cell? ⟨w3.heap.size, 4, none⟩ = some (.bool D2.down) := nw.cell 4
  go_wp2_with fail
  refine hC.mono ?_
  rintro e w15 ⟨rfl, hb15⟩
  clear hC
  clear nh0 nh1 nh2 nh3 nh4
  clear nw0 nw1 nw2 nw3 nw4
  have zw15 := hb15.size
  replace nA := nA.below hb15
  replace nw := nw.below hb15
  replace nx := nx.below hb15
  replace ng := ng.below hb15
  replace nh := nh.below hb15
  replace hBw := hBw.trans (hb15.mono hBw.size)
  replace hB0 := hB0.trans (hb15.mono hB0.size)
  replace hBh := hBh.trans (hb15.mono hBh.size)
  replace hIh := hIh.up (Up.ofBelow hb15)
  clear hb15
  have hC := heldDisk_any _ D2 1 w15 hIh.own.view hf2 (by omega) (by omega)
  rw [hkg.out] at hC
  have ng0 : w15.cell? ⟨w5.heap.size, 0, none⟩ = some (.slice g1 D2.secs.length g2) := ng.cell 0
  have ng1 : w15.cell? ⟨w5.heap.size, 1, none⟩ = some (.slice g3 D2.cache.length g4) := ng.cell 1
  have ng2 : w15.cell? ⟨w5.heap.size, 2, none⟩ = some (.int .i64 D2.ops) := ng.cell 2
  have ng3 : w15.cell? ⟨w5.heap.size, 3, none⟩ = some (.slice g5 D2.faults.length g6) := ng.cell 3
  have ng4 : w15.cell? ⟨w5.heap.size, 4, none⟩ = some (.bool D2.down) := ng.cell 4
  go_wp2_with fail
  refine hC.mono ?_
  rintro e w16 ⟨rfl, hbw16⟩
  clear hC
  clear ng0 ng1 ng2 ng3 ng4
  have zw16 := hbw16.size
  replace nA := nA.below hbw16
  replace nw := nw.below hbw16
  replace nx := nx.below hbw16
  replace ng := ng.below hbw16
  replace nh := nh.below hbw16
  replace hBw := hBw.trans (hbw16.mono hBw.size)
  replace hB0 := hB0.trans (hbw16.mono hB0.size)
  replace hBh := hBh.trans (hbw16.mono hBh.size)
  replace hIh := hIh.up (Up.ofBelow hbw16)
  clear hbw16
  have HB : Hid (Below w.heap.size w w16) := hBw
  clear nA nw nx ng nh hIh hB0 hBh hV0 hVh hv hBw
  go_wp2
  go_ret
  exact ⟨rfl, HB.out⟩
end Go.Proofs.Yteojgajpokkgiaa

/-
  What is left of a disk that is fine is fine.
-/
namespace Go.Proofs.Yteojgajpokkgiaa
open Go.RowKit
set_option maxRecDepth 4000

theorem settleL_mem {α : Type} : ∀ {l : List (Int × α)} {s : List α} {x : α}, x ∈ settleL s l → x ∈ s ∨ x ∈ l.map (·.2)
  | [], _, _, h => .inl h
  | y :: l, s, x, h => by
    rw [settleL] at h
    rcases settleL_mem h with h | h
    · rcases List.mem_or_eq_of_mem_set h with h | rfl
      · exact .inl h
      · exact .inr (by simp)
    · exact .inr (by simp only [List.map_cons, List.mem_cons]; exact .inr h)
theorem cutLast_mem {r : Nat} {l : List (Int × List Int)} {x : Int × List Int} (h : x ∈ cutLast (cutW r) l) : ∃ y ∈ l, x.2.length ≤ y.2.length := by
  rcases List.eq_nil_or_concat l with rfl | ⟨l0, y, rfl⟩
  · simp [cutLast_nil] at h
  · rw [List.concat_eq_append] at h ⊢
    rw [cutLast_app, List.mem_append] at h
    rcases h with h | h
    · exact ⟨x, List.mem_append_left _ h, Nat.le_refl _⟩
    · simp at h
      subst h
      exact ⟨y, by simp, by simp [cutW, List.length_take]; omega⟩
theorem loseD_fine {D : PDisk} (h : KFine D) (f : PFault) : KFine (loseD D f) := by
  refine ⟨?_, fun x hx => ?_, Nat.zero_le _, (fun x hx => by cases hx), h.nf⟩
  · show (settleL D.secs _).length ≤ _
    rw [settleL_len]; exact h.ns
  · rcases settleL_mem hx with hx | hx
    · exact h.sec x hx
    · obtain ⟨y, hy, rfl⟩ := List.mem_map.1 hx
      obtain ⟨z, hz, hl⟩ := cutLast_mem hy
      have := h.cache z (keptG_mem hz)
      omega
theorem calmD_fine {D : PDisk} (h : KFine D) : KFine (calmD D) := by
  refine ⟨?_, fun x hx => ?_, Nat.zero_le _, (fun x hx => by cases hx), h.nf⟩
  · show (settleL D.secs _).length ≤ _
    rw [settleL_len]; exact h.ns
  · rcases settleL_mem hx with hx | hx
    · exact h.sec x hx
    · obtain ⟨y, hy, rfl⟩ := List.mem_map.1 hx
      exact h.cache y hy
end Go.Proofs.Yteojgajpokkgiaa

/-
  The law FnExactWriteSec.
-/
namespace Go.Proofs.Yteojgajpokkgiaa
open Go.RowKit
set_option maxRecDepth 4000

theorem moreD_fine {D : PDisk} (h : KFine D) {n : Int} {l : List Int} (hl : l.length ≤ 256) (hc : D.cache.length < 60) : KFine (moreD D n l) := by
  refine ⟨h.ns, h.sec, ?_, fun x hx => ?_, h.nf⟩
  · show (D.cache ++ [(n, l)]).length ≤ 1048576
    simp; omega
  · have hx' : x ∈ D.cache ++ [(n, l)] := hx
    rcases List.mem_append.1 hx' with hx | hx
    · exact h.cache x hx
    · simp at hx; subst hx; show l.length ≤ _; omega
theorem writeD_fine {D : PDisk} (h : KFine D) {n : Int} {l : List Int} : KFine (writeD D n l).1 := by
  unfold writeD
  split
  · rename_i hm
    have h1 := moreD_fine h (n := n) hm.2.2.1 hm.2.2.2
    unfold writeF
    split
    · exact h
    · split
      · exact loseD_fine h1 _
      · exact h1
  · exact h
theorem lawWriteSec (v : Value) (D : PDisk) (n : Int) (ba : Option Addr) (bc : Nat) (l : List Int) (w : World) (h : KView w v D) (hm : KLim D) (hv : View w ba l.length bc (bf l)) (hl : l.length ≤ 9223372036854775807) :
    Calls Try.prog 7 #[v, .int .i64 n, .slice ba l.length bc] w fun e w' => e = .returned (.bool true) ∧ Below w.heap.size w w' :=
  lawWriteSecOf v D (writeD D n l).1 n ba bc l (writeD D n l).2 w h hm hv hl (fun W u a c hf hl hu hb => specWrite_any u D n (some a) c l W hu hf hb (fun e => by cases e) hl) (fun W u a c hf hl hu hb => implWrite_any u D n (some a) c l W hu hf hb (fun e => by cases e) hl) (fun hf _ => writeD_fine hf)
/-- The same of bytes by a function of the place. -/
theorem lawWriteSec' (v : Value) (D : PDisk) (n : Int) (ba : Option Addr) (m bc : Nat) (f : Nat → Int) (w : World) (h : KView w v D) (hm : KLim D) (hv : View w ba m bc f) (hl : m ≤ 9223372036854775807) :
    Calls Try.prog 7 #[v, .int .i64 n, .slice ba m bc] w fun e w' => e = .returned (.bool true) ∧ Below w.heap.size w w' := by
  have hL := lof_len m f
  have hb : View w ba (lof m f).length bc (bf (lof m f)) := by rw [hL]; exact hv.congr (fun i hi => (lof_get m f i hi).symm)
  have := lawWriteSec v D n ba bc (lof m f) w h hm hb (by rw [hL]; exact hl)
  rw [hL] at this
  exact this
end Go.Proofs.Yteojgajpokkgiaa

/-
  What the frame of a row hands over of a disk, and of faults, that came in.
-/
namespace Go.Proofs.Yteojgajpokkgiaa
open Go.RowKit
set_option maxRecDepth 4000
open Go.Deep Go.ChangeShapes Go.WideShapes

/-- A slice that came in, whose elements are each read, as a list. -/
theorem sliceInL {H : Type} {enc : TypeId × Value → H} {W : World} {sp : Nat → Bool} {α : Type} [Inhabited α] {T e : TypeId} {c fuel : Nat} {cs : List Value} {x : DataW H × List MemPlace}
    (ht : Try.prog.underlying T = some (.slice e)) (hc : Try.prog.cellsOf e = c) (hc0 : 0 < c) (Q : Addr → α → Prop)
    (each : ∀ (fuel : Nat) (cs : List Value) (x : DataW H × List MemPlace) (a : Addr), cs.length = c → (∀ j, j < c → W.cell? (a.add j) = cs[j]?) → DataW.trod enc Try.prog W 0 sp true fuel e cs = some x → ∃ y, Q a y)
    (h : DataW.trod enc Try.prog W 0 sp true fuel T cs = some x) :
    ∃ (ao : Option Addr) (cap : Nat) (l : List α), cs = [.slice ao l.length cap] ∧ l.length ≤ cap ∧ cap ≤ maxLen ∧ (ao = none → cap = 0) ∧ (0 < l.length → ∃ b off, ao = some ⟨b, off, none⟩ ∧ b < W.heap.size ∧ ∀ i y, l[i]? = some y → Q ⟨b, off + i * c, none⟩ y) := by
  rcases DataW.trod_slice ht h with ⟨hcs, _⟩ | ⟨a, l, cap, elems, rest, n, _, hcs, _, _, hl, hm, hlen, hel, _, _⟩
  · exact ⟨none, 0, [], hcs, Nat.le_refl _, Nat.zero_le _, fun _ => rfl, fun h => absurd h (Nat.lt_irrefl _)⟩
  · have key : ∀ i, i < l → ∃ y, Q (a.add (i * c)) y ∧ W.cell? (a.add (i * c)) ≠ none := by
      intro i hi
      have h1 := hel i hi
      rw [hc] at h1
      have h2 : elems[i]? = some elems[i] := List.getElem?_eq_getElem (by omega)
      rw [h2] at h1
      obtain ⟨cs, hcs, htr⟩ := Option.bind_eq_some_iff.1 h1
      obtain ⟨_, hl3, hcell⟩ := World.cells?_some hcs
      obtain ⟨y, hy⟩ := each n cs _ _ hl3 (fun j hj => hcell j hj) htr
      refine ⟨y, hy, ?_⟩
      have := hcell 0 (by omega)
      intro hn
      rw [show (a.add (i * c)).add 0 = a.add (i * c) by unfold Addr.add; split <;> simp_all, hn, List.getElem?_eq_getElem (by omega)] at this
      cases this
    have pick : ∃ f : Nat → α, ∀ i, i < l → Q (a.add (i * c)) (f i) := ⟨fun i => if h : i < l then (key i h).choose else default, fun i hi => by simp only [dif_pos hi]; exact (key i hi).choose_spec.1⟩
    obtain ⟨f, hf⟩ := pick
    have ll : ((List.range l).map f).length = l := by simp
    refine ⟨some a, cap, (List.range l).map f, by rw [ll]; exact hcs, by rw [ll]; exact hl, hm, (fun e => by cases e), fun hn => ?_⟩
    rw [ll] at hn
    obtain ⟨b, off, spot⟩ := a
    obtain ⟨y0, -, h0⟩ := key 0 hn
    obtain ⟨u, hu⟩ := Option.ne_none_iff_exists'.1 h0
    have hs : spot = none := by simpa [Addr.add] using World.cell?_spot hu
    subst hs
    have ea : ∀ j, (⟨b, off, none⟩ : Addr).add j = ⟨b, off + j, none⟩ := fun j => by unfold Addr.add; split <;> simp_all
    rw [ea] at hu
    refine ⟨b, off, rfl, World.block_lt_of_cell? _ _ hu, fun i y hi => ?_⟩
    obtain ⟨hi', e⟩ := List.getElem?_eq_some_iff.1 hi
    rw [ll] at hi'
    have hq := hf i hi'
    rw [ea] at hq
    simp at e
    rw [← e]
    exact hq
theorem addrAdd (b off j : Nat) : (⟨b, off, none⟩ : Addr).add j = ⟨b, off + j, none⟩ := by unfold Addr.add; split <;> simp_all
/-- Bytes that came in, as a cell. -/
theorem bytesIn {H : Type} {enc : TypeId × Value → H} {W : World} {sp : Nat → Bool} {fuel : Nat} {cs : List Value} {x : DataW H × List MemPlace}
    (h : DataW.trod enc Try.prog W 0 sp true fuel 22 cs = some x) : ∃ (v : Value) (l : List Int), cs = [v] ∧ LV W v l ∧ l.length ≤ maxLen := by
  have c1 : Try.prog.cellsOf 5 = 1 := by kernel_rfl
  obtain ⟨a, cap, l, e, hl, hm, hn, hv⟩ := sliceInL (α := Int) Try.underlying22 c1 (by decide) (fun a y => W.cell? (a.add 0) = some (.int .u8 y) ∧ 0 ≤ y ∧ y ≤ 255) (by
    intro fuel cs x a hl hcell htr
    match cs, hl with
    | [c0], _ =>
      obtain ⟨k, e0, _, hk⟩ := DataW.trod_int Try.underlying5 htr
      simp only [List.cons.injEq, and_true] at e0
      subst e0
      have hw : 0 ≤ k ∧ k ≤ 255 := by
        have := range_u8 (zs := [k]) (by intro n hn; simp at hn; subst hn; exact hk) 0
        simpa using this
      exact ⟨k, hcell 0 (by decide), hw⟩) h
  refine ⟨_, l, e, ⟨a, cap, rfl, ⟨hl, fun i hi => ?_, fun hp => ?_⟩, hn⟩, Nat.le_trans hl hm⟩
  · obtain ⟨b, off, ea, hlt, hc⟩ := hv (by omega)
    have := (hc i l[i] (List.getElem?_eq_getElem hi)).2
    have e : bf l i = l[i] := by simp [bf, hi]
    rw [e]; exact this
  · obtain ⟨b, off, ea, hlt, hc⟩ := hv hp
    refine ⟨b, off, ea, hlt, fun i hi => ?_⟩
    have := (hc i l[i] (List.getElem?_eq_getElem hi)).1
    have e : bf l i = l[i] := by simp [bf, hi]
    rw [e]
    simpa only [addrAdd, Nat.add_zero, Nat.mul_one] using this
theorem secsIn {H : Type} {enc : TypeId × Value → H} {W : World} {sp : Nat → Bool} {fuel : Nat} {cs : List Value} {x : DataW H × List MemPlace}
    (h : DataW.trod enc Try.prog W 0 sp true fuel 24 cs = some x) : ∃ a cap l, cs = [.slice a l.length cap] ∧ SView W a cap l ∧ l.length ≤ maxLen ∧ ∀ i (h : i < l.length), (l[i]).length ≤ maxLen := by
  have c1 : Try.prog.cellsOf 22 = 1 := by kernel_rfl
  obtain ⟨a, cap, l, e, hl, hm, hn, hv⟩ := sliceInL (α := List Int) Try.underlying24 c1 (by decide) (fun a y => (∃ u, W.cell? (a.add 0) = some u ∧ LV W u y) ∧ y.length ≤ maxLen) (by
    intro fuel cs x a hl hcell htr
    obtain ⟨v, y, rfl, hy, hm⟩ := bytesIn htr
    exact ⟨y, ⟨v, hcell 0 (by decide), hy⟩, hm⟩) h
  refine ⟨a, cap, l, e, ⟨hl, hn, fun hp => ?_⟩, Nat.le_trans hl hm, fun i hi => ?_⟩
  · obtain ⟨b, off, ea, hlt, hc⟩ := hv hp
    refine ⟨b, off, ea, hlt, fun i y hi => ?_⟩
    obtain ⟨⟨u, hu, hy⟩, -⟩ := hc i y hi
    refine ⟨[u], ⟨u, rfl, hy⟩, fun j v hj => ?_⟩
    match j, hj with
    | 0, hj => cases hj; simpa only [addrAdd, Nat.add_zero] using hu
  · obtain ⟨b, off, ea, hlt, hc⟩ := hv (by omega)
    exact (hc i _ (List.getElem?_eq_getElem hi)).2
theorem writesIn {H : Type} {enc : TypeId × Value → H} {W : World} {sp : Nat → Bool} {fuel : Nat} {cs : List Value} {x : DataW H × List MemPlace}
    (h : DataW.trod enc Try.prog W 0 sp true fuel 54 cs = some x) : ∃ a cap l, cs = [.slice a l.length cap] ∧ WView W a cap l ∧ l.length ≤ maxLen ∧ ∀ i (h : i < l.length), (l[i]).2.length ≤ maxLen := by
  have c1 : Try.prog.cellsOf 125 = 2 := by kernel_rfl
  obtain ⟨a, cap, l, e, hl, hm, hn, hv⟩ := sliceInL (α := Int × List Int) Try.underlying54 c1 (by decide) (fun a y => (W.cell? (a.add 0) = some (.int .i64 y.1) ∧ ∃ u, W.cell? (a.add 1) = some u ∧ LV W u y.2) ∧ y.2.length ≤ maxLen) (by
    intro fuel cs x a hl hcell htr
    obtain ⟨y0, y1, m, _, _, t0, t1⟩ := trod_struct2 Try.underlying125 htr
    have o1 : Try.prog.cellsOf 3 = 1 := by kernel_rfl
    have o2 : Try.prog.cellsOf 22 = 1 := by kernel_rfl
    simp only [o1, o2] at t0 t1
    match cs, hl with
    | [c0, c1], _ =>
      simp only [List.drop_zero, List.drop_succ_cons, List.take_succ_cons, List.take_zero] at t0 t1
      obtain ⟨k, e0, _, _⟩ := DataW.trod_int Try.underlying3 t0
      obtain ⟨v, y, e1, hy, hm⟩ := bytesIn t1
      simp only [List.cons.injEq, and_true] at e0 e1
      subst e0 e1
      exact ⟨(k, y), ⟨hcell 0 (by decide), _, hcell 1 (by decide), hy⟩, hm⟩) h
  refine ⟨a, cap, l, e, ⟨hl, hn, fun hp => ?_⟩, Nat.le_trans hl hm, fun i hi => ?_⟩
  · obtain ⟨b, off, ea, hlt, hc⟩ := hv hp
    refine ⟨b, off, ea, hlt, fun i y hi => ?_⟩
    obtain ⟨⟨h0, u, hu, hy⟩, -⟩ := hc i y hi
    refine ⟨[.int .i64 y.1, u], ⟨u, rfl, hy⟩, fun j v hj => ?_⟩
    match j, hj with
    | 0, hj => cases hj; simpa only [addrAdd, Nat.add_zero] using h0
    | 1, hj => cases hj; simpa only [addrAdd, Nat.add_zero] using hu
  · obtain ⟨b, off, ea, hlt, hc⟩ := hv (by omega)
    exact (hc i _ (List.getElem?_eq_getElem hi)).2
instance : Inhabited PFault := ⟨⟨0, 0, 0⟩⟩
theorem faultsIn {H : Type} {enc : TypeId × Value → H} {W : World} {sp : Nat → Bool} {fuel : Nat} {cs : List Value} {x : DataW H × List MemPlace}
    (h : DataW.trod enc Try.prog W 0 sp true fuel 55 cs = some x) : ∃ a cap l, cs = [.slice a l.length cap] ∧ FView W a cap l ∧ l.length ≤ maxLen := by
  have c1 : Try.prog.cellsOf 128 = 3 := by kernel_rfl
  obtain ⟨a, cap, l, e, hl, hm, hn, hv⟩ := sliceInL (α := PFault) Try.underlying55 c1 (by decide) (fun a y => W.cell? (a.add 0) = some (.int .i64 y.pos) ∧ W.cell? (a.add 1) = some (.int .i64 y.keep) ∧ W.cell? (a.add 2) = some (.int .i64 y.cut)) (by
    intro fuel cs x a hl hcell htr
    obtain ⟨y0, y1, y2, m, _, _, t0, t1, t2⟩ := trod_struct3 Try.underlying128 htr
    have o1 : Try.prog.cellsOf 3 = 1 := by kernel_rfl
    simp only [o1] at t0 t1 t2
    match cs, hl with
    | [c0, c1, c2], _ =>
      simp only [List.drop_zero, List.drop_succ_cons, List.take_succ_cons, List.take_zero] at t0 t1 t2
      obtain ⟨k0, e0, _, _⟩ := DataW.trod_int Try.underlying3 t0
      obtain ⟨k1, e1, _, _⟩ := DataW.trod_int Try.underlying3 t1
      obtain ⟨k2, e2, _, _⟩ := DataW.trod_int Try.underlying3 t2
      simp only [List.cons.injEq, and_true] at e0 e1 e2
      subst e0 e1 e2
      exact ⟨⟨k0, k1, k2⟩, hcell 0 (by decide), hcell 1 (by decide), hcell 2 (by decide)⟩) h
  refine ⟨a, cap, l, e, ⟨hl, hn, fun hp => ?_⟩, Nat.le_trans hl hm⟩
  obtain ⟨b, off, ea, hlt, hc⟩ := hv hp
  refine ⟨b, off, ea, hlt, fun i y hi => ?_⟩
  obtain ⟨h0, h1, h2⟩ := hc i y hi
  refine ⟨_, rfl, fun j v hj => ?_⟩
  match j, hj with
  | 0, hj => cases hj; simpa only [addrAdd, Nat.add_zero] using h0
  | 1, hj => cases hj; simpa only [addrAdd, Nat.add_zero] using h1
  | 2, hj => cases hj; simpa only [addrAdd, Nat.add_zero] using h2
/-- The five cells of a disk that came in. -/
theorem diskIn {H : Type} {enc : TypeId × Value → H} {W : World} {sp : Nat → Bool} {n0 n1 n2 n3 n4 : Nat} {c0 c1 c2 c3 c4 : Value} {y0 y1 y2 y3 y4 : DataW H × List MemPlace}
    (h0 : DataW.trod enc Try.prog W 0 sp true n0 24 [c0] = some y0) (h1 : DataW.trod enc Try.prog W 0 sp true n1 54 [c1] = some y1)
    (h2 : DataW.trod enc Try.prog W 0 sp true n2 3 [c2] = some y2) (h3 : DataW.trod enc Try.prog W 0 sp true n3 55 [c3] = some y3) (h4 : DataW.trod enc Try.prog W 0 sp true n4 4 [c4] = some y4) :
    ∃ D : PDisk, KView W (.agg #[c0, c1, c2, c3, c4]) D ∧ KLim D := by
  obtain ⟨sa, sc, ls, e0, v0, m0, z0⟩ := secsIn h0
  obtain ⟨ca, cc, lc, e1, v1, m1, z1⟩ := writesIn h1
  obtain ⟨k, e2, _, _⟩ := DataW.trod_int Try.underlying3 h2
  obtain ⟨fa, fc, lf, e3, v3, m3⟩ := faultsIn h3
  obtain ⟨z, e4, _⟩ := DataW.trod_bool Try.underlying4 h4
  simp only [List.cons.injEq, and_true] at e0 e1 e2 e3 e4
  subst e0 e1 e2 e3 e4
  exact ⟨⟨ls, lc, k, lf, z⟩, ⟨sa, sc, ca, cc, fa, fc, rfl, v0, v1, v3⟩, ⟨m0, z0, m1, z1, m3⟩⟩
theorem array5 {α : Type} {cs : Array α} (h : cs.size = 5) : ∃ c0 c1 c2 c3 c4, cs = #[c0, c1, c2, c3, c4] := by
  obtain ⟨l⟩ := cs
  match l, h with
  | [c0, c1, c2, c3, c4], _ => exact ⟨c0, c1, c2, c3, c4, rfl⟩
/-- A struct of five fields of one cell each, opened. -/
theorem openFive {H : Type} {enc : TypeId × Value → H} {w : World} {base : Nat} {spare : Nat → Bool} {held : Bool} {r : Reach} {b0 : Nat} {t : TypeId} {f0 f1 f2 f3 f4 : Field} {v : Value} {d : DataW H} {p : List MemPlace} (hs : Try.prog.underlying t = some (.struct #[f0, f1, f2, f3, f4])) (hone : oneCellFields Try.prog #[f0, f1, f2, f3, f4] = true) (hC : Try.prog.cellsOf t = 5)
    (hv : Value.okWide Try.prog w r b0 t v) (h : DataW.Trod enc Try.prog w base spare held t v d p) :
    ∃ (v0 v1 v2 v3 v4 : Value) (y0 y1 y2 y3 y4 : DataW H × List MemPlace) (n : Nat), v = .agg #[v0, v1, v2, v3, v4] ∧ d = .agg [y0.1, y1.1, y2.1, y3.1, y4.1] ∧ p = y0.2 ++ (y1.2 ++ (y2.2 ++ (y3.2 ++ y4.2))) ∧
      DataW.trod enc Try.prog w base spare held n f0.type [v0] = some y0 ∧ DataW.trod enc Try.prog w base spare held n f1.type [v1] = some y1 ∧ DataW.trod enc Try.prog w base spare held n f2.type [v2] = some y2 ∧ DataW.trod enc Try.prog w base spare held n f3.type [v3] = some y3 ∧ DataW.trod enc Try.prog w base spare held n f4.type [v4] = some y4 := by
  obtain ⟨cs, rfl, hsz⟩ := okWide_struct hs hv
  obtain ⟨c0, c1, c2, c3, c4, rfl⟩ := array5 (hsz.trans hC)
  obtain ⟨fuel, hf⟩ := h
  obtain ⟨xs, n, _, hx, hl, hlen, hfs⟩ := DataW.trod_struct hs hf
  match xs, hlen, hx, hfs with
  | [y0, y1, y2, y3, y4], _, hx, hfs =>
    have h0 := hfs 0 f0 rfl
    have h1 := hfs 1 f1 rfl
    have h2 := hfs 2 f2 rfl
    have h3 := hfs 3 f3 rfl
    have h4 := hfs 4 f4 rfl
    obtain ⟨o0, k0⟩ := hone_of hone 0 f0 rfl
    obtain ⟨o1, k1⟩ := hone_of hone 1 f1 rfl
    obtain ⟨o2, k2⟩ := hone_of hone 2 f2 rfl
    obtain ⟨o3, k3⟩ := hone_of hone 3 f3 rfl
    obtain ⟨o4, k4⟩ := hone_of hone 4 f4 rfl
    simp only [Prod.mk.injEq] at hx
    exact ⟨c0, c1, c2, c3, c4, y0, y1, y2, y3, y4, n, rfl, by simpa using hx.1, by simpa using hx.2, by simpa [Value.cells, o0, k0] using h0, by simpa [Value.cells, o1, k1] using h1, by simpa [Value.cells, o2, k2] using h2, by simpa [Value.cells, o3, k3] using h3, by simpa [Value.cells, o4, k4] using h4⟩
end Go.Proofs.Yteojgajpokkgiaa

