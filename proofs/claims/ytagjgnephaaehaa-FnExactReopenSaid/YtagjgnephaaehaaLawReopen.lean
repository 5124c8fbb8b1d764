/-
  The law FnExactReopen, walked.
-/
import Derived.Test.YtagjgnephaaehaaDiskAgain
import Derived.Test.YtagjgnephaaehaaDiskSize2
import Derived.Test.YtagjgnephaaehaaDiskCopy3
import Derived.Test.YtagjgnephaaehaaDiskEq
import Derived.Test.YtagjgnephaaehaaDiskMark4
import Derived.Deep.RegionHeld3
namespace Go.Proofs.Ytagjgnephaaehaa
open Go.RowKit
set_option maxRecDepth 4000

theorem Up.mono {B B' : Nat} {w w' : World} (h : Up B w w') (hB : B ≤ B') : Up B' w w' := ⟨h.1, fun k hk hl => h.2 k (Nat.le_trans hB hk) hl⟩
set_option maxHeartbeats 16000000 in
theorem lawReopen (v : Value) (D : PDisk) (w : World) (h : KView w v D) (hm : KLim D) :
    Calls Try.prog 5 #[v] w fun e w' => e = .returned (.bool true) ∧ Below w.heap.size w w' := by
  have hv := h
  obtain ⟨sa, sc, ca, cc, fa, fc, rfl, -, -, -⟩ := h.is
  clear h
  have hBw : Below w.heap.size w (w.alloc (.cells #[.slice sa D.secs.length sc, .slice ca D.cache.length cc, .int .i64 D.ops, .slice fa D.faults.length fc, .bool D.down] 26)) := (Below.refl _ _).alloc (Nat.le_refl _) _
  have nA : VN (w.alloc (.cells #[.slice sa D.secs.length sc, .slice ca D.cache.length cc, .int .i64 D.ops, .slice fa D.faults.length fc, .bool D.down] 26)) w.heap.size 26 [.slice sa D.secs.length sc, .slice ca D.cache.length cc, .int .i64 D.ops, .slice fa D.faults.length fc, .bool D.down] := VN.new w 26 [.slice sa D.secs.length sc, .slice ca D.cache.length cc, .int .i64 D.ops, .slice fa D.faults.length fc, .bool D.down]
  have zA : (w.alloc (.cells #[.slice sa D.secs.length sc, .slice ca D.cache.length cc, .int .i64 D.ops, .slice fa D.faults.length fc, .bool D.down] 26)).heap.size = w.heap.size + 1 := by simp
  have hZ := szDisk_fine _ D 1048576 _ (hv.below hBw) hm (by omega) (by omega)
  clear hm
  go_enter Try.func5, Try.ntmps5
  go_wp2_with fail
  refine hZ.mono ?_
  rintro e w1 ⟨L, rfl, hb1, hL⟩
  clear hZ
  have zw1 := hb1.size
  replace nA := nA.below hb1
  replace hBw := hBw.trans (hb1.mono hBw.size)
  rcases hL with rfl | ⟨hL0, hL1, hf⟩
  · have HB : Hid (Below w.heap.size w w1) := hBw
    clear hv nA hBw hb1
    go_wp2
    go_ret
    exact ⟨rfl, HB.out⟩
  have hLn : ¬ L < 0 := by omega
  obtain ⟨D2, hD2⟩ := hidEx ({ D with down := false } : PDisk)
  have hf2 : KFine D2 := by rw [← hD2.out]; exact ⟨hf.ns, hf.sec, hf.nc, hf.cache, hf.nf⟩
  clear hb1
  have hC := toDisk_any _ D w1 (hv.below hBw) hf
  have nA0 : w1.cell? ⟨w.heap.size, 0, none⟩ = some (.slice sa D.secs.length sc) := nA.cell 0
  have nA1 : w1.cell? ⟨w.heap.size, 1, none⟩ = some (.slice ca D.cache.length cc) := nA.cell 1
  have nA2 : w1.cell? ⟨w.heap.size, 2, none⟩ = some (.int .i64 D.ops) := nA.cell 2
  have nA3 : w1.cell? ⟨w.heap.size, 3, none⟩ = some (.slice fa D.faults.length fc) := nA.cell 3
  have nA4 : w1.cell? ⟨w.heap.size, 4, none⟩ = some (.bool D.down) := nA.cell 4
  go_wp2_with fail
  refine hC.mono ?_
  rintro e w2 ⟨v2, rfl, hO2, hb2⟩
  clear hC
  clear nA0 nA1 nA2 nA3 nA4
  have zw2 := hb2.size
  replace nA := nA.below hb2
  replace hBw := hBw.trans (hb2.mono hBw.size)
  clear hb2
  have hC := specReopen_any v2 D w2 hO2.view hf
  rw [hD2.out] at hC
  go_wp2_with fail
  refine hC.mono ?_
  rintro e w3 ⟨v3, rfl, hO3, hb3⟩
  clear hC hO2
  have zw3 := hb3.size
  replace nA := nA.below hb3
  replace hBw := hBw.trans (hb3.mono hBw.size)
  clear hb3
  have hV0 : KView w3 v3 D2 := hO3.view
  obtain ⟨p1, p2, p3, p4, p5, p6, -, -, rfl, -⟩ := hO3
  unfold dval at hV0 ⊢
  have hB0 : Below w3.heap.size w3 w3 := Below.refl _ _
  have hbA : Below w3.heap.size w3 (w3.alloc (.cells #[.slice p1 D2.secs.length p2, .slice p3 D2.cache.length p4, .int .i64 D2.ops, .slice p5 D2.faults.length p6, .bool D2.down] 31)) := (Below.refl _ _).alloc (Nat.le_refl _) _
  have nw : VN (w3.alloc (.cells #[.slice p1 D2.secs.length p2, .slice p3 D2.cache.length p4, .int .i64 D2.ops, .slice p5 D2.faults.length p6, .bool D2.down] 31)) w3.heap.size 31 [.slice p1 D2.secs.length p2, .slice p3 D2.cache.length p4, .int .i64 D2.ops, .slice p5 D2.faults.length p6, .bool D2.down] := VN.new w3 31 [.slice p1 D2.secs.length p2, .slice p3 D2.cache.length p4, .int .i64 D2.ops, .slice p5 D2.faults.length p6, .bool D2.down]
  have zanw : (w3.alloc (.cells #[.slice p1 D2.secs.length p2, .slice p3 D2.cache.length p4, .int .i64 D2.ops, .slice p5 D2.faults.length p6, .bool D2.down] 31)).heap.size = w3.heap.size + 1 := by simp
  replace nA := nA.below hbA
  replace hBw := hBw.trans (hbA.mono hBw.size)
  replace hB0 := hB0.trans (hbA.mono hB0.size)
  clear hbA
  have hC := toDisk_any _ D (w3.alloc (.cells #[.slice p1 D2.secs.length p2, .slice p3 D2.cache.length p4, .int .i64 D2.ops, .slice p5 D2.faults.length p6, .bool D2.down] 31)) (hv.below hBw) hf
  have nA0 : (w3.alloc (.cells #[.slice p1 D2.secs.length p2, .slice p3 D2.cache.length p4, .int .i64 D2.ops, .slice p5 D2.faults.length p6, .bool D2.down] 31)).cell? ⟨w.heap.size, 0, none⟩ = some (.slice sa D.secs.length sc) := nA.cell 0
  have nA1 : (w3.alloc (.cells #[.slice p1 D2.secs.length p2, .slice p3 D2.cache.length p4, .int .i64 D2.ops, .slice p5 D2.faults.length p6, .bool D2.down] 31)).cell? ⟨w.heap.size, 1, none⟩ = some (.slice ca D.cache.length cc) := nA.cell 1
  have nA2 : (w3.alloc (.cells #[.slice p1 D2.secs.length p2, .slice p3 D2.cache.length p4, .int .i64 D2.ops, .slice p5 D2.faults.length p6, .bool D2.down] 31)).cell? ⟨w.heap.size, 2, none⟩ = some (.int .i64 D.ops) := nA.cell 2
  have nA3 : (w3.alloc (.cells #[.slice p1 D2.secs.length p2, .slice p3 D2.cache.length p4, .int .i64 D2.ops, .slice p5 D2.faults.length p6, .bool D2.down] 31)).cell? ⟨w.heap.size, 3, none⟩ = some (.slice fa D.faults.length fc) := nA.cell 3
  have nA4 : (w3.alloc (.cells #[.slice p1 D2.secs.length p2, .slice p3 D2.cache.length p4, .int .i64 D2.ops, .slice p5 D2.faults.length p6, .bool D2.down] 31)).cell? ⟨w.heap.size, 4, none⟩ = some (.bool D.down) := nA.cell 4
  go_wp2_with fail
  refine hC.mono ?_
  rintro e w4 ⟨v4, rfl, hO4, hb4⟩
  clear hC
  clear nA0 nA1 nA2 nA3 nA4
  have zw4 := hb4.size
  replace nA := nA.below hb4
  replace nw := nw.below hb4
  replace hBw := hBw.trans (hb4.mono hBw.size)
  replace hB0 := hB0.trans (hb4.mono hB0.size)
  clear hb4
  have hIx := hO4.kin
  clear hO4
  rw [zanw] at hIx zw4
  have hVx := hIx.own.view
  obtain ⟨x1, x2, x3, x4, x5, x6, cx1, cx2, ex, -⟩ := id hIx
  subst ex
  unfold dval at hIx hVx ⊢
  have hBx : Below w4.heap.size w4 w4 := Below.refl _ _
  have hbA : Below w4.heap.size w4 (w4.alloc (.cells #[.slice x1 D.secs.length x2, .slice x3 D.cache.length x4, .int .i64 D.ops, .slice x5 D.faults.length x6, .bool D.down] 31)) := (Below.refl _ _).alloc (Nat.le_refl _) _
  have nx : VN (w4.alloc (.cells #[.slice x1 D.secs.length x2, .slice x3 D.cache.length x4, .int .i64 D.ops, .slice x5 D.faults.length x6, .bool D.down] 31)) w4.heap.size 31 [.slice x1 D.secs.length x2, .slice x3 D.cache.length x4, .int .i64 D.ops, .slice x5 D.faults.length x6, .bool D.down] := VN.new w4 31 [.slice x1 D.secs.length x2, .slice x3 D.cache.length x4, .int .i64 D.ops, .slice x5 D.faults.length x6, .bool D.down]
  have zanx : (w4.alloc (.cells #[.slice x1 D.secs.length x2, .slice x3 D.cache.length x4, .int .i64 D.ops, .slice x5 D.faults.length x6, .bool D.down] 31)).heap.size = w4.heap.size + 1 := by simp
  replace nA := nA.below hbA
  replace nw := nw.below hbA
  replace hBw := hBw.trans (hbA.mono hBw.size)
  replace hB0 := hB0.trans (hbA.mono hB0.size)
  replace hBx := hBx.trans (hbA.mono hBx.size)
  replace hIx := hIx.up (Up.ofBelow hbA)
  clear hbA
  have hC := implReopen_any _ D (w4.alloc (.cells #[.slice x1 D.secs.length x2, .slice x3 D.cache.length x4, .int .i64 D.ops, .slice x5 D.faults.length x6, .bool D.down] 31)) (hVx.below hBx) hf
  rw [hD2.out] at hC
  have nx0 : (w4.alloc (.cells #[.slice x1 D.secs.length x2, .slice x3 D.cache.length x4, .int .i64 D.ops, .slice x5 D.faults.length x6, .bool D.down] 31)).cell? ⟨w4.heap.size, 0, none⟩ = some (.slice x1 D.secs.length x2) := nx.cell 0
  have nx1 : (w4.alloc (.cells #[.slice x1 D.secs.length x2, .slice x3 D.cache.length x4, .int .i64 D.ops, .slice x5 D.faults.length x6, .bool D.down] 31)).cell? ⟨w4.heap.size, 1, none⟩ = some (.slice x3 D.cache.length x4) := nx.cell 1
  have nx2 : (w4.alloc (.cells #[.slice x1 D.secs.length x2, .slice x3 D.cache.length x4, .int .i64 D.ops, .slice x5 D.faults.length x6, .bool D.down] 31)).cell? ⟨w4.heap.size, 2, none⟩ = some (.int .i64 D.ops) := nx.cell 2
  have nx3 : (w4.alloc (.cells #[.slice x1 D.secs.length x2, .slice x3 D.cache.length x4, .int .i64 D.ops, .slice x5 D.faults.length x6, .bool D.down] 31)).cell? ⟨w4.heap.size, 3, none⟩ = some (.slice x5 D.faults.length x6) := nx.cell 3
  have nx4 : (w4.alloc (.cells #[.slice x1 D.secs.length x2, .slice x3 D.cache.length x4, .int .i64 D.ops, .slice x5 D.faults.length x6, .bool D.down] 31)).cell? ⟨w4.heap.size, 4, none⟩ = some (.bool D.down) := nx.cell 4
  go_wp2_with fail
  refine hC.mono ?_
  rintro e w5 ⟨v5, rfl, hO5, hb5⟩
  clear hC
  clear nx0 nx1 nx2 nx3 nx4
  have zw5 := hb5.size
  replace nA := nA.below hb5
  replace nw := nw.below hb5
  replace nx := nx.below hb5
  replace hBw := hBw.trans (hb5.mono hBw.size)
  replace hB0 := hB0.trans (hb5.mono hB0.size)
  replace hBx := hBx.trans (hb5.mono hBx.size)
  replace hIx := hIx.up (Up.ofBelow hb5)
  clear hb5
  have hIg := hO5.kin
  clear hO5
  rw [zanx] at hIg zw5
  obtain ⟨g1, g2, g3, g4, g5, g6, cg1, cg2, eg, -⟩ := id hIg
  subst eg
  unfold dval at hIg ⊢
  have hbA : Below w5.heap.size w5 (w5.alloc (.cells #[.slice g1 D2.secs.length g2, .slice g3 D2.cache.length g4, .int .i64 D2.ops, .slice g5 D2.faults.length g6, .bool D2.down] 31)) := (Below.refl _ _).alloc (Nat.le_refl _) _
  have ng : VN (w5.alloc (.cells #[.slice g1 D2.secs.length g2, .slice g3 D2.cache.length g4, .int .i64 D2.ops, .slice g5 D2.faults.length g6, .bool D2.down] 31)) w5.heap.size 31 [.slice g1 D2.secs.length g2, .slice g3 D2.cache.length g4, .int .i64 D2.ops, .slice g5 D2.faults.length g6, .bool D2.down] := VN.new w5 31 [.slice g1 D2.secs.length g2, .slice g3 D2.cache.length g4, .int .i64 D2.ops, .slice g5 D2.faults.length g6, .bool D2.down]
  have zang : (w5.alloc (.cells #[.slice g1 D2.secs.length g2, .slice g3 D2.cache.length g4, .int .i64 D2.ops, .slice g5 D2.faults.length g6, .bool D2.down] 31)).heap.size = w5.heap.size + 1 := by simp
  replace nA := nA.below hbA
  replace nw := nw.below hbA
  replace nx := nx.below hbA
  replace hBw := hBw.trans (hbA.mono hBw.size)
  replace hB0 := hB0.trans (hbA.mono hB0.size)
  replace hBx := hBx.trans (hbA.mono hBx.size)
  replace hIx := hIx.up (Up.ofBelow hbA)
  replace hIg := hIg.up (Up.ofBelow hbA)
  clear hbA
  have hC := eqDisk_same _ _ D2 (w5.alloc (.cells #[.slice g1 D2.secs.length g2, .slice g3 D2.cache.length g4, .int .i64 D2.ops, .slice g5 D2.faults.length g6, .bool D2.down] 31)) (hIg.own.view) (hV0.below hB0) hf2
  have ng0 : (w5.alloc (.cells #[.slice g1 D2.secs.length g2, .slice g3 D2.cache.length g4, .int .i64 D2.ops, .slice g5 D2.faults.length g6, .bool D2.down] 31)).cell? ⟨w5.heap.size, 0, none⟩ = some (.slice g1 D2.secs.length g2) := ng.cell 0
  have ng1 : (w5.alloc (.cells #[.slice g1 D2.secs.length g2, .slice g3 D2.cache.length g4, .int .i64 D2.ops, .slice g5 D2.faults.length g6, .bool D2.down] 31)).cell? ⟨w5.heap.size, 1, none⟩ = some (.slice g3 D2.cache.length g4) := ng.cell 1
  have ng2 : (w5.alloc (.cells #[.slice g1 D2.secs.length g2, .slice g3 D2.cache.length g4, .int .i64 D2.ops, .slice g5 D2.faults.length g6, .bool D2.down] 31)).cell? ⟨w5.heap.size, 2, none⟩ = some (.int .i64 D2.ops) := ng.cell 2
  have ng3 : (w5.alloc (.cells #[.slice g1 D2.secs.length g2, .slice g3 D2.cache.length g4, .int .i64 D2.ops, .slice g5 D2.faults.length g6, .bool D2.down] 31)).cell? ⟨w5.heap.size, 3, none⟩ = some (.slice g5 D2.faults.length g6) := ng.cell 3
  have ng4 : (w5.alloc (.cells #[.slice g1 D2.secs.length g2, .slice g3 D2.cache.length g4, .int .i64 D2.ops, .slice g5 D2.faults.length g6, .bool D2.down] 31)).cell? ⟨w5.heap.size, 4, none⟩ = some (.bool D2.down) := ng.cell 4
  have nw0 : (w5.alloc (.cells #[.slice g1 D2.secs.length g2, .slice g3 D2.cache.length g4, .int .i64 D2.ops, .slice g5 D2.faults.length g6, .bool D2.down] 31)).cell? ⟨w3.heap.size, 0, none⟩ = some (.slice p1 D2.secs.length p2) := nw.cell 0
  have nw1 : (w5.alloc (.cells #[.slice g1 D2.secs.length g2, .slice g3 D2.cache.length g4, .int .i64 D2.ops, .slice g5 D2.faults.length g6, .bool D2.down] 31)).cell? ⟨w3.heap.size, 1, none⟩ = some (.slice p3 D2.cache.length p4) := nw.cell 1
  have nw2 : (w5.alloc (.cells #[.slice g1 D2.secs.length g2, .slice g3 D2.cache.length g4, .int .i64 D2.ops, .slice g5 D2.faults.length g6, .bool D2.down] 31)).cell? ⟨w3.heap.size, 2, none⟩ = some (.int .i64 D2.ops) := nw.cell 2
  have nw3 : (w5.alloc (.cells #[.slice g1 D2.secs.length g2, .slice g3 D2.cache.length g4, .int .i64 D2.ops, .slice g5 D2.faults.length g6, .bool D2.down] 31)).cell? ⟨w3.heap.size, 3, none⟩ = some (.slice p5 D2.faults.length p6) := nw.cell 3
  have nw4 : (w5.alloc (.cells #[.slice g1 D2.secs.length g2, .slice g3 D2.cache.length g4, .int .i64 D2.ops, .slice g5 D2.faults.length g6, .bool D2.down] 31)).cell? ⟨w3.heap.size, 4, none⟩ = some (.bool D2.down) := nw.cell 4
  go_wp2_with fail
  refine hC.mono ?_
  rintro e w6 ⟨rfl, hb6⟩
  clear hC
  clear ng0 ng1 ng2 ng3 ng4
  clear nw0 nw1 nw2 nw3 nw4
  have zw6 := hb6.size
  replace nA := nA.below hb6
  replace nw := nw.below hb6
  replace nx := nx.below hb6
  replace ng := ng.below hb6
  replace hBw := hBw.trans (hb6.mono hBw.size)
  replace hB0 := hB0.trans (hb6.mono hB0.size)
  replace hBx := hBx.trans (hb6.mono hBx.size)
  replace hIx := hIx.up (Up.ofBelow hb6)
  replace hIg := hIg.up (Up.ofBelow hb6)
  clear hb6
  go_wp2_with fail
  refine wp_region_held_drew (S := fun WW => (WW.cell? ⟨w.heap.size, 0, none⟩ = some (.slice sa D.secs.length sc) ∧ WW.cell? ⟨w.heap.size, 1, none⟩ = some (.slice ca D.cache.length cc) ∧ WW.cell? ⟨w.heap.size, 2, none⟩ = some (.int .i64 D.ops) ∧ WW.cell? ⟨w.heap.size, 3, none⟩ = some (.slice fa D.faults.length fc) ∧ WW.cell? ⟨w.heap.size, 4, none⟩ = some (.bool D.down)) ∧ (WW.cell? ⟨w4.heap.size, 0, none⟩ = some (.slice x1 D.secs.length x2) ∧ WW.cell? ⟨w4.heap.size, 1, none⟩ = some (.slice x3 D.cache.length x4) ∧ WW.cell? ⟨w4.heap.size, 2, none⟩ = some (.int .i64 D.ops) ∧ WW.cell? ⟨w4.heap.size, 3, none⟩ = some (.slice x5 D.faults.length x6) ∧ WW.cell? ⟨w4.heap.size, 4, none⟩ = some (.bool D.down))) (by kernel_rfl) ⟨⟨nA.cell 0, nA.cell 1, nA.cell 2, nA.cell 3, nA.cell 4⟩, nx.cell 0, nx.cell 1, nx.cell 2, nx.cell 3, nx.cell 4⟩ (fun hHeld => ?_)
  have hbd : Below w6.heap.size w6 w6.drew := (Below.refl _ _).drew
  obtain ⟨wd, hwd⟩ := hidEx w6.drew
  rw [hwd.out] at hbd hHeld ⊢
  have zwd := hbd.size
  replace nA := nA.below hbd
  replace nw := nw.below hbd
  replace nx := nx.below hbd
  replace ng := ng.below hbd
  replace hBw := hBw.trans (hbd.mono hBw.size)
  replace hB0 := hB0.trans (hbd.mono hB0.size)
  replace hBx := hBx.trans (hbd.mono hBx.size)
  replace hIx := hIx.up (Up.ofBelow hbd)
  replace hIg := hIg.up (Up.ofBelow hbd)
  clear hbd
  refine' wpAnyH_take (i := 0) (v := _) rfl (by kernel_rfl) (by kernel_rfl) (by kernel_rfl) (fun _ _ _ h => h) (Or.inl ⟨by kernel_rfl, ?hdd1⟩) (by assumption) ?rdd1
  case hdd1 => intro W hW; obtain ⟨⟨a0, a1, a2, a3, a4⟩, y0, y1, y2, y3, y4⟩ := hW; go_simp; all_goals with_reducible rfl
  change wpAnyH _ _ _ _ _ _ _ (Act.put _ (some 27) _) _
  simp only [Act.put, List.setIfInBounds_toArray, List.set_cons_zero, List.set_cons_succ]
  refine' wpAnyH_take (i := 1) (v := _) rfl (by kernel_rfl) (by kernel_rfl) (by kernel_rfl) (fun _ _ _ h => h) (Or.inl ⟨by kernel_rfl, ?hdd2⟩) (by assumption) ?rdd2
  case hdd2 => intro W hW; obtain ⟨⟨a0, a1, a2, a3, a4⟩, y0, y1, y2, y3, y4⟩ := hW; go_simp; all_goals with_reducible rfl
  change wpAnyH _ _ _ _ _ _ _ (Act.put _ (some 28) _) _
  simp only [Act.put, List.setIfInBounds_toArray, List.set_cons_zero, List.set_cons_succ]
  refine wpAnyH_ready (rs := [2]) (by kernel_rfl) (by simp) ?_
  refine AllReadyH.cons rfl (fun KK hK => ?_) AllReadyH.nil
  go_simp
  refine (toDisk_any _ D wd (hv.below hBw) hf).mono ?_
  rintro e w7 ⟨v7, rfl, hO7, hb7⟩
  have zw7 := hb7.size
  replace nA := nA.below hb7
  replace nw := nw.below hb7
  replace nx := nx.below hb7
  replace ng := ng.below hb7
  replace hBw := hBw.trans (hb7.mono hBw.size)
  replace hB0 := hB0.trans (hb7.mono hB0.size)
  replace hBx := hBx.trans (hb7.mono hBx.size)
  replace hIx := hIx.up (Up.ofBelow hb7)
  replace hIg := hIg.up (Up.ofBelow hb7)
  clear hb7
  go_wp2_with fail
  refine hK.out _ _ ⟨⟨nA.cell 0, nA.cell 1, nA.cell 2, nA.cell 3, nA.cell 4⟩, nx.cell 0, nx.cell 1, nx.cell 2, nx.cell 3, nx.cell 4⟩ (fun hHeld => ?_)
  clear hK KK
  try simp only [Act.put, List.setIfInBounds_toArray, List.set_cons_zero, List.set_cons_succ]
  refine wpAnyH_ready (rs := [3]) (by kernel_rfl) (by simp) ?_
  refine AllReadyH.cons rfl (fun KK hK => ?_) AllReadyH.nil
  go_simp
  refine (eqDisk_same _ _ D w7 (hIx.own.view) hO7.view hf).mono ?_
  rintro e w8 ⟨rfl, hb8⟩
  clear hO7
  have zw8 := hb8.size
  replace nA := nA.below hb8
  replace nw := nw.below hb8
  replace nx := nx.below hb8
  replace ng := ng.below hb8
  replace hBw := hBw.trans (hb8.mono hBw.size)
  replace hB0 := hB0.trans (hb8.mono hB0.size)
  replace hBx := hBx.trans (hb8.mono hBx.size)
  replace hIx := hIx.up (Up.ofBelow hb8)
  replace hIg := hIg.up (Up.ofBelow hb8)
  clear hb8
  go_wp2_with fail
  refine hK.out _ _ ⟨⟨nA.cell 0, nA.cell 1, nA.cell 2, nA.cell 3, nA.cell 4⟩, nx.cell 0, nx.cell 1, nx.cell 2, nx.cell 3, nx.cell 4⟩ (fun hHeld => ?_)
  clear hK KK
  try simp only [Act.put, List.setIfInBounds_toArray, List.set_cons_zero, List.set_cons_succ]
  refine' wpAnyH_take (i := 4) (v := _) rfl (by kernel_rfl) (by kernel_rfl) (by kernel_rfl) (fun _ _ _ h => h) (Or.inl ⟨by kernel_rfl, ?hdd3⟩) (by assumption) ?rdd3
  case hdd3 => intro W hW; obtain ⟨⟨a0, a1, a2, a3, a4⟩, y0, y1, y2, y3, y4⟩ := hW; go_simp; all_goals with_reducible rfl
  change wpAnyH _ _ _ _ _ _ _ (Act.put _ (some 31) _) _
  simp only [Act.put, List.setIfInBounds_toArray, List.set_cons_zero, List.set_cons_succ]
  refine wpAnyH_done (by kernel_rfl) ?_ _
  clear hHeld
  clear hBx hVx
  have hC := markDisk_any _ D (w3.heap.size + 1) (w4.heap.size) 1 w8 hIx hf (by omega) (by omega)
  have nx0 : w8.cell? ⟨w4.heap.size, 0, none⟩ = some (.slice x1 D.secs.length x2) := nx.cell 0
  have nx1 : w8.cell? ⟨w4.heap.size, 1, none⟩ = some (.slice x3 D.cache.length x4) := nx.cell 1
  have nx2 : w8.cell? ⟨w4.heap.size, 2, none⟩ = some (.int .i64 D.ops) := nx.cell 2
  have nx3 : w8.cell? ⟨w4.heap.size, 3, none⟩ = some (.slice x5 D.faults.length x6) := nx.cell 3
  have nx4 : w8.cell? ⟨w4.heap.size, 4, none⟩ = some (.bool D.down) := nx.cell 4
  go_wp2_with fail
  refine hC.mono ?_
  rintro e w9 ⟨rfl, hI, hO⟩
  clear hC
  clear nx0 nx1 nx2 nx3 nx4
  have zw9 := hO.size
  replace nA := nA.block (hO.block _ nA.lt (by omega))
  replace nw := nw.block (hO.block _ nw.lt (by omega))
  replace nx := nx.block (hO.block _ nx.lt (by omega))
  replace ng := ng.block (hO.block _ ng.lt (by omega))
  replace hBw := hBw.trans ((hO.below (by omega)).mono (by omega))
  replace hB0 := hB0.trans ((hO.below (by omega)).mono (by omega))
  replace hIg := hIg.up ((hO.up).mono (by omega))
  clear hIx
  clear hO
  obtain ⟨km, hkm⟩ := hidEx (1 + (szD D : Int))
  have hkmp : ¬ km < 0 := by have := hkm.out; omega
  rw [hkm.out]
  clear hI
  have hC := eqDisk_same _ _ D2 w9 (hIg.own.view) (hV0.below hB0) hf2
  have ng0 : w9.cell? ⟨w5.heap.size, 0, none⟩ = some (.slice g1 D2.secs.length g2) := ng.cell 0
  have ng1 : w9.cell? ⟨w5.heap.size, 1, none⟩ = some (.slice g3 D2.cache.length g4) := ng.cell 1
  have ng2 : w9.cell? ⟨w5.heap.size, 2, none⟩ = some (.int .i64 D2.ops) := ng.cell 2
  have ng3 : w9.cell? ⟨w5.heap.size, 3, none⟩ = some (.slice g5 D2.faults.length g6) := ng.cell 3
  have ng4 : w9.cell? ⟨w5.heap.size, 4, none⟩ = some (.bool D2.down) := ng.cell 4
  have nw0 : w9.cell? ⟨w3.heap.size, 0, none⟩ = some (.slice p1 D2.secs.length p2) := nw.cell 0
  have nw1 : w9.cell? ⟨w3.heap.size, 1, none⟩ = some (.slice p3 D2.cache.length p4) := nw.cell 1
  have nw2 : w9.cell? ⟨w3.heap.size, 2, none⟩ = some (.int .i64 D2.ops) := nw.cell 2
  have nw3 : w9.cell? ⟨w3.heap.size, 3, none⟩ = some (.slice p5 D2.faults.length p6) := nw.cell 3
  have nw4 : w9.cell? ⟨w3.heap.size, 4, none⟩ = some (.bool D2.down) := nw.cell 4
  go_wp2_with fail
  refine hC.mono ?_
  rintro e w10 ⟨rfl, hb10⟩
  clear hC
  clear ng0 ng1 ng2 ng3 ng4
  clear nw0 nw1 nw2 nw3 nw4
  have zw10 := hb10.size
  replace nA := nA.below hb10
  replace nw := nw.below hb10
  replace nx := nx.below hb10
  replace ng := ng.below hb10
  replace hBw := hBw.trans (hb10.mono hBw.size)
  replace hB0 := hB0.trans (hb10.mono hB0.size)
  replace hIg := hIg.up (Up.ofBelow hb10)
  clear hb10
  have hC := markDisk_any _ D2 (w4.heap.size + 1) (w5.heap.size) 1 w10 hIg hf2 (by omega) (by omega)
  have ng0 : w10.cell? ⟨w5.heap.size, 0, none⟩ = some (.slice g1 D2.secs.length g2) := ng.cell 0
  have ng1 : w10.cell? ⟨w5.heap.size, 1, none⟩ = some (.slice g3 D2.cache.length g4) := ng.cell 1
  have ng2 : w10.cell? ⟨w5.heap.size, 2, none⟩ = some (.int .i64 D2.ops) := ng.cell 2
  have ng3 : w10.cell? ⟨w5.heap.size, 3, none⟩ = some (.slice g5 D2.faults.length g6) := ng.cell 3
  have ng4 : w10.cell? ⟨w5.heap.size, 4, none⟩ = some (.bool D2.down) := ng.cell 4
  go_wp2_with fail
  refine hC.mono ?_
  rintro e w11 ⟨rfl, hI, hO⟩
  clear hC
  clear ng0 ng1 ng2 ng3 ng4
  have zw11 := hO.size
  replace nA := nA.block (hO.block _ nA.lt (by omega))
  replace nw := nw.block (hO.block _ nw.lt (by omega))
  replace nx := nx.block (hO.block _ nx.lt (by omega))
  replace ng := ng.block (hO.block _ ng.lt (by omega))
  replace hBw := hBw.trans ((hO.below (by omega)).mono (by omega))
  replace hB0 := hB0.trans ((hO.below (by omega)).mono (by omega))
  clear hIg
  clear hO
  obtain ⟨kg, hkg⟩ := hidEx (1 + (szD D2 : Int))
  have hkgp : ¬ kg < 0 := by have := hkg.out; omega
  rw [hkg.out]
  have hIh := hI
  clear hI
  have hq : (kg != kg) = false := bne_self_eq_false _
  have hC := heldDisk_any _ D2 1 w11 hIh.own.view hf2 (by omega) (by omega)
  rw [hkg.out] at hC
  have ng0 : w11.cell? ⟨w5.heap.size, 0, none⟩ = some (.slice g1 D2.secs.length g2) := ng.cell 0
  have ng1 : w11.cell? ⟨w5.heap.size, 1, none⟩ = some (.slice g3 D2.cache.length g4) := ng.cell 1
  have ng2 : w11.cell? ⟨w5.heap.size, 2, none⟩ = some (.int .i64 D2.ops) := ng.cell 2
  have ng3 : w11.cell? ⟨w5.heap.size, 3, none⟩ = some (.slice g5 D2.faults.length g6) := ng.cell 3
  have ng4 : w11.cell? ⟨w5.heap.size, 4, none⟩ = some (.bool D2.down) := ng.cell 4
  go_wp2_with fail
  refine hC.mono ?_
  rintro e w12 ⟨rfl, hbw12⟩
  clear hC
  clear ng0 ng1 ng2 ng3 ng4
  have zw12 := hbw12.size
  replace nA := nA.below hbw12
  replace nw := nw.below hbw12
  replace nx := nx.below hbw12
  replace ng := ng.below hbw12
  replace hBw := hBw.trans (hbw12.mono hBw.size)
  replace hB0 := hB0.trans (hbw12.mono hB0.size)
  replace hIh := hIh.up (Up.ofBelow hbw12)
  clear hbw12
  have hC := toDisk_any _ D w12 (hv.below hBw) hf
  have nA0 : w12.cell? ⟨w.heap.size, 0, none⟩ = some (.slice sa D.secs.length sc) := nA.cell 0
  have nA1 : w12.cell? ⟨w.heap.size, 1, none⟩ = some (.slice ca D.cache.length cc) := nA.cell 1
  have nA2 : w12.cell? ⟨w.heap.size, 2, none⟩ = some (.int .i64 D.ops) := nA.cell 2
  have nA3 : w12.cell? ⟨w.heap.size, 3, none⟩ = some (.slice fa D.faults.length fc) := nA.cell 3
  have nA4 : w12.cell? ⟨w.heap.size, 4, none⟩ = some (.bool D.down) := nA.cell 4
  go_wp2_with fail
  refine hC.mono ?_
  rintro e w13 ⟨v13, rfl, hO13, hb13⟩
  clear hC
  clear nA0 nA1 nA2 nA3 nA4
  have zw13 := hb13.size
  replace nA := nA.below hb13
  replace nw := nw.below hb13
  replace nx := nx.below hb13
  replace ng := ng.below hb13
  replace hBw := hBw.trans (hb13.mono hBw.size)
  replace hB0 := hB0.trans (hb13.mono hB0.size)
  replace hIh := hIh.up (Up.ofBelow hb13)
  clear hb13
  have hC := implReopen_any v13 D w13 hO13.view hf
  rw [hD2.out] at hC
  go_wp2_with fail
  refine hC.mono ?_
  rintro e w14 ⟨v14, rfl, hO14, hb14⟩
  clear hC hO13
  have zw14 := hb14.size
  replace nA := nA.below hb14
  replace nw := nw.below hb14
  replace nx := nx.below hb14
  replace ng := ng.below hb14
  replace hBw := hBw.trans (hb14.mono hBw.size)
  replace hB0 := hB0.trans (hb14.mono hB0.size)
  replace hIh := hIh.up (Up.ofBelow hb14)
  clear hb14
  have hVh : KView w14 v14 D2 := hO14.view
  obtain ⟨q1, q2, q3, q4, q5, q6, -, -, rfl, -⟩ := hO14
  unfold dval at hVh ⊢
  have hBh : Below w14.heap.size w14 w14 := Below.refl _ _
  have hbA : Below w14.heap.size w14 (w14.alloc (.cells #[.slice q1 D2.secs.length q2, .slice q3 D2.cache.length q4, .int .i64 D2.ops, .slice q5 D2.faults.length q6, .bool D2.down] 31)) := (Below.refl _ _).alloc (Nat.le_refl _) _
  have nh : VN (w14.alloc (.cells #[.slice q1 D2.secs.length q2, .slice q3 D2.cache.length q4, .int .i64 D2.ops, .slice q5 D2.faults.length q6, .bool D2.down] 31)) w14.heap.size 31 [.slice q1 D2.secs.length q2, .slice q3 D2.cache.length q4, .int .i64 D2.ops, .slice q5 D2.faults.length q6, .bool D2.down] := VN.new w14 31 [.slice q1 D2.secs.length q2, .slice q3 D2.cache.length q4, .int .i64 D2.ops, .slice q5 D2.faults.length q6, .bool D2.down]
  have zanh : (w14.alloc (.cells #[.slice q1 D2.secs.length q2, .slice q3 D2.cache.length q4, .int .i64 D2.ops, .slice q5 D2.faults.length q6, .bool D2.down] 31)).heap.size = w14.heap.size + 1 := by simp
  replace nA := nA.below hbA
  replace nw := nw.below hbA
  replace nx := nx.below hbA
  replace ng := ng.below hbA
  replace hBw := hBw.trans (hbA.mono hBw.size)
  replace hB0 := hB0.trans (hbA.mono hB0.size)
  replace hBh := hBh.trans (hbA.mono hBh.size)
  replace hIh := hIh.up (Up.ofBelow hbA)
  clear hbA
  have hC := eqDisk_same _ _ D2 (w14.alloc (.cells #[.slice q1 D2.secs.length q2, .slice q3 D2.cache.length q4, .int .i64 D2.ops, .slice q5 D2.faults.length q6, .bool D2.down] 31)) (hVh.below hBh) (hV0.below hB0) hf2
  have nh0 : (w14.alloc (.cells #[.slice q1 D2.secs.length q2, .slice q3 D2.cache.length q4, .int .i64 D2.ops, .slice q5 D2.faults.length q6, .bool D2.down] 31)).cell? ⟨w14.heap.size, 0, none⟩ = some (.slice q1 D2.secs.length q2) := nh.cell 0
  have nh1 : (w14.alloc (.cells #[.slice q1 D2.secs.length q2, .slice q3 D2.cache.length q4, .int .i64 D2.ops, .slice q5 D2.faults.length q6, .bool D2.down] 31)).cell? ⟨w14.heap.size, 1, none⟩ = some (.slice q3 D2.cache.length q4) := nh.cell 1
  have nh2 : (w14.alloc (.cells #[.slice q1 D2.secs.length q2, .slice q3 D2.cache.length q4, .int .i64 D2.ops, .slice q5 D2.faults.length q6, .bool D2.down] 31)).cell? ⟨w14.heap.size, 2, none⟩ = some (.int .i64 D2.ops) := nh.cell 2
  have nh3 : (w14.alloc (.cells #[.slice q1 D2.secs.length q2, .slice q3 D2.cache.length q4, .int .i64 D2.ops, .slice q5 D2.faults.length q6, .bool D2.down] 31)).cell? ⟨w14.heap.size, 3, none⟩ = some (.slice q5 D2.faults.length q6) := nh.cell 3
  have nh4 : (w14.alloc (.cells #[.slice q1 D2.secs.length q2, .slice q3 D2.cache.length q4, .int .i64 D2.ops, .slice q5 D2.faults.length q6, .bool D2.down] 31)).cell? ⟨w14.heap.size, 4, none⟩ = some (.bool D2.down) := nh.cell 4
  have nw0 : (w14.alloc (.cells #[.slice q1 D2.secs.length q2, .slice q3 D2.cache.length q4, .int .i64 D2.ops, .slice q5 D2.faults.length q6, .bool D2.down] 31)).cell? ⟨w3.heap.size, 0, none⟩ = some (.slice p1 D2.secs.length p2) := nw.cell 0
  have nw1 : (w14.alloc (.cells #[.slice q1 D2.secs.length q2, .slice q3 D2.cache.length q4, .int .i64 D2.ops, .slice q5 D2.faults.length q6, .bool D2.down] 31)).cell? ⟨w3.heap.size, 1, none⟩ = some (.slice p3 D2.cache.length p4) := nw.cell 1
  have nw2 : (w14.alloc (.cells #[.slice q1 D2.secs.length q2, .slice q3 D2.cache.length q4, .int .i64 D2.ops, .slice q5 D2.faults.length q6, .bool D2.down] 31)).cell? ⟨w3.heap.size, 2, none⟩ = some (.int .i64 D2.ops) := nw.cell 2
  have nw3 : (w14.alloc (.cells #[.slice q1 D2.secs.length q2, .slice q3 D2.cache.length q4, .int .i64 D2.ops, .slice q5 D2.faults.length q6, .bool D2.down] 31)).cell? ⟨w3.heap.size, 3, none⟩ = some (.slice p5 D2.faults.length p6) := nw.cell 3
  have nw4 : (w14.alloc (.cells #[.slice q1 D2.secs.length q2, .slice q3 D2.cache.length q4, .int .i64 D2.ops, .slice q5 D2.faults.length q6, .bool D2.down] 31)).cell? ⟨w3.heap.size, 4, none⟩ = some (.bool D2.down) := nw.cell 4
  go_wp2_with fail
  refine hC.mono ?_
  rintro e w15 ⟨rfl, hb15⟩
  clear hC
  clear nh0 nh1 nh2 nh3 nh4
  clear nw0 nw1 nw2 nw3 nw4
  have zw15 := hb15.size
  replace nA := nA.below hb15
  replace nw := nw.below hb15
  replace nx := nx.below hb15
  replace ng := ng.below hb15
  replace nh := nh.below hb15
  replace hBw := hBw.trans (hb15.mono hBw.size)
  replace hB0 := hB0.trans (hb15.mono hB0.size)
  replace hBh := hBh.trans (hb15.mono hBh.size)
  replace hIh := hIh.up (Up.ofBelow hb15)
  clear hb15
  have hC := heldDisk_any _ D2 1 w15 hIh.own.view hf2 (by omega) (by omega)
  rw [hkg.out] at hC
  have ng0 : w15.cell? ⟨w5.heap.size, 0, none⟩ = some (.slice g1 D2.secs.length g2) := ng.cell 0
  have ng1 : w15.cell? ⟨w5.heap.size, 1, none⟩ = some (.slice g3 D2.cache.length g4) := ng.cell 1
  have ng2 : w15.cell? ⟨w5.heap.size, 2, none⟩ = some (.int .i64 D2.ops) := ng.cell 2
  have ng3 : w15.cell? ⟨w5.heap.size, 3, none⟩ = some (.slice g5 D2.faults.length g6) := ng.cell 3
  have ng4 : w15.cell? ⟨w5.heap.size, 4, none⟩ = some (.bool D2.down) := ng.cell 4
  go_wp2_with fail
  refine hC.mono ?_
  rintro e w16 ⟨rfl, hbw16⟩
  clear hC
  clear ng0 ng1 ng2 ng3 ng4
  have zw16 := hbw16.size
  replace nA := nA.below hbw16
  replace nw := nw.below hbw16
  replace nx := nx.below hbw16
  replace ng := ng.below hbw16
  replace nh := nh.below hbw16
  replace hBw := hBw.trans (hbw16.mono hBw.size)
  replace hB0 := hB0.trans (hbw16.mono hB0.size)
  replace hBh := hBh.trans (hbw16.mono hBh.size)
  replace hIh := hIh.up (Up.ofBelow hbw16)
  clear hbw16
  have HB : Hid (Below w.heap.size w w16) := hBw
  clear nA nw nx ng nh hIh hB0 hBh hV0 hVh hv hBw
  go_wp2
  go_ret
  exact ⟨rfl, HB.out⟩
end Go.Proofs.Ytagjgnephaaehaa
