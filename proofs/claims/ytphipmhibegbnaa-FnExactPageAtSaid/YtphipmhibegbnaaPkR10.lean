/-
  Together: LawPageAtOf, GetPlain, Conv, GetTextPlain, StrSl, NumsPlain, LofEq, AtB
-/
import Derived.Test.YtphipmhibegbnaaPkR3
import Derived.Test.YtphipmhibegbnaaPkR4
import Derived.Test.YtphipmhibegbnaaPkR5
import Derived.Test.YtphipmhibegbnaaPkR6
import Derived.Deep.RegionHeld3
import Derived.Test.YtphipmhibegbnaaPkR1
import Derived.Laws.BytesArg
import Derived.Test.YtphipmhibegbnaaPkR2
/-
  The law FnExactPageAt, walked, out of what both sides come to.
-/
namespace Go.Proofs.Ytphipmhibegbnaa
open Go.RowKit
set_option maxRecDepth 4000

set_option maxHeartbeats 16000000 in
theorem lawPageAtOf (v : Value) (D : PDisk) (n : Int) (k : Int) (l : List Int) (ok : Bool) (w : World) (h : KView w v D) (hm : KLim D) (hS : ∀ W u, KFine D → KView W u D → Calls Try.prog 28 #[u, .int .i64 n, .int .i64 k] W (BTo W l ok)) (hP : ∀ W u, KFine D → KView W u D → Calls Try.prog 29 #[u, .int .i64 n, .int .i64 k] W (BTo W l ok)) (hl : KFine D → l.length ≤ 1048576) :
    Calls Try.prog 8 #[v, .int .i64 n, .int .i64 k] w fun e w' => e = .returned (.bool true) ∧ Below w.heap.size w w' := by
  have hv := h
  obtain ⟨sa, sc, ca, cc, fa, fc, rfl, -, -, -⟩ := h.is
  clear h
  have hBw : Below w.heap.size w (w.alloc (.cells #[.slice sa D.secs.length sc, .slice ca D.cache.length cc, .int .i64 D.ops, .slice fa D.faults.length fc, .bool D.down] 26)) := (Below.refl _ _).alloc (Nat.le_refl _) _
  have nA : VN (w.alloc (.cells #[.slice sa D.secs.length sc, .slice ca D.cache.length cc, .int .i64 D.ops, .slice fa D.faults.length fc, .bool D.down] 26)) w.heap.size 26 [.slice sa D.secs.length sc, .slice ca D.cache.length cc, .int .i64 D.ops, .slice fa D.faults.length fc, .bool D.down] := VN.new w 26 [.slice sa D.secs.length sc, .slice ca D.cache.length cc, .int .i64 D.ops, .slice fa D.faults.length fc, .bool D.down]
  have zA : (w.alloc (.cells #[.slice sa D.secs.length sc, .slice ca D.cache.length cc, .int .i64 D.ops, .slice fa D.faults.length fc, .bool D.down] 26)).heap.size = w.heap.size + 1 := by simp
  have hZ := szDisk_fine _ D 1048576 _ (hv.below hBw) hm (by omega) (by omega)
  clear hm
  go_enter Try.func8, Try.ntmps8
  go_wp2_with fail
  refine hZ.mono ?_
  rintro e w1 ⟨L, rfl, hb1, hL⟩
  clear hZ
  have zw1 := hb1.size
  replace nA := nA.below hb1
  replace hBw := hBw.trans (hb1.mono hBw.size)
  rcases hL with rfl | ⟨hL0, hL1, hf⟩
  · have HB : Hid (Below w.heap.size w w1) := hBw
    clear hv nA hBw hb1
    go_wp2
    go_ret
    exact ⟨rfl, HB.out⟩
  have hLn : ¬ L < 0 := by omega
  have hl := hl hf
  have hqq : (ok != ok) = false := bne_self_eq_false _
  clear hb1
  have hC := toDisk_any _ D w1 (hv.below hBw) hf
  have nA0 : w1.cell? ⟨w.heap.size, 0, none⟩ = some (.slice sa D.secs.length sc) := nA.cell 0
  have nA1 : w1.cell? ⟨w.heap.size, 1, none⟩ = some (.slice ca D.cache.length cc) := nA.cell 1
  have nA2 : w1.cell? ⟨w.heap.size, 2, none⟩ = some (.int .i64 D.ops) := nA.cell 2
  have nA3 : w1.cell? ⟨w.heap.size, 3, none⟩ = some (.slice fa D.faults.length fc) := nA.cell 3
  have nA4 : w1.cell? ⟨w.heap.size, 4, none⟩ = some (.bool D.down) := nA.cell 4
  go_wp2_with fail
  refine hC.mono ?_
  rintro e w2 ⟨v2, rfl, hO2, hb2⟩
  clear hC
  clear nA0 nA1 nA2 nA3 nA4
  have zw2 := hb2.size
  replace nA := nA.below hb2
  replace hBw := hBw.trans (hb2.mono hBw.size)
  clear hb2
  have hC := hS w2 v2 hf hO2.view
  go_wp2_with fail
  refine hC.mono ?_
  rintro e w3 ⟨v3, rfl, hO3, hb3⟩
  clear hC hO2 hS
  have zw3 := hb3.size
  replace nA := nA.below hb3
  replace hBw := hBw.trans (hb3.mono hBw.size)
  clear hb3
  have hV0 : LV w3 v3 l := hO3.lv
  clear hO3
  have hB0 : Below w3.heap.size w3 w3 := Below.refl _ _
  have hC := toDisk_any _ D w3 (hv.below hBw) hf
  have nA0 : w3.cell? ⟨w.heap.size, 0, none⟩ = some (.slice sa D.secs.length sc) := nA.cell 0
  have nA1 : w3.cell? ⟨w.heap.size, 1, none⟩ = some (.slice ca D.cache.length cc) := nA.cell 1
  have nA2 : w3.cell? ⟨w.heap.size, 2, none⟩ = some (.int .i64 D.ops) := nA.cell 2
  have nA3 : w3.cell? ⟨w.heap.size, 3, none⟩ = some (.slice fa D.faults.length fc) := nA.cell 3
  have nA4 : w3.cell? ⟨w.heap.size, 4, none⟩ = some (.bool D.down) := nA.cell 4
  go_wp2_with fail
  refine hC.mono ?_
  rintro e w4 ⟨v4, rfl, hO4, hb4⟩
  clear hC
  clear nA0 nA1 nA2 nA3 nA4
  have zw4 := hb4.size
  replace nA := nA.below hb4
  replace hBw := hBw.trans (hb4.mono hBw.size)
  replace hB0 := hB0.trans (hb4.mono hB0.size)
  clear hb4
  have hIx := hO4.kin
  clear hO4
  have hVx := hIx.own.view
  obtain ⟨x1, x2, x3, x4, x5, x6, cx1, cx2, ex, -⟩ := id hIx
  subst ex
  unfold dval at hIx hVx ⊢
  have hBx : Below w4.heap.size w4 w4 := Below.refl _ _
  have hbA : Below w4.heap.size w4 (w4.alloc (.cells #[.slice x1 D.secs.length x2, .slice x3 D.cache.length x4, .int .i64 D.ops, .slice x5 D.faults.length x6, .bool D.down] 34)) := (Below.refl _ _).alloc (Nat.le_refl _) _
  have nx : VN (w4.alloc (.cells #[.slice x1 D.secs.length x2, .slice x3 D.cache.length x4, .int .i64 D.ops, .slice x5 D.faults.length x6, .bool D.down] 34)) w4.heap.size 34 [.slice x1 D.secs.length x2, .slice x3 D.cache.length x4, .int .i64 D.ops, .slice x5 D.faults.length x6, .bool D.down] := VN.new w4 34 [.slice x1 D.secs.length x2, .slice x3 D.cache.length x4, .int .i64 D.ops, .slice x5 D.faults.length x6, .bool D.down]
  have zanx : (w4.alloc (.cells #[.slice x1 D.secs.length x2, .slice x3 D.cache.length x4, .int .i64 D.ops, .slice x5 D.faults.length x6, .bool D.down] 34)).heap.size = w4.heap.size + 1 := by simp
  replace nA := nA.below hbA
  replace hBw := hBw.trans (hbA.mono hBw.size)
  replace hB0 := hB0.trans (hbA.mono hB0.size)
  replace hBx := hBx.trans (hbA.mono hBx.size)
  replace hIx := hIx.up (Up.ofBelow hbA)
  clear hbA
  have hC := hP (w4.alloc (.cells #[.slice x1 D.secs.length x2, .slice x3 D.cache.length x4, .int .i64 D.ops, .slice x5 D.faults.length x6, .bool D.down] 34)) _ hf (hVx.below hBx)
  have nx0 : (w4.alloc (.cells #[.slice x1 D.secs.length x2, .slice x3 D.cache.length x4, .int .i64 D.ops, .slice x5 D.faults.length x6, .bool D.down] 34)).cell? ⟨w4.heap.size, 0, none⟩ = some (.slice x1 D.secs.length x2) := nx.cell 0
  have nx1 : (w4.alloc (.cells #[.slice x1 D.secs.length x2, .slice x3 D.cache.length x4, .int .i64 D.ops, .slice x5 D.faults.length x6, .bool D.down] 34)).cell? ⟨w4.heap.size, 1, none⟩ = some (.slice x3 D.cache.length x4) := nx.cell 1
  have nx2 : (w4.alloc (.cells #[.slice x1 D.secs.length x2, .slice x3 D.cache.length x4, .int .i64 D.ops, .slice x5 D.faults.length x6, .bool D.down] 34)).cell? ⟨w4.heap.size, 2, none⟩ = some (.int .i64 D.ops) := nx.cell 2
  have nx3 : (w4.alloc (.cells #[.slice x1 D.secs.length x2, .slice x3 D.cache.length x4, .int .i64 D.ops, .slice x5 D.faults.length x6, .bool D.down] 34)).cell? ⟨w4.heap.size, 3, none⟩ = some (.slice x5 D.faults.length x6) := nx.cell 3
  have nx4 : (w4.alloc (.cells #[.slice x1 D.secs.length x2, .slice x3 D.cache.length x4, .int .i64 D.ops, .slice x5 D.faults.length x6, .bool D.down] 34)).cell? ⟨w4.heap.size, 4, none⟩ = some (.bool D.down) := nx.cell 4
  go_wp2_with fail
  refine hC.mono ?_
  rintro e w5 ⟨v5, rfl, hIg, hb5⟩
  clear hC
  clear nx0 nx1 nx2 nx3 nx4
  have zw5 := hb5.size
  replace nA := nA.below hb5
  replace nx := nx.below hb5
  replace hBw := hBw.trans (hb5.mono hBw.size)
  replace hB0 := hB0.trans (hb5.mono hB0.size)
  replace hBx := hBx.trans (hb5.mono hBx.size)
  replace hIx := hIx.up (Up.ofBelow hb5)
  clear hb5
  rw [zanx] at hIg zw5
  have hC := eqLV_any _ _ l w5 hIg.lv (hV0.below hB0) hl
  go_wp2_with fail
  refine hC.mono ?_
  rintro e w6 ⟨rfl, hb6⟩
  clear hC
  have zw6 := hb6.size
  replace nA := nA.below hb6
  replace nx := nx.below hb6
  replace hBw := hBw.trans (hb6.mono hBw.size)
  replace hB0 := hB0.trans (hb6.mono hB0.size)
  replace hBx := hBx.trans (hb6.mono hBx.size)
  replace hIx := hIx.up (Up.ofBelow hb6)
  replace hIg := hIg.up (Up.ofBelow hb6)
  clear hb6
  go_wp2_with fail
  refine wp_region_held_drew (S := fun WW => (WW.cell? ⟨w.heap.size, 0, none⟩ = some (.slice sa D.secs.length sc) ∧ WW.cell? ⟨w.heap.size, 1, none⟩ = some (.slice ca D.cache.length cc) ∧ WW.cell? ⟨w.heap.size, 2, none⟩ = some (.int .i64 D.ops) ∧ WW.cell? ⟨w.heap.size, 3, none⟩ = some (.slice fa D.faults.length fc) ∧ WW.cell? ⟨w.heap.size, 4, none⟩ = some (.bool D.down)) ∧ (WW.cell? ⟨w4.heap.size, 0, none⟩ = some (.slice x1 D.secs.length x2) ∧ WW.cell? ⟨w4.heap.size, 1, none⟩ = some (.slice x3 D.cache.length x4) ∧ WW.cell? ⟨w4.heap.size, 2, none⟩ = some (.int .i64 D.ops) ∧ WW.cell? ⟨w4.heap.size, 3, none⟩ = some (.slice x5 D.faults.length x6) ∧ WW.cell? ⟨w4.heap.size, 4, none⟩ = some (.bool D.down))) (by kernel_rfl) ⟨⟨nA.cell 0, nA.cell 1, nA.cell 2, nA.cell 3, nA.cell 4⟩, nx.cell 0, nx.cell 1, nx.cell 2, nx.cell 3, nx.cell 4⟩ (fun hHeld => ?_)
  have hbd : Below w6.heap.size w6 w6.drew := (Below.refl _ _).drew
  obtain ⟨wd, hwd⟩ := hidEx w6.drew
  rw [hwd.out] at hbd hHeld ⊢
  have zwd := hbd.size
  replace nA := nA.below hbd
  replace nx := nx.below hbd
  replace hBw := hBw.trans (hbd.mono hBw.size)
  replace hB0 := hB0.trans (hbd.mono hB0.size)
  replace hBx := hBx.trans (hbd.mono hBx.size)
  replace hIx := hIx.up (Up.ofBelow hbd)
  replace hIg := hIg.up (Up.ofBelow hbd)
  clear hbd
  refine' wpAnyH_take (i := 0) (v := _) rfl (by kernel_rfl) (by kernel_rfl) (by kernel_rfl) (fun _ _ _ h => h) (Or.inl ⟨by kernel_rfl, ?hdd1⟩) (by assumption) ?rdd1
  case hdd1 => intro W hW; obtain ⟨⟨a0, a1, a2, a3, a4⟩, y0, y1, y2, y3, y4⟩ := hW; go_simp; all_goals with_reducible rfl
  change wpAnyH _ _ _ _ _ _ _ (Act.put _ (some 49) _) _
  simp only [Act.put, List.setIfInBounds_toArray, List.set_cons_zero, List.set_cons_succ]
  refine' wpAnyH_take (i := 1) (v := _) rfl (by kernel_rfl) (by kernel_rfl) (by kernel_rfl) (fun _ _ _ h => h) (Or.inl ⟨by kernel_rfl, ?hdd2⟩) (by assumption) ?rdd2
  case hdd2 => intro W hW; obtain ⟨⟨a0, a1, a2, a3, a4⟩, y0, y1, y2, y3, y4⟩ := hW; go_simp; all_goals with_reducible rfl
  change wpAnyH _ _ _ _ _ _ _ (Act.put _ (some 50) _) _
  simp only [Act.put, List.setIfInBounds_toArray, List.set_cons_zero, List.set_cons_succ]
  refine wpAnyH_ready (rs := [2]) (by kernel_rfl) (by simp) ?_
  refine AllReadyH.cons rfl (fun KK hK => ?_) AllReadyH.nil
  go_simp
  refine (toDisk_any _ D wd (hv.below hBw) hf).mono ?_
  rintro e w7 ⟨v7, rfl, hO7, hb7⟩
  have zw7 := hb7.size
  replace nA := nA.below hb7
  replace nx := nx.below hb7
  replace hBw := hBw.trans (hb7.mono hBw.size)
  replace hB0 := hB0.trans (hb7.mono hB0.size)
  replace hBx := hBx.trans (hb7.mono hBx.size)
  replace hIx := hIx.up (Up.ofBelow hb7)
  replace hIg := hIg.up (Up.ofBelow hb7)
  clear hb7
  go_wp2_with fail
  refine hK.out _ _ ⟨⟨nA.cell 0, nA.cell 1, nA.cell 2, nA.cell 3, nA.cell 4⟩, nx.cell 0, nx.cell 1, nx.cell 2, nx.cell 3, nx.cell 4⟩ (fun hHeld => ?_)
  clear hK KK
  try simp only [Act.put, List.setIfInBounds_toArray, List.set_cons_zero, List.set_cons_succ]
  refine wpAnyH_ready (rs := [3]) (by kernel_rfl) (by simp) ?_
  refine AllReadyH.cons rfl (fun KK hK => ?_) AllReadyH.nil
  go_simp
  refine (eqDisk_same _ _ D w7 (hIx.own.view) hO7.view hf).mono ?_
  rintro e w8 ⟨rfl, hb8⟩
  clear hO7
  have zw8 := hb8.size
  replace nA := nA.below hb8
  replace nx := nx.below hb8
  replace hBw := hBw.trans (hb8.mono hBw.size)
  replace hB0 := hB0.trans (hb8.mono hB0.size)
  replace hBx := hBx.trans (hb8.mono hBx.size)
  replace hIx := hIx.up (Up.ofBelow hb8)
  replace hIg := hIg.up (Up.ofBelow hb8)
  clear hb8
  go_wp2_with fail
  refine hK.out _ _ ⟨⟨nA.cell 0, nA.cell 1, nA.cell 2, nA.cell 3, nA.cell 4⟩, nx.cell 0, nx.cell 1, nx.cell 2, nx.cell 3, nx.cell 4⟩ (fun hHeld => ?_)
  clear hK KK
  try simp only [Act.put, List.setIfInBounds_toArray, List.set_cons_zero, List.set_cons_succ]
  refine' wpAnyH_take (i := 4) (v := _) rfl (by kernel_rfl) (by kernel_rfl) (by kernel_rfl) (fun _ _ _ h => h) (Or.inl ⟨by kernel_rfl, ?hdd3⟩) (by assumption) ?rdd3
  case hdd3 => intro W hW; obtain ⟨⟨a0, a1, a2, a3, a4⟩, y0, y1, y2, y3, y4⟩ := hW; go_simp; all_goals with_reducible rfl
  change wpAnyH _ _ _ _ _ _ _ (Act.put _ (some 53) _) _
  simp only [Act.put, List.setIfInBounds_toArray, List.set_cons_zero, List.set_cons_succ]
  refine wpAnyH_done (by kernel_rfl) ?_ _
  clear hHeld
  clear hBx hVx
  have hC := markDisk_any _ D (w3.heap.size) (w4.heap.size) 1 w8 hIx hf (by omega) (by omega)
  have nx0 : w8.cell? ⟨w4.heap.size, 0, none⟩ = some (.slice x1 D.secs.length x2) := nx.cell 0
  have nx1 : w8.cell? ⟨w4.heap.size, 1, none⟩ = some (.slice x3 D.cache.length x4) := nx.cell 1
  have nx2 : w8.cell? ⟨w4.heap.size, 2, none⟩ = some (.int .i64 D.ops) := nx.cell 2
  have nx3 : w8.cell? ⟨w4.heap.size, 3, none⟩ = some (.slice x5 D.faults.length x6) := nx.cell 3
  have nx4 : w8.cell? ⟨w4.heap.size, 4, none⟩ = some (.bool D.down) := nx.cell 4
  go_wp2_with fail
  refine hC.mono ?_
  rintro e w9 ⟨rfl, hI, hO⟩
  clear hC
  clear nx0 nx1 nx2 nx3 nx4
  have zw9 := hO.size
  replace nA := nA.block (hO.block _ nA.lt (by omega))
  replace nx := nx.block (hO.block _ nx.lt (by omega))
  replace hBw := hBw.trans ((hO.below (by omega)).mono (by omega))
  replace hB0 := hB0.trans ((hO.below (by omega)).mono (by omega))
  replace hIg := hIg.up ((hO.up).mono (by omega))
  clear hIx
  clear hO
  obtain ⟨km, hkm⟩ := hidEx (1 + (szD D : Int))
  have hkmp : ¬ km < 0 := by have := hkm.out; omega
  rw [hkm.out]
  clear hI
  have hC := eqLV_any _ _ l w9 hIg.lv (hV0.below hB0) hl
  go_wp2_with fail
  refine hC.mono ?_
  rintro e w10 ⟨rfl, hb10⟩
  clear hC
  have zw10 := hb10.size
  replace nA := nA.below hb10
  replace nx := nx.below hb10
  replace hBw := hBw.trans (hb10.mono hBw.size)
  replace hB0 := hB0.trans (hb10.mono hB0.size)
  replace hIg := hIg.up (Up.ofBelow hb10)
  clear hb10
  have hC := markOZ_any _ l (w4.heap.size + 1) 1 w10 hIg (by omega) (by omega) (by omega)
  go_wp2_with fail
  refine hC.mono ?_
  rintro e w11 ⟨rfl, hIh, hO⟩
  clear hC
  have zw11 := hO.size
  replace nA := nA.block (hO.block _ (by omega))
  replace nx := nx.block (hO.block _ (by omega))
  replace hBw := hBw.trans (hO.mono (by omega))
  replace hB0 := hB0.trans (hO.mono (by omega))
  clear hIg hO
  obtain ⟨kg, hkg⟩ := hidEx (1 + (l.length : Int))
  have hkgp : ¬ kg < 0 := by have := hkg.out; omega
  rw [hkg.out]
  have hq : (kg != kg) = false := bne_self_eq_false _
  have hC := heldOZ_any _ (w4.heap.size + 1) l.length 1 w11 hIh (by omega) (by omega)
  rw [hkg.out] at hC
  go_wp2_with fail
  refine hC.mono ?_
  rintro e w12 ⟨rfl, hbw12⟩
  clear hC
  have zw12 := hbw12.size
  replace nA := nA.below hbw12
  replace nx := nx.below hbw12
  replace hBw := hBw.trans (hbw12.mono hBw.size)
  replace hB0 := hB0.trans (hbw12.mono hB0.size)
  replace hIh := hIh.up (Up.ofBelow hbw12)
  clear hbw12
  have hC := toDisk_any _ D w12 (hv.below hBw) hf
  have nA0 : w12.cell? ⟨w.heap.size, 0, none⟩ = some (.slice sa D.secs.length sc) := nA.cell 0
  have nA1 : w12.cell? ⟨w.heap.size, 1, none⟩ = some (.slice ca D.cache.length cc) := nA.cell 1
  have nA2 : w12.cell? ⟨w.heap.size, 2, none⟩ = some (.int .i64 D.ops) := nA.cell 2
  have nA3 : w12.cell? ⟨w.heap.size, 3, none⟩ = some (.slice fa D.faults.length fc) := nA.cell 3
  have nA4 : w12.cell? ⟨w.heap.size, 4, none⟩ = some (.bool D.down) := nA.cell 4
  go_wp2_with fail
  refine hC.mono ?_
  rintro e w13 ⟨v13, rfl, hO13, hb13⟩
  clear hC
  clear nA0 nA1 nA2 nA3 nA4
  have zw13 := hb13.size
  replace nA := nA.below hb13
  replace nx := nx.below hb13
  replace hBw := hBw.trans (hb13.mono hBw.size)
  replace hB0 := hB0.trans (hb13.mono hB0.size)
  replace hIh := hIh.up (Up.ofBelow hb13)
  clear hb13
  have hC := hP w13 v13 hf hO13.view
  go_wp2_with fail
  refine hC.mono ?_
  rintro e w14 ⟨v14, rfl, hO14, hb14⟩
  clear hC hO13 hP
  have zw14 := hb14.size
  replace nA := nA.below hb14
  replace nx := nx.below hb14
  replace hBw := hBw.trans (hb14.mono hBw.size)
  replace hB0 := hB0.trans (hb14.mono hB0.size)
  replace hIh := hIh.up (Up.ofBelow hb14)
  clear hb14
  have hC := eqLV_any _ _ l w14 hO14.lv (hV0.below hB0) hl
  go_wp2_with fail
  refine hC.mono ?_
  rintro e w15 ⟨rfl, hb15⟩
  clear hC
  clear hO14
  have zw15 := hb15.size
  replace nA := nA.below hb15
  replace nx := nx.below hb15
  replace hBw := hBw.trans (hb15.mono hBw.size)
  replace hB0 := hB0.trans (hb15.mono hB0.size)
  replace hIh := hIh.up (Up.ofBelow hb15)
  clear hb15
  have hC := heldOZ_any _ (w4.heap.size + 1) l.length 1 w15 hIh (by omega) (by omega)
  rw [hkg.out] at hC
  go_wp2_with fail
  refine hC.mono ?_
  rintro e w16 ⟨rfl, hbw16⟩
  clear hC
  have zw16 := hbw16.size
  replace nA := nA.below hbw16
  replace nx := nx.below hbw16
  replace hBw := hBw.trans (hbw16.mono hBw.size)
  replace hB0 := hB0.trans (hbw16.mono hB0.size)
  replace hIh := hIh.up (Up.ofBelow hbw16)
  clear hbw16
  have HB : Hid (Below w.heap.size w w16) := hBw
  clear nA nx hIh hB0 hV0 hv hBw
  go_wp2
  go_ret
  exact ⟨rfl, HB.out⟩
end Go.Proofs.Ytphipmhibegbnaa

/-
  What is read of bytes as a number, plainly: of n bytes (f), from the place p on.
-/
namespace Go.Proofs.Ytphipmhibegbnaa

def getU (n : Nat) (f : Nat → Int) (p : Int) : Int × Int × Bool :=
  if p < 0 ∨ (n : Int) ≤ p then (0, 0, false)
  else if f p.toNat < 128 then (f p.toNat, p + 1, true)
  else if n ≤ p.toNat + 1 then (0, 0, false)
  else if f (p.toNat + 1) < 128 then (if f (p.toNat + 1) = 0 then (0, 0, false) else (f p.toNat - 128 + f (p.toNat + 1) * 128, p + 2, true))
  else if n ≤ p.toNat + 2 then (0, 0, false)
  else if f (p.toNat + 2) < 128 then
    (if f (p.toNat + 2) = 0 ∨ 1000000 < f p.toNat - 128 + (f (p.toNat + 1) - 128) * 128 + f (p.toNat + 2) * 16384 then (0, 0, false)
     else (f p.toNat - 128 + (f (p.toNat + 1) - 128) * 128 + f (p.toNat + 2) * 16384, p + 3, true))
  else (0, 0, false)

theorem getU_neg (n : Nat) (f : Nat → Int) (p : Int) (h : p < 0) : getU n f p = (0, 0, false) := by
  unfold getU; rw [if_pos (Or.inl h)]
theorem getU_past (n : Nat) (f : Nat → Int) (i : Nat) (h : n ≤ i) : getU n f (i : Int) = (0, 0, false) := by
  unfold getU; rw [if_pos (Or.inr (by omega))]
section
variable (n : Nat) (f : Nat → Int) (i : Nat)
theorem getU_in (h : i < n) : ¬ ((i : Int) < 0 ∨ (n : Int) ≤ (i : Int)) := by omega
theorem getU_1 (h : i < n) (h1 : f i < 128) : getU n f (i : Int) = (f i, (i : Int) + 1, true) := by
  unfold getU; rw [if_neg (getU_in n i h), Int.toNat_natCast, if_pos h1]
theorem getU_2end (h : i < n) (h1 : 128 ≤ f i) (h2 : n ≤ i + 1) : getU n f (i : Int) = (0, 0, false) := by
  unfold getU; rw [if_neg (getU_in n i h), Int.toNat_natCast, if_neg (by omega), if_pos h2]
theorem getU_2zero (h : i + 1 < n) (h1 : 128 ≤ f i) (h2 : f (i + 1) = 0) : getU n f (i : Int) = (0, 0, false) := by
  unfold getU; rw [if_neg (getU_in n i (by omega)), Int.toNat_natCast, if_neg (by omega), if_neg (by omega), if_pos (by omega), if_pos h2]
theorem getU_2 (h : i + 1 < n) (h1 : 128 ≤ f i) (h2 : f (i + 1) < 128) (h3 : f (i + 1) ≠ 0) : getU n f (i : Int) = (f i - 128 + f (i + 1) * 128, (i : Int) + 2, true) := by
  unfold getU; rw [if_neg (getU_in n i (by omega)), Int.toNat_natCast, if_neg (by omega), if_neg (by omega), if_pos (by omega), if_neg h3]
theorem getU_3end (h : i + 1 < n) (h1 : 128 ≤ f i) (h2 : 128 ≤ f (i + 1)) (h3 : n ≤ i + 2) : getU n f (i : Int) = (0, 0, false) := by
  unfold getU; rw [if_neg (getU_in n i (by omega)), Int.toNat_natCast, if_neg (by omega), if_neg (by omega), if_neg (by omega), if_pos h3]
theorem getU_3no (h : i + 2 < n) (h1 : 128 ≤ f i) (h2 : 128 ≤ f (i + 1)) (h3 : f (i + 2) < 128) (h4 : f (i + 2) = 0 ∨ 1000000 < f i - 128 + (f (i + 1) - 128) * 128 + f (i + 2) * 16384) : getU n f (i : Int) = (0, 0, false) := by
  unfold getU; rw [if_neg (getU_in n i (by omega)), Int.toNat_natCast, if_neg (by omega), if_neg (by omega), if_neg (by omega), if_neg (by omega), if_pos h3, if_pos h4]
theorem getU_3 (h : i + 2 < n) (h1 : 128 ≤ f i) (h2 : 128 ≤ f (i + 1)) (h3 : f (i + 2) < 128) (h4 : ¬ (f (i + 2) = 0 ∨ 1000000 < f i - 128 + (f (i + 1) - 128) * 128 + f (i + 2) * 16384)) :
    getU n f (i : Int) = (f i - 128 + (f (i + 1) - 128) * 128 + f (i + 2) * 16384, (i : Int) + 3, true) := by
  unfold getU; rw [if_neg (getU_in n i (by omega)), Int.toNat_natCast, if_neg (by omega), if_neg (by omega), if_neg (by omega), if_neg (by omega), if_pos h3, if_neg h4]
theorem getU_long (h : i + 2 < n) (h1 : 128 ≤ f i) (h2 : 128 ≤ f (i + 1)) (h3 : 128 ≤ f (i + 2)) : getU n f (i : Int) = (0, 0, false) := by
  unfold getU; rw [if_neg (getU_in n i (by omega)), Int.toNat_natCast, if_neg (by omega), if_neg (by omega), if_neg (by omega), if_neg (by omega), if_neg (by omega)]
end
end Go.Proofs.Ytphipmhibegbnaa

/-
  Bytes as a string: what 'string(b)' comes to at a slice of bytes that reads.
-/
namespace Go.Proofs.Ytphipmhibegbnaa
open Go.RowKit
set_option maxRecDepth 4000

theorem conv_view {w : World} {b off n cap : Nat} {f : Nat → Int} (hv : View w (some ⟨b, off, none⟩) n cap f) :
    (convert 28 9 (.slice (some ⟨b, off, none⟩) n cap)).run Try.prog w = .ok (.string (strOfNums (lof n f))) w := by
  refine run_convert_bytes_arg w 28 5 Try.underlying28 Try.underlying5 b off n cap (lof n f) (lof_len n f) ?_ 9 Try.underlying9
  intro i hi
  obtain ⟨b', off', e, _, hc⟩ := hv.cells (by omega)
  simp only [Option.some.injEq, Addr.mk.injEq, and_true] at e
  obtain ⟨rfl, rfl⟩ := e
  rw [hc i hi, lof_get n f i hi]

theorem strOfNums_inj {xs ys : List Int} (hx : ∀ y ∈ xs, 0 ≤ y ∧ y ≤ 255) (hy : ∀ y ∈ ys, 0 ≤ y ∧ y ≤ 255) (h : strOfNums xs = strOfNums ys) : xs = ys := by
  have h1 : xs.map (fun n => UInt8.ofNat n.toNat) = ys.map (fun n => UInt8.ofNat n.toNat) := by
    rw [← strOfNums_data, ← strOfNums_data, h]
  have key : ∀ a b : Int, 0 ≤ a ∧ a ≤ 255 → 0 ≤ b ∧ b ≤ 255 → UInt8.ofNat a.toNat = UInt8.ofNat b.toNat → a = b := by
    intro a b ha hb e
    have := congrArg UInt8.toNat e
    simp at this
    omega
  clear h
  induction xs generalizing ys with
  | nil => cases ys with
    | nil => rfl
    | cons y ys => simp at h1
  | cons x xs ih => cases ys with
    | nil => simp at h1
    | cons y ys =>
      simp only [List.map_cons, List.cons.injEq] at h1
      rw [key x y (hx x (by simp)) (hy y (by simp)) h1.1, ih (fun z hz => hx z (by simp [hz])) (fun z hz => hy z (by simp [hz])) h1.2]

end Go.Proofs.Ytphipmhibegbnaa

/-
  What is read as a text, plainly.
-/
namespace Go.Proofs.Ytphipmhibegbnaa
open Go.RowKit
set_option maxRecDepth 4000

theorem getU_bd {n : Nat} {f : Nat → Int} {p a q : Int} (hf : ∀ i, i < n → 0 ≤ f i ∧ f i ≤ 255) (h : getU n f p = (a, q, true)) : 0 ≤ a ∧ a ≤ 1000000 ∧ 0 ≤ q ∧ q ≤ n := by
  unfold getU at h
  by_cases h0 : p < 0 ∨ (n : Int) ≤ p
  · rw [if_pos h0] at h; cases h
  rw [if_neg h0] at h
  have b0 := hf p.toNat (by omega)
  by_cases h1 : f p.toNat < 128
  · rw [if_pos h1] at h; cases h; omega
  rw [if_neg h1] at h
  by_cases h2 : n ≤ p.toNat + 1
  · rw [if_pos h2] at h; cases h
  rw [if_neg h2] at h
  have b1 := hf (p.toNat + 1) (by omega)
  by_cases h3 : f (p.toNat + 1) < 128
  · rw [if_pos h3] at h
    by_cases h4 : f (p.toNat + 1) = 0
    · rw [if_pos h4] at h; cases h
    · rw [if_neg h4] at h; cases h; omega
  rw [if_neg h3] at h
  by_cases h5 : n ≤ p.toNat + 2
  · rw [if_pos h5] at h; cases h
  rw [if_neg h5] at h
  have b2 := hf (p.toNat + 2) (by omega)
  by_cases h6 : f (p.toNat + 2) < 128
  · rw [if_pos h6] at h
    by_cases h7 : f (p.toNat + 2) = 0 ∨ 1000000 < f p.toNat - 128 + (f (p.toNat + 1) - 128) * 128 + f (p.toNat + 2) * 16384
    · rw [if_pos h7] at h; cases h
    · rw [if_neg h7] at h; cases h; omega
  rw [if_neg h6] at h; cases h

/-- What is read as a text. -/
def getText (n : Nat) (f : Nat → Int) (p : Int) : ByteArray × Int × Bool :=
  if (getU n f p).2.2 = true ∧ (getU n f p).1 ≤ n - (getU n f p).2.1 then (strOfNums (lof (getU n f p).1.toNat (fun i => f ((getU n f p).2.1.toNat + i))), (getU n f p).2.1 + (getU n f p).1, true) else (strOfNums [], 0, false)

theorem View.cut {w : World} {b off n cap m k : Nat} {f : Nat → Int} (h : View w (some ⟨b, off, none⟩) n cap f) (hm : k + m ≤ n) : View w (some ⟨b, off + k, none⟩) m (cap - k) (fun i => f (k + i)) := by
  have := h.le
  refine ⟨by omega, fun i hi => h.byte (k + i) (by omega), fun h0 => ?_⟩
  obtain ⟨b', off', e, hb, hc⟩ := h.cells (by omega)
  simp only [Option.some.injEq, Addr.mk.injEq, and_true] at e
  obtain ⟨rfl, rfl⟩ := e
  exact ⟨b, off + k, rfl, hb, fun i hi => by rw [Nat.add_assoc]; exact hc (k + i) (by omega)⟩

theorem retT {s s' : ByteArray} {b b' : Int} {c c' : Bool} (h1 : s = s') (h2 : b = b') (h3 : c = c') :
    Ending.returned (.tuple #[.string s, .int .i64 b, .bool c]) = .returned (.tuple #[.string s', .int .i64 b', .bool c']) := by rw [h1, h2, h3]

end Go.Proofs.Ytphipmhibegbnaa

/-
  A text and its bytes as numbers, there and back.
-/
namespace Go.Proofs.Ytphipmhibegbnaa
open Go.RowKit
set_option maxRecDepth 4000

theorem strOfNums_sl (s : ByteArray) : strOfNums (sl s) = s := by
  apply ByteArray.ext
  apply Array.ext'
  show ((sl s).map fun n => UInt8.ofNat n.toNat) = s.data.toList
  unfold sl
  rw [List.map_map]
  conv => rhs; rw [← List.map_id s.data.toList]
  apply List.map_congr_left
  intro b _
  simp
theorem sl_strOfNums {t : List Int} (h : ∀ y ∈ t, 0 ≤ y ∧ y ≤ 255) : sl (strOfNums t) = t :=
  strOfNums_inj (sl_byte _) h (strOfNums_sl _)
end Go.Proofs.Ytphipmhibegbnaa

/-
  What was put comes back, plainly: a number of its groups, a text of its bytes; cut by one byte the number does not.
-/
namespace Go.Proofs.Ytphipmhibegbnaa
open Go.RowKit
set_option maxRecDepth 4000

theorem getD_left (l k : List Int) (i : Nat) (h : i < l.length) : (l ++ k).getD i 0 = l.getD i 0 := by
  rw [List.getD_eq_getElem?_getD, List.getD_eq_getElem?_getD, List.getElem?_append_left h]
theorem getD_right (l k : List Int) (i : Nat) : (l ++ k).getD (l.length + i) 0 = k.getD i 0 := by
  rw [List.getD_eq_getElem?_getD, List.getD_eq_getElem?_getD, List.getElem?_append_right (by omega)]
  congr 2
  omega

/-- A number that lies as its groups from n on is read there. -/
theorem getU_put (n N : Nat) (F : Nat → Int) (x : Int) (h0 : 0 ≤ x) (h1 : x ≤ 1000000) (hF : ∀ i, i < (groups x).length → F (n + i) = (groups x).getD i 0) (hN : n + (groups x).length ≤ N) :
    getU N F (n : Int) = (x, (n : Int) + (groups x).length, true) := by
  by_cases a : x < 128
  · have e : groups x = [x] := by unfold groups; rw [if_pos a]
    rw [e] at hF hN ⊢
    have f0 : F n = x := by have := hF 0 (by simp); simpa using this
    simp only [List.length_cons, List.length_nil] at hN
    rw [getU_1 N F n (by omega) (by omega), f0]
    rfl
  · by_cases b : x < 16384
    · have e : groups x = [x % 128 + 128, x / 128] := by unfold groups; rw [if_neg a, if_pos b]
      rw [e] at hF hN ⊢
      have f0 : F n = x % 128 + 128 := by have := hF 0 (by simp); simpa using this
      have f1 : F (n + 1) = x / 128 := by have := hF 1 (by simp); simpa using this
      simp only [List.length_cons, List.length_nil] at hN
      rw [getU_2 N F n (by omega) (by omega) (by omega) (by omega), f0, f1]
      have : x % 128 + 128 - 128 + x / 128 * 128 = x := by omega
      rw [this]
      rfl
    · have e : groups x = [x % 128 + 128, x / 128 % 128 + 128, x / 16384] := by unfold groups; rw [if_neg a, if_neg b]
      rw [e] at hF hN ⊢
      have f0 : F n = x % 128 + 128 := by have := hF 0 (by simp); simpa using this
      have f1 : F (n + 1) = x / 128 % 128 + 128 := by have := hF 1 (by simp); simpa using this
      have f2 : F (n + 2) = x / 16384 := by have := hF 2 (by simp); simpa using this
      simp only [List.length_cons, List.length_nil] at hN
      have v : F n - 128 + (F (n + 1) - 128) * 128 + F (n + 2) * 16384 = x := by rw [f0, f1, f2]; omega
      rw [getU_3 N F n (by omega) (by omega) (by omega) (by omega) (by omega), v]
      rfl

theorem getU_cutoff (n N : Nat) (F : Nat → Int) (x : Int) (_h0 : 0 ≤ x) (hF : ∀ i, i < (groups x).length → F (n + i) = (groups x).getD i 0) (hN : n + (groups x).length = N + 1) :
    getU N F (n : Int) = (0, 0, false) := by
  by_cases a : x < 128
  · have e : groups x = [x] := by unfold groups; rw [if_pos a]
    rw [e] at hN
    simp only [List.length_cons, List.length_nil] at hN
    exact getU_past N F n (by omega)
  · by_cases b : x < 16384
    · have e : groups x = [x % 128 + 128, x / 128] := by unfold groups; rw [if_neg a, if_pos b]
      rw [e] at hF hN
      have f0 : F n = x % 128 + 128 := by have := hF 0 (by simp); simpa using this
      simp only [List.length_cons, List.length_nil] at hN
      exact getU_2end N F n (by omega) (by omega) (by omega)
    · have e : groups x = [x % 128 + 128, x / 128 % 128 + 128, x / 16384] := by unfold groups; rw [if_neg a, if_neg b]
      rw [e] at hF hN
      have f0 : F n = x % 128 + 128 := by have := hF 0 (by simp); simpa using this
      have f1 : F (n + 1) = x / 128 % 128 + 128 := by have := hF 1 (by simp); simpa using this
      simp only [List.length_cons, List.length_nil] at hN
      exact getU_3end N F n (by omega) (by omega) (by omega) (by omega)

/-- A text that was put comes back. -/
theorem getText_put (n : Nat) (f : Nat → Int) (s : ByteArray) (hs : s.size ≤ 1000000) :
    getText (n + (groups (clampN s.size)).length + s.size) (fun i => (textL n f s).getD i 0) (n : Int) = (s, ((n + (groups (clampN s.size)).length + s.size : Nat) : Int), true) := by
  have hc : clampN s.size = s.size := by unfold clampN; rw [if_neg (by omega), if_neg (by omega)]
  rw [hc]
  have e1 : ∀ i, i < (groups s.size).length → (textL n f s).getD (n + i) 0 = (groups s.size).getD i 0 := by
    intro i hi
    unfold textL
    rw [hc, List.append_assoc]
    have := getD_right (lof n f) (groups s.size ++ sl s) i
    rw [lof_len] at this
    rw [this, getD_left _ _ _ hi]
  have hu := getU_put n (n + (groups s.size).length + s.size) (fun i => (textL n f s).getD i 0) s.size (by omega) (by omega) e1 (by omega)
  have e2 : ∀ i, (textL n f s).getD (n + (groups s.size).length + i) 0 = (sl s).getD i 0 := by
    intro i
    unfold textL
    rw [hc]
    have := getD_right (lof n f ++ groups s.size) (sl s) i
    rw [List.length_append, lof_len] at this
    exact this
  unfold getText
  rw [hu]
  have et : ((n : Int) + ((groups s.size).length : Int)).toNat = n + (groups s.size).length := by omega
  rw [if_pos ⟨rfl, by show (s.size : Int) ≤ _; push_cast; omega⟩]
  simp only [Int.toNat_natCast, et]
  have el : lof s.size (fun i => (textL n f s).getD (n + (groups s.size).length + i) 0) = sl s := by
    have h1 := lof_self (sl s)
    rw [sl_len] at h1
    rw [← h1]
    unfold lof
    apply List.map_congr_left
    intro i _
    exact e2 i
  rw [el, strOfNums_sl]
  simp only [Prod.mk.injEq, true_and, and_true]
  push_cast
  omega
end Go.Proofs.Ytphipmhibegbnaa

/-
  Lists of a function's first values are alike just where it is.
-/
namespace Go.Proofs.Ytphipmhibegbnaa
open Go.RowKit
set_option maxRecDepth 4000

theorem lof_eq {n : Nat} {f g : Nat → Int} : lof n f = lof n g ↔ ∀ i, i < n → f i = g i := by
  constructor
  · intro h i hi
    rw [← lof_get n f i hi, ← lof_get n g i hi, h]
  · intro h
    unfold lof
    apply List.map_congr_left
    intro i hi
    exact h i (List.mem_range.1 hi)
end Go.Proofs.Ytphipmhibegbnaa

/-
  What stands at a place of bytes, what is read there: numbers and texts.
-/
namespace Go.Proofs.Ytphipmhibegbnaa
open Go.RowKit
set_option maxRecDepth 4000

/-- The bytes L stand at place i of the N bytes F. -/
structure AtF (N : Nat) (F : Nat → Int) (i : Nat) (L : List Int) : Prop where
  le : i + L.length ≤ N
  at' : ∀ j, j < L.length → F (i + j) = L.getD j 0
theorem AtF.left {N : Nat} {F : Nat → Int} {i : Nat} {L K : List Int} (h : AtF N F i (L ++ K)) : AtF N F i L :=
  ⟨by have := h.le; rw [List.length_append] at this; omega, fun j hj => by rw [h.at' j (by rw [List.length_append]; omega), getD_left _ _ _ hj]⟩
theorem AtF.right {N : Nat} {F : Nat → Int} {i : Nat} {L K : List Int} (h : AtF N F i (L ++ K)) : AtF N F (i + L.length) K :=
  ⟨by have := h.le; rw [List.length_append] at this; omega, fun j hj => by rw [Nat.add_assoc, h.at' (L.length + j) (by rw [List.length_append]; omega), getD_right]⟩
theorem AtF.append {N : Nat} {F : Nat → Int} {i : Nat} {L K : List Int} (h : AtF N F i L) (k : AtF N F (i + L.length) K) : AtF N F i (L ++ K) :=
  ⟨by have := k.le; rw [List.length_append]; omega, fun j hj => by
    rw [List.length_append] at hj
    by_cases e : j < L.length
    · rw [h.at' j e, getD_left _ _ _ e]
    · obtain ⟨m, rfl⟩ : ∃ m, j = L.length + m := ⟨j - L.length, by omega⟩
      rw [← Nat.add_assoc, k.at' m (by omega), getD_right]⟩
theorem AtF.nil {N : Nat} {F : Nat → Int} {i : Nat} (h : i ≤ N) : AtF N F i [] := ⟨by simpa using h, fun j hj => absurd hj (Nat.not_lt_zero _)⟩
/-- It is these bytes. -/
theorem AtF.lof {N : Nat} {F : Nat → Int} {i : Nat} {L : List Int} (h : AtF N F i L) : lof L.length (fun j => F (i + j)) = L := by
  rw [← lof_self L]
  conv => lhs; rw [show (Go.Proofs.Ytphipmhibegbnaa.lof L.length fun i => L.getD i 0).length = L.length by rw [lof_len]]
  rw [lof_eq]
  exact fun j hj => h.at' j hj
theorem AtF.ofLof {N : Nat} {F : Nat → Int} {i : Nat} {L : List Int} (hle : i + L.length ≤ N) (h : L = Go.Proofs.Ytphipmhibegbnaa.lof L.length (fun j => F (i + j))) : AtF N F i L :=
  ⟨hle, fun j hj => by
    conv => rhs; rw [h]
    rw [lof_get _ _ _ hj]⟩

theorem getU_at {N : Nat} {F : Nat → Int} {i : Nat} {x : Int} (h0 : 0 ≤ x) (h1 : x ≤ 1000000) (h : AtF N F i (groups x)) : getU N F (i : Int) = (x, (i : Int) + ((groups x).length : Int), true) :=
  getU_put i N F x h0 h1 h.at' h.le
theorem getU_read {N : Nat} {F : Nat → Int} {p a q : Int} (hb : ∀ i, i < N → 0 ≤ F i ∧ F i ≤ 255) (h : getU N F p = (a, q, true)) : ∃ i : Nat, p = (i : Int) ∧ AtF N F i (groups a) ∧ q = (i : Int) + ((groups a).length : Int) ∧ 0 ≤ a ∧ a ≤ 1000000 := by
  obtain ⟨ha0, ha1, -, -⟩ := getU_bd hb h
  by_cases h1 : p < 0 ∨ (N : Int) ≤ p
  · unfold getU at h; rw [if_pos h1] at h; cases h
  obtain ⟨i, rfl⟩ := Int.eq_ofNat_of_zero_le (a := p) (by omega)
  have hin : i < N := by omega
  have b0 := hb i hin
  refine ⟨i, rfl, ?_⟩
  by_cases c1 : F i < 128
  · rw [getU_1 N F i hin c1] at h
    cases h
    have e : groups (F i) = [F i] := groups_last _ c1
    rw [e]
    refine ⟨⟨by simp; omega, fun j hj => ?_⟩, rfl, ha0, ha1⟩
    match j, hj with
    | 0, _ => rfl
  by_cases c2 : N ≤ i + 1
  · rw [getU_2end N F i hin (by omega) c2] at h; cases h
  have b1 := hb (i + 1) (by omega)
  by_cases c3 : F (i + 1) < 128
  · by_cases c4 : F (i + 1) = 0
    · rw [getU_2zero N F i (by omega) (by omega) c4] at h; cases h
    rw [getU_2 N F i (by omega) (by omega) c3 c4] at h
    cases h
    have e : groups (F i - 128 + F (i + 1) * 128) = [F i, F (i + 1)] := by
      unfold groups
      rw [if_neg (by omega), if_pos (by omega)]
      congr 1
      · omega
      · congr 1; omega
    rw [e]
    refine ⟨⟨by simp; omega, fun j hj => ?_⟩, rfl, ha0, ha1⟩
    match j, hj with
    | 0, _ => rfl
    | 1, _ => rfl
  by_cases c5 : N ≤ i + 2
  · rw [getU_3end N F i (by omega) (by omega) (by omega) c5] at h; cases h
  have b2 := hb (i + 2) (by omega)
  by_cases c6 : F (i + 2) < 128
  · by_cases c7 : F (i + 2) = 0 ∨ 1000000 < F i - 128 + (F (i + 1) - 128) * 128 + F (i + 2) * 16384
    · rw [getU_3no N F i (by omega) (by omega) (by omega) c6 c7] at h; cases h
    rw [getU_3 N F i (by omega) (by omega) (by omega) c6 c7] at h
    cases h
    have e : groups (F i - 128 + (F (i + 1) - 128) * 128 + F (i + 2) * 16384) = [F i, F (i + 1), F (i + 2)] := by
      unfold groups
      rw [if_neg (by omega), if_neg (by omega)]
      congr 1
      · omega
      · congr 1
        · omega
        · congr 1; omega
    rw [e]
    refine ⟨⟨by simp; omega, fun j hj => ?_⟩, rfl, ha0, ha1⟩
    match j, hj with
    | 0, _ => rfl
    | 1, _ => rfl
    | 2, _ => rfl
  · rw [getU_long N F i (by omega) (by omega) (by omega) (by omega)] at h; cases h

/-- A text as bytes. -/
def txtL (s : ByteArray) : List Int := groups s.size ++ sl s
theorem getText_at {N : Nat} {F : Nat → Int} {i : Nat} {s : ByteArray} (hs : s.size ≤ 1000000) (h : AtF N F i (txtL s)) : getText N F (i : Int) = (s, (i : Int) + ((txtL s).length : Int), true) := by
  have h1 := getU_at (x := s.size) (by omega) (by omega) h.left
  have h2 := h.right
  have hl2 := h2.le
  rw [sl_len] at hl2
  unfold getText
  rw [h1]
  simp only
  rw [if_pos ⟨trivial, by omega⟩]
  have e : (i : Int) + ((groups s.size).length : Int) = ((i + (groups (s.size : Int)).length : Nat) : Int) := by push_cast; rfl
  rw [e]
  simp only [Int.toNat_natCast]
  have e2 := h2.lof
  rw [sl_len] at e2
  rw [e2, strOfNums_sl]
  refine Prod.ext rfl (Prod.ext ?_ rfl)
  show _ = _
  unfold txtL
  rw [List.length_append, sl_len]
  push_cast
  omega
theorem getText_read {N : Nat} {F : Nat → Int} {p q : Int} {s : ByteArray} (hb : ∀ i, i < N → 0 ≤ F i ∧ F i ≤ 255) (h : getText N F p = (s, q, true)) : ∃ i : Nat, p = (i : Int) ∧ AtF N F i (txtL s) ∧ q = (i : Int) + ((txtL s).length : Int) ∧ s.size ≤ 1000000 := by
  unfold getText at h
  by_cases c : (getU N F p).2.2 = true ∧ (getU N F p).1 ≤ N - (getU N F p).2.1
  · rw [if_pos c] at h
    obtain ⟨a, q1, ok, hu⟩ : ∃ a q1 ok, getU N F p = (a, q1, ok) := ⟨_, _, _, rfl⟩
    rw [hu] at c h
    simp only at c h
    obtain ⟨rfl, hle⟩ := c
    obtain ⟨i, rfl, hA, rfl, h0, h1⟩ := getU_read hb hu
    obtain ⟨A, rfl⟩ := Int.eq_ofNat_of_zero_le h0
    have e : (i : Int) + ((groups (A : Int)).length : Int) = ((i + (groups (A : Int)).length : Nat) : Int) := by push_cast; rfl
    rw [e] at h hle
    simp only [Int.toNat_natCast, Prod.mk.injEq, and_true] at h
    obtain ⟨hs, hq⟩ := h
    have hbl : ∀ y ∈ Go.Proofs.Ytphipmhibegbnaa.lof A (fun j => F (i + (groups (A : Int)).length + j)), 0 ≤ y ∧ y ≤ 255 := by
      intro y hy
      obtain ⟨j, hj, rfl⟩ := List.mem_map.1 hy
      exact hb _ (by have := List.mem_range.1 hj; omega)
    have hsl : sl s = Go.Proofs.Ytphipmhibegbnaa.lof A (fun j => F (i + (groups (A : Int)).length + j)) := by
      rw [← hs]; exact sl_strOfNums hbl
    have hsz : s.size = A := by rw [← sl_len, hsl, lof_len]
    refine ⟨i, rfl, ?_, ?_, by omega⟩
    · unfold txtL
      rw [hsz]
      refine hA.append ⟨by rw [sl_len, hsz]; omega, fun j hj => ?_⟩
      rw [sl_len, hsz] at hj
      rw [hsl, lof_get _ _ _ hj]
    · rw [← hq]
      unfold txtL
      rw [List.length_append, sl_len, hsz]
      push_cast
      omega
  · rw [if_neg c] at h
    simp at h
end Go.Proofs.Ytphipmhibegbnaa

