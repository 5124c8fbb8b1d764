/-
  Together: LawFormat, DiskIn
-/
import Derived.Test.YtficmogjpnmfdaaFM11
import Derived.Test.YtficmogjpnmfdaaFM5
import Derived.Deep.RegionHeld3
import Derived.Test.YtficmogjpnmfdaaFM4
import Derived.Deep.Strs
import Derived.ChangeSame
import Derived.Lib.SmallJoins
/-
  The law FnExactFormat, walked.
-/
namespace Go.Proofs.Ytficmogjpnmfdaa
open Go.RowKit
set_option maxRecDepth 4000

theorem Up.mono {B B' : Nat} {w w' : World} (h : Up B w w') (hB : B ≤ B') : Up B' w w' := ⟨h.1, fun k hk hl => h.2 k (Nat.le_trans hB hk) hl⟩
theorem fview_of_rl {w : World} {B g : Nat} {l : List PFault} (h : RL 60 w B (some ⟨g, 0, none⟩) (fcells l)) : FView w (some ⟨g, 0, none⟩) l.length l := by
  refine ⟨Nat.le_refl _, (fun e => by cases e), fun hn => ?_⟩
  obtain ⟨g', ea, -, hlt, hc⟩ := h.cell (by rw [fcells_len]; omega)
  cases ea
  refine ⟨g, 0, rfl, hlt, fun i x hi => ⟨fEl x, rfl, fun j u hj => ?_⟩⟩
  have hj3 : j < 3 := (List.getElem?_eq_some_iff.1 hj).1
  have g0 := fcells_get hi hj3
  rw [hj] at g0
  simpa using hc _ _ g0
set_option maxHeartbeats 16000000 in
theorem lawFormat (n : Int) (a : Option Addr) (cap : Nat) (l : List PFault) (w : World) (hv : FView w a cap l) (hm : l.length ≤ maxLen) :
    Calls Try.prog 4 #[.int .i64 n, .slice a l.length cap] w fun e w' => e = .returned (.bool true) ∧ Below w.heap.size w w' := by
  have hBw : Below w.heap.size w w := Below.refl _ _
  have hZ := szFaultS_fine a l.length cap 1048576 w hm (by omega) (by omega)
  clear hm
  go_enter Try.func4, Try.ntmps4
  go_wp2_with fail
  refine hZ.mono ?_
  rintro e w1 ⟨L, rfl, hb1, hL⟩
  clear hZ
  have zw1 := hb1.size
  replace hBw := hBw.trans (hb1.mono hBw.size)
  rcases hL with rfl | ⟨hL0, hL1, hf⟩
  · have HB : Hid (Below w.heap.size w w1) := hBw
    clear hv hBw hb1
    go_wp2
    go_ret
    exact ⟨rfl, HB.out⟩
  have hLn : ¬ L < 0 := by omega
  have hf2 := fmtD_fine n l hf
  obtain ⟨D2, hD2⟩ := hidEx (fmtD n l)
  rw [hD2.out] at hf2
  clear hb1
  have hC := toFaultS_any a cap l w1 (fview_below hv hBw) hf
  go_wp2_with fail
  refine hC.mono ?_
  rintro e w2 ⟨rfl, hb2, -, hR2⟩
  clear hC
  have zw2 := hb2.size
  replace hBw := hBw.trans (hb2.mono hBw.size)
  clear hb2
  have hC := (specFormat_any n _ _ l w2 (fview_of_rl hR2) hf)
  go_wp2_with fail
  refine hC.mono ?_
  intro e w3 hTo
  obtain ⟨vw3, rfl, hO3, hbw3⟩ := hTo
  rw [hD2.out] at hO3
  clear hC
  have zw3 := hbw3.size
  replace hBw := hBw.trans (hbw3.mono hBw.size)
  clear hbw3
  clear hR2
  have hV0 : KView w3 vw3 D2 := hO3.view
  obtain ⟨p1, p2, p3, p4, p5, p6, -, -, rfl, -⟩ := hO3
  unfold dval at hV0 ⊢
  have hB0 : Below w3.heap.size w3 w3 := Below.refl _ _
  have hbA : Below w3.heap.size w3 (w3.alloc (.cells #[.slice p1 D2.secs.length p2, .slice p3 D2.cache.length p4, .int .i64 D2.ops, .slice p5 D2.faults.length p6, .bool D2.down] 35)) := (Below.refl _ _).alloc (Nat.le_refl _) _
  have nw : VN (w3.alloc (.cells #[.slice p1 D2.secs.length p2, .slice p3 D2.cache.length p4, .int .i64 D2.ops, .slice p5 D2.faults.length p6, .bool D2.down] 35)) w3.heap.size 35 [.slice p1 D2.secs.length p2, .slice p3 D2.cache.length p4, .int .i64 D2.ops, .slice p5 D2.faults.length p6, .bool D2.down] := VN.new w3 35 [.slice p1 D2.secs.length p2, .slice p3 D2.cache.length p4, .int .i64 D2.ops, .slice p5 D2.faults.length p6, .bool D2.down]
  have zanw : (w3.alloc (.cells #[.slice p1 D2.secs.length p2, .slice p3 D2.cache.length p4, .int .i64 D2.ops, .slice p5 D2.faults.length p6, .bool D2.down] 35)).heap.size = w3.heap.size + 1 := by simp
  replace hBw := hBw.trans (hbA.mono hBw.size)
  replace hB0 := hB0.trans (hbA.mono hB0.size)
  clear hbA
  have hC := toFaultS_any a cap l (w3.alloc (.cells #[.slice p1 D2.secs.length p2, .slice p3 D2.cache.length p4, .int .i64 D2.ops, .slice p5 D2.faults.length p6, .bool D2.down] 35)) (fview_below hv hBw) hf
  go_wp2_with fail
  refine hC.mono ?_
  rintro e w4 ⟨rfl, hb4, hl4, hR4⟩
  clear hC
  have zw4 := hb4.size
  replace nw := nw.below hb4
  replace hBw := hBw.trans (hb4.mono hBw.size)
  replace hB0 := hB0.trans (hb4.mono hB0.size)
  clear hb4
  simp only [zanw] at hR4 hl4 zw4 ⊢
  obtain ⟨gx, hgx⟩ := hidEx (w3.heap.size + 1)
  have hgv := hgx.out
  rw [hgx.out] at hR4 hl4 ⊢
  have hC := (implFormat_any n _ _ l w4 (fview_of_rl hR4) hf)
  go_wp2_with fail
  refine hC.mono ?_
  intro e w5 hTo
  obtain ⟨vw5, rfl, hO5, hbw5⟩ := hTo
  rw [hD2.out] at hO5
  clear hC
  have zw5 := hbw5.size
  replace nw := nw.below hbw5
  replace hBw := hBw.trans (hbw5.mono hBw.size)
  replace hB0 := hB0.trans (hbw5.mono hB0.size)
  replace hR4 := hR4.up (Up.ofBelow hbw5)
  clear hbw5
  have hIg := hO5.kin
  clear hO5
  obtain ⟨g1, g2, g3, g4, g5, g6, cg1, cg2, eg, -⟩ := id hIg
  subst eg
  unfold dval at hIg ⊢
  replace hR4 := hR4.up (Up.ofBelow (show Below w5.heap.size w5 (w5.alloc (.cells #[.slice g1 D2.secs.length g2, .slice g3 D2.cache.length g4, .int .i64 D2.ops, .slice g5 D2.faults.length g6, .bool D2.down] 35)) from (Below.refl _ _).alloc (Nat.le_refl _) _))
  have hbA : Below w5.heap.size w5 (w5.alloc (.cells #[.slice g1 D2.secs.length g2, .slice g3 D2.cache.length g4, .int .i64 D2.ops, .slice g5 D2.faults.length g6, .bool D2.down] 35)) := (Below.refl _ _).alloc (Nat.le_refl _) _
  have ng : VN (w5.alloc (.cells #[.slice g1 D2.secs.length g2, .slice g3 D2.cache.length g4, .int .i64 D2.ops, .slice g5 D2.faults.length g6, .bool D2.down] 35)) w5.heap.size 35 [.slice g1 D2.secs.length g2, .slice g3 D2.cache.length g4, .int .i64 D2.ops, .slice g5 D2.faults.length g6, .bool D2.down] := VN.new w5 35 [.slice g1 D2.secs.length g2, .slice g3 D2.cache.length g4, .int .i64 D2.ops, .slice g5 D2.faults.length g6, .bool D2.down]
  have zang : (w5.alloc (.cells #[.slice g1 D2.secs.length g2, .slice g3 D2.cache.length g4, .int .i64 D2.ops, .slice g5 D2.faults.length g6, .bool D2.down] 35)).heap.size = w5.heap.size + 1 := by simp
  replace nw := nw.below hbA
  replace hBw := hBw.trans (hbA.mono hBw.size)
  replace hB0 := hB0.trans (hbA.mono hB0.size)
  replace hIg := hIg.up (Up.ofBelow hbA)
  clear hbA
  have hC := eqDisk_same _ _ D2 (w5.alloc (.cells #[.slice g1 D2.secs.length g2, .slice g3 D2.cache.length g4, .int .i64 D2.ops, .slice g5 D2.faults.length g6, .bool D2.down] 35)) (hIg.own.view) (hV0.below hB0) hf2
  have ng0 : (w5.alloc (.cells #[.slice g1 D2.secs.length g2, .slice g3 D2.cache.length g4, .int .i64 D2.ops, .slice g5 D2.faults.length g6, .bool D2.down] 35)).cell? ⟨w5.heap.size, 0, none⟩ = some (.slice g1 D2.secs.length g2) := ng.cell 0
  have ng1 : (w5.alloc (.cells #[.slice g1 D2.secs.length g2, .slice g3 D2.cache.length g4, .int .i64 D2.ops, .slice g5 D2.faults.length g6, .bool D2.down] 35)).cell? ⟨w5.heap.size, 1, none⟩ = some (.slice g3 D2.cache.length g4) := ng.cell 1
  have ng2 : (w5.alloc (.cells #[.slice g1 D2.secs.length g2, .slice g3 D2.cache.length g4, .int .i64 D2.ops, .slice g5 D2.faults.length g6, .bool D2.down] 35)).cell? ⟨w5.heap.size, 2, none⟩ = some (.int .i64 D2.ops) := ng.cell 2
  have ng3 : (w5.alloc (.cells #[.slice g1 D2.secs.length g2, .slice g3 D2.cache.length g4, .int .i64 D2.ops, .slice g5 D2.faults.length g6, .bool D2.down] 35)).cell? ⟨w5.heap.size, 3, none⟩ = some (.slice g5 D2.faults.length g6) := ng.cell 3
  have ng4 : (w5.alloc (.cells #[.slice g1 D2.secs.length g2, .slice g3 D2.cache.length g4, .int .i64 D2.ops, .slice g5 D2.faults.length g6, .bool D2.down] 35)).cell? ⟨w5.heap.size, 4, none⟩ = some (.bool D2.down) := ng.cell 4
  have nw0 : (w5.alloc (.cells #[.slice g1 D2.secs.length g2, .slice g3 D2.cache.length g4, .int .i64 D2.ops, .slice g5 D2.faults.length g6, .bool D2.down] 35)).cell? ⟨w3.heap.size, 0, none⟩ = some (.slice p1 D2.secs.length p2) := nw.cell 0
  have nw1 : (w5.alloc (.cells #[.slice g1 D2.secs.length g2, .slice g3 D2.cache.length g4, .int .i64 D2.ops, .slice g5 D2.faults.length g6, .bool D2.down] 35)).cell? ⟨w3.heap.size, 1, none⟩ = some (.slice p3 D2.cache.length p4) := nw.cell 1
  have nw2 : (w5.alloc (.cells #[.slice g1 D2.secs.length g2, .slice g3 D2.cache.length g4, .int .i64 D2.ops, .slice g5 D2.faults.length g6, .bool D2.down] 35)).cell? ⟨w3.heap.size, 2, none⟩ = some (.int .i64 D2.ops) := nw.cell 2
  have nw3 : (w5.alloc (.cells #[.slice g1 D2.secs.length g2, .slice g3 D2.cache.length g4, .int .i64 D2.ops, .slice g5 D2.faults.length g6, .bool D2.down] 35)).cell? ⟨w3.heap.size, 3, none⟩ = some (.slice p5 D2.faults.length p6) := nw.cell 3
  have nw4 : (w5.alloc (.cells #[.slice g1 D2.secs.length g2, .slice g3 D2.cache.length g4, .int .i64 D2.ops, .slice g5 D2.faults.length g6, .bool D2.down] 35)).cell? ⟨w3.heap.size, 4, none⟩ = some (.bool D2.down) := nw.cell 4
  go_wp2_with fail
  refine hC.mono ?_
  rintro e w6 ⟨rfl, hb6⟩
  clear hC
  clear ng0 ng1 ng2 ng3 ng4
  clear nw0 nw1 nw2 nw3 nw4
  have zw6 := hb6.size
  replace nw := nw.below hb6
  replace ng := ng.below hb6
  replace hBw := hBw.trans (hb6.mono hBw.size)
  replace hB0 := hB0.trans (hb6.mono hB0.size)
  replace hIg := hIg.up (Up.ofBelow hb6)
  replace hR4 := hR4.up (Up.ofBelow hb6)
  clear hb6
  have hC := toFaultS_any a cap l w6 (fview_below hv hBw) hf
  go_wp2_with fail
  refine hC.mono ?_
  rintro e w7 ⟨rfl, hb7, -, hR7⟩
  clear hC
  have zw7 := hb7.size
  replace nw := nw.below hb7
  replace ng := ng.below hb7
  replace hBw := hBw.trans (hb7.mono hBw.size)
  replace hB0 := hB0.trans (hb7.mono hB0.size)
  replace hIg := hIg.up (Up.ofBelow hb7)
  replace hR4 := hR4.up (Up.ofBelow hb7)
  clear hb7
  have hC := eqFaultS_same _ _ _ _ l w7 (fview_of_rl hR4) (fview_of_rl hR7) hf
  go_wp2_with fail
  refine hC.mono ?_
  rintro e w8 ⟨rfl, hb8⟩
  clear hC
  have zw8 := hb8.size
  replace nw := nw.below hb8
  replace ng := ng.below hb8
  replace hBw := hBw.trans (hb8.mono hBw.size)
  replace hB0 := hB0.trans (hb8.mono hB0.size)
  replace hIg := hIg.up (Up.ofBelow hb8)
  replace hR4 := hR4.up (Up.ofBelow hb8)
  clear hb8 hR7
  have hC := markFaultS_any (some ⟨gx, 0, none⟩) l.length gx w4.heap.size l 1 w8 hR4 (fun _ g e => by cases e; exact hl4) hf (by omega) (by omega)
  go_wp2_with fail
  refine hC.mono ?_
  rintro e w9 ⟨rfl, -, hO, -, -⟩
  clear hC hR4
  have zw9 := hO.size
  replace nw := nw.block (hO.block _ nw.lt (by omega))
  replace ng := ng.block (hO.block _ ng.lt (by omega))
  replace hBw := hBw.trans ((hO.below (by omega)).mono (by omega))
  replace hB0 := hB0.trans ((hO.below (by omega)).mono (by omega))
  replace hIg := hIg.up ((hO.up).mono (by omega))
  clear hO
  obtain ⟨km, hkm⟩ := hidEx (1 + 3 * (l.length : Int))
  have hkmp : ¬ km < 0 := by have := hkm.out; omega
  rw [hkm.out]
  have hC := eqDisk_same _ _ D2 w9 (hIg.own.view) (hV0.below hB0) hf2
  have ng0 : w9.cell? ⟨w5.heap.size, 0, none⟩ = some (.slice g1 D2.secs.length g2) := ng.cell 0
  have ng1 : w9.cell? ⟨w5.heap.size, 1, none⟩ = some (.slice g3 D2.cache.length g4) := ng.cell 1
  have ng2 : w9.cell? ⟨w5.heap.size, 2, none⟩ = some (.int .i64 D2.ops) := ng.cell 2
  have ng3 : w9.cell? ⟨w5.heap.size, 3, none⟩ = some (.slice g5 D2.faults.length g6) := ng.cell 3
  have ng4 : w9.cell? ⟨w5.heap.size, 4, none⟩ = some (.bool D2.down) := ng.cell 4
  have nw0 : w9.cell? ⟨w3.heap.size, 0, none⟩ = some (.slice p1 D2.secs.length p2) := nw.cell 0
  have nw1 : w9.cell? ⟨w3.heap.size, 1, none⟩ = some (.slice p3 D2.cache.length p4) := nw.cell 1
  have nw2 : w9.cell? ⟨w3.heap.size, 2, none⟩ = some (.int .i64 D2.ops) := nw.cell 2
  have nw3 : w9.cell? ⟨w3.heap.size, 3, none⟩ = some (.slice p5 D2.faults.length p6) := nw.cell 3
  have nw4 : w9.cell? ⟨w3.heap.size, 4, none⟩ = some (.bool D2.down) := nw.cell 4
  go_wp2_with fail
  refine hC.mono ?_
  rintro e w10 ⟨rfl, hb10⟩
  clear hC
  clear ng0 ng1 ng2 ng3 ng4
  clear nw0 nw1 nw2 nw3 nw4
  have zw10 := hb10.size
  replace nw := nw.below hb10
  replace ng := ng.below hb10
  replace hBw := hBw.trans (hb10.mono hBw.size)
  replace hB0 := hB0.trans (hb10.mono hB0.size)
  replace hIg := hIg.up (Up.ofBelow hb10)
  clear hb10
  have hC := markDisk_any _ D2 (w4.heap.size) (w5.heap.size) 1 w10 hIg hf2 (by omega) (by omega)
  have ng0 : w10.cell? ⟨w5.heap.size, 0, none⟩ = some (.slice g1 D2.secs.length g2) := ng.cell 0
  have ng1 : w10.cell? ⟨w5.heap.size, 1, none⟩ = some (.slice g3 D2.cache.length g4) := ng.cell 1
  have ng2 : w10.cell? ⟨w5.heap.size, 2, none⟩ = some (.int .i64 D2.ops) := ng.cell 2
  have ng3 : w10.cell? ⟨w5.heap.size, 3, none⟩ = some (.slice g5 D2.faults.length g6) := ng.cell 3
  have ng4 : w10.cell? ⟨w5.heap.size, 4, none⟩ = some (.bool D2.down) := ng.cell 4
  go_wp2_with fail
  refine hC.mono ?_
  rintro e w11 ⟨rfl, hI, hO⟩
  clear hC
  clear ng0 ng1 ng2 ng3 ng4
  have zw11 := hO.size
  replace nw := nw.block (hO.block _ nw.lt (by omega))
  replace ng := ng.block (hO.block _ ng.lt (by omega))
  replace hBw := hBw.trans ((hO.below (by omega)).mono (by omega))
  replace hB0 := hB0.trans ((hO.below (by omega)).mono (by omega))
  clear hIg
  clear hO
  obtain ⟨kg, hkg⟩ := hidEx (1 + (szD D2 : Int))
  have hkgp : ¬ kg < 0 := by have := hkg.out; omega
  rw [hkg.out]
  have hIh := hI
  clear hI
  have hq : (kg != kg) = false := bne_self_eq_false _
  have hC := heldDisk_any _ D2 1 w11 hIh.own.view hf2 (by omega) (by omega)
  rw [hkg.out] at hC
  have ng0 : w11.cell? ⟨w5.heap.size, 0, none⟩ = some (.slice g1 D2.secs.length g2) := ng.cell 0
  have ng1 : w11.cell? ⟨w5.heap.size, 1, none⟩ = some (.slice g3 D2.cache.length g4) := ng.cell 1
  have ng2 : w11.cell? ⟨w5.heap.size, 2, none⟩ = some (.int .i64 D2.ops) := ng.cell 2
  have ng3 : w11.cell? ⟨w5.heap.size, 3, none⟩ = some (.slice g5 D2.faults.length g6) := ng.cell 3
  have ng4 : w11.cell? ⟨w5.heap.size, 4, none⟩ = some (.bool D2.down) := ng.cell 4
  go_wp2_with fail
  refine hC.mono ?_
  rintro e w12 ⟨rfl, hbw12⟩
  clear hC
  clear ng0 ng1 ng2 ng3 ng4
  have zw12 := hbw12.size
  replace nw := nw.below hbw12
  replace ng := ng.below hbw12
  replace hBw := hBw.trans (hbw12.mono hBw.size)
  replace hB0 := hB0.trans (hbw12.mono hB0.size)
  replace hIh := hIh.up (Up.ofBelow hbw12)
  clear hbw12
  have hC := toFaultS_any a cap l w12 (fview_below hv hBw) hf
  go_wp2_with fail
  refine hC.mono ?_
  rintro e w13 ⟨rfl, hb13, -, hR13⟩
  clear hC
  have zw13 := hb13.size
  replace nw := nw.below hb13
  replace ng := ng.below hb13
  replace hBw := hBw.trans (hb13.mono hBw.size)
  replace hB0 := hB0.trans (hb13.mono hB0.size)
  replace hIh := hIh.up (Up.ofBelow hb13)
  clear hb13
  have hC := (implFormat_any n _ _ l w13 (fview_of_rl hR13) hf)
  go_wp2_with fail
  refine hC.mono ?_
  intro e w14 hTo
  obtain ⟨vw14, rfl, hO14, hbw14⟩ := hTo
  rw [hD2.out] at hO14
  clear hC
  have zw14 := hbw14.size
  replace nw := nw.below hbw14
  replace ng := ng.below hbw14
  replace hBw := hBw.trans (hbw14.mono hBw.size)
  replace hB0 := hB0.trans (hbw14.mono hB0.size)
  replace hIh := hIh.up (Up.ofBelow hbw14)
  clear hbw14
  clear hR13
  have hVh : KView w14 vw14 D2 := hO14.view
  obtain ⟨q1, q2, q3, q4, q5, q6, -, -, rfl, -⟩ := hO14
  unfold dval at hVh ⊢
  have hBh : Below w14.heap.size w14 w14 := Below.refl _ _
  have hbA : Below w14.heap.size w14 (w14.alloc (.cells #[.slice q1 D2.secs.length q2, .slice q3 D2.cache.length q4, .int .i64 D2.ops, .slice q5 D2.faults.length q6, .bool D2.down] 35)) := (Below.refl _ _).alloc (Nat.le_refl _) _
  have nh : VN (w14.alloc (.cells #[.slice q1 D2.secs.length q2, .slice q3 D2.cache.length q4, .int .i64 D2.ops, .slice q5 D2.faults.length q6, .bool D2.down] 35)) w14.heap.size 35 [.slice q1 D2.secs.length q2, .slice q3 D2.cache.length q4, .int .i64 D2.ops, .slice q5 D2.faults.length q6, .bool D2.down] := VN.new w14 35 [.slice q1 D2.secs.length q2, .slice q3 D2.cache.length q4, .int .i64 D2.ops, .slice q5 D2.faults.length q6, .bool D2.down]
  have zanh : (w14.alloc (.cells #[.slice q1 D2.secs.length q2, .slice q3 D2.cache.length q4, .int .i64 D2.ops, .slice q5 D2.faults.length q6, .bool D2.down] 35)).heap.size = w14.heap.size + 1 := by simp
  replace nw := nw.below hbA
  replace ng := ng.below hbA
  replace hBw := hBw.trans (hbA.mono hBw.size)
  replace hB0 := hB0.trans (hbA.mono hB0.size)
  replace hBh := hBh.trans (hbA.mono hBh.size)
  replace hIh := hIh.up (Up.ofBelow hbA)
  clear hbA
  have hC := eqDisk_same _ _ D2 (w14.alloc (.cells #[.slice q1 D2.secs.length q2, .slice q3 D2.cache.length q4, .int .i64 D2.ops, .slice q5 D2.faults.length q6, .bool D2.down] 35)) (hVh.below hBh) (hV0.below hB0) hf2
  have nh0 : (w14.alloc (.cells #[.slice q1 D2.secs.length q2, .slice q3 D2.cache.length q4, .int .i64 D2.ops, .slice q5 D2.faults.length q6, .bool D2.down] 35)).cell? ⟨w14.heap.size, 0, none⟩ = some (.slice q1 D2.secs.length q2) := nh.cell 0
  have nh1 : (w14.alloc (.cells #[.slice q1 D2.secs.length q2, .slice q3 D2.cache.length q4, .int .i64 D2.ops, .slice q5 D2.faults.length q6, .bool D2.down] 35)).cell? ⟨w14.heap.size, 1, none⟩ = some (.slice q3 D2.cache.length q4) := nh.cell 1
  have nh2 : (w14.alloc (.cells #[.slice q1 D2.secs.length q2, .slice q3 D2.cache.length q4, .int .i64 D2.ops, .slice q5 D2.faults.length q6, .bool D2.down] 35)).cell? ⟨w14.heap.size, 2, none⟩ = some (.int .i64 D2.ops) := nh.cell 2
  have nh3 : (w14.alloc (.cells #[.slice q1 D2.secs.length q2, .slice q3 D2.cache.length q4, .int .i64 D2.ops, .slice q5 D2.faults.length q6, .bool D2.down] 35)).cell? ⟨w14.heap.size, 3, none⟩ = some (.slice q5 D2.faults.length q6) := nh.cell 3
  have nh4 : (w14.alloc (.cells #[.slice q1 D2.secs.length q2, .slice q3 D2.cache.length q4, .int .i64 D2.ops, .slice q5 D2.faults.length q6, .bool D2.down] 35)).cell? ⟨w14.heap.size, 4, none⟩ = some (.bool D2.down) := nh.cell 4
  have nw0 : (w14.alloc (.cells #[.slice q1 D2.secs.length q2, .slice q3 D2.cache.length q4, .int .i64 D2.ops, .slice q5 D2.faults.length q6, .bool D2.down] 35)).cell? ⟨w3.heap.size, 0, none⟩ = some (.slice p1 D2.secs.length p2) := nw.cell 0
  have nw1 : (w14.alloc (.cells #[.slice q1 D2.secs.length q2, .slice q3 D2.cache.length q4, .int .i64 D2.ops, .slice q5 D2.faults.length q6, .bool D2.down] 35)).cell? ⟨w3.heap.size, 1, none⟩ = some (.slice p3 D2.cache.length p4) := nw.cell 1
  have nw2 : (w14.alloc (.cells #[.slice q1 D2.secs.length q2, .slice q3 D2.cache.length q4, .int .i64 D2.ops, .slice q5 D2.faults.length q6, .bool D2.down] 35)).cell? ⟨w3.heap.size, 2, none⟩ = some (.int .i64 D2.ops) := nw.cell 2
  have nw3 : (w14.alloc (.cells #[.slice q1 D2.secs.length q2, .slice q3 D2.cache.length q4, .int .i64 D2.ops, .slice q5 D2.faults.length q6, .bool D2.down] 35)).cell? ⟨w3.heap.size, 3, none⟩ = some (.slice p5 D2.faults.length p6) := nw.cell 3
  have nw4 : (w14.alloc (.cells #[.slice q1 D2.secs.length q2, .slice q3 D2.cache.length q4, .int .i64 D2.ops, .slice q5 D2.faults.length q6, .bool D2.down] 35)).cell? ⟨w3.heap.size, 4, none⟩ = some (.bool D2.down) := nw.cell 4
  go_wp2_with fail
  refine hC.mono ?_
  rintro e w15 ⟨rfl, hb15⟩
  clear hC
  clear nh0 nh1 nh2 nh3 nh4
  clear nw0 nw1 nw2 nw3 nw4
  have zw15 := hb15.size
  replace nw := nw.below hb15
  replace ng := ng.below hb15
  replace nh := nh.below hb15
  replace hBw := hBw.trans (hb15.mono hBw.size)
  replace hB0 := hB0.trans (hb15.mono hB0.size)
  replace hBh := hBh.trans (hb15.mono hBh.size)
  replace hIh := hIh.up (Up.ofBelow hb15)
  clear hb15
  have hC := heldDisk_any _ D2 1 w15 hIh.own.view hf2 (by omega) (by omega)
  rw [hkg.out] at hC
  have ng0 : w15.cell? ⟨w5.heap.size, 0, none⟩ = some (.slice g1 D2.secs.length g2) := ng.cell 0
  have ng1 : w15.cell? ⟨w5.heap.size, 1, none⟩ = some (.slice g3 D2.cache.length g4) := ng.cell 1
  have ng2 : w15.cell? ⟨w5.heap.size, 2, none⟩ = some (.int .i64 D2.ops) := ng.cell 2
  have ng3 : w15.cell? ⟨w5.heap.size, 3, none⟩ = some (.slice g5 D2.faults.length g6) := ng.cell 3
  have ng4 : w15.cell? ⟨w5.heap.size, 4, none⟩ = some (.bool D2.down) := ng.cell 4
  go_wp2_with fail
  refine hC.mono ?_
  rintro e w16 ⟨rfl, hbw16⟩
  clear hC
  clear ng0 ng1 ng2 ng3 ng4
  have zw16 := hbw16.size
  replace nw := nw.below hbw16
  replace ng := ng.below hbw16
  replace nh := nh.below hbw16
  replace hBw := hBw.trans (hbw16.mono hBw.size)
  replace hB0 := hB0.trans (hbw16.mono hB0.size)
  replace hBh := hBh.trans (hbw16.mono hBh.size)
  replace hIh := hIh.up (Up.ofBelow hbw16)
  clear hbw16
  have HB : Hid (Below w.heap.size w w16) := hBw
  clear nw ng nh hIh hB0 hBh hV0 hVh hv hBw
  go_wp2
  go_ret
  exact ⟨rfl, HB.out⟩
end Go.Proofs.Ytficmogjpnmfdaa

/-
  What the frame of a row hands over of a disk, and of faults, that came in.
-/
namespace Go.Proofs.Ytficmogjpnmfdaa
open Go.RowKit
set_option maxRecDepth 4000
open Go.Deep Go.ChangeShapes Go.WideShapes

/-- A slice that came in, whose elements are each read, as a list. -/
theorem sliceInL {H : Type} {enc : TypeId × Value → H} {W : World} {sp : Nat → Bool} {α : Type} [Inhabited α] {T e : TypeId} {c fuel : Nat} {cs : List Value} {x : DataW H × List MemPlace}
    (ht : Try.prog.underlying T = some (.slice e)) (hc : Try.prog.cellsOf e = c) (hc0 : 0 < c) (Q : Addr → α → Prop)
    (each : ∀ (fuel : Nat) (cs : List Value) (x : DataW H × List MemPlace) (a : Addr), cs.length = c → (∀ j, j < c → W.cell? (a.add j) = cs[j]?) → DataW.trod enc Try.prog W 0 sp true fuel e cs = some x → ∃ y, Q a y)
    (h : DataW.trod enc Try.prog W 0 sp true fuel T cs = some x) :
    ∃ (ao : Option Addr) (cap : Nat) (l : List α), cs = [.slice ao l.length cap] ∧ l.length ≤ cap ∧ cap ≤ maxLen ∧ (ao = none → cap = 0) ∧ (0 < l.length → ∃ b off, ao = some ⟨b, off, none⟩ ∧ b < W.heap.size ∧ ∀ i y, l[i]? = some y → Q ⟨b, off + i * c, none⟩ y) := by
  rcases DataW.trod_slice ht h with ⟨hcs, _⟩ | ⟨a, l, cap, elems, rest, n, _, hcs, _, _, hl, hm, hlen, hel, _, _⟩
  · exact ⟨none, 0, [], hcs, Nat.le_refl _, Nat.zero_le _, fun _ => rfl, fun h => absurd h (Nat.lt_irrefl _)⟩
  · have key : ∀ i, i < l → ∃ y, Q (a.add (i * c)) y ∧ W.cell? (a.add (i * c)) ≠ none := by
      intro i hi
      have h1 := hel i hi
      rw [hc] at h1
      have h2 : elems[i]? = some elems[i] := List.getElem?_eq_getElem (by omega)
      rw [h2] at h1
      obtain ⟨cs, hcs, htr⟩ := Option.bind_eq_some_iff.1 h1
      obtain ⟨_, hl3, hcell⟩ := World.cells?_some hcs
      obtain ⟨y, hy⟩ := each n cs _ _ hl3 (fun j hj => hcell j hj) htr
      refine ⟨y, hy, ?_⟩
      have := hcell 0 (by omega)
      intro hn
      rw [show (a.add (i * c)).add 0 = a.add (i * c) by unfold Addr.add; split <;> simp_all, hn, List.getElem?_eq_getElem (by omega)] at this
      cases this
    have pick : ∃ f : Nat → α, ∀ i, i < l → Q (a.add (i * c)) (f i) := ⟨fun i => if h : i < l then (key i h).choose else default, fun i hi => by simp only [dif_pos hi]; exact (key i hi).choose_spec.1⟩
    obtain ⟨f, hf⟩ := pick
    have ll : ((List.range l).map f).length = l := by simp
    refine ⟨some a, cap, (List.range l).map f, by rw [ll]; exact hcs, by rw [ll]; exact hl, hm, (fun e => by cases e), fun hn => ?_⟩
    rw [ll] at hn
    obtain ⟨b, off, spot⟩ := a
    obtain ⟨y0, -, h0⟩ := key 0 hn
    obtain ⟨u, hu⟩ := Option.ne_none_iff_exists'.1 h0
    have hs : spot = none := by simpa [Addr.add] using World.cell?_spot hu
    subst hs
    have ea : ∀ j, (⟨b, off, none⟩ : Addr).add j = ⟨b, off + j, none⟩ := fun j => by unfold Addr.add; split <;> simp_all
    rw [ea] at hu
    refine ⟨b, off, rfl, World.block_lt_of_cell? _ _ hu, fun i y hi => ?_⟩
    obtain ⟨hi', e⟩ := List.getElem?_eq_some_iff.1 hi
    rw [ll] at hi'
    have hq := hf i hi'
    rw [ea] at hq
    simp at e
    rw [← e]
    exact hq
theorem addrAdd (b off j : Nat) : (⟨b, off, none⟩ : Addr).add j = ⟨b, off + j, none⟩ := by unfold Addr.add; split <;> simp_all
/-- Bytes that came in, as a cell. -/
theorem bytesIn {H : Type} {enc : TypeId × Value → H} {W : World} {sp : Nat → Bool} {fuel : Nat} {cs : List Value} {x : DataW H × List MemPlace}
    (h : DataW.trod enc Try.prog W 0 sp true fuel 49 cs = some x) : ∃ (v : Value) (l : List Int), cs = [v] ∧ LV W v l ∧ l.length ≤ maxLen := by
  have c1 : Try.prog.cellsOf 5 = 1 := by kernel_rfl
  obtain ⟨a, cap, l, e, hl, hm, hn, hv⟩ := sliceInL (α := Int) Try.underlying49 c1 (by decide) (fun a y => W.cell? (a.add 0) = some (.int .u8 y) ∧ 0 ≤ y ∧ y ≤ 255) (by
    intro fuel cs x a hl hcell htr
    match cs, hl with
    | [c0], _ =>
      obtain ⟨k, e0, _, hk⟩ := DataW.trod_int Try.underlying5 htr
      simp only [List.cons.injEq, and_true] at e0
      subst e0
      have hw : 0 ≤ k ∧ k ≤ 255 := by
        have := range_u8 (zs := [k]) (by intro n hn; simp at hn; subst hn; exact hk) 0
        simpa using this
      exact ⟨k, hcell 0 (by decide), hw⟩) h
  refine ⟨_, l, e, ⟨a, cap, rfl, ⟨hl, fun i hi => ?_, fun hp => ?_⟩, hn⟩, Nat.le_trans hl hm⟩
  · obtain ⟨b, off, ea, hlt, hc⟩ := hv (by omega)
    have := (hc i l[i] (List.getElem?_eq_getElem hi)).2
    have e : bf l i = l[i] := by simp [bf, hi]
    rw [e]; exact this
  · obtain ⟨b, off, ea, hlt, hc⟩ := hv hp
    refine ⟨b, off, ea, hlt, fun i hi => ?_⟩
    have := (hc i l[i] (List.getElem?_eq_getElem hi)).1
    have e : bf l i = l[i] := by simp [bf, hi]
    rw [e]
    simpa only [addrAdd, Nat.add_zero, Nat.mul_one] using this
theorem secsIn {H : Type} {enc : TypeId × Value → H} {W : World} {sp : Nat → Bool} {fuel : Nat} {cs : List Value} {x : DataW H × List MemPlace}
    (h : DataW.trod enc Try.prog W 0 sp true fuel 22 cs = some x) : ∃ a cap l, cs = [.slice a l.length cap] ∧ SView W a cap l ∧ l.length ≤ maxLen ∧ ∀ i (h : i < l.length), (l[i]).length ≤ maxLen := by
  have c1 : Try.prog.cellsOf 49 = 1 := by kernel_rfl
  obtain ⟨a, cap, l, e, hl, hm, hn, hv⟩ := sliceInL (α := List Int) Try.underlying22 c1 (by decide) (fun a y => (∃ u, W.cell? (a.add 0) = some u ∧ LV W u y) ∧ y.length ≤ maxLen) (by
    intro fuel cs x a hl hcell htr
    obtain ⟨v, y, rfl, hy, hm⟩ := bytesIn htr
    exact ⟨y, ⟨v, hcell 0 (by decide), hy⟩, hm⟩) h
  refine ⟨a, cap, l, e, ⟨hl, hn, fun hp => ?_⟩, Nat.le_trans hl hm, fun i hi => ?_⟩
  · obtain ⟨b, off, ea, hlt, hc⟩ := hv hp
    refine ⟨b, off, ea, hlt, fun i y hi => ?_⟩
    obtain ⟨⟨u, hu, hy⟩, -⟩ := hc i y hi
    refine ⟨[u], ⟨u, rfl, hy⟩, fun j v hj => ?_⟩
    match j, hj with
    | 0, hj => cases hj; simpa only [addrAdd, Nat.add_zero] using hu
  · obtain ⟨b, off, ea, hlt, hc⟩ := hv (by omega)
    exact (hc i _ (List.getElem?_eq_getElem hi)).2
theorem writesIn {H : Type} {enc : TypeId × Value → H} {W : World} {sp : Nat → Bool} {fuel : Nat} {cs : List Value} {x : DataW H × List MemPlace}
    (h : DataW.trod enc Try.prog W 0 sp true fuel 23 cs = some x) : ∃ a cap l, cs = [.slice a l.length cap] ∧ WView W a cap l ∧ l.length ≤ maxLen ∧ ∀ i (h : i < l.length), (l[i]).2.length ≤ maxLen := by
  have c1 : Try.prog.cellsOf 69 = 2 := by kernel_rfl
  obtain ⟨a, cap, l, e, hl, hm, hn, hv⟩ := sliceInL (α := Int × List Int) Try.underlying23 c1 (by decide) (fun a y => (W.cell? (a.add 0) = some (.int .i64 y.1) ∧ ∃ u, W.cell? (a.add 1) = some u ∧ LV W u y.2) ∧ y.2.length ≤ maxLen) (by
    intro fuel cs x a hl hcell htr
    obtain ⟨y0, y1, m, _, _, t0, t1⟩ := trod_struct2 Try.underlying69 htr
    have o1 : Try.prog.cellsOf 3 = 1 := by kernel_rfl
    have o2 : Try.prog.cellsOf 49 = 1 := by kernel_rfl
    simp only [o1, o2] at t0 t1
    match cs, hl with
    | [c0, c1], _ =>
      simp only [List.drop_zero, List.drop_succ_cons, List.take_succ_cons, List.take_zero] at t0 t1
      obtain ⟨k, e0, _, _⟩ := DataW.trod_int Try.underlying3 t0
      obtain ⟨v, y, e1, hy, hm⟩ := bytesIn t1
      simp only [List.cons.injEq, and_true] at e0 e1
      subst e0 e1
      exact ⟨(k, y), ⟨hcell 0 (by decide), _, hcell 1 (by decide), hy⟩, hm⟩) h
  refine ⟨a, cap, l, e, ⟨hl, hn, fun hp => ?_⟩, Nat.le_trans hl hm, fun i hi => ?_⟩
  · obtain ⟨b, off, ea, hlt, hc⟩ := hv hp
    refine ⟨b, off, ea, hlt, fun i y hi => ?_⟩
    obtain ⟨⟨h0, u, hu, hy⟩, -⟩ := hc i y hi
    refine ⟨[.int .i64 y.1, u], ⟨u, rfl, hy⟩, fun j v hj => ?_⟩
    match j, hj with
    | 0, hj => cases hj; simpa only [addrAdd, Nat.add_zero] using h0
    | 1, hj => cases hj; simpa only [addrAdd, Nat.add_zero] using hu
  · obtain ⟨b, off, ea, hlt, hc⟩ := hv (by omega)
    exact (hc i _ (List.getElem?_eq_getElem hi)).2
instance : Inhabited PFault := ⟨⟨0, 0, 0⟩⟩
theorem faultsIn {H : Type} {enc : TypeId × Value → H} {W : World} {sp : Nat → Bool} {fuel : Nat} {cs : List Value} {x : DataW H × List MemPlace}
    (h : DataW.trod enc Try.prog W 0 sp true fuel 24 cs = some x) : ∃ a cap l, cs = [.slice a l.length cap] ∧ FView W a cap l ∧ l.length ≤ maxLen := by
  have c1 : Try.prog.cellsOf 62 = 3 := by kernel_rfl
  obtain ⟨a, cap, l, e, hl, hm, hn, hv⟩ := sliceInL (α := PFault) Try.underlying24 c1 (by decide) (fun a y => W.cell? (a.add 0) = some (.int .i64 y.pos) ∧ W.cell? (a.add 1) = some (.int .i64 y.keep) ∧ W.cell? (a.add 2) = some (.int .i64 y.cut)) (by
    intro fuel cs x a hl hcell htr
    obtain ⟨y0, y1, y2, m, _, _, t0, t1, t2⟩ := trod_struct3 Try.underlying62 htr
    have o1 : Try.prog.cellsOf 3 = 1 := by kernel_rfl
    simp only [o1] at t0 t1 t2
    match cs, hl with
    | [c0, c1, c2], _ =>
      simp only [List.drop_zero, List.drop_succ_cons, List.take_succ_cons, List.take_zero] at t0 t1 t2
      obtain ⟨k0, e0, _, _⟩ := DataW.trod_int Try.underlying3 t0
      obtain ⟨k1, e1, _, _⟩ := DataW.trod_int Try.underlying3 t1
      obtain ⟨k2, e2, _, _⟩ := DataW.trod_int Try.underlying3 t2
      simp only [List.cons.injEq, and_true] at e0 e1 e2
      subst e0 e1 e2
      exact ⟨⟨k0, k1, k2⟩, hcell 0 (by decide), hcell 1 (by decide), hcell 2 (by decide)⟩) h
  refine ⟨a, cap, l, e, ⟨hl, hn, fun hp => ?_⟩, Nat.le_trans hl hm⟩
  obtain ⟨b, off, ea, hlt, hc⟩ := hv hp
  refine ⟨b, off, ea, hlt, fun i y hi => ?_⟩
  obtain ⟨h0, h1, h2⟩ := hc i y hi
  refine ⟨_, rfl, fun j v hj => ?_⟩
  match j, hj with
  | 0, hj => cases hj; simpa only [addrAdd, Nat.add_zero] using h0
  | 1, hj => cases hj; simpa only [addrAdd, Nat.add_zero] using h1
  | 2, hj => cases hj; simpa only [addrAdd, Nat.add_zero] using h2
/-- The five cells of a disk that came in. -/
theorem diskIn {H : Type} {enc : TypeId × Value → H} {W : World} {sp : Nat → Bool} {n0 n1 n2 n3 n4 : Nat} {c0 c1 c2 c3 c4 : Value} {y0 y1 y2 y3 y4 : DataW H × List MemPlace}
    (h0 : DataW.trod enc Try.prog W 0 sp true n0 22 [c0] = some y0) (h1 : DataW.trod enc Try.prog W 0 sp true n1 23 [c1] = some y1)
    (h2 : DataW.trod enc Try.prog W 0 sp true n2 3 [c2] = some y2) (h3 : DataW.trod enc Try.prog W 0 sp true n3 24 [c3] = some y3) (h4 : DataW.trod enc Try.prog W 0 sp true n4 4 [c4] = some y4) :
    ∃ D : PDisk, KView W (.agg #[c0, c1, c2, c3, c4]) D ∧ KLim D := by
  obtain ⟨sa, sc, ls, e0, v0, m0, z0⟩ := secsIn h0
  obtain ⟨ca, cc, lc, e1, v1, m1, z1⟩ := writesIn h1
  obtain ⟨k, e2, _, _⟩ := DataW.trod_int Try.underlying3 h2
  obtain ⟨fa, fc, lf, e3, v3, m3⟩ := faultsIn h3
  obtain ⟨z, e4, _⟩ := DataW.trod_bool Try.underlying4 h4
  simp only [List.cons.injEq, and_true] at e0 e1 e2 e3 e4
  subst e0 e1 e2 e3 e4
  exact ⟨⟨ls, lc, k, lf, z⟩, ⟨sa, sc, ca, cc, fa, fc, rfl, v0, v1, v3⟩, ⟨m0, z0, m1, z1, m3⟩⟩
theorem array5 {α : Type} {cs : Array α} (h : cs.size = 5) : ∃ c0 c1 c2 c3 c4, cs = #[c0, c1, c2, c3, c4] := by
  obtain ⟨l⟩ := cs
  match l, h with
  | [c0, c1, c2, c3, c4], _ => exact ⟨c0, c1, c2, c3, c4, rfl⟩
/-- A struct of five fields of one cell each, opened. -/
theorem openFive {H : Type} {enc : TypeId × Value → H} {w : World} {base : Nat} {spare : Nat → Bool} {held : Bool} {r : Reach} {b0 : Nat} {t : TypeId} {f0 f1 f2 f3 f4 : Field} {v : Value} {d : DataW H} {p : List MemPlace} (hs : Try.prog.underlying t = some (.struct #[f0, f1, f2, f3, f4])) (hone : oneCellFields Try.prog #[f0, f1, f2, f3, f4] = true) (hC : Try.prog.cellsOf t = 5)
    (hv : Value.okWide Try.prog w r b0 t v) (h : DataW.Trod enc Try.prog w base spare held t v d p) :
    ∃ (v0 v1 v2 v3 v4 : Value) (y0 y1 y2 y3 y4 : DataW H × List MemPlace) (n : Nat), v = .agg #[v0, v1, v2, v3, v4] ∧ d = .agg [y0.1, y1.1, y2.1, y3.1, y4.1] ∧ p = y0.2 ++ (y1.2 ++ (y2.2 ++ (y3.2 ++ y4.2))) ∧
      DataW.trod enc Try.prog w base spare held n f0.type [v0] = some y0 ∧ DataW.trod enc Try.prog w base spare held n f1.type [v1] = some y1 ∧ DataW.trod enc Try.prog w base spare held n f2.type [v2] = some y2 ∧ DataW.trod enc Try.prog w base spare held n f3.type [v3] = some y3 ∧ DataW.trod enc Try.prog w base spare held n f4.type [v4] = some y4 := by
  obtain ⟨cs, rfl, hsz⟩ := okWide_struct hs hv
  obtain ⟨c0, c1, c2, c3, c4, rfl⟩ := array5 (hsz.trans hC)
  obtain ⟨fuel, hf⟩ := h
  obtain ⟨xs, n, _, hx, hl, hlen, hfs⟩ := DataW.trod_struct hs hf
  match xs, hlen, hx, hfs with
  | [y0, y1, y2, y3, y4], _, hx, hfs =>
    have h0 := hfs 0 f0 rfl
    have h1 := hfs 1 f1 rfl
    have h2 := hfs 2 f2 rfl
    have h3 := hfs 3 f3 rfl
    have h4 := hfs 4 f4 rfl
    obtain ⟨o0, k0⟩ := hone_of hone 0 f0 rfl
    obtain ⟨o1, k1⟩ := hone_of hone 1 f1 rfl
    obtain ⟨o2, k2⟩ := hone_of hone 2 f2 rfl
    obtain ⟨o3, k3⟩ := hone_of hone 3 f3 rfl
    obtain ⟨o4, k4⟩ := hone_of hone 4 f4 rfl
    simp only [Prod.mk.injEq] at hx
    exact ⟨c0, c1, c2, c3, c4, y0, y1, y2, y3, y4, n, rfl, by simpa using hx.1, by simpa using hx.2, by simpa [Value.cells, o0, k0] using h0, by simpa [Value.cells, o1, k1] using h1, by simpa [Value.cells, o2, k2] using h2, by simpa [Value.cells, o3, k3] using h3, by simpa [Value.cells, o4, k4] using h4⟩
end Go.Proofs.Ytficmogjpnmfdaa

