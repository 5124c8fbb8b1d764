/-
  LawDiskNew
-/
import Derived.Test.YtnlceclfepgmhaaPackA5
import Derived.Test.YtnlceclfepgmhaaPackA1
import Derived.Test.YtnlceclfepgmhaaPackA2
import Derived.Test.YtnlceclfepgmhaaPackA4
import Derived.Deep.RegionHeld3
/-
  The law FnExactDiskNew, walked.
-/
namespace Go.Proofs.Ytnlceclfepgmhaa
open Go.RowKit
set_option maxRecDepth 4000

theorem Up.mono {B B' : Nat} {w w' : World} (h : Up B w w') (hB : B ≤ B') : Up B' w w' := ⟨h.1, fun k hk hl => h.2 k (Nat.le_trans hB hk) hl⟩
open Classical in
noncomputable def newD (n : Int) (l : List PFault) : PDisk := if NewOk n l then madeD n.toNat l else zeroD
theorem NewTo.own {w w' : World} {n : Int} {l : List PFault} {e : Ending} (h : NewTo w n l e w') : ∃ v', e = .returned v' ∧ KOwn w' w.heap.size v' (newD n l) ∧ Below w.heap.size w w' := by
  obtain ⟨v', rfl, hb, h | h⟩ := h
  · exact ⟨v', rfl, by unfold newD; rw [if_pos h.1]; exact h.2, hb⟩
  · exact ⟨v', rfl, by unfold newD; rw [if_neg h.1]; exact h.2, hb⟩
theorem newD_fine (n : Int) (l : List PFault) (hn : l.length ≤ 1048576) : KFine (newD n l) := by
  unfold newD
  split
  · rename_i h
    obtain ⟨h1, h2⟩ := h.1
    exact ⟨by simp [madeD]; omega, fun x hx => by simp [madeD] at hx; simp [hx], by simp [madeD], fun x hx => by simp [madeD] at hx, hn⟩
  · exact ⟨by simp [zeroD], fun x hx => by simp [zeroD] at hx, by simp [zeroD], fun x hx => by simp [zeroD] at hx, by simp [zeroD]⟩
theorem fview_of_rl {w : World} {B g : Nat} {l : List PFault} (h : RL 69 w B (some ⟨g, 0, none⟩) (fcells l)) : FView w (some ⟨g, 0, none⟩) l.length l := by
  refine ⟨Nat.le_refl _, (fun e => by cases e), fun hn => ?_⟩
  obtain ⟨g', ea, -, hlt, hc⟩ := h.cell (by rw [fcells_len]; omega)
  cases ea
  refine ⟨g, 0, rfl, hlt, fun i x hi => ⟨fEl x, rfl, fun j u hj => ?_⟩⟩
  have hj3 : j < 3 := (List.getElem?_eq_some_iff.1 hj).1
  have g0 := fcells_get hi hj3
  rw [hj] at g0
  simpa using hc _ _ g0
set_option maxHeartbeats 16000000 in
theorem lawDiskNew (n : Int) (a : Option Addr) (cap : Nat) (l : List PFault) (w : World) (hv : FView w a cap l) (hm : l.length ≤ maxLen) :
    Calls Try.prog 6 #[.int .i64 n, .slice a l.length cap] w fun e w' => e = .returned (.bool true) ∧ Below w.heap.size w w' := by
  have hBw : Below w.heap.size w w := Below.refl _ _
  have hZ := szFaultS_fine a l.length cap 1048576 w hm (by omega) (by omega)
  clear hm
  go_enter Try.func6, Try.ntmps6
  go_wp2_with fail
  refine hZ.mono ?_
  rintro e w1 ⟨L, rfl, hb1, hL⟩
  clear hZ
  have zw1 := hb1.size
  replace hBw := hBw.trans (hb1.mono hBw.size)
  rcases hL with rfl | ⟨hL0, hL1, hf⟩
  · have HB : Hid (Below w.heap.size w w1) := hBw
    clear hv hBw hb1
    go_wp2
    go_ret
    exact ⟨rfl, HB.out⟩
  have hLn : ¬ L < 0 := by omega
  have hf2 := newD_fine n l hf
  obtain ⟨D2, hD2⟩ := hidEx (newD n l)
  rw [hD2.out] at hf2
  clear hb1
  have hC := toFaultS_any a cap l w1 (fview_below hv hBw) hf
  go_wp2_with fail
  refine hC.mono ?_
  rintro e w2 ⟨rfl, hb2, -, hR2⟩
  clear hC
  have zw2 := hb2.size
  replace hBw := hBw.trans (hb2.mono hBw.size)
  clear hb2
  have hC := (specDiskNew_any n _ _ l w2 (fview_of_rl hR2) hf)
  go_wp2_with fail
  refine hC.mono ?_
  intro e w3 hTo
  obtain ⟨vw3, rfl, hO3, hbw3⟩ := hTo.own
  rw [hD2.out] at hO3
  clear hC hTo
  have zw3 := hbw3.size
  replace hBw := hBw.trans (hbw3.mono hBw.size)
  clear hbw3
  clear hR2
  have hV0 : KView w3 vw3 D2 := hO3.view
  obtain ⟨p1, p2, p3, p4, p5, p6, -, -, rfl, -⟩ := hO3
  unfold dval at hV0 ⊢
  have hB0 : Below w3.heap.size w3 w3 := Below.refl _ _
  have hbA : Below w3.heap.size w3 (w3.alloc (.cells #[.slice p1 D2.secs.length p2, .slice p3 D2.cache.length p4, .int .i64 D2.ops, .slice p5 D2.faults.length p6, .bool D2.down] 28)) := (Below.refl _ _).alloc (Nat.le_refl _) _
  have nw : VN (w3.alloc (.cells #[.slice p1 D2.secs.length p2, .slice p3 D2.cache.length p4, .int .i64 D2.ops, .slice p5 D2.faults.length p6, .bool D2.down] 28)) w3.heap.size 28 [.slice p1 D2.secs.length p2, .slice p3 D2.cache.length p4, .int .i64 D2.ops, .slice p5 D2.faults.length p6, .bool D2.down] := VN.new w3 28 [.slice p1 D2.secs.length p2, .slice p3 D2.cache.length p4, .int .i64 D2.ops, .slice p5 D2.faults.length p6, .bool D2.down]
  have zanw : (w3.alloc (.cells #[.slice p1 D2.secs.length p2, .slice p3 D2.cache.length p4, .int .i64 D2.ops, .slice p5 D2.faults.length p6, .bool D2.down] 28)).heap.size = w3.heap.size + 1 := by simp
  replace hBw := hBw.trans (hbA.mono hBw.size)
  replace hB0 := hB0.trans (hbA.mono hB0.size)
  clear hbA
  have hC := toFaultS_any a cap l (w3.alloc (.cells #[.slice p1 D2.secs.length p2, .slice p3 D2.cache.length p4, .int .i64 D2.ops, .slice p5 D2.faults.length p6, .bool D2.down] 28)) (fview_below hv hBw) hf
  go_wp2_with fail
  refine hC.mono ?_
  rintro e w4 ⟨rfl, hb4, hl4, hR4⟩
  clear hC
  have zw4 := hb4.size
  replace nw := nw.below hb4
  replace hBw := hBw.trans (hb4.mono hBw.size)
  replace hB0 := hB0.trans (hb4.mono hB0.size)
  clear hb4
  simp only [zanw] at hR4 hl4 zw4 ⊢
  obtain ⟨gx, hgx⟩ := hidEx (w3.heap.size + 1)
  have hgv := hgx.out
  rw [hgx.out] at hR4 hl4 ⊢
  have hC := (implDiskNew_any n _ _ l w4 (fview_of_rl hR4) hf)
  go_wp2_with fail
  refine hC.mono ?_
  intro e w5 hTo
  obtain ⟨vw5, rfl, hO5, hbw5⟩ := hTo.own
  rw [hD2.out] at hO5
  clear hC hTo
  have zw5 := hbw5.size
  replace nw := nw.below hbw5
  replace hBw := hBw.trans (hbw5.mono hBw.size)
  replace hB0 := hB0.trans (hbw5.mono hB0.size)
  replace hR4 := hR4.up (Up.ofBelow hbw5)
  clear hbw5
  have hIg := hO5.kin
  clear hO5
  obtain ⟨g1, g2, g3, g4, g5, g6, cg1, cg2, eg, -⟩ := id hIg
  subst eg
  unfold dval at hIg ⊢
  replace hR4 := hR4.up (Up.ofBelow (show Below w5.heap.size w5 (w5.alloc (.cells #[.slice g1 D2.secs.length g2, .slice g3 D2.cache.length g4, .int .i64 D2.ops, .slice g5 D2.faults.length g6, .bool D2.down] 28)) from (Below.refl _ _).alloc (Nat.le_refl _) _))
  have hbA : Below w5.heap.size w5 (w5.alloc (.cells #[.slice g1 D2.secs.length g2, .slice g3 D2.cache.length g4, .int .i64 D2.ops, .slice g5 D2.faults.length g6, .bool D2.down] 28)) := (Below.refl _ _).alloc (Nat.le_refl _) _
  have ng : VN (w5.alloc (.cells #[.slice g1 D2.secs.length g2, .slice g3 D2.cache.length g4, .int .i64 D2.ops, .slice g5 D2.faults.length g6, .bool D2.down] 28)) w5.heap.size 28 [.slice g1 D2.secs.length g2, .slice g3 D2.cache.length g4, .int .i64 D2.ops, .slice g5 D2.faults.length g6, .bool D2.down] := VN.new w5 28 [.slice g1 D2.secs.length g2, .slice g3 D2.cache.length g4, .int .i64 D2.ops, .slice g5 D2.faults.length g6, .bool D2.down]
  have zang : (w5.alloc (.cells #[.slice g1 D2.secs.length g2, .slice g3 D2.cache.length g4, .int .i64 D2.ops, .slice g5 D2.faults.length g6, .bool D2.down] 28)).heap.size = w5.heap.size + 1 := by simp
  replace nw := nw.below hbA
  replace hBw := hBw.trans (hbA.mono hBw.size)
  replace hB0 := hB0.trans (hbA.mono hB0.size)
  replace hIg := hIg.up (Up.ofBelow hbA)
  clear hbA
  have hC := eqDisk_same _ _ D2 (w5.alloc (.cells #[.slice g1 D2.secs.length g2, .slice g3 D2.cache.length g4, .int .i64 D2.ops, .slice g5 D2.faults.length g6, .bool D2.down] 28)) (hIg.own.view) (hV0.below hB0) hf2
  have ng0 : (w5.alloc (.cells #[.slice g1 D2.secs.length g2, .slice g3 D2.cache.length g4, .int .i64 D2.ops, .slice g5 D2.faults.length g6, .bool D2.down] 28)).cell? ⟨w5.heap.size, 0, none⟩ = some (.slice g1 D2.secs.length g2) := ng.cell 0
  have ng1 : (w5.alloc (.cells #[.slice g1 D2.secs.length g2, .slice g3 D2.cache.length g4, .int .i64 D2.ops, .slice g5 D2.faults.length g6, .bool D2.down] 28)).cell? ⟨w5.heap.size, 1, none⟩ = some (.slice g3 D2.cache.length g4) := ng.cell 1
  have ng2 : (w5.alloc (.cells #[.slice g1 D2.secs.length g2, .slice g3 D2.cache.length g4, .int .i64 D2.ops, .slice g5 D2.faults.length g6, .bool D2.down] 28)).cell? ⟨w5.heap.size, 2, none⟩ = some (.int .i64 D2.ops) := ng.cell 2
  have ng3 : (w5.alloc (.cells #[.slice g1 D2.secs.length g2, .slice g3 D2.cache.length g4, .int .i64 D2.ops, .slice g5 D2.faults.length g6, .bool D2.down] 28)).cell? ⟨w5.heap.size, 3, none⟩ = some (.slice g5 D2.faults.length g6) := ng.cell 3
  have ng4 : (w5.alloc (.cells #[.slice g1 D2.secs.length g2, .slice g3 D2.cache.length g4, .int .i64 D2.ops, .slice g5 D2.faults.length g6, .bool D2.down] 28)).cell? ⟨w5.heap.size, 4, none⟩ = some (.bool D2.down) := ng.cell 4
  have nw0 : (w5.alloc (.cells #[.slice g1 D2.secs.length g2, .slice g3 D2.cache.length g4, .int .i64 D2.ops, .slice g5 D2.faults.length g6, .bool D2.down] 28)).cell? ⟨w3.heap.size, 0, none⟩ = some (.slice p1 D2.secs.length p2) := nw.cell 0
  have nw1 : (w5.alloc (.cells #[.slice g1 D2.secs.length g2, .slice g3 D2.cache.length g4, .int .i64 D2.ops, .slice g5 D2.faults.length g6, .bool D2.down] 28)).cell? ⟨w3.heap.size, 1, none⟩ = some (.slice p3 D2.cache.length p4) := nw.cell 1
  have nw2 : (w5.alloc (.cells #[.slice g1 D2.secs.length g2, .slice g3 D2.cache.length g4, .int .i64 D2.ops, .slice g5 D2.faults.length g6, .bool D2.down] 28)).cell? ⟨w3.heap.size, 2, none⟩ = some (.int .i64 D2.ops) := nw.cell 2
  have nw3 : (w5.alloc (.cells #[.slice g1 D2.secs.length g2, .slice g3 D2.cache.length g4, .int .i64 D2.ops, .slice g5 D2.faults.length g6, .bool D2.down] 28)).cell? ⟨w3.heap.size, 3, none⟩ = some (.slice p5 D2.faults.length p6) := nw.cell 3
  have nw4 : (w5.alloc (.cells #[.slice g1 D2.secs.length g2, .slice g3 D2.cache.length g4, .int .i64 D2.ops, .slice g5 D2.faults.length g6, .bool D2.down] 28)).cell? ⟨w3.heap.size, 4, none⟩ = some (.bool D2.down) := nw.cell 4
  go_wp2_with fail
  refine hC.mono ?_
  rintro e w6 ⟨rfl, hb6⟩
  clear hC
  clear ng0 ng1 ng2 ng3 ng4
  clear nw0 nw1 nw2 nw3 nw4
  have zw6 := hb6.size
  replace nw := nw.below hb6
  replace ng := ng.below hb6
  replace hBw := hBw.trans (hb6.mono hBw.size)
  replace hB0 := hB0.trans (hb6.mono hB0.size)
  replace hIg := hIg.up (Up.ofBelow hb6)
  replace hR4 := hR4.up (Up.ofBelow hb6)
  clear hb6
  have hC := toFaultS_any a cap l w6 (fview_below hv hBw) hf
  go_wp2_with fail
  refine hC.mono ?_
  rintro e w7 ⟨rfl, hb7, -, hR7⟩
  clear hC
  have zw7 := hb7.size
  replace nw := nw.below hb7
  replace ng := ng.below hb7
  replace hBw := hBw.trans (hb7.mono hBw.size)
  replace hB0 := hB0.trans (hb7.mono hB0.size)
  replace hIg := hIg.up (Up.ofBelow hb7)
  replace hR4 := hR4.up (Up.ofBelow hb7)
  clear hb7
  have hC := eqFaultS_same _ _ _ _ l w7 (fview_of_rl hR4) (fview_of_rl hR7) hf
  go_wp2_with fail
  refine hC.mono ?_
  rintro e w8 ⟨rfl, hb8⟩
  clear hC
  have zw8 := hb8.size
  replace nw := nw.below hb8
  replace ng := ng.below hb8
  replace hBw := hBw.trans (hb8.mono hBw.size)
  replace hB0 := hB0.trans (hb8.mono hB0.size)
  replace hIg := hIg.up (Up.ofBelow hb8)
  replace hR4 := hR4.up (Up.ofBelow hb8)
  clear hb8 hR7
  have hC := markFaultS_any (some ⟨gx, 0, none⟩) l.length gx w4.heap.size l 1 w8 hR4 (fun _ g e => by cases e; exact hl4) hf (by omega) (by omega)
  go_wp2_with fail
  refine hC.mono ?_
  rintro e w9 ⟨rfl, -, hO, -, -⟩
  clear hC hR4
  have zw9 := hO.size
  replace nw := nw.block (hO.block _ nw.lt (by omega))
  replace ng := ng.block (hO.block _ ng.lt (by omega))
  replace hBw := hBw.trans ((hO.below (by omega)).mono (by omega))
  replace hB0 := hB0.trans ((hO.below (by omega)).mono (by omega))
  replace hIg := hIg.up ((hO.up).mono (by omega))
  clear hO
  obtain ⟨km, hkm⟩ := hidEx (1 + 3 * (l.length : Int))
  have hkmp : ¬ km < 0 := by have := hkm.out; omega
  rw [hkm.out]
  have hC := eqDisk_same _ _ D2 w9 (hIg.own.view) (hV0.below hB0) hf2
  have ng0 : w9.cell? ⟨w5.heap.size, 0, none⟩ = some (.slice g1 D2.secs.length g2) := ng.cell 0
  have ng1 : w9.cell? ⟨w5.heap.size, 1, none⟩ = some (.slice g3 D2.cache.length g4) := ng.cell 1
  have ng2 : w9.cell? ⟨w5.heap.size, 2, none⟩ = some (.int .i64 D2.ops) := ng.cell 2
  have ng3 : w9.cell? ⟨w5.heap.size, 3, none⟩ = some (.slice g5 D2.faults.length g6) := ng.cell 3
  have ng4 : w9.cell? ⟨w5.heap.size, 4, none⟩ = some (.bool D2.down) := ng.cell 4
  have nw0 : w9.cell? ⟨w3.heap.size, 0, none⟩ = some (.slice p1 D2.secs.length p2) := nw.cell 0
  have nw1 : w9.cell? ⟨w3.heap.size, 1, none⟩ = some (.slice p3 D2.cache.length p4) := nw.cell 1
  have nw2 : w9.cell? ⟨w3.heap.size, 2, none⟩ = some (.int .i64 D2.ops) := nw.cell 2
  have nw3 : w9.cell? ⟨w3.heap.size, 3, none⟩ = some (.slice p5 D2.faults.length p6) := nw.cell 3
  have nw4 : w9.cell? ⟨w3.heap.size, 4, none⟩ = some (.bool D2.down) := nw.cell 4
  go_wp2_with fail
  refine hC.mono ?_
  rintro e w10 ⟨rfl, hb10⟩
  clear hC
  clear ng0 ng1 ng2 ng3 ng4
  clear nw0 nw1 nw2 nw3 nw4
  have zw10 := hb10.size
  replace nw := nw.below hb10
  replace ng := ng.below hb10
  replace hBw := hBw.trans (hb10.mono hBw.size)
  replace hB0 := hB0.trans (hb10.mono hB0.size)
  replace hIg := hIg.up (Up.ofBelow hb10)
  clear hb10
  have hC := markDisk_any _ D2 (w4.heap.size) (w5.heap.size) 1 w10 hIg hf2 (by omega) (by omega)
  have ng0 : w10.cell? ⟨w5.heap.size, 0, none⟩ = some (.slice g1 D2.secs.length g2) := ng.cell 0
  have ng1 : w10.cell? ⟨w5.heap.size, 1, none⟩ = some (.slice g3 D2.cache.length g4) := ng.cell 1
  have ng2 : w10.cell? ⟨w5.heap.size, 2, none⟩ = some (.int .i64 D2.ops) := ng.cell 2
  have ng3 : w10.cell? ⟨w5.heap.size, 3, none⟩ = some (.slice g5 D2.faults.length g6) := ng.cell 3
  have ng4 : w10.cell? ⟨w5.heap.size, 4, none⟩ = some (.bool D2.down) := ng.cell 4
  go_wp2_with fail
  refine hC.mono ?_
  rintro e w11 ⟨rfl, hI, hO⟩
  clear hC
  clear ng0 ng1 ng2 ng3 ng4
  have zw11 := hO.size
  replace nw := nw.block (hO.block _ nw.lt (by omega))
  replace ng := ng.block (hO.block _ ng.lt (by omega))
  replace hBw := hBw.trans ((hO.below (by omega)).mono (by omega))
  replace hB0 := hB0.trans ((hO.below (by omega)).mono (by omega))
  clear hIg
  clear hO
  obtain ⟨kg, hkg⟩ := hidEx (1 + (szD D2 : Int))
  have hkgp : ¬ kg < 0 := by have := hkg.out; omega
  rw [hkg.out]
  have hIh := hI
  clear hI
  have hq : (kg != kg) = false := bne_self_eq_false _
  have hC := heldDisk_any _ D2 1 w11 hIh.own.view hf2 (by omega) (by omega)
  rw [hkg.out] at hC
  have ng0 : w11.cell? ⟨w5.heap.size, 0, none⟩ = some (.slice g1 D2.secs.length g2) := ng.cell 0
  have ng1 : w11.cell? ⟨w5.heap.size, 1, none⟩ = some (.slice g3 D2.cache.length g4) := ng.cell 1
  have ng2 : w11.cell? ⟨w5.heap.size, 2, none⟩ = some (.int .i64 D2.ops) := ng.cell 2
  have ng3 : w11.cell? ⟨w5.heap.size, 3, none⟩ = some (.slice g5 D2.faults.length g6) := ng.cell 3
  have ng4 : w11.cell? ⟨w5.heap.size, 4, none⟩ = some (.bool D2.down) := ng.cell 4
  go_wp2_with fail
  refine hC.mono ?_
  rintro e w12 ⟨rfl, hbw12⟩
  clear hC
  clear ng0 ng1 ng2 ng3 ng4
  have zw12 := hbw12.size
  replace nw := nw.below hbw12
  replace ng := ng.below hbw12
  replace hBw := hBw.trans (hbw12.mono hBw.size)
  replace hB0 := hB0.trans (hbw12.mono hB0.size)
  replace hIh := hIh.up (Up.ofBelow hbw12)
  clear hbw12
  have hC := toFaultS_any a cap l w12 (fview_below hv hBw) hf
  go_wp2_with fail
  refine hC.mono ?_
  rintro e w13 ⟨rfl, hb13, -, hR13⟩
  clear hC
  have zw13 := hb13.size
  replace nw := nw.below hb13
  replace ng := ng.below hb13
  replace hBw := hBw.trans (hb13.mono hBw.size)
  replace hB0 := hB0.trans (hb13.mono hB0.size)
  replace hIh := hIh.up (Up.ofBelow hb13)
  clear hb13
  have hC := (implDiskNew_any n _ _ l w13 (fview_of_rl hR13) hf)
  go_wp2_with fail
  refine hC.mono ?_
  intro e w14 hTo
  obtain ⟨vw14, rfl, hO14, hbw14⟩ := hTo.own
  rw [hD2.out] at hO14
  clear hC hTo
  have zw14 := hbw14.size
  replace nw := nw.below hbw14
  replace ng := ng.below hbw14
  replace hBw := hBw.trans (hbw14.mono hBw.size)
  replace hB0 := hB0.trans (hbw14.mono hB0.size)
  replace hIh := hIh.up (Up.ofBelow hbw14)
  clear hbw14
  clear hR13
  have hVh : KView w14 vw14 D2 := hO14.view
  obtain ⟨q1, q2, q3, q4, q5, q6, -, -, rfl, -⟩ := hO14
  unfold dval at hVh ⊢
  have hBh : Below w14.heap.size w14 w14 := Below.refl _ _
  have hbA : Below w14.heap.size w14 (w14.alloc (.cells #[.slice q1 D2.secs.length q2, .slice q3 D2.cache.length q4, .int .i64 D2.ops, .slice q5 D2.faults.length q6, .bool D2.down] 28)) := (Below.refl _ _).alloc (Nat.le_refl _) _
  have nh : VN (w14.alloc (.cells #[.slice q1 D2.secs.length q2, .slice q3 D2.cache.length q4, .int .i64 D2.ops, .slice q5 D2.faults.length q6, .bool D2.down] 28)) w14.heap.size 28 [.slice q1 D2.secs.length q2, .slice q3 D2.cache.length q4, .int .i64 D2.ops, .slice q5 D2.faults.length q6, .bool D2.down] := VN.new w14 28 [.slice q1 D2.secs.length q2, .slice q3 D2.cache.length q4, .int .i64 D2.ops, .slice q5 D2.faults.length q6, .bool D2.down]
  have zanh : (w14.alloc (.cells #[.slice q1 D2.secs.length q2, .slice q3 D2.cache.length q4, .int .i64 D2.ops, .slice q5 D2.faults.length q6, .bool D2.down] 28)).heap.size = w14.heap.size + 1 := by simp
  replace nw := nw.below hbA
  replace ng := ng.below hbA
  replace hBw := hBw.trans (hbA.mono hBw.size)
  replace hB0 := hB0.trans (hbA.mono hB0.size)
  replace hBh := hBh.trans (hbA.mono hBh.size)
  replace hIh := hIh.up (Up.ofBelow hbA)
  clear hbA
  have hC := eqDisk_same _ _ D2 (w14.alloc (.cells #[.slice q1 D2.secs.length q2, .slice q3 D2.cache.length q4, .int .i64 D2.ops, .slice q5 D2.faults.length q6, .bool D2.down] 28)) (hVh.below hBh) (hV0.below hB0) hf2
  have nh0 : (w14.alloc (.cells #[.slice q1 D2.secs.length q2, .slice q3 D2.cache.length q4, .int .i64 D2.ops, .slice q5 D2.faults.length q6, .bool D2.down] 28)).cell? ⟨w14.heap.size, 0, none⟩ = some (.slice q1 D2.secs.length q2) := nh.cell 0
  have nh1 : (w14.alloc (.cells #[.slice q1 D2.secs.length q2, .slice q3 D2.cache.length q4, .int .i64 D2.ops, .slice q5 D2.faults.length q6, .bool D2.down] 28)).cell? ⟨w14.heap.size, 1, none⟩ = some (.slice q3 D2.cache.length q4) := nh.cell 1
  have nh2 : (w14.alloc (.cells #[.slice q1 D2.secs.length q2, .slice q3 D2.cache.length q4, .int .i64 D2.ops, .slice q5 D2.faults.length q6, .bool D2.down] 28)).cell? ⟨w14.heap.size, 2, none⟩ = some (.int .i64 D2.ops) := nh.cell 2
  have nh3 : (w14.alloc (.cells #[.slice q1 D2.secs.length q2, .slice q3 D2.cache.length q4, .int .i64 D2.ops, .slice q5 D2.faults.length q6, .bool D2.down] 28)).cell? ⟨w14.heap.size, 3, none⟩ = some (.slice q5 D2.faults.length q6) := nh.cell 3
  have nh4 : (w14.alloc (.cells #[.slice q1 D2.secs.length q2, .slice q3 D2.cache.length q4, .int .i64 D2.ops, .slice q5 D2.faults.length q6, .bool D2.down] 28)).cell? ⟨w14.heap.size, 4, none⟩ = some (.bool D2.down) := nh.cell 4
  have nw0 : (w14.alloc (.cells #[.slice q1 D2.secs.length q2, .slice q3 D2.cache.length q4, .int .i64 D2.ops, .slice q5 D2.faults.length q6, .bool D2.down] 28)).cell? ⟨w3.heap.size, 0, none⟩ = some (.slice p1 D2.secs.length p2) := nw.cell 0
  have nw1 : (w14.alloc (.cells #[.slice q1 D2.secs.length q2, .slice q3 D2.cache.length q4, .int .i64 D2.ops, .slice q5 D2.faults.length q6, .bool D2.down] 28)).cell? ⟨w3.heap.size, 1, none⟩ = some (.slice p3 D2.cache.length p4) := nw.cell 1
  have nw2 : (w14.alloc (.cells #[.slice q1 D2.secs.length q2, .slice q3 D2.cache.length q4, .int .i64 D2.ops, .slice q5 D2.faults.length q6, .bool D2.down] 28)).cell? ⟨w3.heap.size, 2, none⟩ = some (.int .i64 D2.ops) := nw.cell 2
  have nw3 : (w14.alloc (.cells #[.slice q1 D2.secs.length q2, .slice q3 D2.cache.length q4, .int .i64 D2.ops, .slice q5 D2.faults.length q6, .bool D2.down] 28)).cell? ⟨w3.heap.size, 3, none⟩ = some (.slice p5 D2.faults.length p6) := nw.cell 3
  have nw4 : (w14.alloc (.cells #[.slice q1 D2.secs.length q2, .slice q3 D2.cache.length q4, .int .i64 D2.ops, .slice q5 D2.faults.length q6, .bool D2.down] 28)).cell? ⟨w3.heap.size, 4, none⟩ = some (.bool D2.down) := nw.cell 4
  go_wp2_with fail
  refine hC.mono ?_
  rintro e w15 ⟨rfl, hb15⟩
  clear hC
  clear nh0 nh1 nh2 nh3 nh4
  clear nw0 nw1 nw2 nw3 nw4
  have zw15 := hb15.size
  replace nw := nw.below hb15
  replace ng := ng.below hb15
  replace nh := nh.below hb15
  replace hBw := hBw.trans (hb15.mono hBw.size)
  replace hB0 := hB0.trans (hb15.mono hB0.size)
  replace hBh := hBh.trans (hb15.mono hBh.size)
  replace hIh := hIh.up (Up.ofBelow hb15)
  clear hb15
  have hC := heldDisk_any _ D2 1 w15 hIh.own.view hf2 (by omega) (by omega)
  rw [hkg.out] at hC
  have ng0 : w15.cell? ⟨w5.heap.size, 0, none⟩ = some (.slice g1 D2.secs.length g2) := ng.cell 0
  have ng1 : w15.cell? ⟨w5.heap.size, 1, none⟩ = some (.slice g3 D2.cache.length g4) := ng.cell 1
  have ng2 : w15.cell? ⟨w5.heap.size, 2, none⟩ = some (.int .i64 D2.ops) := ng.cell 2
  have ng3 : w15.cell? ⟨w5.heap.size, 3, none⟩ = some (.slice g5 D2.faults.length g6) := ng.cell 3
  have ng4 : w15.cell? ⟨w5.heap.size, 4, none⟩ = some (.bool D2.down) := ng.cell 4
  go_wp2_with fail
  refine hC.mono ?_
  rintro e w16 ⟨rfl, hbw16⟩
  clear hC
  clear ng0 ng1 ng2 ng3 ng4
  have zw16 := hbw16.size
  replace nw := nw.below hbw16
  replace ng := ng.below hbw16
  replace nh := nh.below hbw16
  replace hBw := hBw.trans (hbw16.mono hBw.size)
  replace hB0 := hB0.trans (hbw16.mono hB0.size)
  replace hBh := hBh.trans (hbw16.mono hBh.size)
  replace hIh := hIh.up (Up.ofBelow hbw16)
  clear hbw16
  have HB : Hid (Below w.heap.size w w16) := hBw
  clear nw ng nh hIh hB0 hBh hV0 hVh hv hBw
  go_wp2
  go_ret
  exact ⟨rfl, HB.out⟩
end Go.Proofs.Ytnlceclfepgmhaa

