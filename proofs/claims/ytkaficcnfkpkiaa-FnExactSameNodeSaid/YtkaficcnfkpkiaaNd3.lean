/-
  Together: LawSameNode, NodeSameI, SliceIn, NodeIn
-/
import Derived.Test.YtkaficcnfkpkiaaNd1
import Derived.Test.YtkaficcnfkpkiaaNd2
import Derived.Deep.RegionHeld3
import Derived.Deep.RegionWith
import Derived.Deep.LoopGhost
import Derived.Test.YtkaficcnfkpkiaaProg
import Derived.WalkKit
import Derived.OpenShut
import Derived.Deep.Strs
import Derived.ChangeSame
import Derived.Lib.SmallJoins
/-
  The law FnExactSameNode, walked.
-/
namespace Go.Proofs.Ytkaficcnfkpkiaa
open Go.RowKit
set_option maxRecDepth 4000

set_option maxHeartbeats 8000000 in
theorem lawSameNode (u v : Value) (D E : PNode) (w : World) (h1 : NdView w u D) (h2 : NdView w v E) (hm1 : NLim D) (hm2 : NLim E)
    (hI : ∀ (W : World) (u' v' : Value), Below w.heap.size w W → NdView W u' D → NdView W v' E → NFine D → NFine E → Calls Try.prog 27 #[u', v'] W fun e w' => e = .returned (.bool (sameNd D E)) ∧ Below W.heap.size W w') :
    Calls Try.prog 7 #[u, v] w fun e w' => e = .returned (.bool true) ∧ Below w.heap.size w w' := by
  have hu := h1
  have hv := h2
  obtain ⟨ac, cc, ap, cp, ai, ci, rfl, -, -, -⟩ := h1.is
  obtain ⟨bc, dc, bp, dp, bi, di, rfl, -, -, -⟩ := h2.is
  clear h1 h2
  have hB0 : Below (w.heap.size + 1 + 1) ((w.alloc (.cells #[.bool D.leaf, .slice ac D.nk cc, .slice ap D.nv cp, .slice ai D.nd ci] 25)).alloc (.cells #[.bool E.leaf, .slice bc E.nk dc, .slice bp E.nv dp, .slice bi E.nd di] 25)) ((w.alloc (.cells #[.bool D.leaf, .slice ac D.nk cc, .slice ap D.nv cp, .slice ai D.nd ci] 25)).alloc (.cells #[.bool E.leaf, .slice bc E.nk dc, .slice bp E.nv dp, .slice bi E.nd di] 25)) := Below.refl _ _
  obtain ⟨hBw0, -⟩ := nbox44_below hB0
  have hZ := szNode_fine _ D 1048576 _ (hu.below hBw0) hm1 (by omega) (by omega)
  go_enter Try.func7, Try.ntmps7
  go_wp2_with fail
  refine hZ.mono ?_
  rintro e w1 ⟨L, rfl, hb1, hL⟩
  have hB1 := nbox44_on hB0 hb1
  obtain ⟨hBw1, hs1⟩ := nbox44_below hB1
  obtain ⟨⟨x0, x1, x2, x3⟩, y0, y1, y2, y3⟩ := nbox44 hB1
  clear hZ hb1 hB0 hBw0 hm1
  rcases hL with rfl | ⟨hL0, hL1, hf⟩
  · have HB : Hid (Below w.heap.size w w1) := hBw1
    clear hI hu hv hB1 hBw1 hm2
    go_wp2
    go_ret
    exact ⟨rfl, HB.out⟩
  have hLn : ¬ L < 0 := by omega
  have hZ := szNode_fine _ E L _ (hv.below hBw1) hm2 (by omega) (by omega)
  go_wp2_with fail
  refine hZ.mono ?_
  rintro e w2 ⟨L2, rfl, hb2, hL⟩
  have hB2 := nbox44_on hB1 hb2
  obtain ⟨hBw2, hs2⟩ := nbox44_below hB2
  clear x0 x1 x2 x3 y0 y1 y2 y3
  obtain ⟨⟨x0, x1, x2, x3⟩, y0, y1, y2, y3⟩ := nbox44 hB2
  clear hZ hb2 hB1 hBw1 hm2 hs1
  rcases hL with rfl | ⟨hL0', hL1', hg⟩
  · have HB : Hid (Below w.heap.size w w2) := hBw2
    clear hI hu hv hB2 hBw2
    go_wp2
    go_ret
    exact ⟨rfl, HB.out⟩
  have hLn2 : ¬ L2 < 0 := by omega
  have hTA : ∀ W, Below w.heap.size w W → Calls Try.prog 11 #[.agg #[.bool D.leaf, .slice ac D.nk cc, .slice ap D.nv cp, .slice ai D.nd ci]] W fun e w' => ∃ v', e = .returned v' ∧ NdOwn w' W.heap.size v' D ∧ Below W.heap.size W w' := fun W hb => toNode_any _ D W (hu.below hb) hf
  have hTB : ∀ W, Below w.heap.size w W → Calls Try.prog 11 #[.agg #[.bool E.leaf, .slice bc E.nk dc, .slice bp E.nv dp, .slice bi E.nd di]] W fun e w' => ∃ v', e = .returned v' ∧ NdOwn w' W.heap.size v' E ∧ Below W.heap.size W w' := fun W hb => toNode_any _ E W (hv.below hb) hg
  have hP : ∀ W u' v', NdView W u' D → NdView W v' E → Calls Try.prog 26 #[u', v'] W fun e w' => e = .returned (.bool (sameNd D E)) ∧ Below W.heap.size W w' := fun W u' v' a b => specSameNd_any u' v' D E W a b hf
  have hEA : ∀ W u' v', NdView W u' D → NdView W v' D → Calls Try.prog 13 #[u', v'] W fun e w' => e = .returned (.bool true) ∧ Below W.heap.size W w' := fun W u' v' a b => eqNode_same u' v' D W a b hf
  have hEB : ∀ W u' v', NdView W u' E → NdView W v' E → Calls Try.prog 13 #[u', v'] W fun e w' => e = .returned (.bool true) ∧ Below W.heap.size W w' := fun W u' v' a b => eqNode_same u' v' E W a b hg
  have hI' := fun W u' v' hb a b => hI W u' v' hb a b hf hg
  obtain ⟨r, hr⟩ : ∃ r, Hid (sameNd D E = r) := ⟨_, rfl⟩
  simp only [hr.out] at hP hI'
  have HB2 : Hid (Below (w.heap.size + 1 + 1) ((w.alloc (.cells #[.bool D.leaf, .slice ac D.nk cc, .slice ap D.nv cp, .slice ai D.nd ci] 25)).alloc (.cells #[.bool E.leaf, .slice bc E.nk dc, .slice bp E.nv dp, .slice bi E.nd di] 25)) w2) := hB2
  have HBw2 : Hid (Below w.heap.size w w2) := hBw2
  have hA2 : w.heap.size < w2.heap.size := by omega
  have hA3 : w.heap.size + 1 < w2.heap.size := by omega
  have HWK : Hid (∀ W, Below w2.heap.size w2 W → (W.cell? ⟨w.heap.size, 0, none⟩ = some (.bool D.leaf) ∧ W.cell? ⟨w.heap.size, 1, none⟩ = some (.slice ac D.nk cc) ∧ W.cell? ⟨w.heap.size, 2, none⟩ = some (.slice ap D.nv cp) ∧ W.cell? ⟨w.heap.size, 3, none⟩ = some (.slice ai D.nd ci)) ∧ (W.cell? ⟨w.heap.size + 1, 0, none⟩ = some (.bool E.leaf) ∧ W.cell? ⟨w.heap.size + 1, 1, none⟩ = some (.slice bc E.nk dc) ∧ W.cell? ⟨w.heap.size + 1, 2, none⟩ = some (.slice bp E.nv dp) ∧ W.cell? ⟨w.heap.size + 1, 3, none⟩ = some (.slice bi E.nd di))) := by
    intro W hb
    refine ⟨⟨?_, ?_, ?_, ?_⟩, ?_, ?_, ?_, ?_⟩ <;> (rw [hb.cell (by first | exact hA2 | exact hA3)]; assumption)
  clear hA2 hA3
  have HMW : Hid (∀ W, Below w2.heap.size w2 W → Below w.heap.size w W) := fun W hb => HBw2.out.trans (hb.mono HBw2.out.size)
  clear hI hu hv hB2 hBw2 hf hg hL0 hL1 hL0' hL1' hLn
  go_wp2_with fail
  go_region_held3 (fun WW => (WW.cell? ⟨w.heap.size, 0, none⟩ = some (.bool D.leaf) ∧ WW.cell? ⟨w.heap.size, 1, none⟩ = some (.slice ac D.nk cc) ∧ WW.cell? ⟨w.heap.size, 2, none⟩ = some (.slice ap D.nv cp) ∧ WW.cell? ⟨w.heap.size, 3, none⟩ = some (.slice ai D.nd ci)) ∧ (WW.cell? ⟨w.heap.size + 1, 0, none⟩ = some (.bool E.leaf) ∧ WW.cell? ⟨w.heap.size + 1, 1, none⟩ = some (.slice bc E.nk dc) ∧ WW.cell? ⟨w.heap.size + 1, 2, none⟩ = some (.slice bp E.nv dp) ∧ WW.cell? ⟨w.heap.size + 1, 3, none⟩ = some (.slice bi E.nd di))) (first | assumption | go_keep) (first
    | (go_at_call_of 11 (D.leaf); refine (hTA _ (HMW.out _ (by repeat (first | exact Below.refl _ _ | refine Below.drew ?_)))).mono ?_; rintro e wa ⟨va, rfl, hOa, hBa⟩; have hba : Below w2.heap.size w2 wa := Below.trans (by repeat (first | exact Below.refl _ _ | refine Below.drew ?_)) hBa; have hcells : (wa.cell? ⟨w.heap.size, 0, none⟩ = some (.bool D.leaf) ∧ wa.cell? ⟨w.heap.size, 1, none⟩ = some (.slice ac D.nk cc) ∧ wa.cell? ⟨w.heap.size, 2, none⟩ = some (.slice ap D.nv cp) ∧ wa.cell? ⟨w.heap.size, 3, none⟩ = some (.slice ai D.nd ci)) ∧ (wa.cell? ⟨w.heap.size + 1, 0, none⟩ = some (.bool E.leaf) ∧ wa.cell? ⟨w.heap.size + 1, 1, none⟩ = some (.slice bc E.nk dc) ∧ wa.cell? ⟨w.heap.size + 1, 2, none⟩ = some (.slice bp E.nv dp) ∧ wa.cell? ⟨w.heap.size + 1, 3, none⟩ = some (.slice bi E.nd di)) := HWK.out _ hba)
    | (go_at_call_of 11 (E.leaf); refine (hTB _ (HMW.out _ (by repeat (first | exact hba | refine Below.drew ?_)))).mono ?_; rintro e wb ⟨vb, rfl, hOb, hBb⟩; have hbab : Below wa.heap.size wa wb := Below.trans (by repeat (first | exact Below.refl _ _ | refine Below.drew ?_)) hBb; have hbb : Below w2.heap.size w2 wb := hba.trans (hbab.mono hba.size); have hcells2 : (wb.cell? ⟨w.heap.size, 0, none⟩ = some (.bool D.leaf) ∧ wb.cell? ⟨w.heap.size, 1, none⟩ = some (.slice ac D.nk cc) ∧ wb.cell? ⟨w.heap.size, 2, none⟩ = some (.slice ap D.nv cp) ∧ wb.cell? ⟨w.heap.size, 3, none⟩ = some (.slice ai D.nd ci)) ∧ (wb.cell? ⟨w.heap.size + 1, 0, none⟩ = some (.bool E.leaf) ∧ wb.cell? ⟨w.heap.size + 1, 1, none⟩ = some (.slice bc E.nk dc) ∧ wb.cell? ⟨w.heap.size + 1, 2, none⟩ = some (.slice bp E.nv dp) ∧ wb.cell? ⟨w.heap.size + 1, 3, none⟩ = some (.slice bi E.nd di)) := HWK.out _ hbb)
    | (go_at_call 26; refine (hP _ _ _ (by first | exact hOa.view.below hbab | exact (hOa.view.below hbab).below (Below.refl _ _).drew) (by first | exact hOb.view | exact hOb.view.below (Below.refl _ _).drew)).mono ?_; rintro e w3 ⟨rfl, hB3⟩; have hb3 : Below w2.heap.size w2 w3 := hbb.trans ((Below.trans (by repeat (first | exact Below.refl _ _ | refine Below.drew ?_)) hB3).mono hbb.size); have hcells3 : (w3.cell? ⟨w.heap.size, 0, none⟩ = some (.bool D.leaf) ∧ w3.cell? ⟨w.heap.size, 1, none⟩ = some (.slice ac D.nk cc) ∧ w3.cell? ⟨w.heap.size, 2, none⟩ = some (.slice ap D.nv cp) ∧ w3.cell? ⟨w.heap.size, 3, none⟩ = some (.slice ai D.nd ci)) ∧ (w3.cell? ⟨w.heap.size + 1, 0, none⟩ = some (.bool E.leaf) ∧ w3.cell? ⟨w.heap.size + 1, 1, none⟩ = some (.slice bc E.nk dc) ∧ w3.cell? ⟨w.heap.size + 1, 2, none⟩ = some (.slice bp E.nv dp) ∧ w3.cell? ⟨w.heap.size + 1, 3, none⟩ = some (.slice bi E.nd di)) := HWK.out _ hb3))
  all_goals
    obtain ⟨W3, hW3⟩ : ∃ W3, Hid (w3 = W3) := ⟨_, rfl⟩
    have hB3' := nbox44_on HB2.out hb3
    have hM3 := HMW.out _ hb3
    rw [hW3.out] at hB3' hM3 ⊢
    clear hcells hcells2 hcells3 hBa hBb hB3 hba hbb hbab hb3 hOa hOb HB2 HBw2 HWK HMW hP x0 x1 x2 x3 y0 y1 y2 y3
    obtain ⟨⟨x0, x1, x2, x3⟩, y0, y1, y2, y3⟩ := nbox44 hB3'
    have hT := hTA W3 hM3
    go_wp2_with fail
    refine hT.mono ?_
    rintro e w4 ⟨v4, rfl, hO4, hb4⟩
    have hB4 := nbox44_on hB3' hb4
    have hD4 := hO4.view
    obtain ⟨gc, kc, gp, kp, gi, ki, rfl, -, -, -, -, -, -⟩ := hO4.is
    have hbA : Below w4.heap.size w4 (w4.alloc (.cells #[.bool D.leaf, .slice (some ⟨gc, 0, none⟩) D.nk kc, .slice (some ⟨gp, 0, none⟩) D.nv kp, .slice (some ⟨gi, 0, none⟩) D.nd ki] 28)) := (Below.refl _ _).alloc (Nat.le_refl _) _
    have hB5 := nbox44_on hB4 hbA
    obtain ⟨hBw5, hs5⟩ := nbox44_below hB5
    have C5 := nbox_start w4 (.cells #[.bool D.leaf, .slice (some ⟨gc, 0, none⟩) D.nk kc, .slice (some ⟨gp, 0, none⟩) D.nv kp, .slice (some ⟨gi, 0, none⟩) D.nd ki] 28)
    have hD5 := hD4.below hbA
    obtain ⟨W5, hW5⟩ : ∃ W5, Hid (w4.alloc (.cells #[.bool D.leaf, .slice (some ⟨gc, 0, none⟩) D.nk kc, .slice (some ⟨gp, 0, none⟩) D.nv kp, .slice (some ⟨gi, 0, none⟩) D.nd ki] 28) = W5) := ⟨_, rfl⟩
    clear x0 x1 x2 x3 y0 y1 y2 y3 hT hb4 hO4 hB3' hM3 hD4
    obtain ⟨X, hX⟩ : ∃ X, Hid (w4.heap.size = X) := ⟨_, rfl⟩
    have hx5 := nbox4 C5
    have hlt5 := (nbox_below C5).2
    rw [hW5.out] at hB5 hBw5 hs5 hD5 hx5 hlt5
    obtain ⟨⟨x0, x1, x2, x3⟩, y0, y1, y2, y3⟩ := nbox44 hB5
    have hT := hTB W5 hBw5
    clear C5 hbA hB4
    go_wp2_with (rw [hW5.out])
    rw [hX.out] at hx5 hlt5 ⊢
    refine hT.mono ?_
    rintro e w6 ⟨v6, rfl, hO6, hb6⟩
    have hB6 := nbox44_on hB5 hb6
    have hD6 := hO6.view
    have hD6x := hD5.below hb6
    obtain ⟨hc, lc, hp, lp, hi, li, rfl, -, -, -, -, -, -⟩ := hO6.is
    have hx6 : (w6.cell? ⟨X, 0, none⟩ = some (.bool D.leaf) ∧ w6.cell? ⟨X, 1, none⟩ = some (.slice (some ⟨gc, 0, none⟩) D.nk kc) ∧ w6.cell? ⟨X, 2, none⟩ = some (.slice (some ⟨gp, 0, none⟩) D.nv kp) ∧ w6.cell? ⟨X, 3, none⟩ = some (.slice (some ⟨gi, 0, none⟩) D.nd ki)) := by
      have hlt : X < W5.heap.size := hlt5
      exact ⟨(hb6.cell (p := ⟨X, 0, none⟩) hlt).trans hx5.1, (hb6.cell (p := ⟨X, 1, none⟩) hlt).trans hx5.2.1, (hb6.cell (p := ⟨X, 2, none⟩) hlt).trans hx5.2.2.1, (hb6.cell (p := ⟨X, 3, none⟩) hlt).trans hx5.2.2.2⟩
    have hlt6 := Nat.le_trans hlt5 hb6.size
    have hbA : Below w6.heap.size w6 (w6.alloc (.cells #[.bool E.leaf, .slice (some ⟨hc, 0, none⟩) E.nk lc, .slice (some ⟨hp, 0, none⟩) E.nv lp, .slice (some ⟨hi, 0, none⟩) E.nd li] 28)) := (Below.refl _ _).alloc (Nat.le_refl _) _
    have hB7 := nbox44_on hB6 hbA
    obtain ⟨hBw7, hs7⟩ := nbox44_below hB7
    have C7 := nbox_start w6 (.cells #[.bool E.leaf, .slice (some ⟨hc, 0, none⟩) E.nk lc, .slice (some ⟨hp, 0, none⟩) E.nv lp, .slice (some ⟨hi, 0, none⟩) E.nd li] 28)
    have hD7 := hD6.below hbA
    have hD7x := hD6x.below hbA
    have hx7 : ((w6.alloc (.cells #[.bool E.leaf, .slice (some ⟨hc, 0, none⟩) E.nk lc, .slice (some ⟨hp, 0, none⟩) E.nv lp, .slice (some ⟨hi, 0, none⟩) E.nd li] 28)).cell? ⟨X, 0, none⟩ = some (.bool D.leaf) ∧ (w6.alloc (.cells #[.bool E.leaf, .slice (some ⟨hc, 0, none⟩) E.nk lc, .slice (some ⟨hp, 0, none⟩) E.nv lp, .slice (some ⟨hi, 0, none⟩) E.nd li] 28)).cell? ⟨X, 1, none⟩ = some (.slice (some ⟨gc, 0, none⟩) D.nk kc) ∧ (w6.alloc (.cells #[.bool E.leaf, .slice (some ⟨hc, 0, none⟩) E.nk lc, .slice (some ⟨hp, 0, none⟩) E.nv lp, .slice (some ⟨hi, 0, none⟩) E.nd li] 28)).cell? ⟨X, 2, none⟩ = some (.slice (some ⟨gp, 0, none⟩) D.nv kp) ∧ (w6.alloc (.cells #[.bool E.leaf, .slice (some ⟨hc, 0, none⟩) E.nk lc, .slice (some ⟨hp, 0, none⟩) E.nv lp, .slice (some ⟨hi, 0, none⟩) E.nd li] 28)).cell? ⟨X, 3, none⟩ = some (.slice (some ⟨gi, 0, none⟩) D.nd ki)) := by
      have hlt : X < w6.heap.size := hlt6
      exact ⟨(hbA.cell (p := ⟨X, 0, none⟩) hlt).trans hx6.1, (hbA.cell (p := ⟨X, 1, none⟩) hlt).trans hx6.2.1, (hbA.cell (p := ⟨X, 2, none⟩) hlt).trans hx6.2.2.1, (hbA.cell (p := ⟨X, 3, none⟩) hlt).trans hx6.2.2.2⟩
    obtain ⟨W7, hW7⟩ : ∃ W7, Hid (w6.alloc (.cells #[.bool E.leaf, .slice (some ⟨hc, 0, none⟩) E.nk lc, .slice (some ⟨hp, 0, none⟩) E.nv lp, .slice (some ⟨hi, 0, none⟩) E.nd li] 28) = W7) := ⟨_, rfl⟩
    obtain ⟨Y, hY⟩ : ∃ Y, Hid (w6.heap.size = Y) := ⟨_, rfl⟩
    have hy7 := nbox4 C7
    have hlt7 := (nbox_below C7).2
    clear x0 x1 x2 x3 y0 y1 y2 y3 hT hb6 hO6 hB5 hBw5 hs5 hD5 hD6 hD6x hx5 hx6 hlt5 C7 hB6
    rw [hW7.out] at hB7 hBw7 hs7 hD7 hD7x hx7 hy7 hlt7
    obtain ⟨m0, m1, m2, m3⟩ := hx7
    have hG := hI' W7 _ _ hBw7 hD7x hD7
    clear hbA
    obtain ⟨n0, n1, n2, n3⟩ := hy7
    go_wp2_with (rw [hW7.out])
    rw [hY.out] at n0 n1 n2 n3 hlt7 hlt6 ⊢
    refine hG.mono ?_
    rintro e w8 ⟨rfl, hb8⟩
    have hB8 := nbox44_on hB7 hb8
    obtain ⟨hBw8, hs8⟩ := nbox44_below hB8
    obtain ⟨⟨x0, x1, x2, x3⟩, y0, y1, y2, y3⟩ := nbox44 hB8
    have hDx := hD7x.below hb8
    have hDy := hD7.below hb8
    have hl8 := hb8.size
    have hX7 : X < W7.heap.size := by omega
    have hY7 : Y < W7.heap.size := by omega
    have q0 := (hb8.cell (p := ⟨X, 0, none⟩) hX7).trans m0
    have q1 := (hb8.cell (p := ⟨X, 1, none⟩) hX7).trans m1
    have q2 := (hb8.cell (p := ⟨X, 2, none⟩) hX7).trans m2
    have q3 := (hb8.cell (p := ⟨X, 3, none⟩) hX7).trans m3
    have s0 := (hb8.cell (p := ⟨Y, 0, none⟩) hY7).trans n0
    have s1 := (hb8.cell (p := ⟨Y, 1, none⟩) hY7).trans n1
    have s2 := (hb8.cell (p := ⟨Y, 2, none⟩) hY7).trans n2
    have s3 := (hb8.cell (p := ⟨Y, 3, none⟩) hY7).trans n3
    have hX8 : X < w8.heap.size := by omega
    have hY8 : Y < w8.heap.size := by omega
    have hA8 : w.heap.size < w8.heap.size := by omega
    have hA9 : w.heap.size + 1 < w8.heap.size := by omega
    have HWK : Hid (∀ W, Below w8.heap.size w8 W → ((W.cell? ⟨w.heap.size, 0, none⟩ = some (.bool D.leaf) ∧ W.cell? ⟨w.heap.size, 1, none⟩ = some (.slice ac D.nk cc) ∧ W.cell? ⟨w.heap.size, 2, none⟩ = some (.slice ap D.nv cp) ∧ W.cell? ⟨w.heap.size, 3, none⟩ = some (.slice ai D.nd ci)) ∧ (W.cell? ⟨w.heap.size + 1, 0, none⟩ = some (.bool E.leaf) ∧ W.cell? ⟨w.heap.size + 1, 1, none⟩ = some (.slice bc E.nk dc) ∧ W.cell? ⟨w.heap.size + 1, 2, none⟩ = some (.slice bp E.nv dp) ∧ W.cell? ⟨w.heap.size + 1, 3, none⟩ = some (.slice bi E.nd di))) ∧ (W.cell? ⟨X, 0, none⟩ = some (.bool D.leaf) ∧ W.cell? ⟨X, 1, none⟩ = some (.slice (some ⟨gc, 0, none⟩) D.nk kc) ∧ W.cell? ⟨X, 2, none⟩ = some (.slice (some ⟨gp, 0, none⟩) D.nv kp) ∧ W.cell? ⟨X, 3, none⟩ = some (.slice (some ⟨gi, 0, none⟩) D.nd ki)) ∧ (W.cell? ⟨Y, 0, none⟩ = some (.bool E.leaf) ∧ W.cell? ⟨Y, 1, none⟩ = some (.slice (some ⟨hc, 0, none⟩) E.nk lc) ∧ W.cell? ⟨Y, 2, none⟩ = some (.slice (some ⟨hp, 0, none⟩) E.nv lp) ∧ W.cell? ⟨Y, 3, none⟩ = some (.slice (some ⟨hi, 0, none⟩) E.nd li))) := by
      intro W hb
      refine ⟨⟨⟨?_, ?_, ?_, ?_⟩, ?_, ?_, ?_, ?_⟩, ⟨?_, ?_, ?_, ?_⟩, ?_, ?_, ?_, ?_⟩ <;> (rw [hb.cell (by first | exact hA8 | exact hA9 | exact hX8 | exact hY8)]; assumption)
    clear hA8 hA9 hX7 hY7
    have HMW : Hid (∀ W, Below w8.heap.size w8 W → Below w.heap.size w W) := fun W hb => hBw8.trans (hb.mono hBw8.size)
    have hEX : ∀ W v', Below w8.heap.size w8 W → NdView W v' D → Calls Try.prog 13 #[.agg #[.bool D.leaf, .slice (some ⟨gc, 0, none⟩) D.nk kc, .slice (some ⟨gp, 0, none⟩) D.nv kp, .slice (some ⟨gi, 0, none⟩) D.nd ki], v'] W fun e w' => e = .returned (.bool true) ∧ Below W.heap.size W w' := fun W v' hb a => hEA W _ v' (hDx.below hb) a
    have hEY : ∀ W v', Below w8.heap.size w8 W → NdView W v' E → Calls Try.prog 13 #[.agg #[.bool E.leaf, .slice (some ⟨hc, 0, none⟩) E.nk lc, .slice (some ⟨hp, 0, none⟩) E.nv lp, .slice (some ⟨hi, 0, none⟩) E.nd li], v'] W fun e w' => e = .returned (.bool true) ∧ Below W.heap.size W w' := fun W v' hb a => hEB W _ v' (hDy.below hb) a
    have hqr : (r != r) = false := bne_self_eq_false _
    clear hI' hG hb8 hB7 hBw7 hs7 hD7 hD7x hlt6 hlt7 m0 m1 m2 m3 n0 n1 n2 n3 hEA hEB hDx hDy hB8 hl8
    go_wp2_with fail
    go_region_held3 (fun WW => ((WW.cell? ⟨w.heap.size, 0, none⟩ = some (.bool D.leaf) ∧ WW.cell? ⟨w.heap.size, 1, none⟩ = some (.slice ac D.nk cc) ∧ WW.cell? ⟨w.heap.size, 2, none⟩ = some (.slice ap D.nv cp) ∧ WW.cell? ⟨w.heap.size, 3, none⟩ = some (.slice ai D.nd ci)) ∧ (WW.cell? ⟨w.heap.size + 1, 0, none⟩ = some (.bool E.leaf) ∧ WW.cell? ⟨w.heap.size + 1, 1, none⟩ = some (.slice bc E.nk dc) ∧ WW.cell? ⟨w.heap.size + 1, 2, none⟩ = some (.slice bp E.nv dp) ∧ WW.cell? ⟨w.heap.size + 1, 3, none⟩ = some (.slice bi E.nd di))) ∧ (WW.cell? ⟨X, 0, none⟩ = some (.bool D.leaf) ∧ WW.cell? ⟨X, 1, none⟩ = some (.slice (some ⟨gc, 0, none⟩) D.nk kc) ∧ WW.cell? ⟨X, 2, none⟩ = some (.slice (some ⟨gp, 0, none⟩) D.nv kp) ∧ WW.cell? ⟨X, 3, none⟩ = some (.slice (some ⟨gi, 0, none⟩) D.nd ki)) ∧ (WW.cell? ⟨Y, 0, none⟩ = some (.bool E.leaf) ∧ WW.cell? ⟨Y, 1, none⟩ = some (.slice (some ⟨hc, 0, none⟩) E.nk lc) ∧ WW.cell? ⟨Y, 2, none⟩ = some (.slice (some ⟨hp, 0, none⟩) E.nv lp) ∧ WW.cell? ⟨Y, 3, none⟩ = some (.slice (some ⟨hi, 0, none⟩) E.nd li))) (first | assumption | go_keep) (first
      | (go_at_call 11; refine (hTA _ (HMW.out _ (by repeat (first | exact Below.refl _ _ | refine Below.drew ?_)))).mono ?_; rintro e wc ⟨vc, rfl, hOc, hBc⟩; have hbc : Below w8.heap.size w8 wc := Below.trans (by repeat (first | exact Below.refl _ _ | refine Below.drew ?_)) hBc; have hcells : ((wc.cell? ⟨w.heap.size, 0, none⟩ = some (.bool D.leaf) ∧ wc.cell? ⟨w.heap.size, 1, none⟩ = some (.slice ac D.nk cc) ∧ wc.cell? ⟨w.heap.size, 2, none⟩ = some (.slice ap D.nv cp) ∧ wc.cell? ⟨w.heap.size, 3, none⟩ = some (.slice ai D.nd ci)) ∧ (wc.cell? ⟨w.heap.size + 1, 0, none⟩ = some (.bool E.leaf) ∧ wc.cell? ⟨w.heap.size + 1, 1, none⟩ = some (.slice bc E.nk dc) ∧ wc.cell? ⟨w.heap.size + 1, 2, none⟩ = some (.slice bp E.nv dp) ∧ wc.cell? ⟨w.heap.size + 1, 3, none⟩ = some (.slice bi E.nd di))) ∧ (wc.cell? ⟨X, 0, none⟩ = some (.bool D.leaf) ∧ wc.cell? ⟨X, 1, none⟩ = some (.slice (some ⟨gc, 0, none⟩) D.nk kc) ∧ wc.cell? ⟨X, 2, none⟩ = some (.slice (some ⟨gp, 0, none⟩) D.nv kp) ∧ wc.cell? ⟨X, 3, none⟩ = some (.slice (some ⟨gi, 0, none⟩) D.nd ki)) ∧ (wc.cell? ⟨Y, 0, none⟩ = some (.bool E.leaf) ∧ wc.cell? ⟨Y, 1, none⟩ = some (.slice (some ⟨hc, 0, none⟩) E.nk lc) ∧ wc.cell? ⟨Y, 2, none⟩ = some (.slice (some ⟨hp, 0, none⟩) E.nv lp) ∧ wc.cell? ⟨Y, 3, none⟩ = some (.slice (some ⟨hi, 0, none⟩) E.nd li)) := HWK.out _ hbc)
      | (go_at_call 13; refine (hEX _ _ (by repeat (first | exact hbc | refine Below.drew ?_)) (by first | exact hOc.view | exact hOc.view.below (Below.refl _ _).drew)).mono ?_; rintro e wd ⟨rfl, hBd⟩; have hbd : Below w8.heap.size w8 wd := hbc.trans ((Below.trans (by repeat (first | exact Below.refl _ _ | refine Below.drew ?_)) hBd).mono hbc.size); have hcellsd : ((wd.cell? ⟨w.heap.size, 0, none⟩ = some (.bool D.leaf) ∧ wd.cell? ⟨w.heap.size, 1, none⟩ = some (.slice ac D.nk cc) ∧ wd.cell? ⟨w.heap.size, 2, none⟩ = some (.slice ap D.nv cp) ∧ wd.cell? ⟨w.heap.size, 3, none⟩ = some (.slice ai D.nd ci)) ∧ (wd.cell? ⟨w.heap.size + 1, 0, none⟩ = some (.bool E.leaf) ∧ wd.cell? ⟨w.heap.size + 1, 1, none⟩ = some (.slice bc E.nk dc) ∧ wd.cell? ⟨w.heap.size + 1, 2, none⟩ = some (.slice bp E.nv dp) ∧ wd.cell? ⟨w.heap.size + 1, 3, none⟩ = some (.slice bi E.nd di))) ∧ (wd.cell? ⟨X, 0, none⟩ = some (.bool D.leaf) ∧ wd.cell? ⟨X, 1, none⟩ = some (.slice (some ⟨gc, 0, none⟩) D.nk kc) ∧ wd.cell? ⟨X, 2, none⟩ = some (.slice (some ⟨gp, 0, none⟩) D.nv kp) ∧ wd.cell? ⟨X, 3, none⟩ = some (.slice (some ⟨gi, 0, none⟩) D.nd ki)) ∧ (wd.cell? ⟨Y, 0, none⟩ = some (.bool E.leaf) ∧ wd.cell? ⟨Y, 1, none⟩ = some (.slice (some ⟨hc, 0, none⟩) E.nk lc) ∧ wd.cell? ⟨Y, 2, none⟩ = some (.slice (some ⟨hp, 0, none⟩) E.nv lp) ∧ wd.cell? ⟨Y, 3, none⟩ = some (.slice (some ⟨hi, 0, none⟩) E.nd li)) := HWK.out _ hbd))
    all_goals
      obtain ⟨⟨⟨x0, x1, x2, x3⟩, y0, y1, y2, y3⟩, ⟨q0, q1, q2, q3⟩, s0, s1, s2, s3⟩ := hcellsd
      clear hcells hBc hBd hbc hOc
      go_wp2_with fail
      go_region_held3 (fun WW => ((WW.cell? ⟨w.heap.size, 0, none⟩ = some (.bool D.leaf) ∧ WW.cell? ⟨w.heap.size, 1, none⟩ = some (.slice ac D.nk cc) ∧ WW.cell? ⟨w.heap.size, 2, none⟩ = some (.slice ap D.nv cp) ∧ WW.cell? ⟨w.heap.size, 3, none⟩ = some (.slice ai D.nd ci)) ∧ (WW.cell? ⟨w.heap.size + 1, 0, none⟩ = some (.bool E.leaf) ∧ WW.cell? ⟨w.heap.size + 1, 1, none⟩ = some (.slice bc E.nk dc) ∧ WW.cell? ⟨w.heap.size + 1, 2, none⟩ = some (.slice bp E.nv dp) ∧ WW.cell? ⟨w.heap.size + 1, 3, none⟩ = some (.slice bi E.nd di))) ∧ (WW.cell? ⟨X, 0, none⟩ = some (.bool D.leaf) ∧ WW.cell? ⟨X, 1, none⟩ = some (.slice (some ⟨gc, 0, none⟩) D.nk kc) ∧ WW.cell? ⟨X, 2, none⟩ = some (.slice (some ⟨gp, 0, none⟩) D.nv kp) ∧ WW.cell? ⟨X, 3, none⟩ = some (.slice (some ⟨gi, 0, none⟩) D.nd ki)) ∧ (WW.cell? ⟨Y, 0, none⟩ = some (.bool E.leaf) ∧ WW.cell? ⟨Y, 1, none⟩ = some (.slice (some ⟨hc, 0, none⟩) E.nk lc) ∧ WW.cell? ⟨Y, 2, none⟩ = some (.slice (some ⟨hp, 0, none⟩) E.nv lp) ∧ WW.cell? ⟨Y, 3, none⟩ = some (.slice (some ⟨hi, 0, none⟩) E.nd li))) (first | assumption | go_keep) (first
        | (go_at_call 11; refine (hTB _ (HMW.out _ (by repeat (first | exact hbd | refine Below.drew ?_)))).mono ?_; rintro e wf ⟨vf, rfl, hOf, hBf⟩; have hbf : Below w8.heap.size w8 wf := hbd.trans ((Below.trans (by repeat (first | exact Below.refl _ _ | refine Below.drew ?_)) hBf).mono hbd.size); have hcells : ((wf.cell? ⟨w.heap.size, 0, none⟩ = some (.bool D.leaf) ∧ wf.cell? ⟨w.heap.size, 1, none⟩ = some (.slice ac D.nk cc) ∧ wf.cell? ⟨w.heap.size, 2, none⟩ = some (.slice ap D.nv cp) ∧ wf.cell? ⟨w.heap.size, 3, none⟩ = some (.slice ai D.nd ci)) ∧ (wf.cell? ⟨w.heap.size + 1, 0, none⟩ = some (.bool E.leaf) ∧ wf.cell? ⟨w.heap.size + 1, 1, none⟩ = some (.slice bc E.nk dc) ∧ wf.cell? ⟨w.heap.size + 1, 2, none⟩ = some (.slice bp E.nv dp) ∧ wf.cell? ⟨w.heap.size + 1, 3, none⟩ = some (.slice bi E.nd di))) ∧ (wf.cell? ⟨X, 0, none⟩ = some (.bool D.leaf) ∧ wf.cell? ⟨X, 1, none⟩ = some (.slice (some ⟨gc, 0, none⟩) D.nk kc) ∧ wf.cell? ⟨X, 2, none⟩ = some (.slice (some ⟨gp, 0, none⟩) D.nv kp) ∧ wf.cell? ⟨X, 3, none⟩ = some (.slice (some ⟨gi, 0, none⟩) D.nd ki)) ∧ (wf.cell? ⟨Y, 0, none⟩ = some (.bool E.leaf) ∧ wf.cell? ⟨Y, 1, none⟩ = some (.slice (some ⟨hc, 0, none⟩) E.nk lc) ∧ wf.cell? ⟨Y, 2, none⟩ = some (.slice (some ⟨hp, 0, none⟩) E.nv lp) ∧ wf.cell? ⟨Y, 3, none⟩ = some (.slice (some ⟨hi, 0, none⟩) E.nd li)) := HWK.out _ hbf)
        | (go_at_call 13; refine (hEY _ _ (by repeat (first | exact hbf | refine Below.drew ?_)) (by first | exact hOf.view | exact hOf.view.below (Below.refl _ _).drew)).mono ?_; rintro e wg ⟨rfl, hBg⟩; have hbg : Below w8.heap.size w8 wg := hbf.trans ((Below.trans (by repeat (first | exact Below.refl _ _ | refine Below.drew ?_)) hBg).mono hbf.size); have hcellsg : ((wg.cell? ⟨w.heap.size, 0, none⟩ = some (.bool D.leaf) ∧ wg.cell? ⟨w.heap.size, 1, none⟩ = some (.slice ac D.nk cc) ∧ wg.cell? ⟨w.heap.size, 2, none⟩ = some (.slice ap D.nv cp) ∧ wg.cell? ⟨w.heap.size, 3, none⟩ = some (.slice ai D.nd ci)) ∧ (wg.cell? ⟨w.heap.size + 1, 0, none⟩ = some (.bool E.leaf) ∧ wg.cell? ⟨w.heap.size + 1, 1, none⟩ = some (.slice bc E.nk dc) ∧ wg.cell? ⟨w.heap.size + 1, 2, none⟩ = some (.slice bp E.nv dp) ∧ wg.cell? ⟨w.heap.size + 1, 3, none⟩ = some (.slice bi E.nd di))) ∧ (wg.cell? ⟨X, 0, none⟩ = some (.bool D.leaf) ∧ wg.cell? ⟨X, 1, none⟩ = some (.slice (some ⟨gc, 0, none⟩) D.nk kc) ∧ wg.cell? ⟨X, 2, none⟩ = some (.slice (some ⟨gp, 0, none⟩) D.nv kp) ∧ wg.cell? ⟨X, 3, none⟩ = some (.slice (some ⟨gi, 0, none⟩) D.nd ki)) ∧ (wg.cell? ⟨Y, 0, none⟩ = some (.bool E.leaf) ∧ wg.cell? ⟨Y, 1, none⟩ = some (.slice (some ⟨hc, 0, none⟩) E.nk lc) ∧ wg.cell? ⟨Y, 2, none⟩ = some (.slice (some ⟨hp, 0, none⟩) E.nv lp) ∧ wg.cell? ⟨Y, 3, none⟩ = some (.slice (some ⟨hi, 0, none⟩) E.nd li)) := HWK.out _ hbg))
      all_goals
        have HB : Hid (Below w.heap.size w wg) := HMW.out _ hbg
        clear hcells hcellsg hBf hBg hbf hbg hbd hOf HWK HMW hTA hTB hEX hEY
        go_wp2
        go_ret
        exact ⟨rfl, by first | exact HB.out | exact HB.out.drew⟩
end Go.Proofs.Ytkaficcnfkpkiaa

/-
  The program's SameNode comes to the plain one.
-/
namespace Go.Proofs.Ytkaficcnfkpkiaa
open Go.RowKit
set_option maxRecDepth 4000

set_option maxHeartbeats 2000000 in
theorem equalTx_any (a1 a2 : Option Addr) (n c1 m c2 : Nat) (f g : Nat → ByteArray) (w : World) (h1 : TxV w a1 n c1 f) (h2 : TxV w a2 m c2 g) (hn : n ≤ 1048576) :
    Calls Try.prog 57 #[.slice a1 n c1, .slice a2 m c2] w fun e w' => e = .returned (.bool (sameTx n f m g)) ∧ Below w.heap.size w w' := by
  by_cases hnm : n = m
  · subst hnm
    have hq : ((n : Int) != (n : Int)) = false := bne_self_eq_false _
    go_enter Try.func57, Try.ntmps57
    go_wp2
    go_loopg [13] n (fun q i wr => ∃ k : Nat, k ≤ n ∧ q = n - k ∧ i = .int .i64 k ∧ Below w.heap.size w wr ∧ Hid (∀ i, i < k → f i = g i))
    case atStart => exact ⟨0, Nat.zero_le _, rfl, rfl, Below.refl _ _, fun j hj => absurd hj (Nat.not_lt_zero _)⟩
    case round =>
      obtain ⟨k, hk, rfl, rfl, hB, HA⟩ := hrel
      by_cases hlt : k < n
      · have hkz : (k : Int) < (n : Int) := by omega
        obtain ⟨b1, o1, rfl, hb1, x0⟩ := txv_at (h1.below hB) hlt
        obtain ⟨b2, o2, rfl, hb2, y0⟩ := txv_at (h2.below hB) hlt
        have HB : Hid (Below w.heap.size w wr) := hB
        clear h1 h2 hB hq
        by_cases hfg : f k = g k
        · have HN : Hid (∀ i, i < k + 1 → f i = g i) := by
            intro i hi
            by_cases e : i < k
            · exact HA.out i e
            · obtain rfl : i = k := by omega
              exact hfg
          rw [← hfg] at y0
          clear HA hfg
          obtain ⟨p0, hp0⟩ : ∃ x, Hid (f k = x) := ⟨_, rfl⟩
          rw [hp0.out] at x0 y0
          have e0 := bytes_eq (a := p0) rfl
          go_wp2
          go_region
          all_goals go_wp2
          all_goals
            go_roundg (n - (k + 1))
            case measure => omega
            case rel => exact ⟨k + 1, by omega, rfl, by go_num, by first | exact HB.out.drew | exact HB.out, HN⟩
        · have HF : Hid (sameTx n f n g = false) := sameTx_at hlt hfg
          have e0 := bytes_ne hfg
          obtain ⟨p0, hp0⟩ : ∃ x, Hid (f k = x) := ⟨_, rfl⟩
          obtain ⟨p1, hp1⟩ : ∃ x, Hid (g k = x) := ⟨_, rfl⟩
          rw [hp0.out] at x0 e0
          rw [hp1.out] at y0 e0
          clear HA hfg
          go_wp2
          go_region
          all_goals go_wp2
          all_goals
            go_ret
            exact ⟨by rw [HF.out]; rfl, by first | exact HB.out.drew | exact HB.out⟩
      · have hkz : ¬ (k : Int) < (n : Int) := by omega
        obtain rfl : k = n := by omega
        have HF : Hid (sameTx k f k g = true) := sameTx_yes HA.out
        clear h1 h2
        go_wp2
        go_ret
        exact ⟨by rw [HF.out]; rfl, hB⟩
  · have hq : ((n : Int) != (m : Int)) = true := by simp; omega
    have HF : Hid (sameTx n f m g = false) := sameTx_len hnm
    clear h1 h2 hnm
    go_enter Try.func57, Try.ntmps57
    go_wp2
    go_ret
    exact ⟨by rw [HF.out]; rfl, Below.refl _ _⟩

set_option maxHeartbeats 2000000 in
theorem equalNu_any (a1 a2 : Option Addr) (n c1 m c2 : Nat) (f g : Nat → Int) (w : World) (h1 : NuV w a1 n c1 f) (h2 : NuV w a2 m c2 g) (hn : n ≤ 1048576) :
    Calls Try.prog 58 #[.slice a1 n c1, .slice a2 m c2] w fun e w' => e = .returned (.bool (sameNu n f m g)) ∧ Below w.heap.size w w' := by
  by_cases hnm : n = m
  · subst hnm
    have hq : ((n : Int) != (n : Int)) = false := bne_self_eq_false _
    go_enter Try.func58, Try.ntmps58
    go_wp2
    go_loopg [13] n (fun q i wr => ∃ k : Nat, k ≤ n ∧ q = n - k ∧ i = .int .i64 k ∧ Below w.heap.size w wr ∧ Hid (∀ i, i < k → f i = g i))
    case atStart => exact ⟨0, Nat.zero_le _, rfl, rfl, Below.refl _ _, fun j hj => absurd hj (Nat.not_lt_zero _)⟩
    case round =>
      obtain ⟨k, hk, rfl, rfl, hB, HA⟩ := hrel
      by_cases hlt : k < n
      · have hkz : (k : Int) < (n : Int) := by omega
        obtain ⟨b1, o1, rfl, hb1, x0⟩ := nuv_at (h1.below hB) hlt
        obtain ⟨b2, o2, rfl, hb2, y0⟩ := nuv_at (h2.below hB) hlt
        have HB : Hid (Below w.heap.size w wr) := hB
        clear h1 h2 hB hq
        by_cases hfg : f k = g k
        · have HN : Hid (∀ i, i < k + 1 → f i = g i) := by
            intro i hi
            by_cases e : i < k
            · exact HA.out i e
            · obtain rfl : i = k := by omega
              exact hfg
          rw [← hfg] at y0
          clear HA hfg
          obtain ⟨p0, hp0⟩ : ∃ x, Hid (f k = x) := ⟨_, rfl⟩
          rw [hp0.out] at x0 y0
          have e0 : (p0 != p0) = false := bne_self_eq_false _
          go_wp2
          go_region
          all_goals go_wp2
          all_goals
            go_roundg (n - (k + 1))
            case measure => omega
            case rel => exact ⟨k + 1, by omega, rfl, by go_num, by first | exact HB.out.drew | exact HB.out, HN⟩
        · have HF : Hid (sameNu n f n g = false) := sameNu_at hlt hfg
          have e0 : (f k != g k) = true := by simp [bne, hfg]
          obtain ⟨p0, hp0⟩ : ∃ x, Hid (f k = x) := ⟨_, rfl⟩
          obtain ⟨p1, hp1⟩ : ∃ x, Hid (g k = x) := ⟨_, rfl⟩
          rw [hp0.out] at x0 e0
          rw [hp1.out] at y0 e0
          clear HA hfg
          go_wp2
          go_region
          all_goals go_wp2
          all_goals
            go_ret
            exact ⟨by rw [HF.out]; rfl, by first | exact HB.out.drew | exact HB.out⟩
      · have hkz : ¬ (k : Int) < (n : Int) := by omega
        obtain rfl : k = n := by omega
        have HF : Hid (sameNu k f k g = true) := sameNu_yes HA.out
        clear h1 h2
        go_wp2
        go_ret
        exact ⟨by rw [HF.out]; rfl, hB⟩
  · have hq : ((n : Int) != (m : Int)) = true := by simp; omega
    have HF : Hid (sameNu n f m g = false) := sameNu_len hnm
    clear h1 h2 hnm
    go_enter Try.func58, Try.ntmps58
    go_wp2
    go_ret
    exact ⟨by rw [HF.out]; rfl, Below.refl _ _⟩

set_option maxHeartbeats 4000000 in
theorem implSameNd_any (u v : Value) (D E : PNode) (w : World) (h1 : NdView w u D) (h2 : NdView w v E) (hf : NFine D) :
    Calls Try.prog 27 #[u, v] w fun e w' => e = .returned (.bool (sameNd D E)) ∧ Below w.heap.size w w' := by
  obtain ⟨ac, cc, ap, cp, ai, ci, rfl, hc1, hp1, hi1⟩ := h1.is
  obtain ⟨bc, dc, bp, dp, bi, di, rfl, hc2, hp2, hi2⟩ := h2.is
  clear h1 h2
  have hB0 : Below (w.heap.size + 1 + 1) ((w.alloc (.cells #[.bool D.leaf, .slice ac D.nk cc, .slice ap D.nv cp, .slice ai D.nd ci] 28)).alloc (.cells #[.bool E.leaf, .slice bc E.nk dc, .slice bp E.nv dp, .slice bi E.nd di] 28)) ((w.alloc (.cells #[.bool D.leaf, .slice ac D.nk cc, .slice ap D.nv cp, .slice ai D.nd ci] 28)).alloc (.cells #[.bool E.leaf, .slice bc E.nk dc, .slice bp E.nv dp, .slice bi E.nd di] 28)) := Below.refl _ _
  obtain ⟨hBw0, -⟩ := nbox44_below hB0
  have HO : Hid (sameNd D E = (D.leaf == E.leaf && sameTx D.nk D.key E.nk E.key && sameTx D.nv D.val E.nv E.val && sameNu D.nd D.kid E.nd E.kid)) := rfl
  obtain ⟨S, hS⟩ : ∃ x, Hid (sameNd D E = x) := ⟨_, rfl⟩
  rw [hS.out] at HO ⊢
  cases q0 : (D.leaf == E.leaf) with
  | false =>
    have HF : Hid (S = false) := by show _ = _; rw [HO.out, q0]; rfl
    clear hc1 hc2 hp1 hp2 hi1 hi2 HO hS
    go_enter Try.func27, Try.ntmps27
    go_wp2
    go_ret
    exact ⟨by rw [HF.out]; rfl, hBw0⟩
  | true =>
  have hV1 := equalTx_any ac bc D.nk cc E.nk dc D.key E.key _ (hc1.below hBw0) (hc2.below hBw0) hf.nk
  go_enter Try.func27, Try.ntmps27
  go_wp2_with fail
  refine hV1.mono ?_
  clear hV1 hc1 hc2
  cases q1 : sameTx D.nk D.key E.nk E.key with
  | false =>
    rintro e w1 ⟨rfl, hb1⟩
    have HF : Hid (S = false) := by show _ = _; rw [HO.out, q1]; simp
    have HB : Hid (Below w.heap.size w w1) := (nbox44_below (nbox44_on hB0 hb1)).1
    clear hp1 hp2 hi1 hi2 HO hS hb1 q0
    go_wp2
    go_ret
    exact ⟨by rw [HF.out]; rfl, HB.out⟩
  | true =>
  rintro e w1 ⟨rfl, hb1⟩
  have hB1 := nbox44_on hB0 hb1
  obtain ⟨hBw1, hs1⟩ := nbox44_below hB1
  obtain ⟨⟨x0, x1, x2, x3⟩, y0, y1, y2, y3⟩ := nbox44 hB1
  have hV2 := equalTx_any ap bp D.nv cp E.nv dp D.val E.val w1 (hp1.below hBw1) (hp2.below hBw1) hf.nv
  clear hb1 hB0 hBw0
  go_wp2_with fail
  refine hV2.mono ?_
  clear hV2 hp1 hp2
  cases q2 : sameTx D.nv D.val E.nv E.val with
  | false =>
    rintro e w2 ⟨rfl, hb2⟩
    have HF : Hid (S = false) := by show _ = _; rw [HO.out, q2]; simp
    have HB : Hid (Below w.heap.size w w2) := (nbox44_below (nbox44_on hB1 hb2)).1
    clear hi1 hi2 HO hS hb2 q0 q1 x0 x1 x2 x3 y0 y1 y2 y3
    go_wp2
    go_ret
    exact ⟨by rw [HF.out]; rfl, HB.out⟩
  | true =>
  rintro e w2 ⟨rfl, hb2⟩
  have hB2 := nbox44_on hB1 hb2
  obtain ⟨hBw2, hs2⟩ := nbox44_below hB2
  clear x0 x1 x2 x3 y0 y1 y2 y3
  obtain ⟨⟨x0, x1, x2, x3⟩, y0, y1, y2, y3⟩ := nbox44 hB2
  have hV3 := equalNu_any ai bi D.nd ci E.nd di D.kid E.kid w2 (hi1.below hBw2) (hi2.below hBw2) hf.nd
  clear hb2 hB1 hBw1 hs1
  go_wp2_with fail
  refine hV3.mono ?_
  rintro e w3 ⟨rfl, hb3⟩
  have HF : Hid (S = sameNu D.nd D.kid E.nd E.kid) := by show _ = _; rw [HO.out, q0, q1, q2]; simp
  have HB : Hid (Below w.heap.size w w3) := (nbox44_below (nbox44_on hB2 hb3)).1
  clear hi1 hi2 HO hS hb3 q0 q1 q2 x0 x1 x2 x3 y0 y1 y2 y3 hV3
  obtain ⟨R, hR⟩ : ∃ x, Hid (sameNu D.nd D.kid E.nd E.kid = x) := ⟨_, rfl⟩
  rw [hR.out] at HF ⊢
  go_wp2
  go_ret
  exact ⟨by rw [HF.out]; first | rfl | simp, HB.out⟩
end Go.Proofs.Ytkaficcnfkpkiaa

/-
  What the frame of a row hands over of a slice that came in, element by element.
-/
namespace Go.Proofs.Ytkaficcnfkpkiaa
open Go.RowKit
set_option maxRecDepth 4000
open Go.Deep Go.ChangeShapes

/-- A slice that came in, whose elements are each read. -/
theorem sliceIn {H : Type} {enc : TypeId × Value → H} {W : World} {sp : Nat → Bool} {α : Type} [Inhabited α] {T e : TypeId} {c fuel : Nat} {cs : List Value} {x : DataW H × List MemPlace}
    (ht : Try.prog.underlying T = some (.slice e)) (hc : Try.prog.cellsOf e = c) (hc0 : 0 < c) (Q : Addr → α → Prop)
    (each : ∀ (fuel : Nat) (cs : List Value) (x : DataW H × List MemPlace) (a : Addr), cs.length = c → (∀ j, j < c → W.cell? (a.add j) = cs[j]?) → DataW.trod enc Try.prog W 0 sp true fuel e cs = some x → ∃ y, Q a y)
    (h : DataW.trod enc Try.prog W 0 sp true fuel T cs = some x) :
    ∃ (ao : Option Addr) (n cap : Nat) (f : Nat → α), cs = [.slice ao n cap] ∧ n ≤ cap ∧ cap ≤ maxLen ∧ (0 < n → ∃ b off, ao = some ⟨b, off, none⟩ ∧ b < W.heap.size ∧ ∀ i, i < n → Q ⟨b, off + i * c, none⟩ (f i)) := by
  rcases DataW.trod_slice ht h with ⟨hcs, _⟩ | ⟨a, l, cap, elems, rest, n, _, hcs, _, _, hl, hm, hlen, hel, _, _⟩
  · exact ⟨none, 0, 0, fun _ => default, hcs, Nat.le_refl _, Nat.zero_le _, fun h => absurd h (Nat.lt_irrefl _)⟩
  · have key : ∀ i, i < l → ∃ y, Q (a.add (i * c)) y ∧ W.cell? (a.add (i * c)) ≠ none := by
      intro i hi
      have h1 := hel i hi
      rw [hc] at h1
      have h2 : elems[i]? = some elems[i] := List.getElem?_eq_getElem (by omega)
      rw [h2] at h1
      obtain ⟨cs, hcs, htr⟩ := Option.bind_eq_some_iff.1 h1
      obtain ⟨_, hl3, hcell⟩ := World.cells?_some hcs
      obtain ⟨y, hy⟩ := each n cs _ _ hl3 (fun j hj => hcell j hj) htr
      refine ⟨y, hy, ?_⟩
      have := hcell 0 (by omega)
      intro hn
      rw [show (a.add (i * c)).add 0 = a.add (i * c) by unfold Addr.add; split <;> simp_all, hn, List.getElem?_eq_getElem (by omega)] at this
      cases this
    have pick : ∃ f : Nat → α, ∀ i, i < l → Q (a.add (i * c)) (f i) := ⟨fun i => if h : i < l then (key i h).choose else default, fun i hi => by simp only [dif_pos hi]; exact (key i hi).choose_spec.1⟩
    obtain ⟨f, hf⟩ := pick
    refine ⟨some a, l, cap, f, hcs, hl, hm, fun hn => ?_⟩
    obtain ⟨b, off, spot⟩ := a
    obtain ⟨y0, -, h0⟩ := key 0 hn
    obtain ⟨u, hu⟩ := Option.ne_none_iff_exists'.1 h0
    have hs : spot = none := by simpa [Addr.add] using World.cell?_spot hu
    subst hs
    have ea : ∀ j, (⟨b, off, none⟩ : Addr).add j = ⟨b, off + j, none⟩ := fun j => by unfold Addr.add; split <;> simp_all
    rw [ea] at hu
    refine ⟨b, off, rfl, World.block_lt_of_cell? _ _ hu, fun i hi => ?_⟩
    have := hf i hi
    rw [ea] at this
    exact this

theorem addr_add (b off j : Nat) : (⟨b, off, none⟩ : Addr).add j = ⟨b, off + j, none⟩ := by unfold Addr.add; split <;> simp_all
end Go.Proofs.Ytkaficcnfkpkiaa

/-
  What the frame of a row hands over of a node that came in.
-/
namespace Go.Proofs.Ytkaficcnfkpkiaa
open Go.RowKit
set_option maxRecDepth 4000
open Go.Deep Go.ChangeShapes

theorem textsIn {H : Type} {enc : TypeId × Value → H} {W : World} {sp : Nat → Bool} {fuel : Nat} {cs : List Value} {x : DataW H × List MemPlace}
    (h : DataW.trod enc Try.prog W 0 sp true fuel 22 cs = some x) : ∃ a n cap f, cs = [.slice a n cap] ∧ TxV W a n cap f ∧ n ≤ maxLen ∧ ∀ i, i < n → (f i).size ≤ maxLen := by
  have c1 : Try.prog.cellsOf 9 = 1 := by kernel_rfl
  haveI : Inhabited ByteArray := ⟨⟨#[]⟩⟩
  obtain ⟨a, n, cap, f, e, hl, hm, hv⟩ := sliceIn (α := ByteArray) Try.underlying22 c1 (by decide) (fun a y => W.cell? (a.add 0) = some (.string y) ∧ y.size ≤ maxLen) (by
    intro fuel cs x a hl hcell htr
    match cs, hl with
    | [c0], _ =>
      obtain ⟨s, e0, _, hs⟩ := DataW.trod_string Try.underlying9 htr
      simp only [List.cons.injEq, and_true] at e0
      subst e0
      exact ⟨s, hcell 0 (by decide), hs⟩) h
  refine ⟨a, n, cap, f, e, ⟨hl, fun hn => ?_⟩, Nat.le_trans hl hm, fun i hi => ?_⟩
  · obtain ⟨b, off, ea, hlt, hc⟩ := hv hn
    refine ⟨b, off, ea, hlt, fun i hi => ?_⟩
    have := (hc i hi).1
    simpa only [addr_add, Nat.add_zero, Nat.mul_one] using this
  · obtain ⟨b, off, ea, hlt, hc⟩ := hv (by omega)
    exact (hc i hi).2
theorem numsIn {H : Type} {enc : TypeId × Value → H} {W : World} {sp : Nat → Bool} {fuel : Nat} {cs : List Value} {x : DataW H × List MemPlace}
    (h : DataW.trod enc Try.prog W 0 sp true fuel 23 cs = some x) : ∃ a n cap f, cs = [.slice a n cap] ∧ NuV W a n cap f ∧ n ≤ maxLen := by
  have c1 : Try.prog.cellsOf 3 = 1 := by kernel_rfl
  haveI : Inhabited Int := ⟨0⟩
  obtain ⟨a, n, cap, f, e, hl, hm, hv⟩ := sliceIn (α := Int) Try.underlying23 c1 (by decide) (fun a y => W.cell? (a.add 0) = some (.int .i64 y)) (by
    intro fuel cs x a hl hcell htr
    match cs, hl with
    | [c0], _ =>
      obtain ⟨s, e0, _, _⟩ := DataW.trod_int Try.underlying3 htr
      simp only [List.cons.injEq, and_true] at e0
      subst e0
      exact ⟨s, hcell 0 (by decide)⟩) h
  refine ⟨a, n, cap, f, e, ⟨hl, fun hn => ?_⟩, Nat.le_trans hl hm⟩
  · obtain ⟨b, off, ea, hlt, hc⟩ := hv hn
    refine ⟨b, off, ea, hlt, fun i hi => ?_⟩
    have := hc i hi
    simpa only [addr_add, Nat.add_zero, Nat.mul_one] using this
/-- The four cells of a node that came in. -/
theorem nodeIn {H : Type} {enc : TypeId × Value → H} {W : World} {sp : Nat → Bool} {n0 n1 n2 n3 : Nat} {c0 c1 c2 c3 : Value} {y0 y1 y2 y3 : DataW H × List MemPlace}
    (h0 : DataW.trod enc Try.prog W 0 sp true n0 4 [c0] = some y0) (h1 : DataW.trod enc Try.prog W 0 sp true n1 22 [c1] = some y1)
    (h2 : DataW.trod enc Try.prog W 0 sp true n2 22 [c2] = some y2) (h3 : DataW.trod enc Try.prog W 0 sp true n3 23 [c3] = some y3) :
    ∃ D : PNode, NdView W (.agg #[c0, c1, c2, c3]) D ∧ NLim D := by
  obtain ⟨s, e0, _⟩ := DataW.trod_bool Try.underlying4 h0
  obtain ⟨ac, nc, cc, fc, e1, v1, m1, z1⟩ := textsIn h1
  obtain ⟨ap, np, cp, fp, e2, v2, m2, z2⟩ := textsIn h2
  obtain ⟨ai, ni, ci, fi, e3, v3, m3⟩ := numsIn h3
  simp only [List.cons.injEq, and_true] at e0 e1 e2 e3
  subst e0 e1 e2 e3
  exact ⟨⟨s, nc, fc, np, fp, ni, fi⟩, ⟨ac, cc, ap, cp, ai, ci, rfl, v1, v2, v3⟩, ⟨m1, z1, m2, z2, m3⟩⟩
end Go.Proofs.Ytkaficcnfkpkiaa

