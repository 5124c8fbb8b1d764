/-
  Together: LawIndexPlan, IdxImpl11
-/
import Derived.Test.YtjoimkfpenbkmaaGreatDoorPackP3
import Derived.Test.YtjoimkfpenbkmaaGreatDoorPackP4
import Derived.Test.YtjoimkfpenbkmaaGreatDoorPackP9
import Derived.Test.YtjoimkfpenbkmaaGreatDoorSpecPlans11
import Derived.Deep.RegionHeld3
import Derived.Test.YtjoimkfpenbkmaaGreatDoorPackP12
/-
  The law FnExactIndexPlan, walked.
-/
namespace Go.Proofs.YtjoimkfpenbkmaaGreatDoor
open Go.RowKit
set_option maxRecDepth 4000

set_option maxHeartbeats 8000000 in
theorem lawIndexPlan (v : Value) (D : PDef) (i : Int) (w : World) (h : DView w v D) (hm : DLim D)
    (hI : ∀ (W : World) (v' : Value), Below w.heap.size w W → DView W v' D → DFine D → Calls Tryz.prog 12 #[v', .int .i64 i] W (PlanTo W (idxN D i) (plF D.col (ixpL D i)))) :
    Calls Tryz.prog 7 #[v, .int .i64 i] w fun e w' => e = .returned (.bool true) ∧ Below w.heap.size w w' := by
  have hv := h
  obtain ⟨ac, cc, ap, cp, ai, ci, rfl, -, -, -⟩ := h.is
  clear h
  have hB0 := box4_start w (.cells #[.string D.name, .slice ac D.nc cc, .slice ap D.np cp, .slice ai D.ni ci] 61)
  obtain ⟨hBw0, -⟩ := box4_below hB0
  have hZ := szDef_fine _ D 1048576 _ (hv.below hBw0) hm (by omega) (by omega)
  clear hm
  have hn6 := idxN_le D i
  have HSP : Hid (∀ W v', DView W v' D → DFine D → Calls Tryz.prog 40 #[v', .int .i64 i] W (PlanTo W (idxN D i) (plF D.col (ixpL D i)))) := fun W v' hd hf => specIndex_any v' D i W hd hf
  obtain ⟨n, hn⟩ : ∃ x, Hid (idxN D i = x) := ⟨_, rfl⟩
  obtain ⟨f, hff⟩ : ∃ x, Hid (plF D.col (ixpL D i) = x) := ⟨_, rfl⟩
  simp only [hn.out, hff.out] at hI HSP hn6
  have hn20 : n ≤ 1048576 := by omega
  obtain ⟨A, hA⟩ : ∃ x, Hid (Obj.cells #[.string D.name, .slice ac D.nc cc, .slice ap D.np cp, .slice ai D.ni ci] 61 = x) := ⟨_, rfl⟩
  have HBX : Hid (∀ W, Below (w.heap.size + 1) (w.alloc A) W → (W.cell? ⟨w.heap.size, 0, none⟩ = some (.string D.name) ∧ W.cell? ⟨w.heap.size, 1, none⟩ = some (.slice ac D.nc cc) ∧ W.cell? ⟨w.heap.size, 2, none⟩ = some (.slice ap D.np cp) ∧ W.cell? ⟨w.heap.size, 3, none⟩ = some (.slice ai D.ni ci)) ∧ Below w.heap.size w W ∧ w.heap.size + 1 ≤ W.heap.size) := by
    rw [← hA.out]
    exact fun W hb => ⟨box4 hb, box4_below hb⟩
  have HAV : Hid (∀ W, Below (w.heap.size + 1) (w.alloc A) W → DView W (.agg #[.string D.name, .slice ac D.nc cc, .slice ap D.np cp, .slice ai D.ni ci]) D) := fun W hb => hv.below (HBX.out W hb).2.1
  rw [hA.out] at hB0 hZ
  clear hv hBw0
  obtain ⟨⟨x0, x1, x2, x3⟩, -, -⟩ := HBX.out _ hB0
  go_enter Tryz.func7, Tryz.ntmps7
  go_wp2_with (rw [hA.out])
  refine hZ.mono ?_
  rintro e w1 ⟨L, rfl, hb1, hL⟩
  have hB1 := box4_on hB0 hb1
  clear hZ hb1 hB0 x0 x1 x2 x3
  obtain ⟨⟨x0, x1, x2, x3⟩, hBw1, -⟩ := HBX.out _ hB1
  rcases hL with rfl | ⟨hL0, hL1, hf⟩
  · have HB : Hid (Below w.heap.size w w1) := hBw1
    clear hI hB1 hBw1
    go_wp2
    go_ret
    exact ⟨rfl, HB.out⟩
  have hLn : ¬ L < 0 := by omega
  have HTD : Hid (∀ W, Below (w.heap.size + 1) (w.alloc A) W → Calls Tryz.prog 34 #[.agg #[.string D.name, .slice ac D.nc cc, .slice ap D.np cp, .slice ai D.ni ci]] W fun e w' => ∃ v', e = .returned v' ∧ DOwn w' W.heap.size v' D ∧ Below W.heap.size W w') := fun W hb => toDef_any _ D W (HAV.out W hb) hf
  have HED : Hid (∀ W u u', DView W u D → DView W u' D → Calls Tryz.prog 36 #[u, u'] W fun e w' => e = .returned (.bool true) ∧ Below W.heap.size W w') := fun W u u' h1 h2 => eqDef_same u u' D W h1 h2 hf
  have HMD : Hid (∀ W B u, DOwn W B u D → Calls Tryz.prog 37 #[u, .int .i64 1] W fun e w' => ∃ k' : Int, e = .returned (.int .i64 k') ∧ 0 ≤ k' ∧ Mk S3 B W w') := fun W B u h => markDef_mk B u D W h hf
  have HIM : Hid (∀ (W : World) (v' : Value), Below w.heap.size w W → DView W v' D → Calls Tryz.prog 12 #[v', .int .i64 i] W (PlanTo W n f)) := fun W v' hb hd => hI W v' hb hd hf
  have HEP : Hid (∀ (W : World) (b1 c1 b2 c2 : Nat) (g : Nat → PPart), W.ownsRow b1 39 4 (.slice (some ⟨c1, 0, none⟩) n b2) n (rowG (encQ g) n) → W.ownsRow b1 39 4 (.slice (some ⟨c2, 0, none⟩) n b2) n (rowG (encQ g) n) → True) := fun _ _ _ _ _ _ _ _ => trivial
  clear HEP
  have hSP := fun W v' hd => HSP.out W v' hd hf
  have HHD : Hid (∀ W gg cg, QView W (some ⟨gg, 0, none⟩) n cg (mkdQ 1) → Calls Tryz.prog 39 #[.slice (some ⟨gg, 0, none⟩) n cg, .int .i64 1] W fun e w' => e = .returned (.int .i64 (1 + 4 * n)) ∧ Below W.heap.size W w') := fun W gg cg hq => heldPartS_any _ n cg 1 W hq (by omega) (by omega)
  have HEQ : Hid (∀ W g1 c1 g2 c2 (q : Nat → PPart), QView W (some ⟨g1, 0, none⟩) n c1 q → QView W (some ⟨g2, 0, none⟩) n c2 q → Calls Tryz.prog 35 #[.slice (some ⟨g1, 0, none⟩) n c1, .slice (some ⟨g2, 0, none⟩) n c2] W fun e w' => e = .returned (.bool true) ∧ Below W.heap.size W w') := fun W g1 c1 g2 c2 q h1 h2 => eqPartS_same _ _ n c1 c2 _ _ _ _ W h1 h2 hn20
  clear hI HSP hf HAV
  -- the model's answer
  have hT := HTD.out w1 hB1
  go_wp2_with fail
  refine hT.mono ?_
  rintro e w2 ⟨v2, rfl, hO2, hb2⟩
  have hB2 := box4_on hB1 hb2
  have hC := hSP w2 v2 hO2.view
  clear hT hb2 hB1 hBw1 x0 x1 x2 x3 hO2 hSP
  go_wp2_with fail
  refine hC.mono ?_
  rintro e w3 ⟨gw, cw, rfl, hOw, hb3⟩
  have C3 : Car0 w A gw cw n f w3 := ⟨box4_on hB2 hb3, own_low hOw (box4_below hB2).2⟩
  clear hC hB2 hb3 hOw
  obtain ⟨⟨x0, x1, x2, x3⟩, -, -⟩ := HBX.out _ C3.box
  -- the copy
  have hT := HTD.out w3 C3.box
  go_wp2_with fail
  refine hT.mono ?_
  rintro e w4 ⟨v4, rfl, hO4, hb4⟩
  have C4 := C3.below hb4
  have hgw := own_gt C3.own
  have hB3 := (box4_below C3.box).2
  obtain ⟨gc, kc, gp, kp, gi, ki, rfl, -, -, -, -, -⟩ := hO4.is
  have hbA : Below w4.heap.size w4 (w4.alloc (.cells #[.string D.name, .slice (some ⟨gc, 0, none⟩) D.nc kc, .slice (some ⟨gp, 0, none⟩) D.np kp, .slice (some ⟨gi, 0, none⟩) D.ni ki] 28)) := (Below.refl _ _).alloc (Nat.le_refl _) _
  have hO5 := hO4.below hbA
  have C5 := C4.below hbA
  have V5 := V4.new w4 28 (.string D.name) (.slice (some ⟨gc, 0, none⟩) D.nc kc) (.slice (some ⟨gp, 0, none⟩) D.np kp) (.slice (some ⟨gi, 0, none⟩) D.ni ki)
  obtain ⟨X, hX⟩ : ∃ X, Hid (w4.heap.size = X) := ⟨_, rfl⟩
  obtain ⟨W5, hW5⟩ : ∃ W5, Hid (w4.alloc (.cells #[.string D.name, .slice (some ⟨gc, 0, none⟩) D.nc kc, .slice (some ⟨gp, 0, none⟩) D.np kp, .slice (some ⟨gi, 0, none⟩) D.ni ki] 28) = W5) := ⟨_, rfl⟩
  have hgX : gw < X := by rw [← hX.out]; have := hb4.size; omega
  have hX5 : X < W5.heap.size := by rw [← hW5.out, ← hX.out]; simp
  obtain ⟨B, hBB⟩ : ∃ B, Hid (w3.heap.size = B) := ⟨_, rfl⟩
  rw [hBB.out] at hB3
  rw [hW5.out, hBB.out] at hO5
  rw [hW5.out] at C5
  rw [hW5.out, hX.out] at V5
  have hG := HIM.out W5 _ (HBX.out _ C5.box).2.1 hO5.view
  obtain ⟨y0, y1, y2, y3⟩ := V5.cells
  clear hT hb4 C3 C4 hO4 hbA x0 x1 x2 x3 hgw
  -- the program's answer
  go_wp2_with (rw [hX.out, hW5.out])
  refine hG.mono ?_
  rintro e w6 ⟨gg, cg, rfl, hOg, hb6⟩
  have hXg : X ≠ gg := by have := own_ge9 hOg gg (by simp [Value.ownBlock]); omega
  have C6 : Car1 w A gw cw n f X (.string D.name) (.slice (some ⟨gc, 0, none⟩) D.nc kc) (.slice (some ⟨gp, 0, none⟩) D.np kp) (.slice (some ⟨gi, 0, none⟩) D.ni ki) gg cg f w6 :=
    ⟨C5.below hb6, V5.below hb6, own_low hOg (box4_below C5.box).2, by have := own_ge9 hOg gg (by simp [Value.ownBlock]); omega⟩
  have hO6 := hO5.below hb6
  have hE := HEQ.out w6 gg cg gw cw f (qview_of_own C6.own) (qview_of_own C6.car.own)
  clear hG hb6 hOg C5 V5 hO5 y0 y1 y2 y3 hX5
  go_wp2_with fail
  refine hE.mono ?_
  rintro e w7 ⟨rfl, hb7⟩
  have C7 := C6.below hb7
  have hO7 := hO6.below hb7
  obtain ⟨⟨x0, x1, x2, x3⟩, -, -⟩ := HBX.out _ C7.car.box
  obtain ⟨y0, y1, y2, y3⟩ := C7.var.cells
  have HWK : Hid (∀ W, Below w7.heap.size w7 W → (W.cell? ⟨w.heap.size, 0, none⟩ = some (.string D.name) ∧ W.cell? ⟨w.heap.size, 1, none⟩ = some (.slice ac D.nc cc) ∧ W.cell? ⟨w.heap.size, 2, none⟩ = some (.slice ap D.np cp) ∧ W.cell? ⟨w.heap.size, 3, none⟩ = some (.slice ai D.ni ci)) ∧ (W.cell? ⟨X, 0, none⟩ = some (.string D.name) ∧ W.cell? ⟨X, 1, none⟩ = some (.slice (some ⟨gc, 0, none⟩) D.nc kc) ∧ W.cell? ⟨X, 2, none⟩ = some (.slice (some ⟨gp, 0, none⟩) D.np kp) ∧ W.cell? ⟨X, 3, none⟩ = some (.slice (some ⟨gi, 0, none⟩) D.ni ki))) := fun W hb => ⟨(HBX.out _ (C7.below hb).car.box).1, (C7.below hb).var.cells⟩
  have hT7 : ∀ W, Below w7.heap.size w7 W → Calls Tryz.prog 34 #[.agg #[.string D.name, .slice ac D.nc cc, .slice ap D.np cp, .slice ai D.ni ci]] W fun e w' => ∃ v', e = .returned v' ∧ DOwn w' W.heap.size v' D ∧ Below W.heap.size W w' := fun W hb => HTD.out W (C7.below hb).car.box
  have hE7 : ∀ W u, Below w7.heap.size w7 W → DView W u D → Calls Tryz.prog 36 #[.agg #[.string D.name, .slice (some ⟨gc, 0, none⟩) D.nc kc, .slice (some ⟨gp, 0, none⟩) D.np kp, .slice (some ⟨gi, 0, none⟩) D.ni ki], u] W fun e w' => e = .returned (.bool true) ∧ Below W.heap.size W w' := fun W u hb hu => HED.out W _ u ((hO7.below hb).view) hu
  have HC7 : Hid (Car1 w A gw cw n f X (.string D.name) (.slice (some ⟨gc, 0, none⟩) D.nc kc) (.slice (some ⟨gp, 0, none⟩) D.np kp) (.slice (some ⟨gi, 0, none⟩) D.ni ki) gg cg f w7 ∧ DOwn w7 B (.agg #[.string D.name, .slice (some ⟨gc, 0, none⟩) D.nc kc, .slice (some ⟨gp, 0, none⟩) D.np kp, .slice (some ⟨gi, 0, none⟩) D.ni ki]) D) := ⟨C7, hO7⟩
  clear hE hb7 C6 hO6 C7 hO7
  -- the argument is as it was
  go_wp2_with fail
  go_region_held3 (fun WW => (WW.cell? ⟨w.heap.size, 0, none⟩ = some (.string D.name) ∧ WW.cell? ⟨w.heap.size, 1, none⟩ = some (.slice ac D.nc cc) ∧ WW.cell? ⟨w.heap.size, 2, none⟩ = some (.slice ap D.np cp) ∧ WW.cell? ⟨w.heap.size, 3, none⟩ = some (.slice ai D.ni ci)) ∧ (WW.cell? ⟨X, 0, none⟩ = some (.string D.name) ∧ WW.cell? ⟨X, 1, none⟩ = some (.slice (some ⟨gc, 0, none⟩) D.nc kc) ∧ WW.cell? ⟨X, 2, none⟩ = some (.slice (some ⟨gp, 0, none⟩) D.np kp) ∧ WW.cell? ⟨X, 3, none⟩ = some (.slice (some ⟨gi, 0, none⟩) D.ni ki))) (first | assumption | go_keep) (first
    | (go_at_call 34; refine (hT7 _ (by repeat (first | exact Below.refl _ _ | refine Below.drew ?_))).mono ?_; rintro e w8 ⟨v8, rfl, hO8, hB8⟩; have hb8 : Below w7.heap.size w7 w8 := Below.trans (by repeat (first | exact Below.refl _ _ | refine Below.drew ?_)) hB8; have hcells := HWK.out _ hb8)
    | (go_at_call 36; refine (hE7 _ _ (by repeat (first | exact hb8 | refine Below.drew ?_)) (by first | exact hO8.view | exact hO8.view.below (Below.refl _ _).drew)).mono ?_; rintro e w9 ⟨rfl, hB9⟩; have hb9 : Below w7.heap.size w7 w9 := Below.trans hb8 (Below.trans (by repeat (first | exact Below.refl _ _ | refine Below.drew ?_)) (hB9.mono (by have := hb8.size; exact this))); have hcells9 := HWK.out _ hb9))
  all_goals
    first
      | (obtain ⟨w10, hw10⟩ : ∃ W, Hid (w9.drew = W) := ⟨_, rfl⟩
         have hb10 : Below w7.heap.size w7 w10 := by rw [← hw10.out]; exact hb9.drew
         rw [hw10.out])
      | (obtain ⟨w10, hw10⟩ : ∃ W, Hid (w9 = W) := ⟨_, rfl⟩
         have hb10 : Below w7.heap.size w7 w10 := by rw [← hw10.out]; exact hb9
         rw [hw10.out])
    have C10 := HC7.out.1.below hb10
    have hO10 := HC7.out.2.below hb10
    obtain ⟨y0, y1, y2, y3⟩ := C10.var.cells
    have hMD := HMD.out w10 B _ hO10
    clear hb8 hb9 hB8 hB9 hO8 hcells hcells9 hT7 hE7 HWK HC7 hb10 hO10
    go_wp2_with fail
    refine hMD.mono ?_
    rintro e w11 ⟨k', rfl, hk0, hmk⟩
    have hk0' : ¬ k' < 0 := by omega
    have C11 := C10.marked hmk hB3
    have hE := HEQ.out w11 gg cg gw cw f (qview_of_own C11.own) (qview_of_own C11.car.own)
    clear hMD hmk C10 y0 y1 y2 y3
    go_wp2_with fail
    refine hE.mono ?_
    rintro e w12 ⟨rfl, hb12⟩
    have C12 := C11.below hb12
    have hMP := markPartS_own (w.heap.size + 1) gg n cg f 1 w12 C12.own (by omega) (by omega)
    clear hE hb12 C11
    go_wp2_with fail
    refine hMP.mono ?_
    rintro e w13 ⟨rfl, hbut, hOm⟩
    have C13 := C12.put hbut hOm hXg
    have hH := HHD.out w13 gg cg (qview_of_own C13.own)
    clear hMP hbut hOm C12
    go_wp2_with fail
    refine hH.mono ?_
    rintro e w14 ⟨rfl, hb14⟩
    have C14 := C13.below hb14
    have hnl : ¬ ((1 : Int) + 4 * n < 0) := by omega
    have hnq : ((1 : Int) + 4 * n != 1 + 4 * n) = false := bne_self_eq_false _
    obtain ⟨⟨x0, x1, x2, x3⟩, -, -⟩ := HBX.out _ C14.car.box
    have hT := HTD.out w14 C14.car.box
    clear hH hb14 C13
    go_wp2_with fail
    refine hT.mono ?_
    rintro e w15 ⟨v15, rfl, hO15, hb15⟩
    have C15 := C14.below hb15
    have hG := HIM.out w15 _ (HBX.out _ C15.car.box).2.1 hO15.view
    clear hT hb15 C14 hO15 x0 x1 x2 x3
    go_wp2_with fail
    refine hG.mono ?_
    rintro e w16 ⟨gh, ch, rfl, hOh, hb16⟩
    have C16 := C15.below hb16
    have hE := HEQ.out w16 gh ch gw cw f (qview_of_own hOh) (qview_of_own C16.car.own)
    clear hG hb16 C15 hOh
    go_wp2_with fail
    refine hE.mono ?_
    rintro e w17 ⟨rfl, hb17⟩
    have C17 := C16.below hb17
    have hH := HHD.out w17 gg cg (qview_of_own C17.own)
    clear hE hb17 C16
    go_wp2_with fail
    refine hH.mono ?_
    rintro e w18 ⟨rfl, hb18⟩
    have HB : Hid (Below w.heap.size w w18) := (HBX.out _ (C17.below hb18).car.box).2.1
    clear hH hb18 C17 HBX HTD HED HMD HIM HHD HEQ
    go_wp2
    go_ret
    exact ⟨rfl, HB.out⟩
end Go.Proofs.YtjoimkfpenbkmaaGreatDoor

/-
  The program's plan of an index comes to the plain one.
-/
namespace Go.Proofs.YtjoimkfpenbkmaaGreatDoor
open Go.RowKit
set_option maxRecDepth 4000

set_option maxHeartbeats 4000000 in
theorem implIndex_any (v : Value) (D : PDef) (i : Int) (w : World) (h : DView w v D) (hf : DFine D) (hI : ChkI w) :
    Calls Tryz.prog 12 #[v, .int .i64 i] w (PlanTo w (idxN D i) (plF D.col (ixpL D i))) := by
  have hv := h
  obtain ⟨ac, cc, ap, cp, ai, ci, rfl, hc, hp, hx⟩ := h.is
  clear h
  have hB0 := box4_start w (.cells #[.string D.name, .slice ac D.nc cc, .slice ap D.np cp, .slice ai D.ni ci] 28)
  obtain ⟨hBw0, -⟩ := box4_below hB0
  have hC := hI _ _ D hBw0 (hv.below hBw0) hf
  have hnc := hf.nc
  have hnp := hf.np
  have hni := hf.ni
  have HF : Hid (DFine D) := hf
  obtain ⟨r, hr⟩ : ∃ r, Hid (checkF D = r) := ⟨_, rfl⟩
  rw [hr.out] at hC
  clear hI hv hf hBw0
  go_enter Tryz.func12, Tryz.ntmps12
  go_wp2_with fail
  refine hC.mono ?_
  rintro e w1 ⟨rfl, hb1⟩
  have hB1 := box4_on hB0 hb1
  obtain ⟨hBw1, hs1⟩ := box4_below hB1
  obtain ⟨x0, x1, x2, x3⟩ := box4 hB1
  clear hC hb1 hB0
  by_cases hyes : r = 0 ∧ 0 ≤ i ∧ i < D.ni
  · obtain ⟨rfl, hi0, hi1⟩ := hyes
    obtain ⟨j, rfl⟩ : ∃ j : Nat, i = j := ⟨i.toNat, by omega⟩
    have hjn : j < D.ni := by omega
    have hi0' : ¬ (j : Int) < 0 := by omega
    have hi1' : ¬ (j : Int) ≥ (D.ni : Int) := by omega
    have hG := good_idx hr.out hjn
    have hGp := good_pri hr.out
    obtain ⟨bi, oi, rfl, hbi, hci⟩ := (hx.below hBw1).cells (by omega)
    obtain ⟨-, -, a2, c2, y2, hv2⟩ := hci j hjn
    have h2 := partsF_two hG
    have h2p := partsF_two hGp
    obtain ⟨b2, o2, rfl, hb2, -⟩ := hv2.cells (by omega)
    have hp1 := hp.below hBw1
    obtain ⟨bp, op, rfl, hbp, -⟩ := hp1.cells (by omega)
    have HPN : Hid (idxN D j = (D.idx j).n + D.np) := by
      show _ = _
      unfold idxN
      rw [if_pos ⟨hr.out, hi0, hi1⟩]; simp
    have HPL : Hid (ixpL D j = catB (D.idx j).part (D.idx j).n D.pri) := by
      show _ = _
      unfold ixpL; simp
    have hCat := fun (B : Nat) (W : World) (hb : Below w1.heap.size w1 W) (z0 : W.cell? ⟨B, 0, none⟩ = some (.slice (some ⟨b2, o2, none⟩) (D.idx j).n c2)) (z1 : W.cell? ⟨B, 1, none⟩ = some (.slice (some ⟨bp, op, none⟩) D.np cp)) (hB : B < W.heap.size) => concatBy_any B b2 o2 (D.idx j).n c2 bp op D.np cp (D.idx j).part D.pri W z0 z1 hB (hv2.below hb) (hp1.below hb) (by omega) (by omega) hnp
    have hPB := fun (g c : Nat) (W : World) (hb : Below w1.heap.size w1 W) (hq : BView W (some ⟨g, 0, none⟩) ((D.idx j).n + D.np) c (catB (D.idx j).part (D.idx j).n D.pri)) => partsBy_any ac D.nc cc D.col (some ⟨g, 0, none⟩) ((D.idx j).n + D.np) c (catB (D.idx j).part (D.idx j).n D.pri) W ((hc.below hBw1).below hb) hq hnc (by omega) (cat_in (fun i hi => partsF_in hG hi) (fun i hi => partsF_in hGp hi))
    obtain ⟨N2, hN2⟩ : ∃ x, Hid ((D.idx j).n = x) := ⟨_, rfl⟩
    obtain ⟨NP, hNP⟩ : ∃ x, Hid (D.np = x) := ⟨_, rfl⟩
    simp only [hN2.out, hNP.out] at hCat hPB y2 x2
    have HBw : Hid (Below w.heap.size w w1) := hBw1
    clear hc hp hp1 hx hB1 hBw1 hG hGp hv2 hci
    have hjn' : (j : Int) < (D.ni : Int) := by omega
    obtain ⟨X, hX⟩ : ∃ X, Hid (w1.heap.size = X) := ⟨_, rfl⟩
    have HWK : Hid (∀ W, Below w1.heap.size w1 W → W.cell? ⟨w.heap.size, 1, none⟩ = some (.slice ac D.nc cc) ∧ W.cell? ⟨w.heap.size, 2, none⟩ = some (.slice (some ⟨bp, op, none⟩) NP cp) ∧ W.cell? ⟨w.heap.size, 3, none⟩ = some (.slice (some ⟨bi, oi, none⟩) D.ni ci) ∧ W.cell? ⟨bi, oi + j * 3 + 2, none⟩ = some (.slice (some ⟨b2, o2, none⟩) N2 c2)) := by
      intro W hb
      refine ⟨?_, ?_, ?_, ?_⟩
      · rw [hb.cell (by exact hs1)]; assumption
      · rw [hb.cell (by exact hs1)]; assumption
      · rw [hb.cell (by exact hs1)]; assumption
      · rw [hb.cell (by exact hbi)]; assumption
    go_wp2_with fail
    go_region_held3 (fun WW => WW.cell? ⟨w.heap.size, 1, none⟩ = some (.slice ac D.nc cc) ∧ WW.cell? ⟨w.heap.size, 2, none⟩ = some (.slice (some ⟨bp, op, none⟩) NP cp) ∧ WW.cell? ⟨w.heap.size, 3, none⟩ = some (.slice (some ⟨bi, oi, none⟩) D.ni ci) ∧ WW.cell? ⟨bi, oi + j * 3 + 2, none⟩ = some (.slice (some ⟨b2, o2, none⟩) N2 c2)) (first | assumption | go_keep) (first
      | (go_at_call 47; refine (hCat _ _ (by repeat (first | exact Below.refl _ _ | refine Below.drew ?_ | refine Below.alloc ?_ (by simp) _)) (by simp [go_sem]) (by simp [go_sem]) (by simp)).mono ?_; rintro e w5 ⟨g5, c5, rfl, hO5, hB5⟩; have hb5 : Below w1.heap.size w1 w5 := Below.trans (by repeat (first | exact Below.refl _ _ | refine Below.drew ?_ | refine Below.alloc ?_ (by simp) _)) (hB5.mono (by simp)); obtain ⟨q5, k5, hq5, hv5, -⟩ := bview_of_own hO5; cases hq5; have hcells := HWK.out _ hb5)
      | (go_at_call 46; refine (hPB g5 c5 _ (by repeat (first | exact hb5 | refine Below.drew ?_)) (by first | exact hv5 | exact hv5.below (Below.refl _ _).drew)).mono ?_; rintro e w6 ⟨g6, c6, rfl, hO6, hB6⟩; have hb6 : Below w1.heap.size w1 w6 := Below.trans hb5 (Below.trans (by repeat (first | exact Below.refl _ _ | refine Below.drew ?_)) (hB6.mono (by have := hb5.size; exact this))); have hcells6 := HWK.out _ hb6))
    all_goals
      have HR : Hid (PlanTo w (idxN D j) (plF D.col (ixpL D j)) (.returned (.slice (some ⟨g6, 0, none⟩) (N2 + NP) c6)) w6) := by
        show PlanTo _ _ _ _ _
        rw [HPN.out, HPL.out]
        simp only [hN2.out, hNP.out] at hO6 ⊢
        exact PlanTo.low ⟨g6, c6, rfl, own_low hO6 (by have := hb5.size; simpa using this), hb6⟩ HBw.out
      clear hb5 hb6 hB5 hB6 hO5 hO6 hv5 hcells hcells6 hCat hPB HWK
      go_wp2
      go_ret
      exact HR.out
  · have HR : Hid (PlanTo w (idxN D i) (plF D.col (ixpL D i)) (.returned (.slice (some ⟨w1.heap.size, 0, none⟩) 0 0)) (w1.alloc (.cells #[] 39))) := by
      show PlanTo _ _ _ _ _
      have : idxN D i = 0 := by
        unfold idxN
        rw [if_neg (by rw [hr.out]; exact hyes)]
      rw [this]
      exact (PlanTo.nil w1 _).low hBw1
    clear hc hp hx hB1 hBw1
    by_cases hz : r = 0
    · subst hz
      by_cases hi0 : i < 0
      · go_wp2
        go_ret
        exact HR.out
      · have hi1 : i ≥ (D.ni : Int) := by
          by_cases h : i < (D.ni : Int)
          · exact absurd ⟨rfl, by omega, h⟩ hyes
          · omega
        go_wp2
        go_ret
        exact HR.out
    · have hq : (r != 0) = true := by simpa using hz
      go_wp2
      go_ret
      exact HR.out
end Go.Proofs.YtjoimkfpenbkmaaGreatDoor

