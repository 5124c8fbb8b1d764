/-
  Together: LawPrimaryPlan, PartsByImpl, PlanImpl11, JoinPlain
-/
import Derived.Test.YtjoimkfpenbkmaaGreatDoorPackP3
import Derived.Test.YtjoimkfpenbkmaaGreatDoorPackP4
import Derived.Test.YtjoimkfpenbkmaaGreatDoorPackP9
import Derived.Test.YtjoimkfpenbkmaaGreatDoorSpecPlans11
import Derived.Deep.RegionHeld3
import Derived.Test.YtjoimkfpenbkmaaGreatDoorPackP8
import Derived.Deep.LoopGhost
import Derived.Test.YtjoimkfpenbkmaaGreatDoorPackP1
/-
  The law FnExactPrimaryPlan, walked.
-/
namespace Go.Proofs.YtjoimkfpenbkmaaGreatDoor
open Go.RowKit
set_option maxRecDepth 4000

set_option maxHeartbeats 8000000 in
theorem lawPrimaryPlan (v : Value) (D : PDef) (w : World) (h : DView w v D) (hm : DLim D)
    (hI : ∀ (W : World) (v' : Value), Below w.heap.size w W → DView W v' D → DFine D → Calls Tryz.prog 11 #[v'] W (PlanTo W (priN D) (plF D.col D.pri))) :
    Calls Tryz.prog 6 #[v] w fun e w' => e = .returned (.bool true) ∧ Below w.heap.size w w' := by
  have hv := h
  obtain ⟨ac, cc, ap, cp, ai, ci, rfl, -, -, -⟩ := h.is
  clear h
  have hB0 := box4_start w (.cells #[.string D.name, .slice ac D.nc cc, .slice ap D.np cp, .slice ai D.ni ci] 61)
  obtain ⟨hBw0, -⟩ := box4_below hB0
  have hZ := szDef_fine _ D 1048576 _ (hv.below hBw0) hm (by omega) (by omega)
  clear hm
  have hn6 := priN_le D
  have HSP : Hid (∀ W v', DView W v' D → DFine D → Calls Tryz.prog 33 #[v'] W (PlanTo W (priN D) (plF D.col D.pri))) := fun W v' hd hf => specPrimary_any v' D W hd hf
  obtain ⟨n, hn⟩ : ∃ x, Hid (priN D = x) := ⟨_, rfl⟩
  obtain ⟨f, hff⟩ : ∃ x, Hid (plF D.col D.pri = x) := ⟨_, rfl⟩
  simp only [hn.out, hff.out] at hI HSP hn6
  have hn20 : n ≤ 1048576 := by omega
  obtain ⟨A, hA⟩ : ∃ x, Hid (Obj.cells #[.string D.name, .slice ac D.nc cc, .slice ap D.np cp, .slice ai D.ni ci] 61 = x) := ⟨_, rfl⟩
  have HBX : Hid (∀ W, Below (w.heap.size + 1) (w.alloc A) W → (W.cell? ⟨w.heap.size, 0, none⟩ = some (.string D.name) ∧ W.cell? ⟨w.heap.size, 1, none⟩ = some (.slice ac D.nc cc) ∧ W.cell? ⟨w.heap.size, 2, none⟩ = some (.slice ap D.np cp) ∧ W.cell? ⟨w.heap.size, 3, none⟩ = some (.slice ai D.ni ci)) ∧ Below w.heap.size w W ∧ w.heap.size + 1 ≤ W.heap.size) := by
    rw [← hA.out]
    exact fun W hb => ⟨box4 hb, box4_below hb⟩
  have HAV : Hid (∀ W, Below (w.heap.size + 1) (w.alloc A) W → DView W (.agg #[.string D.name, .slice ac D.nc cc, .slice ap D.np cp, .slice ai D.ni ci]) D) := fun W hb => hv.below (HBX.out W hb).2.1
  rw [hA.out] at hB0 hZ
  clear hv hBw0
  obtain ⟨⟨x0, x1, x2, x3⟩, -, -⟩ := HBX.out _ hB0
  go_enter Tryz.func6, Tryz.ntmps6
  go_wp2_with (rw [hA.out])
  refine hZ.mono ?_
  rintro e w1 ⟨L, rfl, hb1, hL⟩
  have hB1 := box4_on hB0 hb1
  clear hZ hb1 hB0 x0 x1 x2 x3
  obtain ⟨⟨x0, x1, x2, x3⟩, hBw1, -⟩ := HBX.out _ hB1
  rcases hL with rfl | ⟨hL0, hL1, hf⟩
  · have HB : Hid (Below w.heap.size w w1) := hBw1
    clear hI hB1 hBw1
    go_wp2
    go_ret
    exact ⟨rfl, HB.out⟩
  have hLn : ¬ L < 0 := by omega
  have HTD : Hid (∀ W, Below (w.heap.size + 1) (w.alloc A) W → Calls Tryz.prog 34 #[.agg #[.string D.name, .slice ac D.nc cc, .slice ap D.np cp, .slice ai D.ni ci]] W fun e w' => ∃ v', e = .returned v' ∧ DOwn w' W.heap.size v' D ∧ Below W.heap.size W w') := fun W hb => toDef_any _ D W (HAV.out W hb) hf
  have HED : Hid (∀ W u u', DView W u D → DView W u' D → Calls Tryz.prog 36 #[u, u'] W fun e w' => e = .returned (.bool true) ∧ Below W.heap.size W w') := fun W u u' h1 h2 => eqDef_same u u' D W h1 h2 hf
  have HMD : Hid (∀ W B u, DOwn W B u D → Calls Tryz.prog 37 #[u, .int .i64 1] W fun e w' => ∃ k' : Int, e = .returned (.int .i64 k') ∧ 0 ≤ k' ∧ Mk S3 B W w') := fun W B u h => markDef_mk B u D W h hf
  have HIM : Hid (∀ (W : World) (v' : Value), Below w.heap.size w W → DView W v' D → Calls Tryz.prog 11 #[v'] W (PlanTo W n f)) := fun W v' hb hd => hI W v' hb hd hf
  have HEP : Hid (∀ (W : World) (b1 c1 b2 c2 : Nat) (g : Nat → PPart), W.ownsRow b1 39 4 (.slice (some ⟨c1, 0, none⟩) n b2) n (rowG (encQ g) n) → W.ownsRow b1 39 4 (.slice (some ⟨c2, 0, none⟩) n b2) n (rowG (encQ g) n) → True) := fun _ _ _ _ _ _ _ _ => trivial
  clear HEP
  have hSP := fun W v' hd => HSP.out W v' hd hf
  have HHD : Hid (∀ W gg cg, QView W (some ⟨gg, 0, none⟩) n cg (mkdQ 1) → Calls Tryz.prog 39 #[.slice (some ⟨gg, 0, none⟩) n cg, .int .i64 1] W fun e w' => e = .returned (.int .i64 (1 + 4 * n)) ∧ Below W.heap.size W w') := fun W gg cg hq => heldPartS_any _ n cg 1 W hq (by omega) (by omega)
  have HEQ : Hid (∀ W g1 c1 g2 c2 (q : Nat → PPart), QView W (some ⟨g1, 0, none⟩) n c1 q → QView W (some ⟨g2, 0, none⟩) n c2 q → Calls Tryz.prog 35 #[.slice (some ⟨g1, 0, none⟩) n c1, .slice (some ⟨g2, 0, none⟩) n c2] W fun e w' => e = .returned (.bool true) ∧ Below W.heap.size W w') := fun W g1 c1 g2 c2 q h1 h2 => eqPartS_same _ _ n c1 c2 _ _ _ _ W h1 h2 hn20
  clear hI HSP hf HAV
  -- the model's answer
  have hT := HTD.out w1 hB1
  go_wp2_with fail
  refine hT.mono ?_
  rintro e w2 ⟨v2, rfl, hO2, hb2⟩
  have hB2 := box4_on hB1 hb2
  have hC := hSP w2 v2 hO2.view
  clear hT hb2 hB1 hBw1 x0 x1 x2 x3 hO2 hSP
  go_wp2_with fail
  refine hC.mono ?_
  rintro e w3 ⟨gw, cw, rfl, hOw, hb3⟩
  have C3 : Car0 w A gw cw n f w3 := ⟨box4_on hB2 hb3, own_low hOw (box4_below hB2).2⟩
  clear hC hB2 hb3 hOw
  obtain ⟨⟨x0, x1, x2, x3⟩, -, -⟩ := HBX.out _ C3.box
  -- the copy
  have hT := HTD.out w3 C3.box
  go_wp2_with fail
  refine hT.mono ?_
  rintro e w4 ⟨v4, rfl, hO4, hb4⟩
  have C4 := C3.below hb4
  have hgw := own_gt C3.own
  have hB3 := (box4_below C3.box).2
  obtain ⟨gc, kc, gp, kp, gi, ki, rfl, -, -, -, -, -⟩ := hO4.is
  have hbA : Below w4.heap.size w4 (w4.alloc (.cells #[.string D.name, .slice (some ⟨gc, 0, none⟩) D.nc kc, .slice (some ⟨gp, 0, none⟩) D.np kp, .slice (some ⟨gi, 0, none⟩) D.ni ki] 28)) := (Below.refl _ _).alloc (Nat.le_refl _) _
  have hO5 := hO4.below hbA
  have C5 := C4.below hbA
  have V5 := V4.new w4 28 (.string D.name) (.slice (some ⟨gc, 0, none⟩) D.nc kc) (.slice (some ⟨gp, 0, none⟩) D.np kp) (.slice (some ⟨gi, 0, none⟩) D.ni ki)
  obtain ⟨X, hX⟩ : ∃ X, Hid (w4.heap.size = X) := ⟨_, rfl⟩
  obtain ⟨W5, hW5⟩ : ∃ W5, Hid (w4.alloc (.cells #[.string D.name, .slice (some ⟨gc, 0, none⟩) D.nc kc, .slice (some ⟨gp, 0, none⟩) D.np kp, .slice (some ⟨gi, 0, none⟩) D.ni ki] 28) = W5) := ⟨_, rfl⟩
  have hgX : gw < X := by rw [← hX.out]; have := hb4.size; omega
  have hX5 : X < W5.heap.size := by rw [← hW5.out, ← hX.out]; simp
  obtain ⟨B, hBB⟩ : ∃ B, Hid (w3.heap.size = B) := ⟨_, rfl⟩
  rw [hBB.out] at hB3
  rw [hW5.out, hBB.out] at hO5
  rw [hW5.out] at C5
  rw [hW5.out, hX.out] at V5
  have hG := HIM.out W5 _ (HBX.out _ C5.box).2.1 hO5.view
  obtain ⟨y0, y1, y2, y3⟩ := V5.cells
  clear hT hb4 C3 C4 hO4 hbA x0 x1 x2 x3 hgw
  -- the program's answer
  go_wp2_with (rw [hX.out, hW5.out])
  refine hG.mono ?_
  rintro e w6 ⟨gg, cg, rfl, hOg, hb6⟩
  have hXg : X ≠ gg := by have := own_ge9 hOg gg (by simp [Value.ownBlock]); omega
  have C6 : Car1 w A gw cw n f X (.string D.name) (.slice (some ⟨gc, 0, none⟩) D.nc kc) (.slice (some ⟨gp, 0, none⟩) D.np kp) (.slice (some ⟨gi, 0, none⟩) D.ni ki) gg cg f w6 :=
    ⟨C5.below hb6, V5.below hb6, own_low hOg (box4_below C5.box).2, by have := own_ge9 hOg gg (by simp [Value.ownBlock]); omega⟩
  have hO6 := hO5.below hb6
  have hE := HEQ.out w6 gg cg gw cw f (qview_of_own C6.own) (qview_of_own C6.car.own)
  clear hG hb6 hOg C5 V5 hO5 y0 y1 y2 y3 hX5
  go_wp2_with fail
  refine hE.mono ?_
  rintro e w7 ⟨rfl, hb7⟩
  have C7 := C6.below hb7
  have hO7 := hO6.below hb7
  obtain ⟨⟨x0, x1, x2, x3⟩, -, -⟩ := HBX.out _ C7.car.box
  obtain ⟨y0, y1, y2, y3⟩ := C7.var.cells
  have HWK : Hid (∀ W, Below w7.heap.size w7 W → (W.cell? ⟨w.heap.size, 0, none⟩ = some (.string D.name) ∧ W.cell? ⟨w.heap.size, 1, none⟩ = some (.slice ac D.nc cc) ∧ W.cell? ⟨w.heap.size, 2, none⟩ = some (.slice ap D.np cp) ∧ W.cell? ⟨w.heap.size, 3, none⟩ = some (.slice ai D.ni ci)) ∧ (W.cell? ⟨X, 0, none⟩ = some (.string D.name) ∧ W.cell? ⟨X, 1, none⟩ = some (.slice (some ⟨gc, 0, none⟩) D.nc kc) ∧ W.cell? ⟨X, 2, none⟩ = some (.slice (some ⟨gp, 0, none⟩) D.np kp) ∧ W.cell? ⟨X, 3, none⟩ = some (.slice (some ⟨gi, 0, none⟩) D.ni ki))) := fun W hb => ⟨(HBX.out _ (C7.below hb).car.box).1, (C7.below hb).var.cells⟩
  have hT7 : ∀ W, Below w7.heap.size w7 W → Calls Tryz.prog 34 #[.agg #[.string D.name, .slice ac D.nc cc, .slice ap D.np cp, .slice ai D.ni ci]] W fun e w' => ∃ v', e = .returned v' ∧ DOwn w' W.heap.size v' D ∧ Below W.heap.size W w' := fun W hb => HTD.out W (C7.below hb).car.box
  have hE7 : ∀ W u, Below w7.heap.size w7 W → DView W u D → Calls Tryz.prog 36 #[.agg #[.string D.name, .slice (some ⟨gc, 0, none⟩) D.nc kc, .slice (some ⟨gp, 0, none⟩) D.np kp, .slice (some ⟨gi, 0, none⟩) D.ni ki], u] W fun e w' => e = .returned (.bool true) ∧ Below W.heap.size W w' := fun W u hb hu => HED.out W _ u ((hO7.below hb).view) hu
  have HC7 : Hid (Car1 w A gw cw n f X (.string D.name) (.slice (some ⟨gc, 0, none⟩) D.nc kc) (.slice (some ⟨gp, 0, none⟩) D.np kp) (.slice (some ⟨gi, 0, none⟩) D.ni ki) gg cg f w7 ∧ DOwn w7 B (.agg #[.string D.name, .slice (some ⟨gc, 0, none⟩) D.nc kc, .slice (some ⟨gp, 0, none⟩) D.np kp, .slice (some ⟨gi, 0, none⟩) D.ni ki]) D) := ⟨C7, hO7⟩
  clear hE hb7 C6 hO6 C7 hO7
  -- the argument is as it was
  go_wp2_with fail
  go_region_held3 (fun WW => (WW.cell? ⟨w.heap.size, 0, none⟩ = some (.string D.name) ∧ WW.cell? ⟨w.heap.size, 1, none⟩ = some (.slice ac D.nc cc) ∧ WW.cell? ⟨w.heap.size, 2, none⟩ = some (.slice ap D.np cp) ∧ WW.cell? ⟨w.heap.size, 3, none⟩ = some (.slice ai D.ni ci)) ∧ (WW.cell? ⟨X, 0, none⟩ = some (.string D.name) ∧ WW.cell? ⟨X, 1, none⟩ = some (.slice (some ⟨gc, 0, none⟩) D.nc kc) ∧ WW.cell? ⟨X, 2, none⟩ = some (.slice (some ⟨gp, 0, none⟩) D.np kp) ∧ WW.cell? ⟨X, 3, none⟩ = some (.slice (some ⟨gi, 0, none⟩) D.ni ki))) (first | assumption | go_keep) (first
    | (go_at_call 34; refine (hT7 _ (by repeat (first | exact Below.refl _ _ | refine Below.drew ?_))).mono ?_; rintro e w8 ⟨v8, rfl, hO8, hB8⟩; have hb8 : Below w7.heap.size w7 w8 := Below.trans (by repeat (first | exact Below.refl _ _ | refine Below.drew ?_)) hB8; have hcells := HWK.out _ hb8)
    | (go_at_call 36; refine (hE7 _ _ (by repeat (first | exact hb8 | refine Below.drew ?_)) (by first | exact hO8.view | exact hO8.view.below (Below.refl _ _).drew)).mono ?_; rintro e w9 ⟨rfl, hB9⟩; have hb9 : Below w7.heap.size w7 w9 := Below.trans hb8 (Below.trans (by repeat (first | exact Below.refl _ _ | refine Below.drew ?_)) (hB9.mono (by have := hb8.size; exact this))); have hcells9 := HWK.out _ hb9))
  all_goals
    first
      | (obtain ⟨w10, hw10⟩ : ∃ W, Hid (w9.drew = W) := ⟨_, rfl⟩
         have hb10 : Below w7.heap.size w7 w10 := by rw [← hw10.out]; exact hb9.drew
         rw [hw10.out])
      | (obtain ⟨w10, hw10⟩ : ∃ W, Hid (w9 = W) := ⟨_, rfl⟩
         have hb10 : Below w7.heap.size w7 w10 := by rw [← hw10.out]; exact hb9
         rw [hw10.out])
    have C10 := HC7.out.1.below hb10
    have hO10 := HC7.out.2.below hb10
    obtain ⟨y0, y1, y2, y3⟩ := C10.var.cells
    have hMD := HMD.out w10 B _ hO10
    clear hb8 hb9 hB8 hB9 hO8 hcells hcells9 hT7 hE7 HWK HC7 hb10 hO10
    go_wp2_with fail
    refine hMD.mono ?_
    rintro e w11 ⟨k', rfl, hk0, hmk⟩
    have hk0' : ¬ k' < 0 := by omega
    have C11 := C10.marked hmk hB3
    have hE := HEQ.out w11 gg cg gw cw f (qview_of_own C11.own) (qview_of_own C11.car.own)
    clear hMD hmk C10 y0 y1 y2 y3
    go_wp2_with fail
    refine hE.mono ?_
    rintro e w12 ⟨rfl, hb12⟩
    have C12 := C11.below hb12
    have hMP := markPartS_own (w.heap.size + 1) gg n cg f 1 w12 C12.own (by omega) (by omega)
    clear hE hb12 C11
    go_wp2_with fail
    refine hMP.mono ?_
    rintro e w13 ⟨rfl, hbut, hOm⟩
    have C13 := C12.put hbut hOm hXg
    have hH := HHD.out w13 gg cg (qview_of_own C13.own)
    clear hMP hbut hOm C12
    go_wp2_with fail
    refine hH.mono ?_
    rintro e w14 ⟨rfl, hb14⟩
    have C14 := C13.below hb14
    have hnl : ¬ ((1 : Int) + 4 * n < 0) := by omega
    have hnq : ((1 : Int) + 4 * n != 1 + 4 * n) = false := bne_self_eq_false _
    obtain ⟨⟨x0, x1, x2, x3⟩, -, -⟩ := HBX.out _ C14.car.box
    have hT := HTD.out w14 C14.car.box
    clear hH hb14 C13
    go_wp2_with fail
    refine hT.mono ?_
    rintro e w15 ⟨v15, rfl, hO15, hb15⟩
    have C15 := C14.below hb15
    have hG := HIM.out w15 _ (HBX.out _ C15.car.box).2.1 hO15.view
    clear hT hb15 C14 hO15 x0 x1 x2 x3
    go_wp2_with fail
    refine hG.mono ?_
    rintro e w16 ⟨gh, ch, rfl, hOh, hb16⟩
    have C16 := C15.below hb16
    have hE := HEQ.out w16 gh ch gw cw f (qview_of_own hOh) (qview_of_own C16.car.own)
    clear hG hb16 C15 hOh
    go_wp2_with fail
    refine hE.mono ?_
    rintro e w17 ⟨rfl, hb17⟩
    have C17 := C16.below hb17
    have hH := HHD.out w17 gg cg (qview_of_own C17.own)
    clear hE hb17 C16
    go_wp2_with fail
    refine hH.mono ?_
    rintro e w18 ⟨rfl, hb18⟩
    have HB : Hid (Below w.heap.size w w18) := (HBX.out _ (C17.below hb18).car.box).2.1
    clear hH hb18 C17 HBX HTD HED HMD HIM HHD HEQ
    go_wp2
    go_ret
    exact ⟨rfl, HB.out⟩
end Go.Proofs.YtjoimkfpenbkmaaGreatDoor

/-
  The program's partsBy comes to the plain plan.
-/
namespace Go.Proofs.YtjoimkfpenbkmaaGreatDoor
open Go.RowKit
set_option maxRecDepth 4000

set_option maxHeartbeats 4000000 in
theorem partsBy_any (ac : Option Addr) (nc cc : Nat) (col : Nat → PCol) (ap : Option Addr) (n cp : Nat) (l : Nat → PBy) (w : World) (hC : CView w ac nc cc col) (hP : BView w ap n cp l) (hnc : nc ≤ 1048576) (hn : n ≤ 1048576) (hin : ∀ i, i < n → 0 ≤ (l i).col ∧ (l i).col < nc) :
    Calls Tryz.prog 46 #[.slice ac nc cc, .slice ap n cp] w fun e w' => ∃ g c, e = .returned (.slice (some ⟨g, 0, none⟩) n c) ∧ w'.ownsRow w.heap.size 39 4 (.slice (some ⟨g, 0, none⟩) n c) n (rowG (encQ (plF col l)) n) ∧ Below w.heap.size w w' := by
  obtain ⟨i0, hi, hz0, hz1, hz2⟩ := infoPart11
  have hbE : Below w.heap.size w (w.alloc (.cells #[] 39)) := (Below.refl _ _).alloc (Nat.le_refl _) _
  have hO0 := own_nil11 w (plF col l)
  go_enter Tryz.func46, Tryz.ntmps46
  go_wp2
  go_loopg [12, 5] n (fun q i s wr => ∃ k : Nat, k ≤ n ∧ q = n - k ∧ i = .int .i64 k ∧ ∃ g c, s = .slice (some ⟨g, 0, none⟩) k c ∧ wr.ownsRow w.heap.size 39 4 (.slice (some ⟨g, 0, none⟩) k c) k (rowG (encQ (plF col l)) k) ∧ Below w.heap.size w wr)
  case atStart => exact ⟨0, Nat.zero_le _, rfl, rfl, _, _, rfl, hO0, hbE⟩
  case round =>
    clear hO0 hbE
    obtain ⟨k, hk, rfl, rfl, sa, sc, rfl, hO, hB⟩ := hrel
    by_cases hlt : k < n
    · have hkz : (k : Int) < (n : Int) := by omega
      obtain ⟨b1, o1, rfl, hb1, hc1⟩ := (hP.below hB).cells (by omega)
      obtain ⟨x0, x1⟩ := hc1 k hlt
      obtain ⟨j, hj⟩ : ∃ j : Nat, Hid ((l k).col = j) := ⟨((l k).col).toNat, by show _ = _; have := (hin k hlt).1; omega⟩
      have hjn : j < nc := by have := (hin k hlt).2; rw [hj.out] at this; omega
      have hjz : (j : Int) < (nc : Int) := by omega
      obtain ⟨b2, o2, rfl, hb2, hc2⟩ := (hC.below hB).cells (by omega)
      obtain ⟨y0, y1, y2⟩ := hc2 j hjn
      have HN : Hid (rowG (encQ (plF col l)) (k + 1) = rowG (encQ (plF col l)) k ++ [.int .i64 j, .int .i64 (col j).type, .bool (col j).null, .bool (l k).desc]) := by
        show _ = _
        rw [rowG]
        simp [encQ, plF, ptOf, hj.out]
      rw [hj.out] at x0
      obtain ⟨d, hd⟩ : ∃ x, Hid ((l k).desc = x) := ⟨_, rfl⟩
      obtain ⟨s0, hs0⟩ : ∃ x, Hid ((col j).name = x) := ⟨_, rfl⟩
      obtain ⟨t, ht⟩ : ∃ x, Hid ((col j).type = x) := ⟨_, rfl⟩
      obtain ⟨u, hu⟩ : ∃ x, Hid ((col j).null = x) := ⟨_, rfl⟩
      obtain ⟨R, hR⟩ : ∃ x, Hid (rowG (encQ (plF col l)) k = x) := ⟨_, rfl⟩
      rw [hd.out] at x1 HN
      rw [hs0.out] at y0
      rw [ht.out] at y1 HN
      rw [hu.out] at y2 HN
      rw [hR.out] at HN hO
      have hb3 : Below wr.heap.size wr (((wr.alloc (.cells #[.int .i64 j, .bool d] 78)).alloc (.cells #[.string s0, .int .i64 t, .bool u] 81)).alloc (.cells #[.int .i64 j, .int .i64 t, .bool u, .bool d] 39)) := (((Below.refl _ _).alloc (Nat.le_refl _) _).alloc (by simp) _).alloc (by simp; omega) _
      have hO3 := own_belowG hO hb3
      have HB3 : Hid (Below w.heap.size w (((wr.alloc (.cells #[.int .i64 j, .bool d] 78)).alloc (.cells #[.string s0, .int .i64 t, .bool u] 81)).alloc (.cells #[.int .i64 j, .int .i64 t, .bool u, .bool d] 39))) := hB.trans (hb3.mono hB.size)
      have hcl := cells_part11 ((wr.alloc (.cells #[.int .i64 j, .bool d] 78)).alloc (.cells #[.string s0, .int .i64 t, .bool u] 81)) j t u d
      simp only [alloc_size9] at hcl
      have HOW := own_ge9 hO
      have hsz := hB.size
      clear hC hP hin hc1 hc2 hb3 hO
      go_wp2_with (at_builtin; refine wpList_append_own _ rfl (.tmp 21) (.tmp 31) 31 rfl w.heap.size 39 i0 (.agg #[.int .i64 0, .int .i64 0, .bool false, .bool false]) 4 24 Tryz.underlying31 hi hz0 hz1 hz2 rfl (by decide) _ _ _ rfl hO3 ⟨wr.heap.size + 1 + 1, 0, none⟩ 1 1 [.int .i64 j, .int .i64 t, .bool u, .bool d] rfl rfl hcl (one_part11 _ _ _ _) (by unfold maxLen; omega) (by omega) (by simp; omega) ?_)
      intro v5 w4 hown5 hgr hnil
      obtain ⟨g', cap', rfl⟩ := own_succ9 hown5
      have HR : Hid (w4.ownsRow w.heap.size 39 4 (.slice (some ⟨g', 0, none⟩) (k + 1) cap') (k + 1) (rowG (encQ (plF col l)) (k + 1)) ∧ Below w.heap.size w w4) := by
        refine ⟨?_, ?_⟩
        · rw [HN.out]; exact hown5
        · exact HB3.out.grown hgr (by simp; omega) HOW
      clear hown5 hgr hnil hO3 hcl HOW HB3
      go_wp2
      go_roundg (n - (k + 1))
      case measure => omega
      case rel => exact ⟨k + 1, by omega, rfl, by go_num, _, _, rfl, HR.out.1, HR.out.2⟩
    · have hkz : ¬ (k : Int) < (n : Int) := by omega
      obtain rfl : k = n := by omega
      have HR : Hid (wr.ownsRow w.heap.size 39 4 (.slice (some ⟨sa, 0, none⟩) k sc) k (rowG (encQ (plF col l)) k) ∧ Below w.heap.size w wr) := ⟨hO, hB⟩
      clear hC hP hin hO hB
      go_wp2
      go_ret
      exact ⟨_, _, rfl, HR.out.1, HR.out.2⟩
end Go.Proofs.YtjoimkfpenbkmaaGreatDoor

/-
  The program's three plans come to the plain ones.
-/
namespace Go.Proofs.YtjoimkfpenbkmaaGreatDoor
open Go.RowKit
set_option maxRecDepth 4000

/-- What a table's check comes to, in every world above. -/
abbrev ChkI (w : World) : Prop := ∀ (W : World) (v : Value) (D : PDef), Below w.heap.size w W → DView W v D → DFine D → Calls Tryz.prog 45 #[v] W fun e w' => e = .returned (.int .i64 (checkF D)) ∧ Below W.heap.size W w'

set_option maxHeartbeats 4000000 in
theorem implPrimary_any (v : Value) (D : PDef) (w : World) (h : DView w v D) (hf : DFine D) (hI : ChkI w) :
    Calls Tryz.prog 11 #[v] w (PlanTo w (priN D) (plF D.col D.pri)) := by
  have hv := h
  obtain ⟨ac, cc, ap, cp, ai, ci, rfl, hc, hp, -⟩ := h.is
  clear h
  have hB0 := box4_start w (.cells #[.string D.name, .slice ac D.nc cc, .slice ap D.np cp, .slice ai D.ni ci] 28)
  obtain ⟨hBw0, -⟩ := box4_below hB0
  have hC := hI _ _ D hBw0 (hv.below hBw0) hf
  have HPN : Hid (∀ r, checkF D = r → priN D = if r = 0 then D.np else 0) := fun r e => by rw [← e]; rfl
  have HIN : Hid (checkF D = 0 → ∀ i, i < D.np → 0 ≤ (D.pri i).col ∧ (D.pri i).col < D.nc) := fun e i hi => partsF_in (good_pri e) hi
  have hnc := hf.nc
  have hnp := hf.np
  obtain ⟨r, hr⟩ : ∃ r, Hid (checkF D = r) := ⟨_, rfl⟩
  rw [hr.out] at hC
  clear hI hv hf hBw0
  go_enter Tryz.func11, Tryz.ntmps11
  go_wp2_with fail
  refine hC.mono ?_
  rintro e w1 ⟨rfl, hb1⟩
  have hB1 := box4_on hB0 hb1
  obtain ⟨hBw1, hs1⟩ := box4_below hB1
  obtain ⟨x0, x1, x2, x3⟩ := box4 hB1
  clear hC hb1 hB0
  by_cases hz : r = 0
  · subst hz
    have hP := partsBy_any ac D.nc cc D.col ap D.np cp D.pri w1 (hc.below hBw1) (hp.below hBw1) hnc hnp (HIN.out hr.out)
    have HBw : Hid (Below w.heap.size w w1) := hBw1
    clear hc hp hB1 hBw1 HIN
    go_wp2_with fail
    refine hP.mono ?_
    rintro e w2 ⟨g, c, rfl, hO, hb2⟩
    have HR : Hid (PlanTo w (priN D) (plF D.col D.pri) (.returned (.slice (some ⟨g, 0, none⟩) D.np c)) w2) := by
      show PlanTo _ _ _ _ _
      rw [HPN.out 0 hr.out, if_pos rfl]
      exact PlanTo.low ⟨g, c, rfl, hO, hb2⟩ HBw.out
    clear hP hO hb2
    go_wp2
    go_ret
    exact HR.out
  · have hq : (r != 0) = true := by simpa using hz
    have HR : Hid (PlanTo w (priN D) (plF D.col D.pri) (.returned (.slice (some ⟨w1.heap.size, 0, none⟩) 0 0)) (w1.alloc (.cells #[] 39))) := by
      show PlanTo _ _ _ _ _
      rw [HPN.out r hr.out, if_neg hz]
      exact (PlanTo.nil w1 _).low hBw1
    clear hc hp hB1 hBw1 HIN
    go_wp2
    go_ret
    exact HR.out

set_option maxHeartbeats 4000000 in
theorem implRowPlan_any (v : Value) (D : PDef) (w : World) (h : DView w v D) (hf : DFine D) (hI : ChkI w) :
    Calls Tryz.prog 13 #[v] w (PlanTo w (rowN D) (plF D.col allL)) := by
  obtain ⟨i0, hi, hz0, hz1, hz2⟩ := infoBy11
  have hv := h
  obtain ⟨ac, cc, ap, cp, ai, ci, rfl, hc, hp, -⟩ := h.is
  clear h
  have hB0 := box4_start w (.cells #[.string D.name, .slice ac D.nc cc, .slice ap D.np cp, .slice ai D.ni ci] 28)
  obtain ⟨hBw0, -⟩ := box4_below hB0
  have hC := hI _ _ D hBw0 (hv.below hBw0) hf
  have HPN : Hid (∀ r, checkF D = r → rowN D = if r = 0 then D.nc else 0) := fun r e => by rw [← e]; rfl
  have hnc := hf.nc
  obtain ⟨r, hr⟩ : ∃ r, Hid (checkF D = r) := ⟨_, rfl⟩
  rw [hr.out] at hC
  clear hI hv hf hBw0 hp
  go_enter Tryz.func13, Tryz.ntmps13
  go_wp2_with fail
  refine hC.mono ?_
  rintro e w1 ⟨rfl, hb1⟩
  have hB1 := box4_on hB0 hb1
  obtain ⟨hBw1, hs1⟩ := box4_below hB1
  obtain ⟨x0, x1, x2, x3⟩ := box4 hB1
  clear hC hb1 hB0
  by_cases hz : r = 0
  · subst hz
    have HBw : Hid (Below w.heap.size w w1) := hBw1
    have hO0 : (w1.alloc (.cells #[] 78)).ownsRow w1.heap.size 78 2 (.slice (some ⟨w1.heap.size, 0, none⟩) 0 0) 0 (rowG (encB allL) 0) := by
      have := World.ownsRow_lit (base := w1.heap.size) (e := 78) (size := 2) w1 #[] 0 (Nat.le_refl _) (Nat.zero_le _) rfl
      simpa [rowG] using this
    have hbE : Below w1.heap.size w1 (w1.alloc (.cells #[] 78)) := (Below.refl _ _).alloc (Nat.le_refl _) _
    have hB2 := box4_on hB1 hbE
    obtain ⟨-, z1, -, -⟩ := box4 hB2
    clear hB2
    have HC : Hid (CView w ac D.nc cc D.col) := hc
    clear hc hBw1
    obtain ⟨N, hN⟩ : ∃ x, Hid (D.nc = x) := ⟨_, rfl⟩
    rw [hN.out] at hnc z1 x1
    have HB1 : Hid (Below (w.heap.size + 1) (w.alloc (.cells #[.string D.name, .slice ac N cc, .slice ap D.np cp, .slice ai D.ni ci] 28)) w1) := by
      show Below _ _ _
      rw [← hN.out]; exact hB1
    clear hB1
    go_wp2
    go_loopg [13, 3] N (fun q i s wr => ∃ k : Nat, k ≤ N ∧ q = N - k ∧ i = .int .i64 k ∧ ∃ g c, s = .slice (some ⟨g, 0, none⟩) k c ∧ wr.ownsRow w1.heap.size 78 2 (.slice (some ⟨g, 0, none⟩) k c) k (rowG (encB allL) k) ∧ Below w1.heap.size w1 wr)
    case atStart => exact ⟨0, Nat.zero_le _, rfl, rfl, _, _, rfl, hO0, hbE⟩
    case round =>
      clear hO0 hbE
      obtain ⟨k, hk, rfl, rfl, sa, sc, rfl, hO, hB⟩ := hrel
      by_cases hlt : k < N
      · have hkz : (k : Int) < (N : Int) := by omega
        have HN : Hid (rowG (encB allL) (k + 1) = rowG (encB allL) k ++ [.int .i64 k, .bool false]) := rfl
        obtain ⟨R, hR⟩ : ∃ x, Hid (rowG (encB allL) k = x) := ⟨_, rfl⟩
        rw [hR.out] at HN hO
        have hb3 : Below wr.heap.size wr (wr.alloc (.cells #[.int .i64 k, .bool false] 78)) := (Below.refl _ _).alloc (Nat.le_refl _) _
        have hO3 := own_belowG hO hb3
        have HB3 : Hid (Below w1.heap.size w1 (wr.alloc (.cells #[.int .i64 k, .bool false] 78))) := hB.trans (hb3.mono hB.size)
        have hcl := cells_by9 wr k false
        have HOW := own_ge9 hO
        have hsz := hB.size
        clear hb3 hO hB z1
        go_wp2_with (at_builtin; refine wpList_append_own _ rfl (.tmp 16) (.tmp 19) 25 rfl w1.heap.size 78 i0 (.agg #[.int .i64 0, .bool false]) 2 16 Tryz.underlying25 hi hz0 hz1 hz2 rfl (by decide) _ _ _ rfl hO3 ⟨wr.heap.size, 0, none⟩ 1 1 [.int .i64 k, .bool false] rfl rfl hcl (one_by9 _ _) (by unfold maxLen; omega) (by omega) (by simp; omega) ?_)
        intro v5 w4 hown5 hgr hnil
        obtain ⟨g', cap', rfl⟩ := own_succ9 hown5
        have HR : Hid (w4.ownsRow w1.heap.size 78 2 (.slice (some ⟨g', 0, none⟩) (k + 1) cap') (k + 1) (rowG (encB allL) (k + 1)) ∧ Below w1.heap.size w1 w4) := by
          refine ⟨?_, ?_⟩
          · rw [HN.out]; exact hown5
          · exact HB3.out.grown hgr (by simp; omega) HOW
        clear hown5 hgr hnil hO3 hcl HOW HB3
        go_wp2
        go_roundg (N - (k + 1))
        case measure => omega
        case rel => exact ⟨k + 1, by omega, rfl, by go_num, _, _, rfl, HR.out.1, HR.out.2⟩
      · have hkz : ¬ (k : Int) < (N : Int) := by omega
        obtain rfl : k = N := by omega
        have hB3 := box4_on HB1.out hB
        obtain ⟨-, y1, -, -⟩ := box4 hB3
        have hbw : Below w.heap.size w wr := HBw.out.trans (hB.mono HBw.out.size)
        obtain ⟨a', k', ea, hbv, -⟩ := bview_of_own hO
        cases ea
        have hP := partsBy_any ac k cc D.col (some ⟨sa, 0, none⟩) k sc allL wr (by have := HC.out.below hbw; rw [hN.out] at this; exact this) hbv hnc hnc (fun i hi => by show (0 : Int) ≤ (i : Int) ∧ (i : Int) < (k : Int); omega)
        have HBr : Hid (Below w.heap.size w wr) := hbw
        clear hO hB hB3 hbw hbv z1 HB1
        go_wp2_with fail
        refine hP.mono ?_
        rintro e w2 ⟨g, c, rfl, hO, hb2⟩
        have HR : Hid (PlanTo w (rowN D) (plF D.col allL) (.returned (.slice (some ⟨g, 0, none⟩) k c)) w2) := by
          show PlanTo _ _ _ _ _
          rw [HPN.out 0 hr.out, if_pos rfl, hN.out]
          exact PlanTo.low ⟨g, c, rfl, hO, hb2⟩ HBr.out
        clear hP hO hb2
        go_wp2
        go_ret
        exact HR.out
  · have hq : (r != 0) = true := by simpa using hz
    have HR : Hid (PlanTo w (rowN D) (plF D.col allL) (.returned (.slice (some ⟨w1.heap.size, 0, none⟩) 0 0)) (w1.alloc (.cells #[] 39))) := by
      show PlanTo _ _ _ _ _
      rw [HPN.out r hr.out, if_neg hz]
      exact (PlanTo.nil w1 _).low hBw1
    clear hc hB1 hBw1
    go_wp2
    go_ret
    exact HR.out
end Go.Proofs.YtjoimkfpenbkmaaGreatDoor

/-
  Texts joined, a blank between, plainly.
-/
namespace Go.Proofs.YtjoimkfpenbkmaaGreatDoor
open Go.RowKit
set_option maxRecDepth 4000

/-- The texts of the first k tokens, a blank between. -/
def joinT (fs : Nat → ByteArray) : Nat → ByteArray
  | 0 => ⟨#[]⟩
  | k + 1 => (if 0 < k then joinT fs k ++ (⟨#[32]⟩ : ByteArray) else joinT fs k) ++ fs k
theorem joinT_size {fs : Nat → ByteArray} {B n : Nat} (h : ∀ i, i < n → (fs i).size ≤ B) : ∀ k, k ≤ n → (joinT fs k).size ≤ k * (B + 1)
  | 0, _ => Nat.zero_le _
  | k + 1, hk => by
    have ih := joinT_size h k (by omega)
    have h1 := h k (by omega)
    have h2 : (⟨#[32]⟩ : ByteArray).size = 1 := rfl
    rw [joinT, ByteArray.size_append]
    have h3 : (k + 1) * (B + 1) = k * (B + 1) + (B + 1) := by rw [Nat.add_mul]; omega
    split
    · rw [ByteArray.size_append]; omega
    · omega
theorem joinT_congr {fs gs : Nat → ByteArray} : ∀ {n : Nat}, (∀ i, i < n → fs i = gs i) → joinT fs n = joinT gs n
  | 0, _ => rfl
  | n + 1, h => by rw [joinT, joinT, joinT_congr (fun i hi => h i (by omega)), h n (by omega)]

end Go.Proofs.YtjoimkfpenbkmaaGreatDoor

