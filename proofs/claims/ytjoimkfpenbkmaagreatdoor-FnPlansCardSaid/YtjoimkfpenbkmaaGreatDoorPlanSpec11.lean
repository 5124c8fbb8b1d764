/-
  PlanSpec11
-/
import Derived.Test.YtjoimkfpenbkmaaGreatDoorPackP9
import Derived.Test.YtjoimkfpenbkmaaGreatDoorPackP11
import Derived.Test.YtjoimkfpenbkmaaGreatDoorPackP5
import Derived.Test.YtjoimkfpenbkmaaGreatDoorPackP8
import Derived.Deep.LoopGhost
import Derived.Deep.RegionHeld3
import Derived.Deep.QuietTactic
import Derived.BigQuiet
/-
  The model's l11Part, l11Parts and its plans of Primary and of rows come to the plain ones.
-/
namespace Go.Proofs.YtjoimkfpenbkmaaGreatDoor
open Go.RowKit
set_option maxRecDepth 4000

set_option maxHeartbeats 2000000 in
theorem l11Part_any (v : Value) (D : PDef) (k : Nat) (d : Bool) (w : World) (h : DView w v D) (hk : k < D.nc) :
    Calls Tryz.prog 89 #[v, .int .i64 k, .bool d] w fun e w' => e = .returned (.agg #[.int .i64 k, .int .i64 (D.col k).type, .bool (D.col k).null, .bool d]) ∧ Below w.heap.size w w' := by
  obtain ⟨ac, cc, ap, cp, ai, ci, rfl, hc, -, -⟩ := h.is
  clear h
  obtain ⟨b1, o1, rfl, hb1, hc1⟩ := hc.cells (by omega)
  obtain ⟨x0, x1, x2⟩ := hc1 k hk
  have hkz : (k : Int) < (D.nc : Int) := by omega
  obtain ⟨t, ht⟩ : ∃ x, Hid ((D.col k).type = x) := ⟨_, rfl⟩
  obtain ⟨u, hu⟩ : ∃ x, Hid ((D.col k).null = x) := ⟨_, rfl⟩
  rw [ht.out] at x1
  rw [hu.out] at x2
  rw [ht.out, hu.out]
  have hb2 : Below w.heap.size w ((w.alloc (.cells #[.string D.name, .slice (some ⟨b1, o1, none⟩) D.nc cc, .slice ap D.np cp, .slice ai D.ni ci] 28)).alloc (.cells #[.int .i64 0, .int .i64 0, .bool false, .bool false] 39)) := ((Below.refl _ _).alloc (Nat.le_refl _) _).alloc (by simp) _
  have V0 := V4.new (w.alloc (.cells #[.string D.name, .slice (some ⟨b1, o1, none⟩) D.nc cc, .slice ap D.np cp, .slice ai D.ni ci] 28)) 39 (.int .i64 0) (.int .i64 0) (.bool false) (.bool false)
  simp only [alloc_size9] at V0
  have VF := (((V0.set0 (.int .i64 k)).set1 (.int .i64 t)).set2 (.bool u)).set3 (.bool d)
  have y1 := (hb2.cell (p := ⟨b1, o1 + k * 3 + 1, none⟩) hb1).trans x1
  have y2 := (hb2.cell (p := ⟨b1, o1 + k * 3 + 2, none⟩) hb1).trans x2
  have y0 : ((w.alloc (.cells #[.string D.name, .slice (some ⟨b1, o1, none⟩) D.nc cc, .slice ap D.np cp, .slice ai D.ni ci] 28)).alloc (.cells #[.int .i64 0, .int .i64 0, .bool false, .bool false] 39)).cell? ⟨w.heap.size, 1, none⟩ = some (.slice (some ⟨b1, o1, none⟩) D.nc cc) := by simp [go_sem]
  obtain ⟨z0, z1, z2, z3⟩ := V0.cells
  obtain ⟨f0, f1, f2, f3⟩ := V0.fz
  obtain ⟨W2, hW2⟩ : ∃ W2, Hid ((w.alloc (.cells #[.string D.name, .slice (some ⟨b1, o1, none⟩) D.nc cc, .slice ap D.np cp, .slice ai D.ni ci] 28)).alloc (.cells #[.int .i64 0, .int .i64 0, .bool false, .bool false] 39) = W2) := ⟨_, rfl⟩
  rw [hW2.out] at hb2 VF y0 y1 y2 z0 z1 z2 z3 f0 f1 f2 f3
  obtain ⟨r0, r1, r2, r3⟩ := VF.cells
  have hkz2 : (k : Int) < (D.nc : Int) := hkz
  have HR : Hid (Below w.heap.size w ((((W2.setCell ⟨w.heap.size + 1, 0, none⟩ (.int .i64 k)).setCell ⟨w.heap.size + 1, 1, none⟩ (.int .i64 t)).setCell ⟨w.heap.size + 1, 2, none⟩ (.bool u)).setCell ⟨w.heap.size + 1, 3, none⟩ (.bool d))) := (((hb2.setCell (p := ⟨w.heap.size + 1, 0, none⟩) (by simp) _).setCell (p := ⟨w.heap.size + 1, 1, none⟩) (by simp) _).setCell (p := ⟨w.heap.size + 1, 2, none⟩) (by simp) _).setCell (p := ⟨w.heap.size + 1, 3, none⟩) (by simp) _
  clear hc hc1 ht hu V0 VF hb2 x0 x1 x2
  go_enter Tryz.func89, Tryz.ntmps89
  go_wp2_with (rw [hW2.out])
  go_region
  all_goals
    go_wp2
    refine bodyPost_ret (v := .agg #[.int .i64 k, .int .i64 t, .bool u, .bool d]) (by simp [results, Tryz.results89, go_sem, r0, r1, r2, r3]) rfl ⟨rfl, HR.out.drew⟩

set_option maxHeartbeats 4000000 in
theorem l11Parts_any (v : Value) (D : PDef) (ap : Option Addr) (n cp : Nat) (l : Nat → PBy) (w : World) (h : DView w v D) (hP : BView w ap n cp l) (_hnc : D.nc ≤ 1048576) (hn : n ≤ 1048576) (hin : ∀ i, i < n → 0 ≤ (l i).col ∧ (l i).col < D.nc) :
    Calls Tryz.prog 77 #[v, .slice ap n cp] w (PlanTo w n (plF D.col l)) := by
  obtain ⟨i0, hi, hz0, hz1, hz2⟩ := infoPart11
  have hv := h
  obtain ⟨ac, cc, aq, cq, ai, ci, rfl, -, -, -⟩ := h.is
  clear h
  have hB0 := box4_start w (.cells #[.string D.name, .slice ac D.nc cc, .slice aq D.np cq, .slice ai D.ni ci] 28)
  obtain ⟨W0, hW0⟩ : ∃ W0, Hid (w.alloc (.cells #[.string D.name, .slice ac D.nc cc, .slice aq D.np cq, .slice ai D.ni ci] 28) = W0) := ⟨_, rfl⟩
  have hsz0 : W0.heap.size = w.heap.size + 1 := by rw [← hW0.out]; simp
  rw [hW0.out] at hB0
  have hbE : Below (w.heap.size + 1) W0 (W0.alloc (.cells #[] 39)) := (Below.refl _ _).alloc (by omega) _
  have hO0 := own_low (own_nil11 W0 (plF D.col l)) (show w.heap.size + 1 ≤ W0.heap.size by omega)
  rw [hsz0] at hO0
  have HBX : Hid (∀ wr, Below (w.heap.size + 1) W0 wr → (wr.cell? ⟨w.heap.size, 0, none⟩ = some (.string D.name) ∧ wr.cell? ⟨w.heap.size, 1, none⟩ = some (.slice ac D.nc cc) ∧ wr.cell? ⟨w.heap.size, 2, none⟩ = some (.slice aq D.np cq) ∧ wr.cell? ⟨w.heap.size, 3, none⟩ = some (.slice ai D.ni ci)) ∧ Below w.heap.size w wr ∧ w.heap.size + 1 ≤ wr.heap.size) := by
    rw [← hW0.out]
    exact fun wr hb => ⟨box4 hb, box4_below hb⟩
  clear hB0
  go_enter Tryz.func77, Tryz.ntmps77
  go_wp2_with (rw [hW0.out])
  go_loopg [5, 6] n (fun q s i wr => ∃ k : Nat, k ≤ n ∧ q = n - k ∧ i = .int .i64 k ∧ ∃ g c, s = .slice (some ⟨g, 0, none⟩) k c ∧ wr.ownsRow (w.heap.size + 1) 39 4 (.slice (some ⟨g, 0, none⟩) k c) k (rowG (encQ (plF D.col l)) k) ∧ Below (w.heap.size + 1) W0 wr)
  case atStart => exact ⟨0, Nat.zero_le _, rfl, rfl, _, _, rfl, hO0, hbE⟩
  case round =>
    clear hO0 hbE
    obtain ⟨k, hk, rfl, rfl, sa, sc, rfl, hO, hB⟩ := hrel
    obtain ⟨⟨x0, x1, x2, x3⟩, hBw, hs⟩ := HBX.out _ hB
    by_cases hlt : k < n
    · have hkz : (k : Int) < (n : Int) := by omega
      obtain ⟨b1, o1, rfl, hb1, hc1⟩ := (hP.below hBw).cells (by omega)
      obtain ⟨y0, y1⟩ := hc1 k hlt
      obtain ⟨j, hj⟩ : ∃ j : Nat, Hid ((l k).col = j) := ⟨((l k).col).toNat, by show _ = _; have := (hin k hlt).1; omega⟩
      have hjn : j < D.nc := by have := (hin k hlt).2; rw [hj.out] at this; omega
      have HN : Hid (rowG (encQ (plF D.col l)) (k + 1) = rowG (encQ (plF D.col l)) k ++ [.int .i64 j, .int .i64 (D.col j).type, .bool (D.col j).null, .bool (l k).desc]) := by
        show _ = _
        rw [rowG]
        simp [encQ, plF, ptOf, hj.out]
      rw [hj.out] at y0
      obtain ⟨d, hd⟩ : ∃ x, Hid ((l k).desc = x) := ⟨_, rfl⟩
      have hL := fun (W : World) (hb : Below w.heap.size w W) => l11Part_any _ D j d W (hv.below hb) hjn
      obtain ⟨t, ht⟩ : ∃ x, Hid ((D.col j).type = x) := ⟨_, rfl⟩
      obtain ⟨u, hu⟩ : ∃ x, Hid ((D.col j).null = x) := ⟨_, rfl⟩
      obtain ⟨R, hR⟩ : ∃ x, Hid (rowG (encQ (plF D.col l)) k = x) := ⟨_, rfl⟩
      rw [hd.out] at y1 HN
      rw [ht.out] at HN
      rw [hu.out] at HN
      simp only [ht.out, hu.out] at hL
      rw [hR.out] at HN hO
      have HOW := own_ge9 hO
      have HWK : Hid (∀ W, Below (w.heap.size + 1) W0 W → (W.cell? ⟨w.heap.size, 0, none⟩ = some (.string D.name) ∧ W.cell? ⟨w.heap.size, 1, none⟩ = some (.slice ac D.nc cc) ∧ W.cell? ⟨w.heap.size, 2, none⟩ = some (.slice aq D.np cq) ∧ W.cell? ⟨w.heap.size, 3, none⟩ = some (.slice ai D.ni ci)) ∧ W.cell? ⟨b1, o1 + k * 2, none⟩ = some (.int .i64 j) ∧ W.cell? ⟨b1, o1 + k * 2 + 1, none⟩ = some (.bool d)) := by
        intro W hb
        have hbw := (HBX.out _ hb).2.1
        obtain ⟨b1', o1', e1, hlt1, hcc⟩ := hP.cells (by omega)
        cases e1
        obtain ⟨q0, q1⟩ := hcc k hlt
        refine ⟨(HBX.out _ hb).1, ?_, ?_⟩
        · rw [hbw.cell (by exact hlt1), q0, hj.out]
        · rw [hbw.cell (by exact hlt1), q1, hd.out]
      have hS := hB
      clear hP hin hc1 hv hB hBw
      go_wp2_with fail
      refine wp_region_held_drew (S := fun WW => Below (w.heap.size + 1) W0 WW) (by kernel_rfl) hS.drew (fun hHeld => ?_)
      replace hO := own_belowG hO (show Below wr.heap.size wr wr.drew from (Below.refl _ _).drew)
      replace hS := hS.drew
      obtain ⟨wd, hwd⟩ : ∃ wd, Hid (wd = wr.drew) := ⟨_, rfl⟩
      rw [← hwd.out] at hO hS ⊢
      refine' wpAnyH_take (i := 0) (v := _) rfl (by kernel_rfl) (by kernel_rfl) (by kernel_rfl) (fun _ _ _ h => h) (Or.inl ⟨by kernel_rfl, ?hlp1⟩) (by assumption) ?rlp1
      case hlp1 => intro W hW; obtain ⟨⟨c0, c1, c2, c3⟩, c4, c5⟩ := HWK.out _ hW; go_simp; all_goals with_reducible rfl
      change wpAnyH _ _ _ _ _ _ _ (Act.put _ (some 14) _) _
      simp only [Act.put, List.setIfInBounds_toArray, List.set_cons_zero, List.set_cons_succ]
      refine' wpAnyH_take (i := 1) (v := _) rfl (by kernel_rfl) (by kernel_rfl) (by kernel_rfl) (fun _ _ _ h => h) (Or.inl ⟨by kernel_rfl, ?hlp2⟩) (by assumption) ?rlp2
      case hlp2 => intro W hW; obtain ⟨⟨c0, c1, c2, c3⟩, c4, c5⟩ := HWK.out _ hW; go_simp; all_goals with_reducible rfl
      change wpAnyH _ _ _ _ _ _ _ (Act.put _ (some 15) _) _
      simp only [Act.put, List.setIfInBounds_toArray, List.set_cons_zero, List.set_cons_succ]
      refine' wpAnyH_take (i := 2) (v := _) rfl (by kernel_rfl) (by kernel_rfl) (by kernel_rfl) (fun _ _ _ h => h) (Or.inl ⟨by kernel_rfl, ?hlp3⟩) (by assumption) ?rlp3
      case hlp3 => intro W hW; obtain ⟨⟨c0, c1, c2, c3⟩, c4, c5⟩ := HWK.out _ hW; go_simp; all_goals with_reducible rfl
      change wpAnyH _ _ _ _ _ _ _ (Act.put _ (some 16) _) _
      simp only [Act.put, List.setIfInBounds_toArray, List.set_cons_zero, List.set_cons_succ]
      refine' wpAnyH_take (i := 3) (v := _) rfl (by kernel_rfl) (by kernel_rfl) (by kernel_rfl) (fun _ _ _ h => h) (Or.inl ⟨by kernel_rfl, ?hlp4⟩) (by assumption) ?rlp4
      case hlp4 => intro W hW; obtain ⟨⟨c0, c1, c2, c3⟩, c4, c5⟩ := HWK.out _ hW; go_simp; all_goals with_reducible rfl
      change wpAnyH _ _ _ _ _ _ _ (Act.put _ (some 17) _) _
      simp only [Act.put, List.setIfInBounds_toArray, List.set_cons_zero, List.set_cons_succ]
      refine' wpAnyH_take (i := 4) (v := _) rfl (by kernel_rfl) (by kernel_rfl) (by kernel_rfl) (fun _ _ _ h => h) (Or.inl ⟨by kernel_rfl, ?hlp5⟩) (by assumption) ?rlp5
      case hlp5 => intro W hW; obtain ⟨⟨c0, c1, c2, c3⟩, c4, c5⟩ := HWK.out _ hW; go_simp; all_goals with_reducible rfl
      change wpAnyH _ _ _ _ _ _ _ (Act.put _ (some 18) _) _
      simp only [Act.put, List.setIfInBounds_toArray, List.set_cons_zero, List.set_cons_succ]
      refine' wpAnyH_take (i := 5) (v := _) rfl (by kernel_rfl) (by kernel_rfl) (by kernel_rfl) (fun _ _ _ h => h) (Or.inl ⟨by kernel_rfl, ?hlp6⟩) (by assumption) ?rlp6
      case hlp6 => intro W hW; obtain ⟨⟨c0, c1, c2, c3⟩, c4, c5⟩ := HWK.out _ hW; go_simp; all_goals with_reducible rfl
      change wpAnyH _ _ _ _ _ _ _ (Act.put _ (some 19) _) _
      simp only [Act.put, List.setIfInBounds_toArray, List.set_cons_zero, List.set_cons_succ]
      refine' wpAnyH_take (i := 6) (v := _) rfl (by kernel_rfl) (by kernel_rfl) (by kernel_rfl) (fun _ _ _ h => h) (Or.inl ⟨by kernel_rfl, ?hlp7⟩) (by assumption) ?rlp7
      case hlp7 => intro W hW; obtain ⟨⟨c0, c1, c2, c3⟩, c4, c5⟩ := HWK.out _ hW; go_simp; all_goals with_reducible rfl
      change wpAnyH _ _ _ _ _ _ _ (Act.put _ (some 20) _) _
      simp only [Act.put, List.setIfInBounds_toArray, List.set_cons_zero, List.set_cons_succ]
      refine' wpAnyH_take (i := 7) (v := _) rfl (by kernel_rfl) (by kernel_rfl) (by kernel_rfl) (fun _ _ _ h => h) (Or.inl ⟨by kernel_rfl, ?hlp8⟩) (by assumption) ?rlp8
      case hlp8 => intro W hW; obtain ⟨⟨c0, c1, c2, c3⟩, c4, c5⟩ := HWK.out _ hW; go_simp; all_goals with_reducible rfl
      change wpAnyH _ _ _ _ _ _ _ (Act.put _ (some 21) _) _
      simp only [Act.put, List.setIfInBounds_toArray, List.set_cons_zero, List.set_cons_succ]
      refine' wpAnyH_take (i := 8) (v := _) rfl (by kernel_rfl) (by kernel_rfl) (by kernel_rfl) (fun _ _ _ h => h) (Or.inl ⟨by kernel_rfl, ?hlp9⟩) (by assumption) ?rlp9
      case hlp9 => intro W hW; obtain ⟨⟨c0, c1, c2, c3⟩, c4, c5⟩ := HWK.out _ hW; go_simp; all_goals with_reducible rfl
      change wpAnyH _ _ _ _ _ _ _ (Act.put _ (some 22) _) _
      simp only [Act.put, List.setIfInBounds_toArray, List.set_cons_zero, List.set_cons_succ]
      refine' wpAnyH_take (i := 9) (v := _) rfl (by kernel_rfl) (by kernel_rfl) (by kernel_rfl) (fun _ _ _ h => h) (Or.inl ⟨by kernel_rfl, ?hlp10⟩) (by assumption) ?rlp10
      case hlp10 => intro W hW; obtain ⟨⟨c0, c1, c2, c3⟩, c4, c5⟩ := HWK.out _ hW; go_simp; all_goals with_reducible rfl
      change wpAnyH _ _ _ _ _ _ _ (Act.put _ (some 23) _) _
      simp only [Act.put, List.setIfInBounds_toArray, List.set_cons_zero, List.set_cons_succ]
      refine' wpAnyH_take (i := 10) (v := _) rfl (by kernel_rfl) (by kernel_rfl) (by kernel_rfl) (fun _ _ _ h => h) (Or.inl ⟨by kernel_rfl, ?hlp11⟩) (by assumption) ?rlp11
      case hlp11 => intro W hW; obtain ⟨⟨c0, c1, c2, c3⟩, c4, c5⟩ := HWK.out _ hW; go_simp; all_goals with_reducible rfl
      change wpAnyH _ _ _ _ _ _ _ (Act.put _ (some 24) _) _
      simp only [Act.put, List.setIfInBounds_toArray, List.set_cons_zero, List.set_cons_succ]
      refine' wpAnyH_take (i := 11) (v := _) rfl (by kernel_rfl) (by kernel_rfl) (by kernel_rfl) (fun _ _ _ h => h) (Or.inl ⟨by kernel_rfl, ?hlp12⟩) (by assumption) ?rlp12
      case hlp12 => intro W hW; obtain ⟨⟨c0, c1, c2, c3⟩, c4, c5⟩ := HWK.out _ hW; go_simp; all_goals with_reducible rfl
      change wpAnyH _ _ _ _ _ _ _ (Act.put _ (some 25) _) _
      simp only [Act.put, List.setIfInBounds_toArray, List.set_cons_zero, List.set_cons_succ]
      refine wpAnyH_ready (rs := [12]) (by kernel_rfl) (by simp) ?_
      refine AllReadyH.cons rfl (fun KK hK => ?_) AllReadyH.nil
      go_simp
      refine (hL _ (HBX.out _ hS).2.1).mono ?_
      rintro e w5 ⟨rfl, hB5⟩
      replace hO := own_belowG hO hB5
      replace hS := hS.trans (hB5.mono (HBX.out _ hS).2.2)
      clear hB5 hL
      go_wp2_with fail
      refine hK.out _ _ hS (fun hHeld => ?_)
      clear hK KK
      try simp only [Act.put, List.setIfInBounds_toArray, List.set_cons_zero, List.set_cons_succ]
      refine wpAnyH_ready (rs := [13]) (by kernel_rfl) (by simp) ?_
      refine AllReadyH.cons rfl (fun KK hK => ?_) AllReadyH.nil
      go_simp
      have hcl := cells_part11 w5 j t u d
      have hbA : Below w5.heap.size w5 (w5.alloc (.cells #[.int .i64 j, .int .i64 t, .bool u, .bool d] 39)) := (Below.refl _ _).alloc (Nat.le_refl _) _
      replace hO := own_belowG hO hbA
      replace hS := hS.trans (hbA.mono (HBX.out _ hS).2.2)
      have hsz := hS.size
      refine hK.out _ _ hS (fun hHeld => ?_)
      clear hK KK
      try simp only [Act.put, List.setIfInBounds_toArray, List.set_cons_zero, List.set_cons_succ]
      refine wpAnyH_ready (rs := [14]) (by kernel_rfl) (by simp) ?_
      refine AllReadyH.cons rfl (fun KK hK => ?_) AllReadyH.nil
      rw [if_pos (by kernel_rfl)]
      refine wp_append_own _ (.tmp 14) (.tmp 27) 31 rfl (w.heap.size + 1) 39 i0 (.agg #[.int .i64 0, .int .i64 0, .bool false, .bool false]) 4 24 Tryz.underlying31 hi hz0 hz1 hz2 rfl (by decide) _ _ _ rfl hO ⟨w5.heap.size, 0, none⟩ 1 1 [.int .i64 j, .int .i64 t, .bool u, .bool d] rfl rfl hcl (one_part11 _ _ _ _) (by unfold maxLen; omega) (by omega) (by omega) ?_
      intro v6 w6 hO6 hgr6 hnil6
      replace hS := hS.grown hgr6 (by omega) (own_ge9 hO)
      obtain ⟨b6, c6, rfl⟩ := own_succ9 hO6
      have hO7 : w6.ownsRow (w.heap.size + 1) 39 4 (.slice (some ⟨b6, 0, none⟩) (k + 1) c6) (k + 1) (rowG (encQ (plF D.col l)) (k + 1)) := by rw [HN.out]; exact hO6
      clear hO hO6 hgr6 hnil6 hcl hbA
      refine hK.out _ _ hS (fun hHeld => ?_)
      clear hK KK
      change wpAnyH _ _ _ _ _ _ _ (Act.put _ (some 28) _) _
      try simp only [Act.put, List.setIfInBounds_toArray, List.set_cons_zero, List.set_cons_succ]
      refine' wpAnyH_take (i := 15) (v := _) rfl (by kernel_rfl) (by kernel_rfl) (by kernel_rfl) (fun _ _ _ h => h) (Or.inl ⟨by kernel_rfl, ?hlp13⟩) (by assumption) ?rlp13
      case hlp13 => intro W hW; obtain ⟨⟨c0, c1, c2, c3⟩, c4, c5⟩ := HWK.out _ hW; go_simp; all_goals with_reducible rfl
      change wpAnyH _ _ _ _ _ _ _ (Act.put _ (some 5) _) _
      simp only [Act.put, List.setIfInBounds_toArray, List.set_cons_zero, List.set_cons_succ]
      refine wpAnyH_done (by kernel_rfl) ?_ _
      have HR : Hid (w6.ownsRow (w.heap.size + 1) 39 4 (.slice (some ⟨b6, 0, none⟩) (k + 1) c6) (k + 1) (rowG (encQ (plF D.col l)) (k + 1)) ∧ Below (w.heap.size + 1) W0 w6) := ⟨hO7, hS⟩
      clear hO7 hS
      go_wp2
      go_roundg (n - (k + 1))
      case measure => omega
      case rel => exact ⟨k + 1, by omega, rfl, by go_num, _, _, rfl, HR.out.1, HR.out.2⟩
    · have hkz : ¬ (k : Int) < (n : Int) := by omega
      obtain rfl : k = n := by omega
      have HR : Hid (PlanTo w k (plF D.col l) (.returned (.slice (some ⟨sa, 0, none⟩) k sc)) wr) := ⟨sa, sc, rfl, own_low hO (Nat.le_succ _), hBw⟩
      clear hP hin hO hB hBw hv HBX
      go_wp2
      go_ret
      exact HR.out
end Go.Proofs.YtjoimkfpenbkmaaGreatDoor

