/-
  Together: PlanSpec11, SpecPlans11
-/
import Derived.Test.YtkakkjnbhklfpaaGreatDoorPackR4
import Derived.Test.YtkakkjnbhklfpaaGreatDoorPackR18
import Derived.Test.YtkakkjnbhklfpaaGreatDoorPackR6
import Derived.Deep.LoopGhost
import Derived.Deep.RegionHeld3
import Derived.Deep.QuietTactic
import Derived.BigQuiet
/-
  The model's l11Part, l11Parts and its plans of Primary and of rows come to the plain ones.
-/
namespace Go.Proofs.YtkakkjnbhklfpaaGreatDoor
open Go.RowKit
set_option maxRecDepth 4000

set_option maxHeartbeats 2000000 in
theorem l11Part_any (v : Value) (D : PDef) (k : Nat) (d : Bool) (w : World) (h : DView w v D) (hk : k < D.nc) :
    Calls Tryz.prog 73 #[v, .int .i64 k, .bool d] w fun e w' => e = .returned (.agg #[.int .i64 k, .int .i64 (D.col k).type, .bool (D.col k).null, .bool d]) ∧ Below w.heap.size w w' := by
  obtain ⟨ac, cc, ap, cp, ai, ci, rfl, hc, -, -⟩ := h.is
  clear h
  obtain ⟨b1, o1, rfl, hb1, hc1⟩ := hc.cells (by omega)
  obtain ⟨x0, x1, x2⟩ := hc1 k hk
  have hkz : (k : Int) < (D.nc : Int) := by omega
  obtain ⟨t, ht⟩ : ∃ x, Hid ((D.col k).type = x) := ⟨_, rfl⟩
  obtain ⟨u, hu⟩ : ∃ x, Hid ((D.col k).null = x) := ⟨_, rfl⟩
  rw [ht.out] at x1
  rw [hu.out] at x2
  rw [ht.out, hu.out]
  have hb2 : Below w.heap.size w ((w.alloc (.cells #[.string D.name, .slice (some ⟨b1, o1, none⟩) D.nc cc, .slice ap D.np cp, .slice ai D.ni ci] 36)).alloc (.cells #[.int .i64 0, .int .i64 0, .bool false, .bool false] 50)) := ((Below.refl _ _).alloc (Nat.le_refl _) _).alloc (by simp) _
  have V0 := V4.new (w.alloc (.cells #[.string D.name, .slice (some ⟨b1, o1, none⟩) D.nc cc, .slice ap D.np cp, .slice ai D.ni ci] 36)) 50 (.int .i64 0) (.int .i64 0) (.bool false) (.bool false)
  simp only [alloc_size9] at V0
  have VF := (((V0.set0 (.int .i64 k)).set1 (.int .i64 t)).set2 (.bool u)).set3 (.bool d)
  have y1 := (hb2.cell (p := ⟨b1, o1 + k * 3 + 1, none⟩) hb1).trans x1
  have y2 := (hb2.cell (p := ⟨b1, o1 + k * 3 + 2, none⟩) hb1).trans x2
  have y0 : ((w.alloc (.cells #[.string D.name, .slice (some ⟨b1, o1, none⟩) D.nc cc, .slice ap D.np cp, .slice ai D.ni ci] 36)).alloc (.cells #[.int .i64 0, .int .i64 0, .bool false, .bool false] 50)).cell? ⟨w.heap.size, 1, none⟩ = some (.slice (some ⟨b1, o1, none⟩) D.nc cc) := by simp [go_sem]
  obtain ⟨z0, z1, z2, z3⟩ := V0.cells
  obtain ⟨f0, f1, f2, f3⟩ := V0.fz
  obtain ⟨W2, hW2⟩ : ∃ W2, Hid ((w.alloc (.cells #[.string D.name, .slice (some ⟨b1, o1, none⟩) D.nc cc, .slice ap D.np cp, .slice ai D.ni ci] 36)).alloc (.cells #[.int .i64 0, .int .i64 0, .bool false, .bool false] 50) = W2) := ⟨_, rfl⟩
  rw [hW2.out] at hb2 VF y0 y1 y2 z0 z1 z2 z3 f0 f1 f2 f3
  obtain ⟨r0, r1, r2, r3⟩ := VF.cells
  have hkz2 : (k : Int) < (D.nc : Int) := hkz
  have HR : Hid (Below w.heap.size w ((((W2.setCell ⟨w.heap.size + 1, 0, none⟩ (.int .i64 k)).setCell ⟨w.heap.size + 1, 1, none⟩ (.int .i64 t)).setCell ⟨w.heap.size + 1, 2, none⟩ (.bool u)).setCell ⟨w.heap.size + 1, 3, none⟩ (.bool d))) := (((hb2.setCell (p := ⟨w.heap.size + 1, 0, none⟩) (by simp) _).setCell (p := ⟨w.heap.size + 1, 1, none⟩) (by simp) _).setCell (p := ⟨w.heap.size + 1, 2, none⟩) (by simp) _).setCell (p := ⟨w.heap.size + 1, 3, none⟩) (by simp) _
  clear hc hc1 ht hu V0 VF hb2 x0 x1 x2
  go_enter Tryz.func73, Tryz.ntmps73
  go_wp2_with (rw [hW2.out])
  go_region
  all_goals
    go_wp2
    refine bodyPost_ret (v := .agg #[.int .i64 k, .int .i64 t, .bool u, .bool d]) (by simp [results, Tryz.results73, go_sem, r0, r1, r2, r3]) rfl ⟨rfl, HR.out.drew⟩

set_option maxHeartbeats 4000000 in
theorem l11Parts_any (v : Value) (D : PDef) (ap : Option Addr) (n cp : Nat) (l : Nat → PBy) (w : World) (h : DView w v D) (hP : BView w ap n cp l) (_hnc : D.nc ≤ 1048576) (hn : n ≤ 1048576) (hin : ∀ i, i < n → 0 ≤ (l i).col ∧ (l i).col < D.nc) :
    Calls Tryz.prog 149 #[v, .slice ap n cp] w (PlanTo w n (plF D.col l)) := by
  obtain ⟨i0, hi, hz0, hz1, hz2⟩ := infoPart11
  have hv := h
  obtain ⟨ac, cc, aq, cq, ai, ci, rfl, -, -, -⟩ := h.is
  clear h
  have hB0 := box4_start w (.cells #[.string D.name, .slice ac D.nc cc, .slice aq D.np cq, .slice ai D.ni ci] 36)
  obtain ⟨W0, hW0⟩ : ∃ W0, Hid (w.alloc (.cells #[.string D.name, .slice ac D.nc cc, .slice aq D.np cq, .slice ai D.ni ci] 36) = W0) := ⟨_, rfl⟩
  have hsz0 : W0.heap.size = w.heap.size + 1 := by rw [← hW0.out]; simp
  rw [hW0.out] at hB0
  have hbE : Below (w.heap.size + 1) W0 (W0.alloc (.cells #[] 50)) := (Below.refl _ _).alloc (by omega) _
  have hO0 := own_low (own_nil11 W0 (plF D.col l)) (show w.heap.size + 1 ≤ W0.heap.size by omega)
  rw [hsz0] at hO0
  have HBX : Hid (∀ wr, Below (w.heap.size + 1) W0 wr → (wr.cell? ⟨w.heap.size, 0, none⟩ = some (.string D.name) ∧ wr.cell? ⟨w.heap.size, 1, none⟩ = some (.slice ac D.nc cc) ∧ wr.cell? ⟨w.heap.size, 2, none⟩ = some (.slice aq D.np cq) ∧ wr.cell? ⟨w.heap.size, 3, none⟩ = some (.slice ai D.ni ci)) ∧ Below w.heap.size w wr ∧ w.heap.size + 1 ≤ wr.heap.size) := by
    rw [← hW0.out]
    exact fun wr hb => ⟨box4 hb, box4_below hb⟩
  clear hB0
  go_enter Tryz.func149, Tryz.ntmps149
  go_wp2_with (rw [hW0.out])
  go_loopg [5, 6] n (fun q s i wr => ∃ k : Nat, k ≤ n ∧ q = n - k ∧ i = .int .i64 k ∧ ∃ g c, s = .slice (some ⟨g, 0, none⟩) k c ∧ wr.ownsRow (w.heap.size + 1) 50 4 (.slice (some ⟨g, 0, none⟩) k c) k (rowG (encQ (plF D.col l)) k) ∧ Below (w.heap.size + 1) W0 wr)
  case atStart => exact ⟨0, Nat.zero_le _, rfl, rfl, _, _, rfl, hO0, hbE⟩
  case round =>
    clear hO0 hbE
    obtain ⟨k, hk, rfl, rfl, sa, sc, rfl, hO, hB⟩ := hrel
    obtain ⟨⟨x0, x1, x2, x3⟩, hBw, hs⟩ := HBX.out _ hB
    by_cases hlt : k < n
    · have hkz : (k : Int) < (n : Int) := by omega
      obtain ⟨b1, o1, rfl, hb1, hc1⟩ := (hP.below hBw).cells (by omega)
      obtain ⟨y0, y1⟩ := hc1 k hlt
      obtain ⟨j, hj⟩ : ∃ j : Nat, Hid ((l k).col = j) := ⟨((l k).col).toNat, by show _ = _; have := (hin k hlt).1; omega⟩
      have hjn : j < D.nc := by have := (hin k hlt).2; rw [hj.out] at this; omega
      have HN : Hid (rowG (encQ (plF D.col l)) (k + 1) = rowG (encQ (plF D.col l)) k ++ [.int .i64 j, .int .i64 (D.col j).type, .bool (D.col j).null, .bool (l k).desc]) := by
        show _ = _
        rw [rowG]
        simp [encQ, plF, ptOf, hj.out]
      rw [hj.out] at y0
      obtain ⟨d, hd⟩ : ∃ x, Hid ((l k).desc = x) := ⟨_, rfl⟩
      have hL := fun (W : World) (hb : Below w.heap.size w W) => l11Part_any _ D j d W (hv.below hb) hjn
      obtain ⟨t, ht⟩ : ∃ x, Hid ((D.col j).type = x) := ⟨_, rfl⟩
      obtain ⟨u, hu⟩ : ∃ x, Hid ((D.col j).null = x) := ⟨_, rfl⟩
      obtain ⟨R, hR⟩ : ∃ x, Hid (rowG (encQ (plF D.col l)) k = x) := ⟨_, rfl⟩
      rw [hd.out] at y1 HN
      rw [ht.out] at HN
      rw [hu.out] at HN
      simp only [ht.out, hu.out] at hL
      rw [hR.out] at HN hO
      have HOW := own_ge9 hO
      have HWK : Hid (∀ W, Below (w.heap.size + 1) W0 W → (W.cell? ⟨w.heap.size, 0, none⟩ = some (.string D.name) ∧ W.cell? ⟨w.heap.size, 1, none⟩ = some (.slice ac D.nc cc) ∧ W.cell? ⟨w.heap.size, 2, none⟩ = some (.slice aq D.np cq) ∧ W.cell? ⟨w.heap.size, 3, none⟩ = some (.slice ai D.ni ci)) ∧ W.cell? ⟨b1, o1 + k * 2, none⟩ = some (.int .i64 j) ∧ W.cell? ⟨b1, o1 + k * 2 + 1, none⟩ = some (.bool d)) := by
        intro W hb
        have hbw := (HBX.out _ hb).2.1
        obtain ⟨b1', o1', e1, hlt1, hcc⟩ := hP.cells (by omega)
        cases e1
        obtain ⟨q0, q1⟩ := hcc k hlt
        refine ⟨(HBX.out _ hb).1, ?_, ?_⟩
        · rw [hbw.cell (by exact hlt1), q0, hj.out]
        · rw [hbw.cell (by exact hlt1), q1, hd.out]
      have hS := hB
      clear hP hin hc1 hv hB hBw
      go_wp2_with fail
      refine wp_region_held_drew (S := fun WW => Below (w.heap.size + 1) W0 WW) (by kernel_rfl) hS.drew (fun hHeld => ?_)
      replace hO := own_belowG hO (show Below wr.heap.size wr wr.drew from (Below.refl _ _).drew)
      replace hS := hS.drew
      obtain ⟨wd, hwd⟩ : ∃ wd, Hid (wd = wr.drew) := ⟨_, rfl⟩
      rw [← hwd.out] at hO hS ⊢
      refine' wpAnyH_take (i := 0) (v := _) rfl (by kernel_rfl) (by kernel_rfl) (by kernel_rfl) (fun _ _ _ h => h) (Or.inl ⟨by kernel_rfl, ?hlp1⟩) (by assumption) ?rlp1
      case hlp1 => intro W hW; obtain ⟨⟨c0, c1, c2, c3⟩, c4, c5⟩ := HWK.out _ hW; go_simp; all_goals with_reducible rfl
      change wpAnyH _ _ _ _ _ _ _ (Act.put _ (some 14) _) _
      simp only [Act.put, List.setIfInBounds_toArray, List.set_cons_zero, List.set_cons_succ]
      refine' wpAnyH_take (i := 1) (v := _) rfl (by kernel_rfl) (by kernel_rfl) (by kernel_rfl) (fun _ _ _ h => h) (Or.inl ⟨by kernel_rfl, ?hlp2⟩) (by assumption) ?rlp2
      case hlp2 => intro W hW; obtain ⟨⟨c0, c1, c2, c3⟩, c4, c5⟩ := HWK.out _ hW; go_simp; all_goals with_reducible rfl
      change wpAnyH _ _ _ _ _ _ _ (Act.put _ (some 15) _) _
      simp only [Act.put, List.setIfInBounds_toArray, List.set_cons_zero, List.set_cons_succ]
      refine' wpAnyH_take (i := 2) (v := _) rfl (by kernel_rfl) (by kernel_rfl) (by kernel_rfl) (fun _ _ _ h => h) (Or.inl ⟨by kernel_rfl, ?hlp3⟩) (by assumption) ?rlp3
      case hlp3 => intro W hW; obtain ⟨⟨c0, c1, c2, c3⟩, c4, c5⟩ := HWK.out _ hW; go_simp; all_goals with_reducible rfl
      change wpAnyH _ _ _ _ _ _ _ (Act.put _ (some 16) _) _
      simp only [Act.put, List.setIfInBounds_toArray, List.set_cons_zero, List.set_cons_succ]
      refine' wpAnyH_take (i := 3) (v := _) rfl (by kernel_rfl) (by kernel_rfl) (by kernel_rfl) (fun _ _ _ h => h) (Or.inl ⟨by kernel_rfl, ?hlp4⟩) (by assumption) ?rlp4
      case hlp4 => intro W hW; obtain ⟨⟨c0, c1, c2, c3⟩, c4, c5⟩ := HWK.out _ hW; go_simp; all_goals with_reducible rfl
      change wpAnyH _ _ _ _ _ _ _ (Act.put _ (some 17) _) _
      simp only [Act.put, List.setIfInBounds_toArray, List.set_cons_zero, List.set_cons_succ]
      refine' wpAnyH_take (i := 4) (v := _) rfl (by kernel_rfl) (by kernel_rfl) (by kernel_rfl) (fun _ _ _ h => h) (Or.inl ⟨by kernel_rfl, ?hlp5⟩) (by assumption) ?rlp5
      case hlp5 => intro W hW; obtain ⟨⟨c0, c1, c2, c3⟩, c4, c5⟩ := HWK.out _ hW; go_simp; all_goals with_reducible rfl
      change wpAnyH _ _ _ _ _ _ _ (Act.put _ (some 18) _) _
      simp only [Act.put, List.setIfInBounds_toArray, List.set_cons_zero, List.set_cons_succ]
      refine' wpAnyH_take (i := 5) (v := _) rfl (by kernel_rfl) (by kernel_rfl) (by kernel_rfl) (fun _ _ _ h => h) (Or.inl ⟨by kernel_rfl, ?hlp6⟩) (by assumption) ?rlp6
      case hlp6 => intro W hW; obtain ⟨⟨c0, c1, c2, c3⟩, c4, c5⟩ := HWK.out _ hW; go_simp; all_goals with_reducible rfl
      change wpAnyH _ _ _ _ _ _ _ (Act.put _ (some 19) _) _
      simp only [Act.put, List.setIfInBounds_toArray, List.set_cons_zero, List.set_cons_succ]
      refine' wpAnyH_take (i := 6) (v := _) rfl (by kernel_rfl) (by kernel_rfl) (by kernel_rfl) (fun _ _ _ h => h) (Or.inl ⟨by kernel_rfl, ?hlp7⟩) (by assumption) ?rlp7
      case hlp7 => intro W hW; obtain ⟨⟨c0, c1, c2, c3⟩, c4, c5⟩ := HWK.out _ hW; go_simp; all_goals with_reducible rfl
      change wpAnyH _ _ _ _ _ _ _ (Act.put _ (some 20) _) _
      simp only [Act.put, List.setIfInBounds_toArray, List.set_cons_zero, List.set_cons_succ]
      refine' wpAnyH_take (i := 7) (v := _) rfl (by kernel_rfl) (by kernel_rfl) (by kernel_rfl) (fun _ _ _ h => h) (Or.inl ⟨by kernel_rfl, ?hlp8⟩) (by assumption) ?rlp8
      case hlp8 => intro W hW; obtain ⟨⟨c0, c1, c2, c3⟩, c4, c5⟩ := HWK.out _ hW; go_simp; all_goals with_reducible rfl
      change wpAnyH _ _ _ _ _ _ _ (Act.put _ (some 21) _) _
      simp only [Act.put, List.setIfInBounds_toArray, List.set_cons_zero, List.set_cons_succ]
      refine' wpAnyH_take (i := 8) (v := _) rfl (by kernel_rfl) (by kernel_rfl) (by kernel_rfl) (fun _ _ _ h => h) (Or.inl ⟨by kernel_rfl, ?hlp9⟩) (by assumption) ?rlp9
      case hlp9 => intro W hW; obtain ⟨⟨c0, c1, c2, c3⟩, c4, c5⟩ := HWK.out _ hW; go_simp; all_goals with_reducible rfl
      change wpAnyH _ _ _ _ _ _ _ (Act.put _ (some 22) _) _
      simp only [Act.put, List.setIfInBounds_toArray, List.set_cons_zero, List.set_cons_succ]
      refine' wpAnyH_take (i := 9) (v := _) rfl (by kernel_rfl) (by kernel_rfl) (by kernel_rfl) (fun _ _ _ h => h) (Or.inl ⟨by kernel_rfl, ?hlp10⟩) (by assumption) ?rlp10
      case hlp10 => intro W hW; obtain ⟨⟨c0, c1, c2, c3⟩, c4, c5⟩ := HWK.out _ hW; go_simp; all_goals with_reducible rfl
      change wpAnyH _ _ _ _ _ _ _ (Act.put _ (some 23) _) _
      simp only [Act.put, List.setIfInBounds_toArray, List.set_cons_zero, List.set_cons_succ]
      refine' wpAnyH_take (i := 10) (v := _) rfl (by kernel_rfl) (by kernel_rfl) (by kernel_rfl) (fun _ _ _ h => h) (Or.inl ⟨by kernel_rfl, ?hlp11⟩) (by assumption) ?rlp11
      case hlp11 => intro W hW; obtain ⟨⟨c0, c1, c2, c3⟩, c4, c5⟩ := HWK.out _ hW; go_simp; all_goals with_reducible rfl
      change wpAnyH _ _ _ _ _ _ _ (Act.put _ (some 24) _) _
      simp only [Act.put, List.setIfInBounds_toArray, List.set_cons_zero, List.set_cons_succ]
      refine' wpAnyH_take (i := 11) (v := _) rfl (by kernel_rfl) (by kernel_rfl) (by kernel_rfl) (fun _ _ _ h => h) (Or.inl ⟨by kernel_rfl, ?hlp12⟩) (by assumption) ?rlp12
      case hlp12 => intro W hW; obtain ⟨⟨c0, c1, c2, c3⟩, c4, c5⟩ := HWK.out _ hW; go_simp; all_goals with_reducible rfl
      change wpAnyH _ _ _ _ _ _ _ (Act.put _ (some 25) _) _
      simp only [Act.put, List.setIfInBounds_toArray, List.set_cons_zero, List.set_cons_succ]
      refine wpAnyH_ready (rs := [12]) (by kernel_rfl) (by simp) ?_
      refine AllReadyH.cons rfl (fun KK hK => ?_) AllReadyH.nil
      go_simp
      refine (hL _ (HBX.out _ hS).2.1).mono ?_
      rintro e w5 ⟨rfl, hB5⟩
      replace hO := own_belowG hO hB5
      replace hS := hS.trans (hB5.mono (HBX.out _ hS).2.2)
      clear hB5 hL
      go_wp2_with fail
      refine hK.out _ _ hS (fun hHeld => ?_)
      clear hK KK
      try simp only [Act.put, List.setIfInBounds_toArray, List.set_cons_zero, List.set_cons_succ]
      refine wpAnyH_ready (rs := [13]) (by kernel_rfl) (by simp) ?_
      refine AllReadyH.cons rfl (fun KK hK => ?_) AllReadyH.nil
      go_simp
      have hcl := cells_part11 w5 j t u d
      have hbA : Below w5.heap.size w5 (w5.alloc (.cells #[.int .i64 j, .int .i64 t, .bool u, .bool d] 50)) := (Below.refl _ _).alloc (Nat.le_refl _) _
      replace hO := own_belowG hO hbA
      replace hS := hS.trans (hbA.mono (HBX.out _ hS).2.2)
      have hsz := hS.size
      refine hK.out _ _ hS (fun hHeld => ?_)
      clear hK KK
      try simp only [Act.put, List.setIfInBounds_toArray, List.set_cons_zero, List.set_cons_succ]
      refine wpAnyH_ready (rs := [14]) (by kernel_rfl) (by simp) ?_
      refine AllReadyH.cons rfl (fun KK hK => ?_) AllReadyH.nil
      rw [if_pos (by kernel_rfl)]
      refine wp_append_own _ (.tmp 14) (.tmp 27) 30 rfl (w.heap.size + 1) 50 i0 (.agg #[.int .i64 0, .int .i64 0, .bool false, .bool false]) 4 24 Tryz.underlying30 hi hz0 hz1 hz2 rfl (by decide) _ _ _ rfl hO ⟨w5.heap.size, 0, none⟩ 1 1 [.int .i64 j, .int .i64 t, .bool u, .bool d] rfl rfl hcl (one_part11 _ _ _ _) (by unfold maxLen; omega) (by omega) (by omega) ?_
      intro v6 w6 hO6 hgr6 hnil6
      replace hS := hS.grown hgr6 (by omega) (own_ge9 hO)
      obtain ⟨b6, c6, rfl⟩ := own_succ9 hO6
      have hO7 : w6.ownsRow (w.heap.size + 1) 50 4 (.slice (some ⟨b6, 0, none⟩) (k + 1) c6) (k + 1) (rowG (encQ (plF D.col l)) (k + 1)) := by rw [HN.out]; exact hO6
      clear hO hO6 hgr6 hnil6 hcl hbA
      refine hK.out _ _ hS (fun hHeld => ?_)
      clear hK KK
      change wpAnyH _ _ _ _ _ _ _ (Act.put _ (some 28) _) _
      try simp only [Act.put, List.setIfInBounds_toArray, List.set_cons_zero, List.set_cons_succ]
      refine' wpAnyH_take (i := 15) (v := _) rfl (by kernel_rfl) (by kernel_rfl) (by kernel_rfl) (fun _ _ _ h => h) (Or.inl ⟨by kernel_rfl, ?hlp13⟩) (by assumption) ?rlp13
      case hlp13 => intro W hW; obtain ⟨⟨c0, c1, c2, c3⟩, c4, c5⟩ := HWK.out _ hW; go_simp; all_goals with_reducible rfl
      change wpAnyH _ _ _ _ _ _ _ (Act.put _ (some 5) _) _
      simp only [Act.put, List.setIfInBounds_toArray, List.set_cons_zero, List.set_cons_succ]
      refine wpAnyH_done (by kernel_rfl) ?_ _
      have HR : Hid (w6.ownsRow (w.heap.size + 1) 50 4 (.slice (some ⟨b6, 0, none⟩) (k + 1) c6) (k + 1) (rowG (encQ (plF D.col l)) (k + 1)) ∧ Below (w.heap.size + 1) W0 w6) := ⟨hO7, hS⟩
      clear hO7 hS
      go_wp2
      go_roundg (n - (k + 1))
      case measure => omega
      case rel => exact ⟨k + 1, by omega, rfl, by go_num, _, _, rfl, HR.out.1, HR.out.2⟩
    · have hkz : ¬ (k : Int) < (n : Int) := by omega
      obtain rfl : k = n := by omega
      have HR : Hid (PlanTo w k (plF D.col l) (.returned (.slice (some ⟨sa, 0, none⟩) k sc)) wr) := ⟨sa, sc, rfl, own_low hO (Nat.le_succ _), hBw⟩
      clear hP hin hO hB hBw hv HBX
      go_wp2
      go_ret
      exact HR.out
end Go.Proofs.YtkakkjnbhklfpaaGreatDoor

/-
  The model's three plans come to the plain ones.
-/
namespace Go.Proofs.YtkakkjnbhklfpaaGreatDoor
open Go.RowKit
set_option maxRecDepth 4000

set_option maxHeartbeats 4000000 in
theorem specPrimary_any (v : Value) (D : PDef) (w : World) (h : DView w v D) (hf : DFine D) :
    Calls Tryz.prog 115 #[v] w (PlanTo w (priN D) (plF D.col D.pri)) := by
  have hv := h
  obtain ⟨ac, cc, ap, cp, ai, ci, rfl, hc, hp, -⟩ := h.is
  clear h
  have hB0 := box4_start w (.cells #[.string D.name, .slice ac D.nc cc, .slice ap D.np cp, .slice ai D.ni ci] 36)
  obtain ⟨hBw0, -⟩ := box4_below hB0
  have hC := specCheck_any _ D _ (hv.below hBw0) hf
  have HPN : Hid (∀ r, checkF D = r → priN D = if r = 0 then D.np else 0) := fun r e => by rw [← e]; rfl
  have HIN : Hid (checkF D = 0 → ∀ i, i < D.np → 0 ≤ (D.pri i).col ∧ (D.pri i).col < D.nc) := fun e i hi => partsF_in (good_pri e) hi
  have hnc := hf.nc
  have hnp := hf.np
  obtain ⟨r, hr⟩ : ∃ r, Hid (checkF D = r) := ⟨_, rfl⟩
  rw [hr.out] at hC
  clear hf hBw0 hc
  go_enter Tryz.func115, Tryz.ntmps115
  go_wp2_with fail
  refine hC.mono ?_
  rintro e w1 ⟨rfl, hb1⟩
  have hB1 := box4_on hB0 hb1
  obtain ⟨hBw1, hs1⟩ := box4_below hB1
  obtain ⟨x0, x1, x2, x3⟩ := box4 hB1
  clear hC hb1 hB0
  by_cases hz : r = 0
  · subst hz
    have hP := l11Parts_any _ D ap D.np cp D.pri w1 (hv.below hBw1) (hp.below hBw1) hnc hnp (HIN.out hr.out)
    have HBw : Hid (Below w.heap.size w w1) := hBw1
    clear hp hv hB1 hBw1 HIN
    go_wp2_with fail
    refine hP.mono ?_
    rintro e w2 ⟨g, c, rfl, hO, hb2⟩
    have HR : Hid (PlanTo w (priN D) (plF D.col D.pri) (.returned (.slice (some ⟨g, 0, none⟩) D.np c)) w2) := by
      show PlanTo _ _ _ _ _
      rw [HPN.out 0 hr.out, if_pos rfl]
      exact PlanTo.low ⟨g, c, rfl, hO, hb2⟩ HBw.out
    clear hP hO hb2
    go_wp2
    go_ret
    exact HR.out
  · have hq : (r != 0) = true := by simpa using hz
    have HR : Hid (PlanTo w (priN D) (plF D.col D.pri) (.returned (.slice (some ⟨w1.heap.size, 0, none⟩) 0 0)) (w1.alloc (.cells #[] 50))) := by
      show PlanTo _ _ _ _ _
      rw [HPN.out r hr.out, if_neg hz]
      exact (PlanTo.nil w1 _).low hBw1
    clear hp hv hB1 hBw1 HIN
    go_wp2
    go_ret
    exact HR.out

set_option maxHeartbeats 4000000 in
theorem specRowPlan_any (v : Value) (D : PDef) (w : World) (h : DView w v D) (hf : DFine D) :
    Calls Tryz.prog 44 #[v] w (PlanTo w (rowN D) (plF D.col allL)) := by
  obtain ⟨i0, hi, hz0, hz1, hz2⟩ := infoPart11
  have hv := h
  obtain ⟨ac, cc, aq, cq, ai, ci, rfl, -, -, -⟩ := h.is
  clear h
  have hnc := hf.nc
  have HC : Hid (∀ W, Below w.heap.size w W → Calls Tryz.prog 21 #[.agg #[.string D.name, .slice ac D.nc cc, .slice aq D.np cq, .slice ai D.ni ci]] W fun e w' => e = .returned (.int .i64 (checkF D)) ∧ Below W.heap.size W w') := fun W hb => specCheck_any _ D W (hv.below hb) hf
  have HL : Hid (∀ W (k : Nat), Below w.heap.size w W → k < D.nc → Calls Tryz.prog 73 #[.agg #[.string D.name, .slice ac D.nc cc, .slice aq D.np cq, .slice ai D.ni ci], .int .i64 k, .bool false] W fun e w' => e = .returned (.agg #[.int .i64 k, .int .i64 (D.col k).type, .bool (D.col k).null, .bool false]) ∧ Below W.heap.size W w') := fun W k hb hk => l11Part_any _ D k false W (hv.below hb) hk
  have HPN : Hid (∀ r, checkF D = r → rowN D = if r = 0 then D.nc else 0) := fun r e => by rw [← e]; rfl
  obtain ⟨r, hr⟩ : ∃ r, Hid (checkF D = r) := ⟨_, rfl⟩
  rw [hr.out] at HC
  have hB0 := box4_start w (.cells #[.string D.name, .slice ac D.nc cc, .slice aq D.np cq, .slice ai D.ni ci] 36)
  obtain ⟨W0, hW0⟩ : ∃ W0, Hid (w.alloc (.cells #[.string D.name, .slice ac D.nc cc, .slice aq D.np cq, .slice ai D.ni ci] 36) = W0) := ⟨_, rfl⟩
  have hsz0 : W0.heap.size = w.heap.size + 1 := by rw [← hW0.out]; simp
  rw [hW0.out] at hB0
  have hbE : Below (w.heap.size + 1) W0 (W0.alloc (.cells #[] 50)) := (Below.refl _ _).alloc (by omega) _
  have hO0 := own_low (own_nil11 W0 (plF D.col allL)) (show w.heap.size + 1 ≤ W0.heap.size by omega)
  rw [hsz0] at hO0
  have HBX : Hid (∀ wr, Below (w.heap.size + 1) W0 wr → (wr.cell? ⟨w.heap.size, 0, none⟩ = some (.string D.name) ∧ wr.cell? ⟨w.heap.size, 1, none⟩ = some (.slice ac D.nc cc) ∧ wr.cell? ⟨w.heap.size, 2, none⟩ = some (.slice aq D.np cq) ∧ wr.cell? ⟨w.heap.size, 3, none⟩ = some (.slice ai D.ni ci)) ∧ Below w.heap.size w wr ∧ w.heap.size + 1 ≤ wr.heap.size) := by
    rw [← hW0.out]
    exact fun wr hb => ⟨box4 hb, box4_below hb⟩
  clear hB0 hf hv
  go_enter Tryz.func44, Tryz.ntmps44
  go_wp2_with (rw [hW0.out])
  go_loopg [3, 4] D.nc (fun q s i wr => ∃ k : Nat, k ≤ D.nc ∧ q = D.nc - k ∧ i = .int .i64 k ∧ (∃ g c, s = .slice (some ⟨g, 0, none⟩) k c ∧ wr.ownsRow (w.heap.size + 1) 50 4 (.slice (some ⟨g, 0, none⟩) k c) k (rowG (encQ (plF D.col allL)) k)) ∧ Below (w.heap.size + 1) W0 wr ∧ (k = 0 ∨ r = 0))
  case atStart => exact ⟨0, Nat.zero_le _, rfl, rfl, ⟨_, _, rfl, hO0⟩, hbE, .inl rfl⟩
  case round =>
    clear hO0 hbE
    obtain ⟨k, hk, rfl, rfl, ⟨sa, sc, rfl, hO⟩, hB, hkr⟩ := hrel
    obtain ⟨⟨x0, x1, x2, x3⟩, hBw, hs⟩ := HBX.out _ hB
    by_cases hlt : k < D.nc
    · have hkz : (k : Int) < (D.nc : Int) := by omega
      have hC := HC.out wr hBw
      go_wp2_with fail
      refine hC.mono ?_
      rintro e w1 ⟨rfl, hb1⟩
      have hO1 := own_belowG hO hb1
      have hB1 := hB.trans (hb1.mono hs)
      clear hC hb1 hO hB hBw x0 x1 x2 x3
      obtain ⟨⟨x0, x1, x2, x3⟩, hBw, hs1⟩ := HBX.out _ hB1
      by_cases hz : r = 0
      · subst hz
        have hL := HL.out w1 k hBw hlt
        have HN : Hid (rowG (encQ (plF D.col allL)) (k + 1) = rowG (encQ (plF D.col allL)) k ++ [.int .i64 k, .int .i64 (D.col k).type, .bool (D.col k).null, .bool false]) := by
          show _ = _
          rw [rowG]
          simp [encQ, plF, ptOf, allL]
        obtain ⟨t, ht⟩ : ∃ x, Hid ((D.col k).type = x) := ⟨_, rfl⟩
        obtain ⟨u, hu⟩ : ∃ x, Hid ((D.col k).null = x) := ⟨_, rfl⟩
        obtain ⟨R, hR⟩ : ∃ x, Hid (rowG (encQ (plF D.col allL)) k = x) := ⟨_, rfl⟩
        rw [ht.out, hu.out] at HN hL
        rw [hR.out] at HN hO1
        go_wp2_with fail
        refine hL.mono ?_
        rintro e w2 ⟨rfl, hb2⟩
        have hO2 := own_belowG hO1 hb2
        have hB2 := hB1.trans (hb2.mono hs1)
        have hbA : Below w2.heap.size w2 (w2.alloc (.cells #[.int .i64 k, .int .i64 t, .bool u, .bool false] 50)) := (Below.refl _ _).alloc (Nat.le_refl _) _
        have hO3 := own_belowG hO2 hbA
        have hs2 := (HBX.out _ hB2).2.2
        have HB3 : Hid (Below (w.heap.size + 1) W0 (w2.alloc (.cells #[.int .i64 k, .int .i64 t, .bool u, .bool false] 50))) := hB2.trans (hbA.mono hs2)
        have hcl := cells_part11 w2 k t u false
        have HOW := own_ge9 hO2
        clear hL hb2 hO1 hB1 hO2 hB2 hbA hBw x0 x1 x2 x3
        go_wp2_with (at_builtin; refine wpList_append_own _ rfl (.tmp 18) (.tmp 22) 30 rfl (w.heap.size + 1) 50 i0 (.agg #[.int .i64 0, .int .i64 0, .bool false, .bool false]) 4 24 Tryz.underlying30 hi hz0 hz1 hz2 rfl (by decide) _ _ _ rfl hO3 ⟨w2.heap.size, 0, none⟩ 1 1 [.int .i64 k, .int .i64 t, .bool u, .bool false] rfl rfl hcl (one_part11 _ _ _ _) (by unfold maxLen; omega) (by omega) (by simp; omega) ?_)
        intro v5 w4 hown5 hgr hnil
        obtain ⟨g', cap', rfl⟩ := own_succ9 hown5
        have HR : Hid (w4.ownsRow (w.heap.size + 1) 50 4 (.slice (some ⟨g', 0, none⟩) (k + 1) cap') (k + 1) (rowG (encQ (plF D.col allL)) (k + 1)) ∧ Below (w.heap.size + 1) W0 w4) := by
          refine ⟨?_, ?_⟩
          · rw [HN.out]; exact hown5
          · exact HB3.out.grown hgr (by simp; omega) HOW
        clear hown5 hgr hnil hO3 hcl HOW HB3
        go_wp2
        go_roundg (D.nc - (k + 1))
        case measure => omega
        case rel => exact ⟨k + 1, by omega, rfl, by go_num, ⟨_, _, rfl, HR.out.1⟩, HR.out.2, by simp⟩
      · have hq : (r == 0) = false := by simpa using hz
        obtain rfl : k = 0 := by rcases hkr with h | h; exact h; exact absurd h hz
        have HR : Hid (PlanTo w (rowN D) (plF D.col allL) (.returned (.slice (some ⟨sa, 0, none⟩) 0 sc)) w1) := by
          show PlanTo _ _ _ _ _
          rw [HPN.out r hr.out, if_neg hz]
          exact ⟨sa, sc, rfl, own_low hO1 (Nat.le_succ _), hBw⟩
        clear hO1 hB1 hBw HBX
        go_wp2
        go_ret
        exact HR.out
    · have hkz : ¬ (k : Int) < (D.nc : Int) := by omega
      obtain hkn : k = D.nc := by omega
      have HR : Hid (PlanTo w (rowN D) (plF D.col allL) (.returned (.slice (some ⟨sa, 0, none⟩) D.nc sc)) wr) := by
        show PlanTo _ _ _ _ _
        rw [← hkn]
        have : rowN D = k := by
          rw [HPN.out r hr.out]
          rcases hkr with h | h
          · by_cases e : r = 0
            · rw [if_pos e, hkn]
            · rw [if_neg e, h]
          · rw [if_pos h, hkn]
        rw [this]
        exact ⟨sa, sc, rfl, own_low hO (Nat.le_succ _), hBw⟩
      clear hO hB hBw HBX
      go_wp2
      go_ret
      exact HR.out

theorem rowQ_len (f : Nat → PPart) (n : Nat) : (rowG (encQ f) n).length = n * 4 := rowG_len (c := 4) (fun _ => rfl) n
theorem rowQ_get {f : Nat → PPart} {n q : Nat} {u : Value} (h : (rowG (encQ f) n)[q]? = some u) : ∃ i j, i < n ∧ j < 4 ∧ q = i * 4 + j ∧ (encQ f i)[j]? = some u := by
  have hq : q < n * 4 := by
    have := (List.getElem?_eq_some_iff.1 h).1
    rwa [rowQ_len] at this
  refine ⟨q / 4, q % 4, by omega, by omega, by omega, ?_⟩
  have h1 := rowG_get (enc := encQ f) (c := 4) (fun _ => rfl) n (q / 4) (q % 4) (by omega) (by omega)
  rw [show q / 4 * 4 + q % 4 = q by omega, h] at h1
  exact h1.symm
theorem rowQ_one {f : Nat → PPart} {n : Nat} : ∀ u ∈ rowG (encQ f) n, u.oneCell' = true := by
  intro u hu
  obtain ⟨q, hq⟩ := List.mem_iff_getElem?.1 hu
  obtain ⟨i, j, hi, hj, -, h⟩ := rowQ_get hq
  have hj' : j = 0 ∨ j = 1 ∨ j = 2 ∨ j = 3 := by omega
  rcases hj' with rfl | rfl | rfl | rfl <;> (simp [encQ] at h; subst h; rfl)
theorem qview_cells11 {W : World} {b o n c : Nat} {f : Nat → PPart} (h : QView W (some ⟨b, o, none⟩) n c f) : ∀ q u, (rowG (encQ f) n)[q]? = some u → W.cell? ((⟨b, o, none⟩ : Addr).add q) = some u := by
  intro q u hq
  obtain ⟨i, j, hi, hj, rfl, hu⟩ := rowQ_get hq
  obtain ⟨b', o', e, _, hc⟩ := h.cells (by omega)
  cases e
  obtain ⟨c0, c1, c2, c3⟩ := hc i hi
  have ea : ∀ q, (⟨b, o, none⟩ : Addr).add q = ⟨b, o + q, none⟩ := fun q => by unfold Addr.add; split <;> simp_all
  rw [ea]
  have hj' : j = 0 ∨ j = 1 ∨ j = 2 ∨ j = 3 := by omega
  rcases hj' with rfl | rfl | rfl | rfl
  · simp [encQ] at hu; subst hu; exact c0
  · simp [encQ] at hu; subst hu; rw [show o + (i * 4 + 1) = o + i * 4 + 1 by omega]; exact c1
  · simp [encQ] at hu; subst hu; rw [show o + (i * 4 + 2) = o + i * 4 + 2 by omega]; exact c2
  · simp [encQ] at hu; subst hu; rw [show o + (i * 4 + 3) = o + i * 4 + 3 by omega]; exact c3
theorem rowQ_cat (col : Nat → PCol) (f0 : Nat → PBy) (n0 : Nat) (f1 : Nat → PBy) : ∀ n1, rowG (encQ (plF col f0)) n0 ++ rowG (encQ (plF col f1)) n1 = rowG (encQ (plF col (catB f0 n0 f1))) (n0 + n1)
  | 0 => by
    rw [rowG, List.append_nil]
    exact rowG_congr (fun i hi => by simp [encQ, plF, ptOf, catB, hi])
  | n1 + 1 => by
    rw [rowG, ← List.append_assoc, rowQ_cat col f0 n0 f1 n1]
    show _ = rowG (encQ (plF col (catB f0 n0 f1))) (n0 + n1) ++ encQ (plF col (catB f0 n0 f1)) (n0 + n1)
    simp [encQ, plF, ptOf, catB, show ¬ n0 + n1 < n0 by omega]

set_option maxHeartbeats 4000000 in
theorem specIndex_any (v : Value) (D : PDef) (i : Int) (w : World) (h : DView w v D) (hf : DFine D) :
    Calls Tryz.prog 116 #[v, .int .i64 i] w (PlanTo w (idxN D i) (plF D.col (ixpL D i))) := by
  obtain ⟨i0, hi, hz0, hz1, hz2⟩ := infoPart11
  have hv := h
  obtain ⟨ac, cc, ap, cp, ai, ci, rfl, hc, hp, hx⟩ := h.is
  clear h
  have hB0 := box4_start w (.cells #[.string D.name, .slice ac D.nc cc, .slice ap D.np cp, .slice ai D.ni ci] 36)
  obtain ⟨hBw0, -⟩ := box4_below hB0
  have hC := specCheck_any _ D _ (hv.below hBw0) hf
  have hnc := hf.nc
  have hnp := hf.np
  have hni := hf.ni
  obtain ⟨r, hr⟩ : ∃ r, Hid (checkF D = r) := ⟨_, rfl⟩
  rw [hr.out] at hC
  clear hf hBw0
  go_enter Tryz.func116, Tryz.ntmps116
  go_wp2_with fail
  refine hC.mono ?_
  rintro e w1 ⟨rfl, hb1⟩
  have hB1 := box4_on hB0 hb1
  obtain ⟨hBw1, hs1⟩ := box4_below hB1
  obtain ⟨x0, x1, x2, x3⟩ := box4 hB1
  clear hC hb1 hB0
  have hsub : IntKind.i64.wrap ((D.ni : Int) - 1) = (D.ni : Int) - 1 := wrapI (by omega) (by omega)
  have hIn := fun W => l1In_tok i 0 ((D.ni : Int) - 1) W
  by_cases hyes : r = 0 ∧ 0 ≤ i ∧ i < D.ni
  · obtain ⟨rfl, hi0, hi1⟩ := hyes
    obtain ⟨j, rfl⟩ : ∃ j : Nat, i = j := ⟨i.toNat, by omega⟩
    have hjn : j < D.ni := by omega
    have hd : (decide ((0 : Int) ≤ (j : Int)) && decide ((j : Int) ≤ (D.ni : Int) - 1)) = true := by simp; omega
    simp only [hd] at hIn
    have hG := good_idx hr.out hjn
    have hGp := good_pri hr.out
    obtain ⟨bi, oi, rfl, hbi, hci⟩ := (hx.below hBw1).cells (by omega)
    obtain ⟨-, -, a2, c2, y2, hv2⟩ := hci j hjn
    have h2 := partsF_two hG
    have h2p := partsF_two hGp
    have hp1 := hp.below hBw1
    have HPN : Hid (idxN D j = (D.idx j).n + D.np) := by
      show _ = _
      unfold idxN
      rw [if_pos ⟨hr.out, hi0, hi1⟩]; simp
    have HPL : Hid (ixpL D j = catB (D.idx j).part (D.idx j).n D.pri) := by
      show _ = _
      unfold ixpL; simp
    have hL1 := fun (W : World) (hb : Below w1.heap.size w1 W) => l11Parts_any _ D a2 (D.idx j).n c2 (D.idx j).part W ((hv.below hBw1).below hb) (hv2.below hb) hnc (by omega) (fun i hi => partsF_in hG hi)
    have hL2 := fun (W : World) (hb : Below w1.heap.size w1 W) => l11Parts_any _ D ap D.np cp D.pri W ((hv.below hBw1).below hb) (hp1.below hb) hnc (by omega) (fun i hi => partsF_in hGp hi)
    have HWK : Hid (∀ W, Below w1.heap.size w1 W → (W.cell? ⟨w.heap.size, 0, none⟩ = some (.string D.name) ∧ W.cell? ⟨w.heap.size, 1, none⟩ = some (.slice ac D.nc cc) ∧ W.cell? ⟨w.heap.size, 2, none⟩ = some (.slice ap D.np cp) ∧ W.cell? ⟨w.heap.size, 3, none⟩ = some (.slice (some ⟨bi, oi, none⟩) D.ni ci)) ∧ W.cell? ⟨bi, oi + j * 3 + 2, none⟩ = some (.slice a2 (D.idx j).n c2)) := by
      intro W hb
      refine ⟨⟨?_, ?_, ?_, ?_⟩, ?_⟩
      · rw [hb.cell (by exact hs1)]; assumption
      · rw [hb.cell (by exact hs1)]; assumption
      · rw [hb.cell (by exact hs1)]; assumption
      · rw [hb.cell (by exact hs1)]; assumption
      · rw [hb.cell (by exact hbi)]; assumption
    have hjn' : (j : Int) < (D.ni : Int) := by omega
    have HBw : Hid (Below w.heap.size w w1) := hBw1
    obtain ⟨N2, hN2⟩ : ∃ x, Hid ((D.idx j).n = x) := ⟨_, rfl⟩
    simp only [hN2.out] at hL1 y2 HWK HPN HPL h2
    clear hc hp hp1 hx hB1 hBw1 hG hGp hv2 hci hv hd
    go_wp2_with fail
    refine (hIn _).mono ?_
    rintro e _ ⟨rfl, rfl⟩
    clear hIn
    go_wp2_with fail
    have hS : Below w1.heap.size w1 w1 := Below.refl _ _
    refine wp_region_held_drew (S := fun WW => Below w1.heap.size w1 WW) (by kernel_rfl) hS.drew (fun hHeld => ?_)
    replace hS := hS.drew
    obtain ⟨wd, hwd⟩ : ∃ wd, Hid (wd = w1.drew) := ⟨_, rfl⟩
    rw [← hwd.out] at hS ⊢
    refine' wpAnyH_take (i := 0) (v := _) rfl (by kernel_rfl) (by kernel_rfl) (by kernel_rfl) (fun _ _ _ h => h) (Or.inl ⟨by kernel_rfl, ?hsx1⟩) (by assumption) ?rsx1
    case hsx1 => intro W hW; obtain ⟨⟨q0, q1, q2, q3⟩, q4⟩ := HWK.out _ hW; go_simp; all_goals with_reducible rfl
    change wpAnyH _ _ _ _ _ _ _ (Act.put _ (some 18) _) _
    simp only [Act.put, List.setIfInBounds_toArray, List.set_cons_zero, List.set_cons_succ]
    refine' wpAnyH_take (i := 1) (v := _) rfl (by kernel_rfl) (by kernel_rfl) (by kernel_rfl) (fun _ _ _ h => h) (Or.inl ⟨by kernel_rfl, ?hsx2⟩) (by assumption) ?rsx2
    case hsx2 => intro W hW; obtain ⟨⟨q0, q1, q2, q3⟩, q4⟩ := HWK.out _ hW; go_simp; all_goals with_reducible rfl
    change wpAnyH _ _ _ _ _ _ _ (Act.put _ (some 19) _) _
    simp only [Act.put, List.setIfInBounds_toArray, List.set_cons_zero, List.set_cons_succ]
    refine' wpAnyH_take (i := 2) (v := _) rfl (by kernel_rfl) (by kernel_rfl) (by kernel_rfl) (fun _ _ _ h => h) (Or.inl ⟨by kernel_rfl, ?hsx3⟩) (by assumption) ?rsx3
    case hsx3 => intro W hW; obtain ⟨⟨q0, q1, q2, q3⟩, q4⟩ := HWK.out _ hW; go_simp; all_goals with_reducible rfl
    change wpAnyH _ _ _ _ _ _ _ (Act.put _ (some 20) _) _
    simp only [Act.put, List.setIfInBounds_toArray, List.set_cons_zero, List.set_cons_succ]
    refine' wpAnyH_take (i := 3) (v := _) rfl (by kernel_rfl) (by kernel_rfl) (by kernel_rfl) (fun _ _ _ h => h) (Or.inl ⟨by kernel_rfl, ?hsx4⟩) (by assumption) ?rsx4
    case hsx4 => intro W hW; obtain ⟨⟨q0, q1, q2, q3⟩, q4⟩ := HWK.out _ hW; go_simp; all_goals with_reducible rfl
    change wpAnyH _ _ _ _ _ _ _ (Act.put _ (some 21) _) _
    simp only [Act.put, List.setIfInBounds_toArray, List.set_cons_zero, List.set_cons_succ]
    refine' wpAnyH_take (i := 4) (v := _) rfl (by kernel_rfl) (by kernel_rfl) (by kernel_rfl) (fun _ _ _ h => h) (Or.inl ⟨by kernel_rfl, ?hsx5⟩) (by assumption) ?rsx5
    case hsx5 => intro W hW; obtain ⟨⟨q0, q1, q2, q3⟩, q4⟩ := HWK.out _ hW; go_simp; all_goals with_reducible rfl
    change wpAnyH _ _ _ _ _ _ _ (Act.put _ (some 22) _) _
    simp only [Act.put, List.setIfInBounds_toArray, List.set_cons_zero, List.set_cons_succ]
    refine' wpAnyH_take (i := 5) (v := _) rfl (by kernel_rfl) (by kernel_rfl) (by kernel_rfl) (fun _ _ _ h => h) (Or.inl ⟨by kernel_rfl, ?hsx6⟩) (by assumption) ?rsx6
    case hsx6 => intro W hW; obtain ⟨⟨q0, q1, q2, q3⟩, q4⟩ := HWK.out _ hW; go_simp; all_goals with_reducible rfl
    change wpAnyH _ _ _ _ _ _ _ (Act.put _ (some 23) _) _
    simp only [Act.put, List.setIfInBounds_toArray, List.set_cons_zero, List.set_cons_succ]
    refine' wpAnyH_take (i := 6) (v := _) rfl (by kernel_rfl) (by kernel_rfl) (by kernel_rfl) (fun _ _ _ h => h) (Or.inl ⟨by kernel_rfl, ?hsx7⟩) (by assumption) ?rsx7
    case hsx7 => intro W hW; obtain ⟨⟨q0, q1, q2, q3⟩, q4⟩ := HWK.out _ hW; go_simp; all_goals with_reducible rfl
    change wpAnyH _ _ _ _ _ _ _ (Act.put _ (some 24) _) _
    simp only [Act.put, List.setIfInBounds_toArray, List.set_cons_zero, List.set_cons_succ]
    refine' wpAnyH_take (i := 8) (v := _) rfl (by kernel_rfl) (by kernel_rfl) (by kernel_rfl) (fun _ _ _ h => h) (Or.inl ⟨by kernel_rfl, ?hsx8⟩) (by assumption) ?rsx8
    case hsx8 => intro W hW; obtain ⟨⟨q0, q1, q2, q3⟩, q4⟩ := HWK.out _ hW; go_simp; all_goals with_reducible rfl
    change wpAnyH _ _ _ _ _ _ _ (Act.put _ (some 26) _) _
    simp only [Act.put, List.setIfInBounds_toArray, List.set_cons_zero, List.set_cons_succ]
    refine' wpAnyH_take (i := 9) (v := _) rfl (by kernel_rfl) (by kernel_rfl) (by kernel_rfl) (fun _ _ _ h => h) (Or.inl ⟨by kernel_rfl, ?hsx9⟩) (by assumption) ?rsx9
    case hsx9 => intro W hW; obtain ⟨⟨q0, q1, q2, q3⟩, q4⟩ := HWK.out _ hW; go_simp; all_goals with_reducible rfl
    change wpAnyH _ _ _ _ _ _ _ (Act.put _ (some 27) _) _
    simp only [Act.put, List.setIfInBounds_toArray, List.set_cons_zero, List.set_cons_succ]
    refine' wpAnyH_take (i := 10) (v := _) rfl (by kernel_rfl) (by kernel_rfl) (by kernel_rfl) (fun _ _ _ h => h) (Or.inl ⟨by kernel_rfl, ?hsx10⟩) (by assumption) ?rsx10
    case hsx10 => intro W hW; obtain ⟨⟨q0, q1, q2, q3⟩, q4⟩ := HWK.out _ hW; go_simp; all_goals with_reducible rfl
    change wpAnyH _ _ _ _ _ _ _ (Act.put _ (some 28) _) _
    simp only [Act.put, List.setIfInBounds_toArray, List.set_cons_zero, List.set_cons_succ]
    refine wpAnyH_ready (rs := [7]) (by kernel_rfl) (by simp) ?_
    refine AllReadyH.cons rfl (fun KK hK => ?_) AllReadyH.nil
    go_simp
    refine (hL1 _ hS).mono ?_
    rintro e w5 ⟨g5, k5, rfl, hO5, hB5⟩
    replace hO5 := own_low hO5 hS.size
    replace hS := hS.trans (hB5.mono hS.size)
    clear hB5
    go_wp2_with fail
    refine hK.out _ _ hS (fun hHeld => ?_)
    clear hK KK
    try simp only [Act.put, List.setIfInBounds_toArray, List.set_cons_zero, List.set_cons_succ]
    refine wpAnyH_ready (rs := [11]) (by kernel_rfl) (by simp) ?_
    refine AllReadyH.cons rfl (fun KK hK => ?_) AllReadyH.nil
    go_simp
    refine (hL2 _ hS).mono ?_
    rintro e w6 ⟨g6, k6, rfl, hO6, hB6⟩
    replace hO5 := own_belowG hO5 hB6
    replace hO6 := own_low hO6 hS.size
    replace hS := hS.trans (hB6.mono hS.size)
    clear hB6
    go_wp2_with fail
    refine hK.out _ _ hS (fun hHeld => ?_)
    clear hK KK
    try simp only [Act.put, List.setIfInBounds_toArray, List.set_cons_zero, List.set_cons_succ]
    refine wpAnyH_ready (rs := [12]) (by kernel_rfl) (by simp) ?_
    refine AllReadyH.cons rfl (fun KK hK => ?_) AllReadyH.nil
    rw [if_pos (by kernel_rfl)]
    have hq6 := qview_of_own hO6
    have hsz := hS.size
    refine wp_append_own _ (.tmp 25) (.tmp 29) 30 rfl w1.heap.size 50 i0 (.agg #[.int .i64 0, .int .i64 0, .bool false, .bool false]) 4 24 Tryz.underlying30 hi hz0 hz1 hz2 rfl (by decide) _ _ _ rfl hO5 ⟨g6, 0, none⟩ D.np k6 (rowG (encQ (plF D.col D.pri)) D.np) rfl (by rw [rowQ_len]) (qview_cells11 hq6) rowQ_one (by unfold maxLen; omega) (by omega) (by omega) ?_
    intro v7 w7 hO7 hgr7 hnil7
    obtain ⟨⟨g7, k7, rfl⟩, hS7⟩ := grown11 hS hO5 hO7 hgr7 (fun e => by have h9 := (hnil7.1 e).1; simp [go_sem] at h9)
    have HR : Hid (PlanTo w (idxN D j) (plF D.col (ixpL D j)) (.returned (.slice (some ⟨g7, 0, none⟩) (N2 + D.np) k7)) w7) := by
      show PlanTo _ _ _ _ _
      rw [HPN.out, HPL.out]
      exact PlanTo.low ⟨g7, k7, rfl, by rw [← rowQ_cat]; exact hO7, hS7⟩ HBw.out
    clear hO5 hO6 hO7 hgr7 hnil7 hq6
    refine hK.out _ _ hS7 (fun hHeld => ?_)
    clear hK KK hS
    change wpAnyH _ _ _ _ _ _ _ (Act.put _ (some 30) _) _
    try simp only [Act.put, List.setIfInBounds_toArray, List.set_cons_zero, List.set_cons_succ]
    refine' wpAnyH_take (i := 13) (v := _) rfl (by kernel_rfl) (by kernel_rfl) (by kernel_rfl) (fun _ _ _ h => h) (Or.inl ⟨by kernel_rfl, ?hsx11⟩) (by assumption) ?rsx11
    case hsx11 => intro W hW; obtain ⟨⟨q0, q1, q2, q3⟩, q4⟩ := HWK.out _ hW; go_simp; all_goals with_reducible rfl
    change wpAnyH _ _ _ _ _ _ _ (Act.put _ (some 4) _) _
    simp only [Act.put, List.setIfInBounds_toArray, List.set_cons_zero, List.set_cons_succ]
    refine wpAnyH_done (by kernel_rfl) ?_ _
    clear hS7
    go_wp2
    go_ret
    exact HR.out
  · have HR : Hid (PlanTo w (idxN D i) (plF D.col (ixpL D i)) (.returned (.slice (some ⟨w1.heap.size, 0, none⟩) 0 0)) (w1.alloc (.cells #[] 50))) := by
      show PlanTo _ _ _ _ _
      have : idxN D i = 0 := by
        unfold idxN
        rw [if_neg (by rw [hr.out]; exact hyes)]
      rw [this]
      exact (PlanTo.nil w1 _).low hBw1
    clear hc hp hx hB1 hBw1 hv
    by_cases hz : r = 0
    · subst hz
      have hd : (decide (0 ≤ i) && decide (i ≤ (D.ni : Int) - 1)) = false := by
        rw [Bool.eq_false_iff]; intro h; simp at h; exact hyes ⟨rfl, by omega, by omega⟩
      simp only [hd] at hIn
      go_wp2_with fail
      refine (hIn _).mono ?_
      rintro e _ ⟨rfl, rfl⟩
      clear hIn
      go_wp2
      go_ret
      exact HR.out
    · have hq : (r != 0) = true := by simpa using hz
      go_wp2
      go_ret
      exact HR.out
end Go.Proofs.YtkakkjnbhklfpaaGreatDoor

