/-
  Together: KeyPlanImpl, IterKit, ByPart, IterOwn, PartBox
-/
import Derived.Test.YtkakkjnbhklfpaaGreatDoorPackR8
import Derived.Test.YtkakkjnbhklfpaaGreatDoorPackR6
import Derived.Test.YtkakkjnbhklfpaaGreatDoorPackR1
import Derived.RangeFuncNested
import Derived.RangeFuncBound
import Derived.RangeFuncCalls
import Derived.RangeFuncLeaves
import Derived.OwnWalkIn
import Derived.TacticsInMore
import Derived.LoopNIn
import Derived.LoopIn
import Derived.Shelf.RegionOpen
import Derived.Test.YtkakkjnbhklfpaaGreatDoorPackR4
/-
  The program's keyPlanOf comes to the plain plan.
-/
namespace Go.Proofs.YtkakkjnbhklfpaaGreatDoor
open Go.RowKit
set_option maxRecDepth 4000

theorem ChkI.below {w w' : World} (h : ChkI w) (hb : Below w.heap.size w w') : ChkI w' := fun W v D hb2 hD hf => h W v D (hb.trans (hb2.mono hb.size)) hD hf

set_option maxHeartbeats 4000000 in
theorem keyPlanOf_any (a : Option Addr) (n cap : Nat) (f : Nat → PDef) (t i : Int) (w : World) (h : LView w a n cap f) (hf : LFine n f) (hI : ChkI w) :
    Calls Tryz.prog 34 #[.slice a n cap, .int .i64 t, .int .i64 i] w fun e w' => Below w.heap.size w w' ∧ ((There f n t i ∧ ∃ g c, e = .returned (.tuple #[.agg #[.slice (some ⟨g, 0, none⟩) (planN (f t.toNat) i) c, .int .u8 (t + 1), .int .u8 (i + 1)], .bool true]) ∧ w'.ownsRow w.heap.size 50 4 (.slice (some ⟨g, 0, none⟩) (planN (f t.toNat) i) c) (planN (f t.toNat) i) (rowG (encQ (plF (f t.toNat).col (planL (f t.toNat) i))) (planN (f t.toNat) i))) ∨ (¬ There f n t i ∧ e = .returned (.tuple #[.agg #[.slice none 0 0, .int .u8 0, .int .u8 0], .bool false]))) := by
  have hb0 : Below w.heap.size w (w.alloc (.cells #[.slice none 0 0, .int .u8 0, .int .u8 0] 71)) := (Below.refl _ _).alloc (Nat.le_refl _) _
  have V0 := V3.new w 71 (.slice none 0 0) (.int .u8 0) (.int .u8 0)
  have hF := implFirst_any a n cap f _ (h.below hb0) hf (hI.below hb0)
  obtain ⟨W0, hW0⟩ : ∃ W, Hid (w.alloc (.cells #[.slice none 0 0, .int .u8 0, .int .u8 0] 71) = W) := ⟨_, rfl⟩
  rw [hW0.out] at hb0 V0 hF
  have hn := hf.few
  obtain ⟨r, hr⟩ : ∃ r, Hid (firstF f n = r) := ⟨_, rfl⟩
  rw [hr.out] at hF
  go_enter Tryz.func34, Tryz.ntmps34
  go_wp2_with (rw [hW0.out])
  refine hF.mono ?_
  rintro e w1 ⟨rfl, hb1⟩
  have V1 := V0.below hb1
  have hB1 : Below w.heap.size w w1 := hb0.trans (hb1.mono hb0.size)
  have HVL : Hid (LView w1 a n cap f) := h.below hB1
  have HL0 : Hid (LView w a n cap f) := h
  have HCI : Hid (ChkI w1) := hI.below hB1
  have HFF : Hid (LFine n f) := hf
  obtain ⟨z0, z1, z2⟩ := V1.cells
  obtain ⟨f0, f1, f2⟩ := V1.fz
  have HNO : Hid (¬ There f n t i → ∀ W, W = ((w1.setCell ⟨w.heap.size, 0, none⟩ (.slice none 0 0)).setCell ⟨w.heap.size, 1, none⟩ (.int .u8 0)).setCell ⟨w.heap.size, 2, none⟩ (.int .u8 0) → Below w.heap.size w W ∧ W.cell? ⟨w.heap.size, 0, none⟩ = some (.slice none 0 0) ∧ W.cell? ⟨w.heap.size, 1, none⟩ = some (.int .u8 0) ∧ W.cell? ⟨w.heap.size, 2, none⟩ = some (.int .u8 0)) := by
    rintro - W rfl
    exact ⟨((hB1.setCell (p := ⟨w.heap.size, 0, none⟩) (Nat.le_refl _) _).setCell (p := ⟨w.heap.size, 1, none⟩) (Nat.le_refl _) _).setCell (p := ⟨w.heap.size, 2, none⟩) (Nat.le_refl _) _, (((V1.set0 _).set1 _).set2 _).cells⟩
  have HV1 : Hid (V3 w1 w.heap.size 71 (.slice none 0 0) (.int .u8 0) (.int .u8 0) ∧ Below w.heap.size w w1) := ⟨V1, hB1⟩
  clear hF hb1 V0 V1 hB1 hb0 h hf hI
  by_cases hT : There f n t i
  · obtain ⟨hT1, hT2, hT3, hT4, hT5⟩ := hT
    obtain rfl : r = -1 := hr.out.symm.trans hT1
    obtain ⟨j, rfl⟩ : ∃ j : Nat, t = j := ⟨t.toNat, by omega⟩
    simp only [Int.toNat_natCast] at hT5 HNO ⊢
    obtain ⟨hn3, hck, -⟩ := firstF_none hr.out
    have hjn : j < n := by omega
    have hck := hck j hjn
    have hni : (f j).ni ≤ 2 := (checkF_good hck).2.2.2.1
    have hwt : IntKind.u8.wrap ((j : Int) + 1) = (j : Int) + 1 := by rw [u8_wrap]; omega
    obtain ⟨q, hq⟩ : ∃ q, Hid (i + 1 = q) := ⟨_, rfl⟩
    have hwi : IntKind.u8.wrap (i + 1) = q := by rw [u8_wrap, ← hq.out]; omega
    obtain ⟨b1, o1, rfl, hb1, hc1⟩ := HVL.out.cells (by omega)
    obtain ⟨y1, y2, y3, x0, x1, x2, x3, hv⟩ := hc1 j hjn
    obtain ⟨ac, cc, ap, cp, ai, ci, -, rfl, rfl, rfl, -, -, -⟩ := hv.parts
    have HDV : Hid (DView w1 (.agg #[.string (f j).name, .slice ac (f j).nc cc, .slice ap (f j).np cp, .slice ai (f j).ni ci]) (f j)) := hv
    have HDF : Hid (DFine (f j)) := HFF.out.at_ j hjn
    obtain ⟨p0, hp0⟩ : ∃ x, Hid ((f j).name = x) := ⟨_, rfl⟩
    obtain ⟨n1, hn1⟩ : ∃ x, Hid ((f j).nc = x) := ⟨_, rfl⟩
    obtain ⟨n2, hn2⟩ : ∃ x, Hid ((f j).np = x) := ⟨_, rfl⟩
    obtain ⟨n3, hn3'⟩ : ∃ x, Hid ((f j).ni = x) := ⟨_, rfl⟩
    simp only [hp0.out, hn1.out, hn2.out, hn3'.out] at x0 x1 x2 x3 HDV hT5 hni
    have g1 : ¬ (j : Int) < 0 := by omega
    have g2 : ¬ (j : Int) ≥ (n : Int) := by omega
    have g2' : (j : Int) < (n : Int) := by omega
    have g3 : ¬ i < -1 := by omega
    have g4 : ¬ i ≥ (n3 : Int) := by omega
    have hb2 : Below w1.heap.size w1 (w1.alloc (.cells #[.int .u8 ((j : Int) + 1), .int .u8 q] 69)) := (Below.refl _ _).alloc (Nat.le_refl _) _
    have c0 : (w1.alloc (.cells #[.int .u8 ((j : Int) + 1), .int .u8 q] 69)).cell? ⟨w1.heap.size, 0, none⟩ = some (.int .u8 ((j : Int) + 1)) := by simp [go_sem]
    have c1 : (w1.alloc (.cells #[.int .u8 ((j : Int) + 1), .int .u8 q] 69)).cell? ⟨w1.heap.size, 1, none⟩ = some (.int .u8 q) := by simp [go_sem]
    have hs2 : w1.heap.size < (w1.alloc (.cells #[.int .u8 ((j : Int) + 1), .int .u8 q] 69)).heap.size := by simp
    obtain ⟨w2, hw2⟩ : ∃ W, Hid (w1.alloc (.cells #[.int .u8 ((j : Int) + 1), .int .u8 q] 69) = W) := ⟨_, rfl⟩
    rw [hw2.out] at hb2 c0 c1 hs2
    have hB1' := HV1.out.2
    have hb10 : b1 < w.heap.size := by obtain ⟨b', o', e', hlt, -⟩ := HL0.out.cells (by omega); cases e'; exact hlt
    have hV2 := HV1.out.1.below hb2
    have hB2 := HV1.out.2.trans (hb2.mono HV1.out.2.size)
    obtain ⟨q0, q1, q2⟩ := hV2.cells
    obtain ⟨k0, k1, k2⟩ := hV2.fz
    have HKP : Hid (∀ (N : Nat) (l : Nat → PBy), planN (f j) i = N → planL (f j) i = l → ∀ (g c : Nat) (w5 : World), w5.ownsRow w2.heap.size 50 4 (.slice (some ⟨g, 0, none⟩) N c) N (rowG (encQ (plF (f j).col l)) N) → Below w2.heap.size w2 w5 → ∀ W, W = ((w5.setCell ⟨w.heap.size, 0, none⟩ (.slice (some ⟨g, 0, none⟩) N c)).setCell ⟨w.heap.size, 1, none⟩ (.int .u8 ((j : Int) + 1))).setCell ⟨w.heap.size, 2, none⟩ (.int .u8 q) → (W.cell? ⟨w.heap.size, 0, none⟩ = some (.slice (some ⟨g, 0, none⟩) N c) ∧ W.cell? ⟨w.heap.size, 1, none⟩ = some (.int .u8 ((j : Int) + 1)) ∧ W.cell? ⟨w.heap.size, 2, none⟩ = some (.int .u8 q)) ∧ (∀ W', Below W.heap.size W W' → Below w.heap.size w W' ∧ W'.ownsRow w.heap.size 50 4 (.slice (some ⟨g, 0, none⟩) (planN (f j) i) c) (planN (f j) i) (rowG (encQ (plF (f j).col (planL (f j) i))) (planN (f j) i)))) := by
      rintro N l rfl rfl g c w5 hO hb W rfl
      have hg := own_ge9 hO g (by simp [Value.ownBlock])
      have hlt : w.heap.size < w2.heap.size := hV2.lt
      refine ⟨((((hV2.below hb).set0 _).set1 _).set2 _).cells, fun W' hb' => ?_⟩
      have hB5 : Below w.heap.size w w5 := hB2.trans (hb.mono hB2.size)
      have hB6 := ((hB5.setCell (p := ⟨w.heap.size, 0, none⟩) (Nat.le_refl _) (.slice (some ⟨g, 0, none⟩) (planN (f j) i) c)).setCell (p := ⟨w.heap.size, 1, none⟩) (Nat.le_refl _) (.int .u8 ((j : Int) + 1))).setCell (p := ⟨w.heap.size, 2, none⟩) (Nat.le_refl _) (.int .u8 q)
      refine ⟨hB6.trans (hb'.mono hB6.size), own_belowG (own_low ?_ hB2.size) hb'⟩
      have hne : g ≠ w.heap.size := by omega
      have key : ∀ (W1 : World) q u, W1.ownsRow w2.heap.size 50 4 (.slice (some ⟨g, 0, none⟩) (planN (f j) i) c) (planN (f j) i) (rowG (encQ (plF (f j).col (planL (f j) i))) (planN (f j) i)) → (W1.setCell ⟨w.heap.size, q, none⟩ u).ownsRow w2.heap.size 50 4 (.slice (some ⟨g, 0, none⟩) (planN (f j) i) c) (planN (f j) i) (rowG (encQ (plF (f j).col (planL (f j) i))) (planN (f j) i)) := by
        intro W1 q u h1
        refine ⟨h1.1, ?_⟩
        rcases h1.2 with ⟨e, h0⟩ | ⟨g', k', cur, e, hb0, hg', hr'⟩
        · cases e
        · cases e
          exact .inr ⟨g, c, cur, rfl, hb0, (Below.heap_setCell _ _ _ _ hne).trans hg', hr'⟩
      exact key _ _ _ (key _ _ _ (key _ _ _ hO))
    have HDV2 : Hid (∀ W, Below w2.heap.size w2 W → DView W (.agg #[.string p0, .slice ac n1 cc, .slice ap n2 cp, .slice ai n3 ci]) (f j) ∧ ChkI W) := fun W hb => ⟨(HDV.out.below hb2).below hb, (HCI.out.below hb2).below hb⟩
    have HWK : Hid (∀ W, (Below w.heap.size w W ∧ W.cell? ⟨w1.heap.size, 0, none⟩ = some (.int .u8 ((j : Int) + 1)) ∧ W.cell? ⟨w1.heap.size, 1, none⟩ = some (.int .u8 q)) → (W.cell? ⟨b1, o1 + j * 4, none⟩ = some (.string p0) ∧ W.cell? ⟨b1, o1 + j * 4 + 1, none⟩ = some (.slice ac n1 cc) ∧ W.cell? ⟨b1, o1 + j * 4 + 2, none⟩ = some (.slice ap n2 cp) ∧ W.cell? ⟨b1, o1 + j * 4 + 3, none⟩ = some (.slice ai n3 ci)) ∧ W.cell? ⟨w1.heap.size, 0, none⟩ = some (.int .u8 ((j : Int) + 1)) ∧ W.cell? ⟨w1.heap.size, 1, none⟩ = some (.int .u8 q)) := by
      rintro W ⟨hb, hh0, hh1⟩
      refine ⟨⟨?_, ?_, ?_, ?_⟩, hh0, hh1⟩
      · rw [hb.cell (by exact hb10), ← hB1'.cell (p := ⟨b1, o1 + j * 4, none⟩) hb10]; exact x0
      · rw [hb.cell (by exact hb10), ← hB1'.cell (p := ⟨b1, o1 + j * 4 + 1, none⟩) hb10]; exact x1
      · rw [hb.cell (by exact hb10), ← hB1'.cell (p := ⟨b1, o1 + j * 4 + 2, none⟩) hb10]; exact x2
      · rw [hb.cell (by exact hb10), ← hB1'.cell (p := ⟨b1, o1 + j * 4 + 3, none⟩) hb10]; exact x3
    have hw1 : w.heap.size < w1.heap.size := HV1.out.1.lt
    have HSS : Hid (∀ W, Below w2.heap.size w2 W → Below w.heap.size w W ∧ W.cell? ⟨w1.heap.size, 0, none⟩ = some (.int .u8 ((j : Int) + 1)) ∧ W.cell? ⟨w1.heap.size, 1, none⟩ = some (.int .u8 q)) := fun W hb => ⟨hB2.trans (hb.mono hB2.size), by rw [hb.cell (by exact hs2)]; exact c0, by rw [hb.cell (by exact hs2)]; exact c1⟩
    have HVV : Hid (∀ W, Below w2.heap.size w2 W → V3 W w.heap.size 71 (.slice none 0 0) (.int .u8 0) (.int .u8 0)) := fun W hb => hV2.below hb
    have HTH : Hid (There f n (j : Int) i) := ⟨hT1, hT2, hT3, hT4, by simp only [Int.toNat_natCast, hn3'.out]; exact hT5⟩
    clear hb2 hV2 hB2 hc1 hv HNO HV1 hck hT1 z0 z1 z2 f0 f1 f2 hB1' c0 c1
    by_cases him : i = -1
    · subst him
      obtain rfl : q = 0 := by have := hq.out; omega
      have hPl := fun W hb => implPrimary_any (.agg #[.string p0, .slice ac n1 cc, .slice ap n2 cp, .slice ai n3 ci]) (f j) W (HDV2.out W hb).1 HDF.out (HDV2.out W hb).2
      go_wp2_with (rw [hw2.out])
      have hS : Below w2.heap.size w2 w2 := Below.refl _ _
      refine wp_region_held_drew (S := fun W => Below w.heap.size w W ∧ W.cell? ⟨w1.heap.size, 0, none⟩ = some (.int .u8 ((j : Int) + 1)) ∧ W.cell? ⟨w1.heap.size, 1, none⟩ = some (.int .u8 0)) (by kernel_rfl) (HSS.out _ hS.drew) (fun hHeld => ?_)
      replace hS := hS.drew
      obtain ⟨wd, hwd⟩ : ∃ wd, Hid (wd = w2.drew) := ⟨_, rfl⟩
      rw [← hwd.out] at hS hHeld ⊢
      refine' wpAnyH_take (i := 0) (v := _) rfl (by kernel_rfl) (by kernel_rfl) (by kernel_rfl) (fun _ _ _ h => h) (Or.inl ⟨by kernel_rfl, ?hka1⟩) (by assumption) ?rka1
      case hka1 => intro W hW; obtain ⟨⟨d0, d1, d2, d3⟩, d4, d5⟩ := HWK.out _ hW; go_simp; all_goals with_reducible rfl
      change wpAnyH _ _ _ _ _ _ _ (Act.put _ (some 46) _) _
      simp only [Act.put, List.setIfInBounds_toArray, List.set_cons_zero, List.set_cons_succ]
      refine' wpAnyH_take (i := 1) (v := _) rfl (by kernel_rfl) (by kernel_rfl) (by kernel_rfl) (fun _ _ _ h => h) (Or.inl ⟨by kernel_rfl, ?hka2⟩) (by assumption) ?rka2
      case hka2 => intro W hW; obtain ⟨⟨d0, d1, d2, d3⟩, d4, d5⟩ := HWK.out _ hW; go_simp; all_goals with_reducible rfl
      change wpAnyH _ _ _ _ _ _ _ (Act.put _ (some 47) _) _
      simp only [Act.put, List.setIfInBounds_toArray, List.set_cons_zero, List.set_cons_succ]
      refine' wpAnyH_take (i := 2) (v := _) rfl (by kernel_rfl) (by kernel_rfl) (by kernel_rfl) (fun _ _ _ h => h) (Or.inl ⟨by kernel_rfl, ?hka3⟩) (by assumption) ?rka3
      case hka3 => intro W hW; obtain ⟨⟨d0, d1, d2, d3⟩, d4, d5⟩ := HWK.out _ hW; go_simp; all_goals with_reducible rfl
      change wpAnyH _ _ _ _ _ _ _ (Act.put _ (some 48) _) _
      simp only [Act.put, List.setIfInBounds_toArray, List.set_cons_zero, List.set_cons_succ]
      refine' wpAnyH_take (i := 3) (v := _) rfl (by kernel_rfl) (by kernel_rfl) (by kernel_rfl) (fun _ _ _ h => h) (Or.inl ⟨by kernel_rfl, ?hka4⟩) (by assumption) ?rka4
      case hka4 => intro W hW; obtain ⟨⟨d0, d1, d2, d3⟩, d4, d5⟩ := HWK.out _ hW; go_simp; all_goals with_reducible rfl
      change wpAnyH _ _ _ _ _ _ _ (Act.put _ (some 49) _) _
      simp only [Act.put, List.setIfInBounds_toArray, List.set_cons_zero, List.set_cons_succ]
      refine' wpAnyH_take (i := 5) (v := _) rfl (by kernel_rfl) (by kernel_rfl) (by kernel_rfl) (fun _ _ _ h => h) (Or.inl ⟨by kernel_rfl, ?hka5⟩) (by assumption) ?rka5
      case hka5 => intro W hW; obtain ⟨⟨d0, d1, d2, d3⟩, d4, d5⟩ := HWK.out _ hW; go_simp; all_goals with_reducible rfl
      change wpAnyH _ _ _ _ _ _ _ (Act.put _ (some 51) _) _
      simp only [Act.put, List.setIfInBounds_toArray, List.set_cons_zero, List.set_cons_succ]
      refine wpAnyH_ready (rs := [4]) (by kernel_rfl) (by simp) ?_
      refine AllReadyH.cons rfl (fun KK hK => ?_) AllReadyH.nil
      go_simp
      refine (hPl _ hS).mono ?_
      rintro e w5 ⟨g5, k5, rfl, hO5, hB5⟩
      replace hO5 := own_low hO5 hS.size
      replace hS := hS.trans (hB5.mono hS.size)
      clear hB5
      go_wp2_with fail
      refine hK.out _ _ (HSS.out _ hS) (fun hHeld => ?_)
      clear hK KK
      try simp only [Act.put, List.setIfInBounds_toArray, List.set_cons_zero, List.set_cons_succ]
      refine' wpAnyH_take (i := 6) (v := _) rfl (by kernel_rfl) (by kernel_rfl) (by kernel_rfl) (fun _ _ _ h => h) (Or.inl ⟨by kernel_rfl, ?hka6⟩) (by assumption) ?rka6
      case hka6 => intro W hW; obtain ⟨⟨d0, d1, d2, d3⟩, d4, d5⟩ := HWK.out _ hW; go_simp; all_goals with_reducible rfl
      change wpAnyH _ _ _ _ _ _ _ (Act.put _ (some 52) _) _
      simp only [Act.put, List.setIfInBounds_toArray, List.set_cons_zero, List.set_cons_succ]
      refine wpAnyH_ready (rs := [7]) (by kernel_rfl) (by simp) ?_
      refine AllReadyH.cons rfl (fun KK hK => ?_) AllReadyH.nil
      have V5 := HVV.out _ hS
      obtain ⟨q0, q1, q2⟩ := V5.cells
      obtain ⟨k0, k1, k2⟩ := V5.fz
      obtain ⟨hcl, hfin⟩ := HKP.out (priN (f j)) ((f j).pri) (by unfold planN; simp) (by unfold planL; simp) g5 k5 _ hO5 hS _ rfl
      have hSS : Below w.heap.size w (((w5.setCell ⟨w.heap.size, 0, none⟩ (.slice (some ⟨g5, 0, none⟩) (priN (f j)) k5)).setCell ⟨w.heap.size, 1, none⟩ (.int .u8 ((j : Int) + 1))).setCell ⟨w.heap.size, 2, none⟩ (.int .u8 0)) ∧ (((w5.setCell ⟨w.heap.size, 0, none⟩ (.slice (some ⟨g5, 0, none⟩) (priN (f j)) k5)).setCell ⟨w.heap.size, 1, none⟩ (.int .u8 ((j : Int) + 1))).setCell ⟨w.heap.size, 2, none⟩ (.int .u8 0)).cell? ⟨w1.heap.size, 0, none⟩ = some (.int .u8 ((j : Int) + 1)) ∧ (((w5.setCell ⟨w.heap.size, 0, none⟩ (.slice (some ⟨g5, 0, none⟩) (priN (f j)) k5)).setCell ⟨w.heap.size, 1, none⟩ (.int .u8 ((j : Int) + 1))).setCell ⟨w.heap.size, 2, none⟩ (.int .u8 0)).cell? ⟨w1.heap.size, 1, none⟩ = some (.int .u8 0) := by
        obtain ⟨hh, h0, h1⟩ := HSS.out _ hS
        have hne : w1.heap.size ≠ w.heap.size := by omega
        refine ⟨((hh.setCell (p := ⟨w.heap.size, 0, none⟩) (Nat.le_refl _) _).setCell (p := ⟨w.heap.size, 1, none⟩) (Nat.le_refl _) _).setCell (p := ⟨w.heap.size, 2, none⟩) (Nat.le_refl _) _, ?_, ?_⟩
        · rw [World.cell?_of_block (w := w5) (a := ⟨w1.heap.size, 0, none⟩) (((Below.heap_setCell _ _ _ _ hne).trans (Below.heap_setCell _ _ _ _ hne)).trans (Below.heap_setCell _ _ _ _ hne))]; exact h0
        · rw [World.cell?_of_block (w := w5) (a := ⟨w1.heap.size, 1, none⟩) (((Below.heap_setCell _ _ _ _ hne).trans (Below.heap_setCell _ _ _ _ hne)).trans (Below.heap_setCell _ _ _ _ hne))]; exact h1
      go_simp
      refine hK.out _ _ hSS (fun hHeld => ?_)
      clear hK KK
      try simp only [Act.put, List.setIfInBounds_toArray, List.set_cons_zero, List.set_cons_succ]
      refine' wpAnyH_take (i := 8) (v := _) rfl (by kernel_rfl) (by kernel_rfl) (by kernel_rfl) (fun _ _ _ h => h) (Or.inl ⟨by kernel_rfl, ?hka7⟩) (by assumption) ?rka7
      case hka7 => intro W hW; obtain ⟨⟨d0, d1, d2, d3⟩, d4, d5⟩ := HWK.out _ hW; go_simp; all_goals with_reducible rfl
      change wpAnyH _ _ _ _ _ _ _ (Act.put _ (some 7) _) _
      simp only [Act.put, List.setIfInBounds_toArray, List.set_cons_zero, List.set_cons_succ]
      refine wpAnyH_done (by kernel_rfl) ?_ _
      obtain ⟨r0, r1, r2⟩ := hcl
      have HF := hfin _ (Below.refl _ _)
      clear hfin hSS hHeld
      go_wp2
      refine bodyPost_ret (v := .tuple #[.agg #[.slice (some ⟨g5, 0, none⟩) (priN (f j)) k5, .int .u8 ((j : Int) + 1), .int .u8 0], .bool true]) (by simp [results, Tryz.results34, go_sem, r0, r1, r2]) rfl ⟨HF.1, .inl ⟨HTH.out, g5, k5, by simp [planN], HF.2⟩⟩
    · have himq : (i == -1) = false := by simpa using him
      have hPl := fun W hb => implIndex_any (.agg #[.string p0, .slice ac n1 cc, .slice ap n2 cp, .slice ai n3 ci]) (f j) i W (HDV2.out W hb).1 HDF.out (HDV2.out W hb).2
      go_wp2_with (rw [hw2.out])
      have hS : Below w2.heap.size w2 w2 := Below.refl _ _
      refine wp_region_held_drew (S := fun W => Below w.heap.size w W ∧ W.cell? ⟨w1.heap.size, 0, none⟩ = some (.int .u8 ((j : Int) + 1)) ∧ W.cell? ⟨w1.heap.size, 1, none⟩ = some (.int .u8 q)) (by kernel_rfl) (HSS.out _ hS.drew) (fun hHeld => ?_)
      replace hS := hS.drew
      obtain ⟨wd, hwd⟩ : ∃ wd, Hid (wd = w2.drew) := ⟨_, rfl⟩
      rw [← hwd.out] at hS hHeld ⊢
      refine' wpAnyH_take (i := 0) (v := _) rfl (by kernel_rfl) (by kernel_rfl) (by kernel_rfl) (fun _ _ _ h => h) (Or.inl ⟨by kernel_rfl, ?hkb1⟩) (by assumption) ?rkb1
      case hkb1 => intro W hW; obtain ⟨⟨d0, d1, d2, d3⟩, d4, d5⟩ := HWK.out _ hW; go_simp; all_goals with_reducible rfl
      change wpAnyH _ _ _ _ _ _ _ (Act.put _ (some 53) _) _
      simp only [Act.put, List.setIfInBounds_toArray, List.set_cons_zero, List.set_cons_succ]
      refine' wpAnyH_take (i := 1) (v := _) rfl (by kernel_rfl) (by kernel_rfl) (by kernel_rfl) (fun _ _ _ h => h) (Or.inl ⟨by kernel_rfl, ?hkb2⟩) (by assumption) ?rkb2
      case hkb2 => intro W hW; obtain ⟨⟨d0, d1, d2, d3⟩, d4, d5⟩ := HWK.out _ hW; go_simp; all_goals with_reducible rfl
      change wpAnyH _ _ _ _ _ _ _ (Act.put _ (some 54) _) _
      simp only [Act.put, List.setIfInBounds_toArray, List.set_cons_zero, List.set_cons_succ]
      refine' wpAnyH_take (i := 2) (v := _) rfl (by kernel_rfl) (by kernel_rfl) (by kernel_rfl) (fun _ _ _ h => h) (Or.inl ⟨by kernel_rfl, ?hkb3⟩) (by assumption) ?rkb3
      case hkb3 => intro W hW; obtain ⟨⟨d0, d1, d2, d3⟩, d4, d5⟩ := HWK.out _ hW; go_simp; all_goals with_reducible rfl
      change wpAnyH _ _ _ _ _ _ _ (Act.put _ (some 55) _) _
      simp only [Act.put, List.setIfInBounds_toArray, List.set_cons_zero, List.set_cons_succ]
      refine' wpAnyH_take (i := 3) (v := _) rfl (by kernel_rfl) (by kernel_rfl) (by kernel_rfl) (fun _ _ _ h => h) (Or.inl ⟨by kernel_rfl, ?hkb4⟩) (by assumption) ?rkb4
      case hkb4 => intro W hW; obtain ⟨⟨d0, d1, d2, d3⟩, d4, d5⟩ := HWK.out _ hW; go_simp; all_goals with_reducible rfl
      change wpAnyH _ _ _ _ _ _ _ (Act.put _ (some 56) _) _
      simp only [Act.put, List.setIfInBounds_toArray, List.set_cons_zero, List.set_cons_succ]
      refine' wpAnyH_take (i := 4) (v := _) rfl (by kernel_rfl) (by kernel_rfl) (by kernel_rfl) (fun _ _ _ h => h) (Or.inl ⟨by kernel_rfl, ?hkb5⟩) (by assumption) ?rkb5
      case hkb5 => intro W hW; obtain ⟨⟨d0, d1, d2, d3⟩, d4, d5⟩ := HWK.out _ hW; go_simp; all_goals with_reducible rfl
      change wpAnyH _ _ _ _ _ _ _ (Act.put _ (some 57) _) _
      simp only [Act.put, List.setIfInBounds_toArray, List.set_cons_zero, List.set_cons_succ]
      refine' wpAnyH_take (i := 6) (v := _) rfl (by kernel_rfl) (by kernel_rfl) (by kernel_rfl) (fun _ _ _ h => h) (Or.inl ⟨by kernel_rfl, ?hkb6⟩) (by assumption) ?rkb6
      case hkb6 => intro W hW; obtain ⟨⟨d0, d1, d2, d3⟩, d4, d5⟩ := HWK.out _ hW; go_simp; all_goals with_reducible rfl
      change wpAnyH _ _ _ _ _ _ _ (Act.put _ (some 59) _) _
      simp only [Act.put, List.setIfInBounds_toArray, List.set_cons_zero, List.set_cons_succ]
      refine wpAnyH_ready (rs := [5]) (by kernel_rfl) (by simp) ?_
      refine AllReadyH.cons rfl (fun KK hK => ?_) AllReadyH.nil
      go_simp
      refine (hPl _ hS).mono ?_
      rintro e w5 ⟨g5, k5, rfl, hO5, hB5⟩
      replace hO5 := own_low hO5 hS.size
      replace hS := hS.trans (hB5.mono hS.size)
      clear hB5
      go_wp2_with fail
      refine hK.out _ _ (HSS.out _ hS) (fun hHeld => ?_)
      clear hK KK
      try simp only [Act.put, List.setIfInBounds_toArray, List.set_cons_zero, List.set_cons_succ]
      refine' wpAnyH_take (i := 7) (v := _) rfl (by kernel_rfl) (by kernel_rfl) (by kernel_rfl) (fun _ _ _ h => h) (Or.inl ⟨by kernel_rfl, ?hkb7⟩) (by assumption) ?rkb7
      case hkb7 => intro W hW; obtain ⟨⟨d0, d1, d2, d3⟩, d4, d5⟩ := HWK.out _ hW; go_simp; all_goals with_reducible rfl
      change wpAnyH _ _ _ _ _ _ _ (Act.put _ (some 60) _) _
      simp only [Act.put, List.setIfInBounds_toArray, List.set_cons_zero, List.set_cons_succ]
      refine wpAnyH_ready (rs := [8]) (by kernel_rfl) (by simp) ?_
      refine AllReadyH.cons rfl (fun KK hK => ?_) AllReadyH.nil
      have V5 := HVV.out _ hS
      obtain ⟨q0, q1, q2⟩ := V5.cells
      obtain ⟨k0, k1, k2⟩ := V5.fz
      obtain ⟨hcl, hfin⟩ := HKP.out (idxN (f j) i) (ixpL (f j) i) (by unfold planN; simp [him]) (by unfold planL; simp [him]) g5 k5 _ hO5 hS _ rfl
      have hSS : Below w.heap.size w (((w5.setCell ⟨w.heap.size, 0, none⟩ (.slice (some ⟨g5, 0, none⟩) (idxN (f j) i) k5)).setCell ⟨w.heap.size, 1, none⟩ (.int .u8 ((j : Int) + 1))).setCell ⟨w.heap.size, 2, none⟩ (.int .u8 q)) ∧ (((w5.setCell ⟨w.heap.size, 0, none⟩ (.slice (some ⟨g5, 0, none⟩) (idxN (f j) i) k5)).setCell ⟨w.heap.size, 1, none⟩ (.int .u8 ((j : Int) + 1))).setCell ⟨w.heap.size, 2, none⟩ (.int .u8 q)).cell? ⟨w1.heap.size, 0, none⟩ = some (.int .u8 ((j : Int) + 1)) ∧ (((w5.setCell ⟨w.heap.size, 0, none⟩ (.slice (some ⟨g5, 0, none⟩) (idxN (f j) i) k5)).setCell ⟨w.heap.size, 1, none⟩ (.int .u8 ((j : Int) + 1))).setCell ⟨w.heap.size, 2, none⟩ (.int .u8 q)).cell? ⟨w1.heap.size, 1, none⟩ = some (.int .u8 q) := by
        obtain ⟨hh, h0, h1⟩ := HSS.out _ hS
        have hne : w1.heap.size ≠ w.heap.size := by omega
        refine ⟨((hh.setCell (p := ⟨w.heap.size, 0, none⟩) (Nat.le_refl _) _).setCell (p := ⟨w.heap.size, 1, none⟩) (Nat.le_refl _) _).setCell (p := ⟨w.heap.size, 2, none⟩) (Nat.le_refl _) _, ?_, ?_⟩
        · rw [World.cell?_of_block (w := w5) (a := ⟨w1.heap.size, 0, none⟩) (((Below.heap_setCell _ _ _ _ hne).trans (Below.heap_setCell _ _ _ _ hne)).trans (Below.heap_setCell _ _ _ _ hne))]; exact h0
        · rw [World.cell?_of_block (w := w5) (a := ⟨w1.heap.size, 1, none⟩) (((Below.heap_setCell _ _ _ _ hne).trans (Below.heap_setCell _ _ _ _ hne)).trans (Below.heap_setCell _ _ _ _ hne))]; exact h1
      go_simp
      refine hK.out _ _ hSS (fun hHeld => ?_)
      clear hK KK
      try simp only [Act.put, List.setIfInBounds_toArray, List.set_cons_zero, List.set_cons_succ]
      refine' wpAnyH_take (i := 9) (v := _) rfl (by kernel_rfl) (by kernel_rfl) (by kernel_rfl) (fun _ _ _ h => h) (Or.inl ⟨by kernel_rfl, ?hkb8⟩) (by assumption) ?rkb8
      case hkb8 => intro W hW; obtain ⟨⟨d0, d1, d2, d3⟩, d4, d5⟩ := HWK.out _ hW; go_simp; all_goals with_reducible rfl
      change wpAnyH _ _ _ _ _ _ _ (Act.put _ (some 7) _) _
      simp only [Act.put, List.setIfInBounds_toArray, List.set_cons_zero, List.set_cons_succ]
      refine wpAnyH_done (by kernel_rfl) ?_ _
      obtain ⟨r0, r1, r2⟩ := hcl
      have HF := hfin _ (Below.refl _ _)
      clear hfin hSS hHeld
      go_wp2
      refine bodyPost_ret (v := .tuple #[.agg #[.slice (some ⟨g5, 0, none⟩) (idxN (f j) i) k5, .int .u8 ((j : Int) + 1), .int .u8 q], .bool true]) (by simp [results, Tryz.results34, go_sem, r0, r1, r2]) rfl ⟨HF.1, .inl ⟨HTH.out, g5, k5, by simp [planN, him, hq.out], HF.2⟩⟩
  · by_cases hfr : r = -1
    · subst hfr
      by_cases ht0 : t < 0
      · go_wp2
        obtain ⟨hbW, r0, r1, r2⟩ := HNO.out hT _ rfl
        refine bodyPost_ret (v := .tuple #[.agg #[.slice none 0 0, .int .u8 0, .int .u8 0], .bool false]) (by simp [results, Tryz.results34, go_sem, r0, r1, r2]) rfl ⟨hbW, .inr ⟨hT, rfl⟩⟩
      · by_cases htn : t ≥ (n : Int)
        · go_wp2
          obtain ⟨hbW, r0, r1, r2⟩ := HNO.out hT _ rfl
          refine bodyPost_ret (v := .tuple #[.agg #[.slice none 0 0, .int .u8 0, .int .u8 0], .bool false]) (by simp [results, Tryz.results34, go_sem, r0, r1, r2]) rfl ⟨hbW, .inr ⟨hT, rfl⟩⟩
        · obtain ⟨j, rfl⟩ : ∃ j : Nat, t = j := ⟨t.toNat, by omega⟩
          have htn' : (j : Int) < (n : Int) := by omega
          by_cases hi1 : i < -1
          · go_wp2
            obtain ⟨hbW, r0, r1, r2⟩ := HNO.out hT _ rfl
            refine bodyPost_ret (v := .tuple #[.agg #[.slice none 0 0, .int .u8 0, .int .u8 0], .bool false]) (by simp [results, Tryz.results34, go_sem, r0, r1, r2]) rfl ⟨hbW, .inr ⟨hT, rfl⟩⟩
          · obtain ⟨b1, o1, rfl, hb1, hc1⟩ := HVL.out.cells (by omega)
            obtain ⟨y1, y2, y3, x0, x1, x2, x3, hv⟩ := hc1 j (by omega)
            obtain ⟨ac, cc, ap, cp, ai, ci, -, rfl, rfl, rfl, -, -, -⟩ := hv.parts
            have hge : i ≥ ((f j).ni : Int) := by
              by_cases hh : i < ((f j).ni : Int)
              · exact absurd ⟨hr.out, by omega, htn', by omega, by simpa using hh⟩ hT
              · omega
            obtain ⟨n3, hn3⟩ : ∃ x, Hid ((f j).ni = x) := ⟨_, rfl⟩
            rw [hn3.out] at x3 hge
            clear hc1 hv x0 x1 x2
            go_wp2
            obtain ⟨hbW, r0, r1, r2⟩ := HNO.out hT _ rfl
            refine bodyPost_ret (v := .tuple #[.agg #[.slice none 0 0, .int .u8 0, .int .u8 0], .bool false]) (by simp [results, Tryz.results34, go_sem, r0, r1, r2]) rfl ⟨hbW, .inr ⟨hT, rfl⟩⟩
    · have hq : (r != -1) = true := by simpa using hfr
      go_wp2
      obtain ⟨hbW, r0, r1, r2⟩ := HNO.out hT _ rfl
      refine bodyPost_ret (v := .tuple #[.agg #[.slice none 0 0, .int .u8 0, .int .u8 0], .bool false]) (by simp [results, Tryz.results34, go_sem, r0, r1, r2]) rfl ⟨hbW, .inr ⟨hT, rfl⟩⟩
end Go.Proofs.YtkakkjnbhklfpaaGreatDoor

/-
  What a round of a loop over an iterator keeps: all that lay at the start of the call, and the two boxes that the iterator holds.
-/
namespace Go.Proofs.YtkakkjnbhklfpaaGreatDoor
open Go.RowKit
set_option maxRecDepth 4000

/-- What a round that goes on keeps. -/
structure KpB (n₀ Bl Bv : Nat) (W W' : World) : Prop where
  below : Below n₀ W W'
  bl : W'.heap[Bl]? = W.heap[Bl]?
  bv : W'.heap[Bv]? = W.heap[Bv]?
theorem KpB.refl (n₀ Bl Bv : Nat) (W : World) : KpB n₀ Bl Bv W W := ⟨Below.refl _ _, rfl, rfl⟩
theorem KpB.trans {n₀ Bl Bv : Nat} {A B C : World} (h : KpB n₀ Bl Bv A B) (k : KpB n₀ Bl Bv B C) : KpB n₀ Bl Bv A C := ⟨h.below.trans k.below, k.bl.trans h.bl, k.bv.trans h.bv⟩
/-- Whatever leaves all that lay as it lay. -/
theorem KpB.ofBelow {n₀ Bl Bv : Nat} {W W' : World} (h : Below W.heap.size W W') (hn : n₀ ≤ W.heap.size) (hl : Bl < W.heap.size) (hv : Bv < W.heap.size) : KpB n₀ Bl Bv W W' := ⟨h.mono hn, h.block Bl hl, h.block Bv hv⟩
/-- A step that turns one block. -/
theorem KpB.ofGrown {n₀ Bl Bv : Nat} {W W' : World} {row : Option Nat} (hg : W.grownBy W' row) (hn : n₀ ≤ W.heap.size) (hl : Bl < W.heap.size) (hv : Bv < W.heap.size) (hr : ∀ k, row = some k → n₀ ≤ k ∧ k ≠ Bl ∧ k ≠ Bv) : KpB n₀ Bl Bv W W' :=
  ⟨⟨hg.os, hg.tape, hg.output, hg.size, fun k hk => hg.block k (by omega) (fun e => by have := (hr k e.symm).1; omega)⟩, hg.block Bl hl (fun e => (hr Bl e.symm).2.1 rfl), hg.block Bv hv (fun e => (hr Bv e.symm).2.2 rfl)⟩
theorem KpB.put {n₀ Bl Bv : Nat} {w : World} (hn : n₀ ≤ w.heap.size) (hl : Bl < w.heap.size) (hv : Bv < w.heap.size) (W : World) (l : Nat) (o o' : Obj) (hle : w.heap.size ≤ l) (h : W.heap[l]? = some o) (h1 : o.isCells = false) (h2 : o.isWalk = false) : KpB n₀ Bl Bv W (W.putObj l o') :=
  ⟨belowK_b hn W l o o' hle h h1 h2, World.putObj_heap_other (by omega), World.putObj_heap_other (by omega)⟩
theorem Boxed.kpl {n₀ Bl Bv : Nat} {W W' : World} {t : TypeId} {v : Value} (h : Boxed W Bl t v) (k : KpB n₀ Bl Bv W W') : Boxed W' Bl t v := k.bl.trans h
theorem Boxed.kpv {n₀ Bl Bv : Nat} {W W' : World} {t : TypeId} {v : Value} (h : Boxed W Bv t v) (k : KpB n₀ Bl Bv W W') : Boxed W' Bv t v := k.bv.trans h
theorem Boxed.below' {W W' : World} {B : Nat} {t : TypeId} {v : Value} (h : Boxed W B t v) (k : Below W.heap.size W W') : Boxed W' B t v := (k.block B h.lt).trans h
theorem grownBy_drew' (W : World) : W.grownBy W.drew none := ⟨rfl, rfl, rfl, Nat.le_refl _, fun _ _ _ => rfl⟩
theorem grownBy_below' {W W' : World} (h : Below W.heap.size W W') : W.grownBy W' none := ⟨h.os, h.tape, h.output, h.size, fun k hk _ => h.block k hk⟩
theorem AbidesFrom.step {β : Type} {B : Nat} {J : β → World → Prop} (h : AbidesFrom B J) {s : β} {W W' : World} (hs : J s W) (hg : W.grownBy W' none) : J s W' := h s W W' none hs hg (fun _ e => by cases e)
/-- 'KeepsFrom' of whatever leaves all that lay as it lay. -/
theorem KeepsFrom.ofBelow {B : Nat} {W W' : World} (h : Below W.heap.size W W') : KeepsFrom B W W' := ⟨h.size, fun k _ _ hk _ => (h.block k (Array.getElem?_eq_some_iff.1 hk).1).trans hk⟩
/-- 'KpB .. w₀ ·' abides what the loop itself turns. -/
theorem ownFrom_kpB {β : Type} {n₀ Bl Bv B' : Nat} {w₀ : World} (hn : n₀ ≤ B') (hl : Bl < B') (hv : Bv < B') (hB : B' ≤ w₀.heap.size) : OwnFrom B' (fun (_ : β) W => KpB n₀ Bl Bv w₀ W) :=
  fun _ X Y row hs hg hr => by
    have hs0 := hs.below.size
    refine ⟨hs.below.trans ⟨hg.os, hg.tape, hg.output, hg.size, fun k hk => hg.block k (by omega) (fun e => by have := (hr k e.symm).1; omega)⟩, ?_, ?_⟩
    · exact (hg.block Bl (by omega) (fun e => by have := (hr Bl e.symm).1; omega)).trans hs.bl
    · exact (hg.block Bv (by omega) (fun e => by have := (hr Bv e.symm).1; omega)).trans hs.bv

/-- The first j of the indices. -/
theorem fin_take {k j : Nat} (h : j < k) : (List.finRange k).take (j + 1) = (List.finRange k).take j ++ [⟨j, h⟩] := by
  rw [List.take_add_one, List.getElem?_eq_getElem (by simpa using h)]
  simp
theorem fin_len {k j : Nat} (h : j ≤ k) : ((List.finRange k).take j).length = j := by simp [h]
end Go.Proofs.YtkakkjnbhklfpaaGreatDoor

/-
  The program's valsByPart: each value beside its part.
-/
namespace Go.Proofs.YtkakkjnbhklfpaaGreatDoor
open Go.RowKit
set_option maxRecDepth 4000

attribute [local go_sem] Oper.semAt_some

abbrev encP (fc ft : Nat → Int) (fu fd : Nat → Bool) (i : Nat) : Value := .agg #[.int .i64 (fc i), .int .i64 (ft i), .bool (fu i), .bool (fd i)]
abbrev encV (fk fn : Nat → Int) (fs : Nat → ByteArray) (i : Nat) : Value := .agg #[.int .i64 (fk i), .int .i64 (fn i), .string (fs i)]

set_option linter.unusedSimpArgs false in
set_option maxRecDepth 100000 in
set_option maxHeartbeats 4000000 in
theorem byPart1_in (N : Nat) (hN : 1 ≤ N) (l Bl Bv : Nat) (a : Option Addr) (n cap : Nat) (fc ft : Nat → Int) (fu fd : Nat → Bool) (a2 : Option Addr) (m c2 : Nat) (fk fn : Nat → Int) (fs : Nat → ByteArray) (w : World) (hp : PView w a n cap fc ft fu fd) (hq : VView w a2 m c2 fk fn fs) (hn : n ≤ 281474976710656) (hm : m ≤ 281474976710656)
    (K : Nat) (hK : K = min n m) (J Jx : List (Fin K) → World → Prop) (W : World) (hJ : AbidesFrom W.heap.size J)
    (hY : ∀ pre x W1, J pre W1 → pre.length < K → YieldAt Fence.wide (N - 1) Tryz.prog l #[encP fc ft fu fd x.1, encV fk fn fs x.1] W1 fun e W' =>
      (e = .returned (.bool true) ∧ J (pre ++ [x]) W' ∧ KpB w.heap.size Bl Bv W1 W') ∨ (e = .returned (.bool false) ∧ Jx (pre ++ [x]) W'))
    (hb : Below w.heap.size w W) (hl : Boxed W Bl 30 (.slice a n cap)) (hv : Boxed W Bv 25 (.slice a2 m c2)) (h0 : J [] W) :
    CallsIn Fence.wide N Tryz.prog 138 #[.func (.yield l) #[] #[], .pointer (some ⟨Bl, 0, none⟩), .pointer (some ⟨Bv, 0, none⟩)] W fun e W' => (∃ v, e = .returned v) ∧
      ((∃ xs, xs = List.finRange K ∧ J xs W') ∨ (∃ pre, pre <+: List.finRange K ∧ Jx pre W')) := by
  refine callsIn_of_wp Tryz.func138 rfl trivial ?_ rfl
  simp only [Tryz.ntmps138, List.size_toArray, List.length_cons, List.length_nil, Nat.reduceAdd, Nat.reduceSub, Array.replicate_succ, Array.replicate_zero, List.push_toArray, List.append_toArray, List.nil_append, List.cons_append]
  have cl := hl.cell
  have cv := hv.cell
  rcases Nat.lt_or_ge m n with hmn | hmn
  · have hminz : (m : Int) < (n : Int) := by omega
    gi_wp2
    have hKm : m = K := by omega
    have hnK : n ≥ K := by omega
    clear hK
    subst hKm
    gi_loopw [10] (fun i wr => ∃ j : Nat, j ≤ m ∧ i = .int .i64 j ∧ J ((List.finRange m).take j) wr ∧ KpB w.heap.size Bl Bv W wr) (fun i _ => m - (intOf i).toNat)
    case atStart => exact ⟨0, Nat.zero_le _, rfl, h0, KpB.refl _ _ _ _⟩
    case round =>
      obtain ⟨j, hj, rfl, hJs, hk⟩ := hrel
      by_cases hlt : j < m
      · have hbw : Below w.heap.size w wr := hb.trans hk.below
        obtain ⟨b1, o1, rfl, hb1, hd1⟩ := (hp.below hbw).cells (by omega)
        obtain ⟨b2, o2, rfl, hb2, hd2⟩ := (hq.below hbw).cells (by omega)
        obtain ⟨x0, x1, x2, x3⟩ := hd1 j (by omega)
        obtain ⟨y0, y1, y2⟩ := hd2 j (by omega)
        have cl' := (Boxed.kpl hl hk).cell
        have cv' := (Boxed.kpv hv hk).cell
        have hjz : (j : Int) < (m : Int) := by omega
        have hjn : (j : Int) < (n : Int) := by omega
        obtain ⟨fn', tmps, assign, body, hy, hR⟩ := hY _ ⟨j, hlt⟩ wr.drew (AbidesFrom.step hJ hJs (grownBy_drew' _)) (by rw [fin_len hj]; exact hlt)
        dsimp only at hy
        clear hd1 hd2 cl cv
        gi_wp2
        have hmx : Tryz.prog.follows .mixedOrders = true := by kernel_rfl
        replace hR := hR.mono (R' := fun e W' => ∃ o, e = .returned (.bool o) ∧ Hid ((o = true ∧ J ((List.finRange m).take (j + 1)) W' ∧ KpB w.heap.size Bl Bv wr W') ∨ (o = false ∧ Jx ((List.finRange m).take (j + 1)) W'))) (by
          rw [fin_take hlt]
          rintro e W' (⟨rfl, h1, h2⟩ | ⟨rfl, h1⟩)
          · exact ⟨true, rfl, .inl ⟨rfl, h1, (KpB.ofBelow (Below.refl _ _).drew (by have := hbw.size; exact this) (Boxed.kpl hl hk).lt (Boxed.kpv hv hk).lt).trans h2⟩⟩
          · exact ⟨false, rfl, .inr ⟨rfl, h1⟩⟩)
        gi_region_with_o (refine hR.mono ?_; rintro e W3 ⟨o, rfl, ho⟩)
        all_goals
          clear x0 x1 x2 x3 y0 y1 y2 cl' cv' hy hR
          rcases ho.out with ⟨rfl, hJ3, hk3⟩ | ⟨rfl, hJx3⟩
          · gi_wp2
            go_roundw
            case rel => exact ⟨j + 1, by omega, by go_num, hJ3, hk.trans hk3⟩
            case measure => simp [intOf]; omega
          · gi_wp2
            refine bodyPost_ret (results_none rfl _ _ _) rfl ?_
            exact ⟨⟨_, rfl⟩, .inr ⟨_, List.take_prefix _ _, hJx3⟩⟩
      · have hjz : ¬ (j : Int) < (m : Int) := by omega
        have hjK : j = m := by omega
        have hJe : Hid (J (List.finRange m) wr) := by
          show J _ wr
          have e : (List.finRange m).take j = List.finRange m := List.take_of_length_le (by simp; omega)
          rw [← e]; exact hJs
        clear hJs
        gi_wp2
        go_end0
        exact ⟨⟨_, rfl⟩, .inl hJe.out⟩
  · have hminz : ¬ (m : Int) < (n : Int) := by omega
    gi_wp2
    have hKm : n = K := by omega
    have hnK : m ≥ K := by omega
    clear hK
    subst hKm
    gi_loopw [10] (fun i wr => ∃ j : Nat, j ≤ n ∧ i = .int .i64 j ∧ J ((List.finRange n).take j) wr ∧ KpB w.heap.size Bl Bv W wr) (fun i _ => n - (intOf i).toNat)
    case atStart => exact ⟨0, Nat.zero_le _, rfl, h0, KpB.refl _ _ _ _⟩
    case round =>
      obtain ⟨j, hj, rfl, hJs, hk⟩ := hrel
      by_cases hlt : j < n
      · have hbw : Below w.heap.size w wr := hb.trans hk.below
        obtain ⟨b1, o1, rfl, hb1, hd1⟩ := (hp.below hbw).cells (by omega)
        obtain ⟨b2, o2, rfl, hb2, hd2⟩ := (hq.below hbw).cells (by omega)
        obtain ⟨x0, x1, x2, x3⟩ := hd1 j (by omega)
        obtain ⟨y0, y1, y2⟩ := hd2 j (by omega)
        have cl' := (Boxed.kpl hl hk).cell
        have cv' := (Boxed.kpv hv hk).cell
        have hjz : (j : Int) < (n : Int) := by omega
        have hjn : (j : Int) < (m : Int) := by omega
        obtain ⟨fn', tmps, assign, body, hy, hR⟩ := hY _ ⟨j, hlt⟩ wr.drew (AbidesFrom.step hJ hJs (grownBy_drew' _)) (by rw [fin_len hj]; exact hlt)
        dsimp only at hy
        clear hd1 hd2 cl cv
        gi_wp2
        have hmx : Tryz.prog.follows .mixedOrders = true := by kernel_rfl
        replace hR := hR.mono (R' := fun e W' => ∃ o, e = .returned (.bool o) ∧ Hid ((o = true ∧ J ((List.finRange n).take (j + 1)) W' ∧ KpB w.heap.size Bl Bv wr W') ∨ (o = false ∧ Jx ((List.finRange n).take (j + 1)) W'))) (by
          rw [fin_take hlt]
          rintro e W' (⟨rfl, h1, h2⟩ | ⟨rfl, h1⟩)
          · exact ⟨true, rfl, .inl ⟨rfl, h1, (KpB.ofBelow (Below.refl _ _).drew (by have := hbw.size; exact this) (Boxed.kpl hl hk).lt (Boxed.kpv hv hk).lt).trans h2⟩⟩
          · exact ⟨false, rfl, .inr ⟨rfl, h1⟩⟩)
        gi_region_with_o (refine hR.mono ?_; rintro e W3 ⟨o, rfl, ho⟩)
        all_goals
          clear x0 x1 x2 x3 y0 y1 y2 cl' cv' hy hR
          rcases ho.out with ⟨rfl, hJ3, hk3⟩ | ⟨rfl, hJx3⟩
          · gi_wp2
            go_roundw
            case rel => exact ⟨j + 1, by omega, by go_num, hJ3, hk.trans hk3⟩
            case measure => simp [intOf]; omega
          · gi_wp2
            refine bodyPost_ret (results_none rfl _ _ _) rfl ?_
            exact ⟨⟨_, rfl⟩, .inr ⟨_, List.take_prefix _ _, hJx3⟩⟩
      · have hjz : ¬ (j : Int) < (n : Int) := by omega
        have hjK : j = n := by omega
        have hJe : Hid (J (List.finRange n) wr) := by
          show J _ wr
          have e : (List.finRange n).take j = List.finRange n := List.take_of_length_le (by simp; omega)
          rw [← e]; exact hJs
        clear hJs
        gi_wp2
        go_end0
        exact ⟨⟨_, rfl⟩, .inl hJe.out⟩

theorem byPart_stops (N : Nat) (hN : 1 ≤ N) (Bl Bv : Nat) (a : Option Addr) (n cap : Nat) (fc ft : Nat → Int) (fu fd : Nat → Bool) (a2 : Option Addr) (m c2 : Nat) (fk fn : Nat → Int) (fs : Nat → ByteArray) (w : World) (hp : PView w a n cap fc ft fu fd) (hq : VView w a2 m c2 fk fn fs) (hn : n ≤ 281474976710656) (hm : m ≤ 281474976710656)
    (W0 : World) (hb : Below w.heap.size w W0) (hl : Boxed W0 Bl 30 (.slice a n cap)) (hv : Boxed W0 Bv 25 (.slice a2 m c2)) :
    SeqStopsK Fence.wide N Tryz.prog 138 #[.pointer (some ⟨Bl, 0, none⟩), .pointer (some ⟨Bv, 0, none⟩)] (fun x : Fin (min n m) => #[encP fc ft fu fd x.1, encV fk fn fs x.1]) (KpB w.heap.size Bl Bv) (fun xs => xs = List.finRange (min n m)) (fun pre => pre <+: List.finRange (min n m)) (min n m) W0 :=
  fun l J Jx W hW hJ _ hY h0 => byPart1_in N hN l Bl Bv a n cap fc ft fu fd a2 m c2 fk fn fs w hp hq hn hm (min n m) rfl J Jx W hJ hY (hb.trans (hW.mono hb.size)) (Boxed.below' hl hW) (Boxed.below' hv hW) h0

set_option maxHeartbeats 1000000 in
/-- valsByPart boxes its two arguments. -/
theorem valsByPart_in (N : Nat) (a : Option Addr) (n cap : Nat) (a2 : Option Addr) (m c2 : Nat) (w : World) :
    CallsIn Fence.wide N Tryz.prog 105 #[.slice a n cap, .slice a2 m c2] w fun e w' => e = .returned (.func (.func 138) #[] #[.pointer (some ⟨w.heap.size, 0, none⟩), .pointer (some ⟨w.heap.size + 1, 0, none⟩)]) ∧ w' = (w.alloc (.cells #[.slice a n cap] 30)).alloc (.cells #[.slice a2 m c2] 25) := by
  refine callsIn_of_wp Tryz.func105 rfl trivial ?_ rfl
  simp only [Tryz.ntmps105, List.size_toArray, List.length_cons, List.length_nil, Nat.reduceAdd, Nat.reduceSub, Array.replicate_succ, Array.replicate_zero, List.push_toArray, List.append_toArray, List.nil_append, List.cons_append]
  gi_wp2
  go_ret
  exact ⟨rfl, rfl⟩
end Go.Proofs.YtkakkjnbhklfpaaGreatDoor

/-
  A box of a round, and what the loop itself turns.
-/
namespace Go.Proofs.YtkakkjnbhklfpaaGreatDoor
open Go.RowKit
set_option maxRecDepth 4000

theorem Boxed.ownK {W W' : World} {row : Option Nat} {B : Nat} {t : TypeId} {v : Value} (h : Boxed W B t v) (hg : W.grownBy W' row) (hr : ∀ r, row = some r → ∃ o : Obj, W.heap[r]? = some o ∧ o.isCells = false) : Boxed W' B t v := by
  obtain ⟨o, ho, hc⟩ := cells_of_cell h.cell
  exact (grownBy_keeps_cells hg hr ho hc).trans h
theorem Below.put' {n₀ : Nat} {w₀ W : World} {D : Nat} {o o' : Obj} (h : Below n₀ w₀ W) (hn : n₀ ≤ D) (hK : W.heap[D]? = some o) : Below n₀ w₀ (W.putObj D o') :=
  h.trans ((Below.refl n₀ W).grown (grownBy_putObj' W D o') (by have := (Array.getElem?_eq_some_iff.1 hK).1; omega) (fun k e => by cases e; omega))
end Go.Proofs.YtkakkjnbhklfpaaGreatDoor

/-
  A part of a key in a variable of the call's own.
-/
namespace Go.Proofs.YtkakkjnbhklfpaaGreatDoor
open Go.RowKit
set_option maxRecDepth 4000

/-- The four cells of a part. -/
def partC (c t : Int) (nul d : Bool) : Nat → Value
  | 0 => .int .i64 c
  | 1 => .int .i64 t
  | 2 => .bool nul
  | _ => .bool d

/-- A part in a variable of the call's own. -/
def PBox (w : World) (B : Nat) (c t : Int) (nul d : Bool) : Prop := w.rowIs B 50 4 (partC c t nul d)
section
variable {w w' : World} {B D i : Nat} {c t : Int} {nul d : Bool}
theorem PBox.new (w : World) (c t : Int) (nul d : Bool) : PBox (w.alloc (.cells #[.int .i64 c, .int .i64 t, .bool nul, .bool d] 50)) w.heap.size c t nul d :=
  World.rowIs_alloc w _ 50 (partC c t nul d) (fun j hj => by match j, hj with | 0, _ => rfl | 1, _ => rfl | 2, _ => rfl | 3, _ => rfl)
theorem PBox.cells (h : PBox w B c t nul d) : w.cell? ⟨B, 0, none⟩ = some (.int .i64 c) ∧ w.cell? ⟨B, 1, none⟩ = some (.int .i64 t) ∧ w.cell? ⟨B, 2, none⟩ = some (.bool nul) ∧ w.cell? ⟨B, 3, none⟩ = some (.bool d) :=
  ⟨h.cell (i := 0) (by decide), h.cell (i := 1) (by decide), h.cell (i := 2) (by decide), h.cell (i := 3) (by decide)⟩
theorem PBox.frozen (h : PBox w B c t nul d) : w.frozen? ⟨B, 0, none⟩ = false ∧ w.frozen? ⟨B, 1, none⟩ = false ∧ w.frozen? ⟨B, 2, none⟩ = false ∧ w.frozen? ⟨B, 3, none⟩ = false :=
  ⟨World.rowIs.frozen h 0, World.rowIs.frozen h 1, World.rowIs.frozen h 2, World.rowIs.frozen h 3⟩
theorem PBox.lt (h : PBox w B c t nul d) : B < w.heap.size := World.rowIs.lt h
theorem PBox.below (h : PBox w B c t nul d) (hb : Below w.heap.size w w') : PBox w' B c t nul d := h.of_block (hb.block B h.lt)
theorem PBox.other (h : PBox w B c t nul d) (hne : B ≠ D) (u : Value) : PBox (w.setCell ⟨D, i, none⟩ u) B c t nul d := h.of_block (Below.heap_setCell _ _ _ _ hne)
theorem PBox.drew (h : PBox w B c t nul d) : PBox w.drew B c t nul d := h
end
end Go.Proofs.YtkakkjnbhklfpaaGreatDoor

