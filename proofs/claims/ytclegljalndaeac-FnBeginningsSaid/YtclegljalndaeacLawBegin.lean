/-
  LawBegin
-/
import Derived.Test.YtclegljalndaeacPack5
import Derived.Test.YtclegljalndaeacPack8
import Derived.Test.YtclegljalndaeacPack13
import Derived.Deep.RegionHeld3
/-
  The walk over the law FnBeginnings: it answers true and writes nothing that was there, at every code that reads.
-/
namespace Go.Proofs.Ytclegljalndaeac
open Go.RowKit
set_option maxRecDepth 4000

set_option linter.unusedSimpArgs false in
set_option maxHeartbeats 1000000 in
theorem lawBegin (ao : Option Addr) (N cap : Nat) (f : Nat → Int) (w : World) (hv0 : View w ao N cap f) (hlen : N ≤ 9223372036854775807) :
    Calls Try.prog 5 #[.slice ao N cap] w fun e w' => e = .returned (.bool true) ∧ Below w.heap.size w w' := by
  by_cases hbig : (1048576 : Int) < (N : Int)
  · go_enter Try.func5, Try.ntmps5
    go_wp2_with fail
    refine (big_any ao N cap w hlen).mono ?_
    rw [decide_eq_true hbig]
    rintro e _ ⟨rfl, rfl⟩
    go_wp2
    go_ret
    exact ⟨rfl, Below.refl _ _⟩
  go_enter Try.func5, Try.ntmps5
  go_wp2_with fail
  refine (big_any ao N cap w hlen).mono ?_
  rw [decide_eq_false (by omega : ¬ (1048576 : Int) < (N : Int))]
  rintro e _ ⟨rfl, rfl⟩
  go_wp2_with fail
  refine (drawKeys_any ao N cap f w (by omega) hv0).mono ?_
  rintro e w2 ⟨⟨a, a1, a2, m, cp, c1, c2, gc, gt, gu, gd, fk, fn, fs, fk', fn', fs', rfl, hD⟩, hB⟩
  have hm3 := hD.few
  have hp := hD.plan
  have hv := hD.vals
  have hv' := hD.vals'
  have hok : ∀ i, i < m → partOk (gc i) (gt i) = true := fun i hi => by have := hD.ok i hi; unfold partOk; simp; omega
  have hpk := planOk_iff.2 ⟨hok, (by omega : m ≤ 6)⟩
  have hfa := fitsAll_iff.2 ⟨Nat.le_refl m, hD.fit⟩
  have hfa' := fitsAll_iff.2 ⟨Nat.le_refl m, hD.fit'⟩
  obtain ⟨L1, hL1⟩ : ∃ L, keyL m gc gt gu gd m fk fn fs = L := ⟨_, rfl⟩
  obtain ⟨L2, hL2⟩ : ∃ L, keyL m gc gt gu gd m fk' fn' fs' = L := ⟨_, rfl⟩
  have e1 : L1 = keyT (onePL gc gt gu gd fk fn fs) m := by rw [← hL1]; unfold keyL; rw [hpk, hfa]; rfl
  have e2 : L2 = keyT (onePL gc gt gu gd fk' fn' fs') m := by rw [← hL2]; unfold keyL; rw [hpk, hfa']; rfl
  have H1 : Hid (keyL m gc gt gu gd m fk fn fs = L1) := hL1
  have H2 : Hid (keyL m gc gt gu gd m fk' fn' fs' = L2) := hL2
  have hn1 : L1.length ≤ 414 := by rw [← hL1]; exact keyL_len m gc gt gu gd m fk fn fs
  have hn2 : L2.length ≤ 414 := by rw [← hL2]; exact keyL_len m gc gt gu gd m fk' fn' fs'
  have hby1 : ∀ i, i < L1.length → 0 ≤ L1.getD i 0 ∧ L1.getD i 0 ≤ 255 := fun i hi => by
    have e : L1.getD i 0 = L1[i] := by simp [List.getD, List.getElem?_eq_getElem hi]
    rw [e]; exact (by rw [← hL1]; exact keyL_byte m gc gt gu gd m fk fn fs : ∀ y ∈ L1, 0 ≤ y ∧ y ≤ 255) _ (List.getElem_mem hi)
  have hby2 : ∀ i, i < L2.length → 0 ≤ L2.getD i 0 ∧ L2.getD i 0 ≤ 255 := fun i hi => by
    have e : L2.getD i 0 = L2[i] := by simp [List.getD, List.getElem?_eq_getElem hi]
    rw [e]; exact (by rw [← hL2]; exact keyL_byte m gc gt gu gd m fk' fn' fs' : ∀ y ∈ L2, 0 ≤ y ∧ y ≤ 255) _ (List.getElem_mem hi)
  obtain ⟨x2, hx2⟩ : ∃ x, Hid (atN N f 2 = x) := ⟨_, rfl⟩
  obtain ⟨K, hKe⟩ : ∃ K, x2 % (m + 1) = K := ⟨_, rfl⟩
  have hKm : K ≤ m := by rw [← hKe]; have := Nat.mod_lt x2 (show 0 < m + 1 by omega); omega
  have hpk' := fitsAll_iff.2 ⟨hKm, fun i hi => hD.fit i (by omega)⟩
  obtain ⟨X, hX⟩ : ∃ L, keyL m gc gt gu gd K fk fn fs = L := ⟨_, rfl⟩
  have e3 : X = keyT (onePL gc gt gu gd fk fn fs) K := by rw [← hX]; unfold keyL; rw [hpk, hpk']; rfl
  have H3 : Hid (keyL m gc gt gu gd K fk fn fs = X) := hX
  have hn3 : X.length ≤ 414 := by rw [← hX]; exact keyL_len m gc gt gu gd K fk fn fs
  have hby3 : ∀ i, i < X.length → 0 ≤ X.getD i 0 ∧ X.getD i 0 ≤ 255 := fun i hi => by
    have e : X.getD i 0 = X[i] := by simp [List.getD, List.getElem?_eq_getElem hi]
    rw [e]; exact (by rw [← hX]; exact keyL_byte m gc gt gu gd K fk fn fs : ∀ y ∈ X, 0 ≤ y ∧ y ≤ 255) _ (List.getElem_mem hi)
  have hBG := keys_begin hKm hok hD.fit hD.fit' L1 L2 X e1 e2 e3
  obtain ⟨s, hs⟩ : ∃ s, rowEq K K fk fn fs fk' fn' fs' = s := ⟨_, rfl⟩
  rw [hs] at hBG
  have HG : Hid (Begs L1 L2 X K m s) := hBG
  have HS : Hid (rowEq K K fk fn fs fk' fn' fs' = s) := hs
  have hq2 : (s == s) = true := by cases s <;> rfl
  have hpos := hD.pos
  have hvc := hv0.below hB
  have hrm : ((x2 : Int)).tmod ((m : Int) + 1) = (K : Int) := by rw [← hKe]; rfl
  have hKz : (K : Int) ≤ (m : Int) := by omega
  have hK0 : (0 : Int) ≤ (K : Int) := by omega
  obtain ⟨ba, oa, rfl, -, -⟩ := hv.cells (by omega)
  obtain ⟨bb, ob, rfl, -, -⟩ := hv'.cells (by omega)
  have hca := hv.le
  have hcb := hv'.le
  clear hD hok hpk hfa hfa' hL1 hL2 e1 e2 hBG hs hv0 hKe hpk' hX e3
  go_wp2_with fail
  refine (at_val ao N cap f 2 2 x2 _ hx2 hvc (by omega) (by omega) rfl).mono ?_
  rintro e _ ⟨rfl, rfl⟩
  clear hvc hx2
  have hvK := VView.cut hv hKm
  have hvK' := VView.cut hv' hKm
  go_wp2_with fail
  refine (implEncodeKey_any a m cp gc gt gu gd (some ⟨ba, oa, none⟩) K c1 fk fn fs _ hp hvK (by omega) (by omega)).mono ?_
  rw [H3.out]
  rintro e w3 ⟨gx, cx, rfl, hE⟩
  have hx := hE.row
  have chx := hE.le
  have hb := hE.below
  clear hE
  replace hp := hp.below hb
  replace hv := hv.below hb
  replace hv' := hv'.below hb
  replace hvK := hvK.below hb
  replace hvK' := hvK'.below hb
  replace hB := hB.trans (hb.mono hB.size)
  clear hb
  go_wp2_with fail
  have hKc1 : K ≤ c1 := by omega
  have hKc2 : K ≤ c2 := by omega
  by_cases hKM : K = m
  · have hl : X.length = L1.length := HG.out.all hKM
    have HKM : Hid ((K : Int) = (m : Int)) := by show _ = _; omega
    have HLZ : Hid ((X.length : Int) = (L1.length : Int)) := by show _ = _; omega
    clear hl hKM
    refine wp_region_held_drew (S := fun _ => True) (by kernel_rfl) (trivial) (fun hHeld => ?_)
    have hb : Below w3.heap.size w3 w3.drew := (Below.refl _ _).drew
    replace hp := hp.below hb
    replace hv := hv.below hb
    replace hv' := hv'.below hb
    replace hvK := hvK.below hb
    replace hvK' := hvK'.below hb
    replace hx := hx.belowAll hb
    replace hB := hB.trans (hb.mono hB.size)
    clear hb
    refine' wpAnyH_take (i := 0) (v := _) rfl (by kernel_rfl) (by kernel_rfl) (by kernel_rfl) (fun _ _ _ h => h) (Or.inl ⟨by kernel_rfl, ?ha0⟩) (by assumption) ?ra0
    case ha0 => intro W hW; go_simp; all_goals with_reducible rfl
    change wpAnyH _ _ _ _ _ _ _ (Act.put _ (some 27) _) _
    simp only [Act.put, List.setIfInBounds_toArray, List.set_cons_zero, List.set_cons_succ]
    refine' wpAnyH_take (i := 1) (v := _) rfl (by kernel_rfl) (by kernel_rfl) (by kernel_rfl) (fun _ _ _ h => h) (Or.inl ⟨by kernel_rfl, ?ha1⟩) (by assumption) ?ra1
    case ha1 => intro W hW; go_simp; all_goals with_reducible rfl
    change wpAnyH _ _ _ _ _ _ _ (Act.put _ (some 28) _) _
    simp only [Act.put, List.setIfInBounds_toArray, List.set_cons_zero, List.set_cons_succ]
    refine' wpAnyH_take (i := 3) (v := _) rfl (by kernel_rfl) (by kernel_rfl) (by kernel_rfl) (fun _ _ _ h => h) (Or.inl ⟨by kernel_rfl, ?ha3⟩) (by assumption) ?ra3
    case ha3 => intro W hW; go_simp; all_goals with_reducible rfl
    change wpAnyH _ _ _ _ _ _ _ (Act.put _ (some 30) _) _
    simp only [Act.put, List.setIfInBounds_toArray, List.set_cons_zero, List.set_cons_succ]
    refine wpAnyH_ready (rs := [2]) (by kernel_rfl) (by simp) ?_
    refine AllReadyH.cons rfl (fun KK hK => ?_) AllReadyH.nil
    go_simp
    refine (implEncodeKey_any a m cp gc gt gu gd (some ⟨ba, oa, none⟩) m c1 fk fn fs _ hp hv (by omega) (by omega)).mono ?_
    rw [H1.out]
    rintro e w4a ⟨g1, k1, rfl, hE⟩
    go_wp2_with fail
    refine hK.out _ _ trivial (fun hHeld => ?_)
    clear hK KK
    try simp only [Act.put, List.setIfInBounds_toArray, List.set_cons_zero, List.set_cons_succ]
    have hr1 := hE.row
    have chr1 := hE.le
    have hb := hE.below
    clear hE
    replace hp := hp.below hb
    replace hv := hv.below hb
    replace hv' := hv'.below hb
    replace hvK := hvK.below hb
    replace hvK' := hvK'.below hb
    replace hx := hx.belowAll hb
    replace hB := hB.trans (hb.mono hB.size)
    clear hb
    have hV1 := hr1.view chr1 hby1
    have hVx := hx.view chx hby3
    refine wpAnyH_ready (rs := [4]) (by kernel_rfl) (by simp) ?_
    refine AllReadyH.cons rfl (fun KK hK => ?_) AllReadyH.nil
    go_simp
    refine (begins_any g1 0 L1.length k1 _ X.length cx _ _ _ hV1 hVx (by omega)).mono ?_
    rw [HG.out.b1]
    rintro e w5a ⟨rfl, hb⟩
    go_wp2_with fail
    refine hK.out _ _ trivial (fun hHeld => ?_)
    clear hK KK
    try simp only [Act.put, List.setIfInBounds_toArray, List.set_cons_zero, List.set_cons_succ]
    clear hV1 hVx
    replace hp := hp.below hb
    replace hv := hv.below hb
    replace hv' := hv'.below hb
    replace hvK := hvK.below hb
    replace hvK' := hvK'.below hb
    replace hx := hx.belowAll hb
    replace hr1 := hr1.belowAll hb
    replace hB := hB.trans (hb.mono hB.size)
    clear hb
    refine' wpAnyH_take (i := 5) (v := _) rfl (by kernel_rfl) (by kernel_rfl) (by kernel_rfl) (fun _ _ _ h => h) (Or.inl ⟨by kernel_rfl, ?ha5⟩) (by assumption) ?ra5
    case ha5 => intro W hW; go_simp; all_goals with_reducible rfl
    change wpAnyH _ _ _ _ _ _ _ (Act.put _ (some 32) _) _
    simp only [Act.put, List.setIfInBounds_toArray, List.set_cons_zero, List.set_cons_succ]
    refine' wpAnyH_take (i := 6) (v := _) rfl (by kernel_rfl) (by kernel_rfl) (by kernel_rfl) (fun _ _ _ h => h) (Or.inl ⟨by kernel_rfl, ?ha6⟩) (by assumption) ?ra6
    case ha6 => intro W hW; go_simp; all_goals with_reducible rfl
    change wpAnyH _ _ _ _ _ _ _ (Act.put _ (some 33) _) _
    simp only [Act.put, List.setIfInBounds_toArray, List.set_cons_zero, List.set_cons_succ]
    refine' wpAnyH_take (i := 7) (v := _) rfl (by kernel_rfl) (by kernel_rfl) (by kernel_rfl) (fun _ _ _ h => h) (Or.inl ⟨by kernel_rfl, ?ha7⟩) (by assumption) ?ra7
    case ha7 => intro W hW; go_simp; all_goals with_reducible rfl
    change wpAnyH _ _ _ _ _ _ _ (Act.put _ (some 34) _) _
    simp only [Act.put, List.setIfInBounds_toArray, List.set_cons_zero, List.set_cons_succ]
    refine' wpAnyH_take (i := 9) (v := _) rfl (by kernel_rfl) (by kernel_rfl) (by kernel_rfl) (fun _ _ _ h => h) (Or.inl ⟨by kernel_rfl, ?ha9⟩) (by assumption) ?ra9
    case ha9 => intro W hW; go_simp; all_goals with_reducible rfl
    change wpAnyH _ _ _ _ _ _ _ (Act.put _ (some 36) _) _
    simp only [Act.put, List.setIfInBounds_toArray, List.set_cons_zero, List.set_cons_succ]
    refine' wpAnyH_take (i := 11) (v := _) rfl (by kernel_rfl) (by kernel_rfl) (by kernel_rfl) (fun _ _ _ h => h) (Or.inl ⟨by kernel_rfl, ?ha11⟩) (by assumption) ?ra11
    case ha11 => intro W hW; go_simp; all_goals with_reducible rfl
    change wpAnyH _ _ _ _ _ _ _ (Act.put _ (some 38) _) _
    simp only [Act.put, List.setIfInBounds_toArray, List.set_cons_zero, List.set_cons_succ]
    refine' wpAnyH_take (i := 12) (v := _) rfl (by kernel_rfl) (by kernel_rfl) (by kernel_rfl) (fun _ _ _ h => h) (Or.inl ⟨by kernel_rfl, ?ha12⟩) (by assumption) ?ra12
    case ha12 => intro W hW; go_simp; all_goals with_reducible rfl
    change wpAnyH _ _ _ _ _ _ _ (Act.put _ (some 39) _) _
    simp only [Act.put, List.setIfInBounds_toArray, List.set_cons_zero, List.set_cons_succ]
    refine' wpAnyH_take (i := 13) (v := _) rfl (by kernel_rfl) (by kernel_rfl) (by kernel_rfl) (fun _ _ _ h => h) (Or.inl ⟨by kernel_rfl, ?ha13⟩) (by assumption) ?ra13
    case ha13 => intro W hW; go_simp; all_goals with_reducible rfl
    change wpAnyH _ _ _ _ _ _ _ (Act.put _ (some 40) _) _
    simp only [Act.put, List.setIfInBounds_toArray, List.set_cons_zero, List.set_cons_succ]
    refine' wpAnyH_take (i := 14) (v := _) rfl (by kernel_rfl) (by kernel_rfl) (by kernel_rfl) (fun _ _ _ h => h) (Or.inl ⟨by kernel_rfl, ?ha14⟩) (by assumption) ?ra14
    case ha14 => intro W hW; go_simp; all_goals with_reducible rfl
    change wpAnyH _ _ _ _ _ _ _ (Act.put _ (some 41) _) _
    simp only [Act.put, List.setIfInBounds_toArray, List.set_cons_zero, List.set_cons_succ]
    refine' wpAnyH_take (i := 15) (v := _) rfl (by kernel_rfl) (by kernel_rfl) (by kernel_rfl) (fun _ _ _ h => h) (Or.inl ⟨by kernel_rfl, ?ha15⟩) (by assumption) ?ra15
    case ha15 => intro W hW; go_simp; all_goals with_reducible rfl
    change wpAnyH _ _ _ _ _ _ _ (Act.put _ (some 42) _) _
    simp only [Act.put, List.setIfInBounds_toArray, List.set_cons_zero, List.set_cons_succ]
    refine' wpAnyH_take (i := 16) (v := _) rfl (by kernel_rfl) (by kernel_rfl) (by kernel_rfl) (fun _ _ _ h => h) (Or.inl ⟨by kernel_rfl, ?ha16⟩) (by assumption) ?ra16
    case ha16 => intro W hW; go_simp; all_goals with_reducible rfl
    change wpAnyH _ _ _ _ _ _ _ (Act.put _ (some 43) _) _
    simp only [Act.put, List.setIfInBounds_toArray, List.set_cons_zero, List.set_cons_succ]
    refine wpAnyH_ready (rs := [8]) (by kernel_rfl) (by simp) ?_
    refine AllReadyH.cons rfl (fun KK hK => ?_) AllReadyH.nil
    go_simp
    refine (implEncodeKey_any a m cp gc gt gu gd (some ⟨bb, ob, none⟩) m c2 fk' fn' fs' _ hp hv' (by omega) (by omega)).mono ?_
    rw [H2.out]
    rintro e w6a ⟨g2, k2, rfl, hE⟩
    go_wp2_with fail
    refine hK.out _ _ trivial (fun hHeld => ?_)
    clear hK KK
    try simp only [Act.put, List.setIfInBounds_toArray, List.set_cons_zero, List.set_cons_succ]
    have hr2 := hE.row
    have chr2 := hE.le
    have hb := hE.below
    clear hE
    replace hp := hp.below hb
    replace hv := hv.below hb
    replace hv' := hv'.below hb
    replace hvK := hvK.below hb
    replace hvK' := hvK'.below hb
    replace hx := hx.belowAll hb
    replace hr1 := hr1.belowAll hb
    replace hB := hB.trans (hb.mono hB.size)
    clear hb
    have hV1 := hr2.view chr2 hby2
    have hVx := hx.view chx hby3
    refine wpAnyH_ready (rs := [10]) (by kernel_rfl) (by simp) ?_
    refine AllReadyH.cons rfl (fun KK hK => ?_) AllReadyH.nil
    go_simp
    refine (begins_any g2 0 L2.length k2 _ X.length cx _ _ _ hV1 hVx (by omega)).mono ?_
    rw [HG.out.b2]
    rintro e w7a ⟨rfl, hb⟩
    go_wp2_with fail
    refine hK.out _ _ trivial (fun hHeld => ?_)
    clear hK KK
    try simp only [Act.put, List.setIfInBounds_toArray, List.set_cons_zero, List.set_cons_succ]
    clear hV1 hVx
    replace hp := hp.below hb
    replace hv := hv.below hb
    replace hv' := hv'.below hb
    replace hvK := hvK.below hb
    replace hvK' := hvK'.below hb
    replace hx := hx.belowAll hb
    replace hr1 := hr1.belowAll hb
    replace hr2 := hr2.belowAll hb
    replace hB := hB.trans (hb.mono hB.size)
    clear hb
    refine wpAnyH_ready (rs := [17]) (by kernel_rfl) (by simp) ?_
    refine AllReadyH.cons rfl (fun KK hK => ?_) AllReadyH.nil
    go_simp
    refine (sameRow_impl (some ⟨ba, oa, none⟩) (some ⟨bb, ob, none⟩) K K c1 c2 fk fn fs fk' fn' fs' _ hvK hvK' (by omega) (by omega)).mono ?_
    rw [HS.out]
    rintro e w8a ⟨rfl, hb⟩
    go_wp2_with fail
    refine hK.out _ _ trivial (fun hHeld => ?_)
    clear hK KK
    try simp only [Act.put, List.setIfInBounds_toArray, List.set_cons_zero, List.set_cons_succ]
    replace hp := hp.below hb
    replace hv := hv.below hb
    replace hv' := hv'.below hb
    replace hvK := hvK.below hb
    replace hvK' := hvK'.below hb
    replace hx := hx.belowAll hb
    replace hr1 := hr1.belowAll hb
    replace hr2 := hr2.belowAll hb
    replace hB := hB.trans (hb.mono hB.size)
    clear hb
    refine' wpAnyH_take (i := 18) (v := _) rfl (by kernel_rfl) (by kernel_rfl) (by kernel_rfl) (fun _ _ _ h => h) (Or.inl ⟨by kernel_rfl, ?ha18⟩) (by assumption) ?ra18
    case ha18 => intro W hW; go_simp; all_goals with_reducible rfl
    change wpAnyH _ _ _ _ _ _ _ (Act.put _ (some 45) _) _
    simp only [Act.put, List.setIfInBounds_toArray, List.set_cons_zero, List.set_cons_succ]
    refine' wpAnyH_take (i := 19) (v := _) rfl (by kernel_rfl) (by kernel_rfl) (by kernel_rfl) (fun _ _ _ h => h) (Or.inl ⟨by kernel_rfl, ?ha19⟩) (by assumption) ?ra19
    case ha19 => intro W hW; go_simp; all_goals with_reducible rfl
    change wpAnyH _ _ _ _ _ _ _ (Act.put _ (some 46) _) _
    simp only [Act.put, List.setIfInBounds_toArray, List.set_cons_zero, List.set_cons_succ]
    refine' wpAnyH_take (i := 20) (v := _) rfl (by kernel_rfl) (by kernel_rfl) (by kernel_rfl) (fun _ _ _ h => h) (Or.inl ⟨by kernel_rfl, ?ha20⟩) (by assumption) ?ra20
    case ha20 => intro W hW; go_simp; all_goals with_reducible rfl
    change wpAnyH _ _ _ _ _ _ _ (Act.put _ (some 47) _) _
    simp only [Act.put, List.setIfInBounds_toArray, List.set_cons_zero, List.set_cons_succ]
    refine' wpAnyH_take (i := 21) (v := _) rfl (by kernel_rfl) (by kernel_rfl) (by kernel_rfl) (fun _ _ _ h => h) (Or.inl ⟨by kernel_rfl, ?ha21⟩) (by assumption) ?ra21
    case ha21 => intro W hW; go_simp; all_goals with_reducible rfl
    change wpAnyH _ _ _ _ _ _ _ (Act.put _ (some 48) _) _
    simp only [Act.put, List.setIfInBounds_toArray, List.set_cons_zero, List.set_cons_succ]
    refine' wpAnyH_take (i := 22) (v := _) rfl (by kernel_rfl) (by kernel_rfl) (by kernel_rfl) (fun _ _ _ h => h) (Or.inl ⟨by kernel_rfl, ?ha22⟩) (by assumption) ?ra22
    case ha22 => intro W hW; go_simp; all_goals with_reducible rfl
    change wpAnyH _ _ _ _ _ _ _ (Act.put _ (some 49) _) _
    simp only [Act.put, List.setIfInBounds_toArray, List.set_cons_zero, List.set_cons_succ]
    refine' wpAnyH_take (i := 23) (v := _) rfl (by kernel_rfl) (by kernel_rfl) (by kernel_rfl) (fun _ _ _ h => h) (Or.inl ⟨by kernel_rfl, ?ha23⟩) (by assumption) ?ra23
    case ha23 => intro W hW; go_simp; all_goals with_reducible rfl
    change wpAnyH _ _ _ _ _ _ _ (Act.put _ (some 50) _) _
    simp only [Act.put, List.setIfInBounds_toArray, List.set_cons_zero, List.set_cons_succ]
    have hKMz := HKM.out
    refine' wpAnyH_take (i := 24) (v := _) rfl (by kernel_rfl) (by kernel_rfl) (by kernel_rfl) (fun _ _ _ h => h) (Or.inl ⟨by kernel_rfl, ?ha24⟩) (by assumption) ?ra24
    case ha24 => intro W hW; go_simp; all_goals with_reducible rfl
    change wpAnyH _ _ _ _ _ _ _ (Act.put _ (some 51) _) _
    simp only [Act.put, List.setIfInBounds_toArray, List.set_cons_zero, List.set_cons_succ]
    clear hKMz
    refine' wpAnyH_take (i := 25) (v := _) rfl (by kernel_rfl) (by kernel_rfl) (by kernel_rfl) (fun _ _ _ h => h) (Or.inl ⟨by kernel_rfl, ?ha25⟩) (by assumption) ?ra25
    case ha25 => intro W hW; go_simp; all_goals with_reducible rfl
    change wpAnyH _ _ _ _ _ _ _ (Act.put _ (some 52) _) _
    simp only [Act.put, List.setIfInBounds_toArray, List.set_cons_zero, List.set_cons_succ]
    refine' wpAnyH_take (i := 26) (v := _) rfl (by kernel_rfl) (by kernel_rfl) (by kernel_rfl) (fun _ _ _ h => h) (Or.inl ⟨by kernel_rfl, ?ha26⟩) (by assumption) ?ra26
    case ha26 => intro W hW; go_simp; all_goals with_reducible rfl
    change wpAnyH _ _ _ _ _ _ _ (Act.put _ (some 53) _) _
    simp only [Act.put, List.setIfInBounds_toArray, List.set_cons_zero, List.set_cons_succ]
    refine' wpAnyH_take (i := 27) (v := _) rfl (by kernel_rfl) (by kernel_rfl) (by kernel_rfl) (fun _ _ _ h => h) (Or.inl ⟨by kernel_rfl, ?ha27⟩) (by assumption) ?ra27
    case ha27 => intro W hW; go_simp; all_goals with_reducible rfl
    change wpAnyH _ _ _ _ _ _ _ (Act.put _ (some 54) _) _
    simp only [Act.put, List.setIfInBounds_toArray, List.set_cons_zero, List.set_cons_succ]
    refine' wpAnyH_take (i := 28) (v := _) rfl (by kernel_rfl) (by kernel_rfl) (by kernel_rfl) (fun _ _ _ h => h) (Or.inl ⟨by kernel_rfl, ?ha28⟩) (by assumption) ?ra28
    case ha28 => intro W hW; go_simp; all_goals with_reducible rfl
    change wpAnyH _ _ _ _ _ _ _ (Act.put _ (some 55) _) _
    simp only [Act.put, List.setIfInBounds_toArray, List.set_cons_zero, List.set_cons_succ]
    refine wpAnyH_ready (rs := [29]) (by kernel_rfl) (by simp) ?_
    refine AllReadyH.cons rfl (fun KK hK => ?_) AllReadyH.nil
    go_simp
    refine (implEncodeKey_any a m cp gc gt gu gd (some ⟨ba, oa, none⟩) m c1 fk fn fs _ hp hv (by omega) (by omega)).mono ?_
    rw [H1.out]
    rintro e w9a ⟨g3, k3, rfl, hE⟩
    go_wp2_with fail
    refine hK.out _ _ trivial (fun hHeld => ?_)
    clear hK KK
    try simp only [Act.put, List.setIfInBounds_toArray, List.set_cons_zero, List.set_cons_succ]
    have hr3 := hE.row
    have chr3 := hE.le
    have hb := hE.below
    clear hE
    replace hp := hp.below hb
    replace hv := hv.below hb
    replace hv' := hv'.below hb
    replace hvK := hvK.below hb
    replace hvK' := hvK'.below hb
    replace hx := hx.belowAll hb
    replace hr1 := hr1.belowAll hb
    replace hr2 := hr2.belowAll hb
    replace hB := hB.trans (hb.mono hB.size)
    clear hb
    refine' wpAnyH_take (i := 30) (v := _) rfl (by kernel_rfl) (by kernel_rfl) (by kernel_rfl) (fun _ _ _ h => h) (Or.inl ⟨by kernel_rfl, ?ha30⟩) (by assumption) ?ra30
    case ha30 => intro W hW; go_simp; all_goals with_reducible rfl
    change wpAnyH _ _ _ _ _ _ _ (Act.put _ (some 57) _) _
    simp only [Act.put, List.setIfInBounds_toArray, List.set_cons_zero, List.set_cons_succ]
    have hlz := HLZ.out
    refine' wpAnyH_take (i := 31) (v := _) rfl (by kernel_rfl) (by kernel_rfl) (by kernel_rfl) (fun _ _ _ h => h) (Or.inl ⟨by kernel_rfl, ?ha31⟩) (by assumption) ?ra31
    case ha31 => intro W hW; go_simp; all_goals with_reducible rfl
    change wpAnyH _ _ _ _ _ _ _ (Act.put _ (some 58) _) _
    simp only [Act.put, List.setIfInBounds_toArray, List.set_cons_zero, List.set_cons_succ]
    clear hlz
    refine' wpAnyH_take (i := 32) (v := _) rfl (by kernel_rfl) (by kernel_rfl) (by kernel_rfl) (fun _ _ _ h => h) (Or.inl ⟨by kernel_rfl, ?ha32⟩) (by assumption) ?ra32
    case ha32 => intro W hW; go_simp; all_goals with_reducible rfl
    change wpAnyH _ _ _ _ _ _ _ (Act.put _ (some 59) _) _
    simp only [Act.put, List.setIfInBounds_toArray, List.set_cons_zero, List.set_cons_succ]
    refine' wpAnyH_take (i := 33) (v := _) rfl (by kernel_rfl) (by kernel_rfl) (by kernel_rfl) (fun _ _ _ h => h) (Or.inl ⟨by kernel_rfl, ?ha33⟩) (by assumption) ?ra33
    case ha33 => intro W hW; go_simp; all_goals with_reducible rfl
    change wpAnyH _ _ _ _ _ _ _ (Act.put _ (some 60) _) _
    simp only [Act.put, List.setIfInBounds_toArray, List.set_cons_zero, List.set_cons_succ]
    refine' wpAnyH_take (i := 34) (v := _) rfl (by kernel_rfl) (by kernel_rfl) (by kernel_rfl) (fun _ _ _ h => h) (Or.inl ⟨by kernel_rfl, ?ha34⟩) (by assumption) ?ra34
    case ha34 => intro W hW; go_simp; all_goals with_reducible rfl
    change wpAnyH _ _ _ _ _ _ _ (Act.put _ (some 2) _) _
    simp only [Act.put, List.setIfInBounds_toArray, List.set_cons_zero, List.set_cons_succ]
    refine wpAnyH_done (by kernel_rfl) ?_ _
    go_wp2
    go_ret
    exact ⟨rfl, hB⟩
  · have hl : ¬ X.length = L1.length := HG.out.less hKM
    have HKM : Hid (((K : Int) == (m : Int)) = false) := by show _ = _; simp; omega
    have HLZ : Hid (((X.length : Int) == (L1.length : Int)) = false) := by show _ = _; simp; omega
    clear hl hKM
    refine wp_region_held_drew (S := fun _ => True) (by kernel_rfl) (trivial) (fun hHeld => ?_)
    have hb : Below w3.heap.size w3 w3.drew := (Below.refl _ _).drew
    replace hp := hp.below hb
    replace hv := hv.below hb
    replace hv' := hv'.below hb
    replace hvK := hvK.below hb
    replace hvK' := hvK'.below hb
    replace hx := hx.belowAll hb
    replace hB := hB.trans (hb.mono hB.size)
    clear hb
    refine' wpAnyH_take (i := 0) (v := _) rfl (by kernel_rfl) (by kernel_rfl) (by kernel_rfl) (fun _ _ _ h => h) (Or.inl ⟨by kernel_rfl, ?hb0⟩) (by assumption) ?rb0
    case hb0 => intro W hW; go_simp; all_goals with_reducible rfl
    change wpAnyH _ _ _ _ _ _ _ (Act.put _ (some 27) _) _
    simp only [Act.put, List.setIfInBounds_toArray, List.set_cons_zero, List.set_cons_succ]
    refine' wpAnyH_take (i := 1) (v := _) rfl (by kernel_rfl) (by kernel_rfl) (by kernel_rfl) (fun _ _ _ h => h) (Or.inl ⟨by kernel_rfl, ?hb1⟩) (by assumption) ?rb1
    case hb1 => intro W hW; go_simp; all_goals with_reducible rfl
    change wpAnyH _ _ _ _ _ _ _ (Act.put _ (some 28) _) _
    simp only [Act.put, List.setIfInBounds_toArray, List.set_cons_zero, List.set_cons_succ]
    refine' wpAnyH_take (i := 3) (v := _) rfl (by kernel_rfl) (by kernel_rfl) (by kernel_rfl) (fun _ _ _ h => h) (Or.inl ⟨by kernel_rfl, ?hb3⟩) (by assumption) ?rb3
    case hb3 => intro W hW; go_simp; all_goals with_reducible rfl
    change wpAnyH _ _ _ _ _ _ _ (Act.put _ (some 30) _) _
    simp only [Act.put, List.setIfInBounds_toArray, List.set_cons_zero, List.set_cons_succ]
    refine wpAnyH_ready (rs := [2]) (by kernel_rfl) (by simp) ?_
    refine AllReadyH.cons rfl (fun KK hK => ?_) AllReadyH.nil
    go_simp
    refine (implEncodeKey_any a m cp gc gt gu gd (some ⟨ba, oa, none⟩) m c1 fk fn fs _ hp hv (by omega) (by omega)).mono ?_
    rw [H1.out]
    rintro e w4b ⟨g1, k1, rfl, hE⟩
    go_wp2_with fail
    refine hK.out _ _ trivial (fun hHeld => ?_)
    clear hK KK
    try simp only [Act.put, List.setIfInBounds_toArray, List.set_cons_zero, List.set_cons_succ]
    have hr1 := hE.row
    have chr1 := hE.le
    have hb := hE.below
    clear hE
    replace hp := hp.below hb
    replace hv := hv.below hb
    replace hv' := hv'.below hb
    replace hvK := hvK.below hb
    replace hvK' := hvK'.below hb
    replace hx := hx.belowAll hb
    replace hB := hB.trans (hb.mono hB.size)
    clear hb
    have hV1 := hr1.view chr1 hby1
    have hVx := hx.view chx hby3
    refine wpAnyH_ready (rs := [4]) (by kernel_rfl) (by simp) ?_
    refine AllReadyH.cons rfl (fun KK hK => ?_) AllReadyH.nil
    go_simp
    refine (begins_any g1 0 L1.length k1 _ X.length cx _ _ _ hV1 hVx (by omega)).mono ?_
    rw [HG.out.b1]
    rintro e w5b ⟨rfl, hb⟩
    go_wp2_with fail
    refine hK.out _ _ trivial (fun hHeld => ?_)
    clear hK KK
    try simp only [Act.put, List.setIfInBounds_toArray, List.set_cons_zero, List.set_cons_succ]
    clear hV1 hVx
    replace hp := hp.below hb
    replace hv := hv.below hb
    replace hv' := hv'.below hb
    replace hvK := hvK.below hb
    replace hvK' := hvK'.below hb
    replace hx := hx.belowAll hb
    replace hr1 := hr1.belowAll hb
    replace hB := hB.trans (hb.mono hB.size)
    clear hb
    refine' wpAnyH_take (i := 5) (v := _) rfl (by kernel_rfl) (by kernel_rfl) (by kernel_rfl) (fun _ _ _ h => h) (Or.inl ⟨by kernel_rfl, ?hb5⟩) (by assumption) ?rb5
    case hb5 => intro W hW; go_simp; all_goals with_reducible rfl
    change wpAnyH _ _ _ _ _ _ _ (Act.put _ (some 32) _) _
    simp only [Act.put, List.setIfInBounds_toArray, List.set_cons_zero, List.set_cons_succ]
    refine' wpAnyH_take (i := 6) (v := _) rfl (by kernel_rfl) (by kernel_rfl) (by kernel_rfl) (fun _ _ _ h => h) (Or.inl ⟨by kernel_rfl, ?hb6⟩) (by assumption) ?rb6
    case hb6 => intro W hW; go_simp; all_goals with_reducible rfl
    change wpAnyH _ _ _ _ _ _ _ (Act.put _ (some 33) _) _
    simp only [Act.put, List.setIfInBounds_toArray, List.set_cons_zero, List.set_cons_succ]
    refine' wpAnyH_take (i := 7) (v := _) rfl (by kernel_rfl) (by kernel_rfl) (by kernel_rfl) (fun _ _ _ h => h) (Or.inl ⟨by kernel_rfl, ?hb7⟩) (by assumption) ?rb7
    case hb7 => intro W hW; go_simp; all_goals with_reducible rfl
    change wpAnyH _ _ _ _ _ _ _ (Act.put _ (some 34) _) _
    simp only [Act.put, List.setIfInBounds_toArray, List.set_cons_zero, List.set_cons_succ]
    refine' wpAnyH_take (i := 9) (v := _) rfl (by kernel_rfl) (by kernel_rfl) (by kernel_rfl) (fun _ _ _ h => h) (Or.inl ⟨by kernel_rfl, ?hb9⟩) (by assumption) ?rb9
    case hb9 => intro W hW; go_simp; all_goals with_reducible rfl
    change wpAnyH _ _ _ _ _ _ _ (Act.put _ (some 36) _) _
    simp only [Act.put, List.setIfInBounds_toArray, List.set_cons_zero, List.set_cons_succ]
    refine' wpAnyH_take (i := 11) (v := _) rfl (by kernel_rfl) (by kernel_rfl) (by kernel_rfl) (fun _ _ _ h => h) (Or.inl ⟨by kernel_rfl, ?hb11⟩) (by assumption) ?rb11
    case hb11 => intro W hW; go_simp; all_goals with_reducible rfl
    change wpAnyH _ _ _ _ _ _ _ (Act.put _ (some 38) _) _
    simp only [Act.put, List.setIfInBounds_toArray, List.set_cons_zero, List.set_cons_succ]
    refine' wpAnyH_take (i := 12) (v := _) rfl (by kernel_rfl) (by kernel_rfl) (by kernel_rfl) (fun _ _ _ h => h) (Or.inl ⟨by kernel_rfl, ?hb12⟩) (by assumption) ?rb12
    case hb12 => intro W hW; go_simp; all_goals with_reducible rfl
    change wpAnyH _ _ _ _ _ _ _ (Act.put _ (some 39) _) _
    simp only [Act.put, List.setIfInBounds_toArray, List.set_cons_zero, List.set_cons_succ]
    refine' wpAnyH_take (i := 13) (v := _) rfl (by kernel_rfl) (by kernel_rfl) (by kernel_rfl) (fun _ _ _ h => h) (Or.inl ⟨by kernel_rfl, ?hb13⟩) (by assumption) ?rb13
    case hb13 => intro W hW; go_simp; all_goals with_reducible rfl
    change wpAnyH _ _ _ _ _ _ _ (Act.put _ (some 40) _) _
    simp only [Act.put, List.setIfInBounds_toArray, List.set_cons_zero, List.set_cons_succ]
    refine' wpAnyH_take (i := 14) (v := _) rfl (by kernel_rfl) (by kernel_rfl) (by kernel_rfl) (fun _ _ _ h => h) (Or.inl ⟨by kernel_rfl, ?hb14⟩) (by assumption) ?rb14
    case hb14 => intro W hW; go_simp; all_goals with_reducible rfl
    change wpAnyH _ _ _ _ _ _ _ (Act.put _ (some 41) _) _
    simp only [Act.put, List.setIfInBounds_toArray, List.set_cons_zero, List.set_cons_succ]
    refine' wpAnyH_take (i := 15) (v := _) rfl (by kernel_rfl) (by kernel_rfl) (by kernel_rfl) (fun _ _ _ h => h) (Or.inl ⟨by kernel_rfl, ?hb15⟩) (by assumption) ?rb15
    case hb15 => intro W hW; go_simp; all_goals with_reducible rfl
    change wpAnyH _ _ _ _ _ _ _ (Act.put _ (some 42) _) _
    simp only [Act.put, List.setIfInBounds_toArray, List.set_cons_zero, List.set_cons_succ]
    refine' wpAnyH_take (i := 16) (v := _) rfl (by kernel_rfl) (by kernel_rfl) (by kernel_rfl) (fun _ _ _ h => h) (Or.inl ⟨by kernel_rfl, ?hb16⟩) (by assumption) ?rb16
    case hb16 => intro W hW; go_simp; all_goals with_reducible rfl
    change wpAnyH _ _ _ _ _ _ _ (Act.put _ (some 43) _) _
    simp only [Act.put, List.setIfInBounds_toArray, List.set_cons_zero, List.set_cons_succ]
    refine wpAnyH_ready (rs := [8]) (by kernel_rfl) (by simp) ?_
    refine AllReadyH.cons rfl (fun KK hK => ?_) AllReadyH.nil
    go_simp
    refine (implEncodeKey_any a m cp gc gt gu gd (some ⟨bb, ob, none⟩) m c2 fk' fn' fs' _ hp hv' (by omega) (by omega)).mono ?_
    rw [H2.out]
    rintro e w6b ⟨g2, k2, rfl, hE⟩
    go_wp2_with fail
    refine hK.out _ _ trivial (fun hHeld => ?_)
    clear hK KK
    try simp only [Act.put, List.setIfInBounds_toArray, List.set_cons_zero, List.set_cons_succ]
    have hr2 := hE.row
    have chr2 := hE.le
    have hb := hE.below
    clear hE
    replace hp := hp.below hb
    replace hv := hv.below hb
    replace hv' := hv'.below hb
    replace hvK := hvK.below hb
    replace hvK' := hvK'.below hb
    replace hx := hx.belowAll hb
    replace hr1 := hr1.belowAll hb
    replace hB := hB.trans (hb.mono hB.size)
    clear hb
    have hV1 := hr2.view chr2 hby2
    have hVx := hx.view chx hby3
    refine wpAnyH_ready (rs := [10]) (by kernel_rfl) (by simp) ?_
    refine AllReadyH.cons rfl (fun KK hK => ?_) AllReadyH.nil
    go_simp
    refine (begins_any g2 0 L2.length k2 _ X.length cx _ _ _ hV1 hVx (by omega)).mono ?_
    rw [HG.out.b2]
    rintro e w7b ⟨rfl, hb⟩
    go_wp2_with fail
    refine hK.out _ _ trivial (fun hHeld => ?_)
    clear hK KK
    try simp only [Act.put, List.setIfInBounds_toArray, List.set_cons_zero, List.set_cons_succ]
    clear hV1 hVx
    replace hp := hp.below hb
    replace hv := hv.below hb
    replace hv' := hv'.below hb
    replace hvK := hvK.below hb
    replace hvK' := hvK'.below hb
    replace hx := hx.belowAll hb
    replace hr1 := hr1.belowAll hb
    replace hr2 := hr2.belowAll hb
    replace hB := hB.trans (hb.mono hB.size)
    clear hb
    refine wpAnyH_ready (rs := [17]) (by kernel_rfl) (by simp) ?_
    refine AllReadyH.cons rfl (fun KK hK => ?_) AllReadyH.nil
    go_simp
    refine (sameRow_impl (some ⟨ba, oa, none⟩) (some ⟨bb, ob, none⟩) K K c1 c2 fk fn fs fk' fn' fs' _ hvK hvK' (by omega) (by omega)).mono ?_
    rw [HS.out]
    rintro e w8b ⟨rfl, hb⟩
    go_wp2_with fail
    refine hK.out _ _ trivial (fun hHeld => ?_)
    clear hK KK
    try simp only [Act.put, List.setIfInBounds_toArray, List.set_cons_zero, List.set_cons_succ]
    replace hp := hp.below hb
    replace hv := hv.below hb
    replace hv' := hv'.below hb
    replace hvK := hvK.below hb
    replace hvK' := hvK'.below hb
    replace hx := hx.belowAll hb
    replace hr1 := hr1.belowAll hb
    replace hr2 := hr2.belowAll hb
    replace hB := hB.trans (hb.mono hB.size)
    clear hb
    refine' wpAnyH_take (i := 18) (v := _) rfl (by kernel_rfl) (by kernel_rfl) (by kernel_rfl) (fun _ _ _ h => h) (Or.inl ⟨by kernel_rfl, ?hb18⟩) (by assumption) ?rb18
    case hb18 => intro W hW; go_simp; all_goals with_reducible rfl
    change wpAnyH _ _ _ _ _ _ _ (Act.put _ (some 45) _) _
    simp only [Act.put, List.setIfInBounds_toArray, List.set_cons_zero, List.set_cons_succ]
    refine' wpAnyH_take (i := 19) (v := _) rfl (by kernel_rfl) (by kernel_rfl) (by kernel_rfl) (fun _ _ _ h => h) (Or.inl ⟨by kernel_rfl, ?hb19⟩) (by assumption) ?rb19
    case hb19 => intro W hW; go_simp; all_goals with_reducible rfl
    change wpAnyH _ _ _ _ _ _ _ (Act.put _ (some 46) _) _
    simp only [Act.put, List.setIfInBounds_toArray, List.set_cons_zero, List.set_cons_succ]
    refine' wpAnyH_take (i := 20) (v := _) rfl (by kernel_rfl) (by kernel_rfl) (by kernel_rfl) (fun _ _ _ h => h) (Or.inl ⟨by kernel_rfl, ?hb20⟩) (by assumption) ?rb20
    case hb20 => intro W hW; go_simp; all_goals with_reducible rfl
    change wpAnyH _ _ _ _ _ _ _ (Act.put _ (some 47) _) _
    simp only [Act.put, List.setIfInBounds_toArray, List.set_cons_zero, List.set_cons_succ]
    refine' wpAnyH_take (i := 21) (v := _) rfl (by kernel_rfl) (by kernel_rfl) (by kernel_rfl) (fun _ _ _ h => h) (Or.inl ⟨by kernel_rfl, ?hb21⟩) (by assumption) ?rb21
    case hb21 => intro W hW; go_simp; all_goals with_reducible rfl
    change wpAnyH _ _ _ _ _ _ _ (Act.put _ (some 48) _) _
    simp only [Act.put, List.setIfInBounds_toArray, List.set_cons_zero, List.set_cons_succ]
    refine' wpAnyH_take (i := 22) (v := _) rfl (by kernel_rfl) (by kernel_rfl) (by kernel_rfl) (fun _ _ _ h => h) (Or.inl ⟨by kernel_rfl, ?hb22⟩) (by assumption) ?rb22
    case hb22 => intro W hW; go_simp; all_goals with_reducible rfl
    change wpAnyH _ _ _ _ _ _ _ (Act.put _ (some 49) _) _
    simp only [Act.put, List.setIfInBounds_toArray, List.set_cons_zero, List.set_cons_succ]
    refine' wpAnyH_take (i := 23) (v := _) rfl (by kernel_rfl) (by kernel_rfl) (by kernel_rfl) (fun _ _ _ h => h) (Or.inl ⟨by kernel_rfl, ?hb23⟩) (by assumption) ?rb23
    case hb23 => intro W hW; go_simp; all_goals with_reducible rfl
    change wpAnyH _ _ _ _ _ _ _ (Act.put _ (some 50) _) _
    simp only [Act.put, List.setIfInBounds_toArray, List.set_cons_zero, List.set_cons_succ]
    have hKMz := HKM.out
    refine' wpAnyH_take (i := 24) (v := _) rfl (by kernel_rfl) (by kernel_rfl) (by kernel_rfl) (fun _ _ _ h => h) (Or.inl ⟨by kernel_rfl, ?hb24⟩) (by assumption) ?rb24
    case hb24 => intro W hW; go_simp; all_goals with_reducible rfl
    change wpAnyH _ _ _ _ _ _ _ (Act.put _ (some 51) _) _
    simp only [Act.put, List.setIfInBounds_toArray, List.set_cons_zero, List.set_cons_succ]
    clear hKMz
    refine' wpAnyH_take (i := 25) (v := _) rfl (by kernel_rfl) (by kernel_rfl) (by kernel_rfl) (fun _ _ _ h => h) (Or.inl ⟨by kernel_rfl, ?hb25⟩) (by assumption) ?rb25
    case hb25 => intro W hW; go_simp; all_goals with_reducible rfl
    change wpAnyH _ _ _ _ _ _ _ (Act.put _ (some 52) _) _
    simp only [Act.put, List.setIfInBounds_toArray, List.set_cons_zero, List.set_cons_succ]
    refine' wpAnyH_take (i := 26) (v := _) rfl (by kernel_rfl) (by kernel_rfl) (by kernel_rfl) (fun _ _ _ h => h) (Or.inl ⟨by kernel_rfl, ?hb26⟩) (by assumption) ?rb26
    case hb26 => intro W hW; go_simp; all_goals with_reducible rfl
    change wpAnyH _ _ _ _ _ _ _ (Act.put _ (some 53) _) _
    simp only [Act.put, List.setIfInBounds_toArray, List.set_cons_zero, List.set_cons_succ]
    refine' wpAnyH_take (i := 27) (v := _) rfl (by kernel_rfl) (by kernel_rfl) (by kernel_rfl) (fun _ _ _ h => h) (Or.inl ⟨by kernel_rfl, ?hb27⟩) (by assumption) ?rb27
    case hb27 => intro W hW; go_simp; all_goals with_reducible rfl
    change wpAnyH _ _ _ _ _ _ _ (Act.put _ (some 54) _) _
    simp only [Act.put, List.setIfInBounds_toArray, List.set_cons_zero, List.set_cons_succ]
    refine' wpAnyH_take (i := 28) (v := _) rfl (by kernel_rfl) (by kernel_rfl) (by kernel_rfl) (fun _ _ _ h => h) (Or.inl ⟨by kernel_rfl, ?hb28⟩) (by assumption) ?rb28
    case hb28 => intro W hW; go_simp; all_goals with_reducible rfl
    change wpAnyH _ _ _ _ _ _ _ (Act.put _ (some 55) _) _
    simp only [Act.put, List.setIfInBounds_toArray, List.set_cons_zero, List.set_cons_succ]
    refine wpAnyH_ready (rs := [29]) (by kernel_rfl) (by simp) ?_
    refine AllReadyH.cons rfl (fun KK hK => ?_) AllReadyH.nil
    go_simp
    refine (implEncodeKey_any a m cp gc gt gu gd (some ⟨ba, oa, none⟩) m c1 fk fn fs _ hp hv (by omega) (by omega)).mono ?_
    rw [H1.out]
    rintro e w9b ⟨g3, k3, rfl, hE⟩
    go_wp2_with fail
    refine hK.out _ _ trivial (fun hHeld => ?_)
    clear hK KK
    try simp only [Act.put, List.setIfInBounds_toArray, List.set_cons_zero, List.set_cons_succ]
    have hr3 := hE.row
    have chr3 := hE.le
    have hb := hE.below
    clear hE
    replace hp := hp.below hb
    replace hv := hv.below hb
    replace hv' := hv'.below hb
    replace hvK := hvK.below hb
    replace hvK' := hvK'.below hb
    replace hx := hx.belowAll hb
    replace hr1 := hr1.belowAll hb
    replace hr2 := hr2.belowAll hb
    replace hB := hB.trans (hb.mono hB.size)
    clear hb
    refine' wpAnyH_take (i := 30) (v := _) rfl (by kernel_rfl) (by kernel_rfl) (by kernel_rfl) (fun _ _ _ h => h) (Or.inl ⟨by kernel_rfl, ?hb30⟩) (by assumption) ?rb30
    case hb30 => intro W hW; go_simp; all_goals with_reducible rfl
    change wpAnyH _ _ _ _ _ _ _ (Act.put _ (some 57) _) _
    simp only [Act.put, List.setIfInBounds_toArray, List.set_cons_zero, List.set_cons_succ]
    have hlz := HLZ.out
    refine' wpAnyH_take (i := 31) (v := _) rfl (by kernel_rfl) (by kernel_rfl) (by kernel_rfl) (fun _ _ _ h => h) (Or.inl ⟨by kernel_rfl, ?hb31⟩) (by assumption) ?rb31
    case hb31 => intro W hW; go_simp; all_goals with_reducible rfl
    change wpAnyH _ _ _ _ _ _ _ (Act.put _ (some 58) _) _
    simp only [Act.put, List.setIfInBounds_toArray, List.set_cons_zero, List.set_cons_succ]
    clear hlz
    refine' wpAnyH_take (i := 32) (v := _) rfl (by kernel_rfl) (by kernel_rfl) (by kernel_rfl) (fun _ _ _ h => h) (Or.inl ⟨by kernel_rfl, ?hb32⟩) (by assumption) ?rb32
    case hb32 => intro W hW; go_simp; all_goals with_reducible rfl
    change wpAnyH _ _ _ _ _ _ _ (Act.put _ (some 59) _) _
    simp only [Act.put, List.setIfInBounds_toArray, List.set_cons_zero, List.set_cons_succ]
    refine' wpAnyH_take (i := 33) (v := _) rfl (by kernel_rfl) (by kernel_rfl) (by kernel_rfl) (fun _ _ _ h => h) (Or.inl ⟨by kernel_rfl, ?hb33⟩) (by assumption) ?rb33
    case hb33 => intro W hW; go_simp; all_goals with_reducible rfl
    change wpAnyH _ _ _ _ _ _ _ (Act.put _ (some 60) _) _
    simp only [Act.put, List.setIfInBounds_toArray, List.set_cons_zero, List.set_cons_succ]
    refine' wpAnyH_take (i := 34) (v := _) rfl (by kernel_rfl) (by kernel_rfl) (by kernel_rfl) (fun _ _ _ h => h) (Or.inl ⟨by kernel_rfl, ?hb34⟩) (by assumption) ?rb34
    case hb34 => intro W hW; go_simp; all_goals with_reducible rfl
    change wpAnyH _ _ _ _ _ _ _ (Act.put _ (some 2) _) _
    simp only [Act.put, List.setIfInBounds_toArray, List.set_cons_zero, List.set_cons_succ]
    refine wpAnyH_done (by kernel_rfl) ?_ _
    go_wp2
    go_ret
    exact ⟨rfl, hB⟩
end Go.Proofs.Ytclegljalndaeac

