/-
  Together: LawChecks, LaidDef
-/
import Derived.Test.YtfjlmkphncigladGreatDoorPack3
import Derived.Test.YtfjlmkphncigladGreatDoorPack6
import Derived.Test.YtfjlmkphncigladGreatDoorPack7
import Derived.Test.YtfjlmkphncigladGreatDoorPack8
import Derived.Test.YtfjlmkphncigladGreatDoorPack4
import Derived.Test.YtfjlmkphncigladGreatDoorRows
import Derived.LaidHandle
import Derived.LaidLaws
import Derived.Lib.LaidTab
import Derived.ChangeArms
/-
  The law FnChecks, walked.
-/
namespace Go.Proofs.YtfjlmkphncigladGreatDoor
open Go.RowKit
set_option maxRecDepth 4000

set_option maxRecDepth 20000 in
set_option maxHeartbeats 8000000 in
theorem lawChecks (ao : Option Addr) (n cap : Nat) (f : Nat → Int) (w : World) (hv : View w ao n cap f) (hlen : n ≤ 9223372036854775807) (hE : ErrT w) (hY : TyN w) :
    Calls Tryz.prog 3 #[.slice ao n cap] w fun e w' => e = .returned (.bool true) ∧ Below w.heap.size w w' := by
  by_cases hbig : (1048576 : Int) < (n : Int)
  · go_enter Tryz.func3, Tryz.ntmps3
    go_wp2_with fail
    refine (big_any ao n cap w hlen).mono ?_
    rw [decide_eq_true hbig]
    rintro e _ ⟨rfl, rfl⟩
    go_wp2
    go_ret
    exact ⟨rfl, Below.refl _ _⟩
  have hN : n ≤ 1048576 := by omega
  go_enter Tryz.func3, Tryz.ntmps3
  go_wp2_with fail
  refine (big_any ao n cap w hlen).mono ?_
  rw [decide_eq_false (by omega : ¬ (1048576 : Int) < (n : Int))]
  rintro e _ ⟨rfl, rfl⟩
  clear hbig
  go_wp2_with fail
  refine (drawCheckDef_any ao n cap f w hN hv).mono ?_
  rintro e w1 ⟨s, a, b, c, a1, a2, b1, b2, c1, c2, E, rfl, ⟨hD, smE⟩, hB1⟩
  have hfE := smE.fine
  clear smE
  replace hE := hE.below hB1
  replace hY := hY.below hB1
  obtain ⟨x, HX⟩ : ∃ x, Hid (checkF E = x) := ⟨_, rfl⟩
  by_cases hx : x = 0
  · subst hx
    go_wp2_with fail
    have hd := V4.new w1 28 (.string s) (.slice a a1 a2) (.slice b b1 b2) (.slice c c1 c2)
    have hX : Below w1.heap.size w1 (w1.alloc (.cells #[.string s, .slice a a1 a2, .slice b b1 b2, .slice c c1 c2] 28)) := (Below.refl _ _).alloc (Nat.le_refl _) _
    replace hD := hD.below hX
    replace hE := hE.below hX
    replace hY := hY.below hX
    have hB2 := hB1.trans (hX.mono hB1.size)
    have hI := implCheck_any _ E _ hD hfE hE
    rw [HX.out] at hI
    clear hX
    refine hI.mono ?_
    rintro e w3 ⟨rfl, hX⟩
    replace hd := hd.below hX
    replace hD := hD.below hX
    replace hE := hE.below hX
    replace hY := hY.below hX
    replace hB2 := hB2.trans (hX.mono hB2.size)
    have hv3 := hv.below hB2
    clear hX hI
    go_wp2_with fail
    refine (drawSameDef_any ao n cap f w3 hN hv3).mono ?_
    rintro e w4 ⟨s2, a2_, b2_, c2_, a12, a22, b12, b22, c12, c22, s3, a3_, b3_, c3_, a13, a23, b13, b23, c13, c23, F, G, rfl, ⟨hA, smF⟩, ⟨hB, smG⟩, hX⟩
    have hfF := smF.fine
    clear smF smG
    replace hd := hd.below hX
    replace hD := hD.below hX
    replace hE := hE.below hX
    replace hY := hY.below hX
    have HB : Hid (Below w.heap.size w w4) := hB2.trans (hX.mono hB2.size)
    clear hX hv3 hB2
    have ha := V4.new w4 28 (.string s2) (.slice a2_ a12 a22) (.slice b2_ b12 b22) (.slice c2_ c12 c22)
    have hX : Below w4.heap.size w4 (w4.alloc (.cells #[.string s2, .slice a2_ a12 a22, .slice b2_ b12 b22, .slice c2_ c12 c22] 28)) := (Below.refl _ _).alloc (Nat.le_refl _) _
    replace hd := hd.below hX
    replace hD := hD.below hX
    replace hA := hA.below hX
    replace hB := hB.below hX
    replace hE := hE.below hX
    replace hY := hY.below hX
    replace HB : Hid (Below w.heap.size w _) := HB.out.trans (hX.mono HB.out.size)
    have hb := V4.new (w4.alloc (.cells #[.string s2, .slice a2_ a12 a22, .slice b2_ b12 b22, .slice c2_ c12 c22] 28)) 28 (.string s3) (.slice a3_ a13 a23) (.slice b3_ b13 b23) (.slice c3_ c13 c23)
    have hZ : Below (w4.alloc (.cells #[.string s2, .slice a2_ a12 a22, .slice b2_ b12 b22, .slice c2_ c12 c22] 28)).heap.size (w4.alloc (.cells #[.string s2, .slice a2_ a12 a22, .slice b2_ b12 b22, .slice c2_ c12 c22] 28)) ((w4.alloc (.cells #[.string s2, .slice a2_ a12 a22, .slice b2_ b12 b22, .slice c2_ c12 c22] 28)).alloc (.cells #[.string s3, .slice a3_ a13 a23, .slice b3_ b13 b23, .slice c3_ c13 c23] 28)) := (Below.refl _ _).alloc (Nat.le_refl _) _
    replace hd := hd.below hZ
    replace ha := ha.below hZ
    replace hD := hD.below hZ
    replace hA := hA.below hZ
    replace hB := hB.below hZ
    replace hE := hE.below hZ
    replace hY := hY.below hZ
    replace HB : Hid (Below w.heap.size w _) := HB.out.trans (hZ.mono HB.out.size)
    clear hX hZ
    rw [show (w4.alloc (.cells #[.string s2, .slice a2_ a12 a22, .slice b2_ b12 b22, .slice c2_ c12 c22] 28)).heap.size = w4.heap.size + 1 by simp] at hb
    go_upto_region 6 with fail
    obtain ⟨w5, hw5⟩ : ∃ x, Hid (x = ((w4.alloc (.cells #[.string s2, .slice a2_ a12 a22, .slice b2_ b12 b22, .slice c2_ c12 c22] 28)).alloc (.cells #[.string s3, .slice a3_ a13 a23, .slice b3_ b13 b23, .slice c3_ c13 c23] 28))) := ⟨_, rfl⟩
    rw [← hw5.out] at hd ha hb hD hA hB hE hY HB ⊢
    clear hw5
    obtain ⟨B1, hB1_⟩ : ∃ x, Hid (x = w1.heap.size) := ⟨_, rfl⟩
    rw [← hB1_.out] at hd ⊢
    obtain ⟨B2, hB2_⟩ : ∃ x, Hid (x = w4.heap.size) := ⟨_, rfl⟩
    rw [← hB2_.out] at ha hb ⊢
    clear hB1_ hB2_
    obtain ⟨T, HT⟩ : ∃ T, Hid (defText E = T) := ⟨_, rfl⟩
    have hne : ¬ T = ⟨#[]⟩ := fun e => (defText_empty E).1 (HT.out.trans e) HX.out
    have ht3 : ¬ T.toList = [] := fun e => hne (bytes_inj.1 (e.trans (by rw [ByteArray.toList_eq])))
    have ht2 : T.toList.isEmpty = false := by cases e : T.toList with | nil => exact absurd e ht3 | cons _ _ => rfl
    obtain ⟨q, HQ⟩ : ∃ q, Hid (sameF F G = q) := ⟨_, rfl⟩
    have HS : Hid (sameF F F = true) := sameF_self F
    have hX : Below w5.heap.size w5 w5.drew := (Below.refl _ _).drew
    replace hd := hd.below hX
    replace ha := ha.below hX
    replace hb := hb.below hX
    replace hD := hD.below hX
    replace hA := hA.below hX
    replace hB := hB.below hX
    replace hE := hE.below hX
    replace hY := hY.below hX
    replace HB : Hid (Below w.heap.size w w5.drew) := HB.out.trans (hX.mono HB.out.size)
    clear hX
    refine wp_region_held_drew (S := (fun W => V4 W B1 28 (.string s) (.slice a a1 a2) (.slice b b1 b2) (.slice c c1 c2) ∧ V4 W B2 28 (.string s2) (.slice a2_ a12 a22) (.slice b2_ b12 b22) (.slice c2_ c12 c22) ∧ V4 W (B2 + 1) 28 (.string s3) (.slice a3_ a13 a23) (.slice b3_ b13 b23) (.slice c3_ c13 c23))) (by kernel_rfl) ⟨hd, ha, hb⟩ (fun hHeld => ?_)
    obtain ⟨w6, hw6⟩ : ∃ x, Hid (x = w5.drew) := ⟨_, rfl⟩
    rw [← hw6.out] at hHeld hd ha hb hD hA hB hE hY HB ⊢
    clear hw6
    refine' wpAnyH_take (i := 0) (v := _) rfl (by kernel_rfl) (by kernel_rfl) (by kernel_rfl) (fun _ _ _ h => h) (Or.inl ⟨by kernel_rfl, ?hkg1⟩) (by assumption) ?rkg1
    case hkg1 => intro W hW; obtain ⟨⟨c0, c1, c2, c3⟩, ⟨d0, d1, d2, d3⟩, ⟨e0, e1, e2, e3⟩⟩ : (_ ∧ _ ∧ _ ∧ _) ∧ (_ ∧ _ ∧ _ ∧ _) ∧ (_ ∧ _ ∧ _ ∧ _) := ⟨hW.1.cells, hW.2.1.cells, hW.2.2.cells⟩; go_simp; all_goals with_reducible rfl
    change wpAnyH _ _ _ _ _ _ _ (Act.put _ (some 18) _) _
    simp only [Act.put, List.setIfInBounds_toArray, List.set_cons_zero, List.set_cons_succ]
    refine' wpAnyH_take (i := 1) (v := _) rfl (by kernel_rfl) (by kernel_rfl) (by kernel_rfl) (fun _ _ _ h => h) (Or.inl ⟨by kernel_rfl, ?hkg2⟩) (by assumption) ?rkg2
    case hkg2 => intro W hW; obtain ⟨⟨c0, c1, c2, c3⟩, ⟨d0, d1, d2, d3⟩, ⟨e0, e1, e2, e3⟩⟩ : (_ ∧ _ ∧ _ ∧ _) ∧ (_ ∧ _ ∧ _ ∧ _) ∧ (_ ∧ _ ∧ _ ∧ _) := ⟨hW.1.cells, hW.2.1.cells, hW.2.2.cells⟩; go_simp; all_goals with_reducible rfl
    change wpAnyH _ _ _ _ _ _ _ (Act.put _ (some 19) _) _
    simp only [Act.put, List.setIfInBounds_toArray, List.set_cons_zero, List.set_cons_succ]
    refine wpAnyH_ready (rs := [2]) (by kernel_rfl) (by simp) ?_
    refine AllReadyH.cons rfl (fun KK hK => ?_) AllReadyH.nil
    go_simp
    have hI := specCheck_any _ E _ hD hfE
    rw [HX.out] at hI
    refine hI.mono ?_
    rintro e wz11 ⟨rfl, hX⟩
    replace hd := hd.below hX
    replace ha := ha.below hX
    replace hb := hb.below hX
    replace hD := hD.below hX
    replace hA := hA.below hX
    replace hB := hB.below hX
    replace hE := hE.below hX
    replace hY := hY.below hX
    replace HB : Hid (Below w.heap.size w wz11) := HB.out.trans (hX.mono HB.out.size)
    clear hX hI
    go_wp2_with fail
    refine hK.out _ _ ⟨hd, ha, hb⟩ (fun hHeld => ?_)
    clear hK KK
    try simp only [Act.put, List.setIfInBounds_toArray, List.set_cons_zero, List.set_cons_succ]
    refine' wpAnyH_take (i := 3) (v := _) rfl (by kernel_rfl) (by kernel_rfl) (by kernel_rfl) (fun _ _ _ h => h) (Or.inl ⟨by kernel_rfl, ?hkg3⟩) (by assumption) ?rkg3
    case hkg3 => intro W hW; obtain ⟨⟨c0, c1, c2, c3⟩, ⟨d0, d1, d2, d3⟩, ⟨e0, e1, e2, e3⟩⟩ : (_ ∧ _ ∧ _ ∧ _) ∧ (_ ∧ _ ∧ _ ∧ _) ∧ (_ ∧ _ ∧ _ ∧ _) := ⟨hW.1.cells, hW.2.1.cells, hW.2.2.cells⟩; go_simp; all_goals with_reducible rfl
    change wpAnyH _ _ _ _ _ _ _ (Act.put _ (some 21) _) _
    simp only [Act.put, List.setIfInBounds_toArray, List.set_cons_zero, List.set_cons_succ]
    refine' wpAnyH_take (i := 4) (v := _) rfl (by kernel_rfl) (by kernel_rfl) (by kernel_rfl) (fun _ _ _ h => h) (Or.inl ⟨by kernel_rfl, ?hkg4⟩) (by assumption) ?rkg4
    case hkg4 => intro W hW; obtain ⟨⟨c0, c1, c2, c3⟩, ⟨d0, d1, d2, d3⟩, ⟨e0, e1, e2, e3⟩⟩ : (_ ∧ _ ∧ _ ∧ _) ∧ (_ ∧ _ ∧ _ ∧ _) ∧ (_ ∧ _ ∧ _ ∧ _) := ⟨hW.1.cells, hW.2.1.cells, hW.2.2.cells⟩; go_simp; all_goals with_reducible rfl
    change wpAnyH _ _ _ _ _ _ _ (Act.put _ (some 22) _) _
    simp only [Act.put, List.setIfInBounds_toArray, List.set_cons_zero, List.set_cons_succ]
    refine' wpAnyH_take (i := 5) (v := _) rfl (by kernel_rfl) (by kernel_rfl) (by kernel_rfl) (fun _ _ _ h => h) (Or.inl ⟨by kernel_rfl, ?hkg5⟩) (by assumption) ?rkg5
    case hkg5 => intro W hW; obtain ⟨⟨c0, c1, c2, c3⟩, ⟨d0, d1, d2, d3⟩, ⟨e0, e1, e2, e3⟩⟩ : (_ ∧ _ ∧ _ ∧ _) ∧ (_ ∧ _ ∧ _ ∧ _) ∧ (_ ∧ _ ∧ _ ∧ _) := ⟨hW.1.cells, hW.2.1.cells, hW.2.2.cells⟩; go_simp; all_goals with_reducible rfl
    change wpAnyH _ _ _ _ _ _ _ (Act.put _ (some 23) _) _
    simp only [Act.put, List.setIfInBounds_toArray, List.set_cons_zero, List.set_cons_succ]
    refine' wpAnyH_take (i := 8) (v := _) rfl (by kernel_rfl) (by kernel_rfl) (by kernel_rfl) (fun _ _ _ h => h) (Or.inl ⟨by kernel_rfl, ?hkg6⟩) (by assumption) ?rkg6
    case hkg6 => intro W hW; obtain ⟨⟨c0, c1, c2, c3⟩, ⟨d0, d1, d2, d3⟩, ⟨e0, e1, e2, e3⟩⟩ : (_ ∧ _ ∧ _ ∧ _) ∧ (_ ∧ _ ∧ _ ∧ _) ∧ (_ ∧ _ ∧ _ ∧ _) := ⟨hW.1.cells, hW.2.1.cells, hW.2.2.cells⟩; go_simp; all_goals with_reducible rfl
    change wpAnyH _ _ _ _ _ _ _ (Act.put _ (some 26) _) _
    simp only [Act.put, List.setIfInBounds_toArray, List.set_cons_zero, List.set_cons_succ]
    refine' wpAnyH_take (i := 9) (v := _) rfl (by kernel_rfl) (by kernel_rfl) (by kernel_rfl) (fun _ _ _ h => h) (Or.inl ⟨by kernel_rfl, ?hkg7⟩) (by assumption) ?rkg7
    case hkg7 => intro W hW; obtain ⟨⟨c0, c1, c2, c3⟩, ⟨d0, d1, d2, d3⟩, ⟨e0, e1, e2, e3⟩⟩ : (_ ∧ _ ∧ _ ∧ _) ∧ (_ ∧ _ ∧ _ ∧ _) ∧ (_ ∧ _ ∧ _ ∧ _) := ⟨hW.1.cells, hW.2.1.cells, hW.2.2.cells⟩; go_simp; all_goals with_reducible rfl
    change wpAnyH _ _ _ _ _ _ _ (Act.put _ (some 27) _) _
    simp only [Act.put, List.setIfInBounds_toArray, List.set_cons_zero, List.set_cons_succ]
    refine wpAnyH_ready (rs := [6]) (by kernel_rfl) (by simp) ?_
    refine AllReadyH.cons rfl (fun KK hK => ?_) AllReadyH.nil
    go_simp
    have hI := implText_any _ E _ hD hfE hE hY
    rw [HT.out] at hI
    refine hI.mono ?_
    rintro e wz12 ⟨rfl, hX⟩
    replace hd := hd.below hX
    replace ha := ha.below hX
    replace hb := hb.below hX
    replace hD := hD.below hX
    replace hA := hA.below hX
    replace hB := hB.below hX
    replace hE := hE.below hX
    replace hY := hY.below hX
    replace HB : Hid (Below w.heap.size w wz12) := HB.out.trans (hX.mono HB.out.size)
    clear hX hI
    go_wp2_with fail
    refine hK.out _ _ ⟨hd, ha, hb⟩ (fun hHeld => ?_)
    clear hK KK
    try simp only [Act.put, List.setIfInBounds_toArray, List.set_cons_zero, List.set_cons_succ]
    refine' wpAnyH_take (i := 7) (v := _) rfl (by kernel_rfl) (by kernel_rfl) (by kernel_rfl) (fun _ _ _ h => h) (Or.inl ⟨by kernel_rfl, ?hkg8⟩) (by assumption) ?rkg8
    case hkg8 => intro W hW; obtain ⟨⟨c0, c1, c2, c3⟩, ⟨d0, d1, d2, d3⟩, ⟨e0, e1, e2, e3⟩⟩ : (_ ∧ _ ∧ _ ∧ _) ∧ (_ ∧ _ ∧ _ ∧ _) ∧ (_ ∧ _ ∧ _ ∧ _) := ⟨hW.1.cells, hW.2.1.cells, hW.2.2.cells⟩; go_simp; all_goals with_reducible rfl
    change wpAnyH _ _ _ _ _ _ _ (Act.put _ (some 25) _) _
    simp only [Act.put, List.setIfInBounds_toArray, List.set_cons_zero, List.set_cons_succ]
    refine' wpAnyH_take (i := 10) (v := _) rfl (by kernel_rfl) (by kernel_rfl) (by kernel_rfl) (fun _ _ _ h => h) (Or.inl ⟨by kernel_rfl, ?hkg9⟩) (by assumption) ?rkg9
    case hkg9 => intro W hW; obtain ⟨⟨c0, c1, c2, c3⟩, ⟨d0, d1, d2, d3⟩, ⟨e0, e1, e2, e3⟩⟩ : (_ ∧ _ ∧ _ ∧ _) ∧ (_ ∧ _ ∧ _ ∧ _) ∧ (_ ∧ _ ∧ _ ∧ _) := ⟨hW.1.cells, hW.2.1.cells, hW.2.2.cells⟩; go_simp; all_goals with_reducible rfl
    change wpAnyH _ _ _ _ _ _ _ (Act.put _ (some 28) _) _
    simp only [Act.put, List.setIfInBounds_toArray, List.set_cons_zero, List.set_cons_succ]
    refine' wpAnyH_take (i := 11) (v := _) rfl (by kernel_rfl) (by kernel_rfl) (by kernel_rfl) (fun _ _ _ h => h) (Or.inl ⟨by kernel_rfl, ?hkg10⟩) (by assumption) ?rkg10
    case hkg10 => intro W hW; obtain ⟨⟨c0, c1, c2, c3⟩, ⟨d0, d1, d2, d3⟩, ⟨e0, e1, e2, e3⟩⟩ : (_ ∧ _ ∧ _ ∧ _) ∧ (_ ∧ _ ∧ _ ∧ _) ∧ (_ ∧ _ ∧ _ ∧ _) := ⟨hW.1.cells, hW.2.1.cells, hW.2.2.cells⟩; go_simp; all_goals with_reducible rfl
    change wpAnyH _ _ _ _ _ _ _ (Act.put _ (some 29) _) _
    simp only [Act.put, List.setIfInBounds_toArray, List.set_cons_zero, List.set_cons_succ]
    refine' wpAnyH_take (i := 12) (v := _) rfl (by kernel_rfl) (by kernel_rfl) (by kernel_rfl) (fun _ _ _ h => h) (Or.inl ⟨by kernel_rfl, ?hkg11⟩) (by assumption) ?rkg11
    case hkg11 => intro W hW; obtain ⟨⟨c0, c1, c2, c3⟩, ⟨d0, d1, d2, d3⟩, ⟨e0, e1, e2, e3⟩⟩ : (_ ∧ _ ∧ _ ∧ _) ∧ (_ ∧ _ ∧ _ ∧ _) ∧ (_ ∧ _ ∧ _ ∧ _) := ⟨hW.1.cells, hW.2.1.cells, hW.2.2.cells⟩; go_simp; all_goals with_reducible rfl
    change wpAnyH _ _ _ _ _ _ _ (Act.put _ (some 30) _) _
    simp only [Act.put, List.setIfInBounds_toArray, List.set_cons_zero, List.set_cons_succ]
    refine' wpAnyH_take (i := 13) (v := _) rfl (by kernel_rfl) (by kernel_rfl) (by kernel_rfl) (fun _ _ _ h => h) (Or.inl ⟨by kernel_rfl, ?hkg12⟩) (by assumption) ?rkg12
    case hkg12 => intro W hW; obtain ⟨⟨c0, c1, c2, c3⟩, ⟨d0, d1, d2, d3⟩, ⟨e0, e1, e2, e3⟩⟩ : (_ ∧ _ ∧ _ ∧ _) ∧ (_ ∧ _ ∧ _ ∧ _) ∧ (_ ∧ _ ∧ _ ∧ _) := ⟨hW.1.cells, hW.2.1.cells, hW.2.2.cells⟩; go_simp; all_goals with_reducible rfl
    change wpAnyH _ _ _ _ _ _ _ (Act.put _ (some 31) _) _
    simp only [Act.put, List.setIfInBounds_toArray, List.set_cons_zero, List.set_cons_succ]
    refine' wpAnyH_take (i := 15) (v := _) rfl (by kernel_rfl) (by kernel_rfl) (by kernel_rfl) (fun _ _ _ h => h) (Or.inl ⟨by kernel_rfl, ?hkg13⟩) (by assumption) ?rkg13
    case hkg13 => intro W hW; obtain ⟨⟨c0, c1, c2, c3⟩, ⟨d0, d1, d2, d3⟩, ⟨e0, e1, e2, e3⟩⟩ : (_ ∧ _ ∧ _ ∧ _) ∧ (_ ∧ _ ∧ _ ∧ _) ∧ (_ ∧ _ ∧ _ ∧ _) := ⟨hW.1.cells, hW.2.1.cells, hW.2.2.cells⟩; go_simp; all_goals with_reducible rfl
    change wpAnyH _ _ _ _ _ _ _ (Act.put _ (some 33) _) _
    simp only [Act.put, List.setIfInBounds_toArray, List.set_cons_zero, List.set_cons_succ]
    refine wpAnyH_ready (rs := [14]) (by kernel_rfl) (by simp) ?_
    refine AllReadyH.cons rfl (fun KK hK => ?_) AllReadyH.nil
    go_simp
    have hI := implText_any _ E _ hD hfE hE hY
    rw [HT.out] at hI
    refine hI.mono ?_
    rintro e wz13 ⟨rfl, hX⟩
    replace hd := hd.below hX
    replace ha := ha.below hX
    replace hb := hb.below hX
    replace hD := hD.below hX
    replace hA := hA.below hX
    replace hB := hB.below hX
    replace hE := hE.below hX
    replace hY := hY.below hX
    replace HB : Hid (Below w.heap.size w wz13) := HB.out.trans (hX.mono HB.out.size)
    clear hX hI
    go_wp2_with fail
    refine hK.out _ _ ⟨hd, ha, hb⟩ (fun hHeld => ?_)
    clear hK KK
    try simp only [Act.put, List.setIfInBounds_toArray, List.set_cons_zero, List.set_cons_succ]
    refine wpAnyH_ready (rs := [16]) (by kernel_rfl) (by simp) ?_
    refine AllReadyH.cons rfl (fun KK hK => ?_) AllReadyH.nil
    go_simp
    have hI := specText_any _ E _ hD hfE
    rw [HT.out] at hI
    refine hI.mono ?_
    rintro e wz14 ⟨rfl, hX⟩
    replace hd := hd.below hX
    replace ha := ha.below hX
    replace hb := hb.below hX
    replace hD := hD.below hX
    replace hA := hA.below hX
    replace hB := hB.below hX
    replace hE := hE.below hX
    replace hY := hY.below hX
    replace HB : Hid (Below w.heap.size w wz14) := HB.out.trans (hX.mono HB.out.size)
    clear hX hI
    go_wp2_with fail
    refine hK.out _ _ ⟨hd, ha, hb⟩ (fun hHeld => ?_)
    clear hK KK
    try simp only [Act.put, List.setIfInBounds_toArray, List.set_cons_zero, List.set_cons_succ]
    refine' wpAnyH_take (i := 17) (v := _) rfl (by kernel_rfl) (by kernel_rfl) (by kernel_rfl) (fun _ _ _ h => h) (Or.inl ⟨by kernel_rfl, ?hkg14⟩) (by assumption) ?rkg14
    case hkg14 => intro W hW; obtain ⟨⟨c0, c1, c2, c3⟩, ⟨d0, d1, d2, d3⟩, ⟨e0, e1, e2, e3⟩⟩ : (_ ∧ _ ∧ _ ∧ _) ∧ (_ ∧ _ ∧ _ ∧ _) ∧ (_ ∧ _ ∧ _ ∧ _) := ⟨hW.1.cells, hW.2.1.cells, hW.2.2.cells⟩; go_simp; all_goals with_reducible rfl
    change wpAnyH _ _ _ _ _ _ _ (Act.put _ (some 35) _) _
    simp only [Act.put, List.setIfInBounds_toArray, List.set_cons_zero, List.set_cons_succ]
    refine' wpAnyH_take (i := 18) (v := _) rfl (by kernel_rfl) (by kernel_rfl) (by kernel_rfl) (fun _ _ _ h => h) (Or.inl ⟨by kernel_rfl, ?hkg15⟩) (by assumption) ?rkg15
    case hkg15 => intro W hW; obtain ⟨⟨c0, c1, c2, c3⟩, ⟨d0, d1, d2, d3⟩, ⟨e0, e1, e2, e3⟩⟩ : (_ ∧ _ ∧ _ ∧ _) ∧ (_ ∧ _ ∧ _ ∧ _) ∧ (_ ∧ _ ∧ _ ∧ _) := ⟨hW.1.cells, hW.2.1.cells, hW.2.2.cells⟩; go_simp; all_goals with_reducible rfl
    change wpAnyH _ _ _ _ _ _ _ (Act.put _ (some 36) _) _
    simp only [Act.put, List.setIfInBounds_toArray, List.set_cons_zero, List.set_cons_succ]
    refine' wpAnyH_take (i := 19) (v := _) rfl (by kernel_rfl) (by kernel_rfl) (by kernel_rfl) (fun _ _ _ h => h) (Or.inl ⟨by kernel_rfl, ?hkg16⟩) (by assumption) ?rkg16
    case hkg16 => intro W hW; obtain ⟨⟨c0, c1, c2, c3⟩, ⟨d0, d1, d2, d3⟩, ⟨e0, e1, e2, e3⟩⟩ : (_ ∧ _ ∧ _ ∧ _) ∧ (_ ∧ _ ∧ _ ∧ _) ∧ (_ ∧ _ ∧ _ ∧ _) := ⟨hW.1.cells, hW.2.1.cells, hW.2.2.cells⟩; go_simp; all_goals with_reducible rfl
    change wpAnyH _ _ _ _ _ _ _ (Act.put _ (some 37) _) _
    simp only [Act.put, List.setIfInBounds_toArray, List.set_cons_zero, List.set_cons_succ]
    refine' wpAnyH_take (i := 20) (v := _) rfl (by kernel_rfl) (by kernel_rfl) (by kernel_rfl) (fun _ _ _ h => h) (Or.inl ⟨by kernel_rfl, ?hkg17⟩) (by assumption) ?rkg17
    case hkg17 => intro W hW; obtain ⟨⟨c0, c1, c2, c3⟩, ⟨d0, d1, d2, d3⟩, ⟨e0, e1, e2, e3⟩⟩ : (_ ∧ _ ∧ _ ∧ _) ∧ (_ ∧ _ ∧ _ ∧ _) ∧ (_ ∧ _ ∧ _ ∧ _) := ⟨hW.1.cells, hW.2.1.cells, hW.2.2.cells⟩; go_simp; all_goals with_reducible rfl
    change wpAnyH _ _ _ _ _ _ _ (Act.put _ (some 38) _) _
    simp only [Act.put, List.setIfInBounds_toArray, List.set_cons_zero, List.set_cons_succ]
    refine' wpAnyH_take (i := 21) (v := _) rfl (by kernel_rfl) (by kernel_rfl) (by kernel_rfl) (fun _ _ _ h => h) (Or.inl ⟨by kernel_rfl, ?hkg18⟩) (by assumption) ?rkg18
    case hkg18 => intro W hW; obtain ⟨⟨c0, c1, c2, c3⟩, ⟨d0, d1, d2, d3⟩, ⟨e0, e1, e2, e3⟩⟩ : (_ ∧ _ ∧ _ ∧ _) ∧ (_ ∧ _ ∧ _ ∧ _) ∧ (_ ∧ _ ∧ _ ∧ _) := ⟨hW.1.cells, hW.2.1.cells, hW.2.2.cells⟩; go_simp; all_goals with_reducible rfl
    change wpAnyH _ _ _ _ _ _ _ (Act.put _ (some 39) _) _
    simp only [Act.put, List.setIfInBounds_toArray, List.set_cons_zero, List.set_cons_succ]
    refine' wpAnyH_take (i := 23) (v := _) rfl (by kernel_rfl) (by kernel_rfl) (by kernel_rfl) (fun _ _ _ h => h) (Or.inl ⟨by kernel_rfl, ?hkg19⟩) (by assumption) ?rkg19
    case hkg19 => intro W hW; obtain ⟨⟨c0, c1, c2, c3⟩, ⟨d0, d1, d2, d3⟩, ⟨e0, e1, e2, e3⟩⟩ : (_ ∧ _ ∧ _ ∧ _) ∧ (_ ∧ _ ∧ _ ∧ _) ∧ (_ ∧ _ ∧ _ ∧ _) := ⟨hW.1.cells, hW.2.1.cells, hW.2.2.cells⟩; go_simp; all_goals with_reducible rfl
    change wpAnyH _ _ _ _ _ _ _ (Act.put _ (some 41) _) _
    simp only [Act.put, List.setIfInBounds_toArray, List.set_cons_zero, List.set_cons_succ]
    refine' wpAnyH_take (i := 24) (v := _) rfl (by kernel_rfl) (by kernel_rfl) (by kernel_rfl) (fun _ _ _ h => h) (Or.inl ⟨by kernel_rfl, ?hkg20⟩) (by assumption) ?rkg20
    case hkg20 => intro W hW; obtain ⟨⟨c0, c1, c2, c3⟩, ⟨d0, d1, d2, d3⟩, ⟨e0, e1, e2, e3⟩⟩ : (_ ∧ _ ∧ _ ∧ _) ∧ (_ ∧ _ ∧ _ ∧ _) ∧ (_ ∧ _ ∧ _ ∧ _) := ⟨hW.1.cells, hW.2.1.cells, hW.2.2.cells⟩; go_simp; all_goals with_reducible rfl
    change wpAnyH _ _ _ _ _ _ _ (Act.put _ (some 42) _) _
    simp only [Act.put, List.setIfInBounds_toArray, List.set_cons_zero, List.set_cons_succ]
    refine wpAnyH_ready (rs := [22]) (by kernel_rfl) (by simp) ?_
    refine AllReadyH.cons rfl (fun KK hK => ?_) AllReadyH.nil
    go_simp
    have hI := implSame_any _ _ F G _ hA hB hfF
    rw [HQ.out] at hI
    refine hI.mono ?_
    rintro e wz15 ⟨rfl, hX⟩
    replace hd := hd.below hX
    replace ha := ha.below hX
    replace hb := hb.below hX
    replace hD := hD.below hX
    replace hA := hA.below hX
    replace hB := hB.below hX
    replace hE := hE.below hX
    replace hY := hY.below hX
    replace HB : Hid (Below w.heap.size w wz15) := HB.out.trans (hX.mono HB.out.size)
    clear hX hI
    go_wp2_with fail
    refine hK.out _ _ ⟨hd, ha, hb⟩ (fun hHeld => ?_)
    clear hK KK
    try simp only [Act.put, List.setIfInBounds_toArray, List.set_cons_zero, List.set_cons_succ]
    refine wpAnyH_ready (rs := [25]) (by kernel_rfl) (by simp) ?_
    refine AllReadyH.cons rfl (fun KK hK => ?_) AllReadyH.nil
    go_simp
    have hI := specSame_any _ _ F G _ hA hB hfF
    rw [HQ.out] at hI
    refine hI.mono ?_
    rintro e wz16 ⟨rfl, hX⟩
    replace hd := hd.below hX
    replace ha := ha.below hX
    replace hb := hb.below hX
    replace hD := hD.below hX
    replace hA := hA.below hX
    replace hB := hB.below hX
    replace hE := hE.below hX
    replace hY := hY.below hX
    replace HB : Hid (Below w.heap.size w wz16) := HB.out.trans (hX.mono HB.out.size)
    clear hX hI
    go_wp2_with fail
    refine hK.out _ _ ⟨hd, ha, hb⟩ (fun hHeld => ?_)
    clear hK KK
    try simp only [Act.put, List.setIfInBounds_toArray, List.set_cons_zero, List.set_cons_succ]
    refine' wpAnyH_take (i := 26) (v := _) rfl (by kernel_rfl) (by kernel_rfl) (by kernel_rfl) (fun _ _ _ h => h) (Or.inl ⟨by kernel_rfl, ?hkg21⟩) (by assumption) ?rkg21
    case hkg21 => intro W hW; obtain ⟨⟨c0, c1, c2, c3⟩, ⟨d0, d1, d2, d3⟩, ⟨e0, e1, e2, e3⟩⟩ : (_ ∧ _ ∧ _ ∧ _) ∧ (_ ∧ _ ∧ _ ∧ _) ∧ (_ ∧ _ ∧ _ ∧ _) := ⟨hW.1.cells, hW.2.1.cells, hW.2.2.cells⟩; go_simp; all_goals with_reducible rfl
    change wpAnyH _ _ _ _ _ _ _ (Act.put _ (some 44) _) _
    simp only [Act.put, List.setIfInBounds_toArray, List.set_cons_zero, List.set_cons_succ]
    refine' wpAnyH_take (i := 27) (v := _) rfl (by kernel_rfl) (by kernel_rfl) (by kernel_rfl) (fun _ _ _ h => h) (Or.inl ⟨by kernel_rfl, ?hkg22⟩) (by assumption) ?rkg22
    case hkg22 => intro W hW; obtain ⟨⟨c0, c1, c2, c3⟩, ⟨d0, d1, d2, d3⟩, ⟨e0, e1, e2, e3⟩⟩ : (_ ∧ _ ∧ _ ∧ _) ∧ (_ ∧ _ ∧ _ ∧ _) ∧ (_ ∧ _ ∧ _ ∧ _) := ⟨hW.1.cells, hW.2.1.cells, hW.2.2.cells⟩; go_simp; all_goals with_reducible rfl
    change wpAnyH _ _ _ _ _ _ _ (Act.put _ (some 45) _) _
    simp only [Act.put, List.setIfInBounds_toArray, List.set_cons_zero, List.set_cons_succ]
    refine' wpAnyH_take (i := 28) (v := _) rfl (by kernel_rfl) (by kernel_rfl) (by kernel_rfl) (fun _ _ _ h => h) (Or.inl ⟨by kernel_rfl, ?hkg23⟩) (by assumption) ?rkg23
    case hkg23 => intro W hW; obtain ⟨⟨c0, c1, c2, c3⟩, ⟨d0, d1, d2, d3⟩, ⟨e0, e1, e2, e3⟩⟩ : (_ ∧ _ ∧ _ ∧ _) ∧ (_ ∧ _ ∧ _ ∧ _) ∧ (_ ∧ _ ∧ _ ∧ _) := ⟨hW.1.cells, hW.2.1.cells, hW.2.2.cells⟩; go_simp; all_goals with_reducible rfl
    change wpAnyH _ _ _ _ _ _ _ (Act.put _ (some 46) _) _
    simp only [Act.put, List.setIfInBounds_toArray, List.set_cons_zero, List.set_cons_succ]
    refine' wpAnyH_take (i := 29) (v := _) rfl (by kernel_rfl) (by kernel_rfl) (by kernel_rfl) (fun _ _ _ h => h) (Or.inl ⟨by kernel_rfl, ?hkg24⟩) (by assumption) ?rkg24
    case hkg24 => intro W hW; obtain ⟨⟨c0, c1, c2, c3⟩, ⟨d0, d1, d2, d3⟩, ⟨e0, e1, e2, e3⟩⟩ : (_ ∧ _ ∧ _ ∧ _) ∧ (_ ∧ _ ∧ _ ∧ _) ∧ (_ ∧ _ ∧ _ ∧ _) := ⟨hW.1.cells, hW.2.1.cells, hW.2.2.cells⟩; go_simp; all_goals with_reducible rfl
    change wpAnyH _ _ _ _ _ _ _ (Act.put _ (some 47) _) _
    simp only [Act.put, List.setIfInBounds_toArray, List.set_cons_zero, List.set_cons_succ]
    refine' wpAnyH_take (i := 30) (v := _) rfl (by kernel_rfl) (by kernel_rfl) (by kernel_rfl) (fun _ _ _ h => h) (Or.inl ⟨by kernel_rfl, ?hkg25⟩) (by assumption) ?rkg25
    case hkg25 => intro W hW; obtain ⟨⟨c0, c1, c2, c3⟩, ⟨d0, d1, d2, d3⟩, ⟨e0, e1, e2, e3⟩⟩ : (_ ∧ _ ∧ _ ∧ _) ∧ (_ ∧ _ ∧ _ ∧ _) ∧ (_ ∧ _ ∧ _ ∧ _) := ⟨hW.1.cells, hW.2.1.cells, hW.2.2.cells⟩; go_simp; all_goals with_reducible rfl
    change wpAnyH _ _ _ _ _ _ _ (Act.put _ (some 48) _) _
    simp only [Act.put, List.setIfInBounds_toArray, List.set_cons_zero, List.set_cons_succ]
    refine wpAnyH_ready (rs := [31]) (by kernel_rfl) (by simp) ?_
    refine AllReadyH.cons rfl (fun KK hK => ?_) AllReadyH.nil
    go_simp
    have hI := implSame_any _ _ F F _ hA hA hfF
    rw [HS.out] at hI
    refine hI.mono ?_
    rintro e wz17 ⟨rfl, hX⟩
    replace hd := hd.below hX
    replace ha := ha.below hX
    replace hb := hb.below hX
    replace hD := hD.below hX
    replace hA := hA.below hX
    replace hB := hB.below hX
    replace hE := hE.below hX
    replace hY := hY.below hX
    replace HB : Hid (Below w.heap.size w wz17) := HB.out.trans (hX.mono HB.out.size)
    clear hX hI
    go_wp2_with fail
    refine hK.out _ _ ⟨hd, ha, hb⟩ (fun hHeld => ?_)
    clear hK KK
    try simp only [Act.put, List.setIfInBounds_toArray, List.set_cons_zero, List.set_cons_succ]
    refine' wpAnyH_take (i := 32) (v := _) rfl (by kernel_rfl) (by kernel_rfl) (by kernel_rfl) (fun _ _ _ h => h) (Or.inl ⟨by kernel_rfl, ?hkg26⟩) (by assumption) ?rkg26
    case hkg26 => intro W hW; obtain ⟨⟨c0, c1, c2, c3⟩, ⟨d0, d1, d2, d3⟩, ⟨e0, e1, e2, e3⟩⟩ : (_ ∧ _ ∧ _ ∧ _) ∧ (_ ∧ _ ∧ _ ∧ _) ∧ (_ ∧ _ ∧ _ ∧ _) := ⟨hW.1.cells, hW.2.1.cells, hW.2.2.cells⟩; go_simp; all_goals with_reducible rfl
    change wpAnyH _ _ _ _ _ _ _ (Act.put _ (some 50) _) _
    simp only [Act.put, List.setIfInBounds_toArray, List.set_cons_zero, List.set_cons_succ]
    refine' wpAnyH_take (i := 33) (v := _) rfl (by kernel_rfl) (by kernel_rfl) (by kernel_rfl) (fun _ _ _ h => h) (Or.inl ⟨by kernel_rfl, ?hkg27⟩) (by assumption) ?rkg27
    case hkg27 => intro W hW; obtain ⟨⟨c0, c1, c2, c3⟩, ⟨d0, d1, d2, d3⟩, ⟨e0, e1, e2, e3⟩⟩ : (_ ∧ _ ∧ _ ∧ _) ∧ (_ ∧ _ ∧ _ ∧ _) ∧ (_ ∧ _ ∧ _ ∧ _) := ⟨hW.1.cells, hW.2.1.cells, hW.2.2.cells⟩; go_simp; all_goals with_reducible rfl
    change wpAnyH _ _ _ _ _ _ _ (Act.put _ (some 2) _) _
    simp only [Act.put, List.setIfInBounds_toArray, List.set_cons_zero, List.set_cons_succ]
    refine wpAnyH_done (by kernel_rfl) ?_ _
    clear hd ha hb hD hA hB hE hY hHeld
    go_wp2
    go_ret
    exact ⟨rfl, HB.out⟩
  ·
    go_wp2_with fail
    have hd := V4.new w1 28 (.string s) (.slice a a1 a2) (.slice b b1 b2) (.slice c c1 c2)
    have hX : Below w1.heap.size w1 (w1.alloc (.cells #[.string s, .slice a a1 a2, .slice b b1 b2, .slice c c1 c2] 28)) := (Below.refl _ _).alloc (Nat.le_refl _) _
    replace hD := hD.below hX
    replace hE := hE.below hX
    replace hY := hY.below hX
    have hB2 := hB1.trans (hX.mono hB1.size)
    have hI := implCheck_any _ E _ hD hfE hE
    rw [HX.out] at hI
    clear hX
    refine hI.mono ?_
    rintro e w3 ⟨rfl, hX⟩
    replace hd := hd.below hX
    replace hD := hD.below hX
    replace hE := hE.below hX
    replace hY := hY.below hX
    replace hB2 := hB2.trans (hX.mono hB2.size)
    have hv3 := hv.below hB2
    clear hX hI
    go_wp2_with fail
    refine (drawSameDef_any ao n cap f w3 hN hv3).mono ?_
    rintro e w4 ⟨s2, a2_, b2_, c2_, a12, a22, b12, b22, c12, c22, s3, a3_, b3_, c3_, a13, a23, b13, b23, c13, c23, F, G, rfl, ⟨hA, smF⟩, ⟨hB, smG⟩, hX⟩
    have hfF := smF.fine
    clear smF smG
    replace hd := hd.below hX
    replace hD := hD.below hX
    replace hE := hE.below hX
    replace hY := hY.below hX
    have HB : Hid (Below w.heap.size w w4) := hB2.trans (hX.mono hB2.size)
    clear hX hv3 hB2
    have ha := V4.new w4 28 (.string s2) (.slice a2_ a12 a22) (.slice b2_ b12 b22) (.slice c2_ c12 c22)
    have hX : Below w4.heap.size w4 (w4.alloc (.cells #[.string s2, .slice a2_ a12 a22, .slice b2_ b12 b22, .slice c2_ c12 c22] 28)) := (Below.refl _ _).alloc (Nat.le_refl _) _
    replace hd := hd.below hX
    replace hD := hD.below hX
    replace hA := hA.below hX
    replace hB := hB.below hX
    replace hE := hE.below hX
    replace hY := hY.below hX
    replace HB : Hid (Below w.heap.size w _) := HB.out.trans (hX.mono HB.out.size)
    have hb := V4.new (w4.alloc (.cells #[.string s2, .slice a2_ a12 a22, .slice b2_ b12 b22, .slice c2_ c12 c22] 28)) 28 (.string s3) (.slice a3_ a13 a23) (.slice b3_ b13 b23) (.slice c3_ c13 c23)
    have hZ : Below (w4.alloc (.cells #[.string s2, .slice a2_ a12 a22, .slice b2_ b12 b22, .slice c2_ c12 c22] 28)).heap.size (w4.alloc (.cells #[.string s2, .slice a2_ a12 a22, .slice b2_ b12 b22, .slice c2_ c12 c22] 28)) ((w4.alloc (.cells #[.string s2, .slice a2_ a12 a22, .slice b2_ b12 b22, .slice c2_ c12 c22] 28)).alloc (.cells #[.string s3, .slice a3_ a13 a23, .slice b3_ b13 b23, .slice c3_ c13 c23] 28)) := (Below.refl _ _).alloc (Nat.le_refl _) _
    replace hd := hd.below hZ
    replace ha := ha.below hZ
    replace hD := hD.below hZ
    replace hA := hA.below hZ
    replace hB := hB.below hZ
    replace hE := hE.below hZ
    replace hY := hY.below hZ
    replace HB : Hid (Below w.heap.size w _) := HB.out.trans (hZ.mono HB.out.size)
    clear hX hZ
    rw [show (w4.alloc (.cells #[.string s2, .slice a2_ a12 a22, .slice b2_ b12 b22, .slice c2_ c12 c22] 28)).heap.size = w4.heap.size + 1 by simp] at hb
    go_upto_region 6 with fail
    obtain ⟨w5, hw5⟩ : ∃ x, Hid (x = ((w4.alloc (.cells #[.string s2, .slice a2_ a12 a22, .slice b2_ b12 b22, .slice c2_ c12 c22] 28)).alloc (.cells #[.string s3, .slice a3_ a13 a23, .slice b3_ b13 b23, .slice c3_ c13 c23] 28))) := ⟨_, rfl⟩
    rw [← hw5.out] at hd ha hb hD hA hB hE hY HB ⊢
    clear hw5
    obtain ⟨B1, hB1_⟩ : ∃ x, Hid (x = w1.heap.size) := ⟨_, rfl⟩
    rw [← hB1_.out] at hd ⊢
    obtain ⟨B2, hB2_⟩ : ∃ x, Hid (x = w4.heap.size) := ⟨_, rfl⟩
    rw [← hB2_.out] at ha hb ⊢
    clear hB1_ hB2_
    obtain ⟨T, HT⟩ : ∃ T, Hid (defText E = T) := ⟨_, rfl⟩
    have hte : T = ⟨#[]⟩ := HT.out.symm.trans ((defText_empty E).2 (by rw [HX.out]; exact hx))
    subst hte
    have hx1 : (x == 0) = false := by simpa using hx
    have hx2 : (x != 0) = true := by simpa using hx
    obtain ⟨q, HQ⟩ : ∃ q, Hid (sameF F G = q) := ⟨_, rfl⟩
    have HS : Hid (sameF F F = true) := sameF_self F
    have hX : Below w5.heap.size w5 w5.drew := (Below.refl _ _).drew
    replace hd := hd.below hX
    replace ha := ha.below hX
    replace hb := hb.below hX
    replace hD := hD.below hX
    replace hA := hA.below hX
    replace hB := hB.below hX
    replace hE := hE.below hX
    replace hY := hY.below hX
    replace HB : Hid (Below w.heap.size w w5.drew) := HB.out.trans (hX.mono HB.out.size)
    clear hX
    refine wp_region_held_drew (S := (fun W => V4 W B1 28 (.string s) (.slice a a1 a2) (.slice b b1 b2) (.slice c c1 c2) ∧ V4 W B2 28 (.string s2) (.slice a2_ a12 a22) (.slice b2_ b12 b22) (.slice c2_ c12 c22) ∧ V4 W (B2 + 1) 28 (.string s3) (.slice a3_ a13 a23) (.slice b3_ b13 b23) (.slice c3_ c13 c23))) (by kernel_rfl) ⟨hd, ha, hb⟩ (fun hHeld => ?_)
    obtain ⟨w6, hw6⟩ : ∃ x, Hid (x = w5.drew) := ⟨_, rfl⟩
    rw [← hw6.out] at hHeld hd ha hb hD hA hB hE hY HB ⊢
    clear hw6
    refine' wpAnyH_take (i := 0) (v := _) rfl (by kernel_rfl) (by kernel_rfl) (by kernel_rfl) (fun _ _ _ h => h) (Or.inl ⟨by kernel_rfl, ?hkb1⟩) (by assumption) ?rkb1
    case hkb1 => intro W hW; obtain ⟨⟨c0, c1, c2, c3⟩, ⟨d0, d1, d2, d3⟩, ⟨e0, e1, e2, e3⟩⟩ : (_ ∧ _ ∧ _ ∧ _) ∧ (_ ∧ _ ∧ _ ∧ _) ∧ (_ ∧ _ ∧ _ ∧ _) := ⟨hW.1.cells, hW.2.1.cells, hW.2.2.cells⟩; go_simp; all_goals with_reducible rfl
    change wpAnyH _ _ _ _ _ _ _ (Act.put _ (some 18) _) _
    simp only [Act.put, List.setIfInBounds_toArray, List.set_cons_zero, List.set_cons_succ]
    refine' wpAnyH_take (i := 1) (v := _) rfl (by kernel_rfl) (by kernel_rfl) (by kernel_rfl) (fun _ _ _ h => h) (Or.inl ⟨by kernel_rfl, ?hkb2⟩) (by assumption) ?rkb2
    case hkb2 => intro W hW; obtain ⟨⟨c0, c1, c2, c3⟩, ⟨d0, d1, d2, d3⟩, ⟨e0, e1, e2, e3⟩⟩ : (_ ∧ _ ∧ _ ∧ _) ∧ (_ ∧ _ ∧ _ ∧ _) ∧ (_ ∧ _ ∧ _ ∧ _) := ⟨hW.1.cells, hW.2.1.cells, hW.2.2.cells⟩; go_simp; all_goals with_reducible rfl
    change wpAnyH _ _ _ _ _ _ _ (Act.put _ (some 19) _) _
    simp only [Act.put, List.setIfInBounds_toArray, List.set_cons_zero, List.set_cons_succ]
    refine wpAnyH_ready (rs := [2]) (by kernel_rfl) (by simp) ?_
    refine AllReadyH.cons rfl (fun KK hK => ?_) AllReadyH.nil
    go_simp
    have hI := specCheck_any _ E _ hD hfE
    rw [HX.out] at hI
    refine hI.mono ?_
    rintro e wz18 ⟨rfl, hX⟩
    replace hd := hd.below hX
    replace ha := ha.below hX
    replace hb := hb.below hX
    replace hD := hD.below hX
    replace hA := hA.below hX
    replace hB := hB.below hX
    replace hE := hE.below hX
    replace hY := hY.below hX
    replace HB : Hid (Below w.heap.size w wz18) := HB.out.trans (hX.mono HB.out.size)
    clear hX hI
    go_wp2_with fail
    refine hK.out _ _ ⟨hd, ha, hb⟩ (fun hHeld => ?_)
    clear hK KK
    try simp only [Act.put, List.setIfInBounds_toArray, List.set_cons_zero, List.set_cons_succ]
    refine' wpAnyH_take (i := 3) (v := _) rfl (by kernel_rfl) (by kernel_rfl) (by kernel_rfl) (fun _ _ _ h => h) (Or.inl ⟨by kernel_rfl, ?hkb3⟩) (by assumption) ?rkb3
    case hkb3 => intro W hW; obtain ⟨⟨c0, c1, c2, c3⟩, ⟨d0, d1, d2, d3⟩, ⟨e0, e1, e2, e3⟩⟩ : (_ ∧ _ ∧ _ ∧ _) ∧ (_ ∧ _ ∧ _ ∧ _) ∧ (_ ∧ _ ∧ _ ∧ _) := ⟨hW.1.cells, hW.2.1.cells, hW.2.2.cells⟩; go_simp; all_goals with_reducible rfl
    change wpAnyH _ _ _ _ _ _ _ (Act.put _ (some 21) _) _
    simp only [Act.put, List.setIfInBounds_toArray, List.set_cons_zero, List.set_cons_succ]
    refine' wpAnyH_take (i := 4) (v := _) rfl (by kernel_rfl) (by kernel_rfl) (by kernel_rfl) (fun _ _ _ h => h) (Or.inl ⟨by kernel_rfl, ?hkb4⟩) (by assumption) ?rkb4
    case hkb4 => intro W hW; obtain ⟨⟨c0, c1, c2, c3⟩, ⟨d0, d1, d2, d3⟩, ⟨e0, e1, e2, e3⟩⟩ : (_ ∧ _ ∧ _ ∧ _) ∧ (_ ∧ _ ∧ _ ∧ _) ∧ (_ ∧ _ ∧ _ ∧ _) := ⟨hW.1.cells, hW.2.1.cells, hW.2.2.cells⟩; go_simp; all_goals with_reducible rfl
    change wpAnyH _ _ _ _ _ _ _ (Act.put _ (some 22) _) _
    simp only [Act.put, List.setIfInBounds_toArray, List.set_cons_zero, List.set_cons_succ]
    refine' wpAnyH_take (i := 5) (v := _) rfl (by kernel_rfl) (by kernel_rfl) (by kernel_rfl) (fun _ _ _ h => h) (Or.inl ⟨by kernel_rfl, ?hkb5⟩) (by assumption) ?rkb5
    case hkb5 => intro W hW; obtain ⟨⟨c0, c1, c2, c3⟩, ⟨d0, d1, d2, d3⟩, ⟨e0, e1, e2, e3⟩⟩ : (_ ∧ _ ∧ _ ∧ _) ∧ (_ ∧ _ ∧ _ ∧ _) ∧ (_ ∧ _ ∧ _ ∧ _) := ⟨hW.1.cells, hW.2.1.cells, hW.2.2.cells⟩; go_simp; all_goals with_reducible rfl
    change wpAnyH _ _ _ _ _ _ _ (Act.put _ (some 23) _) _
    simp only [Act.put, List.setIfInBounds_toArray, List.set_cons_zero, List.set_cons_succ]
    refine' wpAnyH_take (i := 8) (v := _) rfl (by kernel_rfl) (by kernel_rfl) (by kernel_rfl) (fun _ _ _ h => h) (Or.inl ⟨by kernel_rfl, ?hkb6⟩) (by assumption) ?rkb6
    case hkb6 => intro W hW; obtain ⟨⟨c0, c1, c2, c3⟩, ⟨d0, d1, d2, d3⟩, ⟨e0, e1, e2, e3⟩⟩ : (_ ∧ _ ∧ _ ∧ _) ∧ (_ ∧ _ ∧ _ ∧ _) ∧ (_ ∧ _ ∧ _ ∧ _) := ⟨hW.1.cells, hW.2.1.cells, hW.2.2.cells⟩; go_simp; all_goals with_reducible rfl
    change wpAnyH _ _ _ _ _ _ _ (Act.put _ (some 26) _) _
    simp only [Act.put, List.setIfInBounds_toArray, List.set_cons_zero, List.set_cons_succ]
    refine' wpAnyH_take (i := 9) (v := _) rfl (by kernel_rfl) (by kernel_rfl) (by kernel_rfl) (fun _ _ _ h => h) (Or.inl ⟨by kernel_rfl, ?hkb7⟩) (by assumption) ?rkb7
    case hkb7 => intro W hW; obtain ⟨⟨c0, c1, c2, c3⟩, ⟨d0, d1, d2, d3⟩, ⟨e0, e1, e2, e3⟩⟩ : (_ ∧ _ ∧ _ ∧ _) ∧ (_ ∧ _ ∧ _ ∧ _) ∧ (_ ∧ _ ∧ _ ∧ _) := ⟨hW.1.cells, hW.2.1.cells, hW.2.2.cells⟩; go_simp; all_goals with_reducible rfl
    change wpAnyH _ _ _ _ _ _ _ (Act.put _ (some 27) _) _
    simp only [Act.put, List.setIfInBounds_toArray, List.set_cons_zero, List.set_cons_succ]
    refine wpAnyH_ready (rs := [6]) (by kernel_rfl) (by simp) ?_
    refine AllReadyH.cons rfl (fun KK hK => ?_) AllReadyH.nil
    go_simp
    have hI := implText_any _ E _ hD hfE hE hY
    rw [HT.out] at hI
    refine hI.mono ?_
    rintro e wz19 ⟨rfl, hX⟩
    replace hd := hd.below hX
    replace ha := ha.below hX
    replace hb := hb.below hX
    replace hD := hD.below hX
    replace hA := hA.below hX
    replace hB := hB.below hX
    replace hE := hE.below hX
    replace hY := hY.below hX
    replace HB : Hid (Below w.heap.size w wz19) := HB.out.trans (hX.mono HB.out.size)
    clear hX hI
    go_wp2_with fail
    refine hK.out _ _ ⟨hd, ha, hb⟩ (fun hHeld => ?_)
    clear hK KK
    try simp only [Act.put, List.setIfInBounds_toArray, List.set_cons_zero, List.set_cons_succ]
    refine' wpAnyH_take (i := 7) (v := _) rfl (by kernel_rfl) (by kernel_rfl) (by kernel_rfl) (fun _ _ _ h => h) (Or.inl ⟨by kernel_rfl, ?hkb8⟩) (by assumption) ?rkb8
    case hkb8 => intro W hW; obtain ⟨⟨c0, c1, c2, c3⟩, ⟨d0, d1, d2, d3⟩, ⟨e0, e1, e2, e3⟩⟩ : (_ ∧ _ ∧ _ ∧ _) ∧ (_ ∧ _ ∧ _ ∧ _) ∧ (_ ∧ _ ∧ _ ∧ _) := ⟨hW.1.cells, hW.2.1.cells, hW.2.2.cells⟩; go_simp; all_goals with_reducible rfl
    change wpAnyH _ _ _ _ _ _ _ (Act.put _ (some 25) _) _
    simp only [Act.put, List.setIfInBounds_toArray, List.set_cons_zero, List.set_cons_succ]
    refine' wpAnyH_take (i := 10) (v := _) rfl (by kernel_rfl) (by kernel_rfl) (by kernel_rfl) (fun _ _ _ h => h) (Or.inl ⟨by kernel_rfl, ?hkb9⟩) (by assumption) ?rkb9
    case hkb9 => intro W hW; obtain ⟨⟨c0, c1, c2, c3⟩, ⟨d0, d1, d2, d3⟩, ⟨e0, e1, e2, e3⟩⟩ : (_ ∧ _ ∧ _ ∧ _) ∧ (_ ∧ _ ∧ _ ∧ _) ∧ (_ ∧ _ ∧ _ ∧ _) := ⟨hW.1.cells, hW.2.1.cells, hW.2.2.cells⟩; go_simp; all_goals with_reducible rfl
    change wpAnyH _ _ _ _ _ _ _ (Act.put _ (some 28) _) _
    simp only [Act.put, List.setIfInBounds_toArray, List.set_cons_zero, List.set_cons_succ]
    refine' wpAnyH_take (i := 11) (v := _) rfl (by kernel_rfl) (by kernel_rfl) (by kernel_rfl) (fun _ _ _ h => h) (Or.inl ⟨by kernel_rfl, ?hkb10⟩) (by assumption) ?rkb10
    case hkb10 => intro W hW; obtain ⟨⟨c0, c1, c2, c3⟩, ⟨d0, d1, d2, d3⟩, ⟨e0, e1, e2, e3⟩⟩ : (_ ∧ _ ∧ _ ∧ _) ∧ (_ ∧ _ ∧ _ ∧ _) ∧ (_ ∧ _ ∧ _ ∧ _) := ⟨hW.1.cells, hW.2.1.cells, hW.2.2.cells⟩; go_simp; all_goals with_reducible rfl
    change wpAnyH _ _ _ _ _ _ _ (Act.put _ (some 29) _) _
    simp only [Act.put, List.setIfInBounds_toArray, List.set_cons_zero, List.set_cons_succ]
    refine' wpAnyH_take (i := 12) (v := _) rfl (by kernel_rfl) (by kernel_rfl) (by kernel_rfl) (fun _ _ _ h => h) (Or.inl ⟨by kernel_rfl, ?hkb11⟩) (by assumption) ?rkb11
    case hkb11 => intro W hW; obtain ⟨⟨c0, c1, c2, c3⟩, ⟨d0, d1, d2, d3⟩, ⟨e0, e1, e2, e3⟩⟩ : (_ ∧ _ ∧ _ ∧ _) ∧ (_ ∧ _ ∧ _ ∧ _) ∧ (_ ∧ _ ∧ _ ∧ _) := ⟨hW.1.cells, hW.2.1.cells, hW.2.2.cells⟩; go_simp; all_goals with_reducible rfl
    change wpAnyH _ _ _ _ _ _ _ (Act.put _ (some 30) _) _
    simp only [Act.put, List.setIfInBounds_toArray, List.set_cons_zero, List.set_cons_succ]
    refine' wpAnyH_take (i := 13) (v := _) rfl (by kernel_rfl) (by kernel_rfl) (by kernel_rfl) (fun _ _ _ h => h) (Or.inl ⟨by kernel_rfl, ?hkb12⟩) (by assumption) ?rkb12
    case hkb12 => intro W hW; obtain ⟨⟨c0, c1, c2, c3⟩, ⟨d0, d1, d2, d3⟩, ⟨e0, e1, e2, e3⟩⟩ : (_ ∧ _ ∧ _ ∧ _) ∧ (_ ∧ _ ∧ _ ∧ _) ∧ (_ ∧ _ ∧ _ ∧ _) := ⟨hW.1.cells, hW.2.1.cells, hW.2.2.cells⟩; go_simp; all_goals with_reducible rfl
    change wpAnyH _ _ _ _ _ _ _ (Act.put _ (some 31) _) _
    simp only [Act.put, List.setIfInBounds_toArray, List.set_cons_zero, List.set_cons_succ]
    refine' wpAnyH_take (i := 15) (v := _) rfl (by kernel_rfl) (by kernel_rfl) (by kernel_rfl) (fun _ _ _ h => h) (Or.inl ⟨by kernel_rfl, ?hkb13⟩) (by assumption) ?rkb13
    case hkb13 => intro W hW; obtain ⟨⟨c0, c1, c2, c3⟩, ⟨d0, d1, d2, d3⟩, ⟨e0, e1, e2, e3⟩⟩ : (_ ∧ _ ∧ _ ∧ _) ∧ (_ ∧ _ ∧ _ ∧ _) ∧ (_ ∧ _ ∧ _ ∧ _) := ⟨hW.1.cells, hW.2.1.cells, hW.2.2.cells⟩; go_simp; all_goals with_reducible rfl
    change wpAnyH _ _ _ _ _ _ _ (Act.put _ (some 33) _) _
    simp only [Act.put, List.setIfInBounds_toArray, List.set_cons_zero, List.set_cons_succ]
    refine wpAnyH_ready (rs := [14]) (by kernel_rfl) (by simp) ?_
    refine AllReadyH.cons rfl (fun KK hK => ?_) AllReadyH.nil
    go_simp
    have hI := implText_any _ E _ hD hfE hE hY
    rw [HT.out] at hI
    refine hI.mono ?_
    rintro e wz20 ⟨rfl, hX⟩
    replace hd := hd.below hX
    replace ha := ha.below hX
    replace hb := hb.below hX
    replace hD := hD.below hX
    replace hA := hA.below hX
    replace hB := hB.below hX
    replace hE := hE.below hX
    replace hY := hY.below hX
    replace HB : Hid (Below w.heap.size w wz20) := HB.out.trans (hX.mono HB.out.size)
    clear hX hI
    go_wp2_with fail
    refine hK.out _ _ ⟨hd, ha, hb⟩ (fun hHeld => ?_)
    clear hK KK
    try simp only [Act.put, List.setIfInBounds_toArray, List.set_cons_zero, List.set_cons_succ]
    refine wpAnyH_ready (rs := [16]) (by kernel_rfl) (by simp) ?_
    refine AllReadyH.cons rfl (fun KK hK => ?_) AllReadyH.nil
    go_simp
    have hI := specText_any _ E _ hD hfE
    rw [HT.out] at hI
    refine hI.mono ?_
    rintro e wz21 ⟨rfl, hX⟩
    replace hd := hd.below hX
    replace ha := ha.below hX
    replace hb := hb.below hX
    replace hD := hD.below hX
    replace hA := hA.below hX
    replace hB := hB.below hX
    replace hE := hE.below hX
    replace hY := hY.below hX
    replace HB : Hid (Below w.heap.size w wz21) := HB.out.trans (hX.mono HB.out.size)
    clear hX hI
    go_wp2_with fail
    refine hK.out _ _ ⟨hd, ha, hb⟩ (fun hHeld => ?_)
    clear hK KK
    try simp only [Act.put, List.setIfInBounds_toArray, List.set_cons_zero, List.set_cons_succ]
    refine' wpAnyH_take (i := 17) (v := _) rfl (by kernel_rfl) (by kernel_rfl) (by kernel_rfl) (fun _ _ _ h => h) (Or.inl ⟨by kernel_rfl, ?hkb14⟩) (by assumption) ?rkb14
    case hkb14 => intro W hW; obtain ⟨⟨c0, c1, c2, c3⟩, ⟨d0, d1, d2, d3⟩, ⟨e0, e1, e2, e3⟩⟩ : (_ ∧ _ ∧ _ ∧ _) ∧ (_ ∧ _ ∧ _ ∧ _) ∧ (_ ∧ _ ∧ _ ∧ _) := ⟨hW.1.cells, hW.2.1.cells, hW.2.2.cells⟩; go_simp; all_goals with_reducible rfl
    change wpAnyH _ _ _ _ _ _ _ (Act.put _ (some 35) _) _
    simp only [Act.put, List.setIfInBounds_toArray, List.set_cons_zero, List.set_cons_succ]
    refine' wpAnyH_take (i := 18) (v := _) rfl (by kernel_rfl) (by kernel_rfl) (by kernel_rfl) (fun _ _ _ h => h) (Or.inl ⟨by kernel_rfl, ?hkb15⟩) (by assumption) ?rkb15
    case hkb15 => intro W hW; obtain ⟨⟨c0, c1, c2, c3⟩, ⟨d0, d1, d2, d3⟩, ⟨e0, e1, e2, e3⟩⟩ : (_ ∧ _ ∧ _ ∧ _) ∧ (_ ∧ _ ∧ _ ∧ _) ∧ (_ ∧ _ ∧ _ ∧ _) := ⟨hW.1.cells, hW.2.1.cells, hW.2.2.cells⟩; go_simp; all_goals with_reducible rfl
    change wpAnyH _ _ _ _ _ _ _ (Act.put _ (some 36) _) _
    simp only [Act.put, List.setIfInBounds_toArray, List.set_cons_zero, List.set_cons_succ]
    refine' wpAnyH_take (i := 19) (v := _) rfl (by kernel_rfl) (by kernel_rfl) (by kernel_rfl) (fun _ _ _ h => h) (Or.inl ⟨by kernel_rfl, ?hkb16⟩) (by assumption) ?rkb16
    case hkb16 => intro W hW; obtain ⟨⟨c0, c1, c2, c3⟩, ⟨d0, d1, d2, d3⟩, ⟨e0, e1, e2, e3⟩⟩ : (_ ∧ _ ∧ _ ∧ _) ∧ (_ ∧ _ ∧ _ ∧ _) ∧ (_ ∧ _ ∧ _ ∧ _) := ⟨hW.1.cells, hW.2.1.cells, hW.2.2.cells⟩; go_simp; all_goals with_reducible rfl
    change wpAnyH _ _ _ _ _ _ _ (Act.put _ (some 37) _) _
    simp only [Act.put, List.setIfInBounds_toArray, List.set_cons_zero, List.set_cons_succ]
    refine' wpAnyH_take (i := 20) (v := _) rfl (by kernel_rfl) (by kernel_rfl) (by kernel_rfl) (fun _ _ _ h => h) (Or.inl ⟨by kernel_rfl, ?hkb17⟩) (by assumption) ?rkb17
    case hkb17 => intro W hW; obtain ⟨⟨c0, c1, c2, c3⟩, ⟨d0, d1, d2, d3⟩, ⟨e0, e1, e2, e3⟩⟩ : (_ ∧ _ ∧ _ ∧ _) ∧ (_ ∧ _ ∧ _ ∧ _) ∧ (_ ∧ _ ∧ _ ∧ _) := ⟨hW.1.cells, hW.2.1.cells, hW.2.2.cells⟩; go_simp; all_goals with_reducible rfl
    change wpAnyH _ _ _ _ _ _ _ (Act.put _ (some 38) _) _
    simp only [Act.put, List.setIfInBounds_toArray, List.set_cons_zero, List.set_cons_succ]
    refine' wpAnyH_take (i := 21) (v := _) rfl (by kernel_rfl) (by kernel_rfl) (by kernel_rfl) (fun _ _ _ h => h) (Or.inl ⟨by kernel_rfl, ?hkb18⟩) (by assumption) ?rkb18
    case hkb18 => intro W hW; obtain ⟨⟨c0, c1, c2, c3⟩, ⟨d0, d1, d2, d3⟩, ⟨e0, e1, e2, e3⟩⟩ : (_ ∧ _ ∧ _ ∧ _) ∧ (_ ∧ _ ∧ _ ∧ _) ∧ (_ ∧ _ ∧ _ ∧ _) := ⟨hW.1.cells, hW.2.1.cells, hW.2.2.cells⟩; go_simp; all_goals with_reducible rfl
    change wpAnyH _ _ _ _ _ _ _ (Act.put _ (some 39) _) _
    simp only [Act.put, List.setIfInBounds_toArray, List.set_cons_zero, List.set_cons_succ]
    refine' wpAnyH_take (i := 23) (v := _) rfl (by kernel_rfl) (by kernel_rfl) (by kernel_rfl) (fun _ _ _ h => h) (Or.inl ⟨by kernel_rfl, ?hkb19⟩) (by assumption) ?rkb19
    case hkb19 => intro W hW; obtain ⟨⟨c0, c1, c2, c3⟩, ⟨d0, d1, d2, d3⟩, ⟨e0, e1, e2, e3⟩⟩ : (_ ∧ _ ∧ _ ∧ _) ∧ (_ ∧ _ ∧ _ ∧ _) ∧ (_ ∧ _ ∧ _ ∧ _) := ⟨hW.1.cells, hW.2.1.cells, hW.2.2.cells⟩; go_simp; all_goals with_reducible rfl
    change wpAnyH _ _ _ _ _ _ _ (Act.put _ (some 41) _) _
    simp only [Act.put, List.setIfInBounds_toArray, List.set_cons_zero, List.set_cons_succ]
    refine' wpAnyH_take (i := 24) (v := _) rfl (by kernel_rfl) (by kernel_rfl) (by kernel_rfl) (fun _ _ _ h => h) (Or.inl ⟨by kernel_rfl, ?hkb20⟩) (by assumption) ?rkb20
    case hkb20 => intro W hW; obtain ⟨⟨c0, c1, c2, c3⟩, ⟨d0, d1, d2, d3⟩, ⟨e0, e1, e2, e3⟩⟩ : (_ ∧ _ ∧ _ ∧ _) ∧ (_ ∧ _ ∧ _ ∧ _) ∧ (_ ∧ _ ∧ _ ∧ _) := ⟨hW.1.cells, hW.2.1.cells, hW.2.2.cells⟩; go_simp; all_goals with_reducible rfl
    change wpAnyH _ _ _ _ _ _ _ (Act.put _ (some 42) _) _
    simp only [Act.put, List.setIfInBounds_toArray, List.set_cons_zero, List.set_cons_succ]
    refine wpAnyH_ready (rs := [22]) (by kernel_rfl) (by simp) ?_
    refine AllReadyH.cons rfl (fun KK hK => ?_) AllReadyH.nil
    go_simp
    have hI := implSame_any _ _ F G _ hA hB hfF
    rw [HQ.out] at hI
    refine hI.mono ?_
    rintro e wz22 ⟨rfl, hX⟩
    replace hd := hd.below hX
    replace ha := ha.below hX
    replace hb := hb.below hX
    replace hD := hD.below hX
    replace hA := hA.below hX
    replace hB := hB.below hX
    replace hE := hE.below hX
    replace hY := hY.below hX
    replace HB : Hid (Below w.heap.size w wz22) := HB.out.trans (hX.mono HB.out.size)
    clear hX hI
    go_wp2_with fail
    refine hK.out _ _ ⟨hd, ha, hb⟩ (fun hHeld => ?_)
    clear hK KK
    try simp only [Act.put, List.setIfInBounds_toArray, List.set_cons_zero, List.set_cons_succ]
    refine wpAnyH_ready (rs := [25]) (by kernel_rfl) (by simp) ?_
    refine AllReadyH.cons rfl (fun KK hK => ?_) AllReadyH.nil
    go_simp
    have hI := specSame_any _ _ F G _ hA hB hfF
    rw [HQ.out] at hI
    refine hI.mono ?_
    rintro e wz23 ⟨rfl, hX⟩
    replace hd := hd.below hX
    replace ha := ha.below hX
    replace hb := hb.below hX
    replace hD := hD.below hX
    replace hA := hA.below hX
    replace hB := hB.below hX
    replace hE := hE.below hX
    replace hY := hY.below hX
    replace HB : Hid (Below w.heap.size w wz23) := HB.out.trans (hX.mono HB.out.size)
    clear hX hI
    go_wp2_with fail
    refine hK.out _ _ ⟨hd, ha, hb⟩ (fun hHeld => ?_)
    clear hK KK
    try simp only [Act.put, List.setIfInBounds_toArray, List.set_cons_zero, List.set_cons_succ]
    refine' wpAnyH_take (i := 26) (v := _) rfl (by kernel_rfl) (by kernel_rfl) (by kernel_rfl) (fun _ _ _ h => h) (Or.inl ⟨by kernel_rfl, ?hkb21⟩) (by assumption) ?rkb21
    case hkb21 => intro W hW; obtain ⟨⟨c0, c1, c2, c3⟩, ⟨d0, d1, d2, d3⟩, ⟨e0, e1, e2, e3⟩⟩ : (_ ∧ _ ∧ _ ∧ _) ∧ (_ ∧ _ ∧ _ ∧ _) ∧ (_ ∧ _ ∧ _ ∧ _) := ⟨hW.1.cells, hW.2.1.cells, hW.2.2.cells⟩; go_simp; all_goals with_reducible rfl
    change wpAnyH _ _ _ _ _ _ _ (Act.put _ (some 44) _) _
    simp only [Act.put, List.setIfInBounds_toArray, List.set_cons_zero, List.set_cons_succ]
    refine' wpAnyH_take (i := 27) (v := _) rfl (by kernel_rfl) (by kernel_rfl) (by kernel_rfl) (fun _ _ _ h => h) (Or.inl ⟨by kernel_rfl, ?hkb22⟩) (by assumption) ?rkb22
    case hkb22 => intro W hW; obtain ⟨⟨c0, c1, c2, c3⟩, ⟨d0, d1, d2, d3⟩, ⟨e0, e1, e2, e3⟩⟩ : (_ ∧ _ ∧ _ ∧ _) ∧ (_ ∧ _ ∧ _ ∧ _) ∧ (_ ∧ _ ∧ _ ∧ _) := ⟨hW.1.cells, hW.2.1.cells, hW.2.2.cells⟩; go_simp; all_goals with_reducible rfl
    change wpAnyH _ _ _ _ _ _ _ (Act.put _ (some 45) _) _
    simp only [Act.put, List.setIfInBounds_toArray, List.set_cons_zero, List.set_cons_succ]
    refine' wpAnyH_take (i := 28) (v := _) rfl (by kernel_rfl) (by kernel_rfl) (by kernel_rfl) (fun _ _ _ h => h) (Or.inl ⟨by kernel_rfl, ?hkb23⟩) (by assumption) ?rkb23
    case hkb23 => intro W hW; obtain ⟨⟨c0, c1, c2, c3⟩, ⟨d0, d1, d2, d3⟩, ⟨e0, e1, e2, e3⟩⟩ : (_ ∧ _ ∧ _ ∧ _) ∧ (_ ∧ _ ∧ _ ∧ _) ∧ (_ ∧ _ ∧ _ ∧ _) := ⟨hW.1.cells, hW.2.1.cells, hW.2.2.cells⟩; go_simp; all_goals with_reducible rfl
    change wpAnyH _ _ _ _ _ _ _ (Act.put _ (some 46) _) _
    simp only [Act.put, List.setIfInBounds_toArray, List.set_cons_zero, List.set_cons_succ]
    refine' wpAnyH_take (i := 29) (v := _) rfl (by kernel_rfl) (by kernel_rfl) (by kernel_rfl) (fun _ _ _ h => h) (Or.inl ⟨by kernel_rfl, ?hkb24⟩) (by assumption) ?rkb24
    case hkb24 => intro W hW; obtain ⟨⟨c0, c1, c2, c3⟩, ⟨d0, d1, d2, d3⟩, ⟨e0, e1, e2, e3⟩⟩ : (_ ∧ _ ∧ _ ∧ _) ∧ (_ ∧ _ ∧ _ ∧ _) ∧ (_ ∧ _ ∧ _ ∧ _) := ⟨hW.1.cells, hW.2.1.cells, hW.2.2.cells⟩; go_simp; all_goals with_reducible rfl
    change wpAnyH _ _ _ _ _ _ _ (Act.put _ (some 47) _) _
    simp only [Act.put, List.setIfInBounds_toArray, List.set_cons_zero, List.set_cons_succ]
    refine' wpAnyH_take (i := 30) (v := _) rfl (by kernel_rfl) (by kernel_rfl) (by kernel_rfl) (fun _ _ _ h => h) (Or.inl ⟨by kernel_rfl, ?hkb25⟩) (by assumption) ?rkb25
    case hkb25 => intro W hW; obtain ⟨⟨c0, c1, c2, c3⟩, ⟨d0, d1, d2, d3⟩, ⟨e0, e1, e2, e3⟩⟩ : (_ ∧ _ ∧ _ ∧ _) ∧ (_ ∧ _ ∧ _ ∧ _) ∧ (_ ∧ _ ∧ _ ∧ _) := ⟨hW.1.cells, hW.2.1.cells, hW.2.2.cells⟩; go_simp; all_goals with_reducible rfl
    change wpAnyH _ _ _ _ _ _ _ (Act.put _ (some 48) _) _
    simp only [Act.put, List.setIfInBounds_toArray, List.set_cons_zero, List.set_cons_succ]
    refine wpAnyH_ready (rs := [31]) (by kernel_rfl) (by simp) ?_
    refine AllReadyH.cons rfl (fun KK hK => ?_) AllReadyH.nil
    go_simp
    have hI := implSame_any _ _ F F _ hA hA hfF
    rw [HS.out] at hI
    refine hI.mono ?_
    rintro e wz24 ⟨rfl, hX⟩
    replace hd := hd.below hX
    replace ha := ha.below hX
    replace hb := hb.below hX
    replace hD := hD.below hX
    replace hA := hA.below hX
    replace hB := hB.below hX
    replace hE := hE.below hX
    replace hY := hY.below hX
    replace HB : Hid (Below w.heap.size w wz24) := HB.out.trans (hX.mono HB.out.size)
    clear hX hI
    go_wp2_with fail
    refine hK.out _ _ ⟨hd, ha, hb⟩ (fun hHeld => ?_)
    clear hK KK
    try simp only [Act.put, List.setIfInBounds_toArray, List.set_cons_zero, List.set_cons_succ]
    refine' wpAnyH_take (i := 32) (v := _) rfl (by kernel_rfl) (by kernel_rfl) (by kernel_rfl) (fun _ _ _ h => h) (Or.inl ⟨by kernel_rfl, ?hkb26⟩) (by assumption) ?rkb26
    case hkb26 => intro W hW; obtain ⟨⟨c0, c1, c2, c3⟩, ⟨d0, d1, d2, d3⟩, ⟨e0, e1, e2, e3⟩⟩ : (_ ∧ _ ∧ _ ∧ _) ∧ (_ ∧ _ ∧ _ ∧ _) ∧ (_ ∧ _ ∧ _ ∧ _) := ⟨hW.1.cells, hW.2.1.cells, hW.2.2.cells⟩; go_simp; all_goals with_reducible rfl
    change wpAnyH _ _ _ _ _ _ _ (Act.put _ (some 50) _) _
    simp only [Act.put, List.setIfInBounds_toArray, List.set_cons_zero, List.set_cons_succ]
    refine' wpAnyH_take (i := 33) (v := _) rfl (by kernel_rfl) (by kernel_rfl) (by kernel_rfl) (fun _ _ _ h => h) (Or.inl ⟨by kernel_rfl, ?hkb27⟩) (by assumption) ?rkb27
    case hkb27 => intro W hW; obtain ⟨⟨c0, c1, c2, c3⟩, ⟨d0, d1, d2, d3⟩, ⟨e0, e1, e2, e3⟩⟩ : (_ ∧ _ ∧ _ ∧ _) ∧ (_ ∧ _ ∧ _ ∧ _) ∧ (_ ∧ _ ∧ _ ∧ _) := ⟨hW.1.cells, hW.2.1.cells, hW.2.2.cells⟩; go_simp; all_goals with_reducible rfl
    change wpAnyH _ _ _ _ _ _ _ (Act.put _ (some 2) _) _
    simp only [Act.put, List.setIfInBounds_toArray, List.set_cons_zero, List.set_cons_succ]
    refine wpAnyH_done (by kernel_rfl) ?_ _
    clear hd ha hb hD hA hB hE hY hHeld
    go_wp2
    go_ret
    exact ⟨rfl, HB.out⟩
end Go.Proofs.YtfjlmkphncigladGreatDoor

/-
  What the laid variables hold: the library's error type, the program's words of the types.
-/
namespace Go.Proofs.YtfjlmkphncigladGreatDoor
open Go.RowKit
set_option maxRecDepth 4000

theorem et_named : Tryz.prog.globalNamed "errors.errorType" = some 0 := by kernel_rfl
theorem et_rtype : (Tryz.prog.cutTypes.find? (·.1 == "internal/reflectlite.rtype")).map (·.2) = some 106 := by kernel_rfl
theorem et_one : ((List.range 197).filter fun t => Tryz.prog.rowNamed t [101, 114, 114, 111, 114]) = [42] := by kernel_rfl
theorem et_size : Tryz.prog.types.size = 197 := by kernel_rfl
theorem errT_of {W : World} (h : handlesMet Tryz.prog [("errors.errorType", Rows.laid_errors_errorType)] W) : ErrT W := by
  obtain ⟨name, u, ty, e1, e2, e3, e4, e5⟩ := h _ (List.mem_singleton.2 rfl)
  have en : name = [101, 114, 114, 111, 114] := (Option.some.inj e1).symm
  subst en
  obtain rfl := Option.some.inj (et_rtype.symm.trans e2)
  have hm : ty ∈ (List.range 197).filter fun t => Tryz.prog.rowNamed t [101, 114, 114, 111, 114] := List.mem_filter.2 ⟨List.mem_range.2 (by rw [← et_size]; exact e3), e4⟩
  rw [et_one] at hm
  obtain rfl := List.mem_singleton.1 hm
  have hh : typeHandle Tryz.prog 42 = hdl 42 := by kernel_rfl
  rw [hh] at e5
  have := World.var?_cell et_named e5 0
  unfold ErrT
  simpa using this

/-- An array of texts that reads as a list holds these texts, cell for cell. -/
theorem cells_of_strs {H : Type} {enc : TypeId × Value → H} {P : Program} {w : World} {base : Nat} {sp : Nat → Bool} {held : Bool} {fuel : Nat} {t e : TypeId} {n : Nat} {cs : List Value} {zs : List (List UInt8)} {p : List MemPlace}
    (ht : P.underlying t = some (.array n e)) (he : P.underlying e = some .string) (hce : P.cellsOf e = 1) (hct : P.cellsOf t = n)
    (h : DataW.trod enc P w base sp held fuel t cs = some (.agg (zs.map fun z => .lit (.string z)), p)) : cs = zs.map fun z => Value.string ⟨z.toArray⟩ := by
  cases fuel with
  | zero => simp [DataW.trod] at h
  | succ fuel =>
    simp only [DataW.trod, ht, hce, hct, Nat.mul_one] at h
    split at h
    · rename_i hl
      obtain ⟨xs, hm, hx⟩ := Option.map_eq_some_iff.1 h
      have hxs : xs.map (·.1) = zs.map fun z => (DataW.lit (.string z) : DataW H) := by
        have := congrArg Prod.fst hx
        simpa using this
      have hxl : xs.length = n := by simpa using Lib.mapM_length hm
      have hzl : zs.length = n := by
        have := congrArg List.length hxs
        simp at this
        omega
      apply List.ext_getElem?
      intro i
      by_cases hi : i < n
      · obtain ⟨b, hb, hf⟩ := Lib.mapM_at hm i i (by simp [hi])
        obtain ⟨s, hc, rfl, _⟩ := DataW.trod_string he hf
        have h1 : cs[i]? = some (.string s) := by
          have := congrArg (·[0]?) hc
          simpa [List.getElem?_take, List.getElem?_drop] using this
        have h2 : (xs.map (·.1))[i]? = some (DataW.lit (.string s.data.toList) : DataW H) := by simp [hb]
        rw [hxs] at h2
        simp only [List.getElem?_map, Option.map_eq_some_iff, DataW.lit.injEq, Lit.string.injEq] at h2
        obtain ⟨z', hz', rfl⟩ := h2
        simp [h1, hz']
      · rw [List.getElem?_eq_none (by omega), List.getElem?_eq_none (by simp; omega)]
    · cases h

def tyL : List (List UInt8) := [[], [105, 110, 116], [110, 117, 109], [116, 101, 120, 116], [98, 111, 111, 108]]
theorem ty_named : Tryz.prog.globalNamed "loop.example/g00322/impl.typeNames" = some 1 := by kernel_rfl
theorem tyN_of {W : World} (h : laidMet Tryz.prog [("loop.example/g00322/impl.typeNames", Rows.laid_loop_example_g00322_impl_typeNames)] W) : TyN W := by
  obtain ⟨ps, ⟨g', t', cs, fuel, p, q, hg', ht', hvar, hd, _, _⟩, _⟩ := h
  obtain rfl := Option.some.inj (ty_named.symm.trans hg')
  have hty : (Tryz.prog.globals[1]?).map (·.type) = some 99 := by kernel_rfl
  obtain rfl := Option.some.inj (hty.symm.trans ht')
  have hc := cells_of_strs (zs := tyL) Tryz.underlying99 Tryz.underlying9 (by kernel_rfl) (by kernel_rfl) hd
  intro i hi
  have h1 := World.var?_cell ty_named hvar i
  rw [h1, ← Array.getElem?_toList, hc]
  match i, hi with
  | 0, _ => rfl
  | 1, _ => rfl
  | 2, _ => rfl
  | 3, _ => rfl
  | 4, _ => rfl
end Go.Proofs.YtfjlmkphncigladGreatDoor

