/-
  Together: NodeOkI, PutSpec, PutTextSpec
-/
import Derived.Test.YtaiinlcdfeboiaaNP7
import Derived.Test.YtaiinlcdfeboiaaNP1
import Derived.WalkSpells
import Derived.Test.YtaiinlcdfeboiaaNP6
/-
  The program's NodeOk.
-/
namespace Go.Proofs.Ytaiinlcdfeboiaa
open Go.RowKit
set_option maxRecDepth 4000

def pureL (D : PNode) : PNode := { D with nd := 0 }
def pureV (D : PNode) : PNode := { D with nv := 0 }
theorem pureL_same {D : PNode} (h : D.leaf = true) : sameNd (pureL D) D = true ↔ Pure D := by
  constructor
  · intro hs
    simp only [sameNd, pureL, sameTx, sameNu, Bool.and_eq_true, decide_eq_true_eq] at hs
    exact .inl ⟨h, by omega⟩
  · intro hs
    rcases hs with ⟨-, h0⟩ | ⟨h1, -⟩
    · simp [sameNd, pureL, sameTx, sameNu, h0]
    · rw [h] at h1; cases h1
theorem pureV_same {D : PNode} (h : D.leaf = false) : sameNd (pureV D) D = true ↔ Pure D := by
  constructor
  · intro hs
    simp only [sameNd, pureV, sameTx, sameNu, Bool.and_eq_true, decide_eq_true_eq] at hs
    exact .inr ⟨h, by omega⟩
  · intro hs
    rcases hs with ⟨h1, -⟩ | ⟨-, h0⟩
    · rw [h] at h1; cases h1
    · simp [sameNd, pureV, sameTx, sameNu, h0]
theorem leafOk_kind {D : PNode} (h : D.leaf = true) : LeafOk D.nk D.key D.nv D.val ↔ KindI D := by
  constructor
  · rintro ⟨h1, h2, h3, h4, h5⟩; exact .inl ⟨h, h1, h2, h3, h4, h5⟩
  · rintro (⟨-, h1, h2, h3, h4, h5⟩ | ⟨h1, -⟩)
    · exact ⟨h1, h2, h3, h4, h5⟩
    · rw [h] at h1; cases h1
theorem innerOk_kind {D : PNode} (h : D.leaf = false) : InnerOk D.nk D.key D.nd D.kid ↔ KindI D := by
  constructor
  · rintro ⟨h1, h2, h3⟩; exact .inr ⟨h, h1, h2, h3⟩
  · rintro (⟨h1, -⟩ | ⟨-, h1, h2, h3⟩)
    · rw [h] at h1; cases h1
    · exact ⟨h1, h2, h3⟩
theorem SaysB.is {w w' : World} {P : Prop} {e : Ending} {b : Bool} (hb : b = true ↔ P) (h : SaysB w P e w') : e = .returned (.bool b) ∧ Below w.heap.size w w' := by
  obtain ⟨r, rfl, hr, hB⟩ := h
  refine ⟨?_, hB⟩
  cases r <;> cases b <;> first | rfl | (have := hr.2 (hb.1 rfl); cases this) | (have := hb.2 (hr.1 rfl); cases this)

set_option maxHeartbeats 4000000 in
theorem implNodeOk_leaf (D : PNode) (hleaf : D.leaf = true) (ac : Option Addr) (cc : Nat) (ap : Option Addr) (cp : Nat) (ai : Option Addr) (ci : Nat) (w : World) (hc : TxV w ac D.nk cc D.key) (hp : TxV w ap D.nv cp D.val) (hi : NuV w ai D.nd ci D.kid) (hf : NFine D) :
    Calls Try.prog 14 #[.agg #[.bool true, .slice ac D.nk cc, .slice ap D.nv cp, .slice ai D.nd ci]] w (SaysB w (OkI D)) := by
  obtain ⟨W0, hW0⟩ : ∃ W0, Hid (w.alloc (.cells #[.bool true, .slice ac D.nk cc, .slice ap D.nv cp, .slice ai D.nd ci] 27) = W0) := ⟨_, rfl⟩
  have hb0 : Below w.heap.size w W0 := by rw [← hW0.out]; exact (Below.refl _ _).alloc (Nat.le_refl _) _
  have HX : Hid (∀ W, Below W0.heap.size W0 W → (W.cell? ⟨w.heap.size, 0, none⟩ = some (.bool true) ∧ W.cell? ⟨w.heap.size, 1, none⟩ = some (.slice ac D.nk cc) ∧ W.cell? ⟨w.heap.size, 2, none⟩ = some (.slice ap D.nv cp) ∧ W.cell? ⟨w.heap.size, 3, none⟩ = some (.slice ai D.nd ci))) := by
    intro W hb
    rw [← hW0.out] at hb
    exact nbox4 (hb.mono (by simp))
  have HBK : Hid (∀ W, Below W0.heap.size W0 W → Below w.heap.size w W) := fun W hb => hb0.trans (hb.mono hb0.size)
  have hV : NdView w (.agg #[.bool true, .slice ac D.nk cc, .slice ap D.nv cp, .slice ai D.nd ci]) D := ⟨ac, cc, ap, cp, ai, ci, by rw [hleaf], hc, hp, hi⟩
  have hE : NdView w (.agg #[.bool true, .slice ac D.nk cc, .slice ap D.nv cp, .slice none 0 0]) (pureL D) := ⟨ac, cc, ap, cp, none, 0, by rw [show (pureL D).leaf = true from hleaf]; rfl, hc, hp, ⟨Nat.le_refl _, fun h => absurd h (Nat.lt_irrefl _)⟩⟩
  have hEf : NFine (pureL D) := ⟨hf.nk, hf.key, hf.nv, hf.val, Nat.zero_le _, fun i hi => absurd hi (Nat.not_lt_zero _)⟩
  have HS0 : Hid (sameNd (pureL D) D = true ↔ Pure D) := pureL_same hleaf
  obtain ⟨kk, HK0⟩ : ∃ kk : Bool, Hid (kk = true ↔ LeafOk D.nk D.key D.nv D.val) := ⟨@decide (LeafOk D.nk D.key D.nv D.val) (Classical.propDecidable _), @decide_eq_true_iff _ (Classical.propDecidable _)⟩
  have hK := kindOf_leaf ac ap ai D.nk cc D.nv cp D.nd ci W0
  have hO : ∀ W : World, Calls Try.prog 38 #[.iface 87 (.agg #[.slice ac D.nk cc, .slice ap D.nv cp])] W fun e w' => e = .returned (.agg #[.bool true, .slice ac D.nk cc, .slice ap D.nv cp, .slice none 0 0]) ∧ Below W.heap.size W w' := fun W => nodeOf_leaf _ _ _ _ _ _ W
  have hS : ∀ W : World, Below w.heap.size w W → Calls Try.prog 19 #[.agg #[.bool true, .slice ac D.nk cc, .slice ap D.nv cp, .slice none 0 0], .agg #[.bool true, .slice ac D.nk cc, .slice ap D.nv cp, .slice ai D.nd ci]] W fun e w' => e = .returned (.bool (sameNd (pureL D) D)) ∧ Below W.heap.size W w' := fun W hb => implSameNd_any _ _ _ _ W (hE.below hb) (hV.below hb) hEf
  have hQ : ∀ W : World, Below w.heap.size w W → Calls Try.prog 42 #[.iface 87 (.agg #[.slice ac D.nk cc, .slice ap D.nv cp])] W fun e w' => e = .returned (.bool kk) ∧ Below W.heap.size W w' := fun W hb => (kindOk_leaf ac ap D.nk cc D.nv cp D.key D.val W (hc.below hb) (hp.below hb) hf.nk hf.nv).mono fun e w' h => h.is HK0.out
  have hZ : ∀ W : World, Below w.heap.size w W → Calls Try.prog 16 #[.agg #[.bool true, .slice ac D.nk cc, .slice ap D.nv cp, .slice ai D.nd ci]] W fun e w' => e = .returned (.int .i64 (sizeN D)) ∧ Below W.heap.size W w' := fun W hb => implSizeOf_leaf D hleaf ac cc ap cp ai ci W (hc.below hb) (hp.below hb) (hi.below hb) hf
  obtain ⟨P, hP⟩ : ∃ P : Prop, Hid (OkI D = P) := ⟨_, rfl⟩
  have HP : Hid (P ↔ (Pure D ∧ kk = true ∧ sizeN D ≤ 240)) := by show _ ↔ _; rw [← hP.out, HK0.out, leafOk_kind hleaf]; rfl
  rw [hP.out]
  obtain ⟨s, hs⟩ : ∃ s, Hid (sameNd (pureL D) D = s) := ⟨_, rfl⟩
  obtain ⟨sz, hsz⟩ : ∃ s, Hid (sizeN D = s) := ⟨_, rfl⟩
  simp only [hs.out, hsz.out] at hS hZ HP HS0
  clear hP hs hsz hV hE hEf hc hp hi hf hleaf HK0 hb0
  unfold leafV at hK
  go_enter Try.func14, Try.ntmps14
  obtain ⟨x0, x1, x2, x3⟩ := HX.out W0 (Below.refl _ _)
  go_wp2_with (first | rw [hW0.out] | fail)
  refine hK.mono ?_
  rintro e w1 ⟨rfl, hb1⟩
  clear x0 x1 x2 x3
  obtain ⟨x0, x1, x2, x3⟩ := HX.out w1 hb1
  have HWK : Hid (∀ W, Below w1.heap.size w1 W → (W.cell? ⟨w.heap.size, 0, none⟩ = some (.bool true) ∧ W.cell? ⟨w.heap.size, 1, none⟩ = some (.slice ac D.nk cc) ∧ W.cell? ⟨w.heap.size, 2, none⟩ = some (.slice ap D.nv cp) ∧ W.cell? ⟨w.heap.size, 3, none⟩ = some (.slice ai D.nd ci))) := fun W hb => HX.out W (hb1.trans (hb.mono hb1.size))
  have HMW : Hid (∀ W, Below w1.heap.size w1 W → Below w.heap.size w W) := fun W hb => HBK.out W (hb1.trans (hb.mono hb1.size))
  clear hK hb1 HX HBK hW0
  cases s with
  | false =>
    have HN : Hid (¬ P) := fun h => by have := HS0.out.2 (HP.out.1 h).1; cases this
    clear HP HS0 hQ hZ
    go_wp2_with fail
    refine wp_region_held_drew (S := fun W => W.cell? ⟨w.heap.size, 0, none⟩ = some (.bool true) ∧ W.cell? ⟨w.heap.size, 1, none⟩ = some (.slice ac D.nk cc) ∧ W.cell? ⟨w.heap.size, 2, none⟩ = some (.slice ap D.nv cp) ∧ W.cell? ⟨w.heap.size, 3, none⟩ = some (.slice ai D.nd ci)) (by kernel_rfl) (HWK.out _ (Below.refl _ _).drew) (fun hHeld => ?_)
    have hb := (Below.refl w1.heap.size w1).drew
    refine' wpAnyH_take (i := 0) (v := _) rfl (by kernel_rfl) (by kernel_rfl) (by kernel_rfl) (fun _ _ _ h => h) (Or.inl ⟨by kernel_rfl, ?hleafa1⟩) (by assumption) ?rleafa1
    case hleafa1 => intro W hW; obtain ⟨c0, c1, c2, c3⟩ := hW; go_simp; all_goals with_reducible rfl
    change wpAnyH _ _ _ _ _ _ _ (Act.put _ (some 6) _) _
    simp only [Act.put, List.setIfInBounds_toArray, List.set_cons_zero, List.set_cons_succ]
    refine' wpAnyH_take (i := 2) (v := _) rfl (by kernel_rfl) (by kernel_rfl) (by kernel_rfl) (fun _ _ _ h => h) (Or.inl ⟨by kernel_rfl, ?hleafa2⟩) (by assumption) ?rleafa2
    case hleafa2 => intro W hW; obtain ⟨c0, c1, c2, c3⟩ := hW; go_simp; all_goals with_reducible rfl
    change wpAnyH _ _ _ _ _ _ _ (Act.put _ (some 8) _) _
    simp only [Act.put, List.setIfInBounds_toArray, List.set_cons_zero, List.set_cons_succ]
    refine wpAnyH_ready (rs := [1]) (by kernel_rfl) (by simp) ?_
    refine AllReadyH.cons rfl (fun KK hK => ?_) AllReadyH.nil
    go_simp
    refine (hO _).mono ?_
    rintro e wo ⟨rfl, hBn⟩
    have hbn := hb.trans (hBn.mono hb.size)
    clear hHeld hb hBn
    go_wp2_with fail
    refine hK.out _ _ (HWK.out _ hbn) (fun hHeld => ?_)
    have hb := hbn
    clear hbn
    clear hK KK
    try simp only [Act.put, List.setIfInBounds_toArray, List.set_cons_zero, List.set_cons_succ]
    refine wpAnyH_ready (rs := [3]) (by kernel_rfl) (by simp) ?_
    refine AllReadyH.cons rfl (fun KK hK => ?_) AllReadyH.nil
    go_simp
    refine (hS _ (HMW.out _ hb)).mono ?_
    rintro e ws ⟨rfl, hBn⟩
    have hbn := hb.trans (hBn.mono hb.size)
    clear hHeld hb hBn
    go_wp2_with fail
    refine hK.out _ _ (HWK.out _ hbn) (fun hHeld => ?_)
    have hb := hbn
    clear hbn
    clear hK KK
    try simp only [Act.put, List.setIfInBounds_toArray, List.set_cons_zero, List.set_cons_succ]
    refine' wpAnyH_take (i := 4) (v := _) rfl (by kernel_rfl) (by kernel_rfl) (by kernel_rfl) (fun _ _ _ h => h) (Or.inl ⟨by kernel_rfl, ?hleafa3⟩) (by assumption) ?rleafa3
    case hleafa3 => intro W hW; obtain ⟨c0, c1, c2, c3⟩ := hW; go_simp; all_goals with_reducible rfl
    change wpAnyH _ _ _ _ _ _ _ (Act.put _ (some 10) _) _
    simp only [Act.put, List.setIfInBounds_toArray, List.set_cons_zero, List.set_cons_succ]
    refine wpAnyH_take (i := 5) (v := undef) rfl (by kernel_rfl) (by kernel_rfl) (by kernel_rfl) (fun _ _ _ h => h) (Or.inr ⟨by kernel_rfl, rfl⟩) (by assumption) ?_
    change wpAnyH _ _ _ _ _ _ _ (Act.put _ (some 11) _) _
    simp only [Act.put, List.setIfInBounds_toArray, List.set_cons_zero, List.set_cons_succ]
    refine wpAnyH_take (i := 6) (v := undef) rfl (by kernel_rfl) (by kernel_rfl) (by kernel_rfl) (fun _ _ _ h => h) (Or.inr ⟨by kernel_rfl, rfl⟩) (by assumption) ?_
    change wpAnyH _ _ _ _ _ _ _ (Act.put _ (some 12) _) _
    simp only [Act.put, List.setIfInBounds_toArray, List.set_cons_zero, List.set_cons_succ]
    refine' wpAnyH_take (i := 7) (v := _) rfl (by kernel_rfl) (by kernel_rfl) (by kernel_rfl) (fun _ _ _ h => h) (Or.inl ⟨by kernel_rfl, ?hleafa6⟩) (by assumption) ?rleafa6
    case hleafa6 => intro W hW; obtain ⟨c0, c1, c2, c3⟩ := hW; go_simp; all_goals with_reducible rfl
    change wpAnyH _ _ _ _ _ _ _ (Act.put _ (some 13) _) _
    simp only [Act.put, List.setIfInBounds_toArray, List.set_cons_zero, List.set_cons_succ]
    refine' wpAnyH_take (i := 8) (v := _) rfl (by kernel_rfl) (by kernel_rfl) (by kernel_rfl) (fun _ _ _ h => h) (Or.inl ⟨by kernel_rfl, ?hleafa7⟩) (by assumption) ?rleafa7
    case hleafa7 => intro W hW; obtain ⟨c0, c1, c2, c3⟩ := hW; go_simp; all_goals with_reducible rfl
    change wpAnyH _ _ _ _ _ _ _ (Act.put _ (some 14) _) _
    simp only [Act.put, List.setIfInBounds_toArray, List.set_cons_zero, List.set_cons_succ]
    refine wpAnyH_take (i := 9) (v := undef) rfl (by kernel_rfl) (by kernel_rfl) (by kernel_rfl) (fun _ _ _ h => h) (Or.inr ⟨by kernel_rfl, rfl⟩) (by assumption) ?_
    change wpAnyH _ _ _ _ _ _ _ (Act.put _ (some 15) _) _
    simp only [Act.put, List.setIfInBounds_toArray, List.set_cons_zero, List.set_cons_succ]
    refine wpAnyH_take (i := 10) (v := undef) rfl (by kernel_rfl) (by kernel_rfl) (by kernel_rfl) (fun _ _ _ h => h) (Or.inr ⟨by kernel_rfl, rfl⟩) (by assumption) ?_
    change wpAnyH _ _ _ _ _ _ _ (Act.put _ (some 16) _) _
    simp only [Act.put, List.setIfInBounds_toArray, List.set_cons_zero, List.set_cons_succ]
    refine wpAnyH_take (i := 11) (v := undef) rfl (by kernel_rfl) (by kernel_rfl) (by kernel_rfl) (fun _ _ _ h => h) (Or.inr ⟨by kernel_rfl, rfl⟩) (by assumption) ?_
    change wpAnyH _ _ _ _ _ _ _ (Act.put _ (some 17) _) _
    simp only [Act.put, List.setIfInBounds_toArray, List.set_cons_zero, List.set_cons_succ]
    refine' wpAnyH_take (i := 12) (v := _) rfl (by kernel_rfl) (by kernel_rfl) (by kernel_rfl) (fun _ _ _ h => h) (Or.inl ⟨by kernel_rfl, ?hleafa11⟩) (by assumption) ?rleafa11
    case hleafa11 => intro W hW; obtain ⟨c0, c1, c2, c3⟩ := hW; go_simp; all_goals with_reducible rfl
    change wpAnyH _ _ _ _ _ _ _ (Act.put _ (some 18) _) _
    simp only [Act.put, List.setIfInBounds_toArray, List.set_cons_zero, List.set_cons_succ]
    refine' wpAnyH_take (i := 13) (v := _) rfl (by kernel_rfl) (by kernel_rfl) (by kernel_rfl) (fun _ _ _ h => h) (Or.inl ⟨by kernel_rfl, ?hleafa12⟩) (by assumption) ?rleafa12
    case hleafa12 => intro W hW; obtain ⟨c0, c1, c2, c3⟩ := hW; go_simp; all_goals with_reducible rfl
    change wpAnyH _ _ _ _ _ _ _ (Act.put _ (some 2) _) _
    simp only [Act.put, List.setIfInBounds_toArray, List.set_cons_zero, List.set_cons_succ]
    refine wpAnyH_done (by kernel_rfl) ?_ _
    have HB : Hid (Below w.heap.size w _) := HMW.out _ hb
    clear hb hHeld HWK HMW
    go_wp2
    go_ret
    exact ⟨_, rfl, ⟨(fun h => by cases h), fun h => absurd h HN.out⟩, HB.out⟩

  | true =>
  have HPU : Hid (Pure D) := HS0.out.1 rfl
  clear HS0
  cases kk with
  | false =>
    have HN : Hid (¬ P) := fun h => by have := (HP.out.1 h).2.1; cases this
    clear HP hZ HPU
    go_wp2_with fail
    refine wp_region_held_drew (S := fun W => W.cell? ⟨w.heap.size, 0, none⟩ = some (.bool true) ∧ W.cell? ⟨w.heap.size, 1, none⟩ = some (.slice ac D.nk cc) ∧ W.cell? ⟨w.heap.size, 2, none⟩ = some (.slice ap D.nv cp) ∧ W.cell? ⟨w.heap.size, 3, none⟩ = some (.slice ai D.nd ci)) (by kernel_rfl) (HWK.out _ (Below.refl _ _).drew) (fun hHeld => ?_)
    have hb := (Below.refl w1.heap.size w1).drew
    refine' wpAnyH_take (i := 0) (v := _) rfl (by kernel_rfl) (by kernel_rfl) (by kernel_rfl) (fun _ _ _ h => h) (Or.inl ⟨by kernel_rfl, ?hleafb1⟩) (by assumption) ?rleafb1
    case hleafb1 => intro W hW; obtain ⟨c0, c1, c2, c3⟩ := hW; go_simp; all_goals with_reducible rfl
    change wpAnyH _ _ _ _ _ _ _ (Act.put _ (some 6) _) _
    simp only [Act.put, List.setIfInBounds_toArray, List.set_cons_zero, List.set_cons_succ]
    refine' wpAnyH_take (i := 2) (v := _) rfl (by kernel_rfl) (by kernel_rfl) (by kernel_rfl) (fun _ _ _ h => h) (Or.inl ⟨by kernel_rfl, ?hleafb2⟩) (by assumption) ?rleafb2
    case hleafb2 => intro W hW; obtain ⟨c0, c1, c2, c3⟩ := hW; go_simp; all_goals with_reducible rfl
    change wpAnyH _ _ _ _ _ _ _ (Act.put _ (some 8) _) _
    simp only [Act.put, List.setIfInBounds_toArray, List.set_cons_zero, List.set_cons_succ]
    refine wpAnyH_ready (rs := [1]) (by kernel_rfl) (by simp) ?_
    refine AllReadyH.cons rfl (fun KK hK => ?_) AllReadyH.nil
    go_simp
    refine (hO _).mono ?_
    rintro e wo ⟨rfl, hBn⟩
    have hbn := hb.trans (hBn.mono hb.size)
    clear hHeld hb hBn
    go_wp2_with fail
    refine hK.out _ _ (HWK.out _ hbn) (fun hHeld => ?_)
    have hb := hbn
    clear hbn
    clear hK KK
    try simp only [Act.put, List.setIfInBounds_toArray, List.set_cons_zero, List.set_cons_succ]
    refine wpAnyH_ready (rs := [3]) (by kernel_rfl) (by simp) ?_
    refine AllReadyH.cons rfl (fun KK hK => ?_) AllReadyH.nil
    go_simp
    refine (hS _ (HMW.out _ hb)).mono ?_
    rintro e ws ⟨rfl, hBn⟩
    have hbn := hb.trans (hBn.mono hb.size)
    clear hHeld hb hBn
    go_wp2_with fail
    refine hK.out _ _ (HWK.out _ hbn) (fun hHeld => ?_)
    have hb := hbn
    clear hbn
    clear hK KK
    try simp only [Act.put, List.setIfInBounds_toArray, List.set_cons_zero, List.set_cons_succ]
    refine' wpAnyH_take (i := 4) (v := _) rfl (by kernel_rfl) (by kernel_rfl) (by kernel_rfl) (fun _ _ _ h => h) (Or.inl ⟨by kernel_rfl, ?hleafb3⟩) (by assumption) ?rleafb3
    case hleafb3 => intro W hW; obtain ⟨c0, c1, c2, c3⟩ := hW; go_simp; all_goals with_reducible rfl
    change wpAnyH _ _ _ _ _ _ _ (Act.put _ (some 10) _) _
    simp only [Act.put, List.setIfInBounds_toArray, List.set_cons_zero, List.set_cons_succ]
    refine' wpAnyH_take (i := 5) (v := _) rfl (by kernel_rfl) (by kernel_rfl) (by kernel_rfl) (fun _ _ _ h => h) (Or.inl ⟨by kernel_rfl, ?hleafb4⟩) (by assumption) ?rleafb4
    case hleafb4 => intro W hW; obtain ⟨c0, c1, c2, c3⟩ := hW; go_simp; all_goals with_reducible rfl
    change wpAnyH _ _ _ _ _ _ _ (Act.put _ (some 11) _) _
    simp only [Act.put, List.setIfInBounds_toArray, List.set_cons_zero, List.set_cons_succ]
    refine wpAnyH_ready (rs := [6]) (by kernel_rfl) (by simp) ?_
    refine AllReadyH.cons rfl (fun KK hK => ?_) AllReadyH.nil
    go_simp
    refine (hQ _ (HMW.out _ hb)).mono ?_
    rintro e wq ⟨rfl, hBn⟩
    have hbn := hb.trans (hBn.mono hb.size)
    clear hHeld hb hBn
    go_wp2_with fail
    refine hK.out _ _ (HWK.out _ hbn) (fun hHeld => ?_)
    have hb := hbn
    clear hbn
    clear hK KK
    try simp only [Act.put, List.setIfInBounds_toArray, List.set_cons_zero, List.set_cons_succ]
    refine' wpAnyH_take (i := 7) (v := _) rfl (by kernel_rfl) (by kernel_rfl) (by kernel_rfl) (fun _ _ _ h => h) (Or.inl ⟨by kernel_rfl, ?hleafb5⟩) (by assumption) ?rleafb5
    case hleafb5 => intro W hW; obtain ⟨c0, c1, c2, c3⟩ := hW; go_simp; all_goals with_reducible rfl
    change wpAnyH _ _ _ _ _ _ _ (Act.put _ (some 13) _) _
    simp only [Act.put, List.setIfInBounds_toArray, List.set_cons_zero, List.set_cons_succ]
    refine' wpAnyH_take (i := 8) (v := _) rfl (by kernel_rfl) (by kernel_rfl) (by kernel_rfl) (fun _ _ _ h => h) (Or.inl ⟨by kernel_rfl, ?hleafb6⟩) (by assumption) ?rleafb6
    case hleafb6 => intro W hW; obtain ⟨c0, c1, c2, c3⟩ := hW; go_simp; all_goals with_reducible rfl
    change wpAnyH _ _ _ _ _ _ _ (Act.put _ (some 14) _) _
    simp only [Act.put, List.setIfInBounds_toArray, List.set_cons_zero, List.set_cons_succ]
    refine wpAnyH_take (i := 9) (v := undef) rfl (by kernel_rfl) (by kernel_rfl) (by kernel_rfl) (fun _ _ _ h => h) (Or.inr ⟨by kernel_rfl, rfl⟩) (by assumption) ?_
    change wpAnyH _ _ _ _ _ _ _ (Act.put _ (some 15) _) _
    simp only [Act.put, List.setIfInBounds_toArray, List.set_cons_zero, List.set_cons_succ]
    refine wpAnyH_take (i := 10) (v := undef) rfl (by kernel_rfl) (by kernel_rfl) (by kernel_rfl) (fun _ _ _ h => h) (Or.inr ⟨by kernel_rfl, rfl⟩) (by assumption) ?_
    change wpAnyH _ _ _ _ _ _ _ (Act.put _ (some 16) _) _
    simp only [Act.put, List.setIfInBounds_toArray, List.set_cons_zero, List.set_cons_succ]
    refine wpAnyH_take (i := 11) (v := undef) rfl (by kernel_rfl) (by kernel_rfl) (by kernel_rfl) (fun _ _ _ h => h) (Or.inr ⟨by kernel_rfl, rfl⟩) (by assumption) ?_
    change wpAnyH _ _ _ _ _ _ _ (Act.put _ (some 17) _) _
    simp only [Act.put, List.setIfInBounds_toArray, List.set_cons_zero, List.set_cons_succ]
    refine' wpAnyH_take (i := 12) (v := _) rfl (by kernel_rfl) (by kernel_rfl) (by kernel_rfl) (fun _ _ _ h => h) (Or.inl ⟨by kernel_rfl, ?hleafb10⟩) (by assumption) ?rleafb10
    case hleafb10 => intro W hW; obtain ⟨c0, c1, c2, c3⟩ := hW; go_simp; all_goals with_reducible rfl
    change wpAnyH _ _ _ _ _ _ _ (Act.put _ (some 18) _) _
    simp only [Act.put, List.setIfInBounds_toArray, List.set_cons_zero, List.set_cons_succ]
    refine' wpAnyH_take (i := 13) (v := _) rfl (by kernel_rfl) (by kernel_rfl) (by kernel_rfl) (fun _ _ _ h => h) (Or.inl ⟨by kernel_rfl, ?hleafb11⟩) (by assumption) ?rleafb11
    case hleafb11 => intro W hW; obtain ⟨c0, c1, c2, c3⟩ := hW; go_simp; all_goals with_reducible rfl
    change wpAnyH _ _ _ _ _ _ _ (Act.put _ (some 2) _) _
    simp only [Act.put, List.setIfInBounds_toArray, List.set_cons_zero, List.set_cons_succ]
    refine wpAnyH_done (by kernel_rfl) ?_ _
    have HB : Hid (Below w.heap.size w _) := HMW.out _ hb
    clear hb hHeld HWK HMW
    go_wp2
    go_ret
    exact ⟨_, rfl, ⟨(fun h => by cases h), fun h => absurd h HN.out⟩, HB.out⟩

  | true =>
  have HR : Hid (decide (sz ≤ 240) = true ↔ P) := by
    constructor
    · intro h; exact HP.out.2 ⟨HPU.out, rfl, of_decide_eq_true h⟩
    · intro h; exact decide_eq_true (HP.out.1 h).2.2
  clear HP HPU
  go_wp2_with fail
  refine wp_region_held_drew (S := fun W => W.cell? ⟨w.heap.size, 0, none⟩ = some (.bool true) ∧ W.cell? ⟨w.heap.size, 1, none⟩ = some (.slice ac D.nk cc) ∧ W.cell? ⟨w.heap.size, 2, none⟩ = some (.slice ap D.nv cp) ∧ W.cell? ⟨w.heap.size, 3, none⟩ = some (.slice ai D.nd ci)) (by kernel_rfl) (HWK.out _ (Below.refl _ _).drew) (fun hHeld => ?_)
  have hb := (Below.refl w1.heap.size w1).drew
  refine' wpAnyH_take (i := 0) (v := _) rfl (by kernel_rfl) (by kernel_rfl) (by kernel_rfl) (fun _ _ _ h => h) (Or.inl ⟨by kernel_rfl, ?hleafc1⟩) (by assumption) ?rleafc1
  case hleafc1 => intro W hW; obtain ⟨c0, c1, c2, c3⟩ := hW; go_simp; all_goals with_reducible rfl
  change wpAnyH _ _ _ _ _ _ _ (Act.put _ (some 6) _) _
  simp only [Act.put, List.setIfInBounds_toArray, List.set_cons_zero, List.set_cons_succ]
  refine' wpAnyH_take (i := 2) (v := _) rfl (by kernel_rfl) (by kernel_rfl) (by kernel_rfl) (fun _ _ _ h => h) (Or.inl ⟨by kernel_rfl, ?hleafc2⟩) (by assumption) ?rleafc2
  case hleafc2 => intro W hW; obtain ⟨c0, c1, c2, c3⟩ := hW; go_simp; all_goals with_reducible rfl
  change wpAnyH _ _ _ _ _ _ _ (Act.put _ (some 8) _) _
  simp only [Act.put, List.setIfInBounds_toArray, List.set_cons_zero, List.set_cons_succ]
  refine wpAnyH_ready (rs := [1]) (by kernel_rfl) (by simp) ?_
  refine AllReadyH.cons rfl (fun KK hK => ?_) AllReadyH.nil
  go_simp
  refine (hO _).mono ?_
  rintro e wo ⟨rfl, hBn⟩
  have hbn := hb.trans (hBn.mono hb.size)
  clear hHeld hb hBn
  go_wp2_with fail
  refine hK.out _ _ (HWK.out _ hbn) (fun hHeld => ?_)
  have hb := hbn
  clear hbn
  clear hK KK
  try simp only [Act.put, List.setIfInBounds_toArray, List.set_cons_zero, List.set_cons_succ]
  refine wpAnyH_ready (rs := [3]) (by kernel_rfl) (by simp) ?_
  refine AllReadyH.cons rfl (fun KK hK => ?_) AllReadyH.nil
  go_simp
  refine (hS _ (HMW.out _ hb)).mono ?_
  rintro e ws ⟨rfl, hBn⟩
  have hbn := hb.trans (hBn.mono hb.size)
  clear hHeld hb hBn
  go_wp2_with fail
  refine hK.out _ _ (HWK.out _ hbn) (fun hHeld => ?_)
  have hb := hbn
  clear hbn
  clear hK KK
  try simp only [Act.put, List.setIfInBounds_toArray, List.set_cons_zero, List.set_cons_succ]
  refine' wpAnyH_take (i := 4) (v := _) rfl (by kernel_rfl) (by kernel_rfl) (by kernel_rfl) (fun _ _ _ h => h) (Or.inl ⟨by kernel_rfl, ?hleafc3⟩) (by assumption) ?rleafc3
  case hleafc3 => intro W hW; obtain ⟨c0, c1, c2, c3⟩ := hW; go_simp; all_goals with_reducible rfl
  change wpAnyH _ _ _ _ _ _ _ (Act.put _ (some 10) _) _
  simp only [Act.put, List.setIfInBounds_toArray, List.set_cons_zero, List.set_cons_succ]
  refine' wpAnyH_take (i := 5) (v := _) rfl (by kernel_rfl) (by kernel_rfl) (by kernel_rfl) (fun _ _ _ h => h) (Or.inl ⟨by kernel_rfl, ?hleafc4⟩) (by assumption) ?rleafc4
  case hleafc4 => intro W hW; obtain ⟨c0, c1, c2, c3⟩ := hW; go_simp; all_goals with_reducible rfl
  change wpAnyH _ _ _ _ _ _ _ (Act.put _ (some 11) _) _
  simp only [Act.put, List.setIfInBounds_toArray, List.set_cons_zero, List.set_cons_succ]
  refine wpAnyH_ready (rs := [6]) (by kernel_rfl) (by simp) ?_
  refine AllReadyH.cons rfl (fun KK hK => ?_) AllReadyH.nil
  go_simp
  refine (hQ _ (HMW.out _ hb)).mono ?_
  rintro e wq ⟨rfl, hBn⟩
  have hbn := hb.trans (hBn.mono hb.size)
  clear hHeld hb hBn
  go_wp2_with fail
  refine hK.out _ _ (HWK.out _ hbn) (fun hHeld => ?_)
  have hb := hbn
  clear hbn
  clear hK KK
  try simp only [Act.put, List.setIfInBounds_toArray, List.set_cons_zero, List.set_cons_succ]
  refine' wpAnyH_take (i := 7) (v := _) rfl (by kernel_rfl) (by kernel_rfl) (by kernel_rfl) (fun _ _ _ h => h) (Or.inl ⟨by kernel_rfl, ?hleafc5⟩) (by assumption) ?rleafc5
  case hleafc5 => intro W hW; obtain ⟨c0, c1, c2, c3⟩ := hW; go_simp; all_goals with_reducible rfl
  change wpAnyH _ _ _ _ _ _ _ (Act.put _ (some 13) _) _
  simp only [Act.put, List.setIfInBounds_toArray, List.set_cons_zero, List.set_cons_succ]
  refine' wpAnyH_take (i := 8) (v := _) rfl (by kernel_rfl) (by kernel_rfl) (by kernel_rfl) (fun _ _ _ h => h) (Or.inl ⟨by kernel_rfl, ?hleafc6⟩) (by assumption) ?rleafc6
  case hleafc6 => intro W hW; obtain ⟨c0, c1, c2, c3⟩ := hW; go_simp; all_goals with_reducible rfl
  change wpAnyH _ _ _ _ _ _ _ (Act.put _ (some 14) _) _
  simp only [Act.put, List.setIfInBounds_toArray, List.set_cons_zero, List.set_cons_succ]
  refine' wpAnyH_take (i := 9) (v := _) rfl (by kernel_rfl) (by kernel_rfl) (by kernel_rfl) (fun _ _ _ h => h) (Or.inl ⟨by kernel_rfl, ?hleafc7⟩) (by assumption) ?rleafc7
  case hleafc7 => intro W hW; obtain ⟨c0, c1, c2, c3⟩ := hW; go_simp; all_goals with_reducible rfl
  change wpAnyH _ _ _ _ _ _ _ (Act.put _ (some 15) _) _
  simp only [Act.put, List.setIfInBounds_toArray, List.set_cons_zero, List.set_cons_succ]
  refine wpAnyH_ready (rs := [10]) (by kernel_rfl) (by simp) ?_
  refine AllReadyH.cons rfl (fun KK hK => ?_) AllReadyH.nil
  go_simp
  refine (hZ _ (HMW.out _ hb)).mono ?_
  rintro e wz ⟨rfl, hBn⟩
  have hbn := hb.trans (hBn.mono hb.size)
  clear hHeld hb hBn
  go_wp2_with fail
  refine hK.out _ _ (HWK.out _ hbn) (fun hHeld => ?_)
  have hb := hbn
  clear hbn
  clear hK KK
  try simp only [Act.put, List.setIfInBounds_toArray, List.set_cons_zero, List.set_cons_succ]
  refine' wpAnyH_take (i := 11) (v := _) rfl (by kernel_rfl) (by kernel_rfl) (by kernel_rfl) (fun _ _ _ h => h) (Or.inl ⟨by kernel_rfl, ?hleafc8⟩) (by assumption) ?rleafc8
  case hleafc8 => intro W hW; obtain ⟨c0, c1, c2, c3⟩ := hW; go_simp; all_goals with_reducible rfl
  change wpAnyH _ _ _ _ _ _ _ (Act.put _ (some 17) _) _
  simp only [Act.put, List.setIfInBounds_toArray, List.set_cons_zero, List.set_cons_succ]
  refine' wpAnyH_take (i := 12) (v := _) rfl (by kernel_rfl) (by kernel_rfl) (by kernel_rfl) (fun _ _ _ h => h) (Or.inl ⟨by kernel_rfl, ?hleafc9⟩) (by assumption) ?rleafc9
  case hleafc9 => intro W hW; obtain ⟨c0, c1, c2, c3⟩ := hW; go_simp; all_goals with_reducible rfl
  change wpAnyH _ _ _ _ _ _ _ (Act.put _ (some 18) _) _
  simp only [Act.put, List.setIfInBounds_toArray, List.set_cons_zero, List.set_cons_succ]
  refine' wpAnyH_take (i := 13) (v := _) rfl (by kernel_rfl) (by kernel_rfl) (by kernel_rfl) (fun _ _ _ h => h) (Or.inl ⟨by kernel_rfl, ?hleafc10⟩) (by assumption) ?rleafc10
  case hleafc10 => intro W hW; obtain ⟨c0, c1, c2, c3⟩ := hW; go_simp; all_goals with_reducible rfl
  change wpAnyH _ _ _ _ _ _ _ (Act.put _ (some 2) _) _
  simp only [Act.put, List.setIfInBounds_toArray, List.set_cons_zero, List.set_cons_succ]
  refine wpAnyH_done (by kernel_rfl) ?_ _
  have HB : Hid (Below w.heap.size w _) := HMW.out _ hb
  clear hb hHeld HWK HMW
  go_wp2
  go_ret
  exact ⟨_, rfl, HR.out, HB.out⟩


set_option maxHeartbeats 4000000 in
theorem implNodeOk_inner (D : PNode) (hleaf : D.leaf = false) (ac : Option Addr) (cc : Nat) (ap : Option Addr) (cp : Nat) (ai : Option Addr) (ci : Nat) (w : World) (hc : TxV w ac D.nk cc D.key) (hp : TxV w ap D.nv cp D.val) (hi : NuV w ai D.nd ci D.kid) (hf : NFine D) :
    Calls Try.prog 14 #[.agg #[.bool false, .slice ac D.nk cc, .slice ap D.nv cp, .slice ai D.nd ci]] w (SaysB w (OkI D)) := by
  obtain ⟨W0, hW0⟩ : ∃ W0, Hid (w.alloc (.cells #[.bool false, .slice ac D.nk cc, .slice ap D.nv cp, .slice ai D.nd ci] 27) = W0) := ⟨_, rfl⟩
  have hb0 : Below w.heap.size w W0 := by rw [← hW0.out]; exact (Below.refl _ _).alloc (Nat.le_refl _) _
  have HX : Hid (∀ W, Below W0.heap.size W0 W → (W.cell? ⟨w.heap.size, 0, none⟩ = some (.bool false) ∧ W.cell? ⟨w.heap.size, 1, none⟩ = some (.slice ac D.nk cc) ∧ W.cell? ⟨w.heap.size, 2, none⟩ = some (.slice ap D.nv cp) ∧ W.cell? ⟨w.heap.size, 3, none⟩ = some (.slice ai D.nd ci))) := by
    intro W hb
    rw [← hW0.out] at hb
    exact nbox4 (hb.mono (by simp))
  have HBK : Hid (∀ W, Below W0.heap.size W0 W → Below w.heap.size w W) := fun W hb => hb0.trans (hb.mono hb0.size)
  have hV : NdView w (.agg #[.bool false, .slice ac D.nk cc, .slice ap D.nv cp, .slice ai D.nd ci]) D := ⟨ac, cc, ap, cp, ai, ci, by rw [hleaf], hc, hp, hi⟩
  have hE : NdView w (.agg #[.bool false, .slice ac D.nk cc, .slice none 0 0, .slice ai D.nd ci]) (pureV D) := ⟨ac, cc, none, 0, ai, ci, by rw [show (pureV D).leaf = false from hleaf]; rfl, hc, ⟨Nat.le_refl _, fun h => absurd h (Nat.lt_irrefl _)⟩, hi⟩
  have hEf : NFine (pureV D) := ⟨hf.nk, hf.key, Nat.zero_le _, fun i hi => absurd hi (Nat.not_lt_zero _), hf.nd, hf.kid⟩
  have HS0 : Hid (sameNd (pureV D) D = true ↔ Pure D) := pureV_same hleaf
  obtain ⟨kk, HK0⟩ : ∃ kk : Bool, Hid (kk = true ↔ InnerOk D.nk D.key D.nd D.kid) := ⟨@decide (InnerOk D.nk D.key D.nd D.kid) (Classical.propDecidable _), @decide_eq_true_iff _ (Classical.propDecidable _)⟩
  have hK := kindOf_inner ac ap ai D.nk cc D.nv cp D.nd ci W0
  have hO : ∀ W : World, Calls Try.prog 38 #[.iface 89 (.agg #[.slice ac D.nk cc, .slice ai D.nd ci])] W fun e w' => e = .returned (.agg #[.bool false, .slice ac D.nk cc, .slice none 0 0, .slice ai D.nd ci]) ∧ Below W.heap.size W w' := fun W => nodeOf_inner _ _ _ _ _ _ W
  have hS : ∀ W : World, Below w.heap.size w W → Calls Try.prog 19 #[.agg #[.bool false, .slice ac D.nk cc, .slice none 0 0, .slice ai D.nd ci], .agg #[.bool false, .slice ac D.nk cc, .slice ap D.nv cp, .slice ai D.nd ci]] W fun e w' => e = .returned (.bool (sameNd (pureV D) D)) ∧ Below W.heap.size W w' := fun W hb => implSameNd_any _ _ _ _ W (hE.below hb) (hV.below hb) hEf
  have hQ : ∀ W : World, Below w.heap.size w W → Calls Try.prog 42 #[.iface 89 (.agg #[.slice ac D.nk cc, .slice ai D.nd ci])] W fun e w' => e = .returned (.bool kk) ∧ Below W.heap.size W w' := fun W hb => (kindOk_inner ac ai D.nk cc D.nd ci D.key D.kid W (hc.below hb) (hi.below hb) hf.nk (by have := hf.nd; omega)).mono fun e w' h => h.is HK0.out
  have hZ : ∀ W : World, Below w.heap.size w W → Calls Try.prog 16 #[.agg #[.bool false, .slice ac D.nk cc, .slice ap D.nv cp, .slice ai D.nd ci]] W fun e w' => e = .returned (.int .i64 (sizeN D)) ∧ Below W.heap.size W w' := fun W hb => implSizeOf_inner D hleaf ac cc ap cp ai ci W (hc.below hb) (hp.below hb) (hi.below hb) hf
  obtain ⟨P, hP⟩ : ∃ P : Prop, Hid (OkI D = P) := ⟨_, rfl⟩
  have HP : Hid (P ↔ (Pure D ∧ kk = true ∧ sizeN D ≤ 240)) := by show _ ↔ _; rw [← hP.out, HK0.out, innerOk_kind hleaf]; rfl
  rw [hP.out]
  obtain ⟨s, hs⟩ : ∃ s, Hid (sameNd (pureV D) D = s) := ⟨_, rfl⟩
  obtain ⟨sz, hsz⟩ : ∃ s, Hid (sizeN D = s) := ⟨_, rfl⟩
  simp only [hs.out, hsz.out] at hS hZ HP HS0
  clear hP hs hsz hV hE hEf hc hp hi hf hleaf HK0 hb0
  unfold innerV at hK
  go_enter Try.func14, Try.ntmps14
  obtain ⟨x0, x1, x2, x3⟩ := HX.out W0 (Below.refl _ _)
  go_wp2_with (first | rw [hW0.out] | fail)
  refine hK.mono ?_
  rintro e w1 ⟨rfl, hb1⟩
  clear x0 x1 x2 x3
  obtain ⟨x0, x1, x2, x3⟩ := HX.out w1 hb1
  have HWK : Hid (∀ W, Below w1.heap.size w1 W → (W.cell? ⟨w.heap.size, 0, none⟩ = some (.bool false) ∧ W.cell? ⟨w.heap.size, 1, none⟩ = some (.slice ac D.nk cc) ∧ W.cell? ⟨w.heap.size, 2, none⟩ = some (.slice ap D.nv cp) ∧ W.cell? ⟨w.heap.size, 3, none⟩ = some (.slice ai D.nd ci))) := fun W hb => HX.out W (hb1.trans (hb.mono hb1.size))
  have HMW : Hid (∀ W, Below w1.heap.size w1 W → Below w.heap.size w W) := fun W hb => HBK.out W (hb1.trans (hb.mono hb1.size))
  clear hK hb1 HX HBK hW0
  cases s with
  | false =>
    have HN : Hid (¬ P) := fun h => by have := HS0.out.2 (HP.out.1 h).1; cases this
    clear HP HS0 hQ hZ
    go_wp2_with fail
    refine wp_region_held_drew (S := fun W => W.cell? ⟨w.heap.size, 0, none⟩ = some (.bool false) ∧ W.cell? ⟨w.heap.size, 1, none⟩ = some (.slice ac D.nk cc) ∧ W.cell? ⟨w.heap.size, 2, none⟩ = some (.slice ap D.nv cp) ∧ W.cell? ⟨w.heap.size, 3, none⟩ = some (.slice ai D.nd ci)) (by kernel_rfl) (HWK.out _ (Below.refl _ _).drew) (fun hHeld => ?_)
    have hb := (Below.refl w1.heap.size w1).drew
    refine' wpAnyH_take (i := 0) (v := _) rfl (by kernel_rfl) (by kernel_rfl) (by kernel_rfl) (fun _ _ _ h => h) (Or.inl ⟨by kernel_rfl, ?hinnera1⟩) (by assumption) ?rinnera1
    case hinnera1 => intro W hW; obtain ⟨c0, c1, c2, c3⟩ := hW; go_simp; all_goals with_reducible rfl
    change wpAnyH _ _ _ _ _ _ _ (Act.put _ (some 6) _) _
    simp only [Act.put, List.setIfInBounds_toArray, List.set_cons_zero, List.set_cons_succ]
    refine' wpAnyH_take (i := 2) (v := _) rfl (by kernel_rfl) (by kernel_rfl) (by kernel_rfl) (fun _ _ _ h => h) (Or.inl ⟨by kernel_rfl, ?hinnera2⟩) (by assumption) ?rinnera2
    case hinnera2 => intro W hW; obtain ⟨c0, c1, c2, c3⟩ := hW; go_simp; all_goals with_reducible rfl
    change wpAnyH _ _ _ _ _ _ _ (Act.put _ (some 8) _) _
    simp only [Act.put, List.setIfInBounds_toArray, List.set_cons_zero, List.set_cons_succ]
    refine wpAnyH_ready (rs := [1]) (by kernel_rfl) (by simp) ?_
    refine AllReadyH.cons rfl (fun KK hK => ?_) AllReadyH.nil
    go_simp
    refine (hO _).mono ?_
    rintro e wo ⟨rfl, hBn⟩
    have hbn := hb.trans (hBn.mono hb.size)
    clear hHeld hb hBn
    go_wp2_with fail
    refine hK.out _ _ (HWK.out _ hbn) (fun hHeld => ?_)
    have hb := hbn
    clear hbn
    clear hK KK
    try simp only [Act.put, List.setIfInBounds_toArray, List.set_cons_zero, List.set_cons_succ]
    refine wpAnyH_ready (rs := [3]) (by kernel_rfl) (by simp) ?_
    refine AllReadyH.cons rfl (fun KK hK => ?_) AllReadyH.nil
    go_simp
    refine (hS _ (HMW.out _ hb)).mono ?_
    rintro e ws ⟨rfl, hBn⟩
    have hbn := hb.trans (hBn.mono hb.size)
    clear hHeld hb hBn
    go_wp2_with fail
    refine hK.out _ _ (HWK.out _ hbn) (fun hHeld => ?_)
    have hb := hbn
    clear hbn
    clear hK KK
    try simp only [Act.put, List.setIfInBounds_toArray, List.set_cons_zero, List.set_cons_succ]
    refine' wpAnyH_take (i := 4) (v := _) rfl (by kernel_rfl) (by kernel_rfl) (by kernel_rfl) (fun _ _ _ h => h) (Or.inl ⟨by kernel_rfl, ?hinnera3⟩) (by assumption) ?rinnera3
    case hinnera3 => intro W hW; obtain ⟨c0, c1, c2, c3⟩ := hW; go_simp; all_goals with_reducible rfl
    change wpAnyH _ _ _ _ _ _ _ (Act.put _ (some 10) _) _
    simp only [Act.put, List.setIfInBounds_toArray, List.set_cons_zero, List.set_cons_succ]
    refine wpAnyH_take (i := 5) (v := undef) rfl (by kernel_rfl) (by kernel_rfl) (by kernel_rfl) (fun _ _ _ h => h) (Or.inr ⟨by kernel_rfl, rfl⟩) (by assumption) ?_
    change wpAnyH _ _ _ _ _ _ _ (Act.put _ (some 11) _) _
    simp only [Act.put, List.setIfInBounds_toArray, List.set_cons_zero, List.set_cons_succ]
    refine wpAnyH_take (i := 6) (v := undef) rfl (by kernel_rfl) (by kernel_rfl) (by kernel_rfl) (fun _ _ _ h => h) (Or.inr ⟨by kernel_rfl, rfl⟩) (by assumption) ?_
    change wpAnyH _ _ _ _ _ _ _ (Act.put _ (some 12) _) _
    simp only [Act.put, List.setIfInBounds_toArray, List.set_cons_zero, List.set_cons_succ]
    refine' wpAnyH_take (i := 7) (v := _) rfl (by kernel_rfl) (by kernel_rfl) (by kernel_rfl) (fun _ _ _ h => h) (Or.inl ⟨by kernel_rfl, ?hinnera6⟩) (by assumption) ?rinnera6
    case hinnera6 => intro W hW; obtain ⟨c0, c1, c2, c3⟩ := hW; go_simp; all_goals with_reducible rfl
    change wpAnyH _ _ _ _ _ _ _ (Act.put _ (some 13) _) _
    simp only [Act.put, List.setIfInBounds_toArray, List.set_cons_zero, List.set_cons_succ]
    refine' wpAnyH_take (i := 8) (v := _) rfl (by kernel_rfl) (by kernel_rfl) (by kernel_rfl) (fun _ _ _ h => h) (Or.inl ⟨by kernel_rfl, ?hinnera7⟩) (by assumption) ?rinnera7
    case hinnera7 => intro W hW; obtain ⟨c0, c1, c2, c3⟩ := hW; go_simp; all_goals with_reducible rfl
    change wpAnyH _ _ _ _ _ _ _ (Act.put _ (some 14) _) _
    simp only [Act.put, List.setIfInBounds_toArray, List.set_cons_zero, List.set_cons_succ]
    refine wpAnyH_take (i := 9) (v := undef) rfl (by kernel_rfl) (by kernel_rfl) (by kernel_rfl) (fun _ _ _ h => h) (Or.inr ⟨by kernel_rfl, rfl⟩) (by assumption) ?_
    change wpAnyH _ _ _ _ _ _ _ (Act.put _ (some 15) _) _
    simp only [Act.put, List.setIfInBounds_toArray, List.set_cons_zero, List.set_cons_succ]
    refine wpAnyH_take (i := 10) (v := undef) rfl (by kernel_rfl) (by kernel_rfl) (by kernel_rfl) (fun _ _ _ h => h) (Or.inr ⟨by kernel_rfl, rfl⟩) (by assumption) ?_
    change wpAnyH _ _ _ _ _ _ _ (Act.put _ (some 16) _) _
    simp only [Act.put, List.setIfInBounds_toArray, List.set_cons_zero, List.set_cons_succ]
    refine wpAnyH_take (i := 11) (v := undef) rfl (by kernel_rfl) (by kernel_rfl) (by kernel_rfl) (fun _ _ _ h => h) (Or.inr ⟨by kernel_rfl, rfl⟩) (by assumption) ?_
    change wpAnyH _ _ _ _ _ _ _ (Act.put _ (some 17) _) _
    simp only [Act.put, List.setIfInBounds_toArray, List.set_cons_zero, List.set_cons_succ]
    refine' wpAnyH_take (i := 12) (v := _) rfl (by kernel_rfl) (by kernel_rfl) (by kernel_rfl) (fun _ _ _ h => h) (Or.inl ⟨by kernel_rfl, ?hinnera11⟩) (by assumption) ?rinnera11
    case hinnera11 => intro W hW; obtain ⟨c0, c1, c2, c3⟩ := hW; go_simp; all_goals with_reducible rfl
    change wpAnyH _ _ _ _ _ _ _ (Act.put _ (some 18) _) _
    simp only [Act.put, List.setIfInBounds_toArray, List.set_cons_zero, List.set_cons_succ]
    refine' wpAnyH_take (i := 13) (v := _) rfl (by kernel_rfl) (by kernel_rfl) (by kernel_rfl) (fun _ _ _ h => h) (Or.inl ⟨by kernel_rfl, ?hinnera12⟩) (by assumption) ?rinnera12
    case hinnera12 => intro W hW; obtain ⟨c0, c1, c2, c3⟩ := hW; go_simp; all_goals with_reducible rfl
    change wpAnyH _ _ _ _ _ _ _ (Act.put _ (some 2) _) _
    simp only [Act.put, List.setIfInBounds_toArray, List.set_cons_zero, List.set_cons_succ]
    refine wpAnyH_done (by kernel_rfl) ?_ _
    have HB : Hid (Below w.heap.size w _) := HMW.out _ hb
    clear hb hHeld HWK HMW
    go_wp2
    go_ret
    exact ⟨_, rfl, ⟨(fun h => by cases h), fun h => absurd h HN.out⟩, HB.out⟩

  | true =>
  have HPU : Hid (Pure D) := HS0.out.1 rfl
  clear HS0
  cases kk with
  | false =>
    have HN : Hid (¬ P) := fun h => by have := (HP.out.1 h).2.1; cases this
    clear HP hZ HPU
    go_wp2_with fail
    refine wp_region_held_drew (S := fun W => W.cell? ⟨w.heap.size, 0, none⟩ = some (.bool false) ∧ W.cell? ⟨w.heap.size, 1, none⟩ = some (.slice ac D.nk cc) ∧ W.cell? ⟨w.heap.size, 2, none⟩ = some (.slice ap D.nv cp) ∧ W.cell? ⟨w.heap.size, 3, none⟩ = some (.slice ai D.nd ci)) (by kernel_rfl) (HWK.out _ (Below.refl _ _).drew) (fun hHeld => ?_)
    have hb := (Below.refl w1.heap.size w1).drew
    refine' wpAnyH_take (i := 0) (v := _) rfl (by kernel_rfl) (by kernel_rfl) (by kernel_rfl) (fun _ _ _ h => h) (Or.inl ⟨by kernel_rfl, ?hinnerb1⟩) (by assumption) ?rinnerb1
    case hinnerb1 => intro W hW; obtain ⟨c0, c1, c2, c3⟩ := hW; go_simp; all_goals with_reducible rfl
    change wpAnyH _ _ _ _ _ _ _ (Act.put _ (some 6) _) _
    simp only [Act.put, List.setIfInBounds_toArray, List.set_cons_zero, List.set_cons_succ]
    refine' wpAnyH_take (i := 2) (v := _) rfl (by kernel_rfl) (by kernel_rfl) (by kernel_rfl) (fun _ _ _ h => h) (Or.inl ⟨by kernel_rfl, ?hinnerb2⟩) (by assumption) ?rinnerb2
    case hinnerb2 => intro W hW; obtain ⟨c0, c1, c2, c3⟩ := hW; go_simp; all_goals with_reducible rfl
    change wpAnyH _ _ _ _ _ _ _ (Act.put _ (some 8) _) _
    simp only [Act.put, List.setIfInBounds_toArray, List.set_cons_zero, List.set_cons_succ]
    refine wpAnyH_ready (rs := [1]) (by kernel_rfl) (by simp) ?_
    refine AllReadyH.cons rfl (fun KK hK => ?_) AllReadyH.nil
    go_simp
    refine (hO _).mono ?_
    rintro e wo ⟨rfl, hBn⟩
    have hbn := hb.trans (hBn.mono hb.size)
    clear hHeld hb hBn
    go_wp2_with fail
    refine hK.out _ _ (HWK.out _ hbn) (fun hHeld => ?_)
    have hb := hbn
    clear hbn
    clear hK KK
    try simp only [Act.put, List.setIfInBounds_toArray, List.set_cons_zero, List.set_cons_succ]
    refine wpAnyH_ready (rs := [3]) (by kernel_rfl) (by simp) ?_
    refine AllReadyH.cons rfl (fun KK hK => ?_) AllReadyH.nil
    go_simp
    refine (hS _ (HMW.out _ hb)).mono ?_
    rintro e ws ⟨rfl, hBn⟩
    have hbn := hb.trans (hBn.mono hb.size)
    clear hHeld hb hBn
    go_wp2_with fail
    refine hK.out _ _ (HWK.out _ hbn) (fun hHeld => ?_)
    have hb := hbn
    clear hbn
    clear hK KK
    try simp only [Act.put, List.setIfInBounds_toArray, List.set_cons_zero, List.set_cons_succ]
    refine' wpAnyH_take (i := 4) (v := _) rfl (by kernel_rfl) (by kernel_rfl) (by kernel_rfl) (fun _ _ _ h => h) (Or.inl ⟨by kernel_rfl, ?hinnerb3⟩) (by assumption) ?rinnerb3
    case hinnerb3 => intro W hW; obtain ⟨c0, c1, c2, c3⟩ := hW; go_simp; all_goals with_reducible rfl
    change wpAnyH _ _ _ _ _ _ _ (Act.put _ (some 10) _) _
    simp only [Act.put, List.setIfInBounds_toArray, List.set_cons_zero, List.set_cons_succ]
    refine' wpAnyH_take (i := 5) (v := _) rfl (by kernel_rfl) (by kernel_rfl) (by kernel_rfl) (fun _ _ _ h => h) (Or.inl ⟨by kernel_rfl, ?hinnerb4⟩) (by assumption) ?rinnerb4
    case hinnerb4 => intro W hW; obtain ⟨c0, c1, c2, c3⟩ := hW; go_simp; all_goals with_reducible rfl
    change wpAnyH _ _ _ _ _ _ _ (Act.put _ (some 11) _) _
    simp only [Act.put, List.setIfInBounds_toArray, List.set_cons_zero, List.set_cons_succ]
    refine wpAnyH_ready (rs := [6]) (by kernel_rfl) (by simp) ?_
    refine AllReadyH.cons rfl (fun KK hK => ?_) AllReadyH.nil
    go_simp
    refine (hQ _ (HMW.out _ hb)).mono ?_
    rintro e wq ⟨rfl, hBn⟩
    have hbn := hb.trans (hBn.mono hb.size)
    clear hHeld hb hBn
    go_wp2_with fail
    refine hK.out _ _ (HWK.out _ hbn) (fun hHeld => ?_)
    have hb := hbn
    clear hbn
    clear hK KK
    try simp only [Act.put, List.setIfInBounds_toArray, List.set_cons_zero, List.set_cons_succ]
    refine' wpAnyH_take (i := 7) (v := _) rfl (by kernel_rfl) (by kernel_rfl) (by kernel_rfl) (fun _ _ _ h => h) (Or.inl ⟨by kernel_rfl, ?hinnerb5⟩) (by assumption) ?rinnerb5
    case hinnerb5 => intro W hW; obtain ⟨c0, c1, c2, c3⟩ := hW; go_simp; all_goals with_reducible rfl
    change wpAnyH _ _ _ _ _ _ _ (Act.put _ (some 13) _) _
    simp only [Act.put, List.setIfInBounds_toArray, List.set_cons_zero, List.set_cons_succ]
    refine' wpAnyH_take (i := 8) (v := _) rfl (by kernel_rfl) (by kernel_rfl) (by kernel_rfl) (fun _ _ _ h => h) (Or.inl ⟨by kernel_rfl, ?hinnerb6⟩) (by assumption) ?rinnerb6
    case hinnerb6 => intro W hW; obtain ⟨c0, c1, c2, c3⟩ := hW; go_simp; all_goals with_reducible rfl
    change wpAnyH _ _ _ _ _ _ _ (Act.put _ (some 14) _) _
    simp only [Act.put, List.setIfInBounds_toArray, List.set_cons_zero, List.set_cons_succ]
    refine wpAnyH_take (i := 9) (v := undef) rfl (by kernel_rfl) (by kernel_rfl) (by kernel_rfl) (fun _ _ _ h => h) (Or.inr ⟨by kernel_rfl, rfl⟩) (by assumption) ?_
    change wpAnyH _ _ _ _ _ _ _ (Act.put _ (some 15) _) _
    simp only [Act.put, List.setIfInBounds_toArray, List.set_cons_zero, List.set_cons_succ]
    refine wpAnyH_take (i := 10) (v := undef) rfl (by kernel_rfl) (by kernel_rfl) (by kernel_rfl) (fun _ _ _ h => h) (Or.inr ⟨by kernel_rfl, rfl⟩) (by assumption) ?_
    change wpAnyH _ _ _ _ _ _ _ (Act.put _ (some 16) _) _
    simp only [Act.put, List.setIfInBounds_toArray, List.set_cons_zero, List.set_cons_succ]
    refine wpAnyH_take (i := 11) (v := undef) rfl (by kernel_rfl) (by kernel_rfl) (by kernel_rfl) (fun _ _ _ h => h) (Or.inr ⟨by kernel_rfl, rfl⟩) (by assumption) ?_
    change wpAnyH _ _ _ _ _ _ _ (Act.put _ (some 17) _) _
    simp only [Act.put, List.setIfInBounds_toArray, List.set_cons_zero, List.set_cons_succ]
    refine' wpAnyH_take (i := 12) (v := _) rfl (by kernel_rfl) (by kernel_rfl) (by kernel_rfl) (fun _ _ _ h => h) (Or.inl ⟨by kernel_rfl, ?hinnerb10⟩) (by assumption) ?rinnerb10
    case hinnerb10 => intro W hW; obtain ⟨c0, c1, c2, c3⟩ := hW; go_simp; all_goals with_reducible rfl
    change wpAnyH _ _ _ _ _ _ _ (Act.put _ (some 18) _) _
    simp only [Act.put, List.setIfInBounds_toArray, List.set_cons_zero, List.set_cons_succ]
    refine' wpAnyH_take (i := 13) (v := _) rfl (by kernel_rfl) (by kernel_rfl) (by kernel_rfl) (fun _ _ _ h => h) (Or.inl ⟨by kernel_rfl, ?hinnerb11⟩) (by assumption) ?rinnerb11
    case hinnerb11 => intro W hW; obtain ⟨c0, c1, c2, c3⟩ := hW; go_simp; all_goals with_reducible rfl
    change wpAnyH _ _ _ _ _ _ _ (Act.put _ (some 2) _) _
    simp only [Act.put, List.setIfInBounds_toArray, List.set_cons_zero, List.set_cons_succ]
    refine wpAnyH_done (by kernel_rfl) ?_ _
    have HB : Hid (Below w.heap.size w _) := HMW.out _ hb
    clear hb hHeld HWK HMW
    go_wp2
    go_ret
    exact ⟨_, rfl, ⟨(fun h => by cases h), fun h => absurd h HN.out⟩, HB.out⟩

  | true =>
  have HR : Hid (decide (sz ≤ 240) = true ↔ P) := by
    constructor
    · intro h; exact HP.out.2 ⟨HPU.out, rfl, of_decide_eq_true h⟩
    · intro h; exact decide_eq_true (HP.out.1 h).2.2
  clear HP HPU
  go_wp2_with fail
  refine wp_region_held_drew (S := fun W => W.cell? ⟨w.heap.size, 0, none⟩ = some (.bool false) ∧ W.cell? ⟨w.heap.size, 1, none⟩ = some (.slice ac D.nk cc) ∧ W.cell? ⟨w.heap.size, 2, none⟩ = some (.slice ap D.nv cp) ∧ W.cell? ⟨w.heap.size, 3, none⟩ = some (.slice ai D.nd ci)) (by kernel_rfl) (HWK.out _ (Below.refl _ _).drew) (fun hHeld => ?_)
  have hb := (Below.refl w1.heap.size w1).drew
  refine' wpAnyH_take (i := 0) (v := _) rfl (by kernel_rfl) (by kernel_rfl) (by kernel_rfl) (fun _ _ _ h => h) (Or.inl ⟨by kernel_rfl, ?hinnerc1⟩) (by assumption) ?rinnerc1
  case hinnerc1 => intro W hW; obtain ⟨c0, c1, c2, c3⟩ := hW; go_simp; all_goals with_reducible rfl
  change wpAnyH _ _ _ _ _ _ _ (Act.put _ (some 6) _) _
  simp only [Act.put, List.setIfInBounds_toArray, List.set_cons_zero, List.set_cons_succ]
  refine' wpAnyH_take (i := 2) (v := _) rfl (by kernel_rfl) (by kernel_rfl) (by kernel_rfl) (fun _ _ _ h => h) (Or.inl ⟨by kernel_rfl, ?hinnerc2⟩) (by assumption) ?rinnerc2
  case hinnerc2 => intro W hW; obtain ⟨c0, c1, c2, c3⟩ := hW; go_simp; all_goals with_reducible rfl
  change wpAnyH _ _ _ _ _ _ _ (Act.put _ (some 8) _) _
  simp only [Act.put, List.setIfInBounds_toArray, List.set_cons_zero, List.set_cons_succ]
  refine wpAnyH_ready (rs := [1]) (by kernel_rfl) (by simp) ?_
  refine AllReadyH.cons rfl (fun KK hK => ?_) AllReadyH.nil
  go_simp
  refine (hO _).mono ?_
  rintro e wo ⟨rfl, hBn⟩
  have hbn := hb.trans (hBn.mono hb.size)
  clear hHeld hb hBn
  go_wp2_with fail
  refine hK.out _ _ (HWK.out _ hbn) (fun hHeld => ?_)
  have hb := hbn
  clear hbn
  clear hK KK
  try simp only [Act.put, List.setIfInBounds_toArray, List.set_cons_zero, List.set_cons_succ]
  refine wpAnyH_ready (rs := [3]) (by kernel_rfl) (by simp) ?_
  refine AllReadyH.cons rfl (fun KK hK => ?_) AllReadyH.nil
  go_simp
  refine (hS _ (HMW.out _ hb)).mono ?_
  rintro e ws ⟨rfl, hBn⟩
  have hbn := hb.trans (hBn.mono hb.size)
  clear hHeld hb hBn
  go_wp2_with fail
  refine hK.out _ _ (HWK.out _ hbn) (fun hHeld => ?_)
  have hb := hbn
  clear hbn
  clear hK KK
  try simp only [Act.put, List.setIfInBounds_toArray, List.set_cons_zero, List.set_cons_succ]
  refine' wpAnyH_take (i := 4) (v := _) rfl (by kernel_rfl) (by kernel_rfl) (by kernel_rfl) (fun _ _ _ h => h) (Or.inl ⟨by kernel_rfl, ?hinnerc3⟩) (by assumption) ?rinnerc3
  case hinnerc3 => intro W hW; obtain ⟨c0, c1, c2, c3⟩ := hW; go_simp; all_goals with_reducible rfl
  change wpAnyH _ _ _ _ _ _ _ (Act.put _ (some 10) _) _
  simp only [Act.put, List.setIfInBounds_toArray, List.set_cons_zero, List.set_cons_succ]
  refine' wpAnyH_take (i := 5) (v := _) rfl (by kernel_rfl) (by kernel_rfl) (by kernel_rfl) (fun _ _ _ h => h) (Or.inl ⟨by kernel_rfl, ?hinnerc4⟩) (by assumption) ?rinnerc4
  case hinnerc4 => intro W hW; obtain ⟨c0, c1, c2, c3⟩ := hW; go_simp; all_goals with_reducible rfl
  change wpAnyH _ _ _ _ _ _ _ (Act.put _ (some 11) _) _
  simp only [Act.put, List.setIfInBounds_toArray, List.set_cons_zero, List.set_cons_succ]
  refine wpAnyH_ready (rs := [6]) (by kernel_rfl) (by simp) ?_
  refine AllReadyH.cons rfl (fun KK hK => ?_) AllReadyH.nil
  go_simp
  refine (hQ _ (HMW.out _ hb)).mono ?_
  rintro e wq ⟨rfl, hBn⟩
  have hbn := hb.trans (hBn.mono hb.size)
  clear hHeld hb hBn
  go_wp2_with fail
  refine hK.out _ _ (HWK.out _ hbn) (fun hHeld => ?_)
  have hb := hbn
  clear hbn
  clear hK KK
  try simp only [Act.put, List.setIfInBounds_toArray, List.set_cons_zero, List.set_cons_succ]
  refine' wpAnyH_take (i := 7) (v := _) rfl (by kernel_rfl) (by kernel_rfl) (by kernel_rfl) (fun _ _ _ h => h) (Or.inl ⟨by kernel_rfl, ?hinnerc5⟩) (by assumption) ?rinnerc5
  case hinnerc5 => intro W hW; obtain ⟨c0, c1, c2, c3⟩ := hW; go_simp; all_goals with_reducible rfl
  change wpAnyH _ _ _ _ _ _ _ (Act.put _ (some 13) _) _
  simp only [Act.put, List.setIfInBounds_toArray, List.set_cons_zero, List.set_cons_succ]
  refine' wpAnyH_take (i := 8) (v := _) rfl (by kernel_rfl) (by kernel_rfl) (by kernel_rfl) (fun _ _ _ h => h) (Or.inl ⟨by kernel_rfl, ?hinnerc6⟩) (by assumption) ?rinnerc6
  case hinnerc6 => intro W hW; obtain ⟨c0, c1, c2, c3⟩ := hW; go_simp; all_goals with_reducible rfl
  change wpAnyH _ _ _ _ _ _ _ (Act.put _ (some 14) _) _
  simp only [Act.put, List.setIfInBounds_toArray, List.set_cons_zero, List.set_cons_succ]
  refine' wpAnyH_take (i := 9) (v := _) rfl (by kernel_rfl) (by kernel_rfl) (by kernel_rfl) (fun _ _ _ h => h) (Or.inl ⟨by kernel_rfl, ?hinnerc7⟩) (by assumption) ?rinnerc7
  case hinnerc7 => intro W hW; obtain ⟨c0, c1, c2, c3⟩ := hW; go_simp; all_goals with_reducible rfl
  change wpAnyH _ _ _ _ _ _ _ (Act.put _ (some 15) _) _
  simp only [Act.put, List.setIfInBounds_toArray, List.set_cons_zero, List.set_cons_succ]
  refine wpAnyH_ready (rs := [10]) (by kernel_rfl) (by simp) ?_
  refine AllReadyH.cons rfl (fun KK hK => ?_) AllReadyH.nil
  go_simp
  refine (hZ _ (HMW.out _ hb)).mono ?_
  rintro e wz ⟨rfl, hBn⟩
  have hbn := hb.trans (hBn.mono hb.size)
  clear hHeld hb hBn
  go_wp2_with fail
  refine hK.out _ _ (HWK.out _ hbn) (fun hHeld => ?_)
  have hb := hbn
  clear hbn
  clear hK KK
  try simp only [Act.put, List.setIfInBounds_toArray, List.set_cons_zero, List.set_cons_succ]
  refine' wpAnyH_take (i := 11) (v := _) rfl (by kernel_rfl) (by kernel_rfl) (by kernel_rfl) (fun _ _ _ h => h) (Or.inl ⟨by kernel_rfl, ?hinnerc8⟩) (by assumption) ?rinnerc8
  case hinnerc8 => intro W hW; obtain ⟨c0, c1, c2, c3⟩ := hW; go_simp; all_goals with_reducible rfl
  change wpAnyH _ _ _ _ _ _ _ (Act.put _ (some 17) _) _
  simp only [Act.put, List.setIfInBounds_toArray, List.set_cons_zero, List.set_cons_succ]
  refine' wpAnyH_take (i := 12) (v := _) rfl (by kernel_rfl) (by kernel_rfl) (by kernel_rfl) (fun _ _ _ h => h) (Or.inl ⟨by kernel_rfl, ?hinnerc9⟩) (by assumption) ?rinnerc9
  case hinnerc9 => intro W hW; obtain ⟨c0, c1, c2, c3⟩ := hW; go_simp; all_goals with_reducible rfl
  change wpAnyH _ _ _ _ _ _ _ (Act.put _ (some 18) _) _
  simp only [Act.put, List.setIfInBounds_toArray, List.set_cons_zero, List.set_cons_succ]
  refine' wpAnyH_take (i := 13) (v := _) rfl (by kernel_rfl) (by kernel_rfl) (by kernel_rfl) (fun _ _ _ h => h) (Or.inl ⟨by kernel_rfl, ?hinnerc10⟩) (by assumption) ?rinnerc10
  case hinnerc10 => intro W hW; obtain ⟨c0, c1, c2, c3⟩ := hW; go_simp; all_goals with_reducible rfl
  change wpAnyH _ _ _ _ _ _ _ (Act.put _ (some 2) _) _
  simp only [Act.put, List.setIfInBounds_toArray, List.set_cons_zero, List.set_cons_succ]
  refine wpAnyH_done (by kernel_rfl) ?_ _
  have HB : Hid (Below w.heap.size w _) := HMW.out _ hb
  clear hb hHeld HWK HMW
  go_wp2
  go_ret
  exact ⟨_, rfl, HR.out, HB.out⟩


theorem implNodeOk_any (v : Value) (D : PNode) (w : World) (h : NdView w v D) (hf : NFine D) :
    Calls Try.prog 14 #[v] w (SaysB w (OkI D)) := by
  obtain ⟨ac, cc, ap, cp, ai, ci, rfl, hc, hp, hi⟩ := h.is
  cases hl : D.leaf with
  | true => exact implNodeOk_leaf D hl ac cc ap cp ai ci w hc hp hi hf
  | false => exact implNodeOk_inner D hl ac cc ap cp ai ci w hc hp hi hf
end Go.Proofs.Ytaiinlcdfeboiaa

/-
  The model's PutU: what was there, and behind it the number's groups, in memory of its own.
-/
namespace Go.Proofs.Ytaiinlcdfeboiaa
open Go.RowKit
set_option maxRecDepth 4000

set_option maxHeartbeats 1000000 in
theorem putU_spec (b off n cap : Nat) (f : Nat → Int) (x : Int) (w : World) (hv : View w (some ⟨b, off, none⟩) n cap f) (hn : n ≤ 70368744177664) (hx0 : -9223372036854775808 ≤ x) (hx1 : x ≤ 9223372036854775807) :
    Calls Try.prog 76 #[.slice (some ⟨b, off, none⟩) n cap, .int .i64 x] w fun e w' => ∃ v, e = .returned v ∧ w'.ownsRow w.heap.size 5 1 v (n + (groups (clampN x)).length) (bl (lof n f ++ groups (clampN x))) ∧ Below w.heap.size w w' := by
  obtain ⟨i0, hi, hz0, hz1, hz2⟩ := info_parts Try.info5
  have hown0 := World.ownsRow_lit (base := w.heap.size) (e := 5) (size := 1) w #[] 0 (Nat.le_refl _) (Nat.zero_le _) rfl
  have hb0 : Below w.heap.size w (w.alloc (.cells #[] 5)) := (Below.refl _ _).alloc (Nat.le_refl _) _
  have hcl := cells_of_view (hv.below hb0)
  have hsz : (w.alloc (.cells #[] 5)).heap.size = w.heap.size + 1 := by simp
  go_enter Try.func76, Try.ntmps76
  go_wp2_with (at_builtin; go_must (refine wpList_append_own _ rfl (.tmp 6) (.tmp 7) 22 rfl w.heap.size 5 i0 (.int .u8 0) 1 1 Try.underlying22 hi hz0 hz1 hz2 rfl (by decide) (.slice (some ⟨w.heap.size, 0, none⟩) 0 0) 0 [] rfl hown0 ⟨b, off, none⟩ n cap (bl (lof n f)) rfl (by rw [bl_len, lof_len]; omega) hcl (bl_one _) (by unfold maxLen; omega) (by omega) (by rw [hsz]; omega) ?_); intro v1 w1 hown1 hgr1 _)
  all_goals
    have hb1 : Below w.heap.size w w1 := hb0.grown hgr1 (by simp) (fun k hk => by simp only [Value.ownBlock, Option.some.injEq] at hk; omega)
    clear hown0 hcl hsz hgr1 hb0 hv
    simp only [Nat.zero_add, List.nil_append] at hown1
    go_loopg [1, 5] (clampN x).toNat (fun g s v wr => ∃ (y : Int) (ys : List Int), s = .int .i64 y ∧ 0 ≤ y ∧ y ≤ 1000000 ∧ g = y.toNat ∧ groups (clampN x) = ys ++ groups y ∧ wr.ownsRow w.heap.size 5 1 v (n + ys.length) (bl (lof n f ++ ys)) ∧ Below w.heap.size w wr)
    case atStart => exact ⟨clampN x, [], congrArg (Value.int .i64) (by unfold clampN; split <;> (try split) <;> omega), (clampN_bd x).1, (clampN_bd x).2, rfl, rfl, by rw [List.append_nil]; exact hown1, hb1⟩
    case round =>
      obtain ⟨y, ys, rfl, hy0, hy1, rfl, hgr, hown, hB⟩ := hrel
      clear hown1 hb1
      have HG : Hid (groups (clampN x) = ys ++ groups y) := hgr
      have hlen : n + ys.length ≤ n + 3 := by have := groups_len (clampN x); rw [hgr] at this; simp at this; have := groups_len y; omega
      clear hgr
      have hA : ∀ z : Int, bits .and .i64 z 127 = z % 128 := i64_and127
      have hq : bits .or .i64 (y % 128) 128 = y % 128 + 128 := i64_or_add 7 _ _ (by omega) (by show _ < (128 : Int); omega) (by omega) (by decide) (by omega) (by decide)
      by_cases hlt : y < 128
      · go_wp2_with (at_builtin; go_must (refine wpList_append_own _ rfl (.tmp 24) (.tmp 27) 22 rfl w.heap.size 5 i0 (.int .u8 0) 1 1 Try.underlying22 hi hz0 hz1 hz2 rfl (by decide) u5 _ _ rfl (hown.alloc _) ⟨wr.heap.size, 0, none⟩ 1 1 [.int .u8 y] rfl rfl (cellNew _ _ _) (bl_one [y]) (by unfold maxLen; omega) (by omega) (by have := hB.size; simp; omega) ?_); intro v2 w2 hown2 hgr2 _)
        go_ret
        refine ⟨v2, rfl, ?_, ?_⟩
        · rw [HG.out, groups_last y hlt, List.length_append, ← List.append_assoc, bl_append]
          rw [Nat.add_assoc] at hown2
          exact hown2
        · exact (hB.alloc hB.size _).grown hgr2 (by have := hB.size; simp; omega) (fun k hk => (hown.lt k hk).1)
      · have hS : y / 128 < y := by omega
        have hG2 : Hid (groups (clampN x) = (ys ++ [y % 128 + 128]) ++ groups (y / 128)) := by
          have := HG.out
          rw [groups_step y (by omega) hy1] at this
          rw [List.append_assoc]; exact this
        go_wp2_with (at_builtin; go_must (refine wpList_append_own _ rfl (.tmp 15) (.tmp 20) 22 rfl w.heap.size 5 i0 (.int .u8 0) 1 1 Try.underlying22 hi hz0 hz1 hz2 rfl (by decide) u5 _ _ rfl (hown.alloc _) ⟨wr.heap.size, 0, none⟩ 1 1 [.int .u8 (y % 128 + 128)] rfl rfl (cellNew _ _ _) (bl_one [y % 128 + 128]) (by unfold maxLen; omega) (by omega) (by have := hB.size; simp; omega) ?_); intro v2 w2 hown2 hgr2 _)
        have hB2 : Below w.heap.size w w2 := (hB.alloc hB.size _).grown hgr2 (by have := hB.size; simp; omega) (fun k hk => (hown.lt k hk).1)
        have hO2 : w2.ownsRow w.heap.size 5 1 v2 (n + (ys ++ [y % 128 + 128]).length) (bl (lof n f ++ (ys ++ [y % 128 + 128]))) := by
          rw [List.length_append, ← List.append_assoc, bl_append]
          rw [Nat.add_assoc] at hown2
          exact hown2
        clear hgr2 hown hown2 hB
        go_wp2
        go_roundg ((y / 128).toNat)
        case measure => omega
        case rel => exact ⟨y / 128, ys ++ [y % 128 + 128], rfl, by omega, by omega, rfl, hG2.out, hO2, hB2⟩
end Go.Proofs.Ytaiinlcdfeboiaa

/-
  The model's PutText: what was there, the number of the text's bytes, and these, in memory of its own.
-/
namespace Go.Proofs.Ytaiinlcdfeboiaa
open Go.RowKit
set_option maxRecDepth 4000

set_option maxHeartbeats 1000000 in
theorem putText_spec (b off n cap : Nat) (f : Nat → Int) (s : ByteArray) (w : World) (hv : View w (some ⟨b, off, none⟩) n cap f) (hn : n ≤ 35184372088832) (hs : s.size ≤ 35184372088832) :
    Calls Try.prog 77 #[.slice (some ⟨b, off, none⟩) n cap, .string s] w fun e w' => ∃ g c, e = .returned (.slice (some ⟨g, 0, none⟩) (n + (groups (clampN s.size)).length + s.size) c) ∧ w.heap.size ≤ g ∧ n + (groups (clampN s.size)).length + s.size ≤ c ∧ Row 5 w' g (n + (groups (clampN s.size)).length + s.size) (fun i => (textL n f s).getD i 0) ∧ Below w.heap.size w w' := by
  obtain ⟨i0, hi, hz0, hz1, hz2⟩ := info_parts Try.info5
  have hgl := (groups_len (clampN s.size)).2
  have hg1 := (groups_len (clampN s.size)).1
  obtain ⟨gs, hgs⟩ : ∃ gs, Hid (groups (clampN s.size) = gs) := ⟨_, rfl⟩
  rw [hgs.out] at hgl hg1
  go_enter Try.func77, Try.ntmps77
  go_wp2_with fail
  refine (putU_spec b off n cap f (s.size : Int) w hv (by omega) (by omega) (by omega)).mono ?_
  rintro e w1 ⟨v, rfl, hown, hb1⟩
  rw [hgs.out] at hown
  go_wp2_with (at_builtin; go_must (refine Lib.wpList_append_own_string _ rfl (.tmp 8) (.tmp 9) 22 9 rfl w.heap.size 5 i0 Try.underlying22 Try.underlying9 hi hz0 hz1 hz2 v _ _ rfl hown s rfl (by unfold maxLen; omega) (by omega) hb1.size ?_); intro v2 w2 hown2 hgr2 _)
  have hb2 : Below w.heap.size w w2 := hb1.grown hgr2 hb1.size (fun k hk => (hown.lt k hk).1)
  go_ret
  rw [sl_cells, ← bl_append] at hown2
  obtain ⟨g, c, hv2, hg, hgc, hrow⟩ := row_of_own hown2 (by omega)
  unfold textL
  rw [hgs.out, hv2]
  exact ⟨g, c, rfl, hg, hgc, hrow, hb2⟩

end Go.Proofs.Ytaiinlcdfeboiaa

