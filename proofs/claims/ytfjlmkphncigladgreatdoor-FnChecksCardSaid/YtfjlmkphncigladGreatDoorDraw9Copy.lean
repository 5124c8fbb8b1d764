/-
  Draw9Copy
-/
import Derived.Test.YtfjlmkphncigladGreatDoorCopyKit9
import Derived.Test.YtfjlmkphncigladGreatDoorDraw9Tab
import Derived.Deep.LoopGhost
import Derived.Deep.DeepCutAuto
import Derived.Deep.RegionHeld3
/-
  The copy of a table.
-/
namespace Go.Proofs.YtfjlmkphncigladGreatDoor
open Go.RowKit
set_option maxRecDepth 4000

theorem sm_ni {D : PDef} (h : Sm D) {k : Nat} (hk : k ≤ D.ni) : Sm { D with ni := k } := ⟨h.name, h.nc, h.col, h.np, Nat.le_trans hk h.ni, fun i hi => h.idx i (Nat.lt_of_lt_of_le hi hk)⟩
/-- k indexes are copied. -/
def SC (w : World) (Bo bc cc bp cp : Nat) (ia : Option Addr) (ic : Nat) (D : PDef) (k : Nat) (W : World) : Prop :=
  ∃ (b5 c5 b9 c9 : Nat) (vi : Value) (A C : Nat → Nat), IsSl vi ∧ w.heap.size + 1 < Bo ∧ Below w.heap.size w W ∧ Vd w w.heap.size (.string D.name) (.slice (some ⟨bc, 0, none⟩) D.nc cc) (.slice (some ⟨bp, 0, none⟩) D.np cp) (.slice ia D.ni ic) W ∧ Vd w (w.heap.size + 1) (.string ⟨#[]⟩) (.slice none 0 0) (.slice none 0 0) (.slice none 0 0) W ∧ Vd w Bo (.string D.name) (.slice (some ⟨b5, 0, none⟩) D.nc c5) (.slice (some ⟨b9, 0, none⟩) D.np c9) vi W ∧ Tb w (.slice (some ⟨b5, 0, none⟩) D.nc c5) (.slice (some ⟨b9, 0, none⟩) D.np c9) vi { D with ni := k } A C W
/-- A copy. -/
def Copied (w : World) (vc vp vi : Value) (D : PDef) (W : World) : Prop := (∃ A C, Tb w vc vp vi D A C W) ∧ Below w.heap.size w W

set_option maxRecDepth 20000 in
set_option maxHeartbeats 16000000 in
theorem l9Copy_any (bc cc bp cp : Nat) (ia : Option Addr) (ic : Nat) (D : PDef) (w : World) (hCv : CView w (some ⟨bc, 0, none⟩) D.nc cc D.col) (hBv : BView w (some ⟨bp, 0, none⟩) D.np cp D.pri) (hIv : IBl w ia D.ni D.idx) (hsm : Sm D) :
    Calls Tryz.prog 18 #[.agg #[.string D.name, .slice (some ⟨bc, 0, none⟩) D.nc cc, .slice (some ⟨bp, 0, none⟩) D.np cp, .slice ia D.ni ic]] w fun e w' => ∃ (b5 c5 b9 c9 : Nat) (i1 : Option Addr) (i2 i3 : Nat), e = .returned (.agg #[.string D.name, .slice (some ⟨b5, 0, none⟩) D.nc c5, .slice (some ⟨b9, 0, none⟩) D.np c9, .slice i1 i2 i3]) ∧ Copied w (.slice (some ⟨b5, 0, none⟩) D.nc c5) (.slice (some ⟨b9, 0, none⟩) D.np c9) (.slice i1 i2 i3) D w' := by
  obtain ⟨iC, hiC⟩ := infoCol9
  obtain ⟨iB, hiB⟩ := infoBy9
  obtain ⟨iI, hiI⟩ := infoIdx9
  have hnc := hsm.nc
  have hnp := hsm.np
  have hni := hsm.ni
  have hb := Vd.new (w := w) (W := w) (Nat.le_refl _) (.string D.name) (.slice (some ⟨bc, 0, none⟩) D.nc cc) (.slice (some ⟨bp, 0, none⟩) D.np cp) (.slice ia D.ni ic)
  have hE1 := Eff.alloc w 70 w (.cells #[.string D.name, .slice (some ⟨bc, 0, none⟩) D.nc cc, .slice (some ⟨bp, 0, none⟩) D.np cp, .slice ia D.ni ic] 28)
  have hB := hE1.on (Below.refl _ _)
  have hr := Vd.new (w := w) (W := w.alloc (.cells #[.string D.name, .slice (some ⟨bc, 0, none⟩) D.nc cc, .slice (some ⟨bp, 0, none⟩) D.np cp, .slice ia D.ni ic] 28)) hB.size (.string ⟨#[]⟩) (.slice none 0 0) (.slice none 0 0) (.slice none 0 0)
  have hE2 := Eff.alloc w 70 (w.alloc (.cells #[.string D.name, .slice (some ⟨bc, 0, none⟩) D.nc cc, .slice (some ⟨bp, 0, none⟩) D.np cp, .slice ia D.ni ic] 28)) (.cells #[.string ⟨#[]⟩, (.slice none 0 0), (.slice none 0 0), (.slice none 0 0)] 28)
  replace hB := hE2.on hB
  replace hb := hb.eff hE2 (by decide)
  simp only [World.size_alloc] at hr
  clear hE1 hE2
  go_enter Tryz.func18, Tryz.ntmps18
  go_upto_region 1 with fail
  obtain ⟨w0, hw0⟩ : ∃ x, Hid (x = (w.alloc (.cells #[.string D.name, .slice (some ⟨bc, 0, none⟩) D.nc cc, .slice (some ⟨bp, 0, none⟩) D.np cp, .slice ia D.ni ic] 28)).alloc (.cells #[.string ⟨#[]⟩, (.slice none 0 0), (.slice none 0 0), (.slice none 0 0)] 28)) := ⟨_, rfl⟩
  rw [← hw0.out] at hb hr hB ⊢
  clear hw0
  go_cut [3] (fun p wx => ∃ Bo, p = .pointer (some ⟨Bo, 0, none⟩) ∧ SC w Bo bc cc bp cp ia ic D 0 wx)
  case first =>
    have hEx : Eff w 70 w0 w0.drew := Eff.ofBelow (Below.refl _ _).drew
    replace hb := hb.eff hEx (by decide)
    replace hr := hr.eff hEx (by decide)
    replace hB := hEx.on hB
    clear hEx
    refine wp_region_held_drew (S := Vd w w.heap.size (.string D.name) (.slice (some ⟨bc, 0, none⟩) D.nc cc) (.slice (some ⟨bp, 0, none⟩) D.np cp) (.slice ia D.ni ic)) (by kernel_rfl) hb (fun hHeld => ?_)
    obtain ⟨w0d, hw0d⟩ : ∃ x, Hid (x = w0.drew) := ⟨_, rfl⟩
    rw [← hw0d.out] at hHeld hb hr hB ⊢
    clear hw0d
    refine' wpAnyH_take (i := 0) (v := _) rfl (by kernel_rfl) (by kernel_rfl) (by kernel_rfl) (fun _ _ _ h => h) (Or.inl ⟨by kernel_rfl, ?hdy1⟩) (by assumption) ?rdy1
    case hdy1 => intro W hW; obtain ⟨c0, c1, c2, c3⟩ := hW.v.cells; go_simp; all_goals with_reducible rfl
    change wpAnyH _ _ _ _ _ _ _ (Act.put _ (some 6) _) _
    simp only [Act.put, List.setIfInBounds_toArray, List.set_cons_zero, List.set_cons_succ]
    refine' wpAnyH_take (i := 1) (v := _) rfl (by kernel_rfl) (by kernel_rfl) (by kernel_rfl) (fun _ _ _ h => h) (Or.inl ⟨by kernel_rfl, ?hdy2⟩) (by assumption) ?rdy2
    case hdy2 => intro W hW; obtain ⟨c0, c1, c2, c3⟩ := hW.v.cells; go_simp; all_goals with_reducible rfl
    change wpAnyH _ _ _ _ _ _ _ (Act.put _ (some 7) _) _
    simp only [Act.put, List.setIfInBounds_toArray, List.set_cons_zero, List.set_cons_succ]
    refine' wpAnyH_take (i := 3) (v := _) rfl (by kernel_rfl) (by kernel_rfl) (by kernel_rfl) (fun _ _ _ h => h) (Or.inl ⟨by kernel_rfl, ?hdy3⟩) (by assumption) ?rdy3
    case hdy3 => intro W hW; obtain ⟨c0, c1, c2, c3⟩ := hW.v.cells; go_simp; all_goals with_reducible rfl
    change wpAnyH _ _ _ _ _ _ _ (Act.put _ (some 9) _) _
    simp only [Act.put, List.setIfInBounds_toArray, List.set_cons_zero, List.set_cons_succ]
    refine' wpAnyH_take (i := 4) (v := _) rfl (by kernel_rfl) (by kernel_rfl) (by kernel_rfl) (fun _ _ _ h => h) (Or.inl ⟨by kernel_rfl, ?hdy4⟩) (by assumption) ?rdy4
    case hdy4 => intro W hW; obtain ⟨c0, c1, c2, c3⟩ := hW.v.cells; go_simp; all_goals with_reducible rfl
    change wpAnyH _ _ _ _ _ _ _ (Act.put _ (some 10) _) _
    simp only [Act.put, List.setIfInBounds_toArray, List.set_cons_zero, List.set_cons_succ]
    refine' wpAnyH_take (i := 7) (v := _) rfl (by kernel_rfl) (by kernel_rfl) (by kernel_rfl) (fun _ _ _ h => h) (Or.inl ⟨by kernel_rfl, ?hdy5⟩) (by assumption) ?rdy5
    case hdy5 => intro W hW; obtain ⟨c0, c1, c2, c3⟩ := hW.v.cells; go_simp; all_goals with_reducible rfl
    change wpAnyH _ _ _ _ _ _ _ (Act.put _ (some 13) _) _
    simp only [Act.put, List.setIfInBounds_toArray, List.set_cons_zero, List.set_cons_succ]
    refine' wpAnyH_take (i := 8) (v := _) rfl (by kernel_rfl) (by kernel_rfl) (by kernel_rfl) (fun _ _ _ h => h) (Or.inl ⟨by kernel_rfl, ?hdy6⟩) (by assumption) ?rdy6
    case hdy6 => intro W hW; obtain ⟨c0, c1, c2, c3⟩ := hW.v.cells; go_simp; all_goals with_reducible rfl
    change wpAnyH _ _ _ _ _ _ _ (Act.put _ (some 14) _) _
    simp only [Act.put, List.setIfInBounds_toArray, List.set_cons_zero, List.set_cons_succ]
    refine wpAnyH_ready (rs := [2, 6, 11]) (by kernel_rfl) (by simp) ?_
    refine AllReadyH.cons rfl (fun KK hK => ?_) (AllReadyH.cons rfl (fun KK hK => ?_) (AllReadyH.cons rfl (fun KK hK => ?_) AllReadyH.nil))
    ·
      go_simp
      have hsz := hB.size
      have hEx := Eff.alloc w 70 w0d (.cells #[] 49)
      have hc := World.ownsRow_lit (base := w.heap.size) (e := 49) (size := 3) w0d #[] 0 hsz (by unfold maxLen; omega) rfl
      replace hb := hb.eff hEx (by decide)
      replace hr := hr.eff hEx (by decide)
      replace hB := hEx.on hB
      obtain ⟨wz1, hnw⟩ : ∃ x, Hid (x = w0d.alloc (.cells #[] 49)) := ⟨_, rfl⟩
      obtain ⟨b2, hnb⟩ : ∃ x, Hid (x = w0d.heap.size) := ⟨_, rfl⟩
      rw [← hnw.out] at hb hr hB hc ⊢
      rw [← hnb.out] at hc ⊢
      clear hEx hsz hnw hnb
      refine hK.out _ _ hb (fun hHeld => ?_)
      clear hK KK
      try simp only [Act.put, List.setIfInBounds_toArray, List.set_cons_zero, List.set_cons_succ]
      refine wpAnyH_ready (rs := [5, 6, 11]) (by kernel_rfl) (by simp) ?_
      refine AllReadyH.cons rfl (fun KK hK => ?_) (AllReadyH.cons rfl (fun KK hK => ?_) (AllReadyH.cons rfl (fun KK hK => ?_) AllReadyH.nil))
      ·
        have hnn := cview_news (hCv.below hB)
        have hsz := hB.size
        rw [if_pos (by kernel_rfl)]
        refine wp_append_own _ (.tmp 8) (.tmp 10) 24 rfl w.heap.size 49 iC (.agg #[.string ⟨#[]⟩, .int .i64 0, .bool false]) 3 32 Tryz.underlying24 hiC.1 hiC.2.1 hiC.2.2.1 hiC.2.2.2 rfl (by decide) _ 0 [] rfl hc ⟨bc, 0, none⟩ D.nc cc _ rfl (lenC _) hnn (oneC _) (by unfold maxLen; omega) (by omega) hsz ?_
        intro vX wz2 hOX hgX hnX
        have hEx := Eff.grown hc hgX
        replace hb := hb.eff hEx (by decide)
        replace hr := hr.eff hEx (by decide)
        replace hB := hEx.on hB
        obtain ⟨b5, c5, rfl, hOY⟩ := own_new9 hOX hnX (show Value.slice (some ⟨b2, 0, none⟩) 0 0 ≠ Value.slice none 0 0 by simp)
        clear hc
        have hc := hOY
        clear hEx hOX hgX hnX hOY hnn hsz
        refine hK.out _ _ hb (fun hHeld => ?_)
        clear hK KK
        change wpAnyH _ _ _ _ _ _ _ (Act.put _ (some 11) _) _
        try simp only [Act.put, List.setIfInBounds_toArray, List.set_cons_zero, List.set_cons_succ]
        refine wpAnyH_ready (rs := [6, 11]) (by kernel_rfl) (by simp) ?_
        refine AllReadyH.cons rfl (fun KK hK => ?_) (AllReadyH.cons rfl (fun KK hK => ?_) AllReadyH.nil)
        ·
          go_simp
          have hsz := hB.size
          have hEx := Eff.alloc w 70 wz2 (.cells #[] 51)
          have hp := World.ownsRow_lit (base := w.heap.size) (e := 51) (size := 2) wz2 #[] 0 hsz (by unfold maxLen; omega) rfl
          replace hb := hb.eff hEx (by decide)
          replace hr := hr.eff hEx (by decide)
          replace hB := hEx.on hB
          replace hc := own_eff hc hEx (by decide)
          obtain ⟨wz3, hnw⟩ : ∃ x, Hid (x = wz2.alloc (.cells #[] 51)) := ⟨_, rfl⟩
          obtain ⟨b6, hnb⟩ : ∃ x, Hid (x = wz2.heap.size) := ⟨_, rfl⟩
          rw [← hnw.out] at hb hr hB hc hp ⊢
          rw [← hnb.out] at hp ⊢
          clear hEx hsz hnw hnb
          refine hK.out _ _ hb (fun hHeld => ?_)
          clear hK KK
          try simp only [Act.put, List.setIfInBounds_toArray, List.set_cons_zero, List.set_cons_succ]
          refine wpAnyH_ready (rs := [9, 11]) (by kernel_rfl) (by simp) ?_
          refine AllReadyH.cons rfl (fun KK hK => ?_) (AllReadyH.cons rfl (fun KK hK => ?_) AllReadyH.nil)
          ·
            have hnn := bview_news (hBv.below hB)
            have hsz := hB.size
            rw [if_pos (by kernel_rfl)]
            refine wp_append_own _ (.tmp 12) (.tmp 14) 25 rfl w.heap.size 51 iB (.agg #[.int .i64 0, .bool false]) 2 16 Tryz.underlying25 hiB.1 hiB.2.1 hiB.2.2.1 hiB.2.2.2 rfl (by decide) _ 0 [] rfl hp ⟨bp, 0, none⟩ D.np cp _ rfl (lenB _) hnn (oneB9 _) (by unfold maxLen; omega) (by omega) hsz ?_
            intro vX wz4 hOX hgX hnX
            have hEx := Eff.grown hp hgX
            replace hb := hb.eff hEx (by decide)
            replace hr := hr.eff hEx (by decide)
            replace hB := hEx.on hB
            replace hc := own_eff hc hEx (by decide)
            obtain ⟨b9, c9, rfl, hOY⟩ := own_new9 hOX hnX (show Value.slice (some ⟨b6, 0, none⟩) 0 0 ≠ Value.slice none 0 0 by simp)
            clear hp
            have hp := hOY
            clear hEx hOX hgX hnX hOY hnn hsz
            refine hK.out _ _ hb (fun hHeld => ?_)
            clear hK KK
            change wpAnyH _ _ _ _ _ _ _ (Act.put _ (some 15) _) _
            try simp only [Act.put, List.setIfInBounds_toArray, List.set_cons_zero, List.set_cons_succ]
            refine' wpAnyH_take (i := 10) (v := _) rfl (by kernel_rfl) (by kernel_rfl) (by kernel_rfl) (fun _ _ _ h => h) (Or.inl ⟨by kernel_rfl, ?hdy7⟩) (by assumption) ?rdy7
            case hdy7 => intro W hW; obtain ⟨c0, c1, c2, c3⟩ := hW.v.cells; go_simp; all_goals with_reducible rfl
            change wpAnyH _ _ _ _ _ _ _ (Act.put _ (some 16) _) _
            simp only [Act.put, List.setIfInBounds_toArray, List.set_cons_zero, List.set_cons_succ]
            refine wpAnyH_ready (rs := [11]) (by kernel_rfl) (by simp) ?_
            refine AllReadyH.cons rfl (fun KK hK => ?_) AllReadyH.nil
            go_simp
            have hsz := hB.size
            have hEx := Eff.alloc w 70 wz4 (.cells #[.string ⟨#[]⟩, (.slice none 0 0), (.slice none 0 0), (.slice none 0 0)] 28)
            have hv := Vd.new (w := w) (W := wz4) hsz (.string ⟨#[]⟩) (.slice none 0 0) (.slice none 0 0) (.slice none 0 0)
            have hBo := hr.v.lt
            replace hb := hb.eff hEx (by decide)
            replace hr := hr.eff hEx (by decide)
            replace hB := hEx.on hB
            replace hc := own_eff hc hEx (by decide)
            replace hp := own_eff hp hEx (by decide)
            obtain ⟨wz5, hnw⟩ : ∃ x, Hid (x = wz4.alloc (.cells #[.string ⟨#[]⟩, (.slice none 0 0), (.slice none 0 0), (.slice none 0 0)] 28)) := ⟨_, rfl⟩
            obtain ⟨Bo, hnb⟩ : ∃ x, Hid (x = wz4.heap.size) := ⟨_, rfl⟩
            rw [← hnw.out] at hb hr hB hc hp hv ⊢
            rw [← hnb.out] at hv hBo ⊢
            clear hEx hsz hnw hnb
            refine hK.out _ _ hb (fun hHeld => ?_)
            clear hK KK
            try simp only [Act.put, List.setIfInBounds_toArray, List.set_cons_zero, List.set_cons_succ]
            refine wpAnyH_ready (rs := [12]) (by kernel_rfl) (by simp) ?_
            refine AllReadyH.cons rfl (fun KK hK => ?_) AllReadyH.nil
            obtain ⟨k0, k1, k2, k3⟩ := hv.v.cells
            obtain ⟨z0, z1, z2, z3⟩ := hv.v.fz
            have q1 := hv.effSet 0 (.string D.name)
            have q2 := (hv.set0 (.string D.name)).effSet 1 (.slice (some ⟨b5, 0, none⟩) D.nc c5)
            have q3 := ((hv.set0 (.string D.name)).set1 (.slice (some ⟨b5, 0, none⟩) D.nc c5)).effSet 2 (.slice (some ⟨b9, 0, none⟩) D.np c9)
            have q4 := (((hv.set0 (.string D.name)).set1 (.slice (some ⟨b5, 0, none⟩) D.nc c5)).set2 (.slice (some ⟨b9, 0, none⟩) D.np c9)).effSet 3 (.slice none 0 0)
            have hEx := ((q1.trans q2).trans q3).trans q4
            have hB2 := hEx.on hB
            have hc2 := own_eff hc hEx (by decide)
            have hp2 := own_eff hp hEx (by decide)
            have hv2 := (((hv.set0 (.string D.name)).set1 (.slice (some ⟨b5, 0, none⟩) D.nc c5)).set2 (.slice (some ⟨b9, 0, none⟩) D.np c9)).set3 (.slice none 0 0)
            have hb2 := ((((hb.other (C := Bo) (i := 0) (u := .string D.name) (by omega)).other (C := Bo) (i := 1) (u := (.slice (some ⟨b5, 0, none⟩) D.nc c5)) (by omega)).other (C := Bo) (i := 2) (u := (.slice (some ⟨b9, 0, none⟩) D.np c9)) (by omega)).other (C := Bo) (i := 3) (u := (.slice none 0 0)) (by omega))
            have hr2 := ((((hr.other (C := Bo) (i := 0) (u := .string D.name) (by omega)).other (C := Bo) (i := 1) (u := (.slice (some ⟨b5, 0, none⟩) D.nc c5)) (by omega)).other (C := Bo) (i := 2) (u := (.slice (some ⟨b9, 0, none⟩) D.np c9)) (by omega)).other (C := Bo) (i := 3) (u := (.slice none 0 0)) (by omega))
            have HS : Hid (SC w Bo bc cc bp cp ia ic D 0 _) := ⟨b5, c5, b9, c9, (.slice none 0 0), fun _ => 0, fun _ => 0, ⟨_, _, _, rfl⟩, hBo, hB2, hb2, hr2, hv2, ⟨hc2, hp2, own_nil9, Pts.none _ _ _ _ _ _, sm_ni hsm (Nat.zero_le _)⟩⟩
            go_simp
            clear k0 k1 k2 k3 z0 z1 z2 z3 q1 q2 q3 q4 hEx hB2 hc2 hp2 hv2 hr2 hr hv hB hc hp
            refine hK.out _ _ hb2 (fun hHeld => ?_)
            clear hK KK
            try simp only [Act.put, List.setIfInBounds_toArray, List.set_cons_zero, List.set_cons_succ]
            refine wpAnyH_done (by kernel_rfl) ?_ _
            clear hHeld hb2 hb
            go_wp2_with fail
            go_meet
            exact ⟨Bo, rfl, HS.out⟩
          ·
            go_simp
            have hsz := hB.size
            have hEx := Eff.alloc w 70 wz3 (.cells #[.string ⟨#[]⟩, (.slice none 0 0), (.slice none 0 0), (.slice none 0 0)] 28)
            have hv := Vd.new (w := w) (W := wz3) hsz (.string ⟨#[]⟩) (.slice none 0 0) (.slice none 0 0) (.slice none 0 0)
            have hBo := hr.v.lt
            replace hb := hb.eff hEx (by decide)
            replace hr := hr.eff hEx (by decide)
            replace hB := hEx.on hB
            replace hc := own_eff hc hEx (by decide)
            replace hp := own_eff hp hEx (by decide)
            obtain ⟨wz6, hnw⟩ : ∃ x, Hid (x = wz3.alloc (.cells #[.string ⟨#[]⟩, (.slice none 0 0), (.slice none 0 0), (.slice none 0 0)] 28)) := ⟨_, rfl⟩
            obtain ⟨Bo, hnb⟩ : ∃ x, Hid (x = wz3.heap.size) := ⟨_, rfl⟩
            rw [← hnw.out] at hb hr hB hc hp hv ⊢
            rw [← hnb.out] at hv hBo ⊢
            clear hEx hsz hnw hnb
            refine hK.out _ _ hb (fun hHeld => ?_)
            clear hK KK
            try simp only [Act.put, List.setIfInBounds_toArray, List.set_cons_zero, List.set_cons_succ]
            refine wpAnyH_ready (rs := [9]) (by kernel_rfl) (by simp) ?_
            refine AllReadyH.cons rfl (fun KK hK => ?_) AllReadyH.nil
            have hnn := bview_news (hBv.below hB)
            have hsz := hB.size
            rw [if_pos (by kernel_rfl)]
            refine wp_append_own _ (.tmp 12) (.tmp 14) 25 rfl w.heap.size 51 iB (.agg #[.int .i64 0, .bool false]) 2 16 Tryz.underlying25 hiB.1 hiB.2.1 hiB.2.2.1 hiB.2.2.2 rfl (by decide) _ 0 [] rfl hp ⟨bp, 0, none⟩ D.np cp _ rfl (lenB _) hnn (oneB9 _) (by unfold maxLen; omega) (by omega) hsz ?_
            intro vX wz7 hOX hgX hnX
            have hEx := Eff.grown hp hgX
            replace hb := hb.eff hEx (by decide)
            replace hr := hr.eff hEx (by decide)
            replace hB := hEx.on hB
            replace hc := own_eff hc hEx (by decide)
            replace hv := hv.eff hEx (by decide)
            obtain ⟨b9, c9, rfl, hOY⟩ := own_new9 hOX hnX (show Value.slice (some ⟨b6, 0, none⟩) 0 0 ≠ Value.slice none 0 0 by simp)
            clear hp
            have hp := hOY
            clear hEx hOX hgX hnX hOY hnn hsz
            refine hK.out _ _ hb (fun hHeld => ?_)
            clear hK KK
            change wpAnyH _ _ _ _ _ _ _ (Act.put _ (some 15) _) _
            try simp only [Act.put, List.setIfInBounds_toArray, List.set_cons_zero, List.set_cons_succ]
            refine' wpAnyH_take (i := 10) (v := _) rfl (by kernel_rfl) (by kernel_rfl) (by kernel_rfl) (fun _ _ _ h => h) (Or.inl ⟨by kernel_rfl, ?hdy8⟩) (by assumption) ?rdy8
            case hdy8 => intro W hW; obtain ⟨c0, c1, c2, c3⟩ := hW.v.cells; go_simp; all_goals with_reducible rfl
            change wpAnyH _ _ _ _ _ _ _ (Act.put _ (some 16) _) _
            simp only [Act.put, List.setIfInBounds_toArray, List.set_cons_zero, List.set_cons_succ]
            refine wpAnyH_ready (rs := [12]) (by kernel_rfl) (by simp) ?_
            refine AllReadyH.cons rfl (fun KK hK => ?_) AllReadyH.nil
            obtain ⟨k0, k1, k2, k3⟩ := hv.v.cells
            obtain ⟨z0, z1, z2, z3⟩ := hv.v.fz
            have q1 := hv.effSet 0 (.string D.name)
            have q2 := (hv.set0 (.string D.name)).effSet 1 (.slice (some ⟨b5, 0, none⟩) D.nc c5)
            have q3 := ((hv.set0 (.string D.name)).set1 (.slice (some ⟨b5, 0, none⟩) D.nc c5)).effSet 2 (.slice (some ⟨b9, 0, none⟩) D.np c9)
            have q4 := (((hv.set0 (.string D.name)).set1 (.slice (some ⟨b5, 0, none⟩) D.nc c5)).set2 (.slice (some ⟨b9, 0, none⟩) D.np c9)).effSet 3 (.slice none 0 0)
            have hEx := ((q1.trans q2).trans q3).trans q4
            have hB2 := hEx.on hB
            have hc2 := own_eff hc hEx (by decide)
            have hp2 := own_eff hp hEx (by decide)
            have hv2 := (((hv.set0 (.string D.name)).set1 (.slice (some ⟨b5, 0, none⟩) D.nc c5)).set2 (.slice (some ⟨b9, 0, none⟩) D.np c9)).set3 (.slice none 0 0)
            have hb2 := ((((hb.other (C := Bo) (i := 0) (u := .string D.name) (by omega)).other (C := Bo) (i := 1) (u := (.slice (some ⟨b5, 0, none⟩) D.nc c5)) (by omega)).other (C := Bo) (i := 2) (u := (.slice (some ⟨b9, 0, none⟩) D.np c9)) (by omega)).other (C := Bo) (i := 3) (u := (.slice none 0 0)) (by omega))
            have hr2 := ((((hr.other (C := Bo) (i := 0) (u := .string D.name) (by omega)).other (C := Bo) (i := 1) (u := (.slice (some ⟨b5, 0, none⟩) D.nc c5)) (by omega)).other (C := Bo) (i := 2) (u := (.slice (some ⟨b9, 0, none⟩) D.np c9)) (by omega)).other (C := Bo) (i := 3) (u := (.slice none 0 0)) (by omega))
            have HS : Hid (SC w Bo bc cc bp cp ia ic D 0 _) := ⟨b5, c5, b9, c9, (.slice none 0 0), fun _ => 0, fun _ => 0, ⟨_, _, _, rfl⟩, hBo, hB2, hb2, hr2, hv2, ⟨hc2, hp2, own_nil9, Pts.none _ _ _ _ _ _, sm_ni hsm (Nat.zero_le _)⟩⟩
            go_simp
            clear k0 k1 k2 k3 z0 z1 z2 z3 q1 q2 q3 q4 hEx hB2 hc2 hp2 hv2 hr2 hr hv hB hc hp
            refine hK.out _ _ hb2 (fun hHeld => ?_)
            clear hK KK
            try simp only [Act.put, List.setIfInBounds_toArray, List.set_cons_zero, List.set_cons_succ]
            refine wpAnyH_done (by kernel_rfl) ?_ _
            clear hHeld hb2 hb
            go_wp2_with fail
            go_meet
            exact ⟨Bo, rfl, HS.out⟩
        ·
          go_simp
          have hsz := hB.size
          have hEx := Eff.alloc w 70 wz2 (.cells #[.string ⟨#[]⟩, (.slice none 0 0), (.slice none 0 0), (.slice none 0 0)] 28)
          have hv := Vd.new (w := w) (W := wz2) hsz (.string ⟨#[]⟩) (.slice none 0 0) (.slice none 0 0) (.slice none 0 0)
          have hBo := hr.v.lt
          replace hb := hb.eff hEx (by decide)
          replace hr := hr.eff hEx (by decide)
          replace hB := hEx.on hB
          replace hc := own_eff hc hEx (by decide)
          obtain ⟨wz8, hnw⟩ : ∃ x, Hid (x = wz2.alloc (.cells #[.string ⟨#[]⟩, (.slice none 0 0), (.slice none 0 0), (.slice none 0 0)] 28)) := ⟨_, rfl⟩
          obtain ⟨Bo, hnb⟩ : ∃ x, Hid (x = wz2.heap.size) := ⟨_, rfl⟩
          rw [← hnw.out] at hb hr hB hc hv ⊢
          rw [← hnb.out] at hv hBo ⊢
          clear hEx hsz hnw hnb
          refine hK.out _ _ hb (fun hHeld => ?_)
          clear hK KK
          try simp only [Act.put, List.setIfInBounds_toArray, List.set_cons_zero, List.set_cons_succ]
          refine wpAnyH_ready (rs := [6]) (by kernel_rfl) (by simp) ?_
          refine AllReadyH.cons rfl (fun KK hK => ?_) AllReadyH.nil
          go_simp
          have hsz := hB.size
          have hEx := Eff.alloc w 70 wz8 (.cells #[] 51)
          have hp := World.ownsRow_lit (base := w.heap.size) (e := 51) (size := 2) wz8 #[] 0 hsz (by unfold maxLen; omega) rfl
          replace hb := hb.eff hEx (by decide)
          replace hr := hr.eff hEx (by decide)
          replace hB := hEx.on hB
          replace hc := own_eff hc hEx (by decide)
          replace hv := hv.eff hEx (by decide)
          obtain ⟨wz9, hnw⟩ : ∃ x, Hid (x = wz8.alloc (.cells #[] 51)) := ⟨_, rfl⟩
          obtain ⟨b6, hnb⟩ : ∃ x, Hid (x = wz8.heap.size) := ⟨_, rfl⟩
          rw [← hnw.out] at hb hr hB hc hp hv ⊢
          rw [← hnb.out] at hp ⊢
          clear hEx hsz hnw hnb
          refine hK.out _ _ hb (fun hHeld => ?_)
          clear hK KK
          try simp only [Act.put, List.setIfInBounds_toArray, List.set_cons_zero, List.set_cons_succ]
          refine wpAnyH_ready (rs := [9]) (by kernel_rfl) (by simp) ?_
          refine AllReadyH.cons rfl (fun KK hK => ?_) AllReadyH.nil
          have hnn := bview_news (hBv.below hB)
          have hsz := hB.size
          rw [if_pos (by kernel_rfl)]
          refine wp_append_own _ (.tmp 12) (.tmp 14) 25 rfl w.heap.size 51 iB (.agg #[.int .i64 0, .bool false]) 2 16 Tryz.underlying25 hiB.1 hiB.2.1 hiB.2.2.1 hiB.2.2.2 rfl (by decide) _ 0 [] rfl hp ⟨bp, 0, none⟩ D.np cp _ rfl (lenB _) hnn (oneB9 _) (by unfold maxLen; omega) (by omega) hsz ?_
          intro vX wz10 hOX hgX hnX
          have hEx := Eff.grown hp hgX
          replace hb := hb.eff hEx (by decide)
          replace hr := hr.eff hEx (by decide)
          replace hB := hEx.on hB
          replace hc := own_eff hc hEx (by decide)
          replace hv := hv.eff hEx (by decide)
          obtain ⟨b9, c9, rfl, hOY⟩ := own_new9 hOX hnX (show Value.slice (some ⟨b6, 0, none⟩) 0 0 ≠ Value.slice none 0 0 by simp)
          clear hp
          have hp := hOY
          clear hEx hOX hgX hnX hOY hnn hsz
          refine hK.out _ _ hb (fun hHeld => ?_)
          clear hK KK
          change wpAnyH _ _ _ _ _ _ _ (Act.put _ (some 15) _) _
          try simp only [Act.put, List.setIfInBounds_toArray, List.set_cons_zero, List.set_cons_succ]
          refine' wpAnyH_take (i := 10) (v := _) rfl (by kernel_rfl) (by kernel_rfl) (by kernel_rfl) (fun _ _ _ h => h) (Or.inl ⟨by kernel_rfl, ?hdy9⟩) (by assumption) ?rdy9
          case hdy9 => intro W hW; obtain ⟨c0, c1, c2, c3⟩ := hW.v.cells; go_simp; all_goals with_reducible rfl
          change wpAnyH _ _ _ _ _ _ _ (Act.put _ (some 16) _) _
          simp only [Act.put, List.setIfInBounds_toArray, List.set_cons_zero, List.set_cons_succ]
          refine wpAnyH_ready (rs := [12]) (by kernel_rfl) (by simp) ?_
          refine AllReadyH.cons rfl (fun KK hK => ?_) AllReadyH.nil
          obtain ⟨k0, k1, k2, k3⟩ := hv.v.cells
          obtain ⟨z0, z1, z2, z3⟩ := hv.v.fz
          have q1 := hv.effSet 0 (.string D.name)
          have q2 := (hv.set0 (.string D.name)).effSet 1 (.slice (some ⟨b5, 0, none⟩) D.nc c5)
          have q3 := ((hv.set0 (.string D.name)).set1 (.slice (some ⟨b5, 0, none⟩) D.nc c5)).effSet 2 (.slice (some ⟨b9, 0, none⟩) D.np c9)
          have q4 := (((hv.set0 (.string D.name)).set1 (.slice (some ⟨b5, 0, none⟩) D.nc c5)).set2 (.slice (some ⟨b9, 0, none⟩) D.np c9)).effSet 3 (.slice none 0 0)
          have hEx := ((q1.trans q2).trans q3).trans q4
          have hB2 := hEx.on hB
          have hc2 := own_eff hc hEx (by decide)
          have hp2 := own_eff hp hEx (by decide)
          have hv2 := (((hv.set0 (.string D.name)).set1 (.slice (some ⟨b5, 0, none⟩) D.nc c5)).set2 (.slice (some ⟨b9, 0, none⟩) D.np c9)).set3 (.slice none 0 0)
          have hb2 := ((((hb.other (C := Bo) (i := 0) (u := .string D.name) (by omega)).other (C := Bo) (i := 1) (u := (.slice (some ⟨b5, 0, none⟩) D.nc c5)) (by omega)).other (C := Bo) (i := 2) (u := (.slice (some ⟨b9, 0, none⟩) D.np c9)) (by omega)).other (C := Bo) (i := 3) (u := (.slice none 0 0)) (by omega))
          have hr2 := ((((hr.other (C := Bo) (i := 0) (u := .string D.name) (by omega)).other (C := Bo) (i := 1) (u := (.slice (some ⟨b5, 0, none⟩) D.nc c5)) (by omega)).other (C := Bo) (i := 2) (u := (.slice (some ⟨b9, 0, none⟩) D.np c9)) (by omega)).other (C := Bo) (i := 3) (u := (.slice none 0 0)) (by omega))
          have HS : Hid (SC w Bo bc cc bp cp ia ic D 0 _) := ⟨b5, c5, b9, c9, (.slice none 0 0), fun _ => 0, fun _ => 0, ⟨_, _, _, rfl⟩, hBo, hB2, hb2, hr2, hv2, ⟨hc2, hp2, own_nil9, Pts.none _ _ _ _ _ _, sm_ni hsm (Nat.zero_le _)⟩⟩
          go_simp
          clear k0 k1 k2 k3 z0 z1 z2 z3 q1 q2 q3 q4 hEx hB2 hc2 hp2 hv2 hr2 hr hv hB hc hp
          refine hK.out _ _ hb2 (fun hHeld => ?_)
          clear hK KK
          try simp only [Act.put, List.setIfInBounds_toArray, List.set_cons_zero, List.set_cons_succ]
          refine wpAnyH_done (by kernel_rfl) ?_ _
          clear hHeld hb2 hb
          go_wp2_with fail
          go_meet
          exact ⟨Bo, rfl, HS.out⟩
      ·
        go_simp
        have hsz := hB.size
        have hEx := Eff.alloc w 70 wz1 (.cells #[] 51)
        have hp := World.ownsRow_lit (base := w.heap.size) (e := 51) (size := 2) wz1 #[] 0 hsz (by unfold maxLen; omega) rfl
        replace hb := hb.eff hEx (by decide)
        replace hr := hr.eff hEx (by decide)
        replace hB := hEx.on hB
        replace hc := own_eff hc hEx (by decide)
        obtain ⟨wz11, hnw⟩ : ∃ x, Hid (x = wz1.alloc (.cells #[] 51)) := ⟨_, rfl⟩
        obtain ⟨b6, hnb⟩ : ∃ x, Hid (x = wz1.heap.size) := ⟨_, rfl⟩
        rw [← hnw.out] at hb hr hB hc hp ⊢
        rw [← hnb.out] at hp ⊢
        clear hEx hsz hnw hnb
        refine hK.out _ _ hb (fun hHeld => ?_)
        clear hK KK
        try simp only [Act.put, List.setIfInBounds_toArray, List.set_cons_zero, List.set_cons_succ]
        refine wpAnyH_ready (rs := [5, 11]) (by kernel_rfl) (by simp) ?_
        refine AllReadyH.cons rfl (fun KK hK => ?_) (AllReadyH.cons rfl (fun KK hK => ?_) AllReadyH.nil)
        ·
          have hnn := cview_news (hCv.below hB)
          have hsz := hB.size
          rw [if_pos (by kernel_rfl)]
          refine wp_append_own _ (.tmp 8) (.tmp 10) 24 rfl w.heap.size 49 iC (.agg #[.string ⟨#[]⟩, .int .i64 0, .bool false]) 3 32 Tryz.underlying24 hiC.1 hiC.2.1 hiC.2.2.1 hiC.2.2.2 rfl (by decide) _ 0 [] rfl hc ⟨bc, 0, none⟩ D.nc cc _ rfl (lenC _) hnn (oneC _) (by unfold maxLen; omega) (by omega) hsz ?_
          intro vX wz12 hOX hgX hnX
          have hEx := Eff.grown hc hgX
          replace hb := hb.eff hEx (by decide)
          replace hr := hr.eff hEx (by decide)
          replace hB := hEx.on hB
          replace hp := own_eff hp hEx (by decide)
          obtain ⟨b5, c5, rfl, hOY⟩ := own_new9 hOX hnX (show Value.slice (some ⟨b2, 0, none⟩) 0 0 ≠ Value.slice none 0 0 by simp)
          clear hc
          have hc := hOY
          clear hEx hOX hgX hnX hOY hnn hsz
          refine hK.out _ _ hb (fun hHeld => ?_)
          clear hK KK
          change wpAnyH _ _ _ _ _ _ _ (Act.put _ (some 11) _) _
          try simp only [Act.put, List.setIfInBounds_toArray, List.set_cons_zero, List.set_cons_succ]
          refine wpAnyH_ready (rs := [9, 11]) (by kernel_rfl) (by simp) ?_
          refine AllReadyH.cons rfl (fun KK hK => ?_) (AllReadyH.cons rfl (fun KK hK => ?_) AllReadyH.nil)
          ·
            have hnn := bview_news (hBv.below hB)
            have hsz := hB.size
            rw [if_pos (by kernel_rfl)]
            refine wp_append_own _ (.tmp 12) (.tmp 14) 25 rfl w.heap.size 51 iB (.agg #[.int .i64 0, .bool false]) 2 16 Tryz.underlying25 hiB.1 hiB.2.1 hiB.2.2.1 hiB.2.2.2 rfl (by decide) _ 0 [] rfl hp ⟨bp, 0, none⟩ D.np cp _ rfl (lenB _) hnn (oneB9 _) (by unfold maxLen; omega) (by omega) hsz ?_
            intro vX wz13 hOX hgX hnX
            have hEx := Eff.grown hp hgX
            replace hb := hb.eff hEx (by decide)
            replace hr := hr.eff hEx (by decide)
            replace hB := hEx.on hB
            replace hc := own_eff hc hEx (by decide)
            obtain ⟨b9, c9, rfl, hOY⟩ := own_new9 hOX hnX (show Value.slice (some ⟨b6, 0, none⟩) 0 0 ≠ Value.slice none 0 0 by simp)
            clear hp
            have hp := hOY
            clear hEx hOX hgX hnX hOY hnn hsz
            refine hK.out _ _ hb (fun hHeld => ?_)
            clear hK KK
            change wpAnyH _ _ _ _ _ _ _ (Act.put _ (some 15) _) _
            try simp only [Act.put, List.setIfInBounds_toArray, List.set_cons_zero, List.set_cons_succ]
            refine' wpAnyH_take (i := 10) (v := _) rfl (by kernel_rfl) (by kernel_rfl) (by kernel_rfl) (fun _ _ _ h => h) (Or.inl ⟨by kernel_rfl, ?hdy10⟩) (by assumption) ?rdy10
            case hdy10 => intro W hW; obtain ⟨c0, c1, c2, c3⟩ := hW.v.cells; go_simp; all_goals with_reducible rfl
            change wpAnyH _ _ _ _ _ _ _ (Act.put _ (some 16) _) _
            simp only [Act.put, List.setIfInBounds_toArray, List.set_cons_zero, List.set_cons_succ]
            refine wpAnyH_ready (rs := [11]) (by kernel_rfl) (by simp) ?_
            refine AllReadyH.cons rfl (fun KK hK => ?_) AllReadyH.nil
            go_simp
            have hsz := hB.size
            have hEx := Eff.alloc w 70 wz13 (.cells #[.string ⟨#[]⟩, (.slice none 0 0), (.slice none 0 0), (.slice none 0 0)] 28)
            have hv := Vd.new (w := w) (W := wz13) hsz (.string ⟨#[]⟩) (.slice none 0 0) (.slice none 0 0) (.slice none 0 0)
            have hBo := hr.v.lt
            replace hb := hb.eff hEx (by decide)
            replace hr := hr.eff hEx (by decide)
            replace hB := hEx.on hB
            replace hc := own_eff hc hEx (by decide)
            replace hp := own_eff hp hEx (by decide)
            obtain ⟨wz14, hnw⟩ : ∃ x, Hid (x = wz13.alloc (.cells #[.string ⟨#[]⟩, (.slice none 0 0), (.slice none 0 0), (.slice none 0 0)] 28)) := ⟨_, rfl⟩
            obtain ⟨Bo, hnb⟩ : ∃ x, Hid (x = wz13.heap.size) := ⟨_, rfl⟩
            rw [← hnw.out] at hb hr hB hc hp hv ⊢
            rw [← hnb.out] at hv hBo ⊢
            clear hEx hsz hnw hnb
            refine hK.out _ _ hb (fun hHeld => ?_)
            clear hK KK
            try simp only [Act.put, List.setIfInBounds_toArray, List.set_cons_zero, List.set_cons_succ]
            refine wpAnyH_ready (rs := [12]) (by kernel_rfl) (by simp) ?_
            refine AllReadyH.cons rfl (fun KK hK => ?_) AllReadyH.nil
            obtain ⟨k0, k1, k2, k3⟩ := hv.v.cells
            obtain ⟨z0, z1, z2, z3⟩ := hv.v.fz
            have q1 := hv.effSet 0 (.string D.name)
            have q2 := (hv.set0 (.string D.name)).effSet 1 (.slice (some ⟨b5, 0, none⟩) D.nc c5)
            have q3 := ((hv.set0 (.string D.name)).set1 (.slice (some ⟨b5, 0, none⟩) D.nc c5)).effSet 2 (.slice (some ⟨b9, 0, none⟩) D.np c9)
            have q4 := (((hv.set0 (.string D.name)).set1 (.slice (some ⟨b5, 0, none⟩) D.nc c5)).set2 (.slice (some ⟨b9, 0, none⟩) D.np c9)).effSet 3 (.slice none 0 0)
            have hEx := ((q1.trans q2).trans q3).trans q4
            have hB2 := hEx.on hB
            have hc2 := own_eff hc hEx (by decide)
            have hp2 := own_eff hp hEx (by decide)
            have hv2 := (((hv.set0 (.string D.name)).set1 (.slice (some ⟨b5, 0, none⟩) D.nc c5)).set2 (.slice (some ⟨b9, 0, none⟩) D.np c9)).set3 (.slice none 0 0)
            have hb2 := ((((hb.other (C := Bo) (i := 0) (u := .string D.name) (by omega)).other (C := Bo) (i := 1) (u := (.slice (some ⟨b5, 0, none⟩) D.nc c5)) (by omega)).other (C := Bo) (i := 2) (u := (.slice (some ⟨b9, 0, none⟩) D.np c9)) (by omega)).other (C := Bo) (i := 3) (u := (.slice none 0 0)) (by omega))
            have hr2 := ((((hr.other (C := Bo) (i := 0) (u := .string D.name) (by omega)).other (C := Bo) (i := 1) (u := (.slice (some ⟨b5, 0, none⟩) D.nc c5)) (by omega)).other (C := Bo) (i := 2) (u := (.slice (some ⟨b9, 0, none⟩) D.np c9)) (by omega)).other (C := Bo) (i := 3) (u := (.slice none 0 0)) (by omega))
            have HS : Hid (SC w Bo bc cc bp cp ia ic D 0 _) := ⟨b5, c5, b9, c9, (.slice none 0 0), fun _ => 0, fun _ => 0, ⟨_, _, _, rfl⟩, hBo, hB2, hb2, hr2, hv2, ⟨hc2, hp2, own_nil9, Pts.none _ _ _ _ _ _, sm_ni hsm (Nat.zero_le _)⟩⟩
            go_simp
            clear k0 k1 k2 k3 z0 z1 z2 z3 q1 q2 q3 q4 hEx hB2 hc2 hp2 hv2 hr2 hr hv hB hc hp
            refine hK.out _ _ hb2 (fun hHeld => ?_)
            clear hK KK
            try simp only [Act.put, List.setIfInBounds_toArray, List.set_cons_zero, List.set_cons_succ]
            refine wpAnyH_done (by kernel_rfl) ?_ _
            clear hHeld hb2 hb
            go_wp2_with fail
            go_meet
            exact ⟨Bo, rfl, HS.out⟩
          ·
            go_simp
            have hsz := hB.size
            have hEx := Eff.alloc w 70 wz12 (.cells #[.string ⟨#[]⟩, (.slice none 0 0), (.slice none 0 0), (.slice none 0 0)] 28)
            have hv := Vd.new (w := w) (W := wz12) hsz (.string ⟨#[]⟩) (.slice none 0 0) (.slice none 0 0) (.slice none 0 0)
            have hBo := hr.v.lt
            replace hb := hb.eff hEx (by decide)
            replace hr := hr.eff hEx (by decide)
            replace hB := hEx.on hB
            replace hc := own_eff hc hEx (by decide)
            replace hp := own_eff hp hEx (by decide)
            obtain ⟨wz15, hnw⟩ : ∃ x, Hid (x = wz12.alloc (.cells #[.string ⟨#[]⟩, (.slice none 0 0), (.slice none 0 0), (.slice none 0 0)] 28)) := ⟨_, rfl⟩
            obtain ⟨Bo, hnb⟩ : ∃ x, Hid (x = wz12.heap.size) := ⟨_, rfl⟩
            rw [← hnw.out] at hb hr hB hc hp hv ⊢
            rw [← hnb.out] at hv hBo ⊢
            clear hEx hsz hnw hnb
            refine hK.out _ _ hb (fun hHeld => ?_)
            clear hK KK
            try simp only [Act.put, List.setIfInBounds_toArray, List.set_cons_zero, List.set_cons_succ]
            refine wpAnyH_ready (rs := [9]) (by kernel_rfl) (by simp) ?_
            refine AllReadyH.cons rfl (fun KK hK => ?_) AllReadyH.nil
            have hnn := bview_news (hBv.below hB)
            have hsz := hB.size
            rw [if_pos (by kernel_rfl)]
            refine wp_append_own _ (.tmp 12) (.tmp 14) 25 rfl w.heap.size 51 iB (.agg #[.int .i64 0, .bool false]) 2 16 Tryz.underlying25 hiB.1 hiB.2.1 hiB.2.2.1 hiB.2.2.2 rfl (by decide) _ 0 [] rfl hp ⟨bp, 0, none⟩ D.np cp _ rfl (lenB _) hnn (oneB9 _) (by unfold maxLen; omega) (by omega) hsz ?_
            intro vX wz16 hOX hgX hnX
            have hEx := Eff.grown hp hgX
            replace hb := hb.eff hEx (by decide)
            replace hr := hr.eff hEx (by decide)
            replace hB := hEx.on hB
            replace hc := own_eff hc hEx (by decide)
            replace hv := hv.eff hEx (by decide)
            obtain ⟨b9, c9, rfl, hOY⟩ := own_new9 hOX hnX (show Value.slice (some ⟨b6, 0, none⟩) 0 0 ≠ Value.slice none 0 0 by simp)
            clear hp
            have hp := hOY
            clear hEx hOX hgX hnX hOY hnn hsz
            refine hK.out _ _ hb (fun hHeld => ?_)
            clear hK KK
            change wpAnyH _ _ _ _ _ _ _ (Act.put _ (some 15) _) _
            try simp only [Act.put, List.setIfInBounds_toArray, List.set_cons_zero, List.set_cons_succ]
            refine' wpAnyH_take (i := 10) (v := _) rfl (by kernel_rfl) (by kernel_rfl) (by kernel_rfl) (fun _ _ _ h => h) (Or.inl ⟨by kernel_rfl, ?hdy11⟩) (by assumption) ?rdy11
            case hdy11 => intro W hW; obtain ⟨c0, c1, c2, c3⟩ := hW.v.cells; go_simp; all_goals with_reducible rfl
            change wpAnyH _ _ _ _ _ _ _ (Act.put _ (some 16) _) _
            simp only [Act.put, List.setIfInBounds_toArray, List.set_cons_zero, List.set_cons_succ]
            refine wpAnyH_ready (rs := [12]) (by kernel_rfl) (by simp) ?_
            refine AllReadyH.cons rfl (fun KK hK => ?_) AllReadyH.nil
            obtain ⟨k0, k1, k2, k3⟩ := hv.v.cells
            obtain ⟨z0, z1, z2, z3⟩ := hv.v.fz
            have q1 := hv.effSet 0 (.string D.name)
            have q2 := (hv.set0 (.string D.name)).effSet 1 (.slice (some ⟨b5, 0, none⟩) D.nc c5)
            have q3 := ((hv.set0 (.string D.name)).set1 (.slice (some ⟨b5, 0, none⟩) D.nc c5)).effSet 2 (.slice (some ⟨b9, 0, none⟩) D.np c9)
            have q4 := (((hv.set0 (.string D.name)).set1 (.slice (some ⟨b5, 0, none⟩) D.nc c5)).set2 (.slice (some ⟨b9, 0, none⟩) D.np c9)).effSet 3 (.slice none 0 0)
            have hEx := ((q1.trans q2).trans q3).trans q4
            have hB2 := hEx.on hB
            have hc2 := own_eff hc hEx (by decide)
            have hp2 := own_eff hp hEx (by decide)
            have hv2 := (((hv.set0 (.string D.name)).set1 (.slice (some ⟨b5, 0, none⟩) D.nc c5)).set2 (.slice (some ⟨b9, 0, none⟩) D.np c9)).set3 (.slice none 0 0)
            have hb2 := ((((hb.other (C := Bo) (i := 0) (u := .string D.name) (by omega)).other (C := Bo) (i := 1) (u := (.slice (some ⟨b5, 0, none⟩) D.nc c5)) (by omega)).other (C := Bo) (i := 2) (u := (.slice (some ⟨b9, 0, none⟩) D.np c9)) (by omega)).other (C := Bo) (i := 3) (u := (.slice none 0 0)) (by omega))
            have hr2 := ((((hr.other (C := Bo) (i := 0) (u := .string D.name) (by omega)).other (C := Bo) (i := 1) (u := (.slice (some ⟨b5, 0, none⟩) D.nc c5)) (by omega)).other (C := Bo) (i := 2) (u := (.slice (some ⟨b9, 0, none⟩) D.np c9)) (by omega)).other (C := Bo) (i := 3) (u := (.slice none 0 0)) (by omega))
            have HS : Hid (SC w Bo bc cc bp cp ia ic D 0 _) := ⟨b5, c5, b9, c9, (.slice none 0 0), fun _ => 0, fun _ => 0, ⟨_, _, _, rfl⟩, hBo, hB2, hb2, hr2, hv2, ⟨hc2, hp2, own_nil9, Pts.none _ _ _ _ _ _, sm_ni hsm (Nat.zero_le _)⟩⟩
            go_simp
            clear k0 k1 k2 k3 z0 z1 z2 z3 q1 q2 q3 q4 hEx hB2 hc2 hp2 hv2 hr2 hr hv hB hc hp
            refine hK.out _ _ hb2 (fun hHeld => ?_)
            clear hK KK
            try simp only [Act.put, List.setIfInBounds_toArray, List.set_cons_zero, List.set_cons_succ]
            refine wpAnyH_done (by kernel_rfl) ?_ _
            clear hHeld hb2 hb
            go_wp2_with fail
            go_meet
            exact ⟨Bo, rfl, HS.out⟩
        ·
          go_simp
          have hsz := hB.size
          have hEx := Eff.alloc w 70 wz11 (.cells #[.string ⟨#[]⟩, (.slice none 0 0), (.slice none 0 0), (.slice none 0 0)] 28)
          have hv := Vd.new (w := w) (W := wz11) hsz (.string ⟨#[]⟩) (.slice none 0 0) (.slice none 0 0) (.slice none 0 0)
          have hBo := hr.v.lt
          replace hb := hb.eff hEx (by decide)
          replace hr := hr.eff hEx (by decide)
          replace hB := hEx.on hB
          replace hc := own_eff hc hEx (by decide)
          replace hp := own_eff hp hEx (by decide)
          obtain ⟨wz17, hnw⟩ : ∃ x, Hid (x = wz11.alloc (.cells #[.string ⟨#[]⟩, (.slice none 0 0), (.slice none 0 0), (.slice none 0 0)] 28)) := ⟨_, rfl⟩
          obtain ⟨Bo, hnb⟩ : ∃ x, Hid (x = wz11.heap.size) := ⟨_, rfl⟩
          rw [← hnw.out] at hb hr hB hc hp hv ⊢
          rw [← hnb.out] at hv hBo ⊢
          clear hEx hsz hnw hnb
          refine hK.out _ _ hb (fun hHeld => ?_)
          clear hK KK
          try simp only [Act.put, List.setIfInBounds_toArray, List.set_cons_zero, List.set_cons_succ]
          refine wpAnyH_ready (rs := [5]) (by kernel_rfl) (by simp) ?_
          refine AllReadyH.cons rfl (fun KK hK => ?_) AllReadyH.nil
          have hnn := cview_news (hCv.below hB)
          have hsz := hB.size
          rw [if_pos (by kernel_rfl)]
          refine wp_append_own _ (.tmp 8) (.tmp 10) 24 rfl w.heap.size 49 iC (.agg #[.string ⟨#[]⟩, .int .i64 0, .bool false]) 3 32 Tryz.underlying24 hiC.1 hiC.2.1 hiC.2.2.1 hiC.2.2.2 rfl (by decide) _ 0 [] rfl hc ⟨bc, 0, none⟩ D.nc cc _ rfl (lenC _) hnn (oneC _) (by unfold maxLen; omega) (by omega) hsz ?_
          intro vX wz18 hOX hgX hnX
          have hEx := Eff.grown hc hgX
          replace hb := hb.eff hEx (by decide)
          replace hr := hr.eff hEx (by decide)
          replace hB := hEx.on hB
          replace hp := own_eff hp hEx (by decide)
          replace hv := hv.eff hEx (by decide)
          obtain ⟨b5, c5, rfl, hOY⟩ := own_new9 hOX hnX (show Value.slice (some ⟨b2, 0, none⟩) 0 0 ≠ Value.slice none 0 0 by simp)
          clear hc
          have hc := hOY
          clear hEx hOX hgX hnX hOY hnn hsz
          refine hK.out _ _ hb (fun hHeld => ?_)
          clear hK KK
          change wpAnyH _ _ _ _ _ _ _ (Act.put _ (some 11) _) _
          try simp only [Act.put, List.setIfInBounds_toArray, List.set_cons_zero, List.set_cons_succ]
          refine wpAnyH_ready (rs := [9]) (by kernel_rfl) (by simp) ?_
          refine AllReadyH.cons rfl (fun KK hK => ?_) AllReadyH.nil
          have hnn := bview_news (hBv.below hB)
          have hsz := hB.size
          rw [if_pos (by kernel_rfl)]
          refine wp_append_own _ (.tmp 12) (.tmp 14) 25 rfl w.heap.size 51 iB (.agg #[.int .i64 0, .bool false]) 2 16 Tryz.underlying25 hiB.1 hiB.2.1 hiB.2.2.1 hiB.2.2.2 rfl (by decide) _ 0 [] rfl hp ⟨bp, 0, none⟩ D.np cp _ rfl (lenB _) hnn (oneB9 _) (by unfold maxLen; omega) (by omega) hsz ?_
          intro vX wz19 hOX hgX hnX
          have hEx := Eff.grown hp hgX
          replace hb := hb.eff hEx (by decide)
          replace hr := hr.eff hEx (by decide)
          replace hB := hEx.on hB
          replace hc := own_eff hc hEx (by decide)
          replace hv := hv.eff hEx (by decide)
          obtain ⟨b9, c9, rfl, hOY⟩ := own_new9 hOX hnX (show Value.slice (some ⟨b6, 0, none⟩) 0 0 ≠ Value.slice none 0 0 by simp)
          clear hp
          have hp := hOY
          clear hEx hOX hgX hnX hOY hnn hsz
          refine hK.out _ _ hb (fun hHeld => ?_)
          clear hK KK
          change wpAnyH _ _ _ _ _ _ _ (Act.put _ (some 15) _) _
          try simp only [Act.put, List.setIfInBounds_toArray, List.set_cons_zero, List.set_cons_succ]
          refine' wpAnyH_take (i := 10) (v := _) rfl (by kernel_rfl) (by kernel_rfl) (by kernel_rfl) (fun _ _ _ h => h) (Or.inl ⟨by kernel_rfl, ?hdy12⟩) (by assumption) ?rdy12
          case hdy12 => intro W hW; obtain ⟨c0, c1, c2, c3⟩ := hW.v.cells; go_simp; all_goals with_reducible rfl
          change wpAnyH _ _ _ _ _ _ _ (Act.put _ (some 16) _) _
          simp only [Act.put, List.setIfInBounds_toArray, List.set_cons_zero, List.set_cons_succ]
          refine wpAnyH_ready (rs := [12]) (by kernel_rfl) (by simp) ?_
          refine AllReadyH.cons rfl (fun KK hK => ?_) AllReadyH.nil
          obtain ⟨k0, k1, k2, k3⟩ := hv.v.cells
          obtain ⟨z0, z1, z2, z3⟩ := hv.v.fz
          have q1 := hv.effSet 0 (.string D.name)
          have q2 := (hv.set0 (.string D.name)).effSet 1 (.slice (some ⟨b5, 0, none⟩) D.nc c5)
          have q3 := ((hv.set0 (.string D.name)).set1 (.slice (some ⟨b5, 0, none⟩) D.nc c5)).effSet 2 (.slice (some ⟨b9, 0, none⟩) D.np c9)
          have q4 := (((hv.set0 (.string D.name)).set1 (.slice (some ⟨b5, 0, none⟩) D.nc c5)).set2 (.slice (some ⟨b9, 0, none⟩) D.np c9)).effSet 3 (.slice none 0 0)
          have hEx := ((q1.trans q2).trans q3).trans q4
          have hB2 := hEx.on hB
          have hc2 := own_eff hc hEx (by decide)
          have hp2 := own_eff hp hEx (by decide)
          have hv2 := (((hv.set0 (.string D.name)).set1 (.slice (some ⟨b5, 0, none⟩) D.nc c5)).set2 (.slice (some ⟨b9, 0, none⟩) D.np c9)).set3 (.slice none 0 0)
          have hb2 := ((((hb.other (C := Bo) (i := 0) (u := .string D.name) (by omega)).other (C := Bo) (i := 1) (u := (.slice (some ⟨b5, 0, none⟩) D.nc c5)) (by omega)).other (C := Bo) (i := 2) (u := (.slice (some ⟨b9, 0, none⟩) D.np c9)) (by omega)).other (C := Bo) (i := 3) (u := (.slice none 0 0)) (by omega))
          have hr2 := ((((hr.other (C := Bo) (i := 0) (u := .string D.name) (by omega)).other (C := Bo) (i := 1) (u := (.slice (some ⟨b5, 0, none⟩) D.nc c5)) (by omega)).other (C := Bo) (i := 2) (u := (.slice (some ⟨b9, 0, none⟩) D.np c9)) (by omega)).other (C := Bo) (i := 3) (u := (.slice none 0 0)) (by omega))
          have HS : Hid (SC w Bo bc cc bp cp ia ic D 0 _) := ⟨b5, c5, b9, c9, (.slice none 0 0), fun _ => 0, fun _ => 0, ⟨_, _, _, rfl⟩, hBo, hB2, hb2, hr2, hv2, ⟨hc2, hp2, own_nil9, Pts.none _ _ _ _ _ _, sm_ni hsm (Nat.zero_le _)⟩⟩
          go_simp
          clear k0 k1 k2 k3 z0 z1 z2 z3 q1 q2 q3 q4 hEx hB2 hc2 hp2 hv2 hr2 hr hv hB hc hp
          refine hK.out _ _ hb2 (fun hHeld => ?_)
          clear hK KK
          try simp only [Act.put, List.setIfInBounds_toArray, List.set_cons_zero, List.set_cons_succ]
          refine wpAnyH_done (by kernel_rfl) ?_ _
          clear hHeld hb2 hb
          go_wp2_with fail
          go_meet
          exact ⟨Bo, rfl, HS.out⟩
      ·
        go_simp
        have hsz := hB.size
        have hEx := Eff.alloc w 70 wz1 (.cells #[.string ⟨#[]⟩, (.slice none 0 0), (.slice none 0 0), (.slice none 0 0)] 28)
        have hv := Vd.new (w := w) (W := wz1) hsz (.string ⟨#[]⟩) (.slice none 0 0) (.slice none 0 0) (.slice none 0 0)
        have hBo := hr.v.lt
        replace hb := hb.eff hEx (by decide)
        replace hr := hr.eff hEx (by decide)
        replace hB := hEx.on hB
        replace hc := own_eff hc hEx (by decide)
        obtain ⟨wz20, hnw⟩ : ∃ x, Hid (x = wz1.alloc (.cells #[.string ⟨#[]⟩, (.slice none 0 0), (.slice none 0 0), (.slice none 0 0)] 28)) := ⟨_, rfl⟩
        obtain ⟨Bo, hnb⟩ : ∃ x, Hid (x = wz1.heap.size) := ⟨_, rfl⟩
        rw [← hnw.out] at hb hr hB hc hv ⊢
        rw [← hnb.out] at hv hBo ⊢
        clear hEx hsz hnw hnb
        refine hK.out _ _ hb (fun hHeld => ?_)
        clear hK KK
        try simp only [Act.put, List.setIfInBounds_toArray, List.set_cons_zero, List.set_cons_succ]
        refine wpAnyH_ready (rs := [5, 6]) (by kernel_rfl) (by simp) ?_
        refine AllReadyH.cons rfl (fun KK hK => ?_) (AllReadyH.cons rfl (fun KK hK => ?_) AllReadyH.nil)
        ·
          have hnn := cview_news (hCv.below hB)
          have hsz := hB.size
          rw [if_pos (by kernel_rfl)]
          refine wp_append_own _ (.tmp 8) (.tmp 10) 24 rfl w.heap.size 49 iC (.agg #[.string ⟨#[]⟩, .int .i64 0, .bool false]) 3 32 Tryz.underlying24 hiC.1 hiC.2.1 hiC.2.2.1 hiC.2.2.2 rfl (by decide) _ 0 [] rfl hc ⟨bc, 0, none⟩ D.nc cc _ rfl (lenC _) hnn (oneC _) (by unfold maxLen; omega) (by omega) hsz ?_
          intro vX wz21 hOX hgX hnX
          have hEx := Eff.grown hc hgX
          replace hb := hb.eff hEx (by decide)
          replace hr := hr.eff hEx (by decide)
          replace hB := hEx.on hB
          replace hv := hv.eff hEx (by decide)
          obtain ⟨b5, c5, rfl, hOY⟩ := own_new9 hOX hnX (show Value.slice (some ⟨b2, 0, none⟩) 0 0 ≠ Value.slice none 0 0 by simp)
          clear hc
          have hc := hOY
          clear hEx hOX hgX hnX hOY hnn hsz
          refine hK.out _ _ hb (fun hHeld => ?_)
          clear hK KK
          change wpAnyH _ _ _ _ _ _ _ (Act.put _ (some 11) _) _
          try simp only [Act.put, List.setIfInBounds_toArray, List.set_cons_zero, List.set_cons_succ]
          refine wpAnyH_ready (rs := [6]) (by kernel_rfl) (by simp) ?_
          refine AllReadyH.cons rfl (fun KK hK => ?_) AllReadyH.nil
          go_simp
          have hsz := hB.size
          have hEx := Eff.alloc w 70 wz21 (.cells #[] 51)
          have hp := World.ownsRow_lit (base := w.heap.size) (e := 51) (size := 2) wz21 #[] 0 hsz (by unfold maxLen; omega) rfl
          replace hb := hb.eff hEx (by decide)
          replace hr := hr.eff hEx (by decide)
          replace hB := hEx.on hB
          replace hc := own_eff hc hEx (by decide)
          replace hv := hv.eff hEx (by decide)
          obtain ⟨wz22, hnw⟩ : ∃ x, Hid (x = wz21.alloc (.cells #[] 51)) := ⟨_, rfl⟩
          obtain ⟨b6, hnb⟩ : ∃ x, Hid (x = wz21.heap.size) := ⟨_, rfl⟩
          rw [← hnw.out] at hb hr hB hc hp hv ⊢
          rw [← hnb.out] at hp ⊢
          clear hEx hsz hnw hnb
          refine hK.out _ _ hb (fun hHeld => ?_)
          clear hK KK
          try simp only [Act.put, List.setIfInBounds_toArray, List.set_cons_zero, List.set_cons_succ]
          refine wpAnyH_ready (rs := [9]) (by kernel_rfl) (by simp) ?_
          refine AllReadyH.cons rfl (fun KK hK => ?_) AllReadyH.nil
          have hnn := bview_news (hBv.below hB)
          have hsz := hB.size
          rw [if_pos (by kernel_rfl)]
          refine wp_append_own _ (.tmp 12) (.tmp 14) 25 rfl w.heap.size 51 iB (.agg #[.int .i64 0, .bool false]) 2 16 Tryz.underlying25 hiB.1 hiB.2.1 hiB.2.2.1 hiB.2.2.2 rfl (by decide) _ 0 [] rfl hp ⟨bp, 0, none⟩ D.np cp _ rfl (lenB _) hnn (oneB9 _) (by unfold maxLen; omega) (by omega) hsz ?_
          intro vX wz23 hOX hgX hnX
          have hEx := Eff.grown hp hgX
          replace hb := hb.eff hEx (by decide)
          replace hr := hr.eff hEx (by decide)
          replace hB := hEx.on hB
          replace hc := own_eff hc hEx (by decide)
          replace hv := hv.eff hEx (by decide)
          obtain ⟨b9, c9, rfl, hOY⟩ := own_new9 hOX hnX (show Value.slice (some ⟨b6, 0, none⟩) 0 0 ≠ Value.slice none 0 0 by simp)
          clear hp
          have hp := hOY
          clear hEx hOX hgX hnX hOY hnn hsz
          refine hK.out _ _ hb (fun hHeld => ?_)
          clear hK KK
          change wpAnyH _ _ _ _ _ _ _ (Act.put _ (some 15) _) _
          try simp only [Act.put, List.setIfInBounds_toArray, List.set_cons_zero, List.set_cons_succ]
          refine' wpAnyH_take (i := 10) (v := _) rfl (by kernel_rfl) (by kernel_rfl) (by kernel_rfl) (fun _ _ _ h => h) (Or.inl ⟨by kernel_rfl, ?hdy13⟩) (by assumption) ?rdy13
          case hdy13 => intro W hW; obtain ⟨c0, c1, c2, c3⟩ := hW.v.cells; go_simp; all_goals with_reducible rfl
          change wpAnyH _ _ _ _ _ _ _ (Act.put _ (some 16) _) _
          simp only [Act.put, List.setIfInBounds_toArray, List.set_cons_zero, List.set_cons_succ]
          refine wpAnyH_ready (rs := [12]) (by kernel_rfl) (by simp) ?_
          refine AllReadyH.cons rfl (fun KK hK => ?_) AllReadyH.nil
          obtain ⟨k0, k1, k2, k3⟩ := hv.v.cells
          obtain ⟨z0, z1, z2, z3⟩ := hv.v.fz
          have q1 := hv.effSet 0 (.string D.name)
          have q2 := (hv.set0 (.string D.name)).effSet 1 (.slice (some ⟨b5, 0, none⟩) D.nc c5)
          have q3 := ((hv.set0 (.string D.name)).set1 (.slice (some ⟨b5, 0, none⟩) D.nc c5)).effSet 2 (.slice (some ⟨b9, 0, none⟩) D.np c9)
          have q4 := (((hv.set0 (.string D.name)).set1 (.slice (some ⟨b5, 0, none⟩) D.nc c5)).set2 (.slice (some ⟨b9, 0, none⟩) D.np c9)).effSet 3 (.slice none 0 0)
          have hEx := ((q1.trans q2).trans q3).trans q4
          have hB2 := hEx.on hB
          have hc2 := own_eff hc hEx (by decide)
          have hp2 := own_eff hp hEx (by decide)
          have hv2 := (((hv.set0 (.string D.name)).set1 (.slice (some ⟨b5, 0, none⟩) D.nc c5)).set2 (.slice (some ⟨b9, 0, none⟩) D.np c9)).set3 (.slice none 0 0)
          have hb2 := ((((hb.other (C := Bo) (i := 0) (u := .string D.name) (by omega)).other (C := Bo) (i := 1) (u := (.slice (some ⟨b5, 0, none⟩) D.nc c5)) (by omega)).other (C := Bo) (i := 2) (u := (.slice (some ⟨b9, 0, none⟩) D.np c9)) (by omega)).other (C := Bo) (i := 3) (u := (.slice none 0 0)) (by omega))
          have hr2 := ((((hr.other (C := Bo) (i := 0) (u := .string D.name) (by omega)).other (C := Bo) (i := 1) (u := (.slice (some ⟨b5, 0, none⟩) D.nc c5)) (by omega)).other (C := Bo) (i := 2) (u := (.slice (some ⟨b9, 0, none⟩) D.np c9)) (by omega)).other (C := Bo) (i := 3) (u := (.slice none 0 0)) (by omega))
          have HS : Hid (SC w Bo bc cc bp cp ia ic D 0 _) := ⟨b5, c5, b9, c9, (.slice none 0 0), fun _ => 0, fun _ => 0, ⟨_, _, _, rfl⟩, hBo, hB2, hb2, hr2, hv2, ⟨hc2, hp2, own_nil9, Pts.none _ _ _ _ _ _, sm_ni hsm (Nat.zero_le _)⟩⟩
          go_simp
          clear k0 k1 k2 k3 z0 z1 z2 z3 q1 q2 q3 q4 hEx hB2 hc2 hp2 hv2 hr2 hr hv hB hc hp
          refine hK.out _ _ hb2 (fun hHeld => ?_)
          clear hK KK
          try simp only [Act.put, List.setIfInBounds_toArray, List.set_cons_zero, List.set_cons_succ]
          refine wpAnyH_done (by kernel_rfl) ?_ _
          clear hHeld hb2 hb
          go_wp2_with fail
          go_meet
          exact ⟨Bo, rfl, HS.out⟩
        ·
          go_simp
          have hsz := hB.size
          have hEx := Eff.alloc w 70 wz20 (.cells #[] 51)
          have hp := World.ownsRow_lit (base := w.heap.size) (e := 51) (size := 2) wz20 #[] 0 hsz (by unfold maxLen; omega) rfl
          replace hb := hb.eff hEx (by decide)
          replace hr := hr.eff hEx (by decide)
          replace hB := hEx.on hB
          replace hc := own_eff hc hEx (by decide)
          replace hv := hv.eff hEx (by decide)
          obtain ⟨wz24, hnw⟩ : ∃ x, Hid (x = wz20.alloc (.cells #[] 51)) := ⟨_, rfl⟩
          obtain ⟨b6, hnb⟩ : ∃ x, Hid (x = wz20.heap.size) := ⟨_, rfl⟩
          rw [← hnw.out] at hb hr hB hc hp hv ⊢
          rw [← hnb.out] at hp ⊢
          clear hEx hsz hnw hnb
          refine hK.out _ _ hb (fun hHeld => ?_)
          clear hK KK
          try simp only [Act.put, List.setIfInBounds_toArray, List.set_cons_zero, List.set_cons_succ]
          refine wpAnyH_ready (rs := [5]) (by kernel_rfl) (by simp) ?_
          refine AllReadyH.cons rfl (fun KK hK => ?_) AllReadyH.nil
          have hnn := cview_news (hCv.below hB)
          have hsz := hB.size
          rw [if_pos (by kernel_rfl)]
          refine wp_append_own _ (.tmp 8) (.tmp 10) 24 rfl w.heap.size 49 iC (.agg #[.string ⟨#[]⟩, .int .i64 0, .bool false]) 3 32 Tryz.underlying24 hiC.1 hiC.2.1 hiC.2.2.1 hiC.2.2.2 rfl (by decide) _ 0 [] rfl hc ⟨bc, 0, none⟩ D.nc cc _ rfl (lenC _) hnn (oneC _) (by unfold maxLen; omega) (by omega) hsz ?_
          intro vX wz25 hOX hgX hnX
          have hEx := Eff.grown hc hgX
          replace hb := hb.eff hEx (by decide)
          replace hr := hr.eff hEx (by decide)
          replace hB := hEx.on hB
          replace hp := own_eff hp hEx (by decide)
          replace hv := hv.eff hEx (by decide)
          obtain ⟨b5, c5, rfl, hOY⟩ := own_new9 hOX hnX (show Value.slice (some ⟨b2, 0, none⟩) 0 0 ≠ Value.slice none 0 0 by simp)
          clear hc
          have hc := hOY
          clear hEx hOX hgX hnX hOY hnn hsz
          refine hK.out _ _ hb (fun hHeld => ?_)
          clear hK KK
          change wpAnyH _ _ _ _ _ _ _ (Act.put _ (some 11) _) _
          try simp only [Act.put, List.setIfInBounds_toArray, List.set_cons_zero, List.set_cons_succ]
          refine wpAnyH_ready (rs := [9]) (by kernel_rfl) (by simp) ?_
          refine AllReadyH.cons rfl (fun KK hK => ?_) AllReadyH.nil
          have hnn := bview_news (hBv.below hB)
          have hsz := hB.size
          rw [if_pos (by kernel_rfl)]
          refine wp_append_own _ (.tmp 12) (.tmp 14) 25 rfl w.heap.size 51 iB (.agg #[.int .i64 0, .bool false]) 2 16 Tryz.underlying25 hiB.1 hiB.2.1 hiB.2.2.1 hiB.2.2.2 rfl (by decide) _ 0 [] rfl hp ⟨bp, 0, none⟩ D.np cp _ rfl (lenB _) hnn (oneB9 _) (by unfold maxLen; omega) (by omega) hsz ?_
          intro vX wz26 hOX hgX hnX
          have hEx := Eff.grown hp hgX
          replace hb := hb.eff hEx (by decide)
          replace hr := hr.eff hEx (by decide)
          replace hB := hEx.on hB
          replace hc := own_eff hc hEx (by decide)
          replace hv := hv.eff hEx (by decide)
          obtain ⟨b9, c9, rfl, hOY⟩ := own_new9 hOX hnX (show Value.slice (some ⟨b6, 0, none⟩) 0 0 ≠ Value.slice none 0 0 by simp)
          clear hp
          have hp := hOY
          clear hEx hOX hgX hnX hOY hnn hsz
          refine hK.out _ _ hb (fun hHeld => ?_)
          clear hK KK
          change wpAnyH _ _ _ _ _ _ _ (Act.put _ (some 15) _) _
          try simp only [Act.put, List.setIfInBounds_toArray, List.set_cons_zero, List.set_cons_succ]
          refine' wpAnyH_take (i := 10) (v := _) rfl (by kernel_rfl) (by kernel_rfl) (by kernel_rfl) (fun _ _ _ h => h) (Or.inl ⟨by kernel_rfl, ?hdy14⟩) (by assumption) ?rdy14
          case hdy14 => intro W hW; obtain ⟨c0, c1, c2, c3⟩ := hW.v.cells; go_simp; all_goals with_reducible rfl
          change wpAnyH _ _ _ _ _ _ _ (Act.put _ (some 16) _) _
          simp only [Act.put, List.setIfInBounds_toArray, List.set_cons_zero, List.set_cons_succ]
          refine wpAnyH_ready (rs := [12]) (by kernel_rfl) (by simp) ?_
          refine AllReadyH.cons rfl (fun KK hK => ?_) AllReadyH.nil
          obtain ⟨k0, k1, k2, k3⟩ := hv.v.cells
          obtain ⟨z0, z1, z2, z3⟩ := hv.v.fz
          have q1 := hv.effSet 0 (.string D.name)
          have q2 := (hv.set0 (.string D.name)).effSet 1 (.slice (some ⟨b5, 0, none⟩) D.nc c5)
          have q3 := ((hv.set0 (.string D.name)).set1 (.slice (some ⟨b5, 0, none⟩) D.nc c5)).effSet 2 (.slice (some ⟨b9, 0, none⟩) D.np c9)
          have q4 := (((hv.set0 (.string D.name)).set1 (.slice (some ⟨b5, 0, none⟩) D.nc c5)).set2 (.slice (some ⟨b9, 0, none⟩) D.np c9)).effSet 3 (.slice none 0 0)
          have hEx := ((q1.trans q2).trans q3).trans q4
          have hB2 := hEx.on hB
          have hc2 := own_eff hc hEx (by decide)
          have hp2 := own_eff hp hEx (by decide)
          have hv2 := (((hv.set0 (.string D.name)).set1 (.slice (some ⟨b5, 0, none⟩) D.nc c5)).set2 (.slice (some ⟨b9, 0, none⟩) D.np c9)).set3 (.slice none 0 0)
          have hb2 := ((((hb.other (C := Bo) (i := 0) (u := .string D.name) (by omega)).other (C := Bo) (i := 1) (u := (.slice (some ⟨b5, 0, none⟩) D.nc c5)) (by omega)).other (C := Bo) (i := 2) (u := (.slice (some ⟨b9, 0, none⟩) D.np c9)) (by omega)).other (C := Bo) (i := 3) (u := (.slice none 0 0)) (by omega))
          have hr2 := ((((hr.other (C := Bo) (i := 0) (u := .string D.name) (by omega)).other (C := Bo) (i := 1) (u := (.slice (some ⟨b5, 0, none⟩) D.nc c5)) (by omega)).other (C := Bo) (i := 2) (u := (.slice (some ⟨b9, 0, none⟩) D.np c9)) (by omega)).other (C := Bo) (i := 3) (u := (.slice none 0 0)) (by omega))
          have HS : Hid (SC w Bo bc cc bp cp ia ic D 0 _) := ⟨b5, c5, b9, c9, (.slice none 0 0), fun _ => 0, fun _ => 0, ⟨_, _, _, rfl⟩, hBo, hB2, hb2, hr2, hv2, ⟨hc2, hp2, own_nil9, Pts.none _ _ _ _ _ _, sm_ni hsm (Nat.zero_le _)⟩⟩
          go_simp
          clear k0 k1 k2 k3 z0 z1 z2 z3 q1 q2 q3 q4 hEx hB2 hc2 hp2 hv2 hr2 hr hv hB hc hp
          refine hK.out _ _ hb2 (fun hHeld => ?_)
          clear hK KK
          try simp only [Act.put, List.setIfInBounds_toArray, List.set_cons_zero, List.set_cons_succ]
          refine wpAnyH_done (by kernel_rfl) ?_ _
          clear hHeld hb2 hb
          go_wp2_with fail
          go_meet
          exact ⟨Bo, rfl, HS.out⟩
    ·
      go_simp
      have hsz := hB.size
      have hEx := Eff.alloc w 70 w0d (.cells #[] 51)
      have hp := World.ownsRow_lit (base := w.heap.size) (e := 51) (size := 2) w0d #[] 0 hsz (by unfold maxLen; omega) rfl
      replace hb := hb.eff hEx (by decide)
      replace hr := hr.eff hEx (by decide)
      replace hB := hEx.on hB
      obtain ⟨wz27, hnw⟩ : ∃ x, Hid (x = w0d.alloc (.cells #[] 51)) := ⟨_, rfl⟩
      obtain ⟨b6, hnb⟩ : ∃ x, Hid (x = w0d.heap.size) := ⟨_, rfl⟩
      rw [← hnw.out] at hb hr hB hp ⊢
      rw [← hnb.out] at hp ⊢
      clear hEx hsz hnw hnb
      refine hK.out _ _ hb (fun hHeld => ?_)
      clear hK KK
      try simp only [Act.put, List.setIfInBounds_toArray, List.set_cons_zero, List.set_cons_succ]
      refine wpAnyH_ready (rs := [2, 11]) (by kernel_rfl) (by simp) ?_
      refine AllReadyH.cons rfl (fun KK hK => ?_) (AllReadyH.cons rfl (fun KK hK => ?_) AllReadyH.nil)
      ·
        go_simp
        have hsz := hB.size
        have hEx := Eff.alloc w 70 wz27 (.cells #[] 49)
        have hc := World.ownsRow_lit (base := w.heap.size) (e := 49) (size := 3) wz27 #[] 0 hsz (by unfold maxLen; omega) rfl
        replace hb := hb.eff hEx (by decide)
        replace hr := hr.eff hEx (by decide)
        replace hB := hEx.on hB
        replace hp := own_eff hp hEx (by decide)
        obtain ⟨wz28, hnw⟩ : ∃ x, Hid (x = wz27.alloc (.cells #[] 49)) := ⟨_, rfl⟩
        obtain ⟨b2, hnb⟩ : ∃ x, Hid (x = wz27.heap.size) := ⟨_, rfl⟩
        rw [← hnw.out] at hb hr hB hc hp ⊢
        rw [← hnb.out] at hc ⊢
        clear hEx hsz hnw hnb
        refine hK.out _ _ hb (fun hHeld => ?_)
        clear hK KK
        try simp only [Act.put, List.setIfInBounds_toArray, List.set_cons_zero, List.set_cons_succ]
        refine wpAnyH_ready (rs := [5, 11]) (by kernel_rfl) (by simp) ?_
        refine AllReadyH.cons rfl (fun KK hK => ?_) (AllReadyH.cons rfl (fun KK hK => ?_) AllReadyH.nil)
        ·
          have hnn := cview_news (hCv.below hB)
          have hsz := hB.size
          rw [if_pos (by kernel_rfl)]
          refine wp_append_own _ (.tmp 8) (.tmp 10) 24 rfl w.heap.size 49 iC (.agg #[.string ⟨#[]⟩, .int .i64 0, .bool false]) 3 32 Tryz.underlying24 hiC.1 hiC.2.1 hiC.2.2.1 hiC.2.2.2 rfl (by decide) _ 0 [] rfl hc ⟨bc, 0, none⟩ D.nc cc _ rfl (lenC _) hnn (oneC _) (by unfold maxLen; omega) (by omega) hsz ?_
          intro vX wz29 hOX hgX hnX
          have hEx := Eff.grown hc hgX
          replace hb := hb.eff hEx (by decide)
          replace hr := hr.eff hEx (by decide)
          replace hB := hEx.on hB
          replace hp := own_eff hp hEx (by decide)
          obtain ⟨b5, c5, rfl, hOY⟩ := own_new9 hOX hnX (show Value.slice (some ⟨b2, 0, none⟩) 0 0 ≠ Value.slice none 0 0 by simp)
          clear hc
          have hc := hOY
          clear hEx hOX hgX hnX hOY hnn hsz
          refine hK.out _ _ hb (fun hHeld => ?_)
          clear hK KK
          change wpAnyH _ _ _ _ _ _ _ (Act.put _ (some 11) _) _
          try simp only [Act.put, List.setIfInBounds_toArray, List.set_cons_zero, List.set_cons_succ]
          refine wpAnyH_ready (rs := [9, 11]) (by kernel_rfl) (by simp) ?_
          refine AllReadyH.cons rfl (fun KK hK => ?_) (AllReadyH.cons rfl (fun KK hK => ?_) AllReadyH.nil)
          ·
            have hnn := bview_news (hBv.below hB)
            have hsz := hB.size
            rw [if_pos (by kernel_rfl)]
            refine wp_append_own _ (.tmp 12) (.tmp 14) 25 rfl w.heap.size 51 iB (.agg #[.int .i64 0, .bool false]) 2 16 Tryz.underlying25 hiB.1 hiB.2.1 hiB.2.2.1 hiB.2.2.2 rfl (by decide) _ 0 [] rfl hp ⟨bp, 0, none⟩ D.np cp _ rfl (lenB _) hnn (oneB9 _) (by unfold maxLen; omega) (by omega) hsz ?_
            intro vX wz30 hOX hgX hnX
            have hEx := Eff.grown hp hgX
            replace hb := hb.eff hEx (by decide)
            replace hr := hr.eff hEx (by decide)
            replace hB := hEx.on hB
            replace hc := own_eff hc hEx (by decide)
            obtain ⟨b9, c9, rfl, hOY⟩ := own_new9 hOX hnX (show Value.slice (some ⟨b6, 0, none⟩) 0 0 ≠ Value.slice none 0 0 by simp)
            clear hp
            have hp := hOY
            clear hEx hOX hgX hnX hOY hnn hsz
            refine hK.out _ _ hb (fun hHeld => ?_)
            clear hK KK
            change wpAnyH _ _ _ _ _ _ _ (Act.put _ (some 15) _) _
            try simp only [Act.put, List.setIfInBounds_toArray, List.set_cons_zero, List.set_cons_succ]
            refine' wpAnyH_take (i := 10) (v := _) rfl (by kernel_rfl) (by kernel_rfl) (by kernel_rfl) (fun _ _ _ h => h) (Or.inl ⟨by kernel_rfl, ?hdy15⟩) (by assumption) ?rdy15
            case hdy15 => intro W hW; obtain ⟨c0, c1, c2, c3⟩ := hW.v.cells; go_simp; all_goals with_reducible rfl
            change wpAnyH _ _ _ _ _ _ _ (Act.put _ (some 16) _) _
            simp only [Act.put, List.setIfInBounds_toArray, List.set_cons_zero, List.set_cons_succ]
            refine wpAnyH_ready (rs := [11]) (by kernel_rfl) (by simp) ?_
            refine AllReadyH.cons rfl (fun KK hK => ?_) AllReadyH.nil
            go_simp
            have hsz := hB.size
            have hEx := Eff.alloc w 70 wz30 (.cells #[.string ⟨#[]⟩, (.slice none 0 0), (.slice none 0 0), (.slice none 0 0)] 28)
            have hv := Vd.new (w := w) (W := wz30) hsz (.string ⟨#[]⟩) (.slice none 0 0) (.slice none 0 0) (.slice none 0 0)
            have hBo := hr.v.lt
            replace hb := hb.eff hEx (by decide)
            replace hr := hr.eff hEx (by decide)
            replace hB := hEx.on hB
            replace hc := own_eff hc hEx (by decide)
            replace hp := own_eff hp hEx (by decide)
            obtain ⟨wz31, hnw⟩ : ∃ x, Hid (x = wz30.alloc (.cells #[.string ⟨#[]⟩, (.slice none 0 0), (.slice none 0 0), (.slice none 0 0)] 28)) := ⟨_, rfl⟩
            obtain ⟨Bo, hnb⟩ : ∃ x, Hid (x = wz30.heap.size) := ⟨_, rfl⟩
            rw [← hnw.out] at hb hr hB hc hp hv ⊢
            rw [← hnb.out] at hv hBo ⊢
            clear hEx hsz hnw hnb
            refine hK.out _ _ hb (fun hHeld => ?_)
            clear hK KK
            try simp only [Act.put, List.setIfInBounds_toArray, List.set_cons_zero, List.set_cons_succ]
            refine wpAnyH_ready (rs := [12]) (by kernel_rfl) (by simp) ?_
            refine AllReadyH.cons rfl (fun KK hK => ?_) AllReadyH.nil
            obtain ⟨k0, k1, k2, k3⟩ := hv.v.cells
            obtain ⟨z0, z1, z2, z3⟩ := hv.v.fz
            have q1 := hv.effSet 0 (.string D.name)
            have q2 := (hv.set0 (.string D.name)).effSet 1 (.slice (some ⟨b5, 0, none⟩) D.nc c5)
            have q3 := ((hv.set0 (.string D.name)).set1 (.slice (some ⟨b5, 0, none⟩) D.nc c5)).effSet 2 (.slice (some ⟨b9, 0, none⟩) D.np c9)
            have q4 := (((hv.set0 (.string D.name)).set1 (.slice (some ⟨b5, 0, none⟩) D.nc c5)).set2 (.slice (some ⟨b9, 0, none⟩) D.np c9)).effSet 3 (.slice none 0 0)
            have hEx := ((q1.trans q2).trans q3).trans q4
            have hB2 := hEx.on hB
            have hc2 := own_eff hc hEx (by decide)
            have hp2 := own_eff hp hEx (by decide)
            have hv2 := (((hv.set0 (.string D.name)).set1 (.slice (some ⟨b5, 0, none⟩) D.nc c5)).set2 (.slice (some ⟨b9, 0, none⟩) D.np c9)).set3 (.slice none 0 0)
            have hb2 := ((((hb.other (C := Bo) (i := 0) (u := .string D.name) (by omega)).other (C := Bo) (i := 1) (u := (.slice (some ⟨b5, 0, none⟩) D.nc c5)) (by omega)).other (C := Bo) (i := 2) (u := (.slice (some ⟨b9, 0, none⟩) D.np c9)) (by omega)).other (C := Bo) (i := 3) (u := (.slice none 0 0)) (by omega))
            have hr2 := ((((hr.other (C := Bo) (i := 0) (u := .string D.name) (by omega)).other (C := Bo) (i := 1) (u := (.slice (some ⟨b5, 0, none⟩) D.nc c5)) (by omega)).other (C := Bo) (i := 2) (u := (.slice (some ⟨b9, 0, none⟩) D.np c9)) (by omega)).other (C := Bo) (i := 3) (u := (.slice none 0 0)) (by omega))
            have HS : Hid (SC w Bo bc cc bp cp ia ic D 0 _) := ⟨b5, c5, b9, c9, (.slice none 0 0), fun _ => 0, fun _ => 0, ⟨_, _, _, rfl⟩, hBo, hB2, hb2, hr2, hv2, ⟨hc2, hp2, own_nil9, Pts.none _ _ _ _ _ _, sm_ni hsm (Nat.zero_le _)⟩⟩
            go_simp
            clear k0 k1 k2 k3 z0 z1 z2 z3 q1 q2 q3 q4 hEx hB2 hc2 hp2 hv2 hr2 hr hv hB hc hp
            refine hK.out _ _ hb2 (fun hHeld => ?_)
            clear hK KK
            try simp only [Act.put, List.setIfInBounds_toArray, List.set_cons_zero, List.set_cons_succ]
            refine wpAnyH_done (by kernel_rfl) ?_ _
            clear hHeld hb2 hb
            go_wp2_with fail
            go_meet
            exact ⟨Bo, rfl, HS.out⟩
          ·
            go_simp
            have hsz := hB.size
            have hEx := Eff.alloc w 70 wz29 (.cells #[.string ⟨#[]⟩, (.slice none 0 0), (.slice none 0 0), (.slice none 0 0)] 28)
            have hv := Vd.new (w := w) (W := wz29) hsz (.string ⟨#[]⟩) (.slice none 0 0) (.slice none 0 0) (.slice none 0 0)
            have hBo := hr.v.lt
            replace hb := hb.eff hEx (by decide)
            replace hr := hr.eff hEx (by decide)
            replace hB := hEx.on hB
            replace hc := own_eff hc hEx (by decide)
            replace hp := own_eff hp hEx (by decide)
            obtain ⟨wz32, hnw⟩ : ∃ x, Hid (x = wz29.alloc (.cells #[.string ⟨#[]⟩, (.slice none 0 0), (.slice none 0 0), (.slice none 0 0)] 28)) := ⟨_, rfl⟩
            obtain ⟨Bo, hnb⟩ : ∃ x, Hid (x = wz29.heap.size) := ⟨_, rfl⟩
            rw [← hnw.out] at hb hr hB hc hp hv ⊢
            rw [← hnb.out] at hv hBo ⊢
            clear hEx hsz hnw hnb
            refine hK.out _ _ hb (fun hHeld => ?_)
            clear hK KK
            try simp only [Act.put, List.setIfInBounds_toArray, List.set_cons_zero, List.set_cons_succ]
            refine wpAnyH_ready (rs := [9]) (by kernel_rfl) (by simp) ?_
            refine AllReadyH.cons rfl (fun KK hK => ?_) AllReadyH.nil
            have hnn := bview_news (hBv.below hB)
            have hsz := hB.size
            rw [if_pos (by kernel_rfl)]
            refine wp_append_own _ (.tmp 12) (.tmp 14) 25 rfl w.heap.size 51 iB (.agg #[.int .i64 0, .bool false]) 2 16 Tryz.underlying25 hiB.1 hiB.2.1 hiB.2.2.1 hiB.2.2.2 rfl (by decide) _ 0 [] rfl hp ⟨bp, 0, none⟩ D.np cp _ rfl (lenB _) hnn (oneB9 _) (by unfold maxLen; omega) (by omega) hsz ?_
            intro vX wz33 hOX hgX hnX
            have hEx := Eff.grown hp hgX
            replace hb := hb.eff hEx (by decide)
            replace hr := hr.eff hEx (by decide)
            replace hB := hEx.on hB
            replace hc := own_eff hc hEx (by decide)
            replace hv := hv.eff hEx (by decide)
            obtain ⟨b9, c9, rfl, hOY⟩ := own_new9 hOX hnX (show Value.slice (some ⟨b6, 0, none⟩) 0 0 ≠ Value.slice none 0 0 by simp)
            clear hp
            have hp := hOY
            clear hEx hOX hgX hnX hOY hnn hsz
            refine hK.out _ _ hb (fun hHeld => ?_)
            clear hK KK
            change wpAnyH _ _ _ _ _ _ _ (Act.put _ (some 15) _) _
            try simp only [Act.put, List.setIfInBounds_toArray, List.set_cons_zero, List.set_cons_succ]
            refine' wpAnyH_take (i := 10) (v := _) rfl (by kernel_rfl) (by kernel_rfl) (by kernel_rfl) (fun _ _ _ h => h) (Or.inl ⟨by kernel_rfl, ?hdy16⟩) (by assumption) ?rdy16
            case hdy16 => intro W hW; obtain ⟨c0, c1, c2, c3⟩ := hW.v.cells; go_simp; all_goals with_reducible rfl
            change wpAnyH _ _ _ _ _ _ _ (Act.put _ (some 16) _) _
            simp only [Act.put, List.setIfInBounds_toArray, List.set_cons_zero, List.set_cons_succ]
            refine wpAnyH_ready (rs := [12]) (by kernel_rfl) (by simp) ?_
            refine AllReadyH.cons rfl (fun KK hK => ?_) AllReadyH.nil
            obtain ⟨k0, k1, k2, k3⟩ := hv.v.cells
            obtain ⟨z0, z1, z2, z3⟩ := hv.v.fz
            have q1 := hv.effSet 0 (.string D.name)
            have q2 := (hv.set0 (.string D.name)).effSet 1 (.slice (some ⟨b5, 0, none⟩) D.nc c5)
            have q3 := ((hv.set0 (.string D.name)).set1 (.slice (some ⟨b5, 0, none⟩) D.nc c5)).effSet 2 (.slice (some ⟨b9, 0, none⟩) D.np c9)
            have q4 := (((hv.set0 (.string D.name)).set1 (.slice (some ⟨b5, 0, none⟩) D.nc c5)).set2 (.slice (some ⟨b9, 0, none⟩) D.np c9)).effSet 3 (.slice none 0 0)
            have hEx := ((q1.trans q2).trans q3).trans q4
            have hB2 := hEx.on hB
            have hc2 := own_eff hc hEx (by decide)
            have hp2 := own_eff hp hEx (by decide)
            have hv2 := (((hv.set0 (.string D.name)).set1 (.slice (some ⟨b5, 0, none⟩) D.nc c5)).set2 (.slice (some ⟨b9, 0, none⟩) D.np c9)).set3 (.slice none 0 0)
            have hb2 := ((((hb.other (C := Bo) (i := 0) (u := .string D.name) (by omega)).other (C := Bo) (i := 1) (u := (.slice (some ⟨b5, 0, none⟩) D.nc c5)) (by omega)).other (C := Bo) (i := 2) (u := (.slice (some ⟨b9, 0, none⟩) D.np c9)) (by omega)).other (C := Bo) (i := 3) (u := (.slice none 0 0)) (by omega))
            have hr2 := ((((hr.other (C := Bo) (i := 0) (u := .string D.name) (by omega)).other (C := Bo) (i := 1) (u := (.slice (some ⟨b5, 0, none⟩) D.nc c5)) (by omega)).other (C := Bo) (i := 2) (u := (.slice (some ⟨b9, 0, none⟩) D.np c9)) (by omega)).other (C := Bo) (i := 3) (u := (.slice none 0 0)) (by omega))
            have HS : Hid (SC w Bo bc cc bp cp ia ic D 0 _) := ⟨b5, c5, b9, c9, (.slice none 0 0), fun _ => 0, fun _ => 0, ⟨_, _, _, rfl⟩, hBo, hB2, hb2, hr2, hv2, ⟨hc2, hp2, own_nil9, Pts.none _ _ _ _ _ _, sm_ni hsm (Nat.zero_le _)⟩⟩
            go_simp
            clear k0 k1 k2 k3 z0 z1 z2 z3 q1 q2 q3 q4 hEx hB2 hc2 hp2 hv2 hr2 hr hv hB hc hp
            refine hK.out _ _ hb2 (fun hHeld => ?_)
            clear hK KK
            try simp only [Act.put, List.setIfInBounds_toArray, List.set_cons_zero, List.set_cons_succ]
            refine wpAnyH_done (by kernel_rfl) ?_ _
            clear hHeld hb2 hb
            go_wp2_with fail
            go_meet
            exact ⟨Bo, rfl, HS.out⟩
        ·
          go_simp
          have hsz := hB.size
          have hEx := Eff.alloc w 70 wz28 (.cells #[.string ⟨#[]⟩, (.slice none 0 0), (.slice none 0 0), (.slice none 0 0)] 28)
          have hv := Vd.new (w := w) (W := wz28) hsz (.string ⟨#[]⟩) (.slice none 0 0) (.slice none 0 0) (.slice none 0 0)
          have hBo := hr.v.lt
          replace hb := hb.eff hEx (by decide)
          replace hr := hr.eff hEx (by decide)
          replace hB := hEx.on hB
          replace hc := own_eff hc hEx (by decide)
          replace hp := own_eff hp hEx (by decide)
          obtain ⟨wz34, hnw⟩ : ∃ x, Hid (x = wz28.alloc (.cells #[.string ⟨#[]⟩, (.slice none 0 0), (.slice none 0 0), (.slice none 0 0)] 28)) := ⟨_, rfl⟩
          obtain ⟨Bo, hnb⟩ : ∃ x, Hid (x = wz28.heap.size) := ⟨_, rfl⟩
          rw [← hnw.out] at hb hr hB hc hp hv ⊢
          rw [← hnb.out] at hv hBo ⊢
          clear hEx hsz hnw hnb
          refine hK.out _ _ hb (fun hHeld => ?_)
          clear hK KK
          try simp only [Act.put, List.setIfInBounds_toArray, List.set_cons_zero, List.set_cons_succ]
          refine wpAnyH_ready (rs := [5]) (by kernel_rfl) (by simp) ?_
          refine AllReadyH.cons rfl (fun KK hK => ?_) AllReadyH.nil
          have hnn := cview_news (hCv.below hB)
          have hsz := hB.size
          rw [if_pos (by kernel_rfl)]
          refine wp_append_own _ (.tmp 8) (.tmp 10) 24 rfl w.heap.size 49 iC (.agg #[.string ⟨#[]⟩, .int .i64 0, .bool false]) 3 32 Tryz.underlying24 hiC.1 hiC.2.1 hiC.2.2.1 hiC.2.2.2 rfl (by decide) _ 0 [] rfl hc ⟨bc, 0, none⟩ D.nc cc _ rfl (lenC _) hnn (oneC _) (by unfold maxLen; omega) (by omega) hsz ?_
          intro vX wz35 hOX hgX hnX
          have hEx := Eff.grown hc hgX
          replace hb := hb.eff hEx (by decide)
          replace hr := hr.eff hEx (by decide)
          replace hB := hEx.on hB
          replace hp := own_eff hp hEx (by decide)
          replace hv := hv.eff hEx (by decide)
          obtain ⟨b5, c5, rfl, hOY⟩ := own_new9 hOX hnX (show Value.slice (some ⟨b2, 0, none⟩) 0 0 ≠ Value.slice none 0 0 by simp)
          clear hc
          have hc := hOY
          clear hEx hOX hgX hnX hOY hnn hsz
          refine hK.out _ _ hb (fun hHeld => ?_)
          clear hK KK
          change wpAnyH _ _ _ _ _ _ _ (Act.put _ (some 11) _) _
          try simp only [Act.put, List.setIfInBounds_toArray, List.set_cons_zero, List.set_cons_succ]
          refine wpAnyH_ready (rs := [9]) (by kernel_rfl) (by simp) ?_
          refine AllReadyH.cons rfl (fun KK hK => ?_) AllReadyH.nil
          have hnn := bview_news (hBv.below hB)
          have hsz := hB.size
          rw [if_pos (by kernel_rfl)]
          refine wp_append_own _ (.tmp 12) (.tmp 14) 25 rfl w.heap.size 51 iB (.agg #[.int .i64 0, .bool false]) 2 16 Tryz.underlying25 hiB.1 hiB.2.1 hiB.2.2.1 hiB.2.2.2 rfl (by decide) _ 0 [] rfl hp ⟨bp, 0, none⟩ D.np cp _ rfl (lenB _) hnn (oneB9 _) (by unfold maxLen; omega) (by omega) hsz ?_
          intro vX wz36 hOX hgX hnX
          have hEx := Eff.grown hp hgX
          replace hb := hb.eff hEx (by decide)
          replace hr := hr.eff hEx (by decide)
          replace hB := hEx.on hB
          replace hc := own_eff hc hEx (by decide)
          replace hv := hv.eff hEx (by decide)
          obtain ⟨b9, c9, rfl, hOY⟩ := own_new9 hOX hnX (show Value.slice (some ⟨b6, 0, none⟩) 0 0 ≠ Value.slice none 0 0 by simp)
          clear hp
          have hp := hOY
          clear hEx hOX hgX hnX hOY hnn hsz
          refine hK.out _ _ hb (fun hHeld => ?_)
          clear hK KK
          change wpAnyH _ _ _ _ _ _ _ (Act.put _ (some 15) _) _
          try simp only [Act.put, List.setIfInBounds_toArray, List.set_cons_zero, List.set_cons_succ]
          refine' wpAnyH_take (i := 10) (v := _) rfl (by kernel_rfl) (by kernel_rfl) (by kernel_rfl) (fun _ _ _ h => h) (Or.inl ⟨by kernel_rfl, ?hdy17⟩) (by assumption) ?rdy17
          case hdy17 => intro W hW; obtain ⟨c0, c1, c2, c3⟩ := hW.v.cells; go_simp; all_goals with_reducible rfl
          change wpAnyH _ _ _ _ _ _ _ (Act.put _ (some 16) _) _
          simp only [Act.put, List.setIfInBounds_toArray, List.set_cons_zero, List.set_cons_succ]
          refine wpAnyH_ready (rs := [12]) (by kernel_rfl) (by simp) ?_
          refine AllReadyH.cons rfl (fun KK hK => ?_) AllReadyH.nil
          obtain ⟨k0, k1, k2, k3⟩ := hv.v.cells
          obtain ⟨z0, z1, z2, z3⟩ := hv.v.fz
          have q1 := hv.effSet 0 (.string D.name)
          have q2 := (hv.set0 (.string D.name)).effSet 1 (.slice (some ⟨b5, 0, none⟩) D.nc c5)
          have q3 := ((hv.set0 (.string D.name)).set1 (.slice (some ⟨b5, 0, none⟩) D.nc c5)).effSet 2 (.slice (some ⟨b9, 0, none⟩) D.np c9)
          have q4 := (((hv.set0 (.string D.name)).set1 (.slice (some ⟨b5, 0, none⟩) D.nc c5)).set2 (.slice (some ⟨b9, 0, none⟩) D.np c9)).effSet 3 (.slice none 0 0)
          have hEx := ((q1.trans q2).trans q3).trans q4
          have hB2 := hEx.on hB
          have hc2 := own_eff hc hEx (by decide)
          have hp2 := own_eff hp hEx (by decide)
          have hv2 := (((hv.set0 (.string D.name)).set1 (.slice (some ⟨b5, 0, none⟩) D.nc c5)).set2 (.slice (some ⟨b9, 0, none⟩) D.np c9)).set3 (.slice none 0 0)
          have hb2 := ((((hb.other (C := Bo) (i := 0) (u := .string D.name) (by omega)).other (C := Bo) (i := 1) (u := (.slice (some ⟨b5, 0, none⟩) D.nc c5)) (by omega)).other (C := Bo) (i := 2) (u := (.slice (some ⟨b9, 0, none⟩) D.np c9)) (by omega)).other (C := Bo) (i := 3) (u := (.slice none 0 0)) (by omega))
          have hr2 := ((((hr.other (C := Bo) (i := 0) (u := .string D.name) (by omega)).other (C := Bo) (i := 1) (u := (.slice (some ⟨b5, 0, none⟩) D.nc c5)) (by omega)).other (C := Bo) (i := 2) (u := (.slice (some ⟨b9, 0, none⟩) D.np c9)) (by omega)).other (C := Bo) (i := 3) (u := (.slice none 0 0)) (by omega))
          have HS : Hid (SC w Bo bc cc bp cp ia ic D 0 _) := ⟨b5, c5, b9, c9, (.slice none 0 0), fun _ => 0, fun _ => 0, ⟨_, _, _, rfl⟩, hBo, hB2, hb2, hr2, hv2, ⟨hc2, hp2, own_nil9, Pts.none _ _ _ _ _ _, sm_ni hsm (Nat.zero_le _)⟩⟩
          go_simp
          clear k0 k1 k2 k3 z0 z1 z2 z3 q1 q2 q3 q4 hEx hB2 hc2 hp2 hv2 hr2 hr hv hB hc hp
          refine hK.out _ _ hb2 (fun hHeld => ?_)
          clear hK KK
          try simp only [Act.put, List.setIfInBounds_toArray, List.set_cons_zero, List.set_cons_succ]
          refine wpAnyH_done (by kernel_rfl) ?_ _
          clear hHeld hb2 hb
          go_wp2_with fail
          go_meet
          exact ⟨Bo, rfl, HS.out⟩
      ·
        go_simp
        have hsz := hB.size
        have hEx := Eff.alloc w 70 wz27 (.cells #[.string ⟨#[]⟩, (.slice none 0 0), (.slice none 0 0), (.slice none 0 0)] 28)
        have hv := Vd.new (w := w) (W := wz27) hsz (.string ⟨#[]⟩) (.slice none 0 0) (.slice none 0 0) (.slice none 0 0)
        have hBo := hr.v.lt
        replace hb := hb.eff hEx (by decide)
        replace hr := hr.eff hEx (by decide)
        replace hB := hEx.on hB
        replace hp := own_eff hp hEx (by decide)
        obtain ⟨wz37, hnw⟩ : ∃ x, Hid (x = wz27.alloc (.cells #[.string ⟨#[]⟩, (.slice none 0 0), (.slice none 0 0), (.slice none 0 0)] 28)) := ⟨_, rfl⟩
        obtain ⟨Bo, hnb⟩ : ∃ x, Hid (x = wz27.heap.size) := ⟨_, rfl⟩
        rw [← hnw.out] at hb hr hB hp hv ⊢
        rw [← hnb.out] at hv hBo ⊢
        clear hEx hsz hnw hnb
        refine hK.out _ _ hb (fun hHeld => ?_)
        clear hK KK
        try simp only [Act.put, List.setIfInBounds_toArray, List.set_cons_zero, List.set_cons_succ]
        refine wpAnyH_ready (rs := [2]) (by kernel_rfl) (by simp) ?_
        refine AllReadyH.cons rfl (fun KK hK => ?_) AllReadyH.nil
        go_simp
        have hsz := hB.size
        have hEx := Eff.alloc w 70 wz37 (.cells #[] 49)
        have hc := World.ownsRow_lit (base := w.heap.size) (e := 49) (size := 3) wz37 #[] 0 hsz (by unfold maxLen; omega) rfl
        replace hb := hb.eff hEx (by decide)
        replace hr := hr.eff hEx (by decide)
        replace hB := hEx.on hB
        replace hp := own_eff hp hEx (by decide)
        replace hv := hv.eff hEx (by decide)
        obtain ⟨wz38, hnw⟩ : ∃ x, Hid (x = wz37.alloc (.cells #[] 49)) := ⟨_, rfl⟩
        obtain ⟨b2, hnb⟩ : ∃ x, Hid (x = wz37.heap.size) := ⟨_, rfl⟩
        rw [← hnw.out] at hb hr hB hc hp hv ⊢
        rw [← hnb.out] at hc ⊢
        clear hEx hsz hnw hnb
        refine hK.out _ _ hb (fun hHeld => ?_)
        clear hK KK
        try simp only [Act.put, List.setIfInBounds_toArray, List.set_cons_zero, List.set_cons_succ]
        refine wpAnyH_ready (rs := [5]) (by kernel_rfl) (by simp) ?_
        refine AllReadyH.cons rfl (fun KK hK => ?_) AllReadyH.nil
        have hnn := cview_news (hCv.below hB)
        have hsz := hB.size
        rw [if_pos (by kernel_rfl)]
        refine wp_append_own _ (.tmp 8) (.tmp 10) 24 rfl w.heap.size 49 iC (.agg #[.string ⟨#[]⟩, .int .i64 0, .bool false]) 3 32 Tryz.underlying24 hiC.1 hiC.2.1 hiC.2.2.1 hiC.2.2.2 rfl (by decide) _ 0 [] rfl hc ⟨bc, 0, none⟩ D.nc cc _ rfl (lenC _) hnn (oneC _) (by unfold maxLen; omega) (by omega) hsz ?_
        intro vX wz39 hOX hgX hnX
        have hEx := Eff.grown hc hgX
        replace hb := hb.eff hEx (by decide)
        replace hr := hr.eff hEx (by decide)
        replace hB := hEx.on hB
        replace hp := own_eff hp hEx (by decide)
        replace hv := hv.eff hEx (by decide)
        obtain ⟨b5, c5, rfl, hOY⟩ := own_new9 hOX hnX (show Value.slice (some ⟨b2, 0, none⟩) 0 0 ≠ Value.slice none 0 0 by simp)
        clear hc
        have hc := hOY
        clear hEx hOX hgX hnX hOY hnn hsz
        refine hK.out _ _ hb (fun hHeld => ?_)
        clear hK KK
        change wpAnyH _ _ _ _ _ _ _ (Act.put _ (some 11) _) _
        try simp only [Act.put, List.setIfInBounds_toArray, List.set_cons_zero, List.set_cons_succ]
        refine wpAnyH_ready (rs := [9]) (by kernel_rfl) (by simp) ?_
        refine AllReadyH.cons rfl (fun KK hK => ?_) AllReadyH.nil
        have hnn := bview_news (hBv.below hB)
        have hsz := hB.size
        rw [if_pos (by kernel_rfl)]
        refine wp_append_own _ (.tmp 12) (.tmp 14) 25 rfl w.heap.size 51 iB (.agg #[.int .i64 0, .bool false]) 2 16 Tryz.underlying25 hiB.1 hiB.2.1 hiB.2.2.1 hiB.2.2.2 rfl (by decide) _ 0 [] rfl hp ⟨bp, 0, none⟩ D.np cp _ rfl (lenB _) hnn (oneB9 _) (by unfold maxLen; omega) (by omega) hsz ?_
        intro vX wz40 hOX hgX hnX
        have hEx := Eff.grown hp hgX
        replace hb := hb.eff hEx (by decide)
        replace hr := hr.eff hEx (by decide)
        replace hB := hEx.on hB
        replace hc := own_eff hc hEx (by decide)
        replace hv := hv.eff hEx (by decide)
        obtain ⟨b9, c9, rfl, hOY⟩ := own_new9 hOX hnX (show Value.slice (some ⟨b6, 0, none⟩) 0 0 ≠ Value.slice none 0 0 by simp)
        clear hp
        have hp := hOY
        clear hEx hOX hgX hnX hOY hnn hsz
        refine hK.out _ _ hb (fun hHeld => ?_)
        clear hK KK
        change wpAnyH _ _ _ _ _ _ _ (Act.put _ (some 15) _) _
        try simp only [Act.put, List.setIfInBounds_toArray, List.set_cons_zero, List.set_cons_succ]
        refine' wpAnyH_take (i := 10) (v := _) rfl (by kernel_rfl) (by kernel_rfl) (by kernel_rfl) (fun _ _ _ h => h) (Or.inl ⟨by kernel_rfl, ?hdy18⟩) (by assumption) ?rdy18
        case hdy18 => intro W hW; obtain ⟨c0, c1, c2, c3⟩ := hW.v.cells; go_simp; all_goals with_reducible rfl
        change wpAnyH _ _ _ _ _ _ _ (Act.put _ (some 16) _) _
        simp only [Act.put, List.setIfInBounds_toArray, List.set_cons_zero, List.set_cons_succ]
        refine wpAnyH_ready (rs := [12]) (by kernel_rfl) (by simp) ?_
        refine AllReadyH.cons rfl (fun KK hK => ?_) AllReadyH.nil
        obtain ⟨k0, k1, k2, k3⟩ := hv.v.cells
        obtain ⟨z0, z1, z2, z3⟩ := hv.v.fz
        have q1 := hv.effSet 0 (.string D.name)
        have q2 := (hv.set0 (.string D.name)).effSet 1 (.slice (some ⟨b5, 0, none⟩) D.nc c5)
        have q3 := ((hv.set0 (.string D.name)).set1 (.slice (some ⟨b5, 0, none⟩) D.nc c5)).effSet 2 (.slice (some ⟨b9, 0, none⟩) D.np c9)
        have q4 := (((hv.set0 (.string D.name)).set1 (.slice (some ⟨b5, 0, none⟩) D.nc c5)).set2 (.slice (some ⟨b9, 0, none⟩) D.np c9)).effSet 3 (.slice none 0 0)
        have hEx := ((q1.trans q2).trans q3).trans q4
        have hB2 := hEx.on hB
        have hc2 := own_eff hc hEx (by decide)
        have hp2 := own_eff hp hEx (by decide)
        have hv2 := (((hv.set0 (.string D.name)).set1 (.slice (some ⟨b5, 0, none⟩) D.nc c5)).set2 (.slice (some ⟨b9, 0, none⟩) D.np c9)).set3 (.slice none 0 0)
        have hb2 := ((((hb.other (C := Bo) (i := 0) (u := .string D.name) (by omega)).other (C := Bo) (i := 1) (u := (.slice (some ⟨b5, 0, none⟩) D.nc c5)) (by omega)).other (C := Bo) (i := 2) (u := (.slice (some ⟨b9, 0, none⟩) D.np c9)) (by omega)).other (C := Bo) (i := 3) (u := (.slice none 0 0)) (by omega))
        have hr2 := ((((hr.other (C := Bo) (i := 0) (u := .string D.name) (by omega)).other (C := Bo) (i := 1) (u := (.slice (some ⟨b5, 0, none⟩) D.nc c5)) (by omega)).other (C := Bo) (i := 2) (u := (.slice (some ⟨b9, 0, none⟩) D.np c9)) (by omega)).other (C := Bo) (i := 3) (u := (.slice none 0 0)) (by omega))
        have HS : Hid (SC w Bo bc cc bp cp ia ic D 0 _) := ⟨b5, c5, b9, c9, (.slice none 0 0), fun _ => 0, fun _ => 0, ⟨_, _, _, rfl⟩, hBo, hB2, hb2, hr2, hv2, ⟨hc2, hp2, own_nil9, Pts.none _ _ _ _ _ _, sm_ni hsm (Nat.zero_le _)⟩⟩
        go_simp
        clear k0 k1 k2 k3 z0 z1 z2 z3 q1 q2 q3 q4 hEx hB2 hc2 hp2 hv2 hr2 hr hv hB hc hp
        refine hK.out _ _ hb2 (fun hHeld => ?_)
        clear hK KK
        try simp only [Act.put, List.setIfInBounds_toArray, List.set_cons_zero, List.set_cons_succ]
        refine wpAnyH_done (by kernel_rfl) ?_ _
        clear hHeld hb2 hb
        go_wp2_with fail
        go_meet
        exact ⟨Bo, rfl, HS.out⟩
    ·
      go_simp
      have hsz := hB.size
      have hEx := Eff.alloc w 70 w0d (.cells #[.string ⟨#[]⟩, (.slice none 0 0), (.slice none 0 0), (.slice none 0 0)] 28)
      have hv := Vd.new (w := w) (W := w0d) hsz (.string ⟨#[]⟩) (.slice none 0 0) (.slice none 0 0) (.slice none 0 0)
      have hBo := hr.v.lt
      replace hb := hb.eff hEx (by decide)
      replace hr := hr.eff hEx (by decide)
      replace hB := hEx.on hB
      obtain ⟨wz41, hnw⟩ : ∃ x, Hid (x = w0d.alloc (.cells #[.string ⟨#[]⟩, (.slice none 0 0), (.slice none 0 0), (.slice none 0 0)] 28)) := ⟨_, rfl⟩
      obtain ⟨Bo, hnb⟩ : ∃ x, Hid (x = w0d.heap.size) := ⟨_, rfl⟩
      rw [← hnw.out] at hb hr hB hv ⊢
      rw [← hnb.out] at hv hBo ⊢
      clear hEx hsz hnw hnb
      refine hK.out _ _ hb (fun hHeld => ?_)
      clear hK KK
      try simp only [Act.put, List.setIfInBounds_toArray, List.set_cons_zero, List.set_cons_succ]
      refine wpAnyH_ready (rs := [2, 6]) (by kernel_rfl) (by simp) ?_
      refine AllReadyH.cons rfl (fun KK hK => ?_) (AllReadyH.cons rfl (fun KK hK => ?_) AllReadyH.nil)
      ·
        go_simp
        have hsz := hB.size
        have hEx := Eff.alloc w 70 wz41 (.cells #[] 49)
        have hc := World.ownsRow_lit (base := w.heap.size) (e := 49) (size := 3) wz41 #[] 0 hsz (by unfold maxLen; omega) rfl
        replace hb := hb.eff hEx (by decide)
        replace hr := hr.eff hEx (by decide)
        replace hB := hEx.on hB
        replace hv := hv.eff hEx (by decide)
        obtain ⟨wz42, hnw⟩ : ∃ x, Hid (x = wz41.alloc (.cells #[] 49)) := ⟨_, rfl⟩
        obtain ⟨b2, hnb⟩ : ∃ x, Hid (x = wz41.heap.size) := ⟨_, rfl⟩
        rw [← hnw.out] at hb hr hB hc hv ⊢
        rw [← hnb.out] at hc ⊢
        clear hEx hsz hnw hnb
        refine hK.out _ _ hb (fun hHeld => ?_)
        clear hK KK
        try simp only [Act.put, List.setIfInBounds_toArray, List.set_cons_zero, List.set_cons_succ]
        refine wpAnyH_ready (rs := [5, 6]) (by kernel_rfl) (by simp) ?_
        refine AllReadyH.cons rfl (fun KK hK => ?_) (AllReadyH.cons rfl (fun KK hK => ?_) AllReadyH.nil)
        ·
          have hnn := cview_news (hCv.below hB)
          have hsz := hB.size
          rw [if_pos (by kernel_rfl)]
          refine wp_append_own _ (.tmp 8) (.tmp 10) 24 rfl w.heap.size 49 iC (.agg #[.string ⟨#[]⟩, .int .i64 0, .bool false]) 3 32 Tryz.underlying24 hiC.1 hiC.2.1 hiC.2.2.1 hiC.2.2.2 rfl (by decide) _ 0 [] rfl hc ⟨bc, 0, none⟩ D.nc cc _ rfl (lenC _) hnn (oneC _) (by unfold maxLen; omega) (by omega) hsz ?_
          intro vX wz43 hOX hgX hnX
          have hEx := Eff.grown hc hgX
          replace hb := hb.eff hEx (by decide)
          replace hr := hr.eff hEx (by decide)
          replace hB := hEx.on hB
          replace hv := hv.eff hEx (by decide)
          obtain ⟨b5, c5, rfl, hOY⟩ := own_new9 hOX hnX (show Value.slice (some ⟨b2, 0, none⟩) 0 0 ≠ Value.slice none 0 0 by simp)
          clear hc
          have hc := hOY
          clear hEx hOX hgX hnX hOY hnn hsz
          refine hK.out _ _ hb (fun hHeld => ?_)
          clear hK KK
          change wpAnyH _ _ _ _ _ _ _ (Act.put _ (some 11) _) _
          try simp only [Act.put, List.setIfInBounds_toArray, List.set_cons_zero, List.set_cons_succ]
          refine wpAnyH_ready (rs := [6]) (by kernel_rfl) (by simp) ?_
          refine AllReadyH.cons rfl (fun KK hK => ?_) AllReadyH.nil
          go_simp
          have hsz := hB.size
          have hEx := Eff.alloc w 70 wz43 (.cells #[] 51)
          have hp := World.ownsRow_lit (base := w.heap.size) (e := 51) (size := 2) wz43 #[] 0 hsz (by unfold maxLen; omega) rfl
          replace hb := hb.eff hEx (by decide)
          replace hr := hr.eff hEx (by decide)
          replace hB := hEx.on hB
          replace hc := own_eff hc hEx (by decide)
          replace hv := hv.eff hEx (by decide)
          obtain ⟨wz44, hnw⟩ : ∃ x, Hid (x = wz43.alloc (.cells #[] 51)) := ⟨_, rfl⟩
          obtain ⟨b6, hnb⟩ : ∃ x, Hid (x = wz43.heap.size) := ⟨_, rfl⟩
          rw [← hnw.out] at hb hr hB hc hp hv ⊢
          rw [← hnb.out] at hp ⊢
          clear hEx hsz hnw hnb
          refine hK.out _ _ hb (fun hHeld => ?_)
          clear hK KK
          try simp only [Act.put, List.setIfInBounds_toArray, List.set_cons_zero, List.set_cons_succ]
          refine wpAnyH_ready (rs := [9]) (by kernel_rfl) (by simp) ?_
          refine AllReadyH.cons rfl (fun KK hK => ?_) AllReadyH.nil
          have hnn := bview_news (hBv.below hB)
          have hsz := hB.size
          rw [if_pos (by kernel_rfl)]
          refine wp_append_own _ (.tmp 12) (.tmp 14) 25 rfl w.heap.size 51 iB (.agg #[.int .i64 0, .bool false]) 2 16 Tryz.underlying25 hiB.1 hiB.2.1 hiB.2.2.1 hiB.2.2.2 rfl (by decide) _ 0 [] rfl hp ⟨bp, 0, none⟩ D.np cp _ rfl (lenB _) hnn (oneB9 _) (by unfold maxLen; omega) (by omega) hsz ?_
          intro vX wz45 hOX hgX hnX
          have hEx := Eff.grown hp hgX
          replace hb := hb.eff hEx (by decide)
          replace hr := hr.eff hEx (by decide)
          replace hB := hEx.on hB
          replace hc := own_eff hc hEx (by decide)
          replace hv := hv.eff hEx (by decide)
          obtain ⟨b9, c9, rfl, hOY⟩ := own_new9 hOX hnX (show Value.slice (some ⟨b6, 0, none⟩) 0 0 ≠ Value.slice none 0 0 by simp)
          clear hp
          have hp := hOY
          clear hEx hOX hgX hnX hOY hnn hsz
          refine hK.out _ _ hb (fun hHeld => ?_)
          clear hK KK
          change wpAnyH _ _ _ _ _ _ _ (Act.put _ (some 15) _) _
          try simp only [Act.put, List.setIfInBounds_toArray, List.set_cons_zero, List.set_cons_succ]
          refine' wpAnyH_take (i := 10) (v := _) rfl (by kernel_rfl) (by kernel_rfl) (by kernel_rfl) (fun _ _ _ h => h) (Or.inl ⟨by kernel_rfl, ?hdy19⟩) (by assumption) ?rdy19
          case hdy19 => intro W hW; obtain ⟨c0, c1, c2, c3⟩ := hW.v.cells; go_simp; all_goals with_reducible rfl
          change wpAnyH _ _ _ _ _ _ _ (Act.put _ (some 16) _) _
          simp only [Act.put, List.setIfInBounds_toArray, List.set_cons_zero, List.set_cons_succ]
          refine wpAnyH_ready (rs := [12]) (by kernel_rfl) (by simp) ?_
          refine AllReadyH.cons rfl (fun KK hK => ?_) AllReadyH.nil
          obtain ⟨k0, k1, k2, k3⟩ := hv.v.cells
          obtain ⟨z0, z1, z2, z3⟩ := hv.v.fz
          have q1 := hv.effSet 0 (.string D.name)
          have q2 := (hv.set0 (.string D.name)).effSet 1 (.slice (some ⟨b5, 0, none⟩) D.nc c5)
          have q3 := ((hv.set0 (.string D.name)).set1 (.slice (some ⟨b5, 0, none⟩) D.nc c5)).effSet 2 (.slice (some ⟨b9, 0, none⟩) D.np c9)
          have q4 := (((hv.set0 (.string D.name)).set1 (.slice (some ⟨b5, 0, none⟩) D.nc c5)).set2 (.slice (some ⟨b9, 0, none⟩) D.np c9)).effSet 3 (.slice none 0 0)
          have hEx := ((q1.trans q2).trans q3).trans q4
          have hB2 := hEx.on hB
          have hc2 := own_eff hc hEx (by decide)
          have hp2 := own_eff hp hEx (by decide)
          have hv2 := (((hv.set0 (.string D.name)).set1 (.slice (some ⟨b5, 0, none⟩) D.nc c5)).set2 (.slice (some ⟨b9, 0, none⟩) D.np c9)).set3 (.slice none 0 0)
          have hb2 := ((((hb.other (C := Bo) (i := 0) (u := .string D.name) (by omega)).other (C := Bo) (i := 1) (u := (.slice (some ⟨b5, 0, none⟩) D.nc c5)) (by omega)).other (C := Bo) (i := 2) (u := (.slice (some ⟨b9, 0, none⟩) D.np c9)) (by omega)).other (C := Bo) (i := 3) (u := (.slice none 0 0)) (by omega))
          have hr2 := ((((hr.other (C := Bo) (i := 0) (u := .string D.name) (by omega)).other (C := Bo) (i := 1) (u := (.slice (some ⟨b5, 0, none⟩) D.nc c5)) (by omega)).other (C := Bo) (i := 2) (u := (.slice (some ⟨b9, 0, none⟩) D.np c9)) (by omega)).other (C := Bo) (i := 3) (u := (.slice none 0 0)) (by omega))
          have HS : Hid (SC w Bo bc cc bp cp ia ic D 0 _) := ⟨b5, c5, b9, c9, (.slice none 0 0), fun _ => 0, fun _ => 0, ⟨_, _, _, rfl⟩, hBo, hB2, hb2, hr2, hv2, ⟨hc2, hp2, own_nil9, Pts.none _ _ _ _ _ _, sm_ni hsm (Nat.zero_le _)⟩⟩
          go_simp
          clear k0 k1 k2 k3 z0 z1 z2 z3 q1 q2 q3 q4 hEx hB2 hc2 hp2 hv2 hr2 hr hv hB hc hp
          refine hK.out _ _ hb2 (fun hHeld => ?_)
          clear hK KK
          try simp only [Act.put, List.setIfInBounds_toArray, List.set_cons_zero, List.set_cons_succ]
          refine wpAnyH_done (by kernel_rfl) ?_ _
          clear hHeld hb2 hb
          go_wp2_with fail
          go_meet
          exact ⟨Bo, rfl, HS.out⟩
        ·
          go_simp
          have hsz := hB.size
          have hEx := Eff.alloc w 70 wz42 (.cells #[] 51)
          have hp := World.ownsRow_lit (base := w.heap.size) (e := 51) (size := 2) wz42 #[] 0 hsz (by unfold maxLen; omega) rfl
          replace hb := hb.eff hEx (by decide)
          replace hr := hr.eff hEx (by decide)
          replace hB := hEx.on hB
          replace hc := own_eff hc hEx (by decide)
          replace hv := hv.eff hEx (by decide)
          obtain ⟨wz46, hnw⟩ : ∃ x, Hid (x = wz42.alloc (.cells #[] 51)) := ⟨_, rfl⟩
          obtain ⟨b6, hnb⟩ : ∃ x, Hid (x = wz42.heap.size) := ⟨_, rfl⟩
          rw [← hnw.out] at hb hr hB hc hp hv ⊢
          rw [← hnb.out] at hp ⊢
          clear hEx hsz hnw hnb
          refine hK.out _ _ hb (fun hHeld => ?_)
          clear hK KK
          try simp only [Act.put, List.setIfInBounds_toArray, List.set_cons_zero, List.set_cons_succ]
          refine wpAnyH_ready (rs := [5]) (by kernel_rfl) (by simp) ?_
          refine AllReadyH.cons rfl (fun KK hK => ?_) AllReadyH.nil
          have hnn := cview_news (hCv.below hB)
          have hsz := hB.size
          rw [if_pos (by kernel_rfl)]
          refine wp_append_own _ (.tmp 8) (.tmp 10) 24 rfl w.heap.size 49 iC (.agg #[.string ⟨#[]⟩, .int .i64 0, .bool false]) 3 32 Tryz.underlying24 hiC.1 hiC.2.1 hiC.2.2.1 hiC.2.2.2 rfl (by decide) _ 0 [] rfl hc ⟨bc, 0, none⟩ D.nc cc _ rfl (lenC _) hnn (oneC _) (by unfold maxLen; omega) (by omega) hsz ?_
          intro vX wz47 hOX hgX hnX
          have hEx := Eff.grown hc hgX
          replace hb := hb.eff hEx (by decide)
          replace hr := hr.eff hEx (by decide)
          replace hB := hEx.on hB
          replace hp := own_eff hp hEx (by decide)
          replace hv := hv.eff hEx (by decide)
          obtain ⟨b5, c5, rfl, hOY⟩ := own_new9 hOX hnX (show Value.slice (some ⟨b2, 0, none⟩) 0 0 ≠ Value.slice none 0 0 by simp)
          clear hc
          have hc := hOY
          clear hEx hOX hgX hnX hOY hnn hsz
          refine hK.out _ _ hb (fun hHeld => ?_)
          clear hK KK
          change wpAnyH _ _ _ _ _ _ _ (Act.put _ (some 11) _) _
          try simp only [Act.put, List.setIfInBounds_toArray, List.set_cons_zero, List.set_cons_succ]
          refine wpAnyH_ready (rs := [9]) (by kernel_rfl) (by simp) ?_
          refine AllReadyH.cons rfl (fun KK hK => ?_) AllReadyH.nil
          have hnn := bview_news (hBv.below hB)
          have hsz := hB.size
          rw [if_pos (by kernel_rfl)]
          refine wp_append_own _ (.tmp 12) (.tmp 14) 25 rfl w.heap.size 51 iB (.agg #[.int .i64 0, .bool false]) 2 16 Tryz.underlying25 hiB.1 hiB.2.1 hiB.2.2.1 hiB.2.2.2 rfl (by decide) _ 0 [] rfl hp ⟨bp, 0, none⟩ D.np cp _ rfl (lenB _) hnn (oneB9 _) (by unfold maxLen; omega) (by omega) hsz ?_
          intro vX wz48 hOX hgX hnX
          have hEx := Eff.grown hp hgX
          replace hb := hb.eff hEx (by decide)
          replace hr := hr.eff hEx (by decide)
          replace hB := hEx.on hB
          replace hc := own_eff hc hEx (by decide)
          replace hv := hv.eff hEx (by decide)
          obtain ⟨b9, c9, rfl, hOY⟩ := own_new9 hOX hnX (show Value.slice (some ⟨b6, 0, none⟩) 0 0 ≠ Value.slice none 0 0 by simp)
          clear hp
          have hp := hOY
          clear hEx hOX hgX hnX hOY hnn hsz
          refine hK.out _ _ hb (fun hHeld => ?_)
          clear hK KK
          change wpAnyH _ _ _ _ _ _ _ (Act.put _ (some 15) _) _
          try simp only [Act.put, List.setIfInBounds_toArray, List.set_cons_zero, List.set_cons_succ]
          refine' wpAnyH_take (i := 10) (v := _) rfl (by kernel_rfl) (by kernel_rfl) (by kernel_rfl) (fun _ _ _ h => h) (Or.inl ⟨by kernel_rfl, ?hdy20⟩) (by assumption) ?rdy20
          case hdy20 => intro W hW; obtain ⟨c0, c1, c2, c3⟩ := hW.v.cells; go_simp; all_goals with_reducible rfl
          change wpAnyH _ _ _ _ _ _ _ (Act.put _ (some 16) _) _
          simp only [Act.put, List.setIfInBounds_toArray, List.set_cons_zero, List.set_cons_succ]
          refine wpAnyH_ready (rs := [12]) (by kernel_rfl) (by simp) ?_
          refine AllReadyH.cons rfl (fun KK hK => ?_) AllReadyH.nil
          obtain ⟨k0, k1, k2, k3⟩ := hv.v.cells
          obtain ⟨z0, z1, z2, z3⟩ := hv.v.fz
          have q1 := hv.effSet 0 (.string D.name)
          have q2 := (hv.set0 (.string D.name)).effSet 1 (.slice (some ⟨b5, 0, none⟩) D.nc c5)
          have q3 := ((hv.set0 (.string D.name)).set1 (.slice (some ⟨b5, 0, none⟩) D.nc c5)).effSet 2 (.slice (some ⟨b9, 0, none⟩) D.np c9)
          have q4 := (((hv.set0 (.string D.name)).set1 (.slice (some ⟨b5, 0, none⟩) D.nc c5)).set2 (.slice (some ⟨b9, 0, none⟩) D.np c9)).effSet 3 (.slice none 0 0)
          have hEx := ((q1.trans q2).trans q3).trans q4
          have hB2 := hEx.on hB
          have hc2 := own_eff hc hEx (by decide)
          have hp2 := own_eff hp hEx (by decide)
          have hv2 := (((hv.set0 (.string D.name)).set1 (.slice (some ⟨b5, 0, none⟩) D.nc c5)).set2 (.slice (some ⟨b9, 0, none⟩) D.np c9)).set3 (.slice none 0 0)
          have hb2 := ((((hb.other (C := Bo) (i := 0) (u := .string D.name) (by omega)).other (C := Bo) (i := 1) (u := (.slice (some ⟨b5, 0, none⟩) D.nc c5)) (by omega)).other (C := Bo) (i := 2) (u := (.slice (some ⟨b9, 0, none⟩) D.np c9)) (by omega)).other (C := Bo) (i := 3) (u := (.slice none 0 0)) (by omega))
          have hr2 := ((((hr.other (C := Bo) (i := 0) (u := .string D.name) (by omega)).other (C := Bo) (i := 1) (u := (.slice (some ⟨b5, 0, none⟩) D.nc c5)) (by omega)).other (C := Bo) (i := 2) (u := (.slice (some ⟨b9, 0, none⟩) D.np c9)) (by omega)).other (C := Bo) (i := 3) (u := (.slice none 0 0)) (by omega))
          have HS : Hid (SC w Bo bc cc bp cp ia ic D 0 _) := ⟨b5, c5, b9, c9, (.slice none 0 0), fun _ => 0, fun _ => 0, ⟨_, _, _, rfl⟩, hBo, hB2, hb2, hr2, hv2, ⟨hc2, hp2, own_nil9, Pts.none _ _ _ _ _ _, sm_ni hsm (Nat.zero_le _)⟩⟩
          go_simp
          clear k0 k1 k2 k3 z0 z1 z2 z3 q1 q2 q3 q4 hEx hB2 hc2 hp2 hv2 hr2 hr hv hB hc hp
          refine hK.out _ _ hb2 (fun hHeld => ?_)
          clear hK KK
          try simp only [Act.put, List.setIfInBounds_toArray, List.set_cons_zero, List.set_cons_succ]
          refine wpAnyH_done (by kernel_rfl) ?_ _
          clear hHeld hb2 hb
          go_wp2_with fail
          go_meet
          exact ⟨Bo, rfl, HS.out⟩
      ·
        go_simp
        have hsz := hB.size
        have hEx := Eff.alloc w 70 wz41 (.cells #[] 51)
        have hp := World.ownsRow_lit (base := w.heap.size) (e := 51) (size := 2) wz41 #[] 0 hsz (by unfold maxLen; omega) rfl
        replace hb := hb.eff hEx (by decide)
        replace hr := hr.eff hEx (by decide)
        replace hB := hEx.on hB
        replace hv := hv.eff hEx (by decide)
        obtain ⟨wz49, hnw⟩ : ∃ x, Hid (x = wz41.alloc (.cells #[] 51)) := ⟨_, rfl⟩
        obtain ⟨b6, hnb⟩ : ∃ x, Hid (x = wz41.heap.size) := ⟨_, rfl⟩
        rw [← hnw.out] at hb hr hB hp hv ⊢
        rw [← hnb.out] at hp ⊢
        clear hEx hsz hnw hnb
        refine hK.out _ _ hb (fun hHeld => ?_)
        clear hK KK
        try simp only [Act.put, List.setIfInBounds_toArray, List.set_cons_zero, List.set_cons_succ]
        refine wpAnyH_ready (rs := [2]) (by kernel_rfl) (by simp) ?_
        refine AllReadyH.cons rfl (fun KK hK => ?_) AllReadyH.nil
        go_simp
        have hsz := hB.size
        have hEx := Eff.alloc w 70 wz49 (.cells #[] 49)
        have hc := World.ownsRow_lit (base := w.heap.size) (e := 49) (size := 3) wz49 #[] 0 hsz (by unfold maxLen; omega) rfl
        replace hb := hb.eff hEx (by decide)
        replace hr := hr.eff hEx (by decide)
        replace hB := hEx.on hB
        replace hp := own_eff hp hEx (by decide)
        replace hv := hv.eff hEx (by decide)
        obtain ⟨wz50, hnw⟩ : ∃ x, Hid (x = wz49.alloc (.cells #[] 49)) := ⟨_, rfl⟩
        obtain ⟨b2, hnb⟩ : ∃ x, Hid (x = wz49.heap.size) := ⟨_, rfl⟩
        rw [← hnw.out] at hb hr hB hc hp hv ⊢
        rw [← hnb.out] at hc ⊢
        clear hEx hsz hnw hnb
        refine hK.out _ _ hb (fun hHeld => ?_)
        clear hK KK
        try simp only [Act.put, List.setIfInBounds_toArray, List.set_cons_zero, List.set_cons_succ]
        refine wpAnyH_ready (rs := [5]) (by kernel_rfl) (by simp) ?_
        refine AllReadyH.cons rfl (fun KK hK => ?_) AllReadyH.nil
        have hnn := cview_news (hCv.below hB)
        have hsz := hB.size
        rw [if_pos (by kernel_rfl)]
        refine wp_append_own _ (.tmp 8) (.tmp 10) 24 rfl w.heap.size 49 iC (.agg #[.string ⟨#[]⟩, .int .i64 0, .bool false]) 3 32 Tryz.underlying24 hiC.1 hiC.2.1 hiC.2.2.1 hiC.2.2.2 rfl (by decide) _ 0 [] rfl hc ⟨bc, 0, none⟩ D.nc cc _ rfl (lenC _) hnn (oneC _) (by unfold maxLen; omega) (by omega) hsz ?_
        intro vX wz51 hOX hgX hnX
        have hEx := Eff.grown hc hgX
        replace hb := hb.eff hEx (by decide)
        replace hr := hr.eff hEx (by decide)
        replace hB := hEx.on hB
        replace hp := own_eff hp hEx (by decide)
        replace hv := hv.eff hEx (by decide)
        obtain ⟨b5, c5, rfl, hOY⟩ := own_new9 hOX hnX (show Value.slice (some ⟨b2, 0, none⟩) 0 0 ≠ Value.slice none 0 0 by simp)
        clear hc
        have hc := hOY
        clear hEx hOX hgX hnX hOY hnn hsz
        refine hK.out _ _ hb (fun hHeld => ?_)
        clear hK KK
        change wpAnyH _ _ _ _ _ _ _ (Act.put _ (some 11) _) _
        try simp only [Act.put, List.setIfInBounds_toArray, List.set_cons_zero, List.set_cons_succ]
        refine wpAnyH_ready (rs := [9]) (by kernel_rfl) (by simp) ?_
        refine AllReadyH.cons rfl (fun KK hK => ?_) AllReadyH.nil
        have hnn := bview_news (hBv.below hB)
        have hsz := hB.size
        rw [if_pos (by kernel_rfl)]
        refine wp_append_own _ (.tmp 12) (.tmp 14) 25 rfl w.heap.size 51 iB (.agg #[.int .i64 0, .bool false]) 2 16 Tryz.underlying25 hiB.1 hiB.2.1 hiB.2.2.1 hiB.2.2.2 rfl (by decide) _ 0 [] rfl hp ⟨bp, 0, none⟩ D.np cp _ rfl (lenB _) hnn (oneB9 _) (by unfold maxLen; omega) (by omega) hsz ?_
        intro vX wz52 hOX hgX hnX
        have hEx := Eff.grown hp hgX
        replace hb := hb.eff hEx (by decide)
        replace hr := hr.eff hEx (by decide)
        replace hB := hEx.on hB
        replace hc := own_eff hc hEx (by decide)
        replace hv := hv.eff hEx (by decide)
        obtain ⟨b9, c9, rfl, hOY⟩ := own_new9 hOX hnX (show Value.slice (some ⟨b6, 0, none⟩) 0 0 ≠ Value.slice none 0 0 by simp)
        clear hp
        have hp := hOY
        clear hEx hOX hgX hnX hOY hnn hsz
        refine hK.out _ _ hb (fun hHeld => ?_)
        clear hK KK
        change wpAnyH _ _ _ _ _ _ _ (Act.put _ (some 15) _) _
        try simp only [Act.put, List.setIfInBounds_toArray, List.set_cons_zero, List.set_cons_succ]
        refine' wpAnyH_take (i := 10) (v := _) rfl (by kernel_rfl) (by kernel_rfl) (by kernel_rfl) (fun _ _ _ h => h) (Or.inl ⟨by kernel_rfl, ?hdy21⟩) (by assumption) ?rdy21
        case hdy21 => intro W hW; obtain ⟨c0, c1, c2, c3⟩ := hW.v.cells; go_simp; all_goals with_reducible rfl
        change wpAnyH _ _ _ _ _ _ _ (Act.put _ (some 16) _) _
        simp only [Act.put, List.setIfInBounds_toArray, List.set_cons_zero, List.set_cons_succ]
        refine wpAnyH_ready (rs := [12]) (by kernel_rfl) (by simp) ?_
        refine AllReadyH.cons rfl (fun KK hK => ?_) AllReadyH.nil
        obtain ⟨k0, k1, k2, k3⟩ := hv.v.cells
        obtain ⟨z0, z1, z2, z3⟩ := hv.v.fz
        have q1 := hv.effSet 0 (.string D.name)
        have q2 := (hv.set0 (.string D.name)).effSet 1 (.slice (some ⟨b5, 0, none⟩) D.nc c5)
        have q3 := ((hv.set0 (.string D.name)).set1 (.slice (some ⟨b5, 0, none⟩) D.nc c5)).effSet 2 (.slice (some ⟨b9, 0, none⟩) D.np c9)
        have q4 := (((hv.set0 (.string D.name)).set1 (.slice (some ⟨b5, 0, none⟩) D.nc c5)).set2 (.slice (some ⟨b9, 0, none⟩) D.np c9)).effSet 3 (.slice none 0 0)
        have hEx := ((q1.trans q2).trans q3).trans q4
        have hB2 := hEx.on hB
        have hc2 := own_eff hc hEx (by decide)
        have hp2 := own_eff hp hEx (by decide)
        have hv2 := (((hv.set0 (.string D.name)).set1 (.slice (some ⟨b5, 0, none⟩) D.nc c5)).set2 (.slice (some ⟨b9, 0, none⟩) D.np c9)).set3 (.slice none 0 0)
        have hb2 := ((((hb.other (C := Bo) (i := 0) (u := .string D.name) (by omega)).other (C := Bo) (i := 1) (u := (.slice (some ⟨b5, 0, none⟩) D.nc c5)) (by omega)).other (C := Bo) (i := 2) (u := (.slice (some ⟨b9, 0, none⟩) D.np c9)) (by omega)).other (C := Bo) (i := 3) (u := (.slice none 0 0)) (by omega))
        have hr2 := ((((hr.other (C := Bo) (i := 0) (u := .string D.name) (by omega)).other (C := Bo) (i := 1) (u := (.slice (some ⟨b5, 0, none⟩) D.nc c5)) (by omega)).other (C := Bo) (i := 2) (u := (.slice (some ⟨b9, 0, none⟩) D.np c9)) (by omega)).other (C := Bo) (i := 3) (u := (.slice none 0 0)) (by omega))
        have HS : Hid (SC w Bo bc cc bp cp ia ic D 0 _) := ⟨b5, c5, b9, c9, (.slice none 0 0), fun _ => 0, fun _ => 0, ⟨_, _, _, rfl⟩, hBo, hB2, hb2, hr2, hv2, ⟨hc2, hp2, own_nil9, Pts.none _ _ _ _ _ _, sm_ni hsm (Nat.zero_le _)⟩⟩
        go_simp
        clear k0 k1 k2 k3 z0 z1 z2 z3 q1 q2 q3 q4 hEx hB2 hc2 hp2 hv2 hr2 hr hv hB hc hp
        refine hK.out _ _ hb2 (fun hHeld => ?_)
        clear hK KK
        try simp only [Act.put, List.setIfInBounds_toArray, List.set_cons_zero, List.set_cons_succ]
        refine wpAnyH_done (by kernel_rfl) ?_ _
        clear hHeld hb2 hb
        go_wp2_with fail
        go_meet
        exact ⟨Bo, rfl, HS.out⟩
  case rest =>
    clear hb hr hB w0
    obtain ⟨Bo, rfl, hS⟩ := hcut
    go_wp2
    go_loopg [4] D.ni (fun q i wr => ∃ k : Nat, k ≤ D.ni ∧ q = D.ni - k ∧ i = .int .i64 k ∧ SC w Bo bc cc bp cp ia ic D k wr)
    case atStart => exact ⟨0, Nat.zero_le _, rfl, rfl, hS⟩
    case round =>
      clear hS
      obtain ⟨k, hk, rfl, rfl, b5, c5, b9, c9, vi, A, C, hsl, hBo, hB, hb, hr, hv, hT⟩ := hrel
      obtain ⟨x0, x1, x2, x3⟩ := hb.v.cells
      by_cases hlt : k < D.ni
      · have hlt2 : (k : Int) < (D.ni : Int) := by omega
        obtain ⟨ib, rfl, hib, hcell⟩ := (hIv.below hB).cells (by omega)
        obtain ⟨n0, n1, pa, pc, n2, hPv⟩ := hcell k hlt
        have hxn := (hsm.idx k hlt).2
        have hxm := (hsm.idx k hlt).1
        have hsz := hB.size
        have l1 := hb.v.lt
        have l2 := hr.v.lt
        have l3 := hv.v.lt
        have hx := V3.new wr 60 (.string (D.idx k).name) (.bool (D.idx k).uniq) (.slice (some ⟨pa, 0, none⟩) (D.idx k).n pc)
        have hEx := Eff.alloc w 70 wr (.cells #[.string (D.idx k).name, .bool (D.idx k).uniq, .slice (some ⟨pa, 0, none⟩) (D.idx k).n pc] 60)
        have hne : vi.ownBlock ≠ some wr.heap.size := fun e => Nat.lt_irrefl _ (own_blk_lt hT.idx e)
        replace hb := hb.eff hEx (by decide)
        replace hr := hr.eff hEx (by decide)
        replace hv := hv.eff hEx (by decide)
        replace hT := hT.eff hEx (by decide) (by decide) (by decide)
        replace hB := hEx.on hB
        replace hPv := hPv.below ((Below.refl wr.heap.size wr).alloc (Nat.le_refl _) (.cells #[.string (D.idx k).name, .bool (D.idx k).uniq, .slice (some ⟨pa, 0, none⟩) (D.idx k).n pc] 60))
        clear hEx hcell
        go_upto_region 6 with fail
        clear x0 x1 x2 x3 n0 n1 n2
        obtain ⟨w1, hw1⟩ : ∃ x, Hid (x = wr.alloc (.cells #[.string (D.idx k).name, .bool (D.idx k).uniq, .slice (some ⟨pa, 0, none⟩) (D.idx k).n pc] 60)) := ⟨_, rfl⟩
        obtain ⟨Bx, hBx⟩ : ∃ x, Hid (x = wr.heap.size) := ⟨_, rfl⟩
        rw [← hw1.out] at hb hr hv hT hB hPv hx ⊢
        rw [← hBx.out] at hx hne l1 l2 l3 hsz ⊢
        clear hw1 hBx
        obtain ⟨x0, x1, x2⟩ := hx.cells
        have hxl := hx.lt
        have hs1 := hB.size
        have hO0 := World.ownsRow_lit (base := w1.heap.size) (e := 51) (size := 2) w1 #[] 0 (Nat.le_refl _) (by unfold maxLen; omega) rfl
        have hnn := bview_news (hPv.below ((Below.refl w1.heap.size w1).alloc (Nat.le_refl _) (.cells #[] 51)))
        go_wp2_with (at_builtin; refine wpList_append_own _ rfl (.tmp 29) (.tmp 31) 25 rfl w1.heap.size 51 iB (.agg #[.int .i64 0, .bool false]) 2 16 Tryz.underlying25 hiB.1 hiB.2.1 hiB.2.2.1 hiB.2.2.2 rfl (by decide) _ 0 [] rfl hO0 ⟨pa, 0, none⟩ (D.idx k).n pc _ rfl (lenB _) hnn (oneB9 _) (by unfold maxLen; omega) (by omega) (by simp) ?_)
        intro vX w2 hOX hgX hnX
        have hBl := below_grown hgX
        obtain ⟨pb, pk, rfl, hOY⟩ := own_some9 hOX hnX
        have hpb := (own_lt9 hOY).2
        have hb9 := (own_lt9 hT.pri).1
        have hP : PtAt w pb pk (D.idx k) w2 := ⟨own_down9 hOY hs1⟩
        replace hb := hb.below hBl
        replace hr := hr.below hBl
        replace hv := hv.below hBl
        replace hT := hT.below hBl
        replace hx := hx.below hBl
        replace hB := hB.trans (hBl.mono hs1)
        clear hBl hOX hgX hnX hOY hnn hO0 x0 x1 x2 hPv
        obtain ⟨x0, x1, x2⟩ := hx.cells
        obtain ⟨z0, z1, z2⟩ := hx.fz
        obtain ⟨hT2, hEx⟩ := hT.setX hx hsz hne 2 (.slice (some ⟨pb, 0, none⟩) (D.idx k).n pk)
        have hP2 : PtAt w pb pk (D.idx k) _ := ⟨own_eff hP.own hEx (by decide)⟩
        replace hb := hb.other (C := Bx) (i := 2) (u := .slice (some ⟨pb, 0, none⟩) (D.idx k).n pk) (by omega)
        replace hr := hr.other (C := Bx) (i := 2) (u := .slice (some ⟨pb, 0, none⟩) (D.idx k).n pk) (by omega)
        replace hv := hv.other (C := Bx) (i := 2) (u := .slice (some ⟨pb, 0, none⟩) (D.idx k).n pk) (by omega)
        have hx3 := hx.set2 (.slice (some ⟨pb, 0, none⟩) (D.idx k).n pk)
        replace hB := hEx.on hB
        clear hEx hT hP
        go_upto_region 7 with fail
        clear x0 x1 x2 z0 z1 z2 hx
        obtain ⟨w3, hw3⟩ : ∃ x, Hid (x = w2.setCell ⟨Bx, 2, none⟩ (.slice (some ⟨pb, 0, none⟩) (D.idx k).n pk)) := ⟨_, rfl⟩
        rw [← hw3.out] at hb hr hv hT2 hB hx3 hP2 ⊢
        clear hw3
        obtain ⟨x0, x1, x2⟩ := hx3.cells
        obtain ⟨y0, y1, y2, y3⟩ := hv.v.cells
        have hs3 := hB.size
        obtain ⟨i1, i2, i3, rfl⟩ := hsl
        have hcl := cells_idx9 w3 (D.idx k).name (D.idx k).uniq (some ⟨pb, 0, none⟩) (D.idx k).n pk
        have hEy := Eff.alloc w 70 w3 (.cells #[.string (D.idx k).name, .bool (D.idx k).uniq, .slice (some ⟨pb, 0, none⟩) (D.idx k).n pk] 60)
        replace hb := hb.eff hEy (by decide)
        replace hr := hr.eff hEy (by decide)
        replace hv := hv.eff hEy (by decide)
        replace hT2 := hT2.eff hEy (by decide) (by decide) (by decide)
        replace hP2 : PtAt w pb pk (D.idx k) _ := ⟨own_eff hP2.own hEy (by decide)⟩
        replace hB := hEy.on hB
        clear hEy hx3
        go_wp2_with (at_builtin; refine wpList_append_own _ rfl (.tmp 35) (.tmp 37) 26 rfl w.heap.size 60 iI (.agg #[.string ⟨#[]⟩, .bool false, .slice none 0 0]) 3 48 Tryz.underlying26 hiI.1 hiI.2.1 hiI.2.2.1 hiI.2.2.2 rfl (by decide) _ _ _ rfl hT2.idx ⟨w3.heap.size, 0, none⟩ 1 1 [.string (D.idx k).name, .bool (D.idx k).uniq, .slice (some ⟨pb, 0, none⟩) (D.idx k).n pk] rfl rfl hcl (one_idx9 _ _ _ _ _) (by unfold maxLen; show k + 1 ≤ _; omega) (by show (k + 1) * 48 ≤ _; omega) (by simp; omega) ?_)
        clear x0 x1 x2 y0 y1 y2 y3
        intro vX w4 hOX hgX hnX
        have hEx := Eff.grown hT2.idx hgX
        have hT3 := hT2.addIdx (D.idx k) pb pk hOX hP2 (by simp only [Value.ownBlock, ne_eq, Option.some.injEq]; omega) hEx ⟨hxm, hxn⟩ (by show k + 1 ≤ 1000; omega)
        obtain ⟨b8, c8, rfl⟩ := own_succG hOX
        replace hb := hb.eff hEx (by decide)
        replace hr := hr.eff hEx (by decide)
        replace hv := hv.eff hEx (by decide)
        replace hB := hEx.on hB
        clear hEx hT2 hOX hgX hnX hcl hP2
        obtain ⟨y0, y1, y2, y3⟩ := hv.v.cells
        obtain ⟨z0, z1, z2, z3⟩ := hv.v.fz
        have hEz := hv.effSet 3 (.slice (some ⟨b8, 0, none⟩) (k + 1) c8)
        replace hT3 := hT3.eff hEz (by decide) (by decide) (by decide)
        replace hB := hEz.on hB
        replace hb := hb.other (C := Bo) (i := 3) (u := .slice (some ⟨b8, 0, none⟩) (k + 1) c8) (by omega)
        replace hr := hr.other (C := Bo) (i := 3) (u := .slice (some ⟨b8, 0, none⟩) (k + 1) c8) (by omega)
        replace hv := hv.set3 (.slice (some ⟨b8, 0, none⟩) (k + 1) c8)
        simp only [upd_self] at hT3
        have HS : Hid (SC w Bo bc cc bp cp (some ⟨ib, 0, none⟩) ic D (k + 1) _) := ⟨b5, c5, b9, c9, _, _, _, ⟨_, _, _, rfl⟩, hBo, hB, hb, hr, hv, hT3⟩
        clear hEz hT3 hB hb hr hv
        go_wp2
        go_roundg (D.ni - (k + 1))
        case measure => omega
        case rel => exact ⟨k + 1, by omega, rfl, by go_num, HS.out⟩
      · obtain rfl : k = D.ni := by omega
        have hlt2 : ¬ (D.ni : Int) < (D.ni : Int) := by omega
        obtain ⟨i1, i2, i3, rfl⟩ := hsl
        obtain ⟨y0, y1, y2, y3⟩ := hv.v.cells
        obtain ⟨p0, p1, p2, p3⟩ := hr.v.cells
        obtain ⟨z0, z1, z2, z3⟩ := hr.v.fz
        obtain ⟨g0, g1, g2, g3⟩ := ((((hr.set0 (.string D.name)).set1 (.slice (some ⟨b5, 0, none⟩) D.nc c5)).set2 (.slice (some ⟨b9, 0, none⟩) D.np c9)).set3 (.slice i1 i2 i3)).v.cells
        have q1 := hr.effSet 0 (.string D.name)
        have q2 := (hr.set0 (.string D.name)).effSet 1 (.slice (some ⟨b5, 0, none⟩) D.nc c5)
        have q3 := ((hr.set0 (.string D.name)).set1 (.slice (some ⟨b5, 0, none⟩) D.nc c5)).effSet 2 (.slice (some ⟨b9, 0, none⟩) D.np c9)
        have q4 := (((hr.set0 (.string D.name)).set1 (.slice (some ⟨b5, 0, none⟩) D.nc c5)).set2 (.slice (some ⟨b9, 0, none⟩) D.np c9)).effSet 3 (.slice i1 i2 i3)
        have hE := ((q1.trans q2).trans q3).trans q4
        have HD : Hid (Copied w (.slice (some ⟨b5, 0, none⟩) D.nc c5) (.slice (some ⟨b9, 0, none⟩) D.np c9) (.slice i1 i2 i3) D _) := ⟨⟨A, C, hT.eff hE (by decide) (by decide) (by decide)⟩, hE.on hB⟩
        have hB2 : ¬ (Bo = w.heap.size) := by omega
        have hB3 : ¬ (Bo = w.heap.size + 1) := by omega
        clear q1 q2 q3 q4 hE hr hv hT hB hb
        go_wp2
        exact bodyPost_ret (v := .agg #[.string D.name, .slice (some ⟨b5, 0, none⟩) D.nc c5, .slice (some ⟨b9, 0, none⟩) D.np c9, .slice i1 i2 i3]) (by simp [results, Tryz.results18, go_sem, g0, g1, g2, g3]) rfl ⟨b5, c5, b9, c9, _, _, _, rfl, HD.out⟩
end Go.Proofs.YtfjlmkphncigladGreatDoor

