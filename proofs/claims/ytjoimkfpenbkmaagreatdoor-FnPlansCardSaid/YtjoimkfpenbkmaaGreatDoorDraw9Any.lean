/-
  Draw9Any
-/
import Derived.Test.YtjoimkfpenbkmaaGreatDoorDraw9Tab
import Derived.Test.YtjoimkfpenbkmaaGreatDoorAnyKit9
import Derived.Deep.CutBlock
/-
  The draw of a table, bent or not.
-/
namespace Go.Proofs.YtjoimkfpenbkmaaGreatDoor
open Go.RowKit
set_option maxRecDepth 4000

def anyL0 : List ByteArray := [⟨#[]⟩, ⟨#[116, 97, 98, 108, 101]⟩, ⟨#[65]⟩, ⟨#[116, 50]⟩]
def anyL1 : List ByteArray := [⟨#[105, 100]⟩, ⟨#[97]⟩, ⟨#[105, 110, 116]⟩, ⟨#[]⟩]
def anyL6 : List ByteArray := [⟨#[117, 98]⟩, ⟨#[119]⟩, ⟨#[100, 101, 115, 99]⟩]
theorem any_few {l : List ByteArray} {z : ByteArray} (h : z ∈ l) (hl : l.all (fun x => decide (x.size ≤ 1000)) = true) : z.size ≤ 1000 := by
  have := List.all_eq_true.1 hl z h
  simpa using this
/-- The columns and the key lie in blocks. -/
def IsBl (a : Option Addr) (v : Value) : Prop := ∃ (b p n c : Nat), a = some ⟨b, 0, none⟩ ∧ v = .slice (some ⟨p, 0, none⟩) n c
/-- Behind the turn. -/
def Sa (w : World) (g : Nat) (ao : Option Addr) (n cap : Nat) (f : Nat → Int) (Bd : Nat) (W : World) : Prop :=
  ∃ (a : Option Addr) (cc m : Nat) (vp vi : Value) (D : PDef) (A C : Nat → Nat), m ≤ D.nc ∧ IsBl a vp ∧ IsSl vi ∧ Vd w w.heap.size (.string ⟨#[]⟩) (.slice none 0 0) (.slice none 0 0) (.slice none 0 0) W ∧ Vd w Bd (.string D.name) (.slice a m cc) vp vi W ∧ Tw w (.slice a D.nc cc) vp vi D A C W ∧ Cr w g ao n cap f W
/-- Columns are being added: N so far. -/
def S8 (w : World) (g : Nat) (ao : Option Addr) (n cap : Nat) (f : Nat → Int) (Bd N : Nat) (W : World) : Prop :=
  ∃ (bc cc bp cp : Nat) (vi : Value) (D : PDef) (A C : Nat → Nat), D.name = ⟨#[116]⟩ ∧ D.nc = N ∧ IsSl vi ∧ Vd w w.heap.size (.string ⟨#[]⟩) (.slice none 0 0) (.slice none 0 0) (.slice none 0 0) W ∧ Vd w Bd (.string ⟨#[116]⟩) (.slice (some ⟨bc, 0, none⟩) D.nc cc) (.slice (some ⟨bp, 0, none⟩) D.np cp) vi W ∧ Tb w (.slice (some ⟨bc, 0, none⟩) D.nc cc) (.slice (some ⟨bp, 0, none⟩) D.np cp) vi D A C W ∧ Cr w g ao n cap f W
/-- A table that was drawn, bent or not. -/
def DrewE (w : World) (g : Nat) (ao : Option Addr) (n cap : Nat) (f : Nat → Int) (a : Option Addr) (cc m : Nat) (vp vi : Value) (D : PDef) (W : World) : Prop :=
  ∃ (A C : Nat → Nat), m ≤ D.nc ∧ IsBl a vp ∧ IsSl vi ∧ Tw w (.slice a D.nc cc) vp vi D A C W ∧ Cr w g ao n cap f W

set_option maxRecDepth 20000 in
set_option maxHeartbeats 16000000 in
theorem l9Any_any (g : Nat) (ao : Option Addr) (n cap : Nat) (f : Nat → Int) (w : World) (hn : n ≤ 1048576) (hC : Cur w g ao n cap f) :
    Calls Tryz.prog 43 #[.pointer (some ⟨g, 0, none⟩)] w fun e w' => ∃ (a : Option Addr) (cc m : Nat) (vp vi : Value) (D : PDef), e = .returned (.agg #[.string D.name, .slice a m cc, vp, vi]) ∧ DrewE w g ao n cap f a cc m vp vi D w' := by
  obtain ⟨iC, hiC⟩ := infoCol9
  obtain ⟨iB, hiB⟩ := infoBy9
  obtain ⟨iI, hiI⟩ := infoIdx9
  have hR := Cr.start hC
  have hg := hR.lt
  clear hC
  have hr := Vd.new (w := w) (W := w) (Nat.le_refl _) (.string ⟨#[]⟩) (.slice none 0 0) (.slice none 0 0) (.slice none 0 0)
  replace hR := hR.eff (Eff.alloc w 129 w (.cells #[.string ⟨#[]⟩, (.slice none 0 0), (.slice none 0 0), (.slice none 0 0)] 28))
  have hI := l9Draw_any g ao n cap f ⟨#[116]⟩ (w.alloc (.cells #[.string ⟨#[]⟩, (.slice none 0 0), (.slice none 0 0), (.slice none 0 0)] 28)) hn (by decide) hR.cur
  go_enter Tryz.func43, Tryz.ntmps43
  go_wp2_with fail
  refine hI.mono ?_
  rintro e w1 ⟨bc, cc, bp, cp, N, M, vi, rfl, D, A, C, e1, rfl, rfl, e2, e3, e4, ⟨ia, nn, ic, rfl⟩, hT, hR1⟩
  clear hI
  have hnc4 : D.nc ≤ 4 := e2.2
  have hnc2 : 2 ≤ D.nc := e2.1
  have hnp1 : 0 < D.np := by omega
  have hnp2 : D.np ≤ 2 := e3.2
  have HQ : Hid (D.name = ⟨#[116]⟩ ∧ D.ni ≤ 2) := ⟨e1, e4⟩
  clear e1 e2 e3
  replace hr := hr.but hR1.but hg
  replace hR := hR.next hR1.cur hR1.but
  replace hT := hT.down (w := w) (by simp)
  clear hR1
  have hRlt := hr.v.lt
  have hd := Vd.new (w := w) (W := w1) hR.size (.string ⟨#[116]⟩) (.slice (some ⟨bc, 0, none⟩) D.nc cc) (.slice (some ⟨bp, 0, none⟩) D.np cp) (.slice ia nn ic)
  have hE := Eff.alloc w 129 w1 (.cells #[.string ⟨#[116]⟩, .slice (some ⟨bc, 0, none⟩) D.nc cc, .slice (some ⟨bp, 0, none⟩) D.np cp, .slice ia nn ic] 28)
  replace hr := hr.eff hE (by decide)
  replace hR := hR.eff hE
  replace hT := hT.eff hE (by decide) (by decide) (by decide)
  clear hE
  go_upto_region 2 with fail
  obtain ⟨w2, hw2⟩ : ∃ w2, Hid (w2 = w1.alloc (.cells #[.string ⟨#[116]⟩, .slice (some ⟨bc, 0, none⟩) D.nc cc, .slice (some ⟨bp, 0, none⟩) D.np cp, .slice ia nn ic] 28)) := ⟨_, rfl⟩
  obtain ⟨Bd, hBd⟩ : ∃ Bd, Hid (Bd = w1.heap.size) := ⟨_, rfl⟩
  have hRB : w.heap.size < Bd := by rw [hBd.out]; exact hRlt
  rw [← hw2.out] at hr hd hT hR ⊢
  rw [← hBd.out] at hd ⊢
  clear hw2 hBd hRlt
  obtain ⟨x0, x1, x2, x3⟩ := hd.v.cells
  have hnz : (0 : Int) < (D.nc : Int) := by omega
  go_wp2_with fail
  clear x0 x1 x2 x3
  refine (l1Below_any g ao n cap f (D.nc : Int) w2 hn (by omega) (by omega) hR.cur).mono ?_
  rintro e w3 ⟨x, rfl, hx0, hx1, hCx, hOx⟩
  replace hr := hr.but (But.ofOnly hOx) hg
  replace hd := hd.but (But.ofOnly hOx) hg
  replace hT := hT.but (But.ofOnly hOx) hg
  replace hR := hR.next hCx (But.ofOnly hOx)
  clear hCx hOx
  obtain ⟨k, rfl⟩ : ∃ k : Nat, x = k := ⟨x.toNat, by omega⟩
  have hkn : k < D.nc := by omega
  go_wp2_with fail
  refine (l1Below_any g ao n cap f 16 w3 hn (by omega) (by omega) hR.cur).mono ?_
  rintro e wq ⟨y, rfl, hy0, hy1, hCx, hOx⟩
  replace hr := hr.but (But.ofOnly hOx) hg
  replace hd := hd.but (But.ofOnly hOx) hg
  replace hT := hT.but (But.ofOnly hOx) hg
  replace hR := hR.next hCx (But.ofOnly hOx)
  clear hCx hOx w3 w2 w1
  go_upto_block 0 with fail
  go_cut [] (fun wx => Sa w g ao n cap f Bd wx)
  case first =>
    have hyy : y = 0 ∨ y = 1 ∨ y = 2 ∨ y = 3 ∨ y = 4 ∨ y = 5 ∨ y = 6 ∨ y = 7 ∨ y = 8 ∨ 9 ≤ y := by omega
    clear hy0
    rcases hyy with rfl | rfl | rfl | rfl | rfl | rfl | rfl | rfl | rfl | hy9
    · have hSt := l1Str_mem g ao n cap f anyL0 wq.heap.size wq rfl hn (by decide) (by decide) hR.cur
      unfold anyL0 at hSt
      go_wp2_with fail
      refine hSt.mono ?_
      rintro e w6 ⟨z, rfl, hz, hCx, hBx⟩
      replace hr := hr.but hBx hg
      replace hd := hd.but hBx hg
      replace hT := hT.but hBx hg
      replace hR := hR.next hCx hBx
      have hzs : z.size ≤ 1000 := any_few hz (by decide)
      clear hCx hBx hSt hz
      obtain ⟨x0, x1, x2, x3⟩ := hd.v.cells
      obtain ⟨z0, z1, z2, z3⟩ := hd.v.fz
      have hBdl := hd.v.lt
      have hE1 := hd.effSet 0 (.string z)
      replace hR := hR.eff hE1
      replace hT := hT.eff hE1 (by decide) (by decide) (by decide)
      replace hr := hr.other (C := Bd) (i := 0) (u := .string z) (by omega)
      replace hd := hd.set0 (.string z)
      have HS : Hid (Sa w g ao n cap f Bd _) := ⟨_, _, D.nc, _, _, { D with name := z }, A, C, Nat.le_refl _, ⟨_, _, _, _, rfl, rfl⟩, ⟨_, _, _, rfl⟩, hr, hd, (hT.setName z hzs).tw, hR⟩
      clear hE1 hT hr hd hR HQ
      go_wp2_with fail
      go_meet
      exact HS.out
    · go_wp2_with fail
      have hEx : Eff w 129 wq wq.drew := Eff.ofBelow (Below.refl _ _).drew
      replace hr := hr.eff hEx (by decide)
      replace hd := hd.eff hEx (by decide)
      replace hT := hT.eff hEx (by decide) (by decide) (by decide)
      replace hR := hR.eff hEx
      clear hEx
      refine wp_region_held_drew (S := (fun W => W.cell? ⟨Bd, 1, none⟩ = some (.slice (some ⟨bc, 0, none⟩) D.nc cc))) (by kernel_rfl) hd.v.cells.2.1 (fun hHeld => ?_)
      obtain ⟨wqd, hwqd⟩ : ∃ wqd, Hid (wqd = wq.drew) := ⟨_, rfl⟩
      rw [← hwqd.out] at hHeld hr hd hT hR ⊢
      refine' wpAnyH_take (i := 0) (v := _) rfl (by kernel_rfl) (by kernel_rfl) (by kernel_rfl) (fun _ _ _ h => h) (Or.inl ⟨by kernel_rfl, ?hqa1⟩) (by assumption) ?rqa1
      case hqa1 => intro W hW; have c1 := hW; go_simp; all_goals with_reducible rfl
      change wpAnyH _ _ _ _ _ _ _ (Act.put _ (some 22) _) _
      simp only [Act.put, List.setIfInBounds_toArray, List.set_cons_zero, List.set_cons_succ]
      refine' wpAnyH_take (i := 1) (v := _) rfl (by kernel_rfl) (by kernel_rfl) (by kernel_rfl) (fun _ _ _ h => h) (Or.inl ⟨by kernel_rfl, ?hqa2⟩) (by assumption) ?rqa2
      case hqa2 => intro W hW; have c1 := hW; go_simp; all_goals with_reducible rfl
      change wpAnyH _ _ _ _ _ _ _ (Act.put _ (some 23) _) _
      simp only [Act.put, List.setIfInBounds_toArray, List.set_cons_zero, List.set_cons_succ]
      refine' wpAnyH_take (i := 2) (v := _) rfl (by kernel_rfl) (by kernel_rfl) (by kernel_rfl) (fun _ _ _ h => h) (Or.inl ⟨by kernel_rfl, ?hqa3⟩) (by assumption) ?rqa3
      case hqa3 => intro W hW; have c1 := hW; go_simp; all_goals with_reducible rfl
      change wpAnyH _ _ _ _ _ _ _ (Act.put _ (some 24) _) _
      simp only [Act.put, List.setIfInBounds_toArray, List.set_cons_zero, List.set_cons_succ]
      refine' wpAnyH_take (i := 3) (v := _) rfl (by kernel_rfl) (by kernel_rfl) (by kernel_rfl) (fun _ _ _ h => h) (Or.inl ⟨by kernel_rfl, ?hqa4⟩) (by assumption) ?rqa4
      case hqa4 => intro W hW; have c1 := hW; go_simp; all_goals with_reducible rfl
      change wpAnyH _ _ _ _ _ _ _ (Act.put _ (some 25) _) _
      simp only [Act.put, List.setIfInBounds_toArray, List.set_cons_zero, List.set_cons_succ]
      refine wpAnyH_ready (rs := [4]) (by kernel_rfl) (by simp) ?_
      refine AllReadyH.cons rfl (fun KK hK => ?_) AllReadyH.nil
      go_simp
      have hEy := Eff.alloc w 129 wqd (.cells #[.string ⟨#[105, 100]⟩, .string ⟨#[97]⟩, .string ⟨#[105, 110, 116]⟩, .string ⟨#[]⟩] 9)
      refine hK.out _ _ (hd.eff hEy (by decide)).v.cells.2.1 (fun hHeld => ?_)
      clear hK KK
      try simp only [Act.put, List.setIfInBounds_toArray, List.set_cons_zero, List.set_cons_succ]
      refine wpAnyH_ready (rs := [5]) (by kernel_rfl) (by simp) ?_
      refine AllReadyH.cons rfl (fun KK hK => ?_) AllReadyH.nil
      have hSt := l1Str_mem g ao n cap f anyL1 wqd.heap.size wqd rfl hn (by decide) (by decide) hR.cur
      unfold anyL1 at hSt
      go_simp
      refine hSt.mono ?_
      rintro e w6 ⟨z, rfl, hz, hCx, hBx⟩
      replace hr := hr.but hBx hg
      replace hd := hd.but hBx hg
      replace hT := hT.but hBx hg
      replace hR := hR.next hCx hBx
      have hzs : z.size ≤ 1000 := any_few hz (by decide)
      clear hCx hBx hSt hz hEy
      go_wp2_with fail
      refine hK.out _ _ hd.v.cells.2.1 (fun hHeld => ?_)
      clear hK KK
      try simp only [Act.put, List.setIfInBounds_toArray, List.set_cons_zero, List.set_cons_succ]
      refine' wpAnyH_take (i := 6) (v := _) rfl (by kernel_rfl) (by kernel_rfl) (by kernel_rfl) (fun _ _ _ h => h) (Or.inl ⟨by kernel_rfl, ?hqa5⟩) (by assumption) ?rqa5
      case hqa5 => intro W hW; have c1 := hW; go_simp; all_goals with_reducible rfl
      change wpAnyH _ _ _ _ _ _ _ (Act.put _ (some 28) _) _
      simp only [Act.put, List.setIfInBounds_toArray, List.set_cons_zero, List.set_cons_succ]
      refine' wpAnyH_take (i := 7) (v := _) rfl (by kernel_rfl) (by kernel_rfl) (by kernel_rfl) (fun _ _ _ h => h) (Or.inl ⟨by kernel_rfl, ?hqa6⟩) (by assumption) ?rqa6
      case hqa6 => intro W hW; have c1 := hW; go_simp; all_goals with_reducible rfl
      change wpAnyH _ _ _ _ _ _ _ (Act.put _ (some 29) _) _
      simp only [Act.put, List.setIfInBounds_toArray, List.set_cons_zero, List.set_cons_succ]
      refine wpAnyH_ready (rs := [8]) (by kernel_rfl) (by simp) ?_
      refine AllReadyH.cons rfl (fun KK hK => ?_) AllReadyH.nil
      obtain ⟨hbc, hncc, y0, y1, y2⟩ := hT.colAt (i := k) hkn
      have hfz := own_fz9 hT.cols
      go_simp
      clear y0 y1 y2 hfz hbc hncc
      obtain ⟨hT2, hEx⟩ := hT.setCol (i := k) (j := 0) hkn (by omega) ⟨z, (D.col k).type, (D.col k).null⟩ (u := .string z) hzs rfl (fun j' h => by match j', h with | 0, h => (first | rfl | exact absurd rfl h) | 1, h => (first | rfl | exact absurd rfl h) | 2, h => (first | rfl | exact absurd rfl h) | _ + 3, _ => rfl)
      replace hr := hr.eff hEx (by decide)
      replace hd := hd.eff hEx (by decide)
      replace hR := hR.eff hEx
      clear hEx hT
      refine hK.out _ _ hd.v.cells.2.1 (fun hHeld => ?_)
      clear hK KK
      try simp only [Act.put, List.setIfInBounds_toArray, List.set_cons_zero, List.set_cons_succ]
      refine wpAnyH_done (by kernel_rfl) ?_ _
      have HS : Hid (Sa w g ao n cap f Bd _) := ⟨_, _, D.nc, _, _, { D with col := put D.col k ⟨z, (D.col k).type, (D.col k).null⟩ }, A, C, Nat.le_refl _, ⟨_, _, _, _, rfl, rfl⟩, ⟨_, _, _, rfl⟩, hr, (by show Vd w Bd (.string D.name) _ _ _ _; rw [HQ.out.1]; exact hd), hT2.tw, hR⟩
      clear hT2 hr hd hR HQ hHeld
      go_wp2_with fail
      go_meet
      exact HS.out
    · go_wp2_with fail
      have hEx : Eff w 129 wq wq.drew := Eff.ofBelow (Below.refl _ _).drew
      replace hr := hr.eff hEx (by decide)
      replace hd := hd.eff hEx (by decide)
      replace hT := hT.eff hEx (by decide) (by decide) (by decide)
      replace hR := hR.eff hEx
      clear hEx
      refine wp_region_held_drew (S := (fun W => W.cell? ⟨Bd, 1, none⟩ = some (.slice (some ⟨bc, 0, none⟩) D.nc cc))) (by kernel_rfl) hd.v.cells.2.1 (fun hHeld => ?_)
      obtain ⟨wqd, hwqd⟩ : ∃ wqd, Hid (wqd = wq.drew) := ⟨_, rfl⟩
      rw [← hwqd.out] at hHeld hr hd hT hR ⊢
      refine' wpAnyH_take (i := 0) (v := _) rfl (by kernel_rfl) (by kernel_rfl) (by kernel_rfl) (fun _ _ _ h => h) (Or.inl ⟨by kernel_rfl, ?hqb1⟩) (by assumption) ?rqb1
      case hqb1 => intro W hW; have c1 := hW; go_simp; all_goals with_reducible rfl
      change wpAnyH _ _ _ _ _ _ _ (Act.put _ (some 32) _) _
      simp only [Act.put, List.setIfInBounds_toArray, List.set_cons_zero, List.set_cons_succ]
      refine' wpAnyH_take (i := 1) (v := _) rfl (by kernel_rfl) (by kernel_rfl) (by kernel_rfl) (fun _ _ _ h => h) (Or.inl ⟨by kernel_rfl, ?hqb2⟩) (by assumption) ?rqb2
      case hqb2 => intro W hW; have c1 := hW; go_simp; all_goals with_reducible rfl
      change wpAnyH _ _ _ _ _ _ _ (Act.put _ (some 33) _) _
      simp only [Act.put, List.setIfInBounds_toArray, List.set_cons_zero, List.set_cons_succ]
      refine' wpAnyH_take (i := 2) (v := _) rfl (by kernel_rfl) (by kernel_rfl) (by kernel_rfl) (fun _ _ _ h => h) (Or.inl ⟨by kernel_rfl, ?hqb3⟩) (by assumption) ?rqb3
      case hqb3 => intro W hW; have c1 := hW; go_simp; all_goals with_reducible rfl
      change wpAnyH _ _ _ _ _ _ _ (Act.put _ (some 34) _) _
      simp only [Act.put, List.setIfInBounds_toArray, List.set_cons_zero, List.set_cons_succ]
      refine' wpAnyH_take (i := 3) (v := _) rfl (by kernel_rfl) (by kernel_rfl) (by kernel_rfl) (fun _ _ _ h => h) (Or.inl ⟨by kernel_rfl, ?hqb4⟩) (by assumption) ?rqb4
      case hqb4 => intro W hW; have c1 := hW; go_simp; all_goals with_reducible rfl
      change wpAnyH _ _ _ _ _ _ _ (Act.put _ (some 35) _) _
      simp only [Act.put, List.setIfInBounds_toArray, List.set_cons_zero, List.set_cons_succ]
      refine wpAnyH_ready (rs := [4]) (by kernel_rfl) (by simp) ?_
      refine AllReadyH.cons rfl (fun KK hK => ?_) AllReadyH.nil
      go_simp
      refine (l1Below_any g ao n cap f 6 _ hn (by omega) (by omega) hR.cur).mono ?_
      rintro e w6 ⟨t, rfl, ht0, ht1, hCx, hOx⟩
      replace hr := hr.but (But.ofOnly hOx) hg
      replace hd := hd.but (But.ofOnly hOx) hg
      replace hT := hT.but (But.ofOnly hOx) hg
      replace hR := hR.next hCx (But.ofOnly hOx)
      clear hCx hOx
      go_wp2_with fail
      refine hK.out _ _ hd.v.cells.2.1 (fun hHeld => ?_)
      clear hK KK
      try simp only [Act.put, List.setIfInBounds_toArray, List.set_cons_zero, List.set_cons_succ]
      refine' wpAnyH_take (i := 5) (v := _) rfl (by kernel_rfl) (by kernel_rfl) (by kernel_rfl) (fun _ _ _ h => h) (Or.inl ⟨by kernel_rfl, ?hqb5⟩) (by assumption) ?rqb5
      case hqb5 => intro W hW; have c1 := hW; go_simp; all_goals with_reducible rfl
      change wpAnyH _ _ _ _ _ _ _ (Act.put _ (some 37) _) _
      simp only [Act.put, List.setIfInBounds_toArray, List.set_cons_zero, List.set_cons_succ]
      refine' wpAnyH_take (i := 6) (v := _) rfl (by kernel_rfl) (by kernel_rfl) (by kernel_rfl) (fun _ _ _ h => h) (Or.inl ⟨by kernel_rfl, ?hqb6⟩) (by assumption) ?rqb6
      case hqb6 => intro W hW; have c1 := hW; go_simp; all_goals with_reducible rfl
      change wpAnyH _ _ _ _ _ _ _ (Act.put _ (some 38) _) _
      simp only [Act.put, List.setIfInBounds_toArray, List.set_cons_zero, List.set_cons_succ]
      refine wpAnyH_ready (rs := [7]) (by kernel_rfl) (by simp) ?_
      refine AllReadyH.cons rfl (fun KK hK => ?_) AllReadyH.nil
      obtain ⟨hbc, hncc, y0, y1, y2⟩ := hT.colAt (i := k) hkn
      have hfz := own_fz9 hT.cols
      go_simp
      clear y0 y1 y2 hfz hbc hncc
      obtain ⟨hT2, hEx⟩ := hT.setCol (i := k) (j := 1) hkn (by omega) ⟨(D.col k).name, t, (D.col k).null⟩ (u := .int .i64 t) (hT.sm.col k hkn) rfl (fun j' h => by match j', h with | 0, h => (first | rfl | exact absurd rfl h) | 1, h => (first | rfl | exact absurd rfl h) | 2, h => (first | rfl | exact absurd rfl h) | _ + 3, _ => rfl)
      replace hr := hr.eff hEx (by decide)
      replace hd := hd.eff hEx (by decide)
      replace hR := hR.eff hEx
      clear hEx hT
      refine hK.out _ _ hd.v.cells.2.1 (fun hHeld => ?_)
      clear hK KK
      try simp only [Act.put, List.setIfInBounds_toArray, List.set_cons_zero, List.set_cons_succ]
      refine wpAnyH_done (by kernel_rfl) ?_ _
      have HS : Hid (Sa w g ao n cap f Bd _) := ⟨_, _, D.nc, _, _, { D with col := put D.col k ⟨(D.col k).name, t, (D.col k).null⟩ }, A, C, Nat.le_refl _, ⟨_, _, _, _, rfl, rfl⟩, ⟨_, _, _, rfl⟩, hr, (by show Vd w Bd (.string D.name) _ _ _ _; rw [HQ.out.1]; exact hd), hT2.tw, hR⟩
      clear hT2 hr hd hR HQ hHeld
      go_wp2_with fail
      go_meet
      exact HS.out
    · go_wp2_with fail
      have hEx : Eff w 129 wq wq.drew := Eff.ofBelow (Below.refl _ _).drew
      replace hr := hr.eff hEx (by decide)
      replace hd := hd.eff hEx (by decide)
      replace hT := hT.eff hEx (by decide) (by decide) (by decide)
      replace hR := hR.eff hEx
      clear hEx
      refine wp_region_held_drew (S := (fun W => W.cell? ⟨Bd, 1, none⟩ = some (.slice (some ⟨bc, 0, none⟩) D.nc cc))) (by kernel_rfl) hd.v.cells.2.1 (fun hHeld => ?_)
      obtain ⟨wqd, hwqd⟩ : ∃ wqd, Hid (wqd = wq.drew) := ⟨_, rfl⟩
      rw [← hwqd.out] at hHeld hr hd hT hR ⊢
      refine' wpAnyH_take (i := 0) (v := _) rfl (by kernel_rfl) (by kernel_rfl) (by kernel_rfl) (fun _ _ _ h => h) (Or.inl ⟨by kernel_rfl, ?hqc1⟩) (by assumption) ?rqc1
      case hqc1 => intro W hW; have c1 := hW; go_simp; all_goals with_reducible rfl
      change wpAnyH _ _ _ _ _ _ _ (Act.put _ (some 41) _) _
      simp only [Act.put, List.setIfInBounds_toArray, List.set_cons_zero, List.set_cons_succ]
      refine' wpAnyH_take (i := 1) (v := _) rfl (by kernel_rfl) (by kernel_rfl) (by kernel_rfl) (fun _ _ _ h => h) (Or.inl ⟨by kernel_rfl, ?hqc2⟩) (by assumption) ?rqc2
      case hqc2 => intro W hW; have c1 := hW; go_simp; all_goals with_reducible rfl
      change wpAnyH _ _ _ _ _ _ _ (Act.put _ (some 42) _) _
      simp only [Act.put, List.setIfInBounds_toArray, List.set_cons_zero, List.set_cons_succ]
      refine' wpAnyH_take (i := 2) (v := _) rfl (by kernel_rfl) (by kernel_rfl) (by kernel_rfl) (fun _ _ _ h => h) (Or.inl ⟨by kernel_rfl, ?hqc3⟩) (by assumption) ?rqc3
      case hqc3 => intro W hW; have c1 := hW; go_simp; all_goals with_reducible rfl
      change wpAnyH _ _ _ _ _ _ _ (Act.put _ (some 43) _) _
      simp only [Act.put, List.setIfInBounds_toArray, List.set_cons_zero, List.set_cons_succ]
      refine' wpAnyH_take (i := 3) (v := _) rfl (by kernel_rfl) (by kernel_rfl) (by kernel_rfl) (fun _ _ _ h => h) (Or.inl ⟨by kernel_rfl, ?hqc4⟩) (by assumption) ?rqc4
      case hqc4 => intro W hW; have c1 := hW; go_simp; all_goals with_reducible rfl
      change wpAnyH _ _ _ _ _ _ _ (Act.put _ (some 44) _) _
      simp only [Act.put, List.setIfInBounds_toArray, List.set_cons_zero, List.set_cons_succ]
      refine' wpAnyH_take (i := 4) (v := _) rfl (by kernel_rfl) (by kernel_rfl) (by kernel_rfl) (fun _ _ _ h => h) (Or.inl ⟨by kernel_rfl, ?hqc5⟩) (by assumption) ?rqc5
      case hqc5 => intro W hW; have c1 := hW; go_simp; all_goals with_reducible rfl
      change wpAnyH _ _ _ _ _ _ _ (Act.put _ (some 45) _) _
      simp only [Act.put, List.setIfInBounds_toArray, List.set_cons_zero, List.set_cons_succ]
      refine' wpAnyH_take (i := 5) (v := _) rfl (by kernel_rfl) (by kernel_rfl) (by kernel_rfl) (fun _ _ _ h => h) (Or.inl ⟨by kernel_rfl, ?hqc6⟩) (by assumption) ?rqc6
      case hqc6 => intro W hW; have c1 := hW; go_simp; all_goals with_reducible rfl
      change wpAnyH _ _ _ _ _ _ _ (Act.put _ (some 46) _) _
      simp only [Act.put, List.setIfInBounds_toArray, List.set_cons_zero, List.set_cons_succ]
      refine' wpAnyH_take (i := 6) (v := _) rfl (by kernel_rfl) (by kernel_rfl) (by kernel_rfl) (fun _ _ _ h => h) (Or.inl ⟨by kernel_rfl, ?hqc7⟩) (by assumption) ?rqc7
      case hqc7 => intro W hW; have c1 := hW; go_simp; all_goals with_reducible rfl
      change wpAnyH _ _ _ _ _ _ _ (Act.put _ (some 47) _) _
      simp only [Act.put, List.setIfInBounds_toArray, List.set_cons_zero, List.set_cons_succ]
      refine' wpAnyH_take (i := 7) (v := _) rfl (by kernel_rfl) (by kernel_rfl) (by kernel_rfl) (fun _ _ _ h => h) (Or.inl ⟨by kernel_rfl, ?hqc8⟩) (by assumption) ?rqc8
      case hqc8 => intro W hW; have c1 := hW; go_simp; all_goals with_reducible rfl
      change wpAnyH _ _ _ _ _ _ _ (Act.put _ (some 48) _) _
      simp only [Act.put, List.setIfInBounds_toArray, List.set_cons_zero, List.set_cons_succ]
      refine wpAnyH_ready (rs := [8]) (by kernel_rfl) (by simp) ?_
      refine AllReadyH.cons rfl (fun KK hK => ?_) AllReadyH.nil
      obtain ⟨hbc, hncc, y0, y1, y2⟩ := hT.colAt (i := k) hkn
      go_simp
      clear y0 y1 y2 hbc hncc
      refine hK.out _ _ hd.v.cells.2.1 (fun hHeld => ?_)
      clear hK KK
      try simp only [Act.put, List.setIfInBounds_toArray, List.set_cons_zero, List.set_cons_succ]
      refine' wpAnyH_take (i := 9) (v := _) rfl (by kernel_rfl) (by kernel_rfl) (by kernel_rfl) (fun _ _ _ h => h) (Or.inl ⟨by kernel_rfl, ?hqc9⟩) (by assumption) ?rqc9
      case hqc9 => intro W hW; have c1 := hW; go_simp; all_goals with_reducible rfl
      change wpAnyH _ _ _ _ _ _ _ (Act.put _ (some 50) _) _
      simp only [Act.put, List.setIfInBounds_toArray, List.set_cons_zero, List.set_cons_succ]
      refine' wpAnyH_take (i := 10) (v := _) rfl (by kernel_rfl) (by kernel_rfl) (by kernel_rfl) (fun _ _ _ h => h) (Or.inl ⟨by kernel_rfl, ?hqc10⟩) (by assumption) ?rqc10
      case hqc10 => intro W hW; have c1 := hW; go_simp; all_goals with_reducible rfl
      change wpAnyH _ _ _ _ _ _ _ (Act.put _ (some 51) _) _
      simp only [Act.put, List.setIfInBounds_toArray, List.set_cons_zero, List.set_cons_succ]
      refine' wpAnyH_take (i := 11) (v := _) rfl (by kernel_rfl) (by kernel_rfl) (by kernel_rfl) (fun _ _ _ h => h) (Or.inl ⟨by kernel_rfl, ?hqc11⟩) (by assumption) ?rqc11
      case hqc11 => intro W hW; have c1 := hW; go_simp; all_goals with_reducible rfl
      change wpAnyH _ _ _ _ _ _ _ (Act.put _ (some 52) _) _
      simp only [Act.put, List.setIfInBounds_toArray, List.set_cons_zero, List.set_cons_succ]
      refine wpAnyH_ready (rs := [12]) (by kernel_rfl) (by simp) ?_
      refine AllReadyH.cons rfl (fun KK hK => ?_) AllReadyH.nil
      obtain ⟨hbc, hncc, y0, y1, y2⟩ := hT.colAt (i := k) hkn
      have hfz := own_fz9 hT.cols
      go_simp
      clear y0 y1 y2 hfz hbc hncc
      obtain ⟨hT2, hEx⟩ := hT.setCol (i := k) (j := 2) hkn (by omega) ⟨(D.col k).name, (D.col k).type, !(D.col k).null⟩ (u := .bool !(D.col k).null) (hT.sm.col k hkn) rfl (fun j' h => by match j', h with | 0, h => (first | rfl | exact absurd rfl h) | 1, h => (first | rfl | exact absurd rfl h) | 2, h => (first | rfl | exact absurd rfl h) | _ + 3, _ => rfl)
      replace hr := hr.eff hEx (by decide)
      replace hd := hd.eff hEx (by decide)
      replace hR := hR.eff hEx
      clear hEx hT
      refine hK.out _ _ hd.v.cells.2.1 (fun hHeld => ?_)
      clear hK KK
      try simp only [Act.put, List.setIfInBounds_toArray, List.set_cons_zero, List.set_cons_succ]
      refine wpAnyH_done (by kernel_rfl) ?_ _
      have HS : Hid (Sa w g ao n cap f Bd _) := ⟨_, _, D.nc, _, _, { D with col := put D.col k ⟨(D.col k).name, (D.col k).type, !(D.col k).null⟩ }, A, C, Nat.le_refl _, ⟨_, _, _, _, rfl, rfl⟩, ⟨_, _, _, rfl⟩, hr, (by show Vd w Bd (.string D.name) _ _ _ _; rw [HQ.out.1]; exact hd), hT2.tw, hR⟩
      clear hT2 hr hd hR HQ hHeld
      go_wp2_with fail
      go_meet
      exact HS.out
    · obtain ⟨x0, x1, x2, x3⟩ := hd.v.cells
      have hwn : IntKind.i64.wrap ((D.nc : Int) + 1) = (D.nc : Int) + 1 := by rw [IntKind.wrap_i64]; omega
      go_wp2_with fail
      clear x0 x1 x2 x3
      refine (l9Draw2_any g ao n cap f ((D.nc : Int) + 1) wq hn (by omega) (by omega) hR.cur).mono ?_
      rintro e w8 ⟨b8, c8, N8, rfl, h8, hN8, hO8, hC8, hB8⟩
      replace hO8 := own_down9 hO8 hR.size
      replace hr := hr.but hB8 hg
      replace hd := hd.but hB8 hg
      replace hT := hT.but hB8 hg
      replace hR := hR.next hC8 hB8
      clear hC8 hB8
      have hT2 := hT.newPri N8 h8 hO8 (by omega)
      obtain ⟨x0, x1, x2, x3⟩ := hd.v.cells
      obtain ⟨z0, z1, z2, z3⟩ := hd.v.fz
      have hBdl := hd.v.lt
      have hE1 := hd.effSet 2 (.slice (some ⟨b8, 0, none⟩) N8 c8)
      replace hR := hR.eff hE1
      replace hT2 := hT2.eff hE1 (by decide) (by decide) (by decide)
      replace hr := hr.other (C := Bd) (i := 2) (u := (.slice (some ⟨b8, 0, none⟩) N8 c8)) (by omega)
      replace hd := hd.set2 (.slice (some ⟨b8, 0, none⟩) N8 c8)
      have HS : Hid (Sa w g ao n cap f Bd _) := ⟨_, _, D.nc, _, _, { D with np := N8, pri := h8 }, A, C, Nat.le_refl _, ⟨_, _, _, _, rfl, rfl⟩, ⟨_, _, _, rfl⟩, hr, (by show Vd w Bd (.string D.name) _ _ _ _; rw [HQ.out.1]; exact hd), hT2, hR⟩
      clear hE1 hT hT2 hr hd hR HQ hO8
      go_wp2_with fail
      go_meet
      exact HS.out
    · go_wp2_with fail
      have hEx : Eff w 129 wq wq.drew := Eff.ofBelow (Below.refl _ _).drew
      replace hr := hr.eff hEx (by decide)
      replace hd := hd.eff hEx (by decide)
      replace hT := hT.eff hEx (by decide) (by decide) (by decide)
      replace hR := hR.eff hEx
      clear hEx
      refine wp_region_held_drew (S := (fun _ => True)) (by kernel_rfl) trivial (fun hHeld => ?_)
      obtain ⟨wqd, hwqd⟩ : ∃ wqd, Hid (wqd = wq.drew) := ⟨_, rfl⟩
      rw [← hwqd.out] at hr hd hT hR ⊢
      refine' wpAnyH_take (i := 0) (v := _) rfl (by kernel_rfl) (by kernel_rfl) (by kernel_rfl) (fun _ _ _ h => h) (Or.inl ⟨by kernel_rfl, ?hqe1⟩) (by assumption) ?rqe1
      case hqe1 => intro W hW; go_simp; all_goals with_reducible rfl
      change wpAnyH _ _ _ _ _ _ _ (Act.put _ (some 64) _) _
      simp only [Act.put, List.setIfInBounds_toArray, List.set_cons_zero, List.set_cons_succ]
      refine' wpAnyH_take (i := 2) (v := _) rfl (by kernel_rfl) (by kernel_rfl) (by kernel_rfl) (fun _ _ _ h => h) (Or.inl ⟨by kernel_rfl, ?hqe2⟩) (by assumption) ?rqe2
      case hqe2 => intro W hW; go_simp; all_goals with_reducible rfl
      change wpAnyH _ _ _ _ _ _ _ (Act.put _ (some 66) _) _
      simp only [Act.put, List.setIfInBounds_toArray, List.set_cons_zero, List.set_cons_succ]
      refine wpAnyH_ready (rs := [1, 3]) (by kernel_rfl) (by simp) ?_
      refine AllReadyH.cons rfl (fun KK hK => ?_) (AllReadyH.cons rfl (fun KK hK => ?_) AllReadyH.nil)
      ·
        obtain ⟨k0, k1, k2, k3⟩ := hd.v.cells
        go_simp
        clear k0 k1 k2 k3
        refine hK.out _ _ trivial (fun hHeld => ?_)
        clear hK KK
        try simp only [Act.put, List.setIfInBounds_toArray, List.set_cons_zero, List.set_cons_succ]
        refine wpAnyH_ready (rs := [3]) (by kernel_rfl) (by simp) ?_
        refine AllReadyH.cons rfl (fun KK hK => ?_) AllReadyH.nil
        obtain ⟨k0, k1, k2, k3⟩ := hd.v.cells
        go_simp
        clear k0 k1 k2 k3
        refine hK.out _ _ trivial (fun hHeld => ?_)
        clear hK KK
        try simp only [Act.put, List.setIfInBounds_toArray, List.set_cons_zero, List.set_cons_succ]
        refine' wpAnyH_take (i := 4) (v := _) rfl (by kernel_rfl) (by kernel_rfl) (by kernel_rfl) (fun _ _ _ h => h) (Or.inl ⟨by kernel_rfl, ?hqe3⟩) (by assumption) ?rqe3
        case hqe3 => intro W hW; go_simp; all_goals with_reducible rfl
        change wpAnyH _ _ _ _ _ _ _ (Act.put _ (some 68) _) _
        simp only [Act.put, List.setIfInBounds_toArray, List.set_cons_zero, List.set_cons_succ]
        refine wpAnyH_ready (rs := [5]) (by kernel_rfl) (by simp) ?_
        refine AllReadyH.cons rfl (fun KK hK => ?_) AllReadyH.nil
        obtain ⟨hbp, hnpc, y0, y1⟩ := hT.priAt (i := 0) hnp1
        simp only [Nat.zero_mul, Nat.zero_add] at y0 y1
        go_simp
        clear y0 y1 hbp hnpc
        refine hK.out _ _ trivial (fun hHeld => ?_)
        clear hK KK
        try simp only [Act.put, List.setIfInBounds_toArray, List.set_cons_zero, List.set_cons_succ]
        refine wpAnyH_ready (rs := [6]) (by kernel_rfl) (by simp) ?_
        refine AllReadyH.cons rfl (fun KK hK => ?_) AllReadyH.nil
        go_simp
        have hcl := cells_by9 wqd (D.pri 0).col (D.pri 0).desc
        have hs9 := hR.size
        have hEx := Eff.alloc w 129 wqd (.cells #[.int .i64 (D.pri 0).col, .bool (D.pri 0).desc] 78)
        replace hr := hr.eff hEx (by decide)
        replace hd := hd.eff hEx (by decide)
        replace hT := hT.eff hEx (by decide) (by decide) (by decide)
        replace hR := hR.eff hEx
        clear hEx
        refine hK.out _ _ trivial (fun hHeld => ?_)
        clear hK KK
        try simp only [Act.put, List.setIfInBounds_toArray, List.set_cons_zero, List.set_cons_succ]
        refine wpAnyH_ready (rs := [7]) (by kernel_rfl) (by simp) ?_
        refine AllReadyH.cons rfl (fun KK hK => ?_) AllReadyH.nil
        rw [if_pos (by kernel_rfl)]
        refine wp_append_own _ (.tmp 65) (.tmp 70) 25 rfl w.heap.size 78 iB (.agg #[.int .i64 0, .bool false]) 2 16 Tryz.underlying25 hiB.1 hiB.2.1 hiB.2.2.1 hiB.2.2.2 rfl (by decide) _ _ _ rfl hT.pri ⟨wqd.heap.size, 0, none⟩ 1 1 [.int .i64 (D.pri 0).col, .bool (D.pri 0).desc] rfl rfl hcl (one_by9 _ _) (by unfold maxLen; omega) (by omega) (by first | omega | (simp; omega)) ?_
        intro vX wa hOX hgX hnX
        have hEx := Eff.grown hT.pri hgX
        have hT2 := hT.growPri (D.pri 0) hOX hgX (by omega)
        obtain ⟨b9, c9, rfl⟩ := own_succG hOX
        replace hr := hr.eff hEx (by decide)
        replace hd := hd.eff hEx (by decide)
        replace hR := hR.eff hEx
        clear hEx hT hOX hgX hnX hcl
        refine hK.out _ _ trivial (fun hHeld => ?_)
        clear hK KK
        change wpAnyH _ _ _ _ _ _ _ (Act.put _ (some 71) _) _
        try simp only [Act.put, List.setIfInBounds_toArray, List.set_cons_zero, List.set_cons_succ]
        refine' wpAnyH_take (i := 8) (v := _) rfl (by kernel_rfl) (by kernel_rfl) (by kernel_rfl) (fun _ _ _ h => h) (Or.inl ⟨by kernel_rfl, ?hqe4⟩) (by assumption) ?rqe4
        case hqe4 => intro W hW; go_simp; all_goals with_reducible rfl
        change wpAnyH _ _ _ _ _ _ _ (Act.put _ (some 72) _) _
        simp only [Act.put, List.setIfInBounds_toArray, List.set_cons_zero, List.set_cons_succ]
        refine wpAnyH_ready (rs := [9]) (by kernel_rfl) (by simp) ?_
        refine AllReadyH.cons rfl (fun KK hK => ?_) AllReadyH.nil
        obtain ⟨k0, k1, k2, k3⟩ := hd.v.cells
        obtain ⟨z0, z1, z2, z3⟩ := hd.v.fz
        go_simp
        clear k0 k1 k2 k3 z0 z1 z2 z3
        have hEx := hd.effSet 2 (.slice (some ⟨b9, 0, none⟩) (D.np + 1) c9)
        replace hR := hR.eff hEx
        replace hT2 := hT2.eff hEx (by decide) (by decide) (by decide)
        replace hr := hr.other (C := Bd) (i := 2) (u := .slice (some ⟨b9, 0, none⟩) (D.np + 1) c9) (by omega)
        replace hd := hd.set2 (.slice (some ⟨b9, 0, none⟩) (D.np + 1) c9)
        clear hEx
        refine hK.out _ _ trivial (fun hHeld => ?_)
        clear hK KK
        try simp only [Act.put, List.setIfInBounds_toArray, List.set_cons_zero, List.set_cons_succ]
        refine wpAnyH_done (by kernel_rfl) ?_ _
        have HS : Hid (Sa w g ao n cap f Bd _) := ⟨_, _, D.nc, _, _, { D with np := D.np + 1, pri := upd D.pri D.np (D.pri 0) }, A, C, Nat.le_refl _, ⟨_, _, _, _, rfl, rfl⟩, ⟨_, _, _, rfl⟩, hr, (by show Vd w Bd (.string D.name) _ _ _ _; rw [HQ.out.1]; exact hd), hT2, hR⟩
        clear hT2 hr hd hR HQ hHeld
        go_wp2_with fail
        go_meet
        exact HS.out
      ·
        obtain ⟨k0, k1, k2, k3⟩ := hd.v.cells
        go_simp
        clear k0 k1 k2 k3
        refine hK.out _ _ trivial (fun hHeld => ?_)
        clear hK KK
        try simp only [Act.put, List.setIfInBounds_toArray, List.set_cons_zero, List.set_cons_succ]
        refine' wpAnyH_take (i := 4) (v := _) rfl (by kernel_rfl) (by kernel_rfl) (by kernel_rfl) (fun _ _ _ h => h) (Or.inl ⟨by kernel_rfl, ?hqe5⟩) (by assumption) ?rqe5
        case hqe5 => intro W hW; go_simp; all_goals with_reducible rfl
        change wpAnyH _ _ _ _ _ _ _ (Act.put _ (some 68) _) _
        simp only [Act.put, List.setIfInBounds_toArray, List.set_cons_zero, List.set_cons_succ]
        refine wpAnyH_ready (rs := [1, 5]) (by kernel_rfl) (by simp) ?_
        refine AllReadyH.cons rfl (fun KK hK => ?_) (AllReadyH.cons rfl (fun KK hK => ?_) AllReadyH.nil)
        ·
          obtain ⟨k0, k1, k2, k3⟩ := hd.v.cells
          go_simp
          clear k0 k1 k2 k3
          refine hK.out _ _ trivial (fun hHeld => ?_)
          clear hK KK
          try simp only [Act.put, List.setIfInBounds_toArray, List.set_cons_zero, List.set_cons_succ]
          refine wpAnyH_ready (rs := [5]) (by kernel_rfl) (by simp) ?_
          refine AllReadyH.cons rfl (fun KK hK => ?_) AllReadyH.nil
          obtain ⟨hbp, hnpc, y0, y1⟩ := hT.priAt (i := 0) hnp1
          simp only [Nat.zero_mul, Nat.zero_add] at y0 y1
          go_simp
          clear y0 y1 hbp hnpc
          refine hK.out _ _ trivial (fun hHeld => ?_)
          clear hK KK
          try simp only [Act.put, List.setIfInBounds_toArray, List.set_cons_zero, List.set_cons_succ]
          refine wpAnyH_ready (rs := [6]) (by kernel_rfl) (by simp) ?_
          refine AllReadyH.cons rfl (fun KK hK => ?_) AllReadyH.nil
          go_simp
          have hcl := cells_by9 wqd (D.pri 0).col (D.pri 0).desc
          have hs9 := hR.size
          have hEx := Eff.alloc w 129 wqd (.cells #[.int .i64 (D.pri 0).col, .bool (D.pri 0).desc] 78)
          replace hr := hr.eff hEx (by decide)
          replace hd := hd.eff hEx (by decide)
          replace hT := hT.eff hEx (by decide) (by decide) (by decide)
          replace hR := hR.eff hEx
          clear hEx
          refine hK.out _ _ trivial (fun hHeld => ?_)
          clear hK KK
          try simp only [Act.put, List.setIfInBounds_toArray, List.set_cons_zero, List.set_cons_succ]
          refine wpAnyH_ready (rs := [7]) (by kernel_rfl) (by simp) ?_
          refine AllReadyH.cons rfl (fun KK hK => ?_) AllReadyH.nil
          rw [if_pos (by kernel_rfl)]
          refine wp_append_own _ (.tmp 65) (.tmp 70) 25 rfl w.heap.size 78 iB (.agg #[.int .i64 0, .bool false]) 2 16 Tryz.underlying25 hiB.1 hiB.2.1 hiB.2.2.1 hiB.2.2.2 rfl (by decide) _ _ _ rfl hT.pri ⟨wqd.heap.size, 0, none⟩ 1 1 [.int .i64 (D.pri 0).col, .bool (D.pri 0).desc] rfl rfl hcl (one_by9 _ _) (by unfold maxLen; omega) (by omega) (by first | omega | (simp; omega)) ?_
          intro vX wa hOX hgX hnX
          have hEx := Eff.grown hT.pri hgX
          have hT2 := hT.growPri (D.pri 0) hOX hgX (by omega)
          obtain ⟨b9, c9, rfl⟩ := own_succG hOX
          replace hr := hr.eff hEx (by decide)
          replace hd := hd.eff hEx (by decide)
          replace hR := hR.eff hEx
          clear hEx hT hOX hgX hnX hcl
          refine hK.out _ _ trivial (fun hHeld => ?_)
          clear hK KK
          change wpAnyH _ _ _ _ _ _ _ (Act.put _ (some 71) _) _
          try simp only [Act.put, List.setIfInBounds_toArray, List.set_cons_zero, List.set_cons_succ]
          refine' wpAnyH_take (i := 8) (v := _) rfl (by kernel_rfl) (by kernel_rfl) (by kernel_rfl) (fun _ _ _ h => h) (Or.inl ⟨by kernel_rfl, ?hqe6⟩) (by assumption) ?rqe6
          case hqe6 => intro W hW; go_simp; all_goals with_reducible rfl
          change wpAnyH _ _ _ _ _ _ _ (Act.put _ (some 72) _) _
          simp only [Act.put, List.setIfInBounds_toArray, List.set_cons_zero, List.set_cons_succ]
          refine wpAnyH_ready (rs := [9]) (by kernel_rfl) (by simp) ?_
          refine AllReadyH.cons rfl (fun KK hK => ?_) AllReadyH.nil
          obtain ⟨k0, k1, k2, k3⟩ := hd.v.cells
          obtain ⟨z0, z1, z2, z3⟩ := hd.v.fz
          go_simp
          clear k0 k1 k2 k3 z0 z1 z2 z3
          have hEx := hd.effSet 2 (.slice (some ⟨b9, 0, none⟩) (D.np + 1) c9)
          replace hR := hR.eff hEx
          replace hT2 := hT2.eff hEx (by decide) (by decide) (by decide)
          replace hr := hr.other (C := Bd) (i := 2) (u := .slice (some ⟨b9, 0, none⟩) (D.np + 1) c9) (by omega)
          replace hd := hd.set2 (.slice (some ⟨b9, 0, none⟩) (D.np + 1) c9)
          clear hEx
          refine hK.out _ _ trivial (fun hHeld => ?_)
          clear hK KK
          try simp only [Act.put, List.setIfInBounds_toArray, List.set_cons_zero, List.set_cons_succ]
          refine wpAnyH_done (by kernel_rfl) ?_ _
          have HS : Hid (Sa w g ao n cap f Bd _) := ⟨_, _, D.nc, _, _, { D with np := D.np + 1, pri := upd D.pri D.np (D.pri 0) }, A, C, Nat.le_refl _, ⟨_, _, _, _, rfl, rfl⟩, ⟨_, _, _, rfl⟩, hr, (by show Vd w Bd (.string D.name) _ _ _ _; rw [HQ.out.1]; exact hd), hT2, hR⟩
          clear hT2 hr hd hR HQ hHeld
          go_wp2_with fail
          go_meet
          exact HS.out
        ·
          obtain ⟨hbp, hnpc, y0, y1⟩ := hT.priAt (i := 0) hnp1
          simp only [Nat.zero_mul, Nat.zero_add] at y0 y1
          go_simp
          clear y0 y1 hbp hnpc
          refine hK.out _ _ trivial (fun hHeld => ?_)
          clear hK KK
          try simp only [Act.put, List.setIfInBounds_toArray, List.set_cons_zero, List.set_cons_succ]
          refine wpAnyH_ready (rs := [1, 6]) (by kernel_rfl) (by simp) ?_
          refine AllReadyH.cons rfl (fun KK hK => ?_) (AllReadyH.cons rfl (fun KK hK => ?_) AllReadyH.nil)
          ·
            obtain ⟨k0, k1, k2, k3⟩ := hd.v.cells
            go_simp
            clear k0 k1 k2 k3
            refine hK.out _ _ trivial (fun hHeld => ?_)
            clear hK KK
            try simp only [Act.put, List.setIfInBounds_toArray, List.set_cons_zero, List.set_cons_succ]
            refine wpAnyH_ready (rs := [6]) (by kernel_rfl) (by simp) ?_
            refine AllReadyH.cons rfl (fun KK hK => ?_) AllReadyH.nil
            go_simp
            have hcl := cells_by9 wqd (D.pri 0).col (D.pri 0).desc
            have hs9 := hR.size
            have hEx := Eff.alloc w 129 wqd (.cells #[.int .i64 (D.pri 0).col, .bool (D.pri 0).desc] 78)
            replace hr := hr.eff hEx (by decide)
            replace hd := hd.eff hEx (by decide)
            replace hT := hT.eff hEx (by decide) (by decide) (by decide)
            replace hR := hR.eff hEx
            clear hEx
            refine hK.out _ _ trivial (fun hHeld => ?_)
            clear hK KK
            try simp only [Act.put, List.setIfInBounds_toArray, List.set_cons_zero, List.set_cons_succ]
            refine wpAnyH_ready (rs := [7]) (by kernel_rfl) (by simp) ?_
            refine AllReadyH.cons rfl (fun KK hK => ?_) AllReadyH.nil
            rw [if_pos (by kernel_rfl)]
            refine wp_append_own _ (.tmp 65) (.tmp 70) 25 rfl w.heap.size 78 iB (.agg #[.int .i64 0, .bool false]) 2 16 Tryz.underlying25 hiB.1 hiB.2.1 hiB.2.2.1 hiB.2.2.2 rfl (by decide) _ _ _ rfl hT.pri ⟨wqd.heap.size, 0, none⟩ 1 1 [.int .i64 (D.pri 0).col, .bool (D.pri 0).desc] rfl rfl hcl (one_by9 _ _) (by unfold maxLen; omega) (by omega) (by first | omega | (simp; omega)) ?_
            intro vX wa hOX hgX hnX
            have hEx := Eff.grown hT.pri hgX
            have hT2 := hT.growPri (D.pri 0) hOX hgX (by omega)
            obtain ⟨b9, c9, rfl⟩ := own_succG hOX
            replace hr := hr.eff hEx (by decide)
            replace hd := hd.eff hEx (by decide)
            replace hR := hR.eff hEx
            clear hEx hT hOX hgX hnX hcl
            refine hK.out _ _ trivial (fun hHeld => ?_)
            clear hK KK
            change wpAnyH _ _ _ _ _ _ _ (Act.put _ (some 71) _) _
            try simp only [Act.put, List.setIfInBounds_toArray, List.set_cons_zero, List.set_cons_succ]
            refine' wpAnyH_take (i := 8) (v := _) rfl (by kernel_rfl) (by kernel_rfl) (by kernel_rfl) (fun _ _ _ h => h) (Or.inl ⟨by kernel_rfl, ?hqe7⟩) (by assumption) ?rqe7
            case hqe7 => intro W hW; go_simp; all_goals with_reducible rfl
            change wpAnyH _ _ _ _ _ _ _ (Act.put _ (some 72) _) _
            simp only [Act.put, List.setIfInBounds_toArray, List.set_cons_zero, List.set_cons_succ]
            refine wpAnyH_ready (rs := [9]) (by kernel_rfl) (by simp) ?_
            refine AllReadyH.cons rfl (fun KK hK => ?_) AllReadyH.nil
            obtain ⟨k0, k1, k2, k3⟩ := hd.v.cells
            obtain ⟨z0, z1, z2, z3⟩ := hd.v.fz
            go_simp
            clear k0 k1 k2 k3 z0 z1 z2 z3
            have hEx := hd.effSet 2 (.slice (some ⟨b9, 0, none⟩) (D.np + 1) c9)
            replace hR := hR.eff hEx
            replace hT2 := hT2.eff hEx (by decide) (by decide) (by decide)
            replace hr := hr.other (C := Bd) (i := 2) (u := .slice (some ⟨b9, 0, none⟩) (D.np + 1) c9) (by omega)
            replace hd := hd.set2 (.slice (some ⟨b9, 0, none⟩) (D.np + 1) c9)
            clear hEx
            refine hK.out _ _ trivial (fun hHeld => ?_)
            clear hK KK
            try simp only [Act.put, List.setIfInBounds_toArray, List.set_cons_zero, List.set_cons_succ]
            refine wpAnyH_done (by kernel_rfl) ?_ _
            have HS : Hid (Sa w g ao n cap f Bd _) := ⟨_, _, D.nc, _, _, { D with np := D.np + 1, pri := upd D.pri D.np (D.pri 0) }, A, C, Nat.le_refl _, ⟨_, _, _, _, rfl, rfl⟩, ⟨_, _, _, rfl⟩, hr, (by show Vd w Bd (.string D.name) _ _ _ _; rw [HQ.out.1]; exact hd), hT2, hR⟩
            clear hT2 hr hd hR HQ hHeld
            go_wp2_with fail
            go_meet
            exact HS.out
          ·
            go_simp
            have hcl := cells_by9 wqd (D.pri 0).col (D.pri 0).desc
            have hs9 := hR.size
            have hEx := Eff.alloc w 129 wqd (.cells #[.int .i64 (D.pri 0).col, .bool (D.pri 0).desc] 78)
            replace hr := hr.eff hEx (by decide)
            replace hd := hd.eff hEx (by decide)
            replace hT := hT.eff hEx (by decide) (by decide) (by decide)
            replace hR := hR.eff hEx
            clear hEx
            refine hK.out _ _ trivial (fun hHeld => ?_)
            clear hK KK
            try simp only [Act.put, List.setIfInBounds_toArray, List.set_cons_zero, List.set_cons_succ]
            refine wpAnyH_ready (rs := [1]) (by kernel_rfl) (by simp) ?_
            refine AllReadyH.cons rfl (fun KK hK => ?_) AllReadyH.nil
            obtain ⟨k0, k1, k2, k3⟩ := hd.v.cells
            go_simp
            clear k0 k1 k2 k3
            refine hK.out _ _ trivial (fun hHeld => ?_)
            clear hK KK
            try simp only [Act.put, List.setIfInBounds_toArray, List.set_cons_zero, List.set_cons_succ]
            refine wpAnyH_ready (rs := [7]) (by kernel_rfl) (by simp) ?_
            refine AllReadyH.cons rfl (fun KK hK => ?_) AllReadyH.nil
            rw [if_pos (by kernel_rfl)]
            refine wp_append_own _ (.tmp 65) (.tmp 70) 25 rfl w.heap.size 78 iB (.agg #[.int .i64 0, .bool false]) 2 16 Tryz.underlying25 hiB.1 hiB.2.1 hiB.2.2.1 hiB.2.2.2 rfl (by decide) _ _ _ rfl hT.pri ⟨wqd.heap.size, 0, none⟩ 1 1 [.int .i64 (D.pri 0).col, .bool (D.pri 0).desc] rfl rfl hcl (one_by9 _ _) (by unfold maxLen; omega) (by omega) (by first | omega | (simp; omega)) ?_
            intro vX wa hOX hgX hnX
            have hEx := Eff.grown hT.pri hgX
            have hT2 := hT.growPri (D.pri 0) hOX hgX (by omega)
            obtain ⟨b9, c9, rfl⟩ := own_succG hOX
            replace hr := hr.eff hEx (by decide)
            replace hd := hd.eff hEx (by decide)
            replace hR := hR.eff hEx
            clear hEx hT hOX hgX hnX hcl
            refine hK.out _ _ trivial (fun hHeld => ?_)
            clear hK KK
            change wpAnyH _ _ _ _ _ _ _ (Act.put _ (some 71) _) _
            try simp only [Act.put, List.setIfInBounds_toArray, List.set_cons_zero, List.set_cons_succ]
            refine' wpAnyH_take (i := 8) (v := _) rfl (by kernel_rfl) (by kernel_rfl) (by kernel_rfl) (fun _ _ _ h => h) (Or.inl ⟨by kernel_rfl, ?hqe8⟩) (by assumption) ?rqe8
            case hqe8 => intro W hW; go_simp; all_goals with_reducible rfl
            change wpAnyH _ _ _ _ _ _ _ (Act.put _ (some 72) _) _
            simp only [Act.put, List.setIfInBounds_toArray, List.set_cons_zero, List.set_cons_succ]
            refine wpAnyH_ready (rs := [9]) (by kernel_rfl) (by simp) ?_
            refine AllReadyH.cons rfl (fun KK hK => ?_) AllReadyH.nil
            obtain ⟨k0, k1, k2, k3⟩ := hd.v.cells
            obtain ⟨z0, z1, z2, z3⟩ := hd.v.fz
            go_simp
            clear k0 k1 k2 k3 z0 z1 z2 z3
            have hEx := hd.effSet 2 (.slice (some ⟨b9, 0, none⟩) (D.np + 1) c9)
            replace hR := hR.eff hEx
            replace hT2 := hT2.eff hEx (by decide) (by decide) (by decide)
            replace hr := hr.other (C := Bd) (i := 2) (u := .slice (some ⟨b9, 0, none⟩) (D.np + 1) c9) (by omega)
            replace hd := hd.set2 (.slice (some ⟨b9, 0, none⟩) (D.np + 1) c9)
            clear hEx
            refine hK.out _ _ trivial (fun hHeld => ?_)
            clear hK KK
            try simp only [Act.put, List.setIfInBounds_toArray, List.set_cons_zero, List.set_cons_succ]
            refine wpAnyH_done (by kernel_rfl) ?_ _
            have HS : Hid (Sa w g ao n cap f Bd _) := ⟨_, _, D.nc, _, _, { D with np := D.np + 1, pri := upd D.pri D.np (D.pri 0) }, A, C, Nat.le_refl _, ⟨_, _, _, _, rfl, rfl⟩, ⟨_, _, _, rfl⟩, hr, (by show Vd w Bd (.string D.name) _ _ _ _; rw [HQ.out.1]; exact hd), hT2, hR⟩
            clear hT2 hr hd hR HQ hHeld
            go_wp2_with fail
            go_meet
            exact HS.out
    · have hwn : IntKind.i64.wrap ((D.nc : Int) + 1) = (D.nc : Int) + 1 := by rw [IntKind.wrap_i64]; omega
      go_wp2_with fail
      have hEx : Eff w 129 wq wq.drew := Eff.ofBelow (Below.refl _ _).drew
      replace hr := hr.eff hEx (by decide)
      replace hd := hd.eff hEx (by decide)
      replace hT := hT.eff hEx (by decide) (by decide) (by decide)
      replace hR := hR.eff hEx
      clear hEx
      refine wp_region_held_drew (S := (fun W => W.cell? ⟨Bd, 1, none⟩ = some (.slice (some ⟨bc, 0, none⟩) D.nc cc))) (by kernel_rfl) hd.v.cells.2.1 (fun hHeld => ?_)
      obtain ⟨wqd, hwqd⟩ : ∃ wqd, Hid (wqd = wq.drew) := ⟨_, rfl⟩
      rw [← hwqd.out] at hHeld hr hd hT hR ⊢
      refine' wpAnyH_take (i := 0) (v := _) rfl (by kernel_rfl) (by kernel_rfl) (by kernel_rfl) (fun _ _ _ h => h) (Or.inl ⟨by kernel_rfl, ?hqf1⟩) (by assumption) ?rqf1
      case hqf1 => intro W hW; have c1 := hW; go_simp; all_goals with_reducible rfl
      change wpAnyH _ _ _ _ _ _ _ (Act.put _ (some 75) _) _
      simp only [Act.put, List.setIfInBounds_toArray, List.set_cons_zero, List.set_cons_succ]
      refine' wpAnyH_take (i := 2) (v := _) rfl (by kernel_rfl) (by kernel_rfl) (by kernel_rfl) (fun _ _ _ h => h) (Or.inl ⟨by kernel_rfl, ?hqf2⟩) (by assumption) ?rqf2
      case hqf2 => intro W hW; have c1 := hW; go_simp; all_goals with_reducible rfl
      change wpAnyH _ _ _ _ _ _ _ (Act.put _ (some 77) _) _
      simp only [Act.put, List.setIfInBounds_toArray, List.set_cons_zero, List.set_cons_succ]
      refine' wpAnyH_take (i := 5) (v := _) rfl (by kernel_rfl) (by kernel_rfl) (by kernel_rfl) (fun _ _ _ h => h) (Or.inl ⟨by kernel_rfl, ?hqf3⟩) (by assumption) ?rqf3
      case hqf3 => intro W hW; have c1 := hW; go_simp; all_goals with_reducible rfl
      change wpAnyH _ _ _ _ _ _ _ (Act.put _ (some 80) _) _
      simp only [Act.put, List.setIfInBounds_toArray, List.set_cons_zero, List.set_cons_succ]
      refine' wpAnyH_take (i := 6) (v := _) rfl (by kernel_rfl) (by kernel_rfl) (by kernel_rfl) (fun _ _ _ h => h) (Or.inl ⟨by kernel_rfl, ?hqf4⟩) (by assumption) ?rqf4
      case hqf4 => intro W hW; have c1 := hW; go_simp; all_goals with_reducible rfl
      change wpAnyH _ _ _ _ _ _ _ (Act.put _ (some 81) _) _
      simp only [Act.put, List.setIfInBounds_toArray, List.set_cons_zero, List.set_cons_succ]
      refine' wpAnyH_take (i := 7) (v := _) rfl (by kernel_rfl) (by kernel_rfl) (by kernel_rfl) (fun _ _ _ h => h) (Or.inl ⟨by kernel_rfl, ?hqf5⟩) (by assumption) ?rqf5
      case hqf5 => intro W hW; have c1 := hW; go_simp; all_goals with_reducible rfl
      change wpAnyH _ _ _ _ _ _ _ (Act.put _ (some 82) _) _
      simp only [Act.put, List.setIfInBounds_toArray, List.set_cons_zero, List.set_cons_succ]
      refine' wpAnyH_take (i := 8) (v := _) rfl (by kernel_rfl) (by kernel_rfl) (by kernel_rfl) (fun _ _ _ h => h) (Or.inl ⟨by kernel_rfl, ?hqf6⟩) (by assumption) ?rqf6
      case hqf6 => intro W hW; have c1 := hW; go_simp; all_goals with_reducible rfl
      change wpAnyH _ _ _ _ _ _ _ (Act.put _ (some 83) _) _
      simp only [Act.put, List.setIfInBounds_toArray, List.set_cons_zero, List.set_cons_succ]
      refine' wpAnyH_take (i := 9) (v := _) rfl (by kernel_rfl) (by kernel_rfl) (by kernel_rfl) (fun _ _ _ h => h) (Or.inl ⟨by kernel_rfl, ?hqf7⟩) (by assumption) ?rqf7
      case hqf7 => intro W hW; have c1 := hW; go_simp; all_goals with_reducible rfl
      change wpAnyH _ _ _ _ _ _ _ (Act.put _ (some 84) _) _
      simp only [Act.put, List.setIfInBounds_toArray, List.set_cons_zero, List.set_cons_succ]
      refine wpAnyH_ready (rs := [1, 3]) (by kernel_rfl) (by simp) ?_
      refine AllReadyH.cons rfl (fun KK hK => ?_) (AllReadyH.cons rfl (fun KK hK => ?_) AllReadyH.nil)
      ·
        obtain ⟨k0, k1, k2, k3⟩ := hd.v.cells
        go_simp
        clear k0 k1 k2 k3
        refine hK.out _ _ hd.v.cells.2.1 (fun hHeld => ?_)
        clear hK KK
        try simp only [Act.put, List.setIfInBounds_toArray, List.set_cons_zero, List.set_cons_succ]
        refine wpAnyH_ready (rs := [3]) (by kernel_rfl) (by simp) ?_
        refine AllReadyH.cons rfl (fun KK hK => ?_) AllReadyH.nil
        go_simp
        have hEy := Eff.alloc w 129 wqd (.cells #[.string ⟨#[117, 98]⟩, .string ⟨#[119]⟩, .string ⟨#[100, 101, 115, 99]⟩] 9)
        refine hK.out _ _ (hd.eff hEy (by decide)).v.cells.2.1 (fun hHeld => ?_)
        clear hK KK
        try simp only [Act.put, List.setIfInBounds_toArray, List.set_cons_zero, List.set_cons_succ]
        refine wpAnyH_ready (rs := [4]) (by kernel_rfl) (by simp) ?_
        refine AllReadyH.cons rfl (fun KK hK => ?_) AllReadyH.nil
        have hSt := l1Str_mem g ao n cap f anyL6 wqd.heap.size wqd rfl hn (by decide) (by decide) hR.cur
        unfold anyL6 at hSt
        go_simp
        refine hSt.mono ?_
        rintro e w6 ⟨z, rfl, hz, hCx, hBx⟩
        replace hr := hr.but hBx hg
        replace hd := hd.but hBx hg
        replace hT := hT.but hBx hg
        replace hR := hR.next hCx hBx
        have hzs : z.size ≤ 1000 := any_few hz (by decide)
        clear hCx hBx hSt hz hEy
        go_wp2_with fail
        refine hK.out _ _ hd.v.cells.2.1 (fun hHeld => ?_)
        clear hK KK
        try simp only [Act.put, List.setIfInBounds_toArray, List.set_cons_zero, List.set_cons_succ]
        refine wpAnyH_ready (rs := [10]) (by kernel_rfl) (by simp) ?_
        refine AllReadyH.cons rfl (fun KK hK => ?_) AllReadyH.nil
        go_simp
        refine (l9Draw2_any g ao n cap f ((D.nc : Int) + 1) w6 hn (by omega) (by omega) hR.cur).mono ?_
        rintro e w8 ⟨b8, c8, N8, rfl, h8, hN8, hO8, hC8, hB8⟩
        have hbp := (own_lt9 hT.pri).1
        have hb8 := (own_lt9 hO8).2
        have hP : PtAt w b8 c8 ⟨z, false, N8, h8⟩ w8 := ⟨own_down9 hO8 hR.size⟩
        replace hr := hr.but hB8 hg
        replace hd := hd.but hB8 hg
        replace hT := hT.but hB8 hg
        replace hR := hR.next hC8 hB8
        clear hC8 hB8 hO8
        go_wp2_with fail
        refine hK.out _ _ hd.v.cells.2.1 (fun hHeld => ?_)
        clear hK KK
        try simp only [Act.put, List.setIfInBounds_toArray, List.set_cons_zero, List.set_cons_succ]
        refine' wpAnyH_take (i := 11) (v := _) rfl (by kernel_rfl) (by kernel_rfl) (by kernel_rfl) (fun _ _ _ h => h) (Or.inl ⟨by kernel_rfl, ?hqf8⟩) (by assumption) ?rqf8
        case hqf8 => intro W hW; have c1 := hW; go_simp; all_goals with_reducible rfl
        change wpAnyH _ _ _ _ _ _ _ (Act.put _ (some 86) _) _
        simp only [Act.put, List.setIfInBounds_toArray, List.set_cons_zero, List.set_cons_succ]
        refine wpAnyH_ready (rs := [12]) (by kernel_rfl) (by simp) ?_
        refine AllReadyH.cons rfl (fun KK hK => ?_) AllReadyH.nil
        go_simp
        have hcl := cells_idx9 w8 z false (some ⟨b8, 0, none⟩) N8 c8
        have hs8 := hR.size
        have hEx := Eff.alloc w 129 w8 (.cells #[.string z, .bool false, .slice (some ⟨b8, 0, none⟩) N8 c8] 37)
        replace hr := hr.eff hEx (by decide)
        replace hd := hd.eff hEx (by decide)
        replace hT := hT.eff hEx (by decide) (by decide) (by decide)
        replace hP : PtAt _ _ _ _ _ := ⟨own_eff hP.own hEx (by decide)⟩
        replace hR := hR.eff hEx
        clear hEx
        refine hK.out _ _ hd.v.cells.2.1 (fun hHeld => ?_)
        clear hK KK
        try simp only [Act.put, List.setIfInBounds_toArray, List.set_cons_zero, List.set_cons_succ]
        refine wpAnyH_ready (rs := [13]) (by kernel_rfl) (by simp) ?_
        refine AllReadyH.cons rfl (fun KK hK => ?_) AllReadyH.nil
        rw [if_pos (by kernel_rfl)]
        refine wp_append_own _ (.tmp 76) (.tmp 87) 26 rfl w.heap.size 37 iI (.agg #[.string ⟨#[]⟩, .bool false, .slice none 0 0]) 3 48 Tryz.underlying26 hiI.1 hiI.2.1 hiI.2.2.1 hiI.2.2.2 rfl (by decide) _ _ _ rfl hT.idx ⟨w8.heap.size, 0, none⟩ 1 1 [.string z, .bool false, .slice (some ⟨b8, 0, none⟩) N8 c8] rfl rfl hcl (one_idx9 _ _ _ _ _) (by unfold maxLen; omega) (by omega) (by first | omega | (simp; omega)) ?_
        intro vX w9 hOX hgX hnX
        have hEx := Eff.grown hT.idx hgX
        have hT9 := hT.addIdx ⟨z, false, N8, h8⟩ b8 c8 hOX hP (by simp only [Value.ownBlock, ne_eq, Option.some.injEq]; omega) hEx ⟨hzs, by show N8 ≤ 1000; omega⟩ (by omega)
        obtain ⟨b9, c9, rfl⟩ := own_succG hOX
        replace hr := hr.eff hEx (by decide)
        replace hd := hd.eff hEx (by decide)
        replace hR := hR.eff hEx
        clear hEx hT hOX hgX hnX hcl hP
        refine hK.out _ _ hd.v.cells.2.1 (fun hHeld => ?_)
        clear hK KK
        change wpAnyH _ _ _ _ _ _ _ (Act.put _ (some 88) _) _
        try simp only [Act.put, List.setIfInBounds_toArray, List.set_cons_zero, List.set_cons_succ]
        refine' wpAnyH_take (i := 14) (v := _) rfl (by kernel_rfl) (by kernel_rfl) (by kernel_rfl) (fun _ _ _ h => h) (Or.inl ⟨by kernel_rfl, ?hqf9⟩) (by assumption) ?rqf9
        case hqf9 => intro W hW; have c1 := hW; go_simp; all_goals with_reducible rfl
        change wpAnyH _ _ _ _ _ _ _ (Act.put _ (some 89) _) _
        simp only [Act.put, List.setIfInBounds_toArray, List.set_cons_zero, List.set_cons_succ]
        refine wpAnyH_ready (rs := [15]) (by kernel_rfl) (by simp) ?_
        refine AllReadyH.cons rfl (fun KK hK => ?_) AllReadyH.nil
        obtain ⟨k0, k1, k2, k3⟩ := hd.v.cells
        obtain ⟨z0, z1, z2, z3⟩ := hd.v.fz
        go_simp
        clear k0 k1 k2 k3 z0 z1 z2 z3
        have hEx := hd.effSet 3 (.slice (some ⟨b9, 0, none⟩) (D.ni + 1) c9)
        replace hR := hR.eff hEx
        replace hT9 := hT9.eff hEx (by decide) (by decide) (by decide)
        replace hr := hr.other (C := Bd) (i := 3) (u := .slice (some ⟨b9, 0, none⟩) (D.ni + 1) c9) (by omega)
        replace hd := hd.set3 (.slice (some ⟨b9, 0, none⟩) (D.ni + 1) c9)
        clear hEx
        refine hK.out _ _ hd.v.cells.2.1 (fun hHeld => ?_)
        clear hK KK
        try simp only [Act.put, List.setIfInBounds_toArray, List.set_cons_zero, List.set_cons_succ]
        refine wpAnyH_done (by kernel_rfl) ?_ _
        have HS : Hid (Sa w g ao n cap f Bd _) := ⟨_, _, D.nc, _, _, { D with ni := D.ni + 1, idx := upd D.idx D.ni ⟨z, false, N8, h8⟩ }, _, _, Nat.le_refl _, ⟨_, _, _, _, rfl, rfl⟩, ⟨_, _, _, rfl⟩, hr, (by show Vd w Bd (.string D.name) _ _ _ _; rw [HQ.out.1]; exact hd), hT9.tw, hR⟩
        clear hT9 hr hd hR HQ hHeld
        go_wp2_with fail
        go_meet
        exact HS.out
      ·
        go_simp
        have hEy := Eff.alloc w 129 wqd (.cells #[.string ⟨#[117, 98]⟩, .string ⟨#[119]⟩, .string ⟨#[100, 101, 115, 99]⟩] 9)
        refine hK.out _ _ (hd.eff hEy (by decide)).v.cells.2.1 (fun hHeld => ?_)
        clear hK KK
        try simp only [Act.put, List.setIfInBounds_toArray, List.set_cons_zero, List.set_cons_succ]
        refine wpAnyH_ready (rs := [1, 4]) (by kernel_rfl) (by simp) ?_
        refine AllReadyH.cons rfl (fun KK hK => ?_) (AllReadyH.cons rfl (fun KK hK => ?_) AllReadyH.nil)
        ·
          obtain ⟨k0, k1, k2, k3⟩ := (hd.eff hEy (by decide)).v.cells
          go_simp
          clear k0 k1 k2 k3
          refine hK.out _ _ (hd.eff hEy (by decide)).v.cells.2.1 (fun hHeld => ?_)
          clear hK KK
          try simp only [Act.put, List.setIfInBounds_toArray, List.set_cons_zero, List.set_cons_succ]
          refine wpAnyH_ready (rs := [4]) (by kernel_rfl) (by simp) ?_
          refine AllReadyH.cons rfl (fun KK hK => ?_) AllReadyH.nil
          have hSt := l1Str_mem g ao n cap f anyL6 wqd.heap.size wqd rfl hn (by decide) (by decide) hR.cur
          unfold anyL6 at hSt
          go_simp
          refine hSt.mono ?_
          rintro e w6 ⟨z, rfl, hz, hCx, hBx⟩
          replace hr := hr.but hBx hg
          replace hd := hd.but hBx hg
          replace hT := hT.but hBx hg
          replace hR := hR.next hCx hBx
          have hzs : z.size ≤ 1000 := any_few hz (by decide)
          clear hCx hBx hSt hz hEy
          go_wp2_with fail
          refine hK.out _ _ hd.v.cells.2.1 (fun hHeld => ?_)
          clear hK KK
          try simp only [Act.put, List.setIfInBounds_toArray, List.set_cons_zero, List.set_cons_succ]
          refine wpAnyH_ready (rs := [10]) (by kernel_rfl) (by simp) ?_
          refine AllReadyH.cons rfl (fun KK hK => ?_) AllReadyH.nil
          go_simp
          refine (l9Draw2_any g ao n cap f ((D.nc : Int) + 1) w6 hn (by omega) (by omega) hR.cur).mono ?_
          rintro e w8 ⟨b8, c8, N8, rfl, h8, hN8, hO8, hC8, hB8⟩
          have hbp := (own_lt9 hT.pri).1
          have hb8 := (own_lt9 hO8).2
          have hP : PtAt w b8 c8 ⟨z, false, N8, h8⟩ w8 := ⟨own_down9 hO8 hR.size⟩
          replace hr := hr.but hB8 hg
          replace hd := hd.but hB8 hg
          replace hT := hT.but hB8 hg
          replace hR := hR.next hC8 hB8
          clear hC8 hB8 hO8
          go_wp2_with fail
          refine hK.out _ _ hd.v.cells.2.1 (fun hHeld => ?_)
          clear hK KK
          try simp only [Act.put, List.setIfInBounds_toArray, List.set_cons_zero, List.set_cons_succ]
          refine' wpAnyH_take (i := 11) (v := _) rfl (by kernel_rfl) (by kernel_rfl) (by kernel_rfl) (fun _ _ _ h => h) (Or.inl ⟨by kernel_rfl, ?hqf10⟩) (by assumption) ?rqf10
          case hqf10 => intro W hW; have c1 := hW; go_simp; all_goals with_reducible rfl
          change wpAnyH _ _ _ _ _ _ _ (Act.put _ (some 86) _) _
          simp only [Act.put, List.setIfInBounds_toArray, List.set_cons_zero, List.set_cons_succ]
          refine wpAnyH_ready (rs := [12]) (by kernel_rfl) (by simp) ?_
          refine AllReadyH.cons rfl (fun KK hK => ?_) AllReadyH.nil
          go_simp
          have hcl := cells_idx9 w8 z false (some ⟨b8, 0, none⟩) N8 c8
          have hs8 := hR.size
          have hEx := Eff.alloc w 129 w8 (.cells #[.string z, .bool false, .slice (some ⟨b8, 0, none⟩) N8 c8] 37)
          replace hr := hr.eff hEx (by decide)
          replace hd := hd.eff hEx (by decide)
          replace hT := hT.eff hEx (by decide) (by decide) (by decide)
          replace hP : PtAt _ _ _ _ _ := ⟨own_eff hP.own hEx (by decide)⟩
          replace hR := hR.eff hEx
          clear hEx
          refine hK.out _ _ hd.v.cells.2.1 (fun hHeld => ?_)
          clear hK KK
          try simp only [Act.put, List.setIfInBounds_toArray, List.set_cons_zero, List.set_cons_succ]
          refine wpAnyH_ready (rs := [13]) (by kernel_rfl) (by simp) ?_
          refine AllReadyH.cons rfl (fun KK hK => ?_) AllReadyH.nil
          rw [if_pos (by kernel_rfl)]
          refine wp_append_own _ (.tmp 76) (.tmp 87) 26 rfl w.heap.size 37 iI (.agg #[.string ⟨#[]⟩, .bool false, .slice none 0 0]) 3 48 Tryz.underlying26 hiI.1 hiI.2.1 hiI.2.2.1 hiI.2.2.2 rfl (by decide) _ _ _ rfl hT.idx ⟨w8.heap.size, 0, none⟩ 1 1 [.string z, .bool false, .slice (some ⟨b8, 0, none⟩) N8 c8] rfl rfl hcl (one_idx9 _ _ _ _ _) (by unfold maxLen; omega) (by omega) (by first | omega | (simp; omega)) ?_
          intro vX w9 hOX hgX hnX
          have hEx := Eff.grown hT.idx hgX
          have hT9 := hT.addIdx ⟨z, false, N8, h8⟩ b8 c8 hOX hP (by simp only [Value.ownBlock, ne_eq, Option.some.injEq]; omega) hEx ⟨hzs, by show N8 ≤ 1000; omega⟩ (by omega)
          obtain ⟨b9, c9, rfl⟩ := own_succG hOX
          replace hr := hr.eff hEx (by decide)
          replace hd := hd.eff hEx (by decide)
          replace hR := hR.eff hEx
          clear hEx hT hOX hgX hnX hcl hP
          refine hK.out _ _ hd.v.cells.2.1 (fun hHeld => ?_)
          clear hK KK
          change wpAnyH _ _ _ _ _ _ _ (Act.put _ (some 88) _) _
          try simp only [Act.put, List.setIfInBounds_toArray, List.set_cons_zero, List.set_cons_succ]
          refine' wpAnyH_take (i := 14) (v := _) rfl (by kernel_rfl) (by kernel_rfl) (by kernel_rfl) (fun _ _ _ h => h) (Or.inl ⟨by kernel_rfl, ?hqf11⟩) (by assumption) ?rqf11
          case hqf11 => intro W hW; have c1 := hW; go_simp; all_goals with_reducible rfl
          change wpAnyH _ _ _ _ _ _ _ (Act.put _ (some 89) _) _
          simp only [Act.put, List.setIfInBounds_toArray, List.set_cons_zero, List.set_cons_succ]
          refine wpAnyH_ready (rs := [15]) (by kernel_rfl) (by simp) ?_
          refine AllReadyH.cons rfl (fun KK hK => ?_) AllReadyH.nil
          obtain ⟨k0, k1, k2, k3⟩ := hd.v.cells
          obtain ⟨z0, z1, z2, z3⟩ := hd.v.fz
          go_simp
          clear k0 k1 k2 k3 z0 z1 z2 z3
          have hEx := hd.effSet 3 (.slice (some ⟨b9, 0, none⟩) (D.ni + 1) c9)
          replace hR := hR.eff hEx
          replace hT9 := hT9.eff hEx (by decide) (by decide) (by decide)
          replace hr := hr.other (C := Bd) (i := 3) (u := .slice (some ⟨b9, 0, none⟩) (D.ni + 1) c9) (by omega)
          replace hd := hd.set3 (.slice (some ⟨b9, 0, none⟩) (D.ni + 1) c9)
          clear hEx
          refine hK.out _ _ hd.v.cells.2.1 (fun hHeld => ?_)
          clear hK KK
          try simp only [Act.put, List.setIfInBounds_toArray, List.set_cons_zero, List.set_cons_succ]
          refine wpAnyH_done (by kernel_rfl) ?_ _
          have HS : Hid (Sa w g ao n cap f Bd _) := ⟨_, _, D.nc, _, _, { D with ni := D.ni + 1, idx := upd D.idx D.ni ⟨z, false, N8, h8⟩ }, _, _, Nat.le_refl _, ⟨_, _, _, _, rfl, rfl⟩, ⟨_, _, _, rfl⟩, hr, (by show Vd w Bd (.string D.name) _ _ _ _; rw [HQ.out.1]; exact hd), hT9.tw, hR⟩
          clear hT9 hr hd hR HQ hHeld
          go_wp2_with fail
          go_meet
          exact HS.out
        ·
          have hSt := l1Str_mem g ao n cap f anyL6 wqd.heap.size wqd rfl hn (by decide) (by decide) hR.cur
          unfold anyL6 at hSt
          go_simp
          refine hSt.mono ?_
          rintro e w6 ⟨z, rfl, hz, hCx, hBx⟩
          replace hr := hr.but hBx hg
          replace hd := hd.but hBx hg
          replace hT := hT.but hBx hg
          replace hR := hR.next hCx hBx
          have hzs : z.size ≤ 1000 := any_few hz (by decide)
          clear hCx hBx hSt hz hEy
          go_wp2_with fail
          refine hK.out _ _ hd.v.cells.2.1 (fun hHeld => ?_)
          clear hK KK
          try simp only [Act.put, List.setIfInBounds_toArray, List.set_cons_zero, List.set_cons_succ]
          refine wpAnyH_ready (rs := [1, 10]) (by kernel_rfl) (by simp) ?_
          refine AllReadyH.cons rfl (fun KK hK => ?_) (AllReadyH.cons rfl (fun KK hK => ?_) AllReadyH.nil)
          ·
            obtain ⟨k0, k1, k2, k3⟩ := hd.v.cells
            go_simp
            clear k0 k1 k2 k3
            refine hK.out _ _ hd.v.cells.2.1 (fun hHeld => ?_)
            clear hK KK
            try simp only [Act.put, List.setIfInBounds_toArray, List.set_cons_zero, List.set_cons_succ]
            refine wpAnyH_ready (rs := [10]) (by kernel_rfl) (by simp) ?_
            refine AllReadyH.cons rfl (fun KK hK => ?_) AllReadyH.nil
            go_simp
            refine (l9Draw2_any g ao n cap f ((D.nc : Int) + 1) w6 hn (by omega) (by omega) hR.cur).mono ?_
            rintro e w8 ⟨b8, c8, N8, rfl, h8, hN8, hO8, hC8, hB8⟩
            have hbp := (own_lt9 hT.pri).1
            have hb8 := (own_lt9 hO8).2
            have hP : PtAt w b8 c8 ⟨z, false, N8, h8⟩ w8 := ⟨own_down9 hO8 hR.size⟩
            replace hr := hr.but hB8 hg
            replace hd := hd.but hB8 hg
            replace hT := hT.but hB8 hg
            replace hR := hR.next hC8 hB8
            clear hC8 hB8 hO8
            go_wp2_with fail
            refine hK.out _ _ hd.v.cells.2.1 (fun hHeld => ?_)
            clear hK KK
            try simp only [Act.put, List.setIfInBounds_toArray, List.set_cons_zero, List.set_cons_succ]
            refine' wpAnyH_take (i := 11) (v := _) rfl (by kernel_rfl) (by kernel_rfl) (by kernel_rfl) (fun _ _ _ h => h) (Or.inl ⟨by kernel_rfl, ?hqf12⟩) (by assumption) ?rqf12
            case hqf12 => intro W hW; have c1 := hW; go_simp; all_goals with_reducible rfl
            change wpAnyH _ _ _ _ _ _ _ (Act.put _ (some 86) _) _
            simp only [Act.put, List.setIfInBounds_toArray, List.set_cons_zero, List.set_cons_succ]
            refine wpAnyH_ready (rs := [12]) (by kernel_rfl) (by simp) ?_
            refine AllReadyH.cons rfl (fun KK hK => ?_) AllReadyH.nil
            go_simp
            have hcl := cells_idx9 w8 z false (some ⟨b8, 0, none⟩) N8 c8
            have hs8 := hR.size
            have hEx := Eff.alloc w 129 w8 (.cells #[.string z, .bool false, .slice (some ⟨b8, 0, none⟩) N8 c8] 37)
            replace hr := hr.eff hEx (by decide)
            replace hd := hd.eff hEx (by decide)
            replace hT := hT.eff hEx (by decide) (by decide) (by decide)
            replace hP : PtAt _ _ _ _ _ := ⟨own_eff hP.own hEx (by decide)⟩
            replace hR := hR.eff hEx
            clear hEx
            refine hK.out _ _ hd.v.cells.2.1 (fun hHeld => ?_)
            clear hK KK
            try simp only [Act.put, List.setIfInBounds_toArray, List.set_cons_zero, List.set_cons_succ]
            refine wpAnyH_ready (rs := [13]) (by kernel_rfl) (by simp) ?_
            refine AllReadyH.cons rfl (fun KK hK => ?_) AllReadyH.nil
            rw [if_pos (by kernel_rfl)]
            refine wp_append_own _ (.tmp 76) (.tmp 87) 26 rfl w.heap.size 37 iI (.agg #[.string ⟨#[]⟩, .bool false, .slice none 0 0]) 3 48 Tryz.underlying26 hiI.1 hiI.2.1 hiI.2.2.1 hiI.2.2.2 rfl (by decide) _ _ _ rfl hT.idx ⟨w8.heap.size, 0, none⟩ 1 1 [.string z, .bool false, .slice (some ⟨b8, 0, none⟩) N8 c8] rfl rfl hcl (one_idx9 _ _ _ _ _) (by unfold maxLen; omega) (by omega) (by first | omega | (simp; omega)) ?_
            intro vX w9 hOX hgX hnX
            have hEx := Eff.grown hT.idx hgX
            have hT9 := hT.addIdx ⟨z, false, N8, h8⟩ b8 c8 hOX hP (by simp only [Value.ownBlock, ne_eq, Option.some.injEq]; omega) hEx ⟨hzs, by show N8 ≤ 1000; omega⟩ (by omega)
            obtain ⟨b9, c9, rfl⟩ := own_succG hOX
            replace hr := hr.eff hEx (by decide)
            replace hd := hd.eff hEx (by decide)
            replace hR := hR.eff hEx
            clear hEx hT hOX hgX hnX hcl hP
            refine hK.out _ _ hd.v.cells.2.1 (fun hHeld => ?_)
            clear hK KK
            change wpAnyH _ _ _ _ _ _ _ (Act.put _ (some 88) _) _
            try simp only [Act.put, List.setIfInBounds_toArray, List.set_cons_zero, List.set_cons_succ]
            refine' wpAnyH_take (i := 14) (v := _) rfl (by kernel_rfl) (by kernel_rfl) (by kernel_rfl) (fun _ _ _ h => h) (Or.inl ⟨by kernel_rfl, ?hqf13⟩) (by assumption) ?rqf13
            case hqf13 => intro W hW; have c1 := hW; go_simp; all_goals with_reducible rfl
            change wpAnyH _ _ _ _ _ _ _ (Act.put _ (some 89) _) _
            simp only [Act.put, List.setIfInBounds_toArray, List.set_cons_zero, List.set_cons_succ]
            refine wpAnyH_ready (rs := [15]) (by kernel_rfl) (by simp) ?_
            refine AllReadyH.cons rfl (fun KK hK => ?_) AllReadyH.nil
            obtain ⟨k0, k1, k2, k3⟩ := hd.v.cells
            obtain ⟨z0, z1, z2, z3⟩ := hd.v.fz
            go_simp
            clear k0 k1 k2 k3 z0 z1 z2 z3
            have hEx := hd.effSet 3 (.slice (some ⟨b9, 0, none⟩) (D.ni + 1) c9)
            replace hR := hR.eff hEx
            replace hT9 := hT9.eff hEx (by decide) (by decide) (by decide)
            replace hr := hr.other (C := Bd) (i := 3) (u := .slice (some ⟨b9, 0, none⟩) (D.ni + 1) c9) (by omega)
            replace hd := hd.set3 (.slice (some ⟨b9, 0, none⟩) (D.ni + 1) c9)
            clear hEx
            refine hK.out _ _ hd.v.cells.2.1 (fun hHeld => ?_)
            clear hK KK
            try simp only [Act.put, List.setIfInBounds_toArray, List.set_cons_zero, List.set_cons_succ]
            refine wpAnyH_done (by kernel_rfl) ?_ _
            have HS : Hid (Sa w g ao n cap f Bd _) := ⟨_, _, D.nc, _, _, { D with ni := D.ni + 1, idx := upd D.idx D.ni ⟨z, false, N8, h8⟩ }, _, _, Nat.le_refl _, ⟨_, _, _, _, rfl, rfl⟩, ⟨_, _, _, rfl⟩, hr, (by show Vd w Bd (.string D.name) _ _ _ _; rw [HQ.out.1]; exact hd), hT9.tw, hR⟩
            clear hT9 hr hd hR HQ hHeld
            go_wp2_with fail
            go_meet
            exact HS.out
          ·
            go_simp
            refine (l9Draw2_any g ao n cap f ((D.nc : Int) + 1) w6 hn (by omega) (by omega) hR.cur).mono ?_
            rintro e w8 ⟨b8, c8, N8, rfl, h8, hN8, hO8, hC8, hB8⟩
            have hbp := (own_lt9 hT.pri).1
            have hb8 := (own_lt9 hO8).2
            have hP : PtAt w b8 c8 ⟨z, false, N8, h8⟩ w8 := ⟨own_down9 hO8 hR.size⟩
            replace hr := hr.but hB8 hg
            replace hd := hd.but hB8 hg
            replace hT := hT.but hB8 hg
            replace hR := hR.next hC8 hB8
            clear hC8 hB8 hO8
            go_wp2_with fail
            refine hK.out _ _ hd.v.cells.2.1 (fun hHeld => ?_)
            clear hK KK
            try simp only [Act.put, List.setIfInBounds_toArray, List.set_cons_zero, List.set_cons_succ]
            refine' wpAnyH_take (i := 11) (v := _) rfl (by kernel_rfl) (by kernel_rfl) (by kernel_rfl) (fun _ _ _ h => h) (Or.inl ⟨by kernel_rfl, ?hqf14⟩) (by assumption) ?rqf14
            case hqf14 => intro W hW; have c1 := hW; go_simp; all_goals with_reducible rfl
            change wpAnyH _ _ _ _ _ _ _ (Act.put _ (some 86) _) _
            simp only [Act.put, List.setIfInBounds_toArray, List.set_cons_zero, List.set_cons_succ]
            refine wpAnyH_ready (rs := [1, 12]) (by kernel_rfl) (by simp) ?_
            refine AllReadyH.cons rfl (fun KK hK => ?_) (AllReadyH.cons rfl (fun KK hK => ?_) AllReadyH.nil)
            ·
              obtain ⟨k0, k1, k2, k3⟩ := hd.v.cells
              go_simp
              clear k0 k1 k2 k3
              refine hK.out _ _ hd.v.cells.2.1 (fun hHeld => ?_)
              clear hK KK
              try simp only [Act.put, List.setIfInBounds_toArray, List.set_cons_zero, List.set_cons_succ]
              refine wpAnyH_ready (rs := [12]) (by kernel_rfl) (by simp) ?_
              refine AllReadyH.cons rfl (fun KK hK => ?_) AllReadyH.nil
              go_simp
              have hcl := cells_idx9 w8 z false (some ⟨b8, 0, none⟩) N8 c8
              have hs8 := hR.size
              have hEx := Eff.alloc w 129 w8 (.cells #[.string z, .bool false, .slice (some ⟨b8, 0, none⟩) N8 c8] 37)
              replace hr := hr.eff hEx (by decide)
              replace hd := hd.eff hEx (by decide)
              replace hT := hT.eff hEx (by decide) (by decide) (by decide)
              replace hP : PtAt _ _ _ _ _ := ⟨own_eff hP.own hEx (by decide)⟩
              replace hR := hR.eff hEx
              clear hEx
              refine hK.out _ _ hd.v.cells.2.1 (fun hHeld => ?_)
              clear hK KK
              try simp only [Act.put, List.setIfInBounds_toArray, List.set_cons_zero, List.set_cons_succ]
              refine wpAnyH_ready (rs := [13]) (by kernel_rfl) (by simp) ?_
              refine AllReadyH.cons rfl (fun KK hK => ?_) AllReadyH.nil
              rw [if_pos (by kernel_rfl)]
              refine wp_append_own _ (.tmp 76) (.tmp 87) 26 rfl w.heap.size 37 iI (.agg #[.string ⟨#[]⟩, .bool false, .slice none 0 0]) 3 48 Tryz.underlying26 hiI.1 hiI.2.1 hiI.2.2.1 hiI.2.2.2 rfl (by decide) _ _ _ rfl hT.idx ⟨w8.heap.size, 0, none⟩ 1 1 [.string z, .bool false, .slice (some ⟨b8, 0, none⟩) N8 c8] rfl rfl hcl (one_idx9 _ _ _ _ _) (by unfold maxLen; omega) (by omega) (by first | omega | (simp; omega)) ?_
              intro vX w9 hOX hgX hnX
              have hEx := Eff.grown hT.idx hgX
              have hT9 := hT.addIdx ⟨z, false, N8, h8⟩ b8 c8 hOX hP (by simp only [Value.ownBlock, ne_eq, Option.some.injEq]; omega) hEx ⟨hzs, by show N8 ≤ 1000; omega⟩ (by omega)
              obtain ⟨b9, c9, rfl⟩ := own_succG hOX
              replace hr := hr.eff hEx (by decide)
              replace hd := hd.eff hEx (by decide)
              replace hR := hR.eff hEx
              clear hEx hT hOX hgX hnX hcl hP
              refine hK.out _ _ hd.v.cells.2.1 (fun hHeld => ?_)
              clear hK KK
              change wpAnyH _ _ _ _ _ _ _ (Act.put _ (some 88) _) _
              try simp only [Act.put, List.setIfInBounds_toArray, List.set_cons_zero, List.set_cons_succ]
              refine' wpAnyH_take (i := 14) (v := _) rfl (by kernel_rfl) (by kernel_rfl) (by kernel_rfl) (fun _ _ _ h => h) (Or.inl ⟨by kernel_rfl, ?hqf15⟩) (by assumption) ?rqf15
              case hqf15 => intro W hW; have c1 := hW; go_simp; all_goals with_reducible rfl
              change wpAnyH _ _ _ _ _ _ _ (Act.put _ (some 89) _) _
              simp only [Act.put, List.setIfInBounds_toArray, List.set_cons_zero, List.set_cons_succ]
              refine wpAnyH_ready (rs := [15]) (by kernel_rfl) (by simp) ?_
              refine AllReadyH.cons rfl (fun KK hK => ?_) AllReadyH.nil
              obtain ⟨k0, k1, k2, k3⟩ := hd.v.cells
              obtain ⟨z0, z1, z2, z3⟩ := hd.v.fz
              go_simp
              clear k0 k1 k2 k3 z0 z1 z2 z3
              have hEx := hd.effSet 3 (.slice (some ⟨b9, 0, none⟩) (D.ni + 1) c9)
              replace hR := hR.eff hEx
              replace hT9 := hT9.eff hEx (by decide) (by decide) (by decide)
              replace hr := hr.other (C := Bd) (i := 3) (u := .slice (some ⟨b9, 0, none⟩) (D.ni + 1) c9) (by omega)
              replace hd := hd.set3 (.slice (some ⟨b9, 0, none⟩) (D.ni + 1) c9)
              clear hEx
              refine hK.out _ _ hd.v.cells.2.1 (fun hHeld => ?_)
              clear hK KK
              try simp only [Act.put, List.setIfInBounds_toArray, List.set_cons_zero, List.set_cons_succ]
              refine wpAnyH_done (by kernel_rfl) ?_ _
              have HS : Hid (Sa w g ao n cap f Bd _) := ⟨_, _, D.nc, _, _, { D with ni := D.ni + 1, idx := upd D.idx D.ni ⟨z, false, N8, h8⟩ }, _, _, Nat.le_refl _, ⟨_, _, _, _, rfl, rfl⟩, ⟨_, _, _, rfl⟩, hr, (by show Vd w Bd (.string D.name) _ _ _ _; rw [HQ.out.1]; exact hd), hT9.tw, hR⟩
              clear hT9 hr hd hR HQ hHeld
              go_wp2_with fail
              go_meet
              exact HS.out
            ·
              go_simp
              have hcl := cells_idx9 w8 z false (some ⟨b8, 0, none⟩) N8 c8
              have hs8 := hR.size
              have hEx := Eff.alloc w 129 w8 (.cells #[.string z, .bool false, .slice (some ⟨b8, 0, none⟩) N8 c8] 37)
              replace hr := hr.eff hEx (by decide)
              replace hd := hd.eff hEx (by decide)
              replace hT := hT.eff hEx (by decide) (by decide) (by decide)
              replace hP : PtAt _ _ _ _ _ := ⟨own_eff hP.own hEx (by decide)⟩
              replace hR := hR.eff hEx
              clear hEx
              refine hK.out _ _ hd.v.cells.2.1 (fun hHeld => ?_)
              clear hK KK
              try simp only [Act.put, List.setIfInBounds_toArray, List.set_cons_zero, List.set_cons_succ]
              refine wpAnyH_ready (rs := [1]) (by kernel_rfl) (by simp) ?_
              refine AllReadyH.cons rfl (fun KK hK => ?_) AllReadyH.nil
              obtain ⟨k0, k1, k2, k3⟩ := hd.v.cells
              go_simp
              clear k0 k1 k2 k3
              refine hK.out _ _ hd.v.cells.2.1 (fun hHeld => ?_)
              clear hK KK
              try simp only [Act.put, List.setIfInBounds_toArray, List.set_cons_zero, List.set_cons_succ]
              refine wpAnyH_ready (rs := [13]) (by kernel_rfl) (by simp) ?_
              refine AllReadyH.cons rfl (fun KK hK => ?_) AllReadyH.nil
              rw [if_pos (by kernel_rfl)]
              refine wp_append_own _ (.tmp 76) (.tmp 87) 26 rfl w.heap.size 37 iI (.agg #[.string ⟨#[]⟩, .bool false, .slice none 0 0]) 3 48 Tryz.underlying26 hiI.1 hiI.2.1 hiI.2.2.1 hiI.2.2.2 rfl (by decide) _ _ _ rfl hT.idx ⟨w8.heap.size, 0, none⟩ 1 1 [.string z, .bool false, .slice (some ⟨b8, 0, none⟩) N8 c8] rfl rfl hcl (one_idx9 _ _ _ _ _) (by unfold maxLen; omega) (by omega) (by first | omega | (simp; omega)) ?_
              intro vX w9 hOX hgX hnX
              have hEx := Eff.grown hT.idx hgX
              have hT9 := hT.addIdx ⟨z, false, N8, h8⟩ b8 c8 hOX hP (by simp only [Value.ownBlock, ne_eq, Option.some.injEq]; omega) hEx ⟨hzs, by show N8 ≤ 1000; omega⟩ (by omega)
              obtain ⟨b9, c9, rfl⟩ := own_succG hOX
              replace hr := hr.eff hEx (by decide)
              replace hd := hd.eff hEx (by decide)
              replace hR := hR.eff hEx
              clear hEx hT hOX hgX hnX hcl hP
              refine hK.out _ _ hd.v.cells.2.1 (fun hHeld => ?_)
              clear hK KK
              change wpAnyH _ _ _ _ _ _ _ (Act.put _ (some 88) _) _
              try simp only [Act.put, List.setIfInBounds_toArray, List.set_cons_zero, List.set_cons_succ]
              refine' wpAnyH_take (i := 14) (v := _) rfl (by kernel_rfl) (by kernel_rfl) (by kernel_rfl) (fun _ _ _ h => h) (Or.inl ⟨by kernel_rfl, ?hqf16⟩) (by assumption) ?rqf16
              case hqf16 => intro W hW; have c1 := hW; go_simp; all_goals with_reducible rfl
              change wpAnyH _ _ _ _ _ _ _ (Act.put _ (some 89) _) _
              simp only [Act.put, List.setIfInBounds_toArray, List.set_cons_zero, List.set_cons_succ]
              refine wpAnyH_ready (rs := [15]) (by kernel_rfl) (by simp) ?_
              refine AllReadyH.cons rfl (fun KK hK => ?_) AllReadyH.nil
              obtain ⟨k0, k1, k2, k3⟩ := hd.v.cells
              obtain ⟨z0, z1, z2, z3⟩ := hd.v.fz
              go_simp
              clear k0 k1 k2 k3 z0 z1 z2 z3
              have hEx := hd.effSet 3 (.slice (some ⟨b9, 0, none⟩) (D.ni + 1) c9)
              replace hR := hR.eff hEx
              replace hT9 := hT9.eff hEx (by decide) (by decide) (by decide)
              replace hr := hr.other (C := Bd) (i := 3) (u := .slice (some ⟨b9, 0, none⟩) (D.ni + 1) c9) (by omega)
              replace hd := hd.set3 (.slice (some ⟨b9, 0, none⟩) (D.ni + 1) c9)
              clear hEx
              refine hK.out _ _ hd.v.cells.2.1 (fun hHeld => ?_)
              clear hK KK
              try simp only [Act.put, List.setIfInBounds_toArray, List.set_cons_zero, List.set_cons_succ]
              refine wpAnyH_done (by kernel_rfl) ?_ _
              have HS : Hid (Sa w g ao n cap f Bd _) := ⟨_, _, D.nc, _, _, { D with ni := D.ni + 1, idx := upd D.idx D.ni ⟨z, false, N8, h8⟩ }, _, _, Nat.le_refl _, ⟨_, _, _, _, rfl, rfl⟩, ⟨_, _, _, rfl⟩, hr, (by show Vd w Bd (.string D.name) _ _ _ _; rw [HQ.out.1]; exact hd), hT9.tw, hR⟩
              clear hT9 hr hd hR HQ hHeld
              go_wp2_with fail
              go_meet
              exact HS.out
    · have hncc : D.nc ≤ cc := (hT.colAt (i := 0) (by omega)).2.1
      go_wp2_with fail
      have hEx : Eff w 129 wq wq.drew := Eff.ofBelow (Below.refl _ _).drew
      replace hr := hr.eff hEx (by decide)
      replace hd := hd.eff hEx (by decide)
      replace hT := hT.eff hEx (by decide) (by decide) (by decide)
      replace hR := hR.eff hEx
      clear hEx
      refine wp_region_held_drew (S := (fun _ => True)) (by kernel_rfl) trivial (fun hHeld => ?_)
      obtain ⟨wqd, hwqd⟩ : ∃ wqd, Hid (wqd = wq.drew) := ⟨_, rfl⟩
      rw [← hwqd.out] at hr hd hT hR ⊢
      refine' wpAnyH_take (i := 0) (v := _) rfl (by kernel_rfl) (by kernel_rfl) (by kernel_rfl) (fun _ _ _ h => h) (Or.inl ⟨by kernel_rfl, ?hqg1⟩) (by assumption) ?rqg1
      case hqg1 => intro W hW; go_simp; all_goals with_reducible rfl
      change wpAnyH _ _ _ _ _ _ _ (Act.put _ (some 92) _) _
      simp only [Act.put, List.setIfInBounds_toArray, List.set_cons_zero, List.set_cons_succ]
      refine' wpAnyH_take (i := 2) (v := _) rfl (by kernel_rfl) (by kernel_rfl) (by kernel_rfl) (fun _ _ _ h => h) (Or.inl ⟨by kernel_rfl, ?hqg2⟩) (by assumption) ?rqg2
      case hqg2 => intro W hW; go_simp; all_goals with_reducible rfl
      change wpAnyH _ _ _ _ _ _ _ (Act.put _ (some 94) _) _
      simp only [Act.put, List.setIfInBounds_toArray, List.set_cons_zero, List.set_cons_succ]
      refine wpAnyH_ready (rs := [1, 3]) (by kernel_rfl) (by simp) ?_
      refine AllReadyH.cons rfl (fun KK hK => ?_) (AllReadyH.cons rfl (fun KK hK => ?_) AllReadyH.nil)
      ·
        obtain ⟨k0, k1, k2, k3⟩ := hd.v.cells
        go_simp
        clear k0 k1 k2 k3
        refine hK.out _ _ trivial (fun hHeld => ?_)
        clear hK KK
        try simp only [Act.put, List.setIfInBounds_toArray, List.set_cons_zero, List.set_cons_succ]
        refine wpAnyH_ready (rs := [3]) (by kernel_rfl) (by simp) ?_
        refine AllReadyH.cons rfl (fun KK hK => ?_) AllReadyH.nil
        go_simp
        refine (l1Below_any g ao n cap f 2 _ hn (by omega) (by omega) hR.cur).mono ?_
        rintro e w6 ⟨x, rfl, hx0, hx1, hCx, hOx⟩
        replace hr := hr.but (But.ofOnly hOx) hg
        replace hd := hd.but (But.ofOnly hOx) hg
        replace hT := hT.but (But.ofOnly hOx) hg
        replace hR := hR.next hCx (But.ofOnly hOx)
        clear hCx hOx
        obtain ⟨m, rfl⟩ : ∃ m : Nat, x = m := ⟨x.toNat, by omega⟩
        have hmc : (m : Int) ≤ (cc : Int) := by omega
        go_wp2_with fail
        refine hK.out _ _ trivial (fun hHeld => ?_)
        clear hK KK
        try simp only [Act.put, List.setIfInBounds_toArray, List.set_cons_zero, List.set_cons_succ]
        refine' wpAnyH_take (i := 4) (v := _) rfl (by kernel_rfl) (by kernel_rfl) (by kernel_rfl) (fun _ _ _ h => h) (Or.inl ⟨by kernel_rfl, ?hqg3⟩) (by assumption) ?rqg3
        case hqg3 => intro W hW; go_simp; all_goals with_reducible rfl
        change wpAnyH _ _ _ _ _ _ _ (Act.put _ (some 96) _) _
        simp only [Act.put, List.setIfInBounds_toArray, List.set_cons_zero, List.set_cons_succ]
        refine' wpAnyH_take (i := 5) (v := _) rfl (by kernel_rfl) (by kernel_rfl) (by kernel_rfl) (fun _ _ _ h => h) (Or.inl ⟨by kernel_rfl, ?hqg4⟩) (by assumption) ?rqg4
        case hqg4 => intro W hW; go_simp; all_goals with_reducible rfl
        change wpAnyH _ _ _ _ _ _ _ (Act.put _ (some 97) _) _
        simp only [Act.put, List.setIfInBounds_toArray, List.set_cons_zero, List.set_cons_succ]
        refine wpAnyH_ready (rs := [6]) (by kernel_rfl) (by simp) ?_
        refine AllReadyH.cons rfl (fun KK hK => ?_) AllReadyH.nil
        obtain ⟨k0, k1, k2, k3⟩ := hd.v.cells
        obtain ⟨z0, z1, z2, z3⟩ := hd.v.fz
        go_simp
        clear k0 k1 k2 k3 z0 z1 z2 z3
        have hEx := hd.effSet 1 (.slice (some ⟨bc, 0, none⟩) m cc)
        replace hR := hR.eff hEx
        replace hT := hT.eff hEx (by decide) (by decide) (by decide)
        replace hr := hr.other (C := Bd) (i := 1) (u := .slice (some ⟨bc, 0, none⟩) m cc) (by omega)
        replace hd := hd.set1 (.slice (some ⟨bc, 0, none⟩) m cc)
        clear hEx
        refine hK.out _ _ trivial (fun hHeld => ?_)
        clear hK KK
        try simp only [Act.put, List.setIfInBounds_toArray, List.set_cons_zero, List.set_cons_succ]
        refine wpAnyH_done (by kernel_rfl) ?_ _
        have HS : Hid (Sa w g ao n cap f Bd _) := ⟨_, _, m, _, _, D, A, C, (by omega), ⟨_, _, _, _, rfl, rfl⟩, ⟨_, _, _, rfl⟩, hr, (by show Vd w Bd (.string D.name) _ _ _ _; rw [HQ.out.1]; exact hd), hT.tw, hR⟩
        clear hT hr hd hR HQ hHeld
        go_wp2_with fail
        go_meet
        exact HS.out
      ·
        go_simp
        refine (l1Below_any g ao n cap f 2 _ hn (by omega) (by omega) hR.cur).mono ?_
        rintro e w6 ⟨x, rfl, hx0, hx1, hCx, hOx⟩
        replace hr := hr.but (But.ofOnly hOx) hg
        replace hd := hd.but (But.ofOnly hOx) hg
        replace hT := hT.but (But.ofOnly hOx) hg
        replace hR := hR.next hCx (But.ofOnly hOx)
        clear hCx hOx
        obtain ⟨m, rfl⟩ : ∃ m : Nat, x = m := ⟨x.toNat, by omega⟩
        have hmc : (m : Int) ≤ (cc : Int) := by omega
        go_wp2_with fail
        refine hK.out _ _ trivial (fun hHeld => ?_)
        clear hK KK
        try simp only [Act.put, List.setIfInBounds_toArray, List.set_cons_zero, List.set_cons_succ]
        refine wpAnyH_ready (rs := [1]) (by kernel_rfl) (by simp) ?_
        refine AllReadyH.cons rfl (fun KK hK => ?_) AllReadyH.nil
        obtain ⟨k0, k1, k2, k3⟩ := hd.v.cells
        go_simp
        clear k0 k1 k2 k3
        refine hK.out _ _ trivial (fun hHeld => ?_)
        clear hK KK
        try simp only [Act.put, List.setIfInBounds_toArray, List.set_cons_zero, List.set_cons_succ]
        refine' wpAnyH_take (i := 4) (v := _) rfl (by kernel_rfl) (by kernel_rfl) (by kernel_rfl) (fun _ _ _ h => h) (Or.inl ⟨by kernel_rfl, ?hqg5⟩) (by assumption) ?rqg5
        case hqg5 => intro W hW; go_simp; all_goals with_reducible rfl
        change wpAnyH _ _ _ _ _ _ _ (Act.put _ (some 96) _) _
        simp only [Act.put, List.setIfInBounds_toArray, List.set_cons_zero, List.set_cons_succ]
        refine' wpAnyH_take (i := 5) (v := _) rfl (by kernel_rfl) (by kernel_rfl) (by kernel_rfl) (fun _ _ _ h => h) (Or.inl ⟨by kernel_rfl, ?hqg6⟩) (by assumption) ?rqg6
        case hqg6 => intro W hW; go_simp; all_goals with_reducible rfl
        change wpAnyH _ _ _ _ _ _ _ (Act.put _ (some 97) _) _
        simp only [Act.put, List.setIfInBounds_toArray, List.set_cons_zero, List.set_cons_succ]
        refine wpAnyH_ready (rs := [6]) (by kernel_rfl) (by simp) ?_
        refine AllReadyH.cons rfl (fun KK hK => ?_) AllReadyH.nil
        obtain ⟨k0, k1, k2, k3⟩ := hd.v.cells
        obtain ⟨z0, z1, z2, z3⟩ := hd.v.fz
        go_simp
        clear k0 k1 k2 k3 z0 z1 z2 z3
        have hEx := hd.effSet 1 (.slice (some ⟨bc, 0, none⟩) m cc)
        replace hR := hR.eff hEx
        replace hT := hT.eff hEx (by decide) (by decide) (by decide)
        replace hr := hr.other (C := Bd) (i := 1) (u := .slice (some ⟨bc, 0, none⟩) m cc) (by omega)
        replace hd := hd.set1 (.slice (some ⟨bc, 0, none⟩) m cc)
        clear hEx
        refine hK.out _ _ trivial (fun hHeld => ?_)
        clear hK KK
        try simp only [Act.put, List.setIfInBounds_toArray, List.set_cons_zero, List.set_cons_succ]
        refine wpAnyH_done (by kernel_rfl) ?_ _
        have HS : Hid (Sa w g ao n cap f Bd _) := ⟨_, _, m, _, _, D, A, C, (by omega), ⟨_, _, _, _, rfl, rfl⟩, ⟨_, _, _, rfl⟩, hr, (by show Vd w Bd (.string D.name) _ _ _ _; rw [HQ.out.1]; exact hd), hT.tw, hR⟩
        clear hT hr hd hR HQ hHeld
        go_wp2_with fail
        go_meet
        exact HS.out
    · have hS8 : S8 w g ao n cap f Bd D.nc wq := ⟨bc, cc, bp, cp, .slice ia nn ic, D, A, C, HQ.out.1, rfl, ⟨_, _, _, rfl⟩, hr, hd, hT, hR⟩
      clear hT hr hd hR
      go_wp2
      go_loopg [] (7 - D.nc) (fun q wr => ∃ N : Nat, N ≤ 7 ∧ q = 7 - N ∧ S8 w g ao n cap f Bd N wr)
      case atStart => exact ⟨D.nc, by omega, rfl, hS8⟩
      case round =>
        clear hS8 HQ
        obtain ⟨N, hN7, rfl, bc, cc, bp, cp, vi, D, A, C, e1, rfl, hsl, hr, hd, hT, hR⟩ := hrel
        have HQ : Hid (D.name = ⟨#[116]⟩) := e1
        clear e1
        go_wp2_with fail
        have hEx : Eff w 129 wr wr.drew := Eff.ofBelow (Below.refl _ _).drew
        replace hr := hr.eff hEx (by decide)
        replace hd := hd.eff hEx (by decide)
        replace hT := hT.eff hEx (by decide) (by decide) (by decide)
        replace hR := hR.eff hEx
        clear hEx
        refine wp_region_held_drew (S := (fun W => W.cell? ⟨Bd, 1, none⟩ = some (.slice (some ⟨bc, 0, none⟩) D.nc cc))) (by kernel_rfl) hd.v.cells.2.1 (fun hHeld => ?_)
        obtain ⟨wrd, hwrd⟩ : ∃ wrd, Hid (wrd = wr.drew) := ⟨_, rfl⟩
        rw [← hwrd.out] at hHeld hr hd hT hR ⊢
        refine' wpAnyH_take (i := 0) (v := _) rfl (by kernel_rfl) (by kernel_rfl) (by kernel_rfl) (fun _ _ _ h => h) (Or.inl ⟨by kernel_rfl, ?hqh1⟩) (by assumption) ?rqh1
        case hqh1 => intro W hW; have c1 := hW; go_simp; all_goals with_reducible rfl
        change wpAnyH _ _ _ _ _ _ _ (Act.put _ (some 100) _) _
        simp only [Act.put, List.setIfInBounds_toArray, List.set_cons_zero, List.set_cons_succ]
        refine' wpAnyH_take (i := 1) (v := _) rfl (by kernel_rfl) (by kernel_rfl) (by kernel_rfl) (fun _ _ _ h => h) (Or.inl ⟨by kernel_rfl, ?hqh2⟩) (by assumption) ?rqh2
        case hqh2 => intro W hW; have c1 := hW; go_simp; all_goals with_reducible rfl
        change wpAnyH _ _ _ _ _ _ _ (Act.put _ (some 101) _) _
        simp only [Act.put, List.setIfInBounds_toArray, List.set_cons_zero, List.set_cons_succ]
        refine' wpAnyH_take (i := 2) (v := _) rfl (by kernel_rfl) (by kernel_rfl) (by kernel_rfl) (fun _ _ _ h => h) (Or.inl ⟨by kernel_rfl, ?hqh3⟩) (by assumption) ?rqh3
        case hqh3 => intro W hW; have c1 := hW; go_simp; all_goals with_reducible rfl
        change wpAnyH _ _ _ _ _ _ _ (Act.put _ (some 102) _) _
        simp only [Act.put, List.setIfInBounds_toArray, List.set_cons_zero, List.set_cons_succ]
        refine' wpAnyH_take (i := 3) (v := _) rfl (by kernel_rfl) (by kernel_rfl) (by kernel_rfl) (fun _ _ _ h => h) (Or.inl ⟨by kernel_rfl, ?hqh4⟩) (by assumption) ?rqh4
        case hqh4 => intro W hW; have c1 := hW; go_simp; all_goals with_reducible rfl
        change wpAnyH _ _ _ _ _ _ _ (Act.put _ (some 103) _) _
        simp only [Act.put, List.setIfInBounds_toArray, List.set_cons_zero, List.set_cons_succ]
        refine wpAnyH_ready (rs := [4]) (by kernel_rfl) (by simp) ?_
        refine AllReadyH.cons rfl (fun KK hK => ?_) AllReadyH.nil
        go_simp
        refine (l1Below_any g ao n cap f 2 _ hn (by omega) (by omega) hR.cur).mono ?_
        rintro e w5 ⟨x, rfl, hx0, hx1, hCx, hOx⟩
        replace hr := hr.but (But.ofOnly hOx) hg
        replace hd := hd.but (But.ofOnly hOx) hg
        replace hT := hT.but (But.ofOnly hOx) hg
        replace hR := hR.next hCx (But.ofOnly hOx)
        clear hCx hOx
        have hwx : IntKind.i64.wrap (6 + x) = 6 + x := by rw [IntKind.wrap_i64]; omega
        go_wp2_with fail
        refine hK.out _ _ hd.v.cells.2.1 (fun hHeld => ?_)
        clear hK KK
        try simp only [Act.put, List.setIfInBounds_toArray, List.set_cons_zero, List.set_cons_succ]
        refine' wpAnyH_take (i := 5) (v := _) rfl (by kernel_rfl) (by kernel_rfl) (by kernel_rfl) (fun _ _ _ h => h) (Or.inl ⟨by kernel_rfl, ?hqh5⟩) (by assumption) ?rqh5
        case hqh5 => intro W hW; have c1 := hW; go_simp; all_goals with_reducible rfl
        change wpAnyH _ _ _ _ _ _ _ (Act.put _ (some 105) _) _
        simp only [Act.put, List.setIfInBounds_toArray, List.set_cons_zero, List.set_cons_succ]
        refine' wpAnyH_take (i := 6) (v := _) rfl (by kernel_rfl) (by kernel_rfl) (by kernel_rfl) (fun _ _ _ h => h) (Or.inl ⟨by kernel_rfl, ?hqh6⟩) (by assumption) ?rqh6
        case hqh6 => intro W hW; have c1 := hW; go_simp; all_goals with_reducible rfl
        change wpAnyH _ _ _ _ _ _ _ (Act.put _ (some 106) _) _
        simp only [Act.put, List.setIfInBounds_toArray, List.set_cons_zero, List.set_cons_succ]
        refine wpAnyH_done (by kernel_rfl) ?_ _
        by_cases hlt : (D.nc : Int) < 6 + x
        · have hl6 : D.nc ≤ 6 := by omega
          clear hHeld
          go_wp2_with fail
          have hEx : Eff w 129 w5 w5.drew := Eff.ofBelow (Below.refl _ _).drew
          replace hr := hr.eff hEx (by decide)
          replace hd := hd.eff hEx (by decide)
          replace hT := hT.eff hEx (by decide) (by decide) (by decide)
          replace hR := hR.eff hEx
          clear hEx
          refine wp_region_held_drew (S := (fun _ => True)) (by kernel_rfl) trivial (fun hHeld => ?_)
          obtain ⟨w5d, hw5d⟩ : ∃ w5d, Hid (w5d = w5.drew) := ⟨_, rfl⟩
          rw [← hw5d.out] at hr hd hT hR ⊢
          refine' wpAnyH_take (i := 0) (v := _) rfl (by kernel_rfl) (by kernel_rfl) (by kernel_rfl) (fun _ _ _ h => h) (Or.inl ⟨by kernel_rfl, ?hqi1⟩) (by assumption) ?rqi1
          case hqi1 => intro W hW; go_simp; all_goals with_reducible rfl
          change wpAnyH _ _ _ _ _ _ _ (Act.put _ (some 107) _) _
          simp only [Act.put, List.setIfInBounds_toArray, List.set_cons_zero, List.set_cons_succ]
          refine' wpAnyH_take (i := 2) (v := _) rfl (by kernel_rfl) (by kernel_rfl) (by kernel_rfl) (fun _ _ _ h => h) (Or.inl ⟨by kernel_rfl, ?hqi2⟩) (by assumption) ?rqi2
          case hqi2 => intro W hW; go_simp; all_goals with_reducible rfl
          change wpAnyH _ _ _ _ _ _ _ (Act.put _ (some 109) _) _
          simp only [Act.put, List.setIfInBounds_toArray, List.set_cons_zero, List.set_cons_succ]
          refine wpAnyH_ready (rs := [1, 3]) (by kernel_rfl) (by simp) ?_
          refine AllReadyH.cons rfl (fun KK hK => ?_) (AllReadyH.cons rfl (fun KK hK => ?_) AllReadyH.nil)
          ·
            obtain ⟨k0, k1, k2, k3⟩ := hd.v.cells
            go_simp
            clear k0 k1 k2 k3
            refine hK.out _ _ trivial (fun hHeld => ?_)
            clear hK KK
            try simp only [Act.put, List.setIfInBounds_toArray, List.set_cons_zero, List.set_cons_succ]
            refine wpAnyH_ready (rs := [3]) (by kernel_rfl) (by simp) ?_
            refine AllReadyH.cons rfl (fun KK hK => ?_) AllReadyH.nil
            obtain ⟨k0, k1, k2, k3⟩ := hd.v.cells
            go_simp
            clear k0 k1 k2 k3
            refine hK.out _ _ trivial (fun hHeld => ?_)
            clear hK KK
            try simp only [Act.put, List.setIfInBounds_toArray, List.set_cons_zero, List.set_cons_succ]
            refine' wpAnyH_take (i := 4) (v := _) rfl (by kernel_rfl) (by kernel_rfl) (by kernel_rfl) (fun _ _ _ h => h) (Or.inl ⟨by kernel_rfl, ?hqi3⟩) (by assumption) ?rqi3
            case hqi3 => intro W hW; go_simp; all_goals with_reducible rfl
            change wpAnyH _ _ _ _ _ _ _ (Act.put _ (some 111) _) _
            simp only [Act.put, List.setIfInBounds_toArray, List.set_cons_zero, List.set_cons_succ]
            refine wpAnyH_ready (rs := [5]) (by kernel_rfl) (by simp) ?_
            refine AllReadyH.cons rfl (fun KK hK => ?_) AllReadyH.nil
            go_simp
            refine (l2Num_one D.nc _ (by omega)).mono ?_
            rintro e w6 ⟨rfl, hB6⟩
            have hEx : Eff w 129 _ w6 := Eff.ofBelow hB6
            replace hr := hr.eff hEx (by decide)
            replace hd := hd.eff hEx (by decide)
            replace hT := hT.eff hEx (by decide) (by decide) (by decide)
            replace hR := hR.eff hEx
            clear hEx hB6
            generalize hon : oneB (48 + (D.nc : Int)) = on
            have hos : on.size = 1 := by rw [← hon]; exact oneB_size _
            clear hon
            have hzl : ¬ ((⟨#[122]⟩ : ByteArray).size + on.size > 9223372036854775807) := by rw [hos]; decide
            go_wp2_with fail
            refine hK.out _ _ trivial (fun hHeld => ?_)
            clear hK KK
            try simp only [Act.put, List.setIfInBounds_toArray, List.set_cons_zero, List.set_cons_succ]
            refine' wpAnyH_take (i := 6) (v := _) rfl (by kernel_rfl) (by kernel_rfl) (by kernel_rfl) (fun _ _ _ h => h) (Or.inl ⟨by kernel_rfl, ?hqi4⟩) (by assumption) ?rqi4
            case hqi4 => intro W hW; go_simp; all_goals with_reducible rfl
            change wpAnyH _ _ _ _ _ _ _ (Act.put _ (some 113) _) _
            simp only [Act.put, List.setIfInBounds_toArray, List.set_cons_zero, List.set_cons_succ]
            refine' wpAnyH_take (i := 7) (v := _) rfl (by kernel_rfl) (by kernel_rfl) (by kernel_rfl) (fun _ _ _ h => h) (Or.inl ⟨by kernel_rfl, ?hqi5⟩) (by assumption) ?rqi5
            case hqi5 => intro W hW; go_simp; all_goals with_reducible rfl
            change wpAnyH _ _ _ _ _ _ _ (Act.put _ (some 114) _) _
            simp only [Act.put, List.setIfInBounds_toArray, List.set_cons_zero, List.set_cons_succ]
            refine wpAnyH_ready (rs := [8]) (by kernel_rfl) (by simp) ?_
            refine AllReadyH.cons rfl (fun KK hK => ?_) AllReadyH.nil
            go_simp
            have hcl := cells_col9 w6 ((⟨#[122]⟩ : ByteArray) ++ on) 4 false
            have hs6 := hR.size
            have hEx := Eff.alloc w 129 w6 (.cells #[.string ((⟨#[122]⟩ : ByteArray) ++ on), .int .i64 4, .bool false] 81)
            replace hr := hr.eff hEx (by decide)
            replace hd := hd.eff hEx (by decide)
            replace hT := hT.eff hEx (by decide) (by decide) (by decide)
            replace hR := hR.eff hEx
            clear hEx
            refine hK.out _ _ trivial (fun hHeld => ?_)
            clear hK KK
            try simp only [Act.put, List.setIfInBounds_toArray, List.set_cons_zero, List.set_cons_succ]
            refine wpAnyH_ready (rs := [9]) (by kernel_rfl) (by simp) ?_
            refine AllReadyH.cons rfl (fun KK hK => ?_) AllReadyH.nil
            rw [if_pos (by kernel_rfl)]
            refine wp_append_own _ (.tmp 108) (.tmp 115) 24 rfl w.heap.size 81 iC (.agg #[.string ⟨#[]⟩, .int .i64 0, .bool false]) 3 32 Tryz.underlying24 hiC.1 hiC.2.1 hiC.2.2.1 hiC.2.2.2 rfl (by decide) _ _ _ rfl hT.cols ⟨w6.heap.size, 0, none⟩ 1 1 [.string ((⟨#[122]⟩ : ByteArray) ++ on), .int .i64 4, .bool false] rfl rfl hcl (one_col9 _ _ _) (by unfold maxLen; omega) (by omega) (by first | omega | (simp; omega)) ?_
            intro vX w8 hOX hgX hnX
            have hEx := Eff.grown hT.cols hgX
            have hT8 := hT.addCol ⟨((⟨#[122]⟩ : ByteArray) ++ on), 4, false⟩ hOX hEx (by show ByteArray.size _ ≤ 1000; rw [ByteArray.size_append, hos]; decide) (by omega)
            obtain ⟨b9, c9, rfl⟩ := own_succG hOX
            replace hr := hr.eff hEx (by decide)
            replace hd := hd.eff hEx (by decide)
            replace hR := hR.eff hEx
            clear hEx hT hOX hgX hnX hcl
            refine hK.out _ _ trivial (fun hHeld => ?_)
            clear hK KK
            change wpAnyH _ _ _ _ _ _ _ (Act.put _ (some 116) _) _
            try simp only [Act.put, List.setIfInBounds_toArray, List.set_cons_zero, List.set_cons_succ]
            refine' wpAnyH_take (i := 10) (v := _) rfl (by kernel_rfl) (by kernel_rfl) (by kernel_rfl) (fun _ _ _ h => h) (Or.inl ⟨by kernel_rfl, ?hqi6⟩) (by assumption) ?rqi6
            case hqi6 => intro W hW; go_simp; all_goals with_reducible rfl
            change wpAnyH _ _ _ _ _ _ _ (Act.put _ (some 117) _) _
            simp only [Act.put, List.setIfInBounds_toArray, List.set_cons_zero, List.set_cons_succ]
            refine wpAnyH_ready (rs := [11]) (by kernel_rfl) (by simp) ?_
            refine AllReadyH.cons rfl (fun KK hK => ?_) AllReadyH.nil
            obtain ⟨k0, k1, k2, k3⟩ := hd.v.cells
            obtain ⟨z0, z1, z2, z3⟩ := hd.v.fz
            go_simp
            clear k0 k1 k2 k3 z0 z1 z2 z3
            have hEx := hd.effSet 1 (.slice (some ⟨b9, 0, none⟩) (D.nc + 1) c9)
            replace hR := hR.eff hEx
            replace hT8 := hT8.eff hEx (by decide) (by decide) (by decide)
            replace hr := hr.other (C := Bd) (i := 1) (u := .slice (some ⟨b9, 0, none⟩) (D.nc + 1) c9) (by omega)
            replace hd := hd.set1 (.slice (some ⟨b9, 0, none⟩) (D.nc + 1) c9)
            clear hEx
            refine hK.out _ _ trivial (fun hHeld => ?_)
            clear hK KK
            try simp only [Act.put, List.setIfInBounds_toArray, List.set_cons_zero, List.set_cons_succ]
            refine wpAnyH_done (by kernel_rfl) ?_ _
            have HS : Hid (S8 w g ao n cap f Bd (D.nc + 1) _) := ⟨b9, c9, bp, cp, vi, { D with nc := D.nc + 1, col := upd D.col D.nc ⟨((⟨#[122]⟩ : ByteArray) ++ on), 4, false⟩ }, A, C, HQ.out, rfl, hsl, hr, hd, hT8, hR⟩
            clear hr hd hT8 hR hHeld HQ
            go_wp2
            go_roundg (7 - (D.nc + 1))
            case measure => omega
            case rel => exact ⟨D.nc + 1, by omega, rfl, HS.out⟩
          ·
            obtain ⟨k0, k1, k2, k3⟩ := hd.v.cells
            go_simp
            clear k0 k1 k2 k3
            refine hK.out _ _ trivial (fun hHeld => ?_)
            clear hK KK
            try simp only [Act.put, List.setIfInBounds_toArray, List.set_cons_zero, List.set_cons_succ]
            refine' wpAnyH_take (i := 4) (v := _) rfl (by kernel_rfl) (by kernel_rfl) (by kernel_rfl) (fun _ _ _ h => h) (Or.inl ⟨by kernel_rfl, ?hqi7⟩) (by assumption) ?rqi7
            case hqi7 => intro W hW; go_simp; all_goals with_reducible rfl
            change wpAnyH _ _ _ _ _ _ _ (Act.put _ (some 111) _) _
            simp only [Act.put, List.setIfInBounds_toArray, List.set_cons_zero, List.set_cons_succ]
            refine wpAnyH_ready (rs := [1, 5]) (by kernel_rfl) (by simp) ?_
            refine AllReadyH.cons rfl (fun KK hK => ?_) (AllReadyH.cons rfl (fun KK hK => ?_) AllReadyH.nil)
            ·
              obtain ⟨k0, k1, k2, k3⟩ := hd.v.cells
              go_simp
              clear k0 k1 k2 k3
              refine hK.out _ _ trivial (fun hHeld => ?_)
              clear hK KK
              try simp only [Act.put, List.setIfInBounds_toArray, List.set_cons_zero, List.set_cons_succ]
              refine wpAnyH_ready (rs := [5]) (by kernel_rfl) (by simp) ?_
              refine AllReadyH.cons rfl (fun KK hK => ?_) AllReadyH.nil
              go_simp
              refine (l2Num_one D.nc _ (by omega)).mono ?_
              rintro e w6 ⟨rfl, hB6⟩
              have hEx : Eff w 129 _ w6 := Eff.ofBelow hB6
              replace hr := hr.eff hEx (by decide)
              replace hd := hd.eff hEx (by decide)
              replace hT := hT.eff hEx (by decide) (by decide) (by decide)
              replace hR := hR.eff hEx
              clear hEx hB6
              generalize hon : oneB (48 + (D.nc : Int)) = on
              have hos : on.size = 1 := by rw [← hon]; exact oneB_size _
              clear hon
              have hzl : ¬ ((⟨#[122]⟩ : ByteArray).size + on.size > 9223372036854775807) := by rw [hos]; decide
              go_wp2_with fail
              refine hK.out _ _ trivial (fun hHeld => ?_)
              clear hK KK
              try simp only [Act.put, List.setIfInBounds_toArray, List.set_cons_zero, List.set_cons_succ]
              refine' wpAnyH_take (i := 6) (v := _) rfl (by kernel_rfl) (by kernel_rfl) (by kernel_rfl) (fun _ _ _ h => h) (Or.inl ⟨by kernel_rfl, ?hqi8⟩) (by assumption) ?rqi8
              case hqi8 => intro W hW; go_simp; all_goals with_reducible rfl
              change wpAnyH _ _ _ _ _ _ _ (Act.put _ (some 113) _) _
              simp only [Act.put, List.setIfInBounds_toArray, List.set_cons_zero, List.set_cons_succ]
              refine' wpAnyH_take (i := 7) (v := _) rfl (by kernel_rfl) (by kernel_rfl) (by kernel_rfl) (fun _ _ _ h => h) (Or.inl ⟨by kernel_rfl, ?hqi9⟩) (by assumption) ?rqi9
              case hqi9 => intro W hW; go_simp; all_goals with_reducible rfl
              change wpAnyH _ _ _ _ _ _ _ (Act.put _ (some 114) _) _
              simp only [Act.put, List.setIfInBounds_toArray, List.set_cons_zero, List.set_cons_succ]
              refine wpAnyH_ready (rs := [8]) (by kernel_rfl) (by simp) ?_
              refine AllReadyH.cons rfl (fun KK hK => ?_) AllReadyH.nil
              go_simp
              have hcl := cells_col9 w6 ((⟨#[122]⟩ : ByteArray) ++ on) 4 false
              have hs6 := hR.size
              have hEx := Eff.alloc w 129 w6 (.cells #[.string ((⟨#[122]⟩ : ByteArray) ++ on), .int .i64 4, .bool false] 81)
              replace hr := hr.eff hEx (by decide)
              replace hd := hd.eff hEx (by decide)
              replace hT := hT.eff hEx (by decide) (by decide) (by decide)
              replace hR := hR.eff hEx
              clear hEx
              refine hK.out _ _ trivial (fun hHeld => ?_)
              clear hK KK
              try simp only [Act.put, List.setIfInBounds_toArray, List.set_cons_zero, List.set_cons_succ]
              refine wpAnyH_ready (rs := [9]) (by kernel_rfl) (by simp) ?_
              refine AllReadyH.cons rfl (fun KK hK => ?_) AllReadyH.nil
              rw [if_pos (by kernel_rfl)]
              refine wp_append_own _ (.tmp 108) (.tmp 115) 24 rfl w.heap.size 81 iC (.agg #[.string ⟨#[]⟩, .int .i64 0, .bool false]) 3 32 Tryz.underlying24 hiC.1 hiC.2.1 hiC.2.2.1 hiC.2.2.2 rfl (by decide) _ _ _ rfl hT.cols ⟨w6.heap.size, 0, none⟩ 1 1 [.string ((⟨#[122]⟩ : ByteArray) ++ on), .int .i64 4, .bool false] rfl rfl hcl (one_col9 _ _ _) (by unfold maxLen; omega) (by omega) (by first | omega | (simp; omega)) ?_
              intro vX w8 hOX hgX hnX
              have hEx := Eff.grown hT.cols hgX
              have hT8 := hT.addCol ⟨((⟨#[122]⟩ : ByteArray) ++ on), 4, false⟩ hOX hEx (by show ByteArray.size _ ≤ 1000; rw [ByteArray.size_append, hos]; decide) (by omega)
              obtain ⟨b9, c9, rfl⟩ := own_succG hOX
              replace hr := hr.eff hEx (by decide)
              replace hd := hd.eff hEx (by decide)
              replace hR := hR.eff hEx
              clear hEx hT hOX hgX hnX hcl
              refine hK.out _ _ trivial (fun hHeld => ?_)
              clear hK KK
              change wpAnyH _ _ _ _ _ _ _ (Act.put _ (some 116) _) _
              try simp only [Act.put, List.setIfInBounds_toArray, List.set_cons_zero, List.set_cons_succ]
              refine' wpAnyH_take (i := 10) (v := _) rfl (by kernel_rfl) (by kernel_rfl) (by kernel_rfl) (fun _ _ _ h => h) (Or.inl ⟨by kernel_rfl, ?hqi10⟩) (by assumption) ?rqi10
              case hqi10 => intro W hW; go_simp; all_goals with_reducible rfl
              change wpAnyH _ _ _ _ _ _ _ (Act.put _ (some 117) _) _
              simp only [Act.put, List.setIfInBounds_toArray, List.set_cons_zero, List.set_cons_succ]
              refine wpAnyH_ready (rs := [11]) (by kernel_rfl) (by simp) ?_
              refine AllReadyH.cons rfl (fun KK hK => ?_) AllReadyH.nil
              obtain ⟨k0, k1, k2, k3⟩ := hd.v.cells
              obtain ⟨z0, z1, z2, z3⟩ := hd.v.fz
              go_simp
              clear k0 k1 k2 k3 z0 z1 z2 z3
              have hEx := hd.effSet 1 (.slice (some ⟨b9, 0, none⟩) (D.nc + 1) c9)
              replace hR := hR.eff hEx
              replace hT8 := hT8.eff hEx (by decide) (by decide) (by decide)
              replace hr := hr.other (C := Bd) (i := 1) (u := .slice (some ⟨b9, 0, none⟩) (D.nc + 1) c9) (by omega)
              replace hd := hd.set1 (.slice (some ⟨b9, 0, none⟩) (D.nc + 1) c9)
              clear hEx
              refine hK.out _ _ trivial (fun hHeld => ?_)
              clear hK KK
              try simp only [Act.put, List.setIfInBounds_toArray, List.set_cons_zero, List.set_cons_succ]
              refine wpAnyH_done (by kernel_rfl) ?_ _
              have HS : Hid (S8 w g ao n cap f Bd (D.nc + 1) _) := ⟨b9, c9, bp, cp, vi, { D with nc := D.nc + 1, col := upd D.col D.nc ⟨((⟨#[122]⟩ : ByteArray) ++ on), 4, false⟩ }, A, C, HQ.out, rfl, hsl, hr, hd, hT8, hR⟩
              clear hr hd hT8 hR hHeld HQ
              go_wp2
              go_roundg (7 - (D.nc + 1))
              case measure => omega
              case rel => exact ⟨D.nc + 1, by omega, rfl, HS.out⟩
            ·
              go_simp
              refine (l2Num_one D.nc _ (by omega)).mono ?_
              rintro e w6 ⟨rfl, hB6⟩
              have hEx : Eff w 129 _ w6 := Eff.ofBelow hB6
              replace hr := hr.eff hEx (by decide)
              replace hd := hd.eff hEx (by decide)
              replace hT := hT.eff hEx (by decide) (by decide) (by decide)
              replace hR := hR.eff hEx
              clear hEx hB6
              generalize hon : oneB (48 + (D.nc : Int)) = on
              have hos : on.size = 1 := by rw [← hon]; exact oneB_size _
              clear hon
              have hzl : ¬ ((⟨#[122]⟩ : ByteArray).size + on.size > 9223372036854775807) := by rw [hos]; decide
              go_wp2_with fail
              refine hK.out _ _ trivial (fun hHeld => ?_)
              clear hK KK
              try simp only [Act.put, List.setIfInBounds_toArray, List.set_cons_zero, List.set_cons_succ]
              refine' wpAnyH_take (i := 6) (v := _) rfl (by kernel_rfl) (by kernel_rfl) (by kernel_rfl) (fun _ _ _ h => h) (Or.inl ⟨by kernel_rfl, ?hqi11⟩) (by assumption) ?rqi11
              case hqi11 => intro W hW; go_simp; all_goals with_reducible rfl
              change wpAnyH _ _ _ _ _ _ _ (Act.put _ (some 113) _) _
              simp only [Act.put, List.setIfInBounds_toArray, List.set_cons_zero, List.set_cons_succ]
              refine' wpAnyH_take (i := 7) (v := _) rfl (by kernel_rfl) (by kernel_rfl) (by kernel_rfl) (fun _ _ _ h => h) (Or.inl ⟨by kernel_rfl, ?hqi12⟩) (by assumption) ?rqi12
              case hqi12 => intro W hW; go_simp; all_goals with_reducible rfl
              change wpAnyH _ _ _ _ _ _ _ (Act.put _ (some 114) _) _
              simp only [Act.put, List.setIfInBounds_toArray, List.set_cons_zero, List.set_cons_succ]
              refine wpAnyH_ready (rs := [1, 8]) (by kernel_rfl) (by simp) ?_
              refine AllReadyH.cons rfl (fun KK hK => ?_) (AllReadyH.cons rfl (fun KK hK => ?_) AllReadyH.nil)
              ·
                obtain ⟨k0, k1, k2, k3⟩ := hd.v.cells
                go_simp
                clear k0 k1 k2 k3
                refine hK.out _ _ trivial (fun hHeld => ?_)
                clear hK KK
                try simp only [Act.put, List.setIfInBounds_toArray, List.set_cons_zero, List.set_cons_succ]
                refine wpAnyH_ready (rs := [8]) (by kernel_rfl) (by simp) ?_
                refine AllReadyH.cons rfl (fun KK hK => ?_) AllReadyH.nil
                go_simp
                have hcl := cells_col9 w6 ((⟨#[122]⟩ : ByteArray) ++ on) 4 false
                have hs6 := hR.size
                have hEx := Eff.alloc w 129 w6 (.cells #[.string ((⟨#[122]⟩ : ByteArray) ++ on), .int .i64 4, .bool false] 81)
                replace hr := hr.eff hEx (by decide)
                replace hd := hd.eff hEx (by decide)
                replace hT := hT.eff hEx (by decide) (by decide) (by decide)
                replace hR := hR.eff hEx
                clear hEx
                refine hK.out _ _ trivial (fun hHeld => ?_)
                clear hK KK
                try simp only [Act.put, List.setIfInBounds_toArray, List.set_cons_zero, List.set_cons_succ]
                refine wpAnyH_ready (rs := [9]) (by kernel_rfl) (by simp) ?_
                refine AllReadyH.cons rfl (fun KK hK => ?_) AllReadyH.nil
                rw [if_pos (by kernel_rfl)]
                refine wp_append_own _ (.tmp 108) (.tmp 115) 24 rfl w.heap.size 81 iC (.agg #[.string ⟨#[]⟩, .int .i64 0, .bool false]) 3 32 Tryz.underlying24 hiC.1 hiC.2.1 hiC.2.2.1 hiC.2.2.2 rfl (by decide) _ _ _ rfl hT.cols ⟨w6.heap.size, 0, none⟩ 1 1 [.string ((⟨#[122]⟩ : ByteArray) ++ on), .int .i64 4, .bool false] rfl rfl hcl (one_col9 _ _ _) (by unfold maxLen; omega) (by omega) (by first | omega | (simp; omega)) ?_
                intro vX w8 hOX hgX hnX
                have hEx := Eff.grown hT.cols hgX
                have hT8 := hT.addCol ⟨((⟨#[122]⟩ : ByteArray) ++ on), 4, false⟩ hOX hEx (by show ByteArray.size _ ≤ 1000; rw [ByteArray.size_append, hos]; decide) (by omega)
                obtain ⟨b9, c9, rfl⟩ := own_succG hOX
                replace hr := hr.eff hEx (by decide)
                replace hd := hd.eff hEx (by decide)
                replace hR := hR.eff hEx
                clear hEx hT hOX hgX hnX hcl
                refine hK.out _ _ trivial (fun hHeld => ?_)
                clear hK KK
                change wpAnyH _ _ _ _ _ _ _ (Act.put _ (some 116) _) _
                try simp only [Act.put, List.setIfInBounds_toArray, List.set_cons_zero, List.set_cons_succ]
                refine' wpAnyH_take (i := 10) (v := _) rfl (by kernel_rfl) (by kernel_rfl) (by kernel_rfl) (fun _ _ _ h => h) (Or.inl ⟨by kernel_rfl, ?hqi13⟩) (by assumption) ?rqi13
                case hqi13 => intro W hW; go_simp; all_goals with_reducible rfl
                change wpAnyH _ _ _ _ _ _ _ (Act.put _ (some 117) _) _
                simp only [Act.put, List.setIfInBounds_toArray, List.set_cons_zero, List.set_cons_succ]
                refine wpAnyH_ready (rs := [11]) (by kernel_rfl) (by simp) ?_
                refine AllReadyH.cons rfl (fun KK hK => ?_) AllReadyH.nil
                obtain ⟨k0, k1, k2, k3⟩ := hd.v.cells
                obtain ⟨z0, z1, z2, z3⟩ := hd.v.fz
                go_simp
                clear k0 k1 k2 k3 z0 z1 z2 z3
                have hEx := hd.effSet 1 (.slice (some ⟨b9, 0, none⟩) (D.nc + 1) c9)
                replace hR := hR.eff hEx
                replace hT8 := hT8.eff hEx (by decide) (by decide) (by decide)
                replace hr := hr.other (C := Bd) (i := 1) (u := .slice (some ⟨b9, 0, none⟩) (D.nc + 1) c9) (by omega)
                replace hd := hd.set1 (.slice (some ⟨b9, 0, none⟩) (D.nc + 1) c9)
                clear hEx
                refine hK.out _ _ trivial (fun hHeld => ?_)
                clear hK KK
                try simp only [Act.put, List.setIfInBounds_toArray, List.set_cons_zero, List.set_cons_succ]
                refine wpAnyH_done (by kernel_rfl) ?_ _
                have HS : Hid (S8 w g ao n cap f Bd (D.nc + 1) _) := ⟨b9, c9, bp, cp, vi, { D with nc := D.nc + 1, col := upd D.col D.nc ⟨((⟨#[122]⟩ : ByteArray) ++ on), 4, false⟩ }, A, C, HQ.out, rfl, hsl, hr, hd, hT8, hR⟩
                clear hr hd hT8 hR hHeld HQ
                go_wp2
                go_roundg (7 - (D.nc + 1))
                case measure => omega
                case rel => exact ⟨D.nc + 1, by omega, rfl, HS.out⟩
              ·
                go_simp
                have hcl := cells_col9 w6 ((⟨#[122]⟩ : ByteArray) ++ on) 4 false
                have hs6 := hR.size
                have hEx := Eff.alloc w 129 w6 (.cells #[.string ((⟨#[122]⟩ : ByteArray) ++ on), .int .i64 4, .bool false] 81)
                replace hr := hr.eff hEx (by decide)
                replace hd := hd.eff hEx (by decide)
                replace hT := hT.eff hEx (by decide) (by decide) (by decide)
                replace hR := hR.eff hEx
                clear hEx
                refine hK.out _ _ trivial (fun hHeld => ?_)
                clear hK KK
                try simp only [Act.put, List.setIfInBounds_toArray, List.set_cons_zero, List.set_cons_succ]
                refine wpAnyH_ready (rs := [1]) (by kernel_rfl) (by simp) ?_
                refine AllReadyH.cons rfl (fun KK hK => ?_) AllReadyH.nil
                obtain ⟨k0, k1, k2, k3⟩ := hd.v.cells
                go_simp
                clear k0 k1 k2 k3
                refine hK.out _ _ trivial (fun hHeld => ?_)
                clear hK KK
                try simp only [Act.put, List.setIfInBounds_toArray, List.set_cons_zero, List.set_cons_succ]
                refine wpAnyH_ready (rs := [9]) (by kernel_rfl) (by simp) ?_
                refine AllReadyH.cons rfl (fun KK hK => ?_) AllReadyH.nil
                rw [if_pos (by kernel_rfl)]
                refine wp_append_own _ (.tmp 108) (.tmp 115) 24 rfl w.heap.size 81 iC (.agg #[.string ⟨#[]⟩, .int .i64 0, .bool false]) 3 32 Tryz.underlying24 hiC.1 hiC.2.1 hiC.2.2.1 hiC.2.2.2 rfl (by decide) _ _ _ rfl hT.cols ⟨w6.heap.size, 0, none⟩ 1 1 [.string ((⟨#[122]⟩ : ByteArray) ++ on), .int .i64 4, .bool false] rfl rfl hcl (one_col9 _ _ _) (by unfold maxLen; omega) (by omega) (by first | omega | (simp; omega)) ?_
                intro vX w8 hOX hgX hnX
                have hEx := Eff.grown hT.cols hgX
                have hT8 := hT.addCol ⟨((⟨#[122]⟩ : ByteArray) ++ on), 4, false⟩ hOX hEx (by show ByteArray.size _ ≤ 1000; rw [ByteArray.size_append, hos]; decide) (by omega)
                obtain ⟨b9, c9, rfl⟩ := own_succG hOX
                replace hr := hr.eff hEx (by decide)
                replace hd := hd.eff hEx (by decide)
                replace hR := hR.eff hEx
                clear hEx hT hOX hgX hnX hcl
                refine hK.out _ _ trivial (fun hHeld => ?_)
                clear hK KK
                change wpAnyH _ _ _ _ _ _ _ (Act.put _ (some 116) _) _
                try simp only [Act.put, List.setIfInBounds_toArray, List.set_cons_zero, List.set_cons_succ]
                refine' wpAnyH_take (i := 10) (v := _) rfl (by kernel_rfl) (by kernel_rfl) (by kernel_rfl) (fun _ _ _ h => h) (Or.inl ⟨by kernel_rfl, ?hqi14⟩) (by assumption) ?rqi14
                case hqi14 => intro W hW; go_simp; all_goals with_reducible rfl
                change wpAnyH _ _ _ _ _ _ _ (Act.put _ (some 117) _) _
                simp only [Act.put, List.setIfInBounds_toArray, List.set_cons_zero, List.set_cons_succ]
                refine wpAnyH_ready (rs := [11]) (by kernel_rfl) (by simp) ?_
                refine AllReadyH.cons rfl (fun KK hK => ?_) AllReadyH.nil
                obtain ⟨k0, k1, k2, k3⟩ := hd.v.cells
                obtain ⟨z0, z1, z2, z3⟩ := hd.v.fz
                go_simp
                clear k0 k1 k2 k3 z0 z1 z2 z3
                have hEx := hd.effSet 1 (.slice (some ⟨b9, 0, none⟩) (D.nc + 1) c9)
                replace hR := hR.eff hEx
                replace hT8 := hT8.eff hEx (by decide) (by decide) (by decide)
                replace hr := hr.other (C := Bd) (i := 1) (u := .slice (some ⟨b9, 0, none⟩) (D.nc + 1) c9) (by omega)
                replace hd := hd.set1 (.slice (some ⟨b9, 0, none⟩) (D.nc + 1) c9)
                clear hEx
                refine hK.out _ _ trivial (fun hHeld => ?_)
                clear hK KK
                try simp only [Act.put, List.setIfInBounds_toArray, List.set_cons_zero, List.set_cons_succ]
                refine wpAnyH_done (by kernel_rfl) ?_ _
                have HS : Hid (S8 w g ao n cap f Bd (D.nc + 1) _) := ⟨b9, c9, bp, cp, vi, { D with nc := D.nc + 1, col := upd D.col D.nc ⟨((⟨#[122]⟩ : ByteArray) ++ on), 4, false⟩ }, A, C, HQ.out, rfl, hsl, hr, hd, hT8, hR⟩
                clear hr hd hT8 hR hHeld HQ
                go_wp2
                go_roundg (7 - (D.nc + 1))
                case measure => omega
                case rel => exact ⟨D.nc + 1, by omega, rfl, HS.out⟩
        · have HS : Hid (Sa w g ao n cap f Bd _) := ⟨_, _, D.nc, _, _, D, A, C, Nat.le_refl _, ⟨_, _, _, _, rfl, rfl⟩, hsl, hr, (by show Vd w Bd (.string D.name) _ _ _ _; rw [HQ.out]; exact hd), hT.tw, hR⟩
          clear hT hr hd hR HQ hHeld
          go_wp2_with fail
          go_meet
          exact HS.out
    · have HS : Hid (Sa w g ao n cap f Bd wq) := ⟨_, _, D.nc, _, _, D, A, C, Nat.le_refl _, ⟨_, _, _, _, rfl, rfl⟩, ⟨_, _, _, rfl⟩, hr, (by rw [HQ.out.1]; exact hd), hT.tw, hR⟩
      clear hT hr hd hR HQ
      have h0 : (y == 0) = false := by simp; omega
      have h1 : (y == 1) = false := by simp; omega
      have h2 : (y == 2) = false := by simp; omega
      have h3 : (y == 3) = false := by simp; omega
      have h4 : (y == 4) = false := by simp; omega
      have h5 : (y == 5) = false := by simp; omega
      have h6 : (y == 6) = false := by simp; omega
      have h7 : (y == 7) = false := by simp; omega
      have h8 : (y == 8) = false := by simp; omega
      go_wp2_with fail
      go_meet
      exact HS.out
  case rest =>
    clear hT hr hd hR HQ hkn hx0 hx1 hy0 hy1 hnc4 hnc2 hnp1 hnp2 hnz e4
    clear D A C wq
    obtain ⟨a, cc, m, vp, vi, D, A, C, hle, ⟨ab, pb, pn, pc, rfl, rfl⟩, ⟨ia, nn, ic, rfl⟩, hr, hd, hT, hR⟩ := hcut
    obtain ⟨x0, x1, x2, x3⟩ := hd.v.cells
    obtain ⟨p0, p1, p2, p3⟩ := hr.v.cells
    obtain ⟨z0, z1, z2, z3⟩ := hr.v.fz
    obtain ⟨g0, g1, g2, g3⟩ := ((((hr.set0 (.string D.name)).set1 (.slice (some ⟨ab, 0, none⟩) m cc)).set2 (.slice (some ⟨pb, 0, none⟩) pn pc)).set3 (.slice ia nn ic)).v.cells
    have q1 := hr.effSet 0 (.string D.name)
    have q2 := (hr.set0 (.string D.name)).effSet 1 (.slice (some ⟨ab, 0, none⟩) m cc)
    have q3 := ((hr.set0 (.string D.name)).set1 (.slice (some ⟨ab, 0, none⟩) m cc)).effSet 2 (.slice (some ⟨pb, 0, none⟩) pn pc)
    have q4 := (((hr.set0 (.string D.name)).set1 (.slice (some ⟨ab, 0, none⟩) m cc)).set2 (.slice (some ⟨pb, 0, none⟩) pn pc)).effSet 3 (.slice ia nn ic)
    have hE := ((q1.trans q2).trans q3).trans q4
    have HD : Hid (DrewE w g ao n cap f (some ⟨ab, 0, none⟩) cc m (.slice (some ⟨pb, 0, none⟩) pn pc) (.slice ia nn ic) D _) := ⟨A, C, hle, ⟨_, _, _, _, rfl, rfl⟩, ⟨_, _, _, rfl⟩, hT.eff hE (by decide) (by decide) (by decide), hR.eff hE⟩
    have hRB2 : ¬ (Bd = w.heap.size) := by omega
    clear q1 q2 q3 q4 hE hr hd hT hR
    go_wp2
    exact bodyPost_ret (v := .agg #[.string D.name, .slice (some ⟨ab, 0, none⟩) m cc, .slice (some ⟨pb, 0, none⟩) pn pc, .slice ia nn ic]) (by simp [results, Tryz.results43, go_sem, g0, g1, g2, g3]) rfl ⟨_, cc, m, _, _, D, rfl, HD.out⟩
end Go.Proofs.YtjoimkfpenbkmaaGreatDoor

