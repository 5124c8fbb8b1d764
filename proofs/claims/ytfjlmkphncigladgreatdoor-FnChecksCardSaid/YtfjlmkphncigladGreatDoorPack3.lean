/-
  Together: DrawNew, DrawDefs9, DefText, ChecksPlain, Jumps, TView, TokBox, LexRow, TokMore
-/
import Derived.Test.YtfjlmkphncigladGreatDoorPack1
import Derived.Test.YtfjlmkphncigladGreatDoorDraw9Any
import Derived.Test.YtfjlmkphncigladGreatDoorDraw9Copy
import Derived.Scope
import Derived.WalkMore
/-
  A new cursor, at an address that is named.
-/
namespace Go.Proofs.YtfjlmkphncigladGreatDoor
open Go.RowKit
set_option maxRecDepth 4000

theorem l1New_at (A : Nat) (ao : Option Addr) (n cap : Nat) (f : Nat → Int) (w : World) (hA : A = w.heap.size) (hn : n ≤ 1048576) (hv : View w ao n cap f) :
    Calls Tryz.prog 13 #[.slice ao n cap] w fun e w' => e = .returned (.pointer (some ⟨A, 0, none⟩)) ∧ Cur w' A ao n cap f ∧ Below w.heap.size w w' := by
  subst hA
  exact l1New_any ao n cap f w hn hv
end Go.Proofs.YtfjlmkphncigladGreatDoor

/-
  The draws of tables, as far as a law leans on them.
-/
namespace Go.Proofs.YtfjlmkphncigladGreatDoor
open Go.RowKit
set_option maxRecDepth 4000

theorem Vd.butNe {w : World} {B : Nat} {x0 x1 x2 x3 : Value} {g : Nat} {W W' : World} (h : Vd w B x0 x1 x2 x3 W) (hb : But g W W') (hne : B ≠ g) : Vd w B x0 x1 x2 x3 W' :=
  ⟨h.v.block (hb.block B h.v.lt hne), h.ge⟩
theorem Tw.down {w w0 : World} {vc vp vi : Value} {D : PDef} {A C : Nat → Nat} {W : World} (h : Tw w0 vc vp vi D A C W) (hw : w.heap.size ≤ w0.heap.size) : Tw w vc vp vi D A C W :=
  ⟨own_down9 h.cols hw, own_down9 h.pri hw, own_down9 h.idx hw, fun i hi => ⟨own_down9 (h.pt i hi).own hw⟩, h.sm⟩
/-- A drawn table's value. -/
def Drawn (v : Value) (E : PDef) (W : World) : Prop := DView W v E ∧ Sm E

set_option maxRecDepth 20000 in
set_option maxHeartbeats 4000000 in
theorem drawCheckDef_any (ao : Option Addr) (n cap : Nat) (f : Nat → Int) (w : World) (hn : n ≤ 1048576) (hv : View w ao n cap f) :
    Calls Tryz.prog 5 #[.slice ao n cap] w fun e w' => ∃ (s : ByteArray) (a b c : Option Addr) (a1 a2 b1 b2 c1 c2 : Nat) (E : PDef), e = .returned (.agg #[.string s, .slice a a1 a2, .slice b b1 b2, .slice c c1 c2]) ∧ Drawn (.agg #[.string s, .slice a a1 a2, .slice b b1 b2, .slice c c1 c2]) E w' ∧ Below w.heap.size w w' := by
  have hb0 : Below w.heap.size w (w.alloc (.cells #[.string ⟨#[]⟩, (.slice none 0 0), (.slice none 0 0), (.slice none 0 0)] 28)) := (Below.refl _ _).alloc (Nat.le_refl _) _
  have hP := Vd.new (w := w) (W := w) (Nat.le_refl _) (.string ⟨#[]⟩) (.slice none 0 0) (.slice none 0 0) (.slice none 0 0)
  have hv0 := hv.below hb0
  obtain ⟨g, hA⟩ : ∃ g, g = (w.alloc (.cells #[.string ⟨#[]⟩, (.slice none 0 0), (.slice none 0 0), (.slice none 0 0)] 28)).heap.size := ⟨_, rfl⟩
  have hA2 : g = w.heap.size + 1 := by rw [hA]; simp
  go_enter Tryz.func5, Tryz.ntmps5
  go_wp2_with fail
  refine (l1New_at g ao n cap f _ hA hn hv0).mono ?_
  rintro e w1 ⟨rfl, hC1, hb1⟩
  replace hP := hP.below hb1
  have hB1 : Below w.heap.size w w1 := hb0.trans (hb1.mono hb0.size)
  have hl1 := hC1.lt
  have HA : Hid (g = w.heap.size + 1) := hA2
  have hgw : w.heap.size < g := by omega
  clear hb0 hb1 hv0 hA hA2
  go_wp2_with fail
  refine (l9Any_any g ao n cap f w1 hn hC1).mono ?_
  rintro e w2 ⟨a, cc, m, vp, vi, D, rfl, A, C, hle, ⟨ab, pb, pn, pc, rfl, rfl⟩, ⟨ia, nn, ic, rfl⟩, hT, hR⟩
  replace hP := hP.butNe hR.but (by omega)
  have hB2 : Below w.heap.size w w2 := hB1.trans (hR.but.below (by omega) hB1.size)
  replace hT := hT.down (w := w) hB1.size
  obtain ⟨p0, p1, p2, p3⟩ := hP.v.cells
  obtain ⟨z0, z1, z2, z3⟩ := hP.v.fz
  have q0 := hP.effSet 0 (.string D.name)
  have q1 := (hP.set0 (.string D.name)).effSet 1 (.slice (some ⟨ab, 0, none⟩) m cc)
  have q2 := ((hP.set0 (.string D.name)).set1 (.slice (some ⟨ab, 0, none⟩) m cc)).effSet 2 (.slice (some ⟨pb, 0, none⟩) pn pc)
  have q3 := (((hP.set0 (.string D.name)).set1 (.slice (some ⟨ab, 0, none⟩) m cc)).set2 (.slice (some ⟨pb, 0, none⟩) pn pc)).effSet 3 (.slice ia nn ic)
  have qE := ((q0.trans q1).trans q2).trans q3
  have qV := ((((hP.set0 (.string D.name)).set1 (.slice (some ⟨ab, 0, none⟩) m cc)).set2 (.slice (some ⟨pb, 0, none⟩) pn pc)).set3 (.slice ia nn ic))
  obtain ⟨g0, g1, g2, g3⟩ := qV.v.cells
  have hT2 := hT.eff qE (by decide) (by decide) (by decide)
  have HD : Hid (Drawn (.agg #[(.string D.name), (.slice (some ⟨ab, 0, none⟩) m cc), (.slice (some ⟨pb, 0, none⟩) pn pc), (.slice ia nn ic)]) { D with nc := m } _) := ⟨hT2.cut hle, hT2.sm.cut hle⟩
  have HB : Hid (Below w.heap.size w _) := qE.on hB2
  clear hT hT2 hP hB2 hB1 hR hC1 q0 q1 q2 q3 qE qV
  go_wp2
  exact bodyPost_ret (v := .agg #[(.string D.name), (.slice (some ⟨ab, 0, none⟩) m cc), (.slice (some ⟨pb, 0, none⟩) pn pc), (.slice ia nn ic)]) (by simp [results, Tryz.results5, go_sem, g0, g1, g2, g3]) rfl ⟨_, _, _, _, _, _, _, _, _, _, _, rfl, HD.out, HB.out⟩

set_option maxRecDepth 20000 in
set_option maxHeartbeats 8000000 in
theorem drawSameDef_any (ao : Option Addr) (n cap : Nat) (f : Nat → Int) (w : World) (hn : n ≤ 1048576) (hv : View w ao n cap f) :
    Calls Tryz.prog 7 #[.slice ao n cap] w fun e w' => ∃ (s : ByteArray) (a b c : Option Addr) (a1 a2 b1 b2 c1 c2 : Nat) (s' : ByteArray) (a' b' c' : Option Addr) (a1' a2' b1' b2' c1' c2' : Nat) (E E' : PDef), e = .returned (.tuple #[.agg #[.string s, .slice a a1 a2, .slice b b1 b2, .slice c c1 c2], .agg #[.string s', .slice a' a1' a2', .slice b' b1' b2', .slice c' c1' c2']]) ∧ Drawn (.agg #[.string s, .slice a a1 a2, .slice b b1 b2, .slice c c1 c2]) E w' ∧ Drawn (.agg #[.string s', .slice a' a1' a2', .slice b' b1' b2', .slice c' c1' c2']) E' w' ∧ Below w.heap.size w w' := by
  have hb0 : Below w.heap.size w ((w.alloc (.cells #[.string ⟨#[]⟩, (.slice none 0 0), (.slice none 0 0), (.slice none 0 0)] 28)).alloc (.cells #[.string ⟨#[]⟩, (.slice none 0 0), (.slice none 0 0), (.slice none 0 0)] 28)) := ((Below.refl _ _).alloc (Nat.le_refl _) _).alloc (by simp) _
  have hP := (Vd.new (w := w) (W := w) (Nat.le_refl _) (.string ⟨#[]⟩) (.slice none 0 0) (.slice none 0 0) (.slice none 0 0)).eff (Eff.alloc w 70 _ (.cells #[.string ⟨#[]⟩, (.slice none 0 0), (.slice none 0 0), (.slice none 0 0)] 28)) (by decide)
  have hQ := Vd.new (w := w) (W := w.alloc (.cells #[.string ⟨#[]⟩, (.slice none 0 0), (.slice none 0 0), (.slice none 0 0)] 28)) (by simp) (.string ⟨#[]⟩) (.slice none 0 0) (.slice none 0 0) (.slice none 0 0)
  rw [show (w.alloc (.cells #[.string ⟨#[]⟩, (.slice none 0 0), (.slice none 0 0), (.slice none 0 0)] 28)).heap.size = w.heap.size + 1 by simp] at hQ
  have hv0 := hv.below hb0
  obtain ⟨g, hA⟩ : ∃ g, g = ((w.alloc (.cells #[.string ⟨#[]⟩, (.slice none 0 0), (.slice none 0 0), (.slice none 0 0)] 28)).alloc (.cells #[.string ⟨#[]⟩, (.slice none 0 0), (.slice none 0 0), (.slice none 0 0)] 28)).heap.size := ⟨_, rfl⟩
  have hA2 : g = w.heap.size + 2 := by rw [hA]; simp
  go_enter Tryz.func7, Tryz.ntmps7
  go_wp2_with fail
  refine (l1New_at g ao n cap f _ hA hn hv0).mono ?_
  rintro e w1 ⟨rfl, hC1, hb1⟩
  replace hP := hP.below hb1
  replace hQ := hQ.below hb1
  have hB1 : Below w.heap.size w w1 := hb0.trans (hb1.mono hb0.size)
  have hl1 := hC1.lt
  have hgw : w.heap.size + 1 < g := by omega
  clear hb0 hb1 hv0 hA hA2
  go_wp2_with fail
  refine (l9Any_any g ao n cap f w1 hn hC1).mono ?_
  rintro e w2 ⟨a, cc, m, vp, vi, D, rfl, A, C, hle, ⟨ab, pb, pn, pc, rfl, rfl⟩, ⟨ia, nn, ic, rfl⟩, hT, hR⟩
  replace hP := hP.butNe hR.but (by omega)
  replace hQ := hQ.butNe hR.but (by omega)
  have hB2 : Below w.heap.size w w2 := hB1.trans (hR.but.below (by omega) hB1.size)
  have hC2 := hR.cur
  have hl2 := hR.size
  have hd := Vd.new (w := w1) (W := w2) hR.size (.string D.name) (.slice (some ⟨ab, 0, none⟩) m cc) (.slice (some ⟨pb, 0, none⟩) pn pc) (.slice ia nn ic)
  have hE := Eff.alloc w 70 w2 (.cells #[(.string D.name), (.slice (some ⟨ab, 0, none⟩) m cc), (.slice (some ⟨pb, 0, none⟩) pn pc), (.slice ia nn ic)] 28)
  have hE1 := Eff.alloc w1 70 w2 (.cells #[(.string D.name), (.slice (some ⟨ab, 0, none⟩) m cc), (.slice (some ⟨pb, 0, none⟩) pn pc), (.slice ia nn ic)] 28)
  replace hP := hP.eff hE (by decide)
  replace hQ := hQ.eff hE (by decide)
  replace hT := hT.eff hE1 (by decide) (by decide) (by decide)
  replace hB2 := hE.on hB2
  replace hC2 := hC2.below ((Below.refl w2.heap.size w2).alloc (Nat.le_refl _) (.cells #[(.string D.name), (.slice (some ⟨ab, 0, none⟩) m cc), (.slice (some ⟨pb, 0, none⟩) pn pc), (.slice ia nn ic)] 28))
  clear hE hE1 hR hC1
  go_upto_region 3 with fail
  obtain ⟨w3, hw3⟩ : ∃ x, Hid (x = w2.alloc (.cells #[(.string D.name), (.slice (some ⟨ab, 0, none⟩) m cc), (.slice (some ⟨pb, 0, none⟩) pn pc), (.slice ia nn ic)] 28)) := ⟨_, rfl⟩
  obtain ⟨Bd, hBd⟩ : ∃ x, Hid (x = w2.heap.size) := ⟨_, rfl⟩
  rw [← hw3.out] at hP hQ hT hB2 hC2 hd ⊢
  rw [← hBd.out] at hd hl2 ⊢
  clear hw3 hBd
  go_wp2_with fail
  refine (l1Once_any g ao n cap f 2 w3 hn (by omega) (by omega) hC2).mono ?_
  rintro e w4 ⟨o, rfl, hC4, hO4⟩
  replace hP := hP.butNe (But.ofOnly hO4) (by omega)
  replace hQ := hQ.butNe (But.ofOnly hO4) (by omega)
  replace hT := hT.but (But.ofOnly hO4) hl1
  replace hd := hd.but (But.ofOnly hO4) hl1
  have hB4 : Below w.heap.size w w4 := hB2.trans ((But.ofOnly hO4).below (by omega) hB2.size)
  clear hO4 hC2 hB2
  have hs1 := hB1.size
  clear hB1
  cases o with
  | true =>
    go_wp2_with fail
    have hEx : Eff w 70 w4 w4.drew := Eff.ofBelow (Below.refl _ _).drew
    have hEy : Eff w1 70 w4 w4.drew := Eff.ofBelow (Below.refl _ _).drew
    replace hP := hP.eff hEx (by decide)
    replace hQ := hQ.eff hEx (by decide)
    replace hT := hT.eff hEy (by decide) (by decide) (by decide)
    replace hd := hd.eff hEy (by decide)
    replace hB4 := hEx.on hB4
    replace hC4 := hC4.below ((Below.refl w4.heap.size w4).drew)
    clear hEx hEy
    refine wp_region_held_drew (S := (Vd w1 Bd (.string D.name) (.slice (some ⟨ab, 0, none⟩) m cc) (.slice (some ⟨pb, 0, none⟩) pn pc) (.slice ia nn ic))) (by kernel_rfl) hd (fun hHeld => ?_)
    obtain ⟨w5, hw5⟩ : ∃ x, Hid (x = w4.drew) := ⟨_, rfl⟩
    rw [← hw5.out] at hHeld hP hQ hT hd hB4 hC4 ⊢
    clear hw5
    refine' wpAnyH_take (i := 0) (v := _) rfl (by kernel_rfl) (by kernel_rfl) (by kernel_rfl) (fun _ _ _ h => h) (Or.inl ⟨by kernel_rfl, ?hdc1⟩) (by assumption) ?rdc1
    case hdc1 => intro W hW; obtain ⟨c0, c1, c2, c3⟩ := hW.v.cells; go_simp; all_goals with_reducible rfl
    change wpAnyH _ _ _ _ _ _ _ (Act.put _ (some 12) _) _
    simp only [Act.put, List.setIfInBounds_toArray, List.set_cons_zero, List.set_cons_succ]
    refine' wpAnyH_take (i := 1) (v := _) rfl (by kernel_rfl) (by kernel_rfl) (by kernel_rfl) (fun _ _ _ h => h) (Or.inl ⟨by kernel_rfl, ?hdc2⟩) (by assumption) ?rdc2
    case hdc2 => intro W hW; obtain ⟨c0, c1, c2, c3⟩ := hW.v.cells; go_simp; all_goals with_reducible rfl
    change wpAnyH _ _ _ _ _ _ _ (Act.put _ (some 13) _) _
    simp only [Act.put, List.setIfInBounds_toArray, List.set_cons_zero, List.set_cons_succ]
    refine wpAnyH_ready (rs := [2]) (by kernel_rfl) (by simp) ?_
    refine AllReadyH.cons rfl (fun KK hK => ?_) AllReadyH.nil
    have hs5 := hB4.size
    have hw15 : w1.heap.size ≤ w5.heap.size := by have := hd.v.lt; omega
    go_simp
    obtain ⟨ia0, k0, ei, -, -⟩ := iview_of_own hT.idx (fun i hi => (hT.pt i hi).view)
    cases ei
    obtain ⟨ap0, cp0, ep, hBv, -⟩ := bview_of_own hT.pri
    cases ep
    obtain ⟨ac0, cc0, ec, hCv, -⟩ := cview_of_own hT.cols
    cases ec
    refine (l9Copy_any ab cc pb pc ia ic { D with nc := m } w5 (hCv.take hle) hBv hT.ibl (hT.sm.cut hle)).mono ?_
    rintro e w6 ⟨ab2, cc2, pb2, pc2, ia2, nn2, ic2, rfl, ⟨A2, C2, hU⟩, hB6⟩
    clear hCv hBv
    have hEx : Eff w 70 w5 w6 := Eff.ofBelow hB6
    have hEy : Eff w1 70 w5 w6 := Eff.ofBelow hB6
    replace hP := hP.eff hEx (by decide)
    replace hQ := hQ.eff hEx (by decide)
    replace hT := hT.eff hEy (by decide) (by decide) (by decide)
    replace hd := hd.eff hEy (by decide)
    replace hB4 := hEx.on hB4
    clear hEx hEy hB6
    replace hU := hU.tw.down (w := w) hs5
    replace hT := hT.down (w := w) hs1
    go_wp2_with fail
    refine hK.out _ _ hd (fun hHeld => ?_)
    clear hK KK
    try simp only [Act.put, List.setIfInBounds_toArray, List.set_cons_zero, List.set_cons_succ]
    refine wpAnyH_ready (rs := [3]) (by kernel_rfl) (by simp) ?_
    refine AllReadyH.cons rfl (fun KK hK => ?_) AllReadyH.nil
    obtain ⟨p0, p1, p2, p3⟩ := hP.v.cells
    obtain ⟨z0, z1, z2, z3⟩ := hP.v.fz
    have q0 := hP.effSet 0 (.string D.name)
    have q1 := (hP.set0 (.string D.name)).effSet 1 (.slice (some ⟨ab, 0, none⟩) m cc)
    have q2 := ((hP.set0 (.string D.name)).set1 (.slice (some ⟨ab, 0, none⟩) m cc)).effSet 2 (.slice (some ⟨pb, 0, none⟩) D.np pc)
    have q3 := (((hP.set0 (.string D.name)).set1 (.slice (some ⟨ab, 0, none⟩) m cc)).set2 (.slice (some ⟨pb, 0, none⟩) D.np pc)).effSet 3 (.slice ia D.ni ic)
    have qE := ((q0.trans q1).trans q2).trans q3
    have qV := ((((hP.set0 (.string D.name)).set1 (.slice (some ⟨ab, 0, none⟩) m cc)).set2 (.slice (some ⟨pb, 0, none⟩) D.np pc)).set3 (.slice ia D.ni ic))
    go_simp
    clear p0 p1 p2 p3 z0 z1 z2 z3
    replace hT := hT.eff qE (by decide) (by decide) (by decide)
    replace hU := hU.eff qE (by decide) (by decide) (by decide)
    replace hB4 := qE.on hB4
    replace hQ := ((((hQ.other (C := w.heap.size) (i := 0) (u := (.string D.name)) (by omega)).other (C := w.heap.size) (i := 1) (u := (.slice (some ⟨ab, 0, none⟩) m cc)) (by omega)).other (C := w.heap.size) (i := 2) (u := (.slice (some ⟨pb, 0, none⟩) D.np pc)) (by omega)).other (C := w.heap.size) (i := 3) (u := (.slice ia D.ni ic)) (by omega))
    replace hd := ((((hd.other (C := w.heap.size) (i := 0) (u := (.string D.name)) (by omega)).other (C := w.heap.size) (i := 1) (u := (.slice (some ⟨ab, 0, none⟩) m cc)) (by omega)).other (C := w.heap.size) (i := 2) (u := (.slice (some ⟨pb, 0, none⟩) D.np pc)) (by omega)).other (C := w.heap.size) (i := 3) (u := (.slice ia D.ni ic)) (by omega))
    have hP2 := qV
    clear q0 q1 q2 q3 qE qV hP
    have hP := hP2
    clear hP2
    refine hK.out _ _ hd (fun hHeld => ?_)
    clear hK KK
    try simp only [Act.put, List.setIfInBounds_toArray, List.set_cons_zero, List.set_cons_succ]
    refine wpAnyH_ready (rs := [4]) (by kernel_rfl) (by simp) ?_
    refine AllReadyH.cons rfl (fun KK hK => ?_) AllReadyH.nil
    obtain ⟨p0, p1, p2, p3⟩ := hQ.v.cells
    obtain ⟨z0, z1, z2, z3⟩ := hQ.v.fz
    have q0 := hQ.effSet 0 (.string D.name)
    have q1 := (hQ.set0 (.string D.name)).effSet 1 (.slice (some ⟨ab2, 0, none⟩) m cc2)
    have q2 := ((hQ.set0 (.string D.name)).set1 (.slice (some ⟨ab2, 0, none⟩) m cc2)).effSet 2 (.slice (some ⟨pb2, 0, none⟩) D.np pc2)
    have q3 := (((hQ.set0 (.string D.name)).set1 (.slice (some ⟨ab2, 0, none⟩) m cc2)).set2 (.slice (some ⟨pb2, 0, none⟩) D.np pc2)).effSet 3 (.slice ia2 nn2 ic2)
    have qE := ((q0.trans q1).trans q2).trans q3
    have qV := ((((hQ.set0 (.string D.name)).set1 (.slice (some ⟨ab2, 0, none⟩) m cc2)).set2 (.slice (some ⟨pb2, 0, none⟩) D.np pc2)).set3 (.slice ia2 nn2 ic2))
    go_simp
    clear p0 p1 p2 p3 z0 z1 z2 z3
    replace hT := hT.eff qE (by decide) (by decide) (by decide)
    replace hU := hU.eff qE (by decide) (by decide) (by decide)
    replace hB4 := qE.on hB4
    replace hP := ((((hP.other (C := (w.heap.size + 1)) (i := 0) (u := (.string D.name)) (by omega)).other (C := (w.heap.size + 1)) (i := 1) (u := (.slice (some ⟨ab2, 0, none⟩) m cc2)) (by omega)).other (C := (w.heap.size + 1)) (i := 2) (u := (.slice (some ⟨pb2, 0, none⟩) D.np pc2)) (by omega)).other (C := (w.heap.size + 1)) (i := 3) (u := (.slice ia2 nn2 ic2)) (by omega))
    replace hd := ((((hd.other (C := (w.heap.size + 1)) (i := 0) (u := (.string D.name)) (by omega)).other (C := (w.heap.size + 1)) (i := 1) (u := (.slice (some ⟨ab2, 0, none⟩) m cc2)) (by omega)).other (C := (w.heap.size + 1)) (i := 2) (u := (.slice (some ⟨pb2, 0, none⟩) D.np pc2)) (by omega)).other (C := (w.heap.size + 1)) (i := 3) (u := (.slice ia2 nn2 ic2)) (by omega))
    have hQ2 := qV
    clear q0 q1 q2 q3 qE qV hQ
    have hQ := hQ2
    clear hQ2
    refine hK.out _ _ hd (fun hHeld => ?_)
    clear hK KK
    try simp only [Act.put, List.setIfInBounds_toArray, List.set_cons_zero, List.set_cons_succ]
    refine wpAnyH_done (by kernel_rfl) ?_ _
    obtain ⟨g0, g1, g2, g3⟩ := hP.v.cells
    obtain ⟨h0, h1, h2, h3⟩ := hQ.v.cells
    have HD : Hid (Drawn (.agg #[(.string D.name), (.slice (some ⟨ab, 0, none⟩) m cc), (.slice (some ⟨pb, 0, none⟩) D.np pc), (.slice ia D.ni ic)]) { D with nc := m } _) := ⟨hT.cut hle, hT.sm.cut hle⟩
    have HU : Hid (Drawn (.agg #[(.string D.name), (.slice (some ⟨ab2, 0, none⟩) m cc2), (.slice (some ⟨pb2, 0, none⟩) D.np pc2), (.slice ia2 nn2 ic2)]) { D with nc := m } _) := ⟨hU.view, hU.sm⟩
    have HB : Hid (Below w.heap.size w _) := hB4
    clear hT hU hP hQ hB4 hd hHeld hC4
    go_wp2
    exact bodyPost_ret (v := .tuple #[.agg #[(.string D.name), (.slice (some ⟨ab, 0, none⟩) m cc), (.slice (some ⟨pb, 0, none⟩) D.np pc), (.slice ia D.ni ic)], .agg #[(.string D.name), (.slice (some ⟨ab2, 0, none⟩) m cc2), (.slice (some ⟨pb2, 0, none⟩) D.np pc2), (.slice ia2 nn2 ic2)]]) (by simp [results, Tryz.results7, go_sem, g0, g1, g2, g3, h0, h1, h2, h3]) rfl ⟨_, _, _, _, _, _, _, _, _, _, _, _, _, _, _, _, _, _, _, _, _, _, rfl, HD.out, HU.out, HB.out⟩
  | false =>
    go_wp2_with fail
    have hEx : Eff w 70 w4 w4.drew := Eff.ofBelow (Below.refl _ _).drew
    have hEy : Eff w1 70 w4 w4.drew := Eff.ofBelow (Below.refl _ _).drew
    replace hP := hP.eff hEx (by decide)
    replace hQ := hQ.eff hEx (by decide)
    replace hT := hT.eff hEy (by decide) (by decide) (by decide)
    replace hd := hd.eff hEy (by decide)
    replace hB4 := hEx.on hB4
    replace hC4 := hC4.below ((Below.refl w4.heap.size w4).drew)
    clear hEx hEy
    refine wp_region_held_drew (S := (Vd w1 Bd (.string D.name) (.slice (some ⟨ab, 0, none⟩) m cc) (.slice (some ⟨pb, 0, none⟩) pn pc) (.slice ia nn ic))) (by kernel_rfl) hd (fun hHeld => ?_)
    obtain ⟨w5, hw5⟩ : ∃ x, Hid (x = w4.drew) := ⟨_, rfl⟩
    rw [← hw5.out] at hHeld hP hQ hT hd hB4 hC4 ⊢
    clear hw5
    refine' wpAnyH_take (i := 0) (v := _) rfl (by kernel_rfl) (by kernel_rfl) (by kernel_rfl) (fun _ _ _ h => h) (Or.inl ⟨by kernel_rfl, ?hda1⟩) (by assumption) ?rda1
    case hda1 => intro W hW; obtain ⟨c0, c1, c2, c3⟩ := hW.v.cells; go_simp; all_goals with_reducible rfl
    change wpAnyH _ _ _ _ _ _ _ (Act.put _ (some 15) _) _
    simp only [Act.put, List.setIfInBounds_toArray, List.set_cons_zero, List.set_cons_succ]
    refine' wpAnyH_take (i := 1) (v := _) rfl (by kernel_rfl) (by kernel_rfl) (by kernel_rfl) (fun _ _ _ h => h) (Or.inl ⟨by kernel_rfl, ?hda2⟩) (by assumption) ?rda2
    case hda2 => intro W hW; obtain ⟨c0, c1, c2, c3⟩ := hW.v.cells; go_simp; all_goals with_reducible rfl
    change wpAnyH _ _ _ _ _ _ _ (Act.put _ (some 16) _) _
    simp only [Act.put, List.setIfInBounds_toArray, List.set_cons_zero, List.set_cons_succ]
    refine wpAnyH_ready (rs := [2]) (by kernel_rfl) (by simp) ?_
    refine AllReadyH.cons rfl (fun KK hK => ?_) AllReadyH.nil
    have hs5 := hB4.size
    have hw15 : w1.heap.size ≤ w5.heap.size := by have := hd.v.lt; omega
    go_simp
    refine (l9Any_any g ao n cap f w5 hn hC4).mono ?_
    rintro e w6 ⟨a2, cc2, m2, vp2, vi2, D2, rfl, A2, C2, hle2, ⟨ab2, pb2, pn2, pc2, rfl, rfl⟩, ⟨ia2, nn2, ic2, rfl⟩, hU, hR⟩
    replace hP := hP.butNe hR.but (by omega)
    replace hQ := hQ.butNe hR.but (by omega)
    replace hT := hT.but hR.but hl1
    replace hd := hd.but hR.but hl1
    replace hB4 := hB4.trans (hR.but.below (by omega) hs5)
    clear hR
    replace hU := hU.down (w := w) hs5
    replace hT := hT.down (w := w) hs1
    go_wp2_with fail
    refine hK.out _ _ hd (fun hHeld => ?_)
    clear hK KK
    try simp only [Act.put, List.setIfInBounds_toArray, List.set_cons_zero, List.set_cons_succ]
    refine wpAnyH_ready (rs := [3]) (by kernel_rfl) (by simp) ?_
    refine AllReadyH.cons rfl (fun KK hK => ?_) AllReadyH.nil
    obtain ⟨p0, p1, p2, p3⟩ := hP.v.cells
    obtain ⟨z0, z1, z2, z3⟩ := hP.v.fz
    have q0 := hP.effSet 0 (.string D.name)
    have q1 := (hP.set0 (.string D.name)).effSet 1 (.slice (some ⟨ab, 0, none⟩) m cc)
    have q2 := ((hP.set0 (.string D.name)).set1 (.slice (some ⟨ab, 0, none⟩) m cc)).effSet 2 (.slice (some ⟨pb, 0, none⟩) pn pc)
    have q3 := (((hP.set0 (.string D.name)).set1 (.slice (some ⟨ab, 0, none⟩) m cc)).set2 (.slice (some ⟨pb, 0, none⟩) pn pc)).effSet 3 (.slice ia nn ic)
    have qE := ((q0.trans q1).trans q2).trans q3
    have qV := ((((hP.set0 (.string D.name)).set1 (.slice (some ⟨ab, 0, none⟩) m cc)).set2 (.slice (some ⟨pb, 0, none⟩) pn pc)).set3 (.slice ia nn ic))
    go_simp
    clear p0 p1 p2 p3 z0 z1 z2 z3
    replace hT := hT.eff qE (by decide) (by decide) (by decide)
    replace hU := hU.eff qE (by decide) (by decide) (by decide)
    replace hB4 := qE.on hB4
    replace hQ := ((((hQ.other (C := w.heap.size) (i := 0) (u := (.string D.name)) (by omega)).other (C := w.heap.size) (i := 1) (u := (.slice (some ⟨ab, 0, none⟩) m cc)) (by omega)).other (C := w.heap.size) (i := 2) (u := (.slice (some ⟨pb, 0, none⟩) pn pc)) (by omega)).other (C := w.heap.size) (i := 3) (u := (.slice ia nn ic)) (by omega))
    replace hd := ((((hd.other (C := w.heap.size) (i := 0) (u := (.string D.name)) (by omega)).other (C := w.heap.size) (i := 1) (u := (.slice (some ⟨ab, 0, none⟩) m cc)) (by omega)).other (C := w.heap.size) (i := 2) (u := (.slice (some ⟨pb, 0, none⟩) pn pc)) (by omega)).other (C := w.heap.size) (i := 3) (u := (.slice ia nn ic)) (by omega))
    have hP2 := qV
    clear q0 q1 q2 q3 qE qV hP
    have hP := hP2
    clear hP2
    refine hK.out _ _ hd (fun hHeld => ?_)
    clear hK KK
    try simp only [Act.put, List.setIfInBounds_toArray, List.set_cons_zero, List.set_cons_succ]
    refine wpAnyH_ready (rs := [4]) (by kernel_rfl) (by simp) ?_
    refine AllReadyH.cons rfl (fun KK hK => ?_) AllReadyH.nil
    obtain ⟨p0, p1, p2, p3⟩ := hQ.v.cells
    obtain ⟨z0, z1, z2, z3⟩ := hQ.v.fz
    have q0 := hQ.effSet 0 (.string D2.name)
    have q1 := (hQ.set0 (.string D2.name)).effSet 1 (.slice (some ⟨ab2, 0, none⟩) m2 cc2)
    have q2 := ((hQ.set0 (.string D2.name)).set1 (.slice (some ⟨ab2, 0, none⟩) m2 cc2)).effSet 2 (.slice (some ⟨pb2, 0, none⟩) pn2 pc2)
    have q3 := (((hQ.set0 (.string D2.name)).set1 (.slice (some ⟨ab2, 0, none⟩) m2 cc2)).set2 (.slice (some ⟨pb2, 0, none⟩) pn2 pc2)).effSet 3 (.slice ia2 nn2 ic2)
    have qE := ((q0.trans q1).trans q2).trans q3
    have qV := ((((hQ.set0 (.string D2.name)).set1 (.slice (some ⟨ab2, 0, none⟩) m2 cc2)).set2 (.slice (some ⟨pb2, 0, none⟩) pn2 pc2)).set3 (.slice ia2 nn2 ic2))
    go_simp
    clear p0 p1 p2 p3 z0 z1 z2 z3
    replace hT := hT.eff qE (by decide) (by decide) (by decide)
    replace hU := hU.eff qE (by decide) (by decide) (by decide)
    replace hB4 := qE.on hB4
    replace hP := ((((hP.other (C := (w.heap.size + 1)) (i := 0) (u := (.string D2.name)) (by omega)).other (C := (w.heap.size + 1)) (i := 1) (u := (.slice (some ⟨ab2, 0, none⟩) m2 cc2)) (by omega)).other (C := (w.heap.size + 1)) (i := 2) (u := (.slice (some ⟨pb2, 0, none⟩) pn2 pc2)) (by omega)).other (C := (w.heap.size + 1)) (i := 3) (u := (.slice ia2 nn2 ic2)) (by omega))
    replace hd := ((((hd.other (C := (w.heap.size + 1)) (i := 0) (u := (.string D2.name)) (by omega)).other (C := (w.heap.size + 1)) (i := 1) (u := (.slice (some ⟨ab2, 0, none⟩) m2 cc2)) (by omega)).other (C := (w.heap.size + 1)) (i := 2) (u := (.slice (some ⟨pb2, 0, none⟩) pn2 pc2)) (by omega)).other (C := (w.heap.size + 1)) (i := 3) (u := (.slice ia2 nn2 ic2)) (by omega))
    have hQ2 := qV
    clear q0 q1 q2 q3 qE qV hQ
    have hQ := hQ2
    clear hQ2
    refine hK.out _ _ hd (fun hHeld => ?_)
    clear hK KK
    try simp only [Act.put, List.setIfInBounds_toArray, List.set_cons_zero, List.set_cons_succ]
    refine wpAnyH_done (by kernel_rfl) ?_ _
    obtain ⟨g0, g1, g2, g3⟩ := hP.v.cells
    obtain ⟨h0, h1, h2, h3⟩ := hQ.v.cells
    have HD : Hid (Drawn (.agg #[(.string D.name), (.slice (some ⟨ab, 0, none⟩) m cc), (.slice (some ⟨pb, 0, none⟩) pn pc), (.slice ia nn ic)]) { D with nc := m } _) := ⟨hT.cut hle, hT.sm.cut hle⟩
    have HU : Hid (Drawn (.agg #[(.string D2.name), (.slice (some ⟨ab2, 0, none⟩) m2 cc2), (.slice (some ⟨pb2, 0, none⟩) pn2 pc2), (.slice ia2 nn2 ic2)]) { D2 with nc := m2 } _) := ⟨hU.cut hle2, hU.sm.cut hle2⟩
    have HB : Hid (Below w.heap.size w _) := hB4
    clear hT hU hP hQ hB4 hd hHeld hC4
    go_wp2
    exact bodyPost_ret (v := .tuple #[.agg #[(.string D.name), (.slice (some ⟨ab, 0, none⟩) m cc), (.slice (some ⟨pb, 0, none⟩) pn pc), (.slice ia nn ic)], .agg #[(.string D2.name), (.slice (some ⟨ab2, 0, none⟩) m2 cc2), (.slice (some ⟨pb2, 0, none⟩) pn2 pc2), (.slice ia2 nn2 ic2)]]) (by simp [results, Tryz.results7, go_sem, g0, g1, g2, g3, h0, h1, h2, h3]) rfl ⟨_, _, _, _, _, _, _, _, _, _, _, _, _, _, _, _, _, _, _, _, _, _, rfl, HD.out, HU.out, HB.out⟩
end Go.Proofs.YtfjlmkphncigladGreatDoor

/-
  A table's text, plainly.
-/
namespace Go.Proofs.YtfjlmkphncigladGreatDoor
open Go.RowKit
set_option maxRecDepth 4000

def typeW (t : Int) : ByteArray := if t = 1 then ⟨#[105, 110, 116]⟩ else if t = 2 then ⟨#[110, 117, 109]⟩ else if t = 3 then ⟨#[116, 101, 120, 116]⟩ else if t = 4 then ⟨#[98, 111, 111, 108]⟩ else ⟨#[]⟩
/-- The text of the first k parts. -/
def partsT (col : Nat → PCol) (f : Nat → PBy) : Nat → ByteArray
  | 0 => ⟨#[]⟩
  | k + 1 =>
    let s := (if 0 < k then partsT col f k ++ (⟨#[44, 32]⟩ : ByteArray) else partsT col f k) ++ (col (f k).col.toNat).name
    if (f k).desc then s ++ (⟨#[32, 100, 101, 115, 99]⟩ : ByteArray) else s
/-- The text as far as the first k columns. -/
def colsT (name : ByteArray) (col : Nat → PCol) : Nat → ByteArray
  | 0 => (⟨#[116, 97, 98, 108, 101, 32]⟩ : ByteArray) ++ name ++ (⟨#[32, 123, 32]⟩ : ByteArray)
  | k + 1 =>
    let s := colsT name col k ++ (col k).name ++ (⟨#[32]⟩ : ByteArray) ++ typeW (col k).type
    (if (col k).null then s ++ (⟨#[32, 110, 117, 108, 108]⟩ : ByteArray) else s) ++ (⟨#[59, 32]⟩ : ByteArray)
def partsE (col : Nat → PCol) (n : Nat) (f : Nat → PBy) : ByteArray := partsT col f n ++ (⟨#[59, 32]⟩ : ByteArray)
/-- .. and the first k indexes. -/
def idxT (D : PDef) : Nat → ByteArray
  | 0 => colsT D.name D.col D.nc ++ ((⟨#[112, 114, 105, 109, 97, 114, 121, 32]⟩ : ByteArray) ++ partsE D.col D.np D.pri)
  | k + 1 => idxT D k ++ (if (D.idx k).uniq then (⟨#[117, 110, 105, 113, 117, 101, 32]⟩ : ByteArray) else (⟨#[105, 110, 100, 101, 120, 32]⟩ : ByteArray)) ++ (D.idx k).name ++ (⟨#[32]⟩ : ByteArray) ++ partsE D.col (D.idx k).n (D.idx k).part
/-- The text of a table that nothing is wrong with. -/
def textG (D : PDef) : ByteArray := idxT D D.ni ++ (⟨#[125]⟩ : ByteArray)
def defText (D : PDef) : ByteArray := if checkF D = 0 then textG D else ⟨#[]⟩
end Go.Proofs.YtfjlmkphncigladGreatDoor

/-
  A table has a text just if nothing is wrong with it; it is the same as itself.
-/
namespace Go.Proofs.YtfjlmkphncigladGreatDoor
open Go.RowKit
set_option maxRecDepth 4000

theorem textG_ne (D : PDef) : textG D ≠ ⟨#[]⟩ := by
  intro h
  have h1 : (textG D).size = 0 := by rw [h]; rfl
  have e1 : (⟨#[125]⟩ : ByteArray).size = 1 := rfl
  unfold textG at h1
  rw [ByteArray.size_append] at h1
  omega
theorem defText_empty (D : PDef) : (defText D = ⟨#[]⟩) ↔ checkF D ≠ 0 := by
  unfold defText
  by_cases h : checkF D = 0
  · rw [if_pos h]; exact ⟨fun e => absurd e (textG_ne D), fun e => absurd h e⟩
  · rw [if_neg h]; exact ⟨fun _ => h, fun _ => rfl⟩
theorem sameByF_self (n : Nat) (f : Nat → PBy) : sameByF n f n f = true := by
  unfold sameByF; exact decide_eq_true ⟨rfl, fun _ _ => ⟨rfl, rfl⟩⟩
theorem sameF_self (D : PDef) : sameF D D = true := by
  unfold sameF; exact decide_eq_true ⟨rfl, rfl, rfl, sameByF_self _ _, fun _ _ => ⟨rfl, rfl, rfl⟩, fun _ _ => ⟨rfl, rfl, sameByF_self _ _⟩⟩
end Go.Proofs.YtfjlmkphncigladGreatDoor

/-
  A scope in which the run jumps from label to label: what holds at every jump, and a measure that every pass lowers.
-/
namespace Go.Proofs.YtfjlmkphncigladGreatDoor
open Go.RowKit
set_option maxRecDepth 4000

/-- As Q; by a goto to label l: J l. -/
def jumps (J : Nat → Act → World → Prop) (Q : Exit → Act → World → Prop) : Exit → Act → World → Prop
  | .goto l, a, w => J l a w
  | e, a, w => Q e a w
theorem jumps_normal {J : Nat → Act → World → Prop} {Q : Exit → Act → World → Prop} {a : Act} {w : World} : jumps J Q .normal a w = Q .normal a w := rfl
theorem jumps_ret {J : Nat → Act → World → Prop} {Q : Exit → Act → World → Prop} {a : Act} {w : World} : jumps J Q .ret a w = Q .ret a w := rfl
theorem jumps_exit {J : Nat → Act → World → Prop} {Q : Exit → Act → World → Prop} {i : Nat} {a : Act} {w : World} : jumps J Q (.exit i) a w = Q (.exit i) a w := rfl
theorem jumps_goto {J : Nat → Act → World → Prop} {Q : Exit → Act → World → Prop} {l : Nat} {a : Act} {w : World} : jumps J Q (.goto l) a w = J l a w := rfl

theorem wp_scope_labels {P : Program} {a : Act} {w : World} {Q : Exit → Act → World → Prop} {c : Code} (R : Nat → Code) (J : Nat → Act → World → Prop) (μ : Nat → Act → World → Nat)
    (hf : ∀ l a w, J l a w → findLabel c l = some (R l)) (first : c.wp P (jumps J Q) a w)
    (pass : ∀ l a w, J l a w → (R l).wp P (jumps (fun l' a' w' => J l' a' w' ∧ μ l' a' w' < μ l a w) Q) a w) : (Code.scope c).wp P Q a w := by
  intro b k cs
  have key : ∀ n l a w, μ l a w = n → J l a w → ∃ e a' w', Q e a' w' ∧ Arrives P (lone (b.at a (.code (R l) :: .inScope c :: k)) cs w) b k cs e a' w' := by
    intro n
    induction n using Nat.strongRecOn with
    | _ n ih =>
      intro l a w hn hJ
      obtain ⟨e, a₁, w₁, hq, harr⟩ := pass l a w hJ b (.inScope c :: k) cs
      cases e with
      | normal => exact ⟨.normal, a₁, w₁, hq, Steps.trans harr (.one step_inScope)⟩
      | exit id => exact ⟨.exit id, a₁, w₁, hq, fun k' hk => harr k' (by simp [exitTo, hk])⟩
      | goto l' =>
        obtain ⟨hJ', hlt⟩ := hq
        obtain ⟨e₂, a₂, w₂, hq₂, harr₂⟩ := ih _ (by omega) l' a₁ w₁ rfl hJ'
        have hg : gotoIn l' (.inScope c :: k) = some (.code (R l') :: .inScope c :: k) := by simp [gotoIn, hf l' a₁ w₁ hJ']
        exact ⟨e₂, a₂, w₂, hq₂, .of_steps (harr _ hg) harr₂⟩
      | ret => exact ⟨_, a₁, w₁, hq, harr⟩
      | panic ch => exact ⟨_, a₁, w₁, hq, harr⟩
      | outgrown => exact ⟨_, a₁, w₁, hq, harr⟩
  obtain ⟨e, a₁, w₁, hq, harr⟩ := first b (.inScope c :: k) cs
  cases e with
  | normal => exact ⟨.normal, a₁, w₁, hq, .head step_scope (Steps.trans harr (.one step_inScope))⟩
  | exit id => exact ⟨.exit id, a₁, w₁, hq, fun k' hk => .head step_scope (harr k' (by simp [exitTo, hk]))⟩
  | goto l' =>
    have hJ' : J l' a₁ w₁ := hq
    obtain ⟨e₂, a₂, w₂, hq₂, harr₂⟩ := key _ l' a₁ w₁ rfl hJ'
    have hg : gotoIn l' (.inScope c :: k) = some (.code (R l') :: .inScope c :: k) := by simp [gotoIn, hf l' a₁ w₁ hJ']
    exact ⟨e₂, a₂, w₂, hq₂, .of_steps (.head step_scope (harr _ hg)) harr₂⟩
  | ret => exact ⟨_, a₁, w₁, hq, .of_steps (.one step_scope) harr⟩
  | panic ch => exact ⟨_, a₁, w₁, hq, .of_steps (.one step_scope) harr⟩
  | outgrown => exact ⟨_, a₁, w₁, hq, .of_steps (.one step_scope) harr⟩

/-- The same, the code behind a label named where it is wanted; the way into the scope may run on into a label. -/
theorem wp_scope_goto {P : Program} {a : Act} {w : World} {Q : Exit → Act → World → Prop} {c : Code} (J : Nat → Act → World → Prop) (μ : Nat → Act → World → Nat)
    (hf : ∀ l a w, J l a w → ∃ X, findLabel c l = some (.seq .skip X))
    (pass : ∀ (T : Nat → Act → World → Prop) l a w X, findLabel c l = some (.seq .skip X) → J l a w → (∀ l' a' w', J l' a' w' → μ l' a' w' < μ l a w → T l' a' w') → X.wp P (jumps T Q) a w)
    (first : (∀ l a w X, findLabel c l = some (.seq .skip X) → J l a w → X.wp P (jumps J Q) a w) → c.wp P (jumps J Q) a w) : (Code.scope c).wp P Q a w := by
  refine wp_scope_labels (fun l => (findLabel c l).getD .skip) J μ (fun l a w h => ?_) (first (fun l a w X hr h => pass J l a w X hr h (fun _ _ _ h' _ => h'))) (fun l a w h => ?_)
  · obtain ⟨X, hr⟩ := hf l a w h
    rw [hr]; rfl
  · obtain ⟨X, hr⟩ := hf l a w h
    rw [hr]
    exact wp_seq (wp_skip (pass _ l a w X hr h (fun l' a' w' h1 h2 => ⟨h1, h2⟩)))
end Go.Proofs.YtfjlmkphncigladGreatDoor

/-
  A slice of tokens that reads, by a function of the index, and how that is carried from one world to the next.
-/
namespace Go.Proofs.YtfjlmkphncigladGreatDoor
open Go.RowKit
set_option maxRecDepth 4000

/-- The slice value '.slice ao n cap' reads, in the world w, as the n tokens f 0 up to f (n - 1). -/
structure TView (w : World) (ao : Option Addr) (n cap : Nat) (fk : Nat → Int) (fs : Nat → ByteArray) : Prop where
  le : n ≤ cap
  cells : 0 < n → ∃ b off, ao = some ⟨b, off, none⟩ ∧ b < w.heap.size ∧ ∀ i, i < n → w.cell? ⟨b, off + i * 2, none⟩ = some (.int .i64 (fk i)) ∧ w.cell? ⟨b, off + i * 2 + 1, none⟩ = some (.string (fs i))

theorem TView.below {w w' : World} {ao : Option Addr} {n cap : Nat} {fk : Nat → Int} {fs : Nat → ByteArray} (h : TView w ao n cap fk fs) (hb : Below w.heap.size w w') : TView w' ao n cap fk fs := by
  refine ⟨h.le, fun hn => ?_⟩
  obtain ⟨b, off, e, hlt, hc⟩ := h.cells hn
  refine ⟨b, off, e, Nat.lt_of_lt_of_le hlt hb.size, fun i hi => ?_⟩
  rw [hb.cell (p := ⟨b, off + i * 2, none⟩) hlt, hb.cell (p := ⟨b, off + i * 2 + 1, none⟩) hlt]
  exact hc i hi
theorem TView.but {w w' : World} {g : Nat} {ao : Option Addr} {n cap : Nat} {fk : Nat → Int} {fs : Nat → ByteArray} (h : TView w ao n cap fk fs) (hb : But g w w') (hne : ∀ a, ao = some a → a.block ≠ g) : TView w' ao n cap fk fs := by
  refine ⟨h.le, fun hn => ?_⟩
  obtain ⟨b, off, e, hlt, hc⟩ := h.cells hn
  refine ⟨b, off, e, Nat.lt_of_lt_of_le hlt hb.size, fun i hi => ?_⟩
  rw [World.cell?_of_block (w := w) (a := ⟨b, off + i * 2, none⟩) (hb.block b hlt (hne _ e)), World.cell?_of_block (w := w) (a := ⟨b, off + i * 2 + 1, none⟩) (hb.block b hlt (hne _ e))]
  exact hc i hi
theorem TView.congr {w : World} {ao : Option Addr} {n cap : Nat} {fk gk : Nat → Int} {fs gs : Nat → ByteArray} (h : TView w ao n cap fk fs) (e : ∀ i, i < n → fk i = gk i ∧ fs i = gs i) : TView w ao n cap gk gs := by
  refine ⟨h.le, fun hn => ?_⟩
  obtain ⟨b, off, ea, hlt, hc⟩ := h.cells hn
  exact ⟨b, off, ea, hlt, fun i hi => by rw [← (e i hi).1, ← (e i hi).2]; exact hc i hi⟩

/-- The cells of the first k tokens. -/
def rowK (gk : Nat → Int) (gs : Nat → ByteArray) : Nat → List Value
  | 0 => []
  | k + 1 => rowK gk gs k ++ [.int .i64 (gk k), .string (gs k)]
theorem rowK_len (gk : Nat → Int) (gs : Nat → ByteArray) : ∀ k, (rowK gk gs k).length = k * 2
  | 0 => rfl
  | k + 1 => by rw [rowK, List.length_append, rowK_len gk gs k]; simp; omega
theorem rowK_get (gk : Nat → Int) (gs : Nat → ByteArray) : ∀ k i, i < k → (rowK gk gs k)[i * 2]? = some (.int .i64 (gk i)) ∧ (rowK gk gs k)[i * 2 + 1]? = some (.string (gs i))
  | k + 1, i, hi => by
    have hl := rowK_len gk gs k
    by_cases e : i < k
    · obtain ⟨h1, h2⟩ := rowK_get gk gs k i e
      rw [rowK, List.getElem?_append_left (by omega), List.getElem?_append_left (by omega)]
      exact ⟨h1, h2⟩
    · obtain rfl : i = k := by omega
      rw [rowK, List.getElem?_append_right (by omega), List.getElem?_append_right (by omega), hl]
      simp [show i * 2 + 1 - i * 2 = 1 by omega]
theorem rowK_congr {gk : Nat → Int} {gs : Nat → ByteArray} {hk : Nat → Int} {hs : Nat → ByteArray} : ∀ {k : Nat}, (∀ i, i < k → gk i = hk i ∧ gs i = hs i) → rowK gk gs k = rowK hk hs k
  | 0, _ => rfl
  | k + 1, e => by
    obtain ⟨h1, h3⟩ := e k (by omega)
    rw [rowK, rowK, rowK_congr (fun i hi => e i (by omega)), h1, h3]

/-- A row of tokens of the call's own reads. -/
theorem tview_of_own {w : World} {base : Nat} {v : Value} {N : Nat} {gk : Nat → Int} {gs : Nat → ByteArray} (h : w.ownsRow base 124 2 v N (rowK gk gs N)) : ∃ a c, v = .slice a N c ∧ TView w a N c gk gs ∧ (v ≠ .slice none 0 0 → ∃ g, a = some ⟨g, 0, none⟩ ∧ base ≤ g) := by
  obtain ⟨hl, h⟩ := h
  rcases h with ⟨rfl, h0⟩ | ⟨g, c, cur, rfl, hb, hg, hnc, _, hcs, ht⟩
  · have hN : N = 0 := by have := h0; have := rowK_len gk gs N; omega
    subst hN
    exact ⟨none, 0, rfl, ⟨Nat.le_refl _, fun hn => absurd hn (Nat.lt_irrefl _)⟩, fun hne => absurd rfl hne⟩
  · refine ⟨_, c, rfl, ⟨hnc, fun hn => ⟨g, 0, rfl, ?_, fun i hi => ?_⟩⟩, fun _ => ⟨g, rfl, hb⟩⟩
    · exact (Array.getElem?_eq_some_iff.1 hg).1
    · have key : ∀ j x, j < N * 2 → (rowK gk gs N)[j]? = some x → w.cell? ⟨g, 0 + j, none⟩ = some x := by
        intro j x hj hx
        rw [← ht, List.getElem?_take, if_pos hj] at hx
        simp only [World.cell?, hg, Nat.zero_add]
        simpa using hx
      obtain ⟨h1, h2⟩ := rowK_get gk gs N i hi
      have k0 := key _ _ (by omega) h1
      have k1 := key _ _ (by omega) h2
      simp only [Nat.zero_add] at k0 k1 ⊢
      exact ⟨k0, k1⟩
end Go.Proofs.YtfjlmkphncigladGreatDoor

/-
  A token in a variable of the call's own; a row of tokens grows by one.
-/
namespace Go.Proofs.YtfjlmkphncigladGreatDoor
open Go.RowKit
set_option maxRecDepth 4000

/-- The two cells of a token. -/
def tokC (k : Int) (s : ByteArray) : Nat → Value
  | 0 => .int .i64 k
  | _ => .string s

/-- A token in a variable of the call's own. -/
def TBox (w : World) (B : Nat) (k : Int) (s : ByteArray) : Prop := w.rowIs B 124 2 (tokC k s)
theorem TBox.new (w : World) (k : Int) (s : ByteArray) : TBox (w.alloc (.cells #[.int .i64 k, .string s] 124)) w.heap.size k s :=
  World.rowIs_alloc w _ 124 (tokC k s) (fun j hj => by match j, hj with | 0, _ => rfl | 1, _ => rfl)
theorem TBox.cells {w : World} {B : Nat} {k : Int} {s : ByteArray} (h : TBox w B k s) : w.cell? ⟨B, 0, none⟩ = some (.int .i64 k) ∧ w.cell? ⟨B, 1, none⟩ = some (.string s) :=
  ⟨h.cell (i := 0) (by decide), h.cell (i := 1) (by decide)⟩
theorem TBox.frozen {w : World} {B : Nat} {k : Int} {s : ByteArray} (h : TBox w B k s) : w.frozen? ⟨B, 0, none⟩ = false ∧ w.frozen? ⟨B, 1, none⟩ = false :=
  ⟨World.rowIs.frozen h 0, World.rowIs.frozen h 1⟩
theorem TBox.lt {w : World} {B : Nat} {k : Int} {s : ByteArray} (h : TBox w B k s) : B < w.heap.size := World.rowIs.lt h
theorem TBox.below {w w' : World} {B : Nat} {k : Int} {s : ByteArray} (h : TBox w B k s) (hb : Below w.heap.size w w') : TBox w' B k s := h.of_block (hb.block B h.lt)
theorem TBox.but {w w' : World} {B g : Nat} {k : Int} {s : ByteArray} (h : TBox w B k s) (hb : But g w w') (hne : B ≠ g) : TBox w' B k s := h.of_block (hb.block B h.lt hne)
theorem TBox.set0 {w : World} {B : Nat} {k : Int} {s : ByteArray} (h : TBox w B k s) (x : Int) : TBox (w.setCell ⟨B, 0, none⟩ (.int .i64 x)) B x s :=
  (World.rowIs.set h 0 _).congr (fun j hj => by match j, hj with | 0, _ => rfl | 1, _ => rfl)
theorem TBox.set1 {w : World} {B : Nat} {k : Int} {s : ByteArray} (h : TBox w B k s) (t : ByteArray) : TBox (w.setCell ⟨B, 1, none⟩ (.string t)) B k t :=
  (World.rowIs.set h 1 _).congr (fun j hj => by match j, hj with | 0, _ => rfl | 1, _ => rfl)
theorem TBox.other {w : World} {B D i : Nat} {k : Int} {s : ByteArray} (h : TBox w B k s) (hne : B ≠ D) (u : Value) : TBox (w.setCell ⟨D, i, none⟩ u) B k s := h.of_block (Below.heap_setCell _ _ _ _ hne)

theorem infoTok2 : ∃ i, Tryz.prog.info? 124 = some i ∧ i.zero = some (.agg #[.int .i64 0, .string ⟨#[]⟩]) ∧ i.size = 2 ∧ i.bytes = 24 := by
  have h : (Tryz.prog.info? 124).map (fun i => (i.zero, i.size, i.bytes)) = some (some (.agg #[.int .i64 0, .string ⟨#[]⟩]), 2, 24) := by kernel_rfl
  obtain ⟨i, hi, hz⟩ := Option.map_eq_some_iff.1 h
  simp only [Prod.mk.injEq] at hz
  exact ⟨i, hi, hz.1, hz.2.1, hz.2.2⟩

/-- The cells of a new row of one token. -/
theorem cells_tok (W : World) (k : Int) (s : ByteArray) : ∀ j u, [Value.int .i64 k, .string s][j]? = some u → (W.alloc (.cells #[.int .i64 k, .string s] 124)).cell? ((⟨W.heap.size, 0, none⟩ : Addr).add j) = some u := by
  intro j u h
  obtain ⟨c0, c1⟩ := (TBox.new W k s).cells
  have ea : ∀ j, (⟨W.heap.size, 0, none⟩ : Addr).add j = ⟨W.heap.size, 0 + j, none⟩ := fun j => by unfold Addr.add; split <;> simp_all
  match j, h with
  | 0, h => cases h; rw [ea]; exact c0
  | 1, h => cases h; rw [ea]; exact c1
  | j + 2, h => simp at h
theorem one_tok (k : Int) (s : ByteArray) : ∀ u ∈ [Value.int .i64 k, .string s], u.oneCell' = true := by
  intro u hu
  simp at hu
  rcases hu with rfl | rfl <;> rfl
theorem own_below2 {w w' : World} {base : Nat} {t : TypeId} {v : Value} {n : Nat} {l : List Value} (h : w.ownsRow base t 2 v n l) (hb : Below w.heap.size w w') : w'.ownsRow base t 2 v n l := by
  refine h.kept (row := none) ⟨hb.os, hb.tape, hb.output, hb.size, fun k hk _ => hb.block k hk⟩ ?_
  cases hv : v.ownBlock with
  | none => exact Or.inl rfl
  | some k => exact Or.inr (fun e => by cases e)
end Go.Proofs.YtfjlmkphncigladGreatDoor

/-
  What Lex comes to: tokens in a row of the call's own, and a place.
-/
namespace Go.Proofs.YtfjlmkphncigladGreatDoor
open Go.RowKit
set_option maxRecDepth 4000

def tk (l : List (Int × ByteArray)) (i : Nat) : Int := (l.getD i (0, ⟨#[]⟩)).1
def ts (l : List (Int × ByteArray)) (i : Nat) : ByteArray := (l.getD i (0, ⟨#[]⟩)).2
/-- The cells of a list of tokens. -/
def rowL (l : List (Int × ByteArray)) : List Value := l.flatMap (fun t => [.int .i64 t.1, .string t.2])
theorem rowL_snoc (l : List (Int × ByteArray)) (t : Int × ByteArray) : rowL (l ++ [t]) = rowL l ++ [.int .i64 t.1, .string t.2] := by simp [rowL]
theorem tk_left {l m : List (Int × ByteArray)} {i : Nat} (h : i < l.length) : tk (l ++ m) i = tk l i ∧ ts (l ++ m) i = ts l i := by
  unfold tk ts; simp [List.getD, List.getElem?_append_left h]
theorem rowL_K : ∀ l : List (Int × ByteArray), rowL l = rowK (tk l) (ts l) l.length := by
  have key : ∀ (l : List (Int × ByteArray)) (k : Nat), k ≤ l.length → rowL (l.take k) = rowK (tk l) (ts l) k := by
    intro l k
    induction k with
    | zero => intro _; rfl
    | succ k ih =>
      intro hk
      have h1 : l.take (k + 1) = l.take k ++ [l[k]] := by rw [List.take_add_one, List.getElem?_eq_getElem (by omega)]; rfl
      have h2 : l.getD k (0, ⟨#[]⟩) = l[k] := by simp [List.getD, List.getElem?_eq_getElem (show k < l.length by omega)]
      rw [h1, rowL_snoc, ih (by omega), rowK]
      unfold tk ts
      rw [h2]
  intro l
  have := key l l.length (Nat.le_refl _)
  rw [List.take_length] at this
  exact this
/-- What Lex comes to. -/
def LexTo (w : World) (r : List (Int × ByteArray) × Int) (e : Ending) (w' : World) : Prop :=
  ∃ v, e = .returned (.tuple #[v, .int .i64 r.2]) ∧ v ≠ .slice none 0 0 ∧ w'.ownsRow w.heap.size 124 2 v r.1.length (rowL r.1) ∧ Below w.heap.size w w'
end Go.Proofs.YtfjlmkphncigladGreatDoor

/-
  Names and marks in a text, plainly.
-/
namespace Go.Proofs.YtfjlmkphncigladGreatDoor
open Go.RowKit
set_option maxRecDepth 4000

theorem endN_in {s : ByteArray} {p j : Nat} (h1 : p ≤ j) (h2 : j < endN s p) : inName (bt s j) = true := by
  by_cases h : p < s.size ∧ inName (bt s p) = true
  · by_cases e : p = j
    · subst e; exact h.2
    · rw [endN_step h.1 h.2] at h2
      exact endN_in (p := p + 1) (by omega) h2
  · rw [endN_stop h] at h2; omega
  termination_by s.size - p
  decreasing_by omega
/-- A name in a text is right just if it is not too long. -/
theorem name_ok {s : ByteArray} {i : Nat} (hi : i < s.size) (hsm : small (bt s i) = true) : nameOk (s.extract i (endN s (i + 1))) = decide (endN s (i + 1) - i ≤ 8) := by
  have hge := endN_ge s (i + 1)
  have hle := endN_le s (i + 1) (by omega)
  have hsz : (s.extract i (endN s (i + 1))).size = endN s (i + 1) - i := by rw [ByteArray.size_extract]; omega
  unfold nameOk
  rw [hsz, bt_extract hle (by omega), Nat.add_zero]
  by_cases h8 : endN s (i + 1) - i ≤ 8
  · rw [decide_eq_true h8]
    refine decide_eq_true ⟨by omega, h8, hsm, fun j hj => ?_⟩
    rw [bt_extract hle (by omega)]
    by_cases h0 : j = 0
    · subst h0; rw [Nat.add_zero]; unfold inName; rw [hsm]; rfl
    · exact endN_in (p := i + 1) (by omega) (by omega)
  · rw [decide_eq_false h8]
    exact decide_eq_false (fun h => h8 h.2.1)
theorem mark_ok {s : ByteArray} {i : Nat} (hi : i < s.size) : markOk (s.extract i (i + 1)) = markC (bt s i) := by
  have hsz : (s.extract i (i + 1)).size = 1 := by rw [ByteArray.size_extract]; omega
  unfold markOk
  rw [hsz, bt_extract (by omega) (by omega), Nat.add_zero]
  simp
theorem small_kind {s : ByteArray} {i : Nat} (h : small (bt s i) = true) : kindAt s i = 1 ∧ stopAt s i = endN s (i + 1) := by unfold kindAt stopAt; rw [h]; exact ⟨rfl, rfl⟩
theorem other_kind {s : ByteArray} {i : Nat} (h : small (bt s i) = false) : kindAt s i = 2 ∧ stopAt s i = i + 1 := by unfold kindAt stopAt; rw [h]; exact ⟨rfl, rfl⟩
theorem mark_not {c : Int} (h : markC c = true) : small c = false ∧ blank c = false := by
  unfold markC at h
  unfold small blank
  simp only [decide_eq_true_eq] at h
  exact ⟨decide_eq_false (by omega), decide_eq_false (by omega)⟩
theorem small_not {c : Int} (h : small c = true) : blank c = false := by
  unfold small at h
  unfold blank
  simp only [decide_eq_true_eq] at h
  exact decide_eq_false (by omega)
end Go.Proofs.YtfjlmkphncigladGreatDoor

