/-
  Together: WrongImpl, AsImpl, AsHit, CheckImpl, DefTextImpl, DefIn, LaidDef
-/
import Derived.Test.YtfjlmkphnciglatGreatDoorPack5
import Derived.Deep.RegionHeld3
import Derived.Test.YtfjlmkphnciglatGreatDoorPack1
import Derived.Test.YtfjlmkphnciglatGreatDoorProg
import Derived.LaidEql
import Derived.Stop.Asserts
import Derived.RowKitTokens
import Derived.Test.YtfjlmkphnciglatGreatDoorPack4
import Derived.Deep.Strs
import Derived.ChangeSame
import Derived.Lib.SmallJoins
import Derived.Test.YtfjlmkphnciglatGreatDoorRows
import Derived.LaidHandle
import Derived.LaidLaws
import Derived.Lib.LaidTab
import Derived.ChangeArms
/-
  The program's wrongDef: what is wrong with a table, the first that holds.
-/
namespace Go.Proofs.YtfjlmkphnciglatGreatDoor
open Go.RowKit
set_option maxRecDepth 4000

/-- A table in a variable. -/
structure D4 (B : Nat) (x0 x1 x2 x3 : Value) (W : World) : Prop where
  lt : B < W.heap.size
  c0 : W.cell? ⟨B, 0, none⟩ = some x0
  c1 : W.cell? ⟨B, 1, none⟩ = some x1
  c2 : W.cell? ⟨B, 2, none⟩ = some x2
  c3 : W.cell? ⟨B, 3, none⟩ = some x3
theorem D4.below {B : Nat} {x0 x1 x2 x3 : Value} {W W' : World} (h : D4 B x0 x1 x2 x3 W) (hb : Below W.heap.size W W') : D4 B x0 x1 x2 x3 W' :=
  ⟨Nat.lt_of_lt_of_le h.lt hb.size, by rw [hb.cell (p := ⟨B, 0, none⟩) h.lt]; exact h.c0, by rw [hb.cell (p := ⟨B, 1, none⟩) h.lt]; exact h.c1, by rw [hb.cell (p := ⟨B, 2, none⟩) h.lt]; exact h.c2, by rw [hb.cell (p := ⟨B, 3, none⟩) h.lt]; exact h.c3⟩
theorem D4.new (w : World) (T : TypeId) (x0 x1 x2 x3 : Value) : D4 w.heap.size x0 x1 x2 x3 (w.alloc (.cells #[x0, x1, x2, x3] T)) := ⟨by simp, by simp, by simp [go_sem], by simp [go_sem], by simp [go_sem]⟩

/-- What the program tells of a table: nothing, or an error with its code. -/
def WrongTo (D : PDef) (r : Value) : Prop := (checkF D = 0 ∧ r = .nilIface) ∨ (checkF D ≠ 0 ∧ ∃ s, r = .iface 50 (.agg #[.int .i64 (checkF D), .string s]))

theorem WrongTo.bad {D : PDef} {n : Int} (h : checkF D = n) (h0 : n ≠ 0) (s : ByteArray) : WrongTo D (.iface 50 (.agg #[.int .i64 n, .string s])) :=
  .inr ⟨by rw [h]; exact h0, s, by rw [h]⟩
theorem sview_one {W : World} {s : ByteArray} : SView (W.alloc (.cells #[.string s] 9)) (some ⟨W.heap.size, 0, none⟩) 1 1 (fun _ => s) := by
  refine ⟨Nat.le_refl _, fun _ => ⟨_, 0, rfl, by simp, fun i hi => ?_⟩⟩
  obtain rfl : i = 0 := by omega
  simp

set_option maxRecDepth 20000 in
set_option maxHeartbeats 8000000 in
theorem wrongDef_any (v : Value) (D : PDef) (w : World) (h : DView w v D) (hf : DFine D) :
    Calls Tryz.prog 23 #[v] w fun e w' => ∃ r, e = .returned r ∧ WrongTo D r ∧ Below w.heap.size w w' := by
  have hnc := hf.nc
  have hni := hf.ni
  have hv := h
  obtain ⟨ac, cc, ap, cp, ai, ci, rfl, -, -, -⟩ := h.is
  clear h
  have HV : Hid (DView w (.agg #[.string D.name, .slice ac D.nc cc, .slice ap D.np cp, .slice ai D.ni ci]) D) := hv
  have HF : Hid (DFine D) := hf
  have HCN : Hid (∀ W, Below w.heap.size w W → Calls Tryz.prog 48 #[.agg #[.string D.name, .slice ac D.nc cc, .slice ap D.np cp, .slice ai D.ni ci]] W fun e w' => ∃ g c, e = .returned (.slice (some ⟨g, 0, none⟩) D.nc c) ∧ SView w' (some ⟨g, 0, none⟩) D.nc c (fun i => (D.col i).name) ∧ Below W.heap.size W w') := fun W hb => (colNames_any _ D W (HV.out.below hb) HF.out).mono (fun e w' ⟨g, c, h1, h2, h3⟩ => ⟨g, c, h1, sview_of_row h2, h3⟩)
  have HIN : Hid (∀ W, Below w.heap.size w W → Calls Tryz.prog 49 #[.agg #[.string D.name, .slice ac D.nc cc, .slice ap D.np cp, .slice ai D.ni ci]] W fun e w' => ∃ g c, e = .returned (.slice (some ⟨g, 0, none⟩) D.ni c) ∧ SView w' (some ⟨g, 0, none⟩) D.ni c (fun i => (D.idx i).name) ∧ Below W.heap.size W w') := fun W hb => (indexNames_any _ D W (HV.out.below hb) HF.out).mono (fun e w' ⟨g, c, h1, h2, h3⟩ => ⟨g, c, h1, sview_of_row h2, h3⟩)
  have HC : Hid (checkF D = if namesF D = false then 1 else if typesF D = false then 2 else if onceF D = false then 3 else if 2 < D.ni then 6 else if allPartsF D = false then 5 else if nullF D then 4 else 0) := rfl
  have hD := D4.new w 33 (.string D.name) (.slice ac D.nc cc) (.slice ap D.np cp) (.slice ai D.ni ci)
  have hB : Below w.heap.size w (w.alloc (.cells #[.string D.name, .slice ac D.nc cc, .slice ap D.np cp, .slice ai D.ni ci] 33)) := (Below.refl _ _).alloc (Nat.le_refl _) _
  clear hv hf
  go_enter Tryz.func23, Tryz.ntmps23
  go_wp2_with fail
  rename_i KR hKR
  have key : ∀ (u4 u5 u6 u7 u8 u9 u10 u11 u12 : Value) (g c : Nat) (W : World), D4 w.heap.size (.string D.name) (.slice ac D.nc cc) (.slice ap D.np cp) (.slice ai D.ni ci) W → Below w.heap.size w W → SView W (some ⟨g, 0, none⟩) (1 + D.nc + D.ni) c (namesOf D) →
      KR { tmps := #[.agg #[.string D.name, .slice ac D.nc cc, .slice ap D.np cp, .slice ai D.ni ci], .pointer (some ⟨w.heap.size, 0, none⟩), .nilIface, .slice (some ⟨g, 0, none⟩) (1 + D.nc + D.ni) c, u4, u5, u6, u7, u8, u9, u10, u11, u12, undef, undef, undef, undef, undef, undef, undef, undef, undef, undef, undef, undef, undef, undef, undef, undef, undef, undef, undef, undef, undef, undef, undef, undef, undef, undef, undef, undef, undef, undef, undef, undef, undef, undef, undef, undef, undef, undef, undef, undef, undef, undef, undef, undef, undef, undef, undef, undef, undef, undef, undef, undef], defers := [] } W := by
    intro u4 u5 u6 u7 u8 u9 u10 u11 u12 g c W hD hB hN
    apply hKR
    clear hKR
    have hS := containsStr_any (some ⟨g, 0, none⟩) (1 + D.nc + D.ni) c (namesOf D) W hN (by omega) (namesOf_size HF.out)
    rw [names_iff] at hS
    clear hN
    go_wp2_with fail
    refine hS.mono ?_
    rintro e w1 ⟨rfl, hb1⟩
    have hD1 := hD.below hb1
    have hB1 := hB.trans (hb1.mono hB.size)
    clear hS hb1 hD hB
    cases e1 : namesF D with
    | false =>
      have HX : Hid (checkF D = 1) := by show _ = _; rw [HC.out, e1]; rfl
      have HB : Hid (Below w.heap.size w w1) := hB1
      clear hB1 hD1 HC HCN HIN
      go_wp2
      go_ret
      exact ⟨_, rfl, WrongTo.bad HX.out (by decide) _, HB.out⟩
    | true =>
    have HTI : Hid ((decide (D.nc = 0) || decide (6 < D.nc) || decide (∃ i, i < D.nc ∧ ((D.col i).type < 1 ∨ 4 < (D.col i).type))) = !typesF D) := types_iff D
    have HX2 : Hid (typesF D = false → checkF D = 2) := fun h => by rw [HC.out, e1, h]; rfl
    have hD1' := hD1
    obtain ⟨lt1, x0, x1, x2, x3⟩ := hD1
    by_cases c1 : D.nc = 0
    · have HX : Hid (checkF D = 2) := HX2.out (by have := HTI.out; rw [decide_eq_true c1] at this; simpa using this.symm)
      have q1 : ((D.nc : Int) == 0) = true := by simp; omega
      have HB : Hid (Below w.heap.size w w1) := hB1
      clear hB1 HC HCN HIN HTI HX2 hD1'
      go_wp2
      go_ret
      exact ⟨_, rfl, WrongTo.bad HX.out (by decide) _, HB.out⟩
    have q1 : ((D.nc : Int) == 0) = false := by simp; omega
    by_cases c2 : 6 < D.nc
    · have HX : Hid (checkF D = 2) := HX2.out (by have := HTI.out; rw [decide_eq_true c2] at this; simpa using this.symm)
      have q2 : (D.nc : Int) > 6 := by omega
      have HB : Hid (Below w.heap.size w w1) := hB1
      clear hB1 HC HCN HIN HTI HX2 hD1'
      go_wp2
      go_ret
      exact ⟨_, rfl, WrongTo.bad HX.out (by decide) _, HB.out⟩
    have q2 : ¬ ((D.nc : Int) > 6) := by omega
    obtain ⟨ac0, cc0, ap0, cp0, ai0, ci0, eagg, hcv, hpv, hiv⟩ := (HV.out.below hB1).is
    cases eagg
    have hS := containsCol_any ac D.nc cc D.col w1 hcv (by omega)
    have HTJ : Hid (decide (∃ i, i < D.nc ∧ ((D.col i).type < 1 ∨ 4 < (D.col i).type)) = !typesF D) := by
      show _ = _
      have := HTI.out
      rw [decide_eq_false c1, decide_eq_false c2] at this
      simpa using this
    rw [HTJ.out] at hS
    clear HTI HTJ hcv hpv hiv
    go_wp2_with fail
    refine hS.mono ?_
    rintro e w2 ⟨rfl, hb2⟩
    have hD2 := hD1'.below hb2
    have hB2 := hB1.trans (hb2.mono hB1.size)
    clear hS hb2 hD1' hB1 x0 x1 x2 x3 lt1
    cases e2 : typesF D with
    | false =>
      have HX : Hid (checkF D = 2) := HX2.out e2
      have HB : Hid (Below w.heap.size w w2) := hB2
      clear hB2 hD2 HC HCN HIN HX2
      go_wp2
      go_ret
      exact ⟨_, rfl, WrongTo.bad HX.out (by decide) _, HB.out⟩
    | true =>
    clear HX2
    have HOI : Hid ((decide (¬ (ssOf (fun i => (D.col i).name) D.nc).Nodup) || decide (¬ (ssOf (fun i => (D.idx i).name) D.ni).Nodup)) = !onceF D) := once_iff D
    have HX3 : Hid (onceF D = false → checkF D = 3) := fun h => by rw [HC.out, e1, e2, h]; rfl
    have hD2' := hD2
    obtain ⟨lt2, x0, x1, x2, x3⟩ := hD2
    have hS := HCN.out w2 hB2
    go_wp2_with fail
    refine hS.mono ?_
    rintro e w3 ⟨gc, kc, rfl, vC, hb3⟩
    have hD3 := hD2'.below hb3
    have hB3 := hB2.trans (hb3.mono hB2.size)
    have hT := hasTwice_any (some ⟨gc, 0, none⟩) D.nc kc (fun i => (D.col i).name) w3 vC (by omega)
    obtain ⟨o1, ho1⟩ : ∃ o1, Hid (decide (¬ (ssOf (fun i => (D.col i).name) D.nc).Nodup) = o1) := ⟨_, rfl⟩
    rw [ho1.out] at hT HOI
    clear hS hb3 hD2' hB2 x0 x1 x2 x3 lt2 vC
    go_wp2_with fail
    refine hT.mono ?_
    rintro e w4 ⟨rfl, hb4⟩
    have hD4 := hD3.below hb4
    have hB4 := hB3.trans (hb4.mono hB3.size)
    clear hT hb4 hD3 hB3
    cases o1 with
    | true =>
      have HX : Hid (checkF D = 3) := HX3.out (by have := HOI.out; simpa using this.symm)
      have HB : Hid (Below w.heap.size w w4) := hB4
      clear hB4 hD4 HC HCN HIN HX3 HOI
      go_wp2
      go_ret
      exact ⟨_, rfl, WrongTo.bad HX.out (by decide) _, HB.out⟩
    | false =>
    have hD4' := hD4
    obtain ⟨lt4, x0, x1, x2, x3⟩ := hD4
    have hS := HIN.out w4 hB4
    go_wp2_with fail
    refine hS.mono ?_
    rintro e w5 ⟨gi, ki, rfl, vI, hb5⟩
    have hD5 := hD4'.below hb5
    have hB5 := hB4.trans (hb5.mono hB4.size)
    have hT := hasTwice_any (some ⟨gi, 0, none⟩) D.ni ki (fun i => (D.idx i).name) w5 vI (by omega)
    rw [Bool.false_or] at HOI
    rw [HOI.out] at hT
    clear hS hb5 hD4' hB4 x0 x1 x2 x3 lt4 vI HOI
    go_wp2_with fail
    refine hT.mono ?_
    rintro e w6 ⟨rfl, hb6⟩
    have hD6 := hD5.below hb6
    have hB6 := hB5.trans (hb6.mono hB5.size)
    clear hT hb6 hD5 hB5
    cases e3 : onceF D with
    | false =>
      have HX : Hid (checkF D = 3) := HX3.out e3
      have HB : Hid (Below w.heap.size w w6) := hB6
      clear hB6 hD6 HC HCN HIN HX3
      go_wp2
      go_ret
      exact ⟨_, rfl, WrongTo.bad HX.out (by decide) _, HB.out⟩
    | true =>
    clear HX3
    have hD6' := hD6
    obtain ⟨lt6, x0, x1, x2, x3⟩ := hD6
    by_cases c6 : 2 < D.ni
    · have HX : Hid (checkF D = 6) := by show _ = _; rw [HC.out, e1, e2, e3, if_pos c6]; rfl
      have q6 : (D.ni : Int) > 2 := by omega
      have HB : Hid (Below w.heap.size w w6) := hB6
      clear hB6 hD6' HC HCN HIN
      go_wp2
      go_ret
      exact ⟨_, rfl, WrongTo.bad HX.out (by decide) _, HB.out⟩
    have q6 : ¬ ((D.ni : Int) > 2) := by omega
    have hS := allPartsOk_any _ D w6 (HV.out.below hB6) HF.out
    go_wp2_with fail
    refine hS.mono ?_
    rintro e w7 ⟨rfl, hb7⟩
    have hD7 := hD6'.below hb7
    have hB7 := hB6.trans (hb7.mono hB6.size)
    clear hS hb7 hD6' hB6 x0 x1 x2 x3 lt6
    cases e5 : allPartsF D with
    | false =>
      have HX : Hid (checkF D = 5) := by show _ = _; rw [HC.out, e1, e2, e3, if_neg c6, e5]; rfl
      have HB : Hid (Below w.heap.size w w7) := hB7
      clear hB7 hD7 HC HCN HIN
      go_wp2
      go_ret
      exact ⟨_, rfl, WrongTo.bad HX.out (by decide) _, HB.out⟩
    | true =>
    have hD7' := hD7
    obtain ⟨lt7, x0, x1, x2, x3⟩ := hD7
    have hpf : partsF D.nc D.np D.pri = true := by
      unfold allPartsF at e5
      exact (of_decide_eq_true e5).2
    have hS := mayLackKey_any _ D w7 (HV.out.below hB7) HF.out hpf
    have HX4 : Hid (checkF D = if nullF D then 4 else 0) := by show _ = _; rw [HC.out, e1, e2, e3, if_neg c6, e5]; rfl
    clear hpf
    go_wp2_with fail
    refine hS.mono ?_
    rintro e w8 ⟨rfl, hb8⟩
    have HB : Hid (Below w.heap.size w w8) := hB7.trans (hb8.mono hB7.size)
    clear hS hb8 hD7' hB7 x0 x1 x2 x3 lt7 HC HCN HIN e1 e2 e3 e5
    cases e6 : nullF D with
    | false =>
      have HX : Hid (checkF D = 0) := by show _ = _; rw [HX4.out, e6]; rfl
      clear HX4 e6
      go_wp2
      go_ret
      exact ⟨_, rfl, .inl ⟨HX.out, rfl⟩, HB.out⟩
    | true =>
      have HX : Hid (checkF D = 4) := by show _ = _; rw [HX4.out, e6]; rfl
      clear HX4 e6
      go_wp2
      go_ret
      exact ⟨_, rfl, WrongTo.bad HX.out (by decide) _, HB.out⟩
  clear HC
  obtain ⟨w0, hw0⟩ : ∃ w0, Hid (w0 = w.alloc (.cells #[.string D.name, .slice ac D.nc cc, .slice ap D.np cp, .slice ai D.ni ci] 33)) := ⟨_, rfl⟩
  rw [← hw0.out] at hD hB ⊢
  have hb : Below w0.heap.size w0 w0.drew := (Below.refl _ _).drew
  replace hD := hD.below hb
  replace hB := hB.trans (hb.mono hB.size)
  clear hb
  refine wp_region_held_drew (S := (D4 w.heap.size (.string D.name) (.slice ac D.nc cc) (.slice ap D.np cp) (.slice ai D.ni ci))) (by kernel_rfl) (hD) (fun hHeld => ?_)
  obtain ⟨wd, hwd⟩ : ∃ wd, Hid (wd = w0.drew) := ⟨_, rfl⟩
  rw [← hwd.out] at hD hB hHeld ⊢
  refine' wpAnyH_take (i := 0) (v := _) rfl (by kernel_rfl) (by kernel_rfl) (by kernel_rfl) (fun _ _ _ h => h) (Or.inl ⟨by kernel_rfl, ?ht1⟩) (by assumption) ?rt1
  case ht1 => intro W hW; obtain ⟨-, c0, c1, c2, c3⟩ := hW; go_simp; all_goals with_reducible rfl
  change wpAnyH _ _ _ _ _ _ _ (Act.put _ (some 4) _) _
  simp only [Act.put, List.setIfInBounds_toArray, List.set_cons_zero, List.set_cons_succ]
  refine' wpAnyH_take (i := 1) (v := _) rfl (by kernel_rfl) (by kernel_rfl) (by kernel_rfl) (fun _ _ _ h => h) (Or.inl ⟨by kernel_rfl, ?ht2⟩) (by assumption) ?rt2
  case ht2 => intro W hW; obtain ⟨-, c0, c1, c2, c3⟩ := hW; go_simp; all_goals with_reducible rfl
  change wpAnyH _ _ _ _ _ _ _ (Act.put _ (some 5) _) _
  simp only [Act.put, List.setIfInBounds_toArray, List.set_cons_zero, List.set_cons_succ]
  refine' wpAnyH_take (i := 3) (v := _) rfl (by kernel_rfl) (by kernel_rfl) (by kernel_rfl) (fun _ _ _ h => h) (Or.inl ⟨by kernel_rfl, ?ht3⟩) (by assumption) ?rt3
  case ht3 => intro W hW; obtain ⟨-, c0, c1, c2, c3⟩ := hW; go_simp; all_goals with_reducible rfl
  change wpAnyH _ _ _ _ _ _ _ (Act.put _ (some 7) _) _
  simp only [Act.put, List.setIfInBounds_toArray, List.set_cons_zero, List.set_cons_succ]
  refine' wpAnyH_take (i := 5) (v := _) rfl (by kernel_rfl) (by kernel_rfl) (by kernel_rfl) (fun _ _ _ h => h) (Or.inl ⟨by kernel_rfl, ?ht4⟩) (by assumption) ?rt4
  case ht4 => intro W hW; obtain ⟨-, c0, c1, c2, c3⟩ := hW; go_simp; all_goals with_reducible rfl
  change wpAnyH _ _ _ _ _ _ _ (Act.put _ (some 9) _) _
  simp only [Act.put, List.setIfInBounds_toArray, List.set_cons_zero, List.set_cons_succ]
  refine wpAnyH_ready (rs := [2, 4]) (by kernel_rfl) (by simp) ?_
  refine AllReadyH.cons rfl (fun KK hK => ?_) (AllReadyH.cons rfl (fun KK hK => ?_) AllReadyH.nil)
  ·
    go_simp
    have hb : Below wd.heap.size wd (wd.alloc (.cells #[.string D.name] 9)) := (Below.refl _ _).alloc (Nat.le_refl _) _
    have vN := sview_one (W := wd) (s := D.name)
    replace hD := hD.below hb
    replace hB := hB.trans (hb.mono hB.size)
    clear hb
    refine hK.out _ _ hD (fun hHeld => ?_)
    clear hK KK
    try simp only [Act.put, List.setIfInBounds_toArray, List.set_cons_zero, List.set_cons_succ]
    obtain ⟨gN, hgN⟩ : ∃ gN, Hid (gN = wd.heap.size) := ⟨_, rfl⟩
    obtain ⟨wn, hwn⟩ : ∃ wn, Hid (wn = wd.alloc (.cells #[.string D.name] 9)) := ⟨_, rfl⟩
    rw [← hwn.out] at hD hB hHeld vN ⊢
    rw [← hgN.out] at vN ⊢
    refine wpAnyH_ready (rs := [4]) (by kernel_rfl) (by simp) ?_
    refine AllReadyH.cons rfl (fun KK hK => ?_) AllReadyH.nil
    go_simp
    refine (HCN.out _ hB).mono ?_
    rintro e wc ⟨gc, kc, rfl, vC, hb⟩
    replace hD := hD.below hb
    replace hB := hB.trans (hb.mono hB.size)
    replace vN := vN.below hb
    clear hb
    go_wp2_with fail
    refine hK.out _ _ hD (fun hHeld => ?_)
    clear hK KK
    try simp only [Act.put, List.setIfInBounds_toArray, List.set_cons_zero, List.set_cons_succ]
    refine wpAnyH_ready (rs := [6]) (by kernel_rfl) (by simp) ?_
    refine AllReadyH.cons rfl (fun KK hK => ?_) AllReadyH.nil
    go_simp
    refine (HIN.out _ hB).mono ?_
    rintro e wi ⟨gi, ki, rfl, vI, hb⟩
    replace hD := hD.below hb
    replace hB := hB.trans (hb.mono hB.size)
    replace vN := vN.below hb
    replace vC := vC.below hb
    clear hb
    go_wp2_with fail
    refine hK.out _ _ hD (fun hHeld => ?_)
    clear hK KK
    try simp only [Act.put, List.setIfInBounds_toArray, List.set_cons_zero, List.set_cons_succ]
    refine wpAnyH_ready (rs := [7]) (by kernel_rfl) (by simp) ?_
    refine AllReadyH.cons rfl (fun KK hK => ?_) AllReadyH.nil
    go_simp
    have hb : Below wi.heap.size wi (wi.alloc (.cells #[.slice (some ⟨gN, 0, none⟩) 1 1, .slice (some ⟨gc, 0, none⟩) D.nc kc, .slice (some ⟨gi, 0, none⟩) D.ni ki] 99)) := (Below.refl _ _).alloc (Nat.le_refl _) _
    have y0 : (wi.alloc (.cells #[.slice (some ⟨gN, 0, none⟩) 1 1, .slice (some ⟨gc, 0, none⟩) D.nc kc, .slice (some ⟨gi, 0, none⟩) D.ni ki] 99)).cell? ⟨wi.heap.size, 0, none⟩ = some (.slice (some ⟨gN, 0, none⟩) 1 1) := by simp
    have y1 : (wi.alloc (.cells #[.slice (some ⟨gN, 0, none⟩) 1 1, .slice (some ⟨gc, 0, none⟩) D.nc kc, .slice (some ⟨gi, 0, none⟩) D.ni ki] 99)).cell? ⟨wi.heap.size, 1, none⟩ = some (.slice (some ⟨gc, 0, none⟩) D.nc kc) := by simp [go_sem]
    have y2 : (wi.alloc (.cells #[.slice (some ⟨gN, 0, none⟩) 1 1, .slice (some ⟨gc, 0, none⟩) D.nc kc, .slice (some ⟨gi, 0, none⟩) D.ni ki] 99)).cell? ⟨wi.heap.size, 2, none⟩ = some (.slice (some ⟨gi, 0, none⟩) D.ni ki) := by simp [go_sem]
    have yl : wi.heap.size < (wi.alloc (.cells #[.slice (some ⟨gN, 0, none⟩) 1 1, .slice (some ⟨gc, 0, none⟩) D.nc kc, .slice (some ⟨gi, 0, none⟩) D.ni ki] 99)).heap.size := by simp
    replace hD := hD.below hb
    replace hB := hB.trans (hb.mono hB.size)
    replace vN := vN.below hb
    replace vC := vC.below hb
    replace vI := vI.below hb
    clear hb
    refine hK.out _ _ hD (fun hHeld => ?_)
    clear hK KK
    try simp only [Act.put, List.setIfInBounds_toArray, List.set_cons_zero, List.set_cons_succ]
    have hCC := concat3_any _ _ _ _ _ _ _ _ _ _ _ _ _ _ y0 y1 y2 yl vN vC vI (by omega) (by omega) hnc hni
    refine wpAnyH_ready (rs := [8]) (by kernel_rfl) (by simp) ?_
    refine AllReadyH.cons rfl (fun KK hK => ?_) AllReadyH.nil
    go_simp
    refine hCC.mono ?_
    rintro e wz ⟨g, c, rfl, hO, hb⟩
    rw [rowS_cat, rowS_cat] at hO
    have vZ : SView wz (some ⟨g, 0, none⟩) (1 + D.nc + D.ni) c (namesOf D) := sview_of_row hO
    replace hD := hD.below hb
    replace hB := hB.trans (hb.mono hB.size)
    clear hb
    clear hCC hO y0 y1 y2 yl vN vC vI
    go_wp2_with fail
    refine hK.out _ _ hD (fun hHeld => ?_)
    clear hK KK
    try simp only [Act.put, List.setIfInBounds_toArray, List.set_cons_zero, List.set_cons_succ]
    refine' wpAnyH_take (i := 9) (v := _) rfl (by kernel_rfl) (by kernel_rfl) (by kernel_rfl) (fun _ _ _ h => h) (Or.inl ⟨by kernel_rfl, ?ht5⟩) (by assumption) ?rt5
    case ht5 => intro W hW; obtain ⟨-, c0, c1, c2, c3⟩ := hW; go_simp; all_goals with_reducible rfl
    change wpAnyH _ _ _ _ _ _ _ (Act.put _ (some 3) _) _
    simp only [Act.put, List.setIfInBounds_toArray, List.set_cons_zero, List.set_cons_succ]
    refine wpAnyH_done (by kernel_rfl) ?_ _
    exact key _ _ _ _ _ _ _ _ _ _ _ _ hD hB vZ
  ·
    go_simp
    refine (HCN.out _ hB).mono ?_
    rintro e wc ⟨gc, kc, rfl, vC, hb⟩
    replace hD := hD.below hb
    replace hB := hB.trans (hb.mono hB.size)
    clear hb
    go_wp2_with fail
    refine hK.out _ _ hD (fun hHeld => ?_)
    clear hK KK
    try simp only [Act.put, List.setIfInBounds_toArray, List.set_cons_zero, List.set_cons_succ]
    refine wpAnyH_ready (rs := [2, 6]) (by kernel_rfl) (by simp) ?_
    refine AllReadyH.cons rfl (fun KK hK => ?_) (AllReadyH.cons rfl (fun KK hK => ?_) AllReadyH.nil)
    ·
      go_simp
      have hb : Below wc.heap.size wc (wc.alloc (.cells #[.string D.name] 9)) := (Below.refl _ _).alloc (Nat.le_refl _) _
      have vN := sview_one (W := wc) (s := D.name)
      replace hD := hD.below hb
      replace hB := hB.trans (hb.mono hB.size)
      replace vC := vC.below hb
      clear hb
      refine hK.out _ _ hD (fun hHeld => ?_)
      clear hK KK
      try simp only [Act.put, List.setIfInBounds_toArray, List.set_cons_zero, List.set_cons_succ]
      obtain ⟨gN, hgN⟩ : ∃ gN, Hid (gN = wc.heap.size) := ⟨_, rfl⟩
      obtain ⟨wn, hwn⟩ : ∃ wn, Hid (wn = wc.alloc (.cells #[.string D.name] 9)) := ⟨_, rfl⟩
      rw [← hwn.out] at hD hB hHeld vN vC ⊢
      rw [← hgN.out] at vN ⊢
      refine wpAnyH_ready (rs := [6]) (by kernel_rfl) (by simp) ?_
      refine AllReadyH.cons rfl (fun KK hK => ?_) AllReadyH.nil
      go_simp
      refine (HIN.out _ hB).mono ?_
      rintro e wi ⟨gi, ki, rfl, vI, hb⟩
      replace hD := hD.below hb
      replace hB := hB.trans (hb.mono hB.size)
      replace vN := vN.below hb
      replace vC := vC.below hb
      clear hb
      go_wp2_with fail
      refine hK.out _ _ hD (fun hHeld => ?_)
      clear hK KK
      try simp only [Act.put, List.setIfInBounds_toArray, List.set_cons_zero, List.set_cons_succ]
      refine wpAnyH_ready (rs := [7]) (by kernel_rfl) (by simp) ?_
      refine AllReadyH.cons rfl (fun KK hK => ?_) AllReadyH.nil
      go_simp
      have hb : Below wi.heap.size wi (wi.alloc (.cells #[.slice (some ⟨gN, 0, none⟩) 1 1, .slice (some ⟨gc, 0, none⟩) D.nc kc, .slice (some ⟨gi, 0, none⟩) D.ni ki] 99)) := (Below.refl _ _).alloc (Nat.le_refl _) _
      have y0 : (wi.alloc (.cells #[.slice (some ⟨gN, 0, none⟩) 1 1, .slice (some ⟨gc, 0, none⟩) D.nc kc, .slice (some ⟨gi, 0, none⟩) D.ni ki] 99)).cell? ⟨wi.heap.size, 0, none⟩ = some (.slice (some ⟨gN, 0, none⟩) 1 1) := by simp
      have y1 : (wi.alloc (.cells #[.slice (some ⟨gN, 0, none⟩) 1 1, .slice (some ⟨gc, 0, none⟩) D.nc kc, .slice (some ⟨gi, 0, none⟩) D.ni ki] 99)).cell? ⟨wi.heap.size, 1, none⟩ = some (.slice (some ⟨gc, 0, none⟩) D.nc kc) := by simp [go_sem]
      have y2 : (wi.alloc (.cells #[.slice (some ⟨gN, 0, none⟩) 1 1, .slice (some ⟨gc, 0, none⟩) D.nc kc, .slice (some ⟨gi, 0, none⟩) D.ni ki] 99)).cell? ⟨wi.heap.size, 2, none⟩ = some (.slice (some ⟨gi, 0, none⟩) D.ni ki) := by simp [go_sem]
      have yl : wi.heap.size < (wi.alloc (.cells #[.slice (some ⟨gN, 0, none⟩) 1 1, .slice (some ⟨gc, 0, none⟩) D.nc kc, .slice (some ⟨gi, 0, none⟩) D.ni ki] 99)).heap.size := by simp
      replace hD := hD.below hb
      replace hB := hB.trans (hb.mono hB.size)
      replace vN := vN.below hb
      replace vC := vC.below hb
      replace vI := vI.below hb
      clear hb
      refine hK.out _ _ hD (fun hHeld => ?_)
      clear hK KK
      try simp only [Act.put, List.setIfInBounds_toArray, List.set_cons_zero, List.set_cons_succ]
      have hCC := concat3_any _ _ _ _ _ _ _ _ _ _ _ _ _ _ y0 y1 y2 yl vN vC vI (by omega) (by omega) hnc hni
      refine wpAnyH_ready (rs := [8]) (by kernel_rfl) (by simp) ?_
      refine AllReadyH.cons rfl (fun KK hK => ?_) AllReadyH.nil
      go_simp
      refine hCC.mono ?_
      rintro e wz ⟨g, c, rfl, hO, hb⟩
      rw [rowS_cat, rowS_cat] at hO
      have vZ : SView wz (some ⟨g, 0, none⟩) (1 + D.nc + D.ni) c (namesOf D) := sview_of_row hO
      replace hD := hD.below hb
      replace hB := hB.trans (hb.mono hB.size)
      clear hb
      clear hCC hO y0 y1 y2 yl vN vC vI
      go_wp2_with fail
      refine hK.out _ _ hD (fun hHeld => ?_)
      clear hK KK
      try simp only [Act.put, List.setIfInBounds_toArray, List.set_cons_zero, List.set_cons_succ]
      refine' wpAnyH_take (i := 9) (v := _) rfl (by kernel_rfl) (by kernel_rfl) (by kernel_rfl) (fun _ _ _ h => h) (Or.inl ⟨by kernel_rfl, ?ht6⟩) (by assumption) ?rt6
      case ht6 => intro W hW; obtain ⟨-, c0, c1, c2, c3⟩ := hW; go_simp; all_goals with_reducible rfl
      change wpAnyH _ _ _ _ _ _ _ (Act.put _ (some 3) _) _
      simp only [Act.put, List.setIfInBounds_toArray, List.set_cons_zero, List.set_cons_succ]
      refine wpAnyH_done (by kernel_rfl) ?_ _
      exact key _ _ _ _ _ _ _ _ _ _ _ _ hD hB vZ
    ·
      go_simp
      refine (HIN.out _ hB).mono ?_
      rintro e wi ⟨gi, ki, rfl, vI, hb⟩
      replace hD := hD.below hb
      replace hB := hB.trans (hb.mono hB.size)
      replace vC := vC.below hb
      clear hb
      go_wp2_with fail
      refine hK.out _ _ hD (fun hHeld => ?_)
      clear hK KK
      try simp only [Act.put, List.setIfInBounds_toArray, List.set_cons_zero, List.set_cons_succ]
      refine wpAnyH_ready (rs := [2]) (by kernel_rfl) (by simp) ?_
      refine AllReadyH.cons rfl (fun KK hK => ?_) AllReadyH.nil
      go_simp
      have hb : Below wi.heap.size wi (wi.alloc (.cells #[.string D.name] 9)) := (Below.refl _ _).alloc (Nat.le_refl _) _
      have vN := sview_one (W := wi) (s := D.name)
      replace hD := hD.below hb
      replace hB := hB.trans (hb.mono hB.size)
      replace vC := vC.below hb
      replace vI := vI.below hb
      clear hb
      refine hK.out _ _ hD (fun hHeld => ?_)
      clear hK KK
      try simp only [Act.put, List.setIfInBounds_toArray, List.set_cons_zero, List.set_cons_succ]
      obtain ⟨gN, hgN⟩ : ∃ gN, Hid (gN = wi.heap.size) := ⟨_, rfl⟩
      obtain ⟨wn, hwn⟩ : ∃ wn, Hid (wn = wi.alloc (.cells #[.string D.name] 9)) := ⟨_, rfl⟩
      rw [← hwn.out] at hD hB hHeld vN vC vI ⊢
      rw [← hgN.out] at vN ⊢
      refine wpAnyH_ready (rs := [7]) (by kernel_rfl) (by simp) ?_
      refine AllReadyH.cons rfl (fun KK hK => ?_) AllReadyH.nil
      go_simp
      have hb : Below wn.heap.size wn (wn.alloc (.cells #[.slice (some ⟨gN, 0, none⟩) 1 1, .slice (some ⟨gc, 0, none⟩) D.nc kc, .slice (some ⟨gi, 0, none⟩) D.ni ki] 99)) := (Below.refl _ _).alloc (Nat.le_refl _) _
      have y0 : (wn.alloc (.cells #[.slice (some ⟨gN, 0, none⟩) 1 1, .slice (some ⟨gc, 0, none⟩) D.nc kc, .slice (some ⟨gi, 0, none⟩) D.ni ki] 99)).cell? ⟨wn.heap.size, 0, none⟩ = some (.slice (some ⟨gN, 0, none⟩) 1 1) := by simp
      have y1 : (wn.alloc (.cells #[.slice (some ⟨gN, 0, none⟩) 1 1, .slice (some ⟨gc, 0, none⟩) D.nc kc, .slice (some ⟨gi, 0, none⟩) D.ni ki] 99)).cell? ⟨wn.heap.size, 1, none⟩ = some (.slice (some ⟨gc, 0, none⟩) D.nc kc) := by simp [go_sem]
      have y2 : (wn.alloc (.cells #[.slice (some ⟨gN, 0, none⟩) 1 1, .slice (some ⟨gc, 0, none⟩) D.nc kc, .slice (some ⟨gi, 0, none⟩) D.ni ki] 99)).cell? ⟨wn.heap.size, 2, none⟩ = some (.slice (some ⟨gi, 0, none⟩) D.ni ki) := by simp [go_sem]
      have yl : wn.heap.size < (wn.alloc (.cells #[.slice (some ⟨gN, 0, none⟩) 1 1, .slice (some ⟨gc, 0, none⟩) D.nc kc, .slice (some ⟨gi, 0, none⟩) D.ni ki] 99)).heap.size := by simp
      replace hD := hD.below hb
      replace hB := hB.trans (hb.mono hB.size)
      replace vN := vN.below hb
      replace vC := vC.below hb
      replace vI := vI.below hb
      clear hb
      refine hK.out _ _ hD (fun hHeld => ?_)
      clear hK KK
      try simp only [Act.put, List.setIfInBounds_toArray, List.set_cons_zero, List.set_cons_succ]
      have hCC := concat3_any _ _ _ _ _ _ _ _ _ _ _ _ _ _ y0 y1 y2 yl vN vC vI (by omega) (by omega) hnc hni
      refine wpAnyH_ready (rs := [8]) (by kernel_rfl) (by simp) ?_
      refine AllReadyH.cons rfl (fun KK hK => ?_) AllReadyH.nil
      go_simp
      refine hCC.mono ?_
      rintro e wz ⟨g, c, rfl, hO, hb⟩
      rw [rowS_cat, rowS_cat] at hO
      have vZ : SView wz (some ⟨g, 0, none⟩) (1 + D.nc + D.ni) c (namesOf D) := sview_of_row hO
      replace hD := hD.below hb
      replace hB := hB.trans (hb.mono hB.size)
      clear hb
      clear hCC hO y0 y1 y2 yl vN vC vI
      go_wp2_with fail
      refine hK.out _ _ hD (fun hHeld => ?_)
      clear hK KK
      try simp only [Act.put, List.setIfInBounds_toArray, List.set_cons_zero, List.set_cons_succ]
      refine' wpAnyH_take (i := 9) (v := _) rfl (by kernel_rfl) (by kernel_rfl) (by kernel_rfl) (fun _ _ _ h => h) (Or.inl ⟨by kernel_rfl, ?ht7⟩) (by assumption) ?rt7
      case ht7 => intro W hW; obtain ⟨-, c0, c1, c2, c3⟩ := hW; go_simp; all_goals with_reducible rfl
      change wpAnyH _ _ _ _ _ _ _ (Act.put _ (some 3) _) _
      simp only [Act.put, List.setIfInBounds_toArray, List.set_cons_zero, List.set_cons_succ]
      refine wpAnyH_done (by kernel_rfl) ?_ _
      exact key _ _ _ _ _ _ _ _ _ _ _ _ hD hB vZ
end Go.Proofs.YtfjlmkphnciglatGreatDoor

/-
  errors.As at a table's error: none of nothing; the error itself, where there is one.
-/
namespace Go.Proofs.YtfjlmkphnciglatGreatDoor
open Go.RowKit Go.Extern.Stop Go.Stop Go.Extern

/-- The handle of a type. -/
abbrev hdl (T : Nat) : Value := .pointer (some ⟨3, T, none⟩)

theorem as_nil (t : Value) (w : World) :
    Calls Tryz.prog 22 #[.nilIface, t] w fun e w' => e = .returned (.bool false) ∧ w' = w := by
  go_enter Tryz.func22, Tryz.ntmps22
  go_wp2
  go_ret
  exact ⟨rfl, rfl⟩

theorem as_valueOfP (t : Addr) (w : World) : (ReflectliteValue.unpack (.iface 55 (.pointer (some t)))).run Tryz.prog w
    = .ok (.agg #[hdl 55, .pointer (some ⟨w.heap.size, 0, none⟩), .int .u64 150]) (w.alloc (.cells #[.pointer (some t)] 55)) := by kernel_rfl
theorem as_typeP (a : Addr) (w : World) : (ReflectliteValue.methodAny (ReflectliteValue.valueError "reflectlite.Value.Type" 0) (fun t _ _ _ => ReflectliteType.toType t) #[.agg #[hdl 55, .pointer (some a), .int .u64 150]]).run Tryz.prog w
    = .ok (.iface 114 (.agg #[hdl 55])) w := by kernel_rfl
theorem as_mKind (h : Value) (w : World) : (Go.method 305 114 (.agg #[h]) "Kind").run Tryz.prog w = .ok (129, h) w := by kernel_rfl
theorem as_kindP (w : World) : ((ReflectliteType.abiMethod fun t => (fun a : Nat => Value.int IntKind.u8 (a : Int)) <$> Rtype.kind t) #[hdl 55]).run Tryz.prog w = .ok (.int .u8 22) w := by kernel_rfl
theorem as_kindE (w : World) : ((ReflectliteType.abiMethod fun t => (fun a : Nat => Value.int IntKind.u8 (a : Int)) <$> Rtype.kind t) #[hdl 50]).run Tryz.prog w = .ok (.int .u8 25) w := by kernel_rfl

theorem as_rlm (z : Sem Value) (f : TypeId → Addr → Nat → Nat → Sem Value) (v : Value) :
    ReflectliteValue.method z f #[v] = (do match ← ReflectliteValue.parts v with | none => z | some (t, a, fl) => f t a fl (fl % 32)) := rfl
theorem as_partsP (a : Addr) (w : World) : (ReflectliteValue.parts (.agg #[hdl 55, .pointer (some a), .int .u64 150])).run Tryz.prog w = .ok (some (55, a, 150)) w := by kernel_rfl
theorem as_isNil (a p : Addr) (W : World) (ha : W.cell? a = some (.pointer (some p))) :
    (ReflectliteValue.method (ReflectliteValue.valueError "reflectlite.Value.IsNil" 0) ReflectliteValue.isNil #[.agg #[hdl 55, .pointer (some a), .int .u64 150]]).run Tryz.prog W = .ok (.bool false) W := by
  rw [as_rlm]
  simp only [Sem.run_bind, as_partsP, Result.andThen]
  simp [ReflectliteValue.isNil, loadVar, isAgg, underlying, Tryz.underlying55, ha, Result.andThen]
theorem as_mElem (h : Value) (w : World) : (Go.method 305 114 (.agg #[h]) "Elem").run Tryz.prog w = .ok (140, .agg #[h]) w := by kernel_rfl
theorem as_mImplements (h : Value) (w : World) : (Go.method 305 114 (.agg #[h]) "Implements").run Tryz.prog w = .ok (141, .agg #[h]) w := by kernel_rfl
theorem as_mAssignableTo (h : Value) (w : World) : (Go.method 305 114 (.agg #[h]) "AssignableTo").run Tryz.prog w = .ok (138, .agg #[h]) w := by kernel_rfl
theorem as_elemP (w : World) : (ReflectliteType.method ReflectliteType.elem #[.agg #[hdl 55]]).run Tryz.prog w = .ok (.iface 114 (.agg #[hdl 50])) w := by kernel_rfl
theorem as_implementsE (w : World) : (ReflectliteType.relation "Implements" ReflectliteType.implements_ #[.agg #[hdl 50], .iface 114 (.agg #[hdl 53])]).run Tryz.prog w = .ok (.bool true) w := by kernel_rfl
theorem as_typeOfE (v : Value) (w : World) : (ReflectliteType.typeOf #[.iface 50 v]).run Tryz.prog w = .ok (.iface 114 (.agg #[hdl 50])) w := by kernel_rfl
theorem as_assignableE (w : World) : (ReflectliteType.relation "AssignableTo" ReflectliteType.assignableTo #[.agg #[hdl 50], .iface 114 (.agg #[hdl 50])]).run Tryz.prog w = .ok (.bool true) w := by kernel_rfl
theorem as_valueOfE (c : Int) (s : ByteArray) (w : World) : (ReflectliteValue.unpack (.iface 50 (.agg #[.int .i64 c, .string s]))).run Tryz.prog w
    = .ok (.agg #[hdl 50, .pointer (some ⟨w.heap.size, 0, none⟩), .int .u64 153]) (w.alloc (.cells #[.int .i64 c, .string s] 50)) := by kernel_rfl
theorem as_elemOfP (w : World) : (Rtype.elem? 55).run Tryz.prog w = .ok (some 50) w := by kernel_rfl
theorem as_mkE (p : Addr) (w : World) : (ReflectliteValue.mk 50 p ReflectliteValue.flagAddr).run Tryz.prog w = .ok (.agg #[hdl 50, .pointer (some p), .int .u64 409]) w := by kernel_rfl
theorem as_elemV (a p : Addr) (W : World) (ha : W.cell? a = some (.pointer (some p))) :
    (ReflectliteValue.method (ReflectliteValue.valueError "reflectlite.Value.Elem" 0) ReflectliteValue.elem #[.agg #[hdl 55, .pointer (some a), .int .u64 150]]).run Tryz.prog W
      = .ok (.agg #[hdl 50, .pointer (some p), .int .u64 409]) W := by
  rw [as_rlm]
  simp only [Sem.run_bind, as_partsP, Result.andThen]
  simp [ReflectliteValue.elem, loadVar, isAgg, underlying, Tryz.underlying55, ha, Result.andThen, as_elemOfP, as_mkE]
end Go.Proofs.YtfjlmkphnciglatGreatDoor

/-
  errors.As at a table's error: the error is put into the variable.
-/
namespace Go.Proofs.YtfjlmkphnciglatGreatDoor
open Go.RowKit Go.Extern.Stop Go.Stop Go.Extern

theorem as_rls (v x : Value) : ReflectliteValue.set #[v, x] = (do
    let (some (dst, a, fl), some (src, b, _)) := (← ReflectliteValue.parts v, ← ReflectliteValue.parts x)
      | unsupported (.noEntry "extern/(internal/reflectlite.Value).Set.zeroValue")
    if fl / ReflectliteValue.flagAddr % 2 == 0 then unsupported (.noEntry "extern/(internal/reflectlite.Value).Set.unaddressable")
    let val ← loadVar src b
    if ← Rtype.directlyAssignable dst src then storeVar dst a val
    else if ← Rtype.implements dst src then
      if (← Rtype.kind src) == 20 then
        match val with
        | .nilIface => unsupported (.noEntry "extern/reflectlite: a nil value of one interface type handed on as a value of another")
        | _ => storeVar dst a val
      else storeVar dst a (.iface src val)
    else panicString ("reflectlite.Set: value of type " ++ (← Rtype.spelt src) ++ " is not assignable to type " ++ (← Rtype.spelt dst))
    pure (.tuple #[])) := rfl
theorem as_partsEa (a : Addr) (w : World) : (ReflectliteValue.parts (.agg #[hdl 50, .pointer (some a), .int .u64 409])).run Tryz.prog w = .ok (some (50, a, 409)) w := by kernel_rfl
theorem as_partsE (a : Addr) (w : World) : (ReflectliteValue.parts (.agg #[hdl 50, .pointer (some a), .int .u64 153])).run Tryz.prog w = .ok (some (50, a, 153)) w := by kernel_rfl
theorem as_direct (w : World) : (Rtype.directlyAssignable 50 50).run Tryz.prog w = .ok true w := by kernel_rfl
theorem as_isAgg (w : World) : (isAgg 50).run Tryz.prog w = .ok true w := by kernel_rfl
theorem as_size (w : World) : (sizeOf 50).run Tryz.prog w = .ok 2 w := by kernel_rfl
theorem as_load (b : Nat) (c : Int) (s : ByteArray) (W : World) (h0 : W.cell? ⟨b, 0, none⟩ = some (.int .i64 c)) (h1 : W.cell? ⟨b, 1, none⟩ = some (.string s)) :
    (loadVar 50 ⟨b, 0, none⟩).run Tryz.prog W = .ok (.agg #[.int .i64 c, .string s]) W := by
  simp [loadVar, loadCells, loadCellsFrom, Addr.add, h0, h1, Result.andThen]
theorem as_store (B : Nat) (c : Int) (s : ByteArray) (x0 x1 : Value) (W : World) (h0 : W.cell? ⟨B, 0, none⟩ = some x0) (h1 : W.cell? ⟨B, 1, none⟩ = some x1) (f0 : W.frozen? ⟨B, 0, none⟩ = false) (f1 : W.frozen? ⟨B, 1, none⟩ = false) :
    (storeVar 50 ⟨B, 0, none⟩ (.agg #[.int .i64 c, .string s])).run Tryz.prog W = .ok () ((W.setCell ⟨B, 0, none⟩ (.int .i64 c)).setCell ⟨B, 1, none⟩ (.string s)) := by
  have h1' : (W.setCell ⟨B, 0, none⟩ (.int .i64 c)).cell? ⟨B, 1, none⟩ = some x1 := by rw [World.cell?_setCell_other W _ _ _ (by intro e; cases e)]; exact h1
  have f1' : (W.setCell ⟨B, 0, none⟩ (.int .i64 c)).frozen? ⟨B, 1, none⟩ = false := by rw [World.frozen?_setCell]; exact f1
  simp only [storeVar, Sem.run_bind, as_size, Result.andThen, Value.cells]
  simp [storeCells, Addr.add, Result.andThen]
  rw [run_store Tryz.prog W ⟨B, 0, none⟩ _ _ (by rfl)]
  simp [h0, f0]
  rw [run_store Tryz.prog _ ⟨B, 1, none⟩ _ _ (by rfl)]
  simp [h1', f1']
theorem as_set (B b : Nat) (c : Int) (s : ByteArray) (x0 x1 : Value) (W : World) (g0 : W.cell? ⟨b, 0, none⟩ = some (.int .i64 c)) (g1 : W.cell? ⟨b, 1, none⟩ = some (.string s)) (h0 : W.cell? ⟨B, 0, none⟩ = some x0) (h1 : W.cell? ⟨B, 1, none⟩ = some x1) (f0 : W.frozen? ⟨B, 0, none⟩ = false) (f1 : W.frozen? ⟨B, 1, none⟩ = false) :
    (ReflectliteValue.set #[.agg #[hdl 50, .pointer (some ⟨B, 0, none⟩), .int .u64 409], .agg #[hdl 50, .pointer (some ⟨b, 0, none⟩), .int .u64 153]]).run Tryz.prog W
      = .ok (.tuple #[]) ((W.setCell ⟨B, 0, none⟩ (.int .i64 c)).setCell ⟨B, 1, none⟩ (.string s)) := by
  rw [as_rls]
  simp only [Sem.run_bind, as_partsEa, as_partsE, Result.andThen]
  simp [ReflectliteValue.flagAddr, as_load b c s W g0 g1, Result.andThen, as_direct, as_store B c s x0 x1 W h0 h1 f0 f1]

set_option maxHeartbeats 4000000 in
theorem as_hit (B : Nat) (c : Int) (s : ByteArray) (x0 x1 : Value) (w : World) (hg : w.cell? ⟨0, 0, none⟩ = some (.iface 114 (.agg #[hdl 53]))) (hB : B < w.heap.size) (h0 : w.cell? ⟨B, 0, none⟩ = some x0) (h1 : w.cell? ⟨B, 1, none⟩ = some x1) (f0 : w.frozen? ⟨B, 0, none⟩ = false) (f1 : w.frozen? ⟨B, 1, none⟩ = false) :
    Calls Tryz.prog 22 #[.iface 50 (.agg #[.int .i64 c, .string s]), .iface 55 (.pointer (some ⟨B, 0, none⟩))] w fun ev w' => ev = .returned (.bool true) ∧ w'.cell? ⟨B, 0, none⟩ = some (.int .i64 c) ∧ Below B w w' := by
  have e54 := @run_callFunc_extern Tryz.prog 43 _ (fun args => ReflectliteValue.unpack (args.getD 0 (.tuple #[]))) Tryz.func43 (by kernel_rfl) (by kernel_rfl) (by kernel_rfl) (by kernel_rfl)
  have e55 := @run_callFunc_extern Tryz.prog 44 _ (ReflectliteValue.methodAny (ReflectliteValue.valueError "reflectlite.Value.Type" 0) (fun t _ _ _ => ReflectliteType.toType t)) Tryz.func44 (by kernel_rfl) (by kernel_rfl) (by kernel_rfl) (by kernel_rfl)
  have e56 := @run_callFunc_extern Tryz.prog 45 _ (ReflectliteValue.method (ReflectliteValue.valueError "reflectlite.Value.IsNil" 0) ReflectliteValue.isNil) Tryz.func45 (by kernel_rfl) (by kernel_rfl) (by kernel_rfl) (by kernel_rfl)
  have e151 := @run_callFunc_extern Tryz.prog 129 _ (ReflectliteType.abiMethod fun t => do pure (.int .u8 (← Rtype.kind t))) Tryz.func129 (by kernel_rfl) (by kernel_rfl) (by kernel_rfl) (by kernel_rfl)
  have e162 := @run_callFunc_extern Tryz.prog 140 _ (ReflectliteType.method ReflectliteType.elem) Tryz.func140 (by kernel_rfl) (by kernel_rfl) (by kernel_rfl) (by kernel_rfl)
  have e163 := @run_callFunc_extern Tryz.prog 141 _ (ReflectliteType.relation "Implements" ReflectliteType.implements_) Tryz.func141 (by kernel_rfl) (by kernel_rfl) (by kernel_rfl) (by kernel_rfl)
  have e84 := @run_callFunc_extern Tryz.prog 64 _ ReflectliteType.typeOf Tryz.func64 (by kernel_rfl) (by kernel_rfl) (by kernel_rfl) (by kernel_rfl)
  have e160 := @run_callFunc_extern Tryz.prog 138 _ (ReflectliteType.relation "AssignableTo" ReflectliteType.assignableTo) Tryz.func138 (by kernel_rfl) (by kernel_rfl) (by kernel_rfl) (by kernel_rfl)
  have e85 := @run_callFunc_extern Tryz.prog 65 _ (ReflectliteValue.method (ReflectliteValue.valueError "reflectlite.Value.Elem" 0) ReflectliteValue.elem) Tryz.func65 (by kernel_rfl) (by kernel_rfl) (by kernel_rfl) (by kernel_rfl)
  have e86 := @run_callFunc_extern Tryz.prog 66 _ ReflectliteValue.set Tryz.func66 (by kernel_rfl) (by kernel_rfl) (by kernel_rfl) (by kernel_rfl)
  have tO := as_typeOfE
  have mA := as_mAssignableTo
  have aE := as_assignableE
  have vE := as_valueOfE
  have vP := as_valueOfP
  have tP := as_typeP
  have mK := as_mKind
  have mE := as_mElem
  have mI := as_mImplements
  have kP := as_kindP
  have kE := as_kindE
  have eP := as_elemP
  have iE := as_implementsE
  have n8 := as_isNil ⟨w.heap.size, 0, none⟩ ⟨B, 0, none⟩ ((w.alloc (.cells #[.pointer (some ⟨B, 0, none⟩)] 55)).alloc (.cells #[hdl 55, .pointer (some ⟨w.heap.size, 0, none⟩), .int .u64 150] 89)) (by simp)
  have hg2 : ((w.alloc (.cells #[.pointer (some ⟨B, 0, none⟩)] 55)).alloc (.cells #[hdl 55, .pointer (some ⟨w.heap.size, 0, none⟩), .int .u64 150] 89)).cell? ⟨0, 0, none⟩ = some (.iface 114 (.agg #[hdl 53])) := by
    rw [World.cell?_alloc_lt _ _ ⟨0, 0, none⟩ (Nat.lt_of_lt_of_le (World.block_lt_of_cell? _ _ hg) (by simp)), World.cell?_alloc_lt _ _ ⟨0, 0, none⟩ (World.block_lt_of_cell? _ _ hg)]; exact hg
  have el := as_elemV ⟨w.heap.size, 0, none⟩ ⟨B, 0, none⟩ (((w.alloc (.cells #[.pointer (some ⟨B, 0, none⟩)] 55)).alloc (.cells #[hdl 55, .pointer (some ⟨w.heap.size, 0, none⟩), .int .u64 150] 89)).alloc (.cells #[hdl 55, .pointer (some ⟨w.heap.size, 0, none⟩), .int .u64 150] 89)) (by rw [World.cell?_alloc_lt _ _ ⟨w.heap.size, 0, none⟩ (by simp; omega)]; simp)
  have hbl : Below w.heap.size w ((((w.alloc (.cells #[.pointer (some ⟨B, 0, none⟩)] 55)).alloc (.cells #[hdl 55, .pointer (some ⟨w.heap.size, 0, none⟩), .int .u64 150] 89)).alloc (.cells #[hdl 55, .pointer (some ⟨w.heap.size, 0, none⟩), .int .u64 150] 89)).alloc (.cells #[.int .i64 c, .string s] 50)) := ((((Below.refl _ _).alloc (Nat.le_refl _) _).alloc (by simp) _).alloc (by simp; omega) _).alloc (by simp; omega) _
  have st := as_set B (w.heap.size + 1 + 1 + 1) c s x0 x1 ((((w.alloc (.cells #[.pointer (some ⟨B, 0, none⟩)] 55)).alloc (.cells #[hdl 55, .pointer (some ⟨w.heap.size, 0, none⟩), .int .u64 150] 89)).alloc (.cells #[hdl 55, .pointer (some ⟨w.heap.size, 0, none⟩), .int .u64 150] 89)).alloc (.cells #[.int .i64 c, .string s] 50))
    (by rw [World.cell?_alloc_at _ _ _ _ (by simp)]; rfl) (by rw [World.cell?_alloc_at _ _ _ _ (by simp)]; rfl)
    (by rw [hbl.cell hB]; exact h0) (by rw [hbl.cell hB]; exact h1) (by rw [hbl.frozen (p := ⟨B, 0, none⟩) hB]; exact f0) (by rw [hbl.frozen (p := ⟨B, 1, none⟩) hB]; exact f1)
  have HR : Hid (((((((w.alloc (.cells #[.pointer (some ⟨B, 0, none⟩)] 55)).alloc (.cells #[hdl 55, .pointer (some ⟨w.heap.size, 0, none⟩), .int .u64 150] 89)).alloc (.cells #[hdl 55, .pointer (some ⟨w.heap.size, 0, none⟩), .int .u64 150] 89)).alloc (.cells #[.int .i64 c, .string s] 50)).setCell ⟨B, 0, none⟩ (.int .i64 c)).setCell ⟨B, 1, none⟩ (.string s)).cell? ⟨B, 0, none⟩ = some (.int .i64 c) ∧ Below B w ((((((w.alloc (.cells #[.pointer (some ⟨B, 0, none⟩)] 55)).alloc (.cells #[hdl 55, .pointer (some ⟨w.heap.size, 0, none⟩), .int .u64 150] 89)).alloc (.cells #[hdl 55, .pointer (some ⟨w.heap.size, 0, none⟩), .int .u64 150] 89)).alloc (.cells #[.int .i64 c, .string s] 50)).setCell ⟨B, 0, none⟩ (.int .i64 c)).setCell ⟨B, 1, none⟩ (.string s))) := by
    refine ⟨?_, ((hbl.mono (Nat.le_of_lt hB)).setCell (Nat.le_refl _) _).setCell (Nat.le_refl _) _⟩
    rw [World.cell?_setCell_other _ _ _ _ (by intro e; cases e), World.cell?_setCell_same _ _ _ (u := x0) (by rw [hbl.cell hB]; exact h0)]
  clear hbl hg h0 h1 f0 f1
  go_enter Tryz.func22, Tryz.ntmps22
  go_wp2
  refine wp_loop_rounds 1 ?_
  rw [rounds_succ]
  go_wp2
  go_ret
  exact ⟨rfl, HR.out⟩
end Go.Proofs.YtfjlmkphnciglatGreatDoor

/-
  The program's CheckDef comes to the plain one.
-/
namespace Go.Proofs.YtfjlmkphnciglatGreatDoor
open Go.RowKit
set_option maxRecDepth 4000

/-- The library's own error type, as its variable holds it. -/
def ErrT (w : World) : Prop := w.cell? ⟨0, 0, none⟩ = some (.iface 114 (.agg #[hdl 53]))
theorem ErrT.lt {w : World} (h : ErrT w) : 0 < w.heap.size := World.block_lt_of_cell? _ _ h
theorem ErrT.below {w w' : World} (h : ErrT w) (hb : Below w.heap.size w w') : ErrT w' := (hb.cell (p := ⟨0, 0, none⟩) h.lt).trans h

set_option maxHeartbeats 4000000 in
theorem implCheck_any (v : Value) (D : PDef) (w : World) (h : DView w v D) (hf : DFine D) (hg : ErrT w) :
    Calls Tryz.prog 8 #[v] w fun e w' => e = .returned (.int .i64 (checkF D)) ∧ Below w.heap.size w w' := by
  have hv := h
  obtain ⟨ac, cc, ap, cp, ai, ci, rfl, -, -, -⟩ := h.is
  clear h
  have hb0 : Below w.heap.size w ((w.alloc (.cells #[.string D.name, .slice ac D.nc cc, .slice ap D.np cp, .slice ai D.ni ci] 33)).alloc (.cells #[.int .i64 0, .string ⟨#[]⟩] 50)) := ((Below.refl _ _).alloc (Nat.le_refl _) _).alloc (by simp) _
  have hW := wrongDef_any _ D _ (hv.below hb0) hf
  have c0 : ((w.alloc (.cells #[.string D.name, .slice ac D.nc cc, .slice ap D.np cp, .slice ai D.ni ci] 33)).alloc (.cells #[.int .i64 0, .string ⟨#[]⟩] 50)).cell? ⟨w.heap.size + 1, 0, none⟩ = some (.int .i64 0) := by simp
  have c1 : ((w.alloc (.cells #[.string D.name, .slice ac D.nc cc, .slice ap D.np cp, .slice ai D.ni ci] 33)).alloc (.cells #[.int .i64 0, .string ⟨#[]⟩] 50)).cell? ⟨w.heap.size + 1, 1, none⟩ = some (.string ⟨#[]⟩) := by simp [go_sem]
  have f0 : ((w.alloc (.cells #[.string D.name, .slice ac D.nc cc, .slice ap D.np cp, .slice ai D.ni ci] 33)).alloc (.cells #[.int .i64 0, .string ⟨#[]⟩] 50)).frozen? ⟨w.heap.size + 1, 0, none⟩ = false := by simp
  have f1 : ((w.alloc (.cells #[.string D.name, .slice ac D.nc cc, .slice ap D.np cp, .slice ai D.ni ci] 33)).alloc (.cells #[.int .i64 0, .string ⟨#[]⟩] 50)).frozen? ⟨w.heap.size + 1, 1, none⟩ = false := by simp [go_sem]
  have hsz : ((w.alloc (.cells #[.string D.name, .slice ac D.nc cc, .slice ap D.np cp, .slice ai D.ni ci] 33)).alloc (.cells #[.int .i64 0, .string ⟨#[]⟩] 50)).heap.size = w.heap.size + 1 + 1 := by simp
  have HG : Hid (ErrT w) := hg
  clear hv hf hg
  go_enter Tryz.func8, Tryz.ntmps8
  go_wp2_with fail
  refine hW.mono ?_
  rintro e w1 ⟨r, rfl, hr, hb1⟩
  rw [hsz] at hb1
  have hB1 : Below w.heap.size w w1 := hb0.trans (hb1.mono (by omega))
  have hg1 := HG.out.below hB1
  have hs1 := hb1.size
  rw [← hb1.cell (p := ⟨w.heap.size + 1, 0, none⟩) (by show w.heap.size + 1 < _; omega)] at c0
  rw [← hb1.cell (p := ⟨w.heap.size + 1, 1, none⟩) (by show w.heap.size + 1 < _; omega)] at c1
  rw [← hb1.frozen (p := ⟨w.heap.size + 1, 0, none⟩) (by show w.heap.size + 1 < _; omega)] at f0
  rw [← hb1.frozen (p := ⟨w.heap.size + 1, 1, none⟩) (by show w.heap.size + 1 < _; omega)] at f1
  rcases hr with ⟨hz, rfl⟩ | ⟨hz, s, rfl⟩
  · have hA := fun t => as_nil t w1
    have HZ : Hid (checkF D = 0) := hz
    have HB : Hid (Below w.heap.size w w1) := hB1
    clear hW hb0 hb1 hB1 hg1 hz hsz c0 c1 f0 f1
    go_wp2_with fail
    refine (hA _).mono ?_
    rintro e w2 ⟨rfl, rfl⟩
    clear hA
    go_wp2
    go_ret
    exact ⟨by rw [HZ.out]; rfl, HB.out⟩
  · have hA := as_hit (w.heap.size + 1) (checkF D) s _ _ w1 hg1 (by omega) c0 c1 f0 f1
    have HB : Hid (Below w.heap.size w w1) := hB1
    obtain ⟨z, hzz⟩ : ∃ z, Hid (checkF D = z) := ⟨_, rfl⟩
    rw [hzz.out] at hA ⊢
    clear hW hb0 hb1 hB1 hg1 hz hsz c0 c1 f0 f1
    go_wp2_with fail
    refine hA.mono ?_
    rintro e w2 ⟨rfl, c2, hb2⟩
    have HB2 : Hid (Below w.heap.size w w2) := HB.out.trans (hb2.mono (by omega))
    clear hA hb2 HB
    go_wp2
    go_ret
    exact ⟨by rw [hzz.out]; rfl, HB2.out⟩
end Go.Proofs.YtfjlmkphnciglatGreatDoor

/-
  The program's DefText comes to the plain one.
-/
namespace Go.Proofs.YtfjlmkphnciglatGreatDoor
open Go.RowKit
set_option maxRecDepth 4000

theorem cells_app (a b : ByteArray) : Lib.byteCells (a ++ b).data.toList = Lib.byteCells a.data.toList ++ Lib.strCells b := by
  rw [ByteArray.data_append, Array.toList_append, Lib.byteCells_append, Lib.strCells_eq]
theorem cells_len (a : ByteArray) : (Lib.byteCells a.data.toList).length = a.size := by rw [Lib.byteCells_length]; rfl
/-- A builder that holds a text. -/
def Bld (b : Nat) (s : ByteArray) (w : World) : Prop := Lib.IsBuilder 66 5 b b (Lib.byteCells s.data.toList) w
theorem Bld.below {b : Nat} {s : ByteArray} {w w' : World} (h : Bld b s w) (hb : Below w.heap.size w w') : Bld b s w' := builder_below h hb
theorem Bld.lt {b : Nat} {s : ByteArray} {w : World} (h : Bld b s w) : b < w.heap.size := by
  rcases h with h | h
  · exact h.lt
  · exact h.lt
theorem Bld.write {b : Nat} {s : ByteArray} {w : World} (h : Bld b s w) (u : ByteArray) (hl : s.size + u.size ≤ 140737488355328) :
    Calls Tryz.prog 29 #[.pointer (some ⟨b, 0, none⟩), .string u] w fun e w' => e = .returned (.tuple #[.int .i64 u.size, .nilIface]) ∧ Bld b (s ++ u) w' ∧ Below b w w' := by
  refine (writeString_any b b _ u w h (by rw [cells_len]; exact hl) (Nat.le_of_lt h.lt)).mono ?_
  rintro e w' ⟨rfl, h1, h2⟩
  exact ⟨rfl, by unfold Bld; rw [cells_app]; exact h1, h2⟩

set_option maxHeartbeats 8000000 in
theorem implText_any (v : Value) (D : PDef) (w : World) (h : DView w v D) (hf : DFine D) (hg : ErrT w) (hty : TyN w) :
    Calls Tryz.prog 11 #[v] w fun e w' => e = .returned (.string (defText D)) ∧ Below w.heap.size w w' := by
  have hv := h
  obtain ⟨ac, cc, ap, cp, ai, ci, rfl, hcv, hpv, hiv⟩ := h.is
  clear h
  have hB0 : Below w.heap.size w (w.alloc (.cells #[.string D.name, .slice ac D.nc cc, .slice ap D.np cp, .slice ai D.ni ci] 33)) := (Below.refl _ _).alloc (Nat.le_refl _) _
  have hD0 := D4.new w 33 (.string D.name) (.slice ac D.nc cc) (.slice ap D.np cp) (.slice ai D.ni ci)
  have hC := implCheck_any _ D _ (hv.below hB0) hf (hg.below hB0)
  by_cases hgood : checkF D = 0
  · have HD : Hid (defText D = idxT D D.ni ++ (⟨#[125]⟩ : ByteArray)) := by show _ = _; unfold defText; rw [if_pos hgood]; rfl
    rw [hgood] at hC
    obtain ⟨-, g2, -, g4, g5, -⟩ := checkF_good hgood
    unfold typesF at g2
    have G2 := of_decide_eq_true g2
    unfold allPartsF at g5
    have G5 := of_decide_eq_true g5
    have hnc6 : D.nc ≤ 6 := G2.2.2
    have hnp2 := partsF_two G5.2
    have HT : Hid (∀ i, i < D.nc → 1 ≤ (D.col i).type ∧ (D.col i).type ≤ 4) := G2.1
    have HIN : Hid (∀ i, i < D.np → 0 ≤ (D.pri i).col ∧ (D.pri i).col < D.nc) := fun i hi => partsF_in G5.2 hi
    have HIX : Hid (∀ k, k < D.ni → (1 ≤ (D.idx k).n ∧ (D.idx k).n ≤ 2) ∧ ∀ i, i < (D.idx k).n → 0 ≤ ((D.idx k).part i).col ∧ ((D.idx k).part i).col < D.nc) := fun k hk => ⟨partsF_two (G5.1 k hk), fun i hi => partsF_in (G5.1 k hk) hi⟩
    have HCZ : Hid (∀ i, i < D.nc → (D.col i).name.size ≤ 1048576) := hf.col
    have HXZ : Hid (∀ i, i < D.ni → (D.idx i).name.size ≤ 1048576) := fun i hi => (hf.idx i hi).1
    have hnz := hf.name
    have HS1 : Hid (∀ k, k ≤ D.nc → (colsT D.name D.col k).size ≤ 7340116) := fun k hk => by
      have h1 := colsT_size hf.name hf.col k hk
      have h2 : (k + 1) * (1048576 + 12) ≤ 7 * (1048576 + 12) := Nat.mul_le_mul_right _ (by omega)
      omega
    have HP1 : Hid ((partsE D.col D.np D.pri).size ≤ 2097168) := partsE_size (B := 1048576) (fun i hi => hf.col _ (by have := HIN.out i hi; omega)) hnp2.2
    have HP2 : Hid (∀ k, k < D.ni → (partsE D.col (D.idx k).n (D.idx k).part).size ≤ 2097168) := fun k hk => partsE_size (B := 1048576) (fun i hi => hf.col _ (by have := (HIX.out k hk).2 i hi; omega)) (HIX.out k hk).1.2
    have HS2 : Hid (∀ k, k ≤ D.ni → (idxT D k).size ≤ 15728848) := fun k hk => by
      have h1 := idxT_size (B := 1048576) hf.name hf.col hnc6 HP1.out (fun i hi => ⟨HXZ.out i hi, HP2.out i hi⟩) k hk
      have h2 : k * (3 * 1048576 + 24) ≤ 2 * (3 * 1048576 + 24) := Nat.mul_le_mul_right _ (by omega)
      omega
    have HCV : Hid (CView w ac D.nc cc D.col) := hcv
    have HPV : Hid (BView w ap D.np cp D.pri) := hpv
    have HIV : Hid (IView w ai D.ni ci D.idx) := hiv
    have HTY : Hid (TyN w) := hty
    have hnc := hf.nc
    have hni := hf.ni
    clear hf g2 G2 g5 G5 hcv hpv hiv hty hg hv hgood
    go_enter Tryz.func11, Tryz.ntmps11
    go_wp2_with fail
    refine hC.mono ?_
    rintro e w1 ⟨rfl, hb1⟩
    have hD1 := hD0.below hb1
    have hB1 : Below w.heap.size w w1 := hB0.trans (hb1.mono hB0.size)
    have hBL : Bld w1.heap.size ⟨#[]⟩ (w1.alloc (.cells #[.pointer none, .slice none 0 0] 66)) := Lib.fresh_isBuilder _ _ w1
    have hbA : Below w1.heap.size w1 (w1.alloc (.cells #[.pointer none, .slice none 0 0] 66)) := (Below.refl _ _).alloc (Nat.le_refl _) _
    have HT0 : Hid (colsT D.name D.col 0 = (⟨#[]⟩ : ByteArray) ++ ((⟨#[116, 97, 98, 108, 101, 32]⟩ : ByteArray) ++ D.name ++ (⟨#[32, 123, 32]⟩ : ByteArray))) := by
      show _ = _
      apply ByteArray.ext
      apply Array.ext'
      simp [colsT]
    have hW := hBL.write ((⟨#[116, 97, 98, 108, 101, 32]⟩ : ByteArray) ++ D.name ++ (⟨#[32, 123, 32]⟩ : ByteArray)) (by
      have a1 : (⟨#[116, 97, 98, 108, 101, 32]⟩ : ByteArray).size = 6 := rfl
      have a2 : (⟨#[32, 123, 32]⟩ : ByteArray).size = 3 := rfl
      have a3 : (⟨#[]⟩ : ByteArray).size = 0 := rfl
      rw [ByteArray.size_append, ByteArray.size_append]; omega)
    rw [← HT0.out] at hW
    have hDA := hD1.below hbA
    have a1 : (⟨#[116, 97, 98, 108, 101, 32]⟩ : ByteArray).size = 6 := rfl
    have a2 : (⟨#[32, 123, 32]⟩ : ByteArray).size = 3 := rfl
    have a3 : ((⟨#[116, 97, 98, 108, 101, 32]⟩ : ByteArray) ++ D.name).size = 6 + D.name.size := by rw [ByteArray.size_append]; rfl
    have a4 : ¬ (6 + D.name.size > 9223372036854775807) := by omega
    have a5 : ¬ (6 + D.name.size + 3 > 9223372036854775807) := by omega
    have HD1 : Hid (D4 w.heap.size (.string D.name) (.slice ac D.nc cc) (.slice ap D.np cp) (.slice ai D.ni ci) w1) := hD1
    have HB1 : Hid (Below w.heap.size w w1) := hB1
    have HBA : Hid (Below w1.heap.size w1 (w1.alloc (.cells #[.pointer none, .slice none 0 0] 66))) := hbA
    obtain ⟨lt1, y0, y1, y2, y3⟩ := hD1
    obtain ⟨lt0, x0, x1, x2, x3⟩ := hDA
    clear hC hb1 hB0 hD0 hB1 hBL hbA
    go_wp2_with fail
    refine hW.mono ?_
    rintro e w2 ⟨rfl, hL2, hb2⟩
    have hB2 : Below w1.heap.size w1 w2 := HBA.out.trans hb2
    have hdb : w.heap.size < w1.heap.size := lt1
    have HD4 : Hid (∀ W, Below w1.heap.size w1 W → D4 w.heap.size (.string D.name) (.slice ac D.nc cc) (.slice ap D.np cp) (.slice ai D.ni ci) W) := fun W h => HD1.out.below h
    have HUP : Hid (∀ W, Below w1.heap.size w1 W → Below w.heap.size w W) := fun W h => HB1.out.trans (h.mono (Nat.le_of_lt hdb))
    clear hW hb2 HBA x0 x1 x2 x3 lt0 y0 y1 y2 y3 lt1 HD1 HB1
    obtain ⟨b, hb⟩ : ∃ b, Hid (w1.heap.size = b) := ⟨_, rfl⟩
    rw [hb.out] at hL2 hB2 hdb HD4 HUP ⊢
    obtain ⟨lt2, x0, x1, x2, x3⟩ := HD4.out _ hB2
    go_wp2
    clear a1 a2 a3 a4 a5 x0 x1 x2 x3 lt2
    go_loopg [19] D.nc (fun q i wr => ∃ k : Nat, k ≤ D.nc ∧ q = D.nc - k ∧ i = .int .i64 k ∧ Bld b (colsT D.name D.col k) wr ∧ Below b w1 wr)
    case atStart => exact ⟨0, Nat.zero_le _, rfl, rfl, hL2, hB2⟩
    case round =>
      clear hL2 hB2
      obtain ⟨k, hk, rfl, rfl, hL, hB⟩ := hrel
      have hBw := HUP.out _ hB
      by_cases hlt : k < D.nc
      · have hkz : (k : Int) < (D.nc : Int) := by omega
        obtain ⟨b1, o1, eb, hb1, hcc⟩ := (HCV.out.below hBw).cells (by omega)
        obtain ⟨z0, z1, z2⟩ := hcc k hlt
        obtain ⟨t1, t4⟩ := HT.out k hlt
        have hCT := fun W (hb : Below wr.heap.size wr W) => colText_any (D.col k).name (D.col k).type (D.col k).null W t1 t4 (HCZ.out k hlt) ((HTY.out.below hBw).below hb)
        have HN : Hid (colsT D.name D.col (k + 1) = colsT D.name D.col k ++ colT (D.col k).name (D.col k).type (D.col k).null) := colsT_colT _ _ _
        have hjz := HS1.out (k + 1) (by omega)
        have HSZ : Hid ((colsT D.name D.col k).size + (colT (D.col k).name (D.col k).type (D.col k).null).size ≤ 7340116) := by
          have := HN.out
          rw [this, ByteArray.size_append] at hjz
          exact hjz
        obtain ⟨J, hJ⟩ : ∃ J, Hid (colsT D.name D.col k = J) := ⟨_, rfl⟩
        obtain ⟨T, hT⟩ : ∃ T, Hid (colT (D.col k).name (D.col k).type (D.col k).null = T) := ⟨_, rfl⟩
        obtain ⟨s0, hs0⟩ : ∃ p, Hid ((D.col k).name = p) := ⟨_, rfl⟩
        obtain ⟨s1, hs1⟩ : ∃ t, Hid ((D.col k).type = t) := ⟨_, rfl⟩
        obtain ⟨s2, hs2⟩ : ∃ b, Hid ((D.col k).null = b) := ⟨_, rfl⟩
        rw [hJ.out, hT.out] at HSZ HN
        rw [hJ.out] at hL
        simp only [hT.out] at hCT
        simp only [hs0.out, hs1.out, hs2.out] at hCT
        rw [hs0.out] at z0
        rw [hs1.out] at z1
        rw [hs2.out] at z2
        have hbc : Below wr.heap.size wr (wr.alloc (.cells #[.string s0, .int .i64 s1, .bool s2] 43)) := (Below.refl _ _).alloc (Nat.le_refl _) _
        have hC1 := hCT _ hbc
        have hL1 := hL.below hbc
        have hsb : b ≤ wr.heap.size := Nat.le_of_lt hL.lt
        have hBc := hB.trans (hbc.mono hsb)
        subst eb
        clear hcc hB hBw hCT hL hbc hjz t1 t4
        go_wp2_with fail
        refine hC1.mono ?_
        rintro e w3 ⟨rfl, hb3⟩
        have hL3 := hL1.below hb3
        have hB3 := hBc.trans (hb3.mono (by have := hBc.size; first | (simp at this ⊢; omega) | omega))
        have hW := hL3.write T (by have := HSZ.out; omega)
        rw [← HN.out] at hW
        clear hC1 hb3 hL3 hL1 hBc z0 z1 z2
        go_wp2_with fail
        refine hW.mono ?_
        rintro e w4 ⟨rfl, hL4, hb4⟩
        have HR : Hid (Bld b (colsT D.name D.col (k + 1)) w4 ∧ Below b w1 w4) := ⟨hL4, hB3.trans hb4⟩
        clear hW hL4 hb4 hB3
        go_wp2
        go_roundg (D.nc - (k + 1))
        case measure => omega
        case rel => exact ⟨k + 1, by omega, rfl, by go_num, HR.out.1, HR.out.2⟩
      · have hkz : ¬ (k : Int) < (D.nc : Int) := by omega
        obtain rfl : k = D.nc := by omega
        have hPT := partsText_any ac D.nc cc D.col ap D.np cp D.pri wr (HCV.out.below hBw) (HPV.out.below hBw) hnp2.1 hnp2.2 hnc HIN.out HCZ.out
        have hpz := HP1.out
        have hjz := HS1.out D.nc (Nat.le_refl _)
        have HI0 : Hid (idxT D 0 = colsT D.name D.col D.nc ++ ((⟨#[112, 114, 105, 109, 97, 114, 121, 32]⟩ : ByteArray) ++ partsE D.col D.np D.pri)) := by show _ = _; rw [idxT]
        obtain ⟨J, hJ⟩ : ∃ J, Hid (colsT D.name D.col D.nc = J) := ⟨_, rfl⟩
        obtain ⟨q, hq⟩ : ∃ q, Hid (partsE D.col D.np D.pri = q) := ⟨_, rfl⟩
        rw [hJ.out, hq.out] at HI0
        rw [hJ.out] at hL hjz
        rw [hq.out] at hPT hpz
        have hsb : b ≤ wr.heap.size := Nat.le_of_lt hL.lt
        have e1 : (⟨#[112, 114, 105, 109, 97, 114, 121, 32]⟩ : ByteArray).size = 8 := rfl
        have s1 : ¬ (8 + q.size > 9223372036854775807) := by omega
        obtain ⟨lt2, x0, x1, x2, x3⟩ := HD4.out _ hB
        clear hBw HT HS1
        go_wp2_with fail
        refine hPT.mono ?_
        rintro e w3 ⟨rfl, hb3⟩
        have hL3 := hL.below hb3
        have hB3 := hB.trans (hb3.mono hsb)
        have hW := hL3.write ((⟨#[112, 114, 105, 109, 97, 114, 121, 32]⟩ : ByteArray) ++ q) (by rw [ByteArray.size_append]; omega)
        rw [← HI0.out] at hW
        clear hPT hb3 hL3 hL hB x0 x1 x2 x3 lt2
        go_wp2_with fail
        refine hW.mono ?_
        rintro e w4 ⟨rfl, hL4, hb4⟩
        have hB4 := hB3.trans hb4
        obtain ⟨lt2, x0, x1, x2, x3⟩ := HD4.out _ hB4
        clear hW hb4 hB3 e1 s1
        go_wp2
        clear x0 x1 x2 x3 lt2
        go_loopg [37] D.ni (fun q i wr => ∃ k : Nat, k ≤ D.ni ∧ q = D.ni - k ∧ i = .int .i64 k ∧ Bld b (idxT D k) wr ∧ Below b w1 wr)
        case atStart => exact ⟨0, Nat.zero_le _, rfl, rfl, hL4, hB4⟩
        case round =>
          clear hL4 hB4
          obtain ⟨k, hk, rfl, rfl, hL, hB⟩ := hrel
          have hBw := HUP.out _ hB
          have hsb : b ≤ wr.heap.size := Nat.le_of_lt hL.lt
          by_cases hlt : k < D.ni
          · have hkz : (k : Int) < (D.ni : Int) := by omega
            obtain ⟨b1, o1, eb, hb1, hcc⟩ := (HIV.out.below hBw).cells (by omega)
            obtain ⟨z0, z1, a3, c3, z2, hv3⟩ := hcc k hlt
            have hIT := fun W (hb : Below wr.heap.size wr W) => indexText_any ac D.nc cc D.col (D.idx k) a3 c3 W ((HCV.out.below hBw).below hb) (hv3.below hb) (HIX.out k hlt).1.1 (HIX.out k hlt).1.2 hnc (HIX.out k hlt).2 HCZ.out (HXZ.out k hlt)
            have HN : Hid (idxT D (k + 1) = idxT D k ++ idxE D.col (D.idx k)) := idxT_idxE D k
            have hjz := HS2.out (k + 1) (by omega)
            have HSZ : Hid ((idxT D k).size + (idxE D.col (D.idx k)).size ≤ 15728848) := by
              have := HN.out
              rw [this, ByteArray.size_append] at hjz
              exact hjz
            obtain ⟨J, hJ⟩ : ∃ J, Hid (idxT D k = J) := ⟨_, rfl⟩
            obtain ⟨T, hT⟩ : ∃ T, Hid (idxE D.col (D.idx k) = T) := ⟨_, rfl⟩
            obtain ⟨s0, hs0⟩ : ∃ p, Hid ((D.idx k).name = p) := ⟨_, rfl⟩
            obtain ⟨s1, hs1⟩ : ∃ t, Hid ((D.idx k).uniq = t) := ⟨_, rfl⟩
            obtain ⟨s2, hs2⟩ : ∃ b, Hid ((D.idx k).n = b) := ⟨_, rfl⟩
            rw [hJ.out, hT.out] at HSZ HN
            rw [hJ.out] at hL
            simp only [hT.out] at hIT
            simp only [hs0.out, hs1.out, hs2.out] at hIT
            rw [hs0.out] at z0
            rw [hs1.out] at z1
            rw [hs2.out] at z2
            have hbc : Below wr.heap.size wr (wr.alloc (.cells #[.string s0, .bool s1, .slice a3 s2 c3] 62)) := (Below.refl _ _).alloc (Nat.le_refl _) _
            have hC1 := hIT _ hbc
            have hL1 := hL.below hbc
            have hBc := hB.trans (hbc.mono hsb)
            obtain ⟨lt2, x0, x1, x2, x3⟩ := HD4.out _ hB
            have hA2 : w.heap.size < wr.heap.size := lt2
            subst eb
            clear hcc hB hBw hIT hL hbc hjz hv3
            go_wp2_with fail
            refine hC1.mono ?_
            rintro e w3 ⟨rfl, hb3⟩
            have hL3 := hL1.below hb3
            have hB3 := hBc.trans (hb3.mono (by have := hBc.size; first | (simp at this ⊢; omega) | omega))
            have hW := hL3.write T (by have := HSZ.out; omega)
            rw [← HN.out] at hW
            clear hC1 hb3 hL3 hL1 hBc z0 z1 z2 x0 x1 x2 x3 lt2 hA2
            go_wp2_with fail
            refine hW.mono ?_
            rintro e w4 ⟨rfl, hL4, hb4⟩
            have HR : Hid (Bld b (idxT D (k + 1)) w4 ∧ Below b w1 w4) := ⟨hL4, hB3.trans hb4⟩
            clear hW hL4 hb4 hB3
            go_wp2
            go_roundg (D.ni - (k + 1))
            case measure => omega
            case rel => exact ⟨k + 1, by omega, rfl, by go_num, HR.out.1, HR.out.2⟩
          · have hkz : ¬ (k : Int) < (D.ni : Int) := by omega
            obtain rfl : k = D.ni := by omega
            have hjz := HS2.out D.ni (Nat.le_refl _)
            have hW := hL.write (⟨#[125]⟩ : ByteArray) (by have e1 : (⟨#[125]⟩ : ByteArray).size = 1 := rfl; omega)
            rw [← HD.out] at hW
            obtain ⟨z, hz⟩ : ∃ z, Hid (defText D = z) := ⟨_, rfl⟩
            rw [hz.out] at hW
            clear hL hBw
            go_wp2_with fail
            refine hW.mono ?_
            rintro e w3 ⟨rfl, hL3, hb3⟩
            have hB3 := hB.trans hb3
            have hS := Tryz.Builder_String_any b b _ w3 hL3 (Nat.le_of_lt hL3.lt)
            clear hW hb3 hB
            go_wp2_with fail
            refine hS.mono ?_
            rintro e w4 ⟨rfl, hb4⟩
            have HR : Hid (Below w.heap.size w w4) := HUP.out _ (hB3.trans hb4)
            clear hS hb4 hB3 hL3
            go_wp2
            go_ret
            exact ⟨by rw [hz.out]; rfl, HR.out⟩
  · have HD : Hid (defText D = ⟨#[]⟩) := by show _ = _; unfold defText; rw [if_neg hgood]
    have hne : (checkF D != 0) = true := by simpa using hgood
    obtain ⟨z, hz⟩ : ∃ z, Hid (checkF D = z) := ⟨_, rfl⟩
    rw [hz.out] at hC hne
    clear hf hcv hpv hiv hty hg hv hgood
    go_enter Tryz.func11, Tryz.ntmps11
    go_wp2_with fail
    refine hC.mono ?_
    rintro e w1 ⟨rfl, hb1⟩
    have HB : Hid (Below w.heap.size w w1) := hB0.trans (hb1.mono hB0.size)
    clear hC hb1
    go_wp2
    go_ret
    exact ⟨by rw [HD.out]; rfl, HB.out⟩
end Go.Proofs.YtfjlmkphnciglatGreatDoor

/-
  What the frame of a row hands over of a table that came in.
-/
namespace Go.Proofs.YtfjlmkphnciglatGreatDoor
open Go.RowKit
set_option maxRecDepth 4000
open Go.Deep Go.ChangeShapes

/-- A slice that came in, whose elements are each read. -/
theorem sliceIn {H : Type} {enc : TypeId × Value → H} {W : World} {sp : Nat → Bool} {α : Type} [Inhabited α] {T e : TypeId} {c fuel : Nat} {cs : List Value} {x : DataW H × List MemPlace}
    (ht : Tryz.prog.underlying T = some (.slice e)) (hc : Tryz.prog.cellsOf e = c) (hc0 : 0 < c) (Q : Addr → α → Prop)
    (each : ∀ (fuel : Nat) (cs : List Value) (x : DataW H × List MemPlace) (a : Addr), cs.length = c → (∀ j, j < c → W.cell? (a.add j) = cs[j]?) → DataW.trod enc Tryz.prog W 0 sp true fuel e cs = some x → ∃ y, Q a y)
    (h : DataW.trod enc Tryz.prog W 0 sp true fuel T cs = some x) :
    ∃ (ao : Option Addr) (n cap : Nat) (f : Nat → α), cs = [.slice ao n cap] ∧ n ≤ cap ∧ cap ≤ maxLen ∧ (0 < n → ∃ b off, ao = some ⟨b, off, none⟩ ∧ b < W.heap.size ∧ ∀ i, i < n → Q ⟨b, off + i * c, none⟩ (f i)) := by
  rcases DataW.trod_slice ht h with ⟨hcs, _⟩ | ⟨a, l, cap, elems, rest, n, _, hcs, _, _, hl, hm, hlen, hel, _, _⟩
  · exact ⟨none, 0, 0, fun _ => default, hcs, Nat.le_refl _, Nat.zero_le _, fun h => absurd h (Nat.lt_irrefl _)⟩
  · have key : ∀ i, i < l → ∃ y, Q (a.add (i * c)) y ∧ W.cell? (a.add (i * c)) ≠ none := by
      intro i hi
      have h1 := hel i hi
      rw [hc] at h1
      have h2 : elems[i]? = some elems[i] := List.getElem?_eq_getElem (by omega)
      rw [h2] at h1
      obtain ⟨cs, hcs, htr⟩ := Option.bind_eq_some_iff.1 h1
      obtain ⟨_, hl3, hcell⟩ := World.cells?_some hcs
      obtain ⟨y, hy⟩ := each n cs _ _ hl3 (fun j hj => hcell j hj) htr
      refine ⟨y, hy, ?_⟩
      have := hcell 0 (by omega)
      intro hn
      rw [show (a.add (i * c)).add 0 = a.add (i * c) by unfold Addr.add; split <;> simp_all, hn, List.getElem?_eq_getElem (by omega)] at this
      cases this
    have pick : ∃ f : Nat → α, ∀ i, i < l → Q (a.add (i * c)) (f i) := ⟨fun i => if h : i < l then (key i h).choose else default, fun i hi => by simp only [dif_pos hi]; exact (key i hi).choose_spec.1⟩
    obtain ⟨f, hf⟩ := pick
    refine ⟨some a, l, cap, f, hcs, hl, hm, fun hn => ?_⟩
    obtain ⟨b, off, spot⟩ := a
    obtain ⟨y0, -, h0⟩ := key 0 hn
    obtain ⟨u, hu⟩ := Option.ne_none_iff_exists'.1 h0
    have hs : spot = none := by simpa [Addr.add] using World.cell?_spot hu
    subst hs
    have ea : ∀ j, (⟨b, off, none⟩ : Addr).add j = ⟨b, off + j, none⟩ := fun j => by unfold Addr.add; split <;> simp_all
    rw [ea] at hu
    refine ⟨b, off, rfl, World.block_lt_of_cell? _ _ hu, fun i hi => ?_⟩
    have := hf i hi
    rw [ea] at this
    exact this

instance : Inhabited PBy := ⟨⟨0, false⟩⟩
instance : Inhabited PCol := ⟨⟨⟨#[]⟩, 0, false⟩⟩
instance : Inhabited PIdx := ⟨⟨⟨#[]⟩, false, 0, fun _ => default⟩⟩

theorem addr_add (b off j : Nat) : (⟨b, off, none⟩ : Addr).add j = ⟨b, off + j, none⟩ := by unfold Addr.add; split <;> simp_all

theorem bysIn {H : Type} {enc : TypeId × Value → H} {W : World} {sp : Nat → Bool} {fuel : Nat} {cs : List Value} {x : DataW H × List MemPlace}
    (h : DataW.trod enc Tryz.prog W 0 sp true fuel 23 cs = some x) : ∃ a n cap f, cs = [.slice a n cap] ∧ BView W a n cap f ∧ n ≤ maxLen := by
  have c2 : Tryz.prog.cellsOf 84 = 2 := by kernel_rfl
  obtain ⟨a, n, cap, f, e, hl, hm, hv⟩ := sliceIn (α := PBy) Tryz.underlying23 c2 (by decide) (fun a y => W.cell? (a.add 0) = some (.int .i64 y.col) ∧ W.cell? (a.add 1) = some (.bool y.desc)) (by
    intro fuel cs x a hl hcell htr
    obtain ⟨y0, y1, m, _, _, t0, t1⟩ := trod_struct2 Tryz.underlying84 htr
    have o1 : Tryz.prog.cellsOf 3 = 1 := by kernel_rfl
    have o2 : Tryz.prog.cellsOf 4 = 1 := by kernel_rfl
    simp only [o1, o2] at t0 t1
    match cs, hl with
    | [c0, c1], _ =>
      simp only [List.drop_zero, List.drop_succ_cons, List.take_succ_cons, List.take_zero] at t0 t1
      obtain ⟨k, e0, _, _⟩ := DataW.trod_int Tryz.underlying3 t0
      obtain ⟨s, e1, _⟩ := DataW.trod_bool Tryz.underlying4 t1
      simp only [List.cons.injEq, and_true] at e0 e1
      subst e0 e1
      exact ⟨⟨k, s⟩, hcell 0 (by decide), hcell 1 (by decide)⟩) h
  refine ⟨a, n, cap, f, e, ⟨hl, fun hn => ?_⟩, Nat.le_trans hl hm⟩
  obtain ⟨b, off, ea, hlt, hc⟩ := hv hn
  refine ⟨b, off, ea, hlt, fun i hi => ?_⟩
  have := hc i hi
  simpa only [addr_add, Nat.add_zero] using this

theorem colsIn {H : Type} {enc : TypeId × Value → H} {W : World} {sp : Nat → Bool} {fuel : Nat} {cs : List Value} {x : DataW H × List MemPlace}
    (h : DataW.trod enc Tryz.prog W 0 sp true fuel 22 cs = some x) : ∃ a n cap f, cs = [.slice a n cap] ∧ CView W a n cap f ∧ n ≤ maxLen ∧ ∀ i, i < n → (f i).name.size ≤ maxLen := by
  have c2 : Tryz.prog.cellsOf 74 = 3 := by kernel_rfl
  obtain ⟨a, n, cap, f, e, hl, hm, hv⟩ := sliceIn (α := PCol) Tryz.underlying22 c2 (by decide) (fun a y => (W.cell? (a.add 0) = some (.string y.name) ∧ W.cell? (a.add 1) = some (.int .i64 y.type) ∧ W.cell? (a.add 2) = some (.bool y.null)) ∧ y.name.size ≤ maxLen) (by
    intro fuel cs x a hl hcell htr
    obtain ⟨y0, y1, y2, m, _, _, t0, t1, t2⟩ := trod_struct3 Tryz.underlying74 htr
    have o0 : Tryz.prog.cellsOf 9 = 1 := by kernel_rfl
    have o1 : Tryz.prog.cellsOf 3 = 1 := by kernel_rfl
    have o2 : Tryz.prog.cellsOf 4 = 1 := by kernel_rfl
    simp only [o0, o1, o2] at t0 t1 t2
    match cs, hl with
    | [c0, c1, c2], _ =>
      simp only [List.drop_zero, List.drop_succ_cons, List.take_succ_cons, List.take_zero] at t0 t1 t2
      obtain ⟨s, e0, _, hs⟩ := DataW.trod_string Tryz.underlying9 t0
      obtain ⟨k, e1, _, _⟩ := DataW.trod_int Tryz.underlying3 t1
      obtain ⟨z, e2, _⟩ := DataW.trod_bool Tryz.underlying4 t2
      simp only [List.cons.injEq, and_true] at e0 e1 e2
      subst e0 e1 e2
      exact ⟨⟨s, k, z⟩, ⟨hcell 0 (by decide), hcell 1 (by decide), hcell 2 (by decide)⟩, hs⟩) h
  refine ⟨a, n, cap, f, e, ⟨hl, fun hn => ?_⟩, Nat.le_trans hl hm, fun i hi => ?_⟩
  · obtain ⟨b, off, ea, hlt, hc⟩ := hv hn
    refine ⟨b, off, ea, hlt, fun i hi => ?_⟩
    have := (hc i hi).1
    simpa only [addr_add, Nat.add_zero] using this
  · obtain ⟨b, off, ea, hlt, hc⟩ := hv (by omega)
    exact (hc i hi).2

theorem idxsIn {H : Type} {enc : TypeId × Value → H} {W : World} {sp : Nat → Bool} {fuel : Nat} {cs : List Value} {x : DataW H × List MemPlace}
    (h : DataW.trod enc Tryz.prog W 0 sp true fuel 24 cs = some x) : ∃ a n cap f, cs = [.slice a n cap] ∧ IView W a n cap f ∧ n ≤ maxLen ∧ ∀ i, i < n → (f i).name.size ≤ maxLen ∧ (f i).n ≤ maxLen := by
  have c2 : Tryz.prog.cellsOf 77 = 3 := by kernel_rfl
  obtain ⟨a, n, cap, f, e, hl, hm, hv⟩ := sliceIn (α := PIdx) Tryz.underlying24 c2 (by decide) (fun a y => (W.cell? (a.add 0) = some (.string y.name) ∧ W.cell? (a.add 1) = some (.bool y.uniq) ∧ ∃ p c, W.cell? (a.add 2) = some (.slice p y.n c) ∧ BView W p y.n c y.part) ∧ y.name.size ≤ maxLen ∧ y.n ≤ maxLen) (by
    intro fuel cs x a hl hcell htr
    obtain ⟨y0, y1, y2, m, _, _, t0, t1, t2⟩ := trod_struct3 Tryz.underlying77 htr
    have o0 : Tryz.prog.cellsOf 9 = 1 := by kernel_rfl
    have o1 : Tryz.prog.cellsOf 4 = 1 := by kernel_rfl
    have o2 : Tryz.prog.cellsOf 23 = 1 := by kernel_rfl
    simp only [o0, o1, o2] at t0 t1 t2
    match cs, hl with
    | [c0, c1, c2], _ =>
      simp only [List.drop_zero, List.drop_succ_cons, List.take_succ_cons, List.take_zero] at t0 t1 t2
      obtain ⟨s, e0, _, hs⟩ := DataW.trod_string Tryz.underlying9 t0
      obtain ⟨z, e1, _⟩ := DataW.trod_bool Tryz.underlying4 t1
      obtain ⟨p, k, cp, g, e2, hV, hk⟩ := bysIn t2
      simp only [List.cons.injEq, and_true] at e0 e1 e2
      subst e0 e1 e2
      exact ⟨⟨s, z, k, g⟩, ⟨hcell 0 (by decide), hcell 1 (by decide), p, cp, hcell 2 (by decide), hV⟩, hs, hk⟩) h
  refine ⟨a, n, cap, f, e, ⟨hl, fun hn => ?_⟩, Nat.le_trans hl hm, fun i hi => ?_⟩
  · obtain ⟨b, off, ea, hlt, hc⟩ := hv hn
    refine ⟨b, off, ea, hlt, fun i hi => ?_⟩
    have := (hc i hi).1
    simpa only [addr_add, Nat.add_zero] using this
  · obtain ⟨b, off, ea, hlt, hc⟩ := hv (by omega)
    exact (hc i hi).2

/-- The four cells of a table that came in. -/
theorem defIn {H : Type} {enc : TypeId × Value → H} {W : World} {sp : Nat → Bool} {n0 n1 n2 n3 : Nat} {c0 c1 c2 c3 : Value} {y0 y1 y2 y3 : DataW H × List MemPlace}
    (h0 : DataW.trod enc Tryz.prog W 0 sp true n0 9 [c0] = some y0) (h1 : DataW.trod enc Tryz.prog W 0 sp true n1 22 [c1] = some y1)
    (h2 : DataW.trod enc Tryz.prog W 0 sp true n2 23 [c2] = some y2) (h3 : DataW.trod enc Tryz.prog W 0 sp true n3 24 [c3] = some y3) :
    ∃ D : PDef, DView W (.agg #[c0, c1, c2, c3]) D ∧ DLim D := by
  obtain ⟨s, e0, _, hs⟩ := DataW.trod_string Tryz.underlying9 h0
  obtain ⟨ac, nc, cc, fc, e1, v1, m1, z1⟩ := colsIn h1
  obtain ⟨ap, np, cp, fp, e2, v2, m2⟩ := bysIn h2
  obtain ⟨ai, ni, ci, fi, e3, v3, m3, z3⟩ := idxsIn h3
  simp only [List.cons.injEq, and_true] at e0 e1 e2 e3
  subst e0 e1 e2 e3
  exact ⟨⟨s, nc, fc, np, fp, ni, fi⟩, ⟨ac, cc, ap, cp, ai, ci, rfl, v1, v2, v3⟩, ⟨hs, m1, z1, m2, m3, z3⟩⟩
end Go.Proofs.YtfjlmkphnciglatGreatDoor

/-
  What the laid variables hold: the library's error type, the program's words of the types.
-/
namespace Go.Proofs.YtfjlmkphnciglatGreatDoor
open Go.RowKit
set_option maxRecDepth 4000

theorem et_named : Tryz.prog.globalNamed "errors.errorType" = some 0 := by kernel_rfl
theorem et_rtype : (Tryz.prog.cutTypes.find? (·.1 == "internal/reflectlite.rtype")).map (·.2) = some 114 := by kernel_rfl
theorem et_one : ((List.range 205).filter fun t => Tryz.prog.rowNamed t [101, 114, 114, 111, 114]) = [53] := by kernel_rfl
theorem et_size : Tryz.prog.types.size = 205 := by kernel_rfl
theorem errT_of {W : World} (h : handlesMet Tryz.prog [("errors.errorType", Rows.laid_errors_errorType)] W) : ErrT W := by
  obtain ⟨name, u, ty, e1, e2, e3, e4, e5⟩ := h _ (List.mem_singleton.2 rfl)
  have en : name = [101, 114, 114, 111, 114] := (Option.some.inj e1).symm
  subst en
  obtain rfl := Option.some.inj (et_rtype.symm.trans e2)
  have hm : ty ∈ (List.range 205).filter fun t => Tryz.prog.rowNamed t [101, 114, 114, 111, 114] := List.mem_filter.2 ⟨List.mem_range.2 (by rw [← et_size]; exact e3), e4⟩
  rw [et_one] at hm
  obtain rfl := List.mem_singleton.1 hm
  have hh : typeHandle Tryz.prog 53 = hdl 53 := by kernel_rfl
  rw [hh] at e5
  have := World.var?_cell et_named e5 0
  unfold ErrT
  simpa using this

/-- An array of texts that reads as a list holds these texts, cell for cell. -/
theorem cells_of_strs {H : Type} {enc : TypeId × Value → H} {P : Program} {w : World} {base : Nat} {sp : Nat → Bool} {held : Bool} {fuel : Nat} {t e : TypeId} {n : Nat} {cs : List Value} {zs : List (List UInt8)} {p : List MemPlace}
    (ht : P.underlying t = some (.array n e)) (he : P.underlying e = some .string) (hce : P.cellsOf e = 1) (hct : P.cellsOf t = n)
    (h : DataW.trod enc P w base sp held fuel t cs = some (.agg (zs.map fun z => .lit (.string z)), p)) : cs = zs.map fun z => Value.string ⟨z.toArray⟩ := by
  cases fuel with
  | zero => simp [DataW.trod] at h
  | succ fuel =>
    simp only [DataW.trod, ht, hce, hct, Nat.mul_one] at h
    split at h
    · rename_i hl
      obtain ⟨xs, hm, hx⟩ := Option.map_eq_some_iff.1 h
      have hxs : xs.map (·.1) = zs.map fun z => (DataW.lit (.string z) : DataW H) := by
        have := congrArg Prod.fst hx
        simpa using this
      have hxl : xs.length = n := by simpa using Lib.mapM_length hm
      have hzl : zs.length = n := by
        have := congrArg List.length hxs
        simp at this
        omega
      apply List.ext_getElem?
      intro i
      by_cases hi : i < n
      · obtain ⟨b, hb, hf⟩ := Lib.mapM_at hm i i (by simp [hi])
        obtain ⟨s, hc, rfl, _⟩ := DataW.trod_string he hf
        have h1 : cs[i]? = some (.string s) := by
          have := congrArg (·[0]?) hc
          simpa [List.getElem?_take, List.getElem?_drop] using this
        have h2 : (xs.map (·.1))[i]? = some (DataW.lit (.string s.data.toList) : DataW H) := by simp [hb]
        rw [hxs] at h2
        simp only [List.getElem?_map, Option.map_eq_some_iff, DataW.lit.injEq, Lit.string.injEq] at h2
        obtain ⟨z', hz', rfl⟩ := h2
        simp [h1, hz']
      · rw [List.getElem?_eq_none (by omega), List.getElem?_eq_none (by simp; omega)]
    · cases h

def tyL : List (List UInt8) := [[], [105, 110, 116], [110, 117, 109], [116, 101, 120, 116], [98, 111, 111, 108]]
theorem ty_named : Tryz.prog.globalNamed "loop.example/g00322/impl.typeNames" = some 1 := by kernel_rfl
theorem tyN_of {W : World} (h : laidMet Tryz.prog [("loop.example/g00322/impl.typeNames", Rows.laid_loop_example_g00322_impl_typeNames)] W) : TyN W := by
  obtain ⟨ps, ⟨g', t', cs, fuel, p, q, hg', ht', hvar, hd, _, _⟩, _⟩ := h
  obtain rfl := Option.some.inj (ty_named.symm.trans hg')
  have hty : (Tryz.prog.globals[1]?).map (·.type) = some 109 := by kernel_rfl
  obtain rfl := Option.some.inj (hty.symm.trans ht')
  have hc := cells_of_strs (zs := tyL) Tryz.underlying109 Tryz.underlying9 (by kernel_rfl) (by kernel_rfl) hd
  intro i hi
  have h1 := World.var?_cell ty_named hvar i
  rw [h1, ← Array.getElem?_toList, hc]
  match i, hi with
  | 0, _ => rfl
  | 1, _ => rfl
  | 2, _ => rfl
  | 3, _ => rfl
  | 4, _ => rfl
end Go.Proofs.YtfjlmkphnciglatGreatDoor

