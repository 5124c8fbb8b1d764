/-
  Together: WrongImpl, AsImpl, AsHit
-/
import Derived.Test.YtkakkjnbhklfpaaGreatDoorPackR28
import Derived.Test.YtkakkjnbhklfpaaGreatDoorPackR29
import Derived.Deep.RegionHeld3
import Derived.Test.YtkakkjnbhklfpaaGreatDoorPackR1
import Derived.Test.YtkakkjnbhklfpaaGreatDoorProg
import Derived.LaidEql
import Derived.Stop.Asserts
import Derived.RowKitTokens
/-
  The program's wrongDef: what is wrong with a table, the first that holds.
-/
namespace Go.Proofs.YtkakkjnbhklfpaaGreatDoor
open Go.RowKit
set_option maxRecDepth 4000

/-- A table in a variable. -/
structure D4 (B : Nat) (x0 x1 x2 x3 : Value) (W : World) : Prop where
  lt : B < W.heap.size
  c0 : W.cell? ⟨B, 0, none⟩ = some x0
  c1 : W.cell? ⟨B, 1, none⟩ = some x1
  c2 : W.cell? ⟨B, 2, none⟩ = some x2
  c3 : W.cell? ⟨B, 3, none⟩ = some x3
theorem D4.below {B : Nat} {x0 x1 x2 x3 : Value} {W W' : World} (h : D4 B x0 x1 x2 x3 W) (hb : Below W.heap.size W W') : D4 B x0 x1 x2 x3 W' :=
  ⟨Nat.lt_of_lt_of_le h.lt hb.size, by rw [hb.cell (p := ⟨B, 0, none⟩) h.lt]; exact h.c0, by rw [hb.cell (p := ⟨B, 1, none⟩) h.lt]; exact h.c1, by rw [hb.cell (p := ⟨B, 2, none⟩) h.lt]; exact h.c2, by rw [hb.cell (p := ⟨B, 3, none⟩) h.lt]; exact h.c3⟩
theorem D4.new (w : World) (T : TypeId) (x0 x1 x2 x3 : Value) : D4 w.heap.size x0 x1 x2 x3 (w.alloc (.cells #[x0, x1, x2, x3] T)) := ⟨by simp, by simp, by simp [go_sem], by simp [go_sem], by simp [go_sem]⟩

/-- What the program tells of a table: nothing, or an error with its code. -/
def WrongTo (D : PDef) (r : Value) : Prop := (checkF D = 0 ∧ r = .nilIface) ∨ (checkF D ≠ 0 ∧ ∃ s, r = .iface 101 (.agg #[.int .i64 (checkF D), .string s]))

theorem WrongTo.bad {D : PDef} {n : Int} (h : checkF D = n) (h0 : n ≠ 0) (s : ByteArray) : WrongTo D (.iface 101 (.agg #[.int .i64 n, .string s])) :=
  .inr ⟨by rw [h]; exact h0, s, by rw [h]⟩
theorem sview_one {W : World} {s : ByteArray} : SView (W.alloc (.cells #[.string s] 9)) (some ⟨W.heap.size, 0, none⟩) 1 1 (fun _ => s) := by
  refine ⟨Nat.le_refl _, fun _ => ⟨_, 0, rfl, by simp, fun i hi => ?_⟩⟩
  obtain rfl : i = 0 := by omega
  simp

set_option maxRecDepth 20000 in
set_option maxHeartbeats 8000000 in
theorem wrongDef_any (v : Value) (D : PDef) (w : World) (h : DView w v D) (hf : DFine D) :
    Calls Tryz.prog 61 #[v] w fun e w' => ∃ r, e = .returned r ∧ WrongTo D r ∧ Below w.heap.size w w' := by
  have hnc := hf.nc
  have hni := hf.ni
  have hv := h
  obtain ⟨ac, cc, ap, cp, ai, ci, rfl, -, -, -⟩ := h.is
  clear h
  have HV : Hid (DView w (.agg #[.string D.name, .slice ac D.nc cc, .slice ap D.np cp, .slice ai D.ni ci]) D) := hv
  have HF : Hid (DFine D) := hf
  have HCN : Hid (∀ W, Below w.heap.size w W → Calls Tryz.prog 94 #[.agg #[.string D.name, .slice ac D.nc cc, .slice ap D.np cp, .slice ai D.ni ci]] W fun e w' => ∃ g c, e = .returned (.slice (some ⟨g, 0, none⟩) D.nc c) ∧ SView w' (some ⟨g, 0, none⟩) D.nc c (fun i => (D.col i).name) ∧ Below W.heap.size W w') := fun W hb => (colNames_any _ D W (HV.out.below hb) HF.out).mono (fun e w' ⟨g, c, h1, h2, h3⟩ => ⟨g, c, h1, sview_of_row h2, h3⟩)
  have HIN : Hid (∀ W, Below w.heap.size w W → Calls Tryz.prog 95 #[.agg #[.string D.name, .slice ac D.nc cc, .slice ap D.np cp, .slice ai D.ni ci]] W fun e w' => ∃ g c, e = .returned (.slice (some ⟨g, 0, none⟩) D.ni c) ∧ SView w' (some ⟨g, 0, none⟩) D.ni c (fun i => (D.idx i).name) ∧ Below W.heap.size W w') := fun W hb => (indexNames_any _ D W (HV.out.below hb) HF.out).mono (fun e w' ⟨g, c, h1, h2, h3⟩ => ⟨g, c, h1, sview_of_row h2, h3⟩)
  have HC : Hid (checkF D = if namesF D = false then 1 else if typesF D = false then 2 else if onceF D = false then 3 else if 2 < D.ni then 6 else if allPartsF D = false then 5 else if nullF D then 4 else 0) := rfl
  have hD := D4.new w 36 (.string D.name) (.slice ac D.nc cc) (.slice ap D.np cp) (.slice ai D.ni ci)
  have hB : Below w.heap.size w (w.alloc (.cells #[.string D.name, .slice ac D.nc cc, .slice ap D.np cp, .slice ai D.ni ci] 36)) := (Below.refl _ _).alloc (Nat.le_refl _) _
  clear hv hf
  go_enter Tryz.func61, Tryz.ntmps61
  go_wp2_with fail
  rename_i KR hKR
  have key : ∀ (u4 u5 u6 u7 u8 u9 u10 u11 u12 : Value) (g c : Nat) (W : World), D4 w.heap.size (.string D.name) (.slice ac D.nc cc) (.slice ap D.np cp) (.slice ai D.ni ci) W → Below w.heap.size w W → SView W (some ⟨g, 0, none⟩) (1 + D.nc + D.ni) c (namesOf D) →
      KR { tmps := #[.agg #[.string D.name, .slice ac D.nc cc, .slice ap D.np cp, .slice ai D.ni ci], .pointer (some ⟨w.heap.size, 0, none⟩), .nilIface, .slice (some ⟨g, 0, none⟩) (1 + D.nc + D.ni) c, u4, u5, u6, u7, u8, u9, u10, u11, u12, undef, undef, undef, undef, undef, undef, undef, undef, undef, undef, undef, undef, undef, undef, undef, undef, undef, undef, undef, undef, undef, undef, undef, undef, undef, undef, undef, undef, undef, undef, undef, undef, undef, undef, undef, undef, undef, undef, undef, undef, undef, undef, undef, undef, undef, undef, undef, undef, undef, undef, undef, undef], defers := [] } W := by
    intro u4 u5 u6 u7 u8 u9 u10 u11 u12 g c W hD hB hN
    apply hKR
    clear hKR
    have hS := containsStr_any (some ⟨g, 0, none⟩) (1 + D.nc + D.ni) c (namesOf D) W hN (by omega) (namesOf_size HF.out)
    rw [names_iff] at hS
    clear hN
    go_wp2_with fail
    refine hS.mono ?_
    rintro e w1 ⟨rfl, hb1⟩
    have hD1 := hD.below hb1
    have hB1 := hB.trans (hb1.mono hB.size)
    clear hS hb1 hD hB
    cases e1 : namesF D with
    | false =>
      have HX : Hid (checkF D = 1) := by show _ = _; rw [HC.out, e1]; rfl
      have HB : Hid (Below w.heap.size w w1) := hB1
      clear hB1 hD1 HC HCN HIN
      go_wp2
      go_ret
      exact ⟨_, rfl, WrongTo.bad HX.out (by decide) _, HB.out⟩
    | true =>
    have HTI : Hid ((decide (D.nc = 0) || decide (6 < D.nc) || decide (∃ i, i < D.nc ∧ ((D.col i).type < 1 ∨ 4 < (D.col i).type))) = !typesF D) := types_iff D
    have HX2 : Hid (typesF D = false → checkF D = 2) := fun h => by rw [HC.out, e1, h]; rfl
    have hD1' := hD1
    obtain ⟨lt1, x0, x1, x2, x3⟩ := hD1
    by_cases c1 : D.nc = 0
    · have HX : Hid (checkF D = 2) := HX2.out (by have := HTI.out; rw [decide_eq_true c1] at this; simpa using this.symm)
      have q1 : ((D.nc : Int) == 0) = true := by simp; omega
      have HB : Hid (Below w.heap.size w w1) := hB1
      clear hB1 HC HCN HIN HTI HX2 hD1'
      go_wp2
      go_ret
      exact ⟨_, rfl, WrongTo.bad HX.out (by decide) _, HB.out⟩
    have q1 : ((D.nc : Int) == 0) = false := by simp; omega
    by_cases c2 : 6 < D.nc
    · have HX : Hid (checkF D = 2) := HX2.out (by have := HTI.out; rw [decide_eq_true c2] at this; simpa using this.symm)
      have q2 : (D.nc : Int) > 6 := by omega
      have HB : Hid (Below w.heap.size w w1) := hB1
      clear hB1 HC HCN HIN HTI HX2 hD1'
      go_wp2
      go_ret
      exact ⟨_, rfl, WrongTo.bad HX.out (by decide) _, HB.out⟩
    have q2 : ¬ ((D.nc : Int) > 6) := by omega
    obtain ⟨ac0, cc0, ap0, cp0, ai0, ci0, eagg, hcv, hpv, hiv⟩ := (HV.out.below hB1).is
    cases eagg
    have hS := containsCol_any ac D.nc cc D.col w1 hcv (by omega)
    have HTJ : Hid (decide (∃ i, i < D.nc ∧ ((D.col i).type < 1 ∨ 4 < (D.col i).type)) = !typesF D) := by
      show _ = _
      have := HTI.out
      rw [decide_eq_false c1, decide_eq_false c2] at this
      simpa using this
    rw [HTJ.out] at hS
    clear HTI HTJ hcv hpv hiv
    go_wp2_with fail
    refine hS.mono ?_
    rintro e w2 ⟨rfl, hb2⟩
    have hD2 := hD1'.below hb2
    have hB2 := hB1.trans (hb2.mono hB1.size)
    clear hS hb2 hD1' hB1 x0 x1 x2 x3 lt1
    cases e2 : typesF D with
    | false =>
      have HX : Hid (checkF D = 2) := HX2.out e2
      have HB : Hid (Below w.heap.size w w2) := hB2
      clear hB2 hD2 HC HCN HIN HX2
      go_wp2
      go_ret
      exact ⟨_, rfl, WrongTo.bad HX.out (by decide) _, HB.out⟩
    | true =>
    clear HX2
    have HOI : Hid ((decide (¬ (ssOf (fun i => (D.col i).name) D.nc).Nodup) || decide (¬ (ssOf (fun i => (D.idx i).name) D.ni).Nodup)) = !onceF D) := once_iff D
    have HX3 : Hid (onceF D = false → checkF D = 3) := fun h => by rw [HC.out, e1, e2, h]; rfl
    have hD2' := hD2
    obtain ⟨lt2, x0, x1, x2, x3⟩ := hD2
    have hS := HCN.out w2 hB2
    go_wp2_with fail
    refine hS.mono ?_
    rintro e w3 ⟨gc, kc, rfl, vC, hb3⟩
    have hD3 := hD2'.below hb3
    have hB3 := hB2.trans (hb3.mono hB2.size)
    have hT := hasTwice_any (some ⟨gc, 0, none⟩) D.nc kc (fun i => (D.col i).name) w3 vC (by omega)
    obtain ⟨o1, ho1⟩ : ∃ o1, Hid (decide (¬ (ssOf (fun i => (D.col i).name) D.nc).Nodup) = o1) := ⟨_, rfl⟩
    rw [ho1.out] at hT HOI
    clear hS hb3 hD2' hB2 x0 x1 x2 x3 lt2 vC
    go_wp2_with fail
    refine hT.mono ?_
    rintro e w4 ⟨rfl, hb4⟩
    have hD4 := hD3.below hb4
    have hB4 := hB3.trans (hb4.mono hB3.size)
    clear hT hb4 hD3 hB3
    cases o1 with
    | true =>
      have HX : Hid (checkF D = 3) := HX3.out (by have := HOI.out; simpa using this.symm)
      have HB : Hid (Below w.heap.size w w4) := hB4
      clear hB4 hD4 HC HCN HIN HX3 HOI
      go_wp2
      go_ret
      exact ⟨_, rfl, WrongTo.bad HX.out (by decide) _, HB.out⟩
    | false =>
    have hD4' := hD4
    obtain ⟨lt4, x0, x1, x2, x3⟩ := hD4
    have hS := HIN.out w4 hB4
    go_wp2_with fail
    refine hS.mono ?_
    rintro e w5 ⟨gi, ki, rfl, vI, hb5⟩
    have hD5 := hD4'.below hb5
    have hB5 := hB4.trans (hb5.mono hB4.size)
    have hT := hasTwice_any (some ⟨gi, 0, none⟩) D.ni ki (fun i => (D.idx i).name) w5 vI (by omega)
    rw [Bool.false_or] at HOI
    rw [HOI.out] at hT
    clear hS hb5 hD4' hB4 x0 x1 x2 x3 lt4 vI HOI
    go_wp2_with fail
    refine hT.mono ?_
    rintro e w6 ⟨rfl, hb6⟩
    have hD6 := hD5.below hb6
    have hB6 := hB5.trans (hb6.mono hB5.size)
    clear hT hb6 hD5 hB5
    cases e3 : onceF D with
    | false =>
      have HX : Hid (checkF D = 3) := HX3.out e3
      have HB : Hid (Below w.heap.size w w6) := hB6
      clear hB6 hD6 HC HCN HIN HX3
      go_wp2
      go_ret
      exact ⟨_, rfl, WrongTo.bad HX.out (by decide) _, HB.out⟩
    | true =>
    clear HX3
    have hD6' := hD6
    obtain ⟨lt6, x0, x1, x2, x3⟩ := hD6
    by_cases c6 : 2 < D.ni
    · have HX : Hid (checkF D = 6) := by show _ = _; rw [HC.out, e1, e2, e3, if_pos c6]; rfl
      have q6 : (D.ni : Int) > 2 := by omega
      have HB : Hid (Below w.heap.size w w6) := hB6
      clear hB6 hD6' HC HCN HIN
      go_wp2
      go_ret
      exact ⟨_, rfl, WrongTo.bad HX.out (by decide) _, HB.out⟩
    have q6 : ¬ ((D.ni : Int) > 2) := by omega
    have hS := allPartsOk_any _ D w6 (HV.out.below hB6) HF.out
    go_wp2_with fail
    refine hS.mono ?_
    rintro e w7 ⟨rfl, hb7⟩
    have hD7 := hD6'.below hb7
    have hB7 := hB6.trans (hb7.mono hB6.size)
    clear hS hb7 hD6' hB6 x0 x1 x2 x3 lt6
    cases e5 : allPartsF D with
    | false =>
      have HX : Hid (checkF D = 5) := by show _ = _; rw [HC.out, e1, e2, e3, if_neg c6, e5]; rfl
      have HB : Hid (Below w.heap.size w w7) := hB7
      clear hB7 hD7 HC HCN HIN
      go_wp2
      go_ret
      exact ⟨_, rfl, WrongTo.bad HX.out (by decide) _, HB.out⟩
    | true =>
    have hD7' := hD7
    obtain ⟨lt7, x0, x1, x2, x3⟩ := hD7
    have hpf : partsF D.nc D.np D.pri = true := by
      unfold allPartsF at e5
      exact (of_decide_eq_true e5).2
    have hS := mayLackKey_any _ D w7 (HV.out.below hB7) HF.out hpf
    have HX4 : Hid (checkF D = if nullF D then 4 else 0) := by show _ = _; rw [HC.out, e1, e2, e3, if_neg c6, e5]; rfl
    clear hpf
    go_wp2_with fail
    refine hS.mono ?_
    rintro e w8 ⟨rfl, hb8⟩
    have HB : Hid (Below w.heap.size w w8) := hB7.trans (hb8.mono hB7.size)
    clear hS hb8 hD7' hB7 x0 x1 x2 x3 lt7 HC HCN HIN e1 e2 e3 e5
    cases e6 : nullF D with
    | false =>
      have HX : Hid (checkF D = 0) := by show _ = _; rw [HX4.out, e6]; rfl
      clear HX4 e6
      go_wp2
      go_ret
      exact ⟨_, rfl, .inl ⟨HX.out, rfl⟩, HB.out⟩
    | true =>
      have HX : Hid (checkF D = 4) := by show _ = _; rw [HX4.out, e6]; rfl
      clear HX4 e6
      go_wp2
      go_ret
      exact ⟨_, rfl, WrongTo.bad HX.out (by decide) _, HB.out⟩
  clear HC
  obtain ⟨w0, hw0⟩ : ∃ w0, Hid (w0 = w.alloc (.cells #[.string D.name, .slice ac D.nc cc, .slice ap D.np cp, .slice ai D.ni ci] 36)) := ⟨_, rfl⟩
  rw [← hw0.out] at hD hB ⊢
  have hb : Below w0.heap.size w0 w0.drew := (Below.refl _ _).drew
  replace hD := hD.below hb
  replace hB := hB.trans (hb.mono hB.size)
  clear hb
  refine wp_region_held_drew (S := (D4 w.heap.size (.string D.name) (.slice ac D.nc cc) (.slice ap D.np cp) (.slice ai D.ni ci))) (by kernel_rfl) (hD) (fun hHeld => ?_)
  obtain ⟨wd, hwd⟩ : ∃ wd, Hid (wd = w0.drew) := ⟨_, rfl⟩
  rw [← hwd.out] at hD hB hHeld ⊢
  refine' wpAnyH_take (i := 0) (v := _) rfl (by kernel_rfl) (by kernel_rfl) (by kernel_rfl) (fun _ _ _ h => h) (Or.inl ⟨by kernel_rfl, ?ht1⟩) (by assumption) ?rt1
  case ht1 => intro W hW; obtain ⟨-, c0, c1, c2, c3⟩ := hW; go_simp; all_goals with_reducible rfl
  change wpAnyH _ _ _ _ _ _ _ (Act.put _ (some 4) _) _
  simp only [Act.put, List.setIfInBounds_toArray, List.set_cons_zero, List.set_cons_succ]
  refine' wpAnyH_take (i := 1) (v := _) rfl (by kernel_rfl) (by kernel_rfl) (by kernel_rfl) (fun _ _ _ h => h) (Or.inl ⟨by kernel_rfl, ?ht2⟩) (by assumption) ?rt2
  case ht2 => intro W hW; obtain ⟨-, c0, c1, c2, c3⟩ := hW; go_simp; all_goals with_reducible rfl
  change wpAnyH _ _ _ _ _ _ _ (Act.put _ (some 5) _) _
  simp only [Act.put, List.setIfInBounds_toArray, List.set_cons_zero, List.set_cons_succ]
  refine' wpAnyH_take (i := 3) (v := _) rfl (by kernel_rfl) (by kernel_rfl) (by kernel_rfl) (fun _ _ _ h => h) (Or.inl ⟨by kernel_rfl, ?ht3⟩) (by assumption) ?rt3
  case ht3 => intro W hW; obtain ⟨-, c0, c1, c2, c3⟩ := hW; go_simp; all_goals with_reducible rfl
  change wpAnyH _ _ _ _ _ _ _ (Act.put _ (some 7) _) _
  simp only [Act.put, List.setIfInBounds_toArray, List.set_cons_zero, List.set_cons_succ]
  refine' wpAnyH_take (i := 5) (v := _) rfl (by kernel_rfl) (by kernel_rfl) (by kernel_rfl) (fun _ _ _ h => h) (Or.inl ⟨by kernel_rfl, ?ht4⟩) (by assumption) ?rt4
  case ht4 => intro W hW; obtain ⟨-, c0, c1, c2, c3⟩ := hW; go_simp; all_goals with_reducible rfl
  change wpAnyH _ _ _ _ _ _ _ (Act.put _ (some 9) _) _
  simp only [Act.put, List.setIfInBounds_toArray, List.set_cons_zero, List.set_cons_succ]
  refine wpAnyH_ready (rs := [2, 4]) (by kernel_rfl) (by simp) ?_
  refine AllReadyH.cons rfl (fun KK hK => ?_) (AllReadyH.cons rfl (fun KK hK => ?_) AllReadyH.nil)
  ·
    go_simp
    have hb : Below wd.heap.size wd (wd.alloc (.cells #[.string D.name] 9)) := (Below.refl _ _).alloc (Nat.le_refl _) _
    have vN := sview_one (W := wd) (s := D.name)
    replace hD := hD.below hb
    replace hB := hB.trans (hb.mono hB.size)
    clear hb
    refine hK.out _ _ hD (fun hHeld => ?_)
    clear hK KK
    try simp only [Act.put, List.setIfInBounds_toArray, List.set_cons_zero, List.set_cons_succ]
    obtain ⟨gN, hgN⟩ : ∃ gN, Hid (gN = wd.heap.size) := ⟨_, rfl⟩
    obtain ⟨wn, hwn⟩ : ∃ wn, Hid (wn = wd.alloc (.cells #[.string D.name] 9)) := ⟨_, rfl⟩
    rw [← hwn.out] at hD hB hHeld vN ⊢
    rw [← hgN.out] at vN ⊢
    refine wpAnyH_ready (rs := [4]) (by kernel_rfl) (by simp) ?_
    refine AllReadyH.cons rfl (fun KK hK => ?_) AllReadyH.nil
    go_simp
    refine (HCN.out _ hB).mono ?_
    rintro e wc ⟨gc, kc, rfl, vC, hb⟩
    replace hD := hD.below hb
    replace hB := hB.trans (hb.mono hB.size)
    replace vN := vN.below hb
    clear hb
    go_wp2_with fail
    refine hK.out _ _ hD (fun hHeld => ?_)
    clear hK KK
    try simp only [Act.put, List.setIfInBounds_toArray, List.set_cons_zero, List.set_cons_succ]
    refine wpAnyH_ready (rs := [6]) (by kernel_rfl) (by simp) ?_
    refine AllReadyH.cons rfl (fun KK hK => ?_) AllReadyH.nil
    go_simp
    refine (HIN.out _ hB).mono ?_
    rintro e wi ⟨gi, ki, rfl, vI, hb⟩
    replace hD := hD.below hb
    replace hB := hB.trans (hb.mono hB.size)
    replace vN := vN.below hb
    replace vC := vC.below hb
    clear hb
    go_wp2_with fail
    refine hK.out _ _ hD (fun hHeld => ?_)
    clear hK KK
    try simp only [Act.put, List.setIfInBounds_toArray, List.set_cons_zero, List.set_cons_succ]
    refine wpAnyH_ready (rs := [7]) (by kernel_rfl) (by simp) ?_
    refine AllReadyH.cons rfl (fun KK hK => ?_) AllReadyH.nil
    go_simp
    have hb : Below wi.heap.size wi (wi.alloc (.cells #[.slice (some ⟨gN, 0, none⟩) 1 1, .slice (some ⟨gc, 0, none⟩) D.nc kc, .slice (some ⟨gi, 0, none⟩) D.ni ki] 116)) := (Below.refl _ _).alloc (Nat.le_refl _) _
    have y0 : (wi.alloc (.cells #[.slice (some ⟨gN, 0, none⟩) 1 1, .slice (some ⟨gc, 0, none⟩) D.nc kc, .slice (some ⟨gi, 0, none⟩) D.ni ki] 116)).cell? ⟨wi.heap.size, 0, none⟩ = some (.slice (some ⟨gN, 0, none⟩) 1 1) := by simp
    have y1 : (wi.alloc (.cells #[.slice (some ⟨gN, 0, none⟩) 1 1, .slice (some ⟨gc, 0, none⟩) D.nc kc, .slice (some ⟨gi, 0, none⟩) D.ni ki] 116)).cell? ⟨wi.heap.size, 1, none⟩ = some (.slice (some ⟨gc, 0, none⟩) D.nc kc) := by simp [go_sem]
    have y2 : (wi.alloc (.cells #[.slice (some ⟨gN, 0, none⟩) 1 1, .slice (some ⟨gc, 0, none⟩) D.nc kc, .slice (some ⟨gi, 0, none⟩) D.ni ki] 116)).cell? ⟨wi.heap.size, 2, none⟩ = some (.slice (some ⟨gi, 0, none⟩) D.ni ki) := by simp [go_sem]
    have yl : wi.heap.size < (wi.alloc (.cells #[.slice (some ⟨gN, 0, none⟩) 1 1, .slice (some ⟨gc, 0, none⟩) D.nc kc, .slice (some ⟨gi, 0, none⟩) D.ni ki] 116)).heap.size := by simp
    replace hD := hD.below hb
    replace hB := hB.trans (hb.mono hB.size)
    replace vN := vN.below hb
    replace vC := vC.below hb
    replace vI := vI.below hb
    clear hb
    refine hK.out _ _ hD (fun hHeld => ?_)
    clear hK KK
    try simp only [Act.put, List.setIfInBounds_toArray, List.set_cons_zero, List.set_cons_succ]
    have hCC := concat3_any _ _ _ _ _ _ _ _ _ _ _ _ _ _ y0 y1 y2 yl vN vC vI (by omega) (by omega) hnc hni
    refine wpAnyH_ready (rs := [8]) (by kernel_rfl) (by simp) ?_
    refine AllReadyH.cons rfl (fun KK hK => ?_) AllReadyH.nil
    go_simp
    refine hCC.mono ?_
    rintro e wz ⟨g, c, rfl, hO, hb⟩
    rw [rowS_cat, rowS_cat] at hO
    have vZ : SView wz (some ⟨g, 0, none⟩) (1 + D.nc + D.ni) c (namesOf D) := sview_of_row hO
    replace hD := hD.below hb
    replace hB := hB.trans (hb.mono hB.size)
    clear hb
    clear hCC hO y0 y1 y2 yl vN vC vI
    go_wp2_with fail
    refine hK.out _ _ hD (fun hHeld => ?_)
    clear hK KK
    try simp only [Act.put, List.setIfInBounds_toArray, List.set_cons_zero, List.set_cons_succ]
    refine' wpAnyH_take (i := 9) (v := _) rfl (by kernel_rfl) (by kernel_rfl) (by kernel_rfl) (fun _ _ _ h => h) (Or.inl ⟨by kernel_rfl, ?ht5⟩) (by assumption) ?rt5
    case ht5 => intro W hW; obtain ⟨-, c0, c1, c2, c3⟩ := hW; go_simp; all_goals with_reducible rfl
    change wpAnyH _ _ _ _ _ _ _ (Act.put _ (some 3) _) _
    simp only [Act.put, List.setIfInBounds_toArray, List.set_cons_zero, List.set_cons_succ]
    refine wpAnyH_done (by kernel_rfl) ?_ _
    exact key _ _ _ _ _ _ _ _ _ _ _ _ hD hB vZ
  ·
    go_simp
    refine (HCN.out _ hB).mono ?_
    rintro e wc ⟨gc, kc, rfl, vC, hb⟩
    replace hD := hD.below hb
    replace hB := hB.trans (hb.mono hB.size)
    clear hb
    go_wp2_with fail
    refine hK.out _ _ hD (fun hHeld => ?_)
    clear hK KK
    try simp only [Act.put, List.setIfInBounds_toArray, List.set_cons_zero, List.set_cons_succ]
    refine wpAnyH_ready (rs := [2, 6]) (by kernel_rfl) (by simp) ?_
    refine AllReadyH.cons rfl (fun KK hK => ?_) (AllReadyH.cons rfl (fun KK hK => ?_) AllReadyH.nil)
    ·
      go_simp
      have hb : Below wc.heap.size wc (wc.alloc (.cells #[.string D.name] 9)) := (Below.refl _ _).alloc (Nat.le_refl _) _
      have vN := sview_one (W := wc) (s := D.name)
      replace hD := hD.below hb
      replace hB := hB.trans (hb.mono hB.size)
      replace vC := vC.below hb
      clear hb
      refine hK.out _ _ hD (fun hHeld => ?_)
      clear hK KK
      try simp only [Act.put, List.setIfInBounds_toArray, List.set_cons_zero, List.set_cons_succ]
      obtain ⟨gN, hgN⟩ : ∃ gN, Hid (gN = wc.heap.size) := ⟨_, rfl⟩
      obtain ⟨wn, hwn⟩ : ∃ wn, Hid (wn = wc.alloc (.cells #[.string D.name] 9)) := ⟨_, rfl⟩
      rw [← hwn.out] at hD hB hHeld vN vC ⊢
      rw [← hgN.out] at vN ⊢
      refine wpAnyH_ready (rs := [6]) (by kernel_rfl) (by simp) ?_
      refine AllReadyH.cons rfl (fun KK hK => ?_) AllReadyH.nil
      go_simp
      refine (HIN.out _ hB).mono ?_
      rintro e wi ⟨gi, ki, rfl, vI, hb⟩
      replace hD := hD.below hb
      replace hB := hB.trans (hb.mono hB.size)
      replace vN := vN.below hb
      replace vC := vC.below hb
      clear hb
      go_wp2_with fail
      refine hK.out _ _ hD (fun hHeld => ?_)
      clear hK KK
      try simp only [Act.put, List.setIfInBounds_toArray, List.set_cons_zero, List.set_cons_succ]
      refine wpAnyH_ready (rs := [7]) (by kernel_rfl) (by simp) ?_
      refine AllReadyH.cons rfl (fun KK hK => ?_) AllReadyH.nil
      go_simp
      have hb : Below wi.heap.size wi (wi.alloc (.cells #[.slice (some ⟨gN, 0, none⟩) 1 1, .slice (some ⟨gc, 0, none⟩) D.nc kc, .slice (some ⟨gi, 0, none⟩) D.ni ki] 116)) := (Below.refl _ _).alloc (Nat.le_refl _) _
      have y0 : (wi.alloc (.cells #[.slice (some ⟨gN, 0, none⟩) 1 1, .slice (some ⟨gc, 0, none⟩) D.nc kc, .slice (some ⟨gi, 0, none⟩) D.ni ki] 116)).cell? ⟨wi.heap.size, 0, none⟩ = some (.slice (some ⟨gN, 0, none⟩) 1 1) := by simp
      have y1 : (wi.alloc (.cells #[.slice (some ⟨gN, 0, none⟩) 1 1, .slice (some ⟨gc, 0, none⟩) D.nc kc, .slice (some ⟨gi, 0, none⟩) D.ni ki] 116)).cell? ⟨wi.heap.size, 1, none⟩ = some (.slice (some ⟨gc, 0, none⟩) D.nc kc) := by simp [go_sem]
      have y2 : (wi.alloc (.cells #[.slice (some ⟨gN, 0, none⟩) 1 1, .slice (some ⟨gc, 0, none⟩) D.nc kc, .slice (some ⟨gi, 0, none⟩) D.ni ki] 116)).cell? ⟨wi.heap.size, 2, none⟩ = some (.slice (some ⟨gi, 0, none⟩) D.ni ki) := by simp [go_sem]
      have yl : wi.heap.size < (wi.alloc (.cells #[.slice (some ⟨gN, 0, none⟩) 1 1, .slice (some ⟨gc, 0, none⟩) D.nc kc, .slice (some ⟨gi, 0, none⟩) D.ni ki] 116)).heap.size := by simp
      replace hD := hD.below hb
      replace hB := hB.trans (hb.mono hB.size)
      replace vN := vN.below hb
      replace vC := vC.below hb
      replace vI := vI.below hb
      clear hb
      refine hK.out _ _ hD (fun hHeld => ?_)
      clear hK KK
      try simp only [Act.put, List.setIfInBounds_toArray, List.set_cons_zero, List.set_cons_succ]
      have hCC := concat3_any _ _ _ _ _ _ _ _ _ _ _ _ _ _ y0 y1 y2 yl vN vC vI (by omega) (by omega) hnc hni
      refine wpAnyH_ready (rs := [8]) (by kernel_rfl) (by simp) ?_
      refine AllReadyH.cons rfl (fun KK hK => ?_) AllReadyH.nil
      go_simp
      refine hCC.mono ?_
      rintro e wz ⟨g, c, rfl, hO, hb⟩
      rw [rowS_cat, rowS_cat] at hO
      have vZ : SView wz (some ⟨g, 0, none⟩) (1 + D.nc + D.ni) c (namesOf D) := sview_of_row hO
      replace hD := hD.below hb
      replace hB := hB.trans (hb.mono hB.size)
      clear hb
      clear hCC hO y0 y1 y2 yl vN vC vI
      go_wp2_with fail
      refine hK.out _ _ hD (fun hHeld => ?_)
      clear hK KK
      try simp only [Act.put, List.setIfInBounds_toArray, List.set_cons_zero, List.set_cons_succ]
      refine' wpAnyH_take (i := 9) (v := _) rfl (by kernel_rfl) (by kernel_rfl) (by kernel_rfl) (fun _ _ _ h => h) (Or.inl ⟨by kernel_rfl, ?ht6⟩) (by assumption) ?rt6
      case ht6 => intro W hW; obtain ⟨-, c0, c1, c2, c3⟩ := hW; go_simp; all_goals with_reducible rfl
      change wpAnyH _ _ _ _ _ _ _ (Act.put _ (some 3) _) _
      simp only [Act.put, List.setIfInBounds_toArray, List.set_cons_zero, List.set_cons_succ]
      refine wpAnyH_done (by kernel_rfl) ?_ _
      exact key _ _ _ _ _ _ _ _ _ _ _ _ hD hB vZ
    ·
      go_simp
      refine (HIN.out _ hB).mono ?_
      rintro e wi ⟨gi, ki, rfl, vI, hb⟩
      replace hD := hD.below hb
      replace hB := hB.trans (hb.mono hB.size)
      replace vC := vC.below hb
      clear hb
      go_wp2_with fail
      refine hK.out _ _ hD (fun hHeld => ?_)
      clear hK KK
      try simp only [Act.put, List.setIfInBounds_toArray, List.set_cons_zero, List.set_cons_succ]
      refine wpAnyH_ready (rs := [2]) (by kernel_rfl) (by simp) ?_
      refine AllReadyH.cons rfl (fun KK hK => ?_) AllReadyH.nil
      go_simp
      have hb : Below wi.heap.size wi (wi.alloc (.cells #[.string D.name] 9)) := (Below.refl _ _).alloc (Nat.le_refl _) _
      have vN := sview_one (W := wi) (s := D.name)
      replace hD := hD.below hb
      replace hB := hB.trans (hb.mono hB.size)
      replace vC := vC.below hb
      replace vI := vI.below hb
      clear hb
      refine hK.out _ _ hD (fun hHeld => ?_)
      clear hK KK
      try simp only [Act.put, List.setIfInBounds_toArray, List.set_cons_zero, List.set_cons_succ]
      obtain ⟨gN, hgN⟩ : ∃ gN, Hid (gN = wi.heap.size) := ⟨_, rfl⟩
      obtain ⟨wn, hwn⟩ : ∃ wn, Hid (wn = wi.alloc (.cells #[.string D.name] 9)) := ⟨_, rfl⟩
      rw [← hwn.out] at hD hB hHeld vN vC vI ⊢
      rw [← hgN.out] at vN ⊢
      refine wpAnyH_ready (rs := [7]) (by kernel_rfl) (by simp) ?_
      refine AllReadyH.cons rfl (fun KK hK => ?_) AllReadyH.nil
      go_simp
      have hb : Below wn.heap.size wn (wn.alloc (.cells #[.slice (some ⟨gN, 0, none⟩) 1 1, .slice (some ⟨gc, 0, none⟩) D.nc kc, .slice (some ⟨gi, 0, none⟩) D.ni ki] 116)) := (Below.refl _ _).alloc (Nat.le_refl _) _
      have y0 : (wn.alloc (.cells #[.slice (some ⟨gN, 0, none⟩) 1 1, .slice (some ⟨gc, 0, none⟩) D.nc kc, .slice (some ⟨gi, 0, none⟩) D.ni ki] 116)).cell? ⟨wn.heap.size, 0, none⟩ = some (.slice (some ⟨gN, 0, none⟩) 1 1) := by simp
      have y1 : (wn.alloc (.cells #[.slice (some ⟨gN, 0, none⟩) 1 1, .slice (some ⟨gc, 0, none⟩) D.nc kc, .slice (some ⟨gi, 0, none⟩) D.ni ki] 116)).cell? ⟨wn.heap.size, 1, none⟩ = some (.slice (some ⟨gc, 0, none⟩) D.nc kc) := by simp [go_sem]
      have y2 : (wn.alloc (.cells #[.slice (some ⟨gN, 0, none⟩) 1 1, .slice (some ⟨gc, 0, none⟩) D.nc kc, .slice (some ⟨gi, 0, none⟩) D.ni ki] 116)).cell? ⟨wn.heap.size, 2, none⟩ = some (.slice (some ⟨gi, 0, none⟩) D.ni ki) := by simp [go_sem]
      have yl : wn.heap.size < (wn.alloc (.cells #[.slice (some ⟨gN, 0, none⟩) 1 1, .slice (some ⟨gc, 0, none⟩) D.nc kc, .slice (some ⟨gi, 0, none⟩) D.ni ki] 116)).heap.size := by simp
      replace hD := hD.below hb
      replace hB := hB.trans (hb.mono hB.size)
      replace vN := vN.below hb
      replace vC := vC.below hb
      replace vI := vI.below hb
      clear hb
      refine hK.out _ _ hD (fun hHeld => ?_)
      clear hK KK
      try simp only [Act.put, List.setIfInBounds_toArray, List.set_cons_zero, List.set_cons_succ]
      have hCC := concat3_any _ _ _ _ _ _ _ _ _ _ _ _ _ _ y0 y1 y2 yl vN vC vI (by omega) (by omega) hnc hni
      refine wpAnyH_ready (rs := [8]) (by kernel_rfl) (by simp) ?_
      refine AllReadyH.cons rfl (fun KK hK => ?_) AllReadyH.nil
      go_simp
      refine hCC.mono ?_
      rintro e wz ⟨g, c, rfl, hO, hb⟩
      rw [rowS_cat, rowS_cat] at hO
      have vZ : SView wz (some ⟨g, 0, none⟩) (1 + D.nc + D.ni) c (namesOf D) := sview_of_row hO
      replace hD := hD.below hb
      replace hB := hB.trans (hb.mono hB.size)
      clear hb
      clear hCC hO y0 y1 y2 yl vN vC vI
      go_wp2_with fail
      refine hK.out _ _ hD (fun hHeld => ?_)
      clear hK KK
      try simp only [Act.put, List.setIfInBounds_toArray, List.set_cons_zero, List.set_cons_succ]
      refine' wpAnyH_take (i := 9) (v := _) rfl (by kernel_rfl) (by kernel_rfl) (by kernel_rfl) (fun _ _ _ h => h) (Or.inl ⟨by kernel_rfl, ?ht7⟩) (by assumption) ?rt7
      case ht7 => intro W hW; obtain ⟨-, c0, c1, c2, c3⟩ := hW; go_simp; all_goals with_reducible rfl
      change wpAnyH _ _ _ _ _ _ _ (Act.put _ (some 3) _) _
      simp only [Act.put, List.setIfInBounds_toArray, List.set_cons_zero, List.set_cons_succ]
      refine wpAnyH_done (by kernel_rfl) ?_ _
      exact key _ _ _ _ _ _ _ _ _ _ _ _ hD hB vZ
end Go.Proofs.YtkakkjnbhklfpaaGreatDoor

/-
  errors.As at a table's error: none of nothing; the error itself, where there is one.
-/
namespace Go.Proofs.YtkakkjnbhklfpaaGreatDoor
open Go.RowKit Go.Extern.Stop Go.Stop Go.Extern

/-- The handle of a type. -/
abbrev hdl (T : Nat) : Value := .pointer (some ⟨2, T, none⟩)

theorem as_nil (t : Value) (w : World) :
    Calls Tryz.prog 60 #[.nilIface, t] w fun e w' => e = .returned (.bool false) ∧ w' = w := by
  go_enter Tryz.func60, Tryz.ntmps60
  go_wp2
  go_ret
  exact ⟨rfl, rfl⟩

theorem as_valueOfP (t : Addr) (w : World) : (ReflectliteValue.unpack (.iface 106 (.pointer (some t)))).run Tryz.prog w
    = .ok (.agg #[hdl 106, .pointer (some ⟨w.heap.size, 0, none⟩), .int .u64 150]) (w.alloc (.cells #[.pointer (some t)] 106)) := by kernel_rfl
theorem as_typeP (a : Addr) (w : World) : (ReflectliteValue.methodAny (ReflectliteValue.valueError "reflectlite.Value.Type" 0) (fun t _ _ _ => ReflectliteType.toType t) #[.agg #[hdl 106, .pointer (some a), .int .u64 150]]).run Tryz.prog w
    = .ok (.iface 156 (.agg #[hdl 106])) w := by kernel_rfl
theorem as_mKind (h : Value) (w : World) : (Go.method 378 156 (.agg #[h]) "Kind").run Tryz.prog w = .ok (221, h) w := by kernel_rfl
theorem as_kindP (w : World) : ((ReflectliteType.abiMethod fun t => (fun a : Nat => Value.int IntKind.u8 (a : Int)) <$> Rtype.kind t) #[hdl 106]).run Tryz.prog w = .ok (.int .u8 22) w := by kernel_rfl
theorem as_kindE (w : World) : ((ReflectliteType.abiMethod fun t => (fun a : Nat => Value.int IntKind.u8 (a : Int)) <$> Rtype.kind t) #[hdl 101]).run Tryz.prog w = .ok (.int .u8 25) w := by kernel_rfl

theorem as_rlm (z : Sem Value) (f : TypeId → Addr → Nat → Nat → Sem Value) (v : Value) :
    ReflectliteValue.method z f #[v] = (do match ← ReflectliteValue.parts v with | none => z | some (t, a, fl) => f t a fl (fl % 32)) := rfl
theorem as_partsP (a : Addr) (w : World) : (ReflectliteValue.parts (.agg #[hdl 106, .pointer (some a), .int .u64 150])).run Tryz.prog w = .ok (some (106, a, 150)) w := by kernel_rfl
theorem as_isNil (a p : Addr) (W : World) (ha : W.cell? a = some (.pointer (some p))) :
    (ReflectliteValue.method (ReflectliteValue.valueError "reflectlite.Value.IsNil" 0) ReflectliteValue.isNil #[.agg #[hdl 106, .pointer (some a), .int .u64 150]]).run Tryz.prog W = .ok (.bool false) W := by
  rw [as_rlm]
  simp only [Sem.run_bind, as_partsP, Result.andThen]
  simp [ReflectliteValue.isNil, loadVar, isAgg, underlying, Tryz.underlying106, ha, Result.andThen]
theorem as_mElem (h : Value) (w : World) : (Go.method 378 156 (.agg #[h]) "Elem").run Tryz.prog w = .ok (231, .agg #[h]) w := by kernel_rfl
theorem as_mImplements (h : Value) (w : World) : (Go.method 378 156 (.agg #[h]) "Implements").run Tryz.prog w = .ok (232, .agg #[h]) w := by kernel_rfl
theorem as_mAssignableTo (h : Value) (w : World) : (Go.method 378 156 (.agg #[h]) "AssignableTo").run Tryz.prog w = .ok (229, .agg #[h]) w := by kernel_rfl
theorem as_elemP (w : World) : (ReflectliteType.method ReflectliteType.elem #[.agg #[hdl 106]]).run Tryz.prog w = .ok (.iface 156 (.agg #[hdl 101])) w := by kernel_rfl
theorem as_implementsE (w : World) : (ReflectliteType.relation "Implements" ReflectliteType.implements_ #[.agg #[hdl 101], .iface 156 (.agg #[hdl 104])]).run Tryz.prog w = .ok (.bool true) w := by kernel_rfl
theorem as_typeOfE (v : Value) (w : World) : (ReflectliteType.typeOf #[.iface 101 v]).run Tryz.prog w = .ok (.iface 156 (.agg #[hdl 101])) w := by kernel_rfl
theorem as_assignableE (w : World) : (ReflectliteType.relation "AssignableTo" ReflectliteType.assignableTo #[.agg #[hdl 101], .iface 156 (.agg #[hdl 101])]).run Tryz.prog w = .ok (.bool true) w := by kernel_rfl
theorem as_valueOfE (c : Int) (s : ByteArray) (w : World) : (ReflectliteValue.unpack (.iface 101 (.agg #[.int .i64 c, .string s]))).run Tryz.prog w
    = .ok (.agg #[hdl 101, .pointer (some ⟨w.heap.size, 0, none⟩), .int .u64 153]) (w.alloc (.cells #[.int .i64 c, .string s] 101)) := by kernel_rfl
theorem as_elemOfP (w : World) : (Rtype.elem? 106).run Tryz.prog w = .ok (some 101) w := by kernel_rfl
theorem as_mkE (p : Addr) (w : World) : (ReflectliteValue.mk 101 p ReflectliteValue.flagAddr).run Tryz.prog w = .ok (.agg #[hdl 101, .pointer (some p), .int .u64 409]) w := by kernel_rfl
theorem as_elemV (a p : Addr) (W : World) (ha : W.cell? a = some (.pointer (some p))) :
    (ReflectliteValue.method (ReflectliteValue.valueError "reflectlite.Value.Elem" 0) ReflectliteValue.elem #[.agg #[hdl 106, .pointer (some a), .int .u64 150]]).run Tryz.prog W
      = .ok (.agg #[hdl 101, .pointer (some p), .int .u64 409]) W := by
  rw [as_rlm]
  simp only [Sem.run_bind, as_partsP, Result.andThen]
  simp [ReflectliteValue.elem, loadVar, isAgg, underlying, Tryz.underlying106, ha, Result.andThen, as_elemOfP, as_mkE]
end Go.Proofs.YtkakkjnbhklfpaaGreatDoor

/-
  errors.As at a table's error: the error is put into the variable.
-/
namespace Go.Proofs.YtkakkjnbhklfpaaGreatDoor
open Go.RowKit Go.Extern.Stop Go.Stop Go.Extern

theorem as_rls (v x : Value) : ReflectliteValue.set #[v, x] = (do
    let (some (dst, a, fl), some (src, b, _)) := (← ReflectliteValue.parts v, ← ReflectliteValue.parts x)
      | unsupported (.noEntry "extern/(internal/reflectlite.Value).Set.zeroValue")
    if fl / ReflectliteValue.flagAddr % 2 == 0 then unsupported (.noEntry "extern/(internal/reflectlite.Value).Set.unaddressable")
    let val ← loadVar src b
    if ← Rtype.directlyAssignable dst src then storeVar dst a val
    else if ← Rtype.implements dst src then
      if (← Rtype.kind src) == 20 then
        match val with
        | .nilIface => unsupported (.noEntry "extern/reflectlite: a nil value of one interface type handed on as a value of another")
        | _ => storeVar dst a val
      else storeVar dst a (.iface src val)
    else panicString ("reflectlite.Set: value of type " ++ (← Rtype.spelt src) ++ " is not assignable to type " ++ (← Rtype.spelt dst))
    pure (.tuple #[])) := rfl
theorem as_partsEa (a : Addr) (w : World) : (ReflectliteValue.parts (.agg #[hdl 101, .pointer (some a), .int .u64 409])).run Tryz.prog w = .ok (some (101, a, 409)) w := by kernel_rfl
theorem as_partsE (a : Addr) (w : World) : (ReflectliteValue.parts (.agg #[hdl 101, .pointer (some a), .int .u64 153])).run Tryz.prog w = .ok (some (101, a, 153)) w := by kernel_rfl
theorem as_direct (w : World) : (Rtype.directlyAssignable 101 101).run Tryz.prog w = .ok true w := by kernel_rfl
theorem as_size (w : World) : (sizeOf 101).run Tryz.prog w = .ok 2 w := by kernel_rfl
theorem as_load (b : Nat) (c : Int) (s : ByteArray) (W : World) (h0 : W.cell? ⟨b, 0, none⟩ = some (.int .i64 c)) (h1 : W.cell? ⟨b, 1, none⟩ = some (.string s)) :
    (loadVar 101 ⟨b, 0, none⟩).run Tryz.prog W = .ok (.agg #[.int .i64 c, .string s]) W := by
  simp [loadVar, loadCells, loadCellsFrom, Addr.add, h0, h1, Result.andThen]
theorem as_store (B : Nat) (c : Int) (s : ByteArray) (x0 x1 : Value) (W : World) (h0 : W.cell? ⟨B, 0, none⟩ = some x0) (h1 : W.cell? ⟨B, 1, none⟩ = some x1) (f0 : W.frozen? ⟨B, 0, none⟩ = false) (f1 : W.frozen? ⟨B, 1, none⟩ = false) :
    (storeVar 101 ⟨B, 0, none⟩ (.agg #[.int .i64 c, .string s])).run Tryz.prog W = .ok () ((W.setCell ⟨B, 0, none⟩ (.int .i64 c)).setCell ⟨B, 1, none⟩ (.string s)) := by
  have h1' : (W.setCell ⟨B, 0, none⟩ (.int .i64 c)).cell? ⟨B, 1, none⟩ = some x1 := by rw [World.cell?_setCell_other W _ _ _ (by intro e; cases e)]; exact h1
  have f1' : (W.setCell ⟨B, 0, none⟩ (.int .i64 c)).frozen? ⟨B, 1, none⟩ = false := by rw [World.frozen?_setCell]; exact f1
  simp only [storeVar, Sem.run_bind, as_size, Result.andThen, Value.cells]
  simp [storeCells, Addr.add, Result.andThen]
  rw [run_store Tryz.prog W ⟨B, 0, none⟩ _ _ (by rfl)]
  simp [h0, f0]
  rw [run_store Tryz.prog _ ⟨B, 1, none⟩ _ _ (by rfl)]
  simp [h1', f1']
theorem as_set (B b : Nat) (c : Int) (s : ByteArray) (x0 x1 : Value) (W : World) (g0 : W.cell? ⟨b, 0, none⟩ = some (.int .i64 c)) (g1 : W.cell? ⟨b, 1, none⟩ = some (.string s)) (h0 : W.cell? ⟨B, 0, none⟩ = some x0) (h1 : W.cell? ⟨B, 1, none⟩ = some x1) (f0 : W.frozen? ⟨B, 0, none⟩ = false) (f1 : W.frozen? ⟨B, 1, none⟩ = false) :
    (ReflectliteValue.set #[.agg #[hdl 101, .pointer (some ⟨B, 0, none⟩), .int .u64 409], .agg #[hdl 101, .pointer (some ⟨b, 0, none⟩), .int .u64 153]]).run Tryz.prog W
      = .ok (.tuple #[]) ((W.setCell ⟨B, 0, none⟩ (.int .i64 c)).setCell ⟨B, 1, none⟩ (.string s)) := by
  rw [as_rls]
  simp only [Sem.run_bind, as_partsEa, as_partsE, Result.andThen]
  simp [ReflectliteValue.flagAddr, as_load b c s W g0 g1, Result.andThen, as_direct, as_store B c s x0 x1 W h0 h1 f0 f1]

set_option maxHeartbeats 4000000 in
theorem as_hit (B : Nat) (c : Int) (s : ByteArray) (x0 x1 : Value) (w : World) (hg : w.cell? ⟨0, 0, none⟩ = some (.iface 156 (.agg #[hdl 104]))) (hB : B < w.heap.size) (h0 : w.cell? ⟨B, 0, none⟩ = some x0) (h1 : w.cell? ⟨B, 1, none⟩ = some x1) (f0 : w.frozen? ⟨B, 0, none⟩ = false) (f1 : w.frozen? ⟨B, 1, none⟩ = false) :
    Calls Tryz.prog 60 #[.iface 101 (.agg #[.int .i64 c, .string s]), .iface 106 (.pointer (some ⟨B, 0, none⟩))] w fun ev w' => ev = .returned (.bool true) ∧ w'.cell? ⟨B, 0, none⟩ = some (.int .i64 c) ∧ Below B w w' := by
  have e54 := @run_callFunc_extern Tryz.prog 89 _ (fun args => ReflectliteValue.unpack (args.getD 0 (.tuple #[]))) Tryz.func89 (by kernel_rfl) (by kernel_rfl) (by kernel_rfl) (by kernel_rfl)
  have e55 := @run_callFunc_extern Tryz.prog 90 _ (ReflectliteValue.methodAny (ReflectliteValue.valueError "reflectlite.Value.Type" 0) (fun t _ _ _ => ReflectliteType.toType t)) Tryz.func90 (by kernel_rfl) (by kernel_rfl) (by kernel_rfl) (by kernel_rfl)
  have e56 := @run_callFunc_extern Tryz.prog 91 _ (ReflectliteValue.method (ReflectliteValue.valueError "reflectlite.Value.IsNil" 0) ReflectliteValue.isNil) Tryz.func91 (by kernel_rfl) (by kernel_rfl) (by kernel_rfl) (by kernel_rfl)
  have e151 := @run_callFunc_extern Tryz.prog 221 _ (ReflectliteType.abiMethod fun t => do pure (.int .u8 (← Rtype.kind t))) Tryz.func221 (by kernel_rfl) (by kernel_rfl) (by kernel_rfl) (by kernel_rfl)
  have e162 := @run_callFunc_extern Tryz.prog 231 _ (ReflectliteType.method ReflectliteType.elem) Tryz.func231 (by kernel_rfl) (by kernel_rfl) (by kernel_rfl) (by kernel_rfl)
  have e163 := @run_callFunc_extern Tryz.prog 232 _ (ReflectliteType.relation "Implements" ReflectliteType.implements_) Tryz.func232 (by kernel_rfl) (by kernel_rfl) (by kernel_rfl) (by kernel_rfl)
  have e84 := @run_callFunc_extern Tryz.prog 124 _ ReflectliteType.typeOf Tryz.func124 (by kernel_rfl) (by kernel_rfl) (by kernel_rfl) (by kernel_rfl)
  have e160 := @run_callFunc_extern Tryz.prog 229 _ (ReflectliteType.relation "AssignableTo" ReflectliteType.assignableTo) Tryz.func229 (by kernel_rfl) (by kernel_rfl) (by kernel_rfl) (by kernel_rfl)
  have e85 := @run_callFunc_extern Tryz.prog 125 _ (ReflectliteValue.method (ReflectliteValue.valueError "reflectlite.Value.Elem" 0) ReflectliteValue.elem) Tryz.func125 (by kernel_rfl) (by kernel_rfl) (by kernel_rfl) (by kernel_rfl)
  have e86 := @run_callFunc_extern Tryz.prog 126 _ ReflectliteValue.set Tryz.func126 (by kernel_rfl) (by kernel_rfl) (by kernel_rfl) (by kernel_rfl)
  have tO := as_typeOfE
  have mA := as_mAssignableTo
  have aE := as_assignableE
  have vE := as_valueOfE
  have vP := as_valueOfP
  have tP := as_typeP
  have mK := as_mKind
  have mE := as_mElem
  have mI := as_mImplements
  have kP := as_kindP
  have kE := as_kindE
  have eP := as_elemP
  have iE := as_implementsE
  have n8 := as_isNil ⟨w.heap.size, 0, none⟩ ⟨B, 0, none⟩ ((w.alloc (.cells #[.pointer (some ⟨B, 0, none⟩)] 106)).alloc (.cells #[hdl 106, .pointer (some ⟨w.heap.size, 0, none⟩), .int .u64 150] 127)) (by simp)
  have hg2 : ((w.alloc (.cells #[.pointer (some ⟨B, 0, none⟩)] 106)).alloc (.cells #[hdl 106, .pointer (some ⟨w.heap.size, 0, none⟩), .int .u64 150] 127)).cell? ⟨0, 0, none⟩ = some (.iface 156 (.agg #[hdl 104])) := by
    rw [World.cell?_alloc_lt _ _ ⟨0, 0, none⟩ (Nat.lt_of_lt_of_le (World.block_lt_of_cell? _ _ hg) (by simp)), World.cell?_alloc_lt _ _ ⟨0, 0, none⟩ (World.block_lt_of_cell? _ _ hg)]; exact hg
  have el := as_elemV ⟨w.heap.size, 0, none⟩ ⟨B, 0, none⟩ (((w.alloc (.cells #[.pointer (some ⟨B, 0, none⟩)] 106)).alloc (.cells #[hdl 106, .pointer (some ⟨w.heap.size, 0, none⟩), .int .u64 150] 127)).alloc (.cells #[hdl 106, .pointer (some ⟨w.heap.size, 0, none⟩), .int .u64 150] 127)) (by rw [World.cell?_alloc_lt _ _ ⟨w.heap.size, 0, none⟩ (by simp; omega)]; simp)
  have hbl : Below w.heap.size w ((((w.alloc (.cells #[.pointer (some ⟨B, 0, none⟩)] 106)).alloc (.cells #[hdl 106, .pointer (some ⟨w.heap.size, 0, none⟩), .int .u64 150] 127)).alloc (.cells #[hdl 106, .pointer (some ⟨w.heap.size, 0, none⟩), .int .u64 150] 127)).alloc (.cells #[.int .i64 c, .string s] 101)) := ((((Below.refl _ _).alloc (Nat.le_refl _) _).alloc (by simp) _).alloc (by simp; omega) _).alloc (by simp; omega) _
  have st := as_set B (w.heap.size + 1 + 1 + 1) c s x0 x1 ((((w.alloc (.cells #[.pointer (some ⟨B, 0, none⟩)] 106)).alloc (.cells #[hdl 106, .pointer (some ⟨w.heap.size, 0, none⟩), .int .u64 150] 127)).alloc (.cells #[hdl 106, .pointer (some ⟨w.heap.size, 0, none⟩), .int .u64 150] 127)).alloc (.cells #[.int .i64 c, .string s] 101))
    (by rw [World.cell?_alloc_at _ _ _ _ (by simp)]; rfl) (by rw [World.cell?_alloc_at _ _ _ _ (by simp)]; rfl)
    (by rw [hbl.cell hB]; exact h0) (by rw [hbl.cell hB]; exact h1) (by rw [hbl.frozen (p := ⟨B, 0, none⟩) hB]; exact f0) (by rw [hbl.frozen (p := ⟨B, 1, none⟩) hB]; exact f1)
  have HR : Hid (((((((w.alloc (.cells #[.pointer (some ⟨B, 0, none⟩)] 106)).alloc (.cells #[hdl 106, .pointer (some ⟨w.heap.size, 0, none⟩), .int .u64 150] 127)).alloc (.cells #[hdl 106, .pointer (some ⟨w.heap.size, 0, none⟩), .int .u64 150] 127)).alloc (.cells #[.int .i64 c, .string s] 101)).setCell ⟨B, 0, none⟩ (.int .i64 c)).setCell ⟨B, 1, none⟩ (.string s)).cell? ⟨B, 0, none⟩ = some (.int .i64 c) ∧ Below B w ((((((w.alloc (.cells #[.pointer (some ⟨B, 0, none⟩)] 106)).alloc (.cells #[hdl 106, .pointer (some ⟨w.heap.size, 0, none⟩), .int .u64 150] 127)).alloc (.cells #[hdl 106, .pointer (some ⟨w.heap.size, 0, none⟩), .int .u64 150] 127)).alloc (.cells #[.int .i64 c, .string s] 101)).setCell ⟨B, 0, none⟩ (.int .i64 c)).setCell ⟨B, 1, none⟩ (.string s))) := by
    refine ⟨?_, ((hbl.mono (Nat.le_of_lt hB)).setCell (Nat.le_refl _) _).setCell (Nat.le_refl _) _⟩
    rw [World.cell?_setCell_other _ _ _ _ (by intro e; cases e), World.cell?_setCell_same _ _ _ (u := x0) (by rw [hbl.cell hB]; exact h0)]
  clear hbl hg h0 h1 f0 f1
  go_enter Tryz.func60, Tryz.ntmps60
  go_wp2
  refine wp_loop_rounds 1 ?_
  rw [rounds_succ]
  go_wp2
  go_ret
  exact ⟨rfl, HR.out⟩
end Go.Proofs.YtkakkjnbhklfpaaGreatDoor

