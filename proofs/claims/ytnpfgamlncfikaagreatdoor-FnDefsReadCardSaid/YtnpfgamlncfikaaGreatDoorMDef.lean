/-
  MDef
-/
import Derived.Test.YtnpfgamlncfikaaGreatDoorMIndex
import Derived.Test.YtnpfgamlncfikaaGreatDoorPackF11
import Derived.Deep.DeepCutAuto
import Derived.Deep.CutBlock
/-
  spec.l10Def, walked.
-/
namespace Go.Proofs.YtnpfgamlncfikaaGreatDoor
open Go.RowKit
set_option maxRecDepth 4000

theorem defO_is {st st1 st2 st3 : Option (List Tok)} {c : List PCol} {p : List PBy} {x : List (ByteArray × Bool × List PBy)}
    (h1 : (mustO ⟨#[123]⟩ (nameO (mustO kTable st)).2).bind (fun l => colsR (l.length + 1) l) = st1.map (fun r => (c, r))) (h2 : st1.bind (fun l => partsR c (l.length + 1) l) = st2.map (fun r => (p, r))) (h3 : st2.bind (fun l => idxsR c (l.length + 1) l) = st3.map (fun r => (x, r))) :
    st.bind defR = st3.map (fun r => (mkDef (nameO (mustO kTable st)).1 c p x, r)) := by
  cases st with
  | none =>
    have e1 : st1 = none := by cases st1 with | none => rfl | some l => cases h1
    subst e1
    have e2 : st2 = none := by cases st2 with | none => rfl | some l => cases h2
    subst e2
    have e3 : st3 = none := by cases st3 with | none => rfl | some l => cases h3
    subst e3
    rfl
  | some l =>
    show defR l = _
    unfold defR
    have hm : mustO kTable (some l) = mustR kTable l := rfl
    rw [hm] at h1 ⊢
    have hbad : ∀ n, none = st1.map (fun r => (c, r)) → none = st3.map (fun r => (mkDef n c p x, r)) := by
      intro n h
      have e1 : st1 = none := by cases st1 with | none => rfl | some l => cases h
      subst e1
      have e2 : st2 = none := by cases st2 with | none => rfl | some l => cases h2
      subst e2
      have e3 : st3 = none := by cases st3 with | none => rfl | some l => cases h3
      subst e3
      rfl
    cases a1 : mustR kTable l with
    | none => rw [a1] at h1; exact hbad _ h1
    | some l1 =>
      rw [a1] at h1
      simp only [Option.bind_eq_bind, Option.bind_some]
      cases a2 : nameR l1 with
      | none =>
        have hN : nameO (some l1) = (⟨#[]⟩, none) := by simp only [nameO, a2]
        rw [hN] at h1 ⊢
        exact hbad _ h1
      | some y =>
        obtain ⟨n, l2⟩ := y
        have hN : nameO (some l1) = (n, some l2) := by simp only [nameO, a2]
        rw [hN] at h1 ⊢
        simp only [Option.bind_some]
        have h1' : (mustR ⟨#[123]⟩ l2).bind (fun l => colsR (l.length + 1) l) = st1.map (fun r => (c, r)) := h1
        cases a3 : mustR ⟨#[123]⟩ l2 with
        | none => rw [a3] at h1'; exact hbad _ h1'
        | some l3 =>
          rw [a3] at h1'
          simp only [Option.bind_some] at h1' ⊢
          rw [h1']
          cases st1 with
          | none => exact hbad _ rfl
          | some l4 =>
            simp only [Option.map_some, Option.bind_some] at h2 ⊢
            rw [h2]
            cases st2 with
            | none =>
              have e3 : st3 = none := by cases st3 with | none => rfl | some l => cases h3
              subst e3
              rfl
            | some l5 =>
              simp only [Option.map_some, Option.bind_some] at h3 ⊢
              rw [h3]
              cases st3 with
              | none => rfl
              | some l6 => rfl

/-- The table under way: its variable, its rows, the reader. -/
structure SD (w : World) (g : Nat) (S : Src) (n : ByteArray) (c : List PCol) (p : List PBy) (x : List (ByteArray × Bool × List PBy)) (st : Option (List Tok)) (W : World) : Prop where
  is : ∃ vc vp vi A C, V4 W w.heap.size 35 (.string ⟨#[]⟩) (.slice none 0 0) (.slice none 0 0) (.slice none 0 0) ∧ Vd w (w.heap.size + 1) (.string n) vc vp vi W ∧ Tb w vc vp vi (mkDef n c p x) A C W ∧ MR g S st W ∧ But g w W
theorem SD.next {w : World} {g : Nat} {S : Src} {n : ByteArray} {c : List PCol} {p : List PBy} {x : List (ByteArray × Bool × List PBy)} {st st' : Option (List Tok)} {W W' : World} (h : SD w g S n c p x st W) (hg : g < w.heap.size) (hM : MR g S st' W') (hb : But g W W') : SD w g S n c p x st' W' := by
  obtain ⟨vc, vp, vi, A, C, h1, h2, h3, h4, h5⟩ := h.is
  exact ⟨vc, vp, vi, A, C, h1.but hb (by omega), h2.but hb hg, h3.but hb hg, hM, h5.trans hb⟩
theorem SD.below {w : World} {g : Nat} {S : Src} {n : ByteArray} {c : List PCol} {p : List PBy} {x : List (ByteArray × Bool × List PBy)} {st : Option (List Tok)} {W W' : World} (h : SD w g S n c p x st W) (hb : Below W.heap.size W W') : SD w g S n c p x st W' := by
  obtain ⟨vc, vp, vi, A, C, h1, h2, h3, h4, h5⟩ := h.is
  exact ⟨vc, vp, vi, A, C, h1.below hb, h2.below hb, h3.below hb, h4.below hb, h5.trans (But.ofBelow hb)⟩
theorem SD.mr {w : World} {g : Nat} {S : Src} {n : ByteArray} {c : List PCol} {p : List PBy} {x : List (ByteArray × Bool × List PBy)} {st : Option (List Tok)} {W : World} (h : SD w g S n c p x st W) : MR g S st W := by
  obtain ⟨vc, vp, vi, A, C, h1, h2, h3, h4, h5⟩ := h.is
  exact h4
/-- A name. -/
theorem Sm.setName {n n' : ByteArray} {c : List PCol} {p : List PBy} {x : List (ByteArray × Bool × List PBy)} (h : Sm (mkDef n c p x)) (hn : n'.size ≤ 1000) : Sm (mkDef n' c p x) := ⟨hn, h.nc, h.col, h.np, h.ni, h.idx⟩
theorem SD.setName {w : World} {g : Nat} {S : Src} {n n' : ByteArray} {st : Option (List Tok)} {W : World} (h : SD w g S n [] [] [] st W) (hg : g < w.heap.size) (ht : S.tb < w.heap.size) (hn : n'.size ≤ 1000) : SD w g S n' [] [] [] st (W.setCell ⟨w.heap.size + 1, 0, none⟩ (.string n')) := by
  obtain ⟨vc, vp, vi, A, C, h1, h2, h3, h4, h5⟩ := h.is
  have e := h2.effSet 0 (.string n')
  have h3' := h3.eff e (by decide) (by decide) (by decide)
  exact ⟨vc, vp, vi, A, C, h1.other (by omega), h2.set0 _, ⟨h3'.cols, h3'.pri, h3'.idx, h3'.pts, h3'.sm.setName hn⟩, h4.own (by omega) (by omega) _, h5.own (by omega) _⟩
theorem mkDef_col (n : ByteArray) (c : List PCol) (p : List PBy) (x : List (ByteArray × Bool × List PBy)) (y : PCol) : { mkDef n c p x with nc := (mkDef n c p x).nc + 1, col := upd (mkDef n c p x).col (mkDef n c p x).nc y } = mkDef n (c ++ [y]) p x := by
  unfold mkDef
  rw [mkCol_snoc, List.length_append, List.length_singleton]
theorem mkDef_idx (n : ByteArray) (c : List PCol) (p : List PBy) (x : List (ByteArray × Bool × List PBy)) (y : ByteArray × Bool × List PBy) : { mkDef n c p x with ni := (mkDef n c p x).ni + 1, idx := upd (mkDef n c p x).idx (mkDef n c p x).ni ⟨y.1, y.2.1, y.2.2.length, mkBy y.2.2⟩ } = mkDef n c p (x ++ [y]) := by
  unfold mkDef
  rw [mkIdx_snoc, List.length_append, List.length_singleton]
theorem rows_empty (w W : World) (n : ByteArray) (hn : n.size ≤ 1000) : Tb w (.slice none 0 0) (.slice none 0 0) (.slice none 0 0) (mkDef n [] [] []) (fun _ => 0) (fun _ => 0) W :=
  ⟨own_nil9, own_nil9, own_nil9, Pts.none _ _ _ _ _ _, ⟨hn, Nat.zero_le _, fun _ hi => absurd hi (Nat.not_lt_zero _), Nat.zero_le _, Nat.zero_le _, fun _ hi => absurd hi (Nat.not_lt_zero _)⟩⟩

set_option maxHeartbeats 16000000 in
theorem l10Def_any {g : Nat} {S : Src} {st : Option (List Tok)} {w : World} (h : MR g S st w) :
    Calls Tryz.prog 43 #[.pointer (some ⟨g, 0, none⟩)] w fun e w' => ∃ (n : ByteArray) (c : List PCol) (p : List PBy) (x : List (ByteArray × Bool × List PBy)) (st' : Option (List Tok)) (vc vp vi : Value) (A C : Nat → Nat), e = .returned (.agg #[.string n, vc, vp, vi]) ∧ Tb w vc vp vi (mkDef n c p x) A C w' ∧ (st.bind defR = st'.map (fun r => (mkDef n c p x, r))) ∧ MR g S st' w' ∧ But g w w' := by
  obtain ⟨iC, hiC⟩ := infoCol9
  obtain ⟨iI, hiI⟩ := infoIdx9
  have hg := h.glt
  have ht := h.lt
  have hfew := h.few
  have hM := l10Must_any kTable ((h.new (.cells #[.string ⟨#[]⟩, .slice none 0 0, .slice none 0 0, .slice none 0 0] 35)).new (.cells #[.string ⟨#[]⟩, .slice none 0 0, .slice none 0 0, .slice none 0 0] 35))
  have S0 : SD w g S ⟨#[]⟩ [] [] [] st ((w.alloc (.cells #[.string ⟨#[]⟩, .slice none 0 0, .slice none 0 0, .slice none 0 0] 35)).alloc (.cells #[.string ⟨#[]⟩, .slice none 0 0, .slice none 0 0, .slice none 0 0] 35)) := by
    have hV := Vd.new (w := w) (W := w.alloc (.cells #[.string ⟨#[]⟩, .slice none 0 0, .slice none 0 0, .slice none 0 0] 35)) (by simp) (.string ⟨#[]⟩) (.slice none 0 0) (.slice none 0 0) (.slice none 0 0)
    rw [alloc_size9] at hV
    exact ⟨_, _, _, _, _, (V4.new w 35 _ _ _ _).below ((Below.refl _ _).alloc (Nat.le_refl _) _), hV, rows_empty _ _ _ (Nat.zero_le _), (h.new _).new _, ((But.refl _ _).new _).new _⟩
  have HDEF := fun c p x st1 st2 st3 => @defO_is st st1 st2 st3 c p x
  obtain ⟨TG, hTG⟩ : ∃ x, Hid (st.bind defR = x) := ⟨_, rfl⟩
  simp only [hTG.out] at HDEF
  rw [hTG.out]
  obtain ⟨sa, hsa⟩ : ∃ x, Hid (mustO kTable st = x) := ⟨_, rfl⟩
  simp only [hsa.out] at HDEF hM
  have hD0 : Hid (SD w g S ⟨#[]⟩ [] [] [] st ((w.alloc (.cells #[.string ⟨#[]⟩, .slice none 0 0, .slice none 0 0, .slice none 0 0] 35)).alloc (.cells #[.string ⟨#[]⟩, .slice none 0 0, .slice none 0 0, .slice none 0 0] 35))) := S0
  clear h S0
  go_enter Tryz.func43, Tryz.ntmps43
  go_wp2_with fail
  refine hM.mono ?_
  rintro e w1 ⟨rfl, M1, b1⟩
  have S1 := hD0.out.next hg M1 b1
  have hN := l10Name_any M1
  have hns := nameO_size M1
  obtain ⟨⟨nm, sb⟩, hnm⟩ : ∃ x, Hid (nameO sa = x) := ⟨_, rfl⟩
  simp only [hnm.out] at HDEF hN hns
  clear hM hD0 M1 b1
  go_wp2_with fail
  refine hN.mono ?_
  rintro e w2 ⟨rfl, M2, b2⟩
  have S2 := S1.next hg M2 b2
  obtain ⟨W3, hW3⟩ : ∃ W3, Hid (w2.setCell ⟨w.heap.size + 1, 0, none⟩ (.string nm) = W3) := ⟨_, rfl⟩
  have S3 := S2.setName hg ht (show nm.size ≤ 1000 by omega)
  rw [hW3.out] at S3
  obtain ⟨_, _, _, _, _, -, hvd, -, -, -⟩ := S2.is
  obtain ⟨x0, -, -, -⟩ := hvd.v.cells
  obtain ⟨z0, -, -, -⟩ := hvd.v.fz
  have hM := l10Must_any ⟨#[123]⟩ S3.mr
  obtain ⟨sc, hsc⟩ : ∃ x, Hid (mustO ⟨#[123]⟩ sb = x) := ⟨_, rfl⟩
  simp only [hsc.out] at HDEF hM
  clear hN S1 S2 M2 b2 hvd
  go_wp2_with (rw [hW3.out])
  refine hM.mono ?_
  rintro e w4 ⟨rfl, M4, b4⟩
  have S4 : Hid (SD w g S nm [] [] [] sc w4) := S3.next hg M4 b4
  have HDEF' : Hid _ := HDEF
  clear hM M4 b4 S3 HDEF x0 z0
  clear W3 hW3
  go_upto_block 0 with fail
  go_cut [] (fun wx => ∃ (c : List PCol) (st1 : Option (List Tok)), SD w g S nm c [] [] st1 wx ∧ Hid (sc.bind (fun l => colsR (l.length + 1) l) = st1.map (fun r => (c, r))))
  case first =>
    go_wp2
    go_loopg [] (sc.elim 0 (fun l => l.length + 1)) (fun q wr => ∃ (acc : List PCol) (stk : Option (List Tok)), q = stk.elim 0 (fun l => l.length + 1) ∧ SD w g S nm acc [] [] stk wr ∧ Hid (InvC (sc.bind (fun l => colsR (l.length + 1) l)) acc stk) ∧ Hid (cntP 500 acc stk))
    case atStart =>
      refine ⟨[], sc, rfl, S4.out, invC_start sc, ?_⟩
      cases sc with
      | none => exact Nat.zero_le _
      | some l =>
        obtain ⟨i, -, hi⟩ := S4.out.mr.row
        obtain ⟨-, rfl⟩ := hi l rfl
        show ([] : List PCol).length + (S.L.drop i).length ≤ 500
        rw [List.length_drop, List.length_nil]; omega
    case round =>
      clear S4
      obtain ⟨acc, stk, rfl, hS, HI, HC⟩ := hrel
      obtain ⟨pi, hrv, -⟩ := hS.mr.row
      obtain ⟨-, -, c2⟩ := hrv.cells
      cases stk with
      | none =>
        have c2' : wr.cell? ⟨g, 2, none⟩ = some (.bool true) := c2
        have HR : Hid (SD w g S nm acc [] [] none wr) := hS
        clear hS hrv c2
        go_wp2
        go_meet
        exact ⟨acc, none, HR.out, HI.out⟩
      | some l =>
        have c2' : wr.cell? ⟨g, 2, none⟩ = some (.bool false) := c2
        have hIs := l10Is_any kPrimary hS.mr
        have HS : Hid (SD w g S nm acc [] [] (some l) wr) := hS
        have HEN : Hid ((isR kPrimary l).1 = true → sc.bind (fun l => colsR (l.length + 1) l) = some (acc, (isR kPrimary l).2)) := fun h => invC_end HI.out h
        have HMI : Hid ((isR kPrimary l).1 = false → (isO kPrimary (some l)).2 = some l) := fun h => isO_miss h
        have HST : Hid ((isR kPrimary l).1 = false → ∀ (cc : PCol) (st' : Option (List Tok)), colR l = st'.map (fun r => (cc, r)) → InvC (sc.bind (fun l => colsR (l.length + 1) l)) (acc ++ [cc]) st' ∧ st'.elim 0 (fun l => l.length + 1) < l.length + 1 ∧ cntP 500 (acc ++ [cc]) st') := fun h cc st' hc => invC_step HI.out h hc HC.out
        have hlen := HC.out.le
        have e1 : (isO kPrimary (some l)).1 = (isR kPrimary l).1 := rfl
        have e2 : (isO kPrimary (some l)).2 = some (isR kPrimary l).2 := rfl
        rw [e1] at hIs
        rw [e2] at hIs HMI
        obtain ⟨⟨pb, pl⟩, hpb⟩ : ∃ x, Hid (isR kPrimary l = x) := ⟨_, rfl⟩
        simp only [hpb.out] at hIs HEN HMI HST
        clear hS hrv c2 e1 e2 HI HC
        go_wp2_with fail
        refine hIs.mono ?_
        rintro e w5 ⟨rfl, M5, b5⟩
        cases pb with
        | true =>
          have HR : Hid (SD w g S nm acc [] [] (some pl) w5) := HS.out.next hg M5 b5
          have HE : Hid (sc.bind (fun l => colsR (l.length + 1) l) = some (acc, pl)) := HEN.out rfl
          clear hIs M5 b5 HS HST HMI c2' HEN
          go_wp2
          go_meet
          exact ⟨acc, some pl, HR.out, HE.out⟩
        | false =>
          have hpl : some pl = some l := HMI.out rfl
          obtain rfl : pl = l := by simpa using hpl
          clear hpl
          have S5 := HS.out.next hg M5 b5
          have hCo := l10Col_any M5
          have hST := HST.out rfl _ _ (colO_is (some pl))
          have hnsz := nameO_size M5
          have HCN : Hid ((colO (some pl)).1.name.size ≤ 8) := hnsz
          obtain ⟨⟨⟨cn, ct, cz⟩, sx⟩, hcx⟩ : ∃ x, Hid (colO (some pl) = x) := ⟨_, rfl⟩
          simp only [hcx.out] at hCo hST HCN
          have HST' : Hid _ := hST
          have HS5 : Hid (SD w g S nm acc [] [] (some pl) w5) := S5
          clear hIs M5 b5 HS HST HMI HEN c2' S5 hST hnsz
          go_wp2_with fail
          refine hCo.mono ?_
          rintro e w6 ⟨rfl, M6, b6⟩
          have S6 := HS5.out.next hg M6 b6
          obtain ⟨vc, vp, vi, A, C, k1, k2, k3, k4, k5⟩ := S6.is
          have B7 : Below w6.heap.size w6 (w6.alloc (.cells #[.string cn, .int .i64 ct, .bool cz] 67)) := (Below.refl _ _).alloc (Nat.le_refl _) _
          have B8 : Below w6.heap.size w6 ((w6.alloc (.cells #[.string cn, .int .i64 ct, .bool cz] 67)).alloc (.cells #[.string cn, .int .i64 ct, .bool cz] 67)) := B7.alloc (by simp) _
          have k2' := k2.below B7
          obtain ⟨x0, x1, x2, x3⟩ := k2'.v.cells
          have k3' := k3.below B8
          have hO8 := k3'.cols
          have HOW := own_ge9 hO8
          have hcl := cells_col9 (w6.alloc (.cells #[.string cn, .int .i64 ct, .bool cz] 67)) cn ct cz
          have hsz := k5.size
          have HK : Hid (V4 w6 w.heap.size 35 (.string ⟨#[]⟩) (.slice none 0 0) (.slice none 0 0) (.slice none 0 0) ∧ Vd w (w.heap.size + 1) (.string nm) vc vp vi w6 ∧ Tb w vc vp vi (mkDef nm acc [] []) A C w6 ∧ MR g S sx w6 ∧ But g w w6) := ⟨k1, k2, k3, k4, k5⟩
          obtain ⟨N, hN⟩ : ∃ x, Hid (acc.length = x) := ⟨_, rfl⟩
          have HNN : Hid ((mkDef nm acc [] []).nc = N) := hN.out
          rw [HNN.out] at hO8
          rw [hN.out] at hlen
          clear hCo M6 b6 HS5 S6 k1 k2 k3 k4 k5 k2' k3' B7 B8
          rw [alloc_size9] at hcl
          go_wp2_with (at_builtin; refine wpList_append_own _ rfl (.tmp 28) (.tmp 30) 31 rfl w.heap.size 67 iC (.agg #[.string ⟨#[]⟩, .int .i64 0, .bool false]) 3 32 Tryz.underlying31 hiC.1 hiC.2.1 hiC.2.2.1 hiC.2.2.2 rfl (by decide) _ _ _ rfl hO8 ⟨w6.heap.size + 1, 0, none⟩ 1 1 [.string cn, .int .i64 ct, .bool cz] rfl rfl hcl (one_col9 _ _ _) (by unfold maxLen; omega) (by omega) (by simp; omega) ?_)
          intro v5 w9 hown5 hgr hnil
          have B8 : Below w6.heap.size w6 ((w6.alloc (.cells #[.string cn, .int .i64 ct, .bool cz] 67)).alloc (.cells #[.string cn, .int .i64 ct, .bool cz] 67)) := ((Below.refl _ _).alloc (Nat.le_refl _) _).alloc (by simp) _
          obtain ⟨k1, k2, k3, k4, k5⟩ := HK.out
          have k3' := k3.below B8
          have e9 : Eff w 67 _ w9 := Eff.grown k3'.cols hgr
          have T9 := k3'.addCol ⟨cn, ct, cz⟩ (by rw [HNN.out]; exact hown5) e9 (show cn.size ≤ 1000 by have := HCN.out; omega) (by rw [HNN.out]; omega)
          rw [mkDef_col] at T9
          have D9 := (k2.below B8).eff e9 (by decide)
          have M9 := (k4.below B8).eff e9 hg ht
          have R9 := (k1.below B8).block (e9.ty w.heap.size _ _ _ (k1.below B8).blk.choose_spec (by decide))
          have b9 := (k5.trans (But.ofBelow B8)).grownOwn hgr HOW
          obtain ⟨g', cap', rfl⟩ := own_succ9 hown5
          obtain ⟨-, y1, -, -⟩ := D9.v.cells
          obtain ⟨-, q1, -, -⟩ := D9.v.fz
          have ee := D9.effSet 1 (.slice (some ⟨g', 0, none⟩) (N + 1) cap')
          have HR : Hid (SD w g S nm (acc ++ [⟨cn, ct, cz⟩]) [] [] sx (w9.setCell ⟨w.heap.size + 1, 1, none⟩ (.slice (some ⟨g', 0, none⟩) (N + 1) cap'))) :=
            ⟨_, _, _, _, _, R9.other (by omega), D9.set1 _, T9.eff ee (by decide) (by decide) (by decide), M9.own (by omega) (by omega) _, b9.own (by omega) _⟩
          clear hown5 hgr hnil hO8 HOW hcl HK k1 k2 k3 k4 k5 k3' e9 T9 D9 M9 R9 b9 ee B8 x0 x1 x2 x3
          go_wp2
          go_roundg (sx.elim 0 (fun l => l.length + 1))
          case measure => exact HST'.out.2.1
          case rel => exact ⟨acc ++ [(⟨cn, ct, cz⟩ : PCol)], sx, rfl, HR.out, HST'.out.1, HST'.out.2.2⟩
  case rest =>
    clear S4 w4 w2 w1
    obtain ⟨c, st1, hS1, HE1⟩ := hcut
    obtain ⟨vc, vp, vi, A, C, k1, k2, k3, k4, k5⟩ := hS1.is
    have hP := l10Parts_any k4 k3 hg c rfl rfl
    obtain ⟨ac, cc, rfl, -, -⟩ := cview_of_own k3.cols
    obtain ⟨ap, cp, rfl, -, -⟩ := bview_of_own k3.pri
    obtain ⟨ai, ci, rfl, -, -⟩ := iview_of_own k3.idx (fun i hi => (k3.pts.at_ i hi).view)
    obtain ⟨x0, x1, x2, x3⟩ := k2.v.cells
    have HK : Hid (V4 wc w.heap.size 35 (.string ⟨#[]⟩) (.slice none 0 0) (.slice none 0 0) (.slice none 0 0) ∧ Vd w (w.heap.size + 1) (.string nm) (.slice ac (mkDef nm c [] []).nc cc) (.slice ap (mkDef nm c [] []).np cp) (.slice ai (mkDef nm c [] []).ni ci) wc ∧ Tb w (.slice ac (mkDef nm c [] []).nc cc) (.slice ap (mkDef nm c [] []).np cp) (.slice ai (mkDef nm c [] []).ni ci) (mkDef nm c [] []) A C wc ∧ But g w wc) := ⟨k1, k2, k3, k5⟩
    have hname : (mkDef nm c [] []).name = nm := rfl
    rw [hname] at hP
    obtain ⟨N1, hN1⟩ : ∃ x, Hid ((mkDef nm c [] []).nc = x) := ⟨_, rfl⟩
    obtain ⟨N2, hN2⟩ : ∃ x, Hid ((mkDef nm c [] []).np = x) := ⟨_, rfl⟩
    obtain ⟨N3, hN3⟩ : ∃ x, Hid ((mkDef nm c [] []).ni = x) := ⟨_, rfl⟩
    rw [hN1.out, hN2.out, hN3.out] at hP
    rw [hN1.out] at x1
    rw [hN2.out] at x2
    rw [hN3.out] at x3
    clear hS1 k1 k2 k3 k4 k5 hname
    go_wp2_with fail
    refine hP.mono ?_
    rintro e w5 ⟨p, st2, a, cap, rfl, hO5, hE2, M5, b5, hp5⟩
    have HE2 : Hid (st1.bind (fun l => partsR c (l.length + 1) l) = st2.map (fun r => (p, r))) := hE2
    obtain ⟨k1, k2, k3, k5⟩ := HK.out
    have D5 := k2.but b5 hg
    have e5 := D5.effSet 2 (.slice (some ⟨a, 0, none⟩) p.length cap)
    have T5 := (k3.but b5 hg).eff e5 (by decide) (by decide) (by decide)
    have O5 := own_eff (own_down9 hO5 k5.size) e5 (by decide)
    have T6 := T5.setPri p.length (mkBy p) O5 T5.cols T5.idx (Pts.none _ _ _ _ _ _) (by omega)
    have HS6 : Hid (SD w g S nm c p [] st2 (w5.setCell ⟨w.heap.size + 1, 2, none⟩ (.slice (some ⟨a, 0, none⟩) p.length cap))) :=
      ⟨_, _, _, _, _, (k1.but b5 (by omega)).other (by omega), D5.set2 _, T6, M5.own (by omega) (by omega) _, (k5.trans b5).own (by omega) _⟩
    obtain ⟨-, -, y2, -⟩ := D5.v.cells
    obtain ⟨-, -, q2, -⟩ := D5.v.fz
    obtain ⟨W6, hW6⟩ : ∃ W6, Hid (w5.setCell ⟨w.heap.size + 1, 2, none⟩ (.slice (some ⟨a, 0, none⟩) p.length cap) = W6) := ⟨_, rfl⟩
    rw [hW6.out] at HS6
    clear hP hO5 hE2 M5 b5 hp5 HK k1 k2 k3 k5 D5 e5 T5 O5 T6 x0 x1 x2 x3
    clear hN1 hN2 hN3
    go_upto_block 2 with (rw [hW6.out])
    clear y2 q2 hW6
    go_cut [] (fun wx => ∃ (x : List (ByteArray × Bool × List PBy)) (st3 : Option (List Tok)), SD w g S nm c p x st3 wx ∧ Hid (st2.bind (fun l => idxsR c (l.length + 1) l) = st3.map (fun r => (x, r))))
    case first =>
      clear HE1 HE2 HDEF'
      go_wp2
      go_loopg [] (st2.elim 0 (fun l => l.length + 1)) (fun q wr => ∃ (acc : List (ByteArray × Bool × List PBy)) (stk : Option (List Tok)), q = stk.elim 0 (fun l => l.length + 1) ∧ SD w g S nm c p acc stk wr ∧ Hid (InvI c (st2.bind (fun l => idxsR c (l.length + 1) l)) acc stk) ∧ Hid (cntP 500 acc stk))
      case atStart =>
        refine ⟨[], st2, rfl, HS6.out, invI_start c st2, ?_⟩
        cases st2 with
        | none => exact Nat.zero_le _
        | some l =>
          obtain ⟨i, -, hi⟩ := HS6.out.mr.row
          obtain ⟨-, rfl⟩ := hi l rfl
          show ([] : List (ByteArray × Bool × List PBy)).length + (S.L.drop i).length ≤ 500
          rw [List.length_drop, List.length_nil]; omega
      case round =>
        clear HS6
        obtain ⟨acc, stk, rfl, hS, HI, HC⟩ := hrel
        obtain ⟨pi, hrv, -⟩ := hS.mr.row
        obtain ⟨-, -, c2⟩ := hrv.cells
        cases stk with
        | none =>
          have c2' : wr.cell? ⟨g, 2, none⟩ = some (.bool true) := c2
          have HR : Hid (SD w g S nm c p acc none wr) := hS
          clear hS hrv c2
          go_wp2
          go_meet
          exact ⟨acc, none, HR.out, HI.out⟩
        | some l =>
          have c2' : wr.cell? ⟨g, 2, none⟩ = some (.bool false) := c2
          have hIs := l10Is_any ⟨#[125]⟩ hS.mr
          have HS : Hid (SD w g S nm c p acc (some l) wr) := hS
          have HEN : Hid ((isR ⟨#[125]⟩ l).1 = true → st2.bind (fun l => idxsR c (l.length + 1) l) = some (acc, (isR ⟨#[125]⟩ l).2)) := fun h => invI_end HI.out h
          have HMI : Hid ((isR ⟨#[125]⟩ l).1 = false → (isO ⟨#[125]⟩ (some l)).2 = some l) := fun h => isO_miss h
          have HST : Hid ((isR ⟨#[125]⟩ l).1 = false → ∀ (ps : List PBy) (st' : Option (List Tok)), (nameO (idxWO (some l))).2.bind (fun l => partsR c (l.length + 1) l) = st'.map (fun r => (ps, r)) → InvI c (st2.bind (fun l => idxsR c (l.length + 1) l)) (acc ++ [((nameO (idxWO (some l))).1, (isO kUnique (some l)).1, ps)]) st' ∧ st'.elim 0 (fun l => l.length + 1) < l.length + 1 ∧ cntP 500 (acc ++ [((nameO (idxWO (some l))).1, (isO kUnique (some l)).1, ps)]) st') := fun h ps st' hc => invI_step HI.out h hc HC.out
          have hlen := HC.out.le
          have e1 : (isO ⟨#[125]⟩ (some l)).1 = (isR ⟨#[125]⟩ l).1 := rfl
          have e2 : (isO ⟨#[125]⟩ (some l)).2 = some (isR ⟨#[125]⟩ l).2 := rfl
          rw [e1] at hIs
          rw [e2] at hIs HMI
          obtain ⟨⟨pb, pl⟩, hpb⟩ : ∃ x, Hid (isR ⟨#[125]⟩ l = x) := ⟨_, rfl⟩
          simp only [hpb.out] at hIs HEN HMI HST
          clear hS hrv c2 e1 e2 HI HC
          go_wp2_with fail
          refine hIs.mono ?_
          rintro e w5 ⟨rfl, M5, b5⟩
          cases pb with
          | true =>
            have HR : Hid (SD w g S nm c p acc (some pl) w5) := HS.out.next hg M5 b5
            have HE : Hid (st2.bind (fun l => idxsR c (l.length + 1) l) = some (acc, pl)) := HEN.out rfl
            clear hIs M5 b5 HS HST HMI c2' HEN
            go_wp2
            go_meet
            exact ⟨acc, some pl, HR.out, HE.out⟩
          | false =>
            have hpl : some pl = some l := HMI.out rfl
            obtain rfl : pl = l := by simpa using hpl
            clear hpl
            have S5 : Hid (SD w g S nm c p acc (some pl) w5) := HS.out.next hg M5 b5
            have hU := l10Is_any kUnique M5
            have hST := HST.out rfl
            have hWO : idxWO (some pl) = if (isO kUnique (some pl)).1 then (isO kUnique (some pl)).2 else mustO kIndex (isO kUnique (some pl)).2 := rfl
            obtain ⟨⟨ub, us⟩, hub⟩ : ∃ x, Hid (isO kUnique (some pl) = x) := ⟨_, rfl⟩
            obtain ⟨ws, hws⟩ : ∃ x, Hid (idxWO (some pl) = x) := ⟨_, rfl⟩
            simp only [hub.out, hws.out] at hU hST hWO
            have HWO : Hid (ws = if ub then us else mustO kIndex us) := hWO
            have HST' : Hid (∀ (ps : List PBy) (st' : Option (List Tok)), (nameO ws).2.bind (fun l => partsR c (l.length + 1) l) = st'.map (fun r => (ps, r)) → InvI c (st2.bind (fun l => idxsR c (l.length + 1) l)) (acc ++ [((nameO ws).1, ub, ps)]) st' ∧ st'.elim 0 (fun l => l.length + 1) < pl.length + 1 ∧ cntP 500 (acc ++ [((nameO ws).1, ub, ps)]) st') := hST
            clear hIs M5 b5 HS HST HMI HEN c2' hST hWO
            go_wp2_with fail
            refine hU.mono ?_
            rintro e w6 ⟨rfl, M6, b6⟩
            have S6 : Hid (SD w g S nm c p acc us w6) := S5.out.next hg M6 b6
            clear hU M6 b6 S5
            go_upto_if 50 with fail
            go_cut [] (fun wx => SD w g S nm c p acc ws wx)
            case first =>
              cases ub with
              | true =>
                have HR : Hid (SD w g S nm c p acc ws w6) := by
                  have e : ws = us := HWO.out
                  rw [e]; exact S6.out
                clear HST' HWO S6
                go_wp2
                go_meet
                exact HR.out
              | false =>
                have hMu := l10Must_any kIndex S6.out.mr
                have e : ws = mustO kIndex us := HWO.out
                rw [← e] at hMu
                clear HST' HWO
                go_wp2_with fail
                refine hMu.mono ?_
                rintro e' w7 ⟨rfl, M7, b7⟩
                have HR : Hid (SD w g S nm c p acc ws w7) := S6.out.next hg M7 b7
                clear hMu M7 b7 S6 e
                go_wp2
                go_meet
                exact HR.out
            case rest =>
              clear S6 w6 w5 HWO
              have S7 : Hid (SD w g S nm c p acc ws wc) := hcut
              clear hcut
              obtain ⟨vc, vp, vi, A, C, k1, k2, k3, k4, k5⟩ := S7.out.is
              have hX := l10Index_any k4 k3 hg c rfl rfl ub
              have HNS : Hid ((nameO ws).1.size ≤ 8) := nameO_size k4
              obtain ⟨ac, cc, rfl, -, -⟩ := cview_of_own k3.cols
              obtain ⟨ap, cp, rfl, -, -⟩ := bview_of_own k3.pri
              obtain ⟨ai, ci, rfl, -, -⟩ := iview_of_own k3.idx (fun i hi => (k3.pts.at_ i hi).view)
              obtain ⟨x0, x1, x2, x3⟩ := k2.v.cells
              have hname : (mkDef nm c p acc).name = nm := rfl
              rw [hname] at hX
              have HK : Hid (V4 wc w.heap.size 35 (.string ⟨#[]⟩) (.slice none 0 0) (.slice none 0 0) (.slice none 0 0) ∧ Vd w (w.heap.size + 1) (.string nm) (.slice ac (mkDef nm c p acc).nc cc) (.slice ap (mkDef nm c p acc).np cp) (.slice ai (mkDef nm c p acc).ni ci) wc ∧ Tb w (.slice ac (mkDef nm c p acc).nc cc) (.slice ap (mkDef nm c p acc).np cp) (.slice ai (mkDef nm c p acc).ni ci) (mkDef nm c p acc) A C wc ∧ But g w wc) := ⟨k1, k2, k3, k5⟩
              obtain ⟨N1, hN1⟩ : ∃ x', Hid ((mkDef nm c p acc).nc = x') := ⟨_, rfl⟩
              obtain ⟨N2, hN2⟩ : ∃ x', Hid ((mkDef nm c p acc).np = x') := ⟨_, rfl⟩
              obtain ⟨N3, hN3⟩ : ∃ x', Hid ((mkDef nm c p acc).ni = x') := ⟨_, rfl⟩
              rw [hN1.out, hN2.out, hN3.out] at hX
              rw [hN1.out] at x1
              rw [hN2.out] at x2
              rw [hN3.out] at x3
              rw [hN1.out, hN2.out, hN3.out] at HK
              have HN3 : Hid (acc.length = N3) := hN3.out
              rw [HN3.out] at hlen
              clear k1 k2 k3 k4 k5 S7 hname
              go_wp2_with fail
              refine hX.mono ?_
              rintro e w8 ⟨ps, sx, a, cap, rfl, hO8, hE8, M8, b8, hp8⟩
              have HST2 : Hid _ := HST'.out ps sx hE8
              obtain ⟨⟨nx, sy⟩, hnx⟩ : ∃ x, Hid (nameO ws = x) := ⟨_, rfl⟩
              simp only [hnx.out] at HST2 HNS ⊢
              obtain ⟨k1, k2, k3, k5⟩ := HK.out
              have D8 := k2.but b8 hg
              have T8 := k3.but b8 hg
              have R8 := k1.but b8 (by omega)
              have B8 := k5.trans b8
              have hap : (Value.slice ap N2 cp).ownBlock ≠ some a := by
                intro e
                have h1 := k3.pri
                rcases h1.2 with ⟨e1, _⟩ | ⟨g1, c1, cur, e1, _, hg1, _⟩
                · rw [e1] at e; simp [Value.ownBlock] at e
                · rw [e1] at e
                  have h2 : g1 = a := by simpa [Value.ownBlock] using e
                  have h3 := (Array.getElem?_eq_some_iff.1 hg1).1
                  have h4 := (own_lt9 hO8).2
                  omega
              have P8 : PtAt w a cap ⟨nx, ub, ps.length, mkBy ps⟩ w8 := ptAt_of hO8 k5.size
              have B9 : Below w8.heap.size w8 (w8.alloc (.cells #[.string nx, .bool ub, .slice (some ⟨a, 0, none⟩) ps.length cap] 73)) := (Below.refl _ _).alloc (Nat.le_refl _) _
              have B10 : Below w8.heap.size w8 ((w8.alloc (.cells #[.string nx, .bool ub, .slice (some ⟨a, 0, none⟩) ps.length cap] 73)).alloc (.cells #[.string nx, .bool ub, .slice (some ⟨a, 0, none⟩) ps.length cap] 73)) := B9.alloc (by simp) _
              have D9 := D8.below B9
              have T10 := T8.below B10
              have hO10 := T10.idx
              rw [hN3.out] at hO10
              have HOW := own_ge9 hO10
              have hcl := cells_idx9 (w8.alloc (.cells #[.string nx, .bool ub, .slice (some ⟨a, 0, none⟩) ps.length cap] 73)) nx ub (some ⟨a, 0, none⟩) ps.length cap
              rw [alloc_size9] at hcl
              have hsz := B8.size
              have HK8 : Hid (V4 w8 w.heap.size 35 (.string ⟨#[]⟩) (.slice none 0 0) (.slice none 0 0) (.slice none 0 0) ∧ Vd w (w.heap.size + 1) (.string nm) (.slice ac N1 cc) (.slice ap N2 cp) (.slice ai N3 ci) w8 ∧ Tb w (.slice ac N1 cc) (.slice ap N2 cp) (.slice ai N3 ci) (mkDef nm c p acc) A C w8 ∧ But g w w8 ∧ MR g S sx w8 ∧ PtAt w a cap ⟨nx, ub, ps.length, mkBy ps⟩ w8 ∧ (Value.slice ap N2 cp).ownBlock ≠ some a ∧ ps.length ≤ 501) := ⟨R8, D8, T8, B8, M8, P8, hap, hp8⟩
              clear x0 x1 x2 x3
              obtain ⟨x0, x1, x2, x3⟩ := D9.v.cells
              clear hX hO8 hE8 M8 b8 hp8 HK k1 k2 k3 k5 D8 T8 R8 B8 hap P8 B9 B10 D9 T10 HST'
              go_wp2_with (at_builtin; refine wpList_append_own _ rfl (.tmp 58) (.tmp 60) 33 rfl w.heap.size 73 iI (.agg #[.string ⟨#[]⟩, .bool false, .slice none 0 0]) 3 48 Tryz.underlying33 hiI.1 hiI.2.1 hiI.2.2.1 hiI.2.2.2 rfl (by decide) _ _ _ rfl hO10 ⟨w8.heap.size + 1, 0, none⟩ 1 1 [.string nx, .bool ub, .slice (some ⟨a, 0, none⟩) ps.length cap] rfl rfl hcl (one_idx9 _ _ _ _ _) (by unfold maxLen; omega) (by omega) (by simp; omega) ?_)
              intro v5 w9 hown5 hgr hnil
              have B10 : Below w8.heap.size w8 ((w8.alloc (.cells #[.string nx, .bool ub, .slice (some ⟨a, 0, none⟩) ps.length cap] 73)).alloc (.cells #[.string nx, .bool ub, .slice (some ⟨a, 0, none⟩) ps.length cap] 73)) := ((Below.refl _ _).alloc (Nat.le_refl _) _).alloc (by simp) _
              obtain ⟨k1, k2, k3, k5, k4, k6, k7, k8⟩ := HK8.out
              have k3' := k3.below B10
              have e9 : Eff w 73 _ w9 := Eff.grown k3'.idx hgr
              have T9 := k3'.addIdx ⟨nx, ub, ps.length, mkBy ps⟩ a cap (by rw [hN3.out]; exact hown5) ⟨own_belowG k6.own B10⟩ k7 e9 ⟨show nx.size ≤ 1000 by have := HNS.out; omega, show ps.length ≤ 1000 by omega⟩ (by rw [hN3.out]; omega)
              have T9' := (mkDef_idx nm c p acc (nx, ub, ps)) ▸ T9
              have D9 := (k2.below B10).eff e9 (by decide)
              have M9 := (k4.below B10).eff e9 hg ht
              have R9 := (k1.below B10).block (e9.ty w.heap.size _ _ _ (k1.below B10).blk.choose_spec (by decide))
              have b9 := (k5.trans (But.ofBelow B10)).grownOwn hgr HOW
              obtain ⟨g', cap', rfl⟩ := own_succ9 hown5
              obtain ⟨-, -, -, y3⟩ := D9.v.cells
              obtain ⟨-, -, -, q3⟩ := D9.v.fz
              have ee := D9.effSet 3 (.slice (some ⟨g', 0, none⟩) (N3 + 1) cap')
              have HR : Hid (SD w g S nm c p (acc ++ [(nx, ub, ps)]) sx (w9.setCell ⟨w.heap.size + 1, 3, none⟩ (.slice (some ⟨g', 0, none⟩) (N3 + 1) cap'))) :=
                ⟨_, _, _, _, _, R9.other (by omega), D9.set3 _, T9'.eff ee (by decide) (by decide) (by decide), M9.own (by omega) (by omega) _, b9.own (by omega) _⟩
              clear hown5 hgr hnil hO10 HOW hcl HK8 k1 k2 k3 k4 k5 k6 k7 k8 k3' e9 T9 T9' D9 M9 R9 b9 ee B10 x0 x1 x2 x3
              go_wp2
              go_roundg (sx.elim 0 (fun l => l.length + 1))
              case measure => exact HST2.out.2.1
              case rel => exact ⟨acc ++ [(nx, ub, ps)], sx, rfl, HR.out, HST2.out.1, HST2.out.2.2⟩
    case rest =>
      clear HS6
      obtain ⟨x, st3, hS7, HE3⟩ := hcut
      obtain ⟨vc, vp, vi, A, C, k1, k2, k3, k4, k5⟩ := hS7.is
      have HTG : Hid (TG = st3.map (fun r => (mkDef nm c p x, r))) := HDEF'.out c p x st1 st2 st3 HE1.out HE2.out HE3.out
      obtain ⟨ac, cc, rfl, -, -⟩ := cview_of_own k3.cols
      obtain ⟨ap, cp, rfl, -, -⟩ := bview_of_own k3.pri
      obtain ⟨ai, ci, rfl, -, -⟩ := iview_of_own k3.idx (fun i hi => (k3.pts.at_ i hi).view)
      have HT : Hid (Tb w (.slice ac (mkDef nm c p x).nc cc) (.slice ap (mkDef nm c p x).np cp) (.slice ai (mkDef nm c p x).ni ci) (mkDef nm c p x) A C wc) := k3
      have HMB : Hid (MR g S st3 wc ∧ But g w wc) := ⟨k4, k5⟩
      obtain ⟨x0, x1, x2, x3⟩ := k2.v.cells
      obtain ⟨y0, y1, y2, y3⟩ := k1.cells
      obtain ⟨q0, q1, q2, q3⟩ := k1.fz
      obtain ⟨N1, hN1⟩ : ∃ x', Hid ((mkDef nm c p x).nc = x') := ⟨_, rfl⟩
      obtain ⟨N2, hN2⟩ : ∃ x', Hid ((mkDef nm c p x).np = x') := ⟨_, rfl⟩
      obtain ⟨N3, hN3⟩ : ∃ x', Hid ((mkDef nm c p x).ni = x') := ⟨_, rfl⟩
      rw [hN1.out] at x1
      rw [hN2.out] at x2
      rw [hN3.out] at x3
      rw [hN1.out, hN2.out, hN3.out] at HT
      have R2 := (((k1.set0 (.string nm)).set1 (.slice ac N1 cc)).set2 (.slice ap N2 cp)).set3 (.slice ai N3 ci)
      obtain ⟨r0, r1, r2, r3⟩ := R2.cells
      have hVd : Vd w w.heap.size (.string ⟨#[]⟩) (.slice none 0 0) (.slice none 0 0) (.slice none 0 0) wc := ⟨k1, Nat.le_refl _⟩
      have f0 := hVd.effSet 0 (.string nm)
      have f1 := (hVd.set0 (.string nm)).effSet 1 (.slice ac N1 cc)
      have f2 := ((hVd.set0 (.string nm)).set1 (.slice ac N1 cc)).effSet 2 (.slice ap N2 cp)
      have f3 := (((hVd.set0 (.string nm)).set1 (.slice ac N1 cc)).set2 (.slice ap N2 cp)).effSet 3 (.slice ai N3 ci)
      have ff := ((f0.trans f1).trans f2).trans f3
      have HF : Hid (Tb w (.slice ac N1 cc) (.slice ap N2 cp) (.slice ai N3 ci) (mkDef nm c p x) A C ((((wc.setCell ⟨w.heap.size, 0, none⟩ (.string nm)).setCell ⟨w.heap.size, 1, none⟩ (.slice ac N1 cc)).setCell ⟨w.heap.size, 2, none⟩ (.slice ap N2 cp)).setCell ⟨w.heap.size, 3, none⟩ (.slice ai N3 ci)) ∧ MR g S st3 ((((wc.setCell ⟨w.heap.size, 0, none⟩ (.string nm)).setCell ⟨w.heap.size, 1, none⟩ (.slice ac N1 cc)).setCell ⟨w.heap.size, 2, none⟩ (.slice ap N2 cp)).setCell ⟨w.heap.size, 3, none⟩ (.slice ai N3 ci)) ∧ But g w ((((wc.setCell ⟨w.heap.size, 0, none⟩ (.string nm)).setCell ⟨w.heap.size, 1, none⟩ (.slice ac N1 cc)).setCell ⟨w.heap.size, 2, none⟩ (.slice ap N2 cp)).setCell ⟨w.heap.size, 3, none⟩ (.slice ai N3 ci))) :=
        ⟨HT.out.eff ff (by decide) (by decide) (by decide), HMB.out.1.eff ff hg ht, (((HMB.out.2.own (Nat.le_refl _) _).own (Nat.le_refl _) _).own (Nat.le_refl _) _).own (Nat.le_refl _) _⟩
      clear hS7 k1 k2 k3 k4 k5 HT HMB R2 hVd f0 f1 f2 f3 ff HE1 HE2 HE3 HDEF' hN1 hN2 hN3
      go_wp2
      refine bodyPost_ret (v := .agg #[.string nm, .slice ac N1 cc, .slice ap N2 cp, .slice ai N3 ci]) (by simp [results, Tryz.results43, go_sem, r0, r1, r2, r3]) rfl ⟨nm, c, p, x, st3, _, _, _, A, C, rfl, HF.out.1, HTG.out, HF.out.2.1, HF.out.2.2⟩
end Go.Proofs.YtnpfgamlncfikaaGreatDoor

