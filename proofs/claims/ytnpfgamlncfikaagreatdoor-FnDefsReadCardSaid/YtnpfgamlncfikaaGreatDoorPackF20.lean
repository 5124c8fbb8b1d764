/-
  Together: MCol, MParts
-/
import Derived.Test.YtnpfgamlncfikaaGreatDoorPackF19
import Derived.Deep.LoopGhost
import Derived.Test.YtnpfgamlncfikaaGreatDoorPackF11
import Derived.Test.YtnpfgamlncfikaaGreatDoorPackF6
import Derived.Test.YtnpfgamlncfikaaGreatDoorPackF12
import Derived.Deep.RegionHeld3
/-
  spec.l10Col, walked.
-/
namespace Go.Proofs.YtnpfgamlncfikaaGreatDoor
open Go.RowKit
set_option maxRecDepth 4000

/-- The type, from the k-th on. -/
def typeO (st : Option (List Tok)) : Nat → Nat → Int × Option (List Tok)
  | 0, _ => (0, st)
  | m + 1, k => if (isO (typeW k) st).1 then ((k : Int), (isO (typeW k) st).2) else typeO st m (k + 1)
theorem typeO_is (st : Option (List Tok)) : typeO st 4 1 = (match st with | none => (0, none) | some l => ((typeR l).1, some (typeR l).2)) := by
  cases st with
  | none => rfl
  | some l =>
    simp only [typeO, isO, typeR]
    by_cases h1 : (isR (typeW 1) l).1 = true
    · simp [h1]
    by_cases h2 : (isR (typeW 2) l).1 = true
    · simp [h1, h2]
    by_cases h3 : (isR (typeW 3) l).1 = true
    · simp [h1, h2, h3]
    by_cases h4 : (isR (typeW 4) l).1 = true
    · simp [h1, h2, h3, h4]
    · simp [h1, h2, h3, h4]
theorem isO_miss {s : ByteArray} {st : Option (List Tok)} (h : (isO s st).1 = false) : (isO s st).2 = st := by
  cases st with
  | none => rfl
  | some l =>
    have := isR_false (s := s) (l := l) (r := (isR s l).2) (by
      have h' : (isR s l).1 = false := h
      rw [← h'])
    show some (isR s l).2 = some l
    rw [this]
/-- What l10Col comes to. -/
def colO (st : Option (List Tok)) : PCol × Option (List Tok) :=
  (⟨(nameO st).1, (typeO (nameO st).2 4 1).1, (isO kNull (typeO (nameO st).2 4 1).2).1⟩, mustO ⟨#[59]⟩ (isO kNull (typeO (nameO st).2 4 1).2).2)
theorem colO_is (st : Option (List Tok)) : st.bind colR = (colO st).2.map (fun r => ((colO st).1, r)) := by
  cases st with
  | none => rfl
  | some l =>
    have h := nameO_is (some l)
    have h1 : nameR l = (nameO (some l)).2.map (fun r => ((nameO (some l)).1, r)) := h
    show colR l = _
    unfold colR colO
    rw [h1]
    generalize nameO (some l) = p
    obtain ⟨n, st1⟩ := p
    cases st1 with
    | none => rfl
    | some l1 =>
      rw [typeO_is]
      simp only [Option.map_some, Option.bind_eq_bind, Option.bind_some, isO, mustO]
      cases mustR ⟨#[59]⟩ (isR kNull (typeR l1).2).2 with
      | none => rfl
      | some r => rfl
theorem nameO_size {g : Nat} {S : Src} {st : Option (List Tok)} {w : World} (h : MR g S st w) : (nameO st).1.size ≤ 8 := by
  cases st with
  | none => exact Nat.zero_le _
  | some l =>
    obtain ⟨i, -, hi⟩ := h.row
    obtain ⟨-, rfl⟩ := hi l rfl
    unfold nameO
    cases e : nameR (S.L.drop i) with
    | none => simp only [e]; exact Nat.zero_le _
    | some x =>
      obtain ⟨n, r⟩ := x
      simp only [e]
      have e2 := nameR_some e
      have hm : tN n ∈ S.L := List.mem_of_mem_drop (i := i) (by rw [e2]; exact List.mem_cons_self ..)
      have := h.ok _ hm
      simp only [tN, tokOk, if_true] at this
      unfold nameOk at this
      exact (of_decide_eq_true this).2.1

set_option maxHeartbeats 4000000 in
theorem l10Col_any {g : Nat} {S : Src} {st : Option (List Tok)} {w : World} (h : MR g S st w) :
    Calls Tryz.prog 83 #[.pointer (some ⟨g, 0, none⟩)] w fun e w' => e = .returned (.agg #[.string (colO st).1.name, .int .i64 (colO st).1.type, .bool (colO st).1.null]) ∧ MR g S (colO st).2 w' ∧ But g w w' := by
  have hg := h.glt
  have ht := h.lt
  have hN := l10Name_any ((h.new (.cells #[.string ⟨#[]⟩, .int .i64 0, .bool false] 67)).new (.cells #[.string ⟨#[]⟩, .int .i64 0, .bool false] 67))
  have X0 := V3.new (w.alloc (.cells #[.string ⟨#[]⟩, .int .i64 0, .bool false] 67)) 67 (.string ⟨#[]⟩) (.int .i64 0) (.bool false)
  have R0 := (V3.new w 67 (.string ⟨#[]⟩) (.int .i64 0) (.bool false)).below ((Below.refl _ _).alloc (Nat.le_refl _) (.cells #[.string ⟨#[]⟩, .int .i64 0, .bool false] 67))
  have B0 : But g w ((w.alloc (.cells #[.string ⟨#[]⟩, .int .i64 0, .bool false] 67)).alloc (.cells #[.string ⟨#[]⟩, .int .i64 0, .bool false] 67)) := ((But.refl _ _).new _).new _
  simp only [alloc_size9] at X0
  have HC1 : Hid ((colO st).1 = ⟨(nameO st).1, (typeO (nameO st).2 4 1).1, (isO kNull (typeO (nameO st).2 4 1).2).1⟩) := rfl
  have HC2 : Hid ((colO st).2 = mustO ⟨#[59]⟩ (isO kNull (typeO (nameO st).2 4 1).2).2) := rfl
  obtain ⟨⟨cn, ct, cz⟩, hcc⟩ : ∃ x, Hid ((colO st).1 = x) := ⟨_, rfl⟩
  obtain ⟨sF, hsF⟩ : ∃ x, Hid ((colO st).2 = x) := ⟨_, rfl⟩
  rw [hcc.out] at HC1 ⊢
  rw [hsF.out] at HC2 ⊢
  obtain ⟨⟨nm, st1⟩, hnm⟩ : ∃ x, Hid (nameO st = x) := ⟨_, rfl⟩
  simp only [hnm.out] at hN
  have HC1' : Hid ((⟨cn, ct, cz⟩ : PCol) = ⟨nm, (typeO st1 4 1).1, (isO kNull (typeO st1 4 1).2).1⟩) := by
    have := HC1.out; rw [hnm.out] at this; exact this
  have HC2' : Hid (sF = mustO ⟨#[59]⟩ (isO kNull (typeO st1 4 1).2).2) := by
    have := HC2.out; rw [hnm.out] at this; exact this
  clear HC1 HC2 h hcc hsF hnm
  go_enter Tryz.func83, Tryz.ntmps83
  go_wp2_with fail
  refine hN.mono ?_
  rintro e w1 ⟨rfl, M1, b1⟩
  have X1 := X0.but b1 (by omega)
  have R1 := R0.but b1 (by omega)
  have B1 := B0.trans b1
  clear hN X0 R0 B0 b1
  obtain ⟨-, x1, x2⟩ := X1.cells
  obtain ⟨p0, p1, p2⟩ := X1.fz
  obtain ⟨x0, -, -⟩ := X1.cells
  obtain ⟨W2, hW2⟩ : ∃ W2, Hid (w1.setCell ⟨w.heap.size + 1, 0, none⟩ (.string nm) = W2) := ⟨_, rfl⟩
  have X2 := X1.set0 (.string nm)
  have R2 := R1.other (C := w.heap.size + 1) (i := 0) (u := .string nm) (by omega)
  have B2 := B1.own (B := w.heap.size + 1) (i := 0) (by omega) (.string nm)
  have M2 := M1.own (B := w.heap.size + 1) (i := 0) (by omega) (by omega) (.string nm)
  rw [hW2.out] at X2 R2 B2 M2
  clear X1 R1 B1 M1
  go_wp2_with (rw [hW2.out])
  go_loopg [4] 5 (fun q i wr => ∃ k : Nat, 1 ≤ k ∧ k ≤ 5 ∧ q = 6 - k ∧ i = .int .i64 k ∧ MR g S st1 wr ∧ But g w wr ∧ V3 wr (w.heap.size + 1) 67 (.string nm) (.int .i64 0) (.bool false) ∧ V3 wr w.heap.size 67 (.string ⟨#[]⟩) (.int .i64 0) (.bool false) ∧ Hid (typeO st1 4 1 = typeO st1 (5 - k) k))
  case atStart => exact ⟨1, Nat.le_refl _, by omega, rfl, rfl, M2, B2, X2, R2, rfl⟩
  case round =>
    clear M2 B2 X2 R2 x0 x1 x2 p0 p1 p2
    obtain ⟨k, hk1, hk5, rfl, rfl, M, B, X, R, HT⟩ := hrel
    by_cases hk : k ≤ 4
    · have hkz : (k : Int) ≤ 4 := by omega
      have hTy := l9Type_any k wr (by omega) hkz
      go_wp2_with fail
      refine hTy.mono ?_
      rintro e w3 ⟨rfl, b3⟩
      have M3 := M.below b3
      have B3 := B.trans (But.ofBelow b3)
      have X3 := X.below b3
      have R3 := R.below b3
      have hIs := l10Is_any (typeW k) M3
      have HU : Hid (typeO st1 (5 - k) k = if (isO (typeW k) st1).1 then ((k : Int), (isO (typeW k) st1).2) else typeO st1 (4 - k) (k + 1)) := by
        show _ = _
        rw [show 5 - k = (4 - k) + 1 by omega, typeO]
      have HMS := fun h => isO_miss (s := typeW k) (st := st1) h
      obtain ⟨⟨ib, is⟩, his⟩ : ∃ x, Hid (isO (typeW k) st1 = x) := ⟨_, rfl⟩
      simp only [his.out] at hIs HU HMS
      clear hTy M B X R b3
      go_wp2_with fail
      refine hIs.mono ?_
      rintro e w4 ⟨rfl, M4, b4⟩
      have B4 := B3.trans b4
      have X4 := X3.but b4 (by omega)
      have R4 := R3.but b4 (by omega)
      clear hIs M3 B3 X3 R3 b4
      cases ib with
      | true =>
        have HTY : Hid (typeO st1 4 1 = ((k : Int), is)) := by show _ = _; rw [HT.out, HU.out]; rfl
        have X5 := X4.set1 (.int .i64 k)
        have R5 := R4.other (C := w.heap.size + 1) (i := 1) (u := .int .i64 k) (by omega)
        have B5 := B4.own (B := w.heap.size + 1) (i := 1) (by omega) (.int .i64 k)
        have M5 := M4.own (B := w.heap.size + 1) (i := 1) (by omega) (by omega) (.int .i64 k)
        obtain ⟨W5, hW5⟩ : ∃ W5, Hid (w4.setCell ⟨w.heap.size + 1, 1, none⟩ (.int .i64 k) = W5) := ⟨_, rfl⟩
        obtain ⟨-, x1, -⟩ := X4.cells
        obtain ⟨-, p1, -⟩ := X4.fz
        rw [hW5.out] at X5 R5 B5 M5
        have hIs := l10Is_any kNull M5
        obtain ⟨⟨zb, zs⟩, hzs⟩ : ∃ x, Hid (isO kNull is = x) := ⟨_, rfl⟩
        simp only [hzs.out] at hIs
        have HF1 : Hid ((⟨cn, ct, cz⟩ : PCol) = ⟨nm, (k : Int), zb⟩) := by have := HC1'.out; rw [HTY.out, hzs.out] at this; exact this
        have HF2 : Hid (sF = mustO ⟨#[59]⟩ zs) := by have := HC2'.out; rw [HTY.out, hzs.out] at this; exact this
        clear X4 R4 B4 M4 M5 HC1' HC2' HT HU HMS HTY
        go_wp2_with (rw [hW5.out])
        refine hIs.mono ?_
        rintro e w6 ⟨rfl, M6, b6⟩
        have B6 := B5.trans b6
        have X6 := X5.but b6 (by omega)
        have R6 := R5.but b6 (by omega)
        have X7 := X6.set2 (.bool zb)
        have R7 := R6.other (C := w.heap.size + 1) (i := 2) (u := .bool zb) (by omega)
        have B7 := B6.own (B := w.heap.size + 1) (i := 2) (by omega) (.bool zb)
        have M7 := M6.own (B := w.heap.size + 1) (i := 2) (by omega) (by omega) (.bool zb)
        obtain ⟨W7, hW7⟩ : ∃ W7, Hid (w6.setCell ⟨w.heap.size + 1, 2, none⟩ (.bool zb) = W7) := ⟨_, rfl⟩
        clear x1 p1
        obtain ⟨-, -, x2⟩ := X6.cells
        obtain ⟨-, -, p2⟩ := X6.fz
        rw [hW7.out] at X7 R7 B7 M7
        have hMu := l10Must_any ⟨#[59]⟩ M7
        rw [← HF2.out] at hMu
        clear hIs X5 R5 B5 X6 R6 B6 M6 b6 M7
        go_wp2_with (rw [hW7.out])
        refine hMu.mono ?_
        rintro e w8 ⟨rfl, M8, b8⟩
        have B8 := B7.trans b8
        have X8 := X7.but b8 (by omega)
        have R8 := R7.but b8 (by omega)
        clear hMu X7 R7 B7 b8 x2 p2
        obtain ⟨x0, x1, x2⟩ := X8.cells
        obtain ⟨y0, y1, y2⟩ := R8.cells
        obtain ⟨q0, q1, q2⟩ := R8.fz
        have R9 := ((R8.set0 (.string nm)).set1 (.int .i64 k)).set2 (.bool zb)
        obtain ⟨r0, r1, r2⟩ := R9.cells
        have HB9 : Hid (But g w (((w8.setCell ⟨w.heap.size, 0, none⟩ (.string nm)).setCell ⟨w.heap.size, 1, none⟩ (.int .i64 k)).setCell ⟨w.heap.size, 2, none⟩ (.bool zb)) ∧ MR g S sF (((w8.setCell ⟨w.heap.size, 0, none⟩ (.string nm)).setCell ⟨w.heap.size, 1, none⟩ (.int .i64 k)).setCell ⟨w.heap.size, 2, none⟩ (.bool zb))) :=
          ⟨((B8.own (Nat.le_refl _) _).own (Nat.le_refl _) _).own (Nat.le_refl _) _, ((M8.own (by omega) (by omega) _).own (by omega) (by omega) _).own (by omega) (by omega) _⟩
        clear R8 X8 B8 M8 R9
        go_wp2
        refine bodyPost_ret (v := .agg #[.string nm, .int .i64 k, .bool zb]) (by simp [results, Tryz.results83, go_sem, r0, r1, r2]) rfl ⟨?_, HB9.out.2, HB9.out.1⟩
        have := HF1.out
        cases this
        rfl
      | false =>
        obtain rfl : is = st1 := HMS rfl
        have HT' : Hid (typeO is 4 1 = typeO is (5 - (k + 1)) (k + 1)) := by
          show _ = _
          rw [HT.out, HU.out, show 5 - (k + 1) = 4 - k by omega]
          rfl
        clear HT HU HMS
        go_wp2
        go_roundg (6 - (k + 1))
        case measure => omega
        case rel => exact ⟨k + 1, by omega, by omega, rfl, by go_num, M4, B4, X4, R4, HT'⟩
    · have hkz : ¬ (k : Int) ≤ 4 := by omega
      obtain rfl : k = 5 := by omega
      have HTY : Hid (typeO st1 4 1 = (0, st1)) := by show _ = _; rw [HT.out]; rfl
      have hIs := l10Is_any kNull M
      obtain ⟨⟨zb, zs⟩, hzs⟩ : ∃ x, Hid (isO kNull st1 = x) := ⟨_, rfl⟩
      simp only [hzs.out] at hIs
      have HF1 : Hid ((⟨cn, ct, cz⟩ : PCol) = ⟨nm, 0, zb⟩) := by have := HC1'.out; rw [HTY.out, hzs.out] at this; exact this
      have HF2 : Hid (sF = mustO ⟨#[59]⟩ zs) := by have := HC2'.out; rw [HTY.out, hzs.out] at this; exact this
      clear M HC1' HC2' HT HTY
      go_wp2_with fail
      refine hIs.mono ?_
      rintro e w6 ⟨rfl, M6, b6⟩
      have B6 := B.trans b6
      have X6 := X.but b6 (by omega)
      have R6 := R.but b6 (by omega)
      have X7 := X6.set2 (.bool zb)
      have R7 := R6.other (C := w.heap.size + 1) (i := 2) (u := .bool zb) (by omega)
      have B7 := B6.own (B := w.heap.size + 1) (i := 2) (by omega) (.bool zb)
      have M7 := M6.own (B := w.heap.size + 1) (i := 2) (by omega) (by omega) (.bool zb)
      obtain ⟨W7, hW7⟩ : ∃ W7, Hid (w6.setCell ⟨w.heap.size + 1, 2, none⟩ (.bool zb) = W7) := ⟨_, rfl⟩
      obtain ⟨-, -, x2⟩ := X6.cells
      obtain ⟨-, -, p2⟩ := X6.fz
      rw [hW7.out] at X7 R7 B7 M7
      have hMu := l10Must_any ⟨#[59]⟩ M7
      rw [← HF2.out] at hMu
      clear hIs X R B X6 R6 B6 M6 b6 M7
      go_wp2_with (rw [hW7.out])
      refine hMu.mono ?_
      rintro e w8 ⟨rfl, M8, b8⟩
      have B8 := B7.trans b8
      have X8 := X7.but b8 (by omega)
      have R8 := R7.but b8 (by omega)
      clear hMu X7 R7 B7 b8 x2 p2
      obtain ⟨x0, x1, x2⟩ := X8.cells
      obtain ⟨y0, y1, y2⟩ := R8.cells
      obtain ⟨q0, q1, q2⟩ := R8.fz
      have R9 := ((R8.set0 (.string nm)).set1 (.int .i64 0)).set2 (.bool zb)
      obtain ⟨r0, r1, r2⟩ := R9.cells
      have HB9 : Hid (But g w (((w8.setCell ⟨w.heap.size, 0, none⟩ (.string nm)).setCell ⟨w.heap.size, 1, none⟩ (.int .i64 0)).setCell ⟨w.heap.size, 2, none⟩ (.bool zb)) ∧ MR g S sF (((w8.setCell ⟨w.heap.size, 0, none⟩ (.string nm)).setCell ⟨w.heap.size, 1, none⟩ (.int .i64 0)).setCell ⟨w.heap.size, 2, none⟩ (.bool zb))) :=
        ⟨((B8.own (Nat.le_refl _) _).own (Nat.le_refl _) _).own (Nat.le_refl _) _, ((M8.own (by omega) (by omega) _).own (by omega) (by omega) _).own (by omega) (by omega) _⟩
      clear R8 X8 B8 M8 R9
      go_wp2
      refine bodyPost_ret (v := .agg #[.string nm, .int .i64 0, .bool zb]) (by simp [results, Tryz.results83, go_sem, r0, r1, r2]) rfl ⟨?_, HB9.out.2, HB9.out.1⟩
      have := HF1.out
      cases this
      rfl
end Go.Proofs.YtnpfgamlncfikaaGreatDoor

/-
  spec.l10Parts, walked.
-/
namespace Go.Proofs.YtnpfgamlncfikaaGreatDoor
open Go.RowKit
set_option maxRecDepth 4000

set_option maxHeartbeats 8000000 in
theorem l10Parts_any {g : Nat} {S : Src} {st : Option (List Tok)} {w : World} (h : MR g S st w) {w0 : World} {vc vp vi : Value} {D : PDef} {A C : Nat → Nat} (hT : Tb w0 vc vp vi D A C w) (hg0 : g < w0.heap.size) (cs : List PCol) (hcs : D.nc = cs.length) (hcl : D.col = mkCol cs) :
    Calls Tryz.prog 84 #[.pointer (some ⟨g, 0, none⟩), .agg #[.string D.name, vc, vp, vi]] w fun e w' => ∃ (ps : List PBy) (st' : Option (List Tok)) (a cap : Nat), e = .returned (.slice (some ⟨a, 0, none⟩) ps.length cap) ∧ w'.ownsRow w.heap.size 70 2 (.slice (some ⟨a, 0, none⟩) ps.length cap) ps.length (rowG (encB (mkBy ps)) ps.length) ∧ (st.bind (fun l => partsR cs (l.length + 1) l) = st'.map (fun r => (ps, r))) ∧ MR g S st' w' ∧ But g w w' ∧ ps.length ≤ 501 := by
  obtain ⟨i0, hi, hz0, hz1, hz2⟩ := infoBy9
  have hg := h.glt
  have ht := h.lt
  have hfew := h.few
  obtain ⟨ac, cc, rfl, -, -⟩ := cview_of_own hT.cols
  obtain ⟨ap, cp, rfl, -, -⟩ := bview_of_own hT.pri
  obtain ⟨ai, ci, rfl, -, -⟩ := iview_of_own hT.idx (fun i hi => (hT.pts.at_ i hi).view)
  have hnc : D.nc ≤ 1048576 := by have := hT.sm.nc; omega
  obtain ⟨nD, hnD⟩ : ∃ x, Hid (D.name = x) := ⟨_, rfl⟩
  obtain ⟨k1, hk1⟩ : ∃ x, Hid (D.nc = x) := ⟨_, rfl⟩
  obtain ⟨k2, hk2⟩ : ∃ x, Hid (D.np = x) := ⟨_, rfl⟩
  obtain ⟨k3, hk3⟩ : ∃ x, Hid (D.ni = x) := ⟨_, rfl⟩
  have HCOL : Hid (∀ (s : ByteArray) (W : World), Tb w0 (.slice ac D.nc cc) (.slice ap D.np cp) (.slice ai D.ni ci) D A C W → Calls Tryz.prog 117 #[.agg #[.string nD, .slice ac k1 cc, .slice ap k2 cp, .slice ai k3 ci], .string s] W fun e w' => e = .returned (.int .i64 (colAt (fun i => cs.getD i ⟨⟨#[]⟩, 0, false⟩) cs.length s)) ∧ Below W.heap.size W w') := by
    intro s W hW
    have := l9Col_any _ D s W hW.view hnc
    rw [hcl, hcs] at this
    rw [← hnD.out, ← hk1.out, ← hk2.out, ← hk3.out, hcs]
    exact this
  have HTB : Hid (Tb w0 (.slice ac D.nc cc) (.slice ap D.np cp) (.slice ai D.ni ci) D A C w) := hT
  rw [hnD.out, hk1.out, hk2.out, hk3.out]
  have hO0 : ((w.alloc (.cells #[.string nD, .slice ac k1 cc, .slice ap k2 cp, .slice ai k3 ci] 35)).alloc (.cells #[] 70)).ownsRow w.heap.size 70 2 (.slice (some ⟨w.heap.size + 1, 0, none⟩) 0 0) 0 (rowG (encB (mkBy [])) 0) := by
    have := World.ownsRow_lit (base := w.heap.size) (e := 70) (size := 2) (w.alloc (.cells #[.string nD, .slice ac k1 cc, .slice ap k2 cp, .slice ai k3 ci] 35)) #[] 0 (by simp) (Nat.zero_le _) rfl
    simpa [rowG] using this
  have V0 := (V4.new w 35 (.string nD) (.slice ac k1 cc) (.slice ap k2 cp) (.slice ai k3 ci)).below ((Below.refl _ _).alloc (Nat.le_refl _) (.cells #[] 70))
  have B0 : But g w ((w.alloc (.cells #[.string nD, .slice ac k1 cc, .slice ap k2 cp, .slice ai k3 ci] 35)).alloc (.cells #[] 70)) := ((But.refl _ _).new _).new _
  have M0 := (h.new (.cells #[.string nD, .slice ac k1 cc, .slice ap k2 cp, .slice ai k3 ci] 35)).new (.cells #[] 70)
  have HI0 : Hid (InvP cs (st.bind (fun l => partsR cs (l.length + 1) l)) true [] st) := invP_start cs st
  have HC0 : Hid (cntP 500 ([] : List PBy) st) := by
    cases st with
    | none => exact Nat.zero_le _
    | some l =>
      obtain ⟨i, -, hi⟩ := h.row
      obtain ⟨-, rfl⟩ := hi l rfl
      show ([] : List PBy).length + (S.L.drop i).length ≤ 500
      rw [List.length_drop, List.length_nil]; omega
  obtain ⟨T, hTg⟩ : ∃ x, Hid (st.bind (fun l => partsR cs (l.length + 1) l) = x) := ⟨_, rfl⟩
  rw [hTg.out] at HI0 ⊢
  clear hT hcs hcl hnc h
  have HEND : Hid (∀ (W : World) (acc : List PBy) (ag : Bool) (st1 : Option (List Tok)) (a cap : Nat), InvP cs T ag acc st1 → (ag = false ∨ st1 = none) → acc.length ≤ 501 → W.ownsRow w.heap.size 70 2 (.slice (some ⟨a, 0, none⟩) acc.length cap) acc.length (rowG (encB (mkBy acc)) acc.length) → MR g S (mustO ⟨#[59]⟩ st1) W → But g w W →
      ∃ (ps : List PBy) (st' : Option (List Tok)) (a' cap' : Nat), Ending.returned (.slice (some ⟨a, 0, none⟩) acc.length cap) = .returned (.slice (some ⟨a', 0, none⟩) ps.length cap') ∧ W.ownsRow w.heap.size 70 2 (.slice (some ⟨a', 0, none⟩) ps.length cap') ps.length (rowG (encB (mkBy ps)) ps.length) ∧ (T = st'.map (fun r => (ps, r))) ∧ MR g S st' W ∧ But g w W ∧ ps.length ≤ 501) := by
    intro W acc ag st1 a cap h1 h2 h3 h4 h5 h6
    exact ⟨acc, _, a, cap, rfl, h4, invP_end h1 h2, h5, h6, h3⟩
  go_enter Tryz.func84, Tryz.ntmps84
  go_wp2
  go_loopg [6, 5] (mP true st) (fun q ag out wr => ∃ (agb : Bool) (acc : List PBy) (stk : Option (List Tok)) (a cap : Nat), q = mP agb stk ∧ ag = .bool agb ∧ out = .slice (some ⟨a, 0, none⟩) acc.length cap ∧ wr.ownsRow w.heap.size 70 2 (.slice (some ⟨a, 0, none⟩) acc.length cap) acc.length (rowG (encB (mkBy acc)) acc.length) ∧ MR g S stk wr ∧ But g w wr ∧ V4 wr w.heap.size 35 (.string nD) (.slice ac k1 cc) (.slice ap k2 cp) (.slice ai k3 ci) ∧ Hid (InvP cs T agb acc stk) ∧ Hid (cntP 500 acc stk))
  case atStart => exact ⟨true, [], st, _, _, rfl, rfl, rfl, hO0, M0, B0, V0, HI0, HC0⟩
  case round =>
    clear hO0 M0 B0 V0 HI0 HC0
    obtain ⟨agb, acc, stk, a, cap, rfl, rfl, rfl, hO, M, B, V, HI, HC⟩ := hrel
    obtain ⟨pi, hrv, -⟩ := M.row
    obtain ⟨-, -, c2⟩ := hrv.cells
    by_cases hgo : agb = true ∧ ∃ l, stk = some l
    · obtain ⟨rfl, l, rfl⟩ := hgo
      have c2' : wr.cell? ⟨g, 2, none⟩ = some (.bool false) := c2
      have hlen := HC.out.le
      have HST := invP_step HI.out HC.out
      have hNm := fun W (hb : Below wr.heap.size wr W) => l10Name_any (M.below hb)
      obtain ⟨⟨nm, st1⟩, hnm⟩ : ∃ x, Hid (nameO (some l) = x) := ⟨_, rfl⟩
      simp only [hnm.out] at hNm HST
      obtain ⟨⟨db, st2⟩, hds⟩ : ∃ x, Hid (isO kDesc st1 = x) := ⟨_, rfl⟩
      simp only [hds.out] at HST
      obtain ⟨⟨ab, st3⟩, has⟩ : ∃ x, Hid (isO ⟨#[44]⟩ st2 = x) := ⟨_, rfl⟩
      simp only [has.out] at HST
      obtain ⟨kc, hkc⟩ : ∃ x, Hid (colAt (fun i => cs.getD i ⟨⟨#[]⟩, 0, false⟩) cs.length nm = x) := ⟨_, rfl⟩
      simp only [hkc.out] at HST
      have HST' : Hid _ := HST
      have HTW : Hid (Tb w0 (.slice ac D.nc cc) (.slice ap D.np cp) (.slice ai D.ni ci) D A C wr) := HTB.out.but B hg0
      have hCo : ∀ (W : World), Tb w0 (.slice ac D.nc cc) (.slice ap D.np cp) (.slice ai D.ni ci) D A C W → Calls Tryz.prog 117 #[.agg #[.string nD, .slice ac k1 cc, .slice ap k2 cp, .slice ai k3 ci], .string nm] W fun e w' => e = .returned (.int .i64 kc) ∧ Below W.heap.size W w' := fun W hW => by
        have := HCOL.out nm W hW
        rw [hkc.out] at this
        exact this
      have HVW : Hid (∀ W W2, Below wr.heap.size wr W → But g W W2 → V4 W2 w.heap.size 35 (.string nD) (.slice ac k1 cc) (.slice ap k2 cp) (.slice ai k3 ci)) := fun W W2 hb h2 => (V.below hb).but h2 (by omega)
      have HTW2 : Hid (∀ W W2, Below wr.heap.size wr W → But g W W2 → Tb w0 (.slice ac D.nc cc) (.slice ap D.np cp) (.slice ai D.ni ci) D A C W2) := fun W W2 hb h2 => (HTW.out.below hb).but h2 hg0
      have HOB : Hid (wr.ownsRow w.heap.size 70 2 (.slice (some ⟨a, 0, none⟩) acc.length cap) acc.length (rowG (encB (mkBy acc)) acc.length) ∧ But g w wr ∧ V4 wr w.heap.size 35 (.string nD) (.slice ac k1 cc) (.slice ap k2 cp) (.slice ai k3 ci)) := ⟨hO, B, V⟩
      obtain ⟨v0, v1, v2, v3⟩ := V.cells
      clear HST HI HC hrv c2 M hO B V
      go_wp2_with fail
      go_region_held3 (fun W => W.cell? ⟨w.heap.size, 0, none⟩ = some (.string nD) ∧ W.cell? ⟨w.heap.size, 1, none⟩ = some (.slice ac k1 cc) ∧ W.cell? ⟨w.heap.size, 2, none⟩ = some (.slice ap k2 cp) ∧ W.cell? ⟨w.heap.size, 3, none⟩ = some (.slice ai k3 ci)) (first | assumption | go_keep) (first
        | (go_at_call 81; refine (hNm _ (by repeat (first | exact Below.refl _ _ | refine Below.drew ?_))).mono ?_; rintro e w7 ⟨rfl, M7, b7⟩; have hcells : w7.cell? ⟨w.heap.size, 0, none⟩ = some (.string nD) ∧ w7.cell? ⟨w.heap.size, 1, none⟩ = some (.slice ac k1 cc) ∧ w7.cell? ⟨w.heap.size, 2, none⟩ = some (.slice ap k2 cp) ∧ w7.cell? ⟨w.heap.size, 3, none⟩ = some (.slice ai k3 ci) := (HVW.out _ _ (by repeat (first | exact Below.refl _ _ | refine Below.drew ?_)) b7).cells; have HX7 : Hid (But g wr w7 ∧ Tb w0 (.slice ac D.nc cc) (.slice ap D.np cp) (.slice ai D.ni ci) D A C w7) := ⟨(But.ofBelow (by repeat (first | exact Below.refl _ _ | refine Below.drew ?_))).trans b7, HTW2.out _ _ (by repeat (first | exact Below.refl _ _ | refine Below.drew ?_)) b7⟩)
        | (go_at_call 117; refine (hCo _ (HX7.out.2.below (by repeat (first | exact Below.refl _ _ | refine Below.drew ?_)))).mono ?_; rintro e w8 ⟨rfl, b8⟩; have hcells8 : w8.cell? ⟨w.heap.size, 0, none⟩ = some (.string nD) ∧ w8.cell? ⟨w.heap.size, 1, none⟩ = some (.slice ac k1 cc) ∧ w8.cell? ⟨w.heap.size, 2, none⟩ = some (.slice ap k2 cp) ∧ w8.cell? ⟨w.heap.size, 3, none⟩ = some (.slice ai k3 ci) := ⟨(b8.cell (p := ⟨w.heap.size, 0, none⟩) (Nat.lt_of_lt_of_le HOB.out.2.2.lt HX7.out.1.size)).trans hcells.1, (b8.cell (p := ⟨w.heap.size, 1, none⟩) (Nat.lt_of_lt_of_le HOB.out.2.2.lt HX7.out.1.size)).trans hcells.2.1, (b8.cell (p := ⟨w.heap.size, 2, none⟩) (Nat.lt_of_lt_of_le HOB.out.2.2.lt HX7.out.1.size)).trans hcells.2.2.1, (b8.cell (p := ⟨w.heap.size, 3, none⟩) (Nat.lt_of_lt_of_le HOB.out.2.2.lt HX7.out.1.size)).trans hcells.2.2.2⟩; have HX8 : Hid (But g wr w8 ∧ MR g S st1 w8) := ⟨HX7.out.1.trans (But.ofBelow (Below.trans (by repeat (first | exact Below.refl _ _ | refine Below.drew ?_)) b8)), M7.below (Below.trans (by repeat (first | exact Below.refl _ _ | refine Below.drew ?_)) b8)⟩))
      all_goals
        have hIs := l10Is_any kDesc HX8.out.2
        simp only [hds.out] at hIs
        have HY8 : Hid (But g wr w8) := HX8.out.1
        clear hcells hcells8 HX7 HX8 M7 b7 b8 hNm hCo HVW HTW2 HTW v0 v1 v2 v3 c2'
        go_wp2_with fail
        refine hIs.mono ?_
        rintro e w9 ⟨rfl, M9, b9⟩
        have HY9 : But g wr w9 := HY8.out.trans b9
        have hO9 := own_but9 HOB.out.1 HY9 (by omega)
        have B9 := HOB.out.2.1.trans HY9
        have V9 := HOB.out.2.2.but HY9 (by omega)
        have hsz := B9.size
        have hbA : Below w9.heap.size w9 (w9.alloc (.cells #[.int .i64 kc, .bool db] 70)) := (Below.refl _ _).alloc (Nat.le_refl _) _
        have hO10 := own_belowG hO9 hbA
        have hcl := cells_by9 w9 kc db
        have HOW := own_ge9 hO9
        have HN : Hid (rowG (encB (mkBy (acc ++ [⟨kc, db⟩]))) (acc ++ [(⟨kc, db⟩ : PBy)]).length = rowG (encB (mkBy acc)) acc.length ++ [.int .i64 kc, .bool db]) := by
          show _ = _
          rw [mkBy_snoc, List.length_append, List.length_singleton, rowG_updB]
        obtain ⟨N, hN⟩ : ∃ x, Hid (acc.length = x) := ⟨_, rfl⟩
        have HNL : Hid ((acc ++ [(⟨kc, db⟩ : PBy)]).length = N + 1) := by show _ = _; rw [List.length_append, List.length_singleton, hN.out]
        rw [HNL.out, hN.out] at HN
        rw [hN.out] at hO10 HOW hlen ⊢
        obtain ⟨R, hR⟩ : ∃ x, Hid (rowG (encB (mkBy acc)) N = x) := ⟨_, rfl⟩
        rw [hR.out] at hO10 HN
        have HK9 : Hid (MR g S st2 w9 ∧ But g w w9 ∧ V4 w9 w.heap.size 35 (.string nD) (.slice ac k1 cc) (.slice ap k2 cp) (.slice ai k3 ci)) := ⟨M9, B9, V9⟩
        have hVne : ∀ j, (Value.slice (some ⟨a, 0, none⟩) N cap).ownBlock = some j → w.heap.size ≤ j := HOW
        have HNE : Hid (a ≠ w.heap.size) := by
          intro e
          have h1 := HOB.out.1
          rcases h1.2 with ⟨e1, _⟩ | ⟨g1, c1, cur, e1, _, hg1, _⟩
          · cases e1
          · cases e1
            obtain ⟨cc1, hc1⟩ := HOB.out.2.2.blk
            rw [e] at hg1
            rw [hc1] at hg1
            cases hg1
        clear hIs M9 b9 HY8 HOB B9 V9 hO9 hbA HY9
        go_wp2_with (at_builtin; refine wpList_append_own _ rfl (.tmp 24) (.tmp 28) 32 rfl w.heap.size 70 i0 (.agg #[.int .i64 0, .bool false]) 2 16 Tryz.underlying32 hi hz0 hz1 hz2 rfl (by decide) _ _ _ rfl hO10 ⟨w9.heap.size, 0, none⟩ 1 1 [.int .i64 kc, .bool db] rfl rfl hcl (one_by9 _ _) (by unfold maxLen; omega) (by omega) (by simp; omega) ?_)
        intro v5 w10 hown5 hgr hnil
        obtain ⟨g', cap', rfl⟩ := own_succ9 hown5
        have hbA : Below w9.heap.size w9 (w9.alloc (.cells #[.int .i64 kc, .bool db] 70)) := (Below.refl _ _).alloc (Nat.le_refl _) _
        have M10 := (HK9.out.1.below hbA).grown hgr (fun e => by have := HOW _ e; omega) (fun e => by have := HOW _ e; omega)
        have B10 := (HK9.out.2.1.trans (But.ofBelow hbA)).grownOwn hgr HOW
        have V10 := (HK9.out.2.2.below hbA).grown hgr (fun e => HNE.out (by simpa [Value.ownBlock] using e))
        have hIs := l10Is_any ⟨#[44]⟩ M10
        simp only [has.out] at hIs
        have HO10 : Hid (w10.ownsRow w.heap.size 70 2 (.slice (some ⟨g', 0, none⟩) (N + 1) cap') (N + 1) (rowG (encB (mkBy (acc ++ [⟨kc, db⟩]))) (N + 1))) := by
          show World.ownsRow _ _ _ _ _ _ _
          rw [HN.out]; exact hown5
        have HK10 : Hid (But g w w10 ∧ V4 w10 w.heap.size 35 (.string nD) (.slice ac k1 cc) (.slice ap k2 cp) (.slice ai k3 ci)) := ⟨B10, V10⟩
        clear hown5 hgr hnil hO10 hcl HOW M10 B10 V10 HK9 HN hbA hVne
        go_wp2_with fail
        refine hIs.mono ?_
        rintro e w11 ⟨rfl, M11, b11⟩
        have B11 := HK10.out.1.trans b11
        have V11 := HK10.out.2.but b11 (by omega)
        have hO11 := own_but9 HO10.out b11 (by omega)
        clear hIs b11 HK10 HO10
        have HR : Hid (MR g S st3 w11 ∧ But g w w11 ∧ V4 w11 w.heap.size 35 (.string nD) (.slice ac k1 cc) (.slice ap k2 cp) (.slice ai k3 ci) ∧ w11.ownsRow w.heap.size 70 2 (.slice (some ⟨g', 0, none⟩) (N + 1) cap') (N + 1) (rowG (encB (mkBy (acc ++ [⟨kc, db⟩]))) (N + 1))) := ⟨M11, B11, V11, hO11⟩
        clear M11 B11 V11 hO11
        go_wp2
        go_roundg (mP ab st3)
        case measure => exact HST'.out.2.1
        case rel => exact ⟨ab, acc ++ [(⟨kc, db⟩ : PBy)], st3, g', cap', rfl, rfl, by rw [HNL.out], by rw [HNL.out]; exact HR.out.2.2.2, HR.out.1, HR.out.2.1, HR.out.2.2.1, HST'.out.1, HST'.out.2.2⟩
    · have HE : Hid (agb = false ∨ stk = none) := by
        cases agb with
        | false => exact .inl rfl
        | true =>
          cases stk with
          | none => exact .inr rfl
          | some l => exact absurd ⟨rfl, l, rfl⟩ hgo
      have hlen := HC.out.le
      have hMu := l10Must_any ⟨#[59]⟩ M
      have HK : Hid (wr.ownsRow w.heap.size 70 2 (.slice (some ⟨a, 0, none⟩) acc.length cap) acc.length (rowG (encB (mkBy acc)) acc.length) ∧ But g w wr) := ⟨hO, B⟩
      clear hgo hO B V hrv M HCOL HTB HC
      cases agb with
      | false =>
        go_wp2_with fail
        refine hMu.mono ?_
        rintro e w2 ⟨rfl, M2, b2⟩
        have HF : Hid _ := HEND.out w2 acc false stk a cap HI.out (.inl rfl) hlen (own_but9 HK.out.1 b2 (by omega)) M2 (HK.out.2.trans b2)
        clear HEND hMu M2 b2 HK HI HE c2
        go_wp2
        go_ret
        exact HF.out
      | true =>
        have hst : stk = none := by
          rcases HE.out with h | h
          · cases h
          · exact h
        subst hst
        have c2' : wr.cell? ⟨g, 2, none⟩ = some (.bool true) := c2
        clear c2
        go_wp2_with fail
        refine hMu.mono ?_
        rintro e w2 ⟨rfl, M2, b2⟩
        have HF : Hid _ := HEND.out w2 acc true none a cap HI.out (.inr rfl) hlen (own_but9 HK.out.1 b2 (by omega)) M2 (HK.out.2.trans b2)
        clear HEND hMu M2 b2 HK HI HE c2'
        go_wp2
        go_ret
        exact HF.out
end Go.Proofs.YtnpfgamlncfikaaGreatDoor

