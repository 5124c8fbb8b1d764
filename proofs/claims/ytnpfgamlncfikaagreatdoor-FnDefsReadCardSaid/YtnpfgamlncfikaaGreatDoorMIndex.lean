/-
  MIndex
-/
import Derived.Test.YtnpfgamlncfikaaGreatDoorPackF20
/-
  spec.l10Index, walked.
-/
namespace Go.Proofs.YtnpfgamlncfikaaGreatDoor
open Go.RowKit
set_option maxRecDepth 4000

theorem ptAt_of {w w1 W : World} {a c : Nat} {ps : List PBy} {n : ByteArray} {u : Bool} (h : W.ownsRow w1.heap.size 70 2 (.slice (some ⟨a, 0, none⟩) ps.length c) ps.length (rowG (encB (mkBy ps)) ps.length)) (hw : w.heap.size ≤ w1.heap.size) : PtAt w a c ⟨n, u, ps.length, mkBy ps⟩ W := ⟨own_down9 h hw⟩

set_option maxHeartbeats 4000000 in
theorem l10Index_any {g : Nat} {S : Src} {st : Option (List Tok)} {w : World} (h : MR g S st w) {w0 : World} {vc vp vi : Value} {D : PDef} {A C : Nat → Nat} (hT : Tb w0 vc vp vi D A C w) (hg0 : g < w0.heap.size) (cs : List PCol) (hcs : D.nc = cs.length) (hcl : D.col = mkCol cs) (u : Bool) :
    Calls Tryz.prog 85 #[.pointer (some ⟨g, 0, none⟩), .agg #[.string D.name, vc, vp, vi], .bool u] w fun e w' => ∃ (ps : List PBy) (st' : Option (List Tok)) (a cap : Nat), e = .returned (.agg #[.string (nameO st).1, .bool u, .slice (some ⟨a, 0, none⟩) ps.length cap]) ∧ w'.ownsRow w.heap.size 70 2 (.slice (some ⟨a, 0, none⟩) ps.length cap) ps.length (rowG (encB (mkBy ps)) ps.length) ∧ ((nameO st).2.bind (fun l => partsR cs (l.length + 1) l) = st'.map (fun r => (ps, r))) ∧ MR g S st' w' ∧ But g w w' ∧ ps.length ≤ 501 := by
  have hg := h.glt
  have ht := h.lt
  obtain ⟨ac, cc, rfl, -, -⟩ := cview_of_own hT.cols
  obtain ⟨ap, cp, rfl, -, -⟩ := bview_of_own hT.pri
  obtain ⟨ai, ci, rfl, -, -⟩ := iview_of_own hT.idx (fun i hi => (hT.pts.at_ i hi).view)
  have HTB : Hid (Tb w0 (.slice ac D.nc cc) (.slice ap D.np cp) (.slice ai D.ni ci) D A C w) := hT
  have HPT : Hid (∀ (W : World) (s : Option (List Tok)), MR g S s W → Tb w0 (.slice ac D.nc cc) (.slice ap D.np cp) (.slice ai D.ni ci) D A C W → Calls Tryz.prog 84 #[.pointer (some ⟨g, 0, none⟩), .agg #[.string D.name, .slice ac D.nc cc, .slice ap D.np cp, .slice ai D.ni ci]] W fun e w' => ∃ (ps : List PBy) (st' : Option (List Tok)) (a cap : Nat), e = .returned (.slice (some ⟨a, 0, none⟩) ps.length cap) ∧ w'.ownsRow W.heap.size 70 2 (.slice (some ⟨a, 0, none⟩) ps.length cap) ps.length (rowG (encB (mkBy ps)) ps.length) ∧ (s.bind (fun l => partsR cs (l.length + 1) l) = st'.map (fun r => (ps, r))) ∧ MR g S st' w' ∧ But g W w' ∧ ps.length ≤ 501) := fun W s hM hTb => l10Parts_any hM hTb hg0 cs hcs hcl
  obtain ⟨nD, hnD⟩ : ∃ x, Hid (D.name = x) := ⟨_, rfl⟩
  obtain ⟨k1, hk1⟩ : ∃ x, Hid (D.nc = x) := ⟨_, rfl⟩
  obtain ⟨k2, hk2⟩ : ∃ x, Hid (D.np = x) := ⟨_, rfl⟩
  obtain ⟨k3, hk3⟩ : ∃ x, Hid (D.ni = x) := ⟨_, rfl⟩
  rw [hnD.out, hk1.out, hk2.out, hk3.out] at HPT ⊢
  obtain ⟨⟨nm, st1⟩, hnm⟩ : ∃ x, Hid (nameO st = x) := ⟨_, rfl⟩
  -- the boxes: d, the answer, x
  have D0 := ((V4.new w 35 (.string nD) (.slice ac k1 cc) (.slice ap k2 cp) (.slice ai k3 ci)).below ((Below.refl _ _).alloc (Nat.le_refl _) (.cells #[.string ⟨#[]⟩, .bool false, .slice none 0 0] 73))).below ((Below.refl _ _).alloc (Nat.le_refl _) (.cells #[.string ⟨#[]⟩, .bool u, .slice none 0 0] 73))
  have R0 := (V3.new (w.alloc (.cells #[.string nD, .slice ac k1 cc, .slice ap k2 cp, .slice ai k3 ci] 35)) 73 (.string ⟨#[]⟩) (.bool false) (.slice none 0 0)).below ((Below.refl _ _).alloc (Nat.le_refl _) (.cells #[.string ⟨#[]⟩, .bool u, .slice none 0 0] 73))
  have X0 := V3.new ((w.alloc (.cells #[.string nD, .slice ac k1 cc, .slice ap k2 cp, .slice ai k3 ci] 35)).alloc (.cells #[.string ⟨#[]⟩, .bool false, .slice none 0 0] 73)) 73 (.string ⟨#[]⟩) (.bool u) (.slice none 0 0)
  have B0 : But g w (((w.alloc (.cells #[.string nD, .slice ac k1 cc, .slice ap k2 cp, .slice ai k3 ci] 35)).alloc (.cells #[.string ⟨#[]⟩, .bool false, .slice none 0 0] 73)).alloc (.cells #[.string ⟨#[]⟩, .bool u, .slice none 0 0] 73)) := (((But.refl _ _).new _).new _).new _
  have hN := l10Name_any (((h.new (.cells #[.string nD, .slice ac k1 cc, .slice ap k2 cp, .slice ai k3 ci] 35)).new (.cells #[.string ⟨#[]⟩, .bool false, .slice none 0 0] 73)).new (.cells #[.string ⟨#[]⟩, .bool u, .slice none 0 0] 73))
  simp only [alloc_size9] at R0 X0
  rw [hnm.out] at hN ⊢
  clear hT h hcs hcl
  go_enter Tryz.func85, Tryz.ntmps85
  go_wp2_with fail
  refine hN.mono ?_
  rintro e w1 ⟨rfl, M1, b1⟩
  have D1 := D0.but b1 (by omega)
  have X1 := X0.but b1 (by omega)
  have R1 := R0.but b1 (by omega)
  have B1 := B0.trans b1
  clear hN D0 X0 R0 B0 b1
  obtain ⟨x0, x1, x2⟩ := X1.cells
  obtain ⟨p0, p1, p2⟩ := X1.fz
  obtain ⟨W2, hW2⟩ : ∃ W2, Hid (w1.setCell ⟨w.heap.size + 1 + 1, 0, none⟩ (.string nm) = W2) := ⟨_, rfl⟩
  have X2 := X1.set0 (.string nm)
  have R2 := R1.other (C := w.heap.size + 1 + 1) (i := 0) (u := .string nm) (by omega)
  have D2 := D1.other (C := w.heap.size + 1 + 1) (i := 0) (u := .string nm) (by omega)
  have B2 := B1.own (B := w.heap.size + 1 + 1) (i := 0) (by omega) (.string nm)
  have M2 := M1.own (B := w.heap.size + 1 + 1) (i := 0) (by omega) (by omega) (.string nm)
  rw [hW2.out] at X2 R2 B2 M2 D2
  have T2 := HTB.out.but B2 hg0
  rw [hk1.out, hk2.out, hk3.out] at T2
  have hP := HPT.out _ _ M2 T2
  obtain ⟨d0, d1, d2, d3⟩ := D2.cells
  have HK2 : Hid (But g w W2 ∧ V3 W2 (w.heap.size + 1 + 1) 73 (.string nm) (.bool u) (.slice none 0 0) ∧ V3 W2 (w.heap.size + 1) 73 (.string ⟨#[]⟩) (.bool false) (.slice none 0 0)) := ⟨B2, X2, R2⟩
  clear X1 R1 B1 M1 D1 T2 HPT HTB B2 X2 R2 M2 D2
  go_wp2_with (rw [hW2.out])
  refine hP.mono ?_
  rintro e w3 ⟨ps, st', a, cap, rfl, hO3, HE, M3, b3, hl3⟩
  have HE' : Hid (st1.bind (fun l => partsR cs (l.length + 1) l) = st'.map (fun r => (ps, r))) := HE
  have X3 := HK2.out.2.1.but b3 (by omega)
  have R3 := HK2.out.2.2.but b3 (by omega)
  have B3 := HK2.out.1.trans b3
  have hsW := HK2.out.1.size
  have hsX := HK2.out.2.1.lt
  have hO3' := own_down9 hO3 hsW
  have hlt3 := own_lt9 hO3
  clear hP HE b3 HK2 d0 d1 d2 d3 x0 x1 x2 p0 p1 p2 hO3
  obtain ⟨x0, x1, x2⟩ := X3.cells
  obtain ⟨p0, p1, p2⟩ := X3.fz
  obtain ⟨n, hn⟩ : ∃ x, Hid (ps.length = x) := ⟨_, rfl⟩
  rw [hn.out] at hO3' ⊢
  obtain ⟨W4, hW4⟩ : ∃ W4, Hid (w3.setCell ⟨w.heap.size + 1 + 1, 2, none⟩ (.slice (some ⟨a, 0, none⟩) n cap) = W4) := ⟨_, rfl⟩
  have X4 := X3.set2 (.slice (some ⟨a, 0, none⟩) n cap)
  have R4 := R3.other (C := w.heap.size + 1 + 1) (i := 2) (u := .slice (some ⟨a, 0, none⟩) n cap) (by omega)
  rw [hW4.out] at X4 R4
  obtain ⟨z0, z1, z2⟩ := X4.cells
  obtain ⟨y0, y1, y2⟩ := R4.cells
  obtain ⟨q0, q1, q2⟩ := R4.fz
  have R5 := ((R4.set0 (.string nm)).set1 (.bool u)).set2 (.slice (some ⟨a, 0, none⟩) n cap)
  obtain ⟨r0, r1, r2⟩ := R5.cells
  have key : ∀ (W : World) (Bk i : Nat) (v : Value), w.heap.size ≤ Bk → Bk ≠ a → (But g w W ∧ MR g S st' W ∧ W.ownsRow w.heap.size 70 2 (.slice (some ⟨a, 0, none⟩) n cap) n (rowG (encB (mkBy ps)) n)) → (But g w (W.setCell ⟨Bk, i, none⟩ v) ∧ MR g S st' (W.setCell ⟨Bk, i, none⟩ v) ∧ (W.setCell ⟨Bk, i, none⟩ v).ownsRow w.heap.size 70 2 (.slice (some ⟨a, 0, none⟩) n cap) n (rowG (encB (mkBy ps)) n)) := by
    intro W Bk i v h1 h2 ⟨h3, h4, h5⟩
    refine ⟨h3.own h1 v, h4.own (by omega) (by omega) v, h5.1, ?_⟩
    rcases h5.2 with ⟨e, h0⟩ | ⟨g1, k, cur, e, hb0, hgk, hr⟩
    · exact .inl ⟨e, h0⟩
    · refine .inr ⟨g1, k, cur, e, hb0, ?_, hr⟩
      rw [Below.heap_setCell _ _ _ _ (show g1 ≠ Bk by cases e; exact Ne.symm h2)]; exact hgk
  have hane : ∀ Bk, Bk ≤ w.heap.size + 1 + 1 → Bk ≠ a := fun Bk h => by omega
  have HF : Hid _ := key _ (w.heap.size + 1) 2 (.slice (some ⟨a, 0, none⟩) n cap) (by omega) (hane _ (by omega)) (key _ (w.heap.size + 1) 1 (.bool u) (by omega) (hane _ (by omega)) (key _ (w.heap.size + 1) 0 (.string nm) (by omega) (hane _ (by omega)) (key w3 (w.heap.size + 1 + 1) 2 (.slice (some ⟨a, 0, none⟩) n cap) (by omega) (hane _ (by omega)) ⟨B3, M3, hO3'⟩)))
  rw [hW4.out] at HF
  clear key hane X3 R3 B3 M3 hO3' X4 R4 R5 hlt3 hsW hsX
  go_wp2_with (rw [hW4.out])
  refine bodyPost_ret (v := .agg #[.string nm, .bool u, .slice (some ⟨a, 0, none⟩) n cap]) (by simp [results, Tryz.results85, go_sem, r0, r1, r2]) rfl ⟨ps, st', a, cap, by rw [hn.out], by rw [hn.out]; exact HF.out.2.2, HE'.out, HF.out.2.1, HF.out.1, hl3⟩
end Go.Proofs.YtnpfgamlncfikaaGreatDoor

