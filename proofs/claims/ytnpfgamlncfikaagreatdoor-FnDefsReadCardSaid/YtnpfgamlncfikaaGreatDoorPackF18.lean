/-
  Together: IParts, IIndex, ICol
-/
import Derived.Test.YtnpfgamlncfikaaGreatDoorPackF17
import Derived.Test.YtnpfgamlncfikaaGreatDoorPackF12
import Derived.Deep.DeepCutAuto
import Derived.Deep.CutBlock
/-
  The program's parts, walked.
-/
namespace Go.Proofs.YtnpfgamlncfikaaGreatDoor
open Go.RowKit
set_option maxRecDepth 4000

set_option maxHeartbeats 8000000 in
theorem parts_any {g : Nat} {S : Src} {l : List Tok} {w : World} (h : IR g S l w) (hu : ErrU w) (hge : 0 < g) (a : Option Addr) (cap : Nat) (cs : List PCol) (hn : cs.length ≤ 1000) (hC : ∀ W, But g w W → CView W a cs.length cap (mkCol cs)) :
    Calls Tryz.prog 123 #[.pointer (some ⟨g, 0, none⟩), .slice a cs.length cap] w fun e w' => But g w w' ∧ ((∃ (ps : List PBy) (r : List Tok) (b c : Nat), partsI cs (l.length + 1) l = some (ps, r) ∧ e = .returned (.slice (some ⟨b, 0, none⟩) ps.length c) ∧ w'.ownsRow w.heap.size 70 2 (.slice (some ⟨b, 0, none⟩) ps.length c) ps.length (rowG (encB (mkBy ps)) ps.length) ∧ ps.length ≤ 501 ∧ IR g S r w') ∨ (partsI cs (l.length + 1) l = none ∧ Gave e)) := by
  obtain ⟨i0, hi, hz0, hz1, hz2⟩ := infoBy9
  have hg := h.glt
  have ht := h.lt
  have hl5 := h.size.1
  have hPa := part_any h hu hge a cap cs hn hC
  have HPA : Hid (∀ (W : World) (l' : List Tok), IR g S l' W → But g w W → Calls Tryz.prog 150 #[.pointer (some ⟨g, 0, none⟩), .slice a cs.length cap] W fun e w' => But g W w' ∧ ((∃ x r, partI cs l' = some (x, r) ∧ e = .returned (.agg #[.int .i64 x.col, .bool x.desc]) ∧ IR g S r w') ∨ (partI cs l' = none ∧ Gave e))) := fun W l' hM hB => part_any hM (hu.but hB hge) hge a cap cs hn (fun W' hb => hC W' (hB.trans hb))
  have HNO : Hid (partI cs l = none → partsI cs (l.length + 1) l = none) := fun h => parts_no h
  have HST : Hid (∀ x r, partI cs l = some (x, r) → InvT cs (partsI cs (l.length + 1) l) [x] r) := fun x r h => invT_start h
  have HU : Hid (ErrU w) := hu
  have HPL : Hid (∀ x r, partI cs l = some (x, r) → r.length < l.length) := fun x r h => partI_len h
  obtain ⟨T, hT⟩ : ∃ x, Hid (partsI cs (l.length + 1) l = x) := ⟨_, rfl⟩
  simp only [hT.out] at HNO HST
  rw [hT.out]
  obtain ⟨N, hNN⟩ : ∃ x, Hid (cs.length = x) := ⟨_, rfl⟩
  rw [hNN.out] at hPa HPA ⊢
  clear h hC hu hT
  go_enter Tryz.func123, Tryz.ntmps123
  go_wp2_with fail
  refine hPa.mono ?_
  rintro e w1 ⟨b1, hres1⟩
  rcases hres1.symm with ⟨he, u, pv, rfl⟩ | ⟨⟨xc, xd⟩, r1, he, rfl, M1⟩
  · have HR : Hid (T = none) := HNO.out he
    have HB : Hid (But g w w1) := b1
    clear hPa b1 HPA HST HNO hres1
    go_wp2
    exact ⟨rfl, HB.out, .inr ⟨HR.out, u, pv, rfl⟩⟩
  have HI0 : Hid (InvT cs T [⟨xc, xd⟩] r1) := HST.out _ _ he
  have hr1 := HPL.out _ _ he
  have hs1 := b1.size
  have O0 : (w1.alloc (.cells #[.int .i64 xc, .bool xd] 70)).ownsRow w.heap.size 70 2 (.slice (some ⟨w1.heap.size, 0, none⟩) ([⟨xc, xd⟩] : List PBy).length 1) ([⟨xc, xd⟩] : List PBy).length (rowG (encB (mkBy [⟨xc, xd⟩])) ([⟨xc, xd⟩] : List PBy).length) := by
    have := World.ownsRow_lit (base := w.heap.size) (e := 70) (size := 2) w1 #[.int .i64 xc, .bool xd] 1 hs1 (by unfold maxLen; omega) rfl
    simpa [rowG, encB, mkBy] using this
  have M2 := M1.new (.cells #[.int .i64 xc, .bool xd] 70)
  have B2 := b1.new (.cells #[.int .i64 xc, .bool xd] 70)
  clear hPa b1 HST HNO hres1 M1 he HPL
  go_wp2
  go_loopg [5] r1.length (fun q out wr => ∃ (acc : List PBy) (lk : List Tok) (b c : Nat), q = lk.length ∧ out = .slice (some ⟨b, 0, none⟩) acc.length c ∧ wr.ownsRow w.heap.size 70 2 (.slice (some ⟨b, 0, none⟩) acc.length c) acc.length (rowG (encB (mkBy acc)) acc.length) ∧ IR g S lk wr ∧ But g w wr ∧ Hid (InvT cs T acc lk) ∧ acc.length + lk.length ≤ 501)
  case atStart => exact ⟨[⟨xc, xd⟩], r1, w1.heap.size, 1, rfl, rfl, O0, M2, B2, HI0, by simp; omega⟩
  case round =>
    clear O0 M2 B2 HI0
    obtain ⟨acc, lk, b, c, rfl, rfl, hO, M, B, HI, hlen⟩ := hrel
    have hPs := passes_any ⟨#[59]⟩ M
    have HEN : Hid ((isR ⟨#[59]⟩ lk).1 = true → T = some (acc, (isR ⟨#[59]⟩ lk).2)) := fun h => invT_end HI.out h
    have HMI : Hid ((isR ⟨#[59]⟩ lk).1 = false → (isR ⟨#[59]⟩ lk).2 = lk) := fun h => isR_false (s := ⟨#[59]⟩) (l := lk) (r := (isR ⟨#[59]⟩ lk).2) (by rw [← h])
    have HN1 : Hid ((isR ⟨#[59]⟩ lk).1 = false → mustR ⟨#[44]⟩ lk = none → T = none) := fun h h2 => invT_no1 HI.out h h2
    have HN2 : Hid ((isR ⟨#[59]⟩ lk).1 = false → ∀ l2, mustR ⟨#[44]⟩ lk = some l2 → partI cs l2 = none → T = none) := fun h l2 h2 h3 => invT_no2 HI.out h h2 h3
    have HSP : Hid ((isR ⟨#[59]⟩ lk).1 = false → ∀ l2 x l3, mustR ⟨#[44]⟩ lk = some l2 → partI cs l2 = some (x, l3) → InvT cs T (acc ++ [x]) l3 ∧ l3.length < lk.length) := fun h l2 x l3 h2 h3 => invT_step HI.out h h2 h3
    have HO : Hid (wr.ownsRow w.heap.size 70 2 (.slice (some ⟨b, 0, none⟩) acc.length c) acc.length (rowG (encB (mkBy acc)) acc.length) ∧ But g w wr) := ⟨hO, B⟩
    obtain ⟨⟨pb, pl⟩, hpb⟩ : ∃ x, Hid (isR ⟨#[59]⟩ lk = x) := ⟨_, rfl⟩
    simp only [hpb.out] at hPs HEN HMI HN1 HN2 HSP
    clear hO M B HI
    go_wp2_with fail
    refine hPs.mono ?_
    rintro e w3 ⟨rfl, M3, b3⟩
    have hO3 := own_but9 HO.out.1 b3 (by omega)
    have B3 := HO.out.2.trans b3
    clear HO b3 hPs
    cases pb with
    | true =>
      have HR : Hid (T = some (acc, pl)) := HEN.out rfl
      have HF : Hid (But g w w3 ∧ w3.ownsRow w.heap.size 70 2 (.slice (some ⟨b, 0, none⟩) acc.length c) acc.length (rowG (encB (mkBy acc)) acc.length) ∧ IR g S pl w3) := ⟨B3, hO3, M3⟩
      clear HEN HMI HN1 HN2 HSP hO3 B3 M3 HPA
      go_wp2
      go_ret
      exact ⟨HF.out.1, .inl ⟨acc, pl, b, c, HR.out, rfl, HF.out.2.1, by omega, HF.out.2.2⟩⟩
    | false =>
      obtain rfl : pl = lk := HMI.out rfl
      have hWa := want_any ⟨#[44]⟩ M3 (HU.out.but B3 hge) hge
      have HN1' : Hid (mustR ⟨#[44]⟩ pl = none → T = none) := HN1.out rfl
      have HN2' : Hid (∀ l2, mustR ⟨#[44]⟩ pl = some l2 → partI cs l2 = none → T = none) := HN2.out rfl
      have HSP' : Hid (∀ l2 x l3, mustR ⟨#[44]⟩ pl = some l2 → partI cs l2 = some (x, l3) → InvT cs T (acc ++ [x]) l3 ∧ l3.length < pl.length) := HSP.out rfl
      have HO : Hid (w3.ownsRow w.heap.size 70 2 (.slice (some ⟨b, 0, none⟩) acc.length c) acc.length (rowG (encB (mkBy acc)) acc.length) ∧ But g w w3) := ⟨hO3, B3⟩
      clear HEN HMI HN1 HN2 HSP M3 hO3 B3
      go_wp2_with fail
      refine hWa.mono ?_
      rintro e w4 ⟨b4, hres4⟩
      have hO4 := own_but9 HO.out.1 b4 (by omega)
      have B4 := HO.out.2.trans b4
      rcases hres4.symm with ⟨he, u, pv, rfl⟩ | ⟨l4, he, rfl, M4⟩
      · have HR : Hid (T = none) := HN1'.out he
        have HB : Hid (But g w w4) := B4
        clear hWa HO hO4 B4 b4 HPA HN1' HN2' HSP' hres4
        go_wp2
        exact ⟨rfl, HB.out, .inr ⟨HR.out, u, pv, rfl⟩⟩
      have hPa := HPA.out w4 l4 M4 B4
      have HE4 : Hid (mustR ⟨#[44]⟩ pl = some l4) := he
      have HO4 : Hid (w4.ownsRow w.heap.size 70 2 (.slice (some ⟨b, 0, none⟩) acc.length c) acc.length (rowG (encB (mkBy acc)) acc.length) ∧ But g w w4) := ⟨hO4, B4⟩
      clear hWa HO hO4 B4 b4 hres4 M4 he HN1'
      go_wp2_with fail
      refine hPa.mono ?_
      rintro e w5 ⟨b5, hres5⟩
      have hO5 := own_but9 HO4.out.1 b5 (by omega)
      have B5 := HO4.out.2.trans b5
      rcases hres5.symm with ⟨he, u, pv, rfl⟩ | ⟨⟨kc, db⟩, l5, he, rfl, M5⟩
      · have HR : Hid (T = none) := HN2'.out l4 HE4.out he
        have HB : Hid (But g w w5) := B5
        clear hPa HO4 hO5 B5 b5 HPA HN2' HSP' hres5
        go_wp2
        exact ⟨rfl, HB.out, .inr ⟨HR.out, u, pv, rfl⟩⟩
      have HST : Hid (InvT cs T (acc ++ [⟨kc, db⟩]) l5 ∧ l5.length < pl.length) := HSP'.out l4 _ l5 HE4.out he
      have hstl := HST.out.2
      have hsz := B5.size
      have hbA : Below w5.heap.size w5 (w5.alloc (.cells #[.int .i64 kc, .bool db] 70)) := (Below.refl _ _).alloc (Nat.le_refl _) _
      have hO6 := own_belowG hO5 hbA
      have hcl := cells_by9 w5 kc db
      have HOW := own_ge9 hO5
      have HN : Hid (rowG (encB (mkBy (acc ++ [⟨kc, db⟩]))) (acc ++ [(⟨kc, db⟩ : PBy)]).length = rowG (encB (mkBy acc)) acc.length ++ [.int .i64 kc, .bool db]) := by
        show _ = _
        rw [mkBy_snoc, List.length_append, List.length_singleton, rowG_updB]
      obtain ⟨K, hK⟩ : ∃ x, Hid (acc.length = x) := ⟨_, rfl⟩
      have HNL : Hid ((acc ++ [(⟨kc, db⟩ : PBy)]).length = K + 1) := by show _ = _; rw [List.length_append, List.length_singleton, hK.out]
      rw [HNL.out, hK.out] at HN
      rw [hK.out] at hO6 HOW hlen ⊢
      obtain ⟨R, hR⟩ : ∃ x, Hid (rowG (encB (mkBy acc)) K = x) := ⟨_, rfl⟩
      rw [hR.out] at hO6 HN
      have HK5 : Hid (IR g S l5 w5 ∧ But g w w5) := ⟨M5, B5⟩
      clear hPa HO4 hO5 B5 b5 HN2' HSP' hres5 M5 he hbA HE4 HPA
      go_wp2_with (at_builtin; refine wpList_append_own _ rfl (.tmp 15) (.tmp 19) 32 rfl w.heap.size 70 i0 (.agg #[.int .i64 0, .bool false]) 2 16 Tryz.underlying32 hi hz0 hz1 hz2 rfl (by decide) _ _ _ rfl hO6 ⟨w5.heap.size, 0, none⟩ 1 1 [.int .i64 kc, .bool db] rfl rfl hcl (one_by9 _ _) (by unfold maxLen; omega) (by omega) (by simp; omega) ?_)
      intro v5 w10 hown5 hgr hnil
      obtain ⟨g', cap', rfl⟩ := own_succ9 hown5
      have hbA : Below w5.heap.size w5 (w5.alloc (.cells #[.int .i64 kc, .bool db] 70)) := (Below.refl _ _).alloc (Nat.le_refl _) _
      have M10 := (HK5.out.1.below hbA).grown hgr (fun e => by have := HOW _ e; omega) (fun e => by have := HOW _ e; omega)
      have B10 := (HK5.out.2.trans (But.ofBelow hbA)).grownOwn hgr HOW
      have HR : Hid (IR g S l5 w10 ∧ But g w w10 ∧ w10.ownsRow w.heap.size 70 2 (.slice (some ⟨g', 0, none⟩) (K + 1) cap') (K + 1) (rowG (encB (mkBy (acc ++ [⟨kc, db⟩]))) (K + 1))) := by
        refine ⟨M10, B10, ?_⟩
        rw [HN.out]; exact hown5
      clear hown5 hgr hnil hO6 hcl HOW M10 B10 HK5 hbA HN
      go_wp2
      go_roundg l5.length
      case measure => exact HST.out.2
      case rel => exact ⟨acc ++ [(⟨kc, db⟩ : PBy)], l5, g', cap', rfl, by rw [HNL.out], by rw [HNL.out]; exact HR.out.2.2, HR.out.1, HR.out.2.1, HST.out.1, by rw [HNL.out]; omega⟩
end Go.Proofs.YtnpfgamlncfikaaGreatDoor

/-
  The program's index, walked.
-/
namespace Go.Proofs.YtnpfgamlncfikaaGreatDoor
open Go.RowKit
set_option maxRecDepth 4000

set_option maxHeartbeats 8000000 in
theorem index_any {g : Nat} {S : Src} {l : List Tok} {w : World} (h : IR g S l w) (hu : ErrU w) (hge : 0 < g) (a : Option Addr) (cap : Nat) (cs : List PCol) (hn : cs.length ≤ 1000) (hC : ∀ W, But g w W → CView W a cs.length cap (mkCol cs)) :
    Calls Tryz.prog 124 #[.pointer (some ⟨g, 0, none⟩), .slice a cs.length cap] w fun e w' => But g w w' ∧ ((∃ (n : ByteArray) (u : Bool) (ps : List PBy) (r : List Tok) (b c : Nat), idxI cs l = some ((n, u, ps), r) ∧ e = .returned (.agg #[.string n, .bool u, .slice (some ⟨b, 0, none⟩) ps.length c]) ∧ w'.ownsRow w.heap.size 70 2 (.slice (some ⟨b, 0, none⟩) ps.length c) ps.length (rowG (encB (mkBy ps)) ps.length) ∧ n.size ≤ 8 ∧ ps.length ≤ 501 ∧ IR g S r w') ∨ (idxI cs l = none ∧ Gave e)) := by
  have hg := h.glt
  have ht := h.lt
  have HU : Hid (ErrU w) := hu
  have HPA : Hid (∀ (W : World) (l' : List Tok), IR g S l' W → But g w W → Calls Tryz.prog 123 #[.pointer (some ⟨g, 0, none⟩), .slice a cs.length cap] W fun e w' => But g W w' ∧ ((∃ (ps : List PBy) (r : List Tok) (b c : Nat), partsI cs (l'.length + 1) l' = some (ps, r) ∧ e = .returned (.slice (some ⟨b, 0, none⟩) ps.length c) ∧ w'.ownsRow W.heap.size 70 2 (.slice (some ⟨b, 0, none⟩) ps.length c) ps.length (rowG (encB (mkBy ps)) ps.length) ∧ ps.length ≤ 501 ∧ IR g S r w') ∨ (partsI cs (l'.length + 1) l' = none ∧ Gave e))) := fun W l' hM hB => parts_any hM (hu.but hB hge) hge a cap cs hn (fun W' hb => hC W' (hB.trans hb))
  have HP : Hid (idxI cs l = (idxW (isR kUnique l).1 (isR kUnique l).2).bind (fun l2 => (nextI l2).bind (fun y => (partsI cs (y.2.length + 1) y.2).bind (fun z => some ((y.1, (isR kUnique l).1, z.1), z.2))))) := rfl
  obtain ⟨T, hT⟩ : ∃ x, Hid (idxI cs l = x) := ⟨_, rfl⟩
  rw [hT.out] at HP ⊢
  obtain ⟨N, hNN⟩ : ∃ x, Hid (cs.length = x) := ⟨_, rfl⟩
  rw [hNN.out] at HPA ⊢
  have hPs := passes_any kUnique (h.new (.cells #[.string ⟨#[]⟩, .bool false, .slice none 0 0] 73))
  have R0 := V3.new w 73 (.string ⟨#[]⟩) (.bool false) (.slice none 0 0)
  have B0 : But g w (w.alloc (.cells #[.string ⟨#[]⟩, .bool false, .slice none 0 0] 73)) := (But.refl _ _).new _
  obtain ⟨⟨ub, us⟩, hub⟩ : ∃ x, Hid (isR kUnique l = x) := ⟨_, rfl⟩
  simp only [hub.out] at hPs HP
  clear h hC hu hT hn
  go_enter Tryz.func124, Tryz.ntmps124
  go_wp2_with fail
  refine hPs.mono ?_
  rintro e w1 ⟨rfl, M1, b1⟩
  have R1 := R0.but b1 (by omega)
  have B1 := B0.trans b1
  obtain ⟨X, hX⟩ : ∃ X, Hid (w1.heap.size = X) := ⟨_, rfl⟩
  have hx0 : w.heap.size < X := by rw [← hX.out]; exact R1.lt
  have X2 := V3.new w1 73 (.string ⟨#[]⟩) (.bool ub) (.slice none 0 0)
  have R2 := R1.below ((Below.refl w1.heap.size w1).alloc (Nat.le_refl _) (.cells #[.string ⟨#[]⟩, .bool ub, .slice none 0 0] 73))
  have B2 := B1.new (.cells #[.string ⟨#[]⟩, .bool ub, .slice none 0 0] 73)
  have M2 := M1.new (.cells #[.string ⟨#[]⟩, .bool ub, .slice none 0 0] 73)
  rw [hX.out] at X2
  have hXe : w1.heap.size = X := hX.out
  obtain ⟨W2, hW2⟩ : ∃ W2, Hid (w1.alloc (.cells #[.string ⟨#[]⟩, .bool ub, .slice none 0 0] 73) = W2) := ⟨_, rfl⟩
  rw [hW2.out] at X2 R2 B2 M2
  obtain ⟨-, x1, -⟩ := X2.cells
  have HK2 : Hid (V3 W2 X 73 (.string ⟨#[]⟩) (.bool ub) (.slice none 0 0) ∧ V3 W2 w.heap.size 73 (.string ⟨#[]⟩) (.bool false) (.slice none 0 0) ∧ But g w W2 ∧ IR g S us W2) := ⟨X2, R2, B2, M2⟩
  clear hPs R0 B0 M1 b1 R1 B1 X2 R2 B2 M2
  go_upto_if 11 with (rw [hW2.out])
  clear hW2 hXe hX
  go_cut [] (fun wx => ∃ l2, idxW ub us = some l2 ∧ V3 wx X 73 (.string ⟨#[]⟩) (.bool ub) (.slice none 0 0) ∧ V3 wx w.heap.size 73 (.string ⟨#[]⟩) (.bool false) (.slice none 0 0) ∧ But g w wx ∧ IR g S l2 wx)
  case first =>
    cases ub with
    | true =>
      clear HP HPA
      go_wp2
      go_meet
      exact ⟨us, rfl, HK2.out.1, HK2.out.2.1, HK2.out.2.2.1, HK2.out.2.2.2⟩
    | false =>
      have hWa := want_any kIndex HK2.out.2.2.2 (HU.out.but HK2.out.2.2.1 hge) hge
      clear HPA
      go_wp2_with fail
      refine hWa.mono ?_
      rintro e w3 ⟨b3, hres3⟩
      rcases hres3.symm with ⟨he, u, pv, rfl⟩ | ⟨l3, he, rfl, M3⟩
      · have HR : Hid (T = none) := by
          show _ = _
          rw [HP.out, show idxW false us = mustR kIndex us from rfl, he]; rfl
        have HB : Hid (But g w w3) := HK2.out.2.2.1.trans b3
        clear hWa b3 HP HK2 hres3 x1
        go_wp2
        exact ⟨rfl, HB.out, .inr ⟨HR.out, u, pv, rfl⟩⟩
      · have HF : Hid (idxW false us = some l3 ∧ V3 w3 X 73 (.string ⟨#[]⟩) (.bool false) (.slice none 0 0) ∧ V3 w3 w.heap.size 73 (.string ⟨#[]⟩) (.bool false) (.slice none 0 0) ∧ But g w w3 ∧ IR g S l3 w3) := ⟨he, HK2.out.1.but b3 (by omega), HK2.out.2.1.but b3 (by omega), HK2.out.2.2.1.trans b3, M3⟩
        clear hWa b3 HP HK2 hres3 x1 M3 he
        go_wp2
        go_meet
        exact ⟨l3, HF.out⟩
  case rest =>
    clear HK2 x1
    obtain ⟨l2, hE2, X3, R3, B3, M3⟩ := hcut
    have HP2 : Hid (T = (nextI l2).bind (fun y => (partsI cs (y.2.length + 1) y.2).bind (fun z => some ((y.1, ub, z.1), z.2)))) := by show _ = _; rw [HP.out, hE2]; rfl
    have hN := next_any M3 (HU.out.but B3 hge)
    have HOK : Hid (∀ n r, nextI l2 = some (n, r) → n.size ≤ 8) := by
      intro n r hnx
      have hok := M3.size.2
      cases l2 with
      | nil => cases hnx
      | cons t q =>
        simp only [nextI, Option.some.injEq, Prod.mk.injEq] at hnx
        have := hok t (List.mem_cons_self ..)
        rw [← hnx.1]
        unfold tokOk at this
        split at this
        · unfold nameOk at this; exact (of_decide_eq_true this).2.1
        · split at this
          · unfold markOk at this; have := (of_decide_eq_true this).1; omega
          · cases this
    clear HP hE2 M3
    go_wp2_with fail
    refine hN.mono ?_
    rintro e w4 ⟨b4, hres4⟩
    have B4 := B3.trans b4
    rcases hres4.symm with ⟨he, u, pv, rfl⟩ | ⟨n, r4, he, rfl, M4⟩
    · have HR : Hid (T = none) := by show _ = _; rw [HP2.out, he]; rfl
      have HB : Hid (But g w w4) := B4
      clear hN R3 X3 B3 b4 B4 HP2 hres4 HPA
      go_wp2
      exact ⟨rfl, HB.out, .inr ⟨HR.out, u, pv, rfl⟩⟩
    have HP3 : Hid (T = (partsI cs (r4.length + 1) r4).bind (fun z => some ((n, ub, z.1), z.2))) := by show _ = _; rw [HP2.out, he]; rfl
    have HNS : Hid (n.size ≤ 8) := HOK.out n r4 he
    have X4 := X3.but b4 (by omega)
    have R4 := R3.but b4 (by omega)
    have X5 := X4.set0 (.string n)
    have R5 := R4.other (C := X) (i := 0) (u := .string n) (by omega)
    have M5 := M4.own (B := X) (i := 0) (by omega) (by omega) (.string n)
    have B5 := B4.own (B := X) (i := 0) (by omega) (.string n)
    obtain ⟨x0, -, -⟩ := X4.cells
    obtain ⟨f0, -, -⟩ := X4.fz
    obtain ⟨W5, hW5⟩ : ∃ W5, Hid (w4.setCell ⟨X, 0, none⟩ (.string n) = W5) := ⟨_, rfl⟩
    rw [hW5.out] at X5 R5 M5 B5
    have hPa := HPA.out W5 r4 M5 B5
    clear hN R3 X3 B3 b4 B4 HP2 hres4 HPA X4 R4 M4 M5 he HOK
    go_wp2_with (rw [hW5.out])
    refine hPa.mono ?_
    rintro e w6 ⟨b6, hres6⟩
    have B6 := B5.trans b6
    rcases hres6.symm with ⟨he, u, pv, rfl⟩ | ⟨ps, r6, b, c, he, rfl, hO6, hp6, M6⟩
    · have HR : Hid (T = none) := by show _ = _; rw [HP3.out, he]; rfl
      have HB : Hid (But g w w6) := B6
      clear hPa R5 X5 B5 b6 B6 HP3 hres6 x0 f0
      go_wp2
      exact ⟨rfl, HB.out, .inr ⟨HR.out, u, pv, rfl⟩⟩
    have HP4 : Hid (T = some ((n, ub, ps), r6)) := by show _ = _; rw [HP3.out, he]; rfl
    have X6 := X5.but b6 (by omega)
    have R6 := R5.but b6 (by omega)
    have hO6' := own_down9 hO6 B5.size
    have hlt6 := own_lt9 hO6
    have hsX := X5.lt
    obtain ⟨K, hK⟩ : ∃ x, Hid (ps.length = x) := ⟨_, rfl⟩
    rw [hK.out] at hO6' ⊢
    clear x0 f0
    obtain ⟨x0, x1, x2⟩ := X6.cells
    obtain ⟨f0, f1, f2⟩ := X6.fz
    have X7 := X6.set2 (.slice (some ⟨b, 0, none⟩) K c)
    have R7 := R6.other (C := X) (i := 2) (u := .slice (some ⟨b, 0, none⟩) K c) (by omega)
    obtain ⟨W7, hW7⟩ : ∃ W7, Hid (w6.setCell ⟨X, 2, none⟩ (.slice (some ⟨b, 0, none⟩) K c) = W7) := ⟨_, rfl⟩
    rw [hW7.out] at X7 R7
    obtain ⟨z0, z1, z2⟩ := X7.cells
    obtain ⟨y0, y1, y2⟩ := R7.cells
    obtain ⟨q0, q1, q2⟩ := R7.fz
    have R8 := ((R7.set0 (.string n)).set1 (.bool ub)).set2 (.slice (some ⟨b, 0, none⟩) K c)
    obtain ⟨r0, r1, r2⟩ := R8.cells
    have key : ∀ (W : World) (Bk i : Nat) (v : Value), w.heap.size ≤ Bk → Bk ≠ b → (But g w W ∧ IR g S r6 W ∧ W.ownsRow w.heap.size 70 2 (.slice (some ⟨b, 0, none⟩) K c) K (rowG (encB (mkBy ps)) K)) → (But g w (W.setCell ⟨Bk, i, none⟩ v) ∧ IR g S r6 (W.setCell ⟨Bk, i, none⟩ v) ∧ (W.setCell ⟨Bk, i, none⟩ v).ownsRow w.heap.size 70 2 (.slice (some ⟨b, 0, none⟩) K c) K (rowG (encB (mkBy ps)) K)) := by
      intro W Bk i v h1 h2 ⟨h3, h4, h5⟩
      refine ⟨h3.own h1 v, h4.own (by omega) (by omega) v, h5.1, ?_⟩
      rcases h5.2 with ⟨e, h0⟩ | ⟨g1, k, cur, e, hb0, hgk, hr⟩
      · exact .inl ⟨e, h0⟩
      · refine .inr ⟨g1, k, cur, e, hb0, ?_, hr⟩
        rw [Below.heap_setCell _ _ _ _ (show g1 ≠ Bk by cases e; exact Ne.symm h2)]; exact hgk
    have hane : ∀ Bk, Bk ≤ X → Bk ≠ b := fun Bk h => by omega
    have HF : Hid _ := key _ w.heap.size 2 (.slice (some ⟨b, 0, none⟩) K c) (by omega) (hane _ (by omega)) (key _ w.heap.size 1 (.bool ub) (by omega) (hane _ (by omega)) (key _ w.heap.size 0 (.string n) (by omega) (hane _ (by omega)) (key w6 X 2 (.slice (some ⟨b, 0, none⟩) K c) (by omega) (hane _ (by omega)) ⟨B6, M6, hO6'⟩)))
    rw [hW7.out] at HF
    clear key hane hPa R5 X5 B5 b6 B6 HP3 hres6 hO6 hO6' M6 he X6 R6 X7 R7 R8 hlt6 hsX
    go_wp2_with (rw [hW7.out])
    refine bodyPost_ret (v := .agg #[.string n, .bool ub, .slice (some ⟨b, 0, none⟩) K c]) (by simp [results, Tryz.results124, go_sem, r0, r1, r2]) rfl ⟨HF.out.1, .inl ⟨n, ub, ps, r6, b, c, HP4.out, by rw [hK.out], by rw [hK.out]; exact HF.out.2.2, HNS.out, hp6, HF.out.2.1⟩⟩
end Go.Proofs.YtnpfgamlncfikaaGreatDoor

/-
  The program's col, walked.
-/
namespace Go.Proofs.YtnpfgamlncfikaaGreatDoor
open Go.RowKit
set_option maxRecDepth 4000

set_option maxHeartbeats 4000000 in
theorem col_any {g : Nat} {S : Src} {l : List Tok} {w : World} (h : IR g S l w) (hu : ErrU w) (hty : TyN w) (hge : 0 < g) (hgt : 1 < g) :
    Calls Tryz.prog 122 #[.pointer (some ⟨g, 0, none⟩)] w fun e w' => But g w w' ∧ ((∃ c r, colI l = some (c, r) ∧ e = .returned (.agg #[.string c.name, .int .i64 c.type, .bool c.null]) ∧ IR g S r w') ∨ (colI l = none ∧ Gave e)) := by
  have hg := h.glt
  have ht := h.lt
  have B0 : But g w (w.alloc (.cells #[.string ⟨#[]⟩, .int .i64 0, .bool false] 67)) := (But.refl _ _).new _
  have hN := next_any (h.new (.cells #[.string ⟨#[]⟩, .int .i64 0, .bool false] 67)) (hu.but B0 hge)
  have R0 := V3.new w 67 (.string ⟨#[]⟩) (.int .i64 0) (.bool false)
  have HP : Hid (colI l = (nextI l).bind (fun y => (nextI y.2).bind (fun z => (typeI z.1).bind (fun t => (mustR ⟨#[59]⟩ (isR kNull z.2).2).bind (fun l4 => some (⟨y.1, t, (isR kNull z.2).1⟩, l4)))))) := rfl
  obtain ⟨T, hT⟩ : ∃ x, Hid (colI l = x) := ⟨_, rfl⟩
  rw [hT.out] at HP ⊢
  have HU : Hid (ErrU w) := hu
  have HTY : Hid (∀ W, But g w W → TyN W) := fun W hb i hi => (World.cell?_of_block (a := ⟨1, i, none⟩) (hb.block _ hty.lt (by show 1 ≠ g; omega))).trans (hty i hi)
  clear h hu hT hty
  go_enter Tryz.func122, Tryz.ntmps122
  go_wp2_with fail
  refine hN.mono ?_
  rintro e w1 ⟨b1, hres1⟩
  have B1 := B0.trans b1
  rcases hres1.symm with ⟨he, u, pv, rfl⟩ | ⟨n, r, he, rfl, M1⟩
  · have HR : Hid (T = none) := by show _ = _; rw [HP.out, he]; rfl
    have HB : Hid (But g w w1) := B1
    clear hN R0 B0 b1 B1 HP
    go_wp2
    exact ⟨rfl, HB.out, .inr ⟨HR.out, u, pv, rfl⟩⟩
  have HP1 : Hid (T = (nextI r).bind (fun z => (typeI z.1).bind (fun t => (mustR ⟨#[59]⟩ (isR kNull z.2).2).bind (fun l4 => some (⟨n, t, (isR kNull z.2).1⟩, l4))))) := by show _ = _; rw [HP.out, he]; rfl
  have R1 := R0.but b1 (by omega)
  obtain ⟨X, hX⟩ : ∃ X, Hid (w1.heap.size = X) := ⟨_, rfl⟩
  have hx0 : w.heap.size < X := by rw [← hX.out]; exact R1.lt
  have X2 := V3.new w1 67 (.string n) (.int .i64 0) (.bool false)
  have R2 := R1.below ((Below.refl w1.heap.size w1).alloc (Nat.le_refl _) (.cells #[.string n, .int .i64 0, .bool false] 67))
  have B2 := B1.new (.cells #[.string n, .int .i64 0, .bool false] 67)
  have hN2 := next_any (M1.new (.cells #[.string n, .int .i64 0, .bool false] 67)) (HU.out.but B2 hge)
  rw [hX.out] at X2
  have hXe : w1.heap.size = X := hX.out
  clear hN R0 B0 b1 B1 HP he R1 M1
  go_wp2_with fail
  refine hN2.mono ?_
  rintro e w3 ⟨b3, hres2⟩
  have B3 := B2.trans b3
  rcases hres2.symm with ⟨he, u, pv, rfl⟩ | ⟨x, r3, he, rfl, M3⟩
  · have HR : Hid (T = none) := by show _ = _; rw [HP1.out, he]; rfl
    have HB : Hid (But g w w3) := B3
    clear hN2 R2 X2 B2 b3 B3 HP1
    go_wp2
    exact ⟨rfl, HB.out, .inr ⟨HR.out, u, pv, rfl⟩⟩
  have HP2 : Hid (T = (typeI x).bind (fun t => (mustR ⟨#[59]⟩ (isR kNull r3).2).bind (fun l4 => some (⟨n, t, (isR kNull r3).1⟩, l4)))) := by show _ = _; rw [HP1.out, he]; rfl
  have X3 := X2.but b3 (by omega)
  have R3 := R2.but b3 (by omega)
  have hTy := typeOf_any x w3 (HTY.out w3 B3) (HU.out.but B3 hge)
  clear hN2 R2 X2 B2 b3 HP1 he
  go_wp2_with fail
  refine hTy.mono ?_
  rintro e w4 ⟨rfl, hres3⟩
  rcases hres3.symm with ⟨he, u, pv, rfl⟩ | ⟨t, he, rfl⟩
  · have HR : Hid (T = none) := by show _ = _; rw [HP2.out, he]; rfl
    have HB : Hid (But g w w4) := B3
    clear hTy R3 X3 B3 HP2
    go_wp2
    exact ⟨rfl, HB.out, .inr ⟨HR.out, u, pv, rfl⟩⟩
  have HP3 : Hid (T = (mustR ⟨#[59]⟩ (isR kNull r3).2).bind (fun l4 => some (⟨n, t, (isR kNull r3).1⟩, l4))) := by show _ = _; rw [HP2.out, he]; rfl
  have X5 := X3.set1 (.int .i64 t)
  have R5 := R3.other (C := X) (i := 1) (u := .int .i64 t) (by omega)
  have M5 := M3.own (B := X) (i := 1) (by omega) (by omega) (.int .i64 t)
  have B5 := B3.own (B := X) (i := 1) (by omega) (.int .i64 t)
  obtain ⟨-, x1, -⟩ := X3.cells
  obtain ⟨-, f1, -⟩ := X3.fz
  obtain ⟨W5, hW5⟩ : ∃ W5, Hid (w4.setCell ⟨X, 1, none⟩ (.int .i64 t) = W5) := ⟨_, rfl⟩
  rw [hW5.out] at X5 R5 M5 B5
  have hPs := passes_any kNull M5
  obtain ⟨⟨zb, r6⟩, hzb⟩ : ∃ x, Hid (isR kNull r3 = x) := ⟨_, rfl⟩
  simp only [hzb.out] at hPs HP3
  clear hTy R3 X3 B3 HP2 M3 M5 he
  go_wp2_with (rw [hW5.out])
  refine hPs.mono ?_
  rintro e w6 ⟨rfl, M6, b6⟩
  have X6 := X5.but b6 (by omega)
  have R6 := R5.but b6 (by omega)
  have B6 := B5.trans b6
  have X7 := X6.set2 (.bool zb)
  have R7 := R6.other (C := X) (i := 2) (u := .bool zb) (by omega)
  have M7 := M6.own (B := X) (i := 2) (by omega) (by omega) (.bool zb)
  have B7 := B6.own (B := X) (i := 2) (by omega) (.bool zb)
  clear x1 f1
  obtain ⟨-, -, x2⟩ := X6.cells
  obtain ⟨-, -, f2⟩ := X6.fz
  obtain ⟨W7, hW7⟩ : ∃ W7, Hid (w6.setCell ⟨X, 2, none⟩ (.bool zb) = W7) := ⟨_, rfl⟩
  rw [hW7.out] at X7 R7 M7 B7
  have hWa := want_any ⟨#[59]⟩ M7 (HU.out.but B7 hge) hge
  clear hPs X5 R5 B5 X6 R6 B6 M6 b6 M7
  go_wp2_with (rw [hW7.out])
  refine hWa.mono ?_
  rintro e w8 ⟨b8, hres4⟩
  have B8 := B7.trans b8
  rcases hres4.symm with ⟨he, u, pv, rfl⟩ | ⟨r8, he, rfl, M8⟩
  · have HR : Hid (T = none) := by show _ = _; rw [HP3.out, he]; rfl
    have HB : Hid (But g w w8) := B8
    clear hWa R7 X7 B7 b8 B8 HP3 x2 f2
    go_wp2
    exact ⟨rfl, HB.out, .inr ⟨HR.out, u, pv, rfl⟩⟩
  have HP4 : Hid (T = some (⟨n, t, zb⟩, r8)) := by show _ = _; rw [HP3.out, he]; rfl
  have X8 := X7.but b8 (by omega)
  have R8 := R7.but b8 (by omega)
  clear hWa X7 R7 B7 b8 x2 f2 HP3 he
  obtain ⟨x0, x1, x2⟩ := X8.cells
  obtain ⟨y0, y1, y2⟩ := R8.cells
  obtain ⟨q0, q1, q2⟩ := R8.fz
  have R9 := ((R8.set0 (.string n)).set1 (.int .i64 t)).set2 (.bool zb)
  obtain ⟨r0, r1, r2⟩ := R9.cells
  have HF : Hid (But g w (((w8.setCell ⟨w.heap.size, 0, none⟩ (.string n)).setCell ⟨w.heap.size, 1, none⟩ (.int .i64 t)).setCell ⟨w.heap.size, 2, none⟩ (.bool zb)) ∧ IR g S r8 (((w8.setCell ⟨w.heap.size, 0, none⟩ (.string n)).setCell ⟨w.heap.size, 1, none⟩ (.int .i64 t)).setCell ⟨w.heap.size, 2, none⟩ (.bool zb))) :=
    ⟨((B8.own (Nat.le_refl _) _).own (Nat.le_refl _) _).own (Nat.le_refl _) _, ((M8.own (by omega) (by omega) _).own (by omega) (by omega) _).own (by omega) (by omega) _⟩
  clear R8 X8 B8 M8 R9
  go_wp2
  refine bodyPost_ret (v := .agg #[.string n, .int .i64 t, .bool zb]) (by simp [results, Tryz.results122, go_sem, r0, r1, r2]) rfl ⟨HF.out.1, .inl ⟨⟨n, t, zb⟩, r8, HP4.out, rfl, HF.out.2⟩⟩
end Go.Proofs.YtnpfgamlncfikaaGreatDoor

