/-
  IDef
-/
import Derived.Test.YtnpfgamlncfikaaGreatDoorPackF18
import Derived.Test.YtnpfgamlncfikaaGreatDoorMDef
import Derived.Deep.RegionHeld3
/-
  The program's def, walked.
-/
namespace Go.Proofs.YtnpfgamlncfikaaGreatDoor
open Go.RowKit
set_option maxRecDepth 4000

/-- The table under way: its variable, its rows, the reader; the indexes' parts lie apart. -/
structure SDI (w : World) (g : Nat) (S : Src) (X : Nat) (n : ByteArray) (c : List PCol) (p : List PBy) (x : List (ByteArray × Bool × List PBy)) (l : List Tok) (W : World) : Prop where
  is : ∃ vc vp vi A C, V4 W w.heap.size 35 (.string ⟨#[]⟩) (.slice none 0 0) (.slice none 0 0) (.slice none 0 0) ∧ Vd w X (.string n) vc vp vi W ∧ Tb w vc vp vi (mkDef n c p x) A C W ∧ IR g S l W ∧ But g w W ∧ ∀ i j, i < j → j < x.length → A i ≠ A j
theorem SDI.next {w : World} {g : Nat} {S : Src} {X : Nat} {n : ByteArray} {c : List PCol} {p : List PBy} {x : List (ByteArray × Bool × List PBy)} {l l' : List Tok} {W W' : World} (h : SDI w g S X n c p x l W) (hg : g < w.heap.size) (hM : IR g S l' W') (hb : But g W W') : SDI w g S X n c p x l' W' := by
  obtain ⟨vc, vp, vi, A, C, h1, h2, h3, h4, h5, h6⟩ := h.is
  exact ⟨vc, vp, vi, A, C, h1.but hb (by omega), h2.but hb hg, h3.but hb hg, hM, h5.trans hb, h6⟩
theorem SDI.ir {w : World} {g : Nat} {S : Src} {X : Nat} {n : ByteArray} {c : List PCol} {p : List PBy} {x : List (ByteArray × Bool × List PBy)} {l : List Tok} {W : World} (h : SDI w g S X n c p x l W) : IR g S l W := by
  obtain ⟨vc, vp, vi, A, C, h1, h2, h3, h4, h5⟩ := h.is
  exact h4
theorem SDI.but {w : World} {g : Nat} {S : Src} {X : Nat} {n : ByteArray} {c : List PCol} {p : List PBy} {x : List (ByteArray × Bool × List PBy)} {l : List Tok} {W : World} (h : SDI w g S X n c p x l W) : But g w W := by
  obtain ⟨vc, vp, vi, A, C, h1, h2, h3, h4, h5, h6⟩ := h.is
  exact h5
theorem colI_name {l r : List Tok} {c : PCol} (ha : AllOk l) (h : colI l = some (c, r)) : c.name.size ≤ 8 := by
  unfold colI at h
  simp only [Option.bind_eq_bind, Option.bind_eq_some_iff, Prod.exists, Option.pure_def, Option.some.injEq, Prod.mk.injEq] at h
  obtain ⟨n, l1, a1, x, l2, a2, t, a3, l4, a4, rfl, rfl⟩ := h
  exact next_size ha a1

set_option maxHeartbeats 16000000 in
theorem def_any {g : Nat} {S : Src} {l : List Tok} {w : World} (h : IR g S l w) (hu : ErrU w) (hty : TyN w) (hge : 0 < g) (hgt : 1 < g) :
    Calls Tryz.prog 74 #[.pointer (some ⟨g, 0, none⟩)] w fun e w' => But g w w' ∧ ((∃ (n : ByteArray) (c : List PCol) (p : List PBy) (x : List (ByteArray × Bool × List PBy)) (r : List Tok) (vc vp vi : Value) (A C : Nat → Nat), defI l = some (mkDef n c p x, r) ∧ e = .returned (.agg #[.string n, vc, vp, vi]) ∧ Tb w vc vp vi (mkDef n c p x) A C w' ∧ IR g S r w' ∧ ∀ i j, i < j → j < x.length → A i ≠ A j) ∨ (defI l = none ∧ Gave e)) := by
  obtain ⟨iC, hiC⟩ := infoCol9
  obtain ⟨iI, hiI⟩ := infoIdx9
  have hg := h.glt
  have ht := h.lt
  have HU : Hid (∀ W, But g w W → ErrU W) := fun W hb => hu.but hb hge
  have HTY : Hid (∀ W, But g w W → TyN W) := fun W hb i hi => (World.cell?_of_block (a := ⟨1, i, none⟩) (hb.block _ hty.lt (by show 1 ≠ g; omega))).trans (hty i hi)
  have HP : Hid (defI l = (mustR kTable l).bind (fun l1 => (nextI l1).bind (fun y => (mustR ⟨#[123]⟩ y.2).bind (fun l3 => (colsI (l3.length + 1) l3).bind (fun c => (partsI c.1 (c.2.length + 1) c.2).bind (fun p => (idxsI c.1 (p.2.length + 1) p.2).bind (fun x => some (mkDef y.1 c.1 p.1 x.1, x.2)))))))) := rfl
  obtain ⟨T, hT⟩ : ∃ x, Hid (defI l = x) := ⟨_, rfl⟩
  rw [hT.out] at HP ⊢
  have R0 := V4.new w 35 (.string ⟨#[]⟩) (.slice none 0 0) (.slice none 0 0) (.slice none 0 0)
  have B0 : But g w (w.alloc (.cells #[.string ⟨#[]⟩, .slice none 0 0, .slice none 0 0, .slice none 0 0] 35)) := (But.refl _ _).new _
  have hWa := want_any kTable (h.new (.cells #[.string ⟨#[]⟩, .slice none 0 0, .slice none 0 0, .slice none 0 0] 35)) (HU.out _ B0) hge
  clear h hu hT hty
  go_enter Tryz.func74, Tryz.ntmps74
  go_wp2_with fail
  refine hWa.mono ?_
  rintro e w1 ⟨b1, hres1⟩
  have B1 := B0.trans b1
  rcases hres1.symm with ⟨he, u, pv, rfl⟩ | ⟨l1, he, rfl, M1⟩
  · have HR : Hid (T = none) := by show _ = _; rw [HP.out, he]; rfl
    have HB : Hid (But g w w1) := B1
    clear hWa R0 B0 b1 B1 HP hres1
    go_wp2
    exact ⟨rfl, HB.out, .inr ⟨HR.out, u, pv, rfl⟩⟩
  have HP1 : Hid (T = (nextI l1).bind (fun y => (mustR ⟨#[123]⟩ y.2).bind (fun l3 => (colsI (l3.length + 1) l3).bind (fun c => (partsI c.1 (c.2.length + 1) c.2).bind (fun p => (idxsI c.1 (p.2.length + 1) p.2).bind (fun x => some (mkDef y.1 c.1 p.1 x.1, x.2))))))) := by show _ = _; rw [HP.out, he]; rfl
  have R1 := R0.but b1 (by omega)
  have hN := next_any M1 (HU.out _ B1)
  have HNS : Hid (∀ n r, nextI l1 = some (n, r) → n.size ≤ 8) := fun n r h => next_size M1.size.2 h
  clear hWa R0 B0 b1 HP hres1 he M1
  go_wp2_with fail
  refine hN.mono ?_
  rintro e w2 ⟨b2, hres2⟩
  have B2 := B1.trans b2
  rcases hres2.symm with ⟨he, u, pv, rfl⟩ | ⟨n, l2, he, rfl, M2⟩
  · have HR : Hid (T = none) := by show _ = _; rw [HP1.out, he]; rfl
    have HB : Hid (But g w w2) := B2
    clear hN R1 B1 b2 B2 HP1 hres2 HNS
    go_wp2
    exact ⟨rfl, HB.out, .inr ⟨HR.out, u, pv, rfl⟩⟩
  have HP2 : Hid (T = (mustR ⟨#[123]⟩ l2).bind (fun l3 => (colsI (l3.length + 1) l3).bind (fun c => (partsI c.1 (c.2.length + 1) c.2).bind (fun p => (idxsI c.1 (p.2.length + 1) p.2).bind (fun x => some (mkDef n c.1 p.1 x.1, x.2)))))) := by show _ = _; rw [HP1.out, he]; rfl
  have hns : n.size ≤ 1000 := by have := HNS.out n l2 he; omega
  have R2 := R1.but b2 (by omega)
  obtain ⟨X, hX⟩ : ∃ X, Hid (w2.heap.size = X) := ⟨_, rfl⟩
  have hx0 : w.heap.size < X := by rw [← hX.out]; exact R2.lt
  have S3 : SDI w g S X n [] [] [] l2 (w2.alloc (.cells #[.string n, .slice none 0 0, .slice none 0 0, .slice none 0 0] 35)) := by
    have hV := Vd.new (w := w) (W := w2) B2.size (.string n) (.slice none 0 0) (.slice none 0 0) (.slice none 0 0)
    rw [hX.out] at hV
    exact ⟨_, _, _, _, _, R2.below ((Below.refl _ _).alloc (Nat.le_refl _) _), hV, rows_empty _ _ _ hns, M2.new _, B2.new _, fun i j _ hj => absurd hj (Nat.not_lt_zero _)⟩
  have hXe : w2.heap.size = X := hX.out
  have hWa := want_any ⟨#[123]⟩ S3.ir (HU.out _ S3.but) hge
  have HS3 : Hid (SDI w g S X n [] [] [] l2 (w2.alloc (.cells #[.string n, .slice none 0 0, .slice none 0 0, .slice none 0 0] 35))) := S3
  clear hN R1 B1 b2 HP1 hres2 HNS he R2 M2 S3 B2
  go_wp2_with fail
  refine hWa.mono ?_
  rintro e w4 ⟨b4, hres4⟩
  rcases hres4.symm with ⟨he, u, pv, rfl⟩ | ⟨l4, he, rfl, M4⟩
  · have HR : Hid (T = none) := by show _ = _; rw [HP2.out, he]; rfl
    have HB : Hid (But g w w4) := HS3.out.but.trans b4
    clear hWa b4 HP2 hres4 HS3
    go_wp2
    exact ⟨rfl, HB.out, .inr ⟨HR.out, u, pv, rfl⟩⟩
  have HP3 : Hid (T = (colsI (l4.length + 1) l4).bind (fun c => (partsI c.1 (c.2.length + 1) c.2).bind (fun p => (idxsI c.1 (p.2.length + 1) p.2).bind (fun x => some (mkDef n c.1 p.1 x.1, x.2))))) := by show _ = _; rw [HP2.out, he]; rfl
  have S4 : Hid (SDI w g S X n [] [] [] l4 w4) := HS3.out.next hg M4 b4
  have hl4 := M4.size.1
  clear hWa b4 HP2 hres4 HS3 M4 he hXe
  clear hX
  go_upto_block 0 with fail
  go_cut [] (fun wx => ∃ (c : List PCol) (r : List Tok), SDI w g S X n c [] [] r wx ∧ Hid (colsI (l4.length + 1) l4 = some (c, r)))
  case first =>
    go_wp2
    go_loopg [] l4.length (fun q wr => ∃ (acc : List PCol) (lk : List Tok), q = lk.length ∧ SDI w g S X n acc [] [] lk wr ∧ Hid (InvCI (colsI (l4.length + 1) l4) acc lk) ∧ acc.length + lk.length ≤ 500)
    case atStart => exact ⟨[], l4, rfl, S4.out, invCI_start l4, by simp; omega⟩
    case round =>
      clear S4
      obtain ⟨acc, lk, rfl, hS, HI, hlen⟩ := hrel
      have hPs := passes_any kPrimary hS.ir
      have HS : Hid (SDI w g S X n acc [] [] lk wr) := hS
      have HEN : Hid ((isR kPrimary lk).1 = true → colsI (l4.length + 1) l4 = some (acc, (isR kPrimary lk).2)) := fun h => invCI_end HI.out h
      have HMI : Hid ((isR kPrimary lk).1 = false → (isR kPrimary lk).2 = lk) := fun h => isR_false (s := kPrimary) (l := lk) (r := (isR kPrimary lk).2) (by rw [← h])
      have HN1 : Hid ((isR kPrimary lk).1 = false → colI lk = none → colsI (l4.length + 1) l4 = none) := fun h h2 => invCI_no HI.out h h2
      have HSP : Hid ((isR kPrimary lk).1 = false → ∀ c r, colI lk = some (c, r) → InvCI (colsI (l4.length + 1) l4) (acc ++ [c]) r ∧ r.length < lk.length) := fun h c r h2 => invCI_step HI.out h h2
      obtain ⟨⟨pb, pl⟩, hpb⟩ : ∃ x, Hid (isR kPrimary lk = x) := ⟨_, rfl⟩
      simp only [hpb.out] at hPs HEN HMI HN1 HSP
      clear hS HI
      go_wp2_with fail
      refine hPs.mono ?_
      rintro e w5 ⟨rfl, M5, b5⟩
      cases pb with
      | true =>
        have HR : Hid (SDI w g S X n acc [] [] pl w5) := HS.out.next hg M5 b5
        have HE : Hid (colsI (l4.length + 1) l4 = some (acc, pl)) := HEN.out rfl
        clear hPs M5 b5 HS HSP HMI HN1 HEN
        go_wp2
        go_meet
        exact ⟨acc, pl, HR.out, HE.out⟩
      | false =>
        obtain rfl : pl = lk := HMI.out rfl
        have S5 := HS.out.next hg M5 b5
        have HN1' : Hid (colI pl = none → T = none) := fun h => by rw [HP3.out, HN1.out rfl h]; rfl
        have HSP' : Hid (∀ c r, colI pl = some (c, r) → InvCI (colsI (l4.length + 1) l4) (acc ++ [c]) r ∧ r.length < pl.length) := HSP.out rfl
        clear hPs M5 b5 HS HSP HMI HEN HN1 HP3
        obtain ⟨vc, vp, vi, A, C, k1, k2, k3, k4, k5, k6⟩ := S5.is
        go_wp2_with fail
        have bD : Below w5.heap.size w5 w5.drew := (Below.refl _ _).drew
        replace k1 := k1.below bD
        replace k2 := k2.below bD
        replace k3 := k3.below bD
        replace k4 := k4.below bD
        replace k5 := k5.trans (But.ofBelow bD)
        clear bD S5
        refine wp_region_held_drew (S := (fun _ => True)) (by kernel_rfl) trivial (fun hHeld => ?_)
        obtain ⟨wq, hwq⟩ : ∃ wq, Hid (wq = w5.drew) := ⟨_, rfl⟩
        rw [← hwq.out] at k1 k2 k3 k4 k5 ⊢
        refine' wpAnyH_take (i := 0) (v := _) rfl (by kernel_rfl) (by kernel_rfl) (by kernel_rfl) (fun _ _ _ h => h) (Or.inl ⟨by kernel_rfl, ?hia1⟩) (by assumption) ?ria1
        case hia1 => intro W hW; go_simp; all_goals with_reducible rfl
        change wpAnyH _ _ _ _ _ _ _ (Act.put _ (some 14) _) _
        simp only [Act.put, List.setIfInBounds_toArray, List.set_cons_zero, List.set_cons_succ]
        refine' wpAnyH_take (i := 2) (v := _) rfl (by kernel_rfl) (by kernel_rfl) (by kernel_rfl) (fun _ _ _ h => h) (Or.inl ⟨by kernel_rfl, ?hia2⟩) (by assumption) ?ria2
        case hia2 => intro W hW; go_simp; all_goals with_reducible rfl
        change wpAnyH _ _ _ _ _ _ _ (Act.put _ (some 16) _) _
        simp only [Act.put, List.setIfInBounds_toArray, List.set_cons_zero, List.set_cons_succ]
        refine wpAnyH_ready (rs := [1, 3]) (by kernel_rfl) (by simp) ?_
        refine AllReadyH.cons rfl (fun KK hK => ?_) (AllReadyH.cons rfl (fun KK hK => ?_) AllReadyH.nil)
        ·
          obtain ⟨y0, y1, y2, y3⟩ := k2.v.cells
          go_simp
          clear y0 y1 y2 y3
          refine hK.out _ _ trivial (fun hHeld => ?_)
          clear hK KK
          try simp only [Act.put, List.setIfInBounds_toArray, List.set_cons_zero, List.set_cons_succ]
          refine wpAnyH_ready (rs := [3]) (by kernel_rfl) (by simp) ?_
          refine AllReadyH.cons rfl (fun KK hK => ?_) AllReadyH.nil
          go_simp
          have hCo := col_any k4 (HU.out _ k5) (HTY.out _ k5) hge hgt
          have HOK : Hid (AllOk pl) := k4.size.2
          refine hCo.mono ?_
          rintro e w6 ⟨b6, hres6⟩
          rcases hres6.symm with ⟨he, u, pv, rfl⟩ | ⟨⟨cn, ct, cz⟩, r6, he, rfl, M6⟩
          · have HR : Hid (T = none) := HN1'.out he
            have HB : Hid (But g w w6) := k5.trans b6
            clear hCo b6 hres6 k1 k2 k3 k4 k5 hHeld HSP' HN1' hK
            go_wp2
            exact ⟨rfl, HB.out, .inr ⟨HR.out, u, pv, rfl⟩⟩
          have HST : Hid (InvCI (colsI (l4.length + 1) l4) (acc ++ [⟨cn, ct, cz⟩]) r6 ∧ r6.length < pl.length) := HSP'.out _ _ he
          have HCN : Hid (cn.size ≤ 8) := colI_name HOK.out he
          replace k1 := k1.but b6 (by omega)
          replace k2 := k2.but b6 hg
          replace k3 := k3.but b6 hg
          replace k5 := k5.trans b6
          clear hCo b6 hres6 he k4 HSP' HN1' HOK
          go_wp2_with fail
          refine hK.out _ _ trivial (fun hHeld => ?_)
          clear hK KK
          try simp only [Act.put, List.setIfInBounds_toArray, List.set_cons_zero, List.set_cons_succ]
          refine wpAnyH_ready (rs := [4]) (by kernel_rfl) (by simp) ?_
          refine AllReadyH.cons rfl (fun KK hK => ?_) AllReadyH.nil
          go_simp
          have bA : Below w6.heap.size w6 (w6.alloc (.cells #[.string cn, .int .i64 ct, .bool cz] 67)) := (Below.refl _ _).alloc (Nat.le_refl _) _
          have hcl := cells_col9 w6 cn ct cz
          replace k1 := k1.below bA
          replace k2 := k2.below bA
          replace k3 := k3.below bA
          replace M6 := M6.below bA
          have hs6 := k5.size
          replace k5 := k5.trans (But.ofBelow bA)
          clear bA
          refine hK.out _ _ trivial (fun hHeld => ?_)
          clear hK KK
          try simp only [Act.put, List.setIfInBounds_toArray, List.set_cons_zero, List.set_cons_succ]
          refine wpAnyH_ready (rs := [5]) (by kernel_rfl) (by simp) ?_
          refine AllReadyH.cons rfl (fun KK hK => ?_) AllReadyH.nil
          have hO := k3.cols
          have HOW := own_ge9 hO
          have hNC : (mkDef n acc [] []).nc ≤ 500 := by show acc.length ≤ 500; omega
          rw [if_pos (by kernel_rfl)]
          refine wp_append_own _ (.tmp 15) (.tmp 18) 31 rfl w.heap.size 67 iC (.agg #[.string ⟨#[]⟩, .int .i64 0, .bool false]) 3 32 Tryz.underlying31 hiC.1 hiC.2.1 hiC.2.2.1 hiC.2.2.2 rfl (by decide) _ _ _ rfl hO ⟨w6.heap.size, 0, none⟩ 1 1 [.string cn, .int .i64 ct, .bool cz] rfl rfl hcl (one_col9 _ _ _) (by unfold maxLen; omega) (by omega) (by first | omega | (simp; omega)) ?_
          intro vX w9 hOX hgX hnX
          have e9 : Eff w 67 _ w9 := Eff.grown k3.cols hgX
          have T9 := k3.addCol ⟨cn, ct, cz⟩ hOX e9 (show cn.size ≤ 1000 by have := HCN.out; omega) (by omega)
          rw [mkDef_col] at T9
          have R9 := k1.block (e9.ty w.heap.size _ _ _ k1.blk.choose_spec (by decide))
          replace k2 := k2.eff e9 (by decide)
          replace M6 := M6.eff e9 hg ht
          replace k5 := k5.grownOwn hgX HOW
          obtain ⟨b9, c9, rfl⟩ := own_succG hOX
          clear hO HOW e9 k1 k3 hOX hgX hnX hcl
          refine hK.out _ _ trivial (fun hHeld => ?_)
          clear hK KK
          change wpAnyH _ _ _ _ _ _ _ (Act.put _ (some 19) _) _
          try simp only [Act.put, List.setIfInBounds_toArray, List.set_cons_zero, List.set_cons_succ]
          refine' wpAnyH_take (i := 6) (v := _) rfl (by kernel_rfl) (by kernel_rfl) (by kernel_rfl) (fun _ _ _ h => h) (Or.inl ⟨by kernel_rfl, ?hia3⟩) (by assumption) ?ria3
          case hia3 => intro W hW; go_simp; all_goals with_reducible rfl
          change wpAnyH _ _ _ _ _ _ _ (Act.put _ (some 20) _) _
          simp only [Act.put, List.setIfInBounds_toArray, List.set_cons_zero, List.set_cons_succ]
          refine wpAnyH_ready (rs := [7]) (by kernel_rfl) (by simp) ?_
          refine AllReadyH.cons rfl (fun KK hK => ?_) AllReadyH.nil
          obtain ⟨y0, y1, y2, y3⟩ := k2.v.cells
          obtain ⟨z0, z1, z2, z3⟩ := k2.v.fz
          go_simp
          clear y0 y1 y2 y3 z0 z1 z2 z3
          have ee := k2.effSet 1 (.slice (some ⟨b9, 0, none⟩) ((mkDef n acc [] []).nc + 1) c9)
          have HR : Hid (SDI w g S X n (acc ++ [⟨cn, ct, cz⟩]) [] [] r6 (w9.setCell ⟨X, 1, none⟩ (.slice (some ⟨b9, 0, none⟩) ((mkDef n acc [] []).nc + 1) c9))) := ⟨_, _, _, _, _, R9.other (by omega), k2.set1 _, T9.eff ee (by decide) (by decide) (by decide), M6.own (by omega) (by omega) _, k5.own (by omega) _, k6⟩
          refine hK.out _ _ trivial (fun hHeld => ?_)
          clear hK KK
          try simp only [Act.put, List.setIfInBounds_toArray, List.set_cons_zero, List.set_cons_succ]
          refine wpAnyH_done (by kernel_rfl) ?_ _
          clear R9 T9 M6 k5 k2
          go_wp2
          go_roundg r6.length
          case measure => exact HST.out.2
          case rel => exact ⟨acc ++ [(⟨cn, ct, cz⟩ : PCol)], r6, rfl, HR.out, HST.out.1, by have := HST.out.2; rw [List.length_append, List.length_singleton]; omega⟩
        ·
          go_simp
          have hCo := col_any k4 (HU.out _ k5) (HTY.out _ k5) hge hgt
          have HOK : Hid (AllOk pl) := k4.size.2
          refine hCo.mono ?_
          rintro e w6 ⟨b6, hres6⟩
          rcases hres6.symm with ⟨he, u, pv, rfl⟩ | ⟨⟨cn, ct, cz⟩, r6, he, rfl, M6⟩
          · have HR : Hid (T = none) := HN1'.out he
            have HB : Hid (But g w w6) := k5.trans b6
            clear hCo b6 hres6 k1 k2 k3 k4 k5 hHeld HSP' HN1' hK
            go_wp2
            exact ⟨rfl, HB.out, .inr ⟨HR.out, u, pv, rfl⟩⟩
          have HST : Hid (InvCI (colsI (l4.length + 1) l4) (acc ++ [⟨cn, ct, cz⟩]) r6 ∧ r6.length < pl.length) := HSP'.out _ _ he
          have HCN : Hid (cn.size ≤ 8) := colI_name HOK.out he
          replace k1 := k1.but b6 (by omega)
          replace k2 := k2.but b6 hg
          replace k3 := k3.but b6 hg
          replace k5 := k5.trans b6
          clear hCo b6 hres6 he k4 HSP' HN1' HOK
          go_wp2_with fail
          refine hK.out _ _ trivial (fun hHeld => ?_)
          clear hK KK
          try simp only [Act.put, List.setIfInBounds_toArray, List.set_cons_zero, List.set_cons_succ]
          refine wpAnyH_ready (rs := [1, 4]) (by kernel_rfl) (by simp) ?_
          refine AllReadyH.cons rfl (fun KK hK => ?_) (AllReadyH.cons rfl (fun KK hK => ?_) AllReadyH.nil)
          ·
            obtain ⟨y0, y1, y2, y3⟩ := k2.v.cells
            go_simp
            clear y0 y1 y2 y3
            refine hK.out _ _ trivial (fun hHeld => ?_)
            clear hK KK
            try simp only [Act.put, List.setIfInBounds_toArray, List.set_cons_zero, List.set_cons_succ]
            refine wpAnyH_ready (rs := [4]) (by kernel_rfl) (by simp) ?_
            refine AllReadyH.cons rfl (fun KK hK => ?_) AllReadyH.nil
            go_simp
            have bA : Below w6.heap.size w6 (w6.alloc (.cells #[.string cn, .int .i64 ct, .bool cz] 67)) := (Below.refl _ _).alloc (Nat.le_refl _) _
            have hcl := cells_col9 w6 cn ct cz
            replace k1 := k1.below bA
            replace k2 := k2.below bA
            replace k3 := k3.below bA
            replace M6 := M6.below bA
            have hs6 := k5.size
            replace k5 := k5.trans (But.ofBelow bA)
            clear bA
            refine hK.out _ _ trivial (fun hHeld => ?_)
            clear hK KK
            try simp only [Act.put, List.setIfInBounds_toArray, List.set_cons_zero, List.set_cons_succ]
            refine wpAnyH_ready (rs := [5]) (by kernel_rfl) (by simp) ?_
            refine AllReadyH.cons rfl (fun KK hK => ?_) AllReadyH.nil
            have hO := k3.cols
            have HOW := own_ge9 hO
            have hNC : (mkDef n acc [] []).nc ≤ 500 := by show acc.length ≤ 500; omega
            rw [if_pos (by kernel_rfl)]
            refine wp_append_own _ (.tmp 15) (.tmp 18) 31 rfl w.heap.size 67 iC (.agg #[.string ⟨#[]⟩, .int .i64 0, .bool false]) 3 32 Tryz.underlying31 hiC.1 hiC.2.1 hiC.2.2.1 hiC.2.2.2 rfl (by decide) _ _ _ rfl hO ⟨w6.heap.size, 0, none⟩ 1 1 [.string cn, .int .i64 ct, .bool cz] rfl rfl hcl (one_col9 _ _ _) (by unfold maxLen; omega) (by omega) (by first | omega | (simp; omega)) ?_
            intro vX w9 hOX hgX hnX
            have e9 : Eff w 67 _ w9 := Eff.grown k3.cols hgX
            have T9 := k3.addCol ⟨cn, ct, cz⟩ hOX e9 (show cn.size ≤ 1000 by have := HCN.out; omega) (by omega)
            rw [mkDef_col] at T9
            have R9 := k1.block (e9.ty w.heap.size _ _ _ k1.blk.choose_spec (by decide))
            replace k2 := k2.eff e9 (by decide)
            replace M6 := M6.eff e9 hg ht
            replace k5 := k5.grownOwn hgX HOW
            obtain ⟨b9, c9, rfl⟩ := own_succG hOX
            clear hO HOW e9 k1 k3 hOX hgX hnX hcl
            refine hK.out _ _ trivial (fun hHeld => ?_)
            clear hK KK
            change wpAnyH _ _ _ _ _ _ _ (Act.put _ (some 19) _) _
            try simp only [Act.put, List.setIfInBounds_toArray, List.set_cons_zero, List.set_cons_succ]
            refine' wpAnyH_take (i := 6) (v := _) rfl (by kernel_rfl) (by kernel_rfl) (by kernel_rfl) (fun _ _ _ h => h) (Or.inl ⟨by kernel_rfl, ?hia4⟩) (by assumption) ?ria4
            case hia4 => intro W hW; go_simp; all_goals with_reducible rfl
            change wpAnyH _ _ _ _ _ _ _ (Act.put _ (some 20) _) _
            simp only [Act.put, List.setIfInBounds_toArray, List.set_cons_zero, List.set_cons_succ]
            refine wpAnyH_ready (rs := [7]) (by kernel_rfl) (by simp) ?_
            refine AllReadyH.cons rfl (fun KK hK => ?_) AllReadyH.nil
            obtain ⟨y0, y1, y2, y3⟩ := k2.v.cells
            obtain ⟨z0, z1, z2, z3⟩ := k2.v.fz
            go_simp
            clear y0 y1 y2 y3 z0 z1 z2 z3
            have ee := k2.effSet 1 (.slice (some ⟨b9, 0, none⟩) ((mkDef n acc [] []).nc + 1) c9)
            have HR : Hid (SDI w g S X n (acc ++ [⟨cn, ct, cz⟩]) [] [] r6 (w9.setCell ⟨X, 1, none⟩ (.slice (some ⟨b9, 0, none⟩) ((mkDef n acc [] []).nc + 1) c9))) := ⟨_, _, _, _, _, R9.other (by omega), k2.set1 _, T9.eff ee (by decide) (by decide) (by decide), M6.own (by omega) (by omega) _, k5.own (by omega) _, k6⟩
            refine hK.out _ _ trivial (fun hHeld => ?_)
            clear hK KK
            try simp only [Act.put, List.setIfInBounds_toArray, List.set_cons_zero, List.set_cons_succ]
            refine wpAnyH_done (by kernel_rfl) ?_ _
            clear R9 T9 M6 k5 k2
            go_wp2
            go_roundg r6.length
            case measure => exact HST.out.2
            case rel => exact ⟨acc ++ [(⟨cn, ct, cz⟩ : PCol)], r6, rfl, HR.out, HST.out.1, by have := HST.out.2; rw [List.length_append, List.length_singleton]; omega⟩
          ·
            go_simp
            have bA : Below w6.heap.size w6 (w6.alloc (.cells #[.string cn, .int .i64 ct, .bool cz] 67)) := (Below.refl _ _).alloc (Nat.le_refl _) _
            have hcl := cells_col9 w6 cn ct cz
            replace k1 := k1.below bA
            replace k2 := k2.below bA
            replace k3 := k3.below bA
            replace M6 := M6.below bA
            have hs6 := k5.size
            replace k5 := k5.trans (But.ofBelow bA)
            clear bA
            refine hK.out _ _ trivial (fun hHeld => ?_)
            clear hK KK
            try simp only [Act.put, List.setIfInBounds_toArray, List.set_cons_zero, List.set_cons_succ]
            refine wpAnyH_ready (rs := [1]) (by kernel_rfl) (by simp) ?_
            refine AllReadyH.cons rfl (fun KK hK => ?_) AllReadyH.nil
            obtain ⟨y0, y1, y2, y3⟩ := k2.v.cells
            go_simp
            clear y0 y1 y2 y3
            refine hK.out _ _ trivial (fun hHeld => ?_)
            clear hK KK
            try simp only [Act.put, List.setIfInBounds_toArray, List.set_cons_zero, List.set_cons_succ]
            refine wpAnyH_ready (rs := [5]) (by kernel_rfl) (by simp) ?_
            refine AllReadyH.cons rfl (fun KK hK => ?_) AllReadyH.nil
            have hO := k3.cols
            have HOW := own_ge9 hO
            have hNC : (mkDef n acc [] []).nc ≤ 500 := by show acc.length ≤ 500; omega
            rw [if_pos (by kernel_rfl)]
            refine wp_append_own _ (.tmp 15) (.tmp 18) 31 rfl w.heap.size 67 iC (.agg #[.string ⟨#[]⟩, .int .i64 0, .bool false]) 3 32 Tryz.underlying31 hiC.1 hiC.2.1 hiC.2.2.1 hiC.2.2.2 rfl (by decide) _ _ _ rfl hO ⟨w6.heap.size, 0, none⟩ 1 1 [.string cn, .int .i64 ct, .bool cz] rfl rfl hcl (one_col9 _ _ _) (by unfold maxLen; omega) (by omega) (by first | omega | (simp; omega)) ?_
            intro vX w9 hOX hgX hnX
            have e9 : Eff w 67 _ w9 := Eff.grown k3.cols hgX
            have T9 := k3.addCol ⟨cn, ct, cz⟩ hOX e9 (show cn.size ≤ 1000 by have := HCN.out; omega) (by omega)
            rw [mkDef_col] at T9
            have R9 := k1.block (e9.ty w.heap.size _ _ _ k1.blk.choose_spec (by decide))
            replace k2 := k2.eff e9 (by decide)
            replace M6 := M6.eff e9 hg ht
            replace k5 := k5.grownOwn hgX HOW
            obtain ⟨b9, c9, rfl⟩ := own_succG hOX
            clear hO HOW e9 k1 k3 hOX hgX hnX hcl
            refine hK.out _ _ trivial (fun hHeld => ?_)
            clear hK KK
            change wpAnyH _ _ _ _ _ _ _ (Act.put _ (some 19) _) _
            try simp only [Act.put, List.setIfInBounds_toArray, List.set_cons_zero, List.set_cons_succ]
            refine' wpAnyH_take (i := 6) (v := _) rfl (by kernel_rfl) (by kernel_rfl) (by kernel_rfl) (fun _ _ _ h => h) (Or.inl ⟨by kernel_rfl, ?hia5⟩) (by assumption) ?ria5
            case hia5 => intro W hW; go_simp; all_goals with_reducible rfl
            change wpAnyH _ _ _ _ _ _ _ (Act.put _ (some 20) _) _
            simp only [Act.put, List.setIfInBounds_toArray, List.set_cons_zero, List.set_cons_succ]
            refine wpAnyH_ready (rs := [7]) (by kernel_rfl) (by simp) ?_
            refine AllReadyH.cons rfl (fun KK hK => ?_) AllReadyH.nil
            obtain ⟨y0, y1, y2, y3⟩ := k2.v.cells
            obtain ⟨z0, z1, z2, z3⟩ := k2.v.fz
            go_simp
            clear y0 y1 y2 y3 z0 z1 z2 z3
            have ee := k2.effSet 1 (.slice (some ⟨b9, 0, none⟩) ((mkDef n acc [] []).nc + 1) c9)
            have HR : Hid (SDI w g S X n (acc ++ [⟨cn, ct, cz⟩]) [] [] r6 (w9.setCell ⟨X, 1, none⟩ (.slice (some ⟨b9, 0, none⟩) ((mkDef n acc [] []).nc + 1) c9))) := ⟨_, _, _, _, _, R9.other (by omega), k2.set1 _, T9.eff ee (by decide) (by decide) (by decide), M6.own (by omega) (by omega) _, k5.own (by omega) _, k6⟩
            refine hK.out _ _ trivial (fun hHeld => ?_)
            clear hK KK
            try simp only [Act.put, List.setIfInBounds_toArray, List.set_cons_zero, List.set_cons_succ]
            refine wpAnyH_done (by kernel_rfl) ?_ _
            clear R9 T9 M6 k5 k2
            go_wp2
            go_roundg r6.length
            case measure => exact HST.out.2
            case rel => exact ⟨acc ++ [(⟨cn, ct, cz⟩ : PCol)], r6, rfl, HR.out, HST.out.1, by have := HST.out.2; rw [List.length_append, List.length_singleton]; omega⟩
  case rest =>
    clear S4
    obtain ⟨c, r5, hS5, HE5⟩ := hcut
    have HP5 : Hid (T = (partsI c (r5.length + 1) r5).bind (fun p => (idxsI c (p.2.length + 1) p.2).bind (fun x => some (mkDef n c p.1 x.1, x.2)))) := by show _ = _; rw [HP3.out, HE5.out]; rfl
    clear HP3
    obtain ⟨vc, vp, vi, A, C, k1, k2, k3, k4, k5, k6⟩ := hS5.is
    have hcn : c.length ≤ 1000 := k3.sm.nc
    obtain ⟨ac, cc, rfl, -, -⟩ := cview_of_own k3.cols
    obtain ⟨ap, cp, rfl, -, -⟩ := bview_of_own k3.pri
    obtain ⟨ai, ci, rfl, -, -⟩ := iview_of_own k3.idx (fun i hi => (k3.pts.at_ i hi).view)
    have HCV : Hid (∀ W, But g wc W → CView W ac c.length cc (mkCol c)) := fun W hb => by
      obtain ⟨a', k', e, hv, -⟩ := cview_of_own (k3.but hb hg).cols
      cases e
      exact hv
    have hPa := parts_any k4 (HU.out _ k5) hge ac cc c hcn HCV.out
    obtain ⟨x0, x1, x2, x3⟩ := k2.v.cells
    have HK : Hid (V4 wc w.heap.size 35 (.string ⟨#[]⟩) (.slice none 0 0) (.slice none 0 0) (.slice none 0 0) ∧ Vd w X (.string n) (.slice ac (mkDef n c [] []).nc cc) (.slice ap (mkDef n c [] []).np cp) (.slice ai (mkDef n c [] []).ni ci) wc ∧ Tb w (.slice ac (mkDef n c [] []).nc cc) (.slice ap (mkDef n c [] []).np cp) (.slice ai (mkDef n c [] []).ni ci) (mkDef n c [] []) A C wc ∧ But g w wc) := ⟨k1, k2, k3, k5⟩
    have hl5 := k4.size.1
    have hnc : (mkDef n c [] []).nc = c.length := rfl
    rw [hnc] at x1
    obtain ⟨N1, hN1⟩ : ∃ x, Hid (c.length = x) := ⟨_, rfl⟩
    rw [hN1.out] at hPa x1
    clear hS5 k1 k2 k3 k4 k5 hnc HCV x0 x2 x3
    go_wp2_with fail
    refine hPa.mono ?_
    rintro e w6 ⟨b6, hres6⟩
    rcases hres6.symm with ⟨he, u, pv, rfl⟩ | ⟨p, r6, b, cap, he, rfl, hO6, hp6, M6⟩
    · have HR : Hid (T = none) := by show _ = _; rw [HP5.out, he]; rfl
      have HB : Hid (But g w w6) := HK.out.2.2.2.trans b6
      clear hPa b6 HP5 hres6 HK x1
      go_wp2
      exact ⟨rfl, HB.out, .inr ⟨HR.out, u, pv, rfl⟩⟩
    have HP6 : Hid (T = (idxsI c (r6.length + 1) r6).bind (fun x => some (mkDef n c p x.1, x.2))) := by show _ = _; rw [HP5.out, he]; rfl
    obtain ⟨k1, k2, k3, k5⟩ := HK.out
    have D6 := k2.but b6 hg
    have e6 := D6.effSet 2 (.slice (some ⟨b, 0, none⟩) p.length cap)
    have T6 := (k3.but b6 hg).eff e6 (by decide) (by decide) (by decide)
    have O6 := own_eff (own_down9 hO6 k5.size) e6 (by decide)
    have T7 := T6.setPri p.length (mkBy p) O6 T6.cols T6.idx (Pts.none _ _ _ _ _ _) (by omega)
    have HS7 : Hid (SDI w g S X n c p [] r6 (w6.setCell ⟨X, 2, none⟩ (.slice (some ⟨b, 0, none⟩) p.length cap))) :=
      ⟨_, _, _, _, _, (k1.but b6 (by omega)).other (by omega), D6.set2 _, T7, M6.own (by omega) (by omega) _, (k5.trans b6).own (by omega) _, fun i j _ hj => absurd hj (Nat.not_lt_zero _)⟩
    have hl6 := M6.size.1
    obtain ⟨-, -, y2, -⟩ := D6.v.cells
    obtain ⟨-, -, q2, -⟩ := D6.v.fz
    obtain ⟨W7, hW7⟩ : ∃ W7, Hid (w6.setCell ⟨X, 2, none⟩ (.slice (some ⟨b, 0, none⟩) p.length cap) = W7) := ⟨_, rfl⟩
    rw [hW7.out] at HS7
    clear hPa hO6 he M6 b6 hp6 HK k1 k2 k3 k5 k6 D6 e6 T6 O6 T7 x1 hres6 HP5
    clear hN1
    go_upto_block 2 with (rw [hW7.out])
    clear y2 q2 hW7
    go_cut [] (fun wx => ∃ (x : List (ByteArray × Bool × List PBy)) (r : List Tok), SDI w g S X n c p x r wx ∧ Hid (idxsI c (r6.length + 1) r6 = some (x, r)))
    case first =>
      go_wp2
      go_loopg [] r6.length (fun q wr => ∃ (acc : List (ByteArray × Bool × List PBy)) (lk : List Tok), q = lk.length ∧ SDI w g S X n c p acc lk wr ∧ Hid (InvII c (idxsI c (r6.length + 1) r6) acc lk) ∧ acc.length + lk.length ≤ 500)
      case atStart => exact ⟨[], r6, rfl, HS7.out, invII_start c r6, by simp; omega⟩
      case round =>
        clear HS7
        obtain ⟨acc, lk, rfl, hS, HI, hlen⟩ := hrel
        have hPs := passes_any ⟨#[125]⟩ hS.ir
        have HS : Hid (SDI w g S X n c p acc lk wr) := hS
        have HEN : Hid ((isR ⟨#[125]⟩ lk).1 = true → idxsI c (r6.length + 1) r6 = some (acc, (isR ⟨#[125]⟩ lk).2)) := fun h => invII_end HI.out h
        have HMI : Hid ((isR ⟨#[125]⟩ lk).1 = false → (isR ⟨#[125]⟩ lk).2 = lk) := fun h => isR_false (s := ⟨#[125]⟩) (l := lk) (r := (isR ⟨#[125]⟩ lk).2) (by rw [← h])
        have HN1 : Hid ((isR ⟨#[125]⟩ lk).1 = false → idxI c lk = none → idxsI c (r6.length + 1) r6 = none) := fun h h2 => invII_no HI.out h h2
        have HSP : Hid ((isR ⟨#[125]⟩ lk).1 = false → ∀ x r, idxI c lk = some (x, r) → InvII c (idxsI c (r6.length + 1) r6) (acc ++ [x]) r ∧ r.length < lk.length) := fun h c r h2 => invII_step HI.out h h2
        obtain ⟨⟨pb, pl⟩, hpb⟩ : ∃ x, Hid (isR ⟨#[125]⟩ lk = x) := ⟨_, rfl⟩
        simp only [hpb.out] at hPs HEN HMI HN1 HSP
        clear hS HI
        go_wp2_with fail
        refine hPs.mono ?_
        rintro e w5 ⟨rfl, M5, b5⟩
        cases pb with
        | true =>
          have HR : Hid (SDI w g S X n c p acc pl w5) := HS.out.next hg M5 b5
          have HE : Hid (idxsI c (r6.length + 1) r6 = some (acc, pl)) := HEN.out rfl
          clear hPs M5 b5 HS HSP HMI HN1 HEN
          go_wp2
          go_meet
          exact ⟨acc, pl, HR.out, HE.out⟩
        | false =>
          obtain rfl : pl = lk := HMI.out rfl
          have S5 := HS.out.next hg M5 b5
          have HN1' : Hid (idxI c pl = none → T = none) := fun h => by rw [HP6.out, HN1.out rfl h]; rfl
          have HSP' : Hid (∀ x r, idxI c pl = some (x, r) → InvII c (idxsI c (r6.length + 1) r6) (acc ++ [x]) r ∧ r.length < pl.length) := HSP.out rfl
          clear hPs M5 b5 HS HSP HMI HEN HN1 HP6
          obtain ⟨vc, vp, vi, A, C, k1, k2, k3, k4, k5, k6⟩ := S5.is
          obtain ⟨ac, cc, rfl, -, -⟩ := cview_of_own k3.cols
          have hnc : (mkDef n c p acc).nc = c.length := rfl
          rw [hnc] at k2 k3
          go_wp2_with fail
          have bD : Below w5.heap.size w5 w5.drew := (Below.refl _ _).drew
          replace k1 := k1.below bD
          replace k2 := k2.below bD
          replace k3 := k3.below bD
          replace k4 := k4.below bD
          replace k5 := k5.trans (But.ofBelow bD)
          clear bD S5
          refine wp_region_held_drew (S := (fun W => W.cell? ⟨X, 1, none⟩ = some (.slice ac c.length cc))) (by kernel_rfl) k2.v.cells.2.1 (fun hHeld => ?_)
          obtain ⟨wq, hwq⟩ : ∃ wq, Hid (wq = w5.drew) := ⟨_, rfl⟩
          rw [← hwq.out] at k1 k2 k3 k4 k5 ⊢
          have hHeld2 := k2.v.cells.2.1
          refine' wpAnyH_take (i := 0) (v := _) rfl (by kernel_rfl) (by kernel_rfl) (by kernel_rfl) (fun _ _ _ h => h) (Or.inl ⟨by kernel_rfl, ?hib1⟩) (by assumption) ?rib1
          case hib1 => intro W hW; have c1 := hW; go_simp; all_goals with_reducible rfl
          change wpAnyH _ _ _ _ _ _ _ (Act.put _ (some 29) _) _
          simp only [Act.put, List.setIfInBounds_toArray, List.set_cons_zero, List.set_cons_succ]
          refine' wpAnyH_take (i := 2) (v := _) rfl (by kernel_rfl) (by kernel_rfl) (by kernel_rfl) (fun _ _ _ h => h) (Or.inl ⟨by kernel_rfl, ?hib2⟩) (by assumption) ?rib2
          case hib2 => intro W hW; have c1 := hW; go_simp; all_goals with_reducible rfl
          change wpAnyH _ _ _ _ _ _ _ (Act.put _ (some 31) _) _
          simp only [Act.put, List.setIfInBounds_toArray, List.set_cons_zero, List.set_cons_succ]
          refine' wpAnyH_take (i := 3) (v := _) rfl (by kernel_rfl) (by kernel_rfl) (by kernel_rfl) (fun _ _ _ h => h) (Or.inl ⟨by kernel_rfl, ?hib3⟩) (by assumption) ?rib3
          case hib3 => intro W hW; have c1 := hW; go_simp; all_goals with_reducible rfl
          change wpAnyH _ _ _ _ _ _ _ (Act.put _ (some 32) _) _
          simp only [Act.put, List.setIfInBounds_toArray, List.set_cons_zero, List.set_cons_succ]
          refine' wpAnyH_take (i := 4) (v := _) rfl (by kernel_rfl) (by kernel_rfl) (by kernel_rfl) (fun _ _ _ h => h) (Or.inl ⟨by kernel_rfl, ?hib4⟩) (by assumption) ?rib4
          case hib4 => intro W hW; have c1 := hW; go_simp; all_goals with_reducible rfl
          change wpAnyH _ _ _ _ _ _ _ (Act.put _ (some 33) _) _
          simp only [Act.put, List.setIfInBounds_toArray, List.set_cons_zero, List.set_cons_succ]
          refine wpAnyH_ready (rs := [1, 5]) (by kernel_rfl) (by simp) ?_
          refine AllReadyH.cons rfl (fun KK hK => ?_) (AllReadyH.cons rfl (fun KK hK => ?_) AllReadyH.nil)
          ·
            obtain ⟨y0, y1, y2, y3⟩ := k2.v.cells
            go_simp
            clear y0 y1 y2 y3
            refine hK.out _ _ k2.v.cells.2.1 (fun hHeld => ?_)
            clear hK KK
            try simp only [Act.put, List.setIfInBounds_toArray, List.set_cons_zero, List.set_cons_succ]
            refine wpAnyH_ready (rs := [5]) (by kernel_rfl) (by simp) ?_
            refine AllReadyH.cons rfl (fun KK hK => ?_) AllReadyH.nil
            go_simp
            have HCV : Hid (∀ W, But g _ W → CView W ac c.length cc (mkCol c)) := fun W hb => by
              obtain ⟨a', k', e, hv, -⟩ := cview_of_own (k3.but hb hg).cols
              cases e
              exact hv
            have hIx := index_any k4 (HU.out _ k5) hge ac cc c hcn HCV.out
            have HLT : Hid ((∀ i, i < acc.length → A i < wq.heap.size) ∧ (∀ j, vp.ownBlock = some j → j < wq.heap.size) ∧ w.heap.size ≤ wq.heap.size) := by
              refine ⟨fun i hi => (own_lt9 (k3.pts.at_ i hi).own).1, fun j hj => ?_, k5.size⟩
              rcases k3.pri.2 with ⟨e1, _⟩ | ⟨g1, c1, cur, e1, _, hg1, _⟩
              · rw [e1] at hj; simp [Value.ownBlock] at hj
              · rw [e1] at hj
                have h2 : g1 = j := by simpa [Value.ownBlock] using hj
                rw [← h2]; exact (Array.getElem?_eq_some_iff.1 hg1).1
            refine hIx.mono ?_
            rintro e w6 ⟨b6, hres6⟩
            rcases hres6.symm with ⟨he, u, pv, rfl⟩ | ⟨nx, ub, ps, l6, xb, xc, he, rfl, hO6, hnx, hp6, M6⟩
            · have HR : Hid (T = none) := HN1'.out he
              have HB : Hid (But g w w6) := k5.trans b6
              clear hIx b6 hres6 k1 k2 k3 k4 k5 hHeld HSP' HN1' hK HCV
              go_wp2
              exact ⟨rfl, HB.out, .inr ⟨HR.out, u, pv, rfl⟩⟩
            have HST : Hid (InvII c (idxsI c (r6.length + 1) r6) (acc ++ [(nx, ub, ps)]) l6 ∧ l6.length < pl.length) := HSP'.out _ _ he
            have HXB : Hid (wq.heap.size ≤ xb) := (own_lt9 hO6).2
            have P6 : PtAt w xb xc ⟨nx, ub, ps.length, mkBy ps⟩ w6 := ptAt_of hO6 HLT.out.2.2
            have HNS : Hid (nx.size ≤ 8 ∧ ps.length ≤ 501) := ⟨hnx, hp6⟩
            replace k1 := k1.but b6 (by omega)
            replace k2 := k2.but b6 hg
            replace k3 := k3.but b6 hg
            replace k5 := k5.trans b6
            clear hIx b6 hres6 he k4 HSP' HN1' HCV hO6 hnx hp6
            go_wp2_with fail
            refine hK.out _ _ k2.v.cells.2.1 (fun hHeld => ?_)
            clear hK KK
            try simp only [Act.put, List.setIfInBounds_toArray, List.set_cons_zero, List.set_cons_succ]
            refine wpAnyH_ready (rs := [6]) (by kernel_rfl) (by simp) ?_
            refine AllReadyH.cons rfl (fun KK hK => ?_) AllReadyH.nil
            go_simp
            have bA : Below w6.heap.size w6 (w6.alloc (.cells #[.string nx, .bool ub, .slice (some ⟨xb, 0, none⟩) ps.length xc] 73)) := (Below.refl _ _).alloc (Nat.le_refl _) _
            have hcl := cells_idx9 w6 nx ub (some ⟨xb, 0, none⟩) ps.length xc
            replace P6 : PtAt w xb xc ⟨nx, ub, ps.length, mkBy ps⟩ _ := ⟨own_belowG P6.own bA⟩
            replace k1 := k1.below bA
            replace k2 := k2.below bA
            replace k3 := k3.below bA
            replace M6 := M6.below bA
            have hs6 := k5.size
            replace k5 := k5.trans (But.ofBelow bA)
            clear bA
            refine hK.out _ _ k2.v.cells.2.1 (fun hHeld => ?_)
            clear hK KK
            try simp only [Act.put, List.setIfInBounds_toArray, List.set_cons_zero, List.set_cons_succ]
            refine wpAnyH_ready (rs := [7]) (by kernel_rfl) (by simp) ?_
            refine AllReadyH.cons rfl (fun KK hK => ?_) AllReadyH.nil
            have hO := k3.idx
            have HOW := own_ge9 hO
            have hNI : (mkDef n c p acc).ni ≤ 500 := by show acc.length ≤ 500; omega
            have hne : vp.ownBlock ≠ some xb := fun e => by have h1 := HLT.out.2.1 _ e; have h2 := HXB.out; omega
            rw [if_pos (by kernel_rfl)]
            refine wp_append_own _ (.tmp 30) (.tmp 35) 33 rfl w.heap.size 73 iI (.agg #[.string ⟨#[]⟩, .bool false, .slice none 0 0]) 3 48 Tryz.underlying33 hiI.1 hiI.2.1 hiI.2.2.1 hiI.2.2.2 rfl (by decide) _ _ _ rfl hO ⟨w6.heap.size, 0, none⟩ 1 1 [.string nx, .bool ub, .slice (some ⟨xb, 0, none⟩) ps.length xc] rfl rfl hcl (one_idx9 _ _ _ _ _) (by unfold maxLen; omega) (by omega) (by first | omega | (simp; omega)) ?_
            intro vX w9 hOX hgX hnX
            have e9 : Eff w 73 _ w9 := Eff.grown k3.idx hgX
            have T9 := k3.addIdx ⟨nx, ub, ps.length, mkBy ps⟩ xb xc hOX P6 hne e9 ⟨show nx.size ≤ 1000 by have := HNS.out.1; omega, show ps.length ≤ 1000 by have := HNS.out.2; omega⟩ (by omega)
            have T9' := (mkDef_idx n c p acc (nx, ub, ps)) ▸ T9
            have R9 := k1.block (e9.ty w.heap.size _ _ _ k1.blk.choose_spec (by decide))
            replace k2 := k2.eff e9 (by decide)
            replace M6 := M6.eff e9 hg ht
            replace k5 := k5.grownOwn hgX HOW
            obtain ⟨b9, c9, rfl⟩ := own_succG hOX
            have HAJ : Hid (∀ i j, i < j → j < (acc ++ [(nx, ub, ps)]).length → upd A acc.length xb i ≠ upd A acc.length xb j) := by
              intro i j hij hj
              rw [List.length_append, List.length_singleton] at hj
              by_cases e : j < acc.length
              · rw [upd_old e, upd_old (by omega)]; exact k6 i j hij e
              · obtain rfl : j = acc.length := by omega
                rw [upd_new, upd_old hij]
                have h1 := HLT.out.1 i hij
                have h2 := HXB.out
                omega
            clear hO HOW e9 k1 k3 hOX hgX hnX hcl T9 P6 hne
            refine hK.out _ _ k2.v.cells.2.1 (fun hHeld => ?_)
            clear hK KK
            change wpAnyH _ _ _ _ _ _ _ (Act.put _ (some 36) _) _
            try simp only [Act.put, List.setIfInBounds_toArray, List.set_cons_zero, List.set_cons_succ]
            refine' wpAnyH_take (i := 8) (v := _) rfl (by kernel_rfl) (by kernel_rfl) (by kernel_rfl) (fun _ _ _ h => h) (Or.inl ⟨by kernel_rfl, ?hib5⟩) (by assumption) ?rib5
            case hib5 => intro W hW; have c1 := hW; go_simp; all_goals with_reducible rfl
            change wpAnyH _ _ _ _ _ _ _ (Act.put _ (some 37) _) _
            simp only [Act.put, List.setIfInBounds_toArray, List.set_cons_zero, List.set_cons_succ]
            refine wpAnyH_ready (rs := [9]) (by kernel_rfl) (by simp) ?_
            refine AllReadyH.cons rfl (fun KK hK => ?_) AllReadyH.nil
            obtain ⟨y0, y1, y2, y3⟩ := k2.v.cells
            obtain ⟨z0, z1, z2, z3⟩ := k2.v.fz
            go_simp
            clear y0 y1 y2 y3 z0 z1 z2 z3
            have ee := k2.effSet 3 (.slice (some ⟨b9, 0, none⟩) ((mkDef n c p acc).ni + 1) c9)
            have HR : Hid (SDI w g S X n c p (acc ++ [(nx, ub, ps)]) l6 (w9.setCell ⟨X, 3, none⟩ (.slice (some ⟨b9, 0, none⟩) ((mkDef n c p acc).ni + 1) c9))) := ⟨_, _, _, _, _, R9.other (by omega), k2.set3 _, T9'.eff ee (by decide) (by decide) (by decide), M6.own (by omega) (by omega) _, k5.own (by omega) _, HAJ.out⟩
            refine hK.out _ _ (k2.set3 _).v.cells.2.1 (fun hHeld => ?_)
            clear hK KK
            try simp only [Act.put, List.setIfInBounds_toArray, List.set_cons_zero, List.set_cons_succ]
            refine wpAnyH_done (by kernel_rfl) ?_ _
            clear R9 T9' M6 k5 k2 HAJ
            go_wp2
            go_roundg l6.length
            case measure => exact HST.out.2
            case rel => exact ⟨acc ++ [(nx, ub, ps)], l6, rfl, HR.out, HST.out.1, by have := HST.out.2; rw [List.length_append, List.length_singleton]; omega⟩
          ·
            go_simp
            have HCV : Hid (∀ W, But g _ W → CView W ac c.length cc (mkCol c)) := fun W hb => by
              obtain ⟨a', k', e, hv, -⟩ := cview_of_own (k3.but hb hg).cols
              cases e
              exact hv
            have hIx := index_any k4 (HU.out _ k5) hge ac cc c hcn HCV.out
            have HLT : Hid ((∀ i, i < acc.length → A i < wq.heap.size) ∧ (∀ j, vp.ownBlock = some j → j < wq.heap.size) ∧ w.heap.size ≤ wq.heap.size) := by
              refine ⟨fun i hi => (own_lt9 (k3.pts.at_ i hi).own).1, fun j hj => ?_, k5.size⟩
              rcases k3.pri.2 with ⟨e1, _⟩ | ⟨g1, c1, cur, e1, _, hg1, _⟩
              · rw [e1] at hj; simp [Value.ownBlock] at hj
              · rw [e1] at hj
                have h2 : g1 = j := by simpa [Value.ownBlock] using hj
                rw [← h2]; exact (Array.getElem?_eq_some_iff.1 hg1).1
            refine hIx.mono ?_
            rintro e w6 ⟨b6, hres6⟩
            rcases hres6.symm with ⟨he, u, pv, rfl⟩ | ⟨nx, ub, ps, l6, xb, xc, he, rfl, hO6, hnx, hp6, M6⟩
            · have HR : Hid (T = none) := HN1'.out he
              have HB : Hid (But g w w6) := k5.trans b6
              clear hIx b6 hres6 k1 k2 k3 k4 k5 hHeld HSP' HN1' hK HCV
              go_wp2
              exact ⟨rfl, HB.out, .inr ⟨HR.out, u, pv, rfl⟩⟩
            have HST : Hid (InvII c (idxsI c (r6.length + 1) r6) (acc ++ [(nx, ub, ps)]) l6 ∧ l6.length < pl.length) := HSP'.out _ _ he
            have HXB : Hid (wq.heap.size ≤ xb) := (own_lt9 hO6).2
            have P6 : PtAt w xb xc ⟨nx, ub, ps.length, mkBy ps⟩ w6 := ptAt_of hO6 HLT.out.2.2
            have HNS : Hid (nx.size ≤ 8 ∧ ps.length ≤ 501) := ⟨hnx, hp6⟩
            replace k1 := k1.but b6 (by omega)
            replace k2 := k2.but b6 hg
            replace k3 := k3.but b6 hg
            replace k5 := k5.trans b6
            clear hIx b6 hres6 he k4 HSP' HN1' HCV hO6 hnx hp6
            go_wp2_with fail
            refine hK.out _ _ k2.v.cells.2.1 (fun hHeld => ?_)
            clear hK KK
            try simp only [Act.put, List.setIfInBounds_toArray, List.set_cons_zero, List.set_cons_succ]
            refine wpAnyH_ready (rs := [1, 6]) (by kernel_rfl) (by simp) ?_
            refine AllReadyH.cons rfl (fun KK hK => ?_) (AllReadyH.cons rfl (fun KK hK => ?_) AllReadyH.nil)
            ·
              obtain ⟨y0, y1, y2, y3⟩ := k2.v.cells
              go_simp
              clear y0 y1 y2 y3
              refine hK.out _ _ k2.v.cells.2.1 (fun hHeld => ?_)
              clear hK KK
              try simp only [Act.put, List.setIfInBounds_toArray, List.set_cons_zero, List.set_cons_succ]
              refine wpAnyH_ready (rs := [6]) (by kernel_rfl) (by simp) ?_
              refine AllReadyH.cons rfl (fun KK hK => ?_) AllReadyH.nil
              go_simp
              have bA : Below w6.heap.size w6 (w6.alloc (.cells #[.string nx, .bool ub, .slice (some ⟨xb, 0, none⟩) ps.length xc] 73)) := (Below.refl _ _).alloc (Nat.le_refl _) _
              have hcl := cells_idx9 w6 nx ub (some ⟨xb, 0, none⟩) ps.length xc
              replace P6 : PtAt w xb xc ⟨nx, ub, ps.length, mkBy ps⟩ _ := ⟨own_belowG P6.own bA⟩
              replace k1 := k1.below bA
              replace k2 := k2.below bA
              replace k3 := k3.below bA
              replace M6 := M6.below bA
              have hs6 := k5.size
              replace k5 := k5.trans (But.ofBelow bA)
              clear bA
              refine hK.out _ _ k2.v.cells.2.1 (fun hHeld => ?_)
              clear hK KK
              try simp only [Act.put, List.setIfInBounds_toArray, List.set_cons_zero, List.set_cons_succ]
              refine wpAnyH_ready (rs := [7]) (by kernel_rfl) (by simp) ?_
              refine AllReadyH.cons rfl (fun KK hK => ?_) AllReadyH.nil
              have hO := k3.idx
              have HOW := own_ge9 hO
              have hNI : (mkDef n c p acc).ni ≤ 500 := by show acc.length ≤ 500; omega
              have hne : vp.ownBlock ≠ some xb := fun e => by have h1 := HLT.out.2.1 _ e; have h2 := HXB.out; omega
              rw [if_pos (by kernel_rfl)]
              refine wp_append_own _ (.tmp 30) (.tmp 35) 33 rfl w.heap.size 73 iI (.agg #[.string ⟨#[]⟩, .bool false, .slice none 0 0]) 3 48 Tryz.underlying33 hiI.1 hiI.2.1 hiI.2.2.1 hiI.2.2.2 rfl (by decide) _ _ _ rfl hO ⟨w6.heap.size, 0, none⟩ 1 1 [.string nx, .bool ub, .slice (some ⟨xb, 0, none⟩) ps.length xc] rfl rfl hcl (one_idx9 _ _ _ _ _) (by unfold maxLen; omega) (by omega) (by first | omega | (simp; omega)) ?_
              intro vX w9 hOX hgX hnX
              have e9 : Eff w 73 _ w9 := Eff.grown k3.idx hgX
              have T9 := k3.addIdx ⟨nx, ub, ps.length, mkBy ps⟩ xb xc hOX P6 hne e9 ⟨show nx.size ≤ 1000 by have := HNS.out.1; omega, show ps.length ≤ 1000 by have := HNS.out.2; omega⟩ (by omega)
              have T9' := (mkDef_idx n c p acc (nx, ub, ps)) ▸ T9
              have R9 := k1.block (e9.ty w.heap.size _ _ _ k1.blk.choose_spec (by decide))
              replace k2 := k2.eff e9 (by decide)
              replace M6 := M6.eff e9 hg ht
              replace k5 := k5.grownOwn hgX HOW
              obtain ⟨b9, c9, rfl⟩ := own_succG hOX
              have HAJ : Hid (∀ i j, i < j → j < (acc ++ [(nx, ub, ps)]).length → upd A acc.length xb i ≠ upd A acc.length xb j) := by
                intro i j hij hj
                rw [List.length_append, List.length_singleton] at hj
                by_cases e : j < acc.length
                · rw [upd_old e, upd_old (by omega)]; exact k6 i j hij e
                · obtain rfl : j = acc.length := by omega
                  rw [upd_new, upd_old hij]
                  have h1 := HLT.out.1 i hij
                  have h2 := HXB.out
                  omega
              clear hO HOW e9 k1 k3 hOX hgX hnX hcl T9 P6 hne
              refine hK.out _ _ k2.v.cells.2.1 (fun hHeld => ?_)
              clear hK KK
              change wpAnyH _ _ _ _ _ _ _ (Act.put _ (some 36) _) _
              try simp only [Act.put, List.setIfInBounds_toArray, List.set_cons_zero, List.set_cons_succ]
              refine' wpAnyH_take (i := 8) (v := _) rfl (by kernel_rfl) (by kernel_rfl) (by kernel_rfl) (fun _ _ _ h => h) (Or.inl ⟨by kernel_rfl, ?hib6⟩) (by assumption) ?rib6
              case hib6 => intro W hW; have c1 := hW; go_simp; all_goals with_reducible rfl
              change wpAnyH _ _ _ _ _ _ _ (Act.put _ (some 37) _) _
              simp only [Act.put, List.setIfInBounds_toArray, List.set_cons_zero, List.set_cons_succ]
              refine wpAnyH_ready (rs := [9]) (by kernel_rfl) (by simp) ?_
              refine AllReadyH.cons rfl (fun KK hK => ?_) AllReadyH.nil
              obtain ⟨y0, y1, y2, y3⟩ := k2.v.cells
              obtain ⟨z0, z1, z2, z3⟩ := k2.v.fz
              go_simp
              clear y0 y1 y2 y3 z0 z1 z2 z3
              have ee := k2.effSet 3 (.slice (some ⟨b9, 0, none⟩) ((mkDef n c p acc).ni + 1) c9)
              have HR : Hid (SDI w g S X n c p (acc ++ [(nx, ub, ps)]) l6 (w9.setCell ⟨X, 3, none⟩ (.slice (some ⟨b9, 0, none⟩) ((mkDef n c p acc).ni + 1) c9))) := ⟨_, _, _, _, _, R9.other (by omega), k2.set3 _, T9'.eff ee (by decide) (by decide) (by decide), M6.own (by omega) (by omega) _, k5.own (by omega) _, HAJ.out⟩
              refine hK.out _ _ (k2.set3 _).v.cells.2.1 (fun hHeld => ?_)
              clear hK KK
              try simp only [Act.put, List.setIfInBounds_toArray, List.set_cons_zero, List.set_cons_succ]
              refine wpAnyH_done (by kernel_rfl) ?_ _
              clear R9 T9' M6 k5 k2 HAJ
              go_wp2
              go_roundg l6.length
              case measure => exact HST.out.2
              case rel => exact ⟨acc ++ [(nx, ub, ps)], l6, rfl, HR.out, HST.out.1, by have := HST.out.2; rw [List.length_append, List.length_singleton]; omega⟩
            ·
              go_simp
              have bA : Below w6.heap.size w6 (w6.alloc (.cells #[.string nx, .bool ub, .slice (some ⟨xb, 0, none⟩) ps.length xc] 73)) := (Below.refl _ _).alloc (Nat.le_refl _) _
              have hcl := cells_idx9 w6 nx ub (some ⟨xb, 0, none⟩) ps.length xc
              replace P6 : PtAt w xb xc ⟨nx, ub, ps.length, mkBy ps⟩ _ := ⟨own_belowG P6.own bA⟩
              replace k1 := k1.below bA
              replace k2 := k2.below bA
              replace k3 := k3.below bA
              replace M6 := M6.below bA
              have hs6 := k5.size
              replace k5 := k5.trans (But.ofBelow bA)
              clear bA
              refine hK.out _ _ k2.v.cells.2.1 (fun hHeld => ?_)
              clear hK KK
              try simp only [Act.put, List.setIfInBounds_toArray, List.set_cons_zero, List.set_cons_succ]
              refine wpAnyH_ready (rs := [1]) (by kernel_rfl) (by simp) ?_
              refine AllReadyH.cons rfl (fun KK hK => ?_) AllReadyH.nil
              obtain ⟨y0, y1, y2, y3⟩ := k2.v.cells
              go_simp
              clear y0 y1 y2 y3
              refine hK.out _ _ k2.v.cells.2.1 (fun hHeld => ?_)
              clear hK KK
              try simp only [Act.put, List.setIfInBounds_toArray, List.set_cons_zero, List.set_cons_succ]
              refine wpAnyH_ready (rs := [7]) (by kernel_rfl) (by simp) ?_
              refine AllReadyH.cons rfl (fun KK hK => ?_) AllReadyH.nil
              have hO := k3.idx
              have HOW := own_ge9 hO
              have hNI : (mkDef n c p acc).ni ≤ 500 := by show acc.length ≤ 500; omega
              have hne : vp.ownBlock ≠ some xb := fun e => by have h1 := HLT.out.2.1 _ e; have h2 := HXB.out; omega
              rw [if_pos (by kernel_rfl)]
              refine wp_append_own _ (.tmp 30) (.tmp 35) 33 rfl w.heap.size 73 iI (.agg #[.string ⟨#[]⟩, .bool false, .slice none 0 0]) 3 48 Tryz.underlying33 hiI.1 hiI.2.1 hiI.2.2.1 hiI.2.2.2 rfl (by decide) _ _ _ rfl hO ⟨w6.heap.size, 0, none⟩ 1 1 [.string nx, .bool ub, .slice (some ⟨xb, 0, none⟩) ps.length xc] rfl rfl hcl (one_idx9 _ _ _ _ _) (by unfold maxLen; omega) (by omega) (by first | omega | (simp; omega)) ?_
              intro vX w9 hOX hgX hnX
              have e9 : Eff w 73 _ w9 := Eff.grown k3.idx hgX
              have T9 := k3.addIdx ⟨nx, ub, ps.length, mkBy ps⟩ xb xc hOX P6 hne e9 ⟨show nx.size ≤ 1000 by have := HNS.out.1; omega, show ps.length ≤ 1000 by have := HNS.out.2; omega⟩ (by omega)
              have T9' := (mkDef_idx n c p acc (nx, ub, ps)) ▸ T9
              have R9 := k1.block (e9.ty w.heap.size _ _ _ k1.blk.choose_spec (by decide))
              replace k2 := k2.eff e9 (by decide)
              replace M6 := M6.eff e9 hg ht
              replace k5 := k5.grownOwn hgX HOW
              obtain ⟨b9, c9, rfl⟩ := own_succG hOX
              have HAJ : Hid (∀ i j, i < j → j < (acc ++ [(nx, ub, ps)]).length → upd A acc.length xb i ≠ upd A acc.length xb j) := by
                intro i j hij hj
                rw [List.length_append, List.length_singleton] at hj
                by_cases e : j < acc.length
                · rw [upd_old e, upd_old (by omega)]; exact k6 i j hij e
                · obtain rfl : j = acc.length := by omega
                  rw [upd_new, upd_old hij]
                  have h1 := HLT.out.1 i hij
                  have h2 := HXB.out
                  omega
              clear hO HOW e9 k1 k3 hOX hgX hnX hcl T9 P6 hne
              refine hK.out _ _ k2.v.cells.2.1 (fun hHeld => ?_)
              clear hK KK
              change wpAnyH _ _ _ _ _ _ _ (Act.put _ (some 36) _) _
              try simp only [Act.put, List.setIfInBounds_toArray, List.set_cons_zero, List.set_cons_succ]
              refine' wpAnyH_take (i := 8) (v := _) rfl (by kernel_rfl) (by kernel_rfl) (by kernel_rfl) (fun _ _ _ h => h) (Or.inl ⟨by kernel_rfl, ?hib7⟩) (by assumption) ?rib7
              case hib7 => intro W hW; have c1 := hW; go_simp; all_goals with_reducible rfl
              change wpAnyH _ _ _ _ _ _ _ (Act.put _ (some 37) _) _
              simp only [Act.put, List.setIfInBounds_toArray, List.set_cons_zero, List.set_cons_succ]
              refine wpAnyH_ready (rs := [9]) (by kernel_rfl) (by simp) ?_
              refine AllReadyH.cons rfl (fun KK hK => ?_) AllReadyH.nil
              obtain ⟨y0, y1, y2, y3⟩ := k2.v.cells
              obtain ⟨z0, z1, z2, z3⟩ := k2.v.fz
              go_simp
              clear y0 y1 y2 y3 z0 z1 z2 z3
              have ee := k2.effSet 3 (.slice (some ⟨b9, 0, none⟩) ((mkDef n c p acc).ni + 1) c9)
              have HR : Hid (SDI w g S X n c p (acc ++ [(nx, ub, ps)]) l6 (w9.setCell ⟨X, 3, none⟩ (.slice (some ⟨b9, 0, none⟩) ((mkDef n c p acc).ni + 1) c9))) := ⟨_, _, _, _, _, R9.other (by omega), k2.set3 _, T9'.eff ee (by decide) (by decide) (by decide), M6.own (by omega) (by omega) _, k5.own (by omega) _, HAJ.out⟩
              refine hK.out _ _ (k2.set3 _).v.cells.2.1 (fun hHeld => ?_)
              clear hK KK
              try simp only [Act.put, List.setIfInBounds_toArray, List.set_cons_zero, List.set_cons_succ]
              refine wpAnyH_done (by kernel_rfl) ?_ _
              clear R9 T9' M6 k5 k2 HAJ
              go_wp2
              go_roundg l6.length
              case measure => exact HST.out.2
              case rel => exact ⟨acc ++ [(nx, ub, ps)], l6, rfl, HR.out, HST.out.1, by have := HST.out.2; rw [List.length_append, List.length_singleton]; omega⟩
    case rest =>
      clear HS7
      obtain ⟨x, r7, hS8, HE8⟩ := hcut
      have HTG : Hid (T = some (mkDef n c p x, r7)) := by show _ = _; rw [HP6.out, HE8.out]; rfl
      obtain ⟨vc, vp, vi, A, C, k1, k2, k3, k4, k5, k6⟩ := hS8.is
      obtain ⟨ac, cc, rfl, -, -⟩ := cview_of_own k3.cols
      obtain ⟨ap, cp, rfl, -, -⟩ := bview_of_own k3.pri
      obtain ⟨ai, ci, rfl, -, -⟩ := iview_of_own k3.idx (fun i hi => (k3.pts.at_ i hi).view)
      have HT : Hid (Tb w (.slice ac (mkDef n c p x).nc cc) (.slice ap (mkDef n c p x).np cp) (.slice ai (mkDef n c p x).ni ci) (mkDef n c p x) A C wc) := k3
      have HMB : Hid (IR g S r7 wc ∧ But g w wc) := ⟨k4, k5⟩
      have HAJ : Hid (∀ i j, i < j → j < x.length → A i ≠ A j) := k6
      obtain ⟨x0, x1, x2, x3⟩ := k2.v.cells
      obtain ⟨y0, y1, y2, y3⟩ := k1.cells
      obtain ⟨q0, q1, q2, q3⟩ := k1.fz
      obtain ⟨N1, hN1⟩ : ∃ x', Hid ((mkDef n c p x).nc = x') := ⟨_, rfl⟩
      obtain ⟨N2, hN2⟩ : ∃ x', Hid ((mkDef n c p x).np = x') := ⟨_, rfl⟩
      obtain ⟨N3, hN3⟩ : ∃ x', Hid ((mkDef n c p x).ni = x') := ⟨_, rfl⟩
      rw [hN1.out] at x1
      rw [hN2.out] at x2
      rw [hN3.out] at x3
      rw [hN1.out, hN2.out, hN3.out] at HT
      have R2 := (((k1.set0 (.string n)).set1 (.slice ac N1 cc)).set2 (.slice ap N2 cp)).set3 (.slice ai N3 ci)
      obtain ⟨r0, r1, r2, r3⟩ := R2.cells
      have hVd : Vd w w.heap.size (.string ⟨#[]⟩) (.slice none 0 0) (.slice none 0 0) (.slice none 0 0) wc := ⟨k1, Nat.le_refl _⟩
      have f0 := hVd.effSet 0 (.string n)
      have f1 := (hVd.set0 (.string n)).effSet 1 (.slice ac N1 cc)
      have f2 := ((hVd.set0 (.string n)).set1 (.slice ac N1 cc)).effSet 2 (.slice ap N2 cp)
      have f3 := (((hVd.set0 (.string n)).set1 (.slice ac N1 cc)).set2 (.slice ap N2 cp)).effSet 3 (.slice ai N3 ci)
      have ff := ((f0.trans f1).trans f2).trans f3
      have HF : Hid (Tb w (.slice ac N1 cc) (.slice ap N2 cp) (.slice ai N3 ci) (mkDef n c p x) A C ((((wc.setCell ⟨w.heap.size, 0, none⟩ (.string n)).setCell ⟨w.heap.size, 1, none⟩ (.slice ac N1 cc)).setCell ⟨w.heap.size, 2, none⟩ (.slice ap N2 cp)).setCell ⟨w.heap.size, 3, none⟩ (.slice ai N3 ci)) ∧ IR g S r7 ((((wc.setCell ⟨w.heap.size, 0, none⟩ (.string n)).setCell ⟨w.heap.size, 1, none⟩ (.slice ac N1 cc)).setCell ⟨w.heap.size, 2, none⟩ (.slice ap N2 cp)).setCell ⟨w.heap.size, 3, none⟩ (.slice ai N3 ci)) ∧ But g w ((((wc.setCell ⟨w.heap.size, 0, none⟩ (.string n)).setCell ⟨w.heap.size, 1, none⟩ (.slice ac N1 cc)).setCell ⟨w.heap.size, 2, none⟩ (.slice ap N2 cp)).setCell ⟨w.heap.size, 3, none⟩ (.slice ai N3 ci))) :=
        ⟨HT.out.eff ff (by decide) (by decide) (by decide), HMB.out.1.eff ff hg ht, (((HMB.out.2.own (Nat.le_refl _) _).own (Nat.le_refl _) _).own (Nat.le_refl _) _).own (Nat.le_refl _) _⟩
      clear hS8 k1 k2 k3 k4 k5 k6 HT HMB R2 hVd f0 f1 f2 f3 ff HE8 HP6 hN1 hN2 hN3
      go_wp2
      refine bodyPost_ret (v := .agg #[.string n, .slice ac N1 cc, .slice ap N2 cp, .slice ai N3 ci]) (by simp [results, Tryz.results74, go_sem, r0, r1, r2, r3]) rfl ⟨HF.out.2.2, .inl ⟨n, c, p, x, r7, _, _, _, A, C, HTG.out, rfl, HF.out.1, HF.out.2.1, HAJ.out⟩⟩
end Go.Proofs.YtnpfgamlncfikaaGreatDoor

