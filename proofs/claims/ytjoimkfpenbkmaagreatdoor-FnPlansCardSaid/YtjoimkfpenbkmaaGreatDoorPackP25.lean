/-
  Together: LawPlans, DrawPlan11, LawPlansAll
-/
import Derived.Test.YtjoimkfpenbkmaaGreatDoorPackP18
import Derived.Test.YtjoimkfpenbkmaaGreatDoorPackP11
import Derived.Test.YtjoimkfpenbkmaaGreatDoorPackP9
import Derived.Test.YtjoimkfpenbkmaaGreatDoorPackP1
import Derived.Deep.LoopGhost
import Derived.Laws.StructEq
import Derived.Deep.QuietTactic
import Derived.BigQuiet
import Derived.Test.YtjoimkfpenbkmaaGreatDoorDraw9Any
import Derived.Test.YtjoimkfpenbkmaaGreatDoorPackP20
import Derived.Test.YtjoimkfpenbkmaaGreatDoorPackP21
import Derived.Test.YtjoimkfpenbkmaaGreatDoorPackP24
/-
  The law FnPlans, walked.
-/
namespace Go.Proofs.YtjoimkfpenbkmaaGreatDoor
open Go.RowKit
set_option maxRecDepth 4000

theorem nePart_run (c t : Int) (u d : Bool) (W : World) : (binOp .neq 39 (.agg #[.int .i64 c, .int .i64 t, .bool u, .bool d]) (.agg #[.int .i64 c, .int .i64 t, .bool u, .bool d])).run Tryz.prog W = .ok (.bool false) W := by
  simp [go_sem]
theorem below_drewN11 {k : Nat} {w w' : World} (h : Below k w w') (d : Nat) : Below k w (w'.drewN d) := ⟨h.os, h.tape, h.output, h.size, h.block⟩
theorem plF_fine {D : PDef} {l : Nat → PBy} {n : Nat} (h : checkF D = 0) (hl : ∀ i, i < n → 0 ≤ (l i).col ∧ (l i).col < D.nc) : ∀ i, i < n → 0 ≤ (plF D.col l i).col ∧ (plF D.col l i).col ≤ 5 ∧ 1 ≤ (plF D.col l i).type ∧ (plF D.col l i).type ≤ 4 := by
  intro i hi
  have h1 := hl i hi
  have h2 := good_nc h
  have h3 := h2.1 (l i).col.toNat (by omega)
  show 0 ≤ (l i).col ∧ (l i).col ≤ 5 ∧ 1 ≤ (D.col (l i).col.toNat).type ∧ (D.col (l i).col.toNat).type ≤ 4
  omega

set_option maxRecDepth 20000 in
set_option maxHeartbeats 8000000 in
theorem lawPlans (ao : Option Addr) (n cap : Nat) (w : World) (hI : ChkI w)
    (hB : Calls Tryz.prog 9 #[.slice ao n cap] w fun e w' => e = .returned (.bool (decide ((1048576 : Int) < (n : Int)))) ∧ w = w')
    (hD : n ≤ 1048576 → Calls Tryz.prog 10 #[.slice ao n cap] w fun e w' => ∃ (s : ByteArray) (a b c : Option Addr) (a1 a2 b1 b2 c1 c2 : Nat) (E : PDef) (x : Int), e = .returned (.tuple #[.agg #[.string s, .slice a a1 a2, .slice b b1 b2, .slice c c1 c2], .int .i64 x]) ∧ DView w' (.agg #[.string s, .slice a a1 a2, .slice b b1 b2, .slice c c1 c2]) E ∧ DFine E ∧ Below w.heap.size w w')
    (hPO : ∀ (W : World) (a : Option Addr) (m c : Nat) (P : Nat → PPart), QView W a m c P → m ≤ 6 → (∀ i, i < m → 0 ≤ (P i).col ∧ (P i).col ≤ 5 ∧ 1 ≤ (P i).type ∧ (P i).type ≤ 4) → Calls Tryz.prog 15 #[.slice a m c] W fun e w' => e = .returned (.bool true) ∧ Below W.heap.size W w') :
    Calls Tryz.prog 3 #[.slice ao n cap] w fun e w' => e = .returned (.bool true) ∧ Below w.heap.size w w' := by
  go_enter Tryz.func3, Tryz.ntmps3
  go_wp2_with fail
  refine hB.mono ?_
  rintro e w0 ⟨rfl, rfl⟩
  clear hB
  by_cases hbig : (1048576 : Int) < (n : Int)
  · simp only [hbig, decide_true]
    go_wp2
    go_ret
    exact ⟨rfl, Below.refl _ _⟩
  simp only [hbig, decide_false]
  have hd := hD (by omega)
  clear hD
  go_wp2_with fail
  refine hd.mono ?_
  rintro e w1 ⟨s, a, b, c, a1, a2, b1, b2, c1, c2, D, x, rfl, hv, hf, hb1⟩
  clear hd
  obtain ⟨ac, cc, ap, cp, ai, ci, e, -, -, hx⟩ := hv.is
  simp only [Value.agg.injEq, Array.mk.injEq, List.cons.injEq, Value.string.injEq, Value.slice.injEq, and_true] at e
  obtain ⟨rfl, ⟨rfl, rfl, rfl⟩, ⟨rfl, rfl, rfl⟩, rfl, rfl, rfl⟩ := e
  have hB0 := box4_start w1 (.cells #[.string D.name, .slice a D.nc a2, .slice b D.np b2, .slice c D.ni c2] 28)
  obtain ⟨A, hA⟩ : ∃ x, Hid (Obj.cells #[.string D.name, .slice a D.nc a2, .slice b D.np b2, .slice c D.ni c2] 28 = x) := ⟨_, rfl⟩
  have HBX : Hid (∀ W, Below (w1.heap.size + 1) (w1.alloc A) W → (W.cell? ⟨w1.heap.size, 0, none⟩ = some (.string D.name) ∧ W.cell? ⟨w1.heap.size, 1, none⟩ = some (.slice a D.nc a2) ∧ W.cell? ⟨w1.heap.size, 2, none⟩ = some (.slice b D.np b2) ∧ W.cell? ⟨w1.heap.size, 3, none⟩ = some (.slice c D.ni c2)) ∧ Below w1.heap.size w1 W ∧ w1.heap.size + 1 ≤ W.heap.size) := by
    rw [← hA.out]
    exact fun W hb => ⟨box4 hb, box4_below hb⟩
  rw [hA.out] at hB0
  have HDV : Hid (∀ W, Below (w1.heap.size + 1) (w1.alloc A) W → DView W (.agg #[.string D.name, .slice a D.nc a2, .slice b D.np b2, .slice c D.ni c2]) D ∧ ChkI W) := fun W hb => ⟨hv.below (HBX.out W hb).2.1, fun W2 v2 D2 hb2 hD2 hf2 => hI W2 v2 D2 ((hb1.trans ((HBX.out W hb).2.1.mono hb1.size)).trans (hb2.mono (by have h1 := hb1.size; have h2 := (HBX.out W hb).2.1.size; omega))) hD2 hf2⟩
  have HIX : Hid (IView w1 c D.ni c2 D.idx) := hx
  have HF : Hid (DFine D) := hf
  have HB1 : Hid (Below w.heap.size w w1) := hb1
  have hni := hf.ni
  obtain ⟨⟨x0, x1, x2, x3⟩, -, -⟩ := HBX.out _ hB0
  have hP := implPrimary_any _ D _ (HDV.out _ hB0).1 hf (HDV.out _ hB0).2
  clear hv hx hb1 hf hI
  -- the three plans
  go_wp2_with (rw [hA.out])
  refine hP.mono ?_
  rintro e w2 ⟨gp, kp, rfl, hOp, hb2⟩
  have B2 := box4_on hB0 hb2
  clear hP hB0 hb2 x0 x1 x2 x3
  obtain ⟨⟨x0, x1, x2, x3⟩, -, -⟩ := HBX.out _ B2
  have hX := implIndex_any _ D x _ (HDV.out _ B2).1 HF.out (HDV.out _ B2).2
  go_wp2_with fail
  refine hX.mono ?_
  rintro e w3 ⟨gq, kq, rfl, hOq, hb3⟩
  have B3 := box4_on B2 hb3
  have hOp3 := own_belowG hOp hb3
  clear hX B2 hb3 x0 x1 x2 x3 hOp
  obtain ⟨⟨x0, x1, x2, x3⟩, -, -⟩ := HBX.out _ B3
  have hR := implRowPlan_any _ D _ (HDV.out _ B3).1 HF.out (HDV.out _ B3).2
  go_wp2_with fail
  refine hR.mono ?_
  rintro e w4 ⟨gr, kr, rfl, hOr, hb4⟩
  have B4 := box4_on B3 hb4
  have hOp4 := own_belowG hOp3 hb4
  have hOq4 := own_belowG hOq hb4
  clear hR B3 hb4 x0 x1 x2 x3 hOp3 hOq
  obtain ⟨⟨x0, x1, x2, x3⟩, -, -⟩ := HBX.out _ B4
  have hC := specCheck_any _ D w4 (HDV.out _ B4).1 HF.out
  obtain ⟨r, hr⟩ : ∃ r, Hid (checkF D = r) := ⟨_, rfl⟩
  rw [hr.out] at hC
  go_wp2_with fail
  refine hC.mono ?_
  rintro e w5 ⟨rfl, hb5⟩
  have B5 := box4_on B4 hb5
  have hOp5 := own_belowG hOp4 hb5
  have hOq5 := own_belowG hOq4 hb5
  have hOr5 := own_belowG hOr hb5
  clear hC B4 hb5 x0 x1 x2 x3 hOp4 hOq4 hOr HDV
  obtain ⟨⟨x0, x1, x2, x3⟩, hbw5, -⟩ := HBX.out _ B5
  have HB5 : Hid (Below w.heap.size w w5) := HB1.out.trans (hbw5.mono HB1.out.size)
  by_cases hz : r = 0
  · subst hz
    have HNP : Hid (priN D = D.np) := by show _ = _; unfold priN; rw [if_pos hr.out]
    have HNR : Hid (rowN D = D.nc) := by show _ = _; unfold rowN; rw [if_pos hr.out]
    have hGp := good_pri hr.out
    have h2p := partsF_two hGp
    have hnc6 := (good_nc hr.out).2
    rw [HNP.out] at hOp5 ⊢
    rw [HNR.out] at hOr5 ⊢
    have hNQ := idxN_le D x
    have HQF : Hid (∀ i, i < idxN D x → 0 ≤ (plF D.col (ixpL D x) i).col ∧ (plF D.col (ixpL D x) i).col ≤ 5 ∧ 1 ≤ (plF D.col (ixpL D x) i).type ∧ (plF D.col (ixpL D x) i).type ≤ 4) := by
      intro i hi
      unfold idxN at hi
      split at hi
      · rename_i hc
        have hG := good_idx hc.1 (i := x.toNat) (by omega)
        exact plF_fine hc.1 (n := (D.idx x.toNat).n + D.np) (cat_in (fun i hi => partsF_in hG hi) (fun i hi => partsF_in hGp hi)) i hi
      · omega
    have HPF := plF_fine (D := D) (l := D.pri) (n := D.np) hr.out (fun i hi => partsF_in hGp hi)
    have HRF := plF_fine (D := D) (l := allL) (n := D.nc) hr.out (fun i hi => by show (0 : Int) ≤ (i : Int) ∧ (i : Int) < (D.nc : Int); omega)
    have o1 := hPO w5 (some ⟨gp, 0, none⟩) D.np kp _ (qview_of_own hOp5) (by omega) HPF
    clear HPF
    have hq1 : ((D.np : Int) != (D.np : Int)) = false := bne_self_eq_false _
    have hq2 : ((D.nc : Int) != (D.nc : Int)) = false := bne_self_eq_false _
    go_wp2_with fail
    refine o1.mono ?_
    rintro e w6 ⟨rfl, hb6⟩
    have B6 := box4_on B5 hb6
    have hOp6 := own_belowG hOp5 hb6
    have hOq6 := own_belowG hOq5 hb6
    have hOr6 := own_belowG hOr5 hb6
    clear o1 B5 hb6 hOp5 hOq5 hOr5 x0 x1 x2 x3 hbw5
    have o2 := hPO w6 (some ⟨gq, 0, none⟩) (idxN D x) kq _ (qview_of_own hOq6) hNQ HQF.out
    clear HQF
    go_wp2_with fail
    refine o2.mono ?_
    rintro e w7 ⟨rfl, hb7⟩
    have B7 := box4_on B6 hb7
    have hOp7 := own_belowG hOp6 hb7
    have hOq7 := own_belowG hOq6 hb7
    have hOr7 := own_belowG hOr6 hb7
    clear o2 B6 hb7 hOp6 hOq6 hOr6
    have o3 := hPO w7 (some ⟨gr, 0, none⟩) D.nc kr _ (qview_of_own hOr7) (by omega) HRF
    clear HRF hPO
    go_wp2_with fail
    refine o3.mono ?_
    rintro e w8 ⟨rfl, hb8⟩
    have B8 := box4_on B7 hb8
    have hOp8 := own_belowG hOp7 hb8
    have hOq8 := own_belowG hOq7 hb8
    clear o3 B7 hb8 hOp7 hOq7 hOr7
    obtain ⟨⟨x0, x1, x2, x3⟩, hbw8, -⟩ := HBX.out _ B8
    have HB8 : Hid (Below w.heap.size w w8) := HB1.out.trans (hbw8.mono HB1.out.size)
    by_cases hin : 0 ≤ x ∧ x < D.ni
    · obtain ⟨j, rfl⟩ : ∃ j : Nat, x = j := ⟨x.toNat, by omega⟩
      have hjn : j < D.ni := by omega
      have hj0 : ¬ (j : Int) < 0 := by omega
      have hj1 : ¬ (j : Int) ≥ (D.ni : Int) := by omega
      have hj2 : (j : Int) < (D.ni : Int) := by omega
      have h2i := partsF_two (good_idx hr.out hjn)
      have HIN : Hid (idxN D (j : Int) = (D.idx j).n + D.np) := by
        show _ = _
        unfold idxN
        rw [if_pos ⟨hr.out, by omega, by omega⟩]; simp
      have HIL : Hid (ixpL D (j : Int) = catB (D.idx j).part (D.idx j).n D.pri) := by show _ = _; unfold ixpL; simp
      obtain ⟨bi, oi, rfl, hbi, hci⟩ := (HIX.out.below hbw8).cells (by omega)
      obtain ⟨-, -, a3, c3, y2, -⟩ := hci j hjn
      rw [HIN.out] at hOq8 ⊢
      rw [HIL.out] at hOq8
      have vq := qview_of_own hOq8
      have vp := qview_of_own hOp8
      obtain ⟨bq, oq, eq, hbq, hcq⟩ := vq.cells (by omega)
      obtain ⟨bp, op, ep, hbp, hcp⟩ := vp.cells (by omega)
      cases eq
      cases ep
      have HC : Hid (∀ k, k < D.np → (w8.cell? ⟨gq, ((D.idx j).n + k) * 4, none⟩ = some (.int .i64 (D.pri k).col) ∧ w8.cell? ⟨gq, ((D.idx j).n + k) * 4 + 1, none⟩ = some (.int .i64 (D.col (D.pri k).col.toNat).type) ∧ w8.cell? ⟨gq, ((D.idx j).n + k) * 4 + 2, none⟩ = some (.bool (D.col (D.pri k).col.toNat).null) ∧ w8.cell? ⟨gq, ((D.idx j).n + k) * 4 + 3, none⟩ = some (.bool (D.pri k).desc)) ∧ (w8.cell? ⟨gp, k * 4, none⟩ = some (.int .i64 (D.pri k).col) ∧ w8.cell? ⟨gp, k * 4 + 1, none⟩ = some (.int .i64 (D.col (D.pri k).col.toNat).type) ∧ w8.cell? ⟨gp, k * 4 + 2, none⟩ = some (.bool (D.col (D.pri k).col.toNat).null) ∧ w8.cell? ⟨gp, k * 4 + 3, none⟩ = some (.bool (D.pri k).desc))) := by
        intro k hk
        have e1 := hcq ((D.idx j).n + k) (by omega)
        have e2 := hcp k hk
        simp only [Nat.zero_add, plF, ptOf, catB, show ¬ (D.idx j).n + k < (D.idx j).n by omega, if_false, Nat.add_sub_cancel_left] at e1 e2
        exact ⟨e1, e2⟩
      obtain ⟨m, hm⟩ : ∃ x, Hid ((D.idx j).n = x) := ⟨_, rfl⟩
      obtain ⟨P, hPP⟩ : ∃ x, Hid (D.np = x) := ⟨_, rfl⟩
      simp only [hm.out, hPP.out] at HC y2 h2i h2p ⊢
      have hqq : ((m : Int) + P != (m : Int) + P) = false := bne_self_eq_false _
      clear hOq8 hOp8 vq vp hcq hcp hci B8 hbw8 HIX HBX HIN HIL
      go_wp2
      go_loopg [9] P (fun q i wr => ∃ k : Nat, k ≤ P ∧ q = P - k ∧ i = .int .i64 k ∧ Below w8.heap.size w8 wr)
      case atStart => exact ⟨0, Nat.zero_le _, rfl, rfl, Below.refl _ _⟩
      case round =>
        obtain ⟨k, hk, rfl, rfl, hbr⟩ := hrel
        by_cases hlt : k < P
        · have hkz : (k : Int) < (P : Int) := by omega
          obtain ⟨⟨c0, c1, c2', c3'⟩, d0, d1, d2, d3⟩ := HC.out k hlt
          rw [← hbr.cell (by exact hbq)] at c0 c1 c2' c3'
          rw [← hbr.cell (by exact hbp)] at d0 d1 d2 d3
          obtain ⟨v0, hv0⟩ : ∃ x, Hid ((D.pri k).col = x) := ⟨_, rfl⟩
          obtain ⟨v1, hv1⟩ : ∃ x, Hid ((D.col (D.pri k).col.toNat).type = x) := ⟨_, rfl⟩
          obtain ⟨v2, hv2⟩ : ∃ x, Hid ((D.col (D.pri k).col.toNat).null = x) := ⟨_, rfl⟩
          obtain ⟨v3, hv3⟩ : ∃ x, Hid ((D.pri k).desc = x) := ⟨_, rfl⟩
          rw [hv1.out] at c1 d1
          rw [hv2.out] at c2' d2
          rw [hv0.out] at c0 d0
          rw [hv3.out] at c3' d3
          have hne := fun W => nePart_run v0 v1 v2 v3 W
          have hqk : (m : Int) + (k : Int) < (m : Int) + (P : Int) := by omega
          have hqk0 : ¬ ((m : Int) + (k : Int) < 0) := by omega
          clear HC x0 x1 x2 x3 y2
          go_wp2_with fail
          go_quiet (fail)
          go_wp2
          go_roundg (P - (k + 1))
          case measure => omega
          case rel => exact ⟨k + 1, by omega, rfl, by go_num, below_drewN11 hbr _⟩
        · have hkz : ¬ (k : Int) < (P : Int) := by omega
          clear HC
          go_wp2
          go_ret
          exact ⟨rfl, HB8.out.trans (hbr.mono HB8.out.size)⟩
    · have HIN : Hid (idxN D x = 0) := by
        show _ = _
        unfold idxN
        rw [if_neg (fun h => hin h.2)]
      rw [HIN.out]
      clear B8 hbw8 hOp8 hOq8 HIX HBX
      by_cases hx0 : x < 0
      · go_wp2
        go_ret
        exact ⟨by simp, HB8.out⟩
      · have hx1 : x ≥ (D.ni : Int) := by omega
        go_wp2
        go_ret
        exact ⟨by simp, HB8.out⟩
  · have hq : (r != 0) = true := by simpa using hz
    have HNP : Hid (priN D = 0) := by show _ = _; unfold priN; rw [if_neg (by rw [hr.out]; exact hz)]
    have HNR : Hid (rowN D = 0) := by show _ = _; unfold rowN; rw [if_neg (by rw [hr.out]; exact hz)]
    have HNX : Hid (idxN D x = 0) := by show _ = _; unfold idxN; rw [if_neg (by rw [hr.out]; exact fun h => hz h.1)]
    rw [HNP.out, HNR.out, HNX.out]
    clear B5 hOp5 hOq5 hOr5 hbw5 hPO HIX HBX
    go_wp2
    go_ret
    exact ⟨by simp, HB5.out⟩
end Go.Proofs.YtjoimkfpenbkmaaGreatDoor

/-
  The model's DrawIndexPlan: a drawn table that reads, and a number.
-/
namespace Go.Proofs.YtjoimkfpenbkmaaGreatDoor
open Go.RowKit
set_option maxRecDepth 4000

theorem But.at11 {g : Nat} (w : World) (i : Nat) (u : Value) : But g w (w.setCell ⟨g, i, none⟩ u) := ⟨rfl, rfl, rfl, by simp, fun k _ hk => Below.heap_setCell _ _ _ _ hk⟩

set_option maxRecDepth 20000 in
set_option maxHeartbeats 8000000 in
theorem drawIndexPlan_any (ao : Option Addr) (n cap : Nat) (f : Nat → Int) (w : World) (hn : n ≤ 1048576) (hv : View w ao n cap f) :
    Calls Tryz.prog 10 #[.slice ao n cap] w fun e w' => ∃ (s : ByteArray) (a b c : Option Addr) (a1 a2 b1 b2 c1 c2 : Nat) (E : PDef) (x : Int), e = .returned (.tuple #[.agg #[.string s, .slice a a1 a2, .slice b b1 b2, .slice c c1 c2], .int .i64 x]) ∧ DView w' (.agg #[.string s, .slice a a1 a2, .slice b b1 b2, .slice c c1 c2]) E ∧ Sm E ∧ Below w.heap.size w w' := by
  have hb0 : Below w.heap.size w (w.alloc (.cells #[.string ⟨#[]⟩, (.slice none 0 0), (.slice none 0 0), (.slice none 0 0)] 28)) := (Below.refl _ _).alloc (Nat.le_refl _) _
  have hP := V4.new w 28 (.string ⟨#[]⟩) (.slice none 0 0) (.slice none 0 0) (.slice none 0 0)
  have hv0 := hv.below hb0
  obtain ⟨g, hA⟩ : ∃ g, g = (w.alloc (.cells #[.string ⟨#[]⟩, (.slice none 0 0), (.slice none 0 0), (.slice none 0 0)] 28)).heap.size := ⟨_, rfl⟩
  have hA2 : g = w.heap.size + 1 := by rw [hA]; simp
  go_enter Tryz.func10, Tryz.ntmps10
  go_wp2_with fail
  refine (l1New_at g ao n cap f _ hA hn hv0).mono ?_
  rintro e w1 ⟨rfl, hC1, hb1⟩
  replace hP := hP.below hb1
  have hB1 : Below w.heap.size w w1 := hb0.trans (hb1.mono hb0.size)
  have hl1 := hC1.lt
  have hgw : w.heap.size < g := by omega
  have hlt1 := hP.lt
  clear hb0 hb1 hv0 hA hA2
  go_wp2_with fail
  refine (l9Any_any g ao n cap f w1 hn hC1).mono ?_
  rintro e w2 ⟨a, cc, m, vp, vi, D, rfl, A, C, hle, ⟨ab, pb, pn, pc, rfl, rfl⟩, ⟨ia, nn, ic, rfl⟩, hT, hR⟩
  replace hP := hP.block (hR.but.block w.heap.size hlt1 (by omega))
  have hB2 : Below w.heap.size w w2 := hB1.trans (hR.but.below (by omega) hB1.size)
  have hbA : Below w2.heap.size w2 (w2.alloc (.cells #[.int .i64 0, .int .i64 0, .int .i64 1, .int .i64 (-1), .int .i64 2] 3)) := (Below.refl _ _).alloc (Nat.le_refl _) _
  have hz : ∀ i, i < 5 → (w2.alloc (.cells #[.int .i64 0, .int .i64 0, .int .i64 1, .int .i64 (-1), .int .i64 2] 3)).cell? ⟨w2.heap.size, i, none⟩ = some (.int .i64 ([(0 : Int), 0, 1, -1, 2].getD i 0)) := by
    intro i hi
    have : i = 0 ∨ i = 1 ∨ i = 2 ∨ i = 3 ∨ i = 4 := by omega
    rcases this with rfl | rfl | rfl | rfl | rfl <;> simp [go_sem]
  have hC3 := (hR.eff (T := 3) (Eff.ofBelow hbA)).cur
  have hI := l1Int_any g ao n cap f w2.heap.size 5 _ _ hn (by omega) (by omega) hz (by have := hR.size; omega) hC3
  have hP3 := hP.below hbA
  have hT3 := hT.eff (Eff.ofBelow (T := 3) hbA) (by decide) (by decide) (by decide)
  have hB3 : Below w.heap.size w (w2.alloc (.cells #[.int .i64 0, .int .i64 0, .int .i64 1, .int .i64 (-1), .int .i64 2] 3)) := hB2.trans (hbA.mono hB2.size)
  clear hP hT hB2 hbA hz hC3 hR hC1
  go_wp2_with fail
  refine hI.mono ?_
  rintro e w4 ⟨j, hj, rfl, -, hO4⟩
  obtain ⟨x, hx⟩ : ∃ x, Hid (([(0 : Int), 0, 1, -1, 2].getD j 0) = x) := ⟨_, rfl⟩
  rw [hx.out]
  have hb4 := But.ofOnly hO4
  have hP4 := hP3.block (hb4.block w.heap.size hP3.lt (by omega))
  have hT4 := hT3.but hb4 hl1
  have hB4 : Below w.heap.size w w4 := hB3.trans (hb4.below (by omega) hB3.size)
  obtain ⟨p0, p1, p2, p3⟩ := hP4.cells
  obtain ⟨z0, z1, z2, z3⟩ := hP4.fz
  have qV := (((hP4.set0 (.string D.name)).set1 (.slice (some ⟨ab, 0, none⟩) m cc)).set2 (.slice (some ⟨pb, 0, none⟩) pn pc)).set3 (.slice ia nn ic)
  obtain ⟨g0, g1, g2, g3⟩ := qV.cells
  have hT5 := (((hT4.but (But.at11 (g := w.heap.size) w4 0 (.string D.name)) hlt1).but (But.at11 (g := w.heap.size) _ 1 (.slice (some ⟨ab, 0, none⟩) m cc)) hlt1).but (But.at11 (g := w.heap.size) _ 2 (.slice (some ⟨pb, 0, none⟩) pn pc)) hlt1).but (But.at11 (g := w.heap.size) _ 3 (.slice ia nn ic)) hlt1
  have HD : Hid (DView _ (.agg #[(.string D.name), (.slice (some ⟨ab, 0, none⟩) m cc), (.slice (some ⟨pb, 0, none⟩) pn pc), (.slice ia nn ic)]) { D with nc := m } ∧ Sm { D with nc := m }) := ⟨hT5.cut hle, hT5.sm.cut hle⟩
  have HB : Hid (Below w.heap.size w ((((w4.setCell ⟨w.heap.size, 0, none⟩ (.string D.name)).setCell ⟨w.heap.size, 1, none⟩ (.slice (some ⟨ab, 0, none⟩) m cc)).setCell ⟨w.heap.size, 2, none⟩ (.slice (some ⟨pb, 0, none⟩) pn pc)).setCell ⟨w.heap.size, 3, none⟩ (.slice ia nn ic))) := (((hB4.setCell (p := ⟨w.heap.size, 0, none⟩) (Nat.le_refl _) _).setCell (p := ⟨w.heap.size, 1, none⟩) (Nat.le_refl _) _).setCell (p := ⟨w.heap.size, 2, none⟩) (Nat.le_refl _) _).setCell (p := ⟨w.heap.size, 3, none⟩) (Nat.le_refl _) _
  clear hI hO4 hb4 hP3 hP4 hT3 hT4 hT5 hB3 hB4 qV
  go_wp2
  exact bodyPost_ret (v := .tuple #[.agg #[(.string D.name), (.slice (some ⟨ab, 0, none⟩) m cc), (.slice (some ⟨pb, 0, none⟩) pn pc), (.slice ia nn ic)], .int .i64 x]) (by simp [results, Tryz.results10, go_sem, g0, g1, g2, g3]) rfl ⟨_, _, _, _, _, _, _, _, _, _, _, x, rfl, HD.out.1, HD.out.2, HB.out⟩
end Go.Proofs.YtjoimkfpenbkmaaGreatDoor

/-
  The law FnPlans, at drawn tables.
-/
namespace Go.Proofs.YtjoimkfpenbkmaaGreatDoor
open Go.RowKit
set_option maxRecDepth 4000

theorem planOk_fine {m : Nat} {P : Nat → PPart} (hm : m ≤ 6) (h : ∀ i, i < m → 0 ≤ (P i).col ∧ (P i).col ≤ 5 ∧ 1 ≤ (P i).type ∧ (P i).type ≤ 4) : planOk m (fun i => (P i).col) (fun i => (P i).type) = true := by
  unfold planOk
  simp only [Bool.and_eq_true, List.all_eq_true, List.mem_range, decide_eq_true_eq]
  refine ⟨fun i hi => ?_, hm⟩
  have := h i hi
  unfold partOk
  simp only [Bool.and_eq_true, decide_eq_true_eq]
  omega
theorem lawPlansAll (ao : Option Addr) (n cap : Nat) (f : Nat → Int) (w : World) (hv : View w ao n cap f) (hn : n ≤ 9223372036854775807) (hI : ChkI w) :
    Calls Tryz.prog 3 #[.slice ao n cap] w fun e w' => e = .returned (.bool true) ∧ Below w.heap.size w w' :=
  lawPlans ao n cap w hI (big_any ao n cap w hn)
    (fun h20 => (drawIndexPlan_any ao n cap f w h20 hv).mono (fun _ _ ⟨s, a, b, c, a1, a2, b1, b2, c1, c2, E, x, he, hd, hs, hb⟩ => ⟨s, a, b, c, a1, a2, b1, b2, c1, c2, E, x, he, hd, hs.fine, hb⟩))
    (fun W a m c P hq hm hP => by
      have h := implPlanOk_any a m c _ _ _ _ W hq
      rw [planOk_fine hm hP] at h
      exact h)
end Go.Proofs.YtjoimkfpenbkmaaGreatDoor

