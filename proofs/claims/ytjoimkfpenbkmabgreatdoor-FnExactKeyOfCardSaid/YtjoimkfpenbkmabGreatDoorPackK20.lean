/-
  Together: EqDefs, LawHeadOf, PartsByImpl, PlanImpl11, IdxImpl11, FirstImpl
-/
import Derived.Test.YtjoimkfpenbkmabGreatDoorPackK19
import Derived.Test.YtjoimkfpenbkmabGreatDoorPackK5
import Derived.Test.YtjoimkfpenbkmabGreatDoorPackK12
import Derived.Test.YtjoimkfpenbkmabGreatDoorPackK6
import Derived.Deep.RegionHeld3
import Derived.Test.YtjoimkfpenbkmabGreatDoorPackK7
import Derived.Deep.LoopGhost
import Derived.Test.YtjoimkfpenbkmabGreatDoorPackK9
import Derived.Test.YtjoimkfpenbkmabGreatDoorPackK8
/-
  Rows of tables that read alike are alike, as the law holds them against each other.
-/
namespace Go.Proofs.YtjoimkfpenbkmabGreatDoor
open Go.RowKit
set_option maxRecDepth 4000

set_option maxHeartbeats 2000000 in
theorem eqDefS_same (a1 a2 : Option Addr) (n c1 c2 : Nat) (f : Nat → PDef) (w : World) (h1 : LView w a1 n c1 f) (h2 : LView w a2 n c2 f) (hf : LFine n f) :
    Calls Tryz.prog 13 #[.slice a1 n c1, .slice a2 n c2] w fun e w' => e = .returned (.bool true) ∧ Below w.heap.size w w' := by
  have hn := hf.few
  go_enter Tryz.func13, Tryz.ntmps13
  go_wp2
  go_loopg [5] n (fun q i wr => ∃ k : Nat, k ≤ n ∧ q = n - k ∧ i = .int .i64 k ∧ Below w.heap.size w wr)
  case atStart => exact ⟨0, Nat.zero_le _, rfl, rfl, Below.refl _ _⟩
  case round =>
    obtain ⟨k, hk, rfl, rfl, hB⟩ := hrel
    by_cases hlt : k < n
    · obtain ⟨b1, o1, rfl, hb1, hc1⟩ := (h1.below hB).cells (by omega)
      obtain ⟨b2, o2, rfl, hb2, hc2⟩ := (h2.below hB).cells (by omega)
      obtain ⟨y1, y2, y3, x0, x1, x2, x3, hv1⟩ := hc1 k hlt
      obtain ⟨z1, z2, z3, u0, u1, u2, u3, hv2⟩ := hc2 k hlt
      have hV := fun W (hb : Below wr.heap.size wr W) => eqDef_same _ _ (f k) W (hv1.below hb) (hv2.below hb) (hf.at_ k hlt)
      obtain ⟨p0, hp0⟩ : ∃ x, Hid ((f k).name = x) := ⟨_, rfl⟩
      simp only [hp0.out] at hV
      rw [hp0.out] at x0 u0
      have hkz : (k : Int) < (n : Int) := by omega
      have HWK : Hid (∀ W, Below wr.heap.size wr W → (W.cell? ⟨b1, o1 + k * 4, none⟩ = some (.string p0) ∧ W.cell? ⟨b1, o1 + k * 4 + 1, none⟩ = some y1 ∧ W.cell? ⟨b1, o1 + k * 4 + 2, none⟩ = some y2 ∧ W.cell? ⟨b1, o1 + k * 4 + 3, none⟩ = some y3) ∧ (W.cell? ⟨b2, o2 + k * 4, none⟩ = some (.string p0) ∧ W.cell? ⟨b2, o2 + k * 4 + 1, none⟩ = some z1 ∧ W.cell? ⟨b2, o2 + k * 4 + 2, none⟩ = some z2 ∧ W.cell? ⟨b2, o2 + k * 4 + 3, none⟩ = some z3)) := by
        intro W hb
        refine ⟨⟨?_, ?_, ?_, ?_⟩, ⟨?_, ?_, ?_, ?_⟩⟩ <;> (rw [hb.cell (by first | exact hb1 | exact hb2)]; assumption)
      clear hc1 hc2 h1 h2 hf hv1 hv2
      go_wp2_with fail
      go_region_held3 (fun W => (W.cell? ⟨b1, o1 + k * 4, none⟩ = some (.string p0) ∧ W.cell? ⟨b1, o1 + k * 4 + 1, none⟩ = some y1 ∧ W.cell? ⟨b1, o1 + k * 4 + 2, none⟩ = some y2 ∧ W.cell? ⟨b1, o1 + k * 4 + 3, none⟩ = some y3) ∧ (W.cell? ⟨b2, o2 + k * 4, none⟩ = some (.string p0) ∧ W.cell? ⟨b2, o2 + k * 4 + 1, none⟩ = some z1 ∧ W.cell? ⟨b2, o2 + k * 4 + 2, none⟩ = some z2 ∧ W.cell? ⟨b2, o2 + k * 4 + 3, none⟩ = some z3)) (first | assumption | go_keep) (first | (go_at_call 36; refine (hV _ (by repeat (first | exact Below.refl _ _ | refine Below.drew ?_))).mono ?_; rintro e w2 ⟨rfl, hB2⟩; have hcells : (w2.cell? ⟨b1, o1 + k * 4, none⟩ = some (.string p0) ∧ w2.cell? ⟨b1, o1 + k * 4 + 1, none⟩ = some y1 ∧ w2.cell? ⟨b1, o1 + k * 4 + 2, none⟩ = some y2 ∧ w2.cell? ⟨b1, o1 + k * 4 + 3, none⟩ = some y3) ∧ (w2.cell? ⟨b2, o2 + k * 4, none⟩ = some (.string p0) ∧ w2.cell? ⟨b2, o2 + k * 4 + 1, none⟩ = some z1 ∧ w2.cell? ⟨b2, o2 + k * 4 + 2, none⟩ = some z2 ∧ w2.cell? ⟨b2, o2 + k * 4 + 3, none⟩ = some z3) := HWK.out _ (Below.trans (by repeat (first | exact Below.refl _ _ | refine Below.drew ?_)) hB2)))
      all_goals
        have hB3 : Hid (Below w.heap.size w w2) := hB.trans (Below.trans (by repeat (first | exact Below.refl _ _ | refine Below.drew ?_)) (hB2.mono (by have := hB.size; exact this)))
        clear hcells HWK hV
        go_wp2
        go_roundg (n - (k + 1))
        case measure => omega
        case rel => exact ⟨k + 1, by omega, rfl, by go_num, by first | exact hB3.out | exact hB3.out.drew⟩
    · clear h1 h2 hf
      go_wp2
      go_ret
      exact ⟨rfl, hB⟩
end Go.Proofs.YtjoimkfpenbkmabGreatDoor

/-
  The law FnExactHeadOf, walked.
-/
namespace Go.Proofs.YtjoimkfpenbkmabGreatDoor
open Go.RowKit
set_option maxRecDepth 4000

set_option maxHeartbeats 8000000 in
theorem lawHeadOf (a : Option Addr) (n cap : Nat) (f : Nat → PDef) (t i : Int) (w : World) (h : LView w a n cap f) (hn : n ≤ maxLen) (hm : ∀ i, i < n → DLim (f i))
    (hI : ∀ (W : World) (a' : Option Addr) (c' : Nat), Below w.heap.size w W → LView W a' n c' f → LFine n f → Calls Tryz.prog 20 #[.slice a' n c', .int .i64 t, .int .i64 i] W (ByTo W (headB f n t i))) :
    Calls Tryz.prog 4 #[.slice a n cap, .int .i64 t, .int .i64 i] w fun e w' => e = .returned (.bool true) ∧ Below w.heap.size w w' := by
  have hZ := szDefS_fine a n cap f 1048576 w h hn hm (by omega) (by omega)
  clear hm hn
  go_enter Tryz.func4, Tryz.ntmps4
  go_wp2_with fail
  refine hZ.mono ?_
  rintro e w1 ⟨L1, rfl, hb1, hL⟩
  clear hZ
  rcases hL with rfl | ⟨hL0, hL1, hf⟩
  · have HB : Hid (Below w.heap.size w w1) := hb1
    clear hI h hb1
    go_wp2
    go_ret
    exact ⟨rfl, HB.out⟩
  have hLn : ¬ L1 < 0 := by omega
  obtain ⟨LL, hLL⟩ : ∃ L, Hid (headB f n t i = L) := ⟨_, rfl⟩
  have HFI : Hid ((∀ y ∈ LL, 0 ≤ y ∧ y ≤ 255) ∧ LL.length ≤ 416) := by rw [← hLL.out]; exact headB_fine f n t i
  have hl4 := HFI.out.2
  have HTD : Hid (∀ W, Below w.heap.size w W → Calls Tryz.prog 9 #[.slice a n cap] W fun e w' => e = .returned (.slice (some ⟨W.heap.size, 0, none⟩) n n) ∧ LRow w' W.heap.size W.heap.size n f ∧ Below W.heap.size W w' ∧ W.heap.size < w'.heap.size) := fun W hb => toDefS_any a n cap f W (h.below hb) hf
  have HED : Hid (∀ W a1 c1 a2 c2, LView W a1 n c1 f → LView W a2 n c2 f → Calls Tryz.prog 13 #[.slice a1 n c1, .slice a2 n c2] W fun e w' => e = .returned (.bool true) ∧ Below W.heap.size W w') := fun W a1 c1 a2 c2 h1 h2 => eqDefS_same a1 a2 n c1 c2 f W h1 h2 hf
  have HMD : Hid (∀ W B b, LRow W B b n f → Calls Tryz.prog 15 #[.slice (some ⟨b, 0, none⟩) n n, .int .i64 1] W fun e w' => ∃ k' : Int, e = .returned (.int .i64 k') ∧ 1 ≤ k' ∧ k' ≤ 1 + 2199030595585 * n ∧ Mk S4 B W w') := fun W B b hr => markDefS_mk B b n n W (hr.marks hf)
  have hn20 := hf.few
  have HSP : Hid (∀ (W : World) (a' : Option Addr) (c' : Nat), LView W a' n c' f → Calls Tryz.prog 19 #[.slice a' n c', .int .i64 t, .int .i64 i] W (ByTo W LL)) := fun W a' c' hv => by rw [← hLL.out]; exact specHead_any a' n c' f t i W hv hf
  have HIM : Hid (∀ (W : World) (a' : Option Addr) (c' : Nat), Below w.heap.size w W → LView W a' n c' f → Calls Tryz.prog 20 #[.slice a' n c', .int .i64 t, .int .i64 i] W (ByTo W LL)) := fun W a' c' hb hv => by rw [← hLL.out]; exact hI W a' c' hb hv hf
  have HEQ : Hid (∀ W b1 b2 g1 c1 g2 c2, W.ownsRow b1 5 1 (.slice (some ⟨g1, 0, none⟩) LL.length c1) LL.length (bl LL) → W.ownsRow b2 5 1 (.slice (some ⟨g2, 0, none⟩) LL.length c2) LL.length (bl LL) → Calls Tryz.prog 12 #[.slice (some ⟨g1, 0, none⟩) LL.length c1, .slice (some ⟨g2, 0, none⟩) LL.length c2] W fun e w' => e = .returned (.bool true) ∧ Below W.heap.size W w') := fun W b1 b2 g1 c1 g2 c2 h1 h2 => eqByteS_same _ _ _ c1 c2 _ _ W (bview_of_owned h1 HFI.out.1) (bview_of_owned h2 HFI.out.1) (by omega) (fun _ _ => rfl)
  clear hI h hf
  obtain ⟨w1', hw1⟩ : ∃ W, Hid (w1 = W) := ⟨_, rfl⟩
  rw [hw1.out] at hb1 ⊢
  have HB1 : Hid (Below w.heap.size w w1') := hb1
  clear hb1
  -- the model's answer
  have hT := HTD.out w1' HB1.out
  go_wp2_with fail
  refine hT.mono ?_
  rintro e w2 ⟨rfl, hR2, hb2, -⟩
  have HB2 : Hid (Below w.heap.size w w2) := HB1.out.trans (hb2.mono HB1.out.size)
  have hv2 := hR2.view
  clear hT hb2 hR2
  have hC := HSP.out w2 _ _ hv2
  obtain ⟨X2, hX2⟩ : ∃ x, Hid (w1'.heap.size = x) := ⟨_, rfl⟩
  rw [hX2.out] at hC ⊢
  clear hv2
  go_wp2_with fail
  refine hC.mono ?_
  rintro e w3 ⟨gw, cw, rfl, hOw, hb3⟩
  have HB3 : Hid (Below w.heap.size w w3) := HB2.out.trans (hb3.mono HB2.out.size)
  replace hOw := own_low hOw HB2.out.size
  clear hC hb3
  -- the copy
  have hT := HTD.out w3 HB3.out
  go_wp2_with fail
  refine hT.mono ?_
  rintro e w4 ⟨rfl, hR4, hb4, -⟩
  have hOw4 := own_belowG hOw hb4
  have HB4 : Hid (Below w.heap.size w w4) := HB3.out.trans (hb4.mono HB3.out.size)
  obtain ⟨X, hX⟩ : ∃ x, Hid (w3.heap.size = x) := ⟨_, rfl⟩
  have hwX : w.heap.size ≤ X := by rw [← hX.out]; exact HB3.out.size
  rw [hX.out] at hR4 ⊢
  clear hT hb4 hOw
  have hG := HIM.out w4 _ _ HB4.out hR4.view
  clear hX
  go_wp2_with fail
  refine hG.mono ?_
  rintro e w6 ⟨gg, cg, rfl, hOg, hb6⟩
  have hne : gw ≠ gg := by have := own_ge9 hOg gg (by simp [Value.ownBlock]); have := own_gtK hOw4; omega
  have C6 : CarB w gw cw gg cg LL w6 := ⟨HB4.out.trans (hb6.mono HB4.out.size), own_belowG hOw4 hb6, own_low hOg HB4.out.size, hne⟩
  have hR6 := hR4.below hb6
  have hE := HEQ.out w6 _ _ gg cg gw cw C6.own2 C6.own
  clear hG hb6 hOg hOw4 hR4 hne
  go_wp2_with fail
  refine hE.mono ?_
  rintro e w7 ⟨rfl, hb7⟩
  have C7 := C6.on hb7
  have hR7 := hR6.below hb7
  have hT := HTD.out w7 C7.below
  clear hE hb7 C6 hR6
  -- the argument is as it was
  go_wp2_with fail
  refine hT.mono ?_
  rintro e w8 ⟨rfl, hR8, hb8, -⟩
  have C8 := C7.on hb8
  have hR8' := hR7.below hb8
  have hE := HED.out w8 _ _ _ _ hR8'.view hR8.view
  obtain ⟨X8, hX8⟩ : ∃ x, Hid (w7.heap.size = x) := ⟨_, rfl⟩
  rw [hX8.out] at hE ⊢
  clear hT hb8 C7 hR7 hR8
  go_wp2_with fail
  refine hE.mono ?_
  rintro e w9 ⟨rfl, hb9⟩
  have C9 := C8.on hb9
  have hR9 := hR8'.below hb9
  clear hE hb9 C8 hR8'
  -- what was handed in is marked
  have hMD := HMD.out _ X X hR9
  go_wp2_with fail
  refine hMD.mono ?_
  rintro e w10 ⟨k', rfl, hk0, hk1, hmk⟩
  have hk0' : ¬ k' < 0 := by omega
  have C10 := C9.marked hmk hwX
  clear hMD hR9 C9
  have hE := HEQ.out _ _ _ gg cg gw cw C10.own2 C10.own
  go_wp2_with fail
  refine hE.mono ?_
  rintro e w12 ⟨rfl, hb12⟩
  have C12 := C10.on hb12
  have hMB := mark_any gg LL.length cg _ 1 w12 (row_of_owned C12.own2) (by omega) (by omega)
  have hle : LL.length ≤ cg := (bview_of_owned C12.own2 HFI.out.1).le
  clear hE hb12 C10
  go_wp2_with fail
  refine hMB.mono ?_
  rintro e w13 ⟨rfl, hrow, hO13⟩
  have C13 := C12.mark (But.ofOnly hO13) hrow
  have hH := held_any (some ⟨gg, 0, none⟩) LL.length cg _ 1 w13 (C13.view hle) (fun _ _ => rfl) (by omega) (by omega)
  clear hMB hrow hO13 C12
  go_wp2_with fail
  refine hH.mono ?_
  rintro e w14 ⟨rfl, hb14⟩
  have C14 := C13.on hb14
  have hnl : ¬ ((1 : Int) + LL.length < 0) := by omega
  have hnq : ((1 : Int) + LL.length != 1 + LL.length) = false := bne_self_eq_false _
  have hT := HTD.out w14 C14.below
  clear hH hb14 C13
  go_wp2_with fail
  refine hT.mono ?_
  rintro e w15 ⟨rfl, hR15, hb15, -⟩
  have C15 := C14.on hb15
  have hv15 := hR15.view
  clear hT hb15 C14 hR15
  obtain ⟨X15, hX15⟩ : ∃ x, Hid (w14.heap.size = x) := ⟨_, rfl⟩
  rw [hX15.out] at hv15 ⊢
  have hG := HIM.out w15 _ _ C15.below hv15
  clear hX15
  go_wp2_with fail
  refine hG.mono ?_
  rintro e w16 ⟨gh, ch, rfl, hOh, hb16⟩
  have C16 := C15.on hb16
  have hE := HEQ.out w16 _ _ gh ch gw cw hOh C16.own
  clear hG hb16 C15 hOh
  go_wp2_with fail
  refine hE.mono ?_
  rintro e w17 ⟨rfl, hb17⟩
  have C17 := C16.on hb17
  have hH := held_any (some ⟨gg, 0, none⟩) LL.length cg _ 1 w17 (C17.view hle) (fun _ _ => rfl) (by omega) (by omega)
  clear hE hb17 C16
  go_wp2_with fail
  refine hH.mono ?_
  rintro e w18 ⟨rfl, hb18⟩
  have HB : Hid (Below w.heap.size w w18) := (C17.on hb18).below
  clear hH hb18 C17 HTD HED HMD HIM HEQ HSP
  go_wp2
  go_ret
  exact ⟨rfl, HB.out⟩
end Go.Proofs.YtjoimkfpenbkmabGreatDoor

/-
  The program's partsBy comes to the plain plan.
-/
namespace Go.Proofs.YtjoimkfpenbkmabGreatDoor
open Go.RowKit
set_option maxRecDepth 4000

set_option maxHeartbeats 4000000 in
theorem partsBy_any (ac : Option Addr) (nc cc : Nat) (col : Nat → PCol) (ap : Option Addr) (n cp : Nat) (l : Nat → PBy) (w : World) (hC : CView w ac nc cc col) (hP : BView w ap n cp l) (hnc : nc ≤ 1048576) (hn : n ≤ 1048576) (hin : ∀ i, i < n → 0 ≤ (l i).col ∧ (l i).col < nc) :
    Calls Tryz.prog 90 #[.slice ac nc cc, .slice ap n cp] w fun e w' => ∃ g c, e = .returned (.slice (some ⟨g, 0, none⟩) n c) ∧ w'.ownsRow w.heap.size 91 4 (.slice (some ⟨g, 0, none⟩) n c) n (rowG (encQ (plF col l)) n) ∧ Below w.heap.size w w' := by
  obtain ⟨i0, hi, hz0, hz1, hz2⟩ := infoPart11
  have hbE : Below w.heap.size w (w.alloc (.cells #[] 91)) := (Below.refl _ _).alloc (Nat.le_refl _) _
  have hO0 := own_nil11 w (plF col l)
  go_enter Tryz.func90, Tryz.ntmps90
  go_wp2
  go_loopg [12, 5] n (fun q i s wr => ∃ k : Nat, k ≤ n ∧ q = n - k ∧ i = .int .i64 k ∧ ∃ g c, s = .slice (some ⟨g, 0, none⟩) k c ∧ wr.ownsRow w.heap.size 91 4 (.slice (some ⟨g, 0, none⟩) k c) k (rowG (encQ (plF col l)) k) ∧ Below w.heap.size w wr)
  case atStart => exact ⟨0, Nat.zero_le _, rfl, rfl, _, _, rfl, hO0, hbE⟩
  case round =>
    clear hO0 hbE
    obtain ⟨k, hk, rfl, rfl, sa, sc, rfl, hO, hB⟩ := hrel
    by_cases hlt : k < n
    · have hkz : (k : Int) < (n : Int) := by omega
      obtain ⟨b1, o1, rfl, hb1, hc1⟩ := (hP.below hB).cells (by omega)
      obtain ⟨x0, x1⟩ := hc1 k hlt
      obtain ⟨j, hj⟩ : ∃ j : Nat, Hid ((l k).col = j) := ⟨((l k).col).toNat, by show _ = _; have := (hin k hlt).1; omega⟩
      have hjn : j < nc := by have := (hin k hlt).2; rw [hj.out] at this; omega
      have hjz : (j : Int) < (nc : Int) := by omega
      obtain ⟨b2, o2, rfl, hb2, hc2⟩ := (hC.below hB).cells (by omega)
      obtain ⟨y0, y1, y2⟩ := hc2 j hjn
      have HN : Hid (rowG (encQ (plF col l)) (k + 1) = rowG (encQ (plF col l)) k ++ [.int .i64 j, .int .i64 (col j).type, .bool (col j).null, .bool (l k).desc]) := by
        show _ = _
        rw [rowG]
        simp [encQ, plF, ptOf, hj.out]
      rw [hj.out] at x0
      obtain ⟨d, hd⟩ : ∃ x, Hid ((l k).desc = x) := ⟨_, rfl⟩
      obtain ⟨s0, hs0⟩ : ∃ x, Hid ((col j).name = x) := ⟨_, rfl⟩
      obtain ⟨t, ht⟩ : ∃ x, Hid ((col j).type = x) := ⟨_, rfl⟩
      obtain ⟨u, hu⟩ : ∃ x, Hid ((col j).null = x) := ⟨_, rfl⟩
      obtain ⟨R, hR⟩ : ∃ x, Hid (rowG (encQ (plF col l)) k = x) := ⟨_, rfl⟩
      rw [hd.out] at x1 HN
      rw [hs0.out] at y0
      rw [ht.out] at y1 HN
      rw [hu.out] at y2 HN
      rw [hR.out] at HN hO
      have hb3 : Below wr.heap.size wr (((wr.alloc (.cells #[.int .i64 j, .bool d] 104)).alloc (.cells #[.string s0, .int .i64 t, .bool u] 102)).alloc (.cells #[.int .i64 j, .int .i64 t, .bool u, .bool d] 91)) := (((Below.refl _ _).alloc (Nat.le_refl _) _).alloc (by simp) _).alloc (by simp; omega) _
      have hO3 := own_belowG hO hb3
      have HB3 : Hid (Below w.heap.size w (((wr.alloc (.cells #[.int .i64 j, .bool d] 104)).alloc (.cells #[.string s0, .int .i64 t, .bool u] 102)).alloc (.cells #[.int .i64 j, .int .i64 t, .bool u, .bool d] 91))) := hB.trans (hb3.mono hB.size)
      have hcl := cells_part11 ((wr.alloc (.cells #[.int .i64 j, .bool d] 104)).alloc (.cells #[.string s0, .int .i64 t, .bool u] 102)) j t u d
      simp only [alloc_size9] at hcl
      have HOW := own_ge9 hO
      have hsz := hB.size
      clear hC hP hin hc1 hc2 hb3 hO
      go_wp2_with (at_builtin; refine wpList_append_own _ rfl (.tmp 21) (.tmp 31) 54 rfl w.heap.size 91 i0 (.agg #[.int .i64 0, .int .i64 0, .bool false, .bool false]) 4 24 Tryz.underlying54 hi hz0 hz1 hz2 rfl (by decide) _ _ _ rfl hO3 ⟨wr.heap.size + 1 + 1, 0, none⟩ 1 1 [.int .i64 j, .int .i64 t, .bool u, .bool d] rfl rfl hcl (one_part11 _ _ _ _) (by unfold maxLen; omega) (by omega) (by simp; omega) ?_)
      intro v5 w4 hown5 hgr hnil
      obtain ⟨g', cap', rfl⟩ := own_succ9 hown5
      have HR : Hid (w4.ownsRow w.heap.size 91 4 (.slice (some ⟨g', 0, none⟩) (k + 1) cap') (k + 1) (rowG (encQ (plF col l)) (k + 1)) ∧ Below w.heap.size w w4) := by
        refine ⟨?_, ?_⟩
        · rw [HN.out]; exact hown5
        · exact HB3.out.grown hgr (by simp; omega) HOW
      clear hown5 hgr hnil hO3 hcl HOW HB3
      go_wp2
      go_roundg (n - (k + 1))
      case measure => omega
      case rel => exact ⟨k + 1, by omega, rfl, by go_num, _, _, rfl, HR.out.1, HR.out.2⟩
    · have hkz : ¬ (k : Int) < (n : Int) := by omega
      obtain rfl : k = n := by omega
      have HR : Hid (wr.ownsRow w.heap.size 91 4 (.slice (some ⟨sa, 0, none⟩) k sc) k (rowG (encQ (plF col l)) k) ∧ Below w.heap.size w wr) := ⟨hO, hB⟩
      clear hC hP hin hO hB
      go_wp2
      go_ret
      exact ⟨_, _, rfl, HR.out.1, HR.out.2⟩
end Go.Proofs.YtjoimkfpenbkmabGreatDoor

/-
  The program's three plans come to the plain ones.
-/
namespace Go.Proofs.YtjoimkfpenbkmabGreatDoor
open Go.RowKit
set_option maxRecDepth 4000

/-- What a table's check comes to, in every world above. -/
abbrev ChkI (w : World) : Prop := ∀ (W : World) (v : Value) (D : PDef), Below w.heap.size w W → DView W v D → DFine D → Calls Tryz.prog 88 #[v] W fun e w' => e = .returned (.int .i64 (checkF D)) ∧ Below W.heap.size W w'

set_option maxHeartbeats 4000000 in
theorem implPrimary_any (v : Value) (D : PDef) (w : World) (h : DView w v D) (hf : DFine D) (hI : ChkI w) :
    Calls Tryz.prog 60 #[v] w (PlanTo w (priN D) (plF D.col D.pri)) := by
  have hv := h
  obtain ⟨ac, cc, ap, cp, ai, ci, rfl, hc, hp, -⟩ := h.is
  clear h
  have hB0 := box4_start w (.cells #[.string D.name, .slice ac D.nc cc, .slice ap D.np cp, .slice ai D.ni ci] 60)
  obtain ⟨hBw0, -⟩ := box4_below hB0
  have hC := hI _ _ D hBw0 (hv.below hBw0) hf
  have HPN : Hid (∀ r, checkF D = r → priN D = if r = 0 then D.np else 0) := fun r e => by rw [← e]; rfl
  have HIN : Hid (checkF D = 0 → ∀ i, i < D.np → 0 ≤ (D.pri i).col ∧ (D.pri i).col < D.nc) := fun e i hi => partsF_in (good_pri e) hi
  have hnc := hf.nc
  have hnp := hf.np
  obtain ⟨r, hr⟩ : ∃ r, Hid (checkF D = r) := ⟨_, rfl⟩
  rw [hr.out] at hC
  clear hI hv hf hBw0
  go_enter Tryz.func60, Tryz.ntmps60
  go_wp2_with fail
  refine hC.mono ?_
  rintro e w1 ⟨rfl, hb1⟩
  have hB1 := box4_on hB0 hb1
  obtain ⟨hBw1, hs1⟩ := box4_below hB1
  obtain ⟨x0, x1, x2, x3⟩ := box4 hB1
  clear hC hb1 hB0
  by_cases hz : r = 0
  · subst hz
    have hP := partsBy_any ac D.nc cc D.col ap D.np cp D.pri w1 (hc.below hBw1) (hp.below hBw1) hnc hnp (HIN.out hr.out)
    have HBw : Hid (Below w.heap.size w w1) := hBw1
    clear hc hp hB1 hBw1 HIN
    go_wp2_with fail
    refine hP.mono ?_
    rintro e w2 ⟨g, c, rfl, hO, hb2⟩
    have HR : Hid (PlanTo w (priN D) (plF D.col D.pri) (.returned (.slice (some ⟨g, 0, none⟩) D.np c)) w2) := by
      show PlanTo _ _ _ _ _
      rw [HPN.out 0 hr.out, if_pos rfl]
      exact PlanTo.low ⟨g, c, rfl, hO, hb2⟩ HBw.out
    clear hP hO hb2
    go_wp2
    go_ret
    exact HR.out
  · have hq : (r != 0) = true := by simpa using hz
    have HR : Hid (PlanTo w (priN D) (plF D.col D.pri) (.returned (.slice (some ⟨w1.heap.size, 0, none⟩) 0 0)) (w1.alloc (.cells #[] 91))) := by
      show PlanTo _ _ _ _ _
      rw [HPN.out r hr.out, if_neg hz]
      exact (PlanTo.nil w1 _).low hBw1
    clear hc hp hB1 hBw1 HIN
    go_wp2
    go_ret
    exact HR.out

set_option maxHeartbeats 4000000 in
theorem implRowPlan_any (v : Value) (D : PDef) (w : World) (h : DView w v D) (hf : DFine D) (hI : ChkI w) :
    Calls Tryz.prog 62 #[v] w (PlanTo w (rowN D) (plF D.col allL)) := by
  obtain ⟨i0, hi, hz0, hz1, hz2⟩ := infoBy11
  have hv := h
  obtain ⟨ac, cc, ap, cp, ai, ci, rfl, hc, hp, -⟩ := h.is
  clear h
  have hB0 := box4_start w (.cells #[.string D.name, .slice ac D.nc cc, .slice ap D.np cp, .slice ai D.ni ci] 60)
  obtain ⟨hBw0, -⟩ := box4_below hB0
  have hC := hI _ _ D hBw0 (hv.below hBw0) hf
  have HPN : Hid (∀ r, checkF D = r → rowN D = if r = 0 then D.nc else 0) := fun r e => by rw [← e]; rfl
  have hnc := hf.nc
  obtain ⟨r, hr⟩ : ∃ r, Hid (checkF D = r) := ⟨_, rfl⟩
  rw [hr.out] at hC
  clear hI hv hf hBw0 hp
  go_enter Tryz.func62, Tryz.ntmps62
  go_wp2_with fail
  refine hC.mono ?_
  rintro e w1 ⟨rfl, hb1⟩
  have hB1 := box4_on hB0 hb1
  obtain ⟨hBw1, hs1⟩ := box4_below hB1
  obtain ⟨x0, x1, x2, x3⟩ := box4 hB1
  clear hC hb1 hB0
  by_cases hz : r = 0
  · subst hz
    have HBw : Hid (Below w.heap.size w w1) := hBw1
    have hO0 : (w1.alloc (.cells #[] 104)).ownsRow w1.heap.size 104 2 (.slice (some ⟨w1.heap.size, 0, none⟩) 0 0) 0 (rowG (encB allL) 0) := by
      have := World.ownsRow_lit (base := w1.heap.size) (e := 104) (size := 2) w1 #[] 0 (Nat.le_refl _) (Nat.zero_le _) rfl
      simpa [rowG] using this
    have hbE : Below w1.heap.size w1 (w1.alloc (.cells #[] 104)) := (Below.refl _ _).alloc (Nat.le_refl _) _
    have hB2 := box4_on hB1 hbE
    obtain ⟨-, z1, -, -⟩ := box4 hB2
    clear hB2
    have HC : Hid (CView w ac D.nc cc D.col) := hc
    clear hc hBw1
    obtain ⟨N, hN⟩ : ∃ x, Hid (D.nc = x) := ⟨_, rfl⟩
    rw [hN.out] at hnc z1 x1
    have HB1 : Hid (Below (w.heap.size + 1) (w.alloc (.cells #[.string D.name, .slice ac N cc, .slice ap D.np cp, .slice ai D.ni ci] 60)) w1) := by
      show Below _ _ _
      rw [← hN.out]; exact hB1
    clear hB1
    go_wp2
    go_loopg [13, 3] N (fun q i s wr => ∃ k : Nat, k ≤ N ∧ q = N - k ∧ i = .int .i64 k ∧ ∃ g c, s = .slice (some ⟨g, 0, none⟩) k c ∧ wr.ownsRow w1.heap.size 104 2 (.slice (some ⟨g, 0, none⟩) k c) k (rowG (encB allL) k) ∧ Below w1.heap.size w1 wr)
    case atStart => exact ⟨0, Nat.zero_le _, rfl, rfl, _, _, rfl, hO0, hbE⟩
    case round =>
      clear hO0 hbE
      obtain ⟨k, hk, rfl, rfl, sa, sc, rfl, hO, hB⟩ := hrel
      by_cases hlt : k < N
      · have hkz : (k : Int) < (N : Int) := by omega
        have HN : Hid (rowG (encB allL) (k + 1) = rowG (encB allL) k ++ [.int .i64 k, .bool false]) := rfl
        obtain ⟨R, hR⟩ : ∃ x, Hid (rowG (encB allL) k = x) := ⟨_, rfl⟩
        rw [hR.out] at HN hO
        have hb3 : Below wr.heap.size wr (wr.alloc (.cells #[.int .i64 k, .bool false] 104)) := (Below.refl _ _).alloc (Nat.le_refl _) _
        have hO3 := own_belowG hO hb3
        have HB3 : Hid (Below w1.heap.size w1 (wr.alloc (.cells #[.int .i64 k, .bool false] 104))) := hB.trans (hb3.mono hB.size)
        have hcl := cells_by9 wr k false
        have HOW := own_ge9 hO
        have hsz := hB.size
        clear hb3 hO hB z1
        go_wp2_with (at_builtin; refine wpList_append_own _ rfl (.tmp 16) (.tmp 19) 57 rfl w1.heap.size 104 i0 (.agg #[.int .i64 0, .bool false]) 2 16 Tryz.underlying57 hi hz0 hz1 hz2 rfl (by decide) _ _ _ rfl hO3 ⟨wr.heap.size, 0, none⟩ 1 1 [.int .i64 k, .bool false] rfl rfl hcl (one_by9 _ _) (by unfold maxLen; omega) (by omega) (by simp; omega) ?_)
        intro v5 w4 hown5 hgr hnil
        obtain ⟨g', cap', rfl⟩ := own_succ9 hown5
        have HR : Hid (w4.ownsRow w1.heap.size 104 2 (.slice (some ⟨g', 0, none⟩) (k + 1) cap') (k + 1) (rowG (encB allL) (k + 1)) ∧ Below w1.heap.size w1 w4) := by
          refine ⟨?_, ?_⟩
          · rw [HN.out]; exact hown5
          · exact HB3.out.grown hgr (by simp; omega) HOW
        clear hown5 hgr hnil hO3 hcl HOW HB3
        go_wp2
        go_roundg (N - (k + 1))
        case measure => omega
        case rel => exact ⟨k + 1, by omega, rfl, by go_num, _, _, rfl, HR.out.1, HR.out.2⟩
      · have hkz : ¬ (k : Int) < (N : Int) := by omega
        obtain rfl : k = N := by omega
        have hB3 := box4_on HB1.out hB
        obtain ⟨-, y1, -, -⟩ := box4 hB3
        have hbw : Below w.heap.size w wr := HBw.out.trans (hB.mono HBw.out.size)
        obtain ⟨a', k', ea, hbv, -⟩ := bview_of_own hO
        cases ea
        have hP := partsBy_any ac k cc D.col (some ⟨sa, 0, none⟩) k sc allL wr (by have := HC.out.below hbw; rw [hN.out] at this; exact this) hbv hnc hnc (fun i hi => by show (0 : Int) ≤ (i : Int) ∧ (i : Int) < (k : Int); omega)
        have HBr : Hid (Below w.heap.size w wr) := hbw
        clear hO hB hB3 hbw hbv z1 HB1
        go_wp2_with fail
        refine hP.mono ?_
        rintro e w2 ⟨g, c, rfl, hO, hb2⟩
        have HR : Hid (PlanTo w (rowN D) (plF D.col allL) (.returned (.slice (some ⟨g, 0, none⟩) k c)) w2) := by
          show PlanTo _ _ _ _ _
          rw [HPN.out 0 hr.out, if_pos rfl, hN.out]
          exact PlanTo.low ⟨g, c, rfl, hO, hb2⟩ HBr.out
        clear hP hO hb2
        go_wp2
        go_ret
        exact HR.out
  · have hq : (r != 0) = true := by simpa using hz
    have HR : Hid (PlanTo w (rowN D) (plF D.col allL) (.returned (.slice (some ⟨w1.heap.size, 0, none⟩) 0 0)) (w1.alloc (.cells #[] 91))) := by
      show PlanTo _ _ _ _ _
      rw [HPN.out r hr.out, if_neg hz]
      exact (PlanTo.nil w1 _).low hBw1
    clear hc hB1 hBw1
    go_wp2
    go_ret
    exact HR.out
end Go.Proofs.YtjoimkfpenbkmabGreatDoor

/-
  The program's plan of an index comes to the plain one.
-/
namespace Go.Proofs.YtjoimkfpenbkmabGreatDoor
open Go.RowKit
set_option maxRecDepth 4000

set_option maxHeartbeats 4000000 in
theorem implIndex_any (v : Value) (D : PDef) (i : Int) (w : World) (h : DView w v D) (hf : DFine D) (hI : ChkI w) :
    Calls Tryz.prog 61 #[v, .int .i64 i] w (PlanTo w (idxN D i) (plF D.col (ixpL D i))) := by
  have hv := h
  obtain ⟨ac, cc, ap, cp, ai, ci, rfl, hc, hp, hx⟩ := h.is
  clear h
  have hB0 := box4_start w (.cells #[.string D.name, .slice ac D.nc cc, .slice ap D.np cp, .slice ai D.ni ci] 60)
  obtain ⟨hBw0, -⟩ := box4_below hB0
  have hC := hI _ _ D hBw0 (hv.below hBw0) hf
  have hnc := hf.nc
  have hnp := hf.np
  have hni := hf.ni
  have HF : Hid (DFine D) := hf
  obtain ⟨r, hr⟩ : ∃ r, Hid (checkF D = r) := ⟨_, rfl⟩
  rw [hr.out] at hC
  clear hI hv hf hBw0
  go_enter Tryz.func61, Tryz.ntmps61
  go_wp2_with fail
  refine hC.mono ?_
  rintro e w1 ⟨rfl, hb1⟩
  have hB1 := box4_on hB0 hb1
  obtain ⟨hBw1, hs1⟩ := box4_below hB1
  obtain ⟨x0, x1, x2, x3⟩ := box4 hB1
  clear hC hb1 hB0
  by_cases hyes : r = 0 ∧ 0 ≤ i ∧ i < D.ni
  · obtain ⟨rfl, hi0, hi1⟩ := hyes
    obtain ⟨j, rfl⟩ : ∃ j : Nat, i = j := ⟨i.toNat, by omega⟩
    have hjn : j < D.ni := by omega
    have hi0' : ¬ (j : Int) < 0 := by omega
    have hi1' : ¬ (j : Int) ≥ (D.ni : Int) := by omega
    have hG := good_idx hr.out hjn
    have hGp := good_pri hr.out
    obtain ⟨bi, oi, rfl, hbi, hci⟩ := (hx.below hBw1).cells (by omega)
    obtain ⟨-, -, a2, c2, y2, hv2⟩ := hci j hjn
    have h2 := partsF_two hG
    have h2p := partsF_two hGp
    obtain ⟨b2, o2, rfl, hb2, -⟩ := hv2.cells (by omega)
    have hp1 := hp.below hBw1
    obtain ⟨bp, op, rfl, hbp, -⟩ := hp1.cells (by omega)
    have HPN : Hid (idxN D j = (D.idx j).n + D.np) := by
      show _ = _
      unfold idxN
      rw [if_pos ⟨hr.out, hi0, hi1⟩]; simp
    have HPL : Hid (ixpL D j = catB (D.idx j).part (D.idx j).n D.pri) := by
      show _ = _
      unfold ixpL; simp
    have hCat := fun (B : Nat) (W : World) (hb : Below w1.heap.size w1 W) (z0 : W.cell? ⟨B, 0, none⟩ = some (.slice (some ⟨b2, o2, none⟩) (D.idx j).n c2)) (z1 : W.cell? ⟨B, 1, none⟩ = some (.slice (some ⟨bp, op, none⟩) D.np cp)) (hB : B < W.heap.size) => concatBy_any B b2 o2 (D.idx j).n c2 bp op D.np cp (D.idx j).part D.pri W z0 z1 hB (hv2.below hb) (hp1.below hb) (by omega) (by omega) hnp
    have hPB := fun (g c : Nat) (W : World) (hb : Below w1.heap.size w1 W) (hq : BView W (some ⟨g, 0, none⟩) ((D.idx j).n + D.np) c (catB (D.idx j).part (D.idx j).n D.pri)) => partsBy_any ac D.nc cc D.col (some ⟨g, 0, none⟩) ((D.idx j).n + D.np) c (catB (D.idx j).part (D.idx j).n D.pri) W ((hc.below hBw1).below hb) hq hnc (by omega) (cat_in (fun i hi => partsF_in hG hi) (fun i hi => partsF_in hGp hi))
    obtain ⟨N2, hN2⟩ : ∃ x, Hid ((D.idx j).n = x) := ⟨_, rfl⟩
    obtain ⟨NP, hNP⟩ : ∃ x, Hid (D.np = x) := ⟨_, rfl⟩
    simp only [hN2.out, hNP.out] at hCat hPB y2 x2
    have HBw : Hid (Below w.heap.size w w1) := hBw1
    clear hc hp hp1 hx hB1 hBw1 hG hGp hv2 hci
    have hjn' : (j : Int) < (D.ni : Int) := by omega
    obtain ⟨X, hX⟩ : ∃ X, Hid (w1.heap.size = X) := ⟨_, rfl⟩
    have HWK : Hid (∀ W, Below w1.heap.size w1 W → W.cell? ⟨w.heap.size, 1, none⟩ = some (.slice ac D.nc cc) ∧ W.cell? ⟨w.heap.size, 2, none⟩ = some (.slice (some ⟨bp, op, none⟩) NP cp) ∧ W.cell? ⟨w.heap.size, 3, none⟩ = some (.slice (some ⟨bi, oi, none⟩) D.ni ci) ∧ W.cell? ⟨bi, oi + j * 3 + 2, none⟩ = some (.slice (some ⟨b2, o2, none⟩) N2 c2)) := by
      intro W hb
      refine ⟨?_, ?_, ?_, ?_⟩
      · rw [hb.cell (by exact hs1)]; assumption
      · rw [hb.cell (by exact hs1)]; assumption
      · rw [hb.cell (by exact hs1)]; assumption
      · rw [hb.cell (by exact hbi)]; assumption
    go_wp2_with fail
    go_region_held3 (fun WW => WW.cell? ⟨w.heap.size, 1, none⟩ = some (.slice ac D.nc cc) ∧ WW.cell? ⟨w.heap.size, 2, none⟩ = some (.slice (some ⟨bp, op, none⟩) NP cp) ∧ WW.cell? ⟨w.heap.size, 3, none⟩ = some (.slice (some ⟨bi, oi, none⟩) D.ni ci) ∧ WW.cell? ⟨bi, oi + j * 3 + 2, none⟩ = some (.slice (some ⟨b2, o2, none⟩) N2 c2)) (first | assumption | go_keep) (first
      | (go_at_call 91; refine (hCat _ _ (by repeat (first | exact Below.refl _ _ | refine Below.drew ?_ | refine Below.alloc ?_ (by simp) _)) (by simp [go_sem]) (by simp [go_sem]) (by simp)).mono ?_; rintro e w5 ⟨g5, c5, rfl, hO5, hB5⟩; have hb5 : Below w1.heap.size w1 w5 := Below.trans (by repeat (first | exact Below.refl _ _ | refine Below.drew ?_ | refine Below.alloc ?_ (by simp) _)) (hB5.mono (by simp)); obtain ⟨q5, k5, hq5, hv5, -⟩ := bview_of_own hO5; cases hq5; have hcells := HWK.out _ hb5)
      | (go_at_call 90; refine (hPB g5 c5 _ (by repeat (first | exact hb5 | refine Below.drew ?_)) (by first | exact hv5 | exact hv5.below (Below.refl _ _).drew)).mono ?_; rintro e w6 ⟨g6, c6, rfl, hO6, hB6⟩; have hb6 : Below w1.heap.size w1 w6 := Below.trans hb5 (Below.trans (by repeat (first | exact Below.refl _ _ | refine Below.drew ?_)) (hB6.mono (by have := hb5.size; exact this))); have hcells6 := HWK.out _ hb6))
    all_goals
      have HR : Hid (PlanTo w (idxN D j) (plF D.col (ixpL D j)) (.returned (.slice (some ⟨g6, 0, none⟩) (N2 + NP) c6)) w6) := by
        show PlanTo _ _ _ _ _
        rw [HPN.out, HPL.out]
        simp only [hN2.out, hNP.out] at hO6 ⊢
        exact PlanTo.low ⟨g6, c6, rfl, own_low hO6 (by have := hb5.size; simpa using this), hb6⟩ HBw.out
      clear hb5 hb6 hB5 hB6 hO5 hO6 hv5 hcells hcells6 hCat hPB HWK
      go_wp2
      go_ret
      exact HR.out
  · have HR : Hid (PlanTo w (idxN D i) (plF D.col (ixpL D i)) (.returned (.slice (some ⟨w1.heap.size, 0, none⟩) 0 0)) (w1.alloc (.cells #[] 91))) := by
      show PlanTo _ _ _ _ _
      have : idxN D i = 0 := by
        unfold idxN
        rw [if_neg (by rw [hr.out]; exact hyes)]
      rw [this]
      exact (PlanTo.nil w1 _).low hBw1
    clear hc hp hx hB1 hBw1
    by_cases hz : r = 0
    · subst hz
      by_cases hi0 : i < 0
      · go_wp2
        go_ret
        exact HR.out
      · have hi1 : i ≥ (D.ni : Int) := by
          by_cases h : i < (D.ni : Int)
          · exact absurd ⟨rfl, by omega, h⟩ hyes
          · omega
        go_wp2
        go_ret
        exact HR.out
    · have hq : (r != 0) = true := by simpa using hz
      go_wp2
      go_ret
      exact HR.out
end Go.Proofs.YtjoimkfpenbkmabGreatDoor

/-
  The program's FirstBad comes to the plain one.
-/
namespace Go.Proofs.YtjoimkfpenbkmabGreatDoor
open Go.RowKit
set_option maxRecDepth 4000

set_option maxHeartbeats 2000000 in
theorem indexStr9 (a : Option Addr) (n cap : Nat) (f : Nat → ByteArray) (x : ByteArray) (w : World) (h : SView w a n cap f) (hn : n ≤ 1048576) :
    Calls Tryz.prog 115 #[.slice a n cap, .string x] w fun e w' => ∃ r : Int, e = .returned (.int .i64 r) ∧ Hid (0 ≤ r ↔ ∃ i, i < n ∧ f i = x) ∧ w' = w := by
  go_enter Tryz.func115, Tryz.ntmps115
  go_wp2
  go_loopg [8] n (fun q i wr => ∃ k : Nat, k ≤ n ∧ q = n - k ∧ i = .int .i64 k ∧ wr = w ∧ Hid (∀ i, i < k → f i ≠ x))
  case atStart => exact ⟨0, Nat.zero_le _, rfl, rfl, rfl, fun i hi => absurd hi (Nat.not_lt_zero _)⟩
  case round =>
    obtain ⟨k, hk, rfl, rfl, rfl, HA⟩ := hrel
    by_cases hlt : k < n
    · have hkz : (k : Int) < (n : Int) := by omega
      obtain ⟨b1, o1, rfl, hb1, hc1⟩ := h.cells (by omega)
      have x0 := hc1 k hlt
      obtain ⟨s0, hs0⟩ : ∃ y, Hid (f k = y) := ⟨_, rfl⟩
      rw [hs0.out] at x0
      clear h hc1
      by_cases he : x = s0
      · have hq := bytes_eq he
        go_wp2
        go_ret
        exact ⟨k, rfl, ⟨fun _ => ⟨k, hlt, hs0.out.trans he.symm⟩, fun _ => by omega⟩, rfl⟩
      · have hq := bytes_ne he
        go_wp2
        go_roundg (n - (k + 1))
        case measure => omega
        case rel => exact ⟨k + 1, by omega, rfl, by go_num, rfl, fun i hi => by
          by_cases e : i < k
          · exact HA.out i e
          · obtain rfl : i = k := by omega
            rw [hs0.out]; exact fun e => he e.symm⟩
    · have hkz : ¬ (k : Int) < (n : Int) := by omega
      clear h
      go_wp2
      go_ret
      exact ⟨-1, rfl, ⟨fun h => by omega, fun ⟨i, hi, e⟩ => absurd e (HA.out i (by omega))⟩, rfl⟩
set_option maxHeartbeats 1000000 in
theorem containsStr9 (a : Option Addr) (n cap : Nat) (f : Nat → ByteArray) (x : ByteArray) (w : World) (h : SView w a n cap f) (hn : n ≤ 1048576) :
    Calls Tryz.prog 89 #[.slice a n cap, .string x] w fun e w' => e = .returned (.bool (decide (∃ i, i < n ∧ f i = x))) ∧ w' = w := by
  have hI := indexStr9 a n cap f x w h hn
  clear h
  go_enter Tryz.func89, Tryz.ntmps89
  go_wp2_with fail
  refine hI.mono ?_
  rintro e w' ⟨r, rfl, HR, rfl⟩
  clear hI
  have HD : Hid (decide (∃ i, i < n ∧ f i = x) = decide (0 ≤ r)) := by show _ = _; rw [decide_eq_decide]; exact HR.out.symm
  go_wp2
  go_ret
  exact ⟨by rw [HD.out]; rfl, rfl⟩

set_option maxHeartbeats 4000000 in
theorem implFirst_any (a : Option Addr) (n cap : Nat) (f : Nat → PDef) (w : World) (h : LView w a n cap f) (hf : LFine n f)
    (hI : ∀ (W : World) (v : Value) (D : PDef), Below w.heap.size w W → DView W v D → DFine D → Calls Tryz.prog 88 #[v] W fun e w' => e = .returned (.int .i64 (checkF D)) ∧ Below W.heap.size W w') :
    Calls Tryz.prog 59 #[.slice a n cap] w fun e w' => e = .returned (.int .i64 (firstF f n)) ∧ Below w.heap.size w w' := by
  obtain ⟨i0, hi, hz0, hz1, hz2⟩ := infoStr
  have hn := hf.few
  have hbE : Below w.heap.size w (w.alloc (.cells #[] 9)) := (Below.refl _ _).alloc (Nat.le_refl _) _
  have hO0 : (w.alloc (.cells #[] 9)).ownsRow w.heap.size 9 1 (.slice (some ⟨w.heap.size, 0, none⟩) 0 0) 0 (rowG (encS (fun i => (f i).name)) 0) := by
    have := World.ownsRow_lit (base := w.heap.size) (e := 9) (size := 1) w #[] 0 (Nat.le_refl _) (Nat.zero_le _) rfl
    simpa [rowG] using this
  go_enter Tryz.func59, Tryz.ntmps59
  go_wp2
  go_loopg [9, 3] n (fun q i s wr => ∃ k : Nat, k ≤ n ∧ q = n - k ∧ i = .int .i64 k ∧ (∃ g c, s = .slice (some ⟨g, 0, none⟩) k c) ∧ wr.ownsRow w.heap.size 9 1 s k (rowG (encS (fun i => (f i).name)) k) ∧ Below w.heap.size w wr ∧ Hid (∀ i, i < k → badF f i = false))
  case atStart => exact ⟨0, Nat.zero_le _, rfl, rfl, ⟨_, _, rfl⟩, hO0, hbE, fun j hj => absurd hj (Nat.not_lt_zero _)⟩
  case round =>
    clear hO0 hbE
    obtain ⟨k, hk, rfl, rfl, ⟨sa, sc, rfl⟩, hO, hB, HA⟩ := hrel
    by_cases hlt : k < n
    · have hkz : (k : Int) < (n : Int) := by omega
      obtain ⟨b1, o1, rfl, hb1, hc1⟩ := (h.below hB).cells (by omega)
      obtain ⟨y1, y2, y3, x0, x1, x2, x3, hv⟩ := hc1 k hlt
      obtain ⟨ac, cc, ap, cp, ai, ci, -, rfl, rfl, rfl, -, -, -⟩ := hv.parts
      obtain ⟨n1, hn1⟩ : ∃ x, Hid ((f k).nc = x) := ⟨_, rfl⟩
      obtain ⟨n2, hn2⟩ : ∃ x, Hid ((f k).np = x) := ⟨_, rfl⟩
      obtain ⟨n3, hn3⟩ : ∃ x, Hid ((f k).ni = x) := ⟨_, rfl⟩
      simp only [hn1.out, hn2.out, hn3.out] at x1 x2 x3 hv
      obtain ⟨p0, hp0⟩ : ∃ x, Hid ((f k).name = x) := ⟨_, rfl⟩
      simp only [hp0.out] at x0 hv
      have hb2 : Below wr.heap.size wr (wr.alloc (.cells #[.string p0, .slice ac n1 cc, .slice ap n2 cp, .slice ai n3 ci] 60)) := (Below.refl _ _).alloc (Nat.le_refl _) _
      have HB2 : Hid (Below w.heap.size w (wr.alloc (.cells #[.string p0, .slice ac n1 cc, .slice ap n2 cp, .slice ai n3 ci] 60))) := hB.trans (hb2.mono hB.size)
      have hsz := hB.size
      by_cases hk3 : k < 3
      · have hk3' : ¬ (3 : Int) ≤ (k : Int) := by omega
        have hC := hI _ _ (f k) HB2.out (hv.below hb2) (hf.at_ k hlt)
        obtain ⟨c, hc⟩ : ∃ c, Hid (checkF (f k) = c) := ⟨_, rfl⟩
        simp only [hc.out] at hC
        have hbx := box4_start wr (.cells #[.string p0, .slice ac n1 cc, .slice ap n2 cp, .slice ai n3 ci] 60)
        clear hI hv hf h hc1
        go_wp2_with fail
        refine hC.mono ?_
        rintro e w2 ⟨rfl, hb3⟩
        have hbx2 := box4_on hbx hb3
        obtain ⟨hbw2, hs2⟩ := box4_below hbx2
        obtain ⟨z0, z1, z2, z3⟩ := box4 hbx2
        have HB3 : Hid (Below w.heap.size w w2) := HB2.out.trans (hb3.mono HB2.out.size)
        have hO2 := own_belowG hO hbw2
        clear hC hb3 hbx hbx2 HB2 hO x0 x1 x2 x3 z1 z2 z3 hb2
        by_cases hcz : c = 0
        · subst hcz
          obtain ⟨a', k', ea, hsv, -⟩ := sview_of_own hO2
          have hCt := containsStr9 (some ⟨sa, 0, none⟩) k sc (fun i => (f i).name) p0 w2 (by cases ea; exact hsv) (by omega)
          cases ea
          clear hsv
          by_cases hin : ∃ i, i < k ∧ (f i).name = p0
          · rw [decide_eq_true hin] at hCt
            have HF : Hid (firstF f n = k) := by
              obtain ⟨i, hi, e⟩ := hin
              exact firstF_hit hlt HA.out (badF_twice hi (by rw [e, hp0.out]))
            clear hin hO2
            go_wp2_with fail
            refine hCt.mono ?_
            rintro e w3 ⟨rfl, rfl⟩
            clear hCt
            go_wp2
            go_ret
            exact ⟨by rw [HF.out]; rfl, HB3.out⟩
          · rw [decide_eq_false hin] at hCt
            have HN2 : Hid (∀ i, i < k + 1 → badF f i = false) := fun i hi => by
              by_cases e : i < k
              · exact HA.out i e
              · obtain rfl : i = k := by omega
                exact badF_no hc.out (by omega) (fun j hj e => hin ⟨j, hj, by rw [e, hp0.out]⟩)
            have HN : Hid (rowG (encS (fun i => (f i).name)) (k + 1) = rowG (encS (fun i => (f i).name)) k ++ [.string p0]) := by show _ = _; rw [← hp0.out]; rfl
            obtain ⟨R, hR⟩ : ∃ x, Hid (rowG (encS (fun i => (f i).name)) k = x) := ⟨_, rfl⟩
            rw [hR.out] at HN hO2
            have hb4 : Below w2.heap.size w2 (w2.alloc (.cells #[.string p0] 9)) := (Below.refl _ _).alloc (Nat.le_refl _) _
            have HB4 : Hid (Below w.heap.size w (w2.alloc (.cells #[.string p0] 9))) := HB3.out.trans (hb4.mono HB3.out.size)
            have hO3 := own_belowG hO2 hb4
            have hcl : ∀ j u, [Value.string p0][j]? = some u → (w2.alloc (.cells #[.string p0] 9)).cell? ((⟨w2.heap.size, 0, none⟩ : Addr).add j) = some u := by
              intro j u hj
              match j, hj with
              | 0, hj => simp at hj; subst hj; simp [Addr.add]
            have HOW := own_ge9 hO2
            have hsz2 := HB3.out.size
            clear hin hO2 hb4
            go_wp2_with fail
            refine hCt.mono ?_
            rintro e w3 ⟨rfl, rfl⟩
            clear hCt
            go_wp2_with (at_builtin; refine wpList_append_own _ rfl (.tmp 28) (.tmp 31) 123 rfl w.heap.size 9 i0 (.string ⟨#[]⟩) 1 16 Tryz.underlying123 hi hz0 hz1 hz2 rfl (by decide) _ _ _ rfl hO3 ⟨w3.heap.size, 0, none⟩ 1 1 [.string p0] rfl rfl hcl (by intro u hu; simp at hu; subst hu; rfl) (by unfold maxLen; omega) (by omega) (by simp; omega) ?_)
            intro v5 w4 hown5 hgr hnil
            obtain ⟨g', cap', rfl⟩ := own_succ9 hown5
            have HR : Hid (w4.ownsRow w.heap.size 9 1 (.slice (some ⟨g', 0, none⟩) (k + 1) cap') (k + 1) (rowG (encS (fun i => (f i).name)) (k + 1)) ∧ Below w.heap.size w w4) := by
              refine ⟨?_, ?_⟩
              · rw [HN.out]; exact hown5
              · exact HB4.out.grown hgr (by simp; omega) HOW
            clear hown5 hgr hnil hO3 hcl HOW
            go_wp2
            go_roundg (n - (k + 1))
            case measure => omega
            case rel => exact ⟨k + 1, by omega, rfl, by go_num, ⟨_, _, rfl⟩, HR.out.1, HR.out.2, HN2⟩
        · have hcz' : (c != 0) = true := by simpa using hcz
          clear hO2
          go_wp2
          go_ret
          exact ⟨by rw [firstF_hit hlt HA.out (badF_check (by rw [hc.out]; exact hcz))]; rfl, HB3.out⟩
      · have hk3' : (3 : Int) ≤ (k : Int) := by omega
        clear hI hv hf h hc1 hO
        go_wp2
        go_ret
        exact ⟨by rw [firstF_hit hlt HA.out (badF_late (by omega))]; rfl, HB2.out⟩
    · have hkz : ¬ (k : Int) < (n : Int) := by omega
      clear h hf hI hO
      go_wp2
      go_ret
      exact ⟨by rw [firstF_no (fun i hi => HA.out i (by omega))]; rfl, hB⟩
end Go.Proofs.YtjoimkfpenbkmabGreatDoor

