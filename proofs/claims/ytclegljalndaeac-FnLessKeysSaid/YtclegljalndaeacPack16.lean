/-
  Together: PartPut, KeyEncSpec, SameB, Big
-/
import Derived.Test.YtclegljalndaeacPack8
import Derived.Test.YtclegljalndaeacPack15
import Derived.Test.YtclegljalndaeacPack12
import Derived.Test.YtclegljalndaeacPack9
import Derived.Test.YtclegljalndaeacPack13
import Derived.Test.YtclegljalndaeacPack1
/-
  The model's PutPart: what was there, and behind it the bytes of what fits, in memory of its own.
-/
namespace Go.Proofs.Ytclegljalndaeac
open Go.RowKit
set_option maxRecDepth 4000

theorem PBox.grown {W W' : World} {B : Nat} {c t : Int} {nul d : Bool} {row : Option Nat} (h : PBox W B c t nul d) (hg : W.grownBy W' row) (hne : row ≠ some B) : PBox W' B c t nul d := h.of_block (hg.block B h.lt hne.symm)

set_option maxHeartbeats 4000000 in
theorem putPart_own (b off n cap : Nat) (f : Nat → Int) (c t : Int) (nul d : Bool) (k x : Int) (s : ByteArray) (w : World) (hv : View w (some ⟨b, off, none⟩) n cap f) (hn : n ≤ 10000000) (hx : -9223372036854775808 ≤ x ∧ x ≤ 9223372036854775807) (hs : s.size ≤ 10000000) :
    Calls Try.prog 43 #[.slice (some ⟨b, off, none⟩) n cap, .agg #[.int .i64 c, .int .i64 t, .bool nul, .bool d], .agg #[.int .i64 k, .int .i64 x, .string s]] w fun e w' => ∃ v, e = .returned v ∧ v ≠ .slice none 0 0 ∧ w'.ownsRow w.heap.size 5 1 v (n + (putPL c t nul d k x s).length) (bl (lof n f ++ putPL c t nul d k x s)) ∧ Below w.heap.size w w' := by
  obtain ⟨i0, hi, hz0, hz1, hz2⟩ := info_parts Try.info5
  have hP := (PBox.new w c t nul d).below ((Below.refl _ _).alloc (Nat.le_refl _) (.cells #[.int .i64 k, .int .i64 x, .string s] 29))
  have hV := Box.new (w.alloc (.cells #[.int .i64 c, .int .i64 t, .bool nul, .bool d] 25)) k x s
  rw [show (w.alloc (.cells #[.int .i64 c, .int .i64 t, .bool nul, .bool d] 25)).heap.size = w.heap.size + 1 by simp] at hV
  have hb0 : Below w.heap.size w ((w.alloc (.cells #[.int .i64 c, .int .i64 t, .bool nul, .bool d] 25)).alloc (.cells #[.int .i64 k, .int .i64 x, .string s] 29)) := ((Below.refl _ _).alloc (Nat.le_refl _) _).alloc (by simp) _
  have hown0 := own_nil ((w.alloc (.cells #[.int .i64 c, .int .i64 t, .bool nul, .bool d] 25)).alloc (.cells #[.int .i64 k, .int .i64 x, .string s] 29)) (w.heap.size + 2) (w.heap.size + 2) (by simp) (Nat.le_refl _)
  have hPA := hP.below ((Below.refl _ _).alloc (Nat.le_refl _) (.cells #[] 5))
  have hVA := hV.below ((Below.refl _ _).alloc (Nat.le_refl _) (.cells #[] 5))
  have hbA := hb0.alloc hb0.size (.cells #[] 5)
  have hcl := cells_of_view (hv.below hbA)
  have HYF : Hid (∀ y ∈ lof n f, 0 ≤ y ∧ y ≤ 255) := lof_byte hv.byte
  clear hP hV hb0 hv
  cases hok : partOk c t with
  | false =>
    have e : putPL c t nul d k x s = [] := by unfold putPL; rw [hok]; rfl
    rw [e, List.append_nil, List.length_nil, Nat.add_zero]
    clear e
    go_enter Try.func43, Try.ntmps43
    go_wp2_with (at_builtin; refine wpList_append_own _ rfl (.tmp 8) (.tmp 9) 22 rfl (w.heap.size + 2) 5 i0 (.int .u8 0) 1 1 Try.underlying22 hi hz0 hz1 hz2 rfl (by decide) (.slice (some ⟨w.heap.size + 2, 0, none⟩) 0 0) 0 [] rfl hown0 ⟨b, off, none⟩ n cap (bl (lof n f)) rfl (by rw [bl_len, lof_len]; omega) hcl (bl_one _) (by unfold maxLen; omega) (by omega) (by simp) ?_; intro v1 w1 hown1 hgr1 hnil1; simp only [Nat.zero_add, List.nil_append] at hown1; have hP1 := hPA.grown hgr1 (by simp only [Value.ownBlock, ne_eq, Option.some.injEq]; omega); have hV1 := hVA.grown hgr1 (by simp only [Value.ownBlock, ne_eq, Option.some.injEq]; omega); have hb1 : Below w.heap.size w w1 := hbA.grown hgr1 hbA.size (fun j hj => by simp only [Value.ownBlock, Option.some.injEq] at hj; omega); have hs1 : w.heap.size + 2 ≤ w1.heap.size := (by have := hgr1.size; simp at this; omega); have hne1 : Hid (v1 ≠ .slice none 0 0) := (fun h => by have := (hnil1.1 h).1; cases this); clear hown0 hcl hgr1 hnil1 hbA hPA hVA; obtain ⟨p0, p1, p2, p3⟩ := hP1.cells)
    clear p0 p1 p2 p3
    refine (specPartOk_any c t nul d w1).mono ?_
    rw [hok]
    rintro e w2 ⟨rfl, hb2⟩
    have hown2 := own_below hown1 hb2
    have hP2 := hP1.below hb2
    have hV2 := hV1.below hb2
    have hs2 : w.heap.size + 2 ≤ w2.heap.size := by have := hb2.size; omega
    have hB2 := hb1.trans (hb2.mono hb1.size)
    clear hown1 hP1 hV1 hb1 hb2
    have HO : Hid _ := own_down hown2 (by omega : w.heap.size ≤ w.heap.size + 2)
    clear hown2 hP2 hV2
    go_wp2
    go_ret
    exact ⟨v1, rfl, hne1.out, HO.out, hB2⟩
  | true =>
    cases hfit : fitsP t nul k x s with
    | false =>
      have e : putPL c t nul d k x s = [] := by unfold putPL; rw [hok, hfit]; rfl
      rw [e, List.append_nil, List.length_nil, Nat.add_zero]
      clear e
      go_enter Try.func43, Try.ntmps43
      go_wp2_with (at_builtin; refine wpList_append_own _ rfl (.tmp 8) (.tmp 9) 22 rfl (w.heap.size + 2) 5 i0 (.int .u8 0) 1 1 Try.underlying22 hi hz0 hz1 hz2 rfl (by decide) (.slice (some ⟨w.heap.size + 2, 0, none⟩) 0 0) 0 [] rfl hown0 ⟨b, off, none⟩ n cap (bl (lof n f)) rfl (by rw [bl_len, lof_len]; omega) hcl (bl_one _) (by unfold maxLen; omega) (by omega) (by simp) ?_; intro v1 w1 hown1 hgr1 hnil1; simp only [Nat.zero_add, List.nil_append] at hown1; have hP1 := hPA.grown hgr1 (by simp only [Value.ownBlock, ne_eq, Option.some.injEq]; omega); have hV1 := hVA.grown hgr1 (by simp only [Value.ownBlock, ne_eq, Option.some.injEq]; omega); have hb1 : Below w.heap.size w w1 := hbA.grown hgr1 hbA.size (fun j hj => by simp only [Value.ownBlock, Option.some.injEq] at hj; omega); have hs1 : w.heap.size + 2 ≤ w1.heap.size := (by have := hgr1.size; simp at this; omega); have hne1 : Hid (v1 ≠ .slice none 0 0) := (fun h => by have := (hnil1.1 h).1; cases this); clear hown0 hcl hgr1 hnil1 hbA hPA hVA; obtain ⟨p0, p1, p2, p3⟩ := hP1.cells)
      clear p0 p1 p2 p3
      refine (specPartOk_any c t nul d w1).mono ?_
      rw [hok]
      rintro e w2 ⟨rfl, hb2⟩
      have hown2 := own_below hown1 hb2
      have hP2 := hP1.below hb2
      have hV2 := hV1.below hb2
      have hs2 : w.heap.size + 2 ≤ w2.heap.size := by have := hb2.size; omega
      have hB2 := hb1.trans (hb2.mono hb1.size)
      clear hown1 hP1 hV1 hb1 hb2
      obtain ⟨p0, p1, p2, p3⟩ := hP2.cells
      obtain ⟨x0, x1, x2⟩ := hV2.cells
      go_wp2_with fail
      clear p0 p1 p2 p3 x0 x1 x2
      refine (specFits_any c t nul d k x s w2 (by omega)).mono ?_
      rw [hfit]
      rintro e w3 ⟨rfl, hb3⟩
      have hown3 := own_below hown2 hb3
      have hP3 := hP2.below hb3
      have hV3 := hV2.below hb3
      have hs3 : w.heap.size + 2 ≤ w3.heap.size := by have := hb3.size; omega
      have hB3 := hB2.trans (hb3.mono hB2.size)
      clear hown2 hP2 hV2 hb3 hB2
      have HO : Hid _ := own_down hown3 (by omega : w.heap.size ≤ w.heap.size + 2)
      clear hown3 hP3 hV3
      go_wp2
      go_ret
      exact ⟨v1, rfl, hne1.out, HO.out, hB3⟩
    | true =>
      have HPL : Hid (putPL c t nul d k x s = turnL d (partL nul k x s)) := by show _ = _; unfold putPL; rw [hok, hfit]; rfl
      have hs30 : s.size ≤ 30 := by unfold fitsP at hfit; simp only [Bool.and_eq_true] at hfit; exact okF_few hfit.1
      have hpl := partL_len nul k x s
      have HYP : Hid (∀ y ∈ lof n f ++ partL nul k x s, 0 ≤ y ∧ y ≤ 255) := List.forall_mem_append.2 ⟨HYF.out, partL_byte nul k x s⟩
      by_cases k0 : k = 0
      · have HP : Hid (partL nul k x s = [0]) := by show _ = _; unfold partL; rw [if_pos k0]
        subst k0
        cases d with
        | false =>
          go_enter Try.func43, Try.ntmps43
          go_wp2_with (at_builtin; refine wpList_append_own _ rfl (.tmp 8) (.tmp 9) 22 rfl (w.heap.size + 2) 5 i0 (.int .u8 0) 1 1 Try.underlying22 hi hz0 hz1 hz2 rfl (by decide) (.slice (some ⟨w.heap.size + 2, 0, none⟩) 0 0) 0 [] rfl hown0 ⟨b, off, none⟩ n cap (bl (lof n f)) rfl (by rw [bl_len, lof_len]; omega) hcl (bl_one _) (by unfold maxLen; omega) (by omega) (by simp) ?_; intro v1 w1 hown1 hgr1 hnil1; simp only [Nat.zero_add, List.nil_append] at hown1; have hP1 := hPA.grown hgr1 (by simp only [Value.ownBlock, ne_eq, Option.some.injEq]; omega); have hV1 := hVA.grown hgr1 (by simp only [Value.ownBlock, ne_eq, Option.some.injEq]; omega); have hb1 : Below w.heap.size w w1 := hbA.grown hgr1 hbA.size (fun j hj => by simp only [Value.ownBlock, Option.some.injEq] at hj; omega); have hs1 : w.heap.size + 2 ≤ w1.heap.size := (by have := hgr1.size; simp at this; omega); have hne1 : Hid (v1 ≠ .slice none 0 0) := (fun h => by have := (hnil1.1 h).1; cases this); clear hown0 hcl hgr1 hnil1 hbA hPA hVA; obtain ⟨p0, p1, p2, p3⟩ := hP1.cells)
          clear p0 p1 p2 p3
          refine (specPartOk_any c t nul false w1).mono ?_
          rw [hok]
          rintro e w2 ⟨rfl, hb2⟩
          have hown2 := own_below hown1 hb2
          have hP2 := hP1.below hb2
          have hV2 := hV1.below hb2
          have hs2 : w.heap.size + 2 ≤ w2.heap.size := by have := hb2.size; omega
          have hB2 := hb1.trans (hb2.mono hb1.size)
          clear hown1 hP1 hV1 hb1 hb2
          obtain ⟨p0, p1, p2, p3⟩ := hP2.cells
          obtain ⟨x0, x1, x2⟩ := hV2.cells
          go_wp2_with fail
          clear p0 p1 p2 p3 x0 x1 x2
          refine (specFits_any c t nul false 0 x s w2 (by omega)).mono ?_
          rw [hfit]
          rintro e w3 ⟨rfl, hb3⟩
          have hown3 := own_below hown2 hb3
          have hP3 := hP2.below hb3
          have hV3 := hV2.below hb3
          have hs3 : w.heap.size + 2 ≤ w3.heap.size := by have := hb3.size; omega
          have hB3 := hB2.trans (hb3.mono hB2.size)
          clear hown2 hP2 hV2 hb3 hB2
          obtain ⟨p0, p1, p2, p3⟩ := hP3.cells
          obtain ⟨x0, x1, x2⟩ := hV3.cells
          go_wp2_with (at_builtin; refine wpList_append_own _ rfl (.tmp 24) (.tmp 25) 22 rfl (w.heap.size + 2) 5 i0 (.int .u8 0) 1 1 Try.underlying22 hi hz0 hz1 hz2 rfl (by decide) v1 _ _ rfl (hown3.alloc _) ⟨w3.heap.size, 0, none⟩ 1 1 [.int .u8 0] rfl rfl (cellNew _ _ _) (bl_one [0]) (by unfold maxLen; omega) (by omega) (by simp; omega) ?_; intro v2 w4 hown4 hgr4 hnil4; have hP4 := (hP3.below ((Below.refl _ _).alloc (Nat.le_refl _) _)).grown hgr4 (fun e => by have := (hown3.lt _ e).1; omega); have hV4 := (hV3.below ((Below.refl _ _).alloc (Nat.le_refl _) _)).grown hgr4 (fun e => by have := (hown3.lt _ e).1; omega); have hB4 : Below w.heap.size w w4 := (hB3.alloc hB3.size _).grown hgr4 (by have := hB3.size; simp; omega) (fun j hj => by have := (hown3.lt j hj).1; omega); have hs4 : w.heap.size + 2 ≤ w4.heap.size := (by have := hgr4.size; simp at this; omega); have hne4 : Hid (v2 ≠ .slice none 0 0) := (fun h => hne1.out ((hnil4.1 h).1)); replace hown4 : w4.ownsRow (w.heap.size + 2) 5 1 v2 (n + 1) (bl (lof n f ++ [0])) := (by rw [bl_append]; exact hown4); clear hgr4 hnil4 hown3 hP3 hV3 hB3 p0 p1 p2 p3 x0 x1 x2; obtain ⟨p0, p1, p2, p3⟩ := hP4.cells; obtain ⟨x0, x1, x2⟩ := hV4.cells)
          replace hown4 : w4.ownsRow (w.heap.size + 2) 5 1 v2 (n + (partL nul 0 x s).length) (bl (lof n f ++ partL nul 0 x s)) := by rw [HP.out]; exact hown4
          have HO : Hid _ := own_down hown4 (by omega : w.heap.size ≤ w.heap.size + 2)
          go_wp2
          go_ret
          refine ⟨v2, rfl, hne4.out, ?_, hB4⟩
          rw [HPL.out]
          exact HO.out
        | true =>
          go_enter Try.func43, Try.ntmps43
          go_wp2_with (at_builtin; refine wpList_append_own _ rfl (.tmp 8) (.tmp 9) 22 rfl (w.heap.size + 2) 5 i0 (.int .u8 0) 1 1 Try.underlying22 hi hz0 hz1 hz2 rfl (by decide) (.slice (some ⟨w.heap.size + 2, 0, none⟩) 0 0) 0 [] rfl hown0 ⟨b, off, none⟩ n cap (bl (lof n f)) rfl (by rw [bl_len, lof_len]; omega) hcl (bl_one _) (by unfold maxLen; omega) (by omega) (by simp) ?_; intro v1 w1 hown1 hgr1 hnil1; simp only [Nat.zero_add, List.nil_append] at hown1; have hP1 := hPA.grown hgr1 (by simp only [Value.ownBlock, ne_eq, Option.some.injEq]; omega); have hV1 := hVA.grown hgr1 (by simp only [Value.ownBlock, ne_eq, Option.some.injEq]; omega); have hb1 : Below w.heap.size w w1 := hbA.grown hgr1 hbA.size (fun j hj => by simp only [Value.ownBlock, Option.some.injEq] at hj; omega); have hs1 : w.heap.size + 2 ≤ w1.heap.size := (by have := hgr1.size; simp at this; omega); have hne1 : Hid (v1 ≠ .slice none 0 0) := (fun h => by have := (hnil1.1 h).1; cases this); clear hown0 hcl hgr1 hnil1 hbA hPA hVA; obtain ⟨p0, p1, p2, p3⟩ := hP1.cells)
          clear p0 p1 p2 p3
          refine (specPartOk_any c t nul true w1).mono ?_
          rw [hok]
          rintro e w2 ⟨rfl, hb2⟩
          have hown2 := own_below hown1 hb2
          have hP2 := hP1.below hb2
          have hV2 := hV1.below hb2
          have hs2 : w.heap.size + 2 ≤ w2.heap.size := by have := hb2.size; omega
          have hB2 := hb1.trans (hb2.mono hb1.size)
          clear hown1 hP1 hV1 hb1 hb2
          obtain ⟨p0, p1, p2, p3⟩ := hP2.cells
          obtain ⟨x0, x1, x2⟩ := hV2.cells
          go_wp2_with fail
          clear p0 p1 p2 p3 x0 x1 x2
          refine (specFits_any c t nul true 0 x s w2 (by omega)).mono ?_
          rw [hfit]
          rintro e w3 ⟨rfl, hb3⟩
          have hown3 := own_below hown2 hb3
          have hP3 := hP2.below hb3
          have hV3 := hV2.below hb3
          have hs3 : w.heap.size + 2 ≤ w3.heap.size := by have := hb3.size; omega
          have hB3 := hB2.trans (hb3.mono hB2.size)
          clear hown2 hP2 hV2 hb3 hB2
          obtain ⟨p0, p1, p2, p3⟩ := hP3.cells
          obtain ⟨x0, x1, x2⟩ := hV3.cells
          go_wp2_with (at_builtin; refine wpList_append_own _ rfl (.tmp 24) (.tmp 25) 22 rfl (w.heap.size + 2) 5 i0 (.int .u8 0) 1 1 Try.underlying22 hi hz0 hz1 hz2 rfl (by decide) v1 _ _ rfl (hown3.alloc _) ⟨w3.heap.size, 0, none⟩ 1 1 [.int .u8 0] rfl rfl (cellNew _ _ _) (bl_one [0]) (by unfold maxLen; omega) (by omega) (by simp; omega) ?_; intro v2 w4 hown4 hgr4 hnil4; have hP4 := (hP3.below ((Below.refl _ _).alloc (Nat.le_refl _) _)).grown hgr4 (fun e => by have := (hown3.lt _ e).1; omega); have hV4 := (hV3.below ((Below.refl _ _).alloc (Nat.le_refl _) _)).grown hgr4 (fun e => by have := (hown3.lt _ e).1; omega); have hB4 : Below w.heap.size w w4 := (hB3.alloc hB3.size _).grown hgr4 (by have := hB3.size; simp; omega) (fun j hj => by have := (hown3.lt j hj).1; omega); have hs4 : w.heap.size + 2 ≤ w4.heap.size := (by have := hgr4.size; simp at this; omega); have hne4 : Hid (v2 ≠ .slice none 0 0) := (fun h => hne1.out ((hnil4.1 h).1)); replace hown4 : w4.ownsRow (w.heap.size + 2) 5 1 v2 (n + 1) (bl (lof n f ++ [0])) := (by rw [bl_append]; exact hown4); clear hgr4 hnil4 hown3 hP3 hV3 hB3 p0 p1 p2 p3 x0 x1 x2; obtain ⟨p0, p1, p2, p3⟩ := hP4.cells; obtain ⟨x0, x1, x2⟩ := hV4.cells)
          replace hown4 : w4.ownsRow (w.heap.size + 2) 5 1 v2 (n + (partL nul 0 x s).length) (bl (lof n f ++ partL nul 0 x s)) := by rw [HP.out]; exact hown4
          go_wp2_with fail
          clear p0 p1 p2 p3
          obtain ⟨g9, c9, rfl, hg9, hrow9⟩ := RowC.ofOwn hown4 hne4.out
          have hrv9 := hrow9.row.view (cap := c9) (by obtain ⟨_, _, _, h3, _, _⟩ := hrow9; exact h3) (fun i hi => HYP.out _ (getD_in (by rw [List.length_append, lof_len]; exact hi)))
          refine (flip_own g9 0 (n + (partL nul 0 x s).length) c9 _ (n : Int) w4 hrv9 (by omega)).mono ?_
          rintro e wz ⟨gz, cz, rfl, hgz, hrz, hbz⟩
          have HO : Hid _ := hrz.own (base := w.heap.size) (by have := hB4.size; omega)
          have HB : Hid (Below w.heap.size w wz) := hB4.trans (hbz.mono hB4.size)
          clear hrz hbz hrv9 hrow9
          go_wp2
          go_ret
          refine ⟨_, rfl, (fun h => by cases h), ?_, HB.out⟩
          have e2 := turn_list n f (partL nul 0 x s)
          have h := HO.out
          rw [e2] at h
          rw [HPL.out]
          have e3 : turnL true (partL nul 0 x s) = (partL nul 0 x s).map (fun y => 255 - y) := rfl
          rw [e3, List.length_map]
          exact h
      · have q0 : (k == 0) = false := by simpa using k0
        cases nul with
        | true =>
          have HP : Hid (partL true k x s = 1 :: valL k x s) := by show _ = _; unfold partL; rw [if_neg k0]; rfl
          have HYB : Hid (∀ y ∈ lof n f ++ [1], 0 ≤ y ∧ y ≤ 255) := List.forall_mem_append.2 ⟨HYF.out, by intro y hy; simp at hy; omega⟩
          clear k0
          cases d with
          | false =>
            go_enter Try.func43, Try.ntmps43
            go_wp2_with (at_builtin; refine wpList_append_own _ rfl (.tmp 8) (.tmp 9) 22 rfl (w.heap.size + 2) 5 i0 (.int .u8 0) 1 1 Try.underlying22 hi hz0 hz1 hz2 rfl (by decide) (.slice (some ⟨w.heap.size + 2, 0, none⟩) 0 0) 0 [] rfl hown0 ⟨b, off, none⟩ n cap (bl (lof n f)) rfl (by rw [bl_len, lof_len]; omega) hcl (bl_one _) (by unfold maxLen; omega) (by omega) (by simp) ?_; intro v1 w1 hown1 hgr1 hnil1; simp only [Nat.zero_add, List.nil_append] at hown1; have hP1 := hPA.grown hgr1 (by simp only [Value.ownBlock, ne_eq, Option.some.injEq]; omega); have hV1 := hVA.grown hgr1 (by simp only [Value.ownBlock, ne_eq, Option.some.injEq]; omega); have hb1 : Below w.heap.size w w1 := hbA.grown hgr1 hbA.size (fun j hj => by simp only [Value.ownBlock, Option.some.injEq] at hj; omega); have hs1 : w.heap.size + 2 ≤ w1.heap.size := (by have := hgr1.size; simp at this; omega); have hne1 : Hid (v1 ≠ .slice none 0 0) := (fun h => by have := (hnil1.1 h).1; cases this); clear hown0 hcl hgr1 hnil1 hbA hPA hVA; obtain ⟨p0, p1, p2, p3⟩ := hP1.cells)
            clear p0 p1 p2 p3
            refine (specPartOk_any c t true false w1).mono ?_
            rw [hok]
            rintro e w2 ⟨rfl, hb2⟩
            have hown2 := own_below hown1 hb2
            have hP2 := hP1.below hb2
            have hV2 := hV1.below hb2
            have hs2 : w.heap.size + 2 ≤ w2.heap.size := by have := hb2.size; omega
            have hB2 := hb1.trans (hb2.mono hb1.size)
            clear hown1 hP1 hV1 hb1 hb2
            obtain ⟨p0, p1, p2, p3⟩ := hP2.cells
            obtain ⟨x0, x1, x2⟩ := hV2.cells
            go_wp2_with fail
            clear p0 p1 p2 p3 x0 x1 x2
            refine (specFits_any c t true false k x s w2 (by omega)).mono ?_
            rw [hfit]
            rintro e w3 ⟨rfl, hb3⟩
            have hown3 := own_below hown2 hb3
            have hP3 := hP2.below hb3
            have hV3 := hV2.below hb3
            have hs3 : w.heap.size + 2 ≤ w3.heap.size := by have := hb3.size; omega
            have hB3 := hB2.trans (hb3.mono hB2.size)
            clear hown2 hP2 hV2 hb3 hB2
            obtain ⟨p0, p1, p2, p3⟩ := hP3.cells
            obtain ⟨x0, x1, x2⟩ := hV3.cells
            go_wp2_with (at_builtin; refine wpList_append_own _ rfl (.tmp 29) (.tmp 30) 22 rfl (w.heap.size + 2) 5 i0 (.int .u8 0) 1 1 Try.underlying22 hi hz0 hz1 hz2 rfl (by decide) v1 _ _ rfl (hown3.alloc _) ⟨w3.heap.size, 0, none⟩ 1 1 [.int .u8 1] rfl rfl (cellNew _ _ _) (bl_one [1]) (by unfold maxLen; omega) (by omega) (by simp; omega) ?_; intro v2 w4 hown4 hgr4 hnil4; have hP4 := (hP3.below ((Below.refl _ _).alloc (Nat.le_refl _) _)).grown hgr4 (fun e => by have := (hown3.lt _ e).1; omega); have hV4 := (hV3.below ((Below.refl _ _).alloc (Nat.le_refl _) _)).grown hgr4 (fun e => by have := (hown3.lt _ e).1; omega); have hB4 : Below w.heap.size w w4 := (hB3.alloc hB3.size _).grown hgr4 (by have := hB3.size; simp; omega) (fun j hj => by have := (hown3.lt j hj).1; omega); have hs4 : w.heap.size + 2 ≤ w4.heap.size := (by have := hgr4.size; simp at this; omega); have hne4 : Hid (v2 ≠ .slice none 0 0) := (fun h => hne1.out ((hnil4.1 h).1)); replace hown4 : w4.ownsRow (w.heap.size + 2) 5 1 v2 (n + 1) (bl (lof n f ++ [1])) := (by rw [bl_append]; exact hown4); clear hgr4 hnil4 hown3 hP3 hV3 hB3 p0 p1 p2 p3 x0 x1 x2; obtain ⟨p0, p1, p2, p3⟩ := hP4.cells; obtain ⟨x0, x1, x2⟩ := hV4.cells)
            clear p0 p1 p2 p3 x0 x1 x2
            obtain ⟨g, cg, rfl, hg, hrow⟩ := RowC.ofOwn hown4 hne4.out
            have hrv := hrow.row.view (cap := cg) (by obtain ⟨_, _, _, h3, _, _⟩ := hrow; exact h3) (fun i hi => HYB.out _ (getD_in (by first | (rw [List.length_append, lof_len]; exact hi) | (rw [lof_len]; exact hi))))
            refine (l5Value_own g 0 (n + 1) cg _ k x s w4 hrv (by omega) hx (by omega)).mono ?_
            rintro e w5 ⟨v5, rfl, hown5, hb5⟩
            have hlof := lof_self (lof n f ++ [1])
            have hown6 : w5.ownsRow w4.heap.size 5 1 v5 (n + (partL true k x s).length) (bl (lof n f ++ partL true k x s)) := by
              rw [HP.out]
              have e1 : lof (n + 1) (fun i => (lof n f ++ [1]).getD i 0) = lof n f ++ [1] := by have := lof_self (lof n f ++ [1]); simpa [lof_len] using this
              rw [e1] at hown5
              simpa [Nat.add_assoc, Nat.add_comm, List.append_assoc] using hown5
            have hne5 : Hid (v5 ≠ .slice none 0 0) := by
              intro h
              subst h
              obtain ⟨h1, h2⟩ := hown6
              have hpl := (partL_len true k x s).1
              rcases h2 with ⟨_, h2⟩ | ⟨_, _, _, h2, _⟩
              · omega
              · cases h2
            have hP5 := hP4.below hb5
            have hB5 := hB4.trans (hb5.mono hB4.size)
            have hown7 := own_down hown6 hs4
            clear hown5 hown6 hb5 hrv hrow hlof
            obtain ⟨p0, p1, p2, p3⟩ := hP5.cells
            have HO : Hid _ := own_down hown7 (by omega : w.heap.size ≤ w.heap.size + 2)
            go_wp2
            go_ret
            refine ⟨v5, rfl, hne5.out, ?_, hB5⟩
            rw [HPL.out]
            exact HO.out
          | true =>
            go_enter Try.func43, Try.ntmps43
            go_wp2_with (at_builtin; refine wpList_append_own _ rfl (.tmp 8) (.tmp 9) 22 rfl (w.heap.size + 2) 5 i0 (.int .u8 0) 1 1 Try.underlying22 hi hz0 hz1 hz2 rfl (by decide) (.slice (some ⟨w.heap.size + 2, 0, none⟩) 0 0) 0 [] rfl hown0 ⟨b, off, none⟩ n cap (bl (lof n f)) rfl (by rw [bl_len, lof_len]; omega) hcl (bl_one _) (by unfold maxLen; omega) (by omega) (by simp) ?_; intro v1 w1 hown1 hgr1 hnil1; simp only [Nat.zero_add, List.nil_append] at hown1; have hP1 := hPA.grown hgr1 (by simp only [Value.ownBlock, ne_eq, Option.some.injEq]; omega); have hV1 := hVA.grown hgr1 (by simp only [Value.ownBlock, ne_eq, Option.some.injEq]; omega); have hb1 : Below w.heap.size w w1 := hbA.grown hgr1 hbA.size (fun j hj => by simp only [Value.ownBlock, Option.some.injEq] at hj; omega); have hs1 : w.heap.size + 2 ≤ w1.heap.size := (by have := hgr1.size; simp at this; omega); have hne1 : Hid (v1 ≠ .slice none 0 0) := (fun h => by have := (hnil1.1 h).1; cases this); clear hown0 hcl hgr1 hnil1 hbA hPA hVA; obtain ⟨p0, p1, p2, p3⟩ := hP1.cells)
            clear p0 p1 p2 p3
            refine (specPartOk_any c t true true w1).mono ?_
            rw [hok]
            rintro e w2 ⟨rfl, hb2⟩
            have hown2 := own_below hown1 hb2
            have hP2 := hP1.below hb2
            have hV2 := hV1.below hb2
            have hs2 : w.heap.size + 2 ≤ w2.heap.size := by have := hb2.size; omega
            have hB2 := hb1.trans (hb2.mono hb1.size)
            clear hown1 hP1 hV1 hb1 hb2
            obtain ⟨p0, p1, p2, p3⟩ := hP2.cells
            obtain ⟨x0, x1, x2⟩ := hV2.cells
            go_wp2_with fail
            clear p0 p1 p2 p3 x0 x1 x2
            refine (specFits_any c t true true k x s w2 (by omega)).mono ?_
            rw [hfit]
            rintro e w3 ⟨rfl, hb3⟩
            have hown3 := own_below hown2 hb3
            have hP3 := hP2.below hb3
            have hV3 := hV2.below hb3
            have hs3 : w.heap.size + 2 ≤ w3.heap.size := by have := hb3.size; omega
            have hB3 := hB2.trans (hb3.mono hB2.size)
            clear hown2 hP2 hV2 hb3 hB2
            obtain ⟨p0, p1, p2, p3⟩ := hP3.cells
            obtain ⟨x0, x1, x2⟩ := hV3.cells
            go_wp2_with (at_builtin; refine wpList_append_own _ rfl (.tmp 29) (.tmp 30) 22 rfl (w.heap.size + 2) 5 i0 (.int .u8 0) 1 1 Try.underlying22 hi hz0 hz1 hz2 rfl (by decide) v1 _ _ rfl (hown3.alloc _) ⟨w3.heap.size, 0, none⟩ 1 1 [.int .u8 1] rfl rfl (cellNew _ _ _) (bl_one [1]) (by unfold maxLen; omega) (by omega) (by simp; omega) ?_; intro v2 w4 hown4 hgr4 hnil4; have hP4 := (hP3.below ((Below.refl _ _).alloc (Nat.le_refl _) _)).grown hgr4 (fun e => by have := (hown3.lt _ e).1; omega); have hV4 := (hV3.below ((Below.refl _ _).alloc (Nat.le_refl _) _)).grown hgr4 (fun e => by have := (hown3.lt _ e).1; omega); have hB4 : Below w.heap.size w w4 := (hB3.alloc hB3.size _).grown hgr4 (by have := hB3.size; simp; omega) (fun j hj => by have := (hown3.lt j hj).1; omega); have hs4 : w.heap.size + 2 ≤ w4.heap.size := (by have := hgr4.size; simp at this; omega); have hne4 : Hid (v2 ≠ .slice none 0 0) := (fun h => hne1.out ((hnil4.1 h).1)); replace hown4 : w4.ownsRow (w.heap.size + 2) 5 1 v2 (n + 1) (bl (lof n f ++ [1])) := (by rw [bl_append]; exact hown4); clear hgr4 hnil4 hown3 hP3 hV3 hB3 p0 p1 p2 p3 x0 x1 x2; obtain ⟨p0, p1, p2, p3⟩ := hP4.cells; obtain ⟨x0, x1, x2⟩ := hV4.cells)
            clear p0 p1 p2 p3 x0 x1 x2
            obtain ⟨g, cg, rfl, hg, hrow⟩ := RowC.ofOwn hown4 hne4.out
            have hrv := hrow.row.view (cap := cg) (by obtain ⟨_, _, _, h3, _, _⟩ := hrow; exact h3) (fun i hi => HYB.out _ (getD_in (by first | (rw [List.length_append, lof_len]; exact hi) | (rw [lof_len]; exact hi))))
            refine (l5Value_own g 0 (n + 1) cg _ k x s w4 hrv (by omega) hx (by omega)).mono ?_
            rintro e w5 ⟨v5, rfl, hown5, hb5⟩
            have hlof := lof_self (lof n f ++ [1])
            have hown6 : w5.ownsRow w4.heap.size 5 1 v5 (n + (partL true k x s).length) (bl (lof n f ++ partL true k x s)) := by
              rw [HP.out]
              have e1 : lof (n + 1) (fun i => (lof n f ++ [1]).getD i 0) = lof n f ++ [1] := by have := lof_self (lof n f ++ [1]); simpa [lof_len] using this
              rw [e1] at hown5
              simpa [Nat.add_assoc, Nat.add_comm, List.append_assoc] using hown5
            have hne5 : Hid (v5 ≠ .slice none 0 0) := by
              intro h
              subst h
              obtain ⟨h1, h2⟩ := hown6
              have hpl := (partL_len true k x s).1
              rcases h2 with ⟨_, h2⟩ | ⟨_, _, _, h2, _⟩
              · omega
              · cases h2
            have hP5 := hP4.below hb5
            have hB5 := hB4.trans (hb5.mono hB4.size)
            have hown7 := own_down hown6 hs4
            clear hown5 hown6 hb5 hrv hrow hlof
            obtain ⟨p0, p1, p2, p3⟩ := hP5.cells
            go_wp2_with fail
            clear p0 p1 p2 p3
            obtain ⟨g9, c9, rfl, hg9, hrow9⟩ := RowC.ofOwn hown7 hne5.out
            have hrv9 := hrow9.row.view (cap := c9) (by obtain ⟨_, _, _, h3, _, _⟩ := hrow9; exact h3) (fun i hi => HYP.out _ (getD_in (by rw [List.length_append, lof_len]; exact hi)))
            refine (flip_own g9 0 (n + (partL true k x s).length) c9 _ (n : Int) w5 hrv9 (by omega)).mono ?_
            rintro e wz ⟨gz, cz, rfl, hgz, hrz, hbz⟩
            have HO : Hid _ := hrz.own (base := w.heap.size) (by have := hB5.size; omega)
            have HB : Hid (Below w.heap.size w wz) := hB5.trans (hbz.mono hB5.size)
            clear hrz hbz hrv9 hrow9
            go_wp2
            go_ret
            refine ⟨_, rfl, (fun h => by cases h), ?_, HB.out⟩
            have e2 := turn_list n f (partL true k x s)
            have h := HO.out
            rw [e2] at h
            rw [HPL.out]
            have e3 : turnL true (partL true k x s) = (partL true k x s).map (fun y => 255 - y) := rfl
            rw [e3, List.length_map]
            exact h
        | false =>
          have HP : Hid (partL false k x s = valL k x s) := by show _ = _; unfold partL; rw [if_neg k0]; rfl
          have HYB : Hid (∀ y ∈ lof n f, 0 ≤ y ∧ y ≤ 255) := HYF.out
          clear k0
          cases d with
          | false =>
            go_enter Try.func43, Try.ntmps43
            go_wp2_with (at_builtin; refine wpList_append_own _ rfl (.tmp 8) (.tmp 9) 22 rfl (w.heap.size + 2) 5 i0 (.int .u8 0) 1 1 Try.underlying22 hi hz0 hz1 hz2 rfl (by decide) (.slice (some ⟨w.heap.size + 2, 0, none⟩) 0 0) 0 [] rfl hown0 ⟨b, off, none⟩ n cap (bl (lof n f)) rfl (by rw [bl_len, lof_len]; omega) hcl (bl_one _) (by unfold maxLen; omega) (by omega) (by simp) ?_; intro v1 w1 hown1 hgr1 hnil1; simp only [Nat.zero_add, List.nil_append] at hown1; have hP1 := hPA.grown hgr1 (by simp only [Value.ownBlock, ne_eq, Option.some.injEq]; omega); have hV1 := hVA.grown hgr1 (by simp only [Value.ownBlock, ne_eq, Option.some.injEq]; omega); have hb1 : Below w.heap.size w w1 := hbA.grown hgr1 hbA.size (fun j hj => by simp only [Value.ownBlock, Option.some.injEq] at hj; omega); have hs1 : w.heap.size + 2 ≤ w1.heap.size := (by have := hgr1.size; simp at this; omega); have hne1 : Hid (v1 ≠ .slice none 0 0) := (fun h => by have := (hnil1.1 h).1; cases this); clear hown0 hcl hgr1 hnil1 hbA hPA hVA; obtain ⟨p0, p1, p2, p3⟩ := hP1.cells)
            clear p0 p1 p2 p3
            refine (specPartOk_any c t false false w1).mono ?_
            rw [hok]
            rintro e w2 ⟨rfl, hb2⟩
            have hown2 := own_below hown1 hb2
            have hP2 := hP1.below hb2
            have hV2 := hV1.below hb2
            have hs2 : w.heap.size + 2 ≤ w2.heap.size := by have := hb2.size; omega
            have hB2 := hb1.trans (hb2.mono hb1.size)
            clear hown1 hP1 hV1 hb1 hb2
            obtain ⟨p0, p1, p2, p3⟩ := hP2.cells
            obtain ⟨x0, x1, x2⟩ := hV2.cells
            go_wp2_with fail
            clear p0 p1 p2 p3 x0 x1 x2
            refine (specFits_any c t false false k x s w2 (by omega)).mono ?_
            rw [hfit]
            rintro e w3 ⟨rfl, hb3⟩
            have hown3 := own_below hown2 hb3
            have hP3 := hP2.below hb3
            have hV3 := hV2.below hb3
            have hs3 : w.heap.size + 2 ≤ w3.heap.size := by have := hb3.size; omega
            have hB3 := hB2.trans (hb3.mono hB2.size)
            clear hown2 hP2 hV2 hb3 hB2
            obtain ⟨p0, p1, p2, p3⟩ := hP3.cells
            obtain ⟨x0, x1, x2⟩ := hV3.cells
            go_wp2_with fail
            clear p0 p1 p2 p3 x0 x1 x2
            obtain ⟨g, cg, rfl, hg, hrow⟩ := RowC.ofOwn hown3 hne1.out
            have hrv := hrow.row.view (cap := cg) (by obtain ⟨_, _, _, h3, _, _⟩ := hrow; exact h3) (fun i hi => HYB.out _ (getD_in (by first | (rw [List.length_append, lof_len]; exact hi) | (rw [lof_len]; exact hi))))
            refine (l5Value_own g 0 (n) cg _ k x s w3 hrv (by omega) hx (by omega)).mono ?_
            rintro e w5 ⟨v5, rfl, hown5, hb5⟩
            have hlof := lof_self (lof n f)
            have hown6 : w5.ownsRow w3.heap.size 5 1 v5 (n + (partL false k x s).length) (bl (lof n f ++ partL false k x s)) := by
              rw [HP.out]
              have e1 : lof (n) (fun i => (lof n f).getD i 0) = lof n f := by have := lof_self (lof n f); simpa [lof_len] using this
              rw [e1] at hown5
              simpa [Nat.add_assoc, Nat.add_comm, List.append_assoc] using hown5
            have hne5 : Hid (v5 ≠ .slice none 0 0) := by
              intro h
              subst h
              obtain ⟨h1, h2⟩ := hown6
              have hpl := (partL_len false k x s).1
              rcases h2 with ⟨_, h2⟩ | ⟨_, _, _, h2, _⟩
              · omega
              · cases h2
            have hP5 := hP3.below hb5
            have hB5 := hB3.trans (hb5.mono hB3.size)
            have hown7 := own_down hown6 hs3
            clear hown5 hown6 hb5 hrv hrow hlof
            obtain ⟨p0, p1, p2, p3⟩ := hP5.cells
            have HO : Hid _ := own_down hown7 (by omega : w.heap.size ≤ w.heap.size + 2)
            go_wp2
            go_ret
            refine ⟨v5, rfl, hne5.out, ?_, hB5⟩
            rw [HPL.out]
            exact HO.out
          | true =>
            go_enter Try.func43, Try.ntmps43
            go_wp2_with (at_builtin; refine wpList_append_own _ rfl (.tmp 8) (.tmp 9) 22 rfl (w.heap.size + 2) 5 i0 (.int .u8 0) 1 1 Try.underlying22 hi hz0 hz1 hz2 rfl (by decide) (.slice (some ⟨w.heap.size + 2, 0, none⟩) 0 0) 0 [] rfl hown0 ⟨b, off, none⟩ n cap (bl (lof n f)) rfl (by rw [bl_len, lof_len]; omega) hcl (bl_one _) (by unfold maxLen; omega) (by omega) (by simp) ?_; intro v1 w1 hown1 hgr1 hnil1; simp only [Nat.zero_add, List.nil_append] at hown1; have hP1 := hPA.grown hgr1 (by simp only [Value.ownBlock, ne_eq, Option.some.injEq]; omega); have hV1 := hVA.grown hgr1 (by simp only [Value.ownBlock, ne_eq, Option.some.injEq]; omega); have hb1 : Below w.heap.size w w1 := hbA.grown hgr1 hbA.size (fun j hj => by simp only [Value.ownBlock, Option.some.injEq] at hj; omega); have hs1 : w.heap.size + 2 ≤ w1.heap.size := (by have := hgr1.size; simp at this; omega); have hne1 : Hid (v1 ≠ .slice none 0 0) := (fun h => by have := (hnil1.1 h).1; cases this); clear hown0 hcl hgr1 hnil1 hbA hPA hVA; obtain ⟨p0, p1, p2, p3⟩ := hP1.cells)
            clear p0 p1 p2 p3
            refine (specPartOk_any c t false true w1).mono ?_
            rw [hok]
            rintro e w2 ⟨rfl, hb2⟩
            have hown2 := own_below hown1 hb2
            have hP2 := hP1.below hb2
            have hV2 := hV1.below hb2
            have hs2 : w.heap.size + 2 ≤ w2.heap.size := by have := hb2.size; omega
            have hB2 := hb1.trans (hb2.mono hb1.size)
            clear hown1 hP1 hV1 hb1 hb2
            obtain ⟨p0, p1, p2, p3⟩ := hP2.cells
            obtain ⟨x0, x1, x2⟩ := hV2.cells
            go_wp2_with fail
            clear p0 p1 p2 p3 x0 x1 x2
            refine (specFits_any c t false true k x s w2 (by omega)).mono ?_
            rw [hfit]
            rintro e w3 ⟨rfl, hb3⟩
            have hown3 := own_below hown2 hb3
            have hP3 := hP2.below hb3
            have hV3 := hV2.below hb3
            have hs3 : w.heap.size + 2 ≤ w3.heap.size := by have := hb3.size; omega
            have hB3 := hB2.trans (hb3.mono hB2.size)
            clear hown2 hP2 hV2 hb3 hB2
            obtain ⟨p0, p1, p2, p3⟩ := hP3.cells
            obtain ⟨x0, x1, x2⟩ := hV3.cells
            go_wp2_with fail
            clear p0 p1 p2 p3 x0 x1 x2
            obtain ⟨g, cg, rfl, hg, hrow⟩ := RowC.ofOwn hown3 hne1.out
            have hrv := hrow.row.view (cap := cg) (by obtain ⟨_, _, _, h3, _, _⟩ := hrow; exact h3) (fun i hi => HYB.out _ (getD_in (by first | (rw [List.length_append, lof_len]; exact hi) | (rw [lof_len]; exact hi))))
            refine (l5Value_own g 0 (n) cg _ k x s w3 hrv (by omega) hx (by omega)).mono ?_
            rintro e w5 ⟨v5, rfl, hown5, hb5⟩
            have hlof := lof_self (lof n f)
            have hown6 : w5.ownsRow w3.heap.size 5 1 v5 (n + (partL false k x s).length) (bl (lof n f ++ partL false k x s)) := by
              rw [HP.out]
              have e1 : lof (n) (fun i => (lof n f).getD i 0) = lof n f := by have := lof_self (lof n f); simpa [lof_len] using this
              rw [e1] at hown5
              simpa [Nat.add_assoc, Nat.add_comm, List.append_assoc] using hown5
            have hne5 : Hid (v5 ≠ .slice none 0 0) := by
              intro h
              subst h
              obtain ⟨h1, h2⟩ := hown6
              have hpl := (partL_len false k x s).1
              rcases h2 with ⟨_, h2⟩ | ⟨_, _, _, h2, _⟩
              · omega
              · cases h2
            have hP5 := hP3.below hb5
            have hB5 := hB3.trans (hb5.mono hB3.size)
            have hown7 := own_down hown6 hs3
            clear hown5 hown6 hb5 hrv hrow hlof
            obtain ⟨p0, p1, p2, p3⟩ := hP5.cells
            go_wp2_with fail
            clear p0 p1 p2 p3
            obtain ⟨g9, c9, rfl, hg9, hrow9⟩ := RowC.ofOwn hown7 hne5.out
            have hrv9 := hrow9.row.view (cap := c9) (by obtain ⟨_, _, _, h3, _, _⟩ := hrow9; exact h3) (fun i hi => HYP.out _ (getD_in (by rw [List.length_append, lof_len]; exact hi)))
            refine (flip_own g9 0 (n + (partL false k x s).length) c9 _ (n : Int) w5 hrv9 (by omega)).mono ?_
            rintro e wz ⟨gz, cz, rfl, hgz, hrz, hbz⟩
            have HO : Hid _ := hrz.own (base := w.heap.size) (by have := hB5.size; omega)
            have HB : Hid (Below w.heap.size w wz) := hB5.trans (hbz.mono hB5.size)
            clear hrz hbz hrv9 hrow9
            go_wp2
            go_ret
            refine ⟨_, rfl, (fun h => by cases h), ?_, HB.out⟩
            have e2 := turn_list n f (partL false k x s)
            have h := HO.out
            rw [e2] at h
            rw [HPL.out]
            have e3 : turnL true (partL false k x s) = (partL false k x s).map (fun y => 255 - y) := rfl
            rw [e3, List.length_map]
            exact h
end Go.Proofs.Ytclegljalndaeac

/-
  The model's EncodeKey: the bytes of a key, in memory of its own.
-/
namespace Go.Proofs.Ytclegljalndaeac
open Go.RowKit
set_option maxRecDepth 4000

theorem okF_bd {k n : Int} {s : ByteArray} (h : okF k n s = true) : -9223372036854775808 ≤ n ∧ n ≤ 9223372036854775807 := by
  by_cases h0 : k = 0
  · subst h0; rw [okF_spec0] at h; simp at h; omega
  by_cases h1 : k = 1
  · subst h1; rw [okF_spec1] at h; simp at h; omega
  by_cases h2 : k = 2
  · subst h2; rw [okF_spec2] at h; simp at h; omega
  by_cases h3 : k = 3
  · subst h3; rw [okF_spec3] at h; simp at h; omega
  by_cases h4 : k = 4
  · subst h4; rw [okF_spec4] at h; simp at h; omega
  · rw [okF_specX n s h0 h1 h2 h3 h4] at h; cases h

set_option linter.unusedSimpArgs false in
set_option maxHeartbeats 4000000 in
theorem specEncodeKey_any (a : Option Addr) (n cap : Nat) (fc ft : Nat → Int) (fu fd : Nat → Bool) (a2 : Option Addr) (m cap2 : Nat) (fk fn : Nat → Int) (fs : Nat → ByteArray) (w : World) (h : PView w a n cap fc ft fu fd) (h2 : VView w a2 m cap2 fk fn fs) (hn : n ≤ 1048576) (hm : m ≤ 1048576) (hs : ∀ i, i < m → (fs i).size ≤ 1048576) :
    Calls Try.prog 39 #[.slice a n cap, .slice a2 m cap2] w fun e w' => ∃ g cg, e = .returned (.slice (some ⟨g, 0, none⟩) (keyL n fc ft fu fd m fk fn fs).length cg) ∧ EncTo w w' g cg (keyL n fc ft fu fd m fk fn fs) := by
  have hR0 : EncTo w (w.alloc (.cells #[] 5)) w.heap.size 0 [] := ⟨Row.none w _ _, Nat.le_refl _, Nat.le_refl _, (Below.refl _ _).alloc (Nat.le_refl _) _⟩
  cases hpk : planOk n fc ft with
  | false =>
    have e : keyL n fc ft fu fd m fk fn fs = [] := by unfold keyL; rw [hpk]; rfl
    rw [e]
    clear e
    go_enter Try.func39, Try.ntmps39
    go_wp2_with fail
    refine (specPlanOk_any a n cap fc ft fu fd _ (h.below hR0.below) hn).mono ?_
    rw [hpk]
    rintro e w1 ⟨rfl, hb⟩
    have hR1 : EncTo w w1 w.heap.size 0 [] := ⟨hR0.row.belowAll hb, hR0.new, hR0.le, hR0.below.trans (hb.mono hR0.below.size)⟩
    clear hR0 hb
    go_wp2
    go_ret
    exact ⟨_, _, rfl, hR1⟩
  | true =>
    cases hft : fitsAll n m ft fu fk fn fs with
    | false =>
      have e : keyL n fc ft fu fd m fk fn fs = [] := by unfold keyL; rw [hpk, hft]; rfl
      rw [e]
      clear e
      go_enter Try.func39, Try.ntmps39
      go_wp2_with fail
      refine (specPlanOk_any a n cap fc ft fu fd _ (h.below hR0.below) hn).mono ?_
      rw [hpk]
      rintro e w1 ⟨rfl, hb⟩
      have hR1 : EncTo w w1 w.heap.size 0 [] := ⟨hR0.row.belowAll hb, hR0.new, hR0.le, hR0.below.trans (hb.mono hR0.below.size)⟩
      clear hR0 hb
      go_wp2_with fail
      refine (specFitsAll_any a n cap fc ft fu fd a2 m cap2 fk fn fs _ (h.below hR1.below) (h2.below hR1.below) hn hm hs).mono ?_
      rw [hft]
      rintro e w2 ⟨rfl, hb⟩
      have hR2 : EncTo w w2 w.heap.size 0 [] := ⟨hR1.row.belowAll hb, hR1.new, hR1.le, hR1.below.trans (hb.mono hR1.below.size)⟩
      clear hR1 hb
      go_wp2
      go_ret
      exact ⟨_, _, rfl, hR2⟩
    | true =>
      have HK : Hid (keyL n fc ft fu fd m fk fn fs = keyT (onePL fc ft fu fd fk fn fs) m) := by show _ = _; unfold keyL; rw [hpk, hft]; rfl
      rw [HK.out]
      have hP := (planOk_iff.1 hpk).1
      have hn6 := (planOk_iff.1 hpk).2
      have hF := (fitsAll_iff.1 hft).2
      have hmn := (fitsAll_iff.1 hft).1
      go_enter Try.func39, Try.ntmps39
      go_wp2_with fail
      refine (specPlanOk_any a n cap fc ft fu fd _ (h.below hR0.below) hn).mono ?_
      rw [hpk]
      rintro e w1 ⟨rfl, hb⟩
      have hR1 : EncTo w w1 w.heap.size 0 [] := ⟨hR0.row.belowAll hb, hR0.new, hR0.le, hR0.below.trans (hb.mono hR0.below.size)⟩
      clear hR0 hb
      go_wp2_with fail
      refine (specFitsAll_any a n cap fc ft fu fd a2 m cap2 fk fn fs _ (h.below hR1.below) (h2.below hR1.below) hn hm hs).mono ?_
      rw [hft]
      rintro e w2 ⟨rfl, hb⟩
      have hR2 : EncTo w w2 w.heap.size 0 [] := ⟨hR1.row.belowAll hb, hR1.new, hR1.le, hR1.below.trans (hb.mono hR1.below.size)⟩
      have HP : Hid (∀ i, i < n → partOk (fc i) (ft i) = true) := hP
      have HF : Hid (∀ i, i < m → fitsP (ft i) (fu i) (fk i) (fn i) (fs i) = true) := hF
      clear hR1 hb hP hF hpk hft hs
      go_wp2
      go_loopg [5, 6] m (fun q bv i wr => ∃ (k g cg : Nat), k ≤ m ∧ q = m - k ∧ bv = .slice (some ⟨g, 0, none⟩) (keyT (onePL fc ft fu fd fk fn fs) k).length cg ∧ i = .int .i64 k ∧ EncTo w wr g cg (keyT (onePL fc ft fu fd fk fn fs) k))
      case atStart => exact ⟨0, w.heap.size, 0, Nat.zero_le _, rfl, rfl, rfl, hR2⟩
      case round =>
        obtain ⟨k, g, cg, hk, rfl, rfl, rfl, hE⟩ := hrel
        have hB := hE.below
        by_cases hlt : k < m
        · obtain ⟨b1, o1, rfl, hb1, hd1⟩ := (h.below hB).cells (by omega)
          obtain ⟨b2, o2, rfl, hb2, hd2⟩ := (h2.below hB).cells (by omega)
          obtain ⟨x0, x1, x2, x3⟩ := hd1 k (by omega)
          obtain ⟨y0, y1, y2⟩ := hd2 k hlt
          have hkz : (k : Int) < (m : Int) := by omega
          have hkn : (k : Int) < (n : Int) := by omega
          have hfk := HF.out k hlt
          have hlen := keyT_len (g := onePL fc ft fu fd fk fn fs) (k := k) (fun i hi => onePL_len fc fd (HF.out i (by omega)))
          have hs30 : (fs k).size ≤ 30 := by unfold fitsP at hfk; simp only [Bool.and_eq_true] at hfk; exact okF_few hfk.1
          have hx9 : -9223372036854775808 ≤ fn k ∧ fn k ≤ 9223372036854775807 := by unfold fitsP at hfk; simp only [Bool.and_eq_true] at hfk; exact okF_bd hfk.1
          have HYB : Hid (∀ y ∈ keyT (onePL fc ft fu fd fk fn fs) k, 0 ≤ y ∧ y ≤ 255) := keyT_byte (fun i _ => putPL_byte _ _ _ _ _ _ _)
          have HO : Hid (onePL fc ft fu fd fk fn fs k = putPL (fc k) (ft k) (fu k) (fd k) (fk k) (fn k) (fs k)) := rfl
          have HS : Hid (keyT (onePL fc ft fu fd fk fn fs) (k + 1) = keyT (onePL fc ft fu fd fk fn fs) k ++ onePL fc ft fu fd fk fn fs k) := rfl
          obtain ⟨L, hL⟩ : ∃ L, Hid (keyT (onePL fc ft fu fd fk fn fs) k = L) := ⟨_, rfl⟩
          obtain ⟨L2, hL2⟩ : ∃ L2, Hid (onePL fc ft fu fd fk fn fs k = L2) := ⟨_, rfl⟩
          rw [hL.out] at hE hlen HYB HS ⊢
          rw [hL2.out] at HO HS
          have hF := fun W (hr : Row 5 W g L.length (fun i => L.getD i 0)) => putPart_own g 0 L.length cg (fun i => L.getD i 0) (fc k) (ft k) (fu k) (fd k) (fk k) (fn k) (fs k) W (hr.view hE.le (fun i hi => HYB.out _ (getD_in hi))) (by omega) hx9 (by omega)
          rw [← HO.out, lof_self] at hF
          clear hd1 hd2 h h2 hfk HO
          obtain ⟨p0, hp0⟩ : ∃ p, Hid (fc k = p) := ⟨_, rfl⟩
          obtain ⟨p1, hp1⟩ : ∃ p, Hid (ft k = p) := ⟨_, rfl⟩
          obtain ⟨p2, hp2⟩ : ∃ p, Hid (fu k = p) := ⟨_, rfl⟩
          obtain ⟨p3, hp3⟩ : ∃ p, Hid (fd k = p) := ⟨_, rfl⟩
          obtain ⟨q0, hq0⟩ : ∃ p, Hid (fk k = p) := ⟨_, rfl⟩
          obtain ⟨q1, hq1⟩ : ∃ p, Hid (fn k = p) := ⟨_, rfl⟩
          obtain ⟨q2, hq2⟩ : ∃ p, Hid (fs k = p) := ⟨_, rfl⟩
          rw [hp0.out] at x0 hF
          rw [hp1.out] at x1 hF
          rw [hp2.out] at x2 hF
          rw [hp3.out] at x3 hF
          rw [hq0.out] at y0 hF
          rw [hq1.out] at y1 hF hx9
          rw [hq2.out] at y2 hF hs30
          have hrow := hE.row
          have hBw : Below wr.heap.size wr wr.drew := (Below.refl _ _).drew
          go_wp2_with fail
          refine wp_region_held_drew (S := fun W => (W.cell? ⟨b1, o1 + k * 4, none⟩ = some (.int .i64 p0) ∧ W.cell? ⟨b1, o1 + k * 4 + 1, none⟩ = some (.int .i64 p1) ∧ W.cell? ⟨b1, o1 + k * 4 + 2, none⟩ = some (.bool p2) ∧ W.cell? ⟨b1, o1 + k * 4 + 3, none⟩ = some (.bool p3)) ∧ (W.cell? ⟨b2, o2 + k * 3, none⟩ = some (.int .i64 q0) ∧ W.cell? ⟨b2, o2 + k * 3 + 1, none⟩ = some (.int .i64 q1) ∧ W.cell? ⟨b2, o2 + k * 3 + 2, none⟩ = some (.string q2))) (by kernel_rfl) (⟨⟨x0, x1, x2, x3⟩, y0, y1, y2⟩) (fun hHeld => ?_)
          refine' wpAnyH_take (i := 0) (v := _) rfl (by kernel_rfl) (by kernel_rfl) (by kernel_rfl) (fun _ _ _ h => h) (Or.inl ⟨by kernel_rfl, ?ha0⟩) (by assumption) ?ra0
          case ha0 => intro W hW; obtain ⟨⟨d0, d1, d2, d3⟩, g0, g1, g2⟩ := hW; go_simp; all_goals with_reducible rfl
          change wpAnyH _ _ _ _ _ _ _ (Act.put _ (some 24) _) _
          simp only [Act.put, List.setIfInBounds_toArray, List.set_cons_zero, List.set_cons_succ]
          refine' wpAnyH_take (i := 1) (v := _) rfl (by kernel_rfl) (by kernel_rfl) (by kernel_rfl) (fun _ _ _ h => h) (Or.inl ⟨by kernel_rfl, ?ha1⟩) (by assumption) ?ra1
          case ha1 => intro W hW; obtain ⟨⟨d0, d1, d2, d3⟩, g0, g1, g2⟩ := hW; go_simp; all_goals with_reducible rfl
          change wpAnyH _ _ _ _ _ _ _ (Act.put _ (some 25) _) _
          simp only [Act.put, List.setIfInBounds_toArray, List.set_cons_zero, List.set_cons_succ]
          refine' wpAnyH_take (i := 2) (v := _) rfl (by kernel_rfl) (by kernel_rfl) (by kernel_rfl) (fun _ _ _ h => h) (Or.inl ⟨by kernel_rfl, ?ha2⟩) (by assumption) ?ra2
          case ha2 => intro W hW; obtain ⟨⟨d0, d1, d2, d3⟩, g0, g1, g2⟩ := hW; go_simp; all_goals with_reducible rfl
          change wpAnyH _ _ _ _ _ _ _ (Act.put _ (some 26) _) _
          simp only [Act.put, List.setIfInBounds_toArray, List.set_cons_zero, List.set_cons_succ]
          refine' wpAnyH_take (i := 3) (v := _) rfl (by kernel_rfl) (by kernel_rfl) (by kernel_rfl) (fun _ _ _ h => h) (Or.inl ⟨by kernel_rfl, ?ha3⟩) (by assumption) ?ra3
          case ha3 => intro W hW; obtain ⟨⟨d0, d1, d2, d3⟩, g0, g1, g2⟩ := hW; go_simp; all_goals with_reducible rfl
          change wpAnyH _ _ _ _ _ _ _ (Act.put _ (some 27) _) _
          simp only [Act.put, List.setIfInBounds_toArray, List.set_cons_zero, List.set_cons_succ]
          refine' wpAnyH_take (i := 4) (v := _) rfl (by kernel_rfl) (by kernel_rfl) (by kernel_rfl) (fun _ _ _ h => h) (Or.inl ⟨by kernel_rfl, ?ha4⟩) (by assumption) ?ra4
          case ha4 => intro W hW; obtain ⟨⟨d0, d1, d2, d3⟩, g0, g1, g2⟩ := hW; go_simp; all_goals with_reducible rfl
          change wpAnyH _ _ _ _ _ _ _ (Act.put _ (some 28) _) _
          simp only [Act.put, List.setIfInBounds_toArray, List.set_cons_zero, List.set_cons_succ]
          refine' wpAnyH_take (i := 5) (v := _) rfl (by kernel_rfl) (by kernel_rfl) (by kernel_rfl) (fun _ _ _ h => h) (Or.inl ⟨by kernel_rfl, ?ha5⟩) (by assumption) ?ra5
          case ha5 => intro W hW; obtain ⟨⟨d0, d1, d2, d3⟩, g0, g1, g2⟩ := hW; go_simp; all_goals with_reducible rfl
          change wpAnyH _ _ _ _ _ _ _ (Act.put _ (some 29) _) _
          simp only [Act.put, List.setIfInBounds_toArray, List.set_cons_zero, List.set_cons_succ]
          refine' wpAnyH_take (i := 6) (v := _) rfl (by kernel_rfl) (by kernel_rfl) (by kernel_rfl) (fun _ _ _ h => h) (Or.inl ⟨by kernel_rfl, ?ha6⟩) (by assumption) ?ra6
          case ha6 => intro W hW; obtain ⟨⟨d0, d1, d2, d3⟩, g0, g1, g2⟩ := hW; go_simp; all_goals with_reducible rfl
          change wpAnyH _ _ _ _ _ _ _ (Act.put _ (some 30) _) _
          simp only [Act.put, List.setIfInBounds_toArray, List.set_cons_zero, List.set_cons_succ]
          refine' wpAnyH_take (i := 7) (v := _) rfl (by kernel_rfl) (by kernel_rfl) (by kernel_rfl) (fun _ _ _ h => h) (Or.inl ⟨by kernel_rfl, ?ha7⟩) (by assumption) ?ra7
          case ha7 => intro W hW; obtain ⟨⟨d0, d1, d2, d3⟩, g0, g1, g2⟩ := hW; go_simp; all_goals with_reducible rfl
          change wpAnyH _ _ _ _ _ _ _ (Act.put _ (some 31) _) _
          simp only [Act.put, List.setIfInBounds_toArray, List.set_cons_zero, List.set_cons_succ]
          refine' wpAnyH_take (i := 8) (v := _) rfl (by kernel_rfl) (by kernel_rfl) (by kernel_rfl) (fun _ _ _ h => h) (Or.inl ⟨by kernel_rfl, ?ha8⟩) (by assumption) ?ra8
          case ha8 => intro W hW; obtain ⟨⟨d0, d1, d2, d3⟩, g0, g1, g2⟩ := hW; go_simp; all_goals with_reducible rfl
          change wpAnyH _ _ _ _ _ _ _ (Act.put _ (some 32) _) _
          simp only [Act.put, List.setIfInBounds_toArray, List.set_cons_zero, List.set_cons_succ]
          refine wpAnyH_ready (rs := [9]) (by kernel_rfl) (by simp) ?_
          refine AllReadyH.cons rfl (fun KK hK => ?_) AllReadyH.nil
          go_simp
          refine (hF _ (hrow.belowAll hBw)).mono ?_
          rintro e w3 ⟨v3, rfl, hne3, hown3, hB2⟩
          go_wp2_with fail
          refine hK.out _ _ ⟨⟨by rw [hB2.cell hb1]; exact x0, by rw [hB2.cell hb1]; exact x1, by rw [hB2.cell hb1]; exact x2, by rw [hB2.cell hb1]; exact x3⟩, by rw [hB2.cell hb2]; exact y0, by rw [hB2.cell hb2]; exact y1, by rw [hB2.cell hb2]; exact y2⟩ (fun hHeld => ?_)
          clear hK KK
          try simp only [Act.put, List.setIfInBounds_toArray, List.set_cons_zero, List.set_cons_succ]
          obtain ⟨g3, c3, rfl, hg3, hc3, hr3⟩ := row_of_own' hown3 hne3
          refine' wpAnyH_take (i := 10) (v := _) rfl (by kernel_rfl) (by kernel_rfl) (by kernel_rfl) (fun _ _ _ h => h) (Or.inl ⟨by kernel_rfl, ?ha10⟩) (by assumption) ?ra10
          case ha10 => intro W hW; obtain ⟨⟨d0, d1, d2, d3⟩, g0, g1, g2⟩ := hW; go_simp; all_goals with_reducible rfl
          change wpAnyH _ _ _ _ _ _ _ (Act.put _ (some 5) _) _
          simp only [Act.put, List.setIfInBounds_toArray, List.set_cons_zero, List.set_cons_succ]
          refine wpAnyH_done (by kernel_rfl) ?_ _
          have hE3 : EncTo w w3 g3 c3 (keyT (onePL fc ft fu fd fk fn fs) (k + 1)) := by
            rw [HS.out]
            refine ⟨?_, Nat.le_trans hB.size (Nat.le_trans hBw.size hg3), ?_, hB.trans ((hBw.trans (hB2.mono hBw.size)).mono hB.size)⟩
            · rw [List.length_append]; exact hr3
            · rw [List.length_append]; exact hc3
          have hLe : Hid ((keyT (onePL fc ft fu fd fk fn fs) (k + 1)).length = L.length + L2.length) := by show _ = _; rw [HS.out, List.length_append]
          clear hHeld x0 x1 x2 x3 y0 y1 y2 hF hown3 hne3 hr3 hc3 hE hrow HYB
          go_wp2
          go_roundg (m - (k + 1))
          case measure => omega
          case rel => exact ⟨k + 1, g3, c3, by omega, rfl, by rw [hLe.out], by go_num, hE3⟩
        · have hkz : ¬ (k : Int) < (m : Int) := by omega
          obtain rfl : k = m := by omega
          clear HP HF
          go_wp2
          go_ret
          exact ⟨_, _, rfl, hE⟩
end Go.Proofs.Ytclegljalndaeac

/-
  What the law's own helpers sameBytes and begins come to, at every two slices of bytes that read.
-/
namespace Go.Proofs.Ytclegljalndaeac
open Go.RowKit
set_option maxRecDepth 4000

theorem lof_eq {n : Nat} {f g : Nat → Int} : lof n f = lof n g ↔ ∀ i, i < n → f i = g i := by
  constructor
  · intro h i hi
    rw [← lof_get n f i hi, ← lof_get n g i hi, h]
  · intro h
    unfold lof
    apply List.map_congr_left
    intro i hi
    exact h i (List.mem_range.1 hi)

set_option maxHeartbeats 1000000 in
theorem sameBytes_any (a1 a2 : Option Addr) (n m c1 c2 : Nat) (f g : Nat → Int) (w : World) (h1 : View w a1 n c1 f) (h2 : View w a2 m c2 g) (hn : n ≤ 281474976710656) (hm : m ≤ 281474976710656) :
    Calls Try.prog 16 #[.slice a1 n c1, .slice a2 m c2] w fun e w' => e = .returned (.bool (decide (lof n f = lof m g))) ∧ Below w.heap.size w w' := by
  by_cases hnm : n = m
  · subst hnm
    have q0 : ((n : Int) != (n : Int)) = false := by simp
    go_enter Try.func16, Try.ntmps16
    go_wp2
    go_loopg [5] n (fun q i wr => ∃ k : Nat, k ≤ n ∧ q = n - k ∧ i = .int .i64 k ∧ Below w.heap.size w wr ∧ ∀ j, j < k → f j = g j)
    case atStart => exact ⟨0, Nat.zero_le _, rfl, rfl, Below.refl _ _, fun j hj => absurd hj (Nat.not_lt_zero _)⟩
    case round =>
      obtain ⟨k, hk, rfl, rfl, hB, hE⟩ := hrel
      have HE : Hid (∀ j, j < k → f j = g j) := hE
      clear hE
      by_cases hlt : k < n
      · obtain ⟨b1, o1, rfl, hb1, hc1⟩ := h1.cells (by omega)
        obtain ⟨b2, o2, rfl, hb2, hc2⟩ := h2.cells (by omega)
        have hkz : (k : Int) < (n : Int) := by omega
        have e1 : wr.cell? ⟨b1, o1 + k, none⟩ = some (.int .u8 (f k)) := by rw [hB.cell (p := ⟨b1, o1 + k, none⟩) hb1]; exact hc1 k hlt
        have e2 : wr.cell? ⟨b2, o2 + k, none⟩ = some (.int .u8 (g k)) := by rw [hB.cell (p := ⟨b2, o2 + k, none⟩) hb2]; exact hc2 k hlt
        clear hc1 hc2
        by_cases he : f k = g k
        · have q1 : (f k != g k) = false := by simpa using he
          have HE2 : Hid (∀ j, j < k + 1 → f j = g j) := fun j hj => by
            by_cases e : j = k
            · subst e; exact he
            · exact HE.out j (by omega)
          clear he
          go_wp2
          go_region
          all_goals go_wp2
          all_goals
            go_roundg (n - (k + 1))
            case measure => omega
            case rel => exact ⟨k + 1, by omega, rfl, by go_num, by first | exact hB.drew | exact hB, HE2.out⟩
        · have q1 : (f k != g k) = true := by simpa using he
          have HD : Hid (decide (lof n f = lof n g) = false) := by
            show _ = _
            rw [decide_eq_false_iff_not, lof_eq]
            exact fun h => he (h k hlt)
          clear he
          go_wp2
          go_region
          all_goals go_wp2
          all_goals
            go_ret
            exact ⟨by rw [HD.out]; rfl, by first | exact hB.drew | exact hB⟩
      · obtain rfl : k = n := by omega
        have HD : Hid (decide (lof k f = lof k g) = true) := by
          show _ = _
          rw [decide_eq_true_iff, lof_eq]
          exact HE.out
        go_wp2
        go_ret
        exact ⟨by rw [HD.out]; rfl, hB⟩
  · have q0 : ((n : Int) != (m : Int)) = true := by simp; omega
    have HD : Hid (decide (lof n f = lof m g) = false) := by
      show _ = _
      rw [decide_eq_false_iff_not]
      intro h
      have := congrArg List.length h
      rw [lof_len, lof_len] at this
      exact hnm this
    go_enter Try.func16, Try.ntmps16
    go_wp2
    go_ret
    exact ⟨by rw [HD.out]; rfl, Below.refl _ _⟩
end Go.Proofs.Ytclegljalndaeac

/-
  Whether a code is too long.
-/
namespace Go.Proofs.Ytclegljalndaeac
open Go.RowKit
set_option maxRecDepth 4000

theorem big_any (ao : Option Addr) (n cap : Nat) (w : World) (_hn : n ≤ 9223372036854775807) :
    Calls Try.prog 8 #[.slice ao n cap] w fun e w' => e = .returned (.bool (decide ((1048576 : Int) < (n : Int)))) ∧ w = w' := by
  go_enter Try.func8, Try.ntmps8
  go_wp2
  go_ret
  exact ⟨rfl, rfl⟩

end Go.Proofs.Ytclegljalndaeac

