/-
  Together: LawGetPart, ValNum, ValPlain, PutPlain, TextPlain
-/
import Derived.Test.YtbcgonfihdpjnaqPack1
import Derived.Deep.RegionHeld3
import Derived.Lib.ItoaNum
import Derived.Lib.ItoaMem
import Derived.Lib.AtoiTie
import Derived.Lib.AtoiAllCases
import Derived.Lib.AppendStr
/-
  The walk over the law FnExactGetPart, out of what its callees come to.
-/
namespace Go.Proofs.Ytbcgonfihdpjnaq
open Go.RowKit
set_option maxRecDepth 4000

/-- The function fn, at a slice of bytes that reads as f, answers the value, the place and the word, and writes nothing that was there. -/
def ReadsPart (fn : Nat) (c t : Int) (nul d : Bool) (p : Int) (n : Nat) (f : Nat → Int) (k y : Int) (s : ByteArray) (q : Int) (ok : Bool) : Prop :=
  ∀ (b cap : Nat) (w : World), View w (some ⟨b, 0, none⟩) n cap f → Calls Try.prog fn #[.slice (some ⟨b, 0, none⟩) n cap, .agg #[.int .i64 c, .int .i64 t, .bool nul, .bool d], .int .i64 p] w fun e w' =>
    e = .returned (.tuple #[.agg #[.int .i64 k, .int .i64 y, .string s], .int .i64 q, .bool ok]) ∧ Below w.heap.size w w'

theorem setCell_size (W : World) (a : Addr) (v : Value) : (W.setCell a v).heap.size = W.heap.size := by simp
theorem alloc_size (W : World) (o : Obj) : (W.alloc o).heap.size = W.heap.size + 1 := by simp

set_option linter.unusedSimpArgs false in
set_option maxHeartbeats 8000000 in
theorem lawGetPart (ao : Option Addr) (n cap : Nat) (f : Nat → Int) (c t : Int) (nul d : Bool) (p : Int) (k y : Int) (s : ByteArray) (q : Int) (ok : Bool) (w : World) (hv : View w ao n cap f)
    (h1 : n ≤ 1048576 → ReadsPart 21 c t nul d p n f k y s q ok) (h2 : n ≤ 1048576 → ReadsPart 22 c t nul d p n f k y s q ok) :
    Calls Try.prog 6 #[.slice ao n cap, .agg #[.int .i64 c, .int .i64 t, .bool nul, .bool d], .int .i64 p] w fun e w' => e = .returned (.bool true) ∧ Below w.heap.size w w' := by
  have hPV := PO.start w 29 c t nul d
  by_cases hbig0 : 1048576 < n
  · have hz : (1048576 : Int) < (n : Int) := by omega
    go_enter Try.func6, Try.ntmps6
    go_wp2
    go_ret
    exact ⟨rfl, hPV.all⟩
  have hz0 : (n : Int) ≤ 1048576 := by omega
  replace h1 := h1 (by omega)
  replace h2 := h2 (by omega)
  have hB := hPV.all
  obtain ⟨w0, hw0⟩ : ∃ w0, Hid (w0 = w.alloc (.cells #[.int .i64 c, .int .i64 t, .bool nul, .bool d] 29)) := ⟨_, rfl⟩
  rw [← hw0.out] at hPV hB
  go_enter Try.func6, Try.ntmps6
  go_wp2_with fail
  rw [← hw0.out]
  have hb : Below w0.heap.size w0 w0.drew := (Below.refl _ _).drew
  replace hPV := hPV.step hb
  replace hB := hB.trans (hb.mono hB.size)
  clear hb
  refine wp_region_held_drew (S := PO w 29 c t nul d) (by kernel_rfl) (hPV) (fun hHeld => ?_)
  obtain ⟨wd, hwd⟩ : ∃ wd, Hid (wd = w0.drew) := ⟨_, rfl⟩
  rw [← hwd.out] at hPV hB hHeld ⊢
  refine' wpAnyH_take (i := 0) (v := _) rfl (by kernel_rfl) (by kernel_rfl) (by kernel_rfl) (fun _ _ _ h => h) (Or.inl ⟨by kernel_rfl, ?ha0⟩) (by assumption) ?ra0
  case ha0 => intro W hW; go_simp; all_goals with_reducible rfl
  change wpAnyH _ _ _ _ _ _ _ (Act.put _ (some 18) _) _
  simp only [Act.put, List.setIfInBounds_toArray, List.set_cons_zero, List.set_cons_succ]
  refine' wpAnyH_take (i := 2) (v := _) rfl (by kernel_rfl) (by kernel_rfl) (by kernel_rfl) (fun _ _ _ h => h) (Or.inl ⟨by kernel_rfl, ?ha2⟩) (by assumption) ?ra2
  case ha2 => intro W hW; obtain ⟨c0, c1, c2, c3⟩ := PO.part hW; go_simp; all_goals with_reducible rfl
  change wpAnyH _ _ _ _ _ _ _ (Act.put _ (some 20) _) _
  simp only [Act.put, List.setIfInBounds_toArray, List.set_cons_zero, List.set_cons_succ]
  refine' wpAnyH_take (i := 4) (v := _) rfl (by kernel_rfl) (by kernel_rfl) (by kernel_rfl) (fun _ _ _ h => h) (Or.inl ⟨by kernel_rfl, ?ha4⟩) (by assumption) ?ra4
  case ha4 => intro W hW; go_simp; all_goals with_reducible rfl
  change wpAnyH _ _ _ _ _ _ _ (Act.put _ (some 22) _) _
  simp only [Act.put, List.setIfInBounds_toArray, List.set_cons_zero, List.set_cons_succ]
  refine wpAnyH_ready (rs := [1, 10]) (by kernel_rfl) (by simp) ?_
  refine AllReadyH.cons rfl (fun KK hK => ?_) (AllReadyH.cons rfl (fun KK hK => ?_) AllReadyH.nil)
  ·
    go_simp
    refine (toByteS_any ao n cap f _ (hv.below hB) (by omega)).mono ?_
    rintro e wa ⟨rfl, hra, hb, -⟩
    have hxa := Row.ofIs hra
    clear hra
    replace hPV := hPV.step hb
    replace hB := hB.trans (hb.mono hB.size)
    clear hb
    go_wp2_with fail
    refine hK.out _ _ hPV (fun hHeld => ?_)
    clear hK KK
    try simp only [Act.put, List.setIfInBounds_toArray, List.set_cons_zero, List.set_cons_succ]
    refine wpAnyH_ready (rs := [3, 10]) (by kernel_rfl) (by simp) ?_
    refine AllReadyH.cons rfl (fun KK hK => ?_) (AllReadyH.cons rfl (fun KK hK => ?_) AllReadyH.nil)
    ·
      go_simp
      refine (toPart_any c t nul d _).mono ?_
      rintro e wb ⟨rfl, hb⟩
      replace hxa := hxa.belowAll hb
      replace hPV := hPV.step hb
      replace hB := hB.trans (hb.mono hB.size)
      clear hb
      go_wp2_with fail
      refine hK.out _ _ hPV (fun hHeld => ?_)
      clear hK KK
      try simp only [Act.put, List.setIfInBounds_toArray, List.set_cons_zero, List.set_cons_succ]
      refine wpAnyH_ready (rs := [5, 10]) (by kernel_rfl) (by simp) ?_
      refine AllReadyH.cons rfl (fun KK hK => ?_) (AllReadyH.cons rfl (fun KK hK => ?_) AllReadyH.nil)
      ·
        go_simp
        refine (h1 _ _ _ (hxa.view (Nat.le_refl _) hv.byte)).mono ?_
        rintro e w2 ⟨rfl, hb⟩
        clear hxa h1
        replace hPV := hPV.step hb
        replace hB := hB.trans (hb.mono hB.size)
        clear hb
        go_wp2_with fail
        refine hK.out _ _ hPV (fun hHeld => ?_)
        clear hK KK
        try simp only [Act.put, List.setIfInBounds_toArray, List.set_cons_zero, List.set_cons_succ]
        refine' wpAnyH_take (i := 6) (v := _) rfl (by kernel_rfl) (by kernel_rfl) (by kernel_rfl) (fun _ _ _ h => h) (Or.inl ⟨by kernel_rfl, ?hb6⟩) (by assumption) ?rb6
        case hb6 => intro W hW; go_simp; all_goals with_reducible rfl
        change wpAnyH _ _ _ _ _ _ _ (Act.put _ (some 17) _) _
        simp only [Act.put, List.setIfInBounds_toArray, List.set_cons_zero, List.set_cons_succ]
        refine' wpAnyH_take (i := 7) (v := _) rfl (by kernel_rfl) (by kernel_rfl) (by kernel_rfl) (fun _ _ _ h => h) (Or.inl ⟨by kernel_rfl, ?hb7⟩) (by assumption) ?rb7
        case hb7 => intro W hW; go_simp; all_goals with_reducible rfl
        change wpAnyH _ _ _ _ _ _ _ (Act.put _ (some 24) _) _
        simp only [Act.put, List.setIfInBounds_toArray, List.set_cons_zero, List.set_cons_succ]
        refine' wpAnyH_take (i := 8) (v := _) rfl (by kernel_rfl) (by kernel_rfl) (by kernel_rfl) (fun _ _ _ h => h) (Or.inl ⟨by kernel_rfl, ?hb8⟩) (by assumption) ?rb8
        case hb8 => intro W hW; go_simp; all_goals with_reducible rfl
        change wpAnyH _ _ _ _ _ _ _ (Act.put _ (some 25) _) _
        simp only [Act.put, List.setIfInBounds_toArray, List.set_cons_zero, List.set_cons_succ]
        refine' wpAnyH_take (i := 9) (v := _) rfl (by kernel_rfl) (by kernel_rfl) (by kernel_rfl) (fun _ _ _ h => h) (Or.inl ⟨by kernel_rfl, ?hb9⟩) (by assumption) ?rb9
        case hb9 => intro W hW; go_simp; all_goals with_reducible rfl
        change wpAnyH _ _ _ _ _ _ _ (Act.put _ (some 26) _) _
        simp only [Act.put, List.setIfInBounds_toArray, List.set_cons_zero, List.set_cons_succ]
        refine wpAnyH_ready (rs := [10]) (by kernel_rfl) (by simp) ?_
        refine AllReadyH.cons rfl (fun KK hK => ?_) AllReadyH.nil
        have hPV0 := hPV
        go_simp
        have hb : Below w2.heap.size w2 (w2.alloc (.cells #[.int .i64 0, .int .i64 0, .string ⟨#[]⟩] 38)) := (Below.refl _ _).alloc (Nat.le_refl _) _
        have hR := Box.new w2 0 0 ⟨#[]⟩
        have hAs : w.heap.size + 1 ≤ w2.heap.size := hPV.size
        replace hPV := hPV.step hb
        replace hB := hB.trans (hb.mono hB.size)
        clear hb
        refine hK.out _ _ hPV (fun hHeld => ?_)
        clear hK KK
        try simp only [Act.put, List.setIfInBounds_toArray, List.set_cons_zero, List.set_cons_succ]
        have hb : Below w2.heap.size w2 (w2.alloc (.cells #[.int .i64 k, .int .i64 y, .string s] 38)) := (Below.refl _ _).alloc (Nat.le_refl _) _
        have hPV2 := hPV0.step hb
        have hV := Box.new w2 k y s
        obtain ⟨x0, x1, x2⟩ := hR.cells
        obtain ⟨f0, f1, f2⟩ := hR.frozen
        clear hR hPV hB hb hPV0
        refine wpAnyH_ready (rs := [11]) (by kernel_rfl) (by simp) ?_
        refine AllReadyH.cons rfl (fun KK hK => ?_) AllReadyH.nil
        go_simp
        refine hK.out _ _ hPV2 (fun hHeld => ?_)
        clear hK KK
        try simp only [Act.put, List.setIfInBounds_toArray, List.set_cons_zero, List.set_cons_succ]
        refine' wpAnyH_take (i := 12) (v := _) rfl (by kernel_rfl) (by kernel_rfl) (by kernel_rfl) (fun _ _ _ h => h) (Or.inl ⟨by kernel_rfl, ?hb12⟩) (by assumption) ?rb12
        case hb12 => intro W hW; go_simp; all_goals with_reducible rfl
        change wpAnyH _ _ _ _ _ _ _ (Act.put _ (some 8) _) _
        simp only [Act.put, List.setIfInBounds_toArray, List.set_cons_zero, List.set_cons_succ]
        refine' wpAnyH_take (i := 13) (v := _) rfl (by kernel_rfl) (by kernel_rfl) (by kernel_rfl) (fun _ _ _ h => h) (Or.inl ⟨by kernel_rfl, ?hb13⟩) (by assumption) ?rb13
        case hb13 => intro W hW; go_simp; all_goals with_reducible rfl
        change wpAnyH _ _ _ _ _ _ _ (Act.put _ (some 9) _) _
        simp only [Act.put, List.setIfInBounds_toArray, List.set_cons_zero, List.set_cons_succ]
        refine wpAnyH_done (by kernel_rfl) ?_ _
        clear hHeld x0 x1 x2 f0 f1 f2
        obtain ⟨WW, hWW⟩ : ∃ WW, Hid (WW = w2.alloc (.cells #[.int .i64 k, .int .i64 y, .string s] 38)) := ⟨_, rfl⟩
        rw [← hWW.out] at hV hPV2 ⊢
        obtain ⟨AA, hAA⟩ : ∃ AA, Hid (AA = w2.heap.size) := ⟨_, rfl⟩
        rw [← hAA.out] at hV ⊢
        have hB2 := hPV2.all
        go_wp2_with fail
        refine (toByteS_any ao n cap f _ (hv.below hB2) (by omega)).mono ?_
        rintro e w3 ⟨rfl, hr3, hb, -⟩
        have hx := Row.ofIs hr3
        replace hV := hV.below hb
        have hPV3 := hPV2.step hb
        clear hr3 hb hPV2 hB2
        obtain ⟨c0, c1, c2, c3⟩ := hPV3.part
        go_wp2_with fail
        refine (toPart_any c t nul d w3).mono ?_
        rintro e w4 ⟨rfl, hb⟩
        replace hV := hV.below hb
        replace hx := hx.belowAll hb
        have hPV4 := hPV3.step hb
        clear hb hPV3 c0 c1 c2 c3
        go_wp2_with fail
        refine (h2 _ _ _ (hx.view (Nat.le_refl _) hv.byte)).mono ?_
        rintro e w5 ⟨rfl, hb⟩
        replace hV := hV.below hb
        replace hx := hx.belowAll hb
        have hPV5 := hPV4.step hb
        clear hb hPV4 h2
        have hb : Below w5.heap.size w5 (w5.alloc (.cells #[.int .i64 k, .int .i64 y, .string s] 38)) := (Below.refl _ _).alloc (Nat.le_refl _) _
        have hU := Box.new w5 k y s
        replace hV := hV.below hb
        replace hx := hx.belowAll hb
        have hPV6 := hPV5.step hb
        clear hb hPV5
        obtain ⟨a0, a1, a2⟩ := hV.cells
        obtain ⟨b0, b1, b2⟩ := hU.cells
        go_wp2_with fail
        refine (eqVal_same k y s _).mono ?_
        rintro e w7 ⟨rfl, hb⟩
        replace hx := hx.belowAll hb
        have hPV7 := hPV6.step hb
        clear hb hPV6 hV hU a0 a1 a2 b0 b1 b2
        have hB7 := hPV7.all
        have q1 : (q != q) = false := by simp
        have q2 : (ok != ok) = false := by cases ok <;> rfl
        go_wp2_with fail
        refine (toByteS_any ao n cap f w7 (hv.below hB7) (by omega)).mono ?_
        rintro e w8 ⟨rfl, hr8, hb, -⟩
        replace hx := hx.belowAll hb
        replace hB7 := hB7.trans (hb.mono hB7.size)
        clear hb hPV7
        go_wp2_with fail
        refine (eqByteS_same _ _ n _ _ f f w8 (hx.view (Nat.le_refl _) hv.byte) ((Row.ofIs hr8).view (Nat.le_refl _) hv.byte) (by omega) (fun _ _ => rfl)).mono ?_
        rintro e w9 ⟨rfl, hb⟩
        replace hB7 := hB7.trans (hb.mono hB7.size)
        clear hb hx hr8
        go_wp2
        go_ret
        exact ⟨rfl, hB7⟩
      ·
        go_simp
        have hb : Below wb.heap.size wb (wb.alloc (.cells #[.int .i64 0, .int .i64 0, .string ⟨#[]⟩] 38)) := (Below.refl _ _).alloc (Nat.le_refl _) _
        have hR := Box.new wb 0 0 ⟨#[]⟩
        have hAs : w.heap.size + 1 ≤ wb.heap.size := hPV.size
        replace hxa := hxa.belowAll hb
        replace hPV := hPV.step hb
        replace hB := hB.trans (hb.mono hB.size)
        clear hb
        refine hK.out _ _ hPV (fun hHeld => ?_)
        clear hK KK
        try simp only [Act.put, List.setIfInBounds_toArray, List.set_cons_zero, List.set_cons_succ]
        obtain ⟨Wa, hWa⟩ : ∃ Wa, Hid (Wa = wb.alloc (.cells #[.int .i64 0, .int .i64 0, .string ⟨#[]⟩] 38)) := ⟨_, rfl⟩
        rw [← hWa.out] at hPV hB hR hHeld hxa ⊢
        clear hWa
        refine wpAnyH_ready (rs := [5]) (by kernel_rfl) (by simp) ?_
        refine AllReadyH.cons rfl (fun KK hK => ?_) AllReadyH.nil
        go_simp
        refine (h1 _ _ _ (hxa.view (Nat.le_refl _) hv.byte)).mono ?_
        rintro e w2 ⟨rfl, hb⟩
        clear hxa h1
        replace hR := hR.below hb
        replace hPV := hPV.step hb
        replace hB := hB.trans (hb.mono hB.size)
        clear hb
        go_wp2_with fail
        refine hK.out _ _ hPV (fun hHeld => ?_)
        clear hK KK
        try simp only [Act.put, List.setIfInBounds_toArray, List.set_cons_zero, List.set_cons_succ]
        refine' wpAnyH_take (i := 6) (v := _) rfl (by kernel_rfl) (by kernel_rfl) (by kernel_rfl) (fun _ _ _ h => h) (Or.inl ⟨by kernel_rfl, ?hc6⟩) (by assumption) ?rc6
        case hc6 => intro W hW; go_simp; all_goals with_reducible rfl
        change wpAnyH _ _ _ _ _ _ _ (Act.put _ (some 17) _) _
        simp only [Act.put, List.setIfInBounds_toArray, List.set_cons_zero, List.set_cons_succ]
        refine' wpAnyH_take (i := 7) (v := _) rfl (by kernel_rfl) (by kernel_rfl) (by kernel_rfl) (fun _ _ _ h => h) (Or.inl ⟨by kernel_rfl, ?hc7⟩) (by assumption) ?rc7
        case hc7 => intro W hW; go_simp; all_goals with_reducible rfl
        change wpAnyH _ _ _ _ _ _ _ (Act.put _ (some 24) _) _
        simp only [Act.put, List.setIfInBounds_toArray, List.set_cons_zero, List.set_cons_succ]
        refine' wpAnyH_take (i := 8) (v := _) rfl (by kernel_rfl) (by kernel_rfl) (by kernel_rfl) (fun _ _ _ h => h) (Or.inl ⟨by kernel_rfl, ?hc8⟩) (by assumption) ?rc8
        case hc8 => intro W hW; go_simp; all_goals with_reducible rfl
        change wpAnyH _ _ _ _ _ _ _ (Act.put _ (some 25) _) _
        simp only [Act.put, List.setIfInBounds_toArray, List.set_cons_zero, List.set_cons_succ]
        refine' wpAnyH_take (i := 9) (v := _) rfl (by kernel_rfl) (by kernel_rfl) (by kernel_rfl) (fun _ _ _ h => h) (Or.inl ⟨by kernel_rfl, ?hc9⟩) (by assumption) ?rc9
        case hc9 => intro W hW; go_simp; all_goals with_reducible rfl
        change wpAnyH _ _ _ _ _ _ _ (Act.put _ (some 26) _) _
        simp only [Act.put, List.setIfInBounds_toArray, List.set_cons_zero, List.set_cons_succ]
        obtain ⟨x0, x1, x2⟩ := hR.cells
        obtain ⟨f0, f1, f2⟩ := hR.frozen
        have hV := hR.put k y s
        have hPV2 := ((hPV.setCell (B := wb.heap.size) (i := 0) hAs (.int .i64 k)).setCell (B := wb.heap.size) (i := 1) hAs (.int .i64 y)).setCell (B := wb.heap.size) (i := 2) hAs (.string s)
        clear hR hPV hB
        refine wpAnyH_ready (rs := [11]) (by kernel_rfl) (by simp) ?_
        refine AllReadyH.cons rfl (fun KK hK => ?_) AllReadyH.nil
        go_simp
        refine hK.out _ _ hPV2 (fun hHeld => ?_)
        clear hK KK
        try simp only [Act.put, List.setIfInBounds_toArray, List.set_cons_zero, List.set_cons_succ]
        refine' wpAnyH_take (i := 12) (v := _) rfl (by kernel_rfl) (by kernel_rfl) (by kernel_rfl) (fun _ _ _ h => h) (Or.inl ⟨by kernel_rfl, ?hc12⟩) (by assumption) ?rc12
        case hc12 => intro W hW; go_simp; all_goals with_reducible rfl
        change wpAnyH _ _ _ _ _ _ _ (Act.put _ (some 8) _) _
        simp only [Act.put, List.setIfInBounds_toArray, List.set_cons_zero, List.set_cons_succ]
        refine' wpAnyH_take (i := 13) (v := _) rfl (by kernel_rfl) (by kernel_rfl) (by kernel_rfl) (fun _ _ _ h => h) (Or.inl ⟨by kernel_rfl, ?hc13⟩) (by assumption) ?rc13
        case hc13 => intro W hW; go_simp; all_goals with_reducible rfl
        change wpAnyH _ _ _ _ _ _ _ (Act.put _ (some 9) _) _
        simp only [Act.put, List.setIfInBounds_toArray, List.set_cons_zero, List.set_cons_succ]
        refine wpAnyH_done (by kernel_rfl) ?_ _
        clear hHeld x0 x1 x2 f0 f1 f2
        obtain ⟨WW, hWW⟩ : ∃ WW, Hid (WW = ((w2.setCell ⟨wb.heap.size, 0, none⟩ (.int .i64 k)).setCell ⟨wb.heap.size, 1, none⟩ (.int .i64 y)).setCell ⟨wb.heap.size, 2, none⟩ (.string s)) := ⟨_, rfl⟩
        rw [← hWW.out] at hV hPV2 ⊢
        obtain ⟨AA, hAA⟩ : ∃ AA, Hid (AA = wb.heap.size) := ⟨_, rfl⟩
        rw [← hAA.out] at hV ⊢
        have hB2 := hPV2.all
        go_wp2_with fail
        refine (toByteS_any ao n cap f _ (hv.below hB2) (by omega)).mono ?_
        rintro e w3 ⟨rfl, hr3, hb, -⟩
        have hx := Row.ofIs hr3
        replace hV := hV.below hb
        have hPV3 := hPV2.step hb
        clear hr3 hb hPV2 hB2
        obtain ⟨c0, c1, c2, c3⟩ := hPV3.part
        go_wp2_with fail
        refine (toPart_any c t nul d w3).mono ?_
        rintro e w4 ⟨rfl, hb⟩
        replace hV := hV.below hb
        replace hx := hx.belowAll hb
        have hPV4 := hPV3.step hb
        clear hb hPV3 c0 c1 c2 c3
        go_wp2_with fail
        refine (h2 _ _ _ (hx.view (Nat.le_refl _) hv.byte)).mono ?_
        rintro e w5 ⟨rfl, hb⟩
        replace hV := hV.below hb
        replace hx := hx.belowAll hb
        have hPV5 := hPV4.step hb
        clear hb hPV4 h2
        have hb : Below w5.heap.size w5 (w5.alloc (.cells #[.int .i64 k, .int .i64 y, .string s] 38)) := (Below.refl _ _).alloc (Nat.le_refl _) _
        have hU := Box.new w5 k y s
        replace hV := hV.below hb
        replace hx := hx.belowAll hb
        have hPV6 := hPV5.step hb
        clear hb hPV5
        obtain ⟨a0, a1, a2⟩ := hV.cells
        obtain ⟨b0, b1, b2⟩ := hU.cells
        go_wp2_with fail
        refine (eqVal_same k y s _).mono ?_
        rintro e w7 ⟨rfl, hb⟩
        replace hx := hx.belowAll hb
        have hPV7 := hPV6.step hb
        clear hb hPV6 hV hU a0 a1 a2 b0 b1 b2
        have hB7 := hPV7.all
        have q1 : (q != q) = false := by simp
        have q2 : (ok != ok) = false := by cases ok <;> rfl
        go_wp2_with fail
        refine (toByteS_any ao n cap f w7 (hv.below hB7) (by omega)).mono ?_
        rintro e w8 ⟨rfl, hr8, hb, -⟩
        replace hx := hx.belowAll hb
        replace hB7 := hB7.trans (hb.mono hB7.size)
        clear hb hPV7
        go_wp2_with fail
        refine (eqByteS_same _ _ n _ _ f f w8 (hx.view (Nat.le_refl _) hv.byte) ((Row.ofIs hr8).view (Nat.le_refl _) hv.byte) (by omega) (fun _ _ => rfl)).mono ?_
        rintro e w9 ⟨rfl, hb⟩
        replace hB7 := hB7.trans (hb.mono hB7.size)
        clear hb hx hr8
        go_wp2
        go_ret
        exact ⟨rfl, hB7⟩
    ·
      go_simp
      have hb : Below wa.heap.size wa (wa.alloc (.cells #[.int .i64 0, .int .i64 0, .string ⟨#[]⟩] 38)) := (Below.refl _ _).alloc (Nat.le_refl _) _
      have hR := Box.new wa 0 0 ⟨#[]⟩
      have hAs : w.heap.size + 1 ≤ wa.heap.size := hPV.size
      replace hxa := hxa.belowAll hb
      replace hPV := hPV.step hb
      replace hB := hB.trans (hb.mono hB.size)
      clear hb
      refine hK.out _ _ hPV (fun hHeld => ?_)
      clear hK KK
      try simp only [Act.put, List.setIfInBounds_toArray, List.set_cons_zero, List.set_cons_succ]
      obtain ⟨Wa, hWa⟩ : ∃ Wa, Hid (Wa = wa.alloc (.cells #[.int .i64 0, .int .i64 0, .string ⟨#[]⟩] 38)) := ⟨_, rfl⟩
      rw [← hWa.out] at hPV hB hR hHeld hxa ⊢
      clear hWa
      refine wpAnyH_ready (rs := [3]) (by kernel_rfl) (by simp) ?_
      refine AllReadyH.cons rfl (fun KK hK => ?_) AllReadyH.nil
      go_simp
      refine (toPart_any c t nul d _).mono ?_
      rintro e wb ⟨rfl, hb⟩
      replace hxa := hxa.belowAll hb
      replace hR := hR.below hb
      replace hPV := hPV.step hb
      replace hB := hB.trans (hb.mono hB.size)
      clear hb
      go_wp2_with fail
      refine hK.out _ _ hPV (fun hHeld => ?_)
      clear hK KK
      try simp only [Act.put, List.setIfInBounds_toArray, List.set_cons_zero, List.set_cons_succ]
      refine wpAnyH_ready (rs := [5]) (by kernel_rfl) (by simp) ?_
      refine AllReadyH.cons rfl (fun KK hK => ?_) AllReadyH.nil
      go_simp
      refine (h1 _ _ _ (hxa.view (Nat.le_refl _) hv.byte)).mono ?_
      rintro e w2 ⟨rfl, hb⟩
      clear hxa h1
      replace hR := hR.below hb
      replace hPV := hPV.step hb
      replace hB := hB.trans (hb.mono hB.size)
      clear hb
      go_wp2_with fail
      refine hK.out _ _ hPV (fun hHeld => ?_)
      clear hK KK
      try simp only [Act.put, List.setIfInBounds_toArray, List.set_cons_zero, List.set_cons_succ]
      refine' wpAnyH_take (i := 6) (v := _) rfl (by kernel_rfl) (by kernel_rfl) (by kernel_rfl) (fun _ _ _ h => h) (Or.inl ⟨by kernel_rfl, ?hd6⟩) (by assumption) ?rd6
      case hd6 => intro W hW; go_simp; all_goals with_reducible rfl
      change wpAnyH _ _ _ _ _ _ _ (Act.put _ (some 17) _) _
      simp only [Act.put, List.setIfInBounds_toArray, List.set_cons_zero, List.set_cons_succ]
      refine' wpAnyH_take (i := 7) (v := _) rfl (by kernel_rfl) (by kernel_rfl) (by kernel_rfl) (fun _ _ _ h => h) (Or.inl ⟨by kernel_rfl, ?hd7⟩) (by assumption) ?rd7
      case hd7 => intro W hW; go_simp; all_goals with_reducible rfl
      change wpAnyH _ _ _ _ _ _ _ (Act.put _ (some 24) _) _
      simp only [Act.put, List.setIfInBounds_toArray, List.set_cons_zero, List.set_cons_succ]
      refine' wpAnyH_take (i := 8) (v := _) rfl (by kernel_rfl) (by kernel_rfl) (by kernel_rfl) (fun _ _ _ h => h) (Or.inl ⟨by kernel_rfl, ?hd8⟩) (by assumption) ?rd8
      case hd8 => intro W hW; go_simp; all_goals with_reducible rfl
      change wpAnyH _ _ _ _ _ _ _ (Act.put _ (some 25) _) _
      simp only [Act.put, List.setIfInBounds_toArray, List.set_cons_zero, List.set_cons_succ]
      refine' wpAnyH_take (i := 9) (v := _) rfl (by kernel_rfl) (by kernel_rfl) (by kernel_rfl) (fun _ _ _ h => h) (Or.inl ⟨by kernel_rfl, ?hd9⟩) (by assumption) ?rd9
      case hd9 => intro W hW; go_simp; all_goals with_reducible rfl
      change wpAnyH _ _ _ _ _ _ _ (Act.put _ (some 26) _) _
      simp only [Act.put, List.setIfInBounds_toArray, List.set_cons_zero, List.set_cons_succ]
      obtain ⟨x0, x1, x2⟩ := hR.cells
      obtain ⟨f0, f1, f2⟩ := hR.frozen
      have hV := hR.put k y s
      have hPV2 := ((hPV.setCell (B := wa.heap.size) (i := 0) hAs (.int .i64 k)).setCell (B := wa.heap.size) (i := 1) hAs (.int .i64 y)).setCell (B := wa.heap.size) (i := 2) hAs (.string s)
      clear hR hPV hB
      refine wpAnyH_ready (rs := [11]) (by kernel_rfl) (by simp) ?_
      refine AllReadyH.cons rfl (fun KK hK => ?_) AllReadyH.nil
      go_simp
      refine hK.out _ _ hPV2 (fun hHeld => ?_)
      clear hK KK
      try simp only [Act.put, List.setIfInBounds_toArray, List.set_cons_zero, List.set_cons_succ]
      refine' wpAnyH_take (i := 12) (v := _) rfl (by kernel_rfl) (by kernel_rfl) (by kernel_rfl) (fun _ _ _ h => h) (Or.inl ⟨by kernel_rfl, ?hd12⟩) (by assumption) ?rd12
      case hd12 => intro W hW; go_simp; all_goals with_reducible rfl
      change wpAnyH _ _ _ _ _ _ _ (Act.put _ (some 8) _) _
      simp only [Act.put, List.setIfInBounds_toArray, List.set_cons_zero, List.set_cons_succ]
      refine' wpAnyH_take (i := 13) (v := _) rfl (by kernel_rfl) (by kernel_rfl) (by kernel_rfl) (fun _ _ _ h => h) (Or.inl ⟨by kernel_rfl, ?hd13⟩) (by assumption) ?rd13
      case hd13 => intro W hW; go_simp; all_goals with_reducible rfl
      change wpAnyH _ _ _ _ _ _ _ (Act.put _ (some 9) _) _
      simp only [Act.put, List.setIfInBounds_toArray, List.set_cons_zero, List.set_cons_succ]
      refine wpAnyH_done (by kernel_rfl) ?_ _
      clear hHeld x0 x1 x2 f0 f1 f2
      obtain ⟨WW, hWW⟩ : ∃ WW, Hid (WW = ((w2.setCell ⟨wa.heap.size, 0, none⟩ (.int .i64 k)).setCell ⟨wa.heap.size, 1, none⟩ (.int .i64 y)).setCell ⟨wa.heap.size, 2, none⟩ (.string s)) := ⟨_, rfl⟩
      rw [← hWW.out] at hV hPV2 ⊢
      obtain ⟨AA, hAA⟩ : ∃ AA, Hid (AA = wa.heap.size) := ⟨_, rfl⟩
      rw [← hAA.out] at hV ⊢
      have hB2 := hPV2.all
      go_wp2_with fail
      refine (toByteS_any ao n cap f _ (hv.below hB2) (by omega)).mono ?_
      rintro e w3 ⟨rfl, hr3, hb, -⟩
      have hx := Row.ofIs hr3
      replace hV := hV.below hb
      have hPV3 := hPV2.step hb
      clear hr3 hb hPV2 hB2
      obtain ⟨c0, c1, c2, c3⟩ := hPV3.part
      go_wp2_with fail
      refine (toPart_any c t nul d w3).mono ?_
      rintro e w4 ⟨rfl, hb⟩
      replace hV := hV.below hb
      replace hx := hx.belowAll hb
      have hPV4 := hPV3.step hb
      clear hb hPV3 c0 c1 c2 c3
      go_wp2_with fail
      refine (h2 _ _ _ (hx.view (Nat.le_refl _) hv.byte)).mono ?_
      rintro e w5 ⟨rfl, hb⟩
      replace hV := hV.below hb
      replace hx := hx.belowAll hb
      have hPV5 := hPV4.step hb
      clear hb hPV4 h2
      have hb : Below w5.heap.size w5 (w5.alloc (.cells #[.int .i64 k, .int .i64 y, .string s] 38)) := (Below.refl _ _).alloc (Nat.le_refl _) _
      have hU := Box.new w5 k y s
      replace hV := hV.below hb
      replace hx := hx.belowAll hb
      have hPV6 := hPV5.step hb
      clear hb hPV5
      obtain ⟨a0, a1, a2⟩ := hV.cells
      obtain ⟨b0, b1, b2⟩ := hU.cells
      go_wp2_with fail
      refine (eqVal_same k y s _).mono ?_
      rintro e w7 ⟨rfl, hb⟩
      replace hx := hx.belowAll hb
      have hPV7 := hPV6.step hb
      clear hb hPV6 hV hU a0 a1 a2 b0 b1 b2
      have hB7 := hPV7.all
      have q1 : (q != q) = false := by simp
      have q2 : (ok != ok) = false := by cases ok <;> rfl
      go_wp2_with fail
      refine (toByteS_any ao n cap f w7 (hv.below hB7) (by omega)).mono ?_
      rintro e w8 ⟨rfl, hr8, hb, -⟩
      replace hx := hx.belowAll hb
      replace hB7 := hB7.trans (hb.mono hB7.size)
      clear hb hPV7
      go_wp2_with fail
      refine (eqByteS_same _ _ n _ _ f f w8 (hx.view (Nat.le_refl _) hv.byte) ((Row.ofIs hr8).view (Nat.le_refl _) hv.byte) (by omega) (fun _ _ => rfl)).mono ?_
      rintro e w9 ⟨rfl, hb⟩
      replace hB7 := hB7.trans (hb.mono hB7.size)
      clear hb hx hr8
      go_wp2
      go_ret
      exact ⟨rfl, hB7⟩
  ·
    go_simp
    have hb : Below wd.heap.size wd (wd.alloc (.cells #[.int .i64 0, .int .i64 0, .string ⟨#[]⟩] 38)) := (Below.refl _ _).alloc (Nat.le_refl _) _
    have hR := Box.new wd 0 0 ⟨#[]⟩
    have hAs : w.heap.size + 1 ≤ wd.heap.size := hPV.size
    replace hPV := hPV.step hb
    replace hB := hB.trans (hb.mono hB.size)
    clear hb
    refine hK.out _ _ hPV (fun hHeld => ?_)
    clear hK KK
    try simp only [Act.put, List.setIfInBounds_toArray, List.set_cons_zero, List.set_cons_succ]
    obtain ⟨Wa, hWa⟩ : ∃ Wa, Hid (Wa = wd.alloc (.cells #[.int .i64 0, .int .i64 0, .string ⟨#[]⟩] 38)) := ⟨_, rfl⟩
    rw [← hWa.out] at hPV hB hR hHeld ⊢
    clear hWa
    refine wpAnyH_ready (rs := [1]) (by kernel_rfl) (by simp) ?_
    refine AllReadyH.cons rfl (fun KK hK => ?_) AllReadyH.nil
    go_simp
    refine (toByteS_any ao n cap f _ (hv.below hB) (by omega)).mono ?_
    rintro e wa ⟨rfl, hra, hb, -⟩
    have hxa := Row.ofIs hra
    clear hra
    replace hR := hR.below hb
    replace hPV := hPV.step hb
    replace hB := hB.trans (hb.mono hB.size)
    clear hb
    go_wp2_with fail
    refine hK.out _ _ hPV (fun hHeld => ?_)
    clear hK KK
    try simp only [Act.put, List.setIfInBounds_toArray, List.set_cons_zero, List.set_cons_succ]
    refine wpAnyH_ready (rs := [3]) (by kernel_rfl) (by simp) ?_
    refine AllReadyH.cons rfl (fun KK hK => ?_) AllReadyH.nil
    go_simp
    refine (toPart_any c t nul d _).mono ?_
    rintro e wb ⟨rfl, hb⟩
    replace hxa := hxa.belowAll hb
    replace hR := hR.below hb
    replace hPV := hPV.step hb
    replace hB := hB.trans (hb.mono hB.size)
    clear hb
    go_wp2_with fail
    refine hK.out _ _ hPV (fun hHeld => ?_)
    clear hK KK
    try simp only [Act.put, List.setIfInBounds_toArray, List.set_cons_zero, List.set_cons_succ]
    refine wpAnyH_ready (rs := [5]) (by kernel_rfl) (by simp) ?_
    refine AllReadyH.cons rfl (fun KK hK => ?_) AllReadyH.nil
    go_simp
    refine (h1 _ _ _ (hxa.view (Nat.le_refl _) hv.byte)).mono ?_
    rintro e w2 ⟨rfl, hb⟩
    clear hxa h1
    replace hR := hR.below hb
    replace hPV := hPV.step hb
    replace hB := hB.trans (hb.mono hB.size)
    clear hb
    go_wp2_with fail
    refine hK.out _ _ hPV (fun hHeld => ?_)
    clear hK KK
    try simp only [Act.put, List.setIfInBounds_toArray, List.set_cons_zero, List.set_cons_succ]
    refine' wpAnyH_take (i := 6) (v := _) rfl (by kernel_rfl) (by kernel_rfl) (by kernel_rfl) (fun _ _ _ h => h) (Or.inl ⟨by kernel_rfl, ?he6⟩) (by assumption) ?re6
    case he6 => intro W hW; go_simp; all_goals with_reducible rfl
    change wpAnyH _ _ _ _ _ _ _ (Act.put _ (some 17) _) _
    simp only [Act.put, List.setIfInBounds_toArray, List.set_cons_zero, List.set_cons_succ]
    refine' wpAnyH_take (i := 7) (v := _) rfl (by kernel_rfl) (by kernel_rfl) (by kernel_rfl) (fun _ _ _ h => h) (Or.inl ⟨by kernel_rfl, ?he7⟩) (by assumption) ?re7
    case he7 => intro W hW; go_simp; all_goals with_reducible rfl
    change wpAnyH _ _ _ _ _ _ _ (Act.put _ (some 24) _) _
    simp only [Act.put, List.setIfInBounds_toArray, List.set_cons_zero, List.set_cons_succ]
    refine' wpAnyH_take (i := 8) (v := _) rfl (by kernel_rfl) (by kernel_rfl) (by kernel_rfl) (fun _ _ _ h => h) (Or.inl ⟨by kernel_rfl, ?he8⟩) (by assumption) ?re8
    case he8 => intro W hW; go_simp; all_goals with_reducible rfl
    change wpAnyH _ _ _ _ _ _ _ (Act.put _ (some 25) _) _
    simp only [Act.put, List.setIfInBounds_toArray, List.set_cons_zero, List.set_cons_succ]
    refine' wpAnyH_take (i := 9) (v := _) rfl (by kernel_rfl) (by kernel_rfl) (by kernel_rfl) (fun _ _ _ h => h) (Or.inl ⟨by kernel_rfl, ?he9⟩) (by assumption) ?re9
    case he9 => intro W hW; go_simp; all_goals with_reducible rfl
    change wpAnyH _ _ _ _ _ _ _ (Act.put _ (some 26) _) _
    simp only [Act.put, List.setIfInBounds_toArray, List.set_cons_zero, List.set_cons_succ]
    obtain ⟨x0, x1, x2⟩ := hR.cells
    obtain ⟨f0, f1, f2⟩ := hR.frozen
    have hV := hR.put k y s
    have hPV2 := ((hPV.setCell (B := wd.heap.size) (i := 0) hAs (.int .i64 k)).setCell (B := wd.heap.size) (i := 1) hAs (.int .i64 y)).setCell (B := wd.heap.size) (i := 2) hAs (.string s)
    clear hR hPV hB
    refine wpAnyH_ready (rs := [11]) (by kernel_rfl) (by simp) ?_
    refine AllReadyH.cons rfl (fun KK hK => ?_) AllReadyH.nil
    go_simp
    refine hK.out _ _ hPV2 (fun hHeld => ?_)
    clear hK KK
    try simp only [Act.put, List.setIfInBounds_toArray, List.set_cons_zero, List.set_cons_succ]
    refine' wpAnyH_take (i := 12) (v := _) rfl (by kernel_rfl) (by kernel_rfl) (by kernel_rfl) (fun _ _ _ h => h) (Or.inl ⟨by kernel_rfl, ?he12⟩) (by assumption) ?re12
    case he12 => intro W hW; go_simp; all_goals with_reducible rfl
    change wpAnyH _ _ _ _ _ _ _ (Act.put _ (some 8) _) _
    simp only [Act.put, List.setIfInBounds_toArray, List.set_cons_zero, List.set_cons_succ]
    refine' wpAnyH_take (i := 13) (v := _) rfl (by kernel_rfl) (by kernel_rfl) (by kernel_rfl) (fun _ _ _ h => h) (Or.inl ⟨by kernel_rfl, ?he13⟩) (by assumption) ?re13
    case he13 => intro W hW; go_simp; all_goals with_reducible rfl
    change wpAnyH _ _ _ _ _ _ _ (Act.put _ (some 9) _) _
    simp only [Act.put, List.setIfInBounds_toArray, List.set_cons_zero, List.set_cons_succ]
    refine wpAnyH_done (by kernel_rfl) ?_ _
    clear hHeld x0 x1 x2 f0 f1 f2
    obtain ⟨WW, hWW⟩ : ∃ WW, Hid (WW = ((w2.setCell ⟨wd.heap.size, 0, none⟩ (.int .i64 k)).setCell ⟨wd.heap.size, 1, none⟩ (.int .i64 y)).setCell ⟨wd.heap.size, 2, none⟩ (.string s)) := ⟨_, rfl⟩
    rw [← hWW.out] at hV hPV2 ⊢
    obtain ⟨AA, hAA⟩ : ∃ AA, Hid (AA = wd.heap.size) := ⟨_, rfl⟩
    rw [← hAA.out] at hV ⊢
    have hB2 := hPV2.all
    go_wp2_with fail
    refine (toByteS_any ao n cap f _ (hv.below hB2) (by omega)).mono ?_
    rintro e w3 ⟨rfl, hr3, hb, -⟩
    have hx := Row.ofIs hr3
    replace hV := hV.below hb
    have hPV3 := hPV2.step hb
    clear hr3 hb hPV2 hB2
    obtain ⟨c0, c1, c2, c3⟩ := hPV3.part
    go_wp2_with fail
    refine (toPart_any c t nul d w3).mono ?_
    rintro e w4 ⟨rfl, hb⟩
    replace hV := hV.below hb
    replace hx := hx.belowAll hb
    have hPV4 := hPV3.step hb
    clear hb hPV3 c0 c1 c2 c3
    go_wp2_with fail
    refine (h2 _ _ _ (hx.view (Nat.le_refl _) hv.byte)).mono ?_
    rintro e w5 ⟨rfl, hb⟩
    replace hV := hV.below hb
    replace hx := hx.belowAll hb
    have hPV5 := hPV4.step hb
    clear hb hPV4 h2
    have hb : Below w5.heap.size w5 (w5.alloc (.cells #[.int .i64 k, .int .i64 y, .string s] 38)) := (Below.refl _ _).alloc (Nat.le_refl _) _
    have hU := Box.new w5 k y s
    replace hV := hV.below hb
    replace hx := hx.belowAll hb
    have hPV6 := hPV5.step hb
    clear hb hPV5
    obtain ⟨a0, a1, a2⟩ := hV.cells
    obtain ⟨b0, b1, b2⟩ := hU.cells
    go_wp2_with fail
    refine (eqVal_same k y s _).mono ?_
    rintro e w7 ⟨rfl, hb⟩
    replace hx := hx.belowAll hb
    have hPV7 := hPV6.step hb
    clear hb hPV6 hV hU a0 a1 a2 b0 b1 b2
    have hB7 := hPV7.all
    have q1 : (q != q) = false := by simp
    have q2 : (ok != ok) = false := by cases ok <;> rfl
    go_wp2_with fail
    refine (toByteS_any ao n cap f w7 (hv.below hB7) (by omega)).mono ?_
    rintro e w8 ⟨rfl, hr8, hb, -⟩
    replace hx := hx.belowAll hb
    replace hB7 := hB7.trans (hb.mono hB7.size)
    clear hb hPV7
    go_wp2_with fail
    refine (eqByteS_same _ _ n _ _ f f w8 (hx.view (Nat.le_refl _) hv.byte) ((Row.ofIs hr8).view (Nat.le_refl _) hv.byte) (by omega) (fun _ _ => rfl)).mono ?_
    rintro e w9 ⟨rfl, hb⟩
    replace hB7 := hB7.trans (hb.mono hB7.size)
    clear hb hx hr8
    go_wp2
    go_ret
    exact ⟨rfl, hB7⟩
end Go.Proofs.Ytbcgonfihdpjnaq

/-
  A number's digits, plainly: what is read of them is the number, and only these digits are read as it (no needless nought, no sign ahead of nought).
-/
namespace Go.Proofs.Ytbcgonfihdpjnaq
open Go.Lib

theorem decFrom_snoc : ∀ (l : List UInt8) (acc n : Nat) (b : UInt8) (d : Nat), decFrom acc l = some n → digitVal b = some d → decFrom acc (l ++ [b]) = some (n * 10 + d)
  | [], acc, n, b, d, h, hd => by simp only [decFrom, Option.some.injEq] at h; subst h; simp [decFrom, hd]
  | c :: r, acc, n, b, d, h, hd => by
    simp only [decFrom, List.cons_append] at h ⊢
    split at h
    · exact decFrom_snoc r _ n b d h hd
    · cases h

theorem digitVal_of {d : Nat} (h : d < 10) : digitVal (UInt8.ofNat (48 + d)) = some d := by
  unfold digitVal
  have e : (UInt8.ofNat (48 + d)).toNat = 48 + d := by
    rw [UInt8.toNat_ofNat']
    omega
  rw [e, if_pos (by omega)]
  congr 1
  omega

theorem decDigits_ne (u : Nat) : decDigits u ≠ [] := by
  rw [decDigits]
  split <;> simp

theorem decFrom_digits : ∀ (u : Nat), decFrom 0 (decDigits u) = some u := by
  intro u
  induction u using Nat.strongRecOn with
  | _ u ih =>
    rw [decDigits]
    split
    · rename_i h
      simp only [decFrom, digitVal_of h, Nat.zero_mul, Nat.zero_add]
    · rename_i h
      rw [decFrom_snoc _ 0 (u / 10) _ (u % 10) (ih _ (by omega)) (digitVal_of (by omega))]
      congr 1
      omega

theorem decNat_digits (u : Nat) : decNat (decDigits u) = some u := by
  unfold decNat
  rw [if_neg (by simp [decDigits_ne]), decFrom_digits]

/-- A digit's byte. -/
def isDig (b : UInt8) : Prop := 48 ≤ b.toNat ∧ b.toNat ≤ 57

theorem digits_dig : ∀ (u : Nat), ∀ b ∈ decDigits u, isDig b := by
  intro u
  induction u using Nat.strongRecOn with
  | _ u ih =>
    intro b hb
    rw [decDigits] at hb
    split at hb
    · rename_i h
      simp only [List.mem_singleton] at hb
      subst hb
      unfold isDig
      rw [UInt8.toNat_ofNat']
      omega
    · rename_i h
      rw [List.mem_append] at hb
      rcases hb with hb | hb
      · exact ih _ (by omega) b hb
      · simp only [List.mem_singleton] at hb
        subst hb
        unfold isDig
        rw [UInt8.toNat_ofNat']
        omega

theorem digits_head (u : Nat) : ∃ c r, decDigits u = c :: r ∧ isDig c := by
  cases h : decDigits u with
  | nil => exact absurd h (decDigits_ne u)
  | cons c r => exact ⟨c, r, rfl, digits_dig u c (by rw [h]; simp)⟩

theorem digits_inj {u v : Nat} (h : decDigits u = decDigits v) : u = v := by
  have := decFrom_digits u
  rw [h, decFrom_digits v] at this
  exact (Option.some.inj this).symm

theorem itoa_pos {n : Int} (h : 0 ≤ n) : itoa n = decDigits n.toNat := by unfold itoa; rw [if_neg (by omega)]
theorem itoa_min {n : Int} (h : n < 0) : itoa n = 45 :: decDigits n.natAbs := by unfold itoa; rw [if_pos h]

theorem itoa_inj {m n : Int} (h : itoa m = itoa n) : m = n := by
  by_cases hm : m < 0
  · by_cases hn : n < 0
    · rw [itoa_min hm, itoa_min hn] at h
      have := digits_inj (List.cons.inj h).2
      omega
    · rw [itoa_min hm, itoa_pos (by omega)] at h
      obtain ⟨c, r, e, hc⟩ := digits_head n.toNat
      rw [e] at h
      have := (List.cons.inj h).1
      subst this
      exact absurd hc.1 (by decide)
  · by_cases hn : n < 0
    · rw [itoa_pos (by omega), itoa_min hn] at h
      obtain ⟨c, r, e, hc⟩ := digits_head m.toNat
      rw [e] at h
      have := (List.cons.inj h).1
      subst this
      exact absurd hc.1 (by decide)
    · rw [itoa_pos (by omega), itoa_pos (by omega)] at h
      have := digits_inj h
      omega

theorem nDigits_le : ∀ (k u : Nat), u < 10 ^ (k + 1) → nDigits u ≤ k + 1
  | 0, u, h => by rw [nDigits_small (by simpa using h)]; omega
  | k + 1, u, h => by
    by_cases h10 : u < 10
    · rw [nDigits_small h10]; omega
    · rw [nDigits_big h10]
      have := nDigits_le k (u / 10) (by rw [Nat.pow_succ] at h; omega)
      omega

theorem digits_len {u : Nat} (h : u < 10000000000000000) : (decDigits u).length ≤ 16 := by
  rw [decDigits_length]
  exact nDigits_le 15 u h

theorem atoi_itoa (n : Int) : atoi (itoa n) = some n := by
  by_cases hn : n < 0
  · rw [itoa_min hn]
    simp only [atoi, beq_self_eq_true, ↓reduceIte, decNat_digits, Option.map_some, Option.some.injEq]
    omega
  · rw [itoa_pos (by omega)]
    obtain ⟨c, r, e, hc⟩ := digits_head n.toNat
    have h1 : (c == 45) = false := by
      rw [beq_eq_false_iff_ne]; rintro rfl; exact absurd hc.1 (by decide)
    have h2 : (c == 43) = false := by
      rw [beq_eq_false_iff_ne]; rintro rfl; exact absurd hc.1 (by decide)
    have h3 : decNat (c :: r) = some n.toNat := by rw [← e]; exact decNat_digits _
    rw [e]
    simp only [atoi, h1, h2, Bool.false_eq_true, ↓reduceIte, h3, Option.map_some, Option.some.injEq]
    omega

/-- strconv.Atoi reads a number's own digits as the number. -/
theorem atoiAll_itoa {n : Int} (h0 : -10000000000000000 < n) (h1 : n < 10000000000000000) : atoiAll (itoa n) = .ok n := by
  rw [atoiAll_short _ (by
    by_cases hn : n < 0
    · rw [itoa_min hn, List.length_cons]
      have := digits_len (u := n.natAbs) (by omega)
      omega
    · rw [itoa_pos (by omega)]
      have := digits_len (u := n.toNat) (by omega)
      omega), atoi_itoa]
  rfl

/-! What the model reads. -/

/-- Digits without a needless nought. -/
theorem decFrom_lead : ∀ (l : List UInt8) (acc n : Nat), acc ≠ 0 → decFrom acc l = some n → decDigits n = decDigits acc ++ l ∧ acc ≤ n
  | [], acc, n, _, h => by simp only [decFrom, Option.some.injEq] at h; subst h; simp
  | b :: r, acc, n, h0, h => by
    simp only [decFrom] at h
    cases hd : digitVal b with
    | none => rw [hd] at h; cases h
    | some d =>
      rw [hd] at h
      have hb : isDig b ∧ d = b.toNat - 48 := by
        unfold digitVal at hd
        split at hd
        · rename_i h; exact ⟨h, (Option.some.inj hd).symm⟩
        · cases hd
      obtain ⟨hb, rfl⟩ := hb
      have hlt : b.toNat - 48 < 10 := by have := hb.2; omega
      obtain ⟨e, hle⟩ := decFrom_lead r _ n (by omega) h
      refine ⟨?_, by omega⟩
      rw [e]
      have e2 : decDigits (acc * 10 + (b.toNat - 48)) = decDigits acc ++ [b] := by
        rw [decDigits, dif_neg (by omega)]
        have e3 : (acc * 10 + (b.toNat - 48)) / 10 = acc := by omega
        have e4 : (acc * 10 + (b.toNat - 48)) % 10 = b.toNat - 48 := by omega
        have e5 : UInt8.ofNat (48 + (b.toNat - 48)) = b := by
          have := hb.1
          rw [show 48 + (b.toNat - 48) = b.toNat by omega]
          exact UInt8.ofNat_toNat
        rw [e3, e4, e5]
      rw [e2]
      simp

/-- A row of digits, of which the first is a nought only where it is the only one, is its number's own. -/
theorem decNat_own {c : UInt8} {r : List UInt8} {n : Nat} (h : decNat (c :: r) = some n) (h0 : c = 48 → r = []) : decDigits n = c :: r := by
  simp only [decNat, List.isEmpty_cons, Bool.false_eq_true, ↓reduceIte, decFrom] at h
  cases hd : digitVal c with
  | none => rw [hd] at h; cases h
  | some d =>
    rw [hd] at h
    simp only [Nat.zero_mul, Nat.zero_add] at h
    have hb : isDig c ∧ d = c.toNat - 48 := by
      unfold digitVal at hd
      split at hd
      · rename_i h; exact ⟨h, (Option.some.inj hd).symm⟩
      · cases hd
    obtain ⟨hb, rfl⟩ := hb
    have h5 : UInt8.ofNat (48 + (c.toNat - 48)) = c := by
      have := hb.1
      rw [show 48 + (c.toNat - 48) = c.toNat by omega]
      exact UInt8.ofNat_toNat
    by_cases hz : c.toNat - 48 = 0
    · have hc : c = 48 := by
        apply UInt8.toNat_inj.1
        have := hb.1
        show c.toNat = 48
        omega
      rw [h0 hc] at h ⊢
      simp only [decFrom, Option.some.injEq] at h
      subst h
      rw [decDigits, dif_pos (by have := hb.2; omega), h5]
    · obtain ⟨e, _⟩ := decFrom_lead r _ n hz h
      rw [e, decDigits, dif_pos (by have := hb.2; omega), h5]
      rfl

end Go.Proofs.Ytbcgonfihdpjnaq

/-
  Values, plainly: which are sound, their texts, and that a text has one value.
-/
namespace Go.Proofs.Ytbcgonfihdpjnaq
open Go.Lib

/-- A value within: a type for each kind. -/
inductive V where
  | null
  | int (n : Int)
  | num (n : Int)
  | text (s : ByteArray)
  | bool (b : Bool)

def noBytes : ByteArray := ⟨#[]⟩

def V.k : V → Int
  | .null => 0 | .int _ => 1 | .num _ => 2 | .text _ => 3 | .bool _ => 4
def V.n : V → Int
  | .int n => n | .num n => n | .bool b => (if b then 1 else 0) | _ => 0
def V.s : V → ByteArray
  | .text s => s | _ => noBytes
def V.rng : V → Bool
  | .int n => decide (-2147483648 ≤ n) && decide (n ≤ 2147483647)
  | .num n => decide (-1000000000000000 ≤ n) && decide (n ≤ 1000000000000000)
  | .text s => decide (s.size ≤ 30)
  | _ => true

/-- A byte that may be seen on a line, and is no quote. -/
def seenB (c : UInt8) : Bool := decide (32 ≤ c.toNat) && decide (c.toNat ≤ 126) && decide (c.toNat ≠ 39)
def plainL (l : List UInt8) : Bool := l.all seenB

def quotedL (s : ByteArray) : List UInt8 := if plainL s.data.toList then 39 :: (s.data.toList ++ [39]) else []
def V.txt : V → List UInt8
  | .null => [110, 117, 108, 108]
  | .int n => 105 :: itoa n
  | .num n => 110 :: itoa n
  | .text s => quotedL s
  | .bool b => if b then [121, 101, 115] else [110, 111]

def bytesOf (l : List UInt8) : ByteArray := ⟨l.toArray⟩

/-- The value of three fields, by the first. -/
def ofFields (k n : Int) (s : ByteArray) : Option V :=
  if k = 0 then some .null else if k = 1 then some (.int n) else if k = 2 then some (.num n) else if k = 3 then some (.text s) else if k = 4 then some (.bool (n != 0)) else none

/-- Sound: what the kind does not name is nothing, and what it names is in its range. -/
def okF (k n : Int) (s : ByteArray) : Bool :=
  match ofFields k n s with
  | none => false
  | some v => v.rng && (decide (v.k = k) && decide (v.n = n) && decide (v.s = s))

def textF (k n : Int) (s : ByteArray) : List UInt8 :=
  if okF k n s then match ofFields k n s with
    | none => []
    | some v => v.txt
  else []

theorem ofFields_v (v : V) : ofFields v.k v.n v.s = some v := by
  cases v with
  | bool b => cases b <;> simp [ofFields, V.k, V.n]
  | _ => simp [ofFields, V.k, V.n, V.s]

theorem okF_v (v : V) : okF v.k v.n v.s = v.rng := by
  unfold okF
  rw [ofFields_v]
  simp

theorem okF_iff {k n : Int} {s : ByteArray} : okF k n s = true ↔ ∃ v : V, v.rng = true ∧ v.k = k ∧ v.n = n ∧ v.s = s := by
  constructor
  · intro h
    unfold okF at h
    split at h
    · cases h
    · rename_i v _
      simp only [Bool.and_eq_true, decide_eq_true_eq] at h
      exact ⟨v, h.1, h.2.1.1, h.2.1.2, h.2.2⟩
  · rintro ⟨v, h, rfl, rfl, rfl⟩
    rw [okF_v, h]

theorem textF_v {v : V} (h : v.rng = true) : textF v.k v.n v.s = v.txt := by
  unfold textF
  rw [okF_v, h, ofFields_v]
  rfl

theorem V.ext {v u : V} (h1 : v.k = u.k) (h2 : v.n = u.n) (h3 : v.s = u.s) : v = u := by
  have := ofFields_v v
  rw [h1, h2, h3, ofFields_v] at this
  exact (Option.some.inj this).symm

/-! A text has one value. -/

theorem itoa_head (n : Int) : ∃ c r, itoa n = c :: r ∧ (c = 45 ∨ isDig c) := by
  by_cases h : n < 0
  · exact ⟨45, _, itoa_min h, .inl rfl⟩
  · obtain ⟨c, r, e, hc⟩ := digits_head n.toNat
    exact ⟨c, r, by rw [itoa_pos (by omega), e], .inr hc⟩

theorem itoa_not {n : Int} {c : UInt8} {r : List UInt8} (h : itoa n = c :: r) (h1 : c ≠ 45) (h2 : ¬ isDig c) : False := by
  obtain ⟨c', r', e, hc⟩ := itoa_head n
  rw [e] at h
  obtain ⟨rfl, -⟩ := List.cons.inj h
  rcases hc with hc | hc
  · exact h1 hc
  · exact h2 hc

theorem txt_inj {v u : V} (h : v.txt = u.txt) (hne : v.txt ≠ []) : v = u := by
  have hq : ∀ s, quotedL s ≠ [] → plainL s.data.toList = true ∧ quotedL s = 39 :: (s.data.toList ++ [39]) := by
    intro s hs
    unfold quotedL at hs ⊢
    by_cases hp : plainL s.data.toList = true
    · rw [if_pos hp]; exact ⟨hp, rfl⟩
    · rw [if_neg hp] at hs; exact absurd rfl hs
  have hdig : ¬ isDig 117 := by unfold isDig; decide
  have hdig2 : ¬ isDig 111 := by unfold isDig; decide
  cases v <;> cases u <;> simp only [V.txt] at h hne <;> first
    | rfl
    | (rename_i a b; have := itoa_inj (List.cons.inj h).2; subst this; rfl)
    | (rename_i a b; cases a <;> cases b <;> first | rfl | (exfalso; revert h; decide))
    | (exfalso; rename_i b; cases b <;> revert h <;> decide)
    | (exfalso; exact absurd (List.cons.inj h).1 (by decide))
    | (exfalso; exact itoa_not (List.cons.inj h).2.symm (by decide) hdig)
    | (exfalso; exact itoa_not (List.cons.inj h).2 (by decide) hdig)
    | (exfalso; revert h; split
       · intro h; exact absurd (List.cons.inj h).1 (by decide)
       · intro h; first | exact absurd (List.cons.inj h).1 (by decide) | exact itoa_not (List.cons.inj h).2 (by decide) hdig2 | exact itoa_not (List.cons.inj h).2.symm (by decide) hdig2)
    | (exfalso; rw [(hq _ hne).2] at h; revert h; split <;> (intro h; exact absurd (List.cons.inj h).1 (by decide)))
    | (exfalso; rw [(hq _ (by rw [← h]; exact hne)).2] at h; revert h; split <;> (intro h; exact absurd (List.cons.inj h).1 (by decide)))
    | (exfalso; rw [(hq _ hne).2] at h; exact absurd (List.cons.inj h).1 (by decide))
    | (exfalso; rw [(hq _ (by rw [← h]; exact hne)).2] at h; exact absurd (List.cons.inj h).1 (by decide))
    | skip
  rename_i s t
  have h2 := hq _ hne
  rw [h] at hne
  have h3 := hq _ hne
  rw [h2.2, h3.2] at h
  have := List.append_cancel_right (List.cons.inj h).2
  have e : s = t := by
    obtain ⟨⟨s⟩⟩ := s
    obtain ⟨⟨t⟩⟩ := t
    simp only at this
    rw [this]
  rw [e]

theorem textF_inj {k n : Int} {s : ByteArray} {k' n' : Int} {s' : ByteArray} (h : okF k n s = true) (h' : okF k' n' s' = true) (e : textF k n s = textF k' n' s') (hne : textF k n s ≠ []) : k = k' ∧ n = n' ∧ s = s' := by
  obtain ⟨v, hv, rfl, rfl, rfl⟩ := okF_iff.1 h
  obtain ⟨u, hu, rfl, rfl, rfl⟩ := okF_iff.1 h'
  rw [textF_v hv] at e hne
  rw [textF_v hu] at e
  obtain rfl := txt_inj e hne
  exact ⟨rfl, rfl, rfl⟩

/-- What is read of a text: the one value that has it; or nothing. -/
def Parsed (l : List UInt8) (k n : Int) (s : ByteArray) (b : Bool) : Prop :=
  (b = true ∧ okF k n s = true ∧ textF k n s = l ∧ l ≠ []) ∨ (b = false ∧ k = 0 ∧ n = 0 ∧ s = noBytes ∧ ∀ v : V, v.rng = true → v.txt = l → l = [])

theorem Parsed.unique {l : List UInt8} {k n k' n' : Int} {s s' : ByteArray} {b b' : Bool} (h : Parsed l k n s b) (h' : Parsed l k' n' s' b') : k = k' ∧ n = n' ∧ s = s' ∧ b = b' := by
  rcases h with ⟨rfl, h1, h2, h3⟩ | ⟨rfl, rfl, rfl, rfl, h⟩ <;> rcases h' with ⟨rfl, g1, g2, g3⟩ | ⟨rfl, rfl, rfl, rfl, g⟩
  · obtain ⟨a, b, c⟩ := textF_inj h1 g1 (h2.trans g2.symm) (by rw [h2]; exact h3)
    exact ⟨a, b, c, rfl⟩
  · exfalso
    obtain ⟨v, hv, rfl, rfl, rfl⟩ := okF_iff.1 h1
    rw [textF_v hv] at h2
    exact h3 (g v hv h2)
  · exfalso
    obtain ⟨v, hv, rfl, rfl, rfl⟩ := okF_iff.1 g1
    rw [textF_v hv] at g2
    exact g3 (h v hv g2)
  · exact ⟨rfl, rfl, rfl, rfl⟩

theorem Parsed.some {v : V} (hv : v.rng = true) (h : v.txt ≠ []) : Parsed v.txt v.k v.n v.s true :=
  .inl ⟨rfl, by rw [okF_v, hv], textF_v hv, h⟩

theorem Parsed.none {l : List UInt8} (h : ∀ v : V, v.rng = true → v.txt = l → l = []) : Parsed l 0 0 noBytes false :=
  .inr ⟨rfl, rfl, rfl, rfl, h⟩

theorem Parsed.exists (l : List UInt8) : ∃ k n s b, Parsed l k n s b := by
  by_cases h : ∃ v : V, v.rng = true ∧ v.txt = l ∧ l ≠ []
  · obtain ⟨v, hv, rfl, hne⟩ := h
    exact ⟨_, _, _, _, Parsed.some hv hne⟩
  · refine ⟨0, 0, noBytes, false, Parsed.none fun v hv e => ?_⟩
    by_cases hl : l = []
    · exact hl
    · exact absurd ⟨v, hv, e, hl⟩ h

end Go.Proofs.Ytbcgonfihdpjnaq

/-
  A number as its groups, plainly; lists of bytes that the call owns as rows.
-/
namespace Go.Proofs.Ytbcgonfihdpjnaq
open Go.RowKit
set_option maxRecDepth 4000

def groups (x : Int) : List Int := if x < 128 then [x] else if x < 16384 then [x % 128 + 128, x / 128] else [x % 128 + 128, x / 128 % 128 + 128, x / 16384]
theorem groups_last (x : Int) (h : x < 128) : groups x = [x] := by unfold groups; rw [if_pos h]
theorem groups_step (x : Int) (h : 128 ≤ x) (h1 : x ≤ 1000000) : groups x = (x % 128 + 128) :: groups (x / 128) := by
  unfold groups
  rw [if_neg (by omega)]
  by_cases h2 : x < 16384
  · rw [if_pos h2, if_pos (by omega)]
  · rw [if_neg h2, if_neg (by omega), if_pos (by omega)]
    have : x / 128 / 128 = x / 16384 := by omega
    rw [this]
theorem groups_len (x : Int) : 1 ≤ (groups x).length ∧ (groups x).length ≤ 3 := by
  unfold groups; split
  · simp
  · split <;> simp
theorem groups_byte (x : Int) (h0 : 0 ≤ x) (h1 : x ≤ 1000000) : ∀ y ∈ groups x, 0 ≤ y ∧ y ≤ 255 := by
  unfold groups; intro y hy; split at hy
  · simp at hy; omega
  · split at hy
    · simp at hy; omega
    · simp at hy; omega

def clampN (x : Int) : Int := if x < 0 then 0 else if 1000000 < x then 1000000 else x
theorem clampN_bd (x : Int) : 0 ≤ clampN x ∧ clampN x ≤ 1000000 := by unfold clampN; split <;> (try split) <;> omega

def lof (n : Nat) (f : Nat → Int) : List Int := (List.range n).map f
theorem lof_len (n : Nat) (f : Nat → Int) : (lof n f).length = n := by simp [lof]
theorem lof_get (n : Nat) (f : Nat → Int) (i : Nat) (h : i < n) : (lof n f).getD i 0 = f i := by simp [lof, h]
def bl (l : List Int) : List Value := l.map (Value.int .u8)
theorem bl_len (l : List Int) : (bl l).length = l.length := by simp [bl]
theorem bl_append (l m : List Int) : bl (l ++ m) = bl l ++ bl m := by simp [bl]
theorem bl_one (l : List Int) : ∀ u ∈ bl l, u.oneCell' = true := by
  intro u hu
  simp only [bl, List.mem_map] at hu
  obtain ⟨x, _, rfl⟩ := hu
  rfl

/-- What the call owns as a list of bytes, as a row. -/
theorem row_of_own {base : Nat} {t : TypeId} {v : Value} {N : Nat} {l : List Int} {w : World} (h : w.ownsRow base t 1 v N (bl l)) (hN : 0 < N) :
    ∃ g c, v = .slice (some ⟨g, 0, none⟩) N c ∧ base ≤ g ∧ N ≤ c ∧ Row t w g N (fun i => l.getD i 0) := by
  obtain ⟨hl, h⟩ := h
  rcases h with ⟨_, h0⟩ | ⟨g, c, cur, rfl, hb, hg, hnc, _, hcs, ht⟩
  · omega
  · refine ⟨g, c, rfl, hb, hnc, cur, hg, by omega, fun i hi => ?_⟩
    have e : (bl l)[i]? = some (.int .u8 (l.getD i 0)) := by
      have : i < l.length := by rw [bl_len] at hl; omega
      simp [bl, this]
    rw [← ht, List.getElem?_take, if_pos (by omega)] at e
    simpa using e

theorem row_of_own' {base : Nat} {t : TypeId} {v : Value} {N : Nat} {l : List Int} {w : World} (h : w.ownsRow base t 1 v N (bl l)) (hv : v ≠ .slice none 0 0) :
    ∃ g c, v = .slice (some ⟨g, 0, none⟩) N c ∧ base ≤ g ∧ N ≤ c ∧ Row t w g N (fun i => l.getD i 0) := by
  obtain ⟨hl, h⟩ := h
  rcases h with ⟨h0, _⟩ | ⟨g, c, cur, rfl, hb, hg, hnc, _, hcs, ht⟩
  · exact absurd h0 hv
  · refine ⟨g, c, rfl, hb, hnc, cur, hg, by omega, fun i hi => ?_⟩
    have e : (bl l)[i]? = some (.int .u8 (l.getD i 0)) := by
      have : i < l.length := by rw [bl_len] at hl; omega
      simp [bl, this]
    rw [← ht, List.getElem?_take, if_pos (by omega)] at e
    simpa using e
theorem row_of_owned {base : Nat} {t : TypeId} {g N c : Nat} {l : List Int} {w : World} (h : w.ownsRow base t 1 (.slice (some ⟨g, 0, none⟩) N c) N (bl l)) : Row t w g N (fun i => l.getD i 0) := by
  obtain ⟨hl, h⟩ := h
  rcases h with ⟨h, _⟩ | ⟨g', c', cur, e, hb, hg, hnc, _, hcs, ht⟩
  · cases h
  · simp only [Value.slice.injEq, Option.some.injEq, Addr.mk.injEq, and_true, true_and] at e
    obtain ⟨rfl, rfl⟩ := e
    refine ⟨cur, hg, by omega, fun i hi => ?_⟩
    have e : (bl l)[i]? = some (.int .u8 (l.getD i 0)) := by
      have : i < l.length := by rw [bl_len] at hl; omega
      simp [bl, this]
    rw [← ht, List.getElem?_take, if_pos (by omega)] at e
    simpa using e
theorem lof_self (l : List Int) : lof l.length (fun i => l.getD i 0) = l := by
  apply List.ext_getElem
  · simp [lof]
  · intro i h1 h2
    simp [lof, h2]

/-- One new cell. -/
theorem cellNew (w : World) (x : Value) (t : TypeId) : ∀ j u, [x][j]? = some u → (w.alloc (.cells #[x] t)).cell? ((⟨w.heap.size, 0, none⟩ : Addr).add j) = some u := by
  intro j u hj
  match j, hj with
  | 0, hj => simp at hj; subst hj; simp [Addr.add]

/-- The cells of a slice that reads, as the law on appending asks for them. -/
theorem cells_of_view {w : World} {b off n cap : Nat} {f : Nat → Int} (h : View w (some ⟨b, off, none⟩) n cap f) : ∀ j u, (bl (lof n f))[j]? = some u → w.cell? ((⟨b, off, none⟩ : Addr).add j) = some u := by
  intro j u hu
  have hj : j < n := by
    by_cases hj : j < n
    · exact hj
    · rw [List.getElem?_eq_none (by rw [bl_len, lof_len]; omega)] at hu; cases hu
  obtain ⟨b', off', e, _, hc⟩ := h.cells (by omega)
  simp only [Option.some.injEq, Addr.mk.injEq, and_true] at e
  obtain ⟨rfl, rfl⟩ := e
  have ea : (⟨b, off, none⟩ : Addr).add j = ⟨b, off + j, none⟩ := by unfold Addr.add; split <;> simp_all
  rw [ea, hc j hj]
  simp [bl, lof, hj] at hu
  rw [hu]

theorem put_byte (n : Nat) (f : Nat → Int) (gs : List Int) (hf : ∀ i, i < n → 0 ≤ f i ∧ f i ≤ 255) (hg : ∀ y ∈ gs, 0 ≤ y ∧ y ≤ 255) : ∀ i, i < n + gs.length → 0 ≤ (lof n f ++ gs).getD i 0 ∧ (lof n f ++ gs).getD i 0 ≤ 255 := by
  intro i hi
  by_cases h : i < n
  · have e : (lof n f ++ gs).getD i 0 = f i := by
      rw [← lof_get n f i h, List.getD_eq_getElem?_getD, List.getD_eq_getElem?_getD, List.getElem?_append_left (by rw [lof_len]; exact h)]
    rw [e]; exact hf i h
  · have e : (lof n f ++ gs).getD i 0 = gs.getD (i - n) 0 := by
      rw [List.getD_eq_getElem?_getD, List.getD_eq_getElem?_getD, List.getElem?_append_right (by rw [lof_len]; omega), lof_len]
    rw [e]
    have hi' : i - n < gs.length := by omega
    have : gs.getD (i - n) 0 = gs[i - n] := by simp [hi']
    rw [this]
    exact hg _ (List.getElem_mem hi')

end Go.Proofs.Ytbcgonfihdpjnaq

/-
  A text's bytes as numbers; what is put of a text.
-/
namespace Go.Proofs.Ytbcgonfihdpjnaq
open Go.RowKit
set_option maxRecDepth 4000

/-- A text's bytes as numbers. -/
def sl (s : ByteArray) : List Int := s.data.toList.map (fun b => (b.toNat : Int))
theorem sl_len (s : ByteArray) : (sl s).length = s.size := by unfold sl; rw [List.length_map, Array.length_toList]; rfl
theorem sl_byte (s : ByteArray) : ∀ y ∈ sl s, 0 ≤ y ∧ y ≤ 255 := by
  intro y hy
  simp only [sl, List.mem_map] at hy
  obtain ⟨b, _, rfl⟩ := hy
  have := b.toNat_lt
  omega
theorem sl_cells (s : ByteArray) : Lib.strCells s = bl (sl s) := by simp [Lib.strCells, bl, sl]

/-- What is put: the bytes, the count's groups, the text. -/
def textL (n : Nat) (f : Nat → Int) (s : ByteArray) : List Int := lof n f ++ groups (clampN s.size) ++ sl s
theorem textL_len (n : Nat) (f : Nat → Int) (s : ByteArray) : (textL n f s).length = n + (groups (clampN s.size)).length + s.size := by
  unfold textL; rw [List.length_append, List.length_append, lof_len, sl_len]

end Go.Proofs.Ytbcgonfihdpjnaq

