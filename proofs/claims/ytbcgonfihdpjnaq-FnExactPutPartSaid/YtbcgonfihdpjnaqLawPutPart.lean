/-
  The walk over the law FnExactPutPart, out of what its callees come to: it answers true and writes nothing that was there.
-/
import Derived.Test.YtbcgonfihdpjnaqPartTwo
import Derived.Test.YtbcgonfihdpjnaqPartHelp
import Derived.Test.YtbcgonfihdpjnaqValHelp
import Derived.Test.YtbcgonfihdpjnaqMark
import Derived.Deep.RegionHeld3
namespace Go.Proofs.Ytbcgonfihdpjnaq
open Go.RowKit
set_option maxRecDepth 4000

/-- The function fn, at a slice of bytes that reads as f, answers N bytes F in memory of its own, and writes nothing that was there. -/
def MakesPart (fn : Nat) (c t : Int) (nul d : Bool) (k x : Int) (s : ByteArray) (n : Nat) (f : Nat → Int) (N : Nat) (F : Nat → Int) : Prop :=
  ∀ (b cap : Nat) (w : World), View w (some ⟨b, 0, none⟩) n cap f → Calls Try.prog fn #[.slice (some ⟨b, 0, none⟩) n cap, .agg #[.int .i64 c, .int .i64 t, .bool nul, .bool d], .agg #[.int .i64 k, .int .i64 x, .string s]] w fun e w' =>
    ∃ g c, e = .returned (.slice (some ⟨g, 0, none⟩) N c) ∧ w.heap.size ≤ g ∧ N ≤ c ∧ Row 5 w' g N F ∧ Below w.heap.size w w'

set_option linter.unusedSimpArgs false in
set_option maxHeartbeats 8000000 in
theorem lawPutPart (ao : Option Addr) (n cap : Nat) (f : Nat → Int) (c t : Int) (nul d : Bool) (k x : Int) (s : ByteArray) (N : Nat) (F : Nat → Int) (w : World) (hv : View w ao n cap f) (hs : s.size ≤ maxLen)
    (h1 : n ≤ 1048576 → s.size ≤ 1048576 → MakesPart 16 c t nul d k x s n f N F) (h2 : n ≤ 1048576 → s.size ≤ 1048576 → MakesPart 18 c t nul d k x s n f N F) (hN : N ≤ 281474976710656) (hF : ∀ i, i < N → 0 ≤ F i ∧ F i ≤ 255) :
    Calls Try.prog 5 #[.slice ao n cap, .agg #[.int .i64 c, .int .i64 t, .bool nul, .bool d], .agg #[.int .i64 k, .int .i64 x, .string s]] w fun e w' => e = .returned (.bool true) ∧ Below w.heap.size w w' := by
  have h0 := PV.start w 29 35 c t nul d k x s
  by_cases hbig0 : 1048576 < n
  · have hz : (1048576 : Int) < (n : Int) := by omega
    go_enter Try.func5, Try.ntmps5
    go_wp2
    go_ret
    exact ⟨rfl, h0.all⟩
  have hz0 : (n : Int) ≤ 1048576 := by omega
  by_cases hsb : (1048576 : Int) < (s.size : Int)
  · go_enter Try.func5, Try.ntmps5
    go_wp2_with fail
    refine (szVal_big k x s 1048576 _ hsb (by omega) hs).mono ?_
    rintro e w1 ⟨rfl, hB1⟩
    have h9 : Hid _ := h0.step hB1
    clear hB1 h0
    go_wp2
    go_ret
    exact ⟨rfl, h9.out.all⟩
  have hb1 : (s.size : Int) ≤ 1048576 := by omega
  have hb2 : ¬ 1048576 - (s.size : Int) < 0 := by omega
  replace h1 := h1 (by omega) (by omega)
  replace h2 := h2 (by omega) (by omega)
  go_enter Try.func5, Try.ntmps5
  go_wp2_with fail
  refine (szVal_small k x s 1048576 _ hb1 (by omega)).mono ?_
  rintro e w1 ⟨rfl, hB1⟩
  have hPV := h0.step hB1
  have hB := hPV.all
  clear hB1 h0
  go_wp2_with fail
  have hb : Below w1.heap.size w1 w1.drew := (Below.refl _ _).drew
  replace hPV := hPV.step hb
  replace hB := hB.trans (hb.mono hB.size)
  clear hb
  refine wp_region_held_drew (S := PV w 29 35 c t nul d k x s) (by kernel_rfl) (hPV) (fun hHeld => ?_)
  refine' wpAnyH_take (i := 0) (v := _) rfl (by kernel_rfl) (by kernel_rfl) (by kernel_rfl) (fun _ _ _ h => h) (Or.inl ⟨by kernel_rfl, ?ha0⟩) (by assumption) ?ra0
  case ha0 => intro W hW; go_simp; all_goals with_reducible rfl
  change wpAnyH _ _ _ _ _ _ _ (Act.put _ (some 23) _) _
  simp only [Act.put, List.setIfInBounds_toArray, List.set_cons_zero, List.set_cons_succ]
  refine' wpAnyH_take (i := 2) (v := _) rfl (by kernel_rfl) (by kernel_rfl) (by kernel_rfl) (fun _ _ _ h => h) (Or.inl ⟨by kernel_rfl, ?ha2⟩) (by assumption) ?ra2
  case ha2 => intro W hW; obtain ⟨c0, c1, c2, c3⟩ := PV.part hW; go_simp; all_goals with_reducible rfl
  change wpAnyH _ _ _ _ _ _ _ (Act.put _ (some 25) _) _
  simp only [Act.put, List.setIfInBounds_toArray, List.set_cons_zero, List.set_cons_succ]
  refine' wpAnyH_take (i := 4) (v := _) rfl (by kernel_rfl) (by kernel_rfl) (by kernel_rfl) (fun _ _ _ h => h) (Or.inl ⟨by kernel_rfl, ?ha4⟩) (by assumption) ?ra4
  case ha4 => intro W hW; obtain ⟨c0, c1, c2⟩ := PV.val hW; go_simp; all_goals with_reducible rfl
  change wpAnyH _ _ _ _ _ _ _ (Act.put _ (some 27) _) _
  simp only [Act.put, List.setIfInBounds_toArray, List.set_cons_zero, List.set_cons_succ]
  refine wpAnyH_ready (rs := [1]) (by kernel_rfl) (by simp) ?_
  refine AllReadyH.cons rfl (fun KK hK => ?_) AllReadyH.nil
  go_simp
  refine (toByteS_any ao n cap f _ (hv.below hB) (by omega)).mono ?_
  rintro e wa ⟨rfl, hra, hb, -⟩
  have hxa := Row.ofIs hra
  clear hra
  replace hPV := hPV.step hb
  replace hB := hB.trans (hb.mono hB.size)
  clear hb
  go_wp2_with fail
  refine hK.out _ _ hPV (fun hHeld => ?_)
  clear hK KK
  try simp only [Act.put, List.setIfInBounds_toArray, List.set_cons_zero, List.set_cons_succ]
  refine wpAnyH_ready (rs := [3]) (by kernel_rfl) (by simp) ?_
  refine AllReadyH.cons rfl (fun KK hK => ?_) AllReadyH.nil
  go_simp
  refine (toPart_any c t nul d _).mono ?_
  rintro e wb ⟨rfl, hb⟩
  replace hxa := hxa.belowAll hb
  replace hPV := hPV.step hb
  replace hB := hB.trans (hb.mono hB.size)
  clear hb
  go_wp2_with fail
  refine hK.out _ _ hPV (fun hHeld => ?_)
  clear hK KK
  try simp only [Act.put, List.setIfInBounds_toArray, List.set_cons_zero, List.set_cons_succ]
  refine wpAnyH_ready (rs := [5]) (by kernel_rfl) (by simp) ?_
  refine AllReadyH.cons rfl (fun KK hK => ?_) AllReadyH.nil
  go_simp
  refine (toVal_any k x s _).mono ?_
  rintro e wc ⟨rfl, hb⟩
  replace hxa := hxa.belowAll hb
  replace hPV := hPV.step hb
  replace hB := hB.trans (hb.mono hB.size)
  clear hb
  go_wp2_with fail
  refine hK.out _ _ hPV (fun hHeld => ?_)
  clear hK KK
  try simp only [Act.put, List.setIfInBounds_toArray, List.set_cons_zero, List.set_cons_succ]
  refine wpAnyH_ready (rs := [6]) (by kernel_rfl) (by simp) ?_
  refine AllReadyH.cons rfl (fun KK hK => ?_) AllReadyH.nil
  go_simp
  refine (h1 _ _ _ (hxa.view (Nat.le_refl _) hv.byte)).mono ?_
  rintro e w2 ⟨gw, cw, rfl, hgw, hcw, hw, hb⟩
  have hlw := hw.lt
  replace hxa := hxa.belowAll hb
  replace hPV := hPV.step hb
  replace hB := hB.trans (hb.mono hB.size)
  clear hb
  go_wp2_with fail
  refine hK.out _ _ hPV (fun hHeld => ?_)
  clear hK KK
  try simp only [Act.put, List.setIfInBounds_toArray, List.set_cons_zero, List.set_cons_succ]
  refine' wpAnyH_take (i := 7) (v := _) rfl (by kernel_rfl) (by kernel_rfl) (by kernel_rfl) (fun _ _ _ h => h) (Or.inl ⟨by kernel_rfl, ?ha7⟩) (by assumption) ?ra7
  case ha7 => intro W hW; go_simp; all_goals with_reducible rfl
  change wpAnyH _ _ _ _ _ _ _ (Act.put _ (some 8) _) _
  simp only [Act.put, List.setIfInBounds_toArray, List.set_cons_zero, List.set_cons_succ]
  refine wpAnyH_done (by kernel_rfl) ?_ _
  clear hxa h1
  go_wp2_with fail
  refine (toByteS_any ao n cap f _ (hv.below hB) (by omega)).mono ?_
  rintro e w3 ⟨rfl, hr3, hb, -⟩
  have hx := Row.ofIs hr3
  have hs2 : w.heap.size + 2 ≤ w2.heap.size := hPV.size
  have hlx := hx.lt
  clear hr3
  replace hw := hw.belowAll hb
  replace hPV := hPV.step hb
  replace hB := hB.trans (hb.mono hB.size)
  clear hb
  go_wp2_with fail
  have hb : Below w3.heap.size w3 w3.drew := (Below.refl _ _).drew
  replace hw := hw.belowAll hb
  replace hx := hx.belowAll hb
  replace hPV := hPV.step hb
  replace hB := hB.trans (hb.mono hB.size)
  clear hb
  refine wp_region_held_drew (S := PV w 29 35 c t nul d k x s) (by kernel_rfl) (hPV) (fun hHeld => ?_)
  refine' wpAnyH_take (i := 0) (v := _) rfl (by kernel_rfl) (by kernel_rfl) (by kernel_rfl) (fun _ _ _ h => h) (Or.inl ⟨by kernel_rfl, ?hb0⟩) (by assumption) ?rb0
  case hb0 => intro W hW; go_simp; all_goals with_reducible rfl
  change wpAnyH _ _ _ _ _ _ _ (Act.put _ (some 32) _) _
  simp only [Act.put, List.setIfInBounds_toArray, List.set_cons_zero, List.set_cons_succ]
  refine' wpAnyH_take (i := 1) (v := _) rfl (by kernel_rfl) (by kernel_rfl) (by kernel_rfl) (fun _ _ _ h => h) (Or.inl ⟨by kernel_rfl, ?hb1⟩) (by assumption) ?rb1
  case hb1 => intro W hW; obtain ⟨c0, c1, c2, c3⟩ := PV.part hW; go_simp; all_goals with_reducible rfl
  change wpAnyH _ _ _ _ _ _ _ (Act.put _ (some 33) _) _
  simp only [Act.put, List.setIfInBounds_toArray, List.set_cons_zero, List.set_cons_succ]
  refine' wpAnyH_take (i := 3) (v := _) rfl (by kernel_rfl) (by kernel_rfl) (by kernel_rfl) (fun _ _ _ h => h) (Or.inl ⟨by kernel_rfl, ?hb3⟩) (by assumption) ?rb3
  case hb3 => intro W hW; obtain ⟨c0, c1, c2⟩ := PV.val hW; go_simp; all_goals with_reducible rfl
  change wpAnyH _ _ _ _ _ _ _ (Act.put _ (some 35) _) _
  simp only [Act.put, List.setIfInBounds_toArray, List.set_cons_zero, List.set_cons_succ]
  refine wpAnyH_ready (rs := [2]) (by kernel_rfl) (by simp) ?_
  refine AllReadyH.cons rfl (fun KK hK => ?_) AllReadyH.nil
  go_simp
  refine (toPart_any c t nul d _).mono ?_
  rintro e wd ⟨rfl, hb⟩
  have hsd := hb.size
  have hsd2 : w3.heap.size ≤ wd.heap.size := hsd
  replace hw := hw.belowAll hb
  replace hx := hx.belowAll hb
  replace hPV := hPV.step hb
  replace hB := hB.trans (hb.mono hB.size)
  clear hb
  go_wp2_with fail
  refine hK.out _ _ hPV (fun hHeld => ?_)
  clear hK KK
  try simp only [Act.put, List.setIfInBounds_toArray, List.set_cons_zero, List.set_cons_succ]
  refine wpAnyH_ready (rs := [4]) (by kernel_rfl) (by simp) ?_
  refine AllReadyH.cons rfl (fun KK hK => ?_) AllReadyH.nil
  go_simp
  refine (toVal_any k x s _).mono ?_
  rintro e we ⟨rfl, hb⟩
  have hse := hb.size
  replace hw := hw.belowAll hb
  replace hx := hx.belowAll hb
  replace hPV := hPV.step hb
  replace hB := hB.trans (hb.mono hB.size)
  clear hb
  go_wp2_with fail
  refine hK.out _ _ hPV (fun hHeld => ?_)
  clear hK KK
  try simp only [Act.put, List.setIfInBounds_toArray, List.set_cons_zero, List.set_cons_succ]
  refine wpAnyH_ready (rs := [5]) (by kernel_rfl) (by simp) ?_
  refine AllReadyH.cons rfl (fun KK hK => ?_) AllReadyH.nil
  go_simp
  refine (h2 _ _ _ (hx.view (Nat.le_refl _) hv.byte)).mono ?_
  rintro e w4 ⟨gg, cg, rfl, hgg, hcg, hg, hb⟩
  replace hw := hw.belowAll hb
  replace hx := hx.belowAll hb
  replace hPV := hPV.step hb
  replace hB := hB.trans (hb.mono hB.size)
  clear hb
  go_wp2_with fail
  refine hK.out _ _ hPV (fun hHeld => ?_)
  clear hK KK
  try simp only [Act.put, List.setIfInBounds_toArray, List.set_cons_zero, List.set_cons_succ]
  refine' wpAnyH_take (i := 6) (v := _) rfl (by kernel_rfl) (by kernel_rfl) (by kernel_rfl) (fun _ _ _ h => h) (Or.inl ⟨by kernel_rfl, ?hb6⟩) (by assumption) ?rb6
  case hb6 => intro W hW; go_simp; all_goals with_reducible rfl
  change wpAnyH _ _ _ _ _ _ _ (Act.put _ (some 10) _) _
  simp only [Act.put, List.setIfInBounds_toArray, List.set_cons_zero, List.set_cons_succ]
  refine wpAnyH_done (by kernel_rfl) ?_ _
  go_wp2_with fail
  refine (eqByteS_same _ _ N _ _ F F w4 (hg.view hcg hF) (hw.view hcw hF) hN (fun _ _ => rfl)).mono ?_
  rintro e w5 ⟨rfl, hb⟩
  replace hg := hg.belowAll hb
  replace hw := hw.belowAll hb
  replace hx := hx.belowAll hb
  replace hPV := hPV.step hb
  replace hB := hB.trans (hb.mono hB.size)
  clear hb
  go_wp2_with fail
  refine (toByteS_any ao n cap f w5 (hv.below hB) (by omega)).mono ?_
  rintro e w6 ⟨rfl, hr6, hb, -⟩
  have hy := Row.ofIs hr6
  clear hr6
  replace hg := hg.belowAll hb
  replace hw := hw.belowAll hb
  replace hx := hx.belowAll hb
  replace hPV := hPV.step hb
  replace hB := hB.trans (hb.mono hB.size)
  clear hb
  go_wp2_with fail
  refine (eqByteS_same _ _ n _ _ f f w6 (hx.view (Nat.le_refl _) hv.byte) (hy.view (Nat.le_refl _) hv.byte) (by omega) (fun _ _ => rfl)).mono ?_
  rintro e w7 ⟨rfl, hb⟩
  replace hg := hg.belowAll hb
  replace hw := hw.belowAll hb
  replace hx := hx.belowAll hb
  replace hPV := hPV.step hb
  replace hB := hB.trans (hb.mono hB.size)
  clear hb
  clear hy
  go_wp2_with fail
  refine (mark_any _ n _ f 1 w7 hx (by omega) (by omega)).mono ?_
  rintro e w8 ⟨rfl, -, ho8⟩
  replace hg := ho8.row hg (by omega)
  replace hw := ho8.row hw (by omega)
  replace hPV := hPV.upto (ho8.below (B := w.heap.size + 2) (by omega)) (Nat.le_refl _)
  replace hB := hB.trans (ho8.below (B := w.heap.size) (by omega))
  clear hx ho8
  have hk : (0 : Int) ≤ 1 + (n : Int) := by omega
  go_wp2_with fail
  refine (eqByteS_same _ _ N _ _ F F w8 (hg.view hcg hF) (hw.view hcw hF) hN (fun _ _ => rfl)).mono ?_
  rintro e w9 ⟨rfl, hb⟩
  replace hg := hg.belowAll hb
  replace hw := hw.belowAll hb
  replace hPV := hPV.step hb
  replace hB := hB.trans (hb.mono hB.size)
  clear hb
  go_wp2_with fail
  refine (mark_any _ N _ F 1 w9 hg (by omega) (by omega)).mono ?_
  rintro e w10 ⟨rfl, hm, ho10⟩
  replace hw := ho10.row hw (by omega)
  replace hPV := hPV.upto (ho10.below (B := w.heap.size + 2) (by omega)) (Nat.le_refl _)
  replace hB := hB.trans (ho10.below (B := w.heap.size) (by omega))
  clear hg ho10
  have hHm : Hid (∀ i : Nat, i < N → 0 ≤ ((1 : Int) + i) % 256 ∧ ((1 : Int) + i) % 256 ≤ 255) := fun i _ => by omega
  have hkN : (0 : Int) ≤ 1 + (N : Int) := by omega
  go_wp2_with fail
  refine (held_any _ N _ _ 1 w10 (hm.view hcg hHm.out) (fun _ _ => rfl) (by omega) (by omega)).mono ?_
  rintro e w11 ⟨rfl, hb⟩
  replace hm := hm.belowAll hb
  replace hw := hw.belowAll hb
  replace hPV := hPV.step hb
  replace hB := hB.trans (hb.mono hB.size)
  clear hb
  go_wp2_with fail
  have hb : Below w11.heap.size w11 w11.drew := (Below.refl _ _).drew
  replace hm := hm.belowAll hb
  replace hw := hw.belowAll hb
  replace hPV := hPV.step hb
  replace hB := hB.trans (hb.mono hB.size)
  clear hb
  refine wp_region_held_drew (S := PV w 29 35 c t nul d k x s) (by kernel_rfl) (hPV) (fun hHeld => ?_)
  refine' wpAnyH_take (i := 0) (v := _) rfl (by kernel_rfl) (by kernel_rfl) (by kernel_rfl) (fun _ _ _ h => h) (Or.inl ⟨by kernel_rfl, ?hc0⟩) (by assumption) ?rc0
  case hc0 => intro W hW; go_simp; all_goals with_reducible rfl
  change wpAnyH _ _ _ _ _ _ _ (Act.put _ (some 69) _) _
  simp only [Act.put, List.setIfInBounds_toArray, List.set_cons_zero, List.set_cons_succ]
  refine' wpAnyH_take (i := 2) (v := _) rfl (by kernel_rfl) (by kernel_rfl) (by kernel_rfl) (fun _ _ _ h => h) (Or.inl ⟨by kernel_rfl, ?hc2⟩) (by assumption) ?rc2
  case hc2 => intro W hW; obtain ⟨c0, c1, c2, c3⟩ := PV.part hW; go_simp; all_goals with_reducible rfl
  change wpAnyH _ _ _ _ _ _ _ (Act.put _ (some 71) _) _
  simp only [Act.put, List.setIfInBounds_toArray, List.set_cons_zero, List.set_cons_succ]
  refine' wpAnyH_take (i := 4) (v := _) rfl (by kernel_rfl) (by kernel_rfl) (by kernel_rfl) (fun _ _ _ h => h) (Or.inl ⟨by kernel_rfl, ?hc4⟩) (by assumption) ?rc4
  case hc4 => intro W hW; obtain ⟨c0, c1, c2⟩ := PV.val hW; go_simp; all_goals with_reducible rfl
  change wpAnyH _ _ _ _ _ _ _ (Act.put _ (some 73) _) _
  simp only [Act.put, List.setIfInBounds_toArray, List.set_cons_zero, List.set_cons_succ]
  refine wpAnyH_ready (rs := [1]) (by kernel_rfl) (by simp) ?_
  refine AllReadyH.cons rfl (fun KK hK => ?_) AllReadyH.nil
  go_simp
  refine (toByteS_any ao n cap f _ (hv.below hB) (by omega)).mono ?_
  rintro e wf ⟨rfl, hrf, hb, -⟩
  have hz := Row.ofIs hrf
  clear hrf
  replace hm := hm.belowAll hb
  replace hw := hw.belowAll hb
  replace hPV := hPV.step hb
  replace hB := hB.trans (hb.mono hB.size)
  clear hb
  go_wp2_with fail
  refine hK.out _ _ hPV (fun hHeld => ?_)
  clear hK KK
  try simp only [Act.put, List.setIfInBounds_toArray, List.set_cons_zero, List.set_cons_succ]
  refine wpAnyH_ready (rs := [3]) (by kernel_rfl) (by simp) ?_
  refine AllReadyH.cons rfl (fun KK hK => ?_) AllReadyH.nil
  go_simp
  refine (toPart_any c t nul d _).mono ?_
  rintro e wg ⟨rfl, hb⟩
  replace hm := hm.belowAll hb
  replace hw := hw.belowAll hb
  replace hz := hz.belowAll hb
  replace hPV := hPV.step hb
  replace hB := hB.trans (hb.mono hB.size)
  clear hb
  go_wp2_with fail
  refine hK.out _ _ hPV (fun hHeld => ?_)
  clear hK KK
  try simp only [Act.put, List.setIfInBounds_toArray, List.set_cons_zero, List.set_cons_succ]
  refine wpAnyH_ready (rs := [5]) (by kernel_rfl) (by simp) ?_
  refine AllReadyH.cons rfl (fun KK hK => ?_) AllReadyH.nil
  go_simp
  refine (toVal_any k x s _).mono ?_
  rintro e wh ⟨rfl, hb⟩
  replace hm := hm.belowAll hb
  replace hw := hw.belowAll hb
  replace hz := hz.belowAll hb
  replace hPV := hPV.step hb
  replace hB := hB.trans (hb.mono hB.size)
  clear hb
  go_wp2_with fail
  refine hK.out _ _ hPV (fun hHeld => ?_)
  clear hK KK
  try simp only [Act.put, List.setIfInBounds_toArray, List.set_cons_zero, List.set_cons_succ]
  refine wpAnyH_ready (rs := [6]) (by kernel_rfl) (by simp) ?_
  refine AllReadyH.cons rfl (fun KK hK => ?_) AllReadyH.nil
  go_simp
  refine (h2 _ _ _ (hz.view (Nat.le_refl _) hv.byte)).mono ?_
  rintro e w13 ⟨gh, ch, rfl, hgh, hch, hh, hb⟩
  replace hm := hm.belowAll hb
  replace hw := hw.belowAll hb
  replace hz := hz.belowAll hb
  replace hPV := hPV.step hb
  replace hB := hB.trans (hb.mono hB.size)
  clear hb
  go_wp2_with fail
  refine hK.out _ _ hPV (fun hHeld => ?_)
  clear hK KK
  try simp only [Act.put, List.setIfInBounds_toArray, List.set_cons_zero, List.set_cons_succ]
  refine' wpAnyH_take (i := 7) (v := _) rfl (by kernel_rfl) (by kernel_rfl) (by kernel_rfl) (fun _ _ _ h => h) (Or.inl ⟨by kernel_rfl, ?hc7⟩) (by assumption) ?rc7
  case hc7 => intro W hW; go_simp; all_goals with_reducible rfl
  change wpAnyH _ _ _ _ _ _ _ (Act.put _ (some 14) _) _
  simp only [Act.put, List.setIfInBounds_toArray, List.set_cons_zero, List.set_cons_succ]
  refine wpAnyH_done (by kernel_rfl) ?_ _
  clear hz h2 hgh
  go_wp2_with fail
  refine (eqByteS_same _ _ N _ _ F F w13 (hh.view hch hF) (hw.view hcw hF) hN (fun _ _ => rfl)).mono ?_
  rintro e w14 ⟨rfl, hb⟩
  replace hm := hm.belowAll hb
  replace hPV := hPV.step hb
  replace hB := hB.trans (hb.mono hB.size)
  clear hb
  clear hh hw
  go_wp2_with fail
  refine (held_any _ N _ _ 1 w14 (hm.view hcg hHm.out) (fun _ _ => rfl) (by omega) (by omega)).mono ?_
  rintro e w15 ⟨rfl, hb⟩
  replace hPV := hPV.step hb
  replace hB := hB.trans (hb.mono hB.size)
  clear hb
  clear hm hHeld
  go_wp2
  go_ret
  exact ⟨rfl, hB⟩
end Go.Proofs.Ytbcgonfihdpjnaq
