/-
  The walk over the law FnExactLessPart.
-/
import Derived.Test.YtbcgonfihdpjnaqPartThree
import Derived.Test.YtbcgonfihdpjnaqPartLess
import Derived.Test.YtbcgonfihdpjnaqPartLessImpl
import Derived.Test.YtbcgonfihdpjnaqPartHelp
import Derived.Test.YtbcgonfihdpjnaqValHelp
import Derived.Deep.RegionHeld3
namespace Go.Proofs.Ytbcgonfihdpjnaq
open Go.RowKit
set_option maxRecDepth 4000

set_option linter.unusedSimpArgs false in
set_option maxHeartbeats 4000000 in
theorem lawLessPart (c t : Int) (nul d : Bool) (k x : Int) (s : ByteArray) (k' x' : Int) (s' : ByteArray) (w : World) (hs : s.size ≤ maxLen) (hs' : s'.size ≤ maxLen) :
    Calls Try.prog 7 #[.agg #[.int .i64 c, .int .i64 t, .bool nul, .bool d], .agg #[.int .i64 k, .int .i64 x, .string s], .agg #[.int .i64 k', .int .i64 x', .string s']] w fun e w' => e = .returned (.bool true) ∧ Below w.heap.size w w' := by
  have h0 := PVV.start w 29 35 c t nul d k x s k' x' s'
  by_cases hb : (1048576 : Int) < (s.size : Int)
  · go_enter Try.func7, Try.ntmps7
    go_wp2_with fail
    refine (szVal_big k x s 1048576 _ hb (by omega) hs).mono ?_
    rintro e w1 ⟨rfl, hB1⟩
    have h1 : Hid _ := h0.step hB1
    clear hB1 h0
    go_wp2
    go_ret
    exact ⟨rfl, h1.out.all⟩
  have hb1 : (s.size : Int) ≤ 1048576 := by omega
  have hb2 : ¬ 1048576 - (s.size : Int) < 0 := by omega
  by_cases hc : 1048576 - (s.size : Int) < (s'.size : Int)
  · go_enter Try.func7, Try.ntmps7
    go_wp2_with fail
    refine (szVal_small k x s 1048576 _ hb1 (by omega)).mono ?_
    rintro e w1 ⟨rfl, hB1⟩
    have h1 := h0.step hB1
    clear hB1 h0
    obtain ⟨u0, u1, u2⟩ := h1.val2
    go_wp2_with fail
    clear u0 u1 u2
    refine (szVal_big k' x' s' (1048576 - (s.size : Int)) _ hc (by omega) hs').mono ?_
    rintro e w2 ⟨rfl, hB2⟩
    have h2 : Hid _ := h1.step hB2
    clear hB2 h1
    go_wp2
    go_ret
    exact ⟨rfl, h2.out.all⟩
  have hc1 : (s'.size : Int) ≤ 1048576 - (s.size : Int) := by omega
  have hc2 : ¬ 1048576 - (s.size : Int) - (s'.size : Int) < 0 := by omega
  obtain ⟨o, ho⟩ : ∃ o, Hid (lessP d k x s k' x' s' = o) := ⟨_, rfl⟩
  go_enter Try.func7, Try.ntmps7
  go_wp2_with fail
  refine (szVal_small k x s 1048576 _ hb1 (by omega)).mono ?_
  rintro e w1 ⟨rfl, hB1⟩
  have h1 := h0.step hB1
  clear hB1 h0
  obtain ⟨u0, u1, u2⟩ := h1.val2
  go_wp2_with fail
  clear u0 u1 u2
  refine (szVal_small k' x' s' (1048576 - (s.size : Int)) _ hc1 (by omega)).mono ?_
  rintro e w2 ⟨rfl, hB2⟩
  have h2 := h1.step hB2
  clear hB2 h1
  go_wp2_with fail
  refine wp_region_held_drew (S := PVV w 29 35 c t nul d k x s k' x' s') (by kernel_rfl) (h2.drew) (fun hHeld => ?_)
  refine' wpAnyH_take (i := 0) (v := _) rfl (by kernel_rfl) (by kernel_rfl) (by kernel_rfl) (fun _ _ _ h => h) (Or.inl ⟨by kernel_rfl, ?ha0⟩) (by assumption) ?ra0
  case ha0 => intro W hW; obtain ⟨c0, c1, c2, c3⟩ := PVV.part hW; go_simp; all_goals with_reducible rfl
  change wpAnyH _ _ _ _ _ _ _ (Act.put _ (some 20) _) _
  simp only [Act.put, List.setIfInBounds_toArray, List.set_cons_zero, List.set_cons_succ]
  refine' wpAnyH_take (i := 2) (v := _) rfl (by kernel_rfl) (by kernel_rfl) (by kernel_rfl) (fun _ _ _ h => h) (Or.inl ⟨by kernel_rfl, ?ha2⟩) (by assumption) ?ra2
  case ha2 => intro W hW; obtain ⟨c0, c1, c2⟩ := PVV.val hW; go_simp; all_goals with_reducible rfl
  change wpAnyH _ _ _ _ _ _ _ (Act.put _ (some 22) _) _
  simp only [Act.put, List.setIfInBounds_toArray, List.set_cons_zero, List.set_cons_succ]
  refine' wpAnyH_take (i := 4) (v := _) rfl (by kernel_rfl) (by kernel_rfl) (by kernel_rfl) (fun _ _ _ h => h) (Or.inl ⟨by kernel_rfl, ?ha4⟩) (by assumption) ?ra4
  case ha4 => intro W hW; obtain ⟨c0, c1, c2⟩ := PVV.val2 hW; go_simp; all_goals with_reducible rfl
  change wpAnyH _ _ _ _ _ _ _ (Act.put _ (some 24) _) _
  simp only [Act.put, List.setIfInBounds_toArray, List.set_cons_zero, List.set_cons_succ]
  refine wpAnyH_ready (rs := [1]) (by kernel_rfl) (by simp) ?_
  refine AllReadyH.cons rfl (fun KK hK => ?_) AllReadyH.nil
  go_simp
  refine (toPart_any c t nul d _).mono ?_
  rintro e wa ⟨rfl, hb⟩
  replace hHeld := PVV.step hHeld hb
  clear hb
  go_wp2_with fail
  refine hK.out _ _ hHeld (fun hHeld => ?_)
  clear hK KK
  try simp only [Act.put, List.setIfInBounds_toArray, List.set_cons_zero, List.set_cons_succ]
  refine wpAnyH_ready (rs := [3]) (by kernel_rfl) (by simp) ?_
  refine AllReadyH.cons rfl (fun KK hK => ?_) AllReadyH.nil
  go_simp
  refine (toVal_any k x s _).mono ?_
  rintro e wb ⟨rfl, hb⟩
  replace hHeld := PVV.step hHeld hb
  clear hb
  go_wp2_with fail
  refine hK.out _ _ hHeld (fun hHeld => ?_)
  clear hK KK
  try simp only [Act.put, List.setIfInBounds_toArray, List.set_cons_zero, List.set_cons_succ]
  refine wpAnyH_ready (rs := [5]) (by kernel_rfl) (by simp) ?_
  refine AllReadyH.cons rfl (fun KK hK => ?_) AllReadyH.nil
  go_simp
  refine (toVal_any k' x' s' _).mono ?_
  rintro e wc ⟨rfl, hb⟩
  replace hHeld := PVV.step hHeld hb
  clear hb
  go_wp2_with fail
  refine hK.out _ _ hHeld (fun hHeld => ?_)
  clear hK KK
  try simp only [Act.put, List.setIfInBounds_toArray, List.set_cons_zero, List.set_cons_succ]
  refine wpAnyH_ready (rs := [6]) (by kernel_rfl) (by simp) ?_
  refine AllReadyH.cons rfl (fun KK hK => ?_) AllReadyH.nil
  go_simp
  refine (specLessPart_any c t nul d k x s k' x' s' _).mono ?_
  rintro e wd ⟨rfl, hb⟩
  rw [ho.out]
  replace hHeld := PVV.step hHeld hb
  clear hb
  go_wp2_with fail
  refine hK.out _ _ hHeld (fun hHeld => ?_)
  clear hK KK
  try simp only [Act.put, List.setIfInBounds_toArray, List.set_cons_zero, List.set_cons_succ]
  refine' wpAnyH_take (i := 7) (v := _) rfl (by kernel_rfl) (by kernel_rfl) (by kernel_rfl) (fun _ _ _ h => h) (Or.inl ⟨by kernel_rfl, ?ha7⟩) (by assumption) ?ra7
  case ha7 => intro W hW; go_simp; all_goals with_reducible rfl
  change wpAnyH _ _ _ _ _ _ _ (Act.put _ (some 8) _) _
  simp only [Act.put, List.setIfInBounds_toArray, List.set_cons_zero, List.set_cons_succ]
  refine wpAnyH_done (by kernel_rfl) ?_ _
  go_wp2_with fail
  clear h2
  refine wp_region_held_drew (S := PVV w 29 35 c t nul d k x s k' x' s') (by kernel_rfl) (hHeld.drew) (fun hHeld => ?_)
  refine' wpAnyH_take (i := 0) (v := _) rfl (by kernel_rfl) (by kernel_rfl) (by kernel_rfl) (fun _ _ _ h => h) (Or.inl ⟨by kernel_rfl, ?hb0⟩) (by assumption) ?rb0
  case hb0 => intro W hW; obtain ⟨c0, c1, c2, c3⟩ := PVV.part hW; go_simp; all_goals with_reducible rfl
  change wpAnyH _ _ _ _ _ _ _ (Act.put _ (some 27) _) _
  simp only [Act.put, List.setIfInBounds_toArray, List.set_cons_zero, List.set_cons_succ]
  refine' wpAnyH_take (i := 2) (v := _) rfl (by kernel_rfl) (by kernel_rfl) (by kernel_rfl) (fun _ _ _ h => h) (Or.inl ⟨by kernel_rfl, ?hb2⟩) (by assumption) ?rb2
  case hb2 => intro W hW; obtain ⟨c0, c1, c2⟩ := PVV.val hW; go_simp; all_goals with_reducible rfl
  change wpAnyH _ _ _ _ _ _ _ (Act.put _ (some 29) _) _
  simp only [Act.put, List.setIfInBounds_toArray, List.set_cons_zero, List.set_cons_succ]
  refine' wpAnyH_take (i := 4) (v := _) rfl (by kernel_rfl) (by kernel_rfl) (by kernel_rfl) (fun _ _ _ h => h) (Or.inl ⟨by kernel_rfl, ?hb4⟩) (by assumption) ?rb4
  case hb4 => intro W hW; obtain ⟨c0, c1, c2⟩ := PVV.val2 hW; go_simp; all_goals with_reducible rfl
  change wpAnyH _ _ _ _ _ _ _ (Act.put _ (some 31) _) _
  simp only [Act.put, List.setIfInBounds_toArray, List.set_cons_zero, List.set_cons_succ]
  refine wpAnyH_ready (rs := [1]) (by kernel_rfl) (by simp) ?_
  refine AllReadyH.cons rfl (fun KK hK => ?_) AllReadyH.nil
  go_simp
  refine (toPart_any c t nul d _).mono ?_
  rintro e wa ⟨rfl, hb⟩
  replace hHeld := PVV.step hHeld hb
  clear hb
  go_wp2_with fail
  refine hK.out _ _ hHeld (fun hHeld => ?_)
  clear hK KK
  try simp only [Act.put, List.setIfInBounds_toArray, List.set_cons_zero, List.set_cons_succ]
  refine wpAnyH_ready (rs := [3]) (by kernel_rfl) (by simp) ?_
  refine AllReadyH.cons rfl (fun KK hK => ?_) AllReadyH.nil
  go_simp
  refine (toVal_any k x s _).mono ?_
  rintro e wb ⟨rfl, hb⟩
  replace hHeld := PVV.step hHeld hb
  clear hb
  go_wp2_with fail
  refine hK.out _ _ hHeld (fun hHeld => ?_)
  clear hK KK
  try simp only [Act.put, List.setIfInBounds_toArray, List.set_cons_zero, List.set_cons_succ]
  refine wpAnyH_ready (rs := [5]) (by kernel_rfl) (by simp) ?_
  refine AllReadyH.cons rfl (fun KK hK => ?_) AllReadyH.nil
  go_simp
  refine (toVal_any k' x' s' _).mono ?_
  rintro e wc ⟨rfl, hb⟩
  replace hHeld := PVV.step hHeld hb
  clear hb
  go_wp2_with fail
  refine hK.out _ _ hHeld (fun hHeld => ?_)
  clear hK KK
  try simp only [Act.put, List.setIfInBounds_toArray, List.set_cons_zero, List.set_cons_succ]
  refine wpAnyH_ready (rs := [6]) (by kernel_rfl) (by simp) ?_
  refine AllReadyH.cons rfl (fun KK hK => ?_) AllReadyH.nil
  go_simp
  refine (implLessPart_any c t nul d k x s k' x' s' _).mono ?_
  rintro e wd ⟨rfl, hb⟩
  rw [ho.out]
  replace hHeld := PVV.step hHeld hb
  clear hb
  go_wp2_with fail
  refine hK.out _ _ hHeld (fun hHeld => ?_)
  clear hK KK
  try simp only [Act.put, List.setIfInBounds_toArray, List.set_cons_zero, List.set_cons_succ]
  refine' wpAnyH_take (i := 7) (v := _) rfl (by kernel_rfl) (by kernel_rfl) (by kernel_rfl) (fun _ _ _ h => h) (Or.inl ⟨by kernel_rfl, ?hb7⟩) (by assumption) ?rb7
  case hb7 => intro W hW; go_simp; all_goals with_reducible rfl
  change wpAnyH _ _ _ _ _ _ _ (Act.put _ (some 9) _) _
  simp only [Act.put, List.setIfInBounds_toArray, List.set_cons_zero, List.set_cons_succ]
  refine wpAnyH_done (by kernel_rfl) ?_ _
  have q : (o != o) = false := by cases o <;> rfl
  go_wp2
  go_ret
  exact ⟨rfl, hHeld.all⟩
end Go.Proofs.Ytbcgonfihdpjnaq
