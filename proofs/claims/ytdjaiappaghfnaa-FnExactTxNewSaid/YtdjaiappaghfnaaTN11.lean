/-
  Together: TxNewI, BestS
-/
import Derived.Test.YtdjaiappaghfnaaTN8
import Derived.Test.YtdjaiappaghfnaaTN9
import Derived.Test.YtdjaiappaghfnaaTN10
import Derived.Deep.RegionHeld3
import Derived.Deep.LoopGhost
/-
  TxNew, of the program.
-/
namespace Go.Proofs.Ytdjaiappaghfnaa
open Go.RowKit
set_option maxRecDepth 4000

set_option maxHeartbeats 8000000 in
theorem implTxNew_any (v : Value) (D : PDisk) (w : World) (h : KView w v D) (hf : KFine D) :
    Calls Try.prog 9 #[v] w (TxTo w D) := by
  have hy := readB_bytes h
  have hv := h
  obtain ⟨sa, sc, ca, cc, fa, fc, rfl, -, -, -⟩ := h.is
  clear h
  obtain ⟨g, r, ok, hP⟩ : ∃ g r ok, Hid (bestP D 2 = (g, r, ok)) := ⟨_, _, _, rfl⟩
  have HS : Hid (Sound (bestP D 2)) := bestP_sound hy 2
  have hbel : Below w.heap.size w ((w.alloc (.cells #[.slice sa D.secs.length sc, .slice ca D.cache.length cc, .int .i64 D.ops, .slice fa D.faults.length fc, .bool D.down] 31)).alloc (.cells #[.slice none 0 0, .slice none 0 0, .int .i64 0, .slice none 0 0, .bool false, .int .i64 0, .int .i64 0, .int .i64 0, .slice none 0 0] 36)) := ((Below.refl _ _).alloc (Nat.le_refl _) _).alloc (by simp) _
  have hA0 := VN.new w 31 [.slice sa D.secs.length sc, .slice ca D.cache.length cc, .int .i64 D.ops, .slice fa D.faults.length fc, .bool D.down]
  have hA := hA0.below ((Below.refl _ _).alloc (Nat.le_refl _) (.cells #[.slice none 0 0, .slice none 0 0, .int .i64 0, .slice none 0 0, .bool false, .int .i64 0, .int .i64 0, .int .i64 0, .slice none 0 0] 36))
  have hR := VN.new (w.alloc (.cells #[.slice sa D.secs.length sc, .slice ca D.cache.length cc, .int .i64 D.ops, .slice fa D.faults.length fc, .bool D.down] 31)) 36 [.slice none 0 0, .slice none 0 0, .int .i64 0, .slice none 0 0, .bool false, .int .i64 0, .int .i64 0, .int .i64 0, .slice none 0 0]
  have hz1 : (w.alloc (.cells #[.slice sa D.secs.length sc, .slice ca D.cache.length cc, .int .i64 D.ops, .slice fa D.faults.length fc, .bool D.down] 31)).heap.size = w.heap.size + 1 := by simp
  rw [hz1] at hR
  clear hA0 hz1
  obtain ⟨W0, hW0⟩ := hidEx ((w.alloc (.cells #[.slice sa D.secs.length sc, .slice ca D.cache.length cc, .int .i64 D.ops, .slice fa D.faults.length fc, .bool D.down] 31)).alloc (.cells #[.slice none 0 0, .slice none 0 0, .int .i64 0, .slice none 0 0, .bool false, .int .i64 0, .int .i64 0, .int .i64 0, .slice none 0 0] 36))
  have hz : W0.heap.size = w.heap.size + 1 + 1 := by rw [← hW0.out]; simp
  rw [hW0.out] at hbel
  replace hA : VN W0 w.heap.size 31 [.slice sa D.secs.length sc, .slice ca D.cache.length cc, .int .i64 D.ops, .slice fa D.faults.length fc, .bool D.down] := by rw [← hW0.out]; exact hA
  replace hR : VN W0 (w.heap.size + 1) 36 [.slice none 0 0, .slice none 0 0, .int .i64 0, .slice none 0 0, .bool false, .int .i64 0, .int .i64 0, .int .i64 0, .slice none 0 0] := by rw [← hW0.out]; exact hR
  have hvW := hv.below hbel
  have hB := implBest_any _ D W0 hvW hf hy
  rw [hP.out] at hB
  have x0 : W0.cell? ⟨w.heap.size, 0, none⟩ = some (.slice sa D.secs.length sc) := hA.cell 0
  have x1 : W0.cell? ⟨w.heap.size, 1, none⟩ = some (.slice ca D.cache.length cc) := hA.cell 1
  have x2 : W0.cell? ⟨w.heap.size, 2, none⟩ = some (.int .i64 D.ops) := hA.cell 2
  have x3 : W0.cell? ⟨w.heap.size, 3, none⟩ = some (.slice fa D.faults.length fc) := hA.cell 3
  have x4 : W0.cell? ⟨w.heap.size, 4, none⟩ = some (.bool D.down) := hA.cell 4
  clear hv hy
  go_enter Try.func9, Try.ntmps9
  go_wp2_with (rw [hW0.out])
  refine hB.mono ?_
  rintro e w1 ⟨rfl, hb1⟩
  clear hB x0 x1 x2 x3 x4
  have hbM : Below w1.heap.size w1 (w1.alloc (.cells #[.int .i64 g, .int .i64 r] 33)) := (Below.refl _ _).alloc (Nat.le_refl _) _
  have hM := VN.new w1 33 [.int .i64 g, .int .i64 r]
  replace hbel := hbel.trans (hb1.mono hbel.size)
  replace hbel := hbel.trans (hbM.mono hbel.size)
  replace hA := (hA.below hb1).below hbM
  replace hR := (hR.below hb1).below hbM
  replace hvW := (hvW.below hb1).below hbM
  have hs1 := hb1.size
  obtain ⟨W2, hW2⟩ : ∃ x, Hid ((w1.alloc (.cells #[.int .i64 g, .int .i64 r] 33)) = x) := ⟨_, rfl⟩
  obtain ⟨M, hMe⟩ : ∃ x, Hid (w1.heap.size = x) := ⟨_, rfl⟩
  rw [hW2.out] at hM hbel hA hR hvW
  rw [hMe.out] at hM
  have hMq : Hid (w1.heap.size ≠ w.heap.size + 1) := by show _ ≠ _; omega
  clear hb1 hbM hs1 hW0 hz
  cases ok with
  | false =>
    have hg0 : g = 0 ∧ r = 0 := by
      have h0 := HS.out
      rw [hP.out] at h0
      rcases h0 with h0 | h0
      · cases h0.1
      · exact ⟨congrArg (·.1) h0, congrArg (·.2.1) h0⟩
    obtain ⟨hg0, hr0⟩ := hg0
    have r0 : W2.cell? ⟨w.heap.size + 1, 0, none⟩ = some (.slice none 0 0) := hR.cell 0
    have z0 := hR.fz 0
    have r1 : W2.cell? ⟨w.heap.size + 1, 1, none⟩ = some (.slice none 0 0) := hR.cell 1
    have z1 := hR.fz 1
    have r2 : W2.cell? ⟨w.heap.size + 1, 2, none⟩ = some (.int .i64 0) := hR.cell 2
    have z2 := hR.fz 2
    have r3 : W2.cell? ⟨w.heap.size + 1, 3, none⟩ = some (.slice none 0 0) := hR.cell 3
    have z3 := hR.fz 3
    have r4 : W2.cell? ⟨w.heap.size + 1, 4, none⟩ = some (.bool false) := hR.cell 4
    have z4 := hR.fz 4
    have r5 : W2.cell? ⟨w.heap.size + 1, 5, none⟩ = some (.int .i64 0) := hR.cell 5
    have z5 := hR.fz 5
    have r6 : W2.cell? ⟨w.heap.size + 1, 6, none⟩ = some (.int .i64 0) := hR.cell 6
    have z6 := hR.fz 6
    have r7 : W2.cell? ⟨w.heap.size + 1, 7, none⟩ = some (.int .i64 0) := hR.cell 7
    have z7 := hR.fz 7
    have r8 : W2.cell? ⟨w.heap.size + 1, 8, none⟩ = some (.slice none 0 0) := hR.cell 8
    have z8 := hR.fz 8
    have hR9 := lay9_vn (.slice none 0 0) (.slice none 0 0) (.int .i64 0) (.slice none 0 0) (.bool false) (.int .i64 0) (.int .i64 0) (.int .i64 0) (.slice none 0 0) hR
    have HE : Hid (TxTo w D (.returned (tval (txD D) none 0 none 0 none 0 0 0 0)) (lay9 W2 (w.heap.size + 1) (.slice none 0 0) (.slice none 0 0) (.int .i64 0) (.slice none 0 0) (.bool false) (.int .i64 0) (.int .i64 0) (.int .i64 0) (.slice none 0 0))) := by
      refine ⟨none, 0, none, 0, none, 0, [], [], by rw [hP.out, hg0, hr0], ?_, lay9_below _ _ _ _ _ _ _ _ _ hbel (by omega)⟩
      rw [show txD D = ⟨[], [], 0, [], false⟩ from by unfold txD; rw [hP.out]; simp]
      exact KO.zero _ _
    have HV : Hid (tval (txD D) none 0 none 0 none 0 0 0 0 = .agg #[.slice none 0 0, .slice none 0 0, .int .i64 0, .slice none 0 0, .bool false, .int .i64 0, .int .i64 0, .int .i64 0, .slice none 0 0]) := by
      rw [show txD D = ⟨[], [], 0, [], false⟩ from by unfold txD; rw [hP.out]; simp]; rfl
    rw [HV.out] at HE
    have m0 := hR9.cell 0
    have m1 := hR9.cell 1
    have m2 := hR9.cell 2
    have m3 := hR9.cell 3
    have m4 := hR9.cell 4
    have m5 := hR9.cell 5
    have m6 := hR9.cell 6
    have m7 := hR9.cell 7
    have m8 := hR9.cell 8
    unfold lay9 at m0 m1 m2 m3 m4 m5 m6 m7 m8 HE
    simp only [List.getElem?_cons_zero, List.getElem?_cons_succ] at m0 m1 m2 m3 m4 m5 m6 m7 m8
    have HM : Hid _ := And.intro m0 (And.intro m1 (And.intro m2 (And.intro m3 (And.intro m4 (And.intro m5 (And.intro m6 (And.intro m7 m8)))))))
    clear m0 m1 m2 m3 m4 m5 m6 m7 m8 hR9 hR hA hM hbel hvW hg0 hr0 HS HV
    go_wp2_with (rw [hW2.out])
    obtain ⟨m0, m1, m2, m3, m4, m5, m6, m7, m8⟩ := HM.out
    exact bodyPost_ret (v := .agg #[.slice none 0 0, .slice none 0 0, .int .i64 0, .slice none 0 0, .bool false, .int .i64 0, .int .i64 0, .int .i64 0, .slice none 0 0]) (by simp [results, Try.results9, go_sem, m0, m1, m2, m3, m4, m5, m6, m7, m8]) rfl HE.out
  | true =>
    have hS := fun W (hW : KView W (.agg #[.slice sa D.secs.length sc, .slice ca D.cache.length cc, .int .i64 D.ops, .slice fa D.faults.length fc, .bool D.down]) D) => copyDisk_any _ D W hW hf
    have hD2 : txD D = D := by unfold txD; rw [hP.out]; simp
    have HD2 : Hid (txD D = D) := hD2
    clear hD2 HS
    go_wp2_with (rw [hW2.out])
    rw [hMe.out]
    have hAd := hA.below (Below.refl _ _).drew
    have hMd := hM.below (Below.refl _ _).drew
    have hRd := hR.below (Below.refl _ _).drew
    have hvd := hvW.below (Below.refl _ _).drew
    have hbd := hbel.drew
    clear hA hM hR hvW hbel
    refine wp_region_held_drew (S := fun W => (W.cell? ⟨w.heap.size, 0, none⟩ = some (.slice sa D.secs.length sc) ∧ W.cell? ⟨w.heap.size, 1, none⟩ = some (.slice ca D.cache.length cc) ∧ W.cell? ⟨w.heap.size, 2, none⟩ = some (.int .i64 D.ops) ∧ W.cell? ⟨w.heap.size, 3, none⟩ = some (.slice fa D.faults.length fc) ∧ W.cell? ⟨w.heap.size, 4, none⟩ = some (.bool D.down)) ∧ W.cell? ⟨M, 0, none⟩ = some (.int .i64 g) ∧ W.cell? ⟨M, 1, none⟩ = some (.int .i64 r)) (by kernel_rfl) ⟨⟨hAd.cell 0, hAd.cell 1, hAd.cell 2, hAd.cell 3, hAd.cell 4⟩, hMd.cell 0, hMd.cell 1⟩ (fun hHeld => ?_)
    obtain ⟨wd, hwd⟩ := hidEx W2.drew
    rw [hwd.out] at hAd hMd hRd hvd hbd hHeld ⊢
    clear hwd hW2
    have hRl : Hid (w.heap.size + 1 < wd.heap.size) := hRd.lt
    have hMr : Hid (M ≠ w.heap.size + 1) := by rw [← hMe.out]; exact hMq.out
    refine' wpAnyH_take (i := 0) (v := _) rfl (by kernel_rfl) (by kernel_rfl) (by kernel_rfl) (fun _ _ _ h => h) (Or.inl ⟨by kernel_rfl, ?htn1⟩) (by assumption) ?rtn1
    case htn1 => intro W hW; obtain ⟨⟨c0, c1, c2, c3, c4⟩, d0, d1⟩ := hW; go_simp; all_goals with_reducible rfl
    change wpAnyH _ _ _ _ _ _ _ (Act.put _ (some 13) _) _
    simp only [Act.put, List.setIfInBounds_toArray, List.set_cons_zero, List.set_cons_succ]
    refine' wpAnyH_take (i := 2) (v := _) rfl (by kernel_rfl) (by kernel_rfl) (by kernel_rfl) (fun _ _ _ h => h) (Or.inl ⟨by kernel_rfl, ?htn2⟩) (by assumption) ?rtn2
    case htn2 => intro W hW; obtain ⟨⟨c0, c1, c2, c3, c4⟩, d0, d1⟩ := hW; go_simp; all_goals with_reducible rfl
    change wpAnyH _ _ _ _ _ _ _ (Act.put _ (some 15) _) _
    simp only [Act.put, List.setIfInBounds_toArray, List.set_cons_zero, List.set_cons_succ]
    refine' wpAnyH_take (i := 3) (v := _) rfl (by kernel_rfl) (by kernel_rfl) (by kernel_rfl) (fun _ _ _ h => h) (Or.inl ⟨by kernel_rfl, ?htn3⟩) (by assumption) ?rtn3
    case htn3 => intro W hW; obtain ⟨⟨c0, c1, c2, c3, c4⟩, d0, d1⟩ := hW; go_simp; all_goals with_reducible rfl
    change wpAnyH _ _ _ _ _ _ _ (Act.put _ (some 16) _) _
    simp only [Act.put, List.setIfInBounds_toArray, List.set_cons_zero, List.set_cons_succ]
    refine' wpAnyH_take (i := 4) (v := _) rfl (by kernel_rfl) (by kernel_rfl) (by kernel_rfl) (fun _ _ _ h => h) (Or.inl ⟨by kernel_rfl, ?htn4⟩) (by assumption) ?rtn4
    case htn4 => intro W hW; obtain ⟨⟨c0, c1, c2, c3, c4⟩, d0, d1⟩ := hW; go_simp; all_goals with_reducible rfl
    change wpAnyH _ _ _ _ _ _ _ (Act.put _ (some 17) _) _
    simp only [Act.put, List.setIfInBounds_toArray, List.set_cons_zero, List.set_cons_succ]
    refine wpAnyH_ready (rs := [1]) (by kernel_rfl) (by simp) ?_
    refine AllReadyH.cons rfl (fun KK hK => ?_) AllReadyH.nil
    go_simp
    refine (hS wd hvd).mono ?_
    rintro e w3 ⟨v3, rfl, ⟨ta, tc, da, dc, ga, gc, ss, cs, rfl, hk⟩, hb3⟩
    replace hAd := hAd.below hb3
    replace hMd := hMd.below hb3
    replace hRd := hRd.below hb3
    have hbw := hbd.trans (hb3.mono hbd.size)
    have hR1 := hRd.lt
    have hRw : w.heap.size + 1 < wd.heap.size := by have := hbd.size; have := hMd.lt; exact hRl.out
    clear hb3 hHeld hS hvd hbd
    unfold dval
    go_wp2_with fail
    refine hK.out _ _ ⟨⟨hAd.cell 0, hAd.cell 1, hAd.cell 2, hAd.cell 3, hAd.cell 4⟩, hMd.cell 0, hMd.cell 1⟩ (fun hHeld => ?_)
    clear hK KK
    try simp only [Act.put, List.setIfInBounds_toArray, List.set_cons_zero, List.set_cons_succ]
    refine' wpAnyH_take (i := 5) (v := _) rfl (by kernel_rfl) (by kernel_rfl) (by kernel_rfl) (fun _ _ _ h => h) (Or.inl ⟨by kernel_rfl, ?htn5⟩) (by assumption) ?rtn5
    case htn5 => intro W hW; obtain ⟨⟨c0, c1, c2, c3, c4⟩, d0, d1⟩ := hW; go_simp; all_goals with_reducible rfl
    change wpAnyH _ _ _ _ _ _ _ (Act.put _ (some 18) _) _
    simp only [Act.put, List.setIfInBounds_toArray, List.set_cons_zero, List.set_cons_succ]
    refine wpAnyH_ready (rs := [6]) (by kernel_rfl) (by simp) ?_
    refine AllReadyH.cons rfl (fun KK hK => ?_) AllReadyH.nil
    have r0 : w3.cell? ⟨w.heap.size + 1, 0, none⟩ = some (.slice none 0 0) := hRd.cell 0
    have z0 := hRd.fz 0
    have r1 : w3.cell? ⟨w.heap.size + 1, 1, none⟩ = some (.slice none 0 0) := hRd.cell 1
    have z1 := hRd.fz 1
    have r2 : w3.cell? ⟨w.heap.size + 1, 2, none⟩ = some (.int .i64 0) := hRd.cell 2
    have z2 := hRd.fz 2
    have r3 : w3.cell? ⟨w.heap.size + 1, 3, none⟩ = some (.slice none 0 0) := hRd.cell 3
    have z3 := hRd.fz 3
    have r4 : w3.cell? ⟨w.heap.size + 1, 4, none⟩ = some (.bool false) := hRd.cell 4
    have z4 := hRd.fz 4
    have r5 : w3.cell? ⟨w.heap.size + 1, 5, none⟩ = some (.int .i64 0) := hRd.cell 5
    have z5 := hRd.fz 5
    have r6 : w3.cell? ⟨w.heap.size + 1, 6, none⟩ = some (.int .i64 0) := hRd.cell 6
    have z6 := hRd.fz 6
    have r7 : w3.cell? ⟨w.heap.size + 1, 7, none⟩ = some (.int .i64 0) := hRd.cell 7
    have z7 := hRd.fz 7
    have r8 : w3.cell? ⟨w.heap.size + 1, 8, none⟩ = some (.slice none 0 0) := hRd.cell 8
    have z8 := hRd.fz 8
    go_simp
    clear r0 r1 r2 r3 r4 r5 r6 r7 r8 z0 z1 z2 z3 z4 z5 z6 z7 z8
    have hR9 := lay9_vn (.slice ta D.secs.length tc) (.slice da D.cache.length dc) (.int .i64 D.ops) (.slice ga D.faults.length gc) (.bool D.down) (.int .i64 g) (.int .i64 r) (.int .i64 r) (.slice none 0 0) hRd
    have hU9 := lay9_up (W := w3) (R := w.heap.size + 1) (B := wd.heap.size) (.slice ta D.secs.length tc) (.slice da D.cache.length dc) (.int .i64 D.ops) (.slice ga D.faults.length gc) (.bool D.down) (.int .i64 g) (.int .i64 r) (.int .i64 r) (.slice none 0 0) hRw
    have hA9 := hAd.block (w' := (lay9 w3 (w.heap.size + 1) (.slice ta D.secs.length tc) (.slice da D.cache.length dc) (.int .i64 D.ops) (.slice ga D.faults.length gc) (.bool D.down) (.int .i64 g) (.int .i64 r) (.int .i64 r) (.slice none 0 0))) (lay9_block _ _ _ _ _ _ _ _ _ (by omega))
    have hM9 := hMd.block (w' := (lay9 w3 (w.heap.size + 1) (.slice ta D.secs.length tc) (.slice da D.cache.length dc) (.int .i64 D.ops) (.slice ga D.faults.length gc) (.bool D.down) (.int .i64 g) (.int .i64 r) (.int .i64 r) (.slice none 0 0))) (lay9_block _ _ _ _ _ _ _ _ _ hMr.out)
    have HE : Hid (TxTo w D (.returned (.agg #[.slice ta D.secs.length tc, .slice da D.cache.length dc, .int .i64 D.ops, .slice ga D.faults.length gc, .bool D.down, .int .i64 g, .int .i64 r, .int .i64 r, .slice none 0 0])) (lay9 w3 (w.heap.size + 1) (.slice ta D.secs.length tc) (.slice da D.cache.length dc) (.int .i64 D.ops) (.slice ga D.faults.length gc) (.bool D.down) (.int .i64 g) (.int .i64 r) (.int .i64 r) (.slice none 0 0))) := ⟨ta, tc, da, dc, ga, gc, ss, cs, by rw [HD2.out, hP.out]; rfl, by rw [HD2.out]; exact (hk.up hU9).mono (by omega), lay9_below _ _ _ _ _ _ _ _ _ hbw (by omega)⟩
    refine hK.out _ _ ⟨⟨hA9.cell 0, hA9.cell 1, hA9.cell 2, hA9.cell 3, hA9.cell 4⟩, hM9.cell 0, hM9.cell 1⟩ (fun hHeld => ?_)
    clear hK KK
    try simp only [Act.put, List.setIfInBounds_toArray, List.set_cons_zero, List.set_cons_succ]
    refine wpAnyH_done (by kernel_rfl) ?_ _
    have m0 := hR9.cell 0
    have m1 := hR9.cell 1
    have m2 := hR9.cell 2
    have m3 := hR9.cell 3
    have m4 := hR9.cell 4
    have m5 := hR9.cell 5
    have m6 := hR9.cell 6
    have m7 := hR9.cell 7
    have m8 := hR9.cell 8
    unfold lay9 at m0 m1 m2 m3 m4 m5 m6 m7 m8 HE
    simp only [List.getElem?_cons_zero, List.getElem?_cons_succ] at m0 m1 m2 m3 m4 m5 m6 m7 m8
    clear hR9 hU9 hA9 hM9 hAd hMd hRd hbw hk hHeld
    go_wp2
    exact bodyPost_ret (v := .agg #[.slice ta D.secs.length tc, .slice da D.cache.length dc, .int .i64 D.ops, .slice ga D.faults.length gc, .bool D.down, .int .i64 g, .int .i64 r, .int .i64 r, .slice none 0 0]) (by simp [results, Try.results9, go_sem, m0, m1, m2, m3, m4, m5, m6, m7, m8]) rfl HE.out
end Go.Proofs.Ytdjaiappaghfnaa

/-
  The model's BestMeta.
-/
namespace Go.Proofs.Ytdjaiappaghfnaa
open Go.RowKit
set_option maxRecDepth 4000

/-- What the loop keeps. -/
structure BS (w : World) (cs : List Value) (R B : Nat) (g r : Int) (W : World) : Prop where
  x : VN W w.heap.size 31 cs
  ret : MBox W R 0 0
  best : MBox W B g r
  below : Below w.heap.size w W
  lo : w.heap.size < R
  rb : R < B
theorem BS.on {w : World} {cs : List Value} {R B : Nat} {g r : Int} {W W' : World} (h : BS w cs R B g r W) (hb : Below W.heap.size W W') : BS w cs R B g r W' :=
  ⟨h.x.below hb, h.ret.below hb, h.best.below hb, h.below.trans (hb.mono h.below.size), h.lo, h.rb⟩
theorem newerP_hit {p q : Int} {b : Bool} {g r : Int} {is : Bool} {D : PDisk} {k : Int} {ok : Bool} {gg rr : Int} {ii : Bool} (hr : rootP D k = (g, r, is)) (hM : getMe (readB D k).length (bf (readB D k)) = (gg, rr, ii)) (hok : hasB D k = ok) :
    newerP (p, q, b) (g, r, is) = if ok = true ∧ ii = true ∧ gg % 2 = k ∧ (b = false ∨ p < gg) then (gg, rr, true) else (p, q, b) := by
  cases ok with
  | false =>
    rw [rootP_none hok] at hr
    cases hr
    simp [newerP]
  | true =>
    unfold rootP at hr
    rw [hM] at hr
    dsimp only at hr
    by_cases h : ii = true ∧ gg % 2 = k
    · rw [if_pos h] at hr
      cases hr
      obtain ⟨rfl, h2⟩ := h
      simp [newerP, h2]
    · rw [if_neg h] at hr
      cases hr
      rw [if_neg (fun hh => h ⟨hh.2.1, hh.2.2.1⟩)]
      simp [newerP]

set_option maxHeartbeats 8000000 in
theorem specBest_any (v : Value) (D : PDisk) (w : World) (h : KView w v D) (hf : KFine D) (hy : ∀ n : Int, ∀ i, i < (readB D n).length → 0 ≤ bf (readB D n) i ∧ bf (readB D n) i ≤ 255) :
    Calls Try.prog 15 #[v] w (MeTo w (bestP D 2)) := by
  have hkv := h
  have HF : Hid (KFine D) := hf
  have HY : Hid (∀ n : Int, ∀ i, i < (readB D n).length → 0 ≤ bf (readB D n) i ∧ bf (readB D n) i ≤ 255) := hy
  have HKV := hkv
  obtain ⟨sa, sc, ca, cc, fa, fc, rfl, -, -, -⟩ := h.is
  replace HKV : Hid (KView w _ D) := HKV
  clear h hf hy
  obtain ⟨cs, hcs⟩ : ∃ cs : List Value, Hid (cs = [.slice sa D.secs.length sc, .slice ca D.cache.length cc, .int .i64 D.ops, .slice fa D.faults.length fc, .bool D.down]) := ⟨_, rfl⟩
  have hX := VN.new w 31 [.slice sa D.secs.length sc, .slice ca D.cache.length cc, .int .i64 D.ops, .slice fa D.faults.length fc, .bool D.down]
  have hb1 : Below w.heap.size w (w.alloc (.cells #[.slice sa D.secs.length sc, .slice ca D.cache.length cc, .int .i64 D.ops, .slice fa D.faults.length fc, .bool D.down] 31)) := (Below.refl _ _).alloc (Nat.le_refl _) _
  have s1 : (w.alloc (.cells #[.slice sa D.secs.length sc, .slice ca D.cache.length cc, .int .i64 D.ops, .slice fa D.faults.length fc, .bool D.down] 31)).heap.size = w.heap.size + 1 := by simp
  obtain ⟨W1, hW1⟩ : ∃ x, Hid (w.alloc (.cells #[.slice sa D.secs.length sc, .slice ca D.cache.length cc, .int .i64 D.ops, .slice fa D.faults.length fc, .bool D.down] 31) = x) := ⟨_, rfl⟩
  rw [hW1.out] at hX hb1 s1
  have hb2 : Below W1.heap.size W1 (W1.alloc (.cells #[.int .i64 0, .int .i64 0] 33)) := (Below.refl _ _).alloc (Nat.le_refl _) _
  have s2 : (W1.alloc (.cells #[.int .i64 0, .int .i64 0] 33)).heap.size = w.heap.size + 2 := by simp [s1]
  have hR := MBox.new W1 0 0
  obtain ⟨W2, hW2⟩ : ∃ x, Hid (W1.alloc (.cells #[.int .i64 0, .int .i64 0] 33) = x) := ⟨_, rfl⟩
  rw [hW2.out] at hR hb2 s2
  have hb3 : Below W2.heap.size W2 (W2.alloc (.cells #[.int .i64 0, .int .i64 0] 33)) := (Below.refl _ _).alloc (Nat.le_refl _) _
  have hBst := MBox.new W2 0 0
  obtain ⟨W3, hW3⟩ : ∃ x, Hid (W2.alloc (.cells #[.int .i64 0, .int .i64 0] 33) = x) := ⟨_, rfl⟩
  rw [hW3.out] at hBst hb3
  have hB13 := hb2.trans (hb3.mono hb2.size)
  obtain ⟨R, hRe⟩ : ∃ x, Hid (W1.heap.size = x) := ⟨_, rfl⟩
  obtain ⟨B, hBe⟩ : ∃ x, Hid (W2.heap.size = x) := ⟨_, rfl⟩
  have hRo := hRe.out
  have hBo := hBe.out
  have HL : Hid (BS w cs R B 0 0 W3) :=
    ⟨by rw [hcs.out]; exact hX.below hB13, by rw [← hRo]; exact hR.below hb3, by rw [← hBo]; exact hBst, hb1.trans (hB13.mono hb1.size), by omega, by omega⟩
  clear hRo hBo hBst hR hX hb1 hb2 hb3 hB13 hkv s1 s2
  go_enter Try.func15, Try.ntmps15
  go_wp2_with (first | rw [hW1.out] | rw [hW2.out])
  rw [hW3.out, hRe.out, hBe.out]
  clear hW1 hW2 hW3 hRe hBe
  go_loopg [5, 6] 2 (fun q u i wr => ∃ k : Nat, k ≤ 2 ∧ q = 2 - k ∧ i = .int .i64 k ∧ u = .bool (bestP D k).2.2 ∧ BS w cs R B (bestP D k).1 (bestP D k).2.1 wr)
  case atStart => exact ⟨0, Nat.zero_le _, rfl, rfl, rfl, HL.out⟩
  case round =>
    clear HL
    obtain ⟨k, hk, rfl, rfl, rfl, hL⟩ := hrel
    obtain ⟨p, q, b, hb⟩ : ∃ p q b, Hid (bestP D k = (p, q, b)) := ⟨_, _, _, rfl⟩
    rw [hb.out] at hL ⊢
    dsimp only at hL ⊢
    by_cases hlt : k < 2
    · have hkz : (k : Int) < 2 := by omega
      have hR := (specReadSec_any _ D k wr (HKV.out.below hL.below) HF.out).mono (fun _ _ h => h.bto)
      have x0 : wr.cell? ⟨w.heap.size, 0, none⟩ = some (.slice sa D.secs.length sc) := by have := hL.x.cell 0; rw [hcs.out] at this; exact this
      have x1 : wr.cell? ⟨w.heap.size, 1, none⟩ = some (.slice ca D.cache.length cc) := by have := hL.x.cell 1; rw [hcs.out] at this; exact this
      have x2 : wr.cell? ⟨w.heap.size, 2, none⟩ = some (.int .i64 D.ops) := by have := hL.x.cell 2; rw [hcs.out] at this; exact this
      have x3 : wr.cell? ⟨w.heap.size, 3, none⟩ = some (.slice fa D.faults.length fc) := by have := hL.x.cell 3; rw [hcs.out] at this; exact this
      have x4 : wr.cell? ⟨w.heap.size, 4, none⟩ = some (.bool D.down) := by have := hL.x.cell 4; rw [hcs.out] at this; exact this
      have hlen := readB_len HF.out k
      obtain ⟨g0, r0, is0, hP⟩ : ∃ g r is, Hid (rootP D k = (g, r, is)) := ⟨_, _, _, rfl⟩
      obtain ⟨g, r, is, hM⟩ : ∃ g r is, Hid (getMe (readB D k).length (bf (readB D k)) = (g, r, is)) := ⟨_, _, _, rfl⟩
      have hcs2 := getMe_cases (HY.out k)
      obtain ⟨ok, hok⟩ := hidEx (hasB D k)
      have HNX : Hid (bestP D (k + 1) = if ok = true ∧ is = true ∧ g % 2 = k ∧ (b = false ∨ p < g) then (g, r, true) else (p, q, b)) := by
        show newerP (bestP D k) (rootP D k) = _
        rw [hb.out, hP.out]
        exact newerP_hit hP.out hM.out hok.out
      obtain ⟨l, hl⟩ := hidEx (readB D k)
      rw [hl.out, hok.out] at hR
      rw [hl.out] at hlen hM hcs2
      rw [hM.out] at hcs2
      clear hP hl hok
      go_wp2_with fail
      refine hR.mono ?_
      rintro e w5 ⟨v5, rfl, hoz, hb5⟩
      replace hL := hL.on hb5
      obtain ⟨a, c, e3, h1, h2, h3, h4⟩ := hoz.is
      obtain ⟨a', c', e4, hv⟩ := oz_view hoz
      subst e3
      cases e4
      have hG := specGetMeta_any a l.length c (bf l) w5 (fun h4' => by
        rcases h4 with h4 | ⟨g, e, -, -⟩
        · subst h4; simp at h4'
        · exact ⟨g, e⟩) hv hlen
      rw [hM.out] at hG
      clear hR hoz hb5 h1 h2 h3 h4 hv hM x0 x1 x2 x3 x4
      go_wp2_with fail
      refine hG.mono ?_
      rintro e w6 ⟨rfl, hb6⟩
      replace hL := hL.on hb6
      have hBM := hL.best.lt
      have hbM : Below w6.heap.size w6 (w6.alloc (.cells #[.int .i64 g, .int .i64 r] 33)) := (Below.refl _ _).alloc (Nat.le_refl _) _
      have hM := MBox.new w6 g r
      replace hL := hL.on hbM
      obtain ⟨W7, hW7⟩ : ∃ x, Hid (w6.alloc (.cells #[.int .i64 g, .int .i64 r] 33) = x) := ⟨_, rfl⟩
      rw [hW7.out] at hL hM
      obtain ⟨m0, m1⟩ := hM.cells
      obtain ⟨b0, b1⟩ := hL.best.cells
      obtain ⟨f0, f1⟩ := hL.best.frozen
      have hrb := hL.rb
      have hlo := hL.lo
      clear hG hb6 hbM hM
      by_cases hc : ok = true ∧ is = true ∧ g % 2 = k ∧ (b = false ∨ p < g)
      · have hnx : bestP D (k + 1) = (g, r, true) := by rw [HNX.out, if_pos hc]
        have HL : Hid (BS w cs R B (bestP D (k + 1)).1 (bestP D (k + 1)).2.1 ((W7.setCell ⟨B, 0, none⟩ (.int .i64 g)).setCell ⟨B, 1, none⟩ (.int .i64 r))) :=
          ⟨(hL.x.other (by omega)).other (by omega), (hL.ret.other (by omega) _).other (by omega) _, by rw [hnx]; exact (hL.best.set0 g).set1 r, (hL.below.setCell (p := ⟨B, 0, none⟩) (by show _ ≤ B; omega) _).setCell (p := ⟨B, 1, none⟩) (by show _ ≤ B; omega) _, hlo, hrb⟩
        have HT : Hid (Value.bool true = Value.bool (bestP D (k + 1)).2.2) := by show _ = _; rw [hnx]
        obtain ⟨rfl, rfl, hg2, hor⟩ := hc
        have hq : (g % 2 == (k : Int)) = true := by rw [hg2]; exact beq_self_eq_true _
        have hg0 : 0 ≤ g := by rcases hcs2 with h | h; exact h.2.1; cases h
        clear HNX hnx hL hcs2 hb
        cases b with
        | false =>
          clear hor
          go_wp2_with (rw [hW7.out])
          go_roundg (2 - (k + 1))
          case measure => omega
          case rel => exact ⟨k + 1, by omega, rfl, by go_num, HT.out, HL.out⟩
        | true =>
          have hlt2 : p < g := by rcases hor with h | h; cases h; exact h
          clear hor
          go_wp2_with (rw [hW7.out])
          go_roundg (2 - (k + 1))
          case measure => omega
          case rel => exact ⟨k + 1, by omega, rfl, by go_num, HT.out, HL.out⟩
      · have hnx : bestP D (k + 1) = (p, q, b) := by rw [HNX.out, if_neg hc]
        have HL : Hid (BS w cs R B (bestP D (k + 1)).1 (bestP D (k + 1)).2.1 W7) := by rw [hnx]; exact ⟨hL.x, hL.ret, hL.best, hL.below, hlo, hrb⟩
        have HT : Hid (Value.bool b = Value.bool (bestP D (k + 1)).2.2) := by show _ = _; rw [hnx]
        clear HNX hnx hL hb
        cases ok with
        | false =>
          clear hc hcs2
          go_wp2_with (rw [hW7.out])
          go_roundg (2 - (k + 1))
          case measure => omega
          case rel => exact ⟨k + 1, by omega, rfl, by go_num, HT.out, HL.out⟩
        | true =>
          cases is with
          | false =>
            clear hc hcs2
            go_wp2_with (rw [hW7.out])
            go_roundg (2 - (k + 1))
            case measure => omega
            case rel => exact ⟨k + 1, by omega, rfl, by go_num, HT.out, HL.out⟩
          | true =>
            have hg0 : 0 ≤ g := by rcases hcs2 with h | h; exact h.2.1; cases h
            by_cases hg2 : g % 2 = (k : Int)
            · have hq : (g % 2 == (k : Int)) = true := by rw [hg2]; exact beq_self_eq_true _
              cases b with
              | false => exact absurd ⟨rfl, rfl, hg2, .inl rfl⟩ hc
              | true =>
                have hlt2 : ¬ p < g := fun h => hc ⟨rfl, rfl, hg2, .inr h⟩
                clear hc hcs2
                go_wp2_with (rw [hW7.out])
                go_roundg (2 - (k + 1))
                case measure => omega
                case rel => exact ⟨k + 1, by omega, rfl, by go_num, HT.out, HL.out⟩
            · have hq : (g % 2 == (k : Int)) = false := beq_eq_false_iff_ne.2 hg2
              clear hc hcs2
              go_wp2_with (rw [hW7.out])
              go_roundg (2 - (k + 1))
              case measure => omega
              case rel => exact ⟨k + 1, by omega, rfl, by go_num, HT.out, HL.out⟩
    · obtain rfl : k = 2 := by omega
      have hkz : ¬ ((2 : Nat) : Int) < 2 := by omega
      obtain ⟨b0, b1⟩ := hL.best.cells
      obtain ⟨r0, r1⟩ := hL.ret.cells
      obtain ⟨f0, f1⟩ := hL.ret.frozen
      have hlo := hL.lo
      have hrb := hL.rb
      have hB := hL.below
      have hgs := stored2 (.int .i64 p) (.int .i64 q) r0 r1
      have HB : Hid (Below w.heap.size w ((wr.setCell ⟨R, 0, none⟩ (.int .i64 p)).setCell ⟨R, 1, none⟩ (.int .i64 q))) := (hB.setCell (p := ⟨R, 0, none⟩) (by show _ ≤ R; omega) _).setCell (p := ⟨R, 1, none⟩) (by show _ ≤ R; omega) _
      clear hB hL
      go_wp2
      exact bodyPost_ret (v := .tuple #[.agg #[.int .i64 p, .int .i64 q], .bool b]) (by simp [results, Try.results15, go_sem, hgs]) rfl (by rw [hb.out]; exact ⟨rfl, HB.out⟩)
end Go.Proofs.Ytdjaiappaghfnaa

