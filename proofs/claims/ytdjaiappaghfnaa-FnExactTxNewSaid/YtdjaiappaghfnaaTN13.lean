/-
  Together: TxNewS, EqMeta, DiskEq, TxEq, DiskSize2
-/
import Derived.Test.YtdjaiappaghfnaaTN8
import Derived.Test.YtdjaiappaghfnaaTN11
import Derived.Test.YtdjaiappaghfnaaTN12
import Derived.Deep.RegionHeld3
import Derived.Test.YtdjaiappaghfnaaTN1
import Derived.Test.YtdjaiappaghfnaaProg
import Derived.Test.YtdjaiappaghfnaaTN6
import Derived.Test.YtdjaiappaghfnaaTN5
import Derived.Deep.LoopGhost
/-
  TxNew, of the model.
-/
namespace Go.Proofs.Ytdjaiappaghfnaa
open Go.RowKit
set_option maxRecDepth 4000

set_option maxHeartbeats 8000000 in
theorem specTxNew_any (v : Value) (D : PDisk) (w : World) (h : KView w v D) (hf : KFine D) :
    Calls Try.prog 7 #[v] w (TxTo w D) := by
  have hy := readB_bytes h
  have hv := h
  obtain ⟨sa, sc, ca, cc, fa, fc, rfl, -, -, -⟩ := h.is
  clear h
  obtain ⟨g, r, ok, hP⟩ : ∃ g r ok, Hid (bestP D 2 = (g, r, ok)) := ⟨_, _, _, rfl⟩
  have HS : Hid (Sound (bestP D 2)) := bestP_sound hy 2
  have hbel : Below w.heap.size w ((w.alloc (.cells #[.slice sa D.secs.length sc, .slice ca D.cache.length cc, .int .i64 D.ops, .slice fa D.faults.length fc, .bool D.down] 31)).alloc (.cells #[.slice none 0 0, .slice none 0 0, .int .i64 0, .slice none 0 0, .bool false, .int .i64 0, .int .i64 0, .int .i64 0, .slice none 0 0] 36)) := ((Below.refl _ _).alloc (Nat.le_refl _) _).alloc (by simp) _
  have hA0 := VN.new w 31 [.slice sa D.secs.length sc, .slice ca D.cache.length cc, .int .i64 D.ops, .slice fa D.faults.length fc, .bool D.down]
  have hA := hA0.below ((Below.refl _ _).alloc (Nat.le_refl _) (.cells #[.slice none 0 0, .slice none 0 0, .int .i64 0, .slice none 0 0, .bool false, .int .i64 0, .int .i64 0, .int .i64 0, .slice none 0 0] 36))
  have hR := VN.new (w.alloc (.cells #[.slice sa D.secs.length sc, .slice ca D.cache.length cc, .int .i64 D.ops, .slice fa D.faults.length fc, .bool D.down] 31)) 36 [.slice none 0 0, .slice none 0 0, .int .i64 0, .slice none 0 0, .bool false, .int .i64 0, .int .i64 0, .int .i64 0, .slice none 0 0]
  have hz1 : (w.alloc (.cells #[.slice sa D.secs.length sc, .slice ca D.cache.length cc, .int .i64 D.ops, .slice fa D.faults.length fc, .bool D.down] 31)).heap.size = w.heap.size + 1 := by simp
  rw [hz1] at hR
  clear hA0 hz1
  obtain ⟨W0, hW0⟩ := hidEx ((w.alloc (.cells #[.slice sa D.secs.length sc, .slice ca D.cache.length cc, .int .i64 D.ops, .slice fa D.faults.length fc, .bool D.down] 31)).alloc (.cells #[.slice none 0 0, .slice none 0 0, .int .i64 0, .slice none 0 0, .bool false, .int .i64 0, .int .i64 0, .int .i64 0, .slice none 0 0] 36))
  have hz : W0.heap.size = w.heap.size + 1 + 1 := by rw [← hW0.out]; simp
  rw [hW0.out] at hbel
  replace hA : VN W0 w.heap.size 31 [.slice sa D.secs.length sc, .slice ca D.cache.length cc, .int .i64 D.ops, .slice fa D.faults.length fc, .bool D.down] := by rw [← hW0.out]; exact hA
  replace hR : VN W0 (w.heap.size + 1) 36 [.slice none 0 0, .slice none 0 0, .int .i64 0, .slice none 0 0, .bool false, .int .i64 0, .int .i64 0, .int .i64 0, .slice none 0 0] := by rw [← hW0.out]; exact hR
  have hvW := hv.below hbel
  have hB := specBest_any _ D W0 hvW hf hy
  rw [hP.out] at hB
  have x0 : W0.cell? ⟨w.heap.size, 0, none⟩ = some (.slice sa D.secs.length sc) := hA.cell 0
  have x1 : W0.cell? ⟨w.heap.size, 1, none⟩ = some (.slice ca D.cache.length cc) := hA.cell 1
  have x2 : W0.cell? ⟨w.heap.size, 2, none⟩ = some (.int .i64 D.ops) := hA.cell 2
  have x3 : W0.cell? ⟨w.heap.size, 3, none⟩ = some (.slice fa D.faults.length fc) := hA.cell 3
  have x4 : W0.cell? ⟨w.heap.size, 4, none⟩ = some (.bool D.down) := hA.cell 4
  clear hv hy
  go_enter Try.func7, Try.ntmps7
  go_wp2_with (rw [hW0.out])
  refine hB.mono ?_
  rintro e w1 ⟨rfl, hb1⟩
  clear hB x0 x1 x2 x3 x4
  have hbM : Below w1.heap.size w1 (w1.alloc (.cells #[.int .i64 g, .int .i64 r] 33)) := (Below.refl _ _).alloc (Nat.le_refl _) _
  have hM := VN.new w1 33 [.int .i64 g, .int .i64 r]
  replace hbel := hbel.trans (hb1.mono hbel.size)
  replace hbel := hbel.trans (hbM.mono hbel.size)
  replace hA := (hA.below hb1).below hbM
  replace hR := (hR.below hb1).below hbM
  replace hvW := (hvW.below hb1).below hbM
  have hs1 := hb1.size
  obtain ⟨W2, hW2⟩ : ∃ x, Hid ((w1.alloc (.cells #[.int .i64 g, .int .i64 r] 33)) = x) := ⟨_, rfl⟩
  obtain ⟨M, hMe⟩ : ∃ x, Hid (w1.heap.size = x) := ⟨_, rfl⟩
  rw [hW2.out] at hM hbel hA hR hvW
  rw [hMe.out] at hM
  have hMq : Hid (w1.heap.size ≠ w.heap.size + 1) := by show _ ≠ _; omega
  clear hb1 hbM hs1 hW0 hz
  cases ok with
  | false =>
    have hg0 : g = 0 ∧ r = 0 := by
      have h0 := HS.out
      rw [hP.out] at h0
      rcases h0 with h0 | h0
      · cases h0.1
      · exact ⟨congrArg (·.1) h0, congrArg (·.2.1) h0⟩
    obtain ⟨hg0, hr0⟩ := hg0
    have r0 : W2.cell? ⟨w.heap.size + 1, 0, none⟩ = some (.slice none 0 0) := hR.cell 0
    have z0 := hR.fz 0
    have r1 : W2.cell? ⟨w.heap.size + 1, 1, none⟩ = some (.slice none 0 0) := hR.cell 1
    have z1 := hR.fz 1
    have r2 : W2.cell? ⟨w.heap.size + 1, 2, none⟩ = some (.int .i64 0) := hR.cell 2
    have z2 := hR.fz 2
    have r3 : W2.cell? ⟨w.heap.size + 1, 3, none⟩ = some (.slice none 0 0) := hR.cell 3
    have z3 := hR.fz 3
    have r4 : W2.cell? ⟨w.heap.size + 1, 4, none⟩ = some (.bool false) := hR.cell 4
    have z4 := hR.fz 4
    have r5 : W2.cell? ⟨w.heap.size + 1, 5, none⟩ = some (.int .i64 0) := hR.cell 5
    have z5 := hR.fz 5
    have r6 : W2.cell? ⟨w.heap.size + 1, 6, none⟩ = some (.int .i64 0) := hR.cell 6
    have z6 := hR.fz 6
    have r7 : W2.cell? ⟨w.heap.size + 1, 7, none⟩ = some (.int .i64 0) := hR.cell 7
    have z7 := hR.fz 7
    have r8 : W2.cell? ⟨w.heap.size + 1, 8, none⟩ = some (.slice none 0 0) := hR.cell 8
    have z8 := hR.fz 8
    have hR9 := lay9_vn (.slice none 0 0) (.slice none 0 0) (.int .i64 0) (.slice none 0 0) (.bool false) (.int .i64 0) (.int .i64 0) (.int .i64 0) (.slice none 0 0) hR
    have HE : Hid (TxTo w D (.returned (tval (txD D) none 0 none 0 none 0 0 0 0)) (lay9 W2 (w.heap.size + 1) (.slice none 0 0) (.slice none 0 0) (.int .i64 0) (.slice none 0 0) (.bool false) (.int .i64 0) (.int .i64 0) (.int .i64 0) (.slice none 0 0))) := by
      refine ⟨none, 0, none, 0, none, 0, [], [], by rw [hP.out, hg0, hr0], ?_, lay9_below _ _ _ _ _ _ _ _ _ hbel (by omega)⟩
      rw [show txD D = ⟨[], [], 0, [], false⟩ from by unfold txD; rw [hP.out]; simp]
      exact KO.zero _ _
    have HV : Hid (tval (txD D) none 0 none 0 none 0 0 0 0 = .agg #[.slice none 0 0, .slice none 0 0, .int .i64 0, .slice none 0 0, .bool false, .int .i64 0, .int .i64 0, .int .i64 0, .slice none 0 0]) := by
      rw [show txD D = ⟨[], [], 0, [], false⟩ from by unfold txD; rw [hP.out]; simp]; rfl
    rw [HV.out] at HE
    have m0 := hR9.cell 0
    have m1 := hR9.cell 1
    have m2 := hR9.cell 2
    have m3 := hR9.cell 3
    have m4 := hR9.cell 4
    have m5 := hR9.cell 5
    have m6 := hR9.cell 6
    have m7 := hR9.cell 7
    have m8 := hR9.cell 8
    unfold lay9 at m0 m1 m2 m3 m4 m5 m6 m7 m8 HE
    simp only [List.getElem?_cons_zero, List.getElem?_cons_succ] at m0 m1 m2 m3 m4 m5 m6 m7 m8
    have HM : Hid _ := And.intro m0 (And.intro m1 (And.intro m2 (And.intro m3 (And.intro m4 (And.intro m5 (And.intro m6 (And.intro m7 m8)))))))
    clear m0 m1 m2 m3 m4 m5 m6 m7 m8 hR9 hR hA hM hbel hvW hg0 hr0 HS HV
    go_wp2_with (rw [hW2.out])
    obtain ⟨m0, m1, m2, m3, m4, m5, m6, m7, m8⟩ := HM.out
    exact bodyPost_ret (v := .agg #[.slice none 0 0, .slice none 0 0, .int .i64 0, .slice none 0 0, .bool false, .int .i64 0, .int .i64 0, .int .i64 0, .slice none 0 0]) (by simp [results, Try.results7, go_sem, m0, m1, m2, m3, m4, m5, m6, m7, m8]) rfl HE.out
  | true =>
    have hS := fun W (hW : KView W (.agg #[.slice sa D.secs.length sc, .slice ca D.cache.length cc, .int .i64 D.ops, .slice fa D.faults.length fc, .bool D.down]) D) => l12Copy_any _ D W hW hf
    have hD2 : txD D = D := by unfold txD; rw [hP.out]; simp
    have HD2 : Hid (txD D = D) := hD2
    clear hD2 HS
    go_wp2_with (rw [hW2.out])
    rw [hMe.out]
    have hAd := hA.below (Below.refl _ _).drew
    have hMd := hM.below (Below.refl _ _).drew
    have hRd := hR.below (Below.refl _ _).drew
    have hvd := hvW.below (Below.refl _ _).drew
    have hbd := hbel.drew
    clear hA hM hR hvW hbel
    refine wp_region_held_drew (S := fun W => (W.cell? ⟨w.heap.size, 0, none⟩ = some (.slice sa D.secs.length sc) ∧ W.cell? ⟨w.heap.size, 1, none⟩ = some (.slice ca D.cache.length cc) ∧ W.cell? ⟨w.heap.size, 2, none⟩ = some (.int .i64 D.ops) ∧ W.cell? ⟨w.heap.size, 3, none⟩ = some (.slice fa D.faults.length fc) ∧ W.cell? ⟨w.heap.size, 4, none⟩ = some (.bool D.down)) ∧ W.cell? ⟨M, 0, none⟩ = some (.int .i64 g) ∧ W.cell? ⟨M, 1, none⟩ = some (.int .i64 r)) (by kernel_rfl) ⟨⟨hAd.cell 0, hAd.cell 1, hAd.cell 2, hAd.cell 3, hAd.cell 4⟩, hMd.cell 0, hMd.cell 1⟩ (fun hHeld => ?_)
    obtain ⟨wd, hwd⟩ := hidEx W2.drew
    rw [hwd.out] at hAd hMd hRd hvd hbd hHeld ⊢
    clear hwd hW2
    have hRl : Hid (w.heap.size + 1 < wd.heap.size) := hRd.lt
    have hMr : Hid (M ≠ w.heap.size + 1) := by rw [← hMe.out]; exact hMq.out
    refine' wpAnyH_take (i := 0) (v := _) rfl (by kernel_rfl) (by kernel_rfl) (by kernel_rfl) (fun _ _ _ h => h) (Or.inl ⟨by kernel_rfl, ?htn1⟩) (by assumption) ?rtn1
    case htn1 => intro W hW; obtain ⟨⟨c0, c1, c2, c3, c4⟩, d0, d1⟩ := hW; go_simp; all_goals with_reducible rfl
    change wpAnyH _ _ _ _ _ _ _ (Act.put _ (some 13) _) _
    simp only [Act.put, List.setIfInBounds_toArray, List.set_cons_zero, List.set_cons_succ]
    refine' wpAnyH_take (i := 2) (v := _) rfl (by kernel_rfl) (by kernel_rfl) (by kernel_rfl) (fun _ _ _ h => h) (Or.inl ⟨by kernel_rfl, ?htn2⟩) (by assumption) ?rtn2
    case htn2 => intro W hW; obtain ⟨⟨c0, c1, c2, c3, c4⟩, d0, d1⟩ := hW; go_simp; all_goals with_reducible rfl
    change wpAnyH _ _ _ _ _ _ _ (Act.put _ (some 15) _) _
    simp only [Act.put, List.setIfInBounds_toArray, List.set_cons_zero, List.set_cons_succ]
    refine' wpAnyH_take (i := 3) (v := _) rfl (by kernel_rfl) (by kernel_rfl) (by kernel_rfl) (fun _ _ _ h => h) (Or.inl ⟨by kernel_rfl, ?htn3⟩) (by assumption) ?rtn3
    case htn3 => intro W hW; obtain ⟨⟨c0, c1, c2, c3, c4⟩, d0, d1⟩ := hW; go_simp; all_goals with_reducible rfl
    change wpAnyH _ _ _ _ _ _ _ (Act.put _ (some 16) _) _
    simp only [Act.put, List.setIfInBounds_toArray, List.set_cons_zero, List.set_cons_succ]
    refine' wpAnyH_take (i := 4) (v := _) rfl (by kernel_rfl) (by kernel_rfl) (by kernel_rfl) (fun _ _ _ h => h) (Or.inl ⟨by kernel_rfl, ?htn4⟩) (by assumption) ?rtn4
    case htn4 => intro W hW; obtain ⟨⟨c0, c1, c2, c3, c4⟩, d0, d1⟩ := hW; go_simp; all_goals with_reducible rfl
    change wpAnyH _ _ _ _ _ _ _ (Act.put _ (some 17) _) _
    simp only [Act.put, List.setIfInBounds_toArray, List.set_cons_zero, List.set_cons_succ]
    refine wpAnyH_ready (rs := [1]) (by kernel_rfl) (by simp) ?_
    refine AllReadyH.cons rfl (fun KK hK => ?_) AllReadyH.nil
    go_simp
    refine (hS wd hvd).mono ?_
    rintro e w3 ⟨v3, rfl, ⟨ta, tc, da, dc, ga, gc, ss, cs, rfl, hk⟩, hb3⟩
    replace hAd := hAd.below hb3
    replace hMd := hMd.below hb3
    replace hRd := hRd.below hb3
    have hbw := hbd.trans (hb3.mono hbd.size)
    have hR1 := hRd.lt
    have hRw : w.heap.size + 1 < wd.heap.size := by have := hbd.size; have := hMd.lt; exact hRl.out
    clear hb3 hHeld hS hvd hbd
    unfold dval
    go_wp2_with fail
    refine hK.out _ _ ⟨⟨hAd.cell 0, hAd.cell 1, hAd.cell 2, hAd.cell 3, hAd.cell 4⟩, hMd.cell 0, hMd.cell 1⟩ (fun hHeld => ?_)
    clear hK KK
    try simp only [Act.put, List.setIfInBounds_toArray, List.set_cons_zero, List.set_cons_succ]
    refine' wpAnyH_take (i := 5) (v := _) rfl (by kernel_rfl) (by kernel_rfl) (by kernel_rfl) (fun _ _ _ h => h) (Or.inl ⟨by kernel_rfl, ?htn5⟩) (by assumption) ?rtn5
    case htn5 => intro W hW; obtain ⟨⟨c0, c1, c2, c3, c4⟩, d0, d1⟩ := hW; go_simp; all_goals with_reducible rfl
    change wpAnyH _ _ _ _ _ _ _ (Act.put _ (some 18) _) _
    simp only [Act.put, List.setIfInBounds_toArray, List.set_cons_zero, List.set_cons_succ]
    refine wpAnyH_ready (rs := [6]) (by kernel_rfl) (by simp) ?_
    refine AllReadyH.cons rfl (fun KK hK => ?_) AllReadyH.nil
    have r0 : w3.cell? ⟨w.heap.size + 1, 0, none⟩ = some (.slice none 0 0) := hRd.cell 0
    have z0 := hRd.fz 0
    have r1 : w3.cell? ⟨w.heap.size + 1, 1, none⟩ = some (.slice none 0 0) := hRd.cell 1
    have z1 := hRd.fz 1
    have r2 : w3.cell? ⟨w.heap.size + 1, 2, none⟩ = some (.int .i64 0) := hRd.cell 2
    have z2 := hRd.fz 2
    have r3 : w3.cell? ⟨w.heap.size + 1, 3, none⟩ = some (.slice none 0 0) := hRd.cell 3
    have z3 := hRd.fz 3
    have r4 : w3.cell? ⟨w.heap.size + 1, 4, none⟩ = some (.bool false) := hRd.cell 4
    have z4 := hRd.fz 4
    have r5 : w3.cell? ⟨w.heap.size + 1, 5, none⟩ = some (.int .i64 0) := hRd.cell 5
    have z5 := hRd.fz 5
    have r6 : w3.cell? ⟨w.heap.size + 1, 6, none⟩ = some (.int .i64 0) := hRd.cell 6
    have z6 := hRd.fz 6
    have r7 : w3.cell? ⟨w.heap.size + 1, 7, none⟩ = some (.int .i64 0) := hRd.cell 7
    have z7 := hRd.fz 7
    have r8 : w3.cell? ⟨w.heap.size + 1, 8, none⟩ = some (.slice none 0 0) := hRd.cell 8
    have z8 := hRd.fz 8
    go_simp
    clear r0 r1 r2 r3 r4 r5 r6 r7 r8 z0 z1 z2 z3 z4 z5 z6 z7 z8
    have hR9 := lay9_vn (.slice ta D.secs.length tc) (.slice da D.cache.length dc) (.int .i64 D.ops) (.slice ga D.faults.length gc) (.bool D.down) (.int .i64 g) (.int .i64 r) (.int .i64 r) (.slice none 0 0) hRd
    have hU9 := lay9_up (W := w3) (R := w.heap.size + 1) (B := wd.heap.size) (.slice ta D.secs.length tc) (.slice da D.cache.length dc) (.int .i64 D.ops) (.slice ga D.faults.length gc) (.bool D.down) (.int .i64 g) (.int .i64 r) (.int .i64 r) (.slice none 0 0) hRw
    have hA9 := hAd.block (w' := (lay9 w3 (w.heap.size + 1) (.slice ta D.secs.length tc) (.slice da D.cache.length dc) (.int .i64 D.ops) (.slice ga D.faults.length gc) (.bool D.down) (.int .i64 g) (.int .i64 r) (.int .i64 r) (.slice none 0 0))) (lay9_block _ _ _ _ _ _ _ _ _ (by omega))
    have hM9 := hMd.block (w' := (lay9 w3 (w.heap.size + 1) (.slice ta D.secs.length tc) (.slice da D.cache.length dc) (.int .i64 D.ops) (.slice ga D.faults.length gc) (.bool D.down) (.int .i64 g) (.int .i64 r) (.int .i64 r) (.slice none 0 0))) (lay9_block _ _ _ _ _ _ _ _ _ hMr.out)
    have HE : Hid (TxTo w D (.returned (.agg #[.slice ta D.secs.length tc, .slice da D.cache.length dc, .int .i64 D.ops, .slice ga D.faults.length gc, .bool D.down, .int .i64 g, .int .i64 r, .int .i64 r, .slice none 0 0])) (lay9 w3 (w.heap.size + 1) (.slice ta D.secs.length tc) (.slice da D.cache.length dc) (.int .i64 D.ops) (.slice ga D.faults.length gc) (.bool D.down) (.int .i64 g) (.int .i64 r) (.int .i64 r) (.slice none 0 0))) := ⟨ta, tc, da, dc, ga, gc, ss, cs, by rw [HD2.out, hP.out]; rfl, by rw [HD2.out]; exact (hk.up hU9).mono (by omega), lay9_below _ _ _ _ _ _ _ _ _ hbw (by omega)⟩
    refine hK.out _ _ ⟨⟨hA9.cell 0, hA9.cell 1, hA9.cell 2, hA9.cell 3, hA9.cell 4⟩, hM9.cell 0, hM9.cell 1⟩ (fun hHeld => ?_)
    clear hK KK
    try simp only [Act.put, List.setIfInBounds_toArray, List.set_cons_zero, List.set_cons_succ]
    refine wpAnyH_done (by kernel_rfl) ?_ _
    have m0 := hR9.cell 0
    have m1 := hR9.cell 1
    have m2 := hR9.cell 2
    have m3 := hR9.cell 3
    have m4 := hR9.cell 4
    have m5 := hR9.cell 5
    have m6 := hR9.cell 6
    have m7 := hR9.cell 7
    have m8 := hR9.cell 8
    unfold lay9 at m0 m1 m2 m3 m4 m5 m6 m7 m8 HE
    simp only [List.getElem?_cons_zero, List.getElem?_cons_succ] at m0 m1 m2 m3 m4 m5 m6 m7 m8
    clear hR9 hU9 hA9 hM9 hAd hMd hRd hbw hk hHeld
    go_wp2
    exact bodyPost_ret (v := .agg #[.slice ta D.secs.length tc, .slice da D.cache.length dc, .int .i64 D.ops, .slice ga D.faults.length gc, .bool D.down, .int .i64 g, .int .i64 r, .int .i64 r, .slice none 0 0]) (by simp [results, Try.results7, go_sem, m0, m1, m2, m3, m4, m5, m6, m7, m8]) rfl HE.out
end Go.Proofs.Ytdjaiappaghfnaa

/-
  The law's eqMeta of a root and itself.
-/
namespace Go.Proofs.Ytdjaiappaghfnaa
open Go.RowKit
set_option maxRecDepth 4000

set_option maxHeartbeats 2000000 in
theorem eqMeta_same (g r : Int) (w : World) :
    Calls Try.prog 17 #[.agg #[.int .i64 g, .int .i64 r], .agg #[.int .i64 g, .int .i64 r]] w fun e w' => e = .returned (.bool true) ∧ Below w.heap.size w w' := by
  have hg : (g == g) = true := beq_self_eq_true _
  have hr : (r == r) = true := beq_self_eq_true _
  go_enter Try.func17, Try.ntmps17
  go_wp2
  go_ret
  exact ⟨rfl, by repeat (first | exact Below.refl _ _ | refine Below.alloc ?_ (by simp <;> omega) _ | refine Below.drew ?_)⟩
end Go.Proofs.Ytdjaiappaghfnaa

/-
  Disks that read alike are alike, as the law holds them against each other.
-/
namespace Go.Proofs.Ytdjaiappaghfnaa
open Go.RowKit
set_option maxRecDepth 4000

/-- Two variables of five cells, one behind the other. -/
theorem box55 {w wr : World} {T U : TypeId} {x0 x1 x2 x3 x4 y0 y1 y2 y3 y4 : Value} (h : Below (w.heap.size + 1 + 1) ((w.alloc (.cells #[x0, x1, x2, x3, x4] T)).alloc (.cells #[y0, y1, y2, y3, y4] U)) wr) :
    (wr.cell? ⟨w.heap.size, 0, none⟩ = some x0 ∧ wr.cell? ⟨w.heap.size, 1, none⟩ = some x1 ∧ wr.cell? ⟨w.heap.size, 2, none⟩ = some x2 ∧ wr.cell? ⟨w.heap.size, 3, none⟩ = some x3 ∧ wr.cell? ⟨w.heap.size, 4, none⟩ = some x4)
    ∧ (wr.cell? ⟨w.heap.size + 1, 0, none⟩ = some y0 ∧ wr.cell? ⟨w.heap.size + 1, 1, none⟩ = some y1 ∧ wr.cell? ⟨w.heap.size + 1, 2, none⟩ = some y2 ∧ wr.cell? ⟨w.heap.size + 1, 3, none⟩ = some y3 ∧ wr.cell? ⟨w.heap.size + 1, 4, none⟩ = some y4) := by
  refine ⟨⟨?_, ?_, ?_, ?_, ?_⟩, ?_, ?_, ?_, ?_, ?_⟩
  all_goals (rw [h.cell (by first | (simp; done) | (simp; omega))]; simp [go_sem])
theorem box55_below {w wr : World} {o p : Obj} (h : Below (w.heap.size + 1 + 1) ((w.alloc o).alloc p) wr) : Below w.heap.size w wr ∧ w.heap.size + 2 ≤ wr.heap.size := by
  refine ⟨(((Below.refl _ _).alloc (Nat.le_refl _) _).alloc (by simp) _).trans (h.mono (by omega)), ?_⟩
  have := h.size
  simpa using this
theorem box55_on {w wr w' : World} {o p : Obj} (h : Below (w.heap.size + 1 + 1) ((w.alloc o).alloc p) wr) (h' : Below wr.heap.size wr w') : Below (w.heap.size + 1 + 1) ((w.alloc o).alloc p) w' := h.trans (h'.mono (box55_below h).2)

set_option maxHeartbeats 1000000 in
theorem eqFault_same (c d f : Int) (w : World) :
    Calls Try.prog 47 #[.agg #[.int .i64 c, .int .i64 d, .int .i64 f], .agg #[.int .i64 c, .int .i64 d, .int .i64 f]] w fun e w' => e = .returned (.bool true) ∧ Below w.heap.size w w' := by
  have e1 : (c != c) = false := bne_self_eq_false _
  have e2 : (d != d) = false := bne_self_eq_false _
  have e3 : (f != f) = false := bne_self_eq_false _
  go_enter Try.func47, Try.ntmps47
  go_wp2
  go_ret
  refine ⟨rfl, ?_⟩
  repeat (first | exact Below.refl _ _ | refine Below.alloc ?_ (by simp <;> omega) _ | refine Below.drew ?_)
set_option maxHeartbeats 1000000 in
theorem eqWrite_same (x : Int) (a1 a2 : Option Addr) (n c1 c2 : Nat) (f : Nat → Int) (w : World) (h1 : View w a1 n c1 f) (h2 : View w a2 n c2 f) (hn : n ≤ 1048576) :
    Calls Try.prog 59 #[.agg #[.int .i64 x, .slice a1 n c1], .agg #[.int .i64 x, .slice a2 n c2]] w fun e w' => e = .returned (.bool true) ∧ Below w.heap.size w w' := by
  have e1 : (x != x) = false := bne_self_eq_false _
  have hb0 : Below w.heap.size w ((w.alloc (.cells #[.int .i64 x, .slice a1 n c1] 79)).alloc (.cells #[.int .i64 x, .slice a2 n c2] 79)) := ((Below.refl _ _).alloc (Nat.le_refl _) _).alloc (by simp) _
  have hV := eqByteS_same a1 a2 n c1 c2 f f _ (h1.below hb0) (h2.below hb0) (by omega) (fun _ _ => rfl)
  clear h1 h2
  go_enter Try.func59, Try.ntmps59
  go_wp2_with fail
  refine hV.mono ?_
  rintro e w1 ⟨rfl, hb1⟩
  have HB : Hid (Below w.heap.size w w1) := hb0.trans (hb1.mono (by simp; omega))
  clear hV hb1 hb0
  go_wp2
  go_ret
  exact ⟨rfl, HB.out⟩

set_option maxHeartbeats 2000000 in
theorem eqByteSS_same (a1 a2 : Option Addr) (c1 c2 : Nat) (l : List (List Int)) (w : World) (h1 : SView w a1 c1 l) (h2 : SView w a2 c2 l) (hn : l.length ≤ 1048576) (hf : ∀ i (h : i < l.length), (l[i]).length ≤ 1048576) :
    Calls Try.prog 32 #[.slice a1 l.length c1, .slice a2 l.length c2] w fun e w' => e = .returned (.bool true) ∧ Below w.heap.size w w' := by
  go_enter Try.func32, Try.ntmps32
  go_wp2
  go_loopg [5] l.length (fun q i wr => ∃ k : Nat, k ≤ l.length ∧ q = l.length - k ∧ i = .int .i64 k ∧ Below w.heap.size w wr)
  case atStart => exact ⟨0, Nat.zero_le _, rfl, rfl, Below.refl _ _⟩
  case round =>
    obtain ⟨k, hk, rfl, rfl, hB⟩ := hrel
    by_cases hlt : k < l.length
    · obtain ⟨b1, o1, a3, c3, rfl, hb1, x0, v1, -⟩ := sview_at (sview_below h1 hB) hlt
      obtain ⟨b2, o2, a4, c4, rfl, hb2, y0, v2, -⟩ := sview_at (sview_below h2 hB) hlt
      have hf1 := hf k hlt
      obtain ⟨p1, hp1⟩ := hidEx (bf l[k])
      rw [hp1.out] at v1 v2
      obtain ⟨p0, hp0⟩ := hidEx (l[k]).length
      rw [hp0.out] at x0 y0 v1 v2 hf1
      have hkz : (k : Int) < (l.length : Int) := by omega
      have hV := fun W (hb : Below wr.heap.size wr W) => eqByteS_same a3 a4 p0 c3 c4 p1 p1 W (v1.below hb) (v2.below hb) (by omega) (fun _ _ => rfl)
      have HWK : Hid (∀ W, Below wr.heap.size wr W → (W.cell? ⟨b1, o1 + k, none⟩ = some (.slice a3 p0 c3)) ∧ (W.cell? ⟨b2, o2 + k, none⟩ = some (.slice a4 p0 c4))) := by
        intro W hb
        refine ⟨?_, ?_⟩ <;> (rw [hb.cell (by first | exact hb1 | exact hb2)]; assumption)
      clear h1 h2 hf v1 v2
      go_wp2_with fail
      go_region_held3 (fun W => (W.cell? ⟨b1, o1 + k, none⟩ = some (.slice a3 p0 c3)) ∧ (W.cell? ⟨b2, o2 + k, none⟩ = some (.slice a4 p0 c4))) (first | assumption | go_keep) (first | (go_at_call 58; refine (hV _ (by repeat (first | exact Below.refl _ _ | refine Below.drew ?_))).mono ?_; rintro e w2 ⟨rfl, hB2⟩; have hcells : (w2.cell? ⟨b1, o1 + k, none⟩ = some (.slice a3 p0 c3)) ∧ (w2.cell? ⟨b2, o2 + k, none⟩ = some (.slice a4 p0 c4)) := HWK.out _ (Below.trans (by repeat (first | exact Below.refl _ _ | refine Below.drew ?_)) hB2)))
      all_goals
        have hB3 : Hid (Below w.heap.size w w2) := hB.trans (Below.trans (by repeat (first | exact Below.refl _ _ | refine Below.drew ?_)) (hB2.mono (by have := hB.size; exact this)))
        clear hcells HWK hV
        go_wp2
        go_roundg (l.length - (k + 1))
        case measure => omega
        case rel => exact ⟨k + 1, by omega, rfl, by go_num, by first | exact hB3.out | exact hB3.out.drew⟩
    · clear h1 h2
      go_wp2
      go_ret
      exact ⟨rfl, hB⟩

set_option maxHeartbeats 2000000 in
theorem eqFaultS_same (a1 a2 : Option Addr) (c1 c2 : Nat) (l : List PFault) (w : World) (h1 : FView w a1 c1 l) (h2 : FView w a2 c2 l) (hn : l.length ≤ 1048576) :
    Calls Try.prog 22 #[.slice a1 l.length c1, .slice a2 l.length c2] w fun e w' => e = .returned (.bool true) ∧ Below w.heap.size w w' := by
  go_enter Try.func22, Try.ntmps22
  go_wp2
  go_loopg [5] l.length (fun q i wr => ∃ k : Nat, k ≤ l.length ∧ q = l.length - k ∧ i = .int .i64 k ∧ Below w.heap.size w wr)
  case atStart => exact ⟨0, Nat.zero_le _, rfl, rfl, Below.refl _ _⟩
  case round =>
    obtain ⟨k, hk, rfl, rfl, hB⟩ := hrel
    by_cases hlt : k < l.length
    · obtain ⟨b1, o1, rfl, hb1, x0, x1, x2⟩ := fview_at (fview_below h1 hB) hlt
      obtain ⟨b2, o2, rfl, hb2, y0, y1, y2⟩ := fview_at (fview_below h2 hB) hlt
      obtain ⟨p0, hp0⟩ := hidEx (l[k]).pos
      obtain ⟨p1, hp1⟩ := hidEx (l[k]).keep
      obtain ⟨p2, hp2⟩ := hidEx (l[k]).cut
      rw [hp0.out] at x0 y0
      rw [hp1.out] at x1 y1
      rw [hp2.out] at x2 y2
      have hkz : (k : Int) < (l.length : Int) := by omega
      have hV := fun W (_ : Below wr.heap.size wr W) => eqFault_same p0 p1 p2 W
      have HWK : Hid (∀ W, Below wr.heap.size wr W → (W.cell? ⟨b1, o1 + k * 3, none⟩ = some (.int .i64 p0) ∧ W.cell? ⟨b1, o1 + k * 3 + 1, none⟩ = some (.int .i64 p1) ∧ W.cell? ⟨b1, o1 + k * 3 + 2, none⟩ = some (.int .i64 p2)) ∧ (W.cell? ⟨b2, o2 + k * 3, none⟩ = some (.int .i64 p0) ∧ W.cell? ⟨b2, o2 + k * 3 + 1, none⟩ = some (.int .i64 p1) ∧ W.cell? ⟨b2, o2 + k * 3 + 2, none⟩ = some (.int .i64 p2))) := by
        intro W hb
        refine ⟨⟨?_, ?_, ?_⟩, ⟨?_, ?_, ?_⟩⟩ <;> (rw [hb.cell (by first | exact hb1 | exact hb2)]; assumption)
      clear h1 h2
      go_wp2_with fail
      go_region_held3 (fun W => (W.cell? ⟨b1, o1 + k * 3, none⟩ = some (.int .i64 p0) ∧ W.cell? ⟨b1, o1 + k * 3 + 1, none⟩ = some (.int .i64 p1) ∧ W.cell? ⟨b1, o1 + k * 3 + 2, none⟩ = some (.int .i64 p2)) ∧ (W.cell? ⟨b2, o2 + k * 3, none⟩ = some (.int .i64 p0) ∧ W.cell? ⟨b2, o2 + k * 3 + 1, none⟩ = some (.int .i64 p1) ∧ W.cell? ⟨b2, o2 + k * 3 + 2, none⟩ = some (.int .i64 p2))) (first | assumption | go_keep) (first | (go_at_call 47; refine (hV _ (by repeat (first | exact Below.refl _ _ | refine Below.drew ?_))).mono ?_; rintro e w2 ⟨rfl, hB2⟩; have hcells : (w2.cell? ⟨b1, o1 + k * 3, none⟩ = some (.int .i64 p0) ∧ w2.cell? ⟨b1, o1 + k * 3 + 1, none⟩ = some (.int .i64 p1) ∧ w2.cell? ⟨b1, o1 + k * 3 + 2, none⟩ = some (.int .i64 p2)) ∧ (w2.cell? ⟨b2, o2 + k * 3, none⟩ = some (.int .i64 p0) ∧ w2.cell? ⟨b2, o2 + k * 3 + 1, none⟩ = some (.int .i64 p1) ∧ w2.cell? ⟨b2, o2 + k * 3 + 2, none⟩ = some (.int .i64 p2)) := HWK.out _ (Below.trans (by repeat (first | exact Below.refl _ _ | refine Below.drew ?_)) hB2)))
      all_goals
        have hB3 : Hid (Below w.heap.size w w2) := hB.trans (Below.trans (by repeat (first | exact Below.refl _ _ | refine Below.drew ?_)) (hB2.mono (by have := hB.size; exact this)))
        clear hcells HWK hV
        go_wp2
        go_roundg (l.length - (k + 1))
        case measure => omega
        case rel => exact ⟨k + 1, by omega, rfl, by go_num, by first | exact hB3.out | exact hB3.out.drew⟩
    · clear h1 h2
      go_wp2
      go_ret
      exact ⟨rfl, hB⟩

set_option maxHeartbeats 2000000 in
theorem eqWriteS_same (a1 a2 : Option Addr) (c1 c2 : Nat) (l : List (Int × List Int)) (w : World) (h1 : WView w a1 c1 l) (h2 : WView w a2 c2 l) (hn : l.length ≤ 1048576) (hf : ∀ i (h : i < l.length), (l[i]).2.length ≤ 1048576) :
    Calls Try.prog 33 #[.slice a1 l.length c1, .slice a2 l.length c2] w fun e w' => e = .returned (.bool true) ∧ Below w.heap.size w w' := by
  go_enter Try.func33, Try.ntmps33
  go_wp2
  go_loopg [5] l.length (fun q i wr => ∃ k : Nat, k ≤ l.length ∧ q = l.length - k ∧ i = .int .i64 k ∧ Below w.heap.size w wr)
  case atStart => exact ⟨0, Nat.zero_le _, rfl, rfl, Below.refl _ _⟩
  case round =>
    obtain ⟨k, hk, rfl, rfl, hB⟩ := hrel
    by_cases hlt : k < l.length
    · obtain ⟨b1, o1, a3, c3, rfl, hb1, x0, x1, v1, -⟩ := wview_at (wview_below h1 hB) hlt
      obtain ⟨b2, o2, a4, c4, rfl, hb2, y0, y1, v2, -⟩ := wview_at (wview_below h2 hB) hlt
      have hf1 := hf k hlt
      obtain ⟨p2, hp2⟩ := hidEx (l[k]).1
      rw [hp2.out] at x0 y0
      obtain ⟨p1, hp1⟩ := hidEx (bf (l[k]).2)
      rw [hp1.out] at v1 v2
      obtain ⟨p0, hp0⟩ := hidEx (l[k]).2.length
      rw [hp0.out] at x1 y1 v1 v2 hf1
      have hkz : (k : Int) < (l.length : Int) := by omega
      have hV := fun W (hb : Below wr.heap.size wr W) => eqWrite_same p2 a3 a4 p0 c3 c4 p1 W (v1.below hb) (v2.below hb) (by omega)
      have HWK : Hid (∀ W, Below wr.heap.size wr W → (W.cell? ⟨b1, o1 + k * 2, none⟩ = some (.int .i64 p2) ∧ W.cell? ⟨b1, o1 + k * 2 + 1, none⟩ = some (.slice a3 p0 c3)) ∧ (W.cell? ⟨b2, o2 + k * 2, none⟩ = some (.int .i64 p2) ∧ W.cell? ⟨b2, o2 + k * 2 + 1, none⟩ = some (.slice a4 p0 c4))) := by
        intro W hb
        refine ⟨⟨?_, ?_⟩, ⟨?_, ?_⟩⟩ <;> (rw [hb.cell (by first | exact hb1 | exact hb2)]; assumption)
      clear h1 h2 hf v1 v2
      go_wp2_with fail
      go_region_held3 (fun W => (W.cell? ⟨b1, o1 + k * 2, none⟩ = some (.int .i64 p2) ∧ W.cell? ⟨b1, o1 + k * 2 + 1, none⟩ = some (.slice a3 p0 c3)) ∧ (W.cell? ⟨b2, o2 + k * 2, none⟩ = some (.int .i64 p2) ∧ W.cell? ⟨b2, o2 + k * 2 + 1, none⟩ = some (.slice a4 p0 c4))) (first | assumption | go_keep) (first | (go_at_call 59; refine (hV _ (by repeat (first | exact Below.refl _ _ | refine Below.drew ?_))).mono ?_; rintro e w2 ⟨rfl, hB2⟩; have hcells : (w2.cell? ⟨b1, o1 + k * 2, none⟩ = some (.int .i64 p2) ∧ w2.cell? ⟨b1, o1 + k * 2 + 1, none⟩ = some (.slice a3 p0 c3)) ∧ (w2.cell? ⟨b2, o2 + k * 2, none⟩ = some (.int .i64 p2) ∧ w2.cell? ⟨b2, o2 + k * 2 + 1, none⟩ = some (.slice a4 p0 c4)) := HWK.out _ (Below.trans (by repeat (first | exact Below.refl _ _ | refine Below.drew ?_)) hB2)))
      all_goals
        have hB3 : Hid (Below w.heap.size w w2) := hB.trans (Below.trans (by repeat (first | exact Below.refl _ _ | refine Below.drew ?_)) (hB2.mono (by have := hB.size; exact this)))
        clear hcells HWK hV
        go_wp2
        go_roundg (l.length - (k + 1))
        case measure => omega
        case rel => exact ⟨k + 1, by omega, rfl, by go_num, by first | exact hB3.out | exact hB3.out.drew⟩
    · clear h1 h2
      go_wp2
      go_ret
      exact ⟨rfl, hB⟩

set_option maxHeartbeats 2000000 in
theorem eqDisk_same (u v : Value) (D : PDisk) (w : World) (h1 : KView w u D) (h2 : KView w v D) (hf : KFine D) :
    Calls Try.prog 11 #[u, v] w fun e w' => e = .returned (.bool true) ∧ Below w.heap.size w w' := by
  obtain ⟨sa, sc, ca, cc, fa, fc, rfl, hs1, hc1, hf1⟩ := h1.is
  obtain ⟨ta, tc, da, dc, ga, gc, rfl, hs2, hc2, hf2⟩ := h2.is
  clear h1 h2
  have e1 : (D.ops != D.ops) = false := bne_self_eq_false _
  have e2 : (D.down != D.down) = false := bne_self_eq_false _
  have hB0 : Below (w.heap.size + 1 + 1) ((w.alloc (.cells #[.slice sa D.secs.length sc, .slice ca D.cache.length cc, .int .i64 D.ops, .slice fa D.faults.length fc, .bool D.down] 31)).alloc (.cells #[.slice ta D.secs.length tc, .slice da D.cache.length dc, .int .i64 D.ops, .slice ga D.faults.length gc, .bool D.down] 31)) ((w.alloc (.cells #[.slice sa D.secs.length sc, .slice ca D.cache.length cc, .int .i64 D.ops, .slice fa D.faults.length fc, .bool D.down] 31)).alloc (.cells #[.slice ta D.secs.length tc, .slice da D.cache.length dc, .int .i64 D.ops, .slice ga D.faults.length gc, .bool D.down] 31)) := Below.refl _ _
  obtain ⟨hBw0, -⟩ := box55_below hB0
  have hV1 := eqByteSS_same sa ta sc tc D.secs _ (sview_below hs1 hBw0) (sview_below hs2 hBw0) hf.ns (fun i h => hf.sec _ (List.getElem_mem h))
  go_enter Try.func11, Try.ntmps11
  go_wp2_with fail
  refine hV1.mono ?_
  rintro e w1 ⟨rfl, hb1⟩
  have hB1 := box55_on hB0 hb1
  obtain ⟨hBw1, hs1⟩ := box55_below hB1
  obtain ⟨⟨x0, x1, x2, x3, x4⟩, y0, y1, y2, y3, y4⟩ := box55 hB1
  have hV2 := eqWriteS_same ca da cc dc D.cache w1 (wview_below hc1 hBw1) (wview_below hc2 hBw1) hf.nc (fun i h => hf.cache _ (List.getElem_mem h))
  clear hV1 hb1 hB0 hBw0 hs1 hs2
  go_wp2_with fail
  refine hV2.mono ?_
  rintro e w2 ⟨rfl, hb2⟩
  have hB2 := box55_on hB1 hb2
  obtain ⟨hBw2, hs2⟩ := box55_below hB2
  clear x0 x1 x2 x3 x4 y0 y1 y2 y3 y4
  obtain ⟨⟨x0, x1, x2, x3, x4⟩, y0, y1, y2, y3, y4⟩ := box55 hB2
  have hV3 := eqFaultS_same fa ga fc gc D.faults w2 (fview_below hf1 hBw2) (fview_below hf2 hBw2) hf.nf
  clear hV2 hb2 hB1 hBw1 hc1 hc2
  go_wp2_with fail
  refine hV3.mono ?_
  rintro e w3 ⟨rfl, hb3⟩
  have hB3 := box55_on hB2 hb3
  have HB : Hid (Below w.heap.size w w3) := (box55_below hB3).1
  clear x0 x1 x2 x3 x4 y0 y1 y2 y3 y4
  obtain ⟨⟨x0, x1, x2, x3, x4⟩, y0, y1, y2, y3, y4⟩ := box55 hB3
  clear hV3 hb3 hB2 hBw2 hf1 hf2 hf hB3
  go_wp2
  go_ret
  exact ⟨rfl, HB.out⟩
end Go.Proofs.Ytdjaiappaghfnaa

/-
  The laws' eqTxn, markTxn and heldTxn at what is under way and has nothing new.
-/
namespace Go.Proofs.Ytdjaiappaghfnaa
open Go.RowKit
set_option maxRecDepth 4000

theorem eqFresh_none (w : World) : Calls Try.prog 31 #[.slice none 0 0, .slice none 0 0] w fun e w' => e = .returned (.bool true) ∧ Below w.heap.size w w' := by
  go_enter Try.func31, Try.ntmps31
  go_wp2
  go_loopg [5] 0 (fun q i wr => q = 0 ∧ i = .int .i64 0 ∧ Below w.heap.size w wr)
  case atStart => exact ⟨rfl, rfl, Below.refl _ _⟩
  case round =>
    obtain ⟨rfl, rfl, hB⟩ := hrel
    go_wp2
    go_ret
    exact ⟨rfl, hB⟩
theorem markFresh_none (k : Int) (w : World) : Calls Try.prog 36 #[.slice none 0 0, .int .i64 k] w fun e w' => e = .returned (.int .i64 k) ∧ Below w.heap.size w w' := by
  go_enter Try.func36, Try.ntmps36
  go_wp2
  go_loopg [1, 5] 0 (fun q kk i wr => q = 0 ∧ kk = .int .i64 k ∧ i = .int .i64 0 ∧ Below w.heap.size w wr)
  case atStart => exact ⟨rfl, rfl, rfl, Below.refl _ _⟩
  case round =>
    obtain ⟨rfl, rfl, rfl, hB⟩ := hrel
    go_wp2
    go_ret
    exact ⟨rfl, hB⟩
theorem heldFresh_none (k : Int) (w : World) : Calls Try.prog 37 #[.slice none 0 0, .int .i64 k] w fun e w' => e = .returned (.int .i64 k) ∧ Below w.heap.size w w' := by
  go_enter Try.func37, Try.ntmps37
  go_wp2
  go_loopg [1, 5] 0 (fun q kk i wr => q = 0 ∧ kk = .int .i64 k ∧ i = .int .i64 0 ∧ Below w.heap.size w wr)
  case atStart => exact ⟨rfl, rfl, rfl, Below.refl _ _⟩
  case round =>
    obtain ⟨rfl, rfl, rfl, hB⟩ := hrel
    go_wp2
    go_ret
    exact ⟨rfl, hB⟩

set_option maxHeartbeats 4000000 in
theorem eqTx_same (D : PDisk) (g r q : Int) (a1 : Option Addr) (a2 : Nat) (a3 : Option Addr) (a4 : Nat) (a5 : Option Addr) (a6 : Nat) (b1 : Option Addr) (b2 : Nat) (b3 : Option Addr) (b4 : Nat) (b5 : Option Addr) (b6 : Nat) (w : World) (h1 : KView w (dval D a1 a2 a3 a4 a5 a6) D) (h2 : KView w (dval D b1 b2 b3 b4 b5 b6) D) (hf : KFine D) :
    Calls Try.prog 10 #[tval D a1 a2 a3 a4 a5 a6 g r q, tval D b1 b2 b3 b4 b5 b6 g r q] w fun e w' => e = .returned (.bool true) ∧ Below w.heap.size w w' := by
  unfold tval
  have e1 : (q != q) = false := bne_self_eq_false _
  have hB0 : Below w.heap.size w ((w.alloc (.cells #[.slice a1 D.secs.length a2, .slice a3 D.cache.length a4, .int .i64 D.ops, .slice a5 D.faults.length a6, .bool D.down, .int .i64 g, .int .i64 r, .int .i64 q, .slice none 0 0] 36)).alloc (.cells #[.slice b1 D.secs.length b2, .slice b3 D.cache.length b4, .int .i64 D.ops, .slice b5 D.faults.length b6, .bool D.down, .int .i64 g, .int .i64 r, .int .i64 q, .slice none 0 0] 36)) := ((Below.refl _ _).alloc (Nat.le_refl _) _).alloc (by simp) _
  have hA := (VN.new w 36 [.slice a1 D.secs.length a2, .slice a3 D.cache.length a4, .int .i64 D.ops, .slice a5 D.faults.length a6, .bool D.down, .int .i64 g, .int .i64 r, .int .i64 q, .slice none 0 0]).below ((Below.refl _ _).alloc (Nat.le_refl _) (.cells #[.slice b1 D.secs.length b2, .slice b3 D.cache.length b4, .int .i64 D.ops, .slice b5 D.faults.length b6, .bool D.down, .int .i64 g, .int .i64 r, .int .i64 q, .slice none 0 0] 36))
  have hC := VN.new (w.alloc (.cells #[.slice a1 D.secs.length a2, .slice a3 D.cache.length a4, .int .i64 D.ops, .slice a5 D.faults.length a6, .bool D.down, .int .i64 g, .int .i64 r, .int .i64 q, .slice none 0 0] 36)) 36 [.slice b1 D.secs.length b2, .slice b3 D.cache.length b4, .int .i64 D.ops, .slice b5 D.faults.length b6, .bool D.down, .int .i64 g, .int .i64 r, .int .i64 q, .slice none 0 0]
  have hz : (w.alloc (.cells #[.slice a1 D.secs.length a2, .slice a3 D.cache.length a4, .int .i64 D.ops, .slice a5 D.faults.length a6, .bool D.down, .int .i64 g, .int .i64 r, .int .i64 q, .slice none 0 0] 36)).heap.size = w.heap.size + 1 := by simp
  rw [hz] at hC
  obtain ⟨W0, hW0⟩ := hidEx ((w.alloc (.cells #[.slice a1 D.secs.length a2, .slice a3 D.cache.length a4, .int .i64 D.ops, .slice a5 D.faults.length a6, .bool D.down, .int .i64 g, .int .i64 r, .int .i64 q, .slice none 0 0] 36)).alloc (.cells #[.slice b1 D.secs.length b2, .slice b3 D.cache.length b4, .int .i64 D.ops, .slice b5 D.faults.length b6, .bool D.down, .int .i64 g, .int .i64 r, .int .i64 q, .slice none 0 0] 36))
  replace hA : VN W0 w.heap.size 36 [.slice a1 D.secs.length a2, .slice a3 D.cache.length a4, .int .i64 D.ops, .slice a5 D.faults.length a6, .bool D.down, .int .i64 g, .int .i64 r, .int .i64 q, .slice none 0 0] := by rw [← hW0.out]; exact hA
  rw [hW0.out] at hB0 hC
  have k1 := h1.below hB0
  have k2 := h2.below hB0
  have hE := eqDisk_same _ _ D W0 k1 k2 hf
  unfold dval at hE
  have x0 : W0.cell? ⟨w.heap.size, 0, none⟩ = some (.slice a1 D.secs.length a2) := hA.cell 0
  have x1 : W0.cell? ⟨w.heap.size, 1, none⟩ = some (.slice a3 D.cache.length a4) := hA.cell 1
  have x2 : W0.cell? ⟨w.heap.size, 2, none⟩ = some (.int .i64 D.ops) := hA.cell 2
  have x3 : W0.cell? ⟨w.heap.size, 3, none⟩ = some (.slice a5 D.faults.length a6) := hA.cell 3
  have x4 : W0.cell? ⟨w.heap.size, 4, none⟩ = some (.bool D.down) := hA.cell 4
  have y0 : W0.cell? ⟨w.heap.size + 1, 0, none⟩ = some (.slice b1 D.secs.length b2) := hC.cell 0
  have y1 : W0.cell? ⟨w.heap.size + 1, 1, none⟩ = some (.slice b3 D.cache.length b4) := hC.cell 1
  have y2 : W0.cell? ⟨w.heap.size + 1, 2, none⟩ = some (.int .i64 D.ops) := hC.cell 2
  have y3 : W0.cell? ⟨w.heap.size + 1, 3, none⟩ = some (.slice b5 D.faults.length b6) := hC.cell 3
  have y4 : W0.cell? ⟨w.heap.size + 1, 4, none⟩ = some (.bool D.down) := hC.cell 4
  clear h1 h2 k1 k2 hz hf
  go_enter Try.func10, Try.ntmps10
  go_wp2_with (rw [hW0.out])
  refine hE.mono ?_
  rintro e w1 ⟨rfl, hb1⟩
  clear x0 y0 x1 y1 x2 y2 x3 y3 x4 y4
  replace hA := hA.below hb1
  replace hC := hC.below hb1
  replace hB0 := hB0.trans (hb1.mono hB0.size)
  clear hb1
  clear hE hW0
  have x5 : w1.cell? ⟨w.heap.size, 5, none⟩ = some (.int .i64 g) := hA.cell 5
  have x6 : w1.cell? ⟨w.heap.size, 6, none⟩ = some (.int .i64 r) := hA.cell 6
  have y5 : w1.cell? ⟨w.heap.size + 1, 5, none⟩ = some (.int .i64 g) := hC.cell 5
  have y6 : w1.cell? ⟨w.heap.size + 1, 6, none⟩ = some (.int .i64 r) := hC.cell 6
  go_wp2_with fail
  refine (eqMeta_same g r w1).mono ?_
  rintro e w2 ⟨rfl, hb2⟩
  clear x5 y5 x6 y6
  replace hA := hA.below hb2
  replace hC := hC.below hb2
  replace hB0 := hB0.trans (hb2.mono hB0.size)
  clear hb2
  have x7 : w2.cell? ⟨w.heap.size, 7, none⟩ = some (.int .i64 q) := hA.cell 7
  have x8 : w2.cell? ⟨w.heap.size, 8, none⟩ = some (.slice none 0 0) := hA.cell 8
  have y7 : w2.cell? ⟨w.heap.size + 1, 7, none⟩ = some (.int .i64 q) := hC.cell 7
  have y8 : w2.cell? ⟨w.heap.size + 1, 8, none⟩ = some (.slice none 0 0) := hC.cell 8
  go_wp2_with fail
  refine (eqFresh_none w2).mono ?_
  rintro e w3 ⟨rfl, hb3⟩
  clear x7 y7 x8 y8
  replace hA := hA.below hb3
  replace hC := hC.below hb3
  replace hB0 := hB0.trans (hb3.mono hB0.size)
  clear hb3
  have HB : Hid (Below w.heap.size w w3) := hB0
  clear hA hC hB0
  go_wp2
  go_ret
  exact ⟨rfl, HB.out⟩

set_option maxHeartbeats 4000000 in
theorem markTx_any (D : PDisk) (g r q : Int) (a1 : Option Addr) (a2 : Nat) (a3 : Option Addr) (a4 : Nat) (a5 : Option Addr) (a6 : Nat) (B H : Nat) (k : Int) (w : World) (h : KIn w B H (dval D a1 a2 a3 a4 a5 a6) D) (hH : H ≤ w.heap.size) (hf : KFine D) (hk : 0 ≤ k) (hk1 : k ≤ 1000000000) :
    Calls Try.prog 13 #[tval D a1 a2 a3 a4 a5 a6 g r q, .int .i64 k] w fun e w' => e = .returned (.int .i64 (k + szD D)) ∧ KIn w' B H (dval D a1 a2 a3 a4 a5 a6) (mkD k D) ∧ Out B H w w' := by
  unfold tval
  have hbA : Below w.heap.size w (w.alloc (.cells #[.slice a1 D.secs.length a2, .slice a3 D.cache.length a4, .int .i64 D.ops, .slice a5 D.faults.length a6, .bool D.down, .int .i64 g, .int .i64 r, .int .i64 q, .slice none 0 0] 36)) := (Below.refl _ _).alloc (Nat.le_refl _) _
  have hA := VN.new w 36 [.slice a1 D.secs.length a2, .slice a3 D.cache.length a4, .int .i64 D.ops, .slice a5 D.faults.length a6, .bool D.down, .int .i64 g, .int .i64 r, .int .i64 q, .slice none 0 0]
  have hI := h.up (Up.ofBelow hbA)
  obtain ⟨W0, hW0⟩ := hidEx (w.alloc (.cells #[.slice a1 D.secs.length a2, .slice a3 D.cache.length a4, .int .i64 D.ops, .slice a5 D.faults.length a6, .bool D.down, .int .i64 g, .int .i64 r, .int .i64 q, .slice none 0 0] 36))
  rw [hW0.out] at hI hbA
  replace hA : VN W0 w.heap.size 36 [.slice a1 D.secs.length a2, .slice a3 D.cache.length a4, .int .i64 D.ops, .slice a5 D.faults.length a6, .bool D.down, .int .i64 g, .int .i64 r, .int .i64 q, .slice none 0 0] := by rw [← hW0.out]; exact hA
  have hC := markDisk_any _ D B H k W0 hI hf hk hk1
  unfold dval at hC
  have x0 : W0.cell? ⟨w.heap.size, 0, none⟩ = some (.slice a1 D.secs.length a2) := hA.cell 0
  have x1 : W0.cell? ⟨w.heap.size, 1, none⟩ = some (.slice a3 D.cache.length a4) := hA.cell 1
  have x2 : W0.cell? ⟨w.heap.size, 2, none⟩ = some (.int .i64 D.ops) := hA.cell 2
  have x3 : W0.cell? ⟨w.heap.size, 3, none⟩ = some (.slice a5 D.faults.length a6) := hA.cell 3
  have x4 : W0.cell? ⟨w.heap.size, 4, none⟩ = some (.bool D.down) := hA.cell 4
  clear h hI
  go_enter Try.func13, Try.ntmps13
  go_wp2_with (rw [hW0.out])
  refine hC.mono ?_
  rintro e w1 ⟨rfl, hI1, hO1⟩
  clear x0 x1 x2 x3 x4 hC
  have hA1 := hA.block (hO1.block _ hA.lt (.inr hH))
  have hO := (Out.ofBelow hbA).trans hO1
  have x8 : w1.cell? ⟨w.heap.size, 8, none⟩ = some (.slice none 0 0) := hA1.cell 8
  obtain ⟨k1, hk1e⟩ := hidEx (k + (szD D : Int))
  rw [hk1e.out]
  have HI : Hid (KIn w1 B H (.agg #[.slice a1 D.secs.length a2, .slice a3 D.cache.length a4, .int .i64 D.ops, .slice a5 D.faults.length a6, .bool D.down]) (mkD k D)) := hI1
  have HO : Hid (Out B H w w1) := hO
  clear hI1 hO1 hO hA hA1 hbA hW0
  go_wp2_with fail
  refine (markFresh_none k1 w1).mono ?_
  rintro e w2 ⟨rfl, hb2⟩
  have HR : Hid (KIn w2 B H (.agg #[.slice a1 D.secs.length a2, .slice a3 D.cache.length a4, .int .i64 D.ops, .slice a5 D.faults.length a6, .bool D.down]) (mkD k D) ∧ Out B H w w2) := ⟨HI.out.up (Up.ofBelow hb2), HO.out.trans (Out.ofBelow hb2)⟩
  clear hb2 HI HO x8
  go_wp2
  go_ret
  exact ⟨by rw [hk1e.out]; rfl, HR.out.1, HR.out.2⟩

set_option maxHeartbeats 4000000 in
theorem heldTx_any (D : PDisk) (g r q : Int) (a1 : Option Addr) (a2 : Nat) (a3 : Option Addr) (a4 : Nat) (a5 : Option Addr) (a6 : Nat) (k : Int) (w : World) (h : KView w (dval D a1 a2 a3 a4 a5 a6) (mkD k D)) (hf : KFine D) (hk : 0 ≤ k) (hk1 : k ≤ 1000000000) :
    Calls Try.prog 14 #[tval D a1 a2 a3 a4 a5 a6 g r q, .int .i64 k] w fun e w' => e = .returned (.int .i64 (k + szD D)) ∧ Below w.heap.size w w' := by
  unfold tval
  have hbA : Below w.heap.size w (w.alloc (.cells #[.slice a1 D.secs.length a2, .slice a3 D.cache.length a4, .int .i64 D.ops, .slice a5 D.faults.length a6, .bool D.down, .int .i64 g, .int .i64 r, .int .i64 q, .slice none 0 0] 36)) := (Below.refl _ _).alloc (Nat.le_refl _) _
  have hA := VN.new w 36 [.slice a1 D.secs.length a2, .slice a3 D.cache.length a4, .int .i64 D.ops, .slice a5 D.faults.length a6, .bool D.down, .int .i64 g, .int .i64 r, .int .i64 q, .slice none 0 0]
  have hI := h.below hbA
  obtain ⟨W0, hW0⟩ := hidEx (w.alloc (.cells #[.slice a1 D.secs.length a2, .slice a3 D.cache.length a4, .int .i64 D.ops, .slice a5 D.faults.length a6, .bool D.down, .int .i64 g, .int .i64 r, .int .i64 q, .slice none 0 0] 36))
  rw [hW0.out] at hI hbA
  replace hA : VN W0 w.heap.size 36 [.slice a1 D.secs.length a2, .slice a3 D.cache.length a4, .int .i64 D.ops, .slice a5 D.faults.length a6, .bool D.down, .int .i64 g, .int .i64 r, .int .i64 q, .slice none 0 0] := by rw [← hW0.out]; exact hA
  have hC := heldDisk_any _ D k W0 hI hf hk hk1
  unfold dval at hC
  have x0 : W0.cell? ⟨w.heap.size, 0, none⟩ = some (.slice a1 D.secs.length a2) := hA.cell 0
  have x1 : W0.cell? ⟨w.heap.size, 1, none⟩ = some (.slice a3 D.cache.length a4) := hA.cell 1
  have x2 : W0.cell? ⟨w.heap.size, 2, none⟩ = some (.int .i64 D.ops) := hA.cell 2
  have x3 : W0.cell? ⟨w.heap.size, 3, none⟩ = some (.slice a5 D.faults.length a6) := hA.cell 3
  have x4 : W0.cell? ⟨w.heap.size, 4, none⟩ = some (.bool D.down) := hA.cell 4
  clear h hI
  go_enter Try.func14, Try.ntmps14
  go_wp2_with (rw [hW0.out])
  refine hC.mono ?_
  rintro e w1 ⟨rfl, hb1⟩
  clear x0 x1 x2 x3 x4 hC
  replace hA := hA.below hb1
  replace hbA := hbA.trans (hb1.mono hbA.size)
  have x8 : w1.cell? ⟨w.heap.size, 8, none⟩ = some (.slice none 0 0) := hA.cell 8
  have hkp : 0 ≤ k + (szD D : Int) := by omega
  obtain ⟨k1, hk1e⟩ := hidEx (k + (szD D : Int))
  rw [hk1e.out] at hkp ⊢
  have hkn : ¬ k1 < 0 := by omega
  clear hb1 hW0 hkp
  go_wp2_with fail
  refine (heldFresh_none k1 w1).mono ?_
  rintro e w2 ⟨rfl, hb2⟩
  have HR : Hid (Below w.heap.size w w2) := hbA.trans (hb2.mono hbA.size)
  clear hb2 hbA hA x8
  go_wp2
  go_ret
  exact ⟨by rw [hk1e.out]; rfl, HR.out⟩
end Go.Proofs.Ytdjaiappaghfnaa

/-
  How much a disk holds, as the law counts it: rows of sectors and of writes, and the disk.
-/
namespace Go.Proofs.Ytdjaiappaghfnaa
open Go.RowKit
set_option maxRecDepth 4000

set_option maxHeartbeats 1000000 in
theorem szWrite_fine (x : Int) (a : Option Addr) (n cap : Nat) (left : Int) (w : World) (hs : n ≤ maxLen) (h0 : 0 ≤ left) (hl : left ≤ 1048576) :
    Calls Try.prog 52 #[.agg #[.int .i64 x, .slice a n cap], .int .i64 left] w (LeftK w left (n ≤ 1048576)) := by
  have hS := fun W => szByteS_fine a n cap left W hs h0 hl
  go_enter Try.func52, Try.ntmps52
  go_wp2_with fail
  refine (hS _).mono ?_
  rintro e w1 ⟨L, rfl, hb1, hL⟩
  have HB : Hid (Below w.heap.size w w1) := ((Below.refl _ _).alloc (Nat.le_refl _) _).trans (hb1.mono (by simp))
  clear hS hb1
  rcases hL with rfl | ⟨hL0, hL1, hP⟩
  · go_wp2
    go_ret
    exact ⟨_, rfl, HB.out, .inl rfl⟩
  · have hLn : ¬ L < 0 := by omega
    go_wp2
    go_ret
    exact ⟨_, rfl, HB.out, .inr ⟨by omega, by omega, hP⟩⟩

set_option maxHeartbeats 2000000 in
theorem szByteSS_fine (a : Option Addr) (cap : Nat) (l : List (List Int)) (left : Int) (w : World) (h : SView w a cap l) (hn : l.length ≤ maxLen) (hz : ∀ i (h : i < l.length), (l[i]).length ≤ maxLen) (h0 : 0 ≤ left) (hl : left ≤ 1048576) :
    Calls Try.prog 25 #[.slice a l.length cap, .int .i64 left] w (LeftK w left (l.length ≤ 1048576 ∧ ∀ i (h : i < l.length), (l[i]).length ≤ 1048576)) := by
  have hn' : (l.length : Int) ≤ 9223372036854775807 := by unfold maxLen at hn; omega
  by_cases hb : left - (l.length : Int) < 0
  · go_enter Try.func25, Try.ntmps25
    go_wp2
    go_ret
    exact ⟨_, rfl, Below.refl _ _, .inl rfl⟩
  go_enter Try.func25, Try.ntmps25
  go_wp2
  go_loopg [1, 5] l.length (fun q t i wr => ∃ (k : Nat) (L : Int), k ≤ l.length ∧ q = l.length - k ∧ t = .int .i64 L ∧ i = .int .i64 k ∧ Below w.heap.size w wr ∧ 0 ≤ L ∧ L ≤ left - l.length ∧ Hid (∀ i (h : i < l.length), i < k → (l[i]).length ≤ 1048576))
  case atStart => exact ⟨0, left - l.length, Nat.zero_le _, rfl, rfl, rfl, Below.refl _ _, by omega, by omega, fun i _ hi => absurd hi (Nat.not_lt_zero _)⟩
  case round =>
    obtain ⟨k, L, hk, rfl, rfl, rfl, hB, hL0, hL1, HA⟩ := hrel
    by_cases hlt : k < l.length
    · obtain ⟨b1, o1, a', c', rfl, hb1, x0, -, -⟩ := sview_at (sview_below h hB) hlt
      have hkz : (k : Int) < (l.length : Int) := by omega
      have hS := fun W => szByteS_fine a' (l[k]).length c' L W (hz k hlt) hL0 (by omega)
      have HN : Hid ((l[k]).length ≤ 1048576 → ∀ i (h : i < l.length), i < k + 1 → (l[i]).length ≤ 1048576) := by
        intro hp i h hi
        by_cases e : i < k
        · exact HA.out i h e
        · obtain rfl : i = k := by omega
          exact hp
      clear h hz HA
      obtain ⟨p0, hp0⟩ := hidEx (l[k]).length
      rw [hp0.out] at x0 HN
      simp only [hp0.out] at hS
      go_wp2_with fail
      refine (hS _).mono ?_
      rintro e w1 ⟨L', rfl, hb1', hL⟩
      have HB : Hid (Below w.heap.size w w1) := hB.trans (hb1'.mono hB.size)
      clear hS hb1' hB
      rcases hL with rfl | ⟨hL0', hL1', hP⟩
      · go_wp2
        go_ret
        exact ⟨_, rfl, HB.out, .inl rfl⟩
      · have hLn : ¬ L' < 0 := by omega
        have HN2 : Hid (∀ i (h : i < l.length), i < k + 1 → (l[i]).length ≤ 1048576) := HN.out hP
        clear HN
        go_wp2
        go_roundg (l.length - (k + 1))
        case measure => omega
        case rel => exact ⟨k + 1, L', by omega, rfl, rfl, by go_num, HB.out, by omega, by omega, HN2⟩
    · have hkz : ¬ (k : Int) < (l.length : Int) := by omega
      clear h hz
      go_wp2
      go_ret
      exact ⟨_, rfl, hB, .inr ⟨hL0, by omega, by omega, fun i h => HA.out i h (by omega)⟩⟩

set_option maxHeartbeats 2000000 in
theorem szWriteS_fine (a : Option Addr) (cap : Nat) (l : List (Int × List Int)) (left : Int) (w : World) (h : WView w a cap l) (hn : l.length ≤ maxLen) (hz : ∀ i (h : i < l.length), (l[i]).2.length ≤ maxLen) (h0 : 0 ≤ left) (hl : left ≤ 1048576) :
    Calls Try.prog 26 #[.slice a l.length cap, .int .i64 left] w (LeftK w left (l.length ≤ 1048576 ∧ ∀ i (h : i < l.length), (l[i]).2.length ≤ 1048576)) := by
  have hn' : (l.length : Int) ≤ 9223372036854775807 := by unfold maxLen at hn; omega
  by_cases hb : left - (l.length : Int) < 0
  · go_enter Try.func26, Try.ntmps26
    go_wp2
    go_ret
    exact ⟨_, rfl, Below.refl _ _, .inl rfl⟩
  go_enter Try.func26, Try.ntmps26
  go_wp2
  go_loopg [1, 5] l.length (fun q t i wr => ∃ (k : Nat) (L : Int), k ≤ l.length ∧ q = l.length - k ∧ t = .int .i64 L ∧ i = .int .i64 k ∧ Below w.heap.size w wr ∧ 0 ≤ L ∧ L ≤ left - l.length ∧ Hid (∀ i (h : i < l.length), i < k → (l[i]).2.length ≤ 1048576))
  case atStart => exact ⟨0, left - l.length, Nat.zero_le _, rfl, rfl, rfl, Below.refl _ _, by omega, by omega, fun i _ hi => absurd hi (Nat.not_lt_zero _)⟩
  case round =>
    obtain ⟨k, L, hk, rfl, rfl, rfl, hB, hL0, hL1, HA⟩ := hrel
    by_cases hlt : k < l.length
    · obtain ⟨b1, o1, a', c', rfl, hb1, x0, x1, -, -⟩ := wview_at (wview_below h hB) hlt
      have hkz : (k : Int) < (l.length : Int) := by omega
      have hS := fun y W => szWrite_fine y a' (l[k]).2.length c' L W (hz k hlt) hL0 (by omega)
      have HN : Hid ((l[k]).2.length ≤ 1048576 → ∀ i (h : i < l.length), i < k + 1 → (l[i]).2.length ≤ 1048576) := by
        intro hp i h hi
        by_cases e : i < k
        · exact HA.out i h e
        · obtain rfl : i = k := by omega
          exact hp
      clear h hz HA
      obtain ⟨p0, hp0⟩ := hidEx (l[k]).2.length
      obtain ⟨p1, hp1⟩ := hidEx (l[k]).1
      rw [hp0.out] at x1 HN
      rw [hp1.out] at x0
      simp only [hp0.out] at hS
      go_wp2_with fail
      refine (hS _ _).mono ?_
      rintro e w1 ⟨L', rfl, hb1', hL⟩
      have HB : Hid (Below w.heap.size w w1) := hB.trans (hb1'.mono hB.size)
      clear hS hb1' hB
      rcases hL with rfl | ⟨hL0', hL1', hP⟩
      · go_wp2
        go_ret
        exact ⟨_, rfl, HB.out, .inl rfl⟩
      · have hLn : ¬ L' < 0 := by omega
        have HN2 : Hid (∀ i (h : i < l.length), i < k + 1 → (l[i]).2.length ≤ 1048576) := HN.out hP
        clear HN
        go_wp2
        go_roundg (l.length - (k + 1))
        case measure => omega
        case rel => exact ⟨k + 1, L', by omega, rfl, rfl, by go_num, HB.out, by omega, by omega, HN2⟩
    · have hkz : ¬ (k : Int) < (l.length : Int) := by omega
      clear h hz
      go_wp2
      go_ret
      exact ⟨_, rfl, hB, .inr ⟨hL0, by omega, by omega, fun i h => HA.out i h (by omega)⟩⟩

set_option maxHeartbeats 2000000 in
theorem szDisk_fine (v : Value) (D : PDisk) (left : Int) (w : World) (h : KView w v D) (hm : KLim D) (h0 : 0 ≤ left) (hl : left ≤ 1048576) :
    Calls Try.prog 6 #[v, .int .i64 left] w (LeftK w left (KFine D)) := by
  obtain ⟨sa, sc, ca, cc, fa, fc, rfl, hs, hc, hf⟩ := h.is
  clear h
  have hB0 := box5_start w (.cells #[.slice sa D.secs.length sc, .slice ca D.cache.length cc, .int .i64 D.ops, .slice fa D.faults.length fc, .bool D.down] 26)
  obtain ⟨hBw0, -⟩ := box5_below hB0
  have h1 := szByteSS_fine sa sc D.secs left _ (sview_below hs hBw0) hm.ns hm.sec h0 hl
  go_enter Try.func6, Try.ntmps6
  go_wp2_with fail
  refine h1.mono ?_
  rintro e w1 ⟨L1, rfl, hb1, hL⟩
  have hB1 := box5_on hB0 hb1
  obtain ⟨hBw1, hs1⟩ := box5_below hB1
  obtain ⟨x0, x1, x2, x3, x4⟩ := box5 hB1
  clear h1 hb1 hB0 hBw0 hs
  rcases hL with rfl | ⟨a0, a1, aP⟩
  · clear hc hf
    go_wp2
    go_ret
    exact ⟨_, rfl, hBw1, .inl rfl⟩
  have n1 : ¬ L1 < 0 := by omega
  have HP1 : Hid (D.secs.length ≤ 1048576 ∧ ∀ i (h : i < D.secs.length), (D.secs[i]).length ≤ 1048576) := aP
  have h2 := szWriteS_fine ca cc D.cache L1 w1 (wview_below hc hBw1) hm.nc hm.cache a0 (by omega)
  clear aP
  go_wp2_with fail
  refine h2.mono ?_
  rintro e w2 ⟨L2, rfl, hb2, hL⟩
  have hB2 := box5_on hB1 hb2
  obtain ⟨hBw2, hs2⟩ := box5_below hB2
  clear x0 x1 x2 x3 x4
  obtain ⟨x0, x1, x2, x3, x4⟩ := box5 hB2
  clear h2 hb2 hB1 hBw1 hs1 hc
  rcases hL with rfl | ⟨c0, c1, cP⟩
  · clear hf
    go_wp2
    go_ret
    exact ⟨_, rfl, hBw2, .inl rfl⟩
  have n2 : ¬ L2 < 0 := by omega
  have HP2 : Hid (D.cache.length ≤ 1048576 ∧ ∀ i (h : i < D.cache.length), (D.cache[i]).2.length ≤ 1048576) := cP
  have h3 := szFaultS_fine fa D.faults.length fc L2 w2 hm.nf c0 (by omega)
  clear cP hf
  go_wp2_with fail
  refine h3.mono ?_
  rintro e w3 ⟨L3, rfl, hb3, hL⟩
  have hB3 := box5_on hB2 hb3
  obtain ⟨hBw3, hs3⟩ := box5_below hB3
  clear x0 x1 x2 x3 x4 h3 hb3 hB2 hBw2 hs2
  rcases hL with rfl | ⟨d0, d1, dP⟩
  · go_wp2
    go_ret
    exact ⟨_, rfl, hBw3, .inl rfl⟩
  have n3 : ¬ L3 < 0 := by omega
  go_wp2
  go_ret
  refine ⟨_, rfl, hBw3, .inr ⟨d0, by omega, ⟨HP1.out.1, fun x hx => ?_, HP2.out.1, fun x hx => ?_, dP⟩⟩⟩
  · obtain ⟨i, hi, rfl⟩ := List.getElem_of_mem hx
    exact HP1.out.2 i hi
  · obtain ⟨i, hi, rfl⟩ := List.getElem_of_mem hx
    exact HP2.out.2 i hi
end Go.Proofs.Ytdjaiappaghfnaa

