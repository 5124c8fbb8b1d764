/-
  Together: LawRowKeys, Jumps, TokMore, LexBytes
-/
import Derived.Test.YtkakkjnbhklfpaaGreatDoorPackR16
import Derived.Test.YtkakkjnbhklfpaaGreatDoorPackR17
import Derived.Test.YtkakkjnbhklfpaaGreatDoorPackR25
import Derived.Deep.LoopGhost
import Derived.Test.YtkakkjnbhklfpaaGreatDoorPackR1
import Derived.Scope
import Derived.WalkMore
import Derived.Test.YtkakkjnbhklfpaaGreatDoorPackR3
import Derived.Test.YtkakkjnbhklfpaaGreatDoorShelf
/-
  The law FnRowKeys, walked.
-/
namespace Go.Proofs.YtkakkjnbhklfpaaGreatDoor
open Go.RowKit
set_option maxRecDepth 4000

/-- What a call that makes a plan comes to, seen. -/
def PlanV (W : World) (N : Nat) (P : Nat → PPart) (e : Ending) (w' : World) : Prop := ∃ g c, e = .returned (.slice (some ⟨g, 0, none⟩) N c) ∧ QView w' (some ⟨g, 0, none⟩) N c P ∧ Below W.heap.size W w'
theorem PlanTo.seen {W w' : World} {N : Nat} {P : Nat → PPart} {e : Ending} (h : PlanTo W N P e w') : PlanV W N P e w' := by
  obtain ⟨g, c, he, hO, hb⟩ := h
  exact ⟨g, c, he, qview_of_own hO, hb⟩
theorem planN_pri (D : PDef) : planN D (-1) = priN D := by unfold planN; rw [if_pos rfl]
theorem planL_pri (D : PDef) : planL D (-1) = D.pri := by unfold planL; rw [if_pos rfl]
theorem planN_idx (D : PDef) {i : Int} (h : 0 ≤ i) : planN D i = idxN D i := by unfold planN; rw [if_neg (by omega)]
theorem planL_idx (D : PDef) {i : Int} (h : 0 ≤ i) : planL D i = ixpL D i := by unfold planL; rw [if_neg (by omega)]

set_option maxRecDepth 20000 in
set_option maxHeartbeats 8000000 in
theorem lawRowKeys (ao : Option Addr) (n0 cap0 : Nat) (w : World) (hI : ChkI w)
    (hB : Calls Tryz.prog 5 #[.slice ao n0 cap0] w fun e w' => e = .returned (.bool (decide ((1048576 : Int) < (n0 : Int)))) ∧ w = w')
    (hDr : n0 ≤ 1048576 → Calls Tryz.prog 6 #[.slice ao n0 cap0] w (RowsTo w)) :
    Calls Tryz.prog 3 #[.slice ao n0 cap0] w fun e w' => e = .returned (.bool true) ∧ Below w.heap.size w w' := by
  go_enter Tryz.func3, Tryz.ntmps3
  go_wp2_with fail
  refine hB.mono ?_
  rintro e w0 ⟨rfl, rfl⟩
  clear hB
  by_cases hbig : (1048576 : Int) < (n0 : Int)
  · simp only [hbig, decide_true]
    go_wp2
    go_ret
    exact ⟨rfl, Below.refl _ _⟩
  simp only [hbig, decide_false]
  have hd := hDr (by omega)
  clear hDr
  go_wp2_with fail
  refine hd.mono ?_
  rintro e w1 ⟨a, n, k, F, j, b1, c1, b2, c2, fk, fn, fs, gk, gn, gs, rfl, hL, hf, hF, hj, ⟨hv1, s1⟩, ⟨hv2, s2⟩, hb1⟩
  clear hd
  have hI1 := hI.below hb1
  have hD := (firstF_none hF).2.1 j hj
  have hfj := hf.at_ j hj
  have hnc := (good_nc hD).2.2
  have hni := (checkF_good hD).2.2.2.1
  have HR : Hid (∀ i : Int, -1 ≤ i → i < (F j).ni → ∃ X Y H z sb, Rnd w1 a n k j b1 b2 (F j).nc c1 c2 fk fn fs gk gn gs (planN (F j) i) (plF (F j).col (planL (F j) i)) i (sameQ (planN (F j) (-1)) (plF (F j).col (planL (F j) (-1))) (F j).nc fk fn fs gk gn gs) X Y H z sb) := fun i i0 i1 => rnd_any hI1 hL hf hF hj hv1 s1 hv2 s2 i i0 i1
  have HLI : Hid (∀ W, Below w1.heap.size w1 W → Calls Tryz.prog 17 #[.slice a n k, .int .i64 j, .slice (some ⟨b1, 0, none⟩) (F j).nc c1] W fun e w' => e = .returned (.bool (longB F n j (F j).nc fk fn fs)) ∧ Below W.heap.size W w') := fun W hb => implLong_any a n k F j _ _ c1 fk fn fs W hj (hL.below hb) hf (hv1.below hb) (by omega) (fun q hq => by have := short_size s1 q hq; omega) (hI1.below hb)
  have HLS : Hid (∀ W, Below w1.heap.size w1 W → Calls Tryz.prog 18 #[.slice a n k, .int .i64 j, .slice (some ⟨b1, 0, none⟩) (F j).nc c1] W fun e w' => e = .returned (.bool (longB F n j (F j).nc fk fn fs)) ∧ Below W.heap.size W w') := fun W hb => specLong_any a n k F j _ _ c1 fk fn fs W hj hF (row_short hD s1) (hL.below hb) hf (hv1.below hb) (by omega) (fun q hq => by have := short_size s1 q hq; omega)
  have HPA : Hid (∀ (W : World) (g c N : Nat) (P : Nat → PPart), Below w1.heap.size w1 W → QView W (some ⟨g, 0, none⟩) N c P → N ≤ 6 → Calls Tryz.prog 8 #[.slice (some ⟨g, 0, none⟩) N c, .slice (some ⟨b1, 0, none⟩) (F j).nc c1] W fun e w' => ∃ a' c', e = .returned (.slice a' N c') ∧ PickV w' a' N c' P (F j).nc fk fn fs ∧ Below W.heap.size W w') := fun W g c N P hb hq hN => pickV_any g c N P _ _ c1 fk fn fs W hq (hv1.below hb) hN (by omega) (short_size s1)
  have HPB : Hid (∀ (W : World) (g c N : Nat) (P : Nat → PPart), Below w1.heap.size w1 W → QView W (some ⟨g, 0, none⟩) N c P → N ≤ 6 → Calls Tryz.prog 8 #[.slice (some ⟨g, 0, none⟩) N c, .slice (some ⟨b2, 0, none⟩) (F j).nc c2] W fun e w' => ∃ a' c', e = .returned (.slice a' N c') ∧ PickV w' a' N c' P (F j).nc gk gn gs ∧ Below W.heap.size W w') := fun W g c N P hb hq hN => pickV_any g c N P _ _ c2 gk gn gs W hq (hv2.below hb) hN (by omega) (short_size s2)
  have HSR : Hid (∀ (W : World) (a1 : Option Addr) (d1 : Nat) (a2 : Option Addr) (d2 N : Nat) (P : Nat → PPart), PickV W a1 N d1 P (F j).nc fk fn fs → PickV W a2 N d2 P (F j).nc gk gn gs → N ≤ 6 → Calls Tryz.prog 7 #[.slice a1 N d1, .slice a2 N d2] W fun e w' => e = .returned (.bool (sameQ N P (F j).nc fk fn fs gk gn gs)) ∧ Below W.heap.size W w') := fun W a1 d1 a2 d2 N P h1 h2 hN => sameRow_impl a1 a2 N N d1 d2 _ _ _ _ _ _ W h1 h2 (by omega) (by omega)
  obtain ⟨b, off, rfl, hbb, hc⟩ := hL.cells (by omega)
  obtain ⟨y1, y2, y3, x0, x1, x2, x3, hv⟩ := hc j hj
  obtain ⟨ac, cc, ap, cp, ai, ci, -, rfl, rfl, rfl, -, -, -⟩ := hv.parts
  obtain ⟨u1, hu1⟩ : ∃ x, Hid (Value.slice ac (F j).nc cc = x) := ⟨_, rfl⟩
  obtain ⟨u2, hu2⟩ : ∃ x, Hid (Value.slice ap (F j).np cp = x) := ⟨_, rfl⟩
  rw [hu1.out] at x1 hv
  rw [hu2.out] at x2 hv
  have HC : Hid (∀ W, Below w1.heap.size w1 W → W.cell? ⟨b, off + j * 4, none⟩ = some (.string (F j).name) ∧ W.cell? ⟨b, off + j * 4 + 1, none⟩ = some u1 ∧ W.cell? ⟨b, off + j * 4 + 2, none⟩ = some u2 ∧ W.cell? ⟨b, off + j * 4 + 3, none⟩ = some (.slice ai (F j).ni ci)) := fun W hb => ⟨(hb.cell (p := ⟨b, off + j * 4, none⟩) hbb).trans x0, (hb.cell (p := ⟨b, off + j * 4 + 1, none⟩) hbb).trans x1, (hb.cell (p := ⟨b, off + j * 4 + 2, none⟩) hbb).trans x2, (hb.cell (p := ⟨b, off + j * 4 + 3, none⟩) hbb).trans x3⟩
  have HPP : Hid (∀ W, Below w1.heap.size w1 W → Calls Tryz.prog 9 #[.agg #[.string (F j).name, u1, u2, .slice ai (F j).ni ci]] W (PlanV W (planN (F j) (-1)) (plF (F j).col (planL (F j) (-1))))) := fun W hb => by
    rw [planN_pri, planL_pri]
    exact (implPrimary_any _ (F j) W (hv.below hb) hfj (hI1.below hb)).mono (fun _ _ h => h.seen)
  have HIP : Hid (∀ (W : World) (i : Int), 0 ≤ i → Below w1.heap.size w1 W → Calls Tryz.prog 10 #[.agg #[.string (F j).name, u1, u2, .slice ai (F j).ni ci], .int .i64 i] W (PlanV W (planN (F j) i) (plF (F j).col (planL (F j) i)))) := fun W i h0 hb => by
    rw [planN_idx _ h0, planL_idx _ h0]
    exact (implIndex_any _ (F j) i W (hv.below hb) hfj (hI1.below hb)).mono (fun _ _ h => h.seen)
  have HN : Hid (∀ i, planN (F j) i ≤ 6) := fun i => planN_le (F j) i
  have HB0 : Hid (Below w.heap.size w w1) := hb1
  have hjz : (j : Int) < (n : Int) := by omega
  clear hc hv hv1 hv2 s1 s2 hI hI1 hL hf hF hD hfj x0 x1 x2 x3 hb1
  obtain ⟨nm, hnm⟩ : ∃ x, Hid ((F j).name = x) := ⟨_, rfl⟩
  obtain ⟨nc, hncE⟩ : ∃ x, Hid ((F j).nc = x) := ⟨_, rfl⟩
  obtain ⟨ni, hniE⟩ : ∃ x, Hid ((F j).ni = x) := ⟨_, rfl⟩
  obtain ⟨pN, hpN⟩ : ∃ x, Hid (planN (F j) = x) := ⟨_, rfl⟩
  obtain ⟨pP, hpP⟩ : ∃ x, Hid ((fun i => plF (F j).col (planL (F j) i)) = x) := ⟨_, rfl⟩
  have hpP' : ∀ i, plF (F j).col (planL (F j) i) = pP i := fun i => congrFun hpP.out i
  simp only [hnm.out, hncE.out, hniE.out, hpN.out, hpP'] at HR HLI HLS HPA HPB HSR HC HPP HIP HN hnc hni ⊢
  obtain ⟨lo, hlo⟩ : ∃ x, Hid (longB F n j nc fk fn fs = x) := ⟨_, rfl⟩
  simp only [hlo.out] at HLI HLS
  clear hnm hncE hniE hpN hpP hpP' hlo
  have hB0 := Below.refl w1.heap.size w1
  obtain ⟨x0, x1, x2, x3⟩ := HC.out _ hB0
  obtain ⟨sm, hsm⟩ : ∃ x, Hid (sameQ (pN (-1)) (pP (-1)) nc fk fn fs gk gn gs = x) := ⟨_, rfl⟩
  have HSM : Hid (∀ (W : World) (a1 : Option Addr) (d1 : Nat) (a2 : Option Addr) (d2 : Nat), PickV W a1 (pN (-1)) d1 (pP (-1)) nc fk fn fs → PickV W a2 (pN (-1)) d2 (pP (-1)) nc gk gn gs → Calls Tryz.prog 7 #[.slice a1 (pN (-1)) d1, .slice a2 (pN (-1)) d2] W fun e w' => e = .returned (.bool sm) ∧ Below W.heap.size W w') := by
    intro W a1 d1 a2 d2 h1 h2
    rw [← hsm.out]
    exact HSR.out W a1 d1 a2 d2 _ _ h1 h2 (HN.out _)
  simp only [hsm.out] at HR
  clear hsm HSR hB0
  have hcells0 : (w1.cell? ⟨b, off + j * 4, none⟩ = some (.string nm) ∧ w1.cell? ⟨b, off + j * 4 + 1, none⟩ = some u1 ∧ w1.cell? ⟨b, off + j * 4 + 2, none⟩ = some u2 ∧ w1.cell? ⟨b, off + j * 4 + 3, none⟩ = some (.slice ai ni ci)) := ⟨x0, x1, x2, x3⟩
  go_wp2_with fail
  go_region_held3 (fun W => (W.cell? ⟨b, off + j * 4, none⟩ = some (.string nm) ∧ W.cell? ⟨b, off + j * 4 + 1, none⟩ = some u1 ∧ W.cell? ⟨b, off + j * 4 + 2, none⟩ = some u2 ∧ W.cell? ⟨b, off + j * 4 + 3, none⟩ = some (.slice ai ni ci))) (first | assumption | go_keep) (first
    | (go_at_call 7; refine (HSM.out _ a3 d3 a5 d5 (PickV.below (PickV.below (PickV.below hp3 (Below.trans (by repeat (first | exact Below.refl _ _ | refine Below.drew ?_)) hb4)) (Below.trans (by repeat (first | exact Below.refl _ _ | refine Below.drew ?_)) hb5)) (by repeat (first | exact Below.refl _ _ | refine Below.drew ?_))) (PickV.below hp5 (by repeat (first | exact Below.refl _ _ | refine Below.drew ?_)))).mono ?_; rintro e w6 ⟨rfl, hb6⟩; have hcells6 : (w6.cell? ⟨b, off + j * 4, none⟩ = some (.string nm) ∧ w6.cell? ⟨b, off + j * 4 + 1, none⟩ = some u1 ∧ w6.cell? ⟨b, off + j * 4 + 2, none⟩ = some u2 ∧ w6.cell? ⟨b, off + j * 4 + 3, none⟩ = some (.slice ai ni ci)) := HC.out w6 (hB5.trans ((Below.trans (by repeat (first | exact Below.refl _ _ | refine Below.drew ?_)) hb6).mono hB5.size)))
    | (go_at_call 8; refine (HPB.out _ g4 d4 _ _ (hB4.trans (Below.mono (by repeat (first | exact Below.refl _ _ | refine Below.drew ?_)) hB4.size)) (PView.below hq4 (by repeat (first | exact Below.refl _ _ | refine Below.drew ?_))) (HN.out _)).mono ?_; rintro e w5 ⟨a5, d5, rfl, hp5, hb5⟩; have hB5 := hB4.trans ((Below.trans (by repeat (first | exact Below.refl _ _ | refine Below.drew ?_)) hb5).mono hB4.size); have hcells5 : (w5.cell? ⟨b, off + j * 4, none⟩ = some (.string nm) ∧ w5.cell? ⟨b, off + j * 4 + 1, none⟩ = some u1 ∧ w5.cell? ⟨b, off + j * 4 + 2, none⟩ = some u2 ∧ w5.cell? ⟨b, off + j * 4 + 3, none⟩ = some (.slice ai ni ci)) := HC.out w5 hB5)
    | (go_at_call 9; refine (HPP.out _ (hB3.trans (Below.mono (by repeat (first | exact Below.refl _ _ | refine Below.drew ?_)) hB3.size))).mono ?_; rintro e w4 ⟨g4, d4, rfl, hq4, hb4⟩; have hB4 := hB3.trans ((Below.trans (by repeat (first | exact Below.refl _ _ | refine Below.drew ?_)) hb4).mono hB3.size); have hcells4 : (w4.cell? ⟨b, off + j * 4, none⟩ = some (.string nm) ∧ w4.cell? ⟨b, off + j * 4 + 1, none⟩ = some u1 ∧ w4.cell? ⟨b, off + j * 4 + 2, none⟩ = some u2 ∧ w4.cell? ⟨b, off + j * 4 + 3, none⟩ = some (.slice ai ni ci)) := HC.out w4 hB4)
    | (go_at_call 8; refine (HPA.out _ g2 d2 _ _ (hB2.trans (Below.mono (by repeat (first | exact Below.refl _ _ | refine Below.drew ?_)) hB2.size)) (PView.below hq2 (by repeat (first | exact Below.refl _ _ | refine Below.drew ?_))) (HN.out _)).mono ?_; rintro e w3 ⟨a3, d3, rfl, hp3, hb3⟩; have hB3 := hB2.trans ((Below.trans (by repeat (first | exact Below.refl _ _ | refine Below.drew ?_)) hb3).mono hB2.size); have hcells3 : (w3.cell? ⟨b, off + j * 4, none⟩ = some (.string nm) ∧ w3.cell? ⟨b, off + j * 4 + 1, none⟩ = some u1 ∧ w3.cell? ⟨b, off + j * 4 + 2, none⟩ = some u2 ∧ w3.cell? ⟨b, off + j * 4 + 3, none⟩ = some (.slice ai ni ci)) := HC.out w3 hB3)
    | (go_at_call 9; refine (HPP.out _ (by repeat (first | exact Below.refl _ _ | refine Below.drew ?_))).mono ?_; rintro e w2 ⟨g2, d2, rfl, hq2, hb2⟩; have hB2 : Below w1.heap.size w1 w2 := Below.trans (by repeat (first | exact Below.refl _ _ | refine Below.drew ?_)) hb2; have hcells2 : (w2.cell? ⟨b, off + j * 4, none⟩ = some (.string nm) ∧ w2.cell? ⟨b, off + j * 4 + 1, none⟩ = some u1 ∧ w2.cell? ⟨b, off + j * 4 + 2, none⟩ = some u2 ∧ w2.cell? ⟨b, off + j * 4 + 3, none⟩ = some (.slice ai ni ci)) := HC.out w2 hB2))
  have hB6 := hB5.trans (hb6.mono hB5.size)
  go_wp2
  go_loopg [8] (ni + 1) (fun q i wr => ∃ k : Nat, k ≤ ni + 1 ∧ q = ni + 1 - k ∧ i = .int .i64 ((k : Int) - 1) ∧ Below w1.heap.size w1 wr)
  case atStart => exact ⟨0, by omega, rfl, by simp, hB6⟩
  case round =>
    obtain ⟨k', hk, rfl, rfl, hB⟩ := hrel
    clear hB6
    obtain ⟨x0, x1, x2, x3⟩ := HC.out _ hB
    by_cases hlt : k' < ni + 1
    · have hkz : (k' : Int) - 1 < (ni : Int) := by omega
      obtain ⟨X, Y, H, z, sb, hR⟩ := HR.out ((k' : Int) - 1) (by omega) hkz
      have hP := HPP.out _ hB
      clear HR HLI HLS
      by_cases h0 : k' = 0
      · subst h0
        have hge : ¬ ((0 : Nat) : Int) - 1 ≥ 0 := by omega
        have heq : ((0 : Nat) : Int) - 1 = -1 := by omega
        rw [heq] at hR hge hkz
        simp only [heq]
        go_wp2_with fail
        refine hP.mono ?_
        rintro e v0 ⟨gp, dp, rfl, hq0, hb0⟩
        have hC0 := hB.trans (hb0.mono hB.size)
        clear hP hb0 hB x0 x1 x2 x3 HPP HIP
        have hK := hR.kx v0 hC0
        go_wp2_with fail
        refine hK.mono ?_
        rintro e v1 ⟨gx, dx, rfl, hx1, hb1⟩
        have hC1 := hC0.trans (hb1.mono hC0.size)
        have hq1 := PView.below hq0 hb1
        clear hK hb1 hC0 hq0
        have hK := hR.ky v1 hC1
        go_wp2_with fail
        refine hK.mono ?_
        rintro e v2 ⟨gy, dy, rfl, hy2, hb2⟩
        have hC2 := hC1.trans (hb2.mono hC1.size)
        have hq2 := PView.below hq1 hb2
        have hx2 := hx1.below hb2
        clear hK hb2 hC1 hq1 hx1
        have hK := hR.kh v2 hC2
        go_wp2_with fail
        refine hK.mono ?_
        rintro e v3 ⟨gh, dh, rfl, hh3, hb3⟩
        have hC3 := hC2.trans (hb3.mono hC2.size)
        have hq3 := PView.below hq2 hb3
        have hx3 := hx2.below hb3
        have hy3 := hy2.below hb3
        clear hK hb3 hC2 hq2 hx2 hy2
        have hK := hR.bx v3 gx dx gh dh hx3 hh3
        go_wp2_with fail
        refine hK.mono ?_
        rintro e v4 ⟨rfl, hb4⟩
        have hC4 := hC3.trans (hb4.mono hC3.size)
        have hq4 := PView.below hq3 hb4
        have hx4 := hx3.below hb4
        have hy4 := hy3.below hb4
        have hh4 := hh3.below hb4
        clear hK hb4 hC3 hq3 hx3 hy3 hh3
        have hK := hR.by_ v4 gy dy gh dh hy4 hh4
        go_wp2_with fail
        refine hK.mono ?_
        rintro e v5 ⟨rfl, hb5⟩
        have hC5 := hC4.trans (hb5.mono hC4.size)
        have hq5 := PView.below hq4 hb5
        have hx5 := hx4.below hb5
        have hy5 := hy4.below hb5
        clear hK hb5 hC4 hq4 hx4 hy4 hh4
        have hK := hR.bf v5 gx dx gy dy hx5 hy5
        go_wp2_with fail
        refine hK.mono ?_
        rintro e v5' ⟨rfl, rfl⟩
        clear hK
        have hK := HPA.out v5 gp dp _ _ hC5 hq5 (HN.out _)
        go_wp2_with fail
        refine hK.mono ?_
        rintro e v6 ⟨a6, d6, rfl, hp6, hb6⟩
        have hC6 := hC5.trans (hb6.mono hC5.size)
        have hq6 := PView.below hq5 hb6
        have hx6 := hx5.below hb6
        have hy6 := hy5.below hb6
        clear hK hb6 hC5 hq5 hx5 hy5 HPA
        have hK := HPB.out v6 gp dp _ _ hC6 hq6 (HN.out _)
        go_wp2_with fail
        refine hK.mono ?_
        rintro e v7 ⟨a7, d7, rfl, hp7, hb7⟩
        have hC7 := hC6.trans (hb7.mono hC6.size)
        have hq7 := PView.below hq6 hb7
        have hx7 := hx6.below hb7
        have hy7 := hy6.below hb7
        have hp6' := hp6.below hb7
        clear hK hb7 hC6 hq6 hx6 hy6 hp6 HPB
        have hK := hR.ls v7 gp dp a6 d6 a7 d7 hq7 hp6' hp7
        go_wp2_with fail
        refine hK.mono ?_
        rintro e v8 ⟨rfl, hb8⟩
        have hC8 := hC7.trans (hb8.mono hC7.size)
        have hx8 := hx7.below hb8
        have hy8 := hy7.below hb8
        clear hK hb8 hC7 hx7 hy7 hq7 hp6' hp7
        have hzz : (z != z) = false := bne_self_eq_false _
        have hK := hR.sm v8 gx dx gy dy hx8 hy8
        go_wp2_with fail
        refine hK.mono ?_
        rintro e v9 ⟨rfl, hb9⟩
        have hC9 := hC8.trans (hb9.mono hC8.size)
        have hx9 := hx8.below hb9
        have hy9 := hy8.below hb9
        clear hK hb9 hC8 hx8 hy8 hzz
        obtain rfl := hR.pri rfl
        have hK := hR.sm v9 gx dx gy dy hx9 hy9
        clear hR hx9 hy9
        cases sb
        · go_wp2_with fail
          refine hK.mono ?_
          rintro e v10 ⟨rfl, hb10⟩
          have HC10 : Hid (Below w1.heap.size w1 v10) := hC9.trans (hb10.mono hC9.size)
          clear hK hb10 hC9
          go_wp2
          go_roundg (ni + 1 - (0 + 1))
          case measure => omega
          case rel => exact ⟨0 + 1, by omega, rfl, by first | go_num | simp, HC10.out⟩
        · go_wp2_with fail
          refine hK.mono ?_
          rintro e v10 ⟨rfl, hb10⟩
          have HC10 : Hid (Below w1.heap.size w1 v10) := hC9.trans (hb10.mono hC9.size)
          clear hK hb10 hC9
          go_wp2
          go_roundg (ni + 1 - (0 + 1))
          case measure => omega
          case rel => exact ⟨0 + 1, by omega, rfl, by first | go_num | simp, HC10.out⟩
      · have hge : (k' : Int) - 1 ≥ 0 := by omega
        have hne : ¬ (k' : Int) - 1 = -1 := by omega
        go_wp2_with fail
        refine hP.mono ?_
        rintro e vv ⟨gv, dv, rfl, -, hbv⟩
        have hBv := hB.trans (hbv.mono hB.size)
        clear hP hbv hB x0 x1 x2 x3 HPP
        obtain ⟨x0, x1, x2, x3⟩ := HC.out _ hBv
        have hP := HIP.out vv ((k' : Int) - 1) (by omega) hBv
        go_wp2_with fail
        refine hP.mono ?_
        rintro e v0 ⟨gp, dp, rfl, hq0, hb0⟩
        have hC0 := hBv.trans (hb0.mono hBv.size)
        clear hP hb0 hBv x0 x1 x2 x3 HIP
        have hK := hR.kx v0 hC0
        go_wp2_with fail
        refine hK.mono ?_
        rintro e v1 ⟨gx, dx, rfl, hx1, hb1⟩
        have hC1 := hC0.trans (hb1.mono hC0.size)
        have hq1 := PView.below hq0 hb1
        clear hK hb1 hC0 hq0
        have hK := hR.ky v1 hC1
        go_wp2_with fail
        refine hK.mono ?_
        rintro e v2 ⟨gy, dy, rfl, hy2, hb2⟩
        have hC2 := hC1.trans (hb2.mono hC1.size)
        have hq2 := PView.below hq1 hb2
        have hx2 := hx1.below hb2
        clear hK hb2 hC1 hq1 hx1
        have hK := hR.kh v2 hC2
        go_wp2_with fail
        refine hK.mono ?_
        rintro e v3 ⟨gh, dh, rfl, hh3, hb3⟩
        have hC3 := hC2.trans (hb3.mono hC2.size)
        have hq3 := PView.below hq2 hb3
        have hx3 := hx2.below hb3
        have hy3 := hy2.below hb3
        clear hK hb3 hC2 hq2 hx2 hy2
        have hK := hR.bx v3 gx dx gh dh hx3 hh3
        go_wp2_with fail
        refine hK.mono ?_
        rintro e v4 ⟨rfl, hb4⟩
        have hC4 := hC3.trans (hb4.mono hC3.size)
        have hq4 := PView.below hq3 hb4
        have hx4 := hx3.below hb4
        have hy4 := hy3.below hb4
        have hh4 := hh3.below hb4
        clear hK hb4 hC3 hq3 hx3 hy3 hh3
        have hK := hR.by_ v4 gy dy gh dh hy4 hh4
        go_wp2_with fail
        refine hK.mono ?_
        rintro e v5 ⟨rfl, hb5⟩
        have hC5 := hC4.trans (hb5.mono hC4.size)
        have hq5 := PView.below hq4 hb5
        have hx5 := hx4.below hb5
        have hy5 := hy4.below hb5
        clear hK hb5 hC4 hq4 hx4 hy4 hh4
        have hK := hR.bf v5 gx dx gy dy hx5 hy5
        go_wp2_with fail
        refine hK.mono ?_
        rintro e v5' ⟨rfl, rfl⟩
        clear hK
        have hK := HPA.out v5 gp dp _ _ hC5 hq5 (HN.out _)
        go_wp2_with fail
        refine hK.mono ?_
        rintro e v6 ⟨a6, d6, rfl, hp6, hb6⟩
        have hC6 := hC5.trans (hb6.mono hC5.size)
        have hq6 := PView.below hq5 hb6
        have hx6 := hx5.below hb6
        have hy6 := hy5.below hb6
        clear hK hb6 hC5 hq5 hx5 hy5 HPA
        have hK := HPB.out v6 gp dp _ _ hC6 hq6 (HN.out _)
        go_wp2_with fail
        refine hK.mono ?_
        rintro e v7 ⟨a7, d7, rfl, hp7, hb7⟩
        have hC7 := hC6.trans (hb7.mono hC6.size)
        have hq7 := PView.below hq6 hb7
        have hx7 := hx6.below hb7
        have hy7 := hy6.below hb7
        have hp6' := hp6.below hb7
        clear hK hb7 hC6 hq6 hx6 hy6 hp6 HPB
        have hK := hR.ls v7 gp dp a6 d6 a7 d7 hq7 hp6' hp7
        go_wp2_with fail
        refine hK.mono ?_
        rintro e v8 ⟨rfl, hb8⟩
        have hC8 := hC7.trans (hb8.mono hC7.size)
        have hx8 := hx7.below hb8
        have hy8 := hy7.below hb8
        clear hK hb8 hC7 hx7 hy7 hq7 hp6' hp7
        have hzz : (z != z) = false := bne_self_eq_false _
        have hK := hR.sm v8 gx dx gy dy hx8 hy8
        go_wp2_with fail
        refine hK.mono ?_
        rintro e v9 ⟨rfl, hb9⟩
        have hC9 := hC8.trans (hb9.mono hC8.size)
        have hx9 := hx8.below hb9
        have hy9 := hy8.below hb9
        clear hK hb9 hC8 hx8 hy8 hzz
        have himp := hR.imp
        have HC9 : Hid (Below w1.heap.size w1 v9) := hC9
        clear hR hx9 hy9 hC9
        cases sb
        · go_wp2
          go_roundg (ni + 1 - (k' + 1))
          case measure => omega
          case rel => exact ⟨k' + 1, by omega, rfl, by go_num, HC9.out⟩
        · obtain rfl := himp rfl
          go_wp2
          go_roundg (ni + 1 - (k' + 1))
          case measure => omega
          case rel => exact ⟨k' + 1, by omega, rfl, by go_num, HC9.out⟩
    · have hkz : ¬ (k' : Int) - 1 < (ni : Int) := by omega
      have hLI := HLI.out _ hB
      go_wp2_with fail
      refine hLI.mono ?_
      rintro e w7 ⟨rfl, hb7⟩
      have hB7 := hB.trans (hb7.mono hB.size)
      have hLS := HLS.out _ hB7
      clear hLI hb7 hB x0 x1 x2 x3
      go_wp2_with fail
      refine hLS.mono ?_
      rintro e w8 ⟨rfl, hb8⟩
      have HB8 : Hid (Below w.heap.size w w8) := HB0.out.trans ((hB7.trans (hb8.mono hB7.size)).mono HB0.out.size)
      clear hLS hb8 hB7
      cases lo <;>
      · go_wp2
        go_ret
        exact ⟨rfl, HB8.out⟩
theorem lawRowKeysAll (ao : Option Addr) (n cap : Nat) (f : Nat → Int) (w : World) (hv : View w ao n cap f) (hn : n ≤ 9223372036854775807) (hI : ChkI w) :
    Calls Tryz.prog 3 #[.slice ao n cap] w fun e w' => e = .returned (.bool true) ∧ Below w.heap.size w w' :=
  lawRowKeys ao n cap w hI (big_any ao n cap w hn) (fun h20 => drawRows_any ao n cap f w h20 hv)
end Go.Proofs.YtkakkjnbhklfpaaGreatDoor

/-
  A scope in which the run jumps from label to label: what holds at every jump, and a measure that every pass lowers.
-/
namespace Go.Proofs.YtkakkjnbhklfpaaGreatDoor
open Go.RowKit
set_option maxRecDepth 4000

/-- As Q; by a goto to label l: J l. -/
def jumps (J : Nat → Act → World → Prop) (Q : Exit → Act → World → Prop) : Exit → Act → World → Prop
  | .goto l, a, w => J l a w
  | e, a, w => Q e a w
theorem jumps_ret {J : Nat → Act → World → Prop} {Q : Exit → Act → World → Prop} {a : Act} {w : World} : jumps J Q .ret a w = Q .ret a w := rfl
theorem wp_scope_labels {P : Program} {a : Act} {w : World} {Q : Exit → Act → World → Prop} {c : Code} (R : Nat → Code) (J : Nat → Act → World → Prop) (μ : Nat → Act → World → Nat)
    (hf : ∀ l a w, J l a w → findLabel c l = some (R l)) (first : c.wp P (jumps J Q) a w)
    (pass : ∀ l a w, J l a w → (R l).wp P (jumps (fun l' a' w' => J l' a' w' ∧ μ l' a' w' < μ l a w) Q) a w) : (Code.scope c).wp P Q a w := by
  intro b k cs
  have key : ∀ n l a w, μ l a w = n → J l a w → ∃ e a' w', Q e a' w' ∧ Arrives P (lone (b.at a (.code (R l) :: .inScope c :: k)) cs w) b k cs e a' w' := by
    intro n
    induction n using Nat.strongRecOn with
    | _ n ih =>
      intro l a w hn hJ
      obtain ⟨e, a₁, w₁, hq, harr⟩ := pass l a w hJ b (.inScope c :: k) cs
      cases e with
      | normal => exact ⟨.normal, a₁, w₁, hq, Steps.trans harr (.one step_inScope)⟩
      | exit id => exact ⟨.exit id, a₁, w₁, hq, fun k' hk => harr k' (by simp [exitTo, hk])⟩
      | goto l' =>
        obtain ⟨hJ', hlt⟩ := hq
        obtain ⟨e₂, a₂, w₂, hq₂, harr₂⟩ := ih _ (by omega) l' a₁ w₁ rfl hJ'
        have hg : gotoIn l' (.inScope c :: k) = some (.code (R l') :: .inScope c :: k) := by simp [gotoIn, hf l' a₁ w₁ hJ']
        exact ⟨e₂, a₂, w₂, hq₂, .of_steps (harr _ hg) harr₂⟩
      | ret => exact ⟨_, a₁, w₁, hq, harr⟩
      | panic ch => exact ⟨_, a₁, w₁, hq, harr⟩
      | outgrown => exact ⟨_, a₁, w₁, hq, harr⟩
  obtain ⟨e, a₁, w₁, hq, harr⟩ := first b (.inScope c :: k) cs
  cases e with
  | normal => exact ⟨.normal, a₁, w₁, hq, .head step_scope (Steps.trans harr (.one step_inScope))⟩
  | exit id => exact ⟨.exit id, a₁, w₁, hq, fun k' hk => .head step_scope (harr k' (by simp [exitTo, hk]))⟩
  | goto l' =>
    have hJ' : J l' a₁ w₁ := hq
    obtain ⟨e₂, a₂, w₂, hq₂, harr₂⟩ := key _ l' a₁ w₁ rfl hJ'
    have hg : gotoIn l' (.inScope c :: k) = some (.code (R l') :: .inScope c :: k) := by simp [gotoIn, hf l' a₁ w₁ hJ']
    exact ⟨e₂, a₂, w₂, hq₂, .of_steps (.head step_scope (harr _ hg)) harr₂⟩
  | ret => exact ⟨_, a₁, w₁, hq, .of_steps (.one step_scope) harr⟩
  | panic ch => exact ⟨_, a₁, w₁, hq, .of_steps (.one step_scope) harr⟩
  | outgrown => exact ⟨_, a₁, w₁, hq, .of_steps (.one step_scope) harr⟩

/-- The same, the code behind a label named where it is wanted; the way into the scope may run on into a label. -/
theorem wp_scope_goto {P : Program} {a : Act} {w : World} {Q : Exit → Act → World → Prop} {c : Code} (J : Nat → Act → World → Prop) (μ : Nat → Act → World → Nat)
    (hf : ∀ l a w, J l a w → ∃ X, findLabel c l = some (.seq .skip X))
    (pass : ∀ (T : Nat → Act → World → Prop) l a w X, findLabel c l = some (.seq .skip X) → J l a w → (∀ l' a' w', J l' a' w' → μ l' a' w' < μ l a w → T l' a' w') → X.wp P (jumps T Q) a w)
    (first : (∀ l a w X, findLabel c l = some (.seq .skip X) → J l a w → X.wp P (jumps J Q) a w) → c.wp P (jumps J Q) a w) : (Code.scope c).wp P Q a w := by
  refine wp_scope_labels (fun l => (findLabel c l).getD .skip) J μ (fun l a w h => ?_) (first (fun l a w X hr h => pass J l a w X hr h (fun _ _ _ h' _ => h'))) (fun l a w h => ?_)
  · obtain ⟨X, hr⟩ := hf l a w h
    rw [hr]; rfl
  · obtain ⟨X, hr⟩ := hf l a w h
    rw [hr]
    exact wp_seq (wp_skip (pass _ l a w X hr h (fun l' a' w' h1 h2 => ⟨h1, h2⟩)))
end Go.Proofs.YtkakkjnbhklfpaaGreatDoor

/-
  Names and marks in a text, plainly.
-/
namespace Go.Proofs.YtkakkjnbhklfpaaGreatDoor
open Go.RowKit
set_option maxRecDepth 4000

theorem endN_in {s : ByteArray} {p j : Nat} (h1 : p ≤ j) (h2 : j < endN s p) : inName (bt s j) = true := by
  by_cases h : p < s.size ∧ inName (bt s p) = true
  · by_cases e : p = j
    · subst e; exact h.2
    · rw [endN_step h.1 h.2] at h2
      exact endN_in (p := p + 1) (by omega) h2
  · rw [endN_stop h] at h2; omega
  termination_by s.size - p
  decreasing_by omega
/-- A name in a text is right just if it is not too long. -/
theorem name_ok {s : ByteArray} {i : Nat} (hi : i < s.size) (hsm : small (bt s i) = true) : nameOk (s.extract i (endN s (i + 1))) = decide (endN s (i + 1) - i ≤ 8) := by
  have hge := endN_ge s (i + 1)
  have hle := endN_le s (i + 1) (by omega)
  have hsz : (s.extract i (endN s (i + 1))).size = endN s (i + 1) - i := by rw [ByteArray.size_extract]; omega
  unfold nameOk
  rw [hsz, bt_extract hle (by omega), Nat.add_zero]
  by_cases h8 : endN s (i + 1) - i ≤ 8
  · rw [decide_eq_true h8]
    refine decide_eq_true ⟨by omega, h8, hsm, fun j hj => ?_⟩
    rw [bt_extract hle (by omega)]
    by_cases h0 : j = 0
    · subst h0; rw [Nat.add_zero]; unfold inName; rw [hsm]; rfl
    · exact endN_in (p := i + 1) (by omega) (by omega)
  · rw [decide_eq_false h8]
    exact decide_eq_false (fun h => h8 h.2.1)
theorem mark_ok {s : ByteArray} {i : Nat} (hi : i < s.size) : markOk (s.extract i (i + 1)) = markC (bt s i) := by
  have hsz : (s.extract i (i + 1)).size = 1 := by rw [ByteArray.size_extract]; omega
  unfold markOk
  rw [hsz, bt_extract (by omega) (by omega), Nat.add_zero]
  simp
theorem small_kind {s : ByteArray} {i : Nat} (h : small (bt s i) = true) : kindAt s i = 1 ∧ stopAt s i = endN s (i + 1) := by unfold kindAt stopAt; rw [h]; exact ⟨rfl, rfl⟩
theorem other_kind {s : ByteArray} {i : Nat} (h : small (bt s i) = false) : kindAt s i = 2 ∧ stopAt s i = i + 1 := by unfold kindAt stopAt; rw [h]; exact ⟨rfl, rfl⟩
theorem mark_not {c : Int} (h : markC c = true) : small c = false ∧ blank c = false := by
  unfold markC at h
  unfold small blank
  simp only [decide_eq_true_eq] at h
  exact ⟨decide_eq_false (by omega), decide_eq_false (by omega)⟩
theorem small_not {c : Int} (h : small c = true) : blank c = false := by
  unfold small at h
  unfold blank
  simp only [decide_eq_true_eq] at h
  exact decide_eq_false (by omega)
end Go.Proofs.YtkakkjnbhklfpaaGreatDoor

/-
  What the program asks of one byte; a text cloned.
-/
namespace Go.Proofs.YtkakkjnbhklfpaaGreatDoor
open Go.RowKit
set_option maxRecDepth 4000

set_option maxHeartbeats 1000000 in
theorem isBlank_any (c : Int) (w : World) : Calls Tryz.prog 172 #[.int .u8 c] w fun e w' => e = .returned (.bool (blank c)) ∧ w = w' := by
  have HB : Hid (blank c = (c == 32 || c == 9 || c == 10 || c == 13)) := by show _ = _; unfold blank; rw [Bool.eq_iff_iff]; simp [or_assoc]
  go_enter Tryz.func172, Tryz.ntmps172
  go_wp2
  all_goals
    go_ret
    exact ⟨by rw [HB.out]; simp [*], rfl⟩
set_option maxHeartbeats 1000000 in
theorem isMark_any (c : Int) (w : World) : Calls Tryz.prog 174 #[.int .u8 c] w fun e w' => e = .returned (.bool (markC c)) ∧ w = w' := by
  have HB : Hid (markC c = (c == 123 || c == 125 || c == 44 || c == 59)) := by show _ = _; unfold markC; rw [Bool.eq_iff_iff]; simp [or_assoc]
  go_enter Tryz.func174, Tryz.ntmps174
  go_wp2
  all_goals
    go_ret
    exact ⟨by rw [HB.out]; simp [*], rfl⟩
set_option maxHeartbeats 1000000 in
theorem isLetter_any (c : Int) (w : World) (h0 : 0 ≤ c) (h1 : c ≤ 255) : Calls Tryz.prog 173 #[.int .u8 c] w fun e w' => e = .returned (.bool (small c)) ∧ w = w' := by
  have HB : Hid (small c = (decide (97 ≤ c) && decide (c ≤ 122))) := by show _ = _; unfold small; simp
  by_cases h : 97 ≤ c
  · go_enter Tryz.func173, Tryz.ntmps173
    go_wp2
    go_ret
    exact ⟨by rw [HB.out]; simp [h], rfl⟩
  · go_enter Tryz.func173, Tryz.ntmps173
    go_wp2
    go_ret
    exact ⟨by rw [HB.out]; simp; omega, rfl⟩
set_option maxHeartbeats 1000000 in
theorem isDigit_any (c : Int) (w : World) (h0 : 0 ≤ c) (h1 : c ≤ 255) : Calls Tryz.prog 175 #[.int .u8 c] w fun e w' => e = .returned (.bool (digit c)) ∧ w = w' := by
  have HB : Hid (digit c = (decide (48 ≤ c) && decide (c ≤ 57))) := by show _ = _; unfold digit; simp
  by_cases h : 48 ≤ c
  · go_enter Tryz.func175, Tryz.ntmps175
    go_wp2
    go_ret
    exact ⟨by rw [HB.out]; simp [h], rfl⟩
  · go_enter Tryz.func175, Tryz.ntmps175
    go_wp2
    go_ret
    exact ⟨by rw [HB.out]; simp; omega, rfl⟩
theorem strClone_tok (s : ByteArray) (w : World) (hs : s.size ≤ 281474976710656) :
    Calls Tryz.prog 88 #[.string s] w fun e w' => e = .returned (.string s) ∧ Below w.heap.size w w' := by
  go_enter Tryz.func88, Tryz.ntmps88
  go_wp2_with (go_at_call 123; refine (Tryz.stringslite_Clone s _ hs).mono ?_; rintro e w2 ⟨rfl, hB⟩)
  go_ret
  exact ⟨rfl, hB⟩
end Go.Proofs.YtkakkjnbhklfpaaGreatDoor

