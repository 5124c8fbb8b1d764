/-
  Together: FormatI, FormatS, DrawDiskNew12, Big
-/
import Derived.Test.YtdhfbblameiloaaBE22
import Derived.Test.YtdhfbblameiloaaBE19
import Derived.Test.YtdhfbblameiloaaBE24
import Derived.Test.YtdhfbblameiloaaBE23
import Derived.Test.YtdhfbblameiloaaBE8
import Derived.Test.YtdhfbblameiloaaBE13
import Derived.Test.YtdhfbblameiloaaBE1
import Derived.Test.YtdhfbblameiloaaBE15
/-
  The program's Format.
-/
namespace Go.Proofs.Ytdhfbblameiloaa
open Go.RowKit
set_option maxRecDepth 4000

set_option maxHeartbeats 8000000 in
theorem implFormat_any (n : Int) (a : Option Addr) (cap : Nat) (l : List PFault) (w : World) (h : FView w a cap l) (hn : l.length ≤ 1048576) :
    Calls Try.prog 49 #[.int .i64 n, .slice a l.length cap] w fun e w' => ∃ v', e = .returned v' ∧ KOwn w' w.heap.size v' (fmtD n l) ∧ Below w.heap.size w w' := by
  have hbA : Below w.heap.size w (w.alloc (.cells #[.slice none 0 0, .slice none 0 0, .int .i64 0, .slice none 0 0, .bool false] 32)) := (Below.refl _ _).alloc (Nat.le_refl _) _
  have hR := VN.new w 32 [.slice none 0 0, .slice none 0 0, .int .i64 0, .slice none 0 0, .bool false]
  have hlt : w.heap.size < (w.alloc (.cells #[.slice none 0 0, .slice none 0 0, .int .i64 0, .slice none 0 0, .bool false] 32)).heap.size := by simp
  obtain ⟨W1, hW1⟩ : ∃ x, Hid (w.alloc (.cells #[.slice none 0 0, .slice none 0 0, .int .i64 0, .slice none 0 0, .bool false] 32) = x) := ⟨_, rfl⟩
  rw [hW1.out] at hbA hR hlt
  have hN := implDiskNew_any n a cap l W1 (fview_below h hbA) hn
  clear h
  go_enter Try.func49, Try.ntmps49
  go_wp2_with (rw [hW1.out])
  refine hN.mono ?_
  rintro e w2 ⟨v2, rfl, hb2, h2⟩
  clear hN hW1
  replace hR := hR.below hb2
  have hB := hbA.trans (hb2.mono hbA.size)
  obtain ⟨B, hBe⟩ := hidEx W1.heap.size
  rw [hBe.out] at h2 hlt
  have hBw : B ≤ w2.heap.size := by rw [← hBe.out]; exact hb2.size
  clear hb2 hbA hBe
  obtain ⟨D, hD, hKO⟩ := newTo_cases h2
  obtain ⟨sa, sc, ca, cc, fa, fc, ss, cs, rfl, hk⟩ := hKO
  clear h2
  unfold dval
  have hbX : Below w2.heap.size w2 (w2.alloc (.cells #[.slice sa D.secs.length sc, .slice ca D.cache.length cc, .int .i64 D.ops, .slice fa D.faults.length fc, .bool D.down] 32)) := (Below.refl _ _).alloc (Nat.le_refl _) _
  have hX := VN.new w2 32 [.slice sa D.secs.length sc, .slice ca D.cache.length cc, .int .i64 D.ops, .slice fa D.faults.length fc, .bool D.down]
  replace hR := hR.below hbX
  replace hk := hk.up (Up.ofBelow hbX)
  replace hB := hB.trans (hbX.mono hB.size)
  obtain ⟨W3, hW3⟩ : ∃ x, Hid (w2.alloc (.cells #[.slice sa D.secs.length sc, .slice ca D.cache.length cc, .int .i64 D.ops, .slice fa D.faults.length fc, .bool D.down] 32) = x) := ⟨_, rfl⟩
  obtain ⟨X, hXe⟩ := hidEx w2.heap.size
  rw [hW3.out] at hX hR hk hB
  rw [hXe.out] at hBw
  have hf : KFine D := by rcases hD with hD | hD; exact hD.2.2.2 hn; exact hD.2.2
  have hsz3 := hk.view
  clear hbX
  have x0 : W3.cell? ⟨w2.heap.size, 0, none⟩ = some (.slice sa D.secs.length sc) := hX.cell 0
  have x1 : W3.cell? ⟨w2.heap.size, 1, none⟩ = some (.slice ca D.cache.length cc) := hX.cell 1
  have x2 : W3.cell? ⟨w2.heap.size, 2, none⟩ = some (.int .i64 D.ops) := hX.cell 2
  have x3 : W3.cell? ⟨w2.heap.size, 3, none⟩ = some (.slice fa D.faults.length fc) := hX.cell 3
  have x4 : W3.cell? ⟨w2.heap.size, 4, none⟩ = some (.bool D.down) := hX.cell 4
  have hO := implDiskOk_any _ D W3 (show KView W3 _ D from ⟨sa, sc, ca, cc, fa, fc, rfl, hsz3.1, hsz3.2.1, hsz3.2.2⟩) hf
  unfold Says at hO
  go_wp2_with (rw [hW3.out])
  rw [hXe.out] at hX ⊢
  refine hO.mono ?_
  rintro e w4 ⟨ok, rfl, hok, hb4⟩
  clear hO hW3 hXe
  clear x0 x1 x2 x3 x4
  replace hX := hX.below hb4
  replace hR := hR.below hb4
  replace hk := hk.up (Up.ofBelow hb4)
  replace hB := hB.trans (hb4.mono hB.size)
  have hB4 : B ≤ w4.heap.size := by have := hk; have := hX.lt; omega
  clear hb4 hsz3
  rcases hD with ⟨hN, hDe, hp, -⟩ | ⟨hN, hDe, -⟩
  · -- a disk
    have hokt : ok = true := hok.2 (by rw [hDe]; exact (okMade (by have := hN.1; omega) (by have := hN.1; omega)).2 hN.2)
    subst hokt
    clear hok
    have HF : Hid (fmtD n l = { D with secs := D.secs.set 0 (metaF 0 0) }) := fmtD_yes hN hDe
    clear hDe
    have HY : Hid (∀ y ∈ metaF 0 0, 0 ≤ y ∧ y ≤ 255) := metaF_byte 0 0
    have hPM := fun W => implPutMeta_any 0 0 W
    obtain ⟨L, hL⟩ := hidEx (metaF 0 0)
    rw [hL.out] at HF HY
    simp only [hL.out] at hPM
    clear hL
    obtain ⟨gs, rfl⟩ : ∃ gs, sa = some ⟨gs, 0, none⟩ := by
      obtain ⟨g', e, -⟩ := hk.secs.cell (by rw [hk.ns]; omega)
      exact ⟨g', e⟩
    have x0 : w4.cell? ⟨X, 0, none⟩ = some (.slice (some ⟨gs, 0, none⟩) D.secs.length sc) := hX.cell 0
    have hpz : (0 : Int) < D.secs.length := by omega
    go_wp2_with fail
    have hXd := hX.below (Below.refl _ _).drew
    refine wp_region_held_drew (S := fun W => W.cell? ⟨X, 0, none⟩ = some (.slice (some ⟨gs, 0, none⟩) D.secs.length sc)) (by kernel_rfl) (hXd.cell 0) (fun hHeld => ?_)
    replace hX := hXd
    replace hR := hR.below (Below.refl _ _).drew
    replace hk := hk.up (Up.ofBelow (Below.refl _ _).drew)
    replace hB := hB.drew
    clear hXd x0
    refine' wpAnyH_take (i := 0) (v := _) rfl (by kernel_rfl) (by kernel_rfl) (by kernel_rfl) (fun _ _ _ h => h) (Or.inl ⟨by kernel_rfl, ?hfmI1⟩) (by assumption) ?rfmI1
    case hfmI1 => intro W hW; go_simp; all_goals with_reducible rfl
    change wpAnyH _ _ _ _ _ _ _ (Act.put _ (some 11) _) _
    simp only [Act.put, List.setIfInBounds_toArray, List.set_cons_zero, List.set_cons_succ]
    refine' wpAnyH_take (i := 1) (v := _) rfl (by kernel_rfl) (by kernel_rfl) (by kernel_rfl) (fun _ _ _ h => h) (Or.inl ⟨by kernel_rfl, ?hfmI2⟩) (by assumption) ?rfmI2
    case hfmI2 => intro W hW; go_simp; all_goals with_reducible rfl
    change wpAnyH _ _ _ _ _ _ _ (Act.put _ (some 12) _) _
    simp only [Act.put, List.setIfInBounds_toArray, List.set_cons_zero, List.set_cons_succ]
    refine' wpAnyH_take (i := 2) (v := _) rfl (by kernel_rfl) (by kernel_rfl) (by kernel_rfl) (fun _ _ _ h => h) (Or.inl ⟨by kernel_rfl, ?hfmI3⟩) (by assumption) ?rfmI3
    case hfmI3 => intro W hW; go_simp; all_goals with_reducible rfl
    change wpAnyH _ _ _ _ _ _ _ (Act.put _ (some 13) _) _
    simp only [Act.put, List.setIfInBounds_toArray, List.set_cons_zero, List.set_cons_succ]
    refine wpAnyH_ready (rs := [3]) (by kernel_rfl) (by simp) ?_
    refine AllReadyH.cons rfl (fun KK hK => ?_) AllReadyH.nil
    go_simp
    refine (hPM _).mono ?_
    rintro e w5 ⟨g5, c5, rfl, hg5, hc5, hr5, hb5⟩
    have hob := ob_new hr5 hc5 HY.out (show B ≤ g5 by have := hX.lt; omega)
    have hBg : B ≤ g5 := by have := hX.lt; omega
    have hfr : ∀ u ∈ ss ++ cs, u.ownBlock ≠ some g5 := fun u hu hh => by have := (hk.bytes.lt u hu g5 hh).2; omega
    have hl5 := hr5.lt
    replace hX := hX.below hb5
    replace hR := hR.below hb5
    replace hk := hk.up (Up.ofBelow hb5)
    replace hB := hB.trans (hb5.mono hB.size)
    clear hPM hr5 hb5 hHeld
    go_wp2_with fail
    refine hK.out _ _ (hX.cell 0) (fun hHeld => ?_)
    clear hK KK
    try simp only [Act.put, List.setIfInBounds_toArray, List.set_cons_zero, List.set_cons_succ]
    refine' wpAnyH_take (i := 4) (v := _) rfl (by kernel_rfl) (by kernel_rfl) (by kernel_rfl) (fun _ _ _ h => h) (Or.inl ⟨by kernel_rfl, ?hfmI4⟩) (by assumption) ?rfmI4
    case hfmI4 => intro W hW; go_simp; all_goals with_reducible rfl
    change wpAnyH _ _ _ _ _ _ _ (Act.put _ (some 15) _) _
    simp only [Act.put, List.setIfInBounds_toArray, List.set_cons_zero, List.set_cons_succ]
    refine wpAnyH_ready (rs := [5]) (by kernel_rfl) (by simp) ?_
    refine AllReadyH.cons rfl (fun KK hK => ?_) AllReadyH.nil
    have hz := hk.secs.cellFz (by rw [hk.ns]; omega) 0
    obtain ⟨g9, e9, hg9, -, hc9⟩ := hk.secs.cell (by rw [hk.ns]; omega)
    cases e9
    obtain ⟨u9, hcm⟩ : ∃ u, w5.cell? ⟨gs, 0, none⟩ = some u := ⟨_, hc9 0 _ (List.getElem?_eq_getElem (by rw [hk.ns]; omega))⟩
    have hk9 := hk.putSec0 hp hob hfr (fun g hg => by cases hg; exact ⟨hBg, hl5⟩)
    have hX9 := hX.keptF (hk.secs) (by rw [hk.ns]; omega) (.slice (some ⟨g5, 0, none⟩) L.length c5) 0
    have hR9 : VN (w5.setCell ⟨gs, 0, none⟩ (.slice (some ⟨g5, 0, none⟩) L.length c5)) w.heap.size 32 _ := hR.other (by omega)
    have hB9 : Below w.heap.size w (w5.setCell ⟨gs, 0, none⟩ (.slice (some ⟨g5, 0, none⟩) L.length c5)) := hB.setCell (p := ⟨gs, 0, none⟩) (by show _ ≤ gs; omega) _
    clear hk hX hR hB hc9 hob hfr hHeld
    go_simp
    refine hK.out _ _ (hX9.cell 0) (fun hHeld => ?_)
    clear hK KK
    try simp only [Act.put, List.setIfInBounds_toArray, List.set_cons_zero, List.set_cons_succ]
    refine wpAnyH_done (by kernel_rfl) ?_ _
    have hX := hX9
    have hR := hR9
    have hB := hB9
    clear hX9 hR9 hB9 hHeld hcm hz
    obtain ⟨W6, hW6⟩ : ∃ x, Hid (w5.setCell ⟨gs, 0, none⟩ (.slice (some ⟨g5, 0, none⟩) L.length c5) = x) := ⟨_, rfl⟩
    rw [hW6.out] at hk9 hX hR hB ⊢
    have hgl : (some (⟨gs, 0, none⟩ : Addr)) = some ⟨gs, 0, none⟩ := rfl
    obtain ⟨D2, hD2⟩ : ∃ x, Hid (({ D with secs := D.secs.set 0 L } : PDisk) = x) := ⟨_, rfl⟩
    have e1 : D2.secs.length = D.secs.length := by rw [← hD2.out]; simp
    have e2 : D2.cache = D.cache ∧ D2.ops = D.ops ∧ D2.faults = D.faults ∧ D2.down = D.down := by rw [← hD2.out]; exact ⟨rfl, rfl, rfl, rfl⟩
    rw [hD2.out] at hk9 HF
    rw [← e1, ← e2.1, ← e2.2.1, ← e2.2.2.1, ← e2.2.2.2] at hX
    clear e1 e2 hD2 hgl hW6
    obtain ⟨sa, hsa⟩ : ∃ x, Hid (some (⟨gs, 0, none⟩ : Addr) = x) := ⟨_, rfl⟩
    rw [hsa.out] at hX hk9
    have x0 : W6.cell? ⟨X, 0, none⟩ = some (.slice sa D2.secs.length sc) := hX.cell 0
    have x1 : W6.cell? ⟨X, 1, none⟩ = some (.slice ca D2.cache.length cc) := hX.cell 1
    have x2 : W6.cell? ⟨X, 2, none⟩ = some (.int .i64 D2.ops) := hX.cell 2
    have x3 : W6.cell? ⟨X, 3, none⟩ = some (.slice fa D2.faults.length fc) := hX.cell 3
    have x4 : W6.cell? ⟨X, 4, none⟩ = some (.bool D2.down) := hX.cell 4
    have e0 : W6.cell? ⟨w.heap.size, 0, none⟩ = some (.slice none 0 0) := hR.cell 0
    have z0 := hR.fz 0
    have e1 : W6.cell? ⟨w.heap.size, 1, none⟩ = some (.slice none 0 0) := hR.cell 1
    have z1 := hR.fz 1
    have e2 : W6.cell? ⟨w.heap.size, 2, none⟩ = some (.int .i64 0) := hR.cell 2
    have z2 := hR.fz 2
    have e3 : W6.cell? ⟨w.heap.size, 3, none⟩ = some (.slice none 0 0) := hR.cell 3
    have z3 := hR.fz 3
    have e4 : W6.cell? ⟨w.heap.size, 4, none⟩ = some (.bool false) := hR.cell 4
    have z4 := hR.fz 4
    have hr5 := ret5_vnF (.slice sa D2.secs.length sc) (.slice ca D2.cache.length cc) (.int .i64 D2.ops) (.slice fa D2.faults.length fc) (.bool D2.down) hR
    have hms := (hk9).up (Up.five (B := B) (R := w.heap.size) (w := W6) (.slice sa D2.secs.length sc) (.slice ca D2.cache.length cc) (.int .i64 D2.ops) (.slice fa D2.faults.length fc) (.bool D2.down) (by omega))
    have HE : Hid _ := And.intro (show KOwn _ w.heap.size (.agg #[.slice sa D2.secs.length sc, .slice ca D2.cache.length cc, .int .i64 D2.ops, .slice fa D2.faults.length fc, .bool D2.down]) (fmtD n l) from by rw [HF.out]; exact ⟨sa, sc, ca, cc, fa, fc, _, _, rfl, hms.monoF (by omega)⟩) (five_below (.slice sa D2.secs.length sc) (.slice ca D2.cache.length cc) (.int .i64 D2.ops) (.slice fa D2.faults.length fc) (.bool D2.down) hB (Nat.le_refl _))
    have m0 := hr5.cell 0
    have m1 := hr5.cell 1
    have m2 := hr5.cell 2
    have m3 := hr5.cell 3
    have m4 := hr5.cell 4
    simp only [List.getElem?_cons_zero, List.getElem?_cons_succ] at m0 m1 m2 m3 m4
    have HM : Hid _ := And.intro m0 (And.intro m1 (And.intro m2 (And.intro m3 m4)))
    clear hr5 hms hX hR hB m0 m1 m2 m3 m4
    go_wp2
    obtain ⟨m0, m1, m2, m3, m4⟩ := HM.out
    exact bodyPost_ret (v := .agg #[.slice sa D2.secs.length sc, .slice ca D2.cache.length cc, .int .i64 D2.ops, .slice fa D2.faults.length fc, .bool D2.down]) (by simp [results, Try.results49, go_sem, m0, m1, m2, m3, m4]) rfl ⟨_, rfl, HE.out.1, HE.out.2⟩
  · -- none
    have hokf : ok = false := by
      cases ok with
      | false => rfl
      | true => exact absurd (hok.1 rfl) (by rw [hDe]; exact zero_notOk)
    subst hokf
    clear hok
    have HF : Hid (fmtD n l = D) := fmtD_no hN hDe
    clear hDe
    have x0 : w4.cell? ⟨X, 0, none⟩ = some (.slice sa D.secs.length sc) := hX.cell 0
    have x1 : w4.cell? ⟨X, 1, none⟩ = some (.slice ca D.cache.length cc) := hX.cell 1
    have x2 : w4.cell? ⟨X, 2, none⟩ = some (.int .i64 D.ops) := hX.cell 2
    have x3 : w4.cell? ⟨X, 3, none⟩ = some (.slice fa D.faults.length fc) := hX.cell 3
    have x4 : w4.cell? ⟨X, 4, none⟩ = some (.bool D.down) := hX.cell 4
    have e0 : w4.cell? ⟨w.heap.size, 0, none⟩ = some (.slice none 0 0) := hR.cell 0
    have z0 := hR.fz 0
    have e1 : w4.cell? ⟨w.heap.size, 1, none⟩ = some (.slice none 0 0) := hR.cell 1
    have z1 := hR.fz 1
    have e2 : w4.cell? ⟨w.heap.size, 2, none⟩ = some (.int .i64 0) := hR.cell 2
    have z2 := hR.fz 2
    have e3 : w4.cell? ⟨w.heap.size, 3, none⟩ = some (.slice none 0 0) := hR.cell 3
    have z3 := hR.fz 3
    have e4 : w4.cell? ⟨w.heap.size, 4, none⟩ = some (.bool false) := hR.cell 4
    have z4 := hR.fz 4
    have hr5 := ret5_vnF (.slice sa D.secs.length sc) (.slice ca D.cache.length cc) (.int .i64 D.ops) (.slice fa D.faults.length fc) (.bool D.down) hR
    have hms := (hk).up (Up.five (B := B) (R := w.heap.size) (w := w4) (.slice sa D.secs.length sc) (.slice ca D.cache.length cc) (.int .i64 D.ops) (.slice fa D.faults.length fc) (.bool D.down) (by omega))
    have HE : Hid _ := And.intro (show KOwn _ w.heap.size (.agg #[.slice sa D.secs.length sc, .slice ca D.cache.length cc, .int .i64 D.ops, .slice fa D.faults.length fc, .bool D.down]) (fmtD n l) from by rw [HF.out]; exact ⟨sa, sc, ca, cc, fa, fc, _, _, rfl, hms.monoF (by omega)⟩) (five_below (.slice sa D.secs.length sc) (.slice ca D.cache.length cc) (.int .i64 D.ops) (.slice fa D.faults.length fc) (.bool D.down) hB (Nat.le_refl _))
    have m0 := hr5.cell 0
    have m1 := hr5.cell 1
    have m2 := hr5.cell 2
    have m3 := hr5.cell 3
    have m4 := hr5.cell 4
    simp only [List.getElem?_cons_zero, List.getElem?_cons_succ] at m0 m1 m2 m3 m4
    have HM : Hid _ := And.intro m0 (And.intro m1 (And.intro m2 (And.intro m3 m4)))
    clear hr5 hms hX hR hB m0 m1 m2 m3 m4
    go_wp2
    obtain ⟨m0, m1, m2, m3, m4⟩ := HM.out
    exact bodyPost_ret (v := .agg #[.slice sa D.secs.length sc, .slice ca D.cache.length cc, .int .i64 D.ops, .slice fa D.faults.length fc, .bool D.down]) (by simp [results, Try.results49, go_sem, m0, m1, m2, m3, m4]) rfl ⟨_, rfl, HE.out.1, HE.out.2⟩
end Go.Proofs.Ytdhfbblameiloaa

/-
  The model's Format.
-/
namespace Go.Proofs.Ytdhfbblameiloaa
open Go.RowKit
set_option maxRecDepth 4000

set_option maxHeartbeats 8000000 in
theorem specFormat_any (n : Int) (a : Option Addr) (cap : Nat) (l : List PFault) (w : World) (h : FView w a cap l) (hn : l.length ≤ 1048576) :
    Calls Try.prog 51 #[.int .i64 n, .slice a l.length cap] w fun e w' => ∃ v', e = .returned v' ∧ KOwn w' w.heap.size v' (fmtD n l) ∧ Below w.heap.size w w' := by
  have hbA : Below w.heap.size w (w.alloc (.cells #[.slice none 0 0, .slice none 0 0, .int .i64 0, .slice none 0 0, .bool false] 32)) := (Below.refl _ _).alloc (Nat.le_refl _) _
  have hR := VN.new w 32 [.slice none 0 0, .slice none 0 0, .int .i64 0, .slice none 0 0, .bool false]
  have hlt : w.heap.size < (w.alloc (.cells #[.slice none 0 0, .slice none 0 0, .int .i64 0, .slice none 0 0, .bool false] 32)).heap.size := by simp
  obtain ⟨W1, hW1⟩ : ∃ x, Hid (w.alloc (.cells #[.slice none 0 0, .slice none 0 0, .int .i64 0, .slice none 0 0, .bool false] 32) = x) := ⟨_, rfl⟩
  rw [hW1.out] at hbA hR hlt
  have hN := specDiskNew_any n a cap l W1 (fview_below h hbA) hn
  clear h
  go_enter Try.func51, Try.ntmps51
  go_wp2_with (rw [hW1.out])
  refine hN.mono ?_
  rintro e w2 ⟨v2, rfl, hb2, h2⟩
  clear hN hW1
  replace hR := hR.below hb2
  have hB := hbA.trans (hb2.mono hbA.size)
  obtain ⟨B, hBe⟩ := hidEx W1.heap.size
  rw [hBe.out] at h2 hlt
  have hBw : B ≤ w2.heap.size := by rw [← hBe.out]; exact hb2.size
  clear hb2 hbA hBe
  obtain ⟨D, hD, hKO⟩ := newTo_cases h2
  obtain ⟨sa, sc, ca, cc, fa, fc, ss, cs, rfl, hk⟩ := hKO
  clear h2
  unfold dval
  have hbX : Below w2.heap.size w2 (w2.alloc (.cells #[.slice sa D.secs.length sc, .slice ca D.cache.length cc, .int .i64 D.ops, .slice fa D.faults.length fc, .bool D.down] 32)) := (Below.refl _ _).alloc (Nat.le_refl _) _
  have hX := VN.new w2 32 [.slice sa D.secs.length sc, .slice ca D.cache.length cc, .int .i64 D.ops, .slice fa D.faults.length fc, .bool D.down]
  replace hR := hR.below hbX
  replace hk := hk.up (Up.ofBelow hbX)
  replace hB := hB.trans (hbX.mono hB.size)
  obtain ⟨W3, hW3⟩ : ∃ x, Hid (w2.alloc (.cells #[.slice sa D.secs.length sc, .slice ca D.cache.length cc, .int .i64 D.ops, .slice fa D.faults.length fc, .bool D.down] 32) = x) := ⟨_, rfl⟩
  obtain ⟨X, hXe⟩ := hidEx w2.heap.size
  rw [hW3.out] at hX hR hk hB
  rw [hXe.out] at hBw
  have hf : KFine D := by rcases hD with hD | hD; exact hD.2.2.2 hn; exact hD.2.2
  have hsz3 := hk.view
  clear hbX
  have x0 : W3.cell? ⟨w2.heap.size, 0, none⟩ = some (.slice sa D.secs.length sc) := hX.cell 0
  have x1 : W3.cell? ⟨w2.heap.size, 1, none⟩ = some (.slice ca D.cache.length cc) := hX.cell 1
  have x2 : W3.cell? ⟨w2.heap.size, 2, none⟩ = some (.int .i64 D.ops) := hX.cell 2
  have x3 : W3.cell? ⟨w2.heap.size, 3, none⟩ = some (.slice fa D.faults.length fc) := hX.cell 3
  have x4 : W3.cell? ⟨w2.heap.size, 4, none⟩ = some (.bool D.down) := hX.cell 4
  clear hsz3
  rcases hD with ⟨hN, hDe, hp, -⟩ | ⟨hN, hDe, -⟩
  · -- a disk
    have HF : Hid (fmtD n l = { D with secs := D.secs.set 0 (metaF 0 0) }) := fmtD_yes hN hDe
    clear hDe
    have HY : Hid (∀ y ∈ metaF 0 0, 0 ≤ y ∧ y ≤ 255) := metaF_byte 0 0
    have hPM := fun W => specPutMeta_any 0 0 W
    obtain ⟨L, hL⟩ := hidEx (metaF 0 0)
    rw [hL.out] at HF HY
    simp only [hL.out] at hPM
    clear hL
    obtain ⟨gs, rfl⟩ : ∃ gs, sa = some ⟨gs, 0, none⟩ := by
      obtain ⟨g', e, -⟩ := hk.secs.cell (by rw [hk.ns]; omega)
      exact ⟨g', e⟩
    have x0 : W3.cell? ⟨w2.heap.size, 0, none⟩ = some (.slice (some ⟨gs, 0, none⟩) D.secs.length sc) := hX.cell 0
    have hpz : (0 : Int) < D.secs.length := by omega
    go_wp2_with (rw [hW3.out])
    rw [hXe.out] at hX ⊢
    clear hW3 hXe
    have hXd := hX.below (Below.refl _ _).drew
    refine wp_region_held_drew (S := fun W => W.cell? ⟨X, 0, none⟩ = some (.slice (some ⟨gs, 0, none⟩) D.secs.length sc)) (by kernel_rfl) (hXd.cell 0) (fun hHeld => ?_)
    replace hX := hXd
    replace hR := hR.below (Below.refl _ _).drew
    replace hk := hk.up (Up.ofBelow (Below.refl _ _).drew)
    replace hB := hB.drew
    clear hXd x0
    refine' wpAnyH_take (i := 0) (v := _) rfl (by kernel_rfl) (by kernel_rfl) (by kernel_rfl) (fun _ _ _ h => h) (Or.inl ⟨by kernel_rfl, ?hfmS1⟩) (by assumption) ?rfmS1
    case hfmS1 => intro W hW; go_simp; all_goals with_reducible rfl
    change wpAnyH _ _ _ _ _ _ _ (Act.put _ (some 13) _) _
    simp only [Act.put, List.setIfInBounds_toArray, List.set_cons_zero, List.set_cons_succ]
    refine' wpAnyH_take (i := 1) (v := _) rfl (by kernel_rfl) (by kernel_rfl) (by kernel_rfl) (fun _ _ _ h => h) (Or.inl ⟨by kernel_rfl, ?hfmS2⟩) (by assumption) ?rfmS2
    case hfmS2 => intro W hW; go_simp; all_goals with_reducible rfl
    change wpAnyH _ _ _ _ _ _ _ (Act.put _ (some 14) _) _
    simp only [Act.put, List.setIfInBounds_toArray, List.set_cons_zero, List.set_cons_succ]
    refine' wpAnyH_take (i := 2) (v := _) rfl (by kernel_rfl) (by kernel_rfl) (by kernel_rfl) (fun _ _ _ h => h) (Or.inl ⟨by kernel_rfl, ?hfmS3⟩) (by assumption) ?rfmS3
    case hfmS3 => intro W hW; go_simp; all_goals with_reducible rfl
    change wpAnyH _ _ _ _ _ _ _ (Act.put _ (some 15) _) _
    simp only [Act.put, List.setIfInBounds_toArray, List.set_cons_zero, List.set_cons_succ]
    refine wpAnyH_ready (rs := [3]) (by kernel_rfl) (by simp) ?_
    refine AllReadyH.cons rfl (fun KK hK => ?_) AllReadyH.nil
    go_simp
    refine (hPM _).mono ?_
    rintro e w5 ⟨g5, c5, rfl, hg5, hc5, hr5, hb5⟩
    have hob := ob_new hr5 hc5 HY.out (show B ≤ g5 by have := hX.lt; omega)
    have hBg : B ≤ g5 := by have := hX.lt; omega
    have hfr : ∀ u ∈ ss ++ cs, u.ownBlock ≠ some g5 := fun u hu hh => by have := (hk.bytes.lt u hu g5 hh).2; omega
    have hl5 := hr5.lt
    replace hX := hX.below hb5
    replace hR := hR.below hb5
    replace hk := hk.up (Up.ofBelow hb5)
    replace hB := hB.trans (hb5.mono hB.size)
    clear hPM hr5 hb5 hHeld
    go_wp2_with fail
    refine hK.out _ _ (hX.cell 0) (fun hHeld => ?_)
    clear hK KK
    try simp only [Act.put, List.setIfInBounds_toArray, List.set_cons_zero, List.set_cons_succ]
    refine' wpAnyH_take (i := 4) (v := _) rfl (by kernel_rfl) (by kernel_rfl) (by kernel_rfl) (fun _ _ _ h => h) (Or.inl ⟨by kernel_rfl, ?hfmS4⟩) (by assumption) ?rfmS4
    case hfmS4 => intro W hW; go_simp; all_goals with_reducible rfl
    change wpAnyH _ _ _ _ _ _ _ (Act.put _ (some 17) _) _
    simp only [Act.put, List.setIfInBounds_toArray, List.set_cons_zero, List.set_cons_succ]
    refine wpAnyH_ready (rs := [5]) (by kernel_rfl) (by simp) ?_
    refine AllReadyH.cons rfl (fun KK hK => ?_) AllReadyH.nil
    have hz := hk.secs.cellFz (by rw [hk.ns]; omega) 0
    obtain ⟨g9, e9, hg9, -, hc9⟩ := hk.secs.cell (by rw [hk.ns]; omega)
    cases e9
    obtain ⟨u9, hcm⟩ : ∃ u, w5.cell? ⟨gs, 0, none⟩ = some u := ⟨_, hc9 0 _ (List.getElem?_eq_getElem (by rw [hk.ns]; omega))⟩
    have hk9 := hk.putSec0 hp hob hfr (fun g hg => by cases hg; exact ⟨hBg, hl5⟩)
    have hX9 := hX.keptF (hk.secs) (by rw [hk.ns]; omega) (.slice (some ⟨g5, 0, none⟩) L.length c5) 0
    have hR9 : VN (w5.setCell ⟨gs, 0, none⟩ (.slice (some ⟨g5, 0, none⟩) L.length c5)) w.heap.size 32 _ := hR.other (by omega)
    have hB9 : Below w.heap.size w (w5.setCell ⟨gs, 0, none⟩ (.slice (some ⟨g5, 0, none⟩) L.length c5)) := hB.setCell (p := ⟨gs, 0, none⟩) (by show _ ≤ gs; omega) _
    clear hk hX hR hB hc9 hob hfr hHeld
    go_simp
    refine hK.out _ _ (hX9.cell 0) (fun hHeld => ?_)
    clear hK KK
    try simp only [Act.put, List.setIfInBounds_toArray, List.set_cons_zero, List.set_cons_succ]
    refine wpAnyH_done (by kernel_rfl) ?_ _
    have hX := hX9
    have hR := hR9
    have hB := hB9
    clear hX9 hR9 hB9 hHeld hcm hz
    obtain ⟨W6, hW6⟩ : ∃ x, Hid (w5.setCell ⟨gs, 0, none⟩ (.slice (some ⟨g5, 0, none⟩) L.length c5) = x) := ⟨_, rfl⟩
    rw [hW6.out] at hk9 hX hR hB ⊢
    have hgl : (some (⟨gs, 0, none⟩ : Addr)) = some ⟨gs, 0, none⟩ := rfl
    obtain ⟨D2, hD2⟩ : ∃ x, Hid (({ D with secs := D.secs.set 0 L } : PDisk) = x) := ⟨_, rfl⟩
    have e1 : D2.secs.length = D.secs.length := by rw [← hD2.out]; simp
    have e2 : D2.cache = D.cache ∧ D2.ops = D.ops ∧ D2.faults = D.faults ∧ D2.down = D.down := by rw [← hD2.out]; exact ⟨rfl, rfl, rfl, rfl⟩
    rw [hD2.out] at hk9 HF
    rw [← e1, ← e2.1, ← e2.2.1, ← e2.2.2.1, ← e2.2.2.2] at hX
    clear e1 e2 hD2 hgl hW6
    obtain ⟨sa, hsa⟩ : ∃ x, Hid (some (⟨gs, 0, none⟩ : Addr) = x) := ⟨_, rfl⟩
    rw [hsa.out] at hX hk9
    have x0 : W6.cell? ⟨X, 0, none⟩ = some (.slice sa D2.secs.length sc) := hX.cell 0
    have x1 : W6.cell? ⟨X, 1, none⟩ = some (.slice ca D2.cache.length cc) := hX.cell 1
    have x2 : W6.cell? ⟨X, 2, none⟩ = some (.int .i64 D2.ops) := hX.cell 2
    have x3 : W6.cell? ⟨X, 3, none⟩ = some (.slice fa D2.faults.length fc) := hX.cell 3
    have x4 : W6.cell? ⟨X, 4, none⟩ = some (.bool D2.down) := hX.cell 4
    have e0 : W6.cell? ⟨w.heap.size, 0, none⟩ = some (.slice none 0 0) := hR.cell 0
    have z0 := hR.fz 0
    have e1 : W6.cell? ⟨w.heap.size, 1, none⟩ = some (.slice none 0 0) := hR.cell 1
    have z1 := hR.fz 1
    have e2 : W6.cell? ⟨w.heap.size, 2, none⟩ = some (.int .i64 0) := hR.cell 2
    have z2 := hR.fz 2
    have e3 : W6.cell? ⟨w.heap.size, 3, none⟩ = some (.slice none 0 0) := hR.cell 3
    have z3 := hR.fz 3
    have e4 : W6.cell? ⟨w.heap.size, 4, none⟩ = some (.bool false) := hR.cell 4
    have z4 := hR.fz 4
    have hr5 := ret5_vnF (.slice sa D2.secs.length sc) (.slice ca D2.cache.length cc) (.int .i64 D2.ops) (.slice fa D2.faults.length fc) (.bool D2.down) hR
    have hms := (hk9).up (Up.five (B := B) (R := w.heap.size) (w := W6) (.slice sa D2.secs.length sc) (.slice ca D2.cache.length cc) (.int .i64 D2.ops) (.slice fa D2.faults.length fc) (.bool D2.down) (by omega))
    have HE : Hid _ := And.intro (show KOwn _ w.heap.size (.agg #[.slice sa D2.secs.length sc, .slice ca D2.cache.length cc, .int .i64 D2.ops, .slice fa D2.faults.length fc, .bool D2.down]) (fmtD n l) from by rw [HF.out]; exact ⟨sa, sc, ca, cc, fa, fc, _, _, rfl, hms.monoF (by omega)⟩) (five_below (.slice sa D2.secs.length sc) (.slice ca D2.cache.length cc) (.int .i64 D2.ops) (.slice fa D2.faults.length fc) (.bool D2.down) hB (Nat.le_refl _))
    have m0 := hr5.cell 0
    have m1 := hr5.cell 1
    have m2 := hr5.cell 2
    have m3 := hr5.cell 3
    have m4 := hr5.cell 4
    simp only [List.getElem?_cons_zero, List.getElem?_cons_succ] at m0 m1 m2 m3 m4
    have HM : Hid _ := And.intro m0 (And.intro m1 (And.intro m2 (And.intro m3 m4)))
    clear hr5 hms hX hR hB m0 m1 m2 m3 m4
    go_wp2
    obtain ⟨m0, m1, m2, m3, m4⟩ := HM.out
    exact bodyPost_ret (v := .agg #[.slice sa D2.secs.length sc, .slice ca D2.cache.length cc, .int .i64 D2.ops, .slice fa D2.faults.length fc, .bool D2.down]) (by simp [results, Try.results51, go_sem, m0, m1, m2, m3, m4]) rfl ⟨_, rfl, HE.out.1, HE.out.2⟩
  · -- none
    have hpz : ¬ (0 : Int) < D.secs.length := by rw [hDe]; simp [zeroD]
    have HF : Hid (fmtD n l = D) := fmtD_no hN hDe
    clear hDe
    rw [hXe.out] at hX
    obtain ⟨w4, hw4⟩ : ∃ x, Hid (W3 = x) := ⟨_, rfl⟩
    rw [hXe.out] at x0 x1 x2 x3 x4
    clear x0 x1 x2 x3 x4
    have x0 : W3.cell? ⟨X, 0, none⟩ = some (.slice sa D.secs.length sc) := hX.cell 0
    have x1 : W3.cell? ⟨X, 1, none⟩ = some (.slice ca D.cache.length cc) := hX.cell 1
    have x2 : W3.cell? ⟨X, 2, none⟩ = some (.int .i64 D.ops) := hX.cell 2
    have x3 : W3.cell? ⟨X, 3, none⟩ = some (.slice fa D.faults.length fc) := hX.cell 3
    have x4 : W3.cell? ⟨X, 4, none⟩ = some (.bool D.down) := hX.cell 4
    have e0 : W3.cell? ⟨w.heap.size, 0, none⟩ = some (.slice none 0 0) := hR.cell 0
    have z0 := hR.fz 0
    have e1 : W3.cell? ⟨w.heap.size, 1, none⟩ = some (.slice none 0 0) := hR.cell 1
    have z1 := hR.fz 1
    have e2 : W3.cell? ⟨w.heap.size, 2, none⟩ = some (.int .i64 0) := hR.cell 2
    have z2 := hR.fz 2
    have e3 : W3.cell? ⟨w.heap.size, 3, none⟩ = some (.slice none 0 0) := hR.cell 3
    have z3 := hR.fz 3
    have e4 : W3.cell? ⟨w.heap.size, 4, none⟩ = some (.bool false) := hR.cell 4
    have z4 := hR.fz 4
    have hr5 := ret5_vnF (.slice sa D.secs.length sc) (.slice ca D.cache.length cc) (.int .i64 D.ops) (.slice fa D.faults.length fc) (.bool D.down) hR
    have hms := (hk).up (Up.five (B := B) (R := w.heap.size) (w := W3) (.slice sa D.secs.length sc) (.slice ca D.cache.length cc) (.int .i64 D.ops) (.slice fa D.faults.length fc) (.bool D.down) (by omega))
    have HE : Hid _ := And.intro (show KOwn _ w.heap.size (.agg #[.slice sa D.secs.length sc, .slice ca D.cache.length cc, .int .i64 D.ops, .slice fa D.faults.length fc, .bool D.down]) (fmtD n l) from by rw [HF.out]; exact ⟨sa, sc, ca, cc, fa, fc, _, _, rfl, hms.monoF (by omega)⟩) (five_below (.slice sa D.secs.length sc) (.slice ca D.cache.length cc) (.int .i64 D.ops) (.slice fa D.faults.length fc) (.bool D.down) hB (Nat.le_refl _))
    have m0 := hr5.cell 0
    have m1 := hr5.cell 1
    have m2 := hr5.cell 2
    have m3 := hr5.cell 3
    have m4 := hr5.cell 4
    simp only [List.getElem?_cons_zero, List.getElem?_cons_succ] at m0 m1 m2 m3 m4
    have HM : Hid _ := And.intro m0 (And.intro m1 (And.intro m2 (And.intro m3 m4)))
    clear hr5 hms hX hR hB m0 m1 m2 m3 m4
    rw [← hXe.out] at x0 x1 x2 x3 x4
    go_wp2_with (rw [hW3.out])
    obtain ⟨m0, m1, m2, m3, m4⟩ := HM.out
    exact bodyPost_ret (v := .agg #[.slice sa D.secs.length sc, .slice ca D.cache.length cc, .int .i64 D.ops, .slice fa D.faults.length fc, .bool D.down]) (by simp [results, Try.results51, go_sem, m0, m1, m2, m3, m4]) rfl ⟨_, rfl, HE.out.1, HE.out.2⟩
end Go.Proofs.Ytdhfbblameiloaa

/-
  What DrawDiskNew draws.
-/
namespace Go.Proofs.Ytdhfbblameiloaa
open Go.RowKit
set_option maxRecDepth 4000

set_option maxHeartbeats 4000000 in
theorem drawDiskNew_any (ao : Option Addr) (n cap : Nat) (f : Nat → Int) (w : World) (hn : n ≤ 1048576) (hv : View w ao n cap f) :
    Calls Try.prog 30 #[.slice ao n cap] w fun e w' => ∃ (z : Int) (l : List PFault) (va : Option Addr) (vc : Nat), e = .returned (.tuple #[.int .i64 z, .slice va l.length vc]) ∧ FView w' va vc l ∧ l.length ≤ 4 ∧ (3 ≤ z ∧ z ≤ 49) ∧ Below w.heap.size w w' := by
  obtain ⟨jf, hjf, fz0, fz1, fz2⟩ := infoFault
  go_enter Try.func30, Try.ntmps30
  go_wp2_with fail
  refine (l1New_any ao n cap f w hn hv).mono ?_
  rintro e w1 ⟨rfl, hC1, hb1⟩
  have hl1 := hC1.lt
  obtain ⟨g, hg⟩ := hidEx w.heap.size
  have hB : Below g w w1 := by rw [← hg.out]; exact hb1
  rw [hg.out] at hC1 hl1 ⊢
  clear hb1 hv
  go_wp2_with fail
  refine (l12FaultList_any g ao n cap f w1 hn hC1).mono ?_
  rintro e w2 ⟨l, v, rfl, hDF, hl3, hcn⟩
  have hO := hDF.own
  have hgl := hcn.lt
  clear hDF hC1
  go_wp2_with fail
  refine (l1Once_any g ao n cap f 6 w2 hn (by omega) (by omega) hcn.cur).mono ?_
  rintro e w3 ⟨bo, rfl, hC3, hO3⟩
  have hB3 := But.ofOnly hO3
  replace hO := own_grownN hO hB3.grown (fun j e => by have := (own_blkN hO e).1; simp; omega)
  replace hcn := hcn.next hC3 hB3
  clear hO3 hB3 hC3
  have HFIN : ∀ (l : List PFault) (va : Option Addr) (vc : Nat) (W : World) (z : Int), W.ownsRow w1.heap.size 79 3 (.slice va l.length vc) l.length (fcells l) → l.length ≤ 4 → z ∈ [(4 : Int), 7, 48, 3, 49] → CN w1 g ao n cap f W → (∃ (z' : Int) (l' : List PFault) (va' : Option Addr) (vc' : Nat), Ending.returned (.tuple #[.int .i64 z, .slice va l.length vc]) = .returned (.tuple #[.int .i64 z', .slice va' l'.length vc']) ∧ FView W va' vc' l' ∧ l'.length ≤ 4 ∧ (3 ≤ z' ∧ z' ≤ 49) ∧ Below g w W) := by
    intro l va vc W z hO hl hz hcn
    refine ⟨z, l, va, vc, rfl, own_fview hO, hl, by simp at hz; omega, hB.trans ⟨hcn.but.os, hcn.but.tape, hcn.but.output, hcn.but.size, fun k hk => hcn.but.block k (by omega) (by omega)⟩⟩
  have HF : Hid _ := HFIN
  clear HFIN
  cases bo with
  | false =>
    obtain ⟨va, vc, ev⟩ := own_form hO
    subst ev
    have hI := l1Int_mem g ao n cap f [4, 7, 48, 3, 49] w3.heap.size w3 rfl hn (by simp) (by simp) hcn.cur
    go_wp2_with fail
    refine hI.mono ?_
    rintro e w4 ⟨z, rfl, hz, hC4, hB4⟩
    replace hO := own_grownN hO hB4.grown (fun j e => by have := (own_blkN hO e).1; simp; omega)
    replace hcn := hcn.next hC4 hB4
    have HE : Hid _ := HF.out l va vc w4 z hO (by omega) hz hcn
    clear hI hO hcn hB4 hC4
    go_wp2
    go_ret2
    rw [hg.out]
    exact HE.out
  | true =>
    have hI := l1Int_mem g ao n cap f [0, 99, 100001] w3.heap.size w3 rfl hn (by simp) (by simp) hcn.cur
    go_wp2_with fail
    refine hI.mono ?_
    rintro e w4 ⟨z1, rfl, -, hC4, hB4⟩
    replace hO := own_grownN hO hB4.grown (fun j e => by have := (own_blkN hO e).1; simp; omega)
    replace hcn := hcn.next hC4 hB4
    clear hI hC4 hB4
    have hI := l1Int_mem g ao n cap f [-1, 0, 257] w4.heap.size w4 rfl hn (by simp) (by simp) hcn.cur
    go_wp2_with fail
    refine hI.mono ?_
    rintro e w5 ⟨z2, rfl, -, hC5, hB5⟩
    replace hO := own_grownN hO hB5.grown (fun j e => by have := (own_blkN hO e).1; simp; omega)
    replace hcn := hcn.next hC5 hB5
    clear hI hC5 hB5
    have hbO : Below w5.heap.size w5 (w5.alloc (.cells #[.int .i64 z1, .int .i64 0, .int .i64 z2] 79)) := (Below.refl _ _).alloc (Nat.le_refl _) _
    have hcl := cells3New w5 z1 0 z2 79
    have hg6 : w5.grownBy (w5.alloc (.cells #[.int .i64 z1, .int .i64 0, .int .i64 z2] 79)) none := ⟨hbO.os, hbO.tape, hbO.output, hbO.size, fun k hk _ => hbO.block k hk⟩
    have hO6 := own_grownN hO hg6 (fun j e => by simp)
    have hR6 := hcn.below hbO
    have hsz6 := hR6.size
    clear hO hcn hbO hg6
    go_wp2_with (at_builtin; go_must (refine wpList_append_own _ rfl (.tmp 12) (.tmp 20) 30 rfl w1.heap.size 79 jf (.agg #[.int .i64 0, .int .i64 0, .int .i64 0]) 3 24 Try.underlying30 hjf fz0 fz1 fz2 rfl (by decide) _ _ _ rfl hO6 ⟨w5.heap.size, 0, none⟩ 1 1 [.int .i64 z1, .int .i64 0, .int .i64 z2] rfl rfl hcl (by intro u hu; simp at hu; rcases hu with rfl | rfl | rfl <;> rfl) (by unfold maxLen; omega) (by omega) hsz6 ?_))
    intro v7 w7 hO7 hg7 _
    have hR7 := hR6.grown hg7 (fun j e => (own_blkN hO6 e).1)
    obtain ⟨va, vc, ev⟩ := own_form hO7
    subst ev
    have hO8 : w7.ownsRow w1.heap.size 79 3 (.slice va (l ++ [(⟨z1, 0, z2⟩ : PFault)]).length vc) (l ++ [(⟨z1, 0, z2⟩ : PFault)]).length (fcells (l ++ [(⟨z1, 0, z2⟩ : PFault)])) := by
      rw [List.length_append, fcells_push]; exact hO7
    have hl4 : (l ++ [(⟨z1, 0, z2⟩ : PFault)]).length ≤ 4 := by simp; omega
    have hle : (l ++ [(⟨z1, 0, z2⟩ : PFault)]).length = l.length + 1 := by simp
    obtain ⟨l2, hl2⟩ : ∃ x, Hid (l ++ [(⟨z1, 0, z2⟩ : PFault)] = x) := ⟨_, rfl⟩
    rw [hl2.out] at hO8 hl4 hle
    have HLE : Hid (l2.length = l.length + 1) := hle
    rw [← HLE.out]
    clear hO7 hO6 hg7 hR6 hcl hl2 hle
    have hI := l1Int_mem g ao n cap f [4, 7, 48, 3, 49] w7.heap.size w7 rfl hn (by simp) (by simp) hR7.cur
    go_wp2_with fail
    refine hI.mono ?_
    rintro e w8 ⟨z, rfl, hz, hC8, hB8⟩
    replace hO8 := own_grownN hO8 hB8.grown (fun j e => by have := (own_blkN hO8 e).1; simp; omega)
    replace hR7 := hR7.next hC8 hB8
    have HE : Hid _ := HF.out l2 va vc w8 z hO8 hl4 hz hR7
    clear hI hO8 hR7 hB8 hC8
    go_wp2
    go_ret2
    rw [hg.out]
    exact HE.out
end Go.Proofs.Ytdhfbblameiloaa

/-
  Whether a code is too long.
-/
namespace Go.Proofs.Ytdhfbblameiloaa
open Go.RowKit
set_option maxRecDepth 4000

theorem big_any (ao : Option Addr) (n cap : Nat) (w : World) (_hn : n ≤ 9223372036854775807) :
    Calls Try.prog 19 #[.slice ao n cap] w fun e w' => e = .returned (.bool (decide ((1048576 : Int) < (n : Int)))) ∧ w = w' := by
  go_enter Try.func19, Try.ntmps19
  go_wp2
  go_ret
  exact ⟨rfl, rfl⟩

end Go.Proofs.Ytdhfbblameiloaa

