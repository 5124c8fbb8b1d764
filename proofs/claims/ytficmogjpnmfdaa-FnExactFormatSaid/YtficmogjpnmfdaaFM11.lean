/-
  Together: FormatI, FormatS, DiskSize2, DiskEq
-/
import Derived.Test.YtficmogjpnmfdaaFM8
import Derived.Test.YtficmogjpnmfdaaFM10
import Derived.Test.YtficmogjpnmfdaaFM9
import Derived.Test.YtficmogjpnmfdaaFM4
import Derived.Test.YtficmogjpnmfdaaFM3
import Derived.Deep.LoopGhost
import Derived.Deep.RegionHeld3
/-
  The program's Format.
-/
namespace Go.Proofs.Ytficmogjpnmfdaa
open Go.RowKit
set_option maxRecDepth 4000

set_option maxHeartbeats 8000000 in
theorem implFormat_any (n : Int) (a : Option Addr) (cap : Nat) (l : List PFault) (w : World) (h : FView w a cap l) (hn : l.length ≤ 1048576) :
    Calls Try.prog 14 #[.int .i64 n, .slice a l.length cap] w fun e w' => ∃ v', e = .returned v' ∧ KOwn w' w.heap.size v' (fmtD n l) ∧ Below w.heap.size w w' := by
  have hbA : Below w.heap.size w (w.alloc (.cells #[.slice none 0 0, .slice none 0 0, .int .i64 0, .slice none 0 0, .bool false] 35)) := (Below.refl _ _).alloc (Nat.le_refl _) _
  have hR := VN.new w 35 [.slice none 0 0, .slice none 0 0, .int .i64 0, .slice none 0 0, .bool false]
  have hlt : w.heap.size < (w.alloc (.cells #[.slice none 0 0, .slice none 0 0, .int .i64 0, .slice none 0 0, .bool false] 35)).heap.size := by simp
  obtain ⟨W1, hW1⟩ : ∃ x, Hid (w.alloc (.cells #[.slice none 0 0, .slice none 0 0, .int .i64 0, .slice none 0 0, .bool false] 35) = x) := ⟨_, rfl⟩
  rw [hW1.out] at hbA hR hlt
  have hN := implDiskNew_any n a cap l W1 (fview_below h hbA) hn
  clear h
  go_enter Try.func14, Try.ntmps14
  go_wp2_with (rw [hW1.out])
  refine hN.mono ?_
  rintro e w2 ⟨v2, rfl, hb2, h2⟩
  clear hN hW1
  replace hR := hR.below hb2
  have hB := hbA.trans (hb2.mono hbA.size)
  obtain ⟨B, hBe⟩ := hidEx W1.heap.size
  rw [hBe.out] at h2 hlt
  have hBw : B ≤ w2.heap.size := by rw [← hBe.out]; exact hb2.size
  clear hb2 hbA hBe
  obtain ⟨D, hD, hKO⟩ := newTo_cases h2
  obtain ⟨sa, sc, ca, cc, fa, fc, ss, cs, rfl, hk⟩ := hKO
  clear h2
  unfold dval
  have hbX : Below w2.heap.size w2 (w2.alloc (.cells #[.slice sa D.secs.length sc, .slice ca D.cache.length cc, .int .i64 D.ops, .slice fa D.faults.length fc, .bool D.down] 35)) := (Below.refl _ _).alloc (Nat.le_refl _) _
  have hX := VN.new w2 35 [.slice sa D.secs.length sc, .slice ca D.cache.length cc, .int .i64 D.ops, .slice fa D.faults.length fc, .bool D.down]
  replace hR := hR.below hbX
  replace hk := hk.up (Up.ofBelow hbX)
  replace hB := hB.trans (hbX.mono hB.size)
  obtain ⟨W3, hW3⟩ : ∃ x, Hid (w2.alloc (.cells #[.slice sa D.secs.length sc, .slice ca D.cache.length cc, .int .i64 D.ops, .slice fa D.faults.length fc, .bool D.down] 35) = x) := ⟨_, rfl⟩
  obtain ⟨X, hXe⟩ := hidEx w2.heap.size
  rw [hW3.out] at hX hR hk hB
  rw [hXe.out] at hBw
  have hf : KFine D := by rcases hD with hD | hD; exact hD.2.2.2 hn; exact hD.2.2
  have hsz3 := hk.view
  clear hbX
  have x0 : W3.cell? ⟨w2.heap.size, 0, none⟩ = some (.slice sa D.secs.length sc) := hX.cell 0
  have x1 : W3.cell? ⟨w2.heap.size, 1, none⟩ = some (.slice ca D.cache.length cc) := hX.cell 1
  have x2 : W3.cell? ⟨w2.heap.size, 2, none⟩ = some (.int .i64 D.ops) := hX.cell 2
  have x3 : W3.cell? ⟨w2.heap.size, 3, none⟩ = some (.slice fa D.faults.length fc) := hX.cell 3
  have x4 : W3.cell? ⟨w2.heap.size, 4, none⟩ = some (.bool D.down) := hX.cell 4
  have hO := implDiskOk_any _ D W3 (show KView W3 _ D from ⟨sa, sc, ca, cc, fa, fc, rfl, hsz3.1, hsz3.2.1, hsz3.2.2⟩) hf
  unfold Says at hO
  go_wp2_with (rw [hW3.out])
  rw [hXe.out] at hX ⊢
  refine hO.mono ?_
  rintro e w4 ⟨ok, rfl, hok, hb4⟩
  clear hO hW3 hXe
  clear x0 x1 x2 x3 x4
  replace hX := hX.below hb4
  replace hR := hR.below hb4
  replace hk := hk.up (Up.ofBelow hb4)
  replace hB := hB.trans (hb4.mono hB.size)
  have hB4 : B ≤ w4.heap.size := by have := hk; have := hX.lt; omega
  clear hb4 hsz3
  rcases hD with ⟨hN, hDe, hp, -⟩ | ⟨hN, hDe, -⟩
  · -- a disk
    have hokt : ok = true := hok.2 (by rw [hDe]; exact (okMade (by have := hN.1; omega) (by have := hN.1; omega)).2 hN.2)
    subst hokt
    clear hok
    have HF : Hid (fmtD n l = { D with secs := D.secs.set 0 (metaF 0 0) }) := fmtD_yes hN hDe
    clear hDe
    have HY : Hid (∀ y ∈ metaF 0 0, 0 ≤ y ∧ y ≤ 255) := metaF_byte 0 0
    have hPM := fun W => implPutMeta_any 0 0 W
    obtain ⟨L, hL⟩ := hidEx (metaF 0 0)
    rw [hL.out] at HF HY
    simp only [hL.out] at hPM
    clear hL
    obtain ⟨gs, rfl⟩ : ∃ gs, sa = some ⟨gs, 0, none⟩ := by
      obtain ⟨g', e, -⟩ := hk.secs.cell (by rw [hk.ns]; omega)
      exact ⟨g', e⟩
    have x0 : w4.cell? ⟨X, 0, none⟩ = some (.slice (some ⟨gs, 0, none⟩) D.secs.length sc) := hX.cell 0
    have hpz : (0 : Int) < D.secs.length := by omega
    go_wp2_with fail
    have hXd := hX.below (Below.refl _ _).drew
    refine wp_region_held_drew (S := fun W => W.cell? ⟨X, 0, none⟩ = some (.slice (some ⟨gs, 0, none⟩) D.secs.length sc)) (by kernel_rfl) (hXd.cell 0) (fun hHeld => ?_)
    replace hX := hXd
    replace hR := hR.below (Below.refl _ _).drew
    replace hk := hk.up (Up.ofBelow (Below.refl _ _).drew)
    replace hB := hB.drew
    clear hXd x0
    refine' wpAnyH_take (i := 0) (v := _) rfl (by kernel_rfl) (by kernel_rfl) (by kernel_rfl) (fun _ _ _ h => h) (Or.inl ⟨by kernel_rfl, ?hfmI1⟩) (by assumption) ?rfmI1
    case hfmI1 => intro W hW; go_simp; all_goals with_reducible rfl
    change wpAnyH _ _ _ _ _ _ _ (Act.put _ (some 11) _) _
    simp only [Act.put, List.setIfInBounds_toArray, List.set_cons_zero, List.set_cons_succ]
    refine' wpAnyH_take (i := 1) (v := _) rfl (by kernel_rfl) (by kernel_rfl) (by kernel_rfl) (fun _ _ _ h => h) (Or.inl ⟨by kernel_rfl, ?hfmI2⟩) (by assumption) ?rfmI2
    case hfmI2 => intro W hW; go_simp; all_goals with_reducible rfl
    change wpAnyH _ _ _ _ _ _ _ (Act.put _ (some 12) _) _
    simp only [Act.put, List.setIfInBounds_toArray, List.set_cons_zero, List.set_cons_succ]
    refine' wpAnyH_take (i := 2) (v := _) rfl (by kernel_rfl) (by kernel_rfl) (by kernel_rfl) (fun _ _ _ h => h) (Or.inl ⟨by kernel_rfl, ?hfmI3⟩) (by assumption) ?rfmI3
    case hfmI3 => intro W hW; go_simp; all_goals with_reducible rfl
    change wpAnyH _ _ _ _ _ _ _ (Act.put _ (some 13) _) _
    simp only [Act.put, List.setIfInBounds_toArray, List.set_cons_zero, List.set_cons_succ]
    refine wpAnyH_ready (rs := [3]) (by kernel_rfl) (by simp) ?_
    refine AllReadyH.cons rfl (fun KK hK => ?_) AllReadyH.nil
    go_simp
    refine (hPM _).mono ?_
    rintro e w5 ⟨g5, c5, rfl, hg5, hc5, hr5, hb5⟩
    have hob := ob_new hr5 hc5 HY.out (show B ≤ g5 by have := hX.lt; omega)
    have hBg : B ≤ g5 := by have := hX.lt; omega
    have hfr : ∀ u ∈ ss ++ cs, u.ownBlock ≠ some g5 := fun u hu hh => by have := (hk.bytes.lt u hu g5 hh).2; omega
    have hl5 := hr5.lt
    replace hX := hX.below hb5
    replace hR := hR.below hb5
    replace hk := hk.up (Up.ofBelow hb5)
    replace hB := hB.trans (hb5.mono hB.size)
    clear hPM hr5 hb5 hHeld
    go_wp2_with fail
    refine hK.out _ _ (hX.cell 0) (fun hHeld => ?_)
    clear hK KK
    try simp only [Act.put, List.setIfInBounds_toArray, List.set_cons_zero, List.set_cons_succ]
    refine' wpAnyH_take (i := 4) (v := _) rfl (by kernel_rfl) (by kernel_rfl) (by kernel_rfl) (fun _ _ _ h => h) (Or.inl ⟨by kernel_rfl, ?hfmI4⟩) (by assumption) ?rfmI4
    case hfmI4 => intro W hW; go_simp; all_goals with_reducible rfl
    change wpAnyH _ _ _ _ _ _ _ (Act.put _ (some 15) _) _
    simp only [Act.put, List.setIfInBounds_toArray, List.set_cons_zero, List.set_cons_succ]
    refine wpAnyH_ready (rs := [5]) (by kernel_rfl) (by simp) ?_
    refine AllReadyH.cons rfl (fun KK hK => ?_) AllReadyH.nil
    have hz := hk.secs.cellFz (by rw [hk.ns]; omega) 0
    obtain ⟨g9, e9, hg9, -, hc9⟩ := hk.secs.cell (by rw [hk.ns]; omega)
    cases e9
    obtain ⟨u9, hcm⟩ : ∃ u, w5.cell? ⟨gs, 0, none⟩ = some u := ⟨_, hc9 0 _ (List.getElem?_eq_getElem (by rw [hk.ns]; omega))⟩
    have hk9 := hk.putSec0 hp hob hfr (fun g hg => by cases hg; exact ⟨hBg, hl5⟩)
    have hX9 := hX.keptF (hk.secs) (by rw [hk.ns]; omega) (.slice (some ⟨g5, 0, none⟩) L.length c5) 0
    have hR9 : VN (w5.setCell ⟨gs, 0, none⟩ (.slice (some ⟨g5, 0, none⟩) L.length c5)) w.heap.size 35 _ := hR.other (by omega)
    have hB9 : Below w.heap.size w (w5.setCell ⟨gs, 0, none⟩ (.slice (some ⟨g5, 0, none⟩) L.length c5)) := hB.setCell (p := ⟨gs, 0, none⟩) (by show _ ≤ gs; omega) _
    clear hk hX hR hB hc9 hob hfr hHeld
    go_simp
    refine hK.out _ _ (hX9.cell 0) (fun hHeld => ?_)
    clear hK KK
    try simp only [Act.put, List.setIfInBounds_toArray, List.set_cons_zero, List.set_cons_succ]
    refine wpAnyH_done (by kernel_rfl) ?_ _
    have hX := hX9
    have hR := hR9
    have hB := hB9
    clear hX9 hR9 hB9 hHeld hcm hz
    obtain ⟨W6, hW6⟩ : ∃ x, Hid (w5.setCell ⟨gs, 0, none⟩ (.slice (some ⟨g5, 0, none⟩) L.length c5) = x) := ⟨_, rfl⟩
    rw [hW6.out] at hk9 hX hR hB ⊢
    have hgl : (some (⟨gs, 0, none⟩ : Addr)) = some ⟨gs, 0, none⟩ := rfl
    obtain ⟨D2, hD2⟩ : ∃ x, Hid (({ D with secs := D.secs.set 0 L } : PDisk) = x) := ⟨_, rfl⟩
    have e1 : D2.secs.length = D.secs.length := by rw [← hD2.out]; simp
    have e2 : D2.cache = D.cache ∧ D2.ops = D.ops ∧ D2.faults = D.faults ∧ D2.down = D.down := by rw [← hD2.out]; exact ⟨rfl, rfl, rfl, rfl⟩
    rw [hD2.out] at hk9 HF
    rw [← e1, ← e2.1, ← e2.2.1, ← e2.2.2.1, ← e2.2.2.2] at hX
    clear e1 e2 hD2 hgl hW6
    obtain ⟨sa, hsa⟩ : ∃ x, Hid (some (⟨gs, 0, none⟩ : Addr) = x) := ⟨_, rfl⟩
    rw [hsa.out] at hX hk9
    have x0 : W6.cell? ⟨X, 0, none⟩ = some (.slice sa D2.secs.length sc) := hX.cell 0
    have x1 : W6.cell? ⟨X, 1, none⟩ = some (.slice ca D2.cache.length cc) := hX.cell 1
    have x2 : W6.cell? ⟨X, 2, none⟩ = some (.int .i64 D2.ops) := hX.cell 2
    have x3 : W6.cell? ⟨X, 3, none⟩ = some (.slice fa D2.faults.length fc) := hX.cell 3
    have x4 : W6.cell? ⟨X, 4, none⟩ = some (.bool D2.down) := hX.cell 4
    have e0 : W6.cell? ⟨w.heap.size, 0, none⟩ = some (.slice none 0 0) := hR.cell 0
    have z0 := hR.fz 0
    have e1 : W6.cell? ⟨w.heap.size, 1, none⟩ = some (.slice none 0 0) := hR.cell 1
    have z1 := hR.fz 1
    have e2 : W6.cell? ⟨w.heap.size, 2, none⟩ = some (.int .i64 0) := hR.cell 2
    have z2 := hR.fz 2
    have e3 : W6.cell? ⟨w.heap.size, 3, none⟩ = some (.slice none 0 0) := hR.cell 3
    have z3 := hR.fz 3
    have e4 : W6.cell? ⟨w.heap.size, 4, none⟩ = some (.bool false) := hR.cell 4
    have z4 := hR.fz 4
    have hr5 := ret5_vnF (.slice sa D2.secs.length sc) (.slice ca D2.cache.length cc) (.int .i64 D2.ops) (.slice fa D2.faults.length fc) (.bool D2.down) hR
    have hms := (hk9).up (Up.five (B := B) (R := w.heap.size) (w := W6) (.slice sa D2.secs.length sc) (.slice ca D2.cache.length cc) (.int .i64 D2.ops) (.slice fa D2.faults.length fc) (.bool D2.down) (by omega))
    have HE : Hid _ := And.intro (show KOwn _ w.heap.size (.agg #[.slice sa D2.secs.length sc, .slice ca D2.cache.length cc, .int .i64 D2.ops, .slice fa D2.faults.length fc, .bool D2.down]) (fmtD n l) from by rw [HF.out]; exact ⟨sa, sc, ca, cc, fa, fc, _, _, rfl, hms.monoF (by omega)⟩) (five_below (.slice sa D2.secs.length sc) (.slice ca D2.cache.length cc) (.int .i64 D2.ops) (.slice fa D2.faults.length fc) (.bool D2.down) hB (Nat.le_refl _))
    have m0 := hr5.cell 0
    have m1 := hr5.cell 1
    have m2 := hr5.cell 2
    have m3 := hr5.cell 3
    have m4 := hr5.cell 4
    simp only [List.getElem?_cons_zero, List.getElem?_cons_succ] at m0 m1 m2 m3 m4
    have HM : Hid _ := And.intro m0 (And.intro m1 (And.intro m2 (And.intro m3 m4)))
    clear hr5 hms hX hR hB m0 m1 m2 m3 m4
    go_wp2
    obtain ⟨m0, m1, m2, m3, m4⟩ := HM.out
    exact bodyPost_ret (v := .agg #[.slice sa D2.secs.length sc, .slice ca D2.cache.length cc, .int .i64 D2.ops, .slice fa D2.faults.length fc, .bool D2.down]) (by simp [results, Try.results14, go_sem, m0, m1, m2, m3, m4]) rfl ⟨_, rfl, HE.out.1, HE.out.2⟩
  · -- none
    have hokf : ok = false := by
      cases ok with
      | false => rfl
      | true => exact absurd (hok.1 rfl) (by rw [hDe]; exact zero_notOk)
    subst hokf
    clear hok
    have HF : Hid (fmtD n l = D) := fmtD_no hN hDe
    clear hDe
    have x0 : w4.cell? ⟨X, 0, none⟩ = some (.slice sa D.secs.length sc) := hX.cell 0
    have x1 : w4.cell? ⟨X, 1, none⟩ = some (.slice ca D.cache.length cc) := hX.cell 1
    have x2 : w4.cell? ⟨X, 2, none⟩ = some (.int .i64 D.ops) := hX.cell 2
    have x3 : w4.cell? ⟨X, 3, none⟩ = some (.slice fa D.faults.length fc) := hX.cell 3
    have x4 : w4.cell? ⟨X, 4, none⟩ = some (.bool D.down) := hX.cell 4
    have e0 : w4.cell? ⟨w.heap.size, 0, none⟩ = some (.slice none 0 0) := hR.cell 0
    have z0 := hR.fz 0
    have e1 : w4.cell? ⟨w.heap.size, 1, none⟩ = some (.slice none 0 0) := hR.cell 1
    have z1 := hR.fz 1
    have e2 : w4.cell? ⟨w.heap.size, 2, none⟩ = some (.int .i64 0) := hR.cell 2
    have z2 := hR.fz 2
    have e3 : w4.cell? ⟨w.heap.size, 3, none⟩ = some (.slice none 0 0) := hR.cell 3
    have z3 := hR.fz 3
    have e4 : w4.cell? ⟨w.heap.size, 4, none⟩ = some (.bool false) := hR.cell 4
    have z4 := hR.fz 4
    have hr5 := ret5_vnF (.slice sa D.secs.length sc) (.slice ca D.cache.length cc) (.int .i64 D.ops) (.slice fa D.faults.length fc) (.bool D.down) hR
    have hms := (hk).up (Up.five (B := B) (R := w.heap.size) (w := w4) (.slice sa D.secs.length sc) (.slice ca D.cache.length cc) (.int .i64 D.ops) (.slice fa D.faults.length fc) (.bool D.down) (by omega))
    have HE : Hid _ := And.intro (show KOwn _ w.heap.size (.agg #[.slice sa D.secs.length sc, .slice ca D.cache.length cc, .int .i64 D.ops, .slice fa D.faults.length fc, .bool D.down]) (fmtD n l) from by rw [HF.out]; exact ⟨sa, sc, ca, cc, fa, fc, _, _, rfl, hms.monoF (by omega)⟩) (five_below (.slice sa D.secs.length sc) (.slice ca D.cache.length cc) (.int .i64 D.ops) (.slice fa D.faults.length fc) (.bool D.down) hB (Nat.le_refl _))
    have m0 := hr5.cell 0
    have m1 := hr5.cell 1
    have m2 := hr5.cell 2
    have m3 := hr5.cell 3
    have m4 := hr5.cell 4
    simp only [List.getElem?_cons_zero, List.getElem?_cons_succ] at m0 m1 m2 m3 m4
    have HM : Hid _ := And.intro m0 (And.intro m1 (And.intro m2 (And.intro m3 m4)))
    clear hr5 hms hX hR hB m0 m1 m2 m3 m4
    go_wp2
    obtain ⟨m0, m1, m2, m3, m4⟩ := HM.out
    exact bodyPost_ret (v := .agg #[.slice sa D.secs.length sc, .slice ca D.cache.length cc, .int .i64 D.ops, .slice fa D.faults.length fc, .bool D.down]) (by simp [results, Try.results14, go_sem, m0, m1, m2, m3, m4]) rfl ⟨_, rfl, HE.out.1, HE.out.2⟩
end Go.Proofs.Ytficmogjpnmfdaa

/-
  The model's Format.
-/
namespace Go.Proofs.Ytficmogjpnmfdaa
open Go.RowKit
set_option maxRecDepth 4000

set_option maxHeartbeats 8000000 in
theorem specFormat_any (n : Int) (a : Option Addr) (cap : Nat) (l : List PFault) (w : World) (h : FView w a cap l) (hn : l.length ≤ 1048576) :
    Calls Try.prog 12 #[.int .i64 n, .slice a l.length cap] w fun e w' => ∃ v', e = .returned v' ∧ KOwn w' w.heap.size v' (fmtD n l) ∧ Below w.heap.size w w' := by
  have hbA : Below w.heap.size w (w.alloc (.cells #[.slice none 0 0, .slice none 0 0, .int .i64 0, .slice none 0 0, .bool false] 35)) := (Below.refl _ _).alloc (Nat.le_refl _) _
  have hR := VN.new w 35 [.slice none 0 0, .slice none 0 0, .int .i64 0, .slice none 0 0, .bool false]
  have hlt : w.heap.size < (w.alloc (.cells #[.slice none 0 0, .slice none 0 0, .int .i64 0, .slice none 0 0, .bool false] 35)).heap.size := by simp
  obtain ⟨W1, hW1⟩ : ∃ x, Hid (w.alloc (.cells #[.slice none 0 0, .slice none 0 0, .int .i64 0, .slice none 0 0, .bool false] 35) = x) := ⟨_, rfl⟩
  rw [hW1.out] at hbA hR hlt
  have hN := specDiskNew_any n a cap l W1 (fview_below h hbA) hn
  clear h
  go_enter Try.func12, Try.ntmps12
  go_wp2_with (rw [hW1.out])
  refine hN.mono ?_
  rintro e w2 ⟨v2, rfl, hb2, h2⟩
  clear hN hW1
  replace hR := hR.below hb2
  have hB := hbA.trans (hb2.mono hbA.size)
  obtain ⟨B, hBe⟩ := hidEx W1.heap.size
  rw [hBe.out] at h2 hlt
  have hBw : B ≤ w2.heap.size := by rw [← hBe.out]; exact hb2.size
  clear hb2 hbA hBe
  obtain ⟨D, hD, hKO⟩ := newTo_cases h2
  obtain ⟨sa, sc, ca, cc, fa, fc, ss, cs, rfl, hk⟩ := hKO
  clear h2
  unfold dval
  have hbX : Below w2.heap.size w2 (w2.alloc (.cells #[.slice sa D.secs.length sc, .slice ca D.cache.length cc, .int .i64 D.ops, .slice fa D.faults.length fc, .bool D.down] 35)) := (Below.refl _ _).alloc (Nat.le_refl _) _
  have hX := VN.new w2 35 [.slice sa D.secs.length sc, .slice ca D.cache.length cc, .int .i64 D.ops, .slice fa D.faults.length fc, .bool D.down]
  replace hR := hR.below hbX
  replace hk := hk.up (Up.ofBelow hbX)
  replace hB := hB.trans (hbX.mono hB.size)
  obtain ⟨W3, hW3⟩ : ∃ x, Hid (w2.alloc (.cells #[.slice sa D.secs.length sc, .slice ca D.cache.length cc, .int .i64 D.ops, .slice fa D.faults.length fc, .bool D.down] 35) = x) := ⟨_, rfl⟩
  obtain ⟨X, hXe⟩ := hidEx w2.heap.size
  rw [hW3.out] at hX hR hk hB
  rw [hXe.out] at hBw
  have hf : KFine D := by rcases hD with hD | hD; exact hD.2.2.2 hn; exact hD.2.2
  have hsz3 := hk.view
  clear hbX
  have x0 : W3.cell? ⟨w2.heap.size, 0, none⟩ = some (.slice sa D.secs.length sc) := hX.cell 0
  have x1 : W3.cell? ⟨w2.heap.size, 1, none⟩ = some (.slice ca D.cache.length cc) := hX.cell 1
  have x2 : W3.cell? ⟨w2.heap.size, 2, none⟩ = some (.int .i64 D.ops) := hX.cell 2
  have x3 : W3.cell? ⟨w2.heap.size, 3, none⟩ = some (.slice fa D.faults.length fc) := hX.cell 3
  have x4 : W3.cell? ⟨w2.heap.size, 4, none⟩ = some (.bool D.down) := hX.cell 4
  clear hsz3
  rcases hD with ⟨hN, hDe, hp, -⟩ | ⟨hN, hDe, -⟩
  · -- a disk
    have HF : Hid (fmtD n l = { D with secs := D.secs.set 0 (metaF 0 0) }) := fmtD_yes hN hDe
    clear hDe
    have HY : Hid (∀ y ∈ metaF 0 0, 0 ≤ y ∧ y ≤ 255) := metaF_byte 0 0
    have hPM := fun W => specPutMeta_any 0 0 W
    obtain ⟨L, hL⟩ := hidEx (metaF 0 0)
    rw [hL.out] at HF HY
    simp only [hL.out] at hPM
    clear hL
    obtain ⟨gs, rfl⟩ : ∃ gs, sa = some ⟨gs, 0, none⟩ := by
      obtain ⟨g', e, -⟩ := hk.secs.cell (by rw [hk.ns]; omega)
      exact ⟨g', e⟩
    have x0 : W3.cell? ⟨w2.heap.size, 0, none⟩ = some (.slice (some ⟨gs, 0, none⟩) D.secs.length sc) := hX.cell 0
    have hpz : (0 : Int) < D.secs.length := by omega
    go_wp2_with (rw [hW3.out])
    rw [hXe.out] at hX ⊢
    clear hW3 hXe
    have hXd := hX.below (Below.refl _ _).drew
    refine wp_region_held_drew (S := fun W => W.cell? ⟨X, 0, none⟩ = some (.slice (some ⟨gs, 0, none⟩) D.secs.length sc)) (by kernel_rfl) (hXd.cell 0) (fun hHeld => ?_)
    replace hX := hXd
    replace hR := hR.below (Below.refl _ _).drew
    replace hk := hk.up (Up.ofBelow (Below.refl _ _).drew)
    replace hB := hB.drew
    clear hXd x0
    refine' wpAnyH_take (i := 0) (v := _) rfl (by kernel_rfl) (by kernel_rfl) (by kernel_rfl) (fun _ _ _ h => h) (Or.inl ⟨by kernel_rfl, ?hfmS1⟩) (by assumption) ?rfmS1
    case hfmS1 => intro W hW; go_simp; all_goals with_reducible rfl
    change wpAnyH _ _ _ _ _ _ _ (Act.put _ (some 13) _) _
    simp only [Act.put, List.setIfInBounds_toArray, List.set_cons_zero, List.set_cons_succ]
    refine' wpAnyH_take (i := 1) (v := _) rfl (by kernel_rfl) (by kernel_rfl) (by kernel_rfl) (fun _ _ _ h => h) (Or.inl ⟨by kernel_rfl, ?hfmS2⟩) (by assumption) ?rfmS2
    case hfmS2 => intro W hW; go_simp; all_goals with_reducible rfl
    change wpAnyH _ _ _ _ _ _ _ (Act.put _ (some 14) _) _
    simp only [Act.put, List.setIfInBounds_toArray, List.set_cons_zero, List.set_cons_succ]
    refine' wpAnyH_take (i := 2) (v := _) rfl (by kernel_rfl) (by kernel_rfl) (by kernel_rfl) (fun _ _ _ h => h) (Or.inl ⟨by kernel_rfl, ?hfmS3⟩) (by assumption) ?rfmS3
    case hfmS3 => intro W hW; go_simp; all_goals with_reducible rfl
    change wpAnyH _ _ _ _ _ _ _ (Act.put _ (some 15) _) _
    simp only [Act.put, List.setIfInBounds_toArray, List.set_cons_zero, List.set_cons_succ]
    refine wpAnyH_ready (rs := [3]) (by kernel_rfl) (by simp) ?_
    refine AllReadyH.cons rfl (fun KK hK => ?_) AllReadyH.nil
    go_simp
    refine (hPM _).mono ?_
    rintro e w5 ⟨g5, c5, rfl, hg5, hc5, hr5, hb5⟩
    have hob := ob_new hr5 hc5 HY.out (show B ≤ g5 by have := hX.lt; omega)
    have hBg : B ≤ g5 := by have := hX.lt; omega
    have hfr : ∀ u ∈ ss ++ cs, u.ownBlock ≠ some g5 := fun u hu hh => by have := (hk.bytes.lt u hu g5 hh).2; omega
    have hl5 := hr5.lt
    replace hX := hX.below hb5
    replace hR := hR.below hb5
    replace hk := hk.up (Up.ofBelow hb5)
    replace hB := hB.trans (hb5.mono hB.size)
    clear hPM hr5 hb5 hHeld
    go_wp2_with fail
    refine hK.out _ _ (hX.cell 0) (fun hHeld => ?_)
    clear hK KK
    try simp only [Act.put, List.setIfInBounds_toArray, List.set_cons_zero, List.set_cons_succ]
    refine' wpAnyH_take (i := 4) (v := _) rfl (by kernel_rfl) (by kernel_rfl) (by kernel_rfl) (fun _ _ _ h => h) (Or.inl ⟨by kernel_rfl, ?hfmS4⟩) (by assumption) ?rfmS4
    case hfmS4 => intro W hW; go_simp; all_goals with_reducible rfl
    change wpAnyH _ _ _ _ _ _ _ (Act.put _ (some 17) _) _
    simp only [Act.put, List.setIfInBounds_toArray, List.set_cons_zero, List.set_cons_succ]
    refine wpAnyH_ready (rs := [5]) (by kernel_rfl) (by simp) ?_
    refine AllReadyH.cons rfl (fun KK hK => ?_) AllReadyH.nil
    have hz := hk.secs.cellFz (by rw [hk.ns]; omega) 0
    obtain ⟨g9, e9, hg9, -, hc9⟩ := hk.secs.cell (by rw [hk.ns]; omega)
    cases e9
    obtain ⟨u9, hcm⟩ : ∃ u, w5.cell? ⟨gs, 0, none⟩ = some u := ⟨_, hc9 0 _ (List.getElem?_eq_getElem (by rw [hk.ns]; omega))⟩
    have hk9 := hk.putSec0 hp hob hfr (fun g hg => by cases hg; exact ⟨hBg, hl5⟩)
    have hX9 := hX.keptF (hk.secs) (by rw [hk.ns]; omega) (.slice (some ⟨g5, 0, none⟩) L.length c5) 0
    have hR9 : VN (w5.setCell ⟨gs, 0, none⟩ (.slice (some ⟨g5, 0, none⟩) L.length c5)) w.heap.size 35 _ := hR.other (by omega)
    have hB9 : Below w.heap.size w (w5.setCell ⟨gs, 0, none⟩ (.slice (some ⟨g5, 0, none⟩) L.length c5)) := hB.setCell (p := ⟨gs, 0, none⟩) (by show _ ≤ gs; omega) _
    clear hk hX hR hB hc9 hob hfr hHeld
    go_simp
    refine hK.out _ _ (hX9.cell 0) (fun hHeld => ?_)
    clear hK KK
    try simp only [Act.put, List.setIfInBounds_toArray, List.set_cons_zero, List.set_cons_succ]
    refine wpAnyH_done (by kernel_rfl) ?_ _
    have hX := hX9
    have hR := hR9
    have hB := hB9
    clear hX9 hR9 hB9 hHeld hcm hz
    obtain ⟨W6, hW6⟩ : ∃ x, Hid (w5.setCell ⟨gs, 0, none⟩ (.slice (some ⟨g5, 0, none⟩) L.length c5) = x) := ⟨_, rfl⟩
    rw [hW6.out] at hk9 hX hR hB ⊢
    have hgl : (some (⟨gs, 0, none⟩ : Addr)) = some ⟨gs, 0, none⟩ := rfl
    obtain ⟨D2, hD2⟩ : ∃ x, Hid (({ D with secs := D.secs.set 0 L } : PDisk) = x) := ⟨_, rfl⟩
    have e1 : D2.secs.length = D.secs.length := by rw [← hD2.out]; simp
    have e2 : D2.cache = D.cache ∧ D2.ops = D.ops ∧ D2.faults = D.faults ∧ D2.down = D.down := by rw [← hD2.out]; exact ⟨rfl, rfl, rfl, rfl⟩
    rw [hD2.out] at hk9 HF
    rw [← e1, ← e2.1, ← e2.2.1, ← e2.2.2.1, ← e2.2.2.2] at hX
    clear e1 e2 hD2 hgl hW6
    obtain ⟨sa, hsa⟩ : ∃ x, Hid (some (⟨gs, 0, none⟩ : Addr) = x) := ⟨_, rfl⟩
    rw [hsa.out] at hX hk9
    have x0 : W6.cell? ⟨X, 0, none⟩ = some (.slice sa D2.secs.length sc) := hX.cell 0
    have x1 : W6.cell? ⟨X, 1, none⟩ = some (.slice ca D2.cache.length cc) := hX.cell 1
    have x2 : W6.cell? ⟨X, 2, none⟩ = some (.int .i64 D2.ops) := hX.cell 2
    have x3 : W6.cell? ⟨X, 3, none⟩ = some (.slice fa D2.faults.length fc) := hX.cell 3
    have x4 : W6.cell? ⟨X, 4, none⟩ = some (.bool D2.down) := hX.cell 4
    have e0 : W6.cell? ⟨w.heap.size, 0, none⟩ = some (.slice none 0 0) := hR.cell 0
    have z0 := hR.fz 0
    have e1 : W6.cell? ⟨w.heap.size, 1, none⟩ = some (.slice none 0 0) := hR.cell 1
    have z1 := hR.fz 1
    have e2 : W6.cell? ⟨w.heap.size, 2, none⟩ = some (.int .i64 0) := hR.cell 2
    have z2 := hR.fz 2
    have e3 : W6.cell? ⟨w.heap.size, 3, none⟩ = some (.slice none 0 0) := hR.cell 3
    have z3 := hR.fz 3
    have e4 : W6.cell? ⟨w.heap.size, 4, none⟩ = some (.bool false) := hR.cell 4
    have z4 := hR.fz 4
    have hr5 := ret5_vnF (.slice sa D2.secs.length sc) (.slice ca D2.cache.length cc) (.int .i64 D2.ops) (.slice fa D2.faults.length fc) (.bool D2.down) hR
    have hms := (hk9).up (Up.five (B := B) (R := w.heap.size) (w := W6) (.slice sa D2.secs.length sc) (.slice ca D2.cache.length cc) (.int .i64 D2.ops) (.slice fa D2.faults.length fc) (.bool D2.down) (by omega))
    have HE : Hid _ := And.intro (show KOwn _ w.heap.size (.agg #[.slice sa D2.secs.length sc, .slice ca D2.cache.length cc, .int .i64 D2.ops, .slice fa D2.faults.length fc, .bool D2.down]) (fmtD n l) from by rw [HF.out]; exact ⟨sa, sc, ca, cc, fa, fc, _, _, rfl, hms.monoF (by omega)⟩) (five_below (.slice sa D2.secs.length sc) (.slice ca D2.cache.length cc) (.int .i64 D2.ops) (.slice fa D2.faults.length fc) (.bool D2.down) hB (Nat.le_refl _))
    have m0 := hr5.cell 0
    have m1 := hr5.cell 1
    have m2 := hr5.cell 2
    have m3 := hr5.cell 3
    have m4 := hr5.cell 4
    simp only [List.getElem?_cons_zero, List.getElem?_cons_succ] at m0 m1 m2 m3 m4
    have HM : Hid _ := And.intro m0 (And.intro m1 (And.intro m2 (And.intro m3 m4)))
    clear hr5 hms hX hR hB m0 m1 m2 m3 m4
    go_wp2
    obtain ⟨m0, m1, m2, m3, m4⟩ := HM.out
    exact bodyPost_ret (v := .agg #[.slice sa D2.secs.length sc, .slice ca D2.cache.length cc, .int .i64 D2.ops, .slice fa D2.faults.length fc, .bool D2.down]) (by simp [results, Try.results12, go_sem, m0, m1, m2, m3, m4]) rfl ⟨_, rfl, HE.out.1, HE.out.2⟩
  · -- none
    have hpz : ¬ (0 : Int) < D.secs.length := by rw [hDe]; simp [zeroD]
    have HF : Hid (fmtD n l = D) := fmtD_no hN hDe
    clear hDe
    rw [hXe.out] at hX
    obtain ⟨w4, hw4⟩ : ∃ x, Hid (W3 = x) := ⟨_, rfl⟩
    rw [hXe.out] at x0 x1 x2 x3 x4
    clear x0 x1 x2 x3 x4
    have x0 : W3.cell? ⟨X, 0, none⟩ = some (.slice sa D.secs.length sc) := hX.cell 0
    have x1 : W3.cell? ⟨X, 1, none⟩ = some (.slice ca D.cache.length cc) := hX.cell 1
    have x2 : W3.cell? ⟨X, 2, none⟩ = some (.int .i64 D.ops) := hX.cell 2
    have x3 : W3.cell? ⟨X, 3, none⟩ = some (.slice fa D.faults.length fc) := hX.cell 3
    have x4 : W3.cell? ⟨X, 4, none⟩ = some (.bool D.down) := hX.cell 4
    have e0 : W3.cell? ⟨w.heap.size, 0, none⟩ = some (.slice none 0 0) := hR.cell 0
    have z0 := hR.fz 0
    have e1 : W3.cell? ⟨w.heap.size, 1, none⟩ = some (.slice none 0 0) := hR.cell 1
    have z1 := hR.fz 1
    have e2 : W3.cell? ⟨w.heap.size, 2, none⟩ = some (.int .i64 0) := hR.cell 2
    have z2 := hR.fz 2
    have e3 : W3.cell? ⟨w.heap.size, 3, none⟩ = some (.slice none 0 0) := hR.cell 3
    have z3 := hR.fz 3
    have e4 : W3.cell? ⟨w.heap.size, 4, none⟩ = some (.bool false) := hR.cell 4
    have z4 := hR.fz 4
    have hr5 := ret5_vnF (.slice sa D.secs.length sc) (.slice ca D.cache.length cc) (.int .i64 D.ops) (.slice fa D.faults.length fc) (.bool D.down) hR
    have hms := (hk).up (Up.five (B := B) (R := w.heap.size) (w := W3) (.slice sa D.secs.length sc) (.slice ca D.cache.length cc) (.int .i64 D.ops) (.slice fa D.faults.length fc) (.bool D.down) (by omega))
    have HE : Hid _ := And.intro (show KOwn _ w.heap.size (.agg #[.slice sa D.secs.length sc, .slice ca D.cache.length cc, .int .i64 D.ops, .slice fa D.faults.length fc, .bool D.down]) (fmtD n l) from by rw [HF.out]; exact ⟨sa, sc, ca, cc, fa, fc, _, _, rfl, hms.monoF (by omega)⟩) (five_below (.slice sa D.secs.length sc) (.slice ca D.cache.length cc) (.int .i64 D.ops) (.slice fa D.faults.length fc) (.bool D.down) hB (Nat.le_refl _))
    have m0 := hr5.cell 0
    have m1 := hr5.cell 1
    have m2 := hr5.cell 2
    have m3 := hr5.cell 3
    have m4 := hr5.cell 4
    simp only [List.getElem?_cons_zero, List.getElem?_cons_succ] at m0 m1 m2 m3 m4
    have HM : Hid _ := And.intro m0 (And.intro m1 (And.intro m2 (And.intro m3 m4)))
    clear hr5 hms hX hR hB m0 m1 m2 m3 m4
    rw [← hXe.out] at x0 x1 x2 x3 x4
    go_wp2_with (rw [hW3.out])
    obtain ⟨m0, m1, m2, m3, m4⟩ := HM.out
    exact bodyPost_ret (v := .agg #[.slice sa D.secs.length sc, .slice ca D.cache.length cc, .int .i64 D.ops, .slice fa D.faults.length fc, .bool D.down]) (by simp [results, Try.results12, go_sem, m0, m1, m2, m3, m4]) rfl ⟨_, rfl, HE.out.1, HE.out.2⟩
end Go.Proofs.Ytficmogjpnmfdaa

/-
  How much a disk holds, as the law counts it: rows of sectors and of writes, and the disk.
-/
namespace Go.Proofs.Ytficmogjpnmfdaa
open Go.RowKit
set_option maxRecDepth 4000

set_option maxHeartbeats 1000000 in
theorem szWrite_fine (x : Int) (a : Option Addr) (n cap : Nat) (left : Int) (w : World) (hs : n ≤ maxLen) (h0 : 0 ≤ left) (hl : left ≤ 1048576) :
    Calls Try.prog 41 #[.agg #[.int .i64 x, .slice a n cap], .int .i64 left] w (LeftK w left (n ≤ 1048576)) := by
  have hS := fun W => szByteS_fine a n cap left W hs h0 hl
  go_enter Try.func41, Try.ntmps41
  go_wp2_with fail
  refine (hS _).mono ?_
  rintro e w1 ⟨L, rfl, hb1, hL⟩
  have HB : Hid (Below w.heap.size w w1) := ((Below.refl _ _).alloc (Nat.le_refl _) _).trans (hb1.mono (by simp))
  clear hS hb1
  rcases hL with rfl | ⟨hL0, hL1, hP⟩
  · go_wp2
    go_ret
    exact ⟨_, rfl, HB.out, .inl rfl⟩
  · have hLn : ¬ L < 0 := by omega
    go_wp2
    go_ret
    exact ⟨_, rfl, HB.out, .inr ⟨by omega, by omega, hP⟩⟩

set_option maxHeartbeats 2000000 in
theorem szByteSS_fine (a : Option Addr) (cap : Nat) (l : List (List Int)) (left : Int) (w : World) (h : SView w a cap l) (hn : l.length ≤ maxLen) (hz : ∀ i (h : i < l.length), (l[i]).length ≤ maxLen) (h0 : 0 ≤ left) (hl : left ≤ 1048576) :
    Calls Try.prog 19 #[.slice a l.length cap, .int .i64 left] w (LeftK w left (l.length ≤ 1048576 ∧ ∀ i (h : i < l.length), (l[i]).length ≤ 1048576)) := by
  have hn' : (l.length : Int) ≤ 9223372036854775807 := by unfold maxLen at hn; omega
  by_cases hb : left - (l.length : Int) < 0
  · go_enter Try.func19, Try.ntmps19
    go_wp2
    go_ret
    exact ⟨_, rfl, Below.refl _ _, .inl rfl⟩
  go_enter Try.func19, Try.ntmps19
  go_wp2
  go_loopg [1, 5] l.length (fun q t i wr => ∃ (k : Nat) (L : Int), k ≤ l.length ∧ q = l.length - k ∧ t = .int .i64 L ∧ i = .int .i64 k ∧ Below w.heap.size w wr ∧ 0 ≤ L ∧ L ≤ left - l.length ∧ Hid (∀ i (h : i < l.length), i < k → (l[i]).length ≤ 1048576))
  case atStart => exact ⟨0, left - l.length, Nat.zero_le _, rfl, rfl, rfl, Below.refl _ _, by omega, by omega, fun i _ hi => absurd hi (Nat.not_lt_zero _)⟩
  case round =>
    obtain ⟨k, L, hk, rfl, rfl, rfl, hB, hL0, hL1, HA⟩ := hrel
    by_cases hlt : k < l.length
    · obtain ⟨b1, o1, a', c', rfl, hb1, x0, -, -⟩ := sview_at (sview_below h hB) hlt
      have hkz : (k : Int) < (l.length : Int) := by omega
      have hS := fun W => szByteS_fine a' (l[k]).length c' L W (hz k hlt) hL0 (by omega)
      have HN : Hid ((l[k]).length ≤ 1048576 → ∀ i (h : i < l.length), i < k + 1 → (l[i]).length ≤ 1048576) := by
        intro hp i h hi
        by_cases e : i < k
        · exact HA.out i h e
        · obtain rfl : i = k := by omega
          exact hp
      clear h hz HA
      obtain ⟨p0, hp0⟩ := hidEx (l[k]).length
      rw [hp0.out] at x0 HN
      simp only [hp0.out] at hS
      go_wp2_with fail
      refine (hS _).mono ?_
      rintro e w1 ⟨L', rfl, hb1', hL⟩
      have HB : Hid (Below w.heap.size w w1) := hB.trans (hb1'.mono hB.size)
      clear hS hb1' hB
      rcases hL with rfl | ⟨hL0', hL1', hP⟩
      · go_wp2
        go_ret
        exact ⟨_, rfl, HB.out, .inl rfl⟩
      · have hLn : ¬ L' < 0 := by omega
        have HN2 : Hid (∀ i (h : i < l.length), i < k + 1 → (l[i]).length ≤ 1048576) := HN.out hP
        clear HN
        go_wp2
        go_roundg (l.length - (k + 1))
        case measure => omega
        case rel => exact ⟨k + 1, L', by omega, rfl, rfl, by go_num, HB.out, by omega, by omega, HN2⟩
    · have hkz : ¬ (k : Int) < (l.length : Int) := by omega
      clear h hz
      go_wp2
      go_ret
      exact ⟨_, rfl, hB, .inr ⟨hL0, by omega, by omega, fun i h => HA.out i h (by omega)⟩⟩

set_option maxHeartbeats 2000000 in
theorem szWriteS_fine (a : Option Addr) (cap : Nat) (l : List (Int × List Int)) (left : Int) (w : World) (h : WView w a cap l) (hn : l.length ≤ maxLen) (hz : ∀ i (h : i < l.length), (l[i]).2.length ≤ maxLen) (h0 : 0 ≤ left) (hl : left ≤ 1048576) :
    Calls Try.prog 20 #[.slice a l.length cap, .int .i64 left] w (LeftK w left (l.length ≤ 1048576 ∧ ∀ i (h : i < l.length), (l[i]).2.length ≤ 1048576)) := by
  have hn' : (l.length : Int) ≤ 9223372036854775807 := by unfold maxLen at hn; omega
  by_cases hb : left - (l.length : Int) < 0
  · go_enter Try.func20, Try.ntmps20
    go_wp2
    go_ret
    exact ⟨_, rfl, Below.refl _ _, .inl rfl⟩
  go_enter Try.func20, Try.ntmps20
  go_wp2
  go_loopg [1, 5] l.length (fun q t i wr => ∃ (k : Nat) (L : Int), k ≤ l.length ∧ q = l.length - k ∧ t = .int .i64 L ∧ i = .int .i64 k ∧ Below w.heap.size w wr ∧ 0 ≤ L ∧ L ≤ left - l.length ∧ Hid (∀ i (h : i < l.length), i < k → (l[i]).2.length ≤ 1048576))
  case atStart => exact ⟨0, left - l.length, Nat.zero_le _, rfl, rfl, rfl, Below.refl _ _, by omega, by omega, fun i _ hi => absurd hi (Nat.not_lt_zero _)⟩
  case round =>
    obtain ⟨k, L, hk, rfl, rfl, rfl, hB, hL0, hL1, HA⟩ := hrel
    by_cases hlt : k < l.length
    · obtain ⟨b1, o1, a', c', rfl, hb1, x0, x1, -, -⟩ := wview_at (wview_below h hB) hlt
      have hkz : (k : Int) < (l.length : Int) := by omega
      have hS := fun y W => szWrite_fine y a' (l[k]).2.length c' L W (hz k hlt) hL0 (by omega)
      have HN : Hid ((l[k]).2.length ≤ 1048576 → ∀ i (h : i < l.length), i < k + 1 → (l[i]).2.length ≤ 1048576) := by
        intro hp i h hi
        by_cases e : i < k
        · exact HA.out i h e
        · obtain rfl : i = k := by omega
          exact hp
      clear h hz HA
      obtain ⟨p0, hp0⟩ := hidEx (l[k]).2.length
      obtain ⟨p1, hp1⟩ := hidEx (l[k]).1
      rw [hp0.out] at x1 HN
      rw [hp1.out] at x0
      simp only [hp0.out] at hS
      go_wp2_with fail
      refine (hS _ _).mono ?_
      rintro e w1 ⟨L', rfl, hb1', hL⟩
      have HB : Hid (Below w.heap.size w w1) := hB.trans (hb1'.mono hB.size)
      clear hS hb1' hB
      rcases hL with rfl | ⟨hL0', hL1', hP⟩
      · go_wp2
        go_ret
        exact ⟨_, rfl, HB.out, .inl rfl⟩
      · have hLn : ¬ L' < 0 := by omega
        have HN2 : Hid (∀ i (h : i < l.length), i < k + 1 → (l[i]).2.length ≤ 1048576) := HN.out hP
        clear HN
        go_wp2
        go_roundg (l.length - (k + 1))
        case measure => omega
        case rel => exact ⟨k + 1, L', by omega, rfl, rfl, by go_num, HB.out, by omega, by omega, HN2⟩
    · have hkz : ¬ (k : Int) < (l.length : Int) := by omega
      clear h hz
      go_wp2
      go_ret
      exact ⟨_, rfl, hB, .inr ⟨hL0, by omega, by omega, fun i h => HA.out i h (by omega)⟩⟩

set_option maxHeartbeats 2000000 in
theorem szDisk_fine (v : Value) (D : PDisk) (left : Int) (w : World) (h : KView w v D) (hm : KLim D) (h0 : 0 ≤ left) (hl : left ≤ 1048576) :
    Calls Try.prog 5 #[v, .int .i64 left] w (LeftK w left (KFine D)) := by
  obtain ⟨sa, sc, ca, cc, fa, fc, rfl, hs, hc, hf⟩ := h.is
  clear h
  have hB0 := box5_start w (.cells #[.slice sa D.secs.length sc, .slice ca D.cache.length cc, .int .i64 D.ops, .slice fa D.faults.length fc, .bool D.down] 26)
  obtain ⟨hBw0, -⟩ := box5_below hB0
  have h1 := szByteSS_fine sa sc D.secs left _ (sview_below hs hBw0) hm.ns hm.sec h0 hl
  go_enter Try.func5, Try.ntmps5
  go_wp2_with fail
  refine h1.mono ?_
  rintro e w1 ⟨L1, rfl, hb1, hL⟩
  have hB1 := box5_on hB0 hb1
  obtain ⟨hBw1, hs1⟩ := box5_below hB1
  obtain ⟨x0, x1, x2, x3, x4⟩ := box5 hB1
  clear h1 hb1 hB0 hBw0 hs
  rcases hL with rfl | ⟨a0, a1, aP⟩
  · clear hc hf
    go_wp2
    go_ret
    exact ⟨_, rfl, hBw1, .inl rfl⟩
  have n1 : ¬ L1 < 0 := by omega
  have HP1 : Hid (D.secs.length ≤ 1048576 ∧ ∀ i (h : i < D.secs.length), (D.secs[i]).length ≤ 1048576) := aP
  have h2 := szWriteS_fine ca cc D.cache L1 w1 (wview_below hc hBw1) hm.nc hm.cache a0 (by omega)
  clear aP
  go_wp2_with fail
  refine h2.mono ?_
  rintro e w2 ⟨L2, rfl, hb2, hL⟩
  have hB2 := box5_on hB1 hb2
  obtain ⟨hBw2, hs2⟩ := box5_below hB2
  clear x0 x1 x2 x3 x4
  obtain ⟨x0, x1, x2, x3, x4⟩ := box5 hB2
  clear h2 hb2 hB1 hBw1 hs1 hc
  rcases hL with rfl | ⟨c0, c1, cP⟩
  · clear hf
    go_wp2
    go_ret
    exact ⟨_, rfl, hBw2, .inl rfl⟩
  have n2 : ¬ L2 < 0 := by omega
  have HP2 : Hid (D.cache.length ≤ 1048576 ∧ ∀ i (h : i < D.cache.length), (D.cache[i]).2.length ≤ 1048576) := cP
  have h3 := szFaultS_fine fa D.faults.length fc L2 w2 hm.nf c0 (by omega)
  clear cP hf
  go_wp2_with fail
  refine h3.mono ?_
  rintro e w3 ⟨L3, rfl, hb3, hL⟩
  have hB3 := box5_on hB2 hb3
  obtain ⟨hBw3, hs3⟩ := box5_below hB3
  clear x0 x1 x2 x3 x4 h3 hb3 hB2 hBw2 hs2
  rcases hL with rfl | ⟨d0, d1, dP⟩
  · go_wp2
    go_ret
    exact ⟨_, rfl, hBw3, .inl rfl⟩
  have n3 : ¬ L3 < 0 := by omega
  go_wp2
  go_ret
  refine ⟨_, rfl, hBw3, .inr ⟨d0, by omega, ⟨HP1.out.1, fun x hx => ?_, HP2.out.1, fun x hx => ?_, dP⟩⟩⟩
  · obtain ⟨i, hi, rfl⟩ := List.getElem_of_mem hx
    exact HP1.out.2 i hi
  · obtain ⟨i, hi, rfl⟩ := List.getElem_of_mem hx
    exact HP2.out.2 i hi
end Go.Proofs.Ytficmogjpnmfdaa

/-
  Disks that read alike are alike, as the law holds them against each other.
-/
namespace Go.Proofs.Ytficmogjpnmfdaa
open Go.RowKit
set_option maxRecDepth 4000

/-- Two variables of five cells, one behind the other. -/
theorem box55 {w wr : World} {T U : TypeId} {x0 x1 x2 x3 x4 y0 y1 y2 y3 y4 : Value} (h : Below (w.heap.size + 1 + 1) ((w.alloc (.cells #[x0, x1, x2, x3, x4] T)).alloc (.cells #[y0, y1, y2, y3, y4] U)) wr) :
    (wr.cell? ⟨w.heap.size, 0, none⟩ = some x0 ∧ wr.cell? ⟨w.heap.size, 1, none⟩ = some x1 ∧ wr.cell? ⟨w.heap.size, 2, none⟩ = some x2 ∧ wr.cell? ⟨w.heap.size, 3, none⟩ = some x3 ∧ wr.cell? ⟨w.heap.size, 4, none⟩ = some x4)
    ∧ (wr.cell? ⟨w.heap.size + 1, 0, none⟩ = some y0 ∧ wr.cell? ⟨w.heap.size + 1, 1, none⟩ = some y1 ∧ wr.cell? ⟨w.heap.size + 1, 2, none⟩ = some y2 ∧ wr.cell? ⟨w.heap.size + 1, 3, none⟩ = some y3 ∧ wr.cell? ⟨w.heap.size + 1, 4, none⟩ = some y4) := by
  refine ⟨⟨?_, ?_, ?_, ?_, ?_⟩, ?_, ?_, ?_, ?_, ?_⟩
  all_goals (rw [h.cell (by first | (simp; done) | (simp; omega))]; simp [go_sem])
theorem box55_below {w wr : World} {o p : Obj} (h : Below (w.heap.size + 1 + 1) ((w.alloc o).alloc p) wr) : Below w.heap.size w wr ∧ w.heap.size + 2 ≤ wr.heap.size := by
  refine ⟨(((Below.refl _ _).alloc (Nat.le_refl _) _).alloc (by simp) _).trans (h.mono (by omega)), ?_⟩
  have := h.size
  simpa using this
theorem box55_on {w wr w' : World} {o p : Obj} (h : Below (w.heap.size + 1 + 1) ((w.alloc o).alloc p) wr) (h' : Below wr.heap.size wr w') : Below (w.heap.size + 1 + 1) ((w.alloc o).alloc p) w' := h.trans (h'.mono (box55_below h).2)

set_option maxHeartbeats 1000000 in
theorem eqFault_same (c d f : Int) (w : World) :
    Calls Try.prog 34 #[.agg #[.int .i64 c, .int .i64 d, .int .i64 f], .agg #[.int .i64 c, .int .i64 d, .int .i64 f]] w fun e w' => e = .returned (.bool true) ∧ Below w.heap.size w w' := by
  have e1 : (c != c) = false := bne_self_eq_false _
  have e2 : (d != d) = false := bne_self_eq_false _
  have e3 : (f != f) = false := bne_self_eq_false _
  go_enter Try.func34, Try.ntmps34
  go_wp2
  go_ret
  refine ⟨rfl, ?_⟩
  repeat (first | exact Below.refl _ _ | refine Below.alloc ?_ (by simp <;> omega) _ | refine Below.drew ?_)
set_option maxHeartbeats 1000000 in
theorem eqWrite_same (x : Int) (a1 a2 : Option Addr) (n c1 c2 : Nat) (f : Nat → Int) (w : World) (h1 : View w a1 n c1 f) (h2 : View w a2 n c2 f) (hn : n ≤ 1048576) :
    Calls Try.prog 51 #[.agg #[.int .i64 x, .slice a1 n c1], .agg #[.int .i64 x, .slice a2 n c2]] w fun e w' => e = .returned (.bool true) ∧ Below w.heap.size w w' := by
  have e1 : (x != x) = false := bne_self_eq_false _
  have hb0 : Below w.heap.size w ((w.alloc (.cells #[.int .i64 x, .slice a1 n c1] 71)).alloc (.cells #[.int .i64 x, .slice a2 n c2] 71)) := ((Below.refl _ _).alloc (Nat.le_refl _) _).alloc (by simp) _
  have hV := eqByteS_same a1 a2 n c1 c2 f f _ (h1.below hb0) (h2.below hb0) (by omega) (fun _ _ => rfl)
  clear h1 h2
  go_enter Try.func51, Try.ntmps51
  go_wp2_with fail
  refine hV.mono ?_
  rintro e w1 ⟨rfl, hb1⟩
  have HB : Hid (Below w.heap.size w w1) := hb0.trans (hb1.mono (by simp; omega))
  clear hV hb1 hb0
  go_wp2
  go_ret
  exact ⟨rfl, HB.out⟩

set_option maxHeartbeats 2000000 in
theorem eqByteSS_same (a1 a2 : Option Addr) (c1 c2 : Nat) (l : List (List Int)) (w : World) (h1 : SView w a1 c1 l) (h2 : SView w a2 c2 l) (hn : l.length ≤ 1048576) (hf : ∀ i (h : i < l.length), (l[i]).length ≤ 1048576) :
    Calls Try.prog 26 #[.slice a1 l.length c1, .slice a2 l.length c2] w fun e w' => e = .returned (.bool true) ∧ Below w.heap.size w w' := by
  go_enter Try.func26, Try.ntmps26
  go_wp2
  go_loopg [5] l.length (fun q i wr => ∃ k : Nat, k ≤ l.length ∧ q = l.length - k ∧ i = .int .i64 k ∧ Below w.heap.size w wr)
  case atStart => exact ⟨0, Nat.zero_le _, rfl, rfl, Below.refl _ _⟩
  case round =>
    obtain ⟨k, hk, rfl, rfl, hB⟩ := hrel
    by_cases hlt : k < l.length
    · obtain ⟨b1, o1, a3, c3, rfl, hb1, x0, v1, -⟩ := sview_at (sview_below h1 hB) hlt
      obtain ⟨b2, o2, a4, c4, rfl, hb2, y0, v2, -⟩ := sview_at (sview_below h2 hB) hlt
      have hf1 := hf k hlt
      obtain ⟨p1, hp1⟩ := hidEx (bf l[k])
      rw [hp1.out] at v1 v2
      obtain ⟨p0, hp0⟩ := hidEx (l[k]).length
      rw [hp0.out] at x0 y0 v1 v2 hf1
      have hkz : (k : Int) < (l.length : Int) := by omega
      have hV := fun W (hb : Below wr.heap.size wr W) => eqByteS_same a3 a4 p0 c3 c4 p1 p1 W (v1.below hb) (v2.below hb) (by omega) (fun _ _ => rfl)
      have HWK : Hid (∀ W, Below wr.heap.size wr W → (W.cell? ⟨b1, o1 + k, none⟩ = some (.slice a3 p0 c3)) ∧ (W.cell? ⟨b2, o2 + k, none⟩ = some (.slice a4 p0 c4))) := by
        intro W hb
        refine ⟨?_, ?_⟩ <;> (rw [hb.cell (by first | exact hb1 | exact hb2)]; assumption)
      clear h1 h2 hf v1 v2
      go_wp2_with fail
      go_region_held3 (fun W => (W.cell? ⟨b1, o1 + k, none⟩ = some (.slice a3 p0 c3)) ∧ (W.cell? ⟨b2, o2 + k, none⟩ = some (.slice a4 p0 c4))) (first | assumption | go_keep) (first | (go_at_call 50; refine (hV _ (by repeat (first | exact Below.refl _ _ | refine Below.drew ?_))).mono ?_; rintro e w2 ⟨rfl, hB2⟩; have hcells : (w2.cell? ⟨b1, o1 + k, none⟩ = some (.slice a3 p0 c3)) ∧ (w2.cell? ⟨b2, o2 + k, none⟩ = some (.slice a4 p0 c4)) := HWK.out _ (Below.trans (by repeat (first | exact Below.refl _ _ | refine Below.drew ?_)) hB2)))
      all_goals
        have hB3 : Hid (Below w.heap.size w w2) := hB.trans (Below.trans (by repeat (first | exact Below.refl _ _ | refine Below.drew ?_)) (hB2.mono (by have := hB.size; exact this)))
        clear hcells HWK hV
        go_wp2
        go_roundg (l.length - (k + 1))
        case measure => omega
        case rel => exact ⟨k + 1, by omega, rfl, by go_num, by first | exact hB3.out | exact hB3.out.drew⟩
    · clear h1 h2
      go_wp2
      go_ret
      exact ⟨rfl, hB⟩

set_option maxHeartbeats 2000000 in
theorem eqFaultS_same (a1 a2 : Option Addr) (c1 c2 : Nat) (l : List PFault) (w : World) (h1 : FView w a1 c1 l) (h2 : FView w a2 c2 l) (hn : l.length ≤ 1048576) :
    Calls Try.prog 15 #[.slice a1 l.length c1, .slice a2 l.length c2] w fun e w' => e = .returned (.bool true) ∧ Below w.heap.size w w' := by
  go_enter Try.func15, Try.ntmps15
  go_wp2
  go_loopg [5] l.length (fun q i wr => ∃ k : Nat, k ≤ l.length ∧ q = l.length - k ∧ i = .int .i64 k ∧ Below w.heap.size w wr)
  case atStart => exact ⟨0, Nat.zero_le _, rfl, rfl, Below.refl _ _⟩
  case round =>
    obtain ⟨k, hk, rfl, rfl, hB⟩ := hrel
    by_cases hlt : k < l.length
    · obtain ⟨b1, o1, rfl, hb1, x0, x1, x2⟩ := fview_at (fview_below h1 hB) hlt
      obtain ⟨b2, o2, rfl, hb2, y0, y1, y2⟩ := fview_at (fview_below h2 hB) hlt
      obtain ⟨p0, hp0⟩ := hidEx (l[k]).pos
      obtain ⟨p1, hp1⟩ := hidEx (l[k]).keep
      obtain ⟨p2, hp2⟩ := hidEx (l[k]).cut
      rw [hp0.out] at x0 y0
      rw [hp1.out] at x1 y1
      rw [hp2.out] at x2 y2
      have hkz : (k : Int) < (l.length : Int) := by omega
      have hV := fun W (_ : Below wr.heap.size wr W) => eqFault_same p0 p1 p2 W
      have HWK : Hid (∀ W, Below wr.heap.size wr W → (W.cell? ⟨b1, o1 + k * 3, none⟩ = some (.int .i64 p0) ∧ W.cell? ⟨b1, o1 + k * 3 + 1, none⟩ = some (.int .i64 p1) ∧ W.cell? ⟨b1, o1 + k * 3 + 2, none⟩ = some (.int .i64 p2)) ∧ (W.cell? ⟨b2, o2 + k * 3, none⟩ = some (.int .i64 p0) ∧ W.cell? ⟨b2, o2 + k * 3 + 1, none⟩ = some (.int .i64 p1) ∧ W.cell? ⟨b2, o2 + k * 3 + 2, none⟩ = some (.int .i64 p2))) := by
        intro W hb
        refine ⟨⟨?_, ?_, ?_⟩, ⟨?_, ?_, ?_⟩⟩ <;> (rw [hb.cell (by first | exact hb1 | exact hb2)]; assumption)
      clear h1 h2
      go_wp2_with fail
      go_region_held3 (fun W => (W.cell? ⟨b1, o1 + k * 3, none⟩ = some (.int .i64 p0) ∧ W.cell? ⟨b1, o1 + k * 3 + 1, none⟩ = some (.int .i64 p1) ∧ W.cell? ⟨b1, o1 + k * 3 + 2, none⟩ = some (.int .i64 p2)) ∧ (W.cell? ⟨b2, o2 + k * 3, none⟩ = some (.int .i64 p0) ∧ W.cell? ⟨b2, o2 + k * 3 + 1, none⟩ = some (.int .i64 p1) ∧ W.cell? ⟨b2, o2 + k * 3 + 2, none⟩ = some (.int .i64 p2))) (first | assumption | go_keep) (first | (go_at_call 34; refine (hV _ (by repeat (first | exact Below.refl _ _ | refine Below.drew ?_))).mono ?_; rintro e w2 ⟨rfl, hB2⟩; have hcells : (w2.cell? ⟨b1, o1 + k * 3, none⟩ = some (.int .i64 p0) ∧ w2.cell? ⟨b1, o1 + k * 3 + 1, none⟩ = some (.int .i64 p1) ∧ w2.cell? ⟨b1, o1 + k * 3 + 2, none⟩ = some (.int .i64 p2)) ∧ (w2.cell? ⟨b2, o2 + k * 3, none⟩ = some (.int .i64 p0) ∧ w2.cell? ⟨b2, o2 + k * 3 + 1, none⟩ = some (.int .i64 p1) ∧ w2.cell? ⟨b2, o2 + k * 3 + 2, none⟩ = some (.int .i64 p2)) := HWK.out _ (Below.trans (by repeat (first | exact Below.refl _ _ | refine Below.drew ?_)) hB2)))
      all_goals
        have hB3 : Hid (Below w.heap.size w w2) := hB.trans (Below.trans (by repeat (first | exact Below.refl _ _ | refine Below.drew ?_)) (hB2.mono (by have := hB.size; exact this)))
        clear hcells HWK hV
        go_wp2
        go_roundg (l.length - (k + 1))
        case measure => omega
        case rel => exact ⟨k + 1, by omega, rfl, by go_num, by first | exact hB3.out | exact hB3.out.drew⟩
    · clear h1 h2
      go_wp2
      go_ret
      exact ⟨rfl, hB⟩

set_option maxHeartbeats 2000000 in
theorem eqWriteS_same (a1 a2 : Option Addr) (c1 c2 : Nat) (l : List (Int × List Int)) (w : World) (h1 : WView w a1 c1 l) (h2 : WView w a2 c2 l) (hn : l.length ≤ 1048576) (hf : ∀ i (h : i < l.length), (l[i]).2.length ≤ 1048576) :
    Calls Try.prog 27 #[.slice a1 l.length c1, .slice a2 l.length c2] w fun e w' => e = .returned (.bool true) ∧ Below w.heap.size w w' := by
  go_enter Try.func27, Try.ntmps27
  go_wp2
  go_loopg [5] l.length (fun q i wr => ∃ k : Nat, k ≤ l.length ∧ q = l.length - k ∧ i = .int .i64 k ∧ Below w.heap.size w wr)
  case atStart => exact ⟨0, Nat.zero_le _, rfl, rfl, Below.refl _ _⟩
  case round =>
    obtain ⟨k, hk, rfl, rfl, hB⟩ := hrel
    by_cases hlt : k < l.length
    · obtain ⟨b1, o1, a3, c3, rfl, hb1, x0, x1, v1, -⟩ := wview_at (wview_below h1 hB) hlt
      obtain ⟨b2, o2, a4, c4, rfl, hb2, y0, y1, v2, -⟩ := wview_at (wview_below h2 hB) hlt
      have hf1 := hf k hlt
      obtain ⟨p2, hp2⟩ := hidEx (l[k]).1
      rw [hp2.out] at x0 y0
      obtain ⟨p1, hp1⟩ := hidEx (bf (l[k]).2)
      rw [hp1.out] at v1 v2
      obtain ⟨p0, hp0⟩ := hidEx (l[k]).2.length
      rw [hp0.out] at x1 y1 v1 v2 hf1
      have hkz : (k : Int) < (l.length : Int) := by omega
      have hV := fun W (hb : Below wr.heap.size wr W) => eqWrite_same p2 a3 a4 p0 c3 c4 p1 W (v1.below hb) (v2.below hb) (by omega)
      have HWK : Hid (∀ W, Below wr.heap.size wr W → (W.cell? ⟨b1, o1 + k * 2, none⟩ = some (.int .i64 p2) ∧ W.cell? ⟨b1, o1 + k * 2 + 1, none⟩ = some (.slice a3 p0 c3)) ∧ (W.cell? ⟨b2, o2 + k * 2, none⟩ = some (.int .i64 p2) ∧ W.cell? ⟨b2, o2 + k * 2 + 1, none⟩ = some (.slice a4 p0 c4))) := by
        intro W hb
        refine ⟨⟨?_, ?_⟩, ⟨?_, ?_⟩⟩ <;> (rw [hb.cell (by first | exact hb1 | exact hb2)]; assumption)
      clear h1 h2 hf v1 v2
      go_wp2_with fail
      go_region_held3 (fun W => (W.cell? ⟨b1, o1 + k * 2, none⟩ = some (.int .i64 p2) ∧ W.cell? ⟨b1, o1 + k * 2 + 1, none⟩ = some (.slice a3 p0 c3)) ∧ (W.cell? ⟨b2, o2 + k * 2, none⟩ = some (.int .i64 p2) ∧ W.cell? ⟨b2, o2 + k * 2 + 1, none⟩ = some (.slice a4 p0 c4))) (first | assumption | go_keep) (first | (go_at_call 51; refine (hV _ (by repeat (first | exact Below.refl _ _ | refine Below.drew ?_))).mono ?_; rintro e w2 ⟨rfl, hB2⟩; have hcells : (w2.cell? ⟨b1, o1 + k * 2, none⟩ = some (.int .i64 p2) ∧ w2.cell? ⟨b1, o1 + k * 2 + 1, none⟩ = some (.slice a3 p0 c3)) ∧ (w2.cell? ⟨b2, o2 + k * 2, none⟩ = some (.int .i64 p2) ∧ w2.cell? ⟨b2, o2 + k * 2 + 1, none⟩ = some (.slice a4 p0 c4)) := HWK.out _ (Below.trans (by repeat (first | exact Below.refl _ _ | refine Below.drew ?_)) hB2)))
      all_goals
        have hB3 : Hid (Below w.heap.size w w2) := hB.trans (Below.trans (by repeat (first | exact Below.refl _ _ | refine Below.drew ?_)) (hB2.mono (by have := hB.size; exact this)))
        clear hcells HWK hV
        go_wp2
        go_roundg (l.length - (k + 1))
        case measure => omega
        case rel => exact ⟨k + 1, by omega, rfl, by go_num, by first | exact hB3.out | exact hB3.out.drew⟩
    · clear h1 h2
      go_wp2
      go_ret
      exact ⟨rfl, hB⟩

set_option maxHeartbeats 2000000 in
theorem eqDisk_same (u v : Value) (D : PDisk) (w : World) (h1 : KView w u D) (h2 : KView w v D) (hf : KFine D) :
    Calls Try.prog 10 #[u, v] w fun e w' => e = .returned (.bool true) ∧ Below w.heap.size w w' := by
  obtain ⟨sa, sc, ca, cc, fa, fc, rfl, hs1, hc1, hf1⟩ := h1.is
  obtain ⟨ta, tc, da, dc, ga, gc, rfl, hs2, hc2, hf2⟩ := h2.is
  clear h1 h2
  have e1 : (D.ops != D.ops) = false := bne_self_eq_false _
  have e2 : (D.down != D.down) = false := bne_self_eq_false _
  have hB0 : Below (w.heap.size + 1 + 1) ((w.alloc (.cells #[.slice sa D.secs.length sc, .slice ca D.cache.length cc, .int .i64 D.ops, .slice fa D.faults.length fc, .bool D.down] 35)).alloc (.cells #[.slice ta D.secs.length tc, .slice da D.cache.length dc, .int .i64 D.ops, .slice ga D.faults.length gc, .bool D.down] 35)) ((w.alloc (.cells #[.slice sa D.secs.length sc, .slice ca D.cache.length cc, .int .i64 D.ops, .slice fa D.faults.length fc, .bool D.down] 35)).alloc (.cells #[.slice ta D.secs.length tc, .slice da D.cache.length dc, .int .i64 D.ops, .slice ga D.faults.length gc, .bool D.down] 35)) := Below.refl _ _
  obtain ⟨hBw0, -⟩ := box55_below hB0
  have hV1 := eqByteSS_same sa ta sc tc D.secs _ (sview_below hs1 hBw0) (sview_below hs2 hBw0) hf.ns (fun i h => hf.sec _ (List.getElem_mem h))
  go_enter Try.func10, Try.ntmps10
  go_wp2_with fail
  refine hV1.mono ?_
  rintro e w1 ⟨rfl, hb1⟩
  have hB1 := box55_on hB0 hb1
  obtain ⟨hBw1, hs1⟩ := box55_below hB1
  obtain ⟨⟨x0, x1, x2, x3, x4⟩, y0, y1, y2, y3, y4⟩ := box55 hB1
  have hV2 := eqWriteS_same ca da cc dc D.cache w1 (wview_below hc1 hBw1) (wview_below hc2 hBw1) hf.nc (fun i h => hf.cache _ (List.getElem_mem h))
  clear hV1 hb1 hB0 hBw0 hs1 hs2
  go_wp2_with fail
  refine hV2.mono ?_
  rintro e w2 ⟨rfl, hb2⟩
  have hB2 := box55_on hB1 hb2
  obtain ⟨hBw2, hs2⟩ := box55_below hB2
  clear x0 x1 x2 x3 x4 y0 y1 y2 y3 y4
  obtain ⟨⟨x0, x1, x2, x3, x4⟩, y0, y1, y2, y3, y4⟩ := box55 hB2
  have hV3 := eqFaultS_same fa ga fc gc D.faults w2 (fview_below hf1 hBw2) (fview_below hf2 hBw2) hf.nf
  clear hV2 hb2 hB1 hBw1 hc1 hc2
  go_wp2_with fail
  refine hV3.mono ?_
  rintro e w3 ⟨rfl, hb3⟩
  have hB3 := box55_on hB2 hb3
  have HB : Hid (Below w.heap.size w w3) := (box55_below hB3).1
  clear x0 x1 x2 x3 x4 y0 y1 y2 y3 y4
  obtain ⟨⟨x0, x1, x2, x3, x4⟩, y0, y1, y2, y3, y4⟩ := box55 hB3
  clear hV3 hb3 hB2 hBw2 hf1 hf2 hf hB3
  go_wp2
  go_ret
  exact ⟨rfl, HB.out⟩
end Go.Proofs.Ytficmogjpnmfdaa

