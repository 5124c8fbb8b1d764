/-
  Together: SameDisk, OwnW
-/
import Derived.Test.YtdhfbblameiloaaUP17
import Derived.Test.YtdhfbblameiloaaUP1
import Derived.Deep.RegionHeld3
import Derived.Deep.LoopGhost
import Derived.Test.YtdhfbblameiloaaUP5
/-
  The laws' sameDisk, at two disks that are alike (but for their faults).
-/
namespace Go.Proofs.Ytdhfbblameiloaa
open Go.RowKit
set_option maxRecDepth 4000

set_option maxHeartbeats 8000000 in
theorem sameDisk_alike (D : PDisk) (sa ca fa ta da ga : Option Addr) (sc cc fc tc dc gc nf1 nf2 : Nat) (w : World) (hs1 : SView w sa sc D.secs) (hc1 : WView w ca cc D.cache) (hs2 : SView w ta tc D.secs) (hc2 : WView w da dc D.cache) (hf : KFine D) :
    Calls Try.prog 21 #[.agg #[.slice sa D.secs.length sc, .slice ca D.cache.length cc, .int .i64 D.ops, .slice fa nf1 fc, .bool D.down], .agg #[.slice ta D.secs.length tc, .slice da D.cache.length dc, .int .i64 D.ops, .slice ga nf2 gc, .bool D.down]] w fun e w' => e = .returned (.bool true) ∧ Below w.heap.size w w' := by
  have q1 : ((D.secs.length : Int) != (D.secs.length : Int)) = false := bne_self_eq_false _
  have q2 : ((D.cache.length : Int) != (D.cache.length : Int)) = false := bne_self_eq_false _
  have q3 : (D.ops != D.ops) = false := bne_self_eq_false _
  have q4 : (D.down != D.down) = false := bne_self_eq_false _
  have hB0 : Below w.heap.size w ((w.alloc (.cells #[.slice sa D.secs.length sc, .slice ca D.cache.length cc, .int .i64 D.ops, .slice fa nf1 fc, .bool D.down] 32)).alloc (.cells #[.slice ta D.secs.length tc, .slice da D.cache.length dc, .int .i64 D.ops, .slice ga nf2 gc, .bool D.down] 32)) := ((Below.refl _ _).alloc (Nat.le_refl _) _).alloc (by simp) _
  have hA := (VN.new w 32 [.slice sa D.secs.length sc, .slice ca D.cache.length cc, .int .i64 D.ops, .slice fa nf1 fc, .bool D.down]).below ((Below.refl _ _).alloc (Nat.le_refl _) (.cells #[.slice ta D.secs.length tc, .slice da D.cache.length dc, .int .i64 D.ops, .slice ga nf2 gc, .bool D.down] 32))
  have hC := VN.new (w.alloc (.cells #[.slice sa D.secs.length sc, .slice ca D.cache.length cc, .int .i64 D.ops, .slice fa nf1 fc, .bool D.down] 32)) 32 [.slice ta D.secs.length tc, .slice da D.cache.length dc, .int .i64 D.ops, .slice ga nf2 gc, .bool D.down]
  have hz : (w.alloc (.cells #[.slice sa D.secs.length sc, .slice ca D.cache.length cc, .int .i64 D.ops, .slice fa nf1 fc, .bool D.down] 32)).heap.size = w.heap.size + 1 := by simp
  rw [hz] at hC
  obtain ⟨W0, hW0⟩ := hidEx ((w.alloc (.cells #[.slice sa D.secs.length sc, .slice ca D.cache.length cc, .int .i64 D.ops, .slice fa nf1 fc, .bool D.down] 32)).alloc (.cells #[.slice ta D.secs.length tc, .slice da D.cache.length dc, .int .i64 D.ops, .slice ga nf2 gc, .bool D.down] 32))
  replace hA : VN W0 w.heap.size 32 [.slice sa D.secs.length sc, .slice ca D.cache.length cc, .int .i64 D.ops, .slice fa nf1 fc, .bool D.down] := by rw [← hW0.out]; exact hA
  rw [hW0.out] at hB0 hC
  have x0 : W0.cell? ⟨w.heap.size, 0, none⟩ = some (.slice sa D.secs.length sc) := hA.cell 0
  have y0 : W0.cell? ⟨w.heap.size + 1, 0, none⟩ = some (.slice ta D.secs.length tc) := hC.cell 0
  have x1 : W0.cell? ⟨w.heap.size, 1, none⟩ = some (.slice ca D.cache.length cc) := hA.cell 1
  have y1 : W0.cell? ⟨w.heap.size + 1, 1, none⟩ = some (.slice da D.cache.length dc) := hC.cell 1
  have x2 : W0.cell? ⟨w.heap.size, 2, none⟩ = some (.int .i64 D.ops) := hA.cell 2
  have y2 : W0.cell? ⟨w.heap.size + 1, 2, none⟩ = some (.int .i64 D.ops) := hC.cell 2
  have x3 : W0.cell? ⟨w.heap.size, 3, none⟩ = some (.slice fa nf1 fc) := hA.cell 3
  have y3 : W0.cell? ⟨w.heap.size + 1, 3, none⟩ = some (.slice ga nf2 gc) := hC.cell 3
  have x4 : W0.cell? ⟨w.heap.size, 4, none⟩ = some (.bool D.down) := hA.cell 4
  have y4 : W0.cell? ⟨w.heap.size + 1, 4, none⟩ = some (.bool D.down) := hC.cell 4
  clear hz
  have H0 : Hid _ := And.intro hA (And.intro hC hB0)
  have HF : Hid (KFine D) := hf
  clear hA hC hB0 hf
  have HV : Hid (SView w sa sc D.secs ∧ WView w ca cc D.cache ∧ SView w ta tc D.secs ∧ WView w da dc D.cache) := ⟨hs1, hc1, hs2, hc2⟩
  clear hs1 hs2 hc1 hc2
  go_enter Try.func21, Try.ntmps21
  go_wp2_with (rw [hW0.out])
  clear x0 x1 x2 x3 x4 y0 y1 y2 y3 y4 hW0 q1 q2 q3 q4
  go_loopg [5] D.secs.length (fun q i wr => ∃ k : Nat, k ≤ D.secs.length ∧ q = D.secs.length - k ∧ i = .int .i64 k ∧ VN wr w.heap.size 32 [.slice sa D.secs.length sc, .slice ca D.cache.length cc, .int .i64 D.ops, .slice fa nf1 fc, .bool D.down] ∧ VN wr (w.heap.size + 1) 32 [.slice ta D.secs.length tc, .slice da D.cache.length dc, .int .i64 D.ops, .slice ga nf2 gc, .bool D.down] ∧ Below w.heap.size w wr)
  case atStart => exact ⟨0, Nat.zero_le _, rfl, rfl, H0.out⟩
  case round =>
    clear H0
    obtain ⟨k, hk, rfl, rfl, hA, hC, hB⟩ := hrel
    have x0 : wr.cell? ⟨w.heap.size, 0, none⟩ = some (.slice sa D.secs.length sc) := hA.cell 0
    have y0 : wr.cell? ⟨w.heap.size + 1, 0, none⟩ = some (.slice ta D.secs.length tc) := hC.cell 0
    by_cases hlt : k < D.secs.length
    · have hkz : (k : Int) < (D.secs.length : Int) := by omega
      have hns := HF.out.ns
      obtain ⟨b1, o1, a1, c1, rfl, hb1, p1, v1, -⟩ := sview_at (sview_below HV.out.1 hB) hlt
      obtain ⟨b2, o2, a2, c2, rfl, hb2, p2, v2, -⟩ := sview_at (sview_below HV.out.2.2.1 hB) hlt
      have hn1 : (D.secs[k]).length ≤ 1048576 := HF.out.sec _ (List.getElem_mem hlt)
      obtain ⟨fb, hfb⟩ := hidEx (bf (D.secs[k]))
      obtain ⟨n1, hn1e⟩ := hidEx (D.secs[k]).length
      rw [hfb.out, hn1e.out] at v1 v2
      rw [hn1e.out] at p1 p2 hn1
      clear hfb hn1e
      have hsv := fun W (hW : Below wr.heap.size wr W) => sameBytes_any a1 a2 n1 n1 c1 c2 fb fb W (v1.below hW) (v2.below hW) (by omega) (by omega)
      simp only [decide_true] at hsv
      clear v1 v2 hn1
      go_wp2_with fail
      clear x0 y0
      replace hA := hA.below (Below.refl _ _).drew
      replace hC := hC.below (Below.refl _ _).drew
      have hS0 : (wr.drew.cell? ⟨w.heap.size, 0, none⟩ = some (.slice (some ⟨b1, o1, none⟩) D.secs.length sc) ∧ wr.drew.cell? ⟨w.heap.size + 1, 0, none⟩ = some (.slice (some ⟨b2, o2, none⟩) D.secs.length tc)) ∧ wr.drew.cell? ⟨b1, o1 + k, none⟩ = some (.slice a1 n1 c1) ∧ wr.drew.cell? ⟨b2, o2 + k, none⟩ = some (.slice a2 n1 c2) := ⟨⟨hA.cell 0, hC.cell 0⟩, p1, p2⟩
      refine wp_region_held_drew (S := fun W => (W.cell? ⟨w.heap.size, 0, none⟩ = some (.slice (some ⟨b1, o1, none⟩) D.secs.length sc) ∧ W.cell? ⟨w.heap.size + 1, 0, none⟩ = some (.slice (some ⟨b2, o2, none⟩) D.secs.length tc)) ∧ W.cell? ⟨b1, o1 + k, none⟩ = some (.slice a1 n1 c1) ∧ W.cell? ⟨b2, o2 + k, none⟩ = some (.slice a2 n1 c2)) (by kernel_rfl) hS0 (fun hHeld => ?_)
      have hbd : Below wr.heap.size wr wr.drew := (Below.refl _ _).drew
      obtain ⟨wd, hwd⟩ := hidEx wr.drew
      rw [hwd.out] at hHeld hA hC hbd ⊢
      clear hwd hS0
      refine' wpAnyH_take (i := 0) (v := _) rfl (by kernel_rfl) (by kernel_rfl) (by kernel_rfl) (fun _ _ _ h => h) (Or.inl ⟨by kernel_rfl, ?hsd1⟩) (by assumption) ?rsd1
      case hsd1 => intro W hW; obtain ⟨⟨c0, c1⟩, d0, d1⟩ := hW; go_simp; all_goals with_reducible rfl
      change wpAnyH _ _ _ _ _ _ _ (Act.put _ (some 44) _) _
      simp only [Act.put, List.setIfInBounds_toArray, List.set_cons_zero, List.set_cons_succ]
      refine' wpAnyH_take (i := 1) (v := _) rfl (by kernel_rfl) (by kernel_rfl) (by kernel_rfl) (fun _ _ _ h => h) (Or.inl ⟨by kernel_rfl, ?hsd2⟩) (by assumption) ?rsd2
      case hsd2 => intro W hW; obtain ⟨⟨c0, c1⟩, d0, d1⟩ := hW; go_simp; all_goals with_reducible rfl
      change wpAnyH _ _ _ _ _ _ _ (Act.put _ (some 45) _) _
      simp only [Act.put, List.setIfInBounds_toArray, List.set_cons_zero, List.set_cons_succ]
      refine' wpAnyH_take (i := 2) (v := _) rfl (by kernel_rfl) (by kernel_rfl) (by kernel_rfl) (fun _ _ _ h => h) (Or.inl ⟨by kernel_rfl, ?hsd3⟩) (by assumption) ?rsd3
      case hsd3 => intro W hW; obtain ⟨⟨c0, c1⟩, d0, d1⟩ := hW; go_simp; all_goals with_reducible rfl
      change wpAnyH _ _ _ _ _ _ _ (Act.put _ (some 46) _) _
      simp only [Act.put, List.setIfInBounds_toArray, List.set_cons_zero, List.set_cons_succ]
      refine' wpAnyH_take (i := 3) (v := _) rfl (by kernel_rfl) (by kernel_rfl) (by kernel_rfl) (fun _ _ _ h => h) (Or.inl ⟨by kernel_rfl, ?hsd4⟩) (by assumption) ?rsd4
      case hsd4 => intro W hW; obtain ⟨⟨c0, c1⟩, d0, d1⟩ := hW; go_simp; all_goals with_reducible rfl
      change wpAnyH _ _ _ _ _ _ _ (Act.put _ (some 47) _) _
      simp only [Act.put, List.setIfInBounds_toArray, List.set_cons_zero, List.set_cons_succ]
      refine' wpAnyH_take (i := 4) (v := _) rfl (by kernel_rfl) (by kernel_rfl) (by kernel_rfl) (fun _ _ _ h => h) (Or.inl ⟨by kernel_rfl, ?hsd5⟩) (by assumption) ?rsd5
      case hsd5 => intro W hW; obtain ⟨⟨c0, c1⟩, d0, d1⟩ := hW; go_simp; all_goals with_reducible rfl
      change wpAnyH _ _ _ _ _ _ _ (Act.put _ (some 48) _) _
      simp only [Act.put, List.setIfInBounds_toArray, List.set_cons_zero, List.set_cons_succ]
      refine' wpAnyH_take (i := 5) (v := _) rfl (by kernel_rfl) (by kernel_rfl) (by kernel_rfl) (fun _ _ _ h => h) (Or.inl ⟨by kernel_rfl, ?hsd6⟩) (by assumption) ?rsd6
      case hsd6 => intro W hW; obtain ⟨⟨c0, c1⟩, d0, d1⟩ := hW; go_simp; all_goals with_reducible rfl
      change wpAnyH _ _ _ _ _ _ _ (Act.put _ (some 49) _) _
      simp only [Act.put, List.setIfInBounds_toArray, List.set_cons_zero, List.set_cons_succ]
      refine' wpAnyH_take (i := 6) (v := _) rfl (by kernel_rfl) (by kernel_rfl) (by kernel_rfl) (fun _ _ _ h => h) (Or.inl ⟨by kernel_rfl, ?hsd7⟩) (by assumption) ?rsd7
      case hsd7 => intro W hW; obtain ⟨⟨c0, c1⟩, d0, d1⟩ := hW; go_simp; all_goals with_reducible rfl
      change wpAnyH _ _ _ _ _ _ _ (Act.put _ (some 50) _) _
      simp only [Act.put, List.setIfInBounds_toArray, List.set_cons_zero, List.set_cons_succ]
      refine' wpAnyH_take (i := 7) (v := _) rfl (by kernel_rfl) (by kernel_rfl) (by kernel_rfl) (fun _ _ _ h => h) (Or.inl ⟨by kernel_rfl, ?hsd8⟩) (by assumption) ?rsd8
      case hsd8 => intro W hW; obtain ⟨⟨c0, c1⟩, d0, d1⟩ := hW; go_simp; all_goals with_reducible rfl
      change wpAnyH _ _ _ _ _ _ _ (Act.put _ (some 51) _) _
      simp only [Act.put, List.setIfInBounds_toArray, List.set_cons_zero, List.set_cons_succ]
      refine' wpAnyH_take (i := 8) (v := _) rfl (by kernel_rfl) (by kernel_rfl) (by kernel_rfl) (fun _ _ _ h => h) (Or.inl ⟨by kernel_rfl, ?hsd9⟩) (by assumption) ?rsd9
      case hsd9 => intro W hW; obtain ⟨⟨c0, c1⟩, d0, d1⟩ := hW; go_simp; all_goals with_reducible rfl
      change wpAnyH _ _ _ _ _ _ _ (Act.put _ (some 52) _) _
      simp only [Act.put, List.setIfInBounds_toArray, List.set_cons_zero, List.set_cons_succ]
      refine' wpAnyH_take (i := 9) (v := _) rfl (by kernel_rfl) (by kernel_rfl) (by kernel_rfl) (fun _ _ _ h => h) (Or.inl ⟨by kernel_rfl, ?hsd10⟩) (by assumption) ?rsd10
      case hsd10 => intro W hW; obtain ⟨⟨c0, c1⟩, d0, d1⟩ := hW; go_simp; all_goals with_reducible rfl
      change wpAnyH _ _ _ _ _ _ _ (Act.put _ (some 53) _) _
      simp only [Act.put, List.setIfInBounds_toArray, List.set_cons_zero, List.set_cons_succ]
      refine wpAnyH_ready (rs := [10]) (by kernel_rfl) (by simp) ?_
      refine AllReadyH.cons rfl (fun KK hK => ?_) AllReadyH.nil
      go_simp
      refine (hsv wd hbd).mono ?_
      rintro e w2 ⟨rfl, hb2x⟩
      replace hA := hA.below hb2x
      replace hC := hC.below hb2x
      have hBw : Below w.heap.size w w2 := (hB.trans (hbd.mono hB.size)).trans (hb2x.mono (by have := hB.size; have := hbd.size; omega))
      have hS2 : (w2.cell? ⟨w.heap.size, 0, none⟩ = some (.slice (some ⟨b1, o1, none⟩) D.secs.length sc) ∧ w2.cell? ⟨w.heap.size + 1, 0, none⟩ = some (.slice (some ⟨b2, o2, none⟩) D.secs.length tc)) ∧ w2.cell? ⟨b1, o1 + k, none⟩ = some (.slice a1 n1 c1) ∧ w2.cell? ⟨b2, o2 + k, none⟩ = some (.slice a2 n1 c2) := ⟨⟨hA.cell 0, hC.cell 0⟩, by rw [hb2x.cell (by have := hbd.size; simp; omega), hbd.cell (by simpa using hb1)]; exact p1, by rw [hb2x.cell (by have := hbd.size; simp; omega), hbd.cell (by simpa using hb2)]; exact p2⟩
      clear hsv hb2x hbd hB hHeld p1 p2
      go_wp2_with fail
      refine hK.out _ _ hS2 (fun hHeld => ?_)
      clear hK KK
      try simp only [Act.put, List.setIfInBounds_toArray, List.set_cons_zero, List.set_cons_succ]
      refine' wpAnyH_take (i := 11) (v := _) rfl (by kernel_rfl) (by kernel_rfl) (by kernel_rfl) (fun _ _ _ h => h) (Or.inl ⟨by kernel_rfl, ?hsd11⟩) (by assumption) ?rsd11
      case hsd11 => intro W hW; obtain ⟨⟨c0, c1⟩, d0, d1⟩ := hW; go_simp; all_goals with_reducible rfl
      change wpAnyH _ _ _ _ _ _ _ (Act.put _ (some 55) _) _
      simp only [Act.put, List.setIfInBounds_toArray, List.set_cons_zero, List.set_cons_succ]
      refine wpAnyH_done (by kernel_rfl) ?_ _
      have H2 : Hid _ := And.intro hA (And.intro hC hBw)
      clear hA hC hBw hS2 hHeld
      go_wp2
      go_roundg (D.secs.length - (k + 1))
      case measure => omega
      case rel => exact ⟨k + 1, by omega, rfl, by go_num, H2.out⟩
    · obtain rfl : k = D.secs.length := by omega
      have hkz : ¬ (D.secs.length : Int) < (D.secs.length : Int) := by omega
      have H0 : Hid _ := And.intro hA (And.intro hC hB)
      clear hA hC hB hlt hk
      go_wp2
      clear x0 y0 hkz
      go_loopg [6] D.cache.length (fun q i wr => ∃ k : Nat, k ≤ D.cache.length ∧ q = D.cache.length - k ∧ i = .int .i64 k ∧ VN wr w.heap.size 32 [.slice sa D.secs.length sc, .slice ca D.cache.length cc, .int .i64 D.ops, .slice fa nf1 fc, .bool D.down] ∧ VN wr (w.heap.size + 1) 32 [.slice ta D.secs.length tc, .slice da D.cache.length dc, .int .i64 D.ops, .slice ga nf2 gc, .bool D.down] ∧ Below w.heap.size w wr)
      case atStart => exact ⟨0, Nat.zero_le _, rfl, rfl, H0.out⟩
      case round =>
        clear H0
        obtain ⟨k, hk, rfl, rfl, hA, hC, hB⟩ := hrel
        have x1 : wr.cell? ⟨w.heap.size, 1, none⟩ = some (.slice ca D.cache.length cc) := hA.cell 1
        have y1 : wr.cell? ⟨w.heap.size + 1, 1, none⟩ = some (.slice da D.cache.length dc) := hC.cell 1
        by_cases hlt : k < D.cache.length
        · have hkz : (k : Int) < (D.cache.length : Int) := by omega
          have hns := HF.out.nc
          obtain ⟨b1, o1, a1, c1, rfl, hb1, p1, r1, v1, -⟩ := wview_at (wview_below HV.out.2.1 hB) hlt
          obtain ⟨b2, o2, a2, c2, rfl, hb2, p2, r2, v2, -⟩ := wview_at (wview_below HV.out.2.2.2 hB) hlt
          have hn1 : (D.cache[k]).2.length ≤ 1048576 := HF.out.cache _ (List.getElem_mem hlt)
          obtain ⟨fb, hfb⟩ := hidEx (bf (D.cache[k]).2)
          obtain ⟨n1, hn1e⟩ := hidEx (D.cache[k]).2.length
          obtain ⟨p0, hp0e⟩ := hidEx (D.cache[k]).1
          rw [hfb.out, hn1e.out] at v1 v2
          rw [hn1e.out] at r1 r2 hn1
          rw [hp0e.out] at p1 p2
          clear hfb hn1e hp0e
          have hq0 : (p0 != p0) = false := bne_self_eq_false _
          have hsv := fun W (hW : Below wr.heap.size wr W) => sameBytes_any a1 a2 n1 n1 c1 c2 fb fb W (v1.below hW) (v2.below hW) (by omega) (by omega)
          simp only [decide_true] at hsv
          clear v1 v2 hn1
          go_wp2_with fail
          clear x1 y1
          replace hA := hA.below (Below.refl _ _).drew
          replace hC := hC.below (Below.refl _ _).drew
          have hS0 : (wr.drew.cell? ⟨w.heap.size, 1, none⟩ = some (.slice (some ⟨b1, o1, none⟩) D.cache.length cc) ∧ wr.drew.cell? ⟨w.heap.size + 1, 1, none⟩ = some (.slice (some ⟨b2, o2, none⟩) D.cache.length dc)) ∧ (wr.drew.cell? ⟨b1, o1 + k * 2, none⟩ = some (.int .i64 p0) ∧ wr.drew.cell? ⟨b1, o1 + k * 2 + 1, none⟩ = some (.slice a1 n1 c1)) ∧ wr.drew.cell? ⟨b2, o2 + k * 2, none⟩ = some (.int .i64 p0) ∧ wr.drew.cell? ⟨b2, o2 + k * 2 + 1, none⟩ = some (.slice a2 n1 c2) := ⟨⟨hA.cell 1, hC.cell 1⟩, ⟨p1, r1⟩, p2, r2⟩
          refine wp_region_held_drew (S := fun W => (W.cell? ⟨w.heap.size, 1, none⟩ = some (.slice (some ⟨b1, o1, none⟩) D.cache.length cc) ∧ W.cell? ⟨w.heap.size + 1, 1, none⟩ = some (.slice (some ⟨b2, o2, none⟩) D.cache.length dc)) ∧ (W.cell? ⟨b1, o1 + k * 2, none⟩ = some (.int .i64 p0) ∧ W.cell? ⟨b1, o1 + k * 2 + 1, none⟩ = some (.slice a1 n1 c1)) ∧ W.cell? ⟨b2, o2 + k * 2, none⟩ = some (.int .i64 p0) ∧ W.cell? ⟨b2, o2 + k * 2 + 1, none⟩ = some (.slice a2 n1 c2)) (by kernel_rfl) hS0 (fun hHeld => ?_)
          have hbd : Below wr.heap.size wr wr.drew := (Below.refl _ _).drew
          obtain ⟨wd, hwd⟩ := hidEx wr.drew
          rw [hwd.out] at hHeld hA hC hbd ⊢
          clear hwd hS0
          refine' wpAnyH_take (i := 0) (v := _) rfl (by kernel_rfl) (by kernel_rfl) (by kernel_rfl) (fun _ _ _ h => h) (Or.inl ⟨by kernel_rfl, ?hse1⟩) (by assumption) ?rse1
          case hse1 => intro W hW; obtain ⟨⟨c0, c1⟩, ⟨d0, d1⟩, e0, e1⟩ := hW; go_simp; all_goals with_reducible rfl
          change wpAnyH _ _ _ _ _ _ _ (Act.put _ (some 63) _) _
          simp only [Act.put, List.setIfInBounds_toArray, List.set_cons_zero, List.set_cons_succ]
          refine' wpAnyH_take (i := 1) (v := _) rfl (by kernel_rfl) (by kernel_rfl) (by kernel_rfl) (fun _ _ _ h => h) (Or.inl ⟨by kernel_rfl, ?hse2⟩) (by assumption) ?rse2
          case hse2 => intro W hW; obtain ⟨⟨c0, c1⟩, ⟨d0, d1⟩, e0, e1⟩ := hW; go_simp; all_goals with_reducible rfl
          change wpAnyH _ _ _ _ _ _ _ (Act.put _ (some 64) _) _
          simp only [Act.put, List.setIfInBounds_toArray, List.set_cons_zero, List.set_cons_succ]
          refine' wpAnyH_take (i := 2) (v := _) rfl (by kernel_rfl) (by kernel_rfl) (by kernel_rfl) (fun _ _ _ h => h) (Or.inl ⟨by kernel_rfl, ?hse3⟩) (by assumption) ?rse3
          case hse3 => intro W hW; obtain ⟨⟨c0, c1⟩, ⟨d0, d1⟩, e0, e1⟩ := hW; go_simp; all_goals with_reducible rfl
          change wpAnyH _ _ _ _ _ _ _ (Act.put _ (some 65) _) _
          simp only [Act.put, List.setIfInBounds_toArray, List.set_cons_zero, List.set_cons_succ]
          refine' wpAnyH_take (i := 3) (v := _) rfl (by kernel_rfl) (by kernel_rfl) (by kernel_rfl) (fun _ _ _ h => h) (Or.inl ⟨by kernel_rfl, ?hse4⟩) (by assumption) ?rse4
          case hse4 => intro W hW; obtain ⟨⟨c0, c1⟩, ⟨d0, d1⟩, e0, e1⟩ := hW; go_simp; all_goals with_reducible rfl
          change wpAnyH _ _ _ _ _ _ _ (Act.put _ (some 66) _) _
          simp only [Act.put, List.setIfInBounds_toArray, List.set_cons_zero, List.set_cons_succ]
          refine' wpAnyH_take (i := 4) (v := _) rfl (by kernel_rfl) (by kernel_rfl) (by kernel_rfl) (fun _ _ _ h => h) (Or.inl ⟨by kernel_rfl, ?hse5⟩) (by assumption) ?rse5
          case hse5 => intro W hW; obtain ⟨⟨c0, c1⟩, ⟨d0, d1⟩, e0, e1⟩ := hW; go_simp; all_goals with_reducible rfl
          change wpAnyH _ _ _ _ _ _ _ (Act.put _ (some 67) _) _
          simp only [Act.put, List.setIfInBounds_toArray, List.set_cons_zero, List.set_cons_succ]
          refine' wpAnyH_take (i := 5) (v := _) rfl (by kernel_rfl) (by kernel_rfl) (by kernel_rfl) (fun _ _ _ h => h) (Or.inl ⟨by kernel_rfl, ?hse6⟩) (by assumption) ?rse6
          case hse6 => intro W hW; obtain ⟨⟨c0, c1⟩, ⟨d0, d1⟩, e0, e1⟩ := hW; go_simp; all_goals with_reducible rfl
          change wpAnyH _ _ _ _ _ _ _ (Act.put _ (some 68) _) _
          simp only [Act.put, List.setIfInBounds_toArray, List.set_cons_zero, List.set_cons_succ]
          refine' wpAnyH_take (i := 6) (v := _) rfl (by kernel_rfl) (by kernel_rfl) (by kernel_rfl) (fun _ _ _ h => h) (Or.inl ⟨by kernel_rfl, ?hse7⟩) (by assumption) ?rse7
          case hse7 => intro W hW; obtain ⟨⟨c0, c1⟩, ⟨d0, d1⟩, e0, e1⟩ := hW; go_simp; all_goals with_reducible rfl
          change wpAnyH _ _ _ _ _ _ _ (Act.put _ (some 69) _) _
          simp only [Act.put, List.setIfInBounds_toArray, List.set_cons_zero, List.set_cons_succ]
          refine' wpAnyH_take (i := 7) (v := _) rfl (by kernel_rfl) (by kernel_rfl) (by kernel_rfl) (fun _ _ _ h => h) (Or.inl ⟨by kernel_rfl, ?hse8⟩) (by assumption) ?rse8
          case hse8 => intro W hW; obtain ⟨⟨c0, c1⟩, ⟨d0, d1⟩, e0, e1⟩ := hW; go_simp; all_goals with_reducible rfl
          change wpAnyH _ _ _ _ _ _ _ (Act.put _ (some 70) _) _
          simp only [Act.put, List.setIfInBounds_toArray, List.set_cons_zero, List.set_cons_succ]
          refine' wpAnyH_take (i := 8) (v := _) rfl (by kernel_rfl) (by kernel_rfl) (by kernel_rfl) (fun _ _ _ h => h) (Or.inl ⟨by kernel_rfl, ?hse9⟩) (by assumption) ?rse9
          case hse9 => intro W hW; obtain ⟨⟨c0, c1⟩, ⟨d0, d1⟩, e0, e1⟩ := hW; go_simp; all_goals with_reducible rfl
          change wpAnyH _ _ _ _ _ _ _ (Act.put _ (some 71) _) _
          simp only [Act.put, List.setIfInBounds_toArray, List.set_cons_zero, List.set_cons_succ]
          refine' wpAnyH_take (i := 9) (v := _) rfl (by kernel_rfl) (by kernel_rfl) (by kernel_rfl) (fun _ _ _ h => h) (Or.inl ⟨by kernel_rfl, ?hse10⟩) (by assumption) ?rse10
          case hse10 => intro W hW; obtain ⟨⟨c0, c1⟩, ⟨d0, d1⟩, e0, e1⟩ := hW; go_simp; all_goals with_reducible rfl
          change wpAnyH _ _ _ _ _ _ _ (Act.put _ (some 72) _) _
          simp only [Act.put, List.setIfInBounds_toArray, List.set_cons_zero, List.set_cons_succ]
          refine' wpAnyH_take (i := 10) (v := _) rfl (by kernel_rfl) (by kernel_rfl) (by kernel_rfl) (fun _ _ _ h => h) (Or.inl ⟨by kernel_rfl, ?hse11⟩) (by assumption) ?rse11
          case hse11 => intro W hW; obtain ⟨⟨c0, c1⟩, ⟨d0, d1⟩, e0, e1⟩ := hW; go_simp; all_goals with_reducible rfl
          change wpAnyH _ _ _ _ _ _ _ (Act.put _ (some 73) _) _
          simp only [Act.put, List.setIfInBounds_toArray, List.set_cons_zero, List.set_cons_succ]
          refine' wpAnyH_take (i := 11) (v := _) rfl (by kernel_rfl) (by kernel_rfl) (by kernel_rfl) (fun _ _ _ h => h) (Or.inl ⟨by kernel_rfl, ?hse12⟩) (by assumption) ?rse12
          case hse12 => intro W hW; obtain ⟨⟨c0, c1⟩, ⟨d0, d1⟩, e0, e1⟩ := hW; go_simp; all_goals with_reducible rfl
          change wpAnyH _ _ _ _ _ _ _ (Act.put _ (some 74) _) _
          simp only [Act.put, List.setIfInBounds_toArray, List.set_cons_zero, List.set_cons_succ]
          refine' wpAnyH_take (i := 12) (v := _) rfl (by kernel_rfl) (by kernel_rfl) (by kernel_rfl) (fun _ _ _ h => h) (Or.inl ⟨by kernel_rfl, ?hse13⟩) (by assumption) ?rse13
          case hse13 => intro W hW; obtain ⟨⟨c0, c1⟩, ⟨d0, d1⟩, e0, e1⟩ := hW; go_simp; all_goals with_reducible rfl
          change wpAnyH _ _ _ _ _ _ _ (Act.put _ (some 75) _) _
          simp only [Act.put, List.setIfInBounds_toArray, List.set_cons_zero, List.set_cons_succ]
          refine' wpAnyH_take (i := 13) (v := _) rfl (by kernel_rfl) (by kernel_rfl) (by kernel_rfl) (fun _ _ _ h => h) (Or.inl ⟨by kernel_rfl, ?hse14⟩) (by assumption) ?rse14
          case hse14 => intro W hW; obtain ⟨⟨c0, c1⟩, ⟨d0, d1⟩, e0, e1⟩ := hW; go_simp; all_goals with_reducible rfl
          change wpAnyH _ _ _ _ _ _ _ (Act.put _ (some 76) _) _
          simp only [Act.put, List.setIfInBounds_toArray, List.set_cons_zero, List.set_cons_succ]
          refine' wpAnyH_take (i := 14) (v := _) rfl (by kernel_rfl) (by kernel_rfl) (by kernel_rfl) (fun _ _ _ h => h) (Or.inl ⟨by kernel_rfl, ?hse15⟩) (by assumption) ?rse15
          case hse15 => intro W hW; obtain ⟨⟨c0, c1⟩, ⟨d0, d1⟩, e0, e1⟩ := hW; go_simp; all_goals with_reducible rfl
          change wpAnyH _ _ _ _ _ _ _ (Act.put _ (some 77) _) _
          simp only [Act.put, List.setIfInBounds_toArray, List.set_cons_zero, List.set_cons_succ]
          refine' wpAnyH_take (i := 15) (v := _) rfl (by kernel_rfl) (by kernel_rfl) (by kernel_rfl) (fun _ _ _ h => h) (Or.inl ⟨by kernel_rfl, ?hse16⟩) (by assumption) ?rse16
          case hse16 => intro W hW; obtain ⟨⟨c0, c1⟩, ⟨d0, d1⟩, e0, e1⟩ := hW; go_simp; all_goals with_reducible rfl
          change wpAnyH _ _ _ _ _ _ _ (Act.put _ (some 78) _) _
          simp only [Act.put, List.setIfInBounds_toArray, List.set_cons_zero, List.set_cons_succ]
          refine' wpAnyH_take (i := 16) (v := _) rfl (by kernel_rfl) (by kernel_rfl) (by kernel_rfl) (fun _ _ _ h => h) (Or.inl ⟨by kernel_rfl, ?hse17⟩) (by assumption) ?rse17
          case hse17 => intro W hW; obtain ⟨⟨c0, c1⟩, ⟨d0, d1⟩, e0, e1⟩ := hW; go_simp; all_goals with_reducible rfl
          change wpAnyH _ _ _ _ _ _ _ (Act.put _ (some 79) _) _
          simp only [Act.put, List.setIfInBounds_toArray, List.set_cons_zero, List.set_cons_succ]
          refine' wpAnyH_take (i := 17) (v := _) rfl (by kernel_rfl) (by kernel_rfl) (by kernel_rfl) (fun _ _ _ h => h) (Or.inl ⟨by kernel_rfl, ?hse18⟩) (by assumption) ?rse18
          case hse18 => intro W hW; obtain ⟨⟨c0, c1⟩, ⟨d0, d1⟩, e0, e1⟩ := hW; go_simp; all_goals with_reducible rfl
          change wpAnyH _ _ _ _ _ _ _ (Act.put _ (some 80) _) _
          simp only [Act.put, List.setIfInBounds_toArray, List.set_cons_zero, List.set_cons_succ]
          refine' wpAnyH_take (i := 18) (v := _) rfl (by kernel_rfl) (by kernel_rfl) (by kernel_rfl) (fun _ _ _ h => h) (Or.inl ⟨by kernel_rfl, ?hse19⟩) (by assumption) ?rse19
          case hse19 => intro W hW; obtain ⟨⟨c0, c1⟩, ⟨d0, d1⟩, e0, e1⟩ := hW; go_simp; all_goals with_reducible rfl
          change wpAnyH _ _ _ _ _ _ _ (Act.put _ (some 81) _) _
          simp only [Act.put, List.setIfInBounds_toArray, List.set_cons_zero, List.set_cons_succ]
          refine' wpAnyH_take (i := 19) (v := _) rfl (by kernel_rfl) (by kernel_rfl) (by kernel_rfl) (fun _ _ _ h => h) (Or.inl ⟨by kernel_rfl, ?hse20⟩) (by assumption) ?rse20
          case hse20 => intro W hW; obtain ⟨⟨c0, c1⟩, ⟨d0, d1⟩, e0, e1⟩ := hW; go_simp; all_goals with_reducible rfl
          change wpAnyH _ _ _ _ _ _ _ (Act.put _ (some 82) _) _
          simp only [Act.put, List.setIfInBounds_toArray, List.set_cons_zero, List.set_cons_succ]
          refine' wpAnyH_take (i := 20) (v := _) rfl (by kernel_rfl) (by kernel_rfl) (by kernel_rfl) (fun _ _ _ h => h) (Or.inl ⟨by kernel_rfl, ?hse21⟩) (by assumption) ?rse21
          case hse21 => intro W hW; obtain ⟨⟨c0, c1⟩, ⟨d0, d1⟩, e0, e1⟩ := hW; go_simp; all_goals with_reducible rfl
          change wpAnyH _ _ _ _ _ _ _ (Act.put _ (some 83) _) _
          simp only [Act.put, List.setIfInBounds_toArray, List.set_cons_zero, List.set_cons_succ]
          refine' wpAnyH_take (i := 21) (v := _) rfl (by kernel_rfl) (by kernel_rfl) (by kernel_rfl) (fun _ _ _ h => h) (Or.inl ⟨by kernel_rfl, ?hse22⟩) (by assumption) ?rse22
          case hse22 => intro W hW; obtain ⟨⟨c0, c1⟩, ⟨d0, d1⟩, e0, e1⟩ := hW; go_simp; all_goals with_reducible rfl
          change wpAnyH _ _ _ _ _ _ _ (Act.put _ (some 84) _) _
          simp only [Act.put, List.setIfInBounds_toArray, List.set_cons_zero, List.set_cons_succ]
          refine' wpAnyH_take (i := 22) (v := _) rfl (by kernel_rfl) (by kernel_rfl) (by kernel_rfl) (fun _ _ _ h => h) (Or.inl ⟨by kernel_rfl, ?hse23⟩) (by assumption) ?rse23
          case hse23 => intro W hW; obtain ⟨⟨c0, c1⟩, ⟨d0, d1⟩, e0, e1⟩ := hW; go_simp; all_goals with_reducible rfl
          change wpAnyH _ _ _ _ _ _ _ (Act.put _ (some 85) _) _
          simp only [Act.put, List.setIfInBounds_toArray, List.set_cons_zero, List.set_cons_succ]
          refine' wpAnyH_take (i := 23) (v := _) rfl (by kernel_rfl) (by kernel_rfl) (by kernel_rfl) (fun _ _ _ h => h) (Or.inl ⟨by kernel_rfl, ?hse24⟩) (by assumption) ?rse24
          case hse24 => intro W hW; obtain ⟨⟨c0, c1⟩, ⟨d0, d1⟩, e0, e1⟩ := hW; go_simp; all_goals with_reducible rfl
          change wpAnyH _ _ _ _ _ _ _ (Act.put _ (some 86) _) _
          simp only [Act.put, List.setIfInBounds_toArray, List.set_cons_zero, List.set_cons_succ]
          refine' wpAnyH_take (i := 24) (v := _) rfl (by kernel_rfl) (by kernel_rfl) (by kernel_rfl) (fun _ _ _ h => h) (Or.inl ⟨by kernel_rfl, ?hse25⟩) (by assumption) ?rse25
          case hse25 => intro W hW; obtain ⟨⟨c0, c1⟩, ⟨d0, d1⟩, e0, e1⟩ := hW; go_simp; all_goals with_reducible rfl
          change wpAnyH _ _ _ _ _ _ _ (Act.put _ (some 87) _) _
          simp only [Act.put, List.setIfInBounds_toArray, List.set_cons_zero, List.set_cons_succ]
          refine' wpAnyH_take (i := 25) (v := _) rfl (by kernel_rfl) (by kernel_rfl) (by kernel_rfl) (fun _ _ _ h => h) (Or.inl ⟨by kernel_rfl, ?hse26⟩) (by assumption) ?rse26
          case hse26 => intro W hW; obtain ⟨⟨c0, c1⟩, ⟨d0, d1⟩, e0, e1⟩ := hW; go_simp; all_goals with_reducible rfl
          change wpAnyH _ _ _ _ _ _ _ (Act.put _ (some 88) _) _
          simp only [Act.put, List.setIfInBounds_toArray, List.set_cons_zero, List.set_cons_succ]
          refine wpAnyH_ready (rs := [26]) (by kernel_rfl) (by simp) ?_
          refine AllReadyH.cons rfl (fun KK hK => ?_) AllReadyH.nil
          go_simp
          refine (hsv wd hbd).mono ?_
          rintro e w2 ⟨rfl, hb2x⟩
          replace hA := hA.below hb2x
          replace hC := hC.below hb2x
          have hBw : Below w.heap.size w w2 := (hB.trans (hbd.mono hB.size)).trans (hb2x.mono (by have := hB.size; have := hbd.size; omega))
          have hcl : ∀ (b i : Nat) (u : Value), b < wr.heap.size → wr.cell? ⟨b, i, none⟩ = some u → w2.cell? ⟨b, i, none⟩ = some u := fun b i u h h2 => by rw [hb2x.cell (by have := hbd.size; simp; omega), hbd.cell (by simpa using h)]; exact h2
          have hS2 : (w2.cell? ⟨w.heap.size, 1, none⟩ = some (.slice (some ⟨b1, o1, none⟩) D.cache.length cc) ∧ w2.cell? ⟨w.heap.size + 1, 1, none⟩ = some (.slice (some ⟨b2, o2, none⟩) D.cache.length dc)) ∧ (w2.cell? ⟨b1, o1 + k * 2, none⟩ = some (.int .i64 p0) ∧ w2.cell? ⟨b1, o1 + k * 2 + 1, none⟩ = some (.slice a1 n1 c1)) ∧ w2.cell? ⟨b2, o2 + k * 2, none⟩ = some (.int .i64 p0) ∧ w2.cell? ⟨b2, o2 + k * 2 + 1, none⟩ = some (.slice a2 n1 c2) := ⟨⟨hA.cell 1, hC.cell 1⟩, ⟨hcl _ _ _ hb1 p1, hcl _ _ _ hb1 r1⟩, hcl _ _ _ hb2 p2, hcl _ _ _ hb2 r2⟩
          clear hsv hb2x hbd hB hHeld p1 p2 r1 r2 hcl
          go_wp2_with fail
          refine hK.out _ _ hS2 (fun hHeld => ?_)
          clear hK KK
          try simp only [Act.put, List.setIfInBounds_toArray, List.set_cons_zero, List.set_cons_succ]
          refine' wpAnyH_take (i := 27) (v := _) rfl (by kernel_rfl) (by kernel_rfl) (by kernel_rfl) (fun _ _ _ h => h) (Or.inl ⟨by kernel_rfl, ?hse27⟩) (by assumption) ?rse27
          case hse27 => intro W hW; obtain ⟨⟨c0, c1⟩, ⟨d0, d1⟩, e0, e1⟩ := hW; go_simp; all_goals with_reducible rfl
          change wpAnyH _ _ _ _ _ _ _ (Act.put _ (some 90) _) _
          simp only [Act.put, List.setIfInBounds_toArray, List.set_cons_zero, List.set_cons_succ]
          refine' wpAnyH_take (i := 28) (v := _) rfl (by kernel_rfl) (by kernel_rfl) (by kernel_rfl) (fun _ _ _ h => h) (Or.inl ⟨by kernel_rfl, ?hse28⟩) (by assumption) ?rse28
          case hse28 => intro W hW; obtain ⟨⟨c0, c1⟩, ⟨d0, d1⟩, e0, e1⟩ := hW; go_simp; all_goals with_reducible rfl
          change wpAnyH _ _ _ _ _ _ _ (Act.put _ (some 91) _) _
          simp only [Act.put, List.setIfInBounds_toArray, List.set_cons_zero, List.set_cons_succ]
          refine wpAnyH_done (by kernel_rfl) ?_ _
          have H2 : Hid _ := And.intro hA (And.intro hC hBw)
          clear hA hC hBw hS2 hHeld
          go_wp2
          go_roundg (D.cache.length - (k + 1))
          case measure => omega
          case rel => exact ⟨k + 1, by omega, rfl, by go_num, H2.out⟩
        · obtain rfl : k = D.cache.length := by omega
          have hkz : ¬ (D.cache.length : Int) < (D.cache.length : Int) := by omega
          have H0 : Hid _ := hB
          clear hA hC hB hlt hk
          go_wp2
          go_ret
          exact ⟨rfl, H0.out⟩
end Go.Proofs.Ytdhfbblameiloaa

/-
  A disk of the call's own whose cache alone may grow in place.
-/
namespace Go.Proofs.Ytdhfbblameiloaa
open Go.RowKit
set_option maxRecDepth 4000

def KOW (w : World) (B : Nat) (v : Value) (D : PDisk) : Prop := ∃ sa sc ca cc fa fc ss cs, v = dval D sa sc ca cc fa fc ∧ KO w B sa sc ca cc fa fc ss cs D ∧ w.ownsRow B 51 2 (.slice ca D.cache.length cc) D.cache.length (wcells D.cache cs)
theorem KOW.own {w : World} {B : Nat} {v : Value} {D : PDisk} (h : KOW w B v D) : KOwn w B v D := by
  obtain ⟨sa, sc, ca, cc, fa, fc, ss, cs, e, hk, -⟩ := h
  exact ⟨sa, sc, ca, cc, fa, fc, ss, cs, e, hk⟩
end Go.Proofs.Ytdhfbblameiloaa

