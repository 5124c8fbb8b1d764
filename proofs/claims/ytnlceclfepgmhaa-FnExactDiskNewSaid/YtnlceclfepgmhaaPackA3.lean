/-
  Together: DiskOkSpec, DiskOkImpl, LawDiskOk, DiskIn
-/
import Derived.Test.YtnlceclfepgmhaaDiskFaults
import Derived.Test.YtnlceclfepgmhaaPackA2
import Derived.Test.YtnlceclfepgmhaaPackA1
import Derived.Deep.LoopGhost
import Derived.Deep.RegionHeld3
import Derived.Deep.Strs
import Derived.ChangeSame
import Derived.Lib.SmallJoins
/-
  The model's DiskOk.
-/
namespace Go.Proofs.Ytnlceclfepgmhaa
open Go.RowKit
set_option maxRecDepth 4000

set_option maxHeartbeats 4000000 in
theorem specDiskOk_any (v : Value) (D : PDisk) (w : World) (h : KView w v D) (hf : KFine D) :
    Calls Try.prog 20 #[v] w (Says w (OkD D)) := by
  obtain ⟨sa, sc, ca, cc, fa, fc, rfl, hs, hc, hfv⟩ := h.is
  clear h
  have hB0 := box5_start w (.cells #[.slice sa D.secs.length sc, .slice ca D.cache.length cc, .int .i64 D.ops, .slice fa D.faults.length fc, .bool D.down] 28)
  have hns := hf.ns
  have hcl := hf.nc
  have HH : Hid (SView w sa sc D.secs ∧ WView w ca cc D.cache ∧ FView w fa fc D.faults ∧ KFine D) := ⟨hs, hc, hfv, hf⟩
  clear hs hc hfv hf
  go_enter Try.func20, Try.ntmps20
  go_wp2
  go_loopg [3] D.secs.length (fun q i wr => ∃ k : Nat, k ≤ D.secs.length ∧ q = D.secs.length - k ∧ i = .int .i64 k ∧ Below (w.heap.size + 1) (w.alloc (.cells #[.slice sa D.secs.length sc, .slice ca D.cache.length cc, .int .i64 D.ops, .slice fa D.faults.length fc, .bool D.down] 28)) wr ∧ Hid (∀ i (h : i < D.secs.length), i < k → (D.secs[i]).length ≤ 256))
  case atStart => exact ⟨0, Nat.zero_le _, rfl, rfl, hB0, fun i _ hi => absurd hi (Nat.not_lt_zero _)⟩
  case round =>
    clear hB0
    obtain ⟨k, hk, rfl, rfl, hB5, HA⟩ := hrel
    obtain ⟨hB, -⟩ := box5_below hB5
    by_cases hlt : k < D.secs.length
    · obtain ⟨b1, o1, a', c', esa, hb1, x0, -, -⟩ := sview_at (sview_below HH.out.1 hB) hlt
      obtain ⟨y0, y1, y2, y3, y4⟩ := box5 hB5
      subst esa
      have hkz : (k : Int) < (D.secs.length : Int) := by omega
      have HN : Hid ((D.secs[k]).length ≤ 256 → ∀ i (h : i < D.secs.length), i < k + 1 → (D.secs[i]).length ≤ 256) := by
        intro hp i h hi
        by_cases e : i < k
        · exact HA.out i h e
        · obtain rfl : i = k := by omega
          exact hp
      have HNO : Hid (¬ (D.secs[k]).length ≤ 256 → ¬ OkD D) := fun h1 h2 => h1 (h2.1.2.2 k hlt)
      clear HA
      obtain ⟨p0, hp0⟩ := hidEx (D.secs[k]).length
      rw [hp0.out] at x0 HN HNO
      by_cases hp : p0 ≤ 256
      · have hp2 : ¬ (256 : Int) < p0 := by omega
        have HN2 : Hid (∀ i (h : i < D.secs.length), i < k + 1 → (D.secs[i]).length ≤ 256) := HN.out hp
        clear HN HNO
        go_wp2
        go_roundg (D.secs.length - (k + 1))
        case measure => omega
        case rel => exact ⟨k + 1, by omega, rfl, by go_num, hB5, HN2⟩
      · have hp2 : (256 : Int) < p0 := by omega
        have HN2 : Hid (¬ OkD D) := HNO.out hp
        clear HN HNO
        go_wp2
        go_ret
        exact Says.no HN2.out hB
    · have hkz : ¬ (k : Int) < (D.secs.length : Int) := by omega
      obtain ⟨y0, y1, y2, y3, y4⟩ := box5 hB5
      have HSH : Hid (Short D.secs) := fun i h => HA.out i h (by omega)
      clear HA
      go_wp2
      clear y0 y1 y2 y3 y4
      go_loopg [4] D.cache.length (fun q i wr => ∃ k : Nat, k ≤ D.cache.length ∧ q = D.cache.length - k ∧ i = .int .i64 k ∧ Below (w.heap.size + 1) (w.alloc (.cells #[.slice sa D.secs.length sc, .slice ca D.cache.length cc, .int .i64 D.ops, .slice fa D.faults.length fc, .bool D.down] 28)) wr ∧ Hid (∀ i (h : i < D.cache.length), i < k → 0 ≤ (D.cache[i]).1 ∧ (D.cache[i]).1 < D.secs.length ∧ (D.cache[i]).2.length ≤ 256))
      case atStart => exact ⟨0, Nat.zero_le _, rfl, rfl, hB5, fun i _ hi => absurd hi (Nat.not_lt_zero _)⟩
      case round =>
        clear hB5
        obtain ⟨k, hk, rfl, rfl, hB5, HA⟩ := hrel
        obtain ⟨hB, -⟩ := box5_below hB5
        by_cases hlt : k < D.cache.length
        · obtain ⟨b1, o1, a3, c3, esa, hb1, x0, x1, -, -⟩ := wview_at (wview_below HH.out.2.1 hB) hlt
          obtain ⟨y0, y1, -, -, -⟩ := box5 hB5
          subst esa
          have hkz : (k : Int) < (D.cache.length : Int) := by omega
          have HN : Hid ((0 ≤ (D.cache[k]).1 ∧ (D.cache[k]).1 < D.secs.length ∧ (D.cache[k]).2.length ≤ 256) → ∀ i (h : i < D.cache.length), i < k + 1 → 0 ≤ (D.cache[i]).1 ∧ (D.cache[i]).1 < D.secs.length ∧ (D.cache[i]).2.length ≤ 256) := by
            intro hp i h hi
            by_cases e : i < k
            · exact HA.out i h e
            · obtain rfl : i = k := by omega
              exact hp
          have HNO : Hid (¬ (0 ≤ (D.cache[k]).1 ∧ (D.cache[k]).1 < D.secs.length ∧ (D.cache[k]).2.length ≤ 256) → ¬ CacheOk D.secs.length D.cache) := fun h1 h2 => h1 (h2.2 k hlt)
          clear HA
          obtain ⟨p0, hp0⟩ := hidEx (D.cache[k]).2.length
          obtain ⟨p1, hp1⟩ := hidEx (D.cache[k]).1
          rw [hp0.out] at x1 HN HNO
          rw [hp1.out] at x0 HN HNO
          have hbD5 := hB5.drew
          have hbD : Below w.heap.size w wr.drew := hB.drew
          have hs1 : IntKind.i64.wrap ((D.secs.length : Int) - 1) = (D.secs.length : Int) - 1 := by rw [IntKind.wrap_i64]; omega
          clear hp0 hp1 hB hB5
          by_cases h1 : 0 ≤ p1 ∧ p1 < D.secs.length
          case neg =>
            have HN2 : Hid (¬ CacheOk D.secs.length D.cache) := HNO.out (fun h => h1 ⟨h.1, h.2.1⟩)
            have hV0 := fun W => l1In_no p1 0 ((D.secs.length : Int) - 1) W (by omega)
            clear HN HNO HH HSH
            have hS : (fun W : World => (W.cell? ⟨w.heap.size, 0, none⟩ = some (.slice sa D.secs.length sc) ∧ W.cell? ⟨w.heap.size, 1, none⟩ = some (.slice (some ⟨b1, o1, none⟩) D.cache.length cc)) ∧ W.cell? ⟨b1, o1 + k * 2, none⟩ = some (.int .i64 p1) ∧ W.cell? ⟨b1, o1 + k * 2 + 1, none⟩ = some (.slice a3 p0 c3)) wr.drew := ⟨⟨y0, y1⟩, x0, x1⟩
            go_wp2_with fail
            refine wp_region_held_drew (S := fun W => (W.cell? ⟨w.heap.size, 0, none⟩ = some (.slice sa D.secs.length sc) ∧ W.cell? ⟨w.heap.size, 1, none⟩ = some (.slice (some ⟨b1, o1, none⟩) D.cache.length cc)) ∧ W.cell? ⟨b1, o1 + k * 2, none⟩ = some (.int .i64 p1) ∧ W.cell? ⟨b1, o1 + k * 2 + 1, none⟩ = some (.slice a3 p0 c3)) (by kernel_rfl) hS (fun hHeld => ?_)
            refine' wpAnyH_take (i := 0) (v := _) rfl (by kernel_rfl) (by kernel_rfl) (by kernel_rfl) (fun _ _ _ h => h) (Or.inl ⟨by kernel_rfl, ?hga1⟩) (by assumption) ?rga1
            case hga1 => intro W hW; obtain ⟨⟨e0, e1⟩, c0, c1⟩ := hW; go_simp; all_goals with_reducible rfl
            change wpAnyH _ _ _ _ _ _ _ (Act.put _ (some 26) _) _
            simp only [Act.put, List.setIfInBounds_toArray, List.set_cons_zero, List.set_cons_succ]
            refine' wpAnyH_take (i := 1) (v := _) rfl (by kernel_rfl) (by kernel_rfl) (by kernel_rfl) (fun _ _ _ h => h) (Or.inl ⟨by kernel_rfl, ?hga2⟩) (by assumption) ?rga2
            case hga2 => intro W hW; obtain ⟨⟨e0, e1⟩, c0, c1⟩ := hW; go_simp; all_goals with_reducible rfl
            change wpAnyH _ _ _ _ _ _ _ (Act.put _ (some 27) _) _
            simp only [Act.put, List.setIfInBounds_toArray, List.set_cons_zero, List.set_cons_succ]
            refine' wpAnyH_take (i := 2) (v := _) rfl (by kernel_rfl) (by kernel_rfl) (by kernel_rfl) (fun _ _ _ h => h) (Or.inl ⟨by kernel_rfl, ?hga3⟩) (by assumption) ?rga3
            case hga3 => intro W hW; obtain ⟨⟨e0, e1⟩, c0, c1⟩ := hW; go_simp; all_goals with_reducible rfl
            change wpAnyH _ _ _ _ _ _ _ (Act.put _ (some 28) _) _
            simp only [Act.put, List.setIfInBounds_toArray, List.set_cons_zero, List.set_cons_succ]
            refine' wpAnyH_take (i := 3) (v := _) rfl (by kernel_rfl) (by kernel_rfl) (by kernel_rfl) (fun _ _ _ h => h) (Or.inl ⟨by kernel_rfl, ?hga4⟩) (by assumption) ?rga4
            case hga4 => intro W hW; obtain ⟨⟨e0, e1⟩, c0, c1⟩ := hW; go_simp; all_goals with_reducible rfl
            change wpAnyH _ _ _ _ _ _ _ (Act.put _ (some 29) _) _
            simp only [Act.put, List.setIfInBounds_toArray, List.set_cons_zero, List.set_cons_succ]
            refine' wpAnyH_take (i := 4) (v := _) rfl (by kernel_rfl) (by kernel_rfl) (by kernel_rfl) (fun _ _ _ h => h) (Or.inl ⟨by kernel_rfl, ?hga5⟩) (by assumption) ?rga5
            case hga5 => intro W hW; obtain ⟨⟨e0, e1⟩, c0, c1⟩ := hW; go_simp; all_goals with_reducible rfl
            change wpAnyH _ _ _ _ _ _ _ (Act.put _ (some 30) _) _
            simp only [Act.put, List.setIfInBounds_toArray, List.set_cons_zero, List.set_cons_succ]
            refine' wpAnyH_take (i := 5) (v := _) rfl (by kernel_rfl) (by kernel_rfl) (by kernel_rfl) (fun _ _ _ h => h) (Or.inl ⟨by kernel_rfl, ?hga6⟩) (by assumption) ?rga6
            case hga6 => intro W hW; obtain ⟨⟨e0, e1⟩, c0, c1⟩ := hW; go_simp; all_goals with_reducible rfl
            change wpAnyH _ _ _ _ _ _ _ (Act.put _ (some 31) _) _
            simp only [Act.put, List.setIfInBounds_toArray, List.set_cons_zero, List.set_cons_succ]
            refine' wpAnyH_take (i := 6) (v := _) rfl (by kernel_rfl) (by kernel_rfl) (by kernel_rfl) (fun _ _ _ h => h) (Or.inl ⟨by kernel_rfl, ?hga7⟩) (by assumption) ?rga7
            case hga7 => intro W hW; obtain ⟨⟨e0, e1⟩, c0, c1⟩ := hW; go_simp; all_goals with_reducible rfl
            change wpAnyH _ _ _ _ _ _ _ (Act.put _ (some 32) _) _
            simp only [Act.put, List.setIfInBounds_toArray, List.set_cons_zero, List.set_cons_succ]
            refine' wpAnyH_take (i := 7) (v := _) rfl (by kernel_rfl) (by kernel_rfl) (by kernel_rfl) (fun _ _ _ h => h) (Or.inl ⟨by kernel_rfl, ?hga8⟩) (by assumption) ?rga8
            case hga8 => intro W hW; obtain ⟨⟨e0, e1⟩, c0, c1⟩ := hW; go_simp; all_goals with_reducible rfl
            change wpAnyH _ _ _ _ _ _ _ (Act.put _ (some 33) _) _
            simp only [Act.put, List.setIfInBounds_toArray, List.set_cons_zero, List.set_cons_succ]
            refine' wpAnyH_take (i := 8) (v := _) rfl (by kernel_rfl) (by kernel_rfl) (by kernel_rfl) (fun _ _ _ h => h) (Or.inl ⟨by kernel_rfl, ?hga9⟩) (by assumption) ?rga9
            case hga9 => intro W hW; obtain ⟨⟨e0, e1⟩, c0, c1⟩ := hW; go_simp; all_goals with_reducible rfl
            change wpAnyH _ _ _ _ _ _ _ (Act.put _ (some 34) _) _
            simp only [Act.put, List.setIfInBounds_toArray, List.set_cons_zero, List.set_cons_succ]
            refine' wpAnyH_take (i := 9) (v := _) rfl (by kernel_rfl) (by kernel_rfl) (by kernel_rfl) (fun _ _ _ h => h) (Or.inl ⟨by kernel_rfl, ?hga10⟩) (by assumption) ?rga10
            case hga10 => intro W hW; obtain ⟨⟨e0, e1⟩, c0, c1⟩ := hW; go_simp; all_goals with_reducible rfl
            change wpAnyH _ _ _ _ _ _ _ (Act.put _ (some 35) _) _
            simp only [Act.put, List.setIfInBounds_toArray, List.set_cons_zero, List.set_cons_succ]
            refine wpAnyH_ready (rs := [10]) (by kernel_rfl) (by simp) ?_
            refine AllReadyH.cons rfl (fun KK hK => ?_) AllReadyH.nil
            go_simp
            refine (hV0 _).mono ?_
            rintro e w5 ⟨rfl, rfl⟩
            go_wp2_with fail
            refine hK.out _ _ hS (fun hHeld => ?_)
            clear hK KK
            try simp only [Act.put, List.setIfInBounds_toArray, List.set_cons_zero, List.set_cons_succ]
            refine' wpAnyH_take (i := 11) (v := _) rfl (by kernel_rfl) (by kernel_rfl) (by kernel_rfl) (fun _ _ _ h => h) (Or.inl ⟨by kernel_rfl, ?hga11⟩) (by assumption) ?rga11
            case hga11 => intro W hW; obtain ⟨⟨e0, e1⟩, c0, c1⟩ := hW; go_simp; all_goals with_reducible rfl
            change wpAnyH _ _ _ _ _ _ _ (Act.put _ (some 37) _) _
            simp only [Act.put, List.setIfInBounds_toArray, List.set_cons_zero, List.set_cons_succ]
            refine' wpAnyH_take (i := 12) (v := _) rfl (by kernel_rfl) (by kernel_rfl) (by kernel_rfl) (fun _ _ _ h => h) (Or.inl ⟨by kernel_rfl, ?hga12⟩) (by assumption) ?rga12
            case hga12 => intro W hW; obtain ⟨⟨e0, e1⟩, c0, c1⟩ := hW; go_simp; all_goals with_reducible rfl
            change wpAnyH _ _ _ _ _ _ _ (Act.put _ (some 38) _) _
            simp only [Act.put, List.setIfInBounds_toArray, List.set_cons_zero, List.set_cons_succ]
            refine wpAnyH_take (i := 13) (v := undef) rfl (by kernel_rfl) (by kernel_rfl) (by kernel_rfl) (fun _ _ _ h => h) (Or.inr ⟨by kernel_rfl, rfl⟩) (by assumption) ?_
            change wpAnyH _ _ _ _ _ _ _ (Act.put _ (some 39) _) _
            simp only [Act.put, List.setIfInBounds_toArray, List.set_cons_zero, List.set_cons_succ]
            refine wpAnyH_take (i := 14) (v := undef) rfl (by kernel_rfl) (by kernel_rfl) (by kernel_rfl) (fun _ _ _ h => h) (Or.inr ⟨by kernel_rfl, rfl⟩) (by assumption) ?_
            change wpAnyH _ _ _ _ _ _ _ (Act.put _ (some 40) _) _
            simp only [Act.put, List.setIfInBounds_toArray, List.set_cons_zero, List.set_cons_succ]
            refine wpAnyH_take (i := 15) (v := undef) rfl (by kernel_rfl) (by kernel_rfl) (by kernel_rfl) (fun _ _ _ h => h) (Or.inr ⟨by kernel_rfl, rfl⟩) (by assumption) ?_
            change wpAnyH _ _ _ _ _ _ _ (Act.put _ (some 41) _) _
            simp only [Act.put, List.setIfInBounds_toArray, List.set_cons_zero, List.set_cons_succ]
            refine wpAnyH_take (i := 16) (v := undef) rfl (by kernel_rfl) (by kernel_rfl) (by kernel_rfl) (fun _ _ _ h => h) (Or.inr ⟨by kernel_rfl, rfl⟩) (by assumption) ?_
            change wpAnyH _ _ _ _ _ _ _ (Act.put _ (some 42) _) _
            simp only [Act.put, List.setIfInBounds_toArray, List.set_cons_zero, List.set_cons_succ]
            refine wpAnyH_take (i := 17) (v := undef) rfl (by kernel_rfl) (by kernel_rfl) (by kernel_rfl) (fun _ _ _ h => h) (Or.inr ⟨by kernel_rfl, rfl⟩) (by assumption) ?_
            change wpAnyH _ _ _ _ _ _ _ (Act.put _ (some 43) _) _
            simp only [Act.put, List.setIfInBounds_toArray, List.set_cons_zero, List.set_cons_succ]
            refine wpAnyH_take (i := 18) (v := undef) rfl (by kernel_rfl) (by kernel_rfl) (by kernel_rfl) (fun _ _ _ h => h) (Or.inr ⟨by kernel_rfl, rfl⟩) (by assumption) ?_
            change wpAnyH _ _ _ _ _ _ _ (Act.put _ (some 44) _) _
            simp only [Act.put, List.setIfInBounds_toArray, List.set_cons_zero, List.set_cons_succ]
            refine wpAnyH_take (i := 19) (v := undef) rfl (by kernel_rfl) (by kernel_rfl) (by kernel_rfl) (fun _ _ _ h => h) (Or.inr ⟨by kernel_rfl, rfl⟩) (by assumption) ?_
            change wpAnyH _ _ _ _ _ _ _ (Act.put _ (some 45) _) _
            simp only [Act.put, List.setIfInBounds_toArray, List.set_cons_zero, List.set_cons_succ]
            refine wpAnyH_take (i := 20) (v := undef) rfl (by kernel_rfl) (by kernel_rfl) (by kernel_rfl) (fun _ _ _ h => h) (Or.inr ⟨by kernel_rfl, rfl⟩) (by assumption) ?_
            change wpAnyH _ _ _ _ _ _ _ (Act.put _ (some 46) _) _
            simp only [Act.put, List.setIfInBounds_toArray, List.set_cons_zero, List.set_cons_succ]
            refine' wpAnyH_take (i := 21) (v := _) rfl (by kernel_rfl) (by kernel_rfl) (by kernel_rfl) (fun _ _ _ h => h) (Or.inl ⟨by kernel_rfl, ?hga21⟩) (by assumption) ?rga21
            case hga21 => intro W hW; obtain ⟨⟨e0, e1⟩, c0, c1⟩ := hW; go_simp; all_goals with_reducible rfl
            change wpAnyH _ _ _ _ _ _ _ (Act.put _ (some 47) _) _
            simp only [Act.put, List.setIfInBounds_toArray, List.set_cons_zero, List.set_cons_succ]
            refine wpAnyH_done (by kernel_rfl) ?_ _
            clear hHeld hS
            go_wp2
            go_ret
            exact Says.no (fun h => HN2.out h.2.1) hbD

          have hV0 := fun W => l1In_yes p1 0 ((D.secs.length : Int) - 1) W h1.1 (by omega)
          have hS : (fun W : World => (W.cell? ⟨w.heap.size, 0, none⟩ = some (.slice sa D.secs.length sc) ∧ W.cell? ⟨w.heap.size, 1, none⟩ = some (.slice (some ⟨b1, o1, none⟩) D.cache.length cc)) ∧ W.cell? ⟨b1, o1 + k * 2, none⟩ = some (.int .i64 p1) ∧ W.cell? ⟨b1, o1 + k * 2 + 1, none⟩ = some (.slice a3 p0 c3)) wr.drew := ⟨⟨y0, y1⟩, x0, x1⟩
          go_wp2_with fail
          refine wp_region_held_drew (S := fun W => (W.cell? ⟨w.heap.size, 0, none⟩ = some (.slice sa D.secs.length sc) ∧ W.cell? ⟨w.heap.size, 1, none⟩ = some (.slice (some ⟨b1, o1, none⟩) D.cache.length cc)) ∧ W.cell? ⟨b1, o1 + k * 2, none⟩ = some (.int .i64 p1) ∧ W.cell? ⟨b1, o1 + k * 2 + 1, none⟩ = some (.slice a3 p0 c3)) (by kernel_rfl) hS (fun hHeld => ?_)
          refine' wpAnyH_take (i := 0) (v := _) rfl (by kernel_rfl) (by kernel_rfl) (by kernel_rfl) (fun _ _ _ h => h) (Or.inl ⟨by kernel_rfl, ?hgb1⟩) (by assumption) ?rgb1
          case hgb1 => intro W hW; obtain ⟨⟨e0, e1⟩, c0, c1⟩ := hW; go_simp; all_goals with_reducible rfl
          change wpAnyH _ _ _ _ _ _ _ (Act.put _ (some 26) _) _
          simp only [Act.put, List.setIfInBounds_toArray, List.set_cons_zero, List.set_cons_succ]
          refine' wpAnyH_take (i := 1) (v := _) rfl (by kernel_rfl) (by kernel_rfl) (by kernel_rfl) (fun _ _ _ h => h) (Or.inl ⟨by kernel_rfl, ?hgb2⟩) (by assumption) ?rgb2
          case hgb2 => intro W hW; obtain ⟨⟨e0, e1⟩, c0, c1⟩ := hW; go_simp; all_goals with_reducible rfl
          change wpAnyH _ _ _ _ _ _ _ (Act.put _ (some 27) _) _
          simp only [Act.put, List.setIfInBounds_toArray, List.set_cons_zero, List.set_cons_succ]
          refine' wpAnyH_take (i := 2) (v := _) rfl (by kernel_rfl) (by kernel_rfl) (by kernel_rfl) (fun _ _ _ h => h) (Or.inl ⟨by kernel_rfl, ?hgb3⟩) (by assumption) ?rgb3
          case hgb3 => intro W hW; obtain ⟨⟨e0, e1⟩, c0, c1⟩ := hW; go_simp; all_goals with_reducible rfl
          change wpAnyH _ _ _ _ _ _ _ (Act.put _ (some 28) _) _
          simp only [Act.put, List.setIfInBounds_toArray, List.set_cons_zero, List.set_cons_succ]
          refine' wpAnyH_take (i := 3) (v := _) rfl (by kernel_rfl) (by kernel_rfl) (by kernel_rfl) (fun _ _ _ h => h) (Or.inl ⟨by kernel_rfl, ?hgb4⟩) (by assumption) ?rgb4
          case hgb4 => intro W hW; obtain ⟨⟨e0, e1⟩, c0, c1⟩ := hW; go_simp; all_goals with_reducible rfl
          change wpAnyH _ _ _ _ _ _ _ (Act.put _ (some 29) _) _
          simp only [Act.put, List.setIfInBounds_toArray, List.set_cons_zero, List.set_cons_succ]
          refine' wpAnyH_take (i := 4) (v := _) rfl (by kernel_rfl) (by kernel_rfl) (by kernel_rfl) (fun _ _ _ h => h) (Or.inl ⟨by kernel_rfl, ?hgb5⟩) (by assumption) ?rgb5
          case hgb5 => intro W hW; obtain ⟨⟨e0, e1⟩, c0, c1⟩ := hW; go_simp; all_goals with_reducible rfl
          change wpAnyH _ _ _ _ _ _ _ (Act.put _ (some 30) _) _
          simp only [Act.put, List.setIfInBounds_toArray, List.set_cons_zero, List.set_cons_succ]
          refine' wpAnyH_take (i := 5) (v := _) rfl (by kernel_rfl) (by kernel_rfl) (by kernel_rfl) (fun _ _ _ h => h) (Or.inl ⟨by kernel_rfl, ?hgb6⟩) (by assumption) ?rgb6
          case hgb6 => intro W hW; obtain ⟨⟨e0, e1⟩, c0, c1⟩ := hW; go_simp; all_goals with_reducible rfl
          change wpAnyH _ _ _ _ _ _ _ (Act.put _ (some 31) _) _
          simp only [Act.put, List.setIfInBounds_toArray, List.set_cons_zero, List.set_cons_succ]
          refine' wpAnyH_take (i := 6) (v := _) rfl (by kernel_rfl) (by kernel_rfl) (by kernel_rfl) (fun _ _ _ h => h) (Or.inl ⟨by kernel_rfl, ?hgb7⟩) (by assumption) ?rgb7
          case hgb7 => intro W hW; obtain ⟨⟨e0, e1⟩, c0, c1⟩ := hW; go_simp; all_goals with_reducible rfl
          change wpAnyH _ _ _ _ _ _ _ (Act.put _ (some 32) _) _
          simp only [Act.put, List.setIfInBounds_toArray, List.set_cons_zero, List.set_cons_succ]
          refine' wpAnyH_take (i := 7) (v := _) rfl (by kernel_rfl) (by kernel_rfl) (by kernel_rfl) (fun _ _ _ h => h) (Or.inl ⟨by kernel_rfl, ?hgb8⟩) (by assumption) ?rgb8
          case hgb8 => intro W hW; obtain ⟨⟨e0, e1⟩, c0, c1⟩ := hW; go_simp; all_goals with_reducible rfl
          change wpAnyH _ _ _ _ _ _ _ (Act.put _ (some 33) _) _
          simp only [Act.put, List.setIfInBounds_toArray, List.set_cons_zero, List.set_cons_succ]
          refine' wpAnyH_take (i := 8) (v := _) rfl (by kernel_rfl) (by kernel_rfl) (by kernel_rfl) (fun _ _ _ h => h) (Or.inl ⟨by kernel_rfl, ?hgb9⟩) (by assumption) ?rgb9
          case hgb9 => intro W hW; obtain ⟨⟨e0, e1⟩, c0, c1⟩ := hW; go_simp; all_goals with_reducible rfl
          change wpAnyH _ _ _ _ _ _ _ (Act.put _ (some 34) _) _
          simp only [Act.put, List.setIfInBounds_toArray, List.set_cons_zero, List.set_cons_succ]
          refine' wpAnyH_take (i := 9) (v := _) rfl (by kernel_rfl) (by kernel_rfl) (by kernel_rfl) (fun _ _ _ h => h) (Or.inl ⟨by kernel_rfl, ?hgb10⟩) (by assumption) ?rgb10
          case hgb10 => intro W hW; obtain ⟨⟨e0, e1⟩, c0, c1⟩ := hW; go_simp; all_goals with_reducible rfl
          change wpAnyH _ _ _ _ _ _ _ (Act.put _ (some 35) _) _
          simp only [Act.put, List.setIfInBounds_toArray, List.set_cons_zero, List.set_cons_succ]
          refine wpAnyH_ready (rs := [10]) (by kernel_rfl) (by simp) ?_
          refine AllReadyH.cons rfl (fun KK hK => ?_) AllReadyH.nil
          go_simp
          refine (hV0 _).mono ?_
          rintro e w5 ⟨rfl, rfl⟩
          go_wp2_with fail
          refine hK.out _ _ hS (fun hHeld => ?_)
          clear hK KK
          try simp only [Act.put, List.setIfInBounds_toArray, List.set_cons_zero, List.set_cons_succ]
          refine' wpAnyH_take (i := 11) (v := _) rfl (by kernel_rfl) (by kernel_rfl) (by kernel_rfl) (fun _ _ _ h => h) (Or.inl ⟨by kernel_rfl, ?hgb11⟩) (by assumption) ?rgb11
          case hgb11 => intro W hW; obtain ⟨⟨e0, e1⟩, c0, c1⟩ := hW; go_simp; all_goals with_reducible rfl
          change wpAnyH _ _ _ _ _ _ _ (Act.put _ (some 37) _) _
          simp only [Act.put, List.setIfInBounds_toArray, List.set_cons_zero, List.set_cons_succ]
          refine' wpAnyH_take (i := 12) (v := _) rfl (by kernel_rfl) (by kernel_rfl) (by kernel_rfl) (fun _ _ _ h => h) (Or.inl ⟨by kernel_rfl, ?hgb12⟩) (by assumption) ?rgb12
          case hgb12 => intro W hW; obtain ⟨⟨e0, e1⟩, c0, c1⟩ := hW; go_simp; all_goals with_reducible rfl
          change wpAnyH _ _ _ _ _ _ _ (Act.put _ (some 38) _) _
          simp only [Act.put, List.setIfInBounds_toArray, List.set_cons_zero, List.set_cons_succ]
          refine' wpAnyH_take (i := 13) (v := _) rfl (by kernel_rfl) (by kernel_rfl) (by kernel_rfl) (fun _ _ _ h => h) (Or.inl ⟨by kernel_rfl, ?hgb13⟩) (by assumption) ?rgb13
          case hgb13 => intro W hW; obtain ⟨⟨e0, e1⟩, c0, c1⟩ := hW; go_simp; all_goals with_reducible rfl
          change wpAnyH _ _ _ _ _ _ _ (Act.put _ (some 39) _) _
          simp only [Act.put, List.setIfInBounds_toArray, List.set_cons_zero, List.set_cons_succ]
          refine' wpAnyH_take (i := 14) (v := _) rfl (by kernel_rfl) (by kernel_rfl) (by kernel_rfl) (fun _ _ _ h => h) (Or.inl ⟨by kernel_rfl, ?hgb14⟩) (by assumption) ?rgb14
          case hgb14 => intro W hW; obtain ⟨⟨e0, e1⟩, c0, c1⟩ := hW; go_simp; all_goals with_reducible rfl
          change wpAnyH _ _ _ _ _ _ _ (Act.put _ (some 40) _) _
          simp only [Act.put, List.setIfInBounds_toArray, List.set_cons_zero, List.set_cons_succ]
          refine' wpAnyH_take (i := 15) (v := _) rfl (by kernel_rfl) (by kernel_rfl) (by kernel_rfl) (fun _ _ _ h => h) (Or.inl ⟨by kernel_rfl, ?hgb15⟩) (by assumption) ?rgb15
          case hgb15 => intro W hW; obtain ⟨⟨e0, e1⟩, c0, c1⟩ := hW; go_simp; all_goals with_reducible rfl
          change wpAnyH _ _ _ _ _ _ _ (Act.put _ (some 41) _) _
          simp only [Act.put, List.setIfInBounds_toArray, List.set_cons_zero, List.set_cons_succ]
          refine' wpAnyH_take (i := 16) (v := _) rfl (by kernel_rfl) (by kernel_rfl) (by kernel_rfl) (fun _ _ _ h => h) (Or.inl ⟨by kernel_rfl, ?hgb16⟩) (by assumption) ?rgb16
          case hgb16 => intro W hW; obtain ⟨⟨e0, e1⟩, c0, c1⟩ := hW; go_simp; all_goals with_reducible rfl
          change wpAnyH _ _ _ _ _ _ _ (Act.put _ (some 42) _) _
          simp only [Act.put, List.setIfInBounds_toArray, List.set_cons_zero, List.set_cons_succ]
          refine' wpAnyH_take (i := 17) (v := _) rfl (by kernel_rfl) (by kernel_rfl) (by kernel_rfl) (fun _ _ _ h => h) (Or.inl ⟨by kernel_rfl, ?hgb17⟩) (by assumption) ?rgb17
          case hgb17 => intro W hW; obtain ⟨⟨e0, e1⟩, c0, c1⟩ := hW; go_simp; all_goals with_reducible rfl
          change wpAnyH _ _ _ _ _ _ _ (Act.put _ (some 43) _) _
          simp only [Act.put, List.setIfInBounds_toArray, List.set_cons_zero, List.set_cons_succ]
          refine' wpAnyH_take (i := 18) (v := _) rfl (by kernel_rfl) (by kernel_rfl) (by kernel_rfl) (fun _ _ _ h => h) (Or.inl ⟨by kernel_rfl, ?hgb18⟩) (by assumption) ?rgb18
          case hgb18 => intro W hW; obtain ⟨⟨e0, e1⟩, c0, c1⟩ := hW; go_simp; all_goals with_reducible rfl
          change wpAnyH _ _ _ _ _ _ _ (Act.put _ (some 44) _) _
          simp only [Act.put, List.setIfInBounds_toArray, List.set_cons_zero, List.set_cons_succ]
          refine' wpAnyH_take (i := 19) (v := _) rfl (by kernel_rfl) (by kernel_rfl) (by kernel_rfl) (fun _ _ _ h => h) (Or.inl ⟨by kernel_rfl, ?hgb19⟩) (by assumption) ?rgb19
          case hgb19 => intro W hW; obtain ⟨⟨e0, e1⟩, c0, c1⟩ := hW; go_simp; all_goals with_reducible rfl
          change wpAnyH _ _ _ _ _ _ _ (Act.put _ (some 45) _) _
          simp only [Act.put, List.setIfInBounds_toArray, List.set_cons_zero, List.set_cons_succ]
          refine' wpAnyH_take (i := 20) (v := _) rfl (by kernel_rfl) (by kernel_rfl) (by kernel_rfl) (fun _ _ _ h => h) (Or.inl ⟨by kernel_rfl, ?hgb20⟩) (by assumption) ?rgb20
          case hgb20 => intro W hW; obtain ⟨⟨e0, e1⟩, c0, c1⟩ := hW; go_simp; all_goals with_reducible rfl
          change wpAnyH _ _ _ _ _ _ _ (Act.put _ (some 46) _) _
          simp only [Act.put, List.setIfInBounds_toArray, List.set_cons_zero, List.set_cons_succ]
          refine' wpAnyH_take (i := 21) (v := _) rfl (by kernel_rfl) (by kernel_rfl) (by kernel_rfl) (fun _ _ _ h => h) (Or.inl ⟨by kernel_rfl, ?hgb21⟩) (by assumption) ?rgb21
          case hgb21 => intro W hW; obtain ⟨⟨e0, e1⟩, c0, c1⟩ := hW; go_simp; all_goals with_reducible rfl
          change wpAnyH _ _ _ _ _ _ _ (Act.put _ (some 47) _) _
          simp only [Act.put, List.setIfInBounds_toArray, List.set_cons_zero, List.set_cons_succ]
          refine wpAnyH_done (by kernel_rfl) ?_ _
          clear hHeld hS
          by_cases hp : p0 ≤ 256
          · have hp2 : ¬ (256 : Int) < p0 := by omega
            have HN2 := HN.out ⟨by omega, by omega, hp⟩
            have HN3 : Hid (∀ i (h : i < D.cache.length), i < k + 1 → 0 ≤ (D.cache[i]).1 ∧ (D.cache[i]).1 < D.secs.length ∧ (D.cache[i]).2.length ≤ 256) := HN2
            clear HN HNO HN2
            go_wp2
            go_roundg (D.cache.length - (k + 1))
            case measure => omega
            case rel => exact ⟨k + 1, by omega, rfl, by go_num, hbD5, HN3⟩
          · have hp2 : (256 : Int) < p0 := by omega
            have HN2 : Hid (¬ CacheOk D.secs.length D.cache) := HNO.out (fun h => by omega)
            clear HN HNO
            go_wp2
            go_ret
            exact Says.no (fun h => HN2.out h.2.1) hbD

        · have hkz : ¬ (k : Int) < (D.cache.length : Int) := by omega
          obtain ⟨y0, y1, y2, y3, y4⟩ := box5 hB5
          have HCA : Hid (∀ i (h : i < D.cache.length), 0 ≤ (D.cache[i]).1 ∧ (D.cache[i]).1 < D.secs.length ∧ (D.cache[i]).2.length ≤ 256) := fun i h => HA.out i h (by omega)
          clear HA
          by_cases hls : (4 : Int) ≤ D.secs.length ∧ (D.secs.length : Int) ≤ 48
          case neg =>
            have hV := fun W => l1In_no (D.secs.length : Int) 4 48 W (by omega)
            go_wp2_with fail
            refine (hV _).mono ?_
            rintro e w5 ⟨rfl, rfl⟩
            clear hV
            go_wp2
            go_ret
            exact Says.no (fun h => by have h1 := h.1.1; have h2 := h.1.2.1; omega) hB
          have hV := fun W => l1In_yes (D.secs.length : Int) 4 48 W hls.1 hls.2
          go_wp2_with fail
          refine (hV _).mono ?_
          rintro e w5 ⟨rfl, rfl⟩
          clear hV
          by_cases hlc : (D.cache.length : Int) ≤ 60
          case neg =>
            go_wp2
            go_ret
            exact Says.no (fun h => by have h1 := h.2.1.1; omega) hB
          by_cases hop : 0 ≤ D.ops ∧ D.ops ≤ 100000
          case neg =>
            have hV := fun W => l1In_no D.ops 0 100000 W (by omega)
            go_wp2_with fail
            refine (hV _).mono ?_
            rintro e w5 ⟨rfl, rfl⟩
            clear hV
            go_wp2
            go_ret
            exact Says.no (fun h => hop h.2.2.1) hB
          have hV := fun W => l1In_yes D.ops 0 100000 W hop.1 hop.2
          go_wp2_with fail
          refine (hV _).mono ?_
          rintro e w5 ⟨rfl, rfl⟩
          clear hV
          have hV := l12Faults_any fa fc D.faults wr (fview_below HH.out.2.2.1 hB) HH.out.2.2.2.nf
          go_wp2_with fail
          refine hV.mono ?_
          rintro e w3 ⟨r3, rfl, hr3, hb3⟩
          have HR3 : Hid (r3 = true ↔ FaultsOk D.faults) := hr3
          have hB3 := box5_on hB5 hb3
          obtain ⟨hBw3, -⟩ := box5_below hB3
          clear y0 y1 y2 y3 y4
          obtain ⟨y0, y1, y2, y3, y4⟩ := box5 hB3
          clear hV hr3 hB hB5 hb3
          cases r3
          · go_wp2
            go_ret
            exact Says.no (fun h => by have := HR3.out.2 h.2.2.2.1; cases this) hBw3
          have hS1 : SecsOk D.secs := ⟨by omega, by omega, HSH.out⟩
          have hC1 : CacheOk D.secs.length D.cache := ⟨by omega, HCA.out⟩
          have HOK : Hid (¬ (D.down = true ∧ 0 < D.cache.length) → OkD D) := fun h => ⟨hS1, hC1, hop, HR3.out.1 rfl, h⟩
          clear hS1 hC1 HR3 HCA HSH HH
          obtain ⟨dn, hdn⟩ := hidEx D.down
          rw [hdn.out] at y4
          cases dn
          · go_wp2
            go_ret
            exact Says.yes (HOK.out (fun h => by rw [hdn.out] at h; cases h.1)) hBw3
          go_wp2
          go_ret
          refine ⟨(D.cache.length : Int) == 0, rfl, ?_, hBw3⟩
          rw [beq_iff_eq]
          exact ⟨fun h0 => HOK.out (fun h => by omega), fun h => Classical.byContradiction fun h0 => h.2.2.2.2 ⟨hdn.out, by omega⟩⟩
end Go.Proofs.Ytnlceclfepgmhaa

/-
  The program's DiskOk.
-/
namespace Go.Proofs.Ytnlceclfepgmhaa
open Go.RowKit
set_option maxRecDepth 4000

set_option maxHeartbeats 1000000 in
theorem passesSec_any (a : Option Addr) (n cap : Nat) (w : World) :
    Calls Try.prog 50 #[.slice a n cap] w fun e w' => e = .returned (.bool (decide ((256 : Int) < n))) ∧ w = w' := by
  go_enter Try.func50, Try.ntmps50
  go_wp2
  go_ret
  exact ⟨rfl, rfl⟩
set_option maxHeartbeats 1000000 in
theorem inside_any (x m : Int) (w : World) :
    Calls Try.prog 60 #[.int .i64 x, .int .i64 m] w fun e w' => e = .returned (.bool (decide (0 ≤ x) && decide (x ≤ m))) ∧ w = w' := by
  go_enter Try.func60, Try.ntmps60
  by_cases h : 0 ≤ x
  · have e1 : decide (0 ≤ x) = true := by simpa using h
    go_wp2
    go_ret
    exact ⟨by simp [h], rfl⟩
  · have e1 : decide (0 ≤ x) = false := by simpa using h
    go_wp2
    go_ret
    exact ⟨by simp, rfl⟩
theorem inside_yes (x m : Int) (w : World) (h1 : 0 ≤ x) (h2 : x ≤ m) :
    Calls Try.prog 60 #[.int .i64 x, .int .i64 m] w fun e w' => e = .returned (.bool true) ∧ w = w' := by
  have h := inside_any x m w
  rw [decide_eq_true h1, decide_eq_true h2] at h
  exact h
theorem inside_no (x m : Int) (w : World) (h1 : ¬ (0 ≤ x ∧ x ≤ m)) :
    Calls Try.prog 60 #[.int .i64 x, .int .i64 m] w fun e w' => e = .returned (.bool false) ∧ w = w' := by
  have h := inside_any x m w
  have e : (decide (0 ≤ x) && decide (x ≤ m)) = false := by
    rcases Classical.em (0 ≤ x) with h1' | h1'
    · rw [decide_eq_false (p := x ≤ m) (fun h2 => h1 ⟨h1', h2⟩), Bool.and_false]
    · rw [decide_eq_false h1', Bool.false_and]
  rw [e] at h
  exact h

set_option maxHeartbeats 2000000 in
theorem indexPass_any (a : Option Addr) (cap : Nat) (l : List (List Int)) (w : World) (h : SView w a cap l) (hn : l.length ≤ 1048576) :
    Calls Try.prog 95 #[.slice a l.length cap, .func (.func 50) #[] #[]] w fun e w' => ∃ r : Int, e = .returned (.int .i64 r) ∧ (0 ≤ r ↔ ¬ Short l) ∧ Below w.heap.size w w' := by
  go_enter Try.func95, Try.ntmps95
  go_wp2
  go_loopg [8] l.length (fun q i wr => ∃ k : Nat, k ≤ l.length ∧ q = l.length - k ∧ i = .int .i64 k ∧ Below w.heap.size w wr ∧ Hid (∀ i (h : i < l.length), i < k → (l[i]).length ≤ 256))
  case atStart => exact ⟨0, Nat.zero_le _, rfl, rfl, Below.refl _ _, fun i _ hi => absurd hi (Nat.not_lt_zero _)⟩
  case round =>
    obtain ⟨k, hk, rfl, rfl, hB, HA⟩ := hrel
    by_cases hlt : k < l.length
    · obtain ⟨b1, o1, a', c', rfl, hb1, x0, -, -⟩ := sview_at (sview_below h hB) hlt
      have hkz : (k : Int) < (l.length : Int) := by omega
      have HN : Hid ((l[k]).length ≤ 256 → ∀ i (h : i < l.length), i < k + 1 → (l[i]).length ≤ 256) := by
        intro hp i h hi
        by_cases e : i < k
        · exact HA.out i h e
        · obtain rfl : i = k := by omega
          exact hp
      have HNO : Hid (¬ (l[k]).length ≤ 256 → ¬ Short l) := fun h1 h2 => h1 (h2 k hlt)
      clear h HA
      obtain ⟨p0, hp0⟩ := hidEx (l[k]).length
      rw [hp0.out] at x0 HN HNO
      have hV := fun W => passesSec_any a' p0 c' W
      go_wp2_with fail
      refine (hV _).mono ?_
      rintro e w1 ⟨rfl, rfl⟩
      clear hV
      by_cases hp : p0 ≤ 256
      · have e1 : decide ((256 : Int) < p0) = false := decide_eq_false (by omega)
        have HN2 : Hid (∀ i (h : i < l.length), i < k + 1 → (l[i]).length ≤ 256) := HN.out hp
        clear HN HNO
        rw [e1]
        go_wp2
        go_roundg (l.length - (k + 1))
        case measure => omega
        case rel => exact ⟨k + 1, by omega, rfl, by go_num, hB, HN2⟩
      · have e1 : decide ((256 : Int) < p0) = true := decide_eq_true (by omega)
        have HN2 : Hid (¬ Short l) := HNO.out hp
        clear HN HNO
        rw [e1]
        go_wp2
        go_ret
        exact ⟨_, rfl, ⟨fun _ => HN2.out, fun _ => by omega⟩, hB⟩
    · have hkz : ¬ (k : Int) < (l.length : Int) := by omega
      clear h
      go_wp2
      go_ret
      exact ⟨_, rfl, ⟨fun h => by omega, fun h => absurd (fun i h => HA.out i h (by omega)) h⟩, hB⟩
set_option maxHeartbeats 1000000 in
theorem containsPass_any (a : Option Addr) (cap : Nat) (l : List (List Int)) (w : World) (h : SView w a cap l) (hn : l.length ≤ 1048576) :
    Calls Try.prog 88 #[.slice a l.length cap, .func (.func 50) #[] #[]] w (Says w (¬ Short l)) := by
  have hV := indexPass_any a cap l w h hn
  clear h
  go_enter Try.func88, Try.ntmps88
  go_wp2_with fail
  refine hV.mono ?_
  rintro e w1 ⟨r, rfl, hr, hb⟩
  have HR : Hid (0 ≤ r ↔ ¬ Short l) := hr
  clear hr hV
  by_cases h0 : 0 ≤ r
  · have e1 : decide (0 ≤ r) = true := decide_eq_true h0
    go_wp2
    go_ret
    exact Says.yes (HR.out.1 h0) hb
  · have e1 : decide (0 ≤ r) = false := decide_eq_false h0
    go_wp2
    go_ret
    exact Says.no (fun h => by have := HR.out.2 h; omega) hb
set_option maxHeartbeats 1000000 in
theorem secsOk_any (a : Option Addr) (cap : Nat) (l : List (List Int)) (w : World) (h : SView w a cap l) (hn : l.length ≤ 1048576) :
    Calls Try.prog 58 #[.slice a l.length cap] w (Says w (SecsOk l)) := by
  by_cases h4 : (4 : Int) ≤ l.length
  case neg =>
    clear h
    go_enter Try.func58, Try.ntmps58
    go_wp2
    go_ret
    exact Says.no (fun h => by have := h.1; omega) (Below.refl _ _)
  by_cases h48 : (l.length : Int) ≤ 48
  case neg =>
    clear h
    go_enter Try.func58, Try.ntmps58
    go_wp2
    go_ret
    exact Says.no (fun h => by have := h.2.1; omega) (Below.refl _ _)
  have hV := containsPass_any a cap l w h hn
  clear h
  go_enter Try.func58, Try.ntmps58
  go_wp2_with fail
  refine hV.mono ?_
  rintro e w1 ⟨r, rfl, hr, hb⟩
  have HR : Hid (r = true ↔ ¬ Short l) := hr
  clear hr hV
  cases r
  · go_wp2
    go_ret
    refine Says.yes ⟨by omega, by omega, ?_⟩ hb
    have := HR.out
    simp only [Bool.false_eq_true, false_iff, Classical.not_not] at this
    exact this
  · go_wp2
    go_ret
    exact Says.no (fun h => (HR.out.1 (by simp)) h.2.2) hb

set_option maxHeartbeats 2000000 in
theorem cacheOk_any (a : Option Addr) (cap : Nat) (l : List (Int × List Int)) (n : Nat) (w : World) (h : WView w a cap l) (hn : l.length ≤ 1048576) :
    Calls Try.prog 59 #[.slice a l.length cap, .int .i64 n] w (Says w (CacheOk n l)) := by
  by_cases h60 : (60 : Int) < l.length
  · clear h
    go_enter Try.func59, Try.ntmps59
    go_wp2
    go_ret
    exact Says.no (fun h => by have := h.1; omega) (Below.refl _ _)
  go_enter Try.func59, Try.ntmps59
  go_wp2
  go_loopg [12] l.length (fun q i wr => ∃ k : Nat, k ≤ l.length ∧ q = l.length - k ∧ i = .int .i64 k ∧ Below w.heap.size w wr ∧ Hid (∀ i (h : i < l.length), i < k → 0 ≤ (l[i]).1 ∧ (l[i]).1 < n ∧ (l[i]).2.length ≤ 256))
  case atStart => exact ⟨0, Nat.zero_le _, rfl, rfl, Below.refl _ _, fun i _ hi => absurd hi (Nat.not_lt_zero _)⟩
  case round =>
    obtain ⟨k, hk, rfl, rfl, hB, HA⟩ := hrel
    by_cases hlt : k < l.length
    · obtain ⟨b1, o1, a', c', rfl, hb1, x0, x1, -, -⟩ := wview_at (wview_below h hB) hlt
      have hkz : (k : Int) < (l.length : Int) := by omega
      have HN : Hid ((0 ≤ (l[k]).1 ∧ (l[k]).1 < n ∧ (l[k]).2.length ≤ 256) → ∀ i (h : i < l.length), i < k + 1 → 0 ≤ (l[i]).1 ∧ (l[i]).1 < n ∧ (l[i]).2.length ≤ 256) := by
        intro hp i h hi
        by_cases e : i < k
        · exact HA.out i h e
        · obtain rfl : i = k := by omega
          exact hp
      have HNO : Hid (¬ (0 ≤ (l[k]).1 ∧ (l[k]).1 < n ∧ (l[k]).2.length ≤ 256) → ¬ CacheOk n l) := fun h1 h2 => h1 (h2.2 k hlt)
      clear h HA
      obtain ⟨p0, hp0⟩ := hidEx (l[k]).2.length
      obtain ⟨p1, hp1⟩ := hidEx (l[k]).1
      rw [hp0.out] at x1 HN HNO
      rw [hp1.out] at x0 HN HNO
      have hbA : Below w.heap.size w (wr.alloc (.cells #[.int .i64 p1, .slice a' p0 c'] 41)) := hB.alloc hB.size _
      by_cases h1 : p1 < 0
      · have HN2 : Hid (¬ CacheOk n l) := HNO.out (fun h => by omega)
        clear HN HNO
        go_wp2
        go_ret
        exact Says.no HN2.out hbA
      by_cases h2 : (n : Int) ≤ p1
      · have HN2 : Hid (¬ CacheOk n l) := HNO.out (fun h => by omega)
        clear HN HNO
        go_wp2
        go_ret
        exact Says.no HN2.out hbA
      have hV := fun W => passesSec_any a' p0 c' W
      go_wp2_with fail
      refine (hV _).mono ?_
      rintro e w1 ⟨rfl, rfl⟩
      clear hV
      by_cases hp : p0 ≤ 256
      · have e1 : decide ((256 : Int) < p0) = false := decide_eq_false (by omega)
        have HN2 := HN.out ⟨by omega, by omega, hp⟩
        have HN3 : Hid (∀ i (h : i < l.length), i < k + 1 → 0 ≤ (l[i]).1 ∧ (l[i]).1 < n ∧ (l[i]).2.length ≤ 256) := HN2
        clear HN HNO HN2
        rw [e1]
        go_wp2
        go_roundg (l.length - (k + 1))
        case measure => omega
        case rel => exact ⟨k + 1, by omega, rfl, by go_num, hbA, HN3⟩
      · have e1 : decide ((256 : Int) < p0) = true := decide_eq_true (by omega)
        have HN2 : Hid (¬ CacheOk n l) := HNO.out (fun h => by omega)
        clear HN HNO
        rw [e1]
        go_wp2
        go_ret
        exact Says.no HN2.out hbA
    · have hkz : ¬ (k : Int) < (l.length : Int) := by omega
      clear h
      go_wp2
      go_ret
      exact Says.yes ⟨by omega, fun i h => HA.out i h (by omega)⟩ hB

set_option maxHeartbeats 4000000 in
theorem faultsOk_any (a : Option Addr) (cap : Nat) (l : List PFault) (w : World) (h : FView w a cap l) (hn : l.length ≤ 1048576) :
    Calls Try.prog 61 #[.slice a l.length cap] w (Says w (FaultsOk l)) := by
  by_cases h20 : (20 : Int) < l.length
  · clear h
    go_enter Try.func61, Try.ntmps61
    go_wp2
    go_ret
    exact Says.no (fun h => by have := h.1; omega) (Below.refl _ _)
  go_enter Try.func61, Try.ntmps61
  go_wp2
  go_loopg [10] l.length (fun q i wr => ∃ k : Nat, k ≤ l.length ∧ q = l.length - k ∧ i = .int .i64 k ∧ Below w.heap.size w wr ∧ Hid (∀ i, i < k → FAt l i))
  case atStart => exact ⟨0, Nat.zero_le _, rfl, rfl, Below.refl _ _, fun i hi => absurd hi (Nat.not_lt_zero _)⟩
  case round =>
    obtain ⟨k, hk, rfl, rfl, hB, HA⟩ := hrel
    by_cases hlt : k < l.length
    · obtain ⟨b1, o1, e1', hb1, x0, x1, x2⟩ := fview_at (fview_below h hB) hlt
      subst e1'
      have hkz : (k : Int) < (l.length : Int) := by omega
      have HX : Hid (0 < k → ∃ y0, wr.cell? ⟨b1, o1 + (k - 1) * 3, none⟩ = some (.int .i64 y0) ∧ y0 = (l[k - 1]).pos) := by
        intro h0
        obtain ⟨b2, o2, e2, hb2, z0, z1, z2⟩ := fview_at (fview_below h hB) (show k - 1 < l.length by omega)
        cases e2
        exact ⟨_, z0, rfl⟩
      have HN : Hid (FOk l[k] ∧ (∀ h1 : 0 < k, (l[k - 1]).pos < (l[k]).pos) → ∀ i, i < k + 1 → FAt l i) := by
        intro hp i hi
        by_cases e : i < k
        · exact HA.out i e
        · obtain rfl : i = k := by omega
          exact fun _ => hp
      have HNO : Hid (¬ (FOk l[k] ∧ (∀ h1 : 0 < k, (l[k - 1]).pos < (l[k]).pos)) → ¬ FaultsOk l) := fun h1 h2 => h1 (h2.2 k hlt)
      clear h HA
      obtain ⟨p0, hp0⟩ := hidEx (l[k]).pos
      obtain ⟨p1, hp1⟩ := hidEx (l[k]).keep
      obtain ⟨p2, hp2⟩ := hidEx (l[k]).cut
      obtain ⟨F0, hF0⟩ := hidEx (FOk l[k])
      have HF : Hid (F0 ↔ (0 ≤ p0 ∧ p0 ≤ 100000) ∧ (0 ≤ p1 ∧ p1 ≤ 1048575) ∧ (0 ≤ p2 ∧ p2 ≤ 256)) := by
        show F0 ↔ _
        rw [← hF0.out, ← hp0.out, ← hp1.out, ← hp2.out]
        exact Iff.rfl
      rw [hF0.out, hp0.out] at HN HNO
      rw [hp0.out] at x0
      rw [hp1.out] at x1
      rw [hp2.out] at x2
      have hbA : Below w.heap.size w (wr.alloc (.cells #[.int .i64 p0, .int .i64 p1, .int .i64 p2] 69)) := hB.alloc hB.size _
      by_cases hFo : (0 ≤ p0 ∧ p0 ≤ 100000) ∧ (0 ≤ p1 ∧ p1 ≤ 1048575) ∧ (0 ≤ p2 ∧ p2 ≤ 256)
      case neg =>
        have HN2 : Hid (¬ FaultsOk l) := HNO.out (fun h => hFo (HF.out.1 h.1))
        clear HN HNO HX HF
        by_cases h0 : 0 ≤ p0 ∧ p0 ≤ 100000
        case neg =>
          have hV := fun W => inside_no p0 100000 W h0
          go_wp2_with fail
          refine (hV _).mono ?_
          rintro e w1 ⟨rfl, rfl⟩
          clear hV
          go_wp2
          go_ret
          exact Says.no HN2.out hbA
        have hV := fun W => inside_yes p0 100000 W h0.1 h0.2
        go_wp2_with fail
        refine (hV _).mono ?_
        rintro e w1 ⟨rfl, rfl⟩
        clear hV
        by_cases h1 : 0 ≤ p1 ∧ p1 ≤ 1048575
        case neg =>
          have hV := fun W => inside_no p1 1048575 W h1
          go_wp2_with fail
          refine (hV _).mono ?_
          rintro e w1 ⟨rfl, rfl⟩
          clear hV
          go_wp2
          go_ret
          exact Says.no HN2.out hbA
        have hV := fun W => inside_yes p1 1048575 W h1.1 h1.2
        go_wp2_with fail
        refine (hV _).mono ?_
        rintro e w1 ⟨rfl, rfl⟩
        clear hV
        have h2 : ¬ (0 ≤ p2 ∧ p2 ≤ 256) := fun h2 => hFo ⟨h0, h1, h2⟩
        have hV := fun W => inside_no p2 256 W h2
        go_wp2_with fail
        refine (hV _).mono ?_
        rintro e w1 ⟨rfl, rfl⟩
        clear hV
        go_wp2
        go_ret
        exact Says.no HN2.out hbA
      have HF1 : F0 := HF.out.2 hFo
      obtain ⟨h0, h1, h2⟩ := hFo
      clear HF
      have hV := fun W => inside_yes p0 100000 W h0.1 h0.2
      go_wp2_with fail
      refine (hV _).mono ?_
      rintro e w1 ⟨rfl, rfl⟩
      clear hV
      have hV := fun W => inside_yes p1 1048575 W h1.1 h1.2
      go_wp2_with fail
      refine (hV _).mono ?_
      rintro e w1 ⟨rfl, rfl⟩
      clear hV
      have hV := fun W => inside_yes p2 256 W h2.1 h2.2
      go_wp2_with fail
      refine (hV _).mono ?_
      rintro e w1 ⟨rfl, rfl⟩
      clear hV
      have hbD : Below w.heap.size w ((wr.alloc (.cells #[.int .i64 p0, .int .i64 p1, .int .i64 p2] 69)).drew) := hbA.drew
      have q0 : (wr.alloc (.cells #[.int .i64 p0, .int .i64 p1, .int .i64 p2] 69)).cell? ⟨wr.heap.size, 0, none⟩ = some (.int .i64 p0) := by simp [go_sem]
      by_cases hk0 : 0 < k
      case neg =>
        have hkn : ¬ (0 : Int) < k := by omega
        have HN3 : Hid (∀ i, i < k + 1 → FAt l i) := HN.out ⟨HF1, fun h => absurd h hk0⟩
        clear HN HNO HX
        go_wp2_with fail
        refine wp_region_held_drew (S := fun _ => True) (by kernel_rfl) trivial (fun hHeld => ?_)
        refine' wpAnyH_take (i := 0) (v := _) rfl (by kernel_rfl) (by kernel_rfl) (by kernel_rfl) (fun _ _ _ h => h) (Or.inl ⟨by kernel_rfl, ?hta1⟩) (by assumption) ?rta1
        case hta1 => intro W hW; go_simp; all_goals with_reducible rfl
        change wpAnyH _ _ _ _ _ _ _ (Act.put _ (some 31) _) _
        simp only [Act.put, List.setIfInBounds_toArray, List.set_cons_zero, List.set_cons_succ]
        refine' wpAnyH_take (i := 1) (v := _) rfl (by kernel_rfl) (by kernel_rfl) (by kernel_rfl) (fun _ _ _ h => h) (Or.inl ⟨by kernel_rfl, ?hta2⟩) (by assumption) ?rta2
        case hta2 => intro W hW; go_simp; all_goals with_reducible rfl
        change wpAnyH _ _ _ _ _ _ _ (Act.put _ (some 32) _) _
        simp only [Act.put, List.setIfInBounds_toArray, List.set_cons_zero, List.set_cons_succ]
        refine' wpAnyH_take (i := 2) (v := _) rfl (by kernel_rfl) (by kernel_rfl) (by kernel_rfl) (fun _ _ _ h => h) (Or.inl ⟨by kernel_rfl, ?hta3⟩) (by assumption) ?rta3
        case hta3 => intro W hW; go_simp; all_goals with_reducible rfl
        change wpAnyH _ _ _ _ _ _ _ (Act.put _ (some 33) _) _
        simp only [Act.put, List.setIfInBounds_toArray, List.set_cons_zero, List.set_cons_succ]
        refine wpAnyH_take (i := 3) (v := undef) rfl (by kernel_rfl) (by kernel_rfl) (by kernel_rfl) (fun _ _ _ h => h) (Or.inr ⟨by kernel_rfl, rfl⟩) (by assumption) ?_
        change wpAnyH _ _ _ _ _ _ _ (Act.put _ (some 34) _) _
        simp only [Act.put, List.setIfInBounds_toArray, List.set_cons_zero, List.set_cons_succ]
        refine wpAnyH_take (i := 4) (v := undef) rfl (by kernel_rfl) (by kernel_rfl) (by kernel_rfl) (fun _ _ _ h => h) (Or.inr ⟨by kernel_rfl, rfl⟩) (by assumption) ?_
        change wpAnyH _ _ _ _ _ _ _ (Act.put _ (some 35) _) _
        simp only [Act.put, List.setIfInBounds_toArray, List.set_cons_zero, List.set_cons_succ]
        refine wpAnyH_take (i := 5) (v := undef) rfl (by kernel_rfl) (by kernel_rfl) (by kernel_rfl) (fun _ _ _ h => h) (Or.inr ⟨by kernel_rfl, rfl⟩) (by assumption) ?_
        change wpAnyH _ _ _ _ _ _ _ (Act.put _ (some 36) _) _
        simp only [Act.put, List.setIfInBounds_toArray, List.set_cons_zero, List.set_cons_succ]
        refine wpAnyH_take (i := 6) (v := undef) rfl (by kernel_rfl) (by kernel_rfl) (by kernel_rfl) (fun _ _ _ h => h) (Or.inr ⟨by kernel_rfl, rfl⟩) (by assumption) ?_
        change wpAnyH _ _ _ _ _ _ _ (Act.put _ (some 37) _) _
        simp only [Act.put, List.setIfInBounds_toArray, List.set_cons_zero, List.set_cons_succ]
        refine wpAnyH_take (i := 7) (v := undef) rfl (by kernel_rfl) (by kernel_rfl) (by kernel_rfl) (fun _ _ _ h => h) (Or.inr ⟨by kernel_rfl, rfl⟩) (by assumption) ?_
        change wpAnyH _ _ _ _ _ _ _ (Act.put _ (some 38) _) _
        simp only [Act.put, List.setIfInBounds_toArray, List.set_cons_zero, List.set_cons_succ]
        refine wpAnyH_take (i := 8) (v := undef) rfl (by kernel_rfl) (by kernel_rfl) (by kernel_rfl) (fun _ _ _ h => h) (Or.inr ⟨by kernel_rfl, rfl⟩) (by assumption) ?_
        change wpAnyH _ _ _ _ _ _ _ (Act.put _ (some 39) _) _
        simp only [Act.put, List.setIfInBounds_toArray, List.set_cons_zero, List.set_cons_succ]
        refine wpAnyH_take (i := 9) (v := undef) rfl (by kernel_rfl) (by kernel_rfl) (by kernel_rfl) (fun _ _ _ h => h) (Or.inr ⟨by kernel_rfl, rfl⟩) (by assumption) ?_
        change wpAnyH _ _ _ _ _ _ _ (Act.put _ (some 40) _) _
        simp only [Act.put, List.setIfInBounds_toArray, List.set_cons_zero, List.set_cons_succ]
        refine wpAnyH_take (i := 10) (v := undef) rfl (by kernel_rfl) (by kernel_rfl) (by kernel_rfl) (fun _ _ _ h => h) (Or.inr ⟨by kernel_rfl, rfl⟩) (by assumption) ?_
        change wpAnyH _ _ _ _ _ _ _ (Act.put _ (some 41) _) _
        simp only [Act.put, List.setIfInBounds_toArray, List.set_cons_zero, List.set_cons_succ]
        refine wpAnyH_take (i := 11) (v := undef) rfl (by kernel_rfl) (by kernel_rfl) (by kernel_rfl) (fun _ _ _ h => h) (Or.inr ⟨by kernel_rfl, rfl⟩) (by assumption) ?_
        change wpAnyH _ _ _ _ _ _ _ (Act.put _ (some 42) _) _
        simp only [Act.put, List.setIfInBounds_toArray, List.set_cons_zero, List.set_cons_succ]
        refine' wpAnyH_take (i := 12) (v := _) rfl (by kernel_rfl) (by kernel_rfl) (by kernel_rfl) (fun _ _ _ h => h) (Or.inl ⟨by kernel_rfl, ?hta13⟩) (by assumption) ?rta13
        case hta13 => intro W hW; go_simp; all_goals with_reducible rfl
        change wpAnyH _ _ _ _ _ _ _ (Act.put _ (some 43) _) _
        simp only [Act.put, List.setIfInBounds_toArray, List.set_cons_zero, List.set_cons_succ]
        refine wpAnyH_done (by kernel_rfl) ?_ _
        clear hHeld
        go_wp2
        go_roundg (l.length - (k + 1))
        case measure => omega
        case rel => exact ⟨k + 1, by omega, rfl, by go_num, hbD, HN3⟩

      have hk1 : (0 : Int) < k := by omega
      obtain ⟨y0, hy0, hy⟩ := HX.out hk0
      have hs : ((k : Int) - 1).toNat = k - 1 := by omega
      have hs1 : IntKind.i64.wrap ((k : Int) - 1) = (k : Int) - 1 := by rw [IntKind.wrap_i64]; omega
      have y1 : (wr.alloc (.cells #[.int .i64 p0, .int .i64 p1, .int .i64 p2] 69)).cell? ⟨b1, o1 + (k - 1) * 3, none⟩ = some (.int .i64 y0) := by
        rw [(show Below wr.heap.size wr (wr.alloc (.cells #[.int .i64 p0, .int .i64 p1, .int .i64 p2] 69)) from (Below.refl _ _).alloc (Nat.le_refl _) _).cell (p := ⟨b1, o1 + (k - 1) * 3, none⟩) hb1]
        exact hy0
      have hn0 : (1 : Int) ≤ (k : Int) := by omega
      have hn1 : (k : Int) - 1 < (l.length : Int) := by omega
      replace HN : Hid (F0 ∧ y0 < p0 → ∀ i, i < k + 1 → FAt l i) := fun h => HN.out ⟨h.1, fun _ => by rw [← hy]; exact h.2⟩
      replace HNO : Hid (¬ (F0 ∧ y0 < p0) → ¬ FaultsOk l) := fun h => HNO.out (fun h2 => h ⟨h2.1, by rw [hy]; exact h2.2 hk0⟩)
      clear HX hy hy0
      go_wp2_with fail
      refine wp_region_held_drew (S := fun W => W.cell? ⟨wr.heap.size, 0, none⟩ = some (.int .i64 p0) ∧ W.cell? ⟨b1, o1 + (k - 1) * 3, none⟩ = some (.int .i64 y0)) (by kernel_rfl) ⟨q0, y1⟩ (fun hHeld => ?_)
      refine' wpAnyH_take (i := 0) (v := _) rfl (by kernel_rfl) (by kernel_rfl) (by kernel_rfl) (fun _ _ _ h => h) (Or.inl ⟨by kernel_rfl, ?htb1⟩) (by assumption) ?rtb1
      case htb1 => intro W hW; obtain ⟨c0, c1⟩ := hW; go_simp; all_goals with_reducible rfl
      change wpAnyH _ _ _ _ _ _ _ (Act.put _ (some 31) _) _
      simp only [Act.put, List.setIfInBounds_toArray, List.set_cons_zero, List.set_cons_succ]
      refine' wpAnyH_take (i := 1) (v := _) rfl (by kernel_rfl) (by kernel_rfl) (by kernel_rfl) (fun _ _ _ h => h) (Or.inl ⟨by kernel_rfl, ?htb2⟩) (by assumption) ?rtb2
      case htb2 => intro W hW; obtain ⟨c0, c1⟩ := hW; go_simp; all_goals with_reducible rfl
      change wpAnyH _ _ _ _ _ _ _ (Act.put _ (some 32) _) _
      simp only [Act.put, List.setIfInBounds_toArray, List.set_cons_zero, List.set_cons_succ]
      refine' wpAnyH_take (i := 2) (v := _) rfl (by kernel_rfl) (by kernel_rfl) (by kernel_rfl) (fun _ _ _ h => h) (Or.inl ⟨by kernel_rfl, ?htb3⟩) (by assumption) ?rtb3
      case htb3 => intro W hW; obtain ⟨c0, c1⟩ := hW; go_simp; all_goals with_reducible rfl
      change wpAnyH _ _ _ _ _ _ _ (Act.put _ (some 33) _) _
      simp only [Act.put, List.setIfInBounds_toArray, List.set_cons_zero, List.set_cons_succ]
      refine' wpAnyH_take (i := 3) (v := _) rfl (by kernel_rfl) (by kernel_rfl) (by kernel_rfl) (fun _ _ _ h => h) (Or.inl ⟨by kernel_rfl, ?htb4⟩) (by assumption) ?rtb4
      case htb4 => intro W hW; obtain ⟨c0, c1⟩ := hW; go_simp; all_goals with_reducible rfl
      change wpAnyH _ _ _ _ _ _ _ (Act.put _ (some 34) _) _
      simp only [Act.put, List.setIfInBounds_toArray, List.set_cons_zero, List.set_cons_succ]
      refine' wpAnyH_take (i := 4) (v := _) rfl (by kernel_rfl) (by kernel_rfl) (by kernel_rfl) (fun _ _ _ h => h) (Or.inl ⟨by kernel_rfl, ?htb5⟩) (by assumption) ?rtb5
      case htb5 => intro W hW; obtain ⟨c0, c1⟩ := hW; go_simp; all_goals with_reducible rfl
      change wpAnyH _ _ _ _ _ _ _ (Act.put _ (some 35) _) _
      simp only [Act.put, List.setIfInBounds_toArray, List.set_cons_zero, List.set_cons_succ]
      refine' wpAnyH_take (i := 5) (v := _) rfl (by kernel_rfl) (by kernel_rfl) (by kernel_rfl) (fun _ _ _ h => h) (Or.inl ⟨by kernel_rfl, ?htb6⟩) (by assumption) ?rtb6
      case htb6 => intro W hW; obtain ⟨c0, c1⟩ := hW; go_simp; all_goals with_reducible rfl
      change wpAnyH _ _ _ _ _ _ _ (Act.put _ (some 36) _) _
      simp only [Act.put, List.setIfInBounds_toArray, List.set_cons_zero, List.set_cons_succ]
      refine' wpAnyH_take (i := 6) (v := _) rfl (by kernel_rfl) (by kernel_rfl) (by kernel_rfl) (fun _ _ _ h => h) (Or.inl ⟨by kernel_rfl, ?htb7⟩) (by assumption) ?rtb7
      case htb7 => intro W hW; obtain ⟨c0, c1⟩ := hW; go_simp; all_goals with_reducible rfl
      change wpAnyH _ _ _ _ _ _ _ (Act.put _ (some 37) _) _
      simp only [Act.put, List.setIfInBounds_toArray, List.set_cons_zero, List.set_cons_succ]
      refine' wpAnyH_take (i := 7) (v := _) rfl (by kernel_rfl) (by kernel_rfl) (by kernel_rfl) (fun _ _ _ h => h) (Or.inl ⟨by kernel_rfl, ?htb8⟩) (by assumption) ?rtb8
      case htb8 => intro W hW; obtain ⟨c0, c1⟩ := hW; go_simp; all_goals with_reducible rfl
      change wpAnyH _ _ _ _ _ _ _ (Act.put _ (some 38) _) _
      simp only [Act.put, List.setIfInBounds_toArray, List.set_cons_zero, List.set_cons_succ]
      refine' wpAnyH_take (i := 8) (v := _) rfl (by kernel_rfl) (by kernel_rfl) (by kernel_rfl) (fun _ _ _ h => h) (Or.inl ⟨by kernel_rfl, ?htb9⟩) (by assumption) ?rtb9
      case htb9 => intro W hW; obtain ⟨c0, c1⟩ := hW; go_simp; all_goals with_reducible rfl
      change wpAnyH _ _ _ _ _ _ _ (Act.put _ (some 39) _) _
      simp only [Act.put, List.setIfInBounds_toArray, List.set_cons_zero, List.set_cons_succ]
      refine' wpAnyH_take (i := 9) (v := _) rfl (by kernel_rfl) (by kernel_rfl) (by kernel_rfl) (fun _ _ _ h => h) (Or.inl ⟨by kernel_rfl, ?htb10⟩) (by assumption) ?rtb10
      case htb10 => intro W hW; obtain ⟨c0, c1⟩ := hW; go_simp; all_goals with_reducible rfl
      change wpAnyH _ _ _ _ _ _ _ (Act.put _ (some 40) _) _
      simp only [Act.put, List.setIfInBounds_toArray, List.set_cons_zero, List.set_cons_succ]
      refine' wpAnyH_take (i := 10) (v := _) rfl (by kernel_rfl) (by kernel_rfl) (by kernel_rfl) (fun _ _ _ h => h) (Or.inl ⟨by kernel_rfl, ?htb11⟩) (by assumption) ?rtb11
      case htb11 => intro W hW; obtain ⟨c0, c1⟩ := hW; go_simp; all_goals with_reducible rfl
      change wpAnyH _ _ _ _ _ _ _ (Act.put _ (some 41) _) _
      simp only [Act.put, List.setIfInBounds_toArray, List.set_cons_zero, List.set_cons_succ]
      refine' wpAnyH_take (i := 11) (v := _) rfl (by kernel_rfl) (by kernel_rfl) (by kernel_rfl) (fun _ _ _ h => h) (Or.inl ⟨by kernel_rfl, ?htb12⟩) (by assumption) ?rtb12
      case htb12 => intro W hW; obtain ⟨c0, c1⟩ := hW; go_simp; all_goals with_reducible rfl
      change wpAnyH _ _ _ _ _ _ _ (Act.put _ (some 42) _) _
      simp only [Act.put, List.setIfInBounds_toArray, List.set_cons_zero, List.set_cons_succ]
      refine' wpAnyH_take (i := 12) (v := _) rfl (by kernel_rfl) (by kernel_rfl) (by kernel_rfl) (fun _ _ _ h => h) (Or.inl ⟨by kernel_rfl, ?htb13⟩) (by assumption) ?rtb13
      case htb13 => intro W hW; obtain ⟨c0, c1⟩ := hW; go_simp; all_goals with_reducible rfl
      change wpAnyH _ _ _ _ _ _ _ (Act.put _ (some 43) _) _
      simp only [Act.put, List.setIfInBounds_toArray, List.set_cons_zero, List.set_cons_succ]
      refine wpAnyH_done (by kernel_rfl) ?_ _
      clear hHeld
      by_cases hord : p0 ≤ y0
      · have e1 : decide (p0 ≤ y0) = true := decide_eq_true hord
        have HN2 : Hid (¬ FaultsOk l) := HNO.out (fun h => by have := h.2; omega)
        clear HN HNO
        go_wp2
        go_ret
        exact Says.no HN2.out hbD
      · have e1 : decide (p0 ≤ y0) = false := decide_eq_false hord
        have HN3 : Hid (∀ i, i < k + 1 → FAt l i) := HN.out ⟨HF1, by omega⟩
        clear HN HNO
        go_wp2
        go_roundg (l.length - (k + 1))
        case measure => omega
        case rel => exact ⟨k + 1, by omega, rfl, by go_num, hbD, HN3⟩

    · have hkz : ¬ (k : Int) < (l.length : Int) := by omega
      clear h
      go_wp2
      go_ret
      exact Says.yes ⟨by omega, fun i h => HA.out i (by omega) h⟩ hB

set_option maxHeartbeats 4000000 in
theorem implDiskOk_any (v : Value) (D : PDisk) (w : World) (h : KView w v D) (hf : KFine D) :
    Calls Try.prog 14 #[v] w (Says w (OkD D)) := by
  obtain ⟨sa, sc, ca, cc, fa, fc, rfl, hs, hc, hfv⟩ := h.is
  clear h
  have hB0 := box5_start w (.cells #[.slice sa D.secs.length sc, .slice ca D.cache.length cc, .int .i64 D.ops, .slice fa D.faults.length fc, .bool D.down] 28)
  obtain ⟨hBw0, -⟩ := box5_below hB0
  have hV := secsOk_any sa sc D.secs _ (sview_below hs hBw0) hf.ns
  have hcl := hf.nc
  go_enter Try.func14, Try.ntmps14
  go_wp2_with fail
  refine hV.mono ?_
  rintro e w1 ⟨r1, rfl, hr1, hb1⟩
  have HR1 : Hid (r1 = true ↔ SecsOk D.secs) := hr1
  have hB1 := box5_on hB0 hb1
  obtain ⟨hBw1, -⟩ := box5_below hB1
  obtain ⟨x0, x1, x2, x3, x4⟩ := box5 hB1
  clear hV hr1 hB0 hBw0 hb1 hs
  cases r1
  · clear hc hfv
    go_wp2
    go_ret
    exact Says.no (fun h => by have := HR1.out.2 h.1; cases this) hBw1
  have hV := cacheOk_any ca cc D.cache D.secs.length w1 (wview_below hc hBw1) hf.nc
  go_wp2_with fail
  refine hV.mono ?_
  rintro e w2 ⟨r2, rfl, hr2, hb2⟩
  have HR2 : Hid (r2 = true ↔ CacheOk D.secs.length D.cache) := hr2
  have hB2 := box5_on hB1 hb2
  obtain ⟨hBw2, -⟩ := box5_below hB2
  clear x0 x1 x2 x3 x4
  obtain ⟨x0, x1, x2, x3, x4⟩ := box5 hB2
  clear hV hr2 hB1 hBw1 hb2 hc
  cases r2
  · clear hfv
    go_wp2
    go_ret
    exact Says.no (fun h => by have := HR2.out.2 h.2.1; cases this) hBw2
  by_cases hop : 0 ≤ D.ops ∧ D.ops ≤ 100000
  case neg =>
    have hV := fun W => inside_no D.ops 100000 W hop
    clear hfv
    go_wp2_with fail
    refine (hV _).mono ?_
    rintro e w3 ⟨rfl, rfl⟩
    clear hV
    go_wp2
    go_ret
    exact Says.no (fun h => hop h.2.2.1) hBw2
  have hV := fun W => inside_yes D.ops 100000 W hop.1 hop.2
  go_wp2_with fail
  refine (hV _).mono ?_
  rintro e w3 ⟨rfl, rfl⟩
  clear hV
  have hV := faultsOk_any fa fc D.faults w2 (fview_below hfv hBw2) hf.nf
  go_wp2_with fail
  refine hV.mono ?_
  rintro e w3 ⟨r3, rfl, hr3, hb3⟩
  have HR3 : Hid (r3 = true ↔ FaultsOk D.faults) := hr3
  have hB3 := box5_on hB2 hb3
  obtain ⟨hBw3, -⟩ := box5_below hB3
  clear x0 x1 x2 x3 x4
  obtain ⟨x0, x1, x2, x3, x4⟩ := box5 hB3
  clear hV hr3 hB2 hBw2 hb3 hfv
  cases r3
  · go_wp2
    go_ret
    exact Says.no (fun h => by have := HR3.out.2 h.2.2.2.1; cases this) hBw3
  obtain ⟨dn, hdn⟩ := hidEx D.down
  rw [hdn.out] at x4
  cases dn
  · go_wp2
    go_ret
    exact Says.yes ⟨HR1.out.1 (by simp), HR2.out.1 (by simp), hop, HR3.out.1 (by simp), fun h => by rw [hdn.out] at h; cases h.1⟩ hBw3
  go_wp2
  go_ret
  refine ⟨!decide (0 < D.cache.length), rfl, ?_, hBw3⟩
  have h1 := HR1.out.1 (by simp)
  have h2 := HR2.out.1 (by simp)
  have h3 := HR3.out.1 (by simp)
  by_cases h0 : 0 < D.cache.length
  · simp only [h0, decide_true, Bool.not_true, Bool.false_eq_true, false_iff]
    exact fun h => h.2.2.2.2 ⟨hdn.out, h0⟩
  · simp only [h0, decide_false, Bool.not_false, true_iff]
    exact ⟨h1, h2, hop, h3, fun h => h0 h.2⟩

end Go.Proofs.Ytnlceclfepgmhaa

/-
  The law FnExactDiskOk, walked.
-/
namespace Go.Proofs.Ytnlceclfepgmhaa
open Go.RowKit
set_option maxRecDepth 4000

set_option maxHeartbeats 4000000 in
theorem lawDiskOk (v : Value) (D : PDisk) (w : World) (h : KView w v D) (hm : KLim D) :
    Calls Try.prog 7 #[v] w fun e w' => e = .returned (.bool true) ∧ Below w.heap.size w w' := by
  have hv := h
  obtain ⟨sa, sc, ca, cc, fa, fc, rfl, -, -, -⟩ := h.is
  clear h
  have hB0 := box5_start w (.cells #[.slice sa D.secs.length sc, .slice ca D.cache.length cc, .int .i64 D.ops, .slice fa D.faults.length fc, .bool D.down] 56)
  obtain ⟨hBw0, -⟩ := box5_below hB0
  have hZ := szDisk_fine _ D 1048576 _ (hv.below hBw0) hm (by omega) (by omega)
  clear hm
  go_enter Try.func7, Try.ntmps7
  go_wp2_with fail
  refine hZ.mono ?_
  rintro e w1 ⟨L, rfl, hb1, hL⟩
  have hB1 := box5_on hB0 hb1
  obtain ⟨hBw1, hs1⟩ := box5_below hB1
  obtain ⟨x0, x1, x2, x3, x4⟩ := box5 hB1
  clear hZ hb1 hB0 hBw0
  rcases hL with rfl | ⟨hL0, hL1, hf⟩
  · have HB : Hid (Below w.heap.size w w1) := hBw1
    clear hv hB1 hBw1
    go_wp2
    go_ret
    exact ⟨rfl, HB.out⟩
  have hLn : ¬ L < 0 := by omega
  have hT := toDisk_any _ D w1 (hv.below hBw1) hf
  go_wp2_with fail
  refine hT.mono ?_
  rintro e w2 ⟨v2, rfl, hO2, hb2⟩
  have hB2 := box5_on hB1 hb2
  obtain ⟨hBw2, hs2⟩ := box5_below hB2
  have hP := specDiskOk_any v2 D w2 hO2.view hf
  clear hT hb2 hB1 hBw1 hs1 hO2 x0 x1 x2 x3 x4
  go_wp2_with fail
  refine hP.mono ?_
  rintro e w3 ⟨r, rfl, hr, hb3⟩
  have HR : Hid (r = true ↔ OkD D) := hr
  have hB3 := box5_on hB2 hb3
  obtain ⟨hBw3, hs3⟩ := box5_below hB3
  obtain ⟨x0, x1, x2, x3, x4⟩ := box5 hB3
  have hT := toDisk_any _ D w3 (hv.below hBw3) hf
  clear hP hb3 hB2 hBw2 hs2 hr
  go_wp2_with fail
  refine hT.mono ?_
  rintro e w4 ⟨v4, rfl, hO4, hb4⟩
  have hB4 := box5_on hB3 hb4
  obtain ⟨hBw4, hs4⟩ := box5_below hB4
  have hD4 := hO4.view
  obtain ⟨ta, tc, da, dc, ga, gc, ss, cs, rfl, -⟩ := hO4
  unfold dval at hD4 ⊢
  have hbA : Below w4.heap.size w4 (w4.alloc (.cells #[.slice ta D.secs.length tc, .slice da D.cache.length dc, .int .i64 D.ops, .slice ga D.faults.length gc, .bool D.down] 28)) := (Below.refl _ _).alloc (Nat.le_refl _) _
  have hB5 := box5_on hB4 hbA
  obtain ⟨hBw5, hs5⟩ := box5_below hB5
  have hG := implDiskOk_any _ D _ (hD4.below hbA) hf
  have C5 := box5_start w4 (.cells #[.slice ta D.secs.length tc, .slice da D.cache.length dc, .int .i64 D.ops, .slice ga D.faults.length gc, .bool D.down] 28)
  clear hT hb4 hB3 hBw3 hs3 x0 x1 x2 x3 x4 hB4 hBw4
  go_wp2_with fail
  refine hG.mono ?_
  rintro e w6 ⟨r', rfl, hr', hb6⟩
  have hrr : r' = r := by
    have := HR.out
    cases r <;> cases r' <;> simp_all
  subst hrr
  have hB6 := box5_on hB5 hb6
  obtain ⟨hBw6, hs6⟩ := box5_below hB6
  have C6 := box5_on C5 hb6
  obtain ⟨hCw6, ht6⟩ := box5_below C6
  have hD6 := hD4.below hCw6
  obtain ⟨x0, x1, x2, x3, x4⟩ := box5 hB6
  obtain ⟨y0, y1, y2, y3, y4⟩ := box5 C6
  have hE : ∀ W u, Below w6.heap.size w6 W → KView W u D → Calls Try.prog 32 #[.agg #[.slice ta D.secs.length tc, .slice da D.cache.length dc, .int .i64 D.ops, .slice ga D.faults.length gc, .bool D.down], u] W fun e w' => e = .returned (.bool true) ∧ Below W.heap.size W w' := fun W u hb hu => eqDisk_same _ u D W (hD6.below hb) hu hf
  have hT : ∀ W, Below w6.heap.size w6 W → Calls Try.prog 38 #[.agg #[.slice sa D.secs.length sc, .slice ca D.cache.length cc, .int .i64 D.ops, .slice fa D.faults.length fc, .bool D.down]] W fun e w' => ∃ v', e = .returned v' ∧ KOwn w' W.heap.size v' D ∧ Below W.heap.size W w' := fun W hb => toDisk_any _ D W (hv.below (hBw6.trans (hb.mono (by have := hBw6.size; exact this)))) hf
  have hq : (r' != r') = false := bne_self_eq_false _
  obtain ⟨X, hX⟩ := hidEx w4.heap.size
  rw [hX.out] at y0 y1 y2 y3 y4 ht6 ⊢
  have HWK : Hid (∀ W, Below w6.heap.size w6 W → (W.cell? ⟨w.heap.size, 0, none⟩ = some (.slice sa D.secs.length sc) ∧ W.cell? ⟨w.heap.size, 1, none⟩ = some (.slice ca D.cache.length cc) ∧ W.cell? ⟨w.heap.size, 2, none⟩ = some (.int .i64 D.ops) ∧ W.cell? ⟨w.heap.size, 3, none⟩ = some (.slice fa D.faults.length fc) ∧ W.cell? ⟨w.heap.size, 4, none⟩ = some (.bool D.down)) ∧ (W.cell? ⟨X, 0, none⟩ = some (.slice ta D.secs.length tc) ∧ W.cell? ⟨X, 1, none⟩ = some (.slice da D.cache.length dc) ∧ W.cell? ⟨X, 2, none⟩ = some (.int .i64 D.ops) ∧ W.cell? ⟨X, 3, none⟩ = some (.slice ga D.faults.length gc) ∧ W.cell? ⟨X, 4, none⟩ = some (.bool D.down))) := by
    intro W hb
    refine ⟨⟨?_, ?_, ?_, ?_, ?_⟩, ?_, ?_, ?_, ?_, ?_⟩ <;> (rw [hb.cell (by first | exact hs6 | exact ht6)]; assumption)
  have HB6 : Hid (Below w.heap.size w w6) := hBw6
  clear hG hb6 hB5 hBw5 hs5 C5 C6 hCw6 hD6 hD4 hB6 hBw6 hbA hv hf hs4 hr' HR
  go_wp2_with fail
  go_region_held3 (fun WW => (WW.cell? ⟨w.heap.size, 0, none⟩ = some (.slice sa D.secs.length sc) ∧ WW.cell? ⟨w.heap.size, 1, none⟩ = some (.slice ca D.cache.length cc) ∧ WW.cell? ⟨w.heap.size, 2, none⟩ = some (.int .i64 D.ops) ∧ WW.cell? ⟨w.heap.size, 3, none⟩ = some (.slice fa D.faults.length fc) ∧ WW.cell? ⟨w.heap.size, 4, none⟩ = some (.bool D.down)) ∧ (WW.cell? ⟨X, 0, none⟩ = some (.slice ta D.secs.length tc) ∧ WW.cell? ⟨X, 1, none⟩ = some (.slice da D.cache.length dc) ∧ WW.cell? ⟨X, 2, none⟩ = some (.int .i64 D.ops) ∧ WW.cell? ⟨X, 3, none⟩ = some (.slice ga D.faults.length gc) ∧ WW.cell? ⟨X, 4, none⟩ = some (.bool D.down))) (first | assumption | go_keep) (first
    | (go_at_call 38; refine (hT _ (by repeat (first | exact Below.refl _ _ | refine Below.drew ?_))).mono ?_; rintro e w7 ⟨v7, rfl, hO7, hB7⟩; have hb7 : Below w6.heap.size w6 w7 := Below.trans (by repeat (first | exact Below.refl _ _ | refine Below.drew ?_)) hB7; have hcells : (w7.cell? ⟨w.heap.size, 0, none⟩ = some (.slice sa D.secs.length sc) ∧ w7.cell? ⟨w.heap.size, 1, none⟩ = some (.slice ca D.cache.length cc) ∧ w7.cell? ⟨w.heap.size, 2, none⟩ = some (.int .i64 D.ops) ∧ w7.cell? ⟨w.heap.size, 3, none⟩ = some (.slice fa D.faults.length fc) ∧ w7.cell? ⟨w.heap.size, 4, none⟩ = some (.bool D.down)) ∧ (w7.cell? ⟨X, 0, none⟩ = some (.slice ta D.secs.length tc) ∧ w7.cell? ⟨X, 1, none⟩ = some (.slice da D.cache.length dc) ∧ w7.cell? ⟨X, 2, none⟩ = some (.int .i64 D.ops) ∧ w7.cell? ⟨X, 3, none⟩ = some (.slice ga D.faults.length gc) ∧ w7.cell? ⟨X, 4, none⟩ = some (.bool D.down)) := HWK.out _ hb7)
    | (go_at_call 32; refine (hE _ _ (by repeat (first | exact hb7 | refine Below.drew ?_)) (by first | exact hO7.view | exact hO7.view.below (Below.refl _ _).drew)).mono ?_; rintro e w8 ⟨rfl, hB8⟩; have hb8 : Below w6.heap.size w6 w8 := Below.trans hb7 (Below.trans (by repeat (first | exact Below.refl _ _ | refine Below.drew ?_)) (hB8.mono (by have := hb7.size; exact this))); have hcells8 : (w8.cell? ⟨w.heap.size, 0, none⟩ = some (.slice sa D.secs.length sc) ∧ w8.cell? ⟨w.heap.size, 1, none⟩ = some (.slice ca D.cache.length cc) ∧ w8.cell? ⟨w.heap.size, 2, none⟩ = some (.int .i64 D.ops) ∧ w8.cell? ⟨w.heap.size, 3, none⟩ = some (.slice fa D.faults.length fc) ∧ w8.cell? ⟨w.heap.size, 4, none⟩ = some (.bool D.down)) ∧ (w8.cell? ⟨X, 0, none⟩ = some (.slice ta D.secs.length tc) ∧ w8.cell? ⟨X, 1, none⟩ = some (.slice da D.cache.length dc) ∧ w8.cell? ⟨X, 2, none⟩ = some (.int .i64 D.ops) ∧ w8.cell? ⟨X, 3, none⟩ = some (.slice ga D.faults.length gc) ∧ w8.cell? ⟨X, 4, none⟩ = some (.bool D.down)) := HWK.out _ hb8))
  all_goals
    have HB : Hid (Below w.heap.size w w8) := HB6.out.trans (hb8.mono (by have := HB6.out.size; exact this))
    clear hb7 hb8 hB7 hB8 hcells hcells8 hT hE HWK HB6
    go_wp2
    go_ret
    exact ⟨rfl, by first | exact HB.out | exact HB.out.drew⟩
end Go.Proofs.Ytnlceclfepgmhaa

/-
  What the frame of a row hands over of a disk, and of faults, that came in.
-/
namespace Go.Proofs.Ytnlceclfepgmhaa
open Go.RowKit
set_option maxRecDepth 4000
open Go.Deep Go.ChangeShapes Go.WideShapes

/-- A slice that came in, whose elements are each read, as a list. -/
theorem sliceInL {H : Type} {enc : TypeId × Value → H} {W : World} {sp : Nat → Bool} {α : Type} [Inhabited α] {T e : TypeId} {c fuel : Nat} {cs : List Value} {x : DataW H × List MemPlace}
    (ht : Try.prog.underlying T = some (.slice e)) (hc : Try.prog.cellsOf e = c) (hc0 : 0 < c) (Q : Addr → α → Prop)
    (each : ∀ (fuel : Nat) (cs : List Value) (x : DataW H × List MemPlace) (a : Addr), cs.length = c → (∀ j, j < c → W.cell? (a.add j) = cs[j]?) → DataW.trod enc Try.prog W 0 sp true fuel e cs = some x → ∃ y, Q a y)
    (h : DataW.trod enc Try.prog W 0 sp true fuel T cs = some x) :
    ∃ (ao : Option Addr) (cap : Nat) (l : List α), cs = [.slice ao l.length cap] ∧ l.length ≤ cap ∧ cap ≤ maxLen ∧ (ao = none → cap = 0) ∧ (0 < l.length → ∃ b off, ao = some ⟨b, off, none⟩ ∧ b < W.heap.size ∧ ∀ i y, l[i]? = some y → Q ⟨b, off + i * c, none⟩ y) := by
  rcases DataW.trod_slice ht h with ⟨hcs, _⟩ | ⟨a, l, cap, elems, rest, n, _, hcs, _, _, hl, hm, hlen, hel, _, _⟩
  · exact ⟨none, 0, [], hcs, Nat.le_refl _, Nat.zero_le _, fun _ => rfl, fun h => absurd h (Nat.lt_irrefl _)⟩
  · have key : ∀ i, i < l → ∃ y, Q (a.add (i * c)) y ∧ W.cell? (a.add (i * c)) ≠ none := by
      intro i hi
      have h1 := hel i hi
      rw [hc] at h1
      have h2 : elems[i]? = some elems[i] := List.getElem?_eq_getElem (by omega)
      rw [h2] at h1
      obtain ⟨cs, hcs, htr⟩ := Option.bind_eq_some_iff.1 h1
      obtain ⟨_, hl3, hcell⟩ := World.cells?_some hcs
      obtain ⟨y, hy⟩ := each n cs _ _ hl3 (fun j hj => hcell j hj) htr
      refine ⟨y, hy, ?_⟩
      have := hcell 0 (by omega)
      intro hn
      rw [show (a.add (i * c)).add 0 = a.add (i * c) by unfold Addr.add; split <;> simp_all, hn, List.getElem?_eq_getElem (by omega)] at this
      cases this
    have pick : ∃ f : Nat → α, ∀ i, i < l → Q (a.add (i * c)) (f i) := ⟨fun i => if h : i < l then (key i h).choose else default, fun i hi => by simp only [dif_pos hi]; exact (key i hi).choose_spec.1⟩
    obtain ⟨f, hf⟩ := pick
    have ll : ((List.range l).map f).length = l := by simp
    refine ⟨some a, cap, (List.range l).map f, by rw [ll]; exact hcs, by rw [ll]; exact hl, hm, (fun e => by cases e), fun hn => ?_⟩
    rw [ll] at hn
    obtain ⟨b, off, spot⟩ := a
    obtain ⟨y0, -, h0⟩ := key 0 hn
    obtain ⟨u, hu⟩ := Option.ne_none_iff_exists'.1 h0
    have hs : spot = none := by simpa [Addr.add] using World.cell?_spot hu
    subst hs
    have ea : ∀ j, (⟨b, off, none⟩ : Addr).add j = ⟨b, off + j, none⟩ := fun j => by unfold Addr.add; split <;> simp_all
    rw [ea] at hu
    refine ⟨b, off, rfl, World.block_lt_of_cell? _ _ hu, fun i y hi => ?_⟩
    obtain ⟨hi', e⟩ := List.getElem?_eq_some_iff.1 hi
    rw [ll] at hi'
    have hq := hf i hi'
    rw [ea] at hq
    simp at e
    rw [← e]
    exact hq
theorem addrAdd (b off j : Nat) : (⟨b, off, none⟩ : Addr).add j = ⟨b, off + j, none⟩ := by unfold Addr.add; split <;> simp_all
/-- Bytes that came in, as a cell. -/
theorem bytesIn {H : Type} {enc : TypeId × Value → H} {W : World} {sp : Nat → Bool} {fuel : Nat} {cs : List Value} {x : DataW H × List MemPlace}
    (h : DataW.trod enc Try.prog W 0 sp true fuel 22 cs = some x) : ∃ (v : Value) (l : List Int), cs = [v] ∧ LV W v l ∧ l.length ≤ maxLen := by
  have c1 : Try.prog.cellsOf 5 = 1 := by kernel_rfl
  obtain ⟨a, cap, l, e, hl, hm, hn, hv⟩ := sliceInL (α := Int) Try.underlying22 c1 (by decide) (fun a y => W.cell? (a.add 0) = some (.int .u8 y) ∧ 0 ≤ y ∧ y ≤ 255) (by
    intro fuel cs x a hl hcell htr
    match cs, hl with
    | [c0], _ =>
      obtain ⟨k, e0, _, hk⟩ := DataW.trod_int Try.underlying5 htr
      simp only [List.cons.injEq, and_true] at e0
      subst e0
      have hw : 0 ≤ k ∧ k ≤ 255 := by
        have := range_u8 (zs := [k]) (by intro n hn; simp at hn; subst hn; exact hk) 0
        simpa using this
      exact ⟨k, hcell 0 (by decide), hw⟩) h
  refine ⟨_, l, e, ⟨a, cap, rfl, ⟨hl, fun i hi => ?_, fun hp => ?_⟩, hn⟩, Nat.le_trans hl hm⟩
  · obtain ⟨b, off, ea, hlt, hc⟩ := hv (by omega)
    have := (hc i l[i] (List.getElem?_eq_getElem hi)).2
    have e : bf l i = l[i] := by simp [bf, hi]
    rw [e]; exact this
  · obtain ⟨b, off, ea, hlt, hc⟩ := hv hp
    refine ⟨b, off, ea, hlt, fun i hi => ?_⟩
    have := (hc i l[i] (List.getElem?_eq_getElem hi)).1
    have e : bf l i = l[i] := by simp [bf, hi]
    rw [e]
    simpa only [addrAdd, Nat.add_zero, Nat.mul_one] using this
theorem secsIn {H : Type} {enc : TypeId × Value → H} {W : World} {sp : Nat → Bool} {fuel : Nat} {cs : List Value} {x : DataW H × List MemPlace}
    (h : DataW.trod enc Try.prog W 0 sp true fuel 24 cs = some x) : ∃ a cap l, cs = [.slice a l.length cap] ∧ SView W a cap l ∧ l.length ≤ maxLen ∧ ∀ i (h : i < l.length), (l[i]).length ≤ maxLen := by
  have c1 : Try.prog.cellsOf 22 = 1 := by kernel_rfl
  obtain ⟨a, cap, l, e, hl, hm, hn, hv⟩ := sliceInL (α := List Int) Try.underlying24 c1 (by decide) (fun a y => (∃ u, W.cell? (a.add 0) = some u ∧ LV W u y) ∧ y.length ≤ maxLen) (by
    intro fuel cs x a hl hcell htr
    obtain ⟨v, y, rfl, hy, hm⟩ := bytesIn htr
    exact ⟨y, ⟨v, hcell 0 (by decide), hy⟩, hm⟩) h
  refine ⟨a, cap, l, e, ⟨hl, hn, fun hp => ?_⟩, Nat.le_trans hl hm, fun i hi => ?_⟩
  · obtain ⟨b, off, ea, hlt, hc⟩ := hv hp
    refine ⟨b, off, ea, hlt, fun i y hi => ?_⟩
    obtain ⟨⟨u, hu, hy⟩, -⟩ := hc i y hi
    refine ⟨[u], ⟨u, rfl, hy⟩, fun j v hj => ?_⟩
    match j, hj with
    | 0, hj => cases hj; simpa only [addrAdd, Nat.add_zero] using hu
  · obtain ⟨b, off, ea, hlt, hc⟩ := hv (by omega)
    exact (hc i _ (List.getElem?_eq_getElem hi)).2
theorem writesIn {H : Type} {enc : TypeId × Value → H} {W : World} {sp : Nat → Bool} {fuel : Nat} {cs : List Value} {x : DataW H × List MemPlace}
    (h : DataW.trod enc Try.prog W 0 sp true fuel 54 cs = some x) : ∃ a cap l, cs = [.slice a l.length cap] ∧ WView W a cap l ∧ l.length ≤ maxLen ∧ ∀ i (h : i < l.length), (l[i]).2.length ≤ maxLen := by
  have c1 : Try.prog.cellsOf 112 = 2 := by kernel_rfl
  obtain ⟨a, cap, l, e, hl, hm, hn, hv⟩ := sliceInL (α := Int × List Int) Try.underlying54 c1 (by decide) (fun a y => (W.cell? (a.add 0) = some (.int .i64 y.1) ∧ ∃ u, W.cell? (a.add 1) = some u ∧ LV W u y.2) ∧ y.2.length ≤ maxLen) (by
    intro fuel cs x a hl hcell htr
    obtain ⟨y0, y1, m, _, _, t0, t1⟩ := trod_struct2 Try.underlying112 htr
    have o1 : Try.prog.cellsOf 3 = 1 := by kernel_rfl
    have o2 : Try.prog.cellsOf 22 = 1 := by kernel_rfl
    simp only [o1, o2] at t0 t1
    match cs, hl with
    | [c0, c1], _ =>
      simp only [List.drop_zero, List.drop_succ_cons, List.take_succ_cons, List.take_zero] at t0 t1
      obtain ⟨k, e0, _, _⟩ := DataW.trod_int Try.underlying3 t0
      obtain ⟨v, y, e1, hy, hm⟩ := bytesIn t1
      simp only [List.cons.injEq, and_true] at e0 e1
      subst e0 e1
      exact ⟨(k, y), ⟨hcell 0 (by decide), _, hcell 1 (by decide), hy⟩, hm⟩) h
  refine ⟨a, cap, l, e, ⟨hl, hn, fun hp => ?_⟩, Nat.le_trans hl hm, fun i hi => ?_⟩
  · obtain ⟨b, off, ea, hlt, hc⟩ := hv hp
    refine ⟨b, off, ea, hlt, fun i y hi => ?_⟩
    obtain ⟨⟨h0, u, hu, hy⟩, -⟩ := hc i y hi
    refine ⟨[.int .i64 y.1, u], ⟨u, rfl, hy⟩, fun j v hj => ?_⟩
    match j, hj with
    | 0, hj => cases hj; simpa only [addrAdd, Nat.add_zero] using h0
    | 1, hj => cases hj; simpa only [addrAdd, Nat.add_zero] using hu
  · obtain ⟨b, off, ea, hlt, hc⟩ := hv (by omega)
    exact (hc i _ (List.getElem?_eq_getElem hi)).2
instance : Inhabited PFault := ⟨⟨0, 0, 0⟩⟩
theorem faultsIn {H : Type} {enc : TypeId × Value → H} {W : World} {sp : Nat → Bool} {fuel : Nat} {cs : List Value} {x : DataW H × List MemPlace}
    (h : DataW.trod enc Try.prog W 0 sp true fuel 47 cs = some x) : ∃ a cap l, cs = [.slice a l.length cap] ∧ FView W a cap l ∧ l.length ≤ maxLen := by
  have c1 : Try.prog.cellsOf 94 = 3 := by kernel_rfl
  obtain ⟨a, cap, l, e, hl, hm, hn, hv⟩ := sliceInL (α := PFault) Try.underlying47 c1 (by decide) (fun a y => W.cell? (a.add 0) = some (.int .i64 y.pos) ∧ W.cell? (a.add 1) = some (.int .i64 y.keep) ∧ W.cell? (a.add 2) = some (.int .i64 y.cut)) (by
    intro fuel cs x a hl hcell htr
    obtain ⟨y0, y1, y2, m, _, _, t0, t1, t2⟩ := trod_struct3 Try.underlying94 htr
    have o1 : Try.prog.cellsOf 3 = 1 := by kernel_rfl
    simp only [o1] at t0 t1 t2
    match cs, hl with
    | [c0, c1, c2], _ =>
      simp only [List.drop_zero, List.drop_succ_cons, List.take_succ_cons, List.take_zero] at t0 t1 t2
      obtain ⟨k0, e0, _, _⟩ := DataW.trod_int Try.underlying3 t0
      obtain ⟨k1, e1, _, _⟩ := DataW.trod_int Try.underlying3 t1
      obtain ⟨k2, e2, _, _⟩ := DataW.trod_int Try.underlying3 t2
      simp only [List.cons.injEq, and_true] at e0 e1 e2
      subst e0 e1 e2
      exact ⟨⟨k0, k1, k2⟩, hcell 0 (by decide), hcell 1 (by decide), hcell 2 (by decide)⟩) h
  refine ⟨a, cap, l, e, ⟨hl, hn, fun hp => ?_⟩, Nat.le_trans hl hm⟩
  obtain ⟨b, off, ea, hlt, hc⟩ := hv hp
  refine ⟨b, off, ea, hlt, fun i y hi => ?_⟩
  obtain ⟨h0, h1, h2⟩ := hc i y hi
  refine ⟨_, rfl, fun j v hj => ?_⟩
  match j, hj with
  | 0, hj => cases hj; simpa only [addrAdd, Nat.add_zero] using h0
  | 1, hj => cases hj; simpa only [addrAdd, Nat.add_zero] using h1
  | 2, hj => cases hj; simpa only [addrAdd, Nat.add_zero] using h2
/-- The five cells of a disk that came in. -/
theorem diskIn {H : Type} {enc : TypeId × Value → H} {W : World} {sp : Nat → Bool} {n0 n1 n2 n3 n4 : Nat} {c0 c1 c2 c3 c4 : Value} {y0 y1 y2 y3 y4 : DataW H × List MemPlace}
    (h0 : DataW.trod enc Try.prog W 0 sp true n0 24 [c0] = some y0) (h1 : DataW.trod enc Try.prog W 0 sp true n1 54 [c1] = some y1)
    (h2 : DataW.trod enc Try.prog W 0 sp true n2 3 [c2] = some y2) (h3 : DataW.trod enc Try.prog W 0 sp true n3 47 [c3] = some y3) (h4 : DataW.trod enc Try.prog W 0 sp true n4 4 [c4] = some y4) :
    ∃ D : PDisk, KView W (.agg #[c0, c1, c2, c3, c4]) D ∧ KLim D := by
  obtain ⟨sa, sc, ls, e0, v0, m0, z0⟩ := secsIn h0
  obtain ⟨ca, cc, lc, e1, v1, m1, z1⟩ := writesIn h1
  obtain ⟨k, e2, _, _⟩ := DataW.trod_int Try.underlying3 h2
  obtain ⟨fa, fc, lf, e3, v3, m3⟩ := faultsIn h3
  obtain ⟨z, e4, _⟩ := DataW.trod_bool Try.underlying4 h4
  simp only [List.cons.injEq, and_true] at e0 e1 e2 e3 e4
  subst e0 e1 e2 e3 e4
  exact ⟨⟨ls, lc, k, lf, z⟩, ⟨sa, sc, ca, cc, fa, fc, rfl, v0, v1, v3⟩, ⟨m0, z0, m1, z1, m3⟩⟩
theorem array5 {α : Type} {cs : Array α} (h : cs.size = 5) : ∃ c0 c1 c2 c3 c4, cs = #[c0, c1, c2, c3, c4] := by
  obtain ⟨l⟩ := cs
  match l, h with
  | [c0, c1, c2, c3, c4], _ => exact ⟨c0, c1, c2, c3, c4, rfl⟩
/-- A struct of five fields of one cell each, opened. -/
theorem openFive {H : Type} {enc : TypeId × Value → H} {w : World} {base : Nat} {spare : Nat → Bool} {held : Bool} {r : Reach} {b0 : Nat} {t : TypeId} {f0 f1 f2 f3 f4 : Field} {v : Value} {d : DataW H} {p : List MemPlace} (hs : Try.prog.underlying t = some (.struct #[f0, f1, f2, f3, f4])) (hone : oneCellFields Try.prog #[f0, f1, f2, f3, f4] = true) (hC : Try.prog.cellsOf t = 5)
    (hv : Value.okWide Try.prog w r b0 t v) (h : DataW.Trod enc Try.prog w base spare held t v d p) :
    ∃ (v0 v1 v2 v3 v4 : Value) (y0 y1 y2 y3 y4 : DataW H × List MemPlace) (n : Nat), v = .agg #[v0, v1, v2, v3, v4] ∧ d = .agg [y0.1, y1.1, y2.1, y3.1, y4.1] ∧ p = y0.2 ++ (y1.2 ++ (y2.2 ++ (y3.2 ++ y4.2))) ∧
      DataW.trod enc Try.prog w base spare held n f0.type [v0] = some y0 ∧ DataW.trod enc Try.prog w base spare held n f1.type [v1] = some y1 ∧ DataW.trod enc Try.prog w base spare held n f2.type [v2] = some y2 ∧ DataW.trod enc Try.prog w base spare held n f3.type [v3] = some y3 ∧ DataW.trod enc Try.prog w base spare held n f4.type [v4] = some y4 := by
  obtain ⟨cs, rfl, hsz⟩ := okWide_struct hs hv
  obtain ⟨c0, c1, c2, c3, c4, rfl⟩ := array5 (hsz.trans hC)
  obtain ⟨fuel, hf⟩ := h
  obtain ⟨xs, n, _, hx, hl, hlen, hfs⟩ := DataW.trod_struct hs hf
  match xs, hlen, hx, hfs with
  | [y0, y1, y2, y3, y4], _, hx, hfs =>
    have h0 := hfs 0 f0 rfl
    have h1 := hfs 1 f1 rfl
    have h2 := hfs 2 f2 rfl
    have h3 := hfs 3 f3 rfl
    have h4 := hfs 4 f4 rfl
    obtain ⟨o0, k0⟩ := hone_of hone 0 f0 rfl
    obtain ⟨o1, k1⟩ := hone_of hone 1 f1 rfl
    obtain ⟨o2, k2⟩ := hone_of hone 2 f2 rfl
    obtain ⟨o3, k3⟩ := hone_of hone 3 f3 rfl
    obtain ⟨o4, k4⟩ := hone_of hone 4 f4 rfl
    simp only [Prod.mk.injEq] at hx
    exact ⟨c0, c1, c2, c3, c4, y0, y1, y2, y3, y4, n, rfl, by simpa using hx.1, by simpa using hx.2, by simpa [Value.cells, o0, k0] using h0, by simpa [Value.cells, o1, k1] using h1, by simpa [Value.cells, o2, k2] using h2, by simpa [Value.cells, o3, k3] using h3, by simpa [Value.cells, o4, k4] using h4⟩
end Go.Proofs.Ytnlceclfepgmhaa

