/-
  Together: ReadLen, DiskOkSpec, MayS
-/
import Derived.Test.YtdhfbblameiloaaUP14
import Derived.Test.YtdhfbblameiloaaUP4
import Derived.Test.YtdhfbblameiloaaUP3
/-
  What ReadSec comes to, as bytes and a bool; how many bytes.
-/
namespace Go.Proofs.Ytdhfbblameiloaa
open Go.RowKit
set_option maxRecDepth 4000

def hasB (D : PDisk) (n : Int) : Bool := decide (0 ≤ n ∧ n < D.secs.length)
theorem hasB_iff (D : PDisk) (n : Int) : hasB D n = true ↔ HasS D n := by simp [hasB, HasS]
theorem ReadTo.bto {w w' : World} {D : PDisk} {n : Int} {e : Ending} (h : ReadTo w D n e w') : BTo w (readB D n) (hasB D n) e w' := by
  obtain ⟨v, ok, rfl, hok, hO, hb⟩ := h
  have : ok = hasB D n := by
    rw [Bool.eq_iff_iff, hok, hasB_iff]
  subst this
  exact ⟨v, rfl, hO.oz, hb⟩
theorem lastW_mem {l : List (Int × List Int)} {n : Int} : ∀ {k : Nat} {b : List Int}, lastW l n k = some b → ∃ x ∈ l, x.2 = b
  | 0, b, h => by cases h
  | k + 1, b, h => by
    rw [lastW] at h
    split at h
    · obtain ⟨x, hx, rfl⟩ := Option.map_eq_some_iff.1 h
      exact ⟨x, List.mem_of_getElem? hx, rfl⟩
    · exact lastW_mem h
theorem readB_len {D : PDisk} (hf : KFine D) (n : Int) : (readB D n).length ≤ 1048576 := by
  unfold readB
  split
  · rename_i hn
    cases hl : lastW D.cache n D.cache.length with
    | some b =>
      obtain ⟨x, hx, rfl⟩ := lastW_mem hl
      exact hf.cache x hx
    | none =>
      have hi : n.toNat < D.secs.length := by omega
      have e : (Option.none.getD (D.secs.getD n.toNat []) : List Int) = D.secs[n.toNat] := by simp [hi]
      rw [e]
      exact hf.sec _ (List.getElem_mem hi)
  · simp
end Go.Proofs.Ytdhfbblameiloaa

/-
  The model's DiskOk.
-/
namespace Go.Proofs.Ytdhfbblameiloaa
open Go.RowKit
set_option maxRecDepth 4000

set_option maxHeartbeats 4000000 in
theorem specDiskOk_any (v : Value) (D : PDisk) (w : World) (h : KView w v D) (hf : KFine D) :
    Calls Try.prog 28 #[v] w (Says w (OkD D)) := by
  obtain ⟨sa, sc, ca, cc, fa, fc, rfl, hs, hc, hfv⟩ := h.is
  clear h
  have hB0 := box5_start w (.cells #[.slice sa D.secs.length sc, .slice ca D.cache.length cc, .int .i64 D.ops, .slice fa D.faults.length fc, .bool D.down] 32)
  have hns := hf.ns
  have hcl := hf.nc
  have HH : Hid (SView w sa sc D.secs ∧ WView w ca cc D.cache ∧ FView w fa fc D.faults ∧ KFine D) := ⟨hs, hc, hfv, hf⟩
  clear hs hc hfv hf
  go_enter Try.func28, Try.ntmps28
  go_wp2
  go_loopg [3] D.secs.length (fun q i wr => ∃ k : Nat, k ≤ D.secs.length ∧ q = D.secs.length - k ∧ i = .int .i64 k ∧ Below (w.heap.size + 1) (w.alloc (.cells #[.slice sa D.secs.length sc, .slice ca D.cache.length cc, .int .i64 D.ops, .slice fa D.faults.length fc, .bool D.down] 32)) wr ∧ Hid (∀ i (h : i < D.secs.length), i < k → (D.secs[i]).length ≤ 256))
  case atStart => exact ⟨0, Nat.zero_le _, rfl, rfl, hB0, fun i _ hi => absurd hi (Nat.not_lt_zero _)⟩
  case round =>
    clear hB0
    obtain ⟨k, hk, rfl, rfl, hB5, HA⟩ := hrel
    obtain ⟨hB, -⟩ := box5_below hB5
    by_cases hlt : k < D.secs.length
    · obtain ⟨b1, o1, a', c', esa, hb1, x0, -, -⟩ := sview_at (sview_below HH.out.1 hB) hlt
      obtain ⟨y0, y1, y2, y3, y4⟩ := box5 hB5
      subst esa
      have hkz : (k : Int) < (D.secs.length : Int) := by omega
      have HN : Hid ((D.secs[k]).length ≤ 256 → ∀ i (h : i < D.secs.length), i < k + 1 → (D.secs[i]).length ≤ 256) := by
        intro hp i h hi
        by_cases e : i < k
        · exact HA.out i h e
        · obtain rfl : i = k := by omega
          exact hp
      have HNO : Hid (¬ (D.secs[k]).length ≤ 256 → ¬ OkD D) := fun h1 h2 => h1 (h2.1.2.2 k hlt)
      clear HA
      obtain ⟨p0, hp0⟩ := hidEx (D.secs[k]).length
      rw [hp0.out] at x0 HN HNO
      by_cases hp : p0 ≤ 256
      · have hp2 : ¬ (256 : Int) < p0 := by omega
        have HN2 : Hid (∀ i (h : i < D.secs.length), i < k + 1 → (D.secs[i]).length ≤ 256) := HN.out hp
        clear HN HNO
        go_wp2
        go_roundg (D.secs.length - (k + 1))
        case measure => omega
        case rel => exact ⟨k + 1, by omega, rfl, by go_num, hB5, HN2⟩
      · have hp2 : (256 : Int) < p0 := by omega
        have HN2 : Hid (¬ OkD D) := HNO.out hp
        clear HN HNO
        go_wp2
        go_ret
        exact Says.no HN2.out hB
    · have hkz : ¬ (k : Int) < (D.secs.length : Int) := by omega
      obtain ⟨y0, y1, y2, y3, y4⟩ := box5 hB5
      have HSH : Hid (Short D.secs) := fun i h => HA.out i h (by omega)
      clear HA
      go_wp2
      clear y0 y1 y2 y3 y4
      go_loopg [4] D.cache.length (fun q i wr => ∃ k : Nat, k ≤ D.cache.length ∧ q = D.cache.length - k ∧ i = .int .i64 k ∧ Below (w.heap.size + 1) (w.alloc (.cells #[.slice sa D.secs.length sc, .slice ca D.cache.length cc, .int .i64 D.ops, .slice fa D.faults.length fc, .bool D.down] 32)) wr ∧ Hid (∀ i (h : i < D.cache.length), i < k → 0 ≤ (D.cache[i]).1 ∧ (D.cache[i]).1 < D.secs.length ∧ (D.cache[i]).2.length ≤ 256))
      case atStart => exact ⟨0, Nat.zero_le _, rfl, rfl, hB5, fun i _ hi => absurd hi (Nat.not_lt_zero _)⟩
      case round =>
        clear hB5
        obtain ⟨k, hk, rfl, rfl, hB5, HA⟩ := hrel
        obtain ⟨hB, -⟩ := box5_below hB5
        by_cases hlt : k < D.cache.length
        · obtain ⟨b1, o1, a3, c3, esa, hb1, x0, x1, -, -⟩ := wview_at (wview_below HH.out.2.1 hB) hlt
          obtain ⟨y0, y1, -, -, -⟩ := box5 hB5
          subst esa
          have hkz : (k : Int) < (D.cache.length : Int) := by omega
          have HN : Hid ((0 ≤ (D.cache[k]).1 ∧ (D.cache[k]).1 < D.secs.length ∧ (D.cache[k]).2.length ≤ 256) → ∀ i (h : i < D.cache.length), i < k + 1 → 0 ≤ (D.cache[i]).1 ∧ (D.cache[i]).1 < D.secs.length ∧ (D.cache[i]).2.length ≤ 256) := by
            intro hp i h hi
            by_cases e : i < k
            · exact HA.out i h e
            · obtain rfl : i = k := by omega
              exact hp
          have HNO : Hid (¬ (0 ≤ (D.cache[k]).1 ∧ (D.cache[k]).1 < D.secs.length ∧ (D.cache[k]).2.length ≤ 256) → ¬ CacheOk D.secs.length D.cache) := fun h1 h2 => h1 (h2.2 k hlt)
          clear HA
          obtain ⟨p0, hp0⟩ := hidEx (D.cache[k]).2.length
          obtain ⟨p1, hp1⟩ := hidEx (D.cache[k]).1
          rw [hp0.out] at x1 HN HNO
          rw [hp1.out] at x0 HN HNO
          have hbD5 := hB5.drew
          have hbD : Below w.heap.size w wr.drew := hB.drew
          have hs1 : IntKind.i64.wrap ((D.secs.length : Int) - 1) = (D.secs.length : Int) - 1 := by rw [IntKind.wrap_i64]; omega
          clear hp0 hp1 hB hB5
          by_cases h1 : 0 ≤ p1 ∧ p1 < D.secs.length
          case neg =>
            have HN2 : Hid (¬ CacheOk D.secs.length D.cache) := HNO.out (fun h => h1 ⟨h.1, h.2.1⟩)
            have hV0 := fun W => l1In_no p1 0 ((D.secs.length : Int) - 1) W (by omega)
            clear HN HNO HH HSH
            have hS : (fun W : World => (W.cell? ⟨w.heap.size, 0, none⟩ = some (.slice sa D.secs.length sc) ∧ W.cell? ⟨w.heap.size, 1, none⟩ = some (.slice (some ⟨b1, o1, none⟩) D.cache.length cc)) ∧ W.cell? ⟨b1, o1 + k * 2, none⟩ = some (.int .i64 p1) ∧ W.cell? ⟨b1, o1 + k * 2 + 1, none⟩ = some (.slice a3 p0 c3)) wr.drew := ⟨⟨y0, y1⟩, x0, x1⟩
            go_wp2_with fail
            refine wp_region_held_drew (S := fun W => (W.cell? ⟨w.heap.size, 0, none⟩ = some (.slice sa D.secs.length sc) ∧ W.cell? ⟨w.heap.size, 1, none⟩ = some (.slice (some ⟨b1, o1, none⟩) D.cache.length cc)) ∧ W.cell? ⟨b1, o1 + k * 2, none⟩ = some (.int .i64 p1) ∧ W.cell? ⟨b1, o1 + k * 2 + 1, none⟩ = some (.slice a3 p0 c3)) (by kernel_rfl) hS (fun hHeld => ?_)
            refine' wpAnyH_take (i := 0) (v := _) rfl (by kernel_rfl) (by kernel_rfl) (by kernel_rfl) (fun _ _ _ h => h) (Or.inl ⟨by kernel_rfl, ?hga1⟩) (by assumption) ?rga1
            case hga1 => intro W hW; obtain ⟨⟨e0, e1⟩, c0, c1⟩ := hW; go_simp; all_goals with_reducible rfl
            change wpAnyH _ _ _ _ _ _ _ (Act.put _ (some 26) _) _
            simp only [Act.put, List.setIfInBounds_toArray, List.set_cons_zero, List.set_cons_succ]
            refine' wpAnyH_take (i := 1) (v := _) rfl (by kernel_rfl) (by kernel_rfl) (by kernel_rfl) (fun _ _ _ h => h) (Or.inl ⟨by kernel_rfl, ?hga2⟩) (by assumption) ?rga2
            case hga2 => intro W hW; obtain ⟨⟨e0, e1⟩, c0, c1⟩ := hW; go_simp; all_goals with_reducible rfl
            change wpAnyH _ _ _ _ _ _ _ (Act.put _ (some 27) _) _
            simp only [Act.put, List.setIfInBounds_toArray, List.set_cons_zero, List.set_cons_succ]
            refine' wpAnyH_take (i := 2) (v := _) rfl (by kernel_rfl) (by kernel_rfl) (by kernel_rfl) (fun _ _ _ h => h) (Or.inl ⟨by kernel_rfl, ?hga3⟩) (by assumption) ?rga3
            case hga3 => intro W hW; obtain ⟨⟨e0, e1⟩, c0, c1⟩ := hW; go_simp; all_goals with_reducible rfl
            change wpAnyH _ _ _ _ _ _ _ (Act.put _ (some 28) _) _
            simp only [Act.put, List.setIfInBounds_toArray, List.set_cons_zero, List.set_cons_succ]
            refine' wpAnyH_take (i := 3) (v := _) rfl (by kernel_rfl) (by kernel_rfl) (by kernel_rfl) (fun _ _ _ h => h) (Or.inl ⟨by kernel_rfl, ?hga4⟩) (by assumption) ?rga4
            case hga4 => intro W hW; obtain ⟨⟨e0, e1⟩, c0, c1⟩ := hW; go_simp; all_goals with_reducible rfl
            change wpAnyH _ _ _ _ _ _ _ (Act.put _ (some 29) _) _
            simp only [Act.put, List.setIfInBounds_toArray, List.set_cons_zero, List.set_cons_succ]
            refine' wpAnyH_take (i := 4) (v := _) rfl (by kernel_rfl) (by kernel_rfl) (by kernel_rfl) (fun _ _ _ h => h) (Or.inl ⟨by kernel_rfl, ?hga5⟩) (by assumption) ?rga5
            case hga5 => intro W hW; obtain ⟨⟨e0, e1⟩, c0, c1⟩ := hW; go_simp; all_goals with_reducible rfl
            change wpAnyH _ _ _ _ _ _ _ (Act.put _ (some 30) _) _
            simp only [Act.put, List.setIfInBounds_toArray, List.set_cons_zero, List.set_cons_succ]
            refine' wpAnyH_take (i := 5) (v := _) rfl (by kernel_rfl) (by kernel_rfl) (by kernel_rfl) (fun _ _ _ h => h) (Or.inl ⟨by kernel_rfl, ?hga6⟩) (by assumption) ?rga6
            case hga6 => intro W hW; obtain ⟨⟨e0, e1⟩, c0, c1⟩ := hW; go_simp; all_goals with_reducible rfl
            change wpAnyH _ _ _ _ _ _ _ (Act.put _ (some 31) _) _
            simp only [Act.put, List.setIfInBounds_toArray, List.set_cons_zero, List.set_cons_succ]
            refine' wpAnyH_take (i := 6) (v := _) rfl (by kernel_rfl) (by kernel_rfl) (by kernel_rfl) (fun _ _ _ h => h) (Or.inl ⟨by kernel_rfl, ?hga7⟩) (by assumption) ?rga7
            case hga7 => intro W hW; obtain ⟨⟨e0, e1⟩, c0, c1⟩ := hW; go_simp; all_goals with_reducible rfl
            change wpAnyH _ _ _ _ _ _ _ (Act.put _ (some 32) _) _
            simp only [Act.put, List.setIfInBounds_toArray, List.set_cons_zero, List.set_cons_succ]
            refine' wpAnyH_take (i := 7) (v := _) rfl (by kernel_rfl) (by kernel_rfl) (by kernel_rfl) (fun _ _ _ h => h) (Or.inl ⟨by kernel_rfl, ?hga8⟩) (by assumption) ?rga8
            case hga8 => intro W hW; obtain ⟨⟨e0, e1⟩, c0, c1⟩ := hW; go_simp; all_goals with_reducible rfl
            change wpAnyH _ _ _ _ _ _ _ (Act.put _ (some 33) _) _
            simp only [Act.put, List.setIfInBounds_toArray, List.set_cons_zero, List.set_cons_succ]
            refine' wpAnyH_take (i := 8) (v := _) rfl (by kernel_rfl) (by kernel_rfl) (by kernel_rfl) (fun _ _ _ h => h) (Or.inl ⟨by kernel_rfl, ?hga9⟩) (by assumption) ?rga9
            case hga9 => intro W hW; obtain ⟨⟨e0, e1⟩, c0, c1⟩ := hW; go_simp; all_goals with_reducible rfl
            change wpAnyH _ _ _ _ _ _ _ (Act.put _ (some 34) _) _
            simp only [Act.put, List.setIfInBounds_toArray, List.set_cons_zero, List.set_cons_succ]
            refine' wpAnyH_take (i := 9) (v := _) rfl (by kernel_rfl) (by kernel_rfl) (by kernel_rfl) (fun _ _ _ h => h) (Or.inl ⟨by kernel_rfl, ?hga10⟩) (by assumption) ?rga10
            case hga10 => intro W hW; obtain ⟨⟨e0, e1⟩, c0, c1⟩ := hW; go_simp; all_goals with_reducible rfl
            change wpAnyH _ _ _ _ _ _ _ (Act.put _ (some 35) _) _
            simp only [Act.put, List.setIfInBounds_toArray, List.set_cons_zero, List.set_cons_succ]
            refine wpAnyH_ready (rs := [10]) (by kernel_rfl) (by simp) ?_
            refine AllReadyH.cons rfl (fun KK hK => ?_) AllReadyH.nil
            go_simp
            refine (hV0 _).mono ?_
            rintro e w5 ⟨rfl, rfl⟩
            go_wp2_with fail
            refine hK.out _ _ hS (fun hHeld => ?_)
            clear hK KK
            try simp only [Act.put, List.setIfInBounds_toArray, List.set_cons_zero, List.set_cons_succ]
            refine' wpAnyH_take (i := 11) (v := _) rfl (by kernel_rfl) (by kernel_rfl) (by kernel_rfl) (fun _ _ _ h => h) (Or.inl ⟨by kernel_rfl, ?hga11⟩) (by assumption) ?rga11
            case hga11 => intro W hW; obtain ⟨⟨e0, e1⟩, c0, c1⟩ := hW; go_simp; all_goals with_reducible rfl
            change wpAnyH _ _ _ _ _ _ _ (Act.put _ (some 37) _) _
            simp only [Act.put, List.setIfInBounds_toArray, List.set_cons_zero, List.set_cons_succ]
            refine' wpAnyH_take (i := 12) (v := _) rfl (by kernel_rfl) (by kernel_rfl) (by kernel_rfl) (fun _ _ _ h => h) (Or.inl ⟨by kernel_rfl, ?hga12⟩) (by assumption) ?rga12
            case hga12 => intro W hW; obtain ⟨⟨e0, e1⟩, c0, c1⟩ := hW; go_simp; all_goals with_reducible rfl
            change wpAnyH _ _ _ _ _ _ _ (Act.put _ (some 38) _) _
            simp only [Act.put, List.setIfInBounds_toArray, List.set_cons_zero, List.set_cons_succ]
            refine wpAnyH_take (i := 13) (v := undef) rfl (by kernel_rfl) (by kernel_rfl) (by kernel_rfl) (fun _ _ _ h => h) (Or.inr ⟨by kernel_rfl, rfl⟩) (by assumption) ?_
            change wpAnyH _ _ _ _ _ _ _ (Act.put _ (some 39) _) _
            simp only [Act.put, List.setIfInBounds_toArray, List.set_cons_zero, List.set_cons_succ]
            refine wpAnyH_take (i := 14) (v := undef) rfl (by kernel_rfl) (by kernel_rfl) (by kernel_rfl) (fun _ _ _ h => h) (Or.inr ⟨by kernel_rfl, rfl⟩) (by assumption) ?_
            change wpAnyH _ _ _ _ _ _ _ (Act.put _ (some 40) _) _
            simp only [Act.put, List.setIfInBounds_toArray, List.set_cons_zero, List.set_cons_succ]
            refine wpAnyH_take (i := 15) (v := undef) rfl (by kernel_rfl) (by kernel_rfl) (by kernel_rfl) (fun _ _ _ h => h) (Or.inr ⟨by kernel_rfl, rfl⟩) (by assumption) ?_
            change wpAnyH _ _ _ _ _ _ _ (Act.put _ (some 41) _) _
            simp only [Act.put, List.setIfInBounds_toArray, List.set_cons_zero, List.set_cons_succ]
            refine wpAnyH_take (i := 16) (v := undef) rfl (by kernel_rfl) (by kernel_rfl) (by kernel_rfl) (fun _ _ _ h => h) (Or.inr ⟨by kernel_rfl, rfl⟩) (by assumption) ?_
            change wpAnyH _ _ _ _ _ _ _ (Act.put _ (some 42) _) _
            simp only [Act.put, List.setIfInBounds_toArray, List.set_cons_zero, List.set_cons_succ]
            refine wpAnyH_take (i := 17) (v := undef) rfl (by kernel_rfl) (by kernel_rfl) (by kernel_rfl) (fun _ _ _ h => h) (Or.inr ⟨by kernel_rfl, rfl⟩) (by assumption) ?_
            change wpAnyH _ _ _ _ _ _ _ (Act.put _ (some 43) _) _
            simp only [Act.put, List.setIfInBounds_toArray, List.set_cons_zero, List.set_cons_succ]
            refine wpAnyH_take (i := 18) (v := undef) rfl (by kernel_rfl) (by kernel_rfl) (by kernel_rfl) (fun _ _ _ h => h) (Or.inr ⟨by kernel_rfl, rfl⟩) (by assumption) ?_
            change wpAnyH _ _ _ _ _ _ _ (Act.put _ (some 44) _) _
            simp only [Act.put, List.setIfInBounds_toArray, List.set_cons_zero, List.set_cons_succ]
            refine wpAnyH_take (i := 19) (v := undef) rfl (by kernel_rfl) (by kernel_rfl) (by kernel_rfl) (fun _ _ _ h => h) (Or.inr ⟨by kernel_rfl, rfl⟩) (by assumption) ?_
            change wpAnyH _ _ _ _ _ _ _ (Act.put _ (some 45) _) _
            simp only [Act.put, List.setIfInBounds_toArray, List.set_cons_zero, List.set_cons_succ]
            refine wpAnyH_take (i := 20) (v := undef) rfl (by kernel_rfl) (by kernel_rfl) (by kernel_rfl) (fun _ _ _ h => h) (Or.inr ⟨by kernel_rfl, rfl⟩) (by assumption) ?_
            change wpAnyH _ _ _ _ _ _ _ (Act.put _ (some 46) _) _
            simp only [Act.put, List.setIfInBounds_toArray, List.set_cons_zero, List.set_cons_succ]
            refine' wpAnyH_take (i := 21) (v := _) rfl (by kernel_rfl) (by kernel_rfl) (by kernel_rfl) (fun _ _ _ h => h) (Or.inl ⟨by kernel_rfl, ?hga21⟩) (by assumption) ?rga21
            case hga21 => intro W hW; obtain ⟨⟨e0, e1⟩, c0, c1⟩ := hW; go_simp; all_goals with_reducible rfl
            change wpAnyH _ _ _ _ _ _ _ (Act.put _ (some 47) _) _
            simp only [Act.put, List.setIfInBounds_toArray, List.set_cons_zero, List.set_cons_succ]
            refine wpAnyH_done (by kernel_rfl) ?_ _
            clear hHeld hS
            go_wp2
            go_ret
            exact Says.no (fun h => HN2.out h.2.1) hbD

          have hV0 := fun W => l1In_yes p1 0 ((D.secs.length : Int) - 1) W h1.1 (by omega)
          have hS : (fun W : World => (W.cell? ⟨w.heap.size, 0, none⟩ = some (.slice sa D.secs.length sc) ∧ W.cell? ⟨w.heap.size, 1, none⟩ = some (.slice (some ⟨b1, o1, none⟩) D.cache.length cc)) ∧ W.cell? ⟨b1, o1 + k * 2, none⟩ = some (.int .i64 p1) ∧ W.cell? ⟨b1, o1 + k * 2 + 1, none⟩ = some (.slice a3 p0 c3)) wr.drew := ⟨⟨y0, y1⟩, x0, x1⟩
          go_wp2_with fail
          refine wp_region_held_drew (S := fun W => (W.cell? ⟨w.heap.size, 0, none⟩ = some (.slice sa D.secs.length sc) ∧ W.cell? ⟨w.heap.size, 1, none⟩ = some (.slice (some ⟨b1, o1, none⟩) D.cache.length cc)) ∧ W.cell? ⟨b1, o1 + k * 2, none⟩ = some (.int .i64 p1) ∧ W.cell? ⟨b1, o1 + k * 2 + 1, none⟩ = some (.slice a3 p0 c3)) (by kernel_rfl) hS (fun hHeld => ?_)
          refine' wpAnyH_take (i := 0) (v := _) rfl (by kernel_rfl) (by kernel_rfl) (by kernel_rfl) (fun _ _ _ h => h) (Or.inl ⟨by kernel_rfl, ?hgb1⟩) (by assumption) ?rgb1
          case hgb1 => intro W hW; obtain ⟨⟨e0, e1⟩, c0, c1⟩ := hW; go_simp; all_goals with_reducible rfl
          change wpAnyH _ _ _ _ _ _ _ (Act.put _ (some 26) _) _
          simp only [Act.put, List.setIfInBounds_toArray, List.set_cons_zero, List.set_cons_succ]
          refine' wpAnyH_take (i := 1) (v := _) rfl (by kernel_rfl) (by kernel_rfl) (by kernel_rfl) (fun _ _ _ h => h) (Or.inl ⟨by kernel_rfl, ?hgb2⟩) (by assumption) ?rgb2
          case hgb2 => intro W hW; obtain ⟨⟨e0, e1⟩, c0, c1⟩ := hW; go_simp; all_goals with_reducible rfl
          change wpAnyH _ _ _ _ _ _ _ (Act.put _ (some 27) _) _
          simp only [Act.put, List.setIfInBounds_toArray, List.set_cons_zero, List.set_cons_succ]
          refine' wpAnyH_take (i := 2) (v := _) rfl (by kernel_rfl) (by kernel_rfl) (by kernel_rfl) (fun _ _ _ h => h) (Or.inl ⟨by kernel_rfl, ?hgb3⟩) (by assumption) ?rgb3
          case hgb3 => intro W hW; obtain ⟨⟨e0, e1⟩, c0, c1⟩ := hW; go_simp; all_goals with_reducible rfl
          change wpAnyH _ _ _ _ _ _ _ (Act.put _ (some 28) _) _
          simp only [Act.put, List.setIfInBounds_toArray, List.set_cons_zero, List.set_cons_succ]
          refine' wpAnyH_take (i := 3) (v := _) rfl (by kernel_rfl) (by kernel_rfl) (by kernel_rfl) (fun _ _ _ h => h) (Or.inl ⟨by kernel_rfl, ?hgb4⟩) (by assumption) ?rgb4
          case hgb4 => intro W hW; obtain ⟨⟨e0, e1⟩, c0, c1⟩ := hW; go_simp; all_goals with_reducible rfl
          change wpAnyH _ _ _ _ _ _ _ (Act.put _ (some 29) _) _
          simp only [Act.put, List.setIfInBounds_toArray, List.set_cons_zero, List.set_cons_succ]
          refine' wpAnyH_take (i := 4) (v := _) rfl (by kernel_rfl) (by kernel_rfl) (by kernel_rfl) (fun _ _ _ h => h) (Or.inl ⟨by kernel_rfl, ?hgb5⟩) (by assumption) ?rgb5
          case hgb5 => intro W hW; obtain ⟨⟨e0, e1⟩, c0, c1⟩ := hW; go_simp; all_goals with_reducible rfl
          change wpAnyH _ _ _ _ _ _ _ (Act.put _ (some 30) _) _
          simp only [Act.put, List.setIfInBounds_toArray, List.set_cons_zero, List.set_cons_succ]
          refine' wpAnyH_take (i := 5) (v := _) rfl (by kernel_rfl) (by kernel_rfl) (by kernel_rfl) (fun _ _ _ h => h) (Or.inl ⟨by kernel_rfl, ?hgb6⟩) (by assumption) ?rgb6
          case hgb6 => intro W hW; obtain ⟨⟨e0, e1⟩, c0, c1⟩ := hW; go_simp; all_goals with_reducible rfl
          change wpAnyH _ _ _ _ _ _ _ (Act.put _ (some 31) _) _
          simp only [Act.put, List.setIfInBounds_toArray, List.set_cons_zero, List.set_cons_succ]
          refine' wpAnyH_take (i := 6) (v := _) rfl (by kernel_rfl) (by kernel_rfl) (by kernel_rfl) (fun _ _ _ h => h) (Or.inl ⟨by kernel_rfl, ?hgb7⟩) (by assumption) ?rgb7
          case hgb7 => intro W hW; obtain ⟨⟨e0, e1⟩, c0, c1⟩ := hW; go_simp; all_goals with_reducible rfl
          change wpAnyH _ _ _ _ _ _ _ (Act.put _ (some 32) _) _
          simp only [Act.put, List.setIfInBounds_toArray, List.set_cons_zero, List.set_cons_succ]
          refine' wpAnyH_take (i := 7) (v := _) rfl (by kernel_rfl) (by kernel_rfl) (by kernel_rfl) (fun _ _ _ h => h) (Or.inl ⟨by kernel_rfl, ?hgb8⟩) (by assumption) ?rgb8
          case hgb8 => intro W hW; obtain ⟨⟨e0, e1⟩, c0, c1⟩ := hW; go_simp; all_goals with_reducible rfl
          change wpAnyH _ _ _ _ _ _ _ (Act.put _ (some 33) _) _
          simp only [Act.put, List.setIfInBounds_toArray, List.set_cons_zero, List.set_cons_succ]
          refine' wpAnyH_take (i := 8) (v := _) rfl (by kernel_rfl) (by kernel_rfl) (by kernel_rfl) (fun _ _ _ h => h) (Or.inl ⟨by kernel_rfl, ?hgb9⟩) (by assumption) ?rgb9
          case hgb9 => intro W hW; obtain ⟨⟨e0, e1⟩, c0, c1⟩ := hW; go_simp; all_goals with_reducible rfl
          change wpAnyH _ _ _ _ _ _ _ (Act.put _ (some 34) _) _
          simp only [Act.put, List.setIfInBounds_toArray, List.set_cons_zero, List.set_cons_succ]
          refine' wpAnyH_take (i := 9) (v := _) rfl (by kernel_rfl) (by kernel_rfl) (by kernel_rfl) (fun _ _ _ h => h) (Or.inl ⟨by kernel_rfl, ?hgb10⟩) (by assumption) ?rgb10
          case hgb10 => intro W hW; obtain ⟨⟨e0, e1⟩, c0, c1⟩ := hW; go_simp; all_goals with_reducible rfl
          change wpAnyH _ _ _ _ _ _ _ (Act.put _ (some 35) _) _
          simp only [Act.put, List.setIfInBounds_toArray, List.set_cons_zero, List.set_cons_succ]
          refine wpAnyH_ready (rs := [10]) (by kernel_rfl) (by simp) ?_
          refine AllReadyH.cons rfl (fun KK hK => ?_) AllReadyH.nil
          go_simp
          refine (hV0 _).mono ?_
          rintro e w5 ⟨rfl, rfl⟩
          go_wp2_with fail
          refine hK.out _ _ hS (fun hHeld => ?_)
          clear hK KK
          try simp only [Act.put, List.setIfInBounds_toArray, List.set_cons_zero, List.set_cons_succ]
          refine' wpAnyH_take (i := 11) (v := _) rfl (by kernel_rfl) (by kernel_rfl) (by kernel_rfl) (fun _ _ _ h => h) (Or.inl ⟨by kernel_rfl, ?hgb11⟩) (by assumption) ?rgb11
          case hgb11 => intro W hW; obtain ⟨⟨e0, e1⟩, c0, c1⟩ := hW; go_simp; all_goals with_reducible rfl
          change wpAnyH _ _ _ _ _ _ _ (Act.put _ (some 37) _) _
          simp only [Act.put, List.setIfInBounds_toArray, List.set_cons_zero, List.set_cons_succ]
          refine' wpAnyH_take (i := 12) (v := _) rfl (by kernel_rfl) (by kernel_rfl) (by kernel_rfl) (fun _ _ _ h => h) (Or.inl ⟨by kernel_rfl, ?hgb12⟩) (by assumption) ?rgb12
          case hgb12 => intro W hW; obtain ⟨⟨e0, e1⟩, c0, c1⟩ := hW; go_simp; all_goals with_reducible rfl
          change wpAnyH _ _ _ _ _ _ _ (Act.put _ (some 38) _) _
          simp only [Act.put, List.setIfInBounds_toArray, List.set_cons_zero, List.set_cons_succ]
          refine' wpAnyH_take (i := 13) (v := _) rfl (by kernel_rfl) (by kernel_rfl) (by kernel_rfl) (fun _ _ _ h => h) (Or.inl ⟨by kernel_rfl, ?hgb13⟩) (by assumption) ?rgb13
          case hgb13 => intro W hW; obtain ⟨⟨e0, e1⟩, c0, c1⟩ := hW; go_simp; all_goals with_reducible rfl
          change wpAnyH _ _ _ _ _ _ _ (Act.put _ (some 39) _) _
          simp only [Act.put, List.setIfInBounds_toArray, List.set_cons_zero, List.set_cons_succ]
          refine' wpAnyH_take (i := 14) (v := _) rfl (by kernel_rfl) (by kernel_rfl) (by kernel_rfl) (fun _ _ _ h => h) (Or.inl ⟨by kernel_rfl, ?hgb14⟩) (by assumption) ?rgb14
          case hgb14 => intro W hW; obtain ⟨⟨e0, e1⟩, c0, c1⟩ := hW; go_simp; all_goals with_reducible rfl
          change wpAnyH _ _ _ _ _ _ _ (Act.put _ (some 40) _) _
          simp only [Act.put, List.setIfInBounds_toArray, List.set_cons_zero, List.set_cons_succ]
          refine' wpAnyH_take (i := 15) (v := _) rfl (by kernel_rfl) (by kernel_rfl) (by kernel_rfl) (fun _ _ _ h => h) (Or.inl ⟨by kernel_rfl, ?hgb15⟩) (by assumption) ?rgb15
          case hgb15 => intro W hW; obtain ⟨⟨e0, e1⟩, c0, c1⟩ := hW; go_simp; all_goals with_reducible rfl
          change wpAnyH _ _ _ _ _ _ _ (Act.put _ (some 41) _) _
          simp only [Act.put, List.setIfInBounds_toArray, List.set_cons_zero, List.set_cons_succ]
          refine' wpAnyH_take (i := 16) (v := _) rfl (by kernel_rfl) (by kernel_rfl) (by kernel_rfl) (fun _ _ _ h => h) (Or.inl ⟨by kernel_rfl, ?hgb16⟩) (by assumption) ?rgb16
          case hgb16 => intro W hW; obtain ⟨⟨e0, e1⟩, c0, c1⟩ := hW; go_simp; all_goals with_reducible rfl
          change wpAnyH _ _ _ _ _ _ _ (Act.put _ (some 42) _) _
          simp only [Act.put, List.setIfInBounds_toArray, List.set_cons_zero, List.set_cons_succ]
          refine' wpAnyH_take (i := 17) (v := _) rfl (by kernel_rfl) (by kernel_rfl) (by kernel_rfl) (fun _ _ _ h => h) (Or.inl ⟨by kernel_rfl, ?hgb17⟩) (by assumption) ?rgb17
          case hgb17 => intro W hW; obtain ⟨⟨e0, e1⟩, c0, c1⟩ := hW; go_simp; all_goals with_reducible rfl
          change wpAnyH _ _ _ _ _ _ _ (Act.put _ (some 43) _) _
          simp only [Act.put, List.setIfInBounds_toArray, List.set_cons_zero, List.set_cons_succ]
          refine' wpAnyH_take (i := 18) (v := _) rfl (by kernel_rfl) (by kernel_rfl) (by kernel_rfl) (fun _ _ _ h => h) (Or.inl ⟨by kernel_rfl, ?hgb18⟩) (by assumption) ?rgb18
          case hgb18 => intro W hW; obtain ⟨⟨e0, e1⟩, c0, c1⟩ := hW; go_simp; all_goals with_reducible rfl
          change wpAnyH _ _ _ _ _ _ _ (Act.put _ (some 44) _) _
          simp only [Act.put, List.setIfInBounds_toArray, List.set_cons_zero, List.set_cons_succ]
          refine' wpAnyH_take (i := 19) (v := _) rfl (by kernel_rfl) (by kernel_rfl) (by kernel_rfl) (fun _ _ _ h => h) (Or.inl ⟨by kernel_rfl, ?hgb19⟩) (by assumption) ?rgb19
          case hgb19 => intro W hW; obtain ⟨⟨e0, e1⟩, c0, c1⟩ := hW; go_simp; all_goals with_reducible rfl
          change wpAnyH _ _ _ _ _ _ _ (Act.put _ (some 45) _) _
          simp only [Act.put, List.setIfInBounds_toArray, List.set_cons_zero, List.set_cons_succ]
          refine' wpAnyH_take (i := 20) (v := _) rfl (by kernel_rfl) (by kernel_rfl) (by kernel_rfl) (fun _ _ _ h => h) (Or.inl ⟨by kernel_rfl, ?hgb20⟩) (by assumption) ?rgb20
          case hgb20 => intro W hW; obtain ⟨⟨e0, e1⟩, c0, c1⟩ := hW; go_simp; all_goals with_reducible rfl
          change wpAnyH _ _ _ _ _ _ _ (Act.put _ (some 46) _) _
          simp only [Act.put, List.setIfInBounds_toArray, List.set_cons_zero, List.set_cons_succ]
          refine' wpAnyH_take (i := 21) (v := _) rfl (by kernel_rfl) (by kernel_rfl) (by kernel_rfl) (fun _ _ _ h => h) (Or.inl ⟨by kernel_rfl, ?hgb21⟩) (by assumption) ?rgb21
          case hgb21 => intro W hW; obtain ⟨⟨e0, e1⟩, c0, c1⟩ := hW; go_simp; all_goals with_reducible rfl
          change wpAnyH _ _ _ _ _ _ _ (Act.put _ (some 47) _) _
          simp only [Act.put, List.setIfInBounds_toArray, List.set_cons_zero, List.set_cons_succ]
          refine wpAnyH_done (by kernel_rfl) ?_ _
          clear hHeld hS
          by_cases hp : p0 ≤ 256
          · have hp2 : ¬ (256 : Int) < p0 := by omega
            have HN2 := HN.out ⟨by omega, by omega, hp⟩
            have HN3 : Hid (∀ i (h : i < D.cache.length), i < k + 1 → 0 ≤ (D.cache[i]).1 ∧ (D.cache[i]).1 < D.secs.length ∧ (D.cache[i]).2.length ≤ 256) := HN2
            clear HN HNO HN2
            go_wp2
            go_roundg (D.cache.length - (k + 1))
            case measure => omega
            case rel => exact ⟨k + 1, by omega, rfl, by go_num, hbD5, HN3⟩
          · have hp2 : (256 : Int) < p0 := by omega
            have HN2 : Hid (¬ CacheOk D.secs.length D.cache) := HNO.out (fun h => by omega)
            clear HN HNO
            go_wp2
            go_ret
            exact Says.no (fun h => HN2.out h.2.1) hbD

        · have hkz : ¬ (k : Int) < (D.cache.length : Int) := by omega
          obtain ⟨y0, y1, y2, y3, y4⟩ := box5 hB5
          have HCA : Hid (∀ i (h : i < D.cache.length), 0 ≤ (D.cache[i]).1 ∧ (D.cache[i]).1 < D.secs.length ∧ (D.cache[i]).2.length ≤ 256) := fun i h => HA.out i h (by omega)
          clear HA
          by_cases hls : (4 : Int) ≤ D.secs.length ∧ (D.secs.length : Int) ≤ 48
          case neg =>
            have hV := fun W => l1In_no (D.secs.length : Int) 4 48 W (by omega)
            go_wp2_with fail
            refine (hV _).mono ?_
            rintro e w5 ⟨rfl, rfl⟩
            clear hV
            go_wp2
            go_ret
            exact Says.no (fun h => by have h1 := h.1.1; have h2 := h.1.2.1; omega) hB
          have hV := fun W => l1In_yes (D.secs.length : Int) 4 48 W hls.1 hls.2
          go_wp2_with fail
          refine (hV _).mono ?_
          rintro e w5 ⟨rfl, rfl⟩
          clear hV
          by_cases hlc : (D.cache.length : Int) ≤ 60
          case neg =>
            go_wp2
            go_ret
            exact Says.no (fun h => by have h1 := h.2.1.1; omega) hB
          by_cases hop : 0 ≤ D.ops ∧ D.ops ≤ 100000
          case neg =>
            have hV := fun W => l1In_no D.ops 0 100000 W (by omega)
            go_wp2_with fail
            refine (hV _).mono ?_
            rintro e w5 ⟨rfl, rfl⟩
            clear hV
            go_wp2
            go_ret
            exact Says.no (fun h => hop h.2.2.1) hB
          have hV := fun W => l1In_yes D.ops 0 100000 W hop.1 hop.2
          go_wp2_with fail
          refine (hV _).mono ?_
          rintro e w5 ⟨rfl, rfl⟩
          clear hV
          have hV := l12Faults_any fa fc D.faults wr (fview_below HH.out.2.2.1 hB) HH.out.2.2.2.nf
          go_wp2_with fail
          refine hV.mono ?_
          rintro e w3 ⟨r3, rfl, hr3, hb3⟩
          have HR3 : Hid (r3 = true ↔ FaultsOk D.faults) := hr3
          have hB3 := box5_on hB5 hb3
          obtain ⟨hBw3, -⟩ := box5_below hB3
          clear y0 y1 y2 y3 y4
          obtain ⟨y0, y1, y2, y3, y4⟩ := box5 hB3
          clear hV hr3 hB hB5 hb3
          cases r3
          · go_wp2
            go_ret
            exact Says.no (fun h => by have := HR3.out.2 h.2.2.2.1; cases this) hBw3
          have hS1 : SecsOk D.secs := ⟨by omega, by omega, HSH.out⟩
          have hC1 : CacheOk D.secs.length D.cache := ⟨by omega, HCA.out⟩
          have HOK : Hid (¬ (D.down = true ∧ 0 < D.cache.length) → OkD D) := fun h => ⟨hS1, hC1, hop, HR3.out.1 rfl, h⟩
          clear hS1 hC1 HR3 HCA HSH HH
          obtain ⟨dn, hdn⟩ := hidEx D.down
          rw [hdn.out] at y4
          cases dn
          · go_wp2
            go_ret
            exact Says.yes (HOK.out (fun h => by rw [hdn.out] at h; cases h.1)) hBw3
          go_wp2
          go_ret
          refine ⟨(D.cache.length : Int) == 0, rfl, ?_, hBw3⟩
          rw [beq_iff_eq]
          exact ⟨fun h0 => HOK.out (fun h => by omega), fun h => Classical.byContradiction fun h0 => h.2.2.2.2 ⟨hdn.out, by omega⟩⟩
end Go.Proofs.Ytdhfbblameiloaa

/-
  The model's l12May.
-/
namespace Go.Proofs.Ytdhfbblameiloaa
open Go.RowKit
set_option maxRecDepth 4000

set_option maxHeartbeats 4000000 in
theorem l12May_any (v : Value) (D : PDisk) (w : World) (h : KView w v D) (hf : KFine D) :
    Calls Try.prog 89 #[v] w fun e w' => Below w.heap.size w w' ∧ ((¬ OkD D ∧ e = .returned (.int .i64 1)) ∨ (OkD D ∧ (D.down = true ∨ 100000 ≤ D.ops) ∧ e = .returned (.int .i64 9)) ∨ (OkD D ∧ ¬ (D.down = true ∨ 100000 ≤ D.ops) ∧ e = .returned (.int .i64 0))) := by
  have hv := h
  obtain ⟨sa, sc, ca, cc, fa, fc, rfl, -, -, -⟩ := h.is
  clear h
  have hB0 := box5_start w (.cells #[.slice sa D.secs.length sc, .slice ca D.cache.length cc, .int .i64 D.ops, .slice fa D.faults.length fc, .bool D.down] 32)
  obtain ⟨hBw0, -⟩ := box5_below hB0
  have hV := specDiskOk_any _ D _ (hv.below hBw0) hf
  go_enter Try.func89, Try.ntmps89
  go_wp2_with fail
  refine hV.mono ?_
  rintro e w1 ⟨r, rfl, hr, hb1⟩
  have HR : Hid (r = true ↔ OkD D) := hr
  have hB1 := box5_on hB0 hb1
  obtain ⟨hBw1, -⟩ := box5_below hB1
  obtain ⟨x0, x1, x2, x3, x4⟩ := box5 hB1
  clear hV hr hB0 hBw0 hb1 hv
  cases r
  · go_wp2
    go_ret
    exact ⟨hBw1, .inl ⟨(fun h => by have := HR.out.2 h; cases this), rfl⟩⟩
  obtain ⟨dn, hdn⟩ := hidEx D.down
  rw [hdn.out] at x4
  cases dn
  · by_cases ho : 100000 ≤ D.ops
    · go_wp2
      go_ret
      exact ⟨hBw1, .inr (.inl ⟨HR.out.1 (by simp), .inr ho, rfl⟩)⟩
    · go_wp2
      go_ret
      exact ⟨hBw1, .inr (.inr ⟨HR.out.1 (by simp), fun h => (by rcases h with h | h; (rw [hdn.out] at h; cases h); exact absurd h (by omega)), rfl⟩)⟩
  · go_wp2
    go_ret
    exact ⟨hBw1, .inr (.inl ⟨HR.out.1 (by simp), .inl hdn.out, rfl⟩)⟩
end Go.Proofs.Ytdhfbblameiloaa

