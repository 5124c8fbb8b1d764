/-
  DiskOkImpl
-/
import Derived.Test.YtdhfbblameiloaaUP3
import Derived.Test.YtdhfbblameiloaaUP2
import Derived.Deep.LoopGhost
import Derived.Deep.RegionHeld3
/-
  The program's DiskOk.
-/
namespace Go.Proofs.Ytdhfbblameiloaa
open Go.RowKit
set_option maxRecDepth 4000

set_option maxHeartbeats 1000000 in
theorem passesSec_any (a : Option Addr) (n cap : Nat) (w : World) :
    Calls Try.prog 63 #[.slice a n cap] w fun e w' => e = .returned (.bool (decide ((256 : Int) < n))) ∧ w = w' := by
  go_enter Try.func63, Try.ntmps63
  go_wp2
  go_ret
  exact ⟨rfl, rfl⟩
set_option maxHeartbeats 1000000 in
theorem inside_any (x m : Int) (w : World) :
    Calls Try.prog 85 #[.int .i64 x, .int .i64 m] w fun e w' => e = .returned (.bool (decide (0 ≤ x) && decide (x ≤ m))) ∧ w = w' := by
  go_enter Try.func85, Try.ntmps85
  by_cases h : 0 ≤ x
  · have e1 : decide (0 ≤ x) = true := by simpa using h
    go_wp2
    go_ret
    exact ⟨by simp [h], rfl⟩
  · have e1 : decide (0 ≤ x) = false := by simpa using h
    go_wp2
    go_ret
    exact ⟨by simp, rfl⟩
theorem inside_yes (x m : Int) (w : World) (h1 : 0 ≤ x) (h2 : x ≤ m) :
    Calls Try.prog 85 #[.int .i64 x, .int .i64 m] w fun e w' => e = .returned (.bool true) ∧ w = w' := by
  have h := inside_any x m w
  rw [decide_eq_true h1, decide_eq_true h2] at h
  exact h
theorem inside_no (x m : Int) (w : World) (h1 : ¬ (0 ≤ x ∧ x ≤ m)) :
    Calls Try.prog 85 #[.int .i64 x, .int .i64 m] w fun e w' => e = .returned (.bool false) ∧ w = w' := by
  have h := inside_any x m w
  have e : (decide (0 ≤ x) && decide (x ≤ m)) = false := by
    rcases Classical.em (0 ≤ x) with h1' | h1'
    · rw [decide_eq_false (p := x ≤ m) (fun h2 => h1 ⟨h1', h2⟩), Bool.and_false]
    · rw [decide_eq_false h1', Bool.false_and]
  rw [e] at h
  exact h

set_option maxHeartbeats 2000000 in
theorem indexPass_any (a : Option Addr) (cap : Nat) (l : List (List Int)) (w : World) (h : SView w a cap l) (hn : l.length ≤ 1048576) :
    Calls Try.prog 135 #[.slice a l.length cap, .func (.func 63) #[] #[]] w fun e w' => ∃ r : Int, e = .returned (.int .i64 r) ∧ (0 ≤ r ↔ ¬ Short l) ∧ Below w.heap.size w w' := by
  go_enter Try.func135, Try.ntmps135
  go_wp2
  go_loopg [8] l.length (fun q i wr => ∃ k : Nat, k ≤ l.length ∧ q = l.length - k ∧ i = .int .i64 k ∧ Below w.heap.size w wr ∧ Hid (∀ i (h : i < l.length), i < k → (l[i]).length ≤ 256))
  case atStart => exact ⟨0, Nat.zero_le _, rfl, rfl, Below.refl _ _, fun i _ hi => absurd hi (Nat.not_lt_zero _)⟩
  case round =>
    obtain ⟨k, hk, rfl, rfl, hB, HA⟩ := hrel
    by_cases hlt : k < l.length
    · obtain ⟨b1, o1, a', c', rfl, hb1, x0, -, -⟩ := sview_at (sview_below h hB) hlt
      have hkz : (k : Int) < (l.length : Int) := by omega
      have HN : Hid ((l[k]).length ≤ 256 → ∀ i (h : i < l.length), i < k + 1 → (l[i]).length ≤ 256) := by
        intro hp i h hi
        by_cases e : i < k
        · exact HA.out i h e
        · obtain rfl : i = k := by omega
          exact hp
      have HNO : Hid (¬ (l[k]).length ≤ 256 → ¬ Short l) := fun h1 h2 => h1 (h2 k hlt)
      clear h HA
      obtain ⟨p0, hp0⟩ := hidEx (l[k]).length
      rw [hp0.out] at x0 HN HNO
      have hV := fun W => passesSec_any a' p0 c' W
      go_wp2_with fail
      refine (hV _).mono ?_
      rintro e w1 ⟨rfl, rfl⟩
      clear hV
      by_cases hp : p0 ≤ 256
      · have e1 : decide ((256 : Int) < p0) = false := decide_eq_false (by omega)
        have HN2 : Hid (∀ i (h : i < l.length), i < k + 1 → (l[i]).length ≤ 256) := HN.out hp
        clear HN HNO
        rw [e1]
        go_wp2
        go_roundg (l.length - (k + 1))
        case measure => omega
        case rel => exact ⟨k + 1, by omega, rfl, by go_num, hB, HN2⟩
      · have e1 : decide ((256 : Int) < p0) = true := decide_eq_true (by omega)
        have HN2 : Hid (¬ Short l) := HNO.out hp
        clear HN HNO
        rw [e1]
        go_wp2
        go_ret
        exact ⟨_, rfl, ⟨fun _ => HN2.out, fun _ => by omega⟩, hB⟩
    · have hkz : ¬ (k : Int) < (l.length : Int) := by omega
      clear h
      go_wp2
      go_ret
      exact ⟨_, rfl, ⟨fun h => by omega, fun h => absurd (fun i h => HA.out i h (by omega)) h⟩, hB⟩
set_option maxHeartbeats 1000000 in
theorem containsPass_any (a : Option Addr) (cap : Nat) (l : List (List Int)) (w : World) (h : SView w a cap l) (hn : l.length ≤ 1048576) :
    Calls Try.prog 125 #[.slice a l.length cap, .func (.func 63) #[] #[]] w (Says w (¬ Short l)) := by
  have hV := indexPass_any a cap l w h hn
  clear h
  go_enter Try.func125, Try.ntmps125
  go_wp2_with fail
  refine hV.mono ?_
  rintro e w1 ⟨r, rfl, hr, hb⟩
  have HR : Hid (0 ≤ r ↔ ¬ Short l) := hr
  clear hr hV
  by_cases h0 : 0 ≤ r
  · have e1 : decide (0 ≤ r) = true := decide_eq_true h0
    go_wp2
    go_ret
    exact Says.yes (HR.out.1 h0) hb
  · have e1 : decide (0 ≤ r) = false := decide_eq_false h0
    go_wp2
    go_ret
    exact Says.no (fun h => by have := HR.out.2 h; omega) hb
set_option maxHeartbeats 1000000 in
theorem secsOk_any (a : Option Addr) (cap : Nat) (l : List (List Int)) (w : World) (h : SView w a cap l) (hn : l.length ≤ 1048576) :
    Calls Try.prog 83 #[.slice a l.length cap] w (Says w (SecsOk l)) := by
  by_cases h4 : (4 : Int) ≤ l.length
  case neg =>
    clear h
    go_enter Try.func83, Try.ntmps83
    go_wp2
    go_ret
    exact Says.no (fun h => by have := h.1; omega) (Below.refl _ _)
  by_cases h48 : (l.length : Int) ≤ 48
  case neg =>
    clear h
    go_enter Try.func83, Try.ntmps83
    go_wp2
    go_ret
    exact Says.no (fun h => by have := h.2.1; omega) (Below.refl _ _)
  have hV := containsPass_any a cap l w h hn
  clear h
  go_enter Try.func83, Try.ntmps83
  go_wp2_with fail
  refine hV.mono ?_
  rintro e w1 ⟨r, rfl, hr, hb⟩
  have HR : Hid (r = true ↔ ¬ Short l) := hr
  clear hr hV
  cases r
  · go_wp2
    go_ret
    refine Says.yes ⟨by omega, by omega, ?_⟩ hb
    have := HR.out
    simp only [Bool.false_eq_true, false_iff, Classical.not_not] at this
    exact this
  · go_wp2
    go_ret
    exact Says.no (fun h => (HR.out.1 (by simp)) h.2.2) hb

set_option maxHeartbeats 2000000 in
theorem cacheOk_any (a : Option Addr) (cap : Nat) (l : List (Int × List Int)) (n : Nat) (w : World) (h : WView w a cap l) (hn : l.length ≤ 1048576) :
    Calls Try.prog 84 #[.slice a l.length cap, .int .i64 n] w (Says w (CacheOk n l)) := by
  by_cases h60 : (60 : Int) < l.length
  · clear h
    go_enter Try.func84, Try.ntmps84
    go_wp2
    go_ret
    exact Says.no (fun h => by have := h.1; omega) (Below.refl _ _)
  go_enter Try.func84, Try.ntmps84
  go_wp2
  go_loopg [12] l.length (fun q i wr => ∃ k : Nat, k ≤ l.length ∧ q = l.length - k ∧ i = .int .i64 k ∧ Below w.heap.size w wr ∧ Hid (∀ i (h : i < l.length), i < k → 0 ≤ (l[i]).1 ∧ (l[i]).1 < n ∧ (l[i]).2.length ≤ 256))
  case atStart => exact ⟨0, Nat.zero_le _, rfl, rfl, Below.refl _ _, fun i _ hi => absurd hi (Nat.not_lt_zero _)⟩
  case round =>
    obtain ⟨k, hk, rfl, rfl, hB, HA⟩ := hrel
    by_cases hlt : k < l.length
    · obtain ⟨b1, o1, a', c', rfl, hb1, x0, x1, -, -⟩ := wview_at (wview_below h hB) hlt
      have hkz : (k : Int) < (l.length : Int) := by omega
      have HN : Hid ((0 ≤ (l[k]).1 ∧ (l[k]).1 < n ∧ (l[k]).2.length ≤ 256) → ∀ i (h : i < l.length), i < k + 1 → 0 ≤ (l[i]).1 ∧ (l[i]).1 < n ∧ (l[i]).2.length ≤ 256) := by
        intro hp i h hi
        by_cases e : i < k
        · exact HA.out i h e
        · obtain rfl : i = k := by omega
          exact hp
      have HNO : Hid (¬ (0 ≤ (l[k]).1 ∧ (l[k]).1 < n ∧ (l[k]).2.length ≤ 256) → ¬ CacheOk n l) := fun h1 h2 => h1 (h2.2 k hlt)
      clear h HA
      obtain ⟨p0, hp0⟩ := hidEx (l[k]).2.length
      obtain ⟨p1, hp1⟩ := hidEx (l[k]).1
      rw [hp0.out] at x1 HN HNO
      rw [hp1.out] at x0 HN HNO
      have hbA : Below w.heap.size w (wr.alloc (.cells #[.int .i64 p1, .slice a' p0 c'] 51)) := hB.alloc hB.size _
      by_cases h1 : p1 < 0
      · have HN2 : Hid (¬ CacheOk n l) := HNO.out (fun h => by omega)
        clear HN HNO
        go_wp2
        go_ret
        exact Says.no HN2.out hbA
      by_cases h2 : (n : Int) ≤ p1
      · have HN2 : Hid (¬ CacheOk n l) := HNO.out (fun h => by omega)
        clear HN HNO
        go_wp2
        go_ret
        exact Says.no HN2.out hbA
      have hV := fun W => passesSec_any a' p0 c' W
      go_wp2_with fail
      refine (hV _).mono ?_
      rintro e w1 ⟨rfl, rfl⟩
      clear hV
      by_cases hp : p0 ≤ 256
      · have e1 : decide ((256 : Int) < p0) = false := decide_eq_false (by omega)
        have HN2 := HN.out ⟨by omega, by omega, hp⟩
        have HN3 : Hid (∀ i (h : i < l.length), i < k + 1 → 0 ≤ (l[i]).1 ∧ (l[i]).1 < n ∧ (l[i]).2.length ≤ 256) := HN2
        clear HN HNO HN2
        rw [e1]
        go_wp2
        go_roundg (l.length - (k + 1))
        case measure => omega
        case rel => exact ⟨k + 1, by omega, rfl, by go_num, hbA, HN3⟩
      · have e1 : decide ((256 : Int) < p0) = true := decide_eq_true (by omega)
        have HN2 : Hid (¬ CacheOk n l) := HNO.out (fun h => by omega)
        clear HN HNO
        rw [e1]
        go_wp2
        go_ret
        exact Says.no HN2.out hbA
    · have hkz : ¬ (k : Int) < (l.length : Int) := by omega
      clear h
      go_wp2
      go_ret
      exact Says.yes ⟨by omega, fun i h => HA.out i h (by omega)⟩ hB

set_option maxHeartbeats 4000000 in
theorem faultsOk_any (a : Option Addr) (cap : Nat) (l : List PFault) (w : World) (h : FView w a cap l) (hn : l.length ≤ 1048576) :
    Calls Try.prog 86 #[.slice a l.length cap] w (Says w (FaultsOk l)) := by
  by_cases h20 : (20 : Int) < l.length
  · clear h
    go_enter Try.func86, Try.ntmps86
    go_wp2
    go_ret
    exact Says.no (fun h => by have := h.1; omega) (Below.refl _ _)
  go_enter Try.func86, Try.ntmps86
  go_wp2
  go_loopg [10] l.length (fun q i wr => ∃ k : Nat, k ≤ l.length ∧ q = l.length - k ∧ i = .int .i64 k ∧ Below w.heap.size w wr ∧ Hid (∀ i, i < k → FAt l i))
  case atStart => exact ⟨0, Nat.zero_le _, rfl, rfl, Below.refl _ _, fun i hi => absurd hi (Nat.not_lt_zero _)⟩
  case round =>
    obtain ⟨k, hk, rfl, rfl, hB, HA⟩ := hrel
    by_cases hlt : k < l.length
    · obtain ⟨b1, o1, e1', hb1, x0, x1, x2⟩ := fview_at (fview_below h hB) hlt
      subst e1'
      have hkz : (k : Int) < (l.length : Int) := by omega
      have HX : Hid (0 < k → ∃ y0, wr.cell? ⟨b1, o1 + (k - 1) * 3, none⟩ = some (.int .i64 y0) ∧ y0 = (l[k - 1]).pos) := by
        intro h0
        obtain ⟨b2, o2, e2, hb2, z0, z1, z2⟩ := fview_at (fview_below h hB) (show k - 1 < l.length by omega)
        cases e2
        exact ⟨_, z0, rfl⟩
      have HN : Hid (FOk l[k] ∧ (∀ h1 : 0 < k, (l[k - 1]).pos < (l[k]).pos) → ∀ i, i < k + 1 → FAt l i) := by
        intro hp i hi
        by_cases e : i < k
        · exact HA.out i e
        · obtain rfl : i = k := by omega
          exact fun _ => hp
      have HNO : Hid (¬ (FOk l[k] ∧ (∀ h1 : 0 < k, (l[k - 1]).pos < (l[k]).pos)) → ¬ FaultsOk l) := fun h1 h2 => h1 (h2.2 k hlt)
      clear h HA
      obtain ⟨p0, hp0⟩ := hidEx (l[k]).pos
      obtain ⟨p1, hp1⟩ := hidEx (l[k]).keep
      obtain ⟨p2, hp2⟩ := hidEx (l[k]).cut
      obtain ⟨F0, hF0⟩ := hidEx (FOk l[k])
      have HF : Hid (F0 ↔ (0 ≤ p0 ∧ p0 ≤ 100000) ∧ (0 ≤ p1 ∧ p1 ≤ 1048575) ∧ (0 ≤ p2 ∧ p2 ≤ 256)) := by
        show F0 ↔ _
        rw [← hF0.out, ← hp0.out, ← hp1.out, ← hp2.out]
        exact Iff.rfl
      rw [hF0.out, hp0.out] at HN HNO
      rw [hp0.out] at x0
      rw [hp1.out] at x1
      rw [hp2.out] at x2
      have hbA : Below w.heap.size w (wr.alloc (.cells #[.int .i64 p0, .int .i64 p1, .int .i64 p2] 79)) := hB.alloc hB.size _
      by_cases hFo : (0 ≤ p0 ∧ p0 ≤ 100000) ∧ (0 ≤ p1 ∧ p1 ≤ 1048575) ∧ (0 ≤ p2 ∧ p2 ≤ 256)
      case neg =>
        have HN2 : Hid (¬ FaultsOk l) := HNO.out (fun h => hFo (HF.out.1 h.1))
        clear HN HNO HX HF
        by_cases h0 : 0 ≤ p0 ∧ p0 ≤ 100000
        case neg =>
          have hV := fun W => inside_no p0 100000 W h0
          go_wp2_with fail
          refine (hV _).mono ?_
          rintro e w1 ⟨rfl, rfl⟩
          clear hV
          go_wp2
          go_ret
          exact Says.no HN2.out hbA
        have hV := fun W => inside_yes p0 100000 W h0.1 h0.2
        go_wp2_with fail
        refine (hV _).mono ?_
        rintro e w1 ⟨rfl, rfl⟩
        clear hV
        by_cases h1 : 0 ≤ p1 ∧ p1 ≤ 1048575
        case neg =>
          have hV := fun W => inside_no p1 1048575 W h1
          go_wp2_with fail
          refine (hV _).mono ?_
          rintro e w1 ⟨rfl, rfl⟩
          clear hV
          go_wp2
          go_ret
          exact Says.no HN2.out hbA
        have hV := fun W => inside_yes p1 1048575 W h1.1 h1.2
        go_wp2_with fail
        refine (hV _).mono ?_
        rintro e w1 ⟨rfl, rfl⟩
        clear hV
        have h2 : ¬ (0 ≤ p2 ∧ p2 ≤ 256) := fun h2 => hFo ⟨h0, h1, h2⟩
        have hV := fun W => inside_no p2 256 W h2
        go_wp2_with fail
        refine (hV _).mono ?_
        rintro e w1 ⟨rfl, rfl⟩
        clear hV
        go_wp2
        go_ret
        exact Says.no HN2.out hbA
      have HF1 : F0 := HF.out.2 hFo
      obtain ⟨h0, h1, h2⟩ := hFo
      clear HF
      have hV := fun W => inside_yes p0 100000 W h0.1 h0.2
      go_wp2_with fail
      refine (hV _).mono ?_
      rintro e w1 ⟨rfl, rfl⟩
      clear hV
      have hV := fun W => inside_yes p1 1048575 W h1.1 h1.2
      go_wp2_with fail
      refine (hV _).mono ?_
      rintro e w1 ⟨rfl, rfl⟩
      clear hV
      have hV := fun W => inside_yes p2 256 W h2.1 h2.2
      go_wp2_with fail
      refine (hV _).mono ?_
      rintro e w1 ⟨rfl, rfl⟩
      clear hV
      have hbD : Below w.heap.size w ((wr.alloc (.cells #[.int .i64 p0, .int .i64 p1, .int .i64 p2] 79)).drew) := hbA.drew
      have q0 : (wr.alloc (.cells #[.int .i64 p0, .int .i64 p1, .int .i64 p2] 79)).cell? ⟨wr.heap.size, 0, none⟩ = some (.int .i64 p0) := by simp [go_sem]
      by_cases hk0 : 0 < k
      case neg =>
        have hkn : ¬ (0 : Int) < k := by omega
        have HN3 : Hid (∀ i, i < k + 1 → FAt l i) := HN.out ⟨HF1, fun h => absurd h hk0⟩
        clear HN HNO HX
        go_wp2_with fail
        refine wp_region_held_drew (S := fun _ => True) (by kernel_rfl) trivial (fun hHeld => ?_)
        refine' wpAnyH_take (i := 0) (v := _) rfl (by kernel_rfl) (by kernel_rfl) (by kernel_rfl) (fun _ _ _ h => h) (Or.inl ⟨by kernel_rfl, ?hta1⟩) (by assumption) ?rta1
        case hta1 => intro W hW; go_simp; all_goals with_reducible rfl
        change wpAnyH _ _ _ _ _ _ _ (Act.put _ (some 31) _) _
        simp only [Act.put, List.setIfInBounds_toArray, List.set_cons_zero, List.set_cons_succ]
        refine' wpAnyH_take (i := 1) (v := _) rfl (by kernel_rfl) (by kernel_rfl) (by kernel_rfl) (fun _ _ _ h => h) (Or.inl ⟨by kernel_rfl, ?hta2⟩) (by assumption) ?rta2
        case hta2 => intro W hW; go_simp; all_goals with_reducible rfl
        change wpAnyH _ _ _ _ _ _ _ (Act.put _ (some 32) _) _
        simp only [Act.put, List.setIfInBounds_toArray, List.set_cons_zero, List.set_cons_succ]
        refine' wpAnyH_take (i := 2) (v := _) rfl (by kernel_rfl) (by kernel_rfl) (by kernel_rfl) (fun _ _ _ h => h) (Or.inl ⟨by kernel_rfl, ?hta3⟩) (by assumption) ?rta3
        case hta3 => intro W hW; go_simp; all_goals with_reducible rfl
        change wpAnyH _ _ _ _ _ _ _ (Act.put _ (some 33) _) _
        simp only [Act.put, List.setIfInBounds_toArray, List.set_cons_zero, List.set_cons_succ]
        refine wpAnyH_take (i := 3) (v := undef) rfl (by kernel_rfl) (by kernel_rfl) (by kernel_rfl) (fun _ _ _ h => h) (Or.inr ⟨by kernel_rfl, rfl⟩) (by assumption) ?_
        change wpAnyH _ _ _ _ _ _ _ (Act.put _ (some 34) _) _
        simp only [Act.put, List.setIfInBounds_toArray, List.set_cons_zero, List.set_cons_succ]
        refine wpAnyH_take (i := 4) (v := undef) rfl (by kernel_rfl) (by kernel_rfl) (by kernel_rfl) (fun _ _ _ h => h) (Or.inr ⟨by kernel_rfl, rfl⟩) (by assumption) ?_
        change wpAnyH _ _ _ _ _ _ _ (Act.put _ (some 35) _) _
        simp only [Act.put, List.setIfInBounds_toArray, List.set_cons_zero, List.set_cons_succ]
        refine wpAnyH_take (i := 5) (v := undef) rfl (by kernel_rfl) (by kernel_rfl) (by kernel_rfl) (fun _ _ _ h => h) (Or.inr ⟨by kernel_rfl, rfl⟩) (by assumption) ?_
        change wpAnyH _ _ _ _ _ _ _ (Act.put _ (some 36) _) _
        simp only [Act.put, List.setIfInBounds_toArray, List.set_cons_zero, List.set_cons_succ]
        refine wpAnyH_take (i := 6) (v := undef) rfl (by kernel_rfl) (by kernel_rfl) (by kernel_rfl) (fun _ _ _ h => h) (Or.inr ⟨by kernel_rfl, rfl⟩) (by assumption) ?_
        change wpAnyH _ _ _ _ _ _ _ (Act.put _ (some 37) _) _
        simp only [Act.put, List.setIfInBounds_toArray, List.set_cons_zero, List.set_cons_succ]
        refine wpAnyH_take (i := 7) (v := undef) rfl (by kernel_rfl) (by kernel_rfl) (by kernel_rfl) (fun _ _ _ h => h) (Or.inr ⟨by kernel_rfl, rfl⟩) (by assumption) ?_
        change wpAnyH _ _ _ _ _ _ _ (Act.put _ (some 38) _) _
        simp only [Act.put, List.setIfInBounds_toArray, List.set_cons_zero, List.set_cons_succ]
        refine wpAnyH_take (i := 8) (v := undef) rfl (by kernel_rfl) (by kernel_rfl) (by kernel_rfl) (fun _ _ _ h => h) (Or.inr ⟨by kernel_rfl, rfl⟩) (by assumption) ?_
        change wpAnyH _ _ _ _ _ _ _ (Act.put _ (some 39) _) _
        simp only [Act.put, List.setIfInBounds_toArray, List.set_cons_zero, List.set_cons_succ]
        refine wpAnyH_take (i := 9) (v := undef) rfl (by kernel_rfl) (by kernel_rfl) (by kernel_rfl) (fun _ _ _ h => h) (Or.inr ⟨by kernel_rfl, rfl⟩) (by assumption) ?_
        change wpAnyH _ _ _ _ _ _ _ (Act.put _ (some 40) _) _
        simp only [Act.put, List.setIfInBounds_toArray, List.set_cons_zero, List.set_cons_succ]
        refine wpAnyH_take (i := 10) (v := undef) rfl (by kernel_rfl) (by kernel_rfl) (by kernel_rfl) (fun _ _ _ h => h) (Or.inr ⟨by kernel_rfl, rfl⟩) (by assumption) ?_
        change wpAnyH _ _ _ _ _ _ _ (Act.put _ (some 41) _) _
        simp only [Act.put, List.setIfInBounds_toArray, List.set_cons_zero, List.set_cons_succ]
        refine wpAnyH_take (i := 11) (v := undef) rfl (by kernel_rfl) (by kernel_rfl) (by kernel_rfl) (fun _ _ _ h => h) (Or.inr ⟨by kernel_rfl, rfl⟩) (by assumption) ?_
        change wpAnyH _ _ _ _ _ _ _ (Act.put _ (some 42) _) _
        simp only [Act.put, List.setIfInBounds_toArray, List.set_cons_zero, List.set_cons_succ]
        refine' wpAnyH_take (i := 12) (v := _) rfl (by kernel_rfl) (by kernel_rfl) (by kernel_rfl) (fun _ _ _ h => h) (Or.inl ⟨by kernel_rfl, ?hta13⟩) (by assumption) ?rta13
        case hta13 => intro W hW; go_simp; all_goals with_reducible rfl
        change wpAnyH _ _ _ _ _ _ _ (Act.put _ (some 43) _) _
        simp only [Act.put, List.setIfInBounds_toArray, List.set_cons_zero, List.set_cons_succ]
        refine wpAnyH_done (by kernel_rfl) ?_ _
        clear hHeld
        go_wp2
        go_roundg (l.length - (k + 1))
        case measure => omega
        case rel => exact ⟨k + 1, by omega, rfl, by go_num, hbD, HN3⟩

      have hk1 : (0 : Int) < k := by omega
      obtain ⟨y0, hy0, hy⟩ := HX.out hk0
      have hs : ((k : Int) - 1).toNat = k - 1 := by omega
      have hs1 : IntKind.i64.wrap ((k : Int) - 1) = (k : Int) - 1 := by rw [IntKind.wrap_i64]; omega
      have y1 : (wr.alloc (.cells #[.int .i64 p0, .int .i64 p1, .int .i64 p2] 79)).cell? ⟨b1, o1 + (k - 1) * 3, none⟩ = some (.int .i64 y0) := by
        rw [(show Below wr.heap.size wr (wr.alloc (.cells #[.int .i64 p0, .int .i64 p1, .int .i64 p2] 79)) from (Below.refl _ _).alloc (Nat.le_refl _) _).cell (p := ⟨b1, o1 + (k - 1) * 3, none⟩) hb1]
        exact hy0
      have hn0 : (1 : Int) ≤ (k : Int) := by omega
      have hn1 : (k : Int) - 1 < (l.length : Int) := by omega
      replace HN : Hid (F0 ∧ y0 < p0 → ∀ i, i < k + 1 → FAt l i) := fun h => HN.out ⟨h.1, fun _ => by rw [← hy]; exact h.2⟩
      replace HNO : Hid (¬ (F0 ∧ y0 < p0) → ¬ FaultsOk l) := fun h => HNO.out (fun h2 => h ⟨h2.1, by rw [hy]; exact h2.2 hk0⟩)
      clear HX hy hy0
      go_wp2_with fail
      refine wp_region_held_drew (S := fun W => W.cell? ⟨wr.heap.size, 0, none⟩ = some (.int .i64 p0) ∧ W.cell? ⟨b1, o1 + (k - 1) * 3, none⟩ = some (.int .i64 y0)) (by kernel_rfl) ⟨q0, y1⟩ (fun hHeld => ?_)
      refine' wpAnyH_take (i := 0) (v := _) rfl (by kernel_rfl) (by kernel_rfl) (by kernel_rfl) (fun _ _ _ h => h) (Or.inl ⟨by kernel_rfl, ?htb1⟩) (by assumption) ?rtb1
      case htb1 => intro W hW; obtain ⟨c0, c1⟩ := hW; go_simp; all_goals with_reducible rfl
      change wpAnyH _ _ _ _ _ _ _ (Act.put _ (some 31) _) _
      simp only [Act.put, List.setIfInBounds_toArray, List.set_cons_zero, List.set_cons_succ]
      refine' wpAnyH_take (i := 1) (v := _) rfl (by kernel_rfl) (by kernel_rfl) (by kernel_rfl) (fun _ _ _ h => h) (Or.inl ⟨by kernel_rfl, ?htb2⟩) (by assumption) ?rtb2
      case htb2 => intro W hW; obtain ⟨c0, c1⟩ := hW; go_simp; all_goals with_reducible rfl
      change wpAnyH _ _ _ _ _ _ _ (Act.put _ (some 32) _) _
      simp only [Act.put, List.setIfInBounds_toArray, List.set_cons_zero, List.set_cons_succ]
      refine' wpAnyH_take (i := 2) (v := _) rfl (by kernel_rfl) (by kernel_rfl) (by kernel_rfl) (fun _ _ _ h => h) (Or.inl ⟨by kernel_rfl, ?htb3⟩) (by assumption) ?rtb3
      case htb3 => intro W hW; obtain ⟨c0, c1⟩ := hW; go_simp; all_goals with_reducible rfl
      change wpAnyH _ _ _ _ _ _ _ (Act.put _ (some 33) _) _
      simp only [Act.put, List.setIfInBounds_toArray, List.set_cons_zero, List.set_cons_succ]
      refine' wpAnyH_take (i := 3) (v := _) rfl (by kernel_rfl) (by kernel_rfl) (by kernel_rfl) (fun _ _ _ h => h) (Or.inl ⟨by kernel_rfl, ?htb4⟩) (by assumption) ?rtb4
      case htb4 => intro W hW; obtain ⟨c0, c1⟩ := hW; go_simp; all_goals with_reducible rfl
      change wpAnyH _ _ _ _ _ _ _ (Act.put _ (some 34) _) _
      simp only [Act.put, List.setIfInBounds_toArray, List.set_cons_zero, List.set_cons_succ]
      refine' wpAnyH_take (i := 4) (v := _) rfl (by kernel_rfl) (by kernel_rfl) (by kernel_rfl) (fun _ _ _ h => h) (Or.inl ⟨by kernel_rfl, ?htb5⟩) (by assumption) ?rtb5
      case htb5 => intro W hW; obtain ⟨c0, c1⟩ := hW; go_simp; all_goals with_reducible rfl
      change wpAnyH _ _ _ _ _ _ _ (Act.put _ (some 35) _) _
      simp only [Act.put, List.setIfInBounds_toArray, List.set_cons_zero, List.set_cons_succ]
      refine' wpAnyH_take (i := 5) (v := _) rfl (by kernel_rfl) (by kernel_rfl) (by kernel_rfl) (fun _ _ _ h => h) (Or.inl ⟨by kernel_rfl, ?htb6⟩) (by assumption) ?rtb6
      case htb6 => intro W hW; obtain ⟨c0, c1⟩ := hW; go_simp; all_goals with_reducible rfl
      change wpAnyH _ _ _ _ _ _ _ (Act.put _ (some 36) _) _
      simp only [Act.put, List.setIfInBounds_toArray, List.set_cons_zero, List.set_cons_succ]
      refine' wpAnyH_take (i := 6) (v := _) rfl (by kernel_rfl) (by kernel_rfl) (by kernel_rfl) (fun _ _ _ h => h) (Or.inl ⟨by kernel_rfl, ?htb7⟩) (by assumption) ?rtb7
      case htb7 => intro W hW; obtain ⟨c0, c1⟩ := hW; go_simp; all_goals with_reducible rfl
      change wpAnyH _ _ _ _ _ _ _ (Act.put _ (some 37) _) _
      simp only [Act.put, List.setIfInBounds_toArray, List.set_cons_zero, List.set_cons_succ]
      refine' wpAnyH_take (i := 7) (v := _) rfl (by kernel_rfl) (by kernel_rfl) (by kernel_rfl) (fun _ _ _ h => h) (Or.inl ⟨by kernel_rfl, ?htb8⟩) (by assumption) ?rtb8
      case htb8 => intro W hW; obtain ⟨c0, c1⟩ := hW; go_simp; all_goals with_reducible rfl
      change wpAnyH _ _ _ _ _ _ _ (Act.put _ (some 38) _) _
      simp only [Act.put, List.setIfInBounds_toArray, List.set_cons_zero, List.set_cons_succ]
      refine' wpAnyH_take (i := 8) (v := _) rfl (by kernel_rfl) (by kernel_rfl) (by kernel_rfl) (fun _ _ _ h => h) (Or.inl ⟨by kernel_rfl, ?htb9⟩) (by assumption) ?rtb9
      case htb9 => intro W hW; obtain ⟨c0, c1⟩ := hW; go_simp; all_goals with_reducible rfl
      change wpAnyH _ _ _ _ _ _ _ (Act.put _ (some 39) _) _
      simp only [Act.put, List.setIfInBounds_toArray, List.set_cons_zero, List.set_cons_succ]
      refine' wpAnyH_take (i := 9) (v := _) rfl (by kernel_rfl) (by kernel_rfl) (by kernel_rfl) (fun _ _ _ h => h) (Or.inl ⟨by kernel_rfl, ?htb10⟩) (by assumption) ?rtb10
      case htb10 => intro W hW; obtain ⟨c0, c1⟩ := hW; go_simp; all_goals with_reducible rfl
      change wpAnyH _ _ _ _ _ _ _ (Act.put _ (some 40) _) _
      simp only [Act.put, List.setIfInBounds_toArray, List.set_cons_zero, List.set_cons_succ]
      refine' wpAnyH_take (i := 10) (v := _) rfl (by kernel_rfl) (by kernel_rfl) (by kernel_rfl) (fun _ _ _ h => h) (Or.inl ⟨by kernel_rfl, ?htb11⟩) (by assumption) ?rtb11
      case htb11 => intro W hW; obtain ⟨c0, c1⟩ := hW; go_simp; all_goals with_reducible rfl
      change wpAnyH _ _ _ _ _ _ _ (Act.put _ (some 41) _) _
      simp only [Act.put, List.setIfInBounds_toArray, List.set_cons_zero, List.set_cons_succ]
      refine' wpAnyH_take (i := 11) (v := _) rfl (by kernel_rfl) (by kernel_rfl) (by kernel_rfl) (fun _ _ _ h => h) (Or.inl ⟨by kernel_rfl, ?htb12⟩) (by assumption) ?rtb12
      case htb12 => intro W hW; obtain ⟨c0, c1⟩ := hW; go_simp; all_goals with_reducible rfl
      change wpAnyH _ _ _ _ _ _ _ (Act.put _ (some 42) _) _
      simp only [Act.put, List.setIfInBounds_toArray, List.set_cons_zero, List.set_cons_succ]
      refine' wpAnyH_take (i := 12) (v := _) rfl (by kernel_rfl) (by kernel_rfl) (by kernel_rfl) (fun _ _ _ h => h) (Or.inl ⟨by kernel_rfl, ?htb13⟩) (by assumption) ?rtb13
      case htb13 => intro W hW; obtain ⟨c0, c1⟩ := hW; go_simp; all_goals with_reducible rfl
      change wpAnyH _ _ _ _ _ _ _ (Act.put _ (some 43) _) _
      simp only [Act.put, List.setIfInBounds_toArray, List.set_cons_zero, List.set_cons_succ]
      refine wpAnyH_done (by kernel_rfl) ?_ _
      clear hHeld
      by_cases hord : p0 ≤ y0
      · have e1 : decide (p0 ≤ y0) = true := decide_eq_true hord
        have HN2 : Hid (¬ FaultsOk l) := HNO.out (fun h => by have := h.2; omega)
        clear HN HNO
        go_wp2
        go_ret
        exact Says.no HN2.out hbD
      · have e1 : decide (p0 ≤ y0) = false := decide_eq_false hord
        have HN3 : Hid (∀ i, i < k + 1 → FAt l i) := HN.out ⟨HF1, by omega⟩
        clear HN HNO
        go_wp2
        go_roundg (l.length - (k + 1))
        case measure => omega
        case rel => exact ⟨k + 1, by omega, rfl, by go_num, hbD, HN3⟩

    · have hkz : ¬ (k : Int) < (l.length : Int) := by omega
      clear h
      go_wp2
      go_ret
      exact Says.yes ⟨by omega, fun i h => HA.out i (by omega) h⟩ hB

set_option maxHeartbeats 4000000 in
theorem implDiskOk_any (v : Value) (D : PDisk) (w : World) (h : KView w v D) (hf : KFine D) :
    Calls Try.prog 22 #[v] w (Says w (OkD D)) := by
  obtain ⟨sa, sc, ca, cc, fa, fc, rfl, hs, hc, hfv⟩ := h.is
  clear h
  have hB0 := box5_start w (.cells #[.slice sa D.secs.length sc, .slice ca D.cache.length cc, .int .i64 D.ops, .slice fa D.faults.length fc, .bool D.down] 32)
  obtain ⟨hBw0, -⟩ := box5_below hB0
  have hV := secsOk_any sa sc D.secs _ (sview_below hs hBw0) hf.ns
  have hcl := hf.nc
  go_enter Try.func22, Try.ntmps22
  go_wp2_with fail
  refine hV.mono ?_
  rintro e w1 ⟨r1, rfl, hr1, hb1⟩
  have HR1 : Hid (r1 = true ↔ SecsOk D.secs) := hr1
  have hB1 := box5_on hB0 hb1
  obtain ⟨hBw1, -⟩ := box5_below hB1
  obtain ⟨x0, x1, x2, x3, x4⟩ := box5 hB1
  clear hV hr1 hB0 hBw0 hb1 hs
  cases r1
  · clear hc hfv
    go_wp2
    go_ret
    exact Says.no (fun h => by have := HR1.out.2 h.1; cases this) hBw1
  have hV := cacheOk_any ca cc D.cache D.secs.length w1 (wview_below hc hBw1) hf.nc
  go_wp2_with fail
  refine hV.mono ?_
  rintro e w2 ⟨r2, rfl, hr2, hb2⟩
  have HR2 : Hid (r2 = true ↔ CacheOk D.secs.length D.cache) := hr2
  have hB2 := box5_on hB1 hb2
  obtain ⟨hBw2, -⟩ := box5_below hB2
  clear x0 x1 x2 x3 x4
  obtain ⟨x0, x1, x2, x3, x4⟩ := box5 hB2
  clear hV hr2 hB1 hBw1 hb2 hc
  cases r2
  · clear hfv
    go_wp2
    go_ret
    exact Says.no (fun h => by have := HR2.out.2 h.2.1; cases this) hBw2
  by_cases hop : 0 ≤ D.ops ∧ D.ops ≤ 100000
  case neg =>
    have hV := fun W => inside_no D.ops 100000 W hop
    clear hfv
    go_wp2_with fail
    refine (hV _).mono ?_
    rintro e w3 ⟨rfl, rfl⟩
    clear hV
    go_wp2
    go_ret
    exact Says.no (fun h => hop h.2.2.1) hBw2
  have hV := fun W => inside_yes D.ops 100000 W hop.1 hop.2
  go_wp2_with fail
  refine (hV _).mono ?_
  rintro e w3 ⟨rfl, rfl⟩
  clear hV
  have hV := faultsOk_any fa fc D.faults w2 (fview_below hfv hBw2) hf.nf
  go_wp2_with fail
  refine hV.mono ?_
  rintro e w3 ⟨r3, rfl, hr3, hb3⟩
  have HR3 : Hid (r3 = true ↔ FaultsOk D.faults) := hr3
  have hB3 := box5_on hB2 hb3
  obtain ⟨hBw3, -⟩ := box5_below hB3
  clear x0 x1 x2 x3 x4
  obtain ⟨x0, x1, x2, x3, x4⟩ := box5 hB3
  clear hV hr3 hB2 hBw2 hb3 hfv
  cases r3
  · go_wp2
    go_ret
    exact Says.no (fun h => by have := HR3.out.2 h.2.2.2.1; cases this) hBw3
  obtain ⟨dn, hdn⟩ := hidEx D.down
  rw [hdn.out] at x4
  cases dn
  · go_wp2
    go_ret
    exact Says.yes ⟨HR1.out.1 (by simp), HR2.out.1 (by simp), hop, HR3.out.1 (by simp), fun h => by rw [hdn.out] at h; cases h.1⟩ hBw3
  go_wp2
  go_ret
  refine ⟨!decide (0 < D.cache.length), rfl, ?_, hBw3⟩
  have h1 := HR1.out.1 (by simp)
  have h2 := HR2.out.1 (by simp)
  have h3 := HR3.out.1 (by simp)
  by_cases h0 : 0 < D.cache.length
  · simp only [h0, decide_true, Bool.not_true, Bool.false_eq_true, false_iff]
    exact fun h => h.2.2.2.2 ⟨hdn.out, h0⟩
  · simp only [h0, decide_false, Bool.not_false, true_iff]
    exact ⟨h1, h2, hop, h3, fun h => h0 h.2⟩

end Go.Proofs.Ytdhfbblameiloaa

