/-
  Together: NodeRise, NodeOkS, PutNums
-/
import Derived.Test.YtaiinlcdfeboiaaNP6
import Derived.Test.YtaiinlcdfeboiaaNP9
import Derived.Deep.RegionHeld3
import Derived.Test.YtaiinlcdfeboiaaNP8
/-
  The model's l14Rising; what its NodeOk says of the keys.
-/
namespace Go.Proofs.Ytaiinlcdfeboiaa
open Go.RowKit
set_option maxRecDepth 4000

def SaysN (w : World) (P : Prop) (e : Ending) (w' : World) : Prop := ∃ r : Bool, e = .returned (.bool r) ∧ (r = true ↔ P) ∧ Below w.heap.size w w'
def SaysI (w : World) (P : Prop) (e : Ending) (w' : World) : Prop := ∃ r : Bool, e = .returned (.bool r) ∧ (r = true → P) ∧ Below w.heap.size w w'
/-- As far as the k-th the keys are short and ascend. -/
def ShortRise (f : Nat → ByteArray) (k : Nat) : Prop := ∀ i, i < k → (f i).size ≤ 48 ∧ (0 < i → geT (f (i - 1)) (f i) = false)
theorem ShortRise.rises {f : Nat → ByteArray} {k : Nat} (h : ShortRise f k) : Rises f k := fun i hi => by
  have := (h (i + 1) hi).2 (by omega)
  simpa [geT, ltT] using this
theorem ShortRise.next {f : Nat → ByteArray} {k : Nat} (h : ShortRise f k) (h1 : (f k).size ≤ 48) (h2 : 0 < k → geT (f (k - 1)) (f k) = false) : ShortRise f (k + 1) := fun i hi => by
  by_cases e : i < k
  · exact h i e
  · obtain rfl : i = k := by omega
    exact ⟨h1, h2⟩

set_option maxHeartbeats 4000000 in
theorem l14Rising_any (a : Option Addr) (n c : Nat) (f : Nat → ByteArray) (w : World) (h : TxV w a n c f) (hn : n ≤ 1048576) (hz : ∀ i, i < n → (f i).size ≤ 1048576) :
    Calls Try.prog 46 #[.slice a n c] w (SaysN w (ShortRise f n)) := by
  go_enter Try.func46, Try.ntmps46
  go_wp2
  go_loopg [3] n (fun q i wr => ∃ k : Nat, k ≤ n ∧ q = n - k ∧ i = .int .i64 k ∧ Below w.heap.size w wr ∧ Hid (ShortRise f k))
  case atStart => exact ⟨0, Nat.zero_le _, rfl, rfl, Below.refl _ _, fun i hi => absurd hi (Nat.not_lt_zero _)⟩
  case round =>
    obtain ⟨k, hk, rfl, rfl, hB, HA⟩ := hrel
    by_cases hlt : k < n
    · obtain ⟨b1, o1, rfl, hb1, hc1⟩ := (h.below hB).cells (by omega)
      have x0 : wr.cell? ⟨b1, o1 + k, none⟩ = some (.string (f k)) := hc1 k hlt
      have hkz : (k : Int) < (n : Int) := by omega
      have hs0 := hz k hlt
      have HB : Hid (Below w.heap.size w wr.drew) := hB.drew
      have HC1 : Hid (∀ i, i < n → wr.cell? ⟨b1, o1 + i, none⟩ = some (.string (f i))) := hc1
      obtain ⟨p0, hp0⟩ : ∃ x, Hid (f k = x) := ⟨_, rfl⟩
      rw [hp0.out] at x0 hs0
      clear h hz hB hc1
      by_cases hbig : (48 : Int) < (p0.size : Int)
      · have HN : Hid (¬ ShortRise f n) := fun hS => by have := (hS k hlt).1; rw [hp0.out] at this; omega
        have hq1 : decide ((48 : Int) < (p0.size : Int)) = true := by simpa using hbig
        clear HA HC1
        go_wp2_with fail
        refine wp_region_held_drew (S := fun W => W.cell? ⟨b1, o1 + k, none⟩ = some (.string p0)) (by kernel_rfl) x0 (fun hHeld => ?_)
        refine' wpAnyH_take (i := 0) (v := _) rfl (by kernel_rfl) (by kernel_rfl) (by kernel_rfl) (fun _ _ _ h => h) (Or.inl ⟨by kernel_rfl, ?hra1⟩) (by assumption) ?rra1
        case hra1 => intro W hW; have c0 := hW; go_simp; all_goals with_reducible rfl
        change wpAnyH _ _ _ _ _ _ _ (Act.put _ (some 10) _) _
        simp only [Act.put, List.setIfInBounds_toArray, List.set_cons_zero, List.set_cons_succ]
        refine' wpAnyH_take (i := 1) (v := _) rfl (by kernel_rfl) (by kernel_rfl) (by kernel_rfl) (fun _ _ _ h => h) (Or.inl ⟨by kernel_rfl, ?hra2⟩) (by assumption) ?rra2
        case hra2 => intro W hW; have c0 := hW; go_simp; all_goals with_reducible rfl
        change wpAnyH _ _ _ _ _ _ _ (Act.put _ (some 11) _) _
        simp only [Act.put, List.setIfInBounds_toArray, List.set_cons_zero, List.set_cons_succ]
        refine' wpAnyH_take (i := 2) (v := _) rfl (by kernel_rfl) (by kernel_rfl) (by kernel_rfl) (fun _ _ _ h => h) (Or.inl ⟨by kernel_rfl, ?hra3⟩) (by assumption) ?rra3
        case hra3 => intro W hW; have c0 := hW; go_simp; all_goals with_reducible rfl
        change wpAnyH _ _ _ _ _ _ _ (Act.put _ (some 12) _) _
        simp only [Act.put, List.setIfInBounds_toArray, List.set_cons_zero, List.set_cons_succ]
        refine' wpAnyH_take (i := 3) (v := _) rfl (by kernel_rfl) (by kernel_rfl) (by kernel_rfl) (fun _ _ _ h => h) (Or.inl ⟨by kernel_rfl, ?hra4⟩) (by assumption) ?rra4
        case hra4 => intro W hW; have c0 := hW; go_simp; all_goals with_reducible rfl
        change wpAnyH _ _ _ _ _ _ _ (Act.put _ (some 13) _) _
        simp only [Act.put, List.setIfInBounds_toArray, List.set_cons_zero, List.set_cons_succ]
        refine' wpAnyH_take (i := 4) (v := _) rfl (by kernel_rfl) (by kernel_rfl) (by kernel_rfl) (fun _ _ _ h => h) (Or.inl ⟨by kernel_rfl, ?hra5⟩) (by assumption) ?rra5
        case hra5 => intro W hW; have c0 := hW; go_simp; all_goals with_reducible rfl
        change wpAnyH _ _ _ _ _ _ _ (Act.put _ (some 14) _) _
        simp only [Act.put, List.setIfInBounds_toArray, List.set_cons_zero, List.set_cons_succ]
        refine' wpAnyH_take (i := 5) (v := _) rfl (by kernel_rfl) (by kernel_rfl) (by kernel_rfl) (fun _ _ _ h => h) (Or.inl ⟨by kernel_rfl, ?hra6⟩) (by assumption) ?rra6
        case hra6 => intro W hW; have c0 := hW; go_simp; all_goals with_reducible rfl
        change wpAnyH _ _ _ _ _ _ _ (Act.put _ (some 15) _) _
        simp only [Act.put, List.setIfInBounds_toArray, List.set_cons_zero, List.set_cons_succ]
        refine' wpAnyH_take (i := 6) (v := _) rfl (by kernel_rfl) (by kernel_rfl) (by kernel_rfl) (fun _ _ _ h => h) (Or.inl ⟨by kernel_rfl, ?hra7⟩) (by assumption) ?rra7
        case hra7 => intro W hW; have c0 := hW; go_simp; all_goals with_reducible rfl
        change wpAnyH _ _ _ _ _ _ _ (Act.put _ (some 16) _) _
        simp only [Act.put, List.setIfInBounds_toArray, List.set_cons_zero, List.set_cons_succ]
        refine wpAnyH_take (i := 7) (v := undef) rfl (by kernel_rfl) (by kernel_rfl) (by kernel_rfl) (fun _ _ _ h => h) (Or.inr ⟨by kernel_rfl, rfl⟩) (by assumption) ?_
        change wpAnyH _ _ _ _ _ _ _ (Act.put _ (some 17) _) _
        simp only [Act.put, List.setIfInBounds_toArray, List.set_cons_zero, List.set_cons_succ]
        refine wpAnyH_take (i := 8) (v := undef) rfl (by kernel_rfl) (by kernel_rfl) (by kernel_rfl) (fun _ _ _ h => h) (Or.inr ⟨by kernel_rfl, rfl⟩) (by assumption) ?_
        change wpAnyH _ _ _ _ _ _ _ (Act.put _ (some 18) _) _
        simp only [Act.put, List.setIfInBounds_toArray, List.set_cons_zero, List.set_cons_succ]
        refine wpAnyH_take (i := 9) (v := undef) rfl (by kernel_rfl) (by kernel_rfl) (by kernel_rfl) (fun _ _ _ h => h) (Or.inr ⟨by kernel_rfl, rfl⟩) (by assumption) ?_
        change wpAnyH _ _ _ _ _ _ _ (Act.put _ (some 19) _) _
        simp only [Act.put, List.setIfInBounds_toArray, List.set_cons_zero, List.set_cons_succ]
        refine wpAnyH_take (i := 10) (v := undef) rfl (by kernel_rfl) (by kernel_rfl) (by kernel_rfl) (fun _ _ _ h => h) (Or.inr ⟨by kernel_rfl, rfl⟩) (by assumption) ?_
        change wpAnyH _ _ _ _ _ _ _ (Act.put _ (some 20) _) _
        simp only [Act.put, List.setIfInBounds_toArray, List.set_cons_zero, List.set_cons_succ]
        refine wpAnyH_take (i := 11) (v := undef) rfl (by kernel_rfl) (by kernel_rfl) (by kernel_rfl) (fun _ _ _ h => h) (Or.inr ⟨by kernel_rfl, rfl⟩) (by assumption) ?_
        change wpAnyH _ _ _ _ _ _ _ (Act.put _ (some 21) _) _
        simp only [Act.put, List.setIfInBounds_toArray, List.set_cons_zero, List.set_cons_succ]
        refine wpAnyH_take (i := 12) (v := undef) rfl (by kernel_rfl) (by kernel_rfl) (by kernel_rfl) (fun _ _ _ h => h) (Or.inr ⟨by kernel_rfl, rfl⟩) (by assumption) ?_
        change wpAnyH _ _ _ _ _ _ _ (Act.put _ (some 22) _) _
        simp only [Act.put, List.setIfInBounds_toArray, List.set_cons_zero, List.set_cons_succ]
        refine wpAnyH_take (i := 13) (v := undef) rfl (by kernel_rfl) (by kernel_rfl) (by kernel_rfl) (fun _ _ _ h => h) (Or.inr ⟨by kernel_rfl, rfl⟩) (by assumption) ?_
        change wpAnyH _ _ _ _ _ _ _ (Act.put _ (some 23) _) _
        simp only [Act.put, List.setIfInBounds_toArray, List.set_cons_zero, List.set_cons_succ]
        refine wpAnyH_take (i := 14) (v := undef) rfl (by kernel_rfl) (by kernel_rfl) (by kernel_rfl) (fun _ _ _ h => h) (Or.inr ⟨by kernel_rfl, rfl⟩) (by assumption) ?_
        change wpAnyH _ _ _ _ _ _ _ (Act.put _ (some 24) _) _
        simp only [Act.put, List.setIfInBounds_toArray, List.set_cons_zero, List.set_cons_succ]
        refine wpAnyH_take (i := 15) (v := undef) rfl (by kernel_rfl) (by kernel_rfl) (by kernel_rfl) (fun _ _ _ h => h) (Or.inr ⟨by kernel_rfl, rfl⟩) (by assumption) ?_
        change wpAnyH _ _ _ _ _ _ _ (Act.put _ (some 25) _) _
        simp only [Act.put, List.setIfInBounds_toArray, List.set_cons_zero, List.set_cons_succ]
        refine wpAnyH_take (i := 16) (v := undef) rfl (by kernel_rfl) (by kernel_rfl) (by kernel_rfl) (fun _ _ _ h => h) (Or.inr ⟨by kernel_rfl, rfl⟩) (by assumption) ?_
        change wpAnyH _ _ _ _ _ _ _ (Act.put _ (some 26) _) _
        simp only [Act.put, List.setIfInBounds_toArray, List.set_cons_zero, List.set_cons_succ]
        refine wpAnyH_take (i := 17) (v := undef) rfl (by kernel_rfl) (by kernel_rfl) (by kernel_rfl) (fun _ _ _ h => h) (Or.inr ⟨by kernel_rfl, rfl⟩) (by assumption) ?_
        change wpAnyH _ _ _ _ _ _ _ (Act.put _ (some 27) _) _
        simp only [Act.put, List.setIfInBounds_toArray, List.set_cons_zero, List.set_cons_succ]
        refine wpAnyH_take (i := 18) (v := undef) rfl (by kernel_rfl) (by kernel_rfl) (by kernel_rfl) (fun _ _ _ h => h) (Or.inr ⟨by kernel_rfl, rfl⟩) (by assumption) ?_
        change wpAnyH _ _ _ _ _ _ _ (Act.put _ (some 28) _) _
        simp only [Act.put, List.setIfInBounds_toArray, List.set_cons_zero, List.set_cons_succ]
        refine wpAnyH_take (i := 19) (v := undef) rfl (by kernel_rfl) (by kernel_rfl) (by kernel_rfl) (fun _ _ _ h => h) (Or.inr ⟨by kernel_rfl, rfl⟩) (by assumption) ?_
        change wpAnyH _ _ _ _ _ _ _ (Act.put _ (some 29) _) _
        simp only [Act.put, List.setIfInBounds_toArray, List.set_cons_zero, List.set_cons_succ]
        refine wpAnyH_take (i := 20) (v := undef) rfl (by kernel_rfl) (by kernel_rfl) (by kernel_rfl) (fun _ _ _ h => h) (Or.inr ⟨by kernel_rfl, rfl⟩) (by assumption) ?_
        change wpAnyH _ _ _ _ _ _ _ (Act.put _ (some 30) _) _
        simp only [Act.put, List.setIfInBounds_toArray, List.set_cons_zero, List.set_cons_succ]
        refine' wpAnyH_take (i := 21) (v := _) rfl (by kernel_rfl) (by kernel_rfl) (by kernel_rfl) (fun _ _ _ h => h) (Or.inl ⟨by kernel_rfl, ?hra22⟩) (by assumption) ?rra22
        case hra22 => intro W hW; have c0 := hW; go_simp; all_goals with_reducible rfl
        change wpAnyH _ _ _ _ _ _ _ (Act.put _ (some 31) _) _
        simp only [Act.put, List.setIfInBounds_toArray, List.set_cons_zero, List.set_cons_succ]
        refine wpAnyH_done (by kernel_rfl) ?_ _
        clear hHeld
        go_wp2
        go_ret
        exact ⟨false, rfl, ⟨(fun h => by cases h), fun h => absurd h HN.out⟩, HB.out⟩
      · have hb0 : ¬ (48 : Int) < (p0.size : Int) := hbig
        have hq1 : decide ((48 : Int) < (p0.size : Int)) = false := by simpa using hbig
        by_cases hk0 : k = 0
        · subst hk0
          have HN : Hid (ShortRise f (0 + 1)) := HA.out.next (by rw [hp0.out]; omega) (fun h => absurd h (Nat.lt_irrefl _))
          clear HA HC1
          rw [Nat.add_zero] at x0
          go_wp2_with fail
          refine wp_region_held_drew (S := fun W => W.cell? ⟨b1, o1, none⟩ = some (.string p0)) (by kernel_rfl) x0 (fun hHeld => ?_)
          refine' wpAnyH_take (i := 0) (v := _) rfl (by kernel_rfl) (by kernel_rfl) (by kernel_rfl) (fun _ _ _ h => h) (Or.inl ⟨by kernel_rfl, ?hrb1⟩) (by assumption) ?rrb1
          case hrb1 => intro W hW; have c0 := hW; go_simp; all_goals with_reducible rfl
          change wpAnyH _ _ _ _ _ _ _ (Act.put _ (some 10) _) _
          simp only [Act.put, List.setIfInBounds_toArray, List.set_cons_zero, List.set_cons_succ]
          refine' wpAnyH_take (i := 1) (v := _) rfl (by kernel_rfl) (by kernel_rfl) (by kernel_rfl) (fun _ _ _ h => h) (Or.inl ⟨by kernel_rfl, ?hrb2⟩) (by assumption) ?rrb2
          case hrb2 => intro W hW; have c0 := hW; go_simp; all_goals with_reducible rfl
          change wpAnyH _ _ _ _ _ _ _ (Act.put _ (some 11) _) _
          simp only [Act.put, List.setIfInBounds_toArray, List.set_cons_zero, List.set_cons_succ]
          refine' wpAnyH_take (i := 2) (v := _) rfl (by kernel_rfl) (by kernel_rfl) (by kernel_rfl) (fun _ _ _ h => h) (Or.inl ⟨by kernel_rfl, ?hrb3⟩) (by assumption) ?rrb3
          case hrb3 => intro W hW; have c0 := hW; go_simp; all_goals with_reducible rfl
          change wpAnyH _ _ _ _ _ _ _ (Act.put _ (some 12) _) _
          simp only [Act.put, List.setIfInBounds_toArray, List.set_cons_zero, List.set_cons_succ]
          refine' wpAnyH_take (i := 3) (v := _) rfl (by kernel_rfl) (by kernel_rfl) (by kernel_rfl) (fun _ _ _ h => h) (Or.inl ⟨by kernel_rfl, ?hrb4⟩) (by assumption) ?rrb4
          case hrb4 => intro W hW; have c0 := hW; go_simp; all_goals with_reducible rfl
          change wpAnyH _ _ _ _ _ _ _ (Act.put _ (some 13) _) _
          simp only [Act.put, List.setIfInBounds_toArray, List.set_cons_zero, List.set_cons_succ]
          refine' wpAnyH_take (i := 4) (v := _) rfl (by kernel_rfl) (by kernel_rfl) (by kernel_rfl) (fun _ _ _ h => h) (Or.inl ⟨by kernel_rfl, ?hrb5⟩) (by assumption) ?rrb5
          case hrb5 => intro W hW; have c0 := hW; go_simp; all_goals with_reducible rfl
          change wpAnyH _ _ _ _ _ _ _ (Act.put _ (some 14) _) _
          simp only [Act.put, List.setIfInBounds_toArray, List.set_cons_zero, List.set_cons_succ]
          refine' wpAnyH_take (i := 5) (v := _) rfl (by kernel_rfl) (by kernel_rfl) (by kernel_rfl) (fun _ _ _ h => h) (Or.inl ⟨by kernel_rfl, ?hrb6⟩) (by assumption) ?rrb6
          case hrb6 => intro W hW; have c0 := hW; go_simp; all_goals with_reducible rfl
          change wpAnyH _ _ _ _ _ _ _ (Act.put _ (some 15) _) _
          simp only [Act.put, List.setIfInBounds_toArray, List.set_cons_zero, List.set_cons_succ]
          refine' wpAnyH_take (i := 6) (v := _) rfl (by kernel_rfl) (by kernel_rfl) (by kernel_rfl) (fun _ _ _ h => h) (Or.inl ⟨by kernel_rfl, ?hrb7⟩) (by assumption) ?rrb7
          case hrb7 => intro W hW; have c0 := hW; go_simp; all_goals with_reducible rfl
          change wpAnyH _ _ _ _ _ _ _ (Act.put _ (some 16) _) _
          simp only [Act.put, List.setIfInBounds_toArray, List.set_cons_zero, List.set_cons_succ]
          refine' wpAnyH_take (i := 7) (v := _) rfl (by kernel_rfl) (by kernel_rfl) (by kernel_rfl) (fun _ _ _ h => h) (Or.inl ⟨by kernel_rfl, ?hrb8⟩) (by assumption) ?rrb8
          case hrb8 => intro W hW; have c0 := hW; go_simp; all_goals with_reducible rfl
          change wpAnyH _ _ _ _ _ _ _ (Act.put _ (some 17) _) _
          simp only [Act.put, List.setIfInBounds_toArray, List.set_cons_zero, List.set_cons_succ]
          refine' wpAnyH_take (i := 8) (v := _) rfl (by kernel_rfl) (by kernel_rfl) (by kernel_rfl) (fun _ _ _ h => h) (Or.inl ⟨by kernel_rfl, ?hrb9⟩) (by assumption) ?rrb9
          case hrb9 => intro W hW; have c0 := hW; go_simp; all_goals with_reducible rfl
          change wpAnyH _ _ _ _ _ _ _ (Act.put _ (some 18) _) _
          simp only [Act.put, List.setIfInBounds_toArray, List.set_cons_zero, List.set_cons_succ]
          refine' wpAnyH_take (i := 9) (v := _) rfl (by kernel_rfl) (by kernel_rfl) (by kernel_rfl) (fun _ _ _ h => h) (Or.inl ⟨by kernel_rfl, ?hrb10⟩) (by assumption) ?rrb10
          case hrb10 => intro W hW; have c0 := hW; go_simp; all_goals with_reducible rfl
          change wpAnyH _ _ _ _ _ _ _ (Act.put _ (some 19) _) _
          simp only [Act.put, List.setIfInBounds_toArray, List.set_cons_zero, List.set_cons_succ]
          refine wpAnyH_take (i := 10) (v := undef) rfl (by kernel_rfl) (by kernel_rfl) (by kernel_rfl) (fun _ _ _ h => h) (Or.inr ⟨by kernel_rfl, rfl⟩) (by assumption) ?_
          change wpAnyH _ _ _ _ _ _ _ (Act.put _ (some 20) _) _
          simp only [Act.put, List.setIfInBounds_toArray, List.set_cons_zero, List.set_cons_succ]
          refine wpAnyH_take (i := 11) (v := undef) rfl (by kernel_rfl) (by kernel_rfl) (by kernel_rfl) (fun _ _ _ h => h) (Or.inr ⟨by kernel_rfl, rfl⟩) (by assumption) ?_
          change wpAnyH _ _ _ _ _ _ _ (Act.put _ (some 21) _) _
          simp only [Act.put, List.setIfInBounds_toArray, List.set_cons_zero, List.set_cons_succ]
          refine wpAnyH_take (i := 12) (v := undef) rfl (by kernel_rfl) (by kernel_rfl) (by kernel_rfl) (fun _ _ _ h => h) (Or.inr ⟨by kernel_rfl, rfl⟩) (by assumption) ?_
          change wpAnyH _ _ _ _ _ _ _ (Act.put _ (some 22) _) _
          simp only [Act.put, List.setIfInBounds_toArray, List.set_cons_zero, List.set_cons_succ]
          refine wpAnyH_take (i := 13) (v := undef) rfl (by kernel_rfl) (by kernel_rfl) (by kernel_rfl) (fun _ _ _ h => h) (Or.inr ⟨by kernel_rfl, rfl⟩) (by assumption) ?_
          change wpAnyH _ _ _ _ _ _ _ (Act.put _ (some 23) _) _
          simp only [Act.put, List.setIfInBounds_toArray, List.set_cons_zero, List.set_cons_succ]
          refine wpAnyH_take (i := 14) (v := undef) rfl (by kernel_rfl) (by kernel_rfl) (by kernel_rfl) (fun _ _ _ h => h) (Or.inr ⟨by kernel_rfl, rfl⟩) (by assumption) ?_
          change wpAnyH _ _ _ _ _ _ _ (Act.put _ (some 24) _) _
          simp only [Act.put, List.setIfInBounds_toArray, List.set_cons_zero, List.set_cons_succ]
          refine wpAnyH_take (i := 15) (v := undef) rfl (by kernel_rfl) (by kernel_rfl) (by kernel_rfl) (fun _ _ _ h => h) (Or.inr ⟨by kernel_rfl, rfl⟩) (by assumption) ?_
          change wpAnyH _ _ _ _ _ _ _ (Act.put _ (some 25) _) _
          simp only [Act.put, List.setIfInBounds_toArray, List.set_cons_zero, List.set_cons_succ]
          refine wpAnyH_take (i := 16) (v := undef) rfl (by kernel_rfl) (by kernel_rfl) (by kernel_rfl) (fun _ _ _ h => h) (Or.inr ⟨by kernel_rfl, rfl⟩) (by assumption) ?_
          change wpAnyH _ _ _ _ _ _ _ (Act.put _ (some 26) _) _
          simp only [Act.put, List.setIfInBounds_toArray, List.set_cons_zero, List.set_cons_succ]
          refine wpAnyH_take (i := 17) (v := undef) rfl (by kernel_rfl) (by kernel_rfl) (by kernel_rfl) (fun _ _ _ h => h) (Or.inr ⟨by kernel_rfl, rfl⟩) (by assumption) ?_
          change wpAnyH _ _ _ _ _ _ _ (Act.put _ (some 27) _) _
          simp only [Act.put, List.setIfInBounds_toArray, List.set_cons_zero, List.set_cons_succ]
          refine wpAnyH_take (i := 18) (v := undef) rfl (by kernel_rfl) (by kernel_rfl) (by kernel_rfl) (fun _ _ _ h => h) (Or.inr ⟨by kernel_rfl, rfl⟩) (by assumption) ?_
          change wpAnyH _ _ _ _ _ _ _ (Act.put _ (some 28) _) _
          simp only [Act.put, List.setIfInBounds_toArray, List.set_cons_zero, List.set_cons_succ]
          refine wpAnyH_take (i := 19) (v := undef) rfl (by kernel_rfl) (by kernel_rfl) (by kernel_rfl) (fun _ _ _ h => h) (Or.inr ⟨by kernel_rfl, rfl⟩) (by assumption) ?_
          change wpAnyH _ _ _ _ _ _ _ (Act.put _ (some 29) _) _
          simp only [Act.put, List.setIfInBounds_toArray, List.set_cons_zero, List.set_cons_succ]
          refine' wpAnyH_take (i := 20) (v := _) rfl (by kernel_rfl) (by kernel_rfl) (by kernel_rfl) (fun _ _ _ h => h) (Or.inl ⟨by kernel_rfl, ?hrb21⟩) (by assumption) ?rrb21
          case hrb21 => intro W hW; have c0 := hW; go_simp; all_goals with_reducible rfl
          change wpAnyH _ _ _ _ _ _ _ (Act.put _ (some 30) _) _
          simp only [Act.put, List.setIfInBounds_toArray, List.set_cons_zero, List.set_cons_succ]
          refine' wpAnyH_take (i := 21) (v := _) rfl (by kernel_rfl) (by kernel_rfl) (by kernel_rfl) (fun _ _ _ h => h) (Or.inl ⟨by kernel_rfl, ?hrb22⟩) (by assumption) ?rrb22
          case hrb22 => intro W hW; have c0 := hW; go_simp; all_goals with_reducible rfl
          change wpAnyH _ _ _ _ _ _ _ (Act.put _ (some 31) _) _
          simp only [Act.put, List.setIfInBounds_toArray, List.set_cons_zero, List.set_cons_succ]
          refine wpAnyH_done (by kernel_rfl) ?_ _
          clear hHeld
          go_wp2
          go_roundg (n - (0 + 1))
          case measure => omega
          case rel => exact ⟨0 + 1, by omega, rfl, by go_num, HB.out, HN⟩
        · have hkp : (0 : Int) < (k : Int) := by omega
          have hq2 : decide (0 < k) = true := by simp; omega
          have y0 : wr.cell? ⟨b1, o1 + (k - 1), none⟩ = some (.string (f (k - 1))) := HC1.out (k - 1) (by omega)
          have hG := fun W => geq_str (f (k - 1)) (f k) W
          have HNX : Hid (geT (f (k - 1)) (f k) = false → ShortRise f (k + 1)) := fun h => HA.out.next (by rw [hp0.out]; omega) (fun _ => h)
          have HNO : Hid (geT (f (k - 1)) (f k) = true → ¬ ShortRise f n) := fun h hS => by have := (hS k hlt).2 (by omega); rw [h] at this; cases this
          obtain ⟨p1, hp1⟩ : ∃ x, Hid (f (k - 1) = x) := ⟨_, rfl⟩
          rw [hp1.out] at y0
          simp only [hp1.out, hp0.out] at hG HNX HNO
          obtain ⟨r, hr⟩ : ∃ x, Hid (geT p1 p0 = x) := ⟨_, rfl⟩
          simp only [hr.out] at hG HNX HNO
          obtain ⟨k1, hk1⟩ : ∃ m, Hid (k - 1 = m) := ⟨_, rfl⟩
          rw [hk1.out] at y0
          have hw1 : IntKind.i64.wrap ((k : Int) - 1) = (k1 : Int) := by have := hk1.out; rw [IntKind.wrap_i64]; omega
          have hkn1 : (k1 : Int) < (n : Int) := by have := hk1.out; omega
          clear HA HC1
          go_wp2_with fail
          refine wp_region_held_drew (S := fun W => W.cell? ⟨b1, o1 + k, none⟩ = some (.string p0) ∧ W.cell? ⟨b1, o1 + k1, none⟩ = some (.string p1)) (by kernel_rfl) ⟨x0, y0⟩ (fun hHeld => ?_)
          refine' wpAnyH_take (i := 0) (v := _) rfl (by kernel_rfl) (by kernel_rfl) (by kernel_rfl) (fun _ _ _ h => h) (Or.inl ⟨by kernel_rfl, ?hrc1⟩) (by assumption) ?rrc1
          case hrc1 => intro W hW; obtain ⟨c0, c1⟩ := hW; go_simp; all_goals with_reducible rfl
          change wpAnyH _ _ _ _ _ _ _ (Act.put _ (some 10) _) _
          simp only [Act.put, List.setIfInBounds_toArray, List.set_cons_zero, List.set_cons_succ]
          refine' wpAnyH_take (i := 1) (v := _) rfl (by kernel_rfl) (by kernel_rfl) (by kernel_rfl) (fun _ _ _ h => h) (Or.inl ⟨by kernel_rfl, ?hrc2⟩) (by assumption) ?rrc2
          case hrc2 => intro W hW; obtain ⟨c0, c1⟩ := hW; go_simp; all_goals with_reducible rfl
          change wpAnyH _ _ _ _ _ _ _ (Act.put _ (some 11) _) _
          simp only [Act.put, List.setIfInBounds_toArray, List.set_cons_zero, List.set_cons_succ]
          refine' wpAnyH_take (i := 2) (v := _) rfl (by kernel_rfl) (by kernel_rfl) (by kernel_rfl) (fun _ _ _ h => h) (Or.inl ⟨by kernel_rfl, ?hrc3⟩) (by assumption) ?rrc3
          case hrc3 => intro W hW; obtain ⟨c0, c1⟩ := hW; go_simp; all_goals with_reducible rfl
          change wpAnyH _ _ _ _ _ _ _ (Act.put _ (some 12) _) _
          simp only [Act.put, List.setIfInBounds_toArray, List.set_cons_zero, List.set_cons_succ]
          refine' wpAnyH_take (i := 3) (v := _) rfl (by kernel_rfl) (by kernel_rfl) (by kernel_rfl) (fun _ _ _ h => h) (Or.inl ⟨by kernel_rfl, ?hrc4⟩) (by assumption) ?rrc4
          case hrc4 => intro W hW; obtain ⟨c0, c1⟩ := hW; go_simp; all_goals with_reducible rfl
          change wpAnyH _ _ _ _ _ _ _ (Act.put _ (some 13) _) _
          simp only [Act.put, List.setIfInBounds_toArray, List.set_cons_zero, List.set_cons_succ]
          refine' wpAnyH_take (i := 4) (v := _) rfl (by kernel_rfl) (by kernel_rfl) (by kernel_rfl) (fun _ _ _ h => h) (Or.inl ⟨by kernel_rfl, ?hrc5⟩) (by assumption) ?rrc5
          case hrc5 => intro W hW; obtain ⟨c0, c1⟩ := hW; go_simp; all_goals with_reducible rfl
          change wpAnyH _ _ _ _ _ _ _ (Act.put _ (some 14) _) _
          simp only [Act.put, List.setIfInBounds_toArray, List.set_cons_zero, List.set_cons_succ]
          refine' wpAnyH_take (i := 5) (v := _) rfl (by kernel_rfl) (by kernel_rfl) (by kernel_rfl) (fun _ _ _ h => h) (Or.inl ⟨by kernel_rfl, ?hrc6⟩) (by assumption) ?rrc6
          case hrc6 => intro W hW; obtain ⟨c0, c1⟩ := hW; go_simp; all_goals with_reducible rfl
          change wpAnyH _ _ _ _ _ _ _ (Act.put _ (some 15) _) _
          simp only [Act.put, List.setIfInBounds_toArray, List.set_cons_zero, List.set_cons_succ]
          refine' wpAnyH_take (i := 6) (v := _) rfl (by kernel_rfl) (by kernel_rfl) (by kernel_rfl) (fun _ _ _ h => h) (Or.inl ⟨by kernel_rfl, ?hrc7⟩) (by assumption) ?rrc7
          case hrc7 => intro W hW; obtain ⟨c0, c1⟩ := hW; go_simp; all_goals with_reducible rfl
          change wpAnyH _ _ _ _ _ _ _ (Act.put _ (some 16) _) _
          simp only [Act.put, List.setIfInBounds_toArray, List.set_cons_zero, List.set_cons_succ]
          refine' wpAnyH_take (i := 7) (v := _) rfl (by kernel_rfl) (by kernel_rfl) (by kernel_rfl) (fun _ _ _ h => h) (Or.inl ⟨by kernel_rfl, ?hrc8⟩) (by assumption) ?rrc8
          case hrc8 => intro W hW; obtain ⟨c0, c1⟩ := hW; go_simp; all_goals with_reducible rfl
          change wpAnyH _ _ _ _ _ _ _ (Act.put _ (some 17) _) _
          simp only [Act.put, List.setIfInBounds_toArray, List.set_cons_zero, List.set_cons_succ]
          refine' wpAnyH_take (i := 8) (v := _) rfl (by kernel_rfl) (by kernel_rfl) (by kernel_rfl) (fun _ _ _ h => h) (Or.inl ⟨by kernel_rfl, ?hrc9⟩) (by assumption) ?rrc9
          case hrc9 => intro W hW; obtain ⟨c0, c1⟩ := hW; go_simp; all_goals with_reducible rfl
          change wpAnyH _ _ _ _ _ _ _ (Act.put _ (some 18) _) _
          simp only [Act.put, List.setIfInBounds_toArray, List.set_cons_zero, List.set_cons_succ]
          refine' wpAnyH_take (i := 9) (v := _) rfl (by kernel_rfl) (by kernel_rfl) (by kernel_rfl) (fun _ _ _ h => h) (Or.inl ⟨by kernel_rfl, ?hrc10⟩) (by assumption) ?rrc10
          case hrc10 => intro W hW; obtain ⟨c0, c1⟩ := hW; go_simp; all_goals with_reducible rfl
          change wpAnyH _ _ _ _ _ _ _ (Act.put _ (some 19) _) _
          simp only [Act.put, List.setIfInBounds_toArray, List.set_cons_zero, List.set_cons_succ]
          refine' wpAnyH_take (i := 10) (v := _) rfl (by kernel_rfl) (by kernel_rfl) (by kernel_rfl) (fun _ _ _ h => h) (Or.inl ⟨by kernel_rfl, ?hrc11⟩) (by assumption) ?rrc11
          case hrc11 => intro W hW; obtain ⟨c0, c1⟩ := hW; go_simp; all_goals with_reducible rfl
          change wpAnyH _ _ _ _ _ _ _ (Act.put _ (some 20) _) _
          simp only [Act.put, List.setIfInBounds_toArray, List.set_cons_zero, List.set_cons_succ]
          refine' wpAnyH_take (i := 11) (v := _) rfl (by kernel_rfl) (by kernel_rfl) (by kernel_rfl) (fun _ _ _ h => h) (Or.inl ⟨by kernel_rfl, ?hrc12⟩) (by assumption) ?rrc12
          case hrc12 => intro W hW; obtain ⟨c0, c1⟩ := hW; go_simp; all_goals with_reducible rfl
          change wpAnyH _ _ _ _ _ _ _ (Act.put _ (some 21) _) _
          simp only [Act.put, List.setIfInBounds_toArray, List.set_cons_zero, List.set_cons_succ]
          refine' wpAnyH_take (i := 12) (v := _) rfl (by kernel_rfl) (by kernel_rfl) (by kernel_rfl) (fun _ _ _ h => h) (Or.inl ⟨by kernel_rfl, ?hrc13⟩) (by assumption) ?rrc13
          case hrc13 => intro W hW; obtain ⟨c0, c1⟩ := hW; go_simp; all_goals with_reducible rfl
          change wpAnyH _ _ _ _ _ _ _ (Act.put _ (some 22) _) _
          simp only [Act.put, List.setIfInBounds_toArray, List.set_cons_zero, List.set_cons_succ]
          refine' wpAnyH_take (i := 13) (v := _) rfl (by kernel_rfl) (by kernel_rfl) (by kernel_rfl) (fun _ _ _ h => h) (Or.inl ⟨by kernel_rfl, ?hrc14⟩) (by assumption) ?rrc14
          case hrc14 => intro W hW; obtain ⟨c0, c1⟩ := hW; go_simp; all_goals with_reducible rfl
          change wpAnyH _ _ _ _ _ _ _ (Act.put _ (some 23) _) _
          simp only [Act.put, List.setIfInBounds_toArray, List.set_cons_zero, List.set_cons_succ]
          refine' wpAnyH_take (i := 14) (v := _) rfl (by kernel_rfl) (by kernel_rfl) (by kernel_rfl) (fun _ _ _ h => h) (Or.inl ⟨by kernel_rfl, ?hrc15⟩) (by assumption) ?rrc15
          case hrc15 => intro W hW; obtain ⟨c0, c1⟩ := hW; go_simp; all_goals with_reducible rfl
          change wpAnyH _ _ _ _ _ _ _ (Act.put _ (some 24) _) _
          simp only [Act.put, List.setIfInBounds_toArray, List.set_cons_zero, List.set_cons_succ]
          refine' wpAnyH_take (i := 15) (v := _) rfl (by kernel_rfl) (by kernel_rfl) (by kernel_rfl) (fun _ _ _ h => h) (Or.inl ⟨by kernel_rfl, ?hrc16⟩) (by assumption) ?rrc16
          case hrc16 => intro W hW; obtain ⟨c0, c1⟩ := hW; go_simp; all_goals with_reducible rfl
          change wpAnyH _ _ _ _ _ _ _ (Act.put _ (some 25) _) _
          simp only [Act.put, List.setIfInBounds_toArray, List.set_cons_zero, List.set_cons_succ]
          refine' wpAnyH_take (i := 16) (v := _) rfl (by kernel_rfl) (by kernel_rfl) (by kernel_rfl) (fun _ _ _ h => h) (Or.inl ⟨by kernel_rfl, ?hrc17⟩) (by assumption) ?rrc17
          case hrc17 => intro W hW; obtain ⟨c0, c1⟩ := hW; go_simp; all_goals with_reducible rfl
          change wpAnyH _ _ _ _ _ _ _ (Act.put _ (some 26) _) _
          simp only [Act.put, List.setIfInBounds_toArray, List.set_cons_zero, List.set_cons_succ]
          refine' wpAnyH_take (i := 17) (v := _) rfl (by kernel_rfl) (by kernel_rfl) (by kernel_rfl) (fun _ _ _ h => h) (Or.inl ⟨by kernel_rfl, ?hrc18⟩) (by assumption) ?rrc18
          case hrc18 => intro W hW; obtain ⟨c0, c1⟩ := hW; go_simp; all_goals with_reducible rfl
          change wpAnyH _ _ _ _ _ _ _ (Act.put _ (some 27) _) _
          simp only [Act.put, List.setIfInBounds_toArray, List.set_cons_zero, List.set_cons_succ]
          refine' wpAnyH_take (i := 18) (v := _) rfl (by kernel_rfl) (by kernel_rfl) (by kernel_rfl) (fun _ _ _ h => h) (Or.inl ⟨by kernel_rfl, ?hrc19⟩) (by assumption) ?rrc19
          case hrc19 => intro W hW; obtain ⟨c0, c1⟩ := hW; go_simp; all_goals with_reducible rfl
          change wpAnyH _ _ _ _ _ _ _ (Act.put _ (some 28) _) _
          simp only [Act.put, List.setIfInBounds_toArray, List.set_cons_zero, List.set_cons_succ]
          refine' wpAnyH_take (i := 19) (v := _) rfl (by kernel_rfl) (by kernel_rfl) (by kernel_rfl) (fun _ _ _ h => h) (Or.inl ⟨by kernel_rfl, ?hrc20⟩) (by assumption) ?rrc20
          case hrc20 => intro W hW; obtain ⟨c0, c1⟩ := hW; go_simp; all_goals with_reducible rfl
          change wpAnyH _ _ _ _ _ _ _ (Act.put _ (some 29) _) _
          simp only [Act.put, List.setIfInBounds_toArray, List.set_cons_zero, List.set_cons_succ]
          refine' wpAnyH_take (i := 20) (v := _) rfl (by kernel_rfl) (by kernel_rfl) (by kernel_rfl) (fun _ _ _ h => h) (Or.inl ⟨by kernel_rfl, ?hrc21⟩) (by assumption) ?rrc21
          case hrc21 => intro W hW; obtain ⟨c0, c1⟩ := hW; go_simp; all_goals with_reducible rfl
          change wpAnyH _ _ _ _ _ _ _ (Act.put _ (some 30) _) _
          simp only [Act.put, List.setIfInBounds_toArray, List.set_cons_zero, List.set_cons_succ]
          refine' wpAnyH_take (i := 21) (v := _) rfl (by kernel_rfl) (by kernel_rfl) (by kernel_rfl) (fun _ _ _ h => h) (Or.inl ⟨by kernel_rfl, ?hrc22⟩) (by assumption) ?rrc22
          case hrc22 => intro W hW; obtain ⟨c0, c1⟩ := hW; go_simp; all_goals with_reducible rfl
          change wpAnyH _ _ _ _ _ _ _ (Act.put _ (some 31) _) _
          simp only [Act.put, List.setIfInBounds_toArray, List.set_cons_zero, List.set_cons_succ]
          refine wpAnyH_done (by kernel_rfl) ?_ _
          clear hHeld
          have hkq : 0 < k := by omega
          cases r with
          | true =>
            have HN : Hid (¬ ShortRise f n) := HNO.out rfl
            clear HNX HNO
            go_wp2
            all_goals first
              | (go_ret; exact ⟨false, rfl, ⟨(fun h => by cases h), fun h => absurd h HN.out⟩, HB.out⟩)
              | (exfalso; rename_i hx; first | omega | (obtain ⟨-, hx⟩ := hx; rcases hx with hx | hx; · omega; · cases hx) | (rcases hx with hx | hx; · omega; · (obtain ⟨-, hx⟩ := hx; cases hx)) | (simp at hx; omega))
          | false =>
            have HN : Hid (ShortRise f (k + 1)) := HNX.out rfl
            clear HNX HNO
            go_wp2
            go_roundg (n - (k + 1))
            case measure => omega
            case rel => exact ⟨k + 1, by omega, rfl, by go_num, HB.out, HN⟩
    · obtain rfl : k = n := by omega
      have hkz : ¬ (k : Int) < (k : Int) := by omega
      clear h hz
      go_wp2
      go_ret
      exact ⟨true, rfl, by simp [HA.out], hB⟩

set_option maxHeartbeats 4000000 in
theorem specNodeOk_rises (v : Value) (D : PNode) (w : World) (h : NdView w v D) (hf : NFine D) :
    Calls Try.prog 18 #[v] w (SaysI w (Rises D.key D.nk)) := by
  obtain ⟨ac, cc, ap, cp, ai, ci, rfl, hc, hp, hi⟩ := h.is
  have hnk := hf.nk
  have hnv := hf.nv
  have hnd := hf.nd
  have HF : Hid (NFine D) := hf
  have HV : Hid (NdView w (.agg #[.bool D.leaf, .slice ac D.nk cc, .slice ap D.nv cp, .slice ai D.nd ci]) D) := h
  have HP : Hid (TxV w ap D.nv cp D.val) := hp
  have HI : Hid (NuV w ai D.nd ci D.kid) := hi
  have hB0 := nbox_start w (.cells #[.bool D.leaf, .slice ac D.nk cc, .slice ap D.nv cp, .slice ai D.nd ci] 27)
  have hBw0 := (nbox_below hB0).1
  have hR := l14Rising_any ac D.nk cc D.key _ (hc.below hBw0) hf.nk hf.key
  clear h hf hp hi hc
  go_enter Try.func18, Try.ntmps18
  go_wp2_with fail
  refine hR.mono ?_
  rintro e w1 ⟨r, rfl, hr, hb1⟩
  have HR : Hid (r = true ↔ ShortRise D.key D.nk) := hr
  have hB1 := nbox_on hB0 hb1
  obtain ⟨hBw1, -⟩ := nbox_below hB1
  obtain ⟨x0, x1, x2, x3⟩ := nbox4 hB1
  clear hR hb1 hB0 hBw0 hr
  cases r with
  | false =>
    have HB : Hid (Below w.heap.size w w1) := hBw1
    clear hB1 hBw1
    go_wp2
    go_ret
    exact ⟨false, rfl, (fun h => by cases h), HB.out⟩
  | true =>
  have HRS : Hid (Rises D.key D.nk) := (HR.out.1 rfl).rises
  clear HR
  have hS := specSizeOf_any _ D w1 (HV.out.below hBw1) HF.out
  go_wp2_with fail
  refine hS.mono ?_
  rintro e w2 ⟨rfl, hb2⟩
  have hB2 := nbox_on hB1 hb2
  obtain ⟨hBw2, -⟩ := nbox_below hB2
  clear x0 x1 x2 x3 hS hb2 hB1 hBw1
  obtain ⟨x0, x1, x2, x3⟩ := nbox4 hB2
  obtain ⟨W2, hW2⟩ : ∃ x, Hid (w2 = x) := ⟨_, rfl⟩
  have HB2 : Hid (Below (w.heap.size + 1) (w.alloc (.cells #[.bool D.leaf, .slice ac D.nk cc, .slice ap D.nv cp, .slice ai D.nd ci] 27)) W2) := by show Below _ _ _; rw [← hW2.out]; exact hB2
  have HBw2 : Hid (Below w.heap.size w W2) := by show Below _ _ _; rw [← hW2.out]; exact hBw2
  rw [hW2.out] at x0 x1 x2 x3 ⊢
  clear hB2 hBw2 hW2
  obtain ⟨sz, hsz⟩ : ∃ x, Hid (sizeN D = x) := ⟨_, rfl⟩
  rw [hsz.out]
  by_cases hbig : (240 : Int) < sz
  · go_wp2
    go_ret
    exact ⟨false, rfl, (fun h => by cases h), HBw2.out⟩
  cases hlf : D.leaf with
  | true =>
    rw [hlf] at x0 HB2
    go_wp2
    go_loopg [3] D.nv (fun q i wr => ∃ k : Nat, k ≤ D.nv ∧ q = D.nv - k ∧ i = .int .i64 k ∧ Below (w.heap.size + 1) (w.alloc (.cells #[.bool true, .slice ac D.nk cc, .slice ap D.nv cp, .slice ai D.nd ci] 27)) wr)
    case atStart => exact ⟨0, Nat.zero_le _, rfl, rfl, HB2.out⟩
    case round =>
      clear x0 x1 x2 x3 HB2 HBw2
      obtain ⟨k, hk, rfl, rfl, hB⟩ := hrel
      obtain ⟨x0, x1, x2, x3⟩ := nbox4 hB
      obtain ⟨hBw, -⟩ := nbox_below hB
      have HBw : Hid (Below w.heap.size w wr) := hBw
      have HBb : Hid (Below (w.heap.size + 1) (w.alloc (.cells #[.bool true, .slice ac D.nk cc, .slice ap D.nv cp, .slice ai D.nd ci] 27)) wr) := hB
      by_cases hlt : k < D.nv
      · obtain ⟨b1, o1, ea, hb1, y0⟩ := txv_at (HP.out.below hBw) hlt
        have hkz : (k : Int) < (D.nv : Int) := by omega
        have hs0 := HF.out.val k hlt
        obtain ⟨p0, hp0⟩ : ∃ x, Hid (D.val k = x) := ⟨_, rfl⟩
        rw [hp0.out] at y0 hs0
        have HEA : Hid (ap = some ⟨b1, o1, none⟩) := ea
        clear hB hBw
        subst ea
        by_cases hb : (60 : Int) < (p0.size : Int)
        · go_wp2
          go_ret
          exact ⟨false, rfl, (fun h => by cases h), HBw.out⟩
        · go_wp2
          go_roundg (D.nv - (k + 1))
          case measure => omega
          case rel => exact ⟨k + 1, by omega, rfl, by go_num, HBb.out⟩
      · have hkz : ¬ (k : Int) < (D.nv : Int) := by omega
        clear hB hBw HBb
        by_cases q1 : (1 : Int) ≤ (D.nk : Int)
        · cases q2 : ((D.nv : Int) == (D.nk : Int)) with
          | true =>
            go_wp2
            go_ret
            exact ⟨_, rfl, (fun _ => HRS.out), HBw.out⟩
          | false =>
            go_wp2
            go_ret
            exact ⟨_, rfl, (fun _ => HRS.out), HBw.out⟩
        · go_wp2
          go_ret
          exact ⟨_, rfl, (fun _ => HRS.out), HBw.out⟩
  | false =>
    rw [hlf] at x0 HB2
    go_wp2
    go_loopg [4] D.nd (fun q i wr => ∃ k : Nat, k ≤ D.nd ∧ q = D.nd - k ∧ i = .int .i64 k ∧ Below (w.heap.size + 1) (w.alloc (.cells #[.bool false, .slice ac D.nk cc, .slice ap D.nv cp, .slice ai D.nd ci] 27)) wr)
    case atStart => exact ⟨0, Nat.zero_le _, rfl, rfl, HB2.out⟩
    case round =>
      clear x0 x1 x2 x3 HB2 HBw2
      obtain ⟨k, hk, rfl, rfl, hB⟩ := hrel
      obtain ⟨x0, x1, x2, x3⟩ := nbox4 hB
      obtain ⟨hBw, -⟩ := nbox_below hB
      have HBw : Hid (Below w.heap.size w wr) := hBw
      have HBb : Hid (Below (w.heap.size + 1) (w.alloc (.cells #[.bool false, .slice ac D.nk cc, .slice ap D.nv cp, .slice ai D.nd ci] 27)) wr) := hB
      by_cases hlt : k < D.nd
      · obtain ⟨b1, o1, ea, hb1, y0⟩ := nuv_at (HI.out.below hBw) hlt
        have hkz : (k : Int) < (D.nd : Int) := by omega
        obtain ⟨p0, hp0⟩ : ∃ x, Hid (D.kid k = x) := ⟨_, rfl⟩
        rw [hp0.out] at y0
        clear hB hBw
        subst ea
        have hL := l1In_any p0 2 47 wr
        go_wp2_with fail
        refine hL.mono ?_
        rintro e _ ⟨rfl, rfl⟩
        clear hL
        cases hd : (decide (2 ≤ p0) && decide (p0 ≤ 47)) with
        | false =>
          go_wp2
          go_ret
          exact ⟨false, rfl, (fun h => by cases h), HBw.out⟩
        | true =>
          go_wp2
          go_roundg (D.nd - (k + 1))
          case measure => omega
          case rel => exact ⟨k + 1, by omega, rfl, by go_num, HBb.out⟩
      · have hkz : ¬ (k : Int) < (D.nd : Int) := by omega
        clear hB hBw HBb
        have hw1 : IntKind.i64.wrap ((D.nd : Int) - 1) = (D.nd : Int) - 1 := by rw [IntKind.wrap_i64]; omega
        by_cases q1 : (1 : Int) ≤ (D.nd : Int)
        · cases q2 : ((D.nk : Int) == (D.nd : Int) - 1) with
          | true =>
            go_wp2
            go_ret
            exact ⟨_, rfl, (fun _ => HRS.out), HBw.out⟩
          | false =>
            go_wp2
            go_ret
            exact ⟨_, rfl, (fun _ => HRS.out), HBw.out⟩
        · go_wp2
          go_ret
          exact ⟨_, rfl, (fun _ => HRS.out), HBw.out⟩
end Go.Proofs.Ytaiinlcdfeboiaa

/-
  The model's NodeOk.
-/
namespace Go.Proofs.Ytaiinlcdfeboiaa
open Go.RowKit
set_option maxRecDepth 4000

theorem shortRise_iff {f : Nat → ByteArray} {k : Nat} : ShortRise f k ↔ Rises f k ∧ NoneL 48 k f := by
  constructor
  · intro h; exact ⟨h.rises, fun i hi => (h i hi).1⟩
  · rintro ⟨h1, h2⟩ i hi
    refine ⟨h2 i hi, fun h0 => ?_⟩
    have := h1 (i - 1) (by omega)
    rw [show i - 1 + 1 = i by omega] at this
    simpa [geT, ltT] using this
theorem okS_leaf {D : PNode} (h : D.leaf = true) : OkS D ↔ ShortRise D.key D.nk ∧ sizeN D ≤ 240 ∧ NoneL 60 D.nv D.val ∧ 1 ≤ D.nk ∧ D.nv = D.nk ∧ D.nd = 0 := by
  constructor
  · rintro ⟨⟨hp, hk, hs⟩, hn⟩
    rcases hp with ⟨-, h0⟩ | ⟨h1, -⟩
    · rcases hk with ⟨-, h1, h2, h3, h4, h5⟩ | ⟨h1, -⟩
      · exact ⟨shortRise_iff.2 ⟨h3, hn⟩, hs, h5, h1, h2, h0⟩
      · rw [h] at h1; cases h1
    · rw [h] at h1; cases h1
  · rintro ⟨h1, h2, h3, h4, h5, h6⟩
    have := shortRise_iff.1 h1
    exact ⟨⟨.inl ⟨h, h6⟩, .inl ⟨h, h4, h5, this.1, this.2, h3⟩, h2⟩, this.2⟩
theorem okS_inner {D : PNode} (h : D.leaf = false) : OkS D ↔ ShortRise D.key D.nk ∧ sizeN D ≤ 240 ∧ AllSec D.nd D.kid ∧ 1 ≤ D.nd ∧ D.nk + 1 = D.nd ∧ D.nv = 0 := by
  constructor
  · rintro ⟨⟨hp, hk, hs⟩, hn⟩
    rcases hp with ⟨h1, -⟩ | ⟨-, h0⟩
    · rw [h] at h1; cases h1
    · rcases hk with ⟨h1, -⟩ | ⟨-, h2, h3, h4⟩
      · rw [h] at h1; cases h1
      · exact ⟨shortRise_iff.2 ⟨h3, hn⟩, hs, h4, by omega, by omega, h0⟩
  · rintro ⟨h1, h2, h3, h4, h5, h6⟩
    have := shortRise_iff.1 h1
    exact ⟨⟨.inr ⟨h, h6⟩, .inr ⟨h, by omega, this.1, h3⟩, h2⟩, this.2⟩

set_option maxHeartbeats 4000000 in
theorem specNodeOk_any (v : Value) (D : PNode) (w : World) (h : NdView w v D) (hf : NFine D) :
    Calls Try.prog 18 #[v] w (SaysB w (OkS D)) := by
  obtain ⟨ac, cc, ap, cp, ai, ci, rfl, hc, hp, hi⟩ := h.is
  have hnk := hf.nk
  have hnv := hf.nv
  have hnd := hf.nd
  have HF : Hid (NFine D) := hf
  have HV : Hid (NdView w (.agg #[.bool D.leaf, .slice ac D.nk cc, .slice ap D.nv cp, .slice ai D.nd ci]) D) := h
  have HP : Hid (TxV w ap D.nv cp D.val) := hp
  have HI : Hid (NuV w ai D.nd ci D.kid) := hi
  have hB0 := nbox_start w (.cells #[.bool D.leaf, .slice ac D.nk cc, .slice ap D.nv cp, .slice ai D.nd ci] 27)
  have hBw0 := (nbox_below hB0).1
  have hR := l14Rising_any ac D.nk cc D.key _ (hc.below hBw0) hf.nk hf.key
  obtain ⟨P, hP⟩ : ∃ P : Prop, Hid (OkS D = P) := ⟨_, rfl⟩
  have HP : Hid (P → ShortRise D.key D.nk) := fun h => by rw [← hP.out] at h; exact shortRise_iff.2 (by
    obtain ⟨⟨-, hk, -⟩, hn⟩ := h
    rcases hk with ⟨-, -, -, h3, -⟩ | ⟨-, -, h3, -⟩ <;> exact ⟨h3, hn⟩)
  have HL : Hid (D.leaf = true → (P ↔ ShortRise D.key D.nk ∧ sizeN D ≤ 240 ∧ NoneL 60 D.nv D.val ∧ 1 ≤ D.nk ∧ D.nv = D.nk ∧ D.nd = 0)) := fun h => by rw [← hP.out]; exact okS_leaf h
  have HIN : Hid (D.leaf = false → (P ↔ ShortRise D.key D.nk ∧ sizeN D ≤ 240 ∧ AllSec D.nd D.kid ∧ 1 ≤ D.nd ∧ D.nk + 1 = D.nd ∧ D.nv = 0)) := fun h => by rw [← hP.out]; exact okS_inner h
  rw [hP.out]
  clear h hf hp hi hc hP
  go_enter Try.func18, Try.ntmps18
  go_wp2_with fail
  refine hR.mono ?_
  rintro e w1 ⟨r, rfl, hr, hb1⟩
  have HR : Hid (r = true ↔ ShortRise D.key D.nk) := hr
  have hB1 := nbox_on hB0 hb1
  obtain ⟨hBw1, -⟩ := nbox_below hB1
  obtain ⟨x0, x1, x2, x3⟩ := nbox4 hB1
  clear hR hb1 hB0 hBw0 hr
  cases r with
  | false =>
    have HN : Hid (¬ P) := fun h => by have := HR.out.2 (HP.out h); cases this
    have HB : Hid (Below w.heap.size w w1) := hBw1
    clear hB1 hBw1 HR HP HL HIN
    go_wp2
    go_ret
    exact ⟨false, rfl, ⟨(fun h => by cases h), fun h => absurd h HN.out⟩, HB.out⟩
  | true =>
  have HRS : Hid (ShortRise D.key D.nk) := HR.out.1 rfl
  clear HR HP
  have hS := specSizeOf_any _ D w1 (HV.out.below hBw1) HF.out
  go_wp2_with fail
  refine hS.mono ?_
  rintro e w2 ⟨rfl, hb2⟩
  have hB2 := nbox_on hB1 hb2
  obtain ⟨hBw2, -⟩ := nbox_below hB2
  clear x0 x1 x2 x3 hS hb2 hB1 hBw1
  obtain ⟨x0, x1, x2, x3⟩ := nbox4 hB2
  obtain ⟨W2, hW2⟩ : ∃ x, Hid (w2 = x) := ⟨_, rfl⟩
  have HB2 : Hid (Below (w.heap.size + 1) (w.alloc (.cells #[.bool D.leaf, .slice ac D.nk cc, .slice ap D.nv cp, .slice ai D.nd ci] 27)) W2) := by show Below _ _ _; rw [← hW2.out]; exact hB2
  have HBw2 : Hid (Below w.heap.size w W2) := by show Below _ _ _; rw [← hW2.out]; exact hBw2
  rw [hW2.out] at x0 x1 x2 x3 ⊢
  clear hB2 hBw2 hW2
  obtain ⟨sz, hsz⟩ : ∃ x, Hid (sizeN D = x) := ⟨_, rfl⟩
  rw [hsz.out]
  simp only [hsz.out] at HL HIN
  by_cases hbig : (240 : Int) < sz
  · have HN : Hid (¬ P) := fun h => by
      cases hlf : D.leaf with
      | true => have := ((HL.out hlf).1 h).2.1; omega
      | false => have := ((HIN.out hlf).1 h).2.1; omega
    clear HL HIN
    go_wp2
    go_ret
    exact ⟨false, rfl, ⟨(fun h => by cases h), fun h => absurd h HN.out⟩, HBw2.out⟩
  have HSZ : Hid (sz ≤ 240) := by show _ ≤ _; omega
  cases hlf : D.leaf with
  | true =>
    rw [hlf] at x0 HB2
    have HQ : Hid (P ↔ ShortRise D.key D.nk ∧ sz ≤ 240 ∧ NoneL 60 D.nv D.val ∧ 1 ≤ D.nk ∧ D.nv = D.nk ∧ D.nd = 0) := HL.out hlf
    clear HL HIN
    go_wp2
    go_loopg [3] D.nv (fun q i wr => ∃ k : Nat, k ≤ D.nv ∧ q = D.nv - k ∧ i = .int .i64 k ∧ Below (w.heap.size + 1) (w.alloc (.cells #[.bool true, .slice ac D.nk cc, .slice ap D.nv cp, .slice ai D.nd ci] 27)) wr ∧ Hid (NoneL 60 k D.val))
    case atStart => exact ⟨0, Nat.zero_le _, rfl, rfl, HB2.out, fun i hi => absurd hi (Nat.not_lt_zero _)⟩
    case round =>
      clear x0 x1 x2 x3 HB2 HBw2
      obtain ⟨k, hk, rfl, rfl, hB, HA⟩ := hrel
      obtain ⟨x0, x1, x2, x3⟩ := nbox4 hB
      obtain ⟨hBw, -⟩ := nbox_below hB
      have HBw : Hid (Below w.heap.size w wr) := hBw
      have HBb : Hid (Below (w.heap.size + 1) (w.alloc (.cells #[.bool true, .slice ac D.nk cc, .slice ap D.nv cp, .slice ai D.nd ci] 27)) wr) := hB
      by_cases hlt : k < D.nv
      · obtain ⟨b1, o1, ea, hb1, y0⟩ := txv_at (HP.out.below hBw) hlt
        have hkz : (k : Int) < (D.nv : Int) := by omega
        have hs0 := HF.out.val k hlt
        obtain ⟨p0, hp0⟩ : ∃ x, Hid (D.val k = x) := ⟨_, rfl⟩
        rw [hp0.out] at y0 hs0
        have HEA : Hid (ap = some ⟨b1, o1, none⟩) := ea
        clear hB hBw
        subst ea
        by_cases hb : (60 : Int) < (p0.size : Int)
        · have HN : Hid (¬ P) := fun h => by have := (HQ.out.1 h).2.2.1 k hlt; rw [hp0.out] at this; omega
          clear HQ HA
          go_wp2
          go_ret
          exact ⟨false, rfl, ⟨(fun h => by cases h), fun h => absurd h HN.out⟩, HBw.out⟩
        · have HN : Hid (NoneL 60 (k + 1) D.val) := fun i hi => by
            by_cases e : i < k
            · exact HA.out i e
            · obtain rfl : i = k := by omega
              rw [hp0.out]; omega
          clear HA
          go_wp2
          go_roundg (D.nv - (k + 1))
          case measure => omega
          case rel => exact ⟨k + 1, by omega, rfl, by go_num, HBb.out, HN⟩
      · have hkz : ¬ (k : Int) < (D.nv : Int) := by omega
        clear hB hBw HBb
        have HVS : Hid (NoneL 60 D.nv D.val) := by have : k = D.nv := by omega
                                                   rw [← this]; exact HA.out
        clear HA
        by_cases q1 : (1 : Int) ≤ (D.nk : Int)
        case neg =>
          have HN : Hid (¬ P) := fun h => by have := (HQ.out.1 h).2.2.2.1; omega
          clear HQ
          go_wp2
          go_ret
          exact ⟨_, rfl, ⟨(fun h => by cases h), fun h => absurd h HN.out⟩, HBw.out⟩
        cases q2 : ((D.nv : Int) == (D.nk : Int)) with
        | false =>
          have HN : Hid (¬ P) := fun h => by have := (HQ.out.1 h).2.2.2.2.1; simp at q2; omega
          clear HQ
          go_wp2
          go_ret
          exact ⟨_, rfl, ⟨(fun h => by cases h), fun h => absurd h HN.out⟩, HBw.out⟩
        | true =>
          have HN : Hid (((D.nd : Int) == 0) = true ↔ P) := by
            show _ ↔ _
            rw [HQ.out]
            simp only [beq_iff_eq] at q2 ⊢
            constructor
            · intro h; exact ⟨HRS.out, HSZ.out, HVS.out, by omega, by omega, by omega⟩
            · intro h; have := h.2.2.2.2.2; omega
          clear HQ
          go_wp2
          go_ret
          exact ⟨_, rfl, HN.out, HBw.out⟩
  | false =>
    rw [hlf] at x0 HB2
    have HQ : Hid (P ↔ ShortRise D.key D.nk ∧ sz ≤ 240 ∧ AllSec D.nd D.kid ∧ 1 ≤ D.nd ∧ D.nk + 1 = D.nd ∧ D.nv = 0) := HIN.out hlf
    clear HL HIN
    go_wp2
    go_loopg [4] D.nd (fun q i wr => ∃ k : Nat, k ≤ D.nd ∧ q = D.nd - k ∧ i = .int .i64 k ∧ Below (w.heap.size + 1) (w.alloc (.cells #[.bool false, .slice ac D.nk cc, .slice ap D.nv cp, .slice ai D.nd ci] 27)) wr ∧ Hid (AllSec k D.kid))
    case atStart => exact ⟨0, Nat.zero_le _, rfl, rfl, HB2.out, fun i hi => absurd hi (Nat.not_lt_zero _)⟩
    case round =>
      clear x0 x1 x2 x3 HB2 HBw2
      obtain ⟨k, hk, rfl, rfl, hB, HA⟩ := hrel
      obtain ⟨x0, x1, x2, x3⟩ := nbox4 hB
      obtain ⟨hBw, -⟩ := nbox_below hB
      have HBw : Hid (Below w.heap.size w wr) := hBw
      have HBb : Hid (Below (w.heap.size + 1) (w.alloc (.cells #[.bool false, .slice ac D.nk cc, .slice ap D.nv cp, .slice ai D.nd ci] 27)) wr) := hB
      by_cases hlt : k < D.nd
      · obtain ⟨b1, o1, ea, hb1, y0⟩ := nuv_at (HI.out.below hBw) hlt
        have hkz : (k : Int) < (D.nd : Int) := by omega
        obtain ⟨p0, hp0⟩ : ∃ x, Hid (D.kid k = x) := ⟨_, rfl⟩
        rw [hp0.out] at y0
        clear hB hBw
        subst ea
        have hL := l1In_any p0 2 47 wr
        go_wp2_with fail
        refine hL.mono ?_
        rintro e _ ⟨rfl, rfl⟩
        clear hL
        cases hd : (decide (2 ≤ p0) && decide (p0 ≤ 47)) with
        | false =>
          have HN : Hid (¬ P) := fun h => by
            have := (HQ.out.1 h).2.2.1 k hlt
            rw [hp0.out] at this
            unfold secK at this
            have h2 : (decide (2 ≤ p0) && decide (p0 ≤ 47)) = true := by simp; omega
            rw [h2] at hd; cases hd
          clear HQ HA hd
          go_wp2
          go_ret
          exact ⟨false, rfl, ⟨(fun h => by cases h), fun h => absurd h HN.out⟩, HBw.out⟩
        | true =>
          have HN : Hid (AllSec (k + 1) D.kid) := fun i hi => by
            by_cases e : i < k
            · exact HA.out i e
            · obtain rfl : i = k := by omega
              rw [hp0.out]; simp at hd; exact hd
          clear HA hd
          go_wp2
          go_roundg (D.nd - (k + 1))
          case measure => omega
          case rel => exact ⟨k + 1, by omega, rfl, by go_num, HBb.out, HN⟩
      · have hkz : ¬ (k : Int) < (D.nd : Int) := by omega
        clear hB hBw HBb
        have hw1 : IntKind.i64.wrap ((D.nd : Int) - 1) = (D.nd : Int) - 1 := by rw [IntKind.wrap_i64]; omega
        have HVS : Hid (AllSec D.nd D.kid) := by have : k = D.nd := by omega
                                                 rw [← this]; exact HA.out
        clear HA
        by_cases q1 : (1 : Int) ≤ (D.nd : Int)
        case neg =>
          have HN : Hid (¬ P) := fun h => by have := (HQ.out.1 h).2.2.2.1; omega
          clear HQ
          go_wp2
          go_ret
          exact ⟨_, rfl, ⟨(fun h => by cases h), fun h => absurd h HN.out⟩, HBw.out⟩
        cases q2 : ((D.nk : Int) == (D.nd : Int) - 1) with
        | false =>
          have HN : Hid (¬ P) := fun h => by have := (HQ.out.1 h).2.2.2.2.1; simp at q2; omega
          clear HQ
          go_wp2
          go_ret
          exact ⟨_, rfl, ⟨(fun h => by cases h), fun h => absurd h HN.out⟩, HBw.out⟩
        | true =>
          have HN : Hid (((D.nv : Int) == 0) = true ↔ P) := by
            show _ ↔ _
            rw [HQ.out]
            simp only [beq_iff_eq] at q2 ⊢
            constructor
            · intro h; exact ⟨HRS.out, HSZ.out, HVS.out, by omega, by omega, by omega⟩
            · intro h; have := h.2.2.2.2.2; omega
          clear HQ
          go_wp2
          go_ret
          exact ⟨_, rfl, HN.out, HBw.out⟩
end Go.Proofs.Ytaiinlcdfeboiaa

/-
  The program's putNumbers at one number: what was there, and behind it the number's groups, in memory of its own.
-/
namespace Go.Proofs.Ytaiinlcdfeboiaa
open Go.RowKit
set_option maxRecDepth 4000

set_option maxHeartbeats 1000000 in
theorem putNums_one (b off n cap : Nat) (f : Nat → Int) (x : Int) (b2 : Nat) (w : World) (hv : View w (some ⟨b, off, none⟩) n cap f) (hn : n ≤ 35184372088832) (hx0 : -9223372036854775808 ≤ x) (hx1 : x ≤ 9223372036854775807)
    (hx : w.cell? ⟨b2, 0, none⟩ = some (.int .i64 x)) :
    Calls Try.prog 33 #[.slice (some ⟨b, off, none⟩) n cap, .slice (some ⟨b2, 0, none⟩) 1 1] w fun e w' => ∃ g c, e = .returned (.slice (some ⟨g, 0, none⟩) (n + (groups (clampN x)).length) c) ∧ w.heap.size ≤ g ∧ n + (groups (clampN x)).length ≤ c ∧ Row 5 w' g (n + (groups (clampN x)).length) (fun i => (lof n f ++ groups (clampN x)).getD i 0) ∧ Below w.heap.size w w' := by
  obtain ⟨i0, hi, hz0, hz1, hz2⟩ := info_parts Try.info5
  go_enter Try.func33, Try.ntmps33
  go_wp2
  refine wp_loop_rounds 2 ?_
  rw [rounds_succ]
  go_wp2
  all_goals
    go_loopg [5, 8] (clampN x).toNat (fun g v s wr => ∃ (y : Int) (ys : List Int), s = .int .i64 y ∧ 0 ≤ y ∧ y ≤ 1000000 ∧ g = y.toNat ∧ groups (clampN x) = ys ++ groups y ∧ wr.ownsRow w.heap.size 5 1 v ys.length (bl ys) ∧ Below w.heap.size w wr)
    case atStart => exact ⟨clampN x, [], congrArg (Value.int .i64) (by unfold clampN; split <;> (try split) <;> omega), (clampN_bd x).1, (clampN_bd x).2, rfl, rfl, World.ownsRow_nil _ _ _ _, Below.refl _ _⟩
    case round =>
      obtain ⟨y, ys, rfl, hy0, hy1, rfl, hgr, hown, hB⟩ := hrel
      have HG : Hid (groups (clampN x) = ys ++ groups y) := hgr
      have hlen : ys.length ≤ 3 := by have := groups_len (clampN x); rw [hgr] at this; simp at this; have := groups_len y; omega
      clear hgr
      by_cases hlt : y < 128
      · go_wp2_with (first | (at_builtin; go_must (refine wpList_append_own _ rfl (.tmp 29) (.tmp 32) 22 rfl w.heap.size 5 i0 (.int .u8 0) 1 1 Try.underlying22 hi hz0 hz1 hz2 rfl (by decide) u5 _ _ rfl (hown.alloc _) ⟨wr.heap.size, 0, none⟩ 1 1 [.int .u8 y] rfl rfl (cellNew _ _ _) (bl_one [y]) (by unfold maxLen; omega) (by omega) (by have := hB.size; simp; omega) ?_); intro v2 w2 hown2 hgr2 _))
        have hB2 : Below w.heap.size w w2 := (hB.alloc hB.size _).grown hgr2 (by have := hB.size; simp; omega) (fun k hk => (hown.lt k hk).1)
        have hO2 : w2.ownsRow w.heap.size 5 1 v2 (groups (clampN x)).length (bl (groups (clampN x))) := by
          rw [HG.out, groups_last y hlt, List.length_append, bl_append]
          exact hown2
        clear hgr2 hown hown2 hB
        obtain ⟨g, c, hv2, hg, hgc, hrow⟩ := row_of_own hO2 (groups_len (clampN x)).1
        clear hO2
        have HL : Hid ((groups (clampN x)).length ≤ 3) := (groups_len (clampN x)).2
        have HB : Hid (∀ i, i < (groups (clampN x)).length → 0 ≤ (groups (clampN x)).getD i 0 ∧ (groups (clampN x)).getD i 0 ≤ 255) := fun i hi => by
          have := groups_byte (clampN x) (clampN_bd x).1 (clampN_bd x).2 _ (List.getElem_mem hi)
          simpa [hi] using this
        generalize hgs : groups (clampN x) = gs at *
        have HE : Hid (groups (clampN x) = gs) := hgs
        clear hgs HG
        rw [hv2]
        clear hv2
        go_wp2
        rw [rounds_succ]
        go_wp2_with fail
        refine (putBytes_any b off n cap f (some ⟨g, 0, none⟩) gs.length c (fun i => gs.getD i 0) w2 (hv.below hB2) (hrow.view hgc HB.out) (by intro h; cases h) (by have := HL.out; omega)).mono ?_
        rintro e w3 ⟨rfl, hown3, hb3⟩
        go_wp2
        go_ret
        rw [lof_self] at hown3
        rw [HE.out]
        exact ⟨w2.heap.size, n + gs.length, rfl, hB2.size, Nat.le_refl _, row_of_owned hown3, hB2.trans (hb3.mono hB2.size)⟩
      · have hG2 : Hid (groups (clampN x) = (ys ++ [y % 128 + 128]) ++ groups (y / 128)) := by
          have := HG.out
          rw [groups_step y (by omega) hy1] at this
          rw [List.append_assoc]; exact this
        go_wp2_with (at_builtin; go_must (refine wpList_append_own _ rfl (.tmp 20) (.tmp 25) 22 rfl w.heap.size 5 i0 (.int .u8 0) 1 1 Try.underlying22 hi hz0 hz1 hz2 rfl (by decide) u5 _ _ rfl (hown.alloc _) ⟨wr.heap.size, 0, none⟩ 1 1 [.int .u8 (y % 128 + 128)] rfl rfl (cellNew _ _ _) (bl_one [y % 128 + 128]) (by unfold maxLen; omega) (by omega) (by have := hB.size; simp; omega) ?_); intro v2 w2 hown2 hgr2 _)
        have hB2 : Below w.heap.size w w2 := (hB.alloc hB.size _).grown hgr2 (by have := hB.size; simp; omega) (fun k hk => (hown.lt k hk).1)
        have hO2 : w2.ownsRow w.heap.size 5 1 v2 (ys ++ [y % 128 + 128]).length (bl (ys ++ [y % 128 + 128])) := by
          rw [List.length_append, bl_append]
          exact hown2
        clear hgr2 hown hown2 hB
        go_wp2
        go_roundg ((y / 128).toNat)
        case measure => omega
        case rel => exact ⟨y / 128, ys ++ [y % 128 + 128], rfl, by omega, by omega, rfl, hG2.out, hO2, hB2⟩

end Go.Proofs.Ytaiinlcdfeboiaa

