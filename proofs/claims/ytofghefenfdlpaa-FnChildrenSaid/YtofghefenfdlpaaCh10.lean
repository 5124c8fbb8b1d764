/-
  Together: NodeRise, BytesEq, NodeSameS, NodeSameI, Big
-/
import Derived.Test.YtofghefenfdlpaaCh8
import Derived.Test.YtofghefenfdlpaaCh9
import Derived.Deep.RegionHeld3
import Derived.Test.YtofghefenfdlpaaCh1
import Derived.Deep.LoopGhost
/-
  The model's l14Rising; what its NodeOk says of the keys.
-/
namespace Go.Proofs.Ytofghefenfdlpaa
open Go.RowKit
set_option maxRecDepth 4000

def SaysN (w : World) (P : Prop) (e : Ending) (w' : World) : Prop := ∃ r : Bool, e = .returned (.bool r) ∧ (r = true ↔ P) ∧ Below w.heap.size w w'
def SaysI (w : World) (P : Prop) (e : Ending) (w' : World) : Prop := ∃ r : Bool, e = .returned (.bool r) ∧ (r = true → P) ∧ Below w.heap.size w w'
/-- As far as the k-th the keys are short and ascend. -/
def ShortRise (f : Nat → ByteArray) (k : Nat) : Prop := ∀ i, i < k → (f i).size ≤ 48 ∧ (0 < i → geT (f (i - 1)) (f i) = false)
theorem ShortRise.rises {f : Nat → ByteArray} {k : Nat} (h : ShortRise f k) : Rises f k := fun i hi => by
  have := (h (i + 1) hi).2 (by omega)
  simpa [geT, ltT] using this
theorem ShortRise.next {f : Nat → ByteArray} {k : Nat} (h : ShortRise f k) (h1 : (f k).size ≤ 48) (h2 : 0 < k → geT (f (k - 1)) (f k) = false) : ShortRise f (k + 1) := fun i hi => by
  by_cases e : i < k
  · exact h i e
  · obtain rfl : i = k := by omega
    exact ⟨h1, h2⟩

set_option maxHeartbeats 4000000 in
theorem l14Rising_any (a : Option Addr) (n c : Nat) (f : Nat → ByteArray) (w : World) (h : TxV w a n c f) (hn : n ≤ 1048576) (hz : ∀ i, i < n → (f i).size ≤ 1048576) :
    Calls Try.prog 40 #[.slice a n c] w (SaysN w (ShortRise f n)) := by
  go_enter Try.func40, Try.ntmps40
  go_wp2
  go_loopg [3] n (fun q i wr => ∃ k : Nat, k ≤ n ∧ q = n - k ∧ i = .int .i64 k ∧ Below w.heap.size w wr ∧ Hid (ShortRise f k))
  case atStart => exact ⟨0, Nat.zero_le _, rfl, rfl, Below.refl _ _, fun i hi => absurd hi (Nat.not_lt_zero _)⟩
  case round =>
    obtain ⟨k, hk, rfl, rfl, hB, HA⟩ := hrel
    by_cases hlt : k < n
    · obtain ⟨b1, o1, rfl, hb1, hc1⟩ := (h.below hB).cells (by omega)
      have x0 : wr.cell? ⟨b1, o1 + k, none⟩ = some (.string (f k)) := hc1 k hlt
      have hkz : (k : Int) < (n : Int) := by omega
      have hs0 := hz k hlt
      have HB : Hid (Below w.heap.size w wr.drew) := hB.drew
      have HC1 : Hid (∀ i, i < n → wr.cell? ⟨b1, o1 + i, none⟩ = some (.string (f i))) := hc1
      obtain ⟨p0, hp0⟩ : ∃ x, Hid (f k = x) := ⟨_, rfl⟩
      rw [hp0.out] at x0 hs0
      clear h hz hB hc1
      by_cases hbig : (48 : Int) < (p0.size : Int)
      · have HN : Hid (¬ ShortRise f n) := fun hS => by have := (hS k hlt).1; rw [hp0.out] at this; omega
        have hq1 : decide ((48 : Int) < (p0.size : Int)) = true := by simpa using hbig
        clear HA HC1
        go_wp2_with fail
        refine wp_region_held_drew (S := fun W => W.cell? ⟨b1, o1 + k, none⟩ = some (.string p0)) (by kernel_rfl) x0 (fun hHeld => ?_)
        refine' wpAnyH_take (i := 0) (v := _) rfl (by kernel_rfl) (by kernel_rfl) (by kernel_rfl) (fun _ _ _ h => h) (Or.inl ⟨by kernel_rfl, ?hra1⟩) (by assumption) ?rra1
        case hra1 => intro W hW; have c0 := hW; go_simp; all_goals with_reducible rfl
        change wpAnyH _ _ _ _ _ _ _ (Act.put _ (some 10) _) _
        simp only [Act.put, List.setIfInBounds_toArray, List.set_cons_zero, List.set_cons_succ]
        refine' wpAnyH_take (i := 1) (v := _) rfl (by kernel_rfl) (by kernel_rfl) (by kernel_rfl) (fun _ _ _ h => h) (Or.inl ⟨by kernel_rfl, ?hra2⟩) (by assumption) ?rra2
        case hra2 => intro W hW; have c0 := hW; go_simp; all_goals with_reducible rfl
        change wpAnyH _ _ _ _ _ _ _ (Act.put _ (some 11) _) _
        simp only [Act.put, List.setIfInBounds_toArray, List.set_cons_zero, List.set_cons_succ]
        refine' wpAnyH_take (i := 2) (v := _) rfl (by kernel_rfl) (by kernel_rfl) (by kernel_rfl) (fun _ _ _ h => h) (Or.inl ⟨by kernel_rfl, ?hra3⟩) (by assumption) ?rra3
        case hra3 => intro W hW; have c0 := hW; go_simp; all_goals with_reducible rfl
        change wpAnyH _ _ _ _ _ _ _ (Act.put _ (some 12) _) _
        simp only [Act.put, List.setIfInBounds_toArray, List.set_cons_zero, List.set_cons_succ]
        refine' wpAnyH_take (i := 3) (v := _) rfl (by kernel_rfl) (by kernel_rfl) (by kernel_rfl) (fun _ _ _ h => h) (Or.inl ⟨by kernel_rfl, ?hra4⟩) (by assumption) ?rra4
        case hra4 => intro W hW; have c0 := hW; go_simp; all_goals with_reducible rfl
        change wpAnyH _ _ _ _ _ _ _ (Act.put _ (some 13) _) _
        simp only [Act.put, List.setIfInBounds_toArray, List.set_cons_zero, List.set_cons_succ]
        refine' wpAnyH_take (i := 4) (v := _) rfl (by kernel_rfl) (by kernel_rfl) (by kernel_rfl) (fun _ _ _ h => h) (Or.inl ⟨by kernel_rfl, ?hra5⟩) (by assumption) ?rra5
        case hra5 => intro W hW; have c0 := hW; go_simp; all_goals with_reducible rfl
        change wpAnyH _ _ _ _ _ _ _ (Act.put _ (some 14) _) _
        simp only [Act.put, List.setIfInBounds_toArray, List.set_cons_zero, List.set_cons_succ]
        refine' wpAnyH_take (i := 5) (v := _) rfl (by kernel_rfl) (by kernel_rfl) (by kernel_rfl) (fun _ _ _ h => h) (Or.inl ⟨by kernel_rfl, ?hra6⟩) (by assumption) ?rra6
        case hra6 => intro W hW; have c0 := hW; go_simp; all_goals with_reducible rfl
        change wpAnyH _ _ _ _ _ _ _ (Act.put _ (some 15) _) _
        simp only [Act.put, List.setIfInBounds_toArray, List.set_cons_zero, List.set_cons_succ]
        refine' wpAnyH_take (i := 6) (v := _) rfl (by kernel_rfl) (by kernel_rfl) (by kernel_rfl) (fun _ _ _ h => h) (Or.inl ⟨by kernel_rfl, ?hra7⟩) (by assumption) ?rra7
        case hra7 => intro W hW; have c0 := hW; go_simp; all_goals with_reducible rfl
        change wpAnyH _ _ _ _ _ _ _ (Act.put _ (some 16) _) _
        simp only [Act.put, List.setIfInBounds_toArray, List.set_cons_zero, List.set_cons_succ]
        refine wpAnyH_take (i := 7) (v := undef) rfl (by kernel_rfl) (by kernel_rfl) (by kernel_rfl) (fun _ _ _ h => h) (Or.inr ⟨by kernel_rfl, rfl⟩) (by assumption) ?_
        change wpAnyH _ _ _ _ _ _ _ (Act.put _ (some 17) _) _
        simp only [Act.put, List.setIfInBounds_toArray, List.set_cons_zero, List.set_cons_succ]
        refine wpAnyH_take (i := 8) (v := undef) rfl (by kernel_rfl) (by kernel_rfl) (by kernel_rfl) (fun _ _ _ h => h) (Or.inr ⟨by kernel_rfl, rfl⟩) (by assumption) ?_
        change wpAnyH _ _ _ _ _ _ _ (Act.put _ (some 18) _) _
        simp only [Act.put, List.setIfInBounds_toArray, List.set_cons_zero, List.set_cons_succ]
        refine wpAnyH_take (i := 9) (v := undef) rfl (by kernel_rfl) (by kernel_rfl) (by kernel_rfl) (fun _ _ _ h => h) (Or.inr ⟨by kernel_rfl, rfl⟩) (by assumption) ?_
        change wpAnyH _ _ _ _ _ _ _ (Act.put _ (some 19) _) _
        simp only [Act.put, List.setIfInBounds_toArray, List.set_cons_zero, List.set_cons_succ]
        refine wpAnyH_take (i := 10) (v := undef) rfl (by kernel_rfl) (by kernel_rfl) (by kernel_rfl) (fun _ _ _ h => h) (Or.inr ⟨by kernel_rfl, rfl⟩) (by assumption) ?_
        change wpAnyH _ _ _ _ _ _ _ (Act.put _ (some 20) _) _
        simp only [Act.put, List.setIfInBounds_toArray, List.set_cons_zero, List.set_cons_succ]
        refine wpAnyH_take (i := 11) (v := undef) rfl (by kernel_rfl) (by kernel_rfl) (by kernel_rfl) (fun _ _ _ h => h) (Or.inr ⟨by kernel_rfl, rfl⟩) (by assumption) ?_
        change wpAnyH _ _ _ _ _ _ _ (Act.put _ (some 21) _) _
        simp only [Act.put, List.setIfInBounds_toArray, List.set_cons_zero, List.set_cons_succ]
        refine wpAnyH_take (i := 12) (v := undef) rfl (by kernel_rfl) (by kernel_rfl) (by kernel_rfl) (fun _ _ _ h => h) (Or.inr ⟨by kernel_rfl, rfl⟩) (by assumption) ?_
        change wpAnyH _ _ _ _ _ _ _ (Act.put _ (some 22) _) _
        simp only [Act.put, List.setIfInBounds_toArray, List.set_cons_zero, List.set_cons_succ]
        refine wpAnyH_take (i := 13) (v := undef) rfl (by kernel_rfl) (by kernel_rfl) (by kernel_rfl) (fun _ _ _ h => h) (Or.inr ⟨by kernel_rfl, rfl⟩) (by assumption) ?_
        change wpAnyH _ _ _ _ _ _ _ (Act.put _ (some 23) _) _
        simp only [Act.put, List.setIfInBounds_toArray, List.set_cons_zero, List.set_cons_succ]
        refine wpAnyH_take (i := 14) (v := undef) rfl (by kernel_rfl) (by kernel_rfl) (by kernel_rfl) (fun _ _ _ h => h) (Or.inr ⟨by kernel_rfl, rfl⟩) (by assumption) ?_
        change wpAnyH _ _ _ _ _ _ _ (Act.put _ (some 24) _) _
        simp only [Act.put, List.setIfInBounds_toArray, List.set_cons_zero, List.set_cons_succ]
        refine wpAnyH_take (i := 15) (v := undef) rfl (by kernel_rfl) (by kernel_rfl) (by kernel_rfl) (fun _ _ _ h => h) (Or.inr ⟨by kernel_rfl, rfl⟩) (by assumption) ?_
        change wpAnyH _ _ _ _ _ _ _ (Act.put _ (some 25) _) _
        simp only [Act.put, List.setIfInBounds_toArray, List.set_cons_zero, List.set_cons_succ]
        refine wpAnyH_take (i := 16) (v := undef) rfl (by kernel_rfl) (by kernel_rfl) (by kernel_rfl) (fun _ _ _ h => h) (Or.inr ⟨by kernel_rfl, rfl⟩) (by assumption) ?_
        change wpAnyH _ _ _ _ _ _ _ (Act.put _ (some 26) _) _
        simp only [Act.put, List.setIfInBounds_toArray, List.set_cons_zero, List.set_cons_succ]
        refine wpAnyH_take (i := 17) (v := undef) rfl (by kernel_rfl) (by kernel_rfl) (by kernel_rfl) (fun _ _ _ h => h) (Or.inr ⟨by kernel_rfl, rfl⟩) (by assumption) ?_
        change wpAnyH _ _ _ _ _ _ _ (Act.put _ (some 27) _) _
        simp only [Act.put, List.setIfInBounds_toArray, List.set_cons_zero, List.set_cons_succ]
        refine wpAnyH_take (i := 18) (v := undef) rfl (by kernel_rfl) (by kernel_rfl) (by kernel_rfl) (fun _ _ _ h => h) (Or.inr ⟨by kernel_rfl, rfl⟩) (by assumption) ?_
        change wpAnyH _ _ _ _ _ _ _ (Act.put _ (some 28) _) _
        simp only [Act.put, List.setIfInBounds_toArray, List.set_cons_zero, List.set_cons_succ]
        refine wpAnyH_take (i := 19) (v := undef) rfl (by kernel_rfl) (by kernel_rfl) (by kernel_rfl) (fun _ _ _ h => h) (Or.inr ⟨by kernel_rfl, rfl⟩) (by assumption) ?_
        change wpAnyH _ _ _ _ _ _ _ (Act.put _ (some 29) _) _
        simp only [Act.put, List.setIfInBounds_toArray, List.set_cons_zero, List.set_cons_succ]
        refine wpAnyH_take (i := 20) (v := undef) rfl (by kernel_rfl) (by kernel_rfl) (by kernel_rfl) (fun _ _ _ h => h) (Or.inr ⟨by kernel_rfl, rfl⟩) (by assumption) ?_
        change wpAnyH _ _ _ _ _ _ _ (Act.put _ (some 30) _) _
        simp only [Act.put, List.setIfInBounds_toArray, List.set_cons_zero, List.set_cons_succ]
        refine' wpAnyH_take (i := 21) (v := _) rfl (by kernel_rfl) (by kernel_rfl) (by kernel_rfl) (fun _ _ _ h => h) (Or.inl ⟨by kernel_rfl, ?hra22⟩) (by assumption) ?rra22
        case hra22 => intro W hW; have c0 := hW; go_simp; all_goals with_reducible rfl
        change wpAnyH _ _ _ _ _ _ _ (Act.put _ (some 31) _) _
        simp only [Act.put, List.setIfInBounds_toArray, List.set_cons_zero, List.set_cons_succ]
        refine wpAnyH_done (by kernel_rfl) ?_ _
        clear hHeld
        go_wp2
        go_ret
        exact ⟨false, rfl, ⟨(fun h => by cases h), fun h => absurd h HN.out⟩, HB.out⟩
      · have hb0 : ¬ (48 : Int) < (p0.size : Int) := hbig
        have hq1 : decide ((48 : Int) < (p0.size : Int)) = false := by simpa using hbig
        by_cases hk0 : k = 0
        · subst hk0
          have HN : Hid (ShortRise f (0 + 1)) := HA.out.next (by rw [hp0.out]; omega) (fun h => absurd h (Nat.lt_irrefl _))
          clear HA HC1
          rw [Nat.add_zero] at x0
          go_wp2_with fail
          refine wp_region_held_drew (S := fun W => W.cell? ⟨b1, o1, none⟩ = some (.string p0)) (by kernel_rfl) x0 (fun hHeld => ?_)
          refine' wpAnyH_take (i := 0) (v := _) rfl (by kernel_rfl) (by kernel_rfl) (by kernel_rfl) (fun _ _ _ h => h) (Or.inl ⟨by kernel_rfl, ?hrb1⟩) (by assumption) ?rrb1
          case hrb1 => intro W hW; have c0 := hW; go_simp; all_goals with_reducible rfl
          change wpAnyH _ _ _ _ _ _ _ (Act.put _ (some 10) _) _
          simp only [Act.put, List.setIfInBounds_toArray, List.set_cons_zero, List.set_cons_succ]
          refine' wpAnyH_take (i := 1) (v := _) rfl (by kernel_rfl) (by kernel_rfl) (by kernel_rfl) (fun _ _ _ h => h) (Or.inl ⟨by kernel_rfl, ?hrb2⟩) (by assumption) ?rrb2
          case hrb2 => intro W hW; have c0 := hW; go_simp; all_goals with_reducible rfl
          change wpAnyH _ _ _ _ _ _ _ (Act.put _ (some 11) _) _
          simp only [Act.put, List.setIfInBounds_toArray, List.set_cons_zero, List.set_cons_succ]
          refine' wpAnyH_take (i := 2) (v := _) rfl (by kernel_rfl) (by kernel_rfl) (by kernel_rfl) (fun _ _ _ h => h) (Or.inl ⟨by kernel_rfl, ?hrb3⟩) (by assumption) ?rrb3
          case hrb3 => intro W hW; have c0 := hW; go_simp; all_goals with_reducible rfl
          change wpAnyH _ _ _ _ _ _ _ (Act.put _ (some 12) _) _
          simp only [Act.put, List.setIfInBounds_toArray, List.set_cons_zero, List.set_cons_succ]
          refine' wpAnyH_take (i := 3) (v := _) rfl (by kernel_rfl) (by kernel_rfl) (by kernel_rfl) (fun _ _ _ h => h) (Or.inl ⟨by kernel_rfl, ?hrb4⟩) (by assumption) ?rrb4
          case hrb4 => intro W hW; have c0 := hW; go_simp; all_goals with_reducible rfl
          change wpAnyH _ _ _ _ _ _ _ (Act.put _ (some 13) _) _
          simp only [Act.put, List.setIfInBounds_toArray, List.set_cons_zero, List.set_cons_succ]
          refine' wpAnyH_take (i := 4) (v := _) rfl (by kernel_rfl) (by kernel_rfl) (by kernel_rfl) (fun _ _ _ h => h) (Or.inl ⟨by kernel_rfl, ?hrb5⟩) (by assumption) ?rrb5
          case hrb5 => intro W hW; have c0 := hW; go_simp; all_goals with_reducible rfl
          change wpAnyH _ _ _ _ _ _ _ (Act.put _ (some 14) _) _
          simp only [Act.put, List.setIfInBounds_toArray, List.set_cons_zero, List.set_cons_succ]
          refine' wpAnyH_take (i := 5) (v := _) rfl (by kernel_rfl) (by kernel_rfl) (by kernel_rfl) (fun _ _ _ h => h) (Or.inl ⟨by kernel_rfl, ?hrb6⟩) (by assumption) ?rrb6
          case hrb6 => intro W hW; have c0 := hW; go_simp; all_goals with_reducible rfl
          change wpAnyH _ _ _ _ _ _ _ (Act.put _ (some 15) _) _
          simp only [Act.put, List.setIfInBounds_toArray, List.set_cons_zero, List.set_cons_succ]
          refine' wpAnyH_take (i := 6) (v := _) rfl (by kernel_rfl) (by kernel_rfl) (by kernel_rfl) (fun _ _ _ h => h) (Or.inl ⟨by kernel_rfl, ?hrb7⟩) (by assumption) ?rrb7
          case hrb7 => intro W hW; have c0 := hW; go_simp; all_goals with_reducible rfl
          change wpAnyH _ _ _ _ _ _ _ (Act.put _ (some 16) _) _
          simp only [Act.put, List.setIfInBounds_toArray, List.set_cons_zero, List.set_cons_succ]
          refine' wpAnyH_take (i := 7) (v := _) rfl (by kernel_rfl) (by kernel_rfl) (by kernel_rfl) (fun _ _ _ h => h) (Or.inl ⟨by kernel_rfl, ?hrb8⟩) (by assumption) ?rrb8
          case hrb8 => intro W hW; have c0 := hW; go_simp; all_goals with_reducible rfl
          change wpAnyH _ _ _ _ _ _ _ (Act.put _ (some 17) _) _
          simp only [Act.put, List.setIfInBounds_toArray, List.set_cons_zero, List.set_cons_succ]
          refine' wpAnyH_take (i := 8) (v := _) rfl (by kernel_rfl) (by kernel_rfl) (by kernel_rfl) (fun _ _ _ h => h) (Or.inl ⟨by kernel_rfl, ?hrb9⟩) (by assumption) ?rrb9
          case hrb9 => intro W hW; have c0 := hW; go_simp; all_goals with_reducible rfl
          change wpAnyH _ _ _ _ _ _ _ (Act.put _ (some 18) _) _
          simp only [Act.put, List.setIfInBounds_toArray, List.set_cons_zero, List.set_cons_succ]
          refine' wpAnyH_take (i := 9) (v := _) rfl (by kernel_rfl) (by kernel_rfl) (by kernel_rfl) (fun _ _ _ h => h) (Or.inl ⟨by kernel_rfl, ?hrb10⟩) (by assumption) ?rrb10
          case hrb10 => intro W hW; have c0 := hW; go_simp; all_goals with_reducible rfl
          change wpAnyH _ _ _ _ _ _ _ (Act.put _ (some 19) _) _
          simp only [Act.put, List.setIfInBounds_toArray, List.set_cons_zero, List.set_cons_succ]
          refine wpAnyH_take (i := 10) (v := undef) rfl (by kernel_rfl) (by kernel_rfl) (by kernel_rfl) (fun _ _ _ h => h) (Or.inr ⟨by kernel_rfl, rfl⟩) (by assumption) ?_
          change wpAnyH _ _ _ _ _ _ _ (Act.put _ (some 20) _) _
          simp only [Act.put, List.setIfInBounds_toArray, List.set_cons_zero, List.set_cons_succ]
          refine wpAnyH_take (i := 11) (v := undef) rfl (by kernel_rfl) (by kernel_rfl) (by kernel_rfl) (fun _ _ _ h => h) (Or.inr ⟨by kernel_rfl, rfl⟩) (by assumption) ?_
          change wpAnyH _ _ _ _ _ _ _ (Act.put _ (some 21) _) _
          simp only [Act.put, List.setIfInBounds_toArray, List.set_cons_zero, List.set_cons_succ]
          refine wpAnyH_take (i := 12) (v := undef) rfl (by kernel_rfl) (by kernel_rfl) (by kernel_rfl) (fun _ _ _ h => h) (Or.inr ⟨by kernel_rfl, rfl⟩) (by assumption) ?_
          change wpAnyH _ _ _ _ _ _ _ (Act.put _ (some 22) _) _
          simp only [Act.put, List.setIfInBounds_toArray, List.set_cons_zero, List.set_cons_succ]
          refine wpAnyH_take (i := 13) (v := undef) rfl (by kernel_rfl) (by kernel_rfl) (by kernel_rfl) (fun _ _ _ h => h) (Or.inr ⟨by kernel_rfl, rfl⟩) (by assumption) ?_
          change wpAnyH _ _ _ _ _ _ _ (Act.put _ (some 23) _) _
          simp only [Act.put, List.setIfInBounds_toArray, List.set_cons_zero, List.set_cons_succ]
          refine wpAnyH_take (i := 14) (v := undef) rfl (by kernel_rfl) (by kernel_rfl) (by kernel_rfl) (fun _ _ _ h => h) (Or.inr ⟨by kernel_rfl, rfl⟩) (by assumption) ?_
          change wpAnyH _ _ _ _ _ _ _ (Act.put _ (some 24) _) _
          simp only [Act.put, List.setIfInBounds_toArray, List.set_cons_zero, List.set_cons_succ]
          refine wpAnyH_take (i := 15) (v := undef) rfl (by kernel_rfl) (by kernel_rfl) (by kernel_rfl) (fun _ _ _ h => h) (Or.inr ⟨by kernel_rfl, rfl⟩) (by assumption) ?_
          change wpAnyH _ _ _ _ _ _ _ (Act.put _ (some 25) _) _
          simp only [Act.put, List.setIfInBounds_toArray, List.set_cons_zero, List.set_cons_succ]
          refine wpAnyH_take (i := 16) (v := undef) rfl (by kernel_rfl) (by kernel_rfl) (by kernel_rfl) (fun _ _ _ h => h) (Or.inr ⟨by kernel_rfl, rfl⟩) (by assumption) ?_
          change wpAnyH _ _ _ _ _ _ _ (Act.put _ (some 26) _) _
          simp only [Act.put, List.setIfInBounds_toArray, List.set_cons_zero, List.set_cons_succ]
          refine wpAnyH_take (i := 17) (v := undef) rfl (by kernel_rfl) (by kernel_rfl) (by kernel_rfl) (fun _ _ _ h => h) (Or.inr ⟨by kernel_rfl, rfl⟩) (by assumption) ?_
          change wpAnyH _ _ _ _ _ _ _ (Act.put _ (some 27) _) _
          simp only [Act.put, List.setIfInBounds_toArray, List.set_cons_zero, List.set_cons_succ]
          refine wpAnyH_take (i := 18) (v := undef) rfl (by kernel_rfl) (by kernel_rfl) (by kernel_rfl) (fun _ _ _ h => h) (Or.inr ⟨by kernel_rfl, rfl⟩) (by assumption) ?_
          change wpAnyH _ _ _ _ _ _ _ (Act.put _ (some 28) _) _
          simp only [Act.put, List.setIfInBounds_toArray, List.set_cons_zero, List.set_cons_succ]
          refine wpAnyH_take (i := 19) (v := undef) rfl (by kernel_rfl) (by kernel_rfl) (by kernel_rfl) (fun _ _ _ h => h) (Or.inr ⟨by kernel_rfl, rfl⟩) (by assumption) ?_
          change wpAnyH _ _ _ _ _ _ _ (Act.put _ (some 29) _) _
          simp only [Act.put, List.setIfInBounds_toArray, List.set_cons_zero, List.set_cons_succ]
          refine' wpAnyH_take (i := 20) (v := _) rfl (by kernel_rfl) (by kernel_rfl) (by kernel_rfl) (fun _ _ _ h => h) (Or.inl ⟨by kernel_rfl, ?hrb21⟩) (by assumption) ?rrb21
          case hrb21 => intro W hW; have c0 := hW; go_simp; all_goals with_reducible rfl
          change wpAnyH _ _ _ _ _ _ _ (Act.put _ (some 30) _) _
          simp only [Act.put, List.setIfInBounds_toArray, List.set_cons_zero, List.set_cons_succ]
          refine' wpAnyH_take (i := 21) (v := _) rfl (by kernel_rfl) (by kernel_rfl) (by kernel_rfl) (fun _ _ _ h => h) (Or.inl ⟨by kernel_rfl, ?hrb22⟩) (by assumption) ?rrb22
          case hrb22 => intro W hW; have c0 := hW; go_simp; all_goals with_reducible rfl
          change wpAnyH _ _ _ _ _ _ _ (Act.put _ (some 31) _) _
          simp only [Act.put, List.setIfInBounds_toArray, List.set_cons_zero, List.set_cons_succ]
          refine wpAnyH_done (by kernel_rfl) ?_ _
          clear hHeld
          go_wp2
          go_roundg (n - (0 + 1))
          case measure => omega
          case rel => exact ⟨0 + 1, by omega, rfl, by go_num, HB.out, HN⟩
        · have hkp : (0 : Int) < (k : Int) := by omega
          have hq2 : decide (0 < k) = true := by simp; omega
          have y0 : wr.cell? ⟨b1, o1 + (k - 1), none⟩ = some (.string (f (k - 1))) := HC1.out (k - 1) (by omega)
          have hG := fun W => geq_str (f (k - 1)) (f k) W
          have HNX : Hid (geT (f (k - 1)) (f k) = false → ShortRise f (k + 1)) := fun h => HA.out.next (by rw [hp0.out]; omega) (fun _ => h)
          have HNO : Hid (geT (f (k - 1)) (f k) = true → ¬ ShortRise f n) := fun h hS => by have := (hS k hlt).2 (by omega); rw [h] at this; cases this
          obtain ⟨p1, hp1⟩ : ∃ x, Hid (f (k - 1) = x) := ⟨_, rfl⟩
          rw [hp1.out] at y0
          simp only [hp1.out, hp0.out] at hG HNX HNO
          obtain ⟨r, hr⟩ : ∃ x, Hid (geT p1 p0 = x) := ⟨_, rfl⟩
          simp only [hr.out] at hG HNX HNO
          obtain ⟨k1, hk1⟩ : ∃ m, Hid (k - 1 = m) := ⟨_, rfl⟩
          rw [hk1.out] at y0
          have hw1 : IntKind.i64.wrap ((k : Int) - 1) = (k1 : Int) := by have := hk1.out; rw [IntKind.wrap_i64]; omega
          have hkn1 : (k1 : Int) < (n : Int) := by have := hk1.out; omega
          clear HA HC1
          go_wp2_with fail
          refine wp_region_held_drew (S := fun W => W.cell? ⟨b1, o1 + k, none⟩ = some (.string p0) ∧ W.cell? ⟨b1, o1 + k1, none⟩ = some (.string p1)) (by kernel_rfl) ⟨x0, y0⟩ (fun hHeld => ?_)
          refine' wpAnyH_take (i := 0) (v := _) rfl (by kernel_rfl) (by kernel_rfl) (by kernel_rfl) (fun _ _ _ h => h) (Or.inl ⟨by kernel_rfl, ?hrc1⟩) (by assumption) ?rrc1
          case hrc1 => intro W hW; obtain ⟨c0, c1⟩ := hW; go_simp; all_goals with_reducible rfl
          change wpAnyH _ _ _ _ _ _ _ (Act.put _ (some 10) _) _
          simp only [Act.put, List.setIfInBounds_toArray, List.set_cons_zero, List.set_cons_succ]
          refine' wpAnyH_take (i := 1) (v := _) rfl (by kernel_rfl) (by kernel_rfl) (by kernel_rfl) (fun _ _ _ h => h) (Or.inl ⟨by kernel_rfl, ?hrc2⟩) (by assumption) ?rrc2
          case hrc2 => intro W hW; obtain ⟨c0, c1⟩ := hW; go_simp; all_goals with_reducible rfl
          change wpAnyH _ _ _ _ _ _ _ (Act.put _ (some 11) _) _
          simp only [Act.put, List.setIfInBounds_toArray, List.set_cons_zero, List.set_cons_succ]
          refine' wpAnyH_take (i := 2) (v := _) rfl (by kernel_rfl) (by kernel_rfl) (by kernel_rfl) (fun _ _ _ h => h) (Or.inl ⟨by kernel_rfl, ?hrc3⟩) (by assumption) ?rrc3
          case hrc3 => intro W hW; obtain ⟨c0, c1⟩ := hW; go_simp; all_goals with_reducible rfl
          change wpAnyH _ _ _ _ _ _ _ (Act.put _ (some 12) _) _
          simp only [Act.put, List.setIfInBounds_toArray, List.set_cons_zero, List.set_cons_succ]
          refine' wpAnyH_take (i := 3) (v := _) rfl (by kernel_rfl) (by kernel_rfl) (by kernel_rfl) (fun _ _ _ h => h) (Or.inl ⟨by kernel_rfl, ?hrc4⟩) (by assumption) ?rrc4
          case hrc4 => intro W hW; obtain ⟨c0, c1⟩ := hW; go_simp; all_goals with_reducible rfl
          change wpAnyH _ _ _ _ _ _ _ (Act.put _ (some 13) _) _
          simp only [Act.put, List.setIfInBounds_toArray, List.set_cons_zero, List.set_cons_succ]
          refine' wpAnyH_take (i := 4) (v := _) rfl (by kernel_rfl) (by kernel_rfl) (by kernel_rfl) (fun _ _ _ h => h) (Or.inl ⟨by kernel_rfl, ?hrc5⟩) (by assumption) ?rrc5
          case hrc5 => intro W hW; obtain ⟨c0, c1⟩ := hW; go_simp; all_goals with_reducible rfl
          change wpAnyH _ _ _ _ _ _ _ (Act.put _ (some 14) _) _
          simp only [Act.put, List.setIfInBounds_toArray, List.set_cons_zero, List.set_cons_succ]
          refine' wpAnyH_take (i := 5) (v := _) rfl (by kernel_rfl) (by kernel_rfl) (by kernel_rfl) (fun _ _ _ h => h) (Or.inl ⟨by kernel_rfl, ?hrc6⟩) (by assumption) ?rrc6
          case hrc6 => intro W hW; obtain ⟨c0, c1⟩ := hW; go_simp; all_goals with_reducible rfl
          change wpAnyH _ _ _ _ _ _ _ (Act.put _ (some 15) _) _
          simp only [Act.put, List.setIfInBounds_toArray, List.set_cons_zero, List.set_cons_succ]
          refine' wpAnyH_take (i := 6) (v := _) rfl (by kernel_rfl) (by kernel_rfl) (by kernel_rfl) (fun _ _ _ h => h) (Or.inl ⟨by kernel_rfl, ?hrc7⟩) (by assumption) ?rrc7
          case hrc7 => intro W hW; obtain ⟨c0, c1⟩ := hW; go_simp; all_goals with_reducible rfl
          change wpAnyH _ _ _ _ _ _ _ (Act.put _ (some 16) _) _
          simp only [Act.put, List.setIfInBounds_toArray, List.set_cons_zero, List.set_cons_succ]
          refine' wpAnyH_take (i := 7) (v := _) rfl (by kernel_rfl) (by kernel_rfl) (by kernel_rfl) (fun _ _ _ h => h) (Or.inl ⟨by kernel_rfl, ?hrc8⟩) (by assumption) ?rrc8
          case hrc8 => intro W hW; obtain ⟨c0, c1⟩ := hW; go_simp; all_goals with_reducible rfl
          change wpAnyH _ _ _ _ _ _ _ (Act.put _ (some 17) _) _
          simp only [Act.put, List.setIfInBounds_toArray, List.set_cons_zero, List.set_cons_succ]
          refine' wpAnyH_take (i := 8) (v := _) rfl (by kernel_rfl) (by kernel_rfl) (by kernel_rfl) (fun _ _ _ h => h) (Or.inl ⟨by kernel_rfl, ?hrc9⟩) (by assumption) ?rrc9
          case hrc9 => intro W hW; obtain ⟨c0, c1⟩ := hW; go_simp; all_goals with_reducible rfl
          change wpAnyH _ _ _ _ _ _ _ (Act.put _ (some 18) _) _
          simp only [Act.put, List.setIfInBounds_toArray, List.set_cons_zero, List.set_cons_succ]
          refine' wpAnyH_take (i := 9) (v := _) rfl (by kernel_rfl) (by kernel_rfl) (by kernel_rfl) (fun _ _ _ h => h) (Or.inl ⟨by kernel_rfl, ?hrc10⟩) (by assumption) ?rrc10
          case hrc10 => intro W hW; obtain ⟨c0, c1⟩ := hW; go_simp; all_goals with_reducible rfl
          change wpAnyH _ _ _ _ _ _ _ (Act.put _ (some 19) _) _
          simp only [Act.put, List.setIfInBounds_toArray, List.set_cons_zero, List.set_cons_succ]
          refine' wpAnyH_take (i := 10) (v := _) rfl (by kernel_rfl) (by kernel_rfl) (by kernel_rfl) (fun _ _ _ h => h) (Or.inl ⟨by kernel_rfl, ?hrc11⟩) (by assumption) ?rrc11
          case hrc11 => intro W hW; obtain ⟨c0, c1⟩ := hW; go_simp; all_goals with_reducible rfl
          change wpAnyH _ _ _ _ _ _ _ (Act.put _ (some 20) _) _
          simp only [Act.put, List.setIfInBounds_toArray, List.set_cons_zero, List.set_cons_succ]
          refine' wpAnyH_take (i := 11) (v := _) rfl (by kernel_rfl) (by kernel_rfl) (by kernel_rfl) (fun _ _ _ h => h) (Or.inl ⟨by kernel_rfl, ?hrc12⟩) (by assumption) ?rrc12
          case hrc12 => intro W hW; obtain ⟨c0, c1⟩ := hW; go_simp; all_goals with_reducible rfl
          change wpAnyH _ _ _ _ _ _ _ (Act.put _ (some 21) _) _
          simp only [Act.put, List.setIfInBounds_toArray, List.set_cons_zero, List.set_cons_succ]
          refine' wpAnyH_take (i := 12) (v := _) rfl (by kernel_rfl) (by kernel_rfl) (by kernel_rfl) (fun _ _ _ h => h) (Or.inl ⟨by kernel_rfl, ?hrc13⟩) (by assumption) ?rrc13
          case hrc13 => intro W hW; obtain ⟨c0, c1⟩ := hW; go_simp; all_goals with_reducible rfl
          change wpAnyH _ _ _ _ _ _ _ (Act.put _ (some 22) _) _
          simp only [Act.put, List.setIfInBounds_toArray, List.set_cons_zero, List.set_cons_succ]
          refine' wpAnyH_take (i := 13) (v := _) rfl (by kernel_rfl) (by kernel_rfl) (by kernel_rfl) (fun _ _ _ h => h) (Or.inl ⟨by kernel_rfl, ?hrc14⟩) (by assumption) ?rrc14
          case hrc14 => intro W hW; obtain ⟨c0, c1⟩ := hW; go_simp; all_goals with_reducible rfl
          change wpAnyH _ _ _ _ _ _ _ (Act.put _ (some 23) _) _
          simp only [Act.put, List.setIfInBounds_toArray, List.set_cons_zero, List.set_cons_succ]
          refine' wpAnyH_take (i := 14) (v := _) rfl (by kernel_rfl) (by kernel_rfl) (by kernel_rfl) (fun _ _ _ h => h) (Or.inl ⟨by kernel_rfl, ?hrc15⟩) (by assumption) ?rrc15
          case hrc15 => intro W hW; obtain ⟨c0, c1⟩ := hW; go_simp; all_goals with_reducible rfl
          change wpAnyH _ _ _ _ _ _ _ (Act.put _ (some 24) _) _
          simp only [Act.put, List.setIfInBounds_toArray, List.set_cons_zero, List.set_cons_succ]
          refine' wpAnyH_take (i := 15) (v := _) rfl (by kernel_rfl) (by kernel_rfl) (by kernel_rfl) (fun _ _ _ h => h) (Or.inl ⟨by kernel_rfl, ?hrc16⟩) (by assumption) ?rrc16
          case hrc16 => intro W hW; obtain ⟨c0, c1⟩ := hW; go_simp; all_goals with_reducible rfl
          change wpAnyH _ _ _ _ _ _ _ (Act.put _ (some 25) _) _
          simp only [Act.put, List.setIfInBounds_toArray, List.set_cons_zero, List.set_cons_succ]
          refine' wpAnyH_take (i := 16) (v := _) rfl (by kernel_rfl) (by kernel_rfl) (by kernel_rfl) (fun _ _ _ h => h) (Or.inl ⟨by kernel_rfl, ?hrc17⟩) (by assumption) ?rrc17
          case hrc17 => intro W hW; obtain ⟨c0, c1⟩ := hW; go_simp; all_goals with_reducible rfl
          change wpAnyH _ _ _ _ _ _ _ (Act.put _ (some 26) _) _
          simp only [Act.put, List.setIfInBounds_toArray, List.set_cons_zero, List.set_cons_succ]
          refine' wpAnyH_take (i := 17) (v := _) rfl (by kernel_rfl) (by kernel_rfl) (by kernel_rfl) (fun _ _ _ h => h) (Or.inl ⟨by kernel_rfl, ?hrc18⟩) (by assumption) ?rrc18
          case hrc18 => intro W hW; obtain ⟨c0, c1⟩ := hW; go_simp; all_goals with_reducible rfl
          change wpAnyH _ _ _ _ _ _ _ (Act.put _ (some 27) _) _
          simp only [Act.put, List.setIfInBounds_toArray, List.set_cons_zero, List.set_cons_succ]
          refine' wpAnyH_take (i := 18) (v := _) rfl (by kernel_rfl) (by kernel_rfl) (by kernel_rfl) (fun _ _ _ h => h) (Or.inl ⟨by kernel_rfl, ?hrc19⟩) (by assumption) ?rrc19
          case hrc19 => intro W hW; obtain ⟨c0, c1⟩ := hW; go_simp; all_goals with_reducible rfl
          change wpAnyH _ _ _ _ _ _ _ (Act.put _ (some 28) _) _
          simp only [Act.put, List.setIfInBounds_toArray, List.set_cons_zero, List.set_cons_succ]
          refine' wpAnyH_take (i := 19) (v := _) rfl (by kernel_rfl) (by kernel_rfl) (by kernel_rfl) (fun _ _ _ h => h) (Or.inl ⟨by kernel_rfl, ?hrc20⟩) (by assumption) ?rrc20
          case hrc20 => intro W hW; obtain ⟨c0, c1⟩ := hW; go_simp; all_goals with_reducible rfl
          change wpAnyH _ _ _ _ _ _ _ (Act.put _ (some 29) _) _
          simp only [Act.put, List.setIfInBounds_toArray, List.set_cons_zero, List.set_cons_succ]
          refine' wpAnyH_take (i := 20) (v := _) rfl (by kernel_rfl) (by kernel_rfl) (by kernel_rfl) (fun _ _ _ h => h) (Or.inl ⟨by kernel_rfl, ?hrc21⟩) (by assumption) ?rrc21
          case hrc21 => intro W hW; obtain ⟨c0, c1⟩ := hW; go_simp; all_goals with_reducible rfl
          change wpAnyH _ _ _ _ _ _ _ (Act.put _ (some 30) _) _
          simp only [Act.put, List.setIfInBounds_toArray, List.set_cons_zero, List.set_cons_succ]
          refine' wpAnyH_take (i := 21) (v := _) rfl (by kernel_rfl) (by kernel_rfl) (by kernel_rfl) (fun _ _ _ h => h) (Or.inl ⟨by kernel_rfl, ?hrc22⟩) (by assumption) ?rrc22
          case hrc22 => intro W hW; obtain ⟨c0, c1⟩ := hW; go_simp; all_goals with_reducible rfl
          change wpAnyH _ _ _ _ _ _ _ (Act.put _ (some 31) _) _
          simp only [Act.put, List.setIfInBounds_toArray, List.set_cons_zero, List.set_cons_succ]
          refine wpAnyH_done (by kernel_rfl) ?_ _
          clear hHeld
          have hkq : 0 < k := by omega
          cases r with
          | true =>
            have HN : Hid (¬ ShortRise f n) := HNO.out rfl
            clear HNX HNO
            go_wp2
            all_goals first
              | (go_ret; exact ⟨false, rfl, ⟨(fun h => by cases h), fun h => absurd h HN.out⟩, HB.out⟩)
              | (exfalso; rename_i hx; first | omega | (obtain ⟨-, hx⟩ := hx; rcases hx with hx | hx; · omega; · cases hx) | (rcases hx with hx | hx; · omega; · (obtain ⟨-, hx⟩ := hx; cases hx)) | (simp at hx; omega))
          | false =>
            have HN : Hid (ShortRise f (k + 1)) := HNX.out rfl
            clear HNX HNO
            go_wp2
            go_roundg (n - (k + 1))
            case measure => omega
            case rel => exact ⟨k + 1, by omega, rfl, by go_num, HB.out, HN⟩
    · obtain rfl : k = n := by omega
      have hkz : ¬ (k : Int) < (k : Int) := by omega
      clear h hz
      go_wp2
      go_ret
      exact ⟨true, rfl, by simp [HA.out], hB⟩

set_option maxHeartbeats 4000000 in
theorem specNodeOk_rises (v : Value) (D : PNode) (w : World) (h : NdView w v D) (hf : NFine D) :
    Calls Try.prog 15 #[v] w (SaysI w (Rises D.key D.nk)) := by
  obtain ⟨ac, cc, ap, cp, ai, ci, rfl, hc, hp, hi⟩ := h.is
  have hnk := hf.nk
  have hnv := hf.nv
  have hnd := hf.nd
  have HF : Hid (NFine D) := hf
  have HV : Hid (NdView w (.agg #[.bool D.leaf, .slice ac D.nk cc, .slice ap D.nv cp, .slice ai D.nd ci]) D) := h
  have HP : Hid (TxV w ap D.nv cp D.val) := hp
  have HI : Hid (NuV w ai D.nd ci D.kid) := hi
  have hB0 := nbox_start w (.cells #[.bool D.leaf, .slice ac D.nk cc, .slice ap D.nv cp, .slice ai D.nd ci] 27)
  have hBw0 := (nbox_below hB0).1
  have hR := l14Rising_any ac D.nk cc D.key _ (hc.below hBw0) hf.nk hf.key
  clear h hf hp hi hc
  go_enter Try.func15, Try.ntmps15
  go_wp2_with fail
  refine hR.mono ?_
  rintro e w1 ⟨r, rfl, hr, hb1⟩
  have HR : Hid (r = true ↔ ShortRise D.key D.nk) := hr
  have hB1 := nbox_on hB0 hb1
  obtain ⟨hBw1, -⟩ := nbox_below hB1
  obtain ⟨x0, x1, x2, x3⟩ := nbox4 hB1
  clear hR hb1 hB0 hBw0 hr
  cases r with
  | false =>
    have HB : Hid (Below w.heap.size w w1) := hBw1
    clear hB1 hBw1
    go_wp2
    go_ret
    exact ⟨false, rfl, (fun h => by cases h), HB.out⟩
  | true =>
  have HRS : Hid (Rises D.key D.nk) := (HR.out.1 rfl).rises
  clear HR
  have hS := specSizeOf_any _ D w1 (HV.out.below hBw1) HF.out
  go_wp2_with fail
  refine hS.mono ?_
  rintro e w2 ⟨rfl, hb2⟩
  have hB2 := nbox_on hB1 hb2
  obtain ⟨hBw2, -⟩ := nbox_below hB2
  clear x0 x1 x2 x3 hS hb2 hB1 hBw1
  obtain ⟨x0, x1, x2, x3⟩ := nbox4 hB2
  obtain ⟨W2, hW2⟩ : ∃ x, Hid (w2 = x) := ⟨_, rfl⟩
  have HB2 : Hid (Below (w.heap.size + 1) (w.alloc (.cells #[.bool D.leaf, .slice ac D.nk cc, .slice ap D.nv cp, .slice ai D.nd ci] 27)) W2) := by show Below _ _ _; rw [← hW2.out]; exact hB2
  have HBw2 : Hid (Below w.heap.size w W2) := by show Below _ _ _; rw [← hW2.out]; exact hBw2
  rw [hW2.out] at x0 x1 x2 x3 ⊢
  clear hB2 hBw2 hW2
  obtain ⟨sz, hsz⟩ : ∃ x, Hid (sizeN D = x) := ⟨_, rfl⟩
  rw [hsz.out]
  by_cases hbig : (240 : Int) < sz
  · go_wp2
    go_ret
    exact ⟨false, rfl, (fun h => by cases h), HBw2.out⟩
  cases hlf : D.leaf with
  | true =>
    rw [hlf] at x0 HB2
    go_wp2
    go_loopg [3] D.nv (fun q i wr => ∃ k : Nat, k ≤ D.nv ∧ q = D.nv - k ∧ i = .int .i64 k ∧ Below (w.heap.size + 1) (w.alloc (.cells #[.bool true, .slice ac D.nk cc, .slice ap D.nv cp, .slice ai D.nd ci] 27)) wr)
    case atStart => exact ⟨0, Nat.zero_le _, rfl, rfl, HB2.out⟩
    case round =>
      clear x0 x1 x2 x3 HB2 HBw2
      obtain ⟨k, hk, rfl, rfl, hB⟩ := hrel
      obtain ⟨x0, x1, x2, x3⟩ := nbox4 hB
      obtain ⟨hBw, -⟩ := nbox_below hB
      have HBw : Hid (Below w.heap.size w wr) := hBw
      have HBb : Hid (Below (w.heap.size + 1) (w.alloc (.cells #[.bool true, .slice ac D.nk cc, .slice ap D.nv cp, .slice ai D.nd ci] 27)) wr) := hB
      by_cases hlt : k < D.nv
      · obtain ⟨b1, o1, ea, hb1, y0⟩ := txv_at (HP.out.below hBw) hlt
        have hkz : (k : Int) < (D.nv : Int) := by omega
        have hs0 := HF.out.val k hlt
        obtain ⟨p0, hp0⟩ : ∃ x, Hid (D.val k = x) := ⟨_, rfl⟩
        rw [hp0.out] at y0 hs0
        have HEA : Hid (ap = some ⟨b1, o1, none⟩) := ea
        clear hB hBw
        subst ea
        by_cases hb : (60 : Int) < (p0.size : Int)
        · go_wp2
          go_ret
          exact ⟨false, rfl, (fun h => by cases h), HBw.out⟩
        · go_wp2
          go_roundg (D.nv - (k + 1))
          case measure => omega
          case rel => exact ⟨k + 1, by omega, rfl, by go_num, HBb.out⟩
      · have hkz : ¬ (k : Int) < (D.nv : Int) := by omega
        clear hB hBw HBb
        by_cases q1 : (1 : Int) ≤ (D.nk : Int)
        · cases q2 : ((D.nv : Int) == (D.nk : Int)) with
          | true =>
            go_wp2
            go_ret
            exact ⟨_, rfl, (fun _ => HRS.out), HBw.out⟩
          | false =>
            go_wp2
            go_ret
            exact ⟨_, rfl, (fun _ => HRS.out), HBw.out⟩
        · go_wp2
          go_ret
          exact ⟨_, rfl, (fun _ => HRS.out), HBw.out⟩
  | false =>
    rw [hlf] at x0 HB2
    go_wp2
    go_loopg [4] D.nd (fun q i wr => ∃ k : Nat, k ≤ D.nd ∧ q = D.nd - k ∧ i = .int .i64 k ∧ Below (w.heap.size + 1) (w.alloc (.cells #[.bool false, .slice ac D.nk cc, .slice ap D.nv cp, .slice ai D.nd ci] 27)) wr)
    case atStart => exact ⟨0, Nat.zero_le _, rfl, rfl, HB2.out⟩
    case round =>
      clear x0 x1 x2 x3 HB2 HBw2
      obtain ⟨k, hk, rfl, rfl, hB⟩ := hrel
      obtain ⟨x0, x1, x2, x3⟩ := nbox4 hB
      obtain ⟨hBw, -⟩ := nbox_below hB
      have HBw : Hid (Below w.heap.size w wr) := hBw
      have HBb : Hid (Below (w.heap.size + 1) (w.alloc (.cells #[.bool false, .slice ac D.nk cc, .slice ap D.nv cp, .slice ai D.nd ci] 27)) wr) := hB
      by_cases hlt : k < D.nd
      · obtain ⟨b1, o1, ea, hb1, y0⟩ := nuv_at (HI.out.below hBw) hlt
        have hkz : (k : Int) < (D.nd : Int) := by omega
        obtain ⟨p0, hp0⟩ : ∃ x, Hid (D.kid k = x) := ⟨_, rfl⟩
        rw [hp0.out] at y0
        clear hB hBw
        subst ea
        have hL := l1In_any p0 2 47 wr
        go_wp2_with fail
        refine hL.mono ?_
        rintro e _ ⟨rfl, rfl⟩
        clear hL
        cases hd : (decide (2 ≤ p0) && decide (p0 ≤ 47)) with
        | false =>
          go_wp2
          go_ret
          exact ⟨false, rfl, (fun h => by cases h), HBw.out⟩
        | true =>
          go_wp2
          go_roundg (D.nd - (k + 1))
          case measure => omega
          case rel => exact ⟨k + 1, by omega, rfl, by go_num, HBb.out⟩
      · have hkz : ¬ (k : Int) < (D.nd : Int) := by omega
        clear hB hBw HBb
        have hw1 : IntKind.i64.wrap ((D.nd : Int) - 1) = (D.nd : Int) - 1 := by rw [IntKind.wrap_i64]; omega
        by_cases q1 : (1 : Int) ≤ (D.nd : Int)
        · cases q2 : ((D.nk : Int) == (D.nd : Int) - 1) with
          | true =>
            go_wp2
            go_ret
            exact ⟨_, rfl, (fun _ => HRS.out), HBw.out⟩
          | false =>
            go_wp2
            go_ret
            exact ⟨_, rfl, (fun _ => HRS.out), HBw.out⟩
        · go_wp2
          go_ret
          exact ⟨_, rfl, (fun _ => HRS.out), HBw.out⟩
end Go.Proofs.Ytofghefenfdlpaa

/-
  Texts that are held against each other.
-/
namespace Go.Proofs.Ytofghefenfdlpaa
open Go.RowKit
set_option maxRecDepth 4000

theorem bytes_inj {a b : ByteArray} : a.toList = b.toList ↔ a = b := by
  constructor
  · intro h
    rw [ByteArray.toList_eq, ByteArray.toList_eq] at h
    obtain ⟨⟨x⟩⟩ := a
    obtain ⟨⟨y⟩⟩ := b
    simp only at h
    rw [h]
  · rintro rfl; rfl
theorem bytes_eq {a b : ByteArray} (h : a = b) : (a.toList == b.toList) = true := by rw [h]; exact beq_self_eq_true _
theorem bytes_ne {a b : ByteArray} (h : a ≠ b) : (a.toList == b.toList) = false := by
  cases e : (a.toList == b.toList) with
  | false => rfl
  | true => exact absurd (bytes_inj.1 (eq_of_beq e)) h
end Go.Proofs.Ytofghefenfdlpaa

/-
  The model's SameNode comes to the plain one.
-/
namespace Go.Proofs.Ytofghefenfdlpaa
open Go.RowKit
set_option maxRecDepth 4000

set_option maxHeartbeats 2000000 in
theorem l14SameTexts_any (a1 a2 : Option Addr) (n c1 m c2 : Nat) (f g : Nat → ByteArray) (w : World) (h1 : TxV w a1 n c1 f) (h2 : TxV w a2 m c2 g) (hn : n ≤ 1048576) :
    Calls Try.prog 47 #[.slice a1 n c1, .slice a2 m c2] w fun e w' => e = .returned (.bool (sameTx n f m g)) ∧ Below w.heap.size w w' := by
  by_cases hnm : n = m
  · subst hnm
    have hq : ((n : Int) != (n : Int)) = false := bne_self_eq_false _
    go_enter Try.func47, Try.ntmps47
    go_wp2
    go_loopg [5] n (fun q i wr => ∃ k : Nat, k ≤ n ∧ q = n - k ∧ i = .int .i64 k ∧ Below w.heap.size w wr ∧ Hid (∀ i, i < k → f i = g i))
    case atStart => exact ⟨0, Nat.zero_le _, rfl, rfl, Below.refl _ _, fun j hj => absurd hj (Nat.not_lt_zero _)⟩
    case round =>
      obtain ⟨k, hk, rfl, rfl, hB, HA⟩ := hrel
      by_cases hlt : k < n
      · have hkz : (k : Int) < (n : Int) := by omega
        obtain ⟨b1, o1, rfl, hb1, x0⟩ := txv_at (h1.below hB) hlt
        obtain ⟨b2, o2, rfl, hb2, y0⟩ := txv_at (h2.below hB) hlt
        have HB : Hid (Below w.heap.size w wr) := hB
        clear h1 h2 hB hq
        by_cases hfg : f k = g k
        · have HN : Hid (∀ i, i < k + 1 → f i = g i) := by
            intro i hi
            by_cases e : i < k
            · exact HA.out i e
            · obtain rfl : i = k := by omega
              exact hfg
          rw [← hfg] at y0
          clear HA hfg
          obtain ⟨p0, hp0⟩ : ∃ x, Hid (f k = x) := ⟨_, rfl⟩
          rw [hp0.out] at x0 y0
          have e0 := bytes_eq (a := p0) rfl
          go_wp2
          go_region
          all_goals go_wp2
          all_goals
            go_roundg (n - (k + 1))
            case measure => omega
            case rel => exact ⟨k + 1, by omega, rfl, by go_num, by first | exact HB.out.drew | exact HB.out, HN⟩
        · have HF : Hid (sameTx n f n g = false) := sameTx_at hlt hfg
          have e0 := bytes_ne hfg
          obtain ⟨p0, hp0⟩ : ∃ x, Hid (f k = x) := ⟨_, rfl⟩
          obtain ⟨p1, hp1⟩ : ∃ x, Hid (g k = x) := ⟨_, rfl⟩
          rw [hp0.out] at x0 e0
          rw [hp1.out] at y0 e0
          clear HA hfg
          go_wp2
          go_region
          all_goals go_wp2
          all_goals
            go_ret
            exact ⟨by rw [HF.out]; rfl, by first | exact HB.out.drew | exact HB.out⟩
      · have hkz : ¬ (k : Int) < (n : Int) := by omega
        obtain rfl : k = n := by omega
        have HF : Hid (sameTx k f k g = true) := sameTx_yes HA.out
        clear h1 h2
        go_wp2
        go_ret
        exact ⟨by rw [HF.out]; rfl, hB⟩
  · have hq : ((n : Int) != (m : Int)) = true := by simp; omega
    have HF : Hid (sameTx n f m g = false) := sameTx_len hnm
    clear h1 h2 hnm
    go_enter Try.func47, Try.ntmps47
    go_wp2
    go_ret
    exact ⟨by rw [HF.out]; rfl, Below.refl _ _⟩

set_option maxHeartbeats 2000000 in
theorem l14SameInts_any (a1 a2 : Option Addr) (n c1 m c2 : Nat) (f g : Nat → Int) (w : World) (h1 : NuV w a1 n c1 f) (h2 : NuV w a2 m c2 g) (hn : n ≤ 1048576) :
    Calls Try.prog 48 #[.slice a1 n c1, .slice a2 m c2] w fun e w' => e = .returned (.bool (sameNu n f m g)) ∧ Below w.heap.size w w' := by
  by_cases hnm : n = m
  · subst hnm
    have hq : ((n : Int) != (n : Int)) = false := bne_self_eq_false _
    go_enter Try.func48, Try.ntmps48
    go_wp2
    go_loopg [5] n (fun q i wr => ∃ k : Nat, k ≤ n ∧ q = n - k ∧ i = .int .i64 k ∧ Below w.heap.size w wr ∧ Hid (∀ i, i < k → f i = g i))
    case atStart => exact ⟨0, Nat.zero_le _, rfl, rfl, Below.refl _ _, fun j hj => absurd hj (Nat.not_lt_zero _)⟩
    case round =>
      obtain ⟨k, hk, rfl, rfl, hB, HA⟩ := hrel
      by_cases hlt : k < n
      · have hkz : (k : Int) < (n : Int) := by omega
        obtain ⟨b1, o1, rfl, hb1, x0⟩ := nuv_at (h1.below hB) hlt
        obtain ⟨b2, o2, rfl, hb2, y0⟩ := nuv_at (h2.below hB) hlt
        have HB : Hid (Below w.heap.size w wr) := hB
        clear h1 h2 hB hq
        by_cases hfg : f k = g k
        · have HN : Hid (∀ i, i < k + 1 → f i = g i) := by
            intro i hi
            by_cases e : i < k
            · exact HA.out i e
            · obtain rfl : i = k := by omega
              exact hfg
          rw [← hfg] at y0
          clear HA hfg
          obtain ⟨p0, hp0⟩ : ∃ x, Hid (f k = x) := ⟨_, rfl⟩
          rw [hp0.out] at x0 y0
          have e0 : (p0 != p0) = false := bne_self_eq_false _
          go_wp2
          go_region
          all_goals go_wp2
          all_goals
            go_roundg (n - (k + 1))
            case measure => omega
            case rel => exact ⟨k + 1, by omega, rfl, by go_num, by first | exact HB.out.drew | exact HB.out, HN⟩
        · have HF : Hid (sameNu n f n g = false) := sameNu_at hlt hfg
          have e0 : (f k != g k) = true := by simp [bne, hfg]
          obtain ⟨p0, hp0⟩ : ∃ x, Hid (f k = x) := ⟨_, rfl⟩
          obtain ⟨p1, hp1⟩ : ∃ x, Hid (g k = x) := ⟨_, rfl⟩
          rw [hp0.out] at x0 e0
          rw [hp1.out] at y0 e0
          clear HA hfg
          go_wp2
          go_region
          all_goals go_wp2
          all_goals
            go_ret
            exact ⟨by rw [HF.out]; rfl, by first | exact HB.out.drew | exact HB.out⟩
      · have hkz : ¬ (k : Int) < (n : Int) := by omega
        obtain rfl : k = n := by omega
        have HF : Hid (sameNu k f k g = true) := sameNu_yes HA.out
        clear h1 h2
        go_wp2
        go_ret
        exact ⟨by rw [HF.out]; rfl, hB⟩
  · have hq : ((n : Int) != (m : Int)) = true := by simp; omega
    have HF : Hid (sameNu n f m g = false) := sameNu_len hnm
    clear h1 h2 hnm
    go_enter Try.func48, Try.ntmps48
    go_wp2
    go_ret
    exact ⟨by rw [HF.out]; rfl, Below.refl _ _⟩

set_option maxHeartbeats 4000000 in
theorem specSameNd_any (u v : Value) (D E : PNode) (w : World) (h1 : NdView w u D) (h2 : NdView w v E) (hf : NFine D) :
    Calls Try.prog 21 #[u, v] w fun e w' => e = .returned (.bool (sameNd D E)) ∧ Below w.heap.size w w' := by
  obtain ⟨ac, cc, ap, cp, ai, ci, rfl, hc1, hp1, hi1⟩ := h1.is
  obtain ⟨bc, dc, bp, dp, bi, di, rfl, hc2, hp2, hi2⟩ := h2.is
  clear h1 h2
  have hB0 : Below (w.heap.size + 1 + 1) ((w.alloc (.cells #[.bool D.leaf, .slice ac D.nk cc, .slice ap D.nv cp, .slice ai D.nd ci] 27)).alloc (.cells #[.bool E.leaf, .slice bc E.nk dc, .slice bp E.nv dp, .slice bi E.nd di] 27)) ((w.alloc (.cells #[.bool D.leaf, .slice ac D.nk cc, .slice ap D.nv cp, .slice ai D.nd ci] 27)).alloc (.cells #[.bool E.leaf, .slice bc E.nk dc, .slice bp E.nv dp, .slice bi E.nd di] 27)) := Below.refl _ _
  obtain ⟨hBw0, -⟩ := nbox44_below hB0
  have HO : Hid (sameNd D E = (D.leaf == E.leaf && sameTx D.nk D.key E.nk E.key && sameTx D.nv D.val E.nv E.val && sameNu D.nd D.kid E.nd E.kid)) := rfl
  obtain ⟨S, hS⟩ : ∃ x, Hid (sameNd D E = x) := ⟨_, rfl⟩
  rw [hS.out] at HO ⊢
  cases q0 : (D.leaf == E.leaf) with
  | false =>
    have HF : Hid (S = false) := by show _ = _; rw [HO.out, q0]; rfl
    clear hc1 hc2 hp1 hp2 hi1 hi2 HO hS
    go_enter Try.func21, Try.ntmps21
    go_wp2
    go_ret
    exact ⟨by rw [HF.out]; rfl, hBw0⟩
  | true =>
  have hV1 := l14SameTexts_any ac bc D.nk cc E.nk dc D.key E.key _ (hc1.below hBw0) (hc2.below hBw0) hf.nk
  go_enter Try.func21, Try.ntmps21
  go_wp2_with fail
  refine hV1.mono ?_
  clear hV1 hc1 hc2
  cases q1 : sameTx D.nk D.key E.nk E.key with
  | false =>
    rintro e w1 ⟨rfl, hb1⟩
    have HF : Hid (S = false) := by show _ = _; rw [HO.out, q1]; simp
    have HB : Hid (Below w.heap.size w w1) := (nbox44_below (nbox44_on hB0 hb1)).1
    clear hp1 hp2 hi1 hi2 HO hS hb1 q0
    go_wp2
    go_ret
    exact ⟨by rw [HF.out]; rfl, HB.out⟩
  | true =>
  rintro e w1 ⟨rfl, hb1⟩
  have hB1 := nbox44_on hB0 hb1
  obtain ⟨hBw1, hs1⟩ := nbox44_below hB1
  obtain ⟨⟨x0, x1, x2, x3⟩, y0, y1, y2, y3⟩ := nbox44 hB1
  have hV2 := l14SameTexts_any ap bp D.nv cp E.nv dp D.val E.val w1 (hp1.below hBw1) (hp2.below hBw1) hf.nv
  clear hb1 hB0 hBw0
  go_wp2_with fail
  refine hV2.mono ?_
  clear hV2 hp1 hp2
  cases q2 : sameTx D.nv D.val E.nv E.val with
  | false =>
    rintro e w2 ⟨rfl, hb2⟩
    have HF : Hid (S = false) := by show _ = _; rw [HO.out, q2]; simp
    have HB : Hid (Below w.heap.size w w2) := (nbox44_below (nbox44_on hB1 hb2)).1
    clear hi1 hi2 HO hS hb2 q0 q1 x0 x1 x2 x3 y0 y1 y2 y3
    go_wp2
    go_ret
    exact ⟨by rw [HF.out]; rfl, HB.out⟩
  | true =>
  rintro e w2 ⟨rfl, hb2⟩
  have hB2 := nbox44_on hB1 hb2
  obtain ⟨hBw2, hs2⟩ := nbox44_below hB2
  clear x0 x1 x2 x3 y0 y1 y2 y3
  obtain ⟨⟨x0, x1, x2, x3⟩, y0, y1, y2, y3⟩ := nbox44 hB2
  have hV3 := l14SameInts_any ai bi D.nd ci E.nd di D.kid E.kid w2 (hi1.below hBw2) (hi2.below hBw2) hf.nd
  clear hb2 hB1 hBw1 hs1
  go_wp2_with fail
  refine hV3.mono ?_
  rintro e w3 ⟨rfl, hb3⟩
  have HF : Hid (S = sameNu D.nd D.kid E.nd E.kid) := by show _ = _; rw [HO.out, q0, q1, q2]; simp
  have HB : Hid (Below w.heap.size w w3) := (nbox44_below (nbox44_on hB2 hb3)).1
  clear hi1 hi2 HO hS hb3 q0 q1 q2 x0 x1 x2 x3 y0 y1 y2 y3 hV3
  obtain ⟨R, hR⟩ : ∃ x, Hid (sameNu D.nd D.kid E.nd E.kid = x) := ⟨_, rfl⟩
  rw [hR.out] at HF ⊢
  go_wp2
  go_ret
  exact ⟨by rw [HF.out]; first | rfl | simp, HB.out⟩
end Go.Proofs.Ytofghefenfdlpaa

/-
  The program's SameNode comes to the plain one.
-/
namespace Go.Proofs.Ytofghefenfdlpaa
open Go.RowKit
set_option maxRecDepth 4000

set_option maxHeartbeats 2000000 in
theorem equalTx_any (a1 a2 : Option Addr) (n c1 m c2 : Nat) (f g : Nat → ByteArray) (w : World) (h1 : TxV w a1 n c1 f) (h2 : TxV w a2 m c2 g) (hn : n ≤ 1048576) :
    Calls Try.prog 42 #[.slice a1 n c1, .slice a2 m c2] w fun e w' => e = .returned (.bool (sameTx n f m g)) ∧ Below w.heap.size w w' := by
  by_cases hnm : n = m
  · subst hnm
    have hq : ((n : Int) != (n : Int)) = false := bne_self_eq_false _
    go_enter Try.func42, Try.ntmps42
    go_wp2
    go_loopg [13] n (fun q i wr => ∃ k : Nat, k ≤ n ∧ q = n - k ∧ i = .int .i64 k ∧ Below w.heap.size w wr ∧ Hid (∀ i, i < k → f i = g i))
    case atStart => exact ⟨0, Nat.zero_le _, rfl, rfl, Below.refl _ _, fun j hj => absurd hj (Nat.not_lt_zero _)⟩
    case round =>
      obtain ⟨k, hk, rfl, rfl, hB, HA⟩ := hrel
      by_cases hlt : k < n
      · have hkz : (k : Int) < (n : Int) := by omega
        obtain ⟨b1, o1, rfl, hb1, x0⟩ := txv_at (h1.below hB) hlt
        obtain ⟨b2, o2, rfl, hb2, y0⟩ := txv_at (h2.below hB) hlt
        have HB : Hid (Below w.heap.size w wr) := hB
        clear h1 h2 hB hq
        by_cases hfg : f k = g k
        · have HN : Hid (∀ i, i < k + 1 → f i = g i) := by
            intro i hi
            by_cases e : i < k
            · exact HA.out i e
            · obtain rfl : i = k := by omega
              exact hfg
          rw [← hfg] at y0
          clear HA hfg
          obtain ⟨p0, hp0⟩ : ∃ x, Hid (f k = x) := ⟨_, rfl⟩
          rw [hp0.out] at x0 y0
          have e0 := bytes_eq (a := p0) rfl
          go_wp2
          go_region
          all_goals go_wp2
          all_goals
            go_roundg (n - (k + 1))
            case measure => omega
            case rel => exact ⟨k + 1, by omega, rfl, by go_num, by first | exact HB.out.drew | exact HB.out, HN⟩
        · have HF : Hid (sameTx n f n g = false) := sameTx_at hlt hfg
          have e0 := bytes_ne hfg
          obtain ⟨p0, hp0⟩ : ∃ x, Hid (f k = x) := ⟨_, rfl⟩
          obtain ⟨p1, hp1⟩ : ∃ x, Hid (g k = x) := ⟨_, rfl⟩
          rw [hp0.out] at x0 e0
          rw [hp1.out] at y0 e0
          clear HA hfg
          go_wp2
          go_region
          all_goals go_wp2
          all_goals
            go_ret
            exact ⟨by rw [HF.out]; rfl, by first | exact HB.out.drew | exact HB.out⟩
      · have hkz : ¬ (k : Int) < (n : Int) := by omega
        obtain rfl : k = n := by omega
        have HF : Hid (sameTx k f k g = true) := sameTx_yes HA.out
        clear h1 h2
        go_wp2
        go_ret
        exact ⟨by rw [HF.out]; rfl, hB⟩
  · have hq : ((n : Int) != (m : Int)) = true := by simp; omega
    have HF : Hid (sameTx n f m g = false) := sameTx_len hnm
    clear h1 h2 hnm
    go_enter Try.func42, Try.ntmps42
    go_wp2
    go_ret
    exact ⟨by rw [HF.out]; rfl, Below.refl _ _⟩

set_option maxHeartbeats 2000000 in
theorem equalNu_any (a1 a2 : Option Addr) (n c1 m c2 : Nat) (f g : Nat → Int) (w : World) (h1 : NuV w a1 n c1 f) (h2 : NuV w a2 m c2 g) (hn : n ≤ 1048576) :
    Calls Try.prog 43 #[.slice a1 n c1, .slice a2 m c2] w fun e w' => e = .returned (.bool (sameNu n f m g)) ∧ Below w.heap.size w w' := by
  by_cases hnm : n = m
  · subst hnm
    have hq : ((n : Int) != (n : Int)) = false := bne_self_eq_false _
    go_enter Try.func43, Try.ntmps43
    go_wp2
    go_loopg [13] n (fun q i wr => ∃ k : Nat, k ≤ n ∧ q = n - k ∧ i = .int .i64 k ∧ Below w.heap.size w wr ∧ Hid (∀ i, i < k → f i = g i))
    case atStart => exact ⟨0, Nat.zero_le _, rfl, rfl, Below.refl _ _, fun j hj => absurd hj (Nat.not_lt_zero _)⟩
    case round =>
      obtain ⟨k, hk, rfl, rfl, hB, HA⟩ := hrel
      by_cases hlt : k < n
      · have hkz : (k : Int) < (n : Int) := by omega
        obtain ⟨b1, o1, rfl, hb1, x0⟩ := nuv_at (h1.below hB) hlt
        obtain ⟨b2, o2, rfl, hb2, y0⟩ := nuv_at (h2.below hB) hlt
        have HB : Hid (Below w.heap.size w wr) := hB
        clear h1 h2 hB hq
        by_cases hfg : f k = g k
        · have HN : Hid (∀ i, i < k + 1 → f i = g i) := by
            intro i hi
            by_cases e : i < k
            · exact HA.out i e
            · obtain rfl : i = k := by omega
              exact hfg
          rw [← hfg] at y0
          clear HA hfg
          obtain ⟨p0, hp0⟩ : ∃ x, Hid (f k = x) := ⟨_, rfl⟩
          rw [hp0.out] at x0 y0
          have e0 : (p0 != p0) = false := bne_self_eq_false _
          go_wp2
          go_region
          all_goals go_wp2
          all_goals
            go_roundg (n - (k + 1))
            case measure => omega
            case rel => exact ⟨k + 1, by omega, rfl, by go_num, by first | exact HB.out.drew | exact HB.out, HN⟩
        · have HF : Hid (sameNu n f n g = false) := sameNu_at hlt hfg
          have e0 : (f k != g k) = true := by simp [bne, hfg]
          obtain ⟨p0, hp0⟩ : ∃ x, Hid (f k = x) := ⟨_, rfl⟩
          obtain ⟨p1, hp1⟩ : ∃ x, Hid (g k = x) := ⟨_, rfl⟩
          rw [hp0.out] at x0 e0
          rw [hp1.out] at y0 e0
          clear HA hfg
          go_wp2
          go_region
          all_goals go_wp2
          all_goals
            go_ret
            exact ⟨by rw [HF.out]; rfl, by first | exact HB.out.drew | exact HB.out⟩
      · have hkz : ¬ (k : Int) < (n : Int) := by omega
        obtain rfl : k = n := by omega
        have HF : Hid (sameNu k f k g = true) := sameNu_yes HA.out
        clear h1 h2
        go_wp2
        go_ret
        exact ⟨by rw [HF.out]; rfl, hB⟩
  · have hq : ((n : Int) != (m : Int)) = true := by simp; omega
    have HF : Hid (sameNu n f m g = false) := sameNu_len hnm
    clear h1 h2 hnm
    go_enter Try.func43, Try.ntmps43
    go_wp2
    go_ret
    exact ⟨by rw [HF.out]; rfl, Below.refl _ _⟩

set_option maxHeartbeats 4000000 in
theorem implSameNd_any (u v : Value) (D E : PNode) (w : World) (h1 : NdView w u D) (h2 : NdView w v E) (hf : NFine D) :
    Calls Try.prog 16 #[u, v] w fun e w' => e = .returned (.bool (sameNd D E)) ∧ Below w.heap.size w w' := by
  obtain ⟨ac, cc, ap, cp, ai, ci, rfl, hc1, hp1, hi1⟩ := h1.is
  obtain ⟨bc, dc, bp, dp, bi, di, rfl, hc2, hp2, hi2⟩ := h2.is
  clear h1 h2
  have hB0 : Below (w.heap.size + 1 + 1) ((w.alloc (.cells #[.bool D.leaf, .slice ac D.nk cc, .slice ap D.nv cp, .slice ai D.nd ci] 27)).alloc (.cells #[.bool E.leaf, .slice bc E.nk dc, .slice bp E.nv dp, .slice bi E.nd di] 27)) ((w.alloc (.cells #[.bool D.leaf, .slice ac D.nk cc, .slice ap D.nv cp, .slice ai D.nd ci] 27)).alloc (.cells #[.bool E.leaf, .slice bc E.nk dc, .slice bp E.nv dp, .slice bi E.nd di] 27)) := Below.refl _ _
  obtain ⟨hBw0, -⟩ := nbox44_below hB0
  have HO : Hid (sameNd D E = (D.leaf == E.leaf && sameTx D.nk D.key E.nk E.key && sameTx D.nv D.val E.nv E.val && sameNu D.nd D.kid E.nd E.kid)) := rfl
  obtain ⟨S, hS⟩ : ∃ x, Hid (sameNd D E = x) := ⟨_, rfl⟩
  rw [hS.out] at HO ⊢
  cases q0 : (D.leaf == E.leaf) with
  | false =>
    have HF : Hid (S = false) := by show _ = _; rw [HO.out, q0]; rfl
    clear hc1 hc2 hp1 hp2 hi1 hi2 HO hS
    go_enter Try.func16, Try.ntmps16
    go_wp2
    go_ret
    exact ⟨by rw [HF.out]; rfl, hBw0⟩
  | true =>
  have hV1 := equalTx_any ac bc D.nk cc E.nk dc D.key E.key _ (hc1.below hBw0) (hc2.below hBw0) hf.nk
  go_enter Try.func16, Try.ntmps16
  go_wp2_with fail
  refine hV1.mono ?_
  clear hV1 hc1 hc2
  cases q1 : sameTx D.nk D.key E.nk E.key with
  | false =>
    rintro e w1 ⟨rfl, hb1⟩
    have HF : Hid (S = false) := by show _ = _; rw [HO.out, q1]; simp
    have HB : Hid (Below w.heap.size w w1) := (nbox44_below (nbox44_on hB0 hb1)).1
    clear hp1 hp2 hi1 hi2 HO hS hb1 q0
    go_wp2
    go_ret
    exact ⟨by rw [HF.out]; rfl, HB.out⟩
  | true =>
  rintro e w1 ⟨rfl, hb1⟩
  have hB1 := nbox44_on hB0 hb1
  obtain ⟨hBw1, hs1⟩ := nbox44_below hB1
  obtain ⟨⟨x0, x1, x2, x3⟩, y0, y1, y2, y3⟩ := nbox44 hB1
  have hV2 := equalTx_any ap bp D.nv cp E.nv dp D.val E.val w1 (hp1.below hBw1) (hp2.below hBw1) hf.nv
  clear hb1 hB0 hBw0
  go_wp2_with fail
  refine hV2.mono ?_
  clear hV2 hp1 hp2
  cases q2 : sameTx D.nv D.val E.nv E.val with
  | false =>
    rintro e w2 ⟨rfl, hb2⟩
    have HF : Hid (S = false) := by show _ = _; rw [HO.out, q2]; simp
    have HB : Hid (Below w.heap.size w w2) := (nbox44_below (nbox44_on hB1 hb2)).1
    clear hi1 hi2 HO hS hb2 q0 q1 x0 x1 x2 x3 y0 y1 y2 y3
    go_wp2
    go_ret
    exact ⟨by rw [HF.out]; rfl, HB.out⟩
  | true =>
  rintro e w2 ⟨rfl, hb2⟩
  have hB2 := nbox44_on hB1 hb2
  obtain ⟨hBw2, hs2⟩ := nbox44_below hB2
  clear x0 x1 x2 x3 y0 y1 y2 y3
  obtain ⟨⟨x0, x1, x2, x3⟩, y0, y1, y2, y3⟩ := nbox44 hB2
  have hV3 := equalNu_any ai bi D.nd ci E.nd di D.kid E.kid w2 (hi1.below hBw2) (hi2.below hBw2) hf.nd
  clear hb2 hB1 hBw1 hs1
  go_wp2_with fail
  refine hV3.mono ?_
  rintro e w3 ⟨rfl, hb3⟩
  have HF : Hid (S = sameNu D.nd D.kid E.nd E.kid) := by show _ = _; rw [HO.out, q0, q1, q2]; simp
  have HB : Hid (Below w.heap.size w w3) := (nbox44_below (nbox44_on hB2 hb3)).1
  clear hi1 hi2 HO hS hb3 q0 q1 q2 x0 x1 x2 x3 y0 y1 y2 y3 hV3
  obtain ⟨R, hR⟩ : ∃ x, Hid (sameNu D.nd D.kid E.nd E.kid = x) := ⟨_, rfl⟩
  rw [hR.out] at HF ⊢
  go_wp2
  go_ret
  exact ⟨by rw [HF.out]; first | rfl | simp, HB.out⟩
end Go.Proofs.Ytofghefenfdlpaa

/-
  Whether a code is too long.
-/
namespace Go.Proofs.Ytofghefenfdlpaa
open Go.RowKit
set_option maxRecDepth 4000

theorem big_any (ao : Option Addr) (n cap : Nat) (w : World) (_hn : n ≤ 9223372036854775807) :
    Calls Try.prog 5 #[.slice ao n cap] w fun e w' => e = .returned (.bool (decide ((1048576 : Int) < (n : Int)))) ∧ w = w' := by
  go_enter Try.func5, Try.ntmps5
  go_wp2
  go_ret
  exact ⟨rfl, rfl⟩

end Go.Proofs.Ytofghefenfdlpaa

