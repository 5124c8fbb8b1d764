/-
  The program's GetSum and the model's: both answer what stands ahead of the last four bytes, and true, just where these are its sum; else nothing and false.
-/
import Derived.Test.YtjkoipdcpkkkeanSumImpl
import Derived.Test.YtjkoipdcpkkkeanConv
namespace Go.Proofs.Ytjkoipdcpkkkean
open Go.RowKit

/-- The last four bytes as a number. -/
def last4 (m : Nat) (f : Nat → Int) : Int := ((f m * 256 + f (m + 1)) * 256 + f (m + 2)) * 256 + f (m + 3)

theorem lof_succ (m : Nat) (f : Nat → Int) : lof (m + 1) f = lof m f ++ [f m] := by simp [lof, List.range_succ]
theorem lof_four (m : Nat) (f : Nat → Int) : lof (m + 4) f = lof m f ++ [f m, f (m + 1), f (m + 2), f (m + 3)] := by
  rw [lof_succ (m + 3), lof_succ (m + 2), lof_succ (m + 1), lof_succ m]
  simp
theorem lof_byte {n : Nat} {f : Nat → Int} (h : ∀ i, i < n → 0 ≤ f i ∧ f i ≤ 255) : ∀ y ∈ lof n f, 0 ≤ y ∧ y ≤ 255 := by
  intro y hy
  simp only [lof, List.mem_map, List.mem_range] at hy
  obtain ⟨i, hi, rfl⟩ := hy
  exact h i hi

theorem sum_iff {m c : Nat} {f : Nat → Int} (hf : ∀ i, i < m + 4 → 0 ≤ f i ∧ f i ≤ 255) (hc : c < 4294967296) : lof m f ++ sumL c = lof (m + 4) f ↔ last4 m f = (c : Int) := by
  have h0 := hf m (by omega)
  have h1 := hf (m + 1) (by omega)
  have h2 := hf (m + 2) (by omega)
  have h3 := hf (m + 3) (by omega)
  rw [lof_four, List.append_right_inj]
  unfold sumL last4
  simp only [List.cons.injEq, and_true]
  constructor
  · rintro ⟨a, b, c, d⟩; omega
  · intro h; refine ⟨?_, ?_, ?_, ?_⟩ <;> omega

/-- What n bytes come to: how many are handed back, and whether they are right. -/
def sumGood (n : Nat) (f : Nat → Int) : Bool := decide (4 ≤ n ∧ last4 (n - 4) f = (crc (n - 4) f : Int))

def Gives (fn : Nat) (n : Nat) (f : Nat → Int) (N : Nat) (B : Bool) : Prop :=
  ∀ (b cap : Nat) (w : World), View w (some ⟨b, 0, none⟩) n cap f → Calls Try.prog fn #[.slice (some ⟨b, 0, none⟩) n cap] w fun e w' =>
    ∃ g c, e = .returned (.tuple #[.slice (some ⟨g, 0, none⟩) N c, .bool B]) ∧ w.heap.size ≤ g ∧ N ≤ c ∧ Row 5 w' g N f ∧ Below w.heap.size w w'

theorem noRow (w : World) (t : TypeId) (f : Nat → Int) : Row t (w.alloc (.cells #[] t)) w.heap.size 0 f := ⟨#[], Deep.blk_alloc_new _ _, Nat.le_refl _, fun _ hi => absurd hi (Nat.not_lt_zero _)⟩
theorem noView (w : World) (f : Nat → Int) : View w none 0 0 f := ⟨Nat.le_refl _, fun _ hi => absurd hi (Nat.not_lt_zero _), fun h => absurd h (Nat.lt_irrefl _)⟩

set_option maxHeartbeats 1000000 in
theorem getSum_impl_few (n : Nat) (f : Nat → Int) (hn : n < 4) : Gives 21 n f 0 false := by
  intro b cap w hv
  have hz : (n : Int) - 4 < 0 := by omega
  go_enter Try.func21, Try.ntmps21
  go_wp2
  go_ret2
  exact ⟨_, _, rfl, Nat.le_refl _, Nat.le_refl _, noRow _ _ _, (Below.refl _ _).alloc (Nat.le_refl _) _⟩

set_option maxHeartbeats 1000000 in
theorem getSum_impl_yes (m : Nat) (f : Nat → Int) (hn : m + 4 ≤ 1048576) (hf : ∀ i, i < m + 4 → 0 ≤ f i ∧ f i ≤ 255) (hs : last4 m f = (crc m f : Int)) : Gives 21 (m + 4) f m true := by
  intro b cap w hv
  have hz : (0 : Int) ≤ (m : Int) := by omega
  have hcl : (m : Int) ≤ (cap : Int) := by have := hv.le; omega
  have HQ : Hid (((strOfNums (lof (m + 4) (fun i => (lof m f ++ sumL (crc m f)).getD i 0))).toList == (strOfNums (lof (m + 4) f)).toList) = true) := by
    show _ = true
    have e : lof (m + 4) (fun i => (lof m f ++ sumL (crc m f)).getD i 0) = lof m f ++ sumL (crc m f) := by
      have := lof_self (lof m f ++ sumL (crc m f))
      rw [List.length_append, lof_len, sumL_len] at this
      exact this
    rw [e, (sum_iff hf (crc_lt (fun i hi => hf i (by omega)))).2 hs]
    simp
  have HP : Hid (∀ i, i < m + 4 → 0 ≤ (lof m f ++ sumL (crc m f)).getD i 0 ∧ (lof m f ++ sumL (crc m f)).getD i 0 ≤ 255) := put_byte m f _ (fun i hi => hf i (by omega)) (sumL_byte _)
  clear hs hf
  go_enter Try.func21, Try.ntmps21
  go_wp2_with fail
  refine (putSum_impl b 0 m cap f w (hv.take (by omega)) (by omega)).mono ?_
  rintro e w1 ⟨g, c, rfl, hg, hgc, hr, hb1⟩
  go_wp2_with fail
  refine (equal_any g 0 (m + 4) c _ b 0 (m + 4) cap f w1 (hr.view hgc HP.out) (hv.below hb1)).mono ?_
  rintro e _ ⟨he, rfl⟩
  rw [HQ.out] at he
  subst he
  clear hr HP HQ
  go_wp2_with fail
  refine (putBytes_any b 0 m cap f none 0 0 (fun _ => 0) w1 ((hv.below hb1).take (by omega)) (noView _ _) (fun _ => ⟨rfl, rfl⟩) (by omega)).mono ?_
  rintro e w2 ⟨rfl, hown, hb2⟩
  rw [show lof 0 (fun _ => 0) = [] from rfl, List.append_nil, Nat.add_zero] at hown
  have hrow : Row 5 w2 w1.heap.size m f := (row_of_owned hown).congr (fun i hi => lof_get m f i hi)
  go_wp2
  go_ret2
  exact ⟨_, _, rfl, hb1.size, Nat.le_refl _, hrow, hb1.trans (hb2.mono hb1.size)⟩

set_option maxHeartbeats 1000000 in
theorem getSum_impl_no (m : Nat) (f : Nat → Int) (hn : m + 4 ≤ 1048576) (hf : ∀ i, i < m + 4 → 0 ≤ f i ∧ f i ≤ 255) (hs : last4 m f ≠ (crc m f : Int)) : Gives 21 (m + 4) f 0 false := by
  intro b cap w hv
  have hz : (0 : Int) ≤ (m : Int) := by omega
  have hcl : (m : Int) ≤ (cap : Int) := by have := hv.le; omega
  have HQ : Hid (((strOfNums (lof (m + 4) (fun i => (lof m f ++ sumL (crc m f)).getD i 0))).toList == (strOfNums (lof (m + 4) f)).toList) = false) := by
    show _ = false
    have e : lof (m + 4) (fun i => (lof m f ++ sumL (crc m f)).getD i 0) = lof m f ++ sumL (crc m f) := by
      have := lof_self (lof m f ++ sumL (crc m f))
      rw [List.length_append, lof_len, sumL_len] at this
      exact this
    rw [e, beq_eq_false_iff_ne]
    intro h
    refine hs ((sum_iff hf (crc_lt (fun i hi => hf i (by omega)))).1 (strOfNums_inj ?_ (lof_byte hf) ?_))
    · intro y hy
      rcases List.mem_append.1 hy with hy | hy
      · exact lof_byte (fun i hi => hf i (by omega)) y hy
      · exact sumL_byte _ y hy
    · rw [ByteArray.toList_eq, ByteArray.toList_eq] at h; exact ByteArray.ext (Array.ext' h)
  have HP : Hid (∀ i, i < m + 4 → 0 ≤ (lof m f ++ sumL (crc m f)).getD i 0 ∧ (lof m f ++ sumL (crc m f)).getD i 0 ≤ 255) := put_byte m f _ (fun i hi => hf i (by omega)) (sumL_byte _)
  clear hs hf
  go_enter Try.func21, Try.ntmps21
  go_wp2_with fail
  refine (putSum_impl b 0 m cap f w (hv.take (by omega)) (by omega)).mono ?_
  rintro e w1 ⟨g, c, rfl, hg, hgc, hr, hb1⟩
  go_wp2_with fail
  refine (equal_any g 0 (m + 4) c _ b 0 (m + 4) cap f w1 (hr.view hgc HP.out) (hv.below hb1)).mono ?_
  rintro e _ ⟨he, rfl⟩
  rw [HQ.out] at he
  subst he
  clear hr HP HQ
  go_wp2
  go_ret2
  exact ⟨_, _, rfl, hb1.size, Nat.le_refl _, noRow _ _ _, hb1.alloc hb1.size _⟩
end Go.Proofs.Ytjkoipdcpkkkean
