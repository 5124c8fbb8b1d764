/-
  Together: GetSum, SumsPlain, OkFKinds, RowBack, ValInner, ValOfWalk, ValOkImpl, PartImpl, PlanImpl, IterKit, ByPart, IterBox, FitsImpl, FitsOk, RowOkImpl, MarkText
-/
import Derived.Test.YtikopeihkbpjhasPack3
import Derived.Test.YtikopeihkbpjhasPack2
import Derived.Test.YtikopeihkbpjhasPack1
import Derived.Deep.RegionWith
import Derived.BigQuiet
import Derived.Deep.LoopGhost
import Derived.Deep.RegionHeld3
import Derived.RangeFuncNested
import Derived.RangeFuncBound
import Derived.RangeFuncCalls
import Derived.RangeFuncLeaves
import Derived.OwnWalkIn
import Derived.TacticsInMore
import Derived.LoopNIn
import Derived.LoopIn
import Derived.Shelf.RegionOpen
/-
  The program's GetSum and the model's: both answer what stands ahead of the last four bytes, and true, just where these are its sum; else nothing and false.
-/
namespace Go.Proofs.Ytikopeihkbpjhas
open Go.RowKit
set_option maxRecDepth 4000

/-- The last four bytes as a number. -/
def last4 (m : Nat) (f : Nat → Int) : Int := ((f m * 256 + f (m + 1)) * 256 + f (m + 2)) * 256 + f (m + 3)

theorem lof_succ (m : Nat) (f : Nat → Int) : lof (m + 1) f = lof m f ++ [f m] := by simp [lof, List.range_succ]
theorem lof_four (m : Nat) (f : Nat → Int) : lof (m + 4) f = lof m f ++ [f m, f (m + 1), f (m + 2), f (m + 3)] := by
  rw [lof_succ (m + 3), lof_succ (m + 2), lof_succ (m + 1), lof_succ m]
  simp
theorem lof_byteS {n : Nat} {f : Nat → Int} (h : ∀ i, i < n → 0 ≤ f i ∧ f i ≤ 255) : ∀ y ∈ lof n f, 0 ≤ y ∧ y ≤ 255 := by
  intro y hy
  simp only [lof, List.mem_map, List.mem_range] at hy
  obtain ⟨i, hi, rfl⟩ := hy
  exact h i hi

theorem sum_iff {m c : Nat} {f : Nat → Int} (hf : ∀ i, i < m + 4 → 0 ≤ f i ∧ f i ≤ 255) (hc : c < 4294967296) : lof m f ++ sumL c = lof (m + 4) f ↔ last4 m f = (c : Int) := by
  have h0 := hf m (by omega)
  have h1 := hf (m + 1) (by omega)
  have h2 := hf (m + 2) (by omega)
  have h3 := hf (m + 3) (by omega)
  rw [lof_four, List.append_right_inj]
  unfold sumL last4
  simp only [List.cons.injEq, and_true]
  constructor
  · rintro ⟨a, b, c, d⟩; omega
  · intro h; refine ⟨?_, ?_, ?_, ?_⟩ <;> omega

/-- What n bytes come to: how many are handed back, and whether they are right. -/
def sumGood (n : Nat) (f : Nat → Int) : Bool := decide (4 ≤ n ∧ last4 (n - 4) f = (crc (n - 4) f : Int))

def Gives (fn : Nat) (n : Nat) (f : Nat → Int) (N : Nat) (B : Bool) : Prop :=
  ∀ (b cap : Nat) (w : World), View w (some ⟨b, 0, none⟩) n cap f → Calls Try.prog fn #[.slice (some ⟨b, 0, none⟩) n cap] w fun e w' =>
    ∃ g c, e = .returned (.tuple #[.slice (some ⟨g, 0, none⟩) N c, .bool B]) ∧ w.heap.size ≤ g ∧ N ≤ c ∧ Row 5 w' g N f ∧ Below w.heap.size w w'

theorem noRow (w : World) (t : TypeId) (f : Nat → Int) : Row t (w.alloc (.cells #[] t)) w.heap.size 0 f := ⟨#[], Deep.blk_alloc_new _ _, Nat.le_refl _, fun _ hi => absurd hi (Nat.not_lt_zero _)⟩
theorem noView (w : World) (f : Nat → Int) : View w none 0 0 f := ⟨Nat.le_refl _, fun _ hi => absurd hi (Nat.not_lt_zero _), fun h => absurd h (Nat.lt_irrefl _)⟩

set_option maxHeartbeats 1000000 in
theorem getSum_impl_few (n : Nat) (f : Nat → Int) (hn : n < 4) : Gives 45 n f 0 false := by
  intro b cap w hv
  have hz : (n : Int) - 4 < 0 := by omega
  go_enter Try.func45, Try.ntmps45
  go_wp2
  go_ret2
  exact ⟨_, _, rfl, Nat.le_refl _, Nat.le_refl _, noRow _ _ _, (Below.refl _ _).alloc (Nat.le_refl _) _⟩

set_option maxHeartbeats 1000000 in
theorem getSum_impl_yes (m : Nat) (f : Nat → Int) (hn : m + 4 ≤ 1048576) (hf : ∀ i, i < m + 4 → 0 ≤ f i ∧ f i ≤ 255) (hs : last4 m f = (crc m f : Int)) : Gives 45 (m + 4) f m true := by
  intro b cap w hv
  have hz : (0 : Int) ≤ (m : Int) := by omega
  have hcl : (m : Int) ≤ (cap : Int) := by have := hv.le; omega
  have HQ : Hid (((strOfNums (lof (m + 4) (fun i => (lof m f ++ sumL (crc m f)).getD i 0))).toList == (strOfNums (lof (m + 4) f)).toList) = true) := by
    show _ = true
    have e : lof (m + 4) (fun i => (lof m f ++ sumL (crc m f)).getD i 0) = lof m f ++ sumL (crc m f) := by
      have := lof_self (lof m f ++ sumL (crc m f))
      rw [List.length_append, lof_len, sumL_len] at this
      exact this
    rw [e, (sum_iff hf (crc_lt (fun i hi => hf i (by omega)))).2 hs]
    simp
  have HP : Hid (∀ i, i < m + 4 → 0 ≤ (lof m f ++ sumL (crc m f)).getD i 0 ∧ (lof m f ++ sumL (crc m f)).getD i 0 ≤ 255) := put_byte m f _ (fun i hi => hf i (by omega)) (sumL_byte _)
  clear hs hf
  go_enter Try.func45, Try.ntmps45
  go_wp2_with fail
  refine (putSum_impl b 0 m cap f w (hv.take (by omega)) (by omega)).mono ?_
  rintro e w1 ⟨g, c, rfl, hg, hgc, hr, hb1⟩
  go_wp2_with fail
  refine (equal_any g 0 (m + 4) c _ b 0 (m + 4) cap f w1 (hr.view hgc HP.out) (hv.below hb1)).mono ?_
  rintro e _ ⟨he, rfl⟩
  rw [HQ.out] at he
  subst he
  clear hr HP HQ
  go_wp2_with fail
  refine (putBytes_any b 0 m cap f none 0 0 (fun _ => 0) w1 ((hv.below hb1).take (by omega)) (noView _ _) (fun _ => ⟨rfl, rfl⟩) (by omega)).mono ?_
  rintro e w2 ⟨rfl, hown, hb2⟩
  rw [show lof 0 (fun _ => 0) = [] from rfl, List.append_nil, Nat.add_zero] at hown
  have hrow : Row 5 w2 w1.heap.size m f := (row_of_owned hown).congr (fun i hi => lof_get m f i hi)
  go_wp2
  go_ret2
  exact ⟨_, _, rfl, hb1.size, Nat.le_refl _, hrow, hb1.trans (hb2.mono hb1.size)⟩

set_option maxHeartbeats 1000000 in
theorem getSum_impl_no (m : Nat) (f : Nat → Int) (hn : m + 4 ≤ 1048576) (hf : ∀ i, i < m + 4 → 0 ≤ f i ∧ f i ≤ 255) (hs : last4 m f ≠ (crc m f : Int)) : Gives 45 (m + 4) f 0 false := by
  intro b cap w hv
  have hz : (0 : Int) ≤ (m : Int) := by omega
  have hcl : (m : Int) ≤ (cap : Int) := by have := hv.le; omega
  have HQ : Hid (((strOfNums (lof (m + 4) (fun i => (lof m f ++ sumL (crc m f)).getD i 0))).toList == (strOfNums (lof (m + 4) f)).toList) = false) := by
    show _ = false
    have e : lof (m + 4) (fun i => (lof m f ++ sumL (crc m f)).getD i 0) = lof m f ++ sumL (crc m f) := by
      have := lof_self (lof m f ++ sumL (crc m f))
      rw [List.length_append, lof_len, sumL_len] at this
      exact this
    rw [e, beq_eq_false_iff_ne]
    intro h
    refine hs ((sum_iff hf (crc_lt (fun i hi => hf i (by omega)))).1 (strOfNums_inj ?_ (lof_byteS hf) ?_))
    · intro y hy
      rcases List.mem_append.1 hy with hy | hy
      · exact lof_byteS (fun i hi => hf i (by omega)) y hy
      · exact sumL_byte _ y hy
    · rw [ByteArray.toList_eq, ByteArray.toList_eq] at h; exact ByteArray.ext (Array.ext' h)
  have HP : Hid (∀ i, i < m + 4 → 0 ≤ (lof m f ++ sumL (crc m f)).getD i 0 ∧ (lof m f ++ sumL (crc m f)).getD i 0 ≤ 255) := put_byte m f _ (fun i hi => hf i (by omega)) (sumL_byte _)
  clear hs hf
  go_enter Try.func45, Try.ntmps45
  go_wp2_with fail
  refine (putSum_impl b 0 m cap f w (hv.take (by omega)) (by omega)).mono ?_
  rintro e w1 ⟨g, c, rfl, hg, hgc, hr, hb1⟩
  go_wp2_with fail
  refine (equal_any g 0 (m + 4) c _ b 0 (m + 4) cap f w1 (hr.view hgc HP.out) (hv.below hb1)).mono ?_
  rintro e _ ⟨he, rfl⟩
  rw [HQ.out] at he
  subst he
  clear hr HP HQ
  go_wp2
  go_ret2
  exact ⟨_, _, rfl, hb1.size, Nat.le_refl _, noRow _ _ _, hb1.alloc hb1.size _⟩
end Go.Proofs.Ytikopeihkbpjhas

/-
  Bytes behind which their sum stands, plainly: they are right; with one byte turned they are not.
-/
namespace Go.Proofs.Ytikopeihkbpjhas
open Go.RowKit
set_option maxRecDepth 4000

theorem sum_turned {m j : Nat} {F : Nat → Int} {v : Int} (hF : ∀ i, i < m + 4 → 0 ≤ F i ∧ F i ≤ 255) (hg : last4 m F = (crc m F : Int)) (hj : j < m + 4) (hv : 0 ≤ v ∧ v ≤ 255) (hne : v ≠ F j) :
    last4 m (fun i => if i = j then v else F i) ≠ (crc m (fun i => if i = j then v else F i) : Int) := by
  by_cases h : j < m
  · have hc : crc m (fun i => if i = j then v else F i) ≠ crc m F := by
      refine crc_parts (j := j) (fun i hi => ?_) (fun i hi => hF i (by omega)) h ?_ (fun i hi hij => ?_)
      · by_cases e : i = j
        · simp only [e, if_true]; exact hv
        · simp only [e, if_false]; exact hF i (by omega)
      · simp only [if_true]; exact hne
      · simp only [hij, if_false]
    have hl : last4 m (fun i => if i = j then v else F i) = last4 m F := by
      unfold last4
      dsimp only
      rw [if_neg (by omega), if_neg (by omega), if_neg (by omega), if_neg (by omega)]
    rw [hl, hg]
    intro e
    exact hc (by omega)
  · have hc : crc m (fun i => if i = j then v else F i) = crc m F := crc_congr (fun i hi => by rw [if_neg (by omega)])
    rw [hc, ← hg]
    have h0 := hF m (by omega)
    have h1 := hF (m + 1) (by omega)
    have h2 := hF (m + 2) (by omega)
    have h3 := hF (m + 3) (by omega)
    unfold last4
    dsimp only
    rcases (show j = m ∨ j = m + 1 ∨ j = m + 2 ∨ j = m + 3 by omega) with rfl | rfl | rfl | rfl
    · rw [if_pos rfl, if_neg (by omega), if_neg (by omega), if_neg (by omega)]; omega
    · rw [if_neg (by omega), if_pos rfl, if_neg (by omega), if_neg (by omega)]; omega
    · rw [if_neg (by omega), if_neg (by omega), if_pos rfl, if_neg (by omega)]; omega
    · rw [if_neg (by omega), if_neg (by omega), if_neg (by omega), if_pos rfl]; omega

/-- What PutSum lays is right. -/
theorem sum_put (m : Nat) (f : Nat → Int) (hf : ∀ i, i < m → 0 ≤ f i ∧ f i ≤ 255) : last4 m (fun i => (lof m f ++ sumL (crc m f)).getD i 0) = (crc m (fun i => (lof m f ++ sumL (crc m f)).getD i 0) : Int) := by
  have hl : ∀ i, i < m → (lof m f ++ sumL (crc m f)).getD i 0 = f i := by
    intro i hi
    rw [← lof_get m f i hi, List.getD_eq_getElem?_getD, List.getD_eq_getElem?_getD, List.getElem?_append_left (by rw [lof_len]; exact hi)]
  have hr : ∀ i, (lof m f ++ sumL (crc m f)).getD (m + i) 0 = (sumL (crc m f)).getD i 0 := by
    intro i
    rw [List.getD_eq_getElem?_getD, List.getD_eq_getElem?_getD, List.getElem?_append_right (by rw [lof_len]; omega), lof_len]
    congr 2
    omega
  have hc : crc m (fun i => (lof m f ++ sumL (crc m f)).getD i 0) = crc m f := crc_congr hl
  rw [hc]
  have hlt := crc_lt hf
  have r0 := hr 0
  have r1 := hr 1
  have r2 := hr 2
  have r3 := hr 3
  unfold last4
  dsimp only
  rw [Nat.add_zero] at r0
  rw [r0, r1, r2, r3]
  generalize crc m f = c at hlt
  show ((((c : Int) / 16777216 % 256) * 256 + (c : Int) / 65536 % 256) * 256 + (c : Int) / 256 % 256) * 256 + (c : Int) % 256 = (c : Int)
  omega

/-- A byte with one bit turned is another byte. -/
theorem bit_turned (x : Int) (k : Nat) (h : 0 ≤ x ∧ x ≤ 255) (hk : k < 8) : (0 ≤ bits .xor .u8 x (2 ^ k) ∧ bits .xor .u8 x (2 ^ k) ≤ 255) ∧ bits .xor .u8 x (2 ^ k) ≠ x := by
  obtain ⟨n, rfl⟩ := Int.eq_ofNat_of_zero_le h.1
  have hn : n < 256 := by omega
  have hp : 2 ^ k < 256 := Nat.lt_of_lt_of_le (Nat.pow_lt_pow_right (by decide) hk) (by decide)
  have e : bits .xor .u8 (n : Int) (2 ^ k) = ((n ^^^ 2 ^ k : Nat) : Int) := by
    have := u8_xor_nat n (2 ^ k) hn hp
    rw [← this]
    simp
  rw [e]
  have hlt : n ^^^ 2 ^ k < 256 := Nat.xor_lt_two_pow (n := 8) hn hp
  refine ⟨by omega, fun h => ?_⟩
  have h' : n ^^^ 2 ^ k = n := by omega
  have h2 := congrArg (fun z => z.testBit k) h'
  simp only [Nat.testBit_xor, Nat.testBit_two_pow_self, Bool.xor_true] at h2
  cases hb : n.testBit k <;> simp [hb] at h2

theorem small_pow (x : Nat) : (2 : Int) ^ min (x % 8) 8 % 256 = 2 ^ (x % 8) := by
  have hk : x % 8 < 8 := Nat.mod_lt _ (by decide)
  rw [Nat.min_eq_left (by omega)]
  rcases (show x % 8 = 0 ∨ x % 8 = 1 ∨ x % 8 = 2 ∨ x % 8 = 3 ∨ x % 8 = 4 ∨ x % 8 = 5 ∨ x % 8 = 6 ∨ x % 8 = 7 by omega) with h | h | h | h | h | h | h | h <;> rw [h] <;> rfl
end Go.Proofs.Ytikopeihkbpjhas

/-
  Right values, kind by kind.
-/
namespace Go.Proofs.Ytikopeihkbpjhas
open Go.RowKit
set_option maxRecDepth 4000

theorem okF_kinds {k n : Int} {s : ByteArray} (h : okF k n s = true) : (k = 0 ∧ n = 0 ∧ s = noBytes) ∨ (k = 1 ∧ (-2147483648 ≤ n ∧ n ≤ 2147483647) ∧ s = noBytes) ∨ (k = 2 ∧ (-1000000000000000 ≤ n ∧ n ≤ 1000000000000000) ∧ s = noBytes) ∨ (k = 3 ∧ n = 0 ∧ s.size ≤ 30) ∨ (k = 4 ∧ (0 ≤ n ∧ n ≤ 1) ∧ s = noBytes) := by
  by_cases h0 : k = 0
  · subst h0; rw [okF_spec0] at h; simp at h; exact .inl ⟨rfl, h⟩
  by_cases h1 : k = 1
  · subst h1; rw [okF_spec1] at h; simp at h; exact .inr (.inl ⟨rfl, h⟩)
  by_cases h2 : k = 2
  · subst h2; rw [okF_spec2] at h; simp at h; exact .inr (.inr (.inl ⟨rfl, h⟩))
  by_cases h3 : k = 3
  · subst h3; rw [okF_spec3] at h; simp at h; exact .inr (.inr (.inr (.inl ⟨rfl, h.2, h.1⟩)))
  by_cases h4 : k = 4
  · subst h4; rw [okF_spec4] at h; simp at h; exact .inr (.inr (.inr (.inr ⟨rfl, h⟩)))
  · rw [okF_specX n s h0 h1 h2 h3 h4] at h; cases h
end Go.Proofs.Ytikopeihkbpjhas

/-
  Rows come back of their bytes, plainly; what is read has these bytes; with one byte turned it is no row.
-/
namespace Go.Proofs.Ytikopeihkbpjhas
open Go.RowKit
set_option maxRecDepth 4000

theorem rowOk_iff {n : Nat} {fc ft : Nat → Int} {fu : Nat → Bool} {m : Nat} {fk fn : Nat → Int} {fs : Nat → ByteArray} : rowOk n fc ft fu m fk fn fs = true ↔ planOk n fc ft = true ∧ m = n ∧ fitsAll n m ft fu fk fn fs = true := by
  unfold rowOk; simp
theorem rowOk_congr {n : Nat} {fc ft : Nat → Int} {fu : Nat → Bool} {m : Nat} {fk fn : Nat → Int} {fs : Nat → ByteArray} {gk gn : Nat → Int} {gs : Nat → ByteArray} (h : ∀ i, i < m → fk i = gk i ∧ fn i = gn i ∧ fs i = gs i) : rowOk n fc ft fu m fk fn fs = rowOk n fc ft fu m gk gn gs := by
  rw [Bool.eq_iff_iff, rowOk_iff, rowOk_iff, fitsAll_iff, fitsAll_iff]
  constructor
  · rintro ⟨h1, h2, h3, h4⟩
    exact ⟨h1, h2, h3, fun i hi => by obtain ⟨e1, e2, e3⟩ := h i hi; rw [← e1, ← e2, ← e3]; exact h4 i hi⟩
  · rintro ⟨h1, h2, h3, h4⟩
    exact ⟨h1, h2, h3, fun i hi => by obtain ⟨e1, e2, e3⟩ := h i hi; rw [e1, e2, e3]; exact h4 i hi⟩
theorem sumB_len (R : List Int) : (sumB R).length = R.length + 4 := by unfold sumB; rw [List.length_append]; rfl
theorem sumB_byte {R : List Int} (h : ∀ y ∈ R, 0 ≤ y ∧ y ≤ 255) : ∀ y ∈ sumB R, 0 ≤ y ∧ y ≤ 255 := fun y hy => by
  unfold sumB at hy
  rcases List.mem_append.1 hy with hy | hy
  · exact h y hy
  · exact sumL_byte _ y hy
theorem sumB_good {R : List Int} (h : ∀ y ∈ R, 0 ≤ y ∧ y ≤ 255) : sumGood (sumB R).length (fun i => (sumB R).getD i 0) = true := by
  have e := sum_put R.length (fun i => R.getD i 0) (bytes_of_list h)
  rw [lof_self] at e
  unfold sumGood
  rw [sumB_len, show R.length + 4 - 4 = R.length by omega]
  apply decide_eq_true
  exact ⟨by omega, e⟩
theorem sumB_at (R : List Int) : AtF R.length (fun i => (sumB R).getD i 0) 0 R := ⟨by omega, fun j hj => by
  rw [Nat.zero_add]
  unfold sumB
  exact getD_left _ _ _ hj⟩

/-- The values of a row of which the bytes stand in F are read. -/
theorem rQ_at {M m : Nat} {F : Nat → Int} {fk fn : Nat → Int} {fs : Nat → ByteArray} (hm : m ≤ 6) (hok : ∀ i, i < m → okF (fk i) (fn i) (fs i) = true) (h : AtF M F 0 (rowB m fk fn fs)) :
    getU M F 0 = ((m : Int), ((groups (m : Int)).length : Int), true) ∧ ∀ k, k ≤ m → rQ M F k = some (((groups (m : Int)).length + (keyT (fun i => valB (fk i) (fn i) (fs i)) k).length : Nat) : Int) ∧ ∀ i, i < k → rG M F i = ⟨fk i, fn i, fs i, (((groups (m : Int)).length + (keyT (fun i => valB (fk i) (fn i) (fs i)) (i + 1)).length : Nat) : Int), true⟩ := by
  have hc : clampN (m : Int) = m := clampN_id (by omega) (by omega)
  unfold rowB at h
  rw [hc] at h
  have hu := getU_at (N := M) (F := F) (i := 0) (x := m) (by omega) (by omega) h.left
  have hr := h.right
  rw [Nat.zero_add] at hr
  have hu' : getU M F 0 = ((m : Int), ((groups (m : Int)).length : Int), true) := by
    have : ((0 : Nat) : Int) = (0 : Int) := rfl
    rw [this] at hu
    rw [hu]; simp
  refine ⟨hu', fun k => ?_⟩
  induction k with
  | zero => intro _; exact ⟨by rw [rQ, hu']; simp [keyT], fun i hi => absurd hi (Nat.not_lt_zero _)⟩
  | succ k ih =>
    intro hk
    obtain ⟨h1, h2⟩ := ih (by omega)
    have hsplit := keyT_split (fun i => valB (fk i) (fn i) (fs i)) k (m - k)
    rw [show k + (m - k) = m by omega] at hsplit
    rw [hsplit] at hr
    have hr2 := hr.right
    rw [show m - k = 1 + (m - k - 1) by omega, keyT_split] at hr2
    have hr3 := hr2.left
    have e1 : keyT (fun i => valB (fk (k + i)) (fn (k + i)) (fs (k + i))) 1 = valB (fk k) (fn k) (fs k) := by simp [keyT]
    rw [e1] at hr3
    have hg := getR_at (okF_kinds (hok k (by omega))) hr3
    have e2 : (((groups (m : Int)).length + (keyT (fun i => valB (fk i) (fn i) (fs i)) k).length : Nat) : Int) + ((valB (fk k) (fn k) (fs k)).length : Int) = (((groups (m : Int)).length + (keyT (fun i => valB (fk i) (fn i) (fs i)) (k + 1)).length : Nat) : Int) := by
      rw [keyT, List.length_append]; push_cast; omega
    rw [e2] at hg
    refine ⟨?_, fun i hi => ?_⟩
    · rw [rQ, h1]
      show (if (getR M F _).ok = true then _ else _) = _
      rw [hg]; rfl
    · by_cases e : i < k
      · exact h2 i e
      · obtain rfl : i = k := by omega
        unfold rG
        rw [h1]
        exact hg

/-- Rows come back. -/
theorem row_back {n : Nat} {fc ft : Nat → Int} {fu : Nat → Bool} {m : Nat} {fk fn : Nat → Int} {fs : Nat → ByteArray} (h : rowOk n fc ft fu m fk fn fs = true) (L : List Int) (hL : L = encB n fc ft fu m fk fn fs) :
    4 < L.length ∧ sumGood L.length (fun i => L.getD i 0) = true ∧ rowRd (L.length - 4) (fun i => L.getD i 0) n fc ft fu = true ∧ rCnt (L.length - 4) (fun i => L.getD i 0) = m ∧ ∀ i, i < m → rK (L.length - 4) (fun i => L.getD i 0) i = fk i ∧ rN (L.length - 4) (fun i => L.getD i 0) i = fn i ∧ rS (L.length - 4) (fun i => L.getD i 0) i = fs i := by
  have hL2 : L = sumB (rowB m fk fn fs) := by rw [hL]; unfold encB; rw [h]; rfl
  obtain ⟨hpk, hmn, hfa⟩ := rowOk_iff.1 h
  have hm6 : m ≤ 6 := by have := (planOk_iff.1 hpk).2; omega
  have hok : ∀ i, i < m → okF (fk i) (fn i) (fs i) = true := fun i hi => by have := (fitsAll_iff.1 hfa).2 i hi; unfold fitsP at this; simp only [Bool.and_eq_true] at this; exact this.1
  have hR := rowB_byte m fk fn fs
  have hgood := sumB_good hR
  have hat := sumB_at (rowB m fk fn fs)
  have hlen : L.length - 4 = (rowB m fk fn fs).length := by rw [hL2, sumB_len]; omega
  have hpos : 0 < (rowB m fk fn fs).length := by unfold rowB; rw [List.length_append]; have := (groups_len (clampN (m : Int))).1; omega
  rw [← hL2] at hgood hat
  rw [← hlen] at hat
  obtain ⟨hu, hq⟩ := rQ_at hm6 hok hat
  obtain ⟨hq1, hq2⟩ := hq m (Nat.le_refl _)
  have hcnt : rCnt (L.length - 4) (fun i => L.getD i 0) = m := by unfold rCnt; rw [hu]; simp
  have hvals : ∀ i, i < m → rK (L.length - 4) (fun i => L.getD i 0) i = fk i ∧ rN (L.length - 4) (fun i => L.getD i 0) i = fn i ∧ rS (L.length - 4) (fun i => L.getD i 0) i = fs i := fun i hi => by
    unfold rK rN rS; rw [hq2 i hi]; exact ⟨rfl, rfl, rfl⟩
  refine ⟨by rw [hL2, sumB_len]; omega, hgood, ?_, hcnt, hvals⟩
  unfold rowRd
  rw [hu, hcnt, hq1, rowOk_congr hvals, h]
  have e : (((groups (m : Int)).length + (keyT (fun i => valB (fk i) (fn i) (fs i)) m).length : Nat) : Int) = ((L.length - 4 : Nat) : Int) := by
    rw [hlen]; unfold rowB; rw [List.length_append, clampN_id (x := (m : Int)) (by omega) (by omega)]
  rw [e]
  simp; omega
/-- What is read of the first bytes. -/
theorem rQ_read {M : Nat} {F : Nat → Int} (hb : ∀ i, i < M → 0 ≤ F i ∧ F i ≤ 255) (h0 : (getU M F 0).2.2 = true) : ∀ {k : Nat} {p : Int}, rQ M F k = some p → AtF M F 0 (groups (getU M F 0).1 ++ keyT (fun i => valB (rK M F i) (rN M F i) (rS M F i)) k) ∧ p = ((groups (getU M F 0).1 ++ keyT (fun i => valB (rK M F i) (rN M F i) (rS M F i)) k).length : Int)
  | 0, p, h => by
    obtain ⟨a, q, ok, hu⟩ : ∃ a q ok, getU M F 0 = (a, q, ok) := ⟨_, _, _, rfl⟩
    rw [rQ] at h
    rw [hu] at h h0 ⊢
    simp only at h h0 ⊢
    subst h0
    obtain ⟨i, e, hA, hq, -, -⟩ := getU_read hb hu
    have ei : i = 0 := by omega
    subst ei
    have e2 := Option.some.inj h
    simp only [keyT, List.append_nil]
    exact ⟨hA, by omega⟩
  | k + 1, p, h => by
    obtain ⟨p', h1, h2, h3⟩ := rQ_succ h
    obtain ⟨hA, hp⟩ := rQ_read hb h0 h1
    have eg : rG M F k = getR M F p' := by unfold rG; rw [h1]; rfl
    obtain ⟨kk, y, s, q, ok, hg⟩ : ∃ kk y s q ok, getR M F p' = ⟨kk, y, s, q, ok⟩ := ⟨_, _, _, _, _, rfl⟩
    have ek : rK M F k = kk ∧ rN M F k = y ∧ rS M F k = s := by unfold rK rN rS; rw [eg, hg]; exact ⟨rfl, rfl, rfl⟩
    rw [hg] at h2 h3
    simp only at h2 h3
    subst h2 h3
    obtain ⟨i, ei, hV, hq, -, -⟩ := getR_read hb hg
    have ei2 : i = (groups (getU M F 0).1 ++ keyT (fun i => valB (rK M F i) (rN M F i) (rS M F i)) k).length := by omega
    rw [keyT, ← List.append_assoc, ek.1, ek.2.1, ek.2.2]
    refine ⟨hA.append ?_, ?_⟩
    · rw [Nat.zero_add, ← ei2]; exact hV
    · rw [List.length_append, ← ei2, hq]; push_cast; rfl
/-- What is read has these bytes. -/
theorem row_read {N : Nat} {F : Nat → Int} {n : Nat} {fc ft : Nat → Int} {fu : Nat → Bool} (hb : ∀ i, i < N → 0 ≤ F i ∧ F i ≤ 255) (hg : sumGood N F = true) (h : rowRd (N - 4) F n fc ft fu = true) :
    rowOk n fc ft fu (rCnt (N - 4) F) (rK (N - 4) F) (rN (N - 4) F) (rS (N - 4) F) = true ∧ encB n fc ft fu (rCnt (N - 4) F) (rK (N - 4) F) (rN (N - 4) F) (rS (N - 4) F) = lof N F := by
  unfold sumGood at hg
  simp only [decide_eq_true_eq] at hg
  obtain ⟨M, rfl⟩ : ∃ M, N = M + 4 := ⟨N - 4, by omega⟩
  rw [show M + 4 - 4 = M by omega] at *
  unfold rowRd at h
  simp only [Bool.and_eq_true, decide_eq_true_eq] at h
  obtain ⟨h0, ⟨h7, hq⟩, hr⟩ := h
  refine ⟨hr, ?_⟩
  unfold encB
  rw [hr]
  obtain ⟨hA, hp⟩ := rQ_read (fun i hi => hb i (by omega)) h0 hq
  have ec : clampN (rCnt M F : Int) = (getU M F 0).1 := by
    obtain ⟨a, q, ok, hu⟩ : ∃ a q ok, getU M F 0 = (a, q, ok) := ⟨_, _, _, rfl⟩
    unfold rCnt
    rw [hu] at h0 ⊢
    simp only at h0 ⊢
    subst h0
    have := getU_bd (fun i hi => hb i (by omega)) hu
    rw [Int.toNat_of_nonneg this.1]
    exact clampN_id this.1 this.2.1
  have eR : rowB (rCnt M F) (rK M F) (rN M F) (rS M F) = lof M F := by
    have e := hA.lof
    unfold rowB
    rw [ec]
    rw [← e]
    have el : (groups (getU M F 0).1 ++ keyT (fun i => valB (rK M F i) (rN M F i) (rS M F i)) (rCnt M F)).length = M := by omega
    rw [el]
    congr 1
    funext j
    rw [Nat.zero_add]
  show sumB _ = _
  rw [eR]
  unfold sumB
  have e3 : crc (lof M F).length (fun i => (lof M F).getD i 0) = crc M F := by
    rw [lof_len]
    exact crc_congr (fun i hi => lof_get M F i hi)
  rw [e3]
  exact (sum_iff hb (crc_lt (fun i hi => hb i (by omega)))).2 hg.2
end Go.Proofs.Ytikopeihkbpjhas

/-
  The program's values within: what each function answers of each kind.
-/
namespace Go.Proofs.Ytikopeihkbpjhas
open Go.RowKit
set_option maxRecDepth 4000

/-- A value within, as the machine holds it. -/
def V.enc : V → Value
  | .null => .iface 100 (.agg #[])
  | .int n => .iface 101 (.int .i64 n)
  | .num n => .iface 102 (.int .i64 n)
  | .text s => .iface 103 (.string s)
  | .bool b => .iface 104 (.bool b)

theorem as_null_null (W : World) : (Instr.typeAssert (.iface 100 (.agg #[])) 93 100 true).run Try.prog W = .ok (.tuple #[.agg #[], .bool true]) W := by kernel_rfl
theorem as_null_int (W : World) : (Instr.typeAssert (.iface 100 (.agg #[])) 93 101 true).run Try.prog W = .ok (.tuple #[.int .i64 0, .bool false]) W := by kernel_rfl
theorem as_null_num (W : World) : (Instr.typeAssert (.iface 100 (.agg #[])) 93 102 true).run Try.prog W = .ok (.tuple #[.int .i64 0, .bool false]) W := by kernel_rfl
theorem as_null_text (W : World) : (Instr.typeAssert (.iface 100 (.agg #[])) 93 103 true).run Try.prog W = .ok (.tuple #[.string ⟨#[]⟩, .bool false]) W := by kernel_rfl
theorem as_null_bool (W : World) : (Instr.typeAssert (.iface 100 (.agg #[])) 93 104 true).run Try.prog W = .ok (.tuple #[.bool false, .bool false]) W := by kernel_rfl
theorem as_int_null (n : Int) (W : World) : (Instr.typeAssert (.iface 101 (.int .i64 n)) 93 100 true).run Try.prog W = .ok (.tuple #[.agg #[], .bool false]) W := by kernel_rfl
theorem as_int_int (n : Int) (W : World) : (Instr.typeAssert (.iface 101 (.int .i64 n)) 93 101 true).run Try.prog W = .ok (.tuple #[.int .i64 n, .bool true]) W := by kernel_rfl
theorem as_int_num (n : Int) (W : World) : (Instr.typeAssert (.iface 101 (.int .i64 n)) 93 102 true).run Try.prog W = .ok (.tuple #[.int .i64 0, .bool false]) W := by kernel_rfl
theorem as_int_text (n : Int) (W : World) : (Instr.typeAssert (.iface 101 (.int .i64 n)) 93 103 true).run Try.prog W = .ok (.tuple #[.string ⟨#[]⟩, .bool false]) W := by kernel_rfl
theorem as_int_bool (n : Int) (W : World) : (Instr.typeAssert (.iface 101 (.int .i64 n)) 93 104 true).run Try.prog W = .ok (.tuple #[.bool false, .bool false]) W := by kernel_rfl
theorem as_num_null (n : Int) (W : World) : (Instr.typeAssert (.iface 102 (.int .i64 n)) 93 100 true).run Try.prog W = .ok (.tuple #[.agg #[], .bool false]) W := by kernel_rfl
theorem as_num_int (n : Int) (W : World) : (Instr.typeAssert (.iface 102 (.int .i64 n)) 93 101 true).run Try.prog W = .ok (.tuple #[.int .i64 0, .bool false]) W := by kernel_rfl
theorem as_num_num (n : Int) (W : World) : (Instr.typeAssert (.iface 102 (.int .i64 n)) 93 102 true).run Try.prog W = .ok (.tuple #[.int .i64 n, .bool true]) W := by kernel_rfl
theorem as_num_text (n : Int) (W : World) : (Instr.typeAssert (.iface 102 (.int .i64 n)) 93 103 true).run Try.prog W = .ok (.tuple #[.string ⟨#[]⟩, .bool false]) W := by kernel_rfl
theorem as_num_bool (n : Int) (W : World) : (Instr.typeAssert (.iface 102 (.int .i64 n)) 93 104 true).run Try.prog W = .ok (.tuple #[.bool false, .bool false]) W := by kernel_rfl
theorem as_text_null (s : ByteArray) (W : World) : (Instr.typeAssert (.iface 103 (.string s)) 93 100 true).run Try.prog W = .ok (.tuple #[.agg #[], .bool false]) W := by kernel_rfl
theorem as_text_int (s : ByteArray) (W : World) : (Instr.typeAssert (.iface 103 (.string s)) 93 101 true).run Try.prog W = .ok (.tuple #[.int .i64 0, .bool false]) W := by kernel_rfl
theorem as_text_num (s : ByteArray) (W : World) : (Instr.typeAssert (.iface 103 (.string s)) 93 102 true).run Try.prog W = .ok (.tuple #[.int .i64 0, .bool false]) W := by kernel_rfl
theorem as_text_text (s : ByteArray) (W : World) : (Instr.typeAssert (.iface 103 (.string s)) 93 103 true).run Try.prog W = .ok (.tuple #[.string s, .bool true]) W := by kernel_rfl
theorem as_text_bool (s : ByteArray) (W : World) : (Instr.typeAssert (.iface 103 (.string s)) 93 104 true).run Try.prog W = .ok (.tuple #[.bool false, .bool false]) W := by kernel_rfl
theorem as_bool_null (b : Bool) (W : World) : (Instr.typeAssert (.iface 104 (.bool b)) 93 100 true).run Try.prog W = .ok (.tuple #[.agg #[], .bool false]) W := by kernel_rfl
theorem as_bool_int (b : Bool) (W : World) : (Instr.typeAssert (.iface 104 (.bool b)) 93 101 true).run Try.prog W = .ok (.tuple #[.int .i64 0, .bool false]) W := by kernel_rfl
theorem as_bool_num (b : Bool) (W : World) : (Instr.typeAssert (.iface 104 (.bool b)) 93 102 true).run Try.prog W = .ok (.tuple #[.int .i64 0, .bool false]) W := by kernel_rfl
theorem as_bool_text (b : Bool) (W : World) : (Instr.typeAssert (.iface 104 (.bool b)) 93 103 true).run Try.prog W = .ok (.tuple #[.string ⟨#[]⟩, .bool false]) W := by kernel_rfl
theorem as_bool_bool (b : Bool) (W : World) : (Instr.typeAssert (.iface 104 (.bool b)) 93 104 true).run Try.prog W = .ok (.tuple #[.bool b, .bool true]) W := by kernel_rfl

set_option maxHeartbeats 1000000 in
theorem inRange_any (v : V) (w : World) :
    Calls Try.prog 82 #[v.enc] w fun e w' => e = .returned (.bool v.rng) ∧ w' = w := by
  cases v with
  | null =>
    have q_int := as_null_int
    have q_num := as_null_num
    have q_text := as_null_text
    unfold V.enc
    go_enter Try.func82, Try.ntmps82
    go_wp2
    all_goals go_ret
    all_goals (refine ⟨?_, rfl⟩; first | rfl | (simp_all [V.rng] <;> omega))
  | int n =>
    have q_int := as_int_int n
    unfold V.enc
    go_enter Try.func82, Try.ntmps82
    go_wp2
    all_goals go_ret
    all_goals (refine ⟨?_, rfl⟩; first | rfl | (simp_all [V.rng] <;> omega))
  | num n =>
    have q_int := as_num_int n
    have q_num := as_num_num n
    unfold V.enc
    go_enter Try.func82, Try.ntmps82
    go_wp2
    all_goals go_ret
    all_goals (refine ⟨?_, rfl⟩; first | rfl | (simp_all [V.rng] <;> omega))
  | text s =>
    have q_int := as_text_int s
    have q_num := as_text_num s
    have q_text := as_text_text s
    unfold V.enc
    go_enter Try.func82, Try.ntmps82
    go_wp2
    all_goals go_ret
    all_goals (refine ⟨?_, rfl⟩; first | rfl | (simp_all [V.rng] <;> omega))
  | bool b =>
    have q_int := as_bool_int b
    have q_num := as_bool_num b
    have q_text := as_bool_text b
    unfold V.enc
    go_enter Try.func82, Try.ntmps82
    go_wp2
    all_goals go_ret
    all_goals (refine ⟨?_, rfl⟩; first | rfl | (simp_all [V.rng] <;> omega))

set_option maxHeartbeats 1000000 in
theorem valOf_any (v : V) (w : World) :
    Calls Try.prog 83 #[v.enc] w fun e w' => e = .returned (valAgg v.k v.n v.s) ∧ Below w.heap.size w w' := by
  cases v with
  | null =>
    have q_int := as_null_int
    have q_num := as_null_num
    have q_text := as_null_text
    have q_bool := as_null_bool
    have hm : ∀ W : World, (method 223 100 (.agg #[]) "loop.example/g00322/impl.kind").run Try.prog W = .ok (99, .agg #[]) W := fun _ => by kernel_rfl
    have hn : ∀ W : World, (nilAhead 223 100 (.agg #[]) "loop.example/g00322/impl.kind").run Try.prog W = .ok (some false) W := fun _ => by kernel_rfl
    unfold V.enc
    go_enter Try.func83, Try.ntmps83
    go_wp2
    all_goals refine bodyPost_ret (v := valAgg _ _ _) (by simp [results, Try.results83, go_sem, valAgg]; try exact ⟨rfl, rfl, rfl⟩) rfl ⟨rfl, ?_⟩
    all_goals repeat (first | exact Below.refl _ _ | refine Below.alloc ?_ (by simp <;> omega) _ | refine Below.drew ?_)
  | int n =>
    have q_int := as_int_int n
    have hm : ∀ W : World, (method 223 101 (.int .i64 n) "loop.example/g00322/impl.kind").run Try.prog W = .ok (100, .int .i64 n) W := fun _ => by kernel_rfl
    have hn : ∀ W : World, (nilAhead 223 101 (.int .i64 n) "loop.example/g00322/impl.kind").run Try.prog W = .ok (some false) W := fun _ => by kernel_rfl
    unfold V.enc
    go_enter Try.func83, Try.ntmps83
    go_wp2
    all_goals refine bodyPost_ret (v := valAgg _ _ _) (by simp [results, Try.results83, go_sem, valAgg]; try exact ⟨rfl, rfl, rfl⟩) rfl ⟨rfl, ?_⟩
    all_goals repeat (first | exact Below.refl _ _ | refine Below.alloc ?_ (by simp <;> omega) _ | refine Below.drew ?_)
  | num n =>
    have q_int := as_num_int n
    have q_num := as_num_num n
    have hm : ∀ W : World, (method 223 102 (.int .i64 n) "loop.example/g00322/impl.kind").run Try.prog W = .ok (101, .int .i64 n) W := fun _ => by kernel_rfl
    have hn : ∀ W : World, (nilAhead 223 102 (.int .i64 n) "loop.example/g00322/impl.kind").run Try.prog W = .ok (some false) W := fun _ => by kernel_rfl
    unfold V.enc
    go_enter Try.func83, Try.ntmps83
    go_wp2
    all_goals refine bodyPost_ret (v := valAgg _ _ _) (by simp [results, Try.results83, go_sem, valAgg]; try exact ⟨rfl, rfl, rfl⟩) rfl ⟨rfl, ?_⟩
    all_goals repeat (first | exact Below.refl _ _ | refine Below.alloc ?_ (by simp <;> omega) _ | refine Below.drew ?_)
  | text s =>
    have q_int := as_text_int s
    have q_num := as_text_num s
    have q_text := as_text_text s
    have hm : ∀ W : World, (method 223 103 (.string s) "loop.example/g00322/impl.kind").run Try.prog W = .ok (102, .string s) W := fun _ => by kernel_rfl
    have hn : ∀ W : World, (nilAhead 223 103 (.string s) "loop.example/g00322/impl.kind").run Try.prog W = .ok (some false) W := fun _ => by kernel_rfl
    unfold V.enc
    go_enter Try.func83, Try.ntmps83
    go_wp2
    all_goals refine bodyPost_ret (v := valAgg _ _ _) (by simp [results, Try.results83, go_sem, valAgg]; try exact ⟨rfl, rfl, rfl⟩) rfl ⟨rfl, ?_⟩
    all_goals repeat (first | exact Below.refl _ _ | refine Below.alloc ?_ (by simp <;> omega) _ | refine Below.drew ?_)
  | bool b =>
    have q_int := as_bool_int b
    have q_num := as_bool_num b
    have q_text := as_bool_text b
    have q_bool := as_bool_bool b
    have hm : ∀ W : World, (method 223 104 (.bool b) "loop.example/g00322/impl.kind").run Try.prog W = .ok (103, .bool b) W := fun _ => by kernel_rfl
    have hn : ∀ W : World, (nilAhead 223 104 (.bool b) "loop.example/g00322/impl.kind").run Try.prog W = .ok (some false) W := fun _ => by kernel_rfl
    unfold V.enc
    go_enter Try.func83, Try.ntmps83
    cases b <;> go_wp2
    all_goals refine bodyPost_ret (v := valAgg _ _ _) (by simp [results, Try.results83, go_sem, valAgg]; try exact ⟨rfl, rfl, rfl⟩) rfl ⟨rfl, ?_⟩
    all_goals repeat (first | exact Below.refl _ _ | refine Below.alloc ?_ (by simp <;> omega) _ | refine Below.drew ?_)

end Go.Proofs.Ytikopeihkbpjhas

/-
  What the program holds of three fields: the value within, and whether it is sound.
-/
namespace Go.Proofs.Ytikopeihkbpjhas
open Go.RowKit
set_option maxRecDepth 4000

theorem okF_at {k n : Int} {s : ByteArray} {v : V} (h : ofFields k n s = some v) : okF k n s = (v.rng && eqV v.k v.n v.s k n s) := by
  unfold okF
  rw [h]
  rfl

theorem box_cells (w W' : World) (k n : Int) (s : ByteArray) (h : Below (w.heap.size + 1) (w.alloc (.cells #[.int .i64 k, .int .i64 n, .string s] 52)) W') : W'.cell? ⟨w.heap.size, 0, none⟩ = some (.int .i64 k) ∧ W'.cell? ⟨w.heap.size, 1, none⟩ = some (.int .i64 n) ∧ W'.cell? ⟨w.heap.size, 2, none⟩ = some (.string s) := by
  refine ⟨?_, ?_, ?_⟩
  all_goals (rw [h.cell (by simp)]; simp [go_sem])

set_option maxHeartbeats 2000000 in
theorem valueOf_bool_true (n : Int) (s : ByteArray) (hz : (n != 0) = true) (w : World) :
    Calls Try.prog 79 #[.agg #[.int .i64 4, .int .i64 n, .string s]] w fun e w' => e = .returned (.tuple #[V.enc (.bool true), .bool (eqV 4 1 ⟨#[]⟩ 4 n s)]) ∧ Below w.heap.size w w' := by
  have hO : ∀ W, Calls Try.prog 83 #[.iface 104 (.bool true)] W fun e w' => e = .returned (.agg #[.int .i64 4, .int .i64 1, .string ⟨#[]⟩]) ∧ Below W.heap.size W w' := fun W => valOf_any (.bool true) W
  have hbox := fun W' h => box_cells w W' 4 n s h
  have qe := eqVal_run 4 1 ⟨#[]⟩ 4 n s
  have hI : ∀ W, Calls Try.prog 82 #[.iface 104 (.bool true)] W fun e w' => e = .returned (.bool true) ∧ w' = W := fun W => inRange_any (.bool true) W
  go_enter Try.func79, Try.ntmps79
  go_wp2_with (fail)
  go_region_with (first | (go_at_call 82; refine (hI _).mono ?_; rintro e _ ⟨rfl, rfl⟩) | (go_at_call 83; refine (hO _).mono ?_; rintro e w2 ⟨rfl, hB⟩; obtain ⟨hb0, hb1, hb2⟩ := hbox _ (Below.trans (by repeat (first | exact Below.refl _ _ | refine Below.drew ?_)) (hB.mono (by simp)))))
  all_goals go_wp2
  all_goals go_ret2
  all_goals refine ⟨rfl, Below.trans (b := w.alloc _) ((Below.refl _ _).alloc (Nat.le_refl _) _) (Below.trans (by repeat (first | exact Below.refl _ _ | refine Below.drew ?_)) (hB.mono (by simp)))⟩

set_option maxHeartbeats 2000000 in
theorem valueOf_bool_false (s : ByteArray) (w : World) :
    Calls Try.prog 79 #[.agg #[.int .i64 4, .int .i64 0, .string s]] w fun e w' => e = .returned (.tuple #[V.enc (.bool false), .bool (eqV 4 0 ⟨#[]⟩ 4 0 s)]) ∧ Below w.heap.size w w' := by
  have hO : ∀ W, Calls Try.prog 83 #[.iface 104 (.bool false)] W fun e w' => e = .returned (.agg #[.int .i64 4, .int .i64 0, .string ⟨#[]⟩]) ∧ Below W.heap.size W w' := fun W => valOf_any (.bool false) W
  have hbox := fun W' h => box_cells w W' 4 0 s h
  have qe := eqVal_run 4 0 ⟨#[]⟩ 4 0 s
  have hI : ∀ W, Calls Try.prog 82 #[.iface 104 (.bool false)] W fun e w' => e = .returned (.bool true) ∧ w' = W := fun W => inRange_any (.bool false) W
  go_enter Try.func79, Try.ntmps79
  go_wp2_with (fail)
  go_region_with (first | (go_at_call 82; refine (hI _).mono ?_; rintro e _ ⟨rfl, rfl⟩) | (go_at_call 83; refine (hO _).mono ?_; rintro e w2 ⟨rfl, hB⟩; obtain ⟨hb0, hb1, hb2⟩ := hbox _ (Below.trans (by repeat (first | exact Below.refl _ _ | refine Below.drew ?_)) (hB.mono (by simp)))))
  all_goals go_wp2
  all_goals go_ret2
  all_goals refine ⟨rfl, Below.trans (b := w.alloc _) ((Below.refl _ _).alloc (Nat.le_refl _) _) (Below.trans (by repeat (first | exact Below.refl _ _ | refine Below.drew ?_)) (hB.mono (by simp)))⟩

set_option maxHeartbeats 2000000 in
theorem valueOf_null (n : Int) (s : ByteArray) (w : World) :
    Calls Try.prog 79 #[.agg #[.int .i64 0, .int .i64 n, .string s]] w fun e w' => e = .returned (.tuple #[V.enc .null, .bool (V.rng .null && eqV 0 0 ⟨#[]⟩ 0 n s)]) ∧ Below w.heap.size w w' := by
  have hO : ∀ W, Calls Try.prog 83 #[.iface 100 (.agg #[])] W fun e w' => e = .returned (.agg #[.int .i64 0, .int .i64 0, .string ⟨#[]⟩]) ∧ Below W.heap.size W w' := fun W => valOf_any .null W
  have hbox := fun W' h => box_cells w W' 0 n s h
  have qe := eqVal_run 0 0 ⟨#[]⟩ 0 n s
  have hI : ∀ W, Calls Try.prog 82 #[.iface 100 (.agg #[])] W fun e w' => e = .returned (.bool true) ∧ w' = W := fun W => by have := inRange_any .null W; exact this
  go_enter Try.func79, Try.ntmps79
  go_wp2_with (fail)
  go_region_with (first | (go_at_call 82; refine (hI _).mono ?_; rintro e _ ⟨rfl, rfl⟩) | (go_at_call 83; refine (hO _).mono ?_; rintro e w2 ⟨rfl, hB⟩; obtain ⟨hb0, hb1, hb2⟩ := hbox _ (Below.trans (by repeat (first | exact Below.refl _ _ | refine Below.drew ?_)) (hB.mono (by simp)))))
  all_goals go_wp2
  all_goals go_ret2
  all_goals refine ⟨rfl, Below.trans (b := w.alloc _) ((Below.refl _ _).alloc (Nat.le_refl _) _) (Below.trans (by repeat (first | exact Below.refl _ _ | refine Below.drew ?_)) (hB.mono (by simp)))⟩

set_option maxHeartbeats 2000000 in
theorem valueOf_int (n : Int) (s : ByteArray) (w : World) :
    Calls Try.prog 79 #[.agg #[.int .i64 1, .int .i64 n, .string s]] w fun e w' => e = .returned (.tuple #[V.enc (.int n), .bool (V.rng (.int n) && eqV 1 n ⟨#[]⟩ 1 n s)]) ∧ Below w.heap.size w w' := by
  have hO : ∀ W, Calls Try.prog 83 #[.iface 101 (.int .i64 n)] W fun e w' => e = .returned (.agg #[.int .i64 1, .int .i64 n, .string ⟨#[]⟩]) ∧ Below W.heap.size W w' := fun W => valOf_any (.int n) W
  have hbox := fun W' h => box_cells w W' 1 n s h
  have qe := eqVal_run 1 n ⟨#[]⟩ 1 n s
  cases hr : V.rng (.int n)
  case true =>
    have hI : ∀ W, Calls Try.prog 82 #[.iface 101 (.int .i64 n)] W fun e w' => e = .returned (.bool true) ∧ w' = W := fun W => by have := inRange_any (.int n) W; rw [hr] at this; exact this
    clear hr
    go_enter Try.func79, Try.ntmps79
    go_wp2_with (fail)
    go_region_with (first | (go_at_call 82; refine (hI _).mono ?_; rintro e _ ⟨rfl, rfl⟩) | (go_at_call 83; refine (hO _).mono ?_; rintro e w2 ⟨rfl, hB⟩; obtain ⟨hb0, hb1, hb2⟩ := hbox _ (Below.trans (by repeat (first | exact Below.refl _ _ | refine Below.drew ?_)) (hB.mono (by simp)))))
    all_goals go_wp2
    all_goals go_ret2
    all_goals refine ⟨rfl, Below.trans (b := w.alloc _) ((Below.refl _ _).alloc (Nat.le_refl _) _) (Below.trans (by repeat (first | exact Below.refl _ _ | refine Below.drew ?_)) (hB.mono (by simp)))⟩
  case false =>
    have hI : ∀ W, Calls Try.prog 82 #[.iface 101 (.int .i64 n)] W fun e w' => e = .returned (.bool false) ∧ w' = W := fun W => by have := inRange_any (.int n) W; rw [hr] at this; exact this
    clear hr
    go_enter Try.func79, Try.ntmps79
    go_wp2_with (fail)
    go_quiet (first | (go_at_call 82; exact Calls.quiet_of_same (hI _)))
    all_goals go_wp2
    all_goals go_ret2
    all_goals refine ⟨rfl, ?_⟩
    exact Below.trans ((Below.refl _ _).alloc (Nat.le_refl _) _) ⟨rfl, rfl, rfl, Nat.le_refl _, fun _ _ => rfl⟩

set_option maxHeartbeats 2000000 in
theorem valueOf_num (n : Int) (s : ByteArray) (w : World) :
    Calls Try.prog 79 #[.agg #[.int .i64 2, .int .i64 n, .string s]] w fun e w' => e = .returned (.tuple #[V.enc (.num n), .bool (V.rng (.num n) && eqV 2 n ⟨#[]⟩ 2 n s)]) ∧ Below w.heap.size w w' := by
  have hO : ∀ W, Calls Try.prog 83 #[.iface 102 (.int .i64 n)] W fun e w' => e = .returned (.agg #[.int .i64 2, .int .i64 n, .string ⟨#[]⟩]) ∧ Below W.heap.size W w' := fun W => valOf_any (.num n) W
  have hbox := fun W' h => box_cells w W' 2 n s h
  have qe := eqVal_run 2 n ⟨#[]⟩ 2 n s
  cases hr : V.rng (.num n)
  case true =>
    have hI : ∀ W, Calls Try.prog 82 #[.iface 102 (.int .i64 n)] W fun e w' => e = .returned (.bool true) ∧ w' = W := fun W => by have := inRange_any (.num n) W; rw [hr] at this; exact this
    clear hr
    go_enter Try.func79, Try.ntmps79
    go_wp2_with (fail)
    go_region_with (first | (go_at_call 82; refine (hI _).mono ?_; rintro e _ ⟨rfl, rfl⟩) | (go_at_call 83; refine (hO _).mono ?_; rintro e w2 ⟨rfl, hB⟩; obtain ⟨hb0, hb1, hb2⟩ := hbox _ (Below.trans (by repeat (first | exact Below.refl _ _ | refine Below.drew ?_)) (hB.mono (by simp)))))
    all_goals go_wp2
    all_goals go_ret2
    all_goals refine ⟨rfl, Below.trans (b := w.alloc _) ((Below.refl _ _).alloc (Nat.le_refl _) _) (Below.trans (by repeat (first | exact Below.refl _ _ | refine Below.drew ?_)) (hB.mono (by simp)))⟩
  case false =>
    have hI : ∀ W, Calls Try.prog 82 #[.iface 102 (.int .i64 n)] W fun e w' => e = .returned (.bool false) ∧ w' = W := fun W => by have := inRange_any (.num n) W; rw [hr] at this; exact this
    clear hr
    go_enter Try.func79, Try.ntmps79
    go_wp2_with (fail)
    go_quiet (first | (go_at_call 82; exact Calls.quiet_of_same (hI _)))
    all_goals go_wp2
    all_goals go_ret2
    all_goals refine ⟨rfl, ?_⟩
    exact Below.trans ((Below.refl _ _).alloc (Nat.le_refl _) _) ⟨rfl, rfl, rfl, Nat.le_refl _, fun _ _ => rfl⟩

set_option maxHeartbeats 2000000 in
theorem valueOf_text (n : Int) (s : ByteArray) (w : World) :
    Calls Try.prog 79 #[.agg #[.int .i64 3, .int .i64 n, .string s]] w fun e w' => e = .returned (.tuple #[V.enc (.text s), .bool (V.rng (.text s) && eqV 3 0 s 3 n s)]) ∧ Below w.heap.size w w' := by
  have hO : ∀ W, Calls Try.prog 83 #[.iface 103 (.string s)] W fun e w' => e = .returned (.agg #[.int .i64 3, .int .i64 0, .string s]) ∧ Below W.heap.size W w' := fun W => valOf_any (.text s) W
  have hbox := fun W' h => box_cells w W' 3 n s h
  have qe := eqVal_run 3 0 s 3 n s
  cases hr : V.rng (.text s)
  case true =>
    have hI : ∀ W, Calls Try.prog 82 #[.iface 103 (.string s)] W fun e w' => e = .returned (.bool true) ∧ w' = W := fun W => by have := inRange_any (.text s) W; rw [hr] at this; exact this
    clear hr
    go_enter Try.func79, Try.ntmps79
    go_wp2_with (fail)
    go_region_with (first | (go_at_call 82; refine (hI _).mono ?_; rintro e _ ⟨rfl, rfl⟩) | (go_at_call 83; refine (hO _).mono ?_; rintro e w2 ⟨rfl, hB⟩; obtain ⟨hb0, hb1, hb2⟩ := hbox _ (Below.trans (by repeat (first | exact Below.refl _ _ | refine Below.drew ?_)) (hB.mono (by simp)))))
    all_goals go_wp2
    all_goals go_ret2
    all_goals refine ⟨rfl, Below.trans (b := w.alloc _) ((Below.refl _ _).alloc (Nat.le_refl _) _) (Below.trans (by repeat (first | exact Below.refl _ _ | refine Below.drew ?_)) (hB.mono (by simp)))⟩
  case false =>
    have hI : ∀ W, Calls Try.prog 82 #[.iface 103 (.string s)] W fun e w' => e = .returned (.bool false) ∧ w' = W := fun W => by have := inRange_any (.text s) W; rw [hr] at this; exact this
    clear hr
    go_enter Try.func79, Try.ntmps79
    go_wp2_with (fail)
    go_quiet (first | (go_at_call 82; exact Calls.quiet_of_same (hI _)))
    all_goals go_wp2
    all_goals go_ret2
    all_goals refine ⟨rfl, ?_⟩
    exact Below.trans ((Below.refl _ _).alloc (Nat.le_refl _) _) ⟨rfl, rfl, rfl, Nat.le_refl _, fun _ _ => rfl⟩

def vOpt : Option V → Value
  | none => .nilIface
  | some v => v.enc

set_option maxHeartbeats 2000000 in
theorem valueOf_any (k n : Int) (s : ByteArray) (w : World) :
    Calls Try.prog 79 #[valAgg k n s] w fun e w' => e = .returned (.tuple #[vOpt (ofFields k n s), .bool (okF k n s)]) ∧ Below w.heap.size w w' := by
  unfold valAgg
  by_cases k0 : k = 0
  · subst k0
    have e : ofFields 0 n s = some .null := rfl
    rw [okF_at e, e]
    exact valueOf_null n s w
  by_cases k1 : k = 1
  · subst k1
    have e : ofFields 1 n s = some (.int n) := rfl
    rw [okF_at e, e]
    exact valueOf_int n s w
  by_cases k2 : k = 2
  · subst k2
    have e : ofFields 2 n s = some (.num n) := rfl
    rw [okF_at e, e]
    exact valueOf_num n s w
  by_cases k3 : k = 3
  · subst k3
    have e : ofFields 3 n s = some (.text s) := rfl
    rw [okF_at e, e]
    exact valueOf_text n s w
  by_cases k4 : k = 4
  · subst k4
    have e : ofFields 4 n s = some (.bool (n != 0)) := rfl
    rw [okF_at e, e]
    by_cases hz : n = 0
    · subst hz
      exact valueOf_bool_false s w
    · have hz : (n != 0) = true := by simpa using hz
      rw [hz]
      exact valueOf_bool_true n s hz w
  have e : ofFields k n s = none := by simp [ofFields, k0, k1, k2, k3, k4]
  have e2 : okF k n s = false := by unfold okF; rw [e]
  rw [e2, e]
  have q0 : (k == 0) = false := by simpa using k0
  have q1 : (k == 1) = false := by simpa using k1
  have q2 : (k == 2) = false := by simpa using k2
  have q3 : (k == 3) = false := by simpa using k3
  have q4 : (k == 4) = false := by simpa using k4
  clear e e2 k0 k1 k2 k3 k4
  go_enter Try.func79, Try.ntmps79
  go_wp2
  go_ret2
  refine ⟨rfl, ?_⟩
  repeat (first | exact Below.refl _ _ | refine Below.alloc ?_ (by simp <;> omega) _ | refine Below.drew ?_)
end Go.Proofs.Ytikopeihkbpjhas

/-
  The program's ValOk comes to the plain one.
-/
namespace Go.Proofs.Ytikopeihkbpjhas
open Go.RowKit
set_option maxRecDepth 4000

set_option maxHeartbeats 1000000 in
theorem valOk_any (k n : Int) (s : ByteArray) (w : World) :
    Calls Try.prog 71 #[.agg #[.int .i64 k, .int .i64 n, .string s]] w fun e w' => e = .returned (.bool (okF k n s)) ∧ Below w.heap.size w w' := by
  go_enter Try.func71, Try.ntmps71
  go_wp2_with fail
  refine (valueOf_any k n s _).mono ?_
  rintro e w1 ⟨rfl, hB⟩
  go_wp2
  go_ret
  exact ⟨rfl, ((Below.refl _ _).alloc (Nat.le_refl _) _).trans (hB.mono (by simp))⟩

end Go.Proofs.Ytikopeihkbpjhas

/-
  The program's PartOk and Fits. (Nothing fits a part of no type, even where it may not be nothing: as the program has it.)
-/
namespace Go.Proofs.Ytikopeihkbpjhas
open Go.RowKit
set_option maxRecDepth 4000

set_option maxHeartbeats 1000000 in
theorem implPartOk_any (c t : Int) (nul d : Bool) (w : World) :
    Calls Try.prog 51 #[.agg #[.int .i64 c, .int .i64 t, .bool nul, .bool d]] w fun e w' => e = .returned (.bool (partOk c t)) ∧ Below w.heap.size w w' := by
  have hb0 : ∀ o, Below w.heap.size w (w.alloc o) := fun o => (Below.refl _ _).alloc (Nat.le_refl _) _
  by_cases h1 : 0 ≤ c
  · by_cases h2 : c ≤ 9
    · by_cases h3 : 1 ≤ t
      · by_cases h4 : t ≤ 4
        · have e : partOk c t = true := by unfold partOk; simp [h1, h2, h3, h4]
          rw [e]
          go_enter Try.func51, Try.ntmps51
          go_wp2
          go_ret
          exact ⟨rfl, hb0 _⟩
        · have e : partOk c t = false := by unfold partOk; simp [h1, h2, h3, h4]
          rw [e]
          go_enter Try.func51, Try.ntmps51
          go_wp2
          go_ret
          exact ⟨rfl, hb0 _⟩
      · have e : partOk c t = false := by unfold partOk; simp [h1, h2, h3]
        rw [e]
        go_enter Try.func51, Try.ntmps51
        go_wp2
        go_ret
        exact ⟨rfl, hb0 _⟩
    · have e : partOk c t = false := by unfold partOk; simp [h1, h2]
      rw [e]
      go_enter Try.func51, Try.ntmps51
      go_wp2
      go_ret
      exact ⟨rfl, hb0 _⟩
  · have e : partOk c t = false := by unfold partOk; simp [h1]
    rw [e]
    go_enter Try.func51, Try.ntmps51
    go_wp2
    go_ret
    exact ⟨rfl, hb0 _⟩

/-- What fits, as the program has it. -/
def fitsI (t : Int) (nul : Bool) (k n : Int) (s : ByteArray) : Bool := okF k n s && (decide (k = t) || (decide (k = 0) && nul))
theorem fitsI_ok {t : Int} {nul : Bool} {k n : Int} {s : ByteArray} (ht : 1 ≤ t) : fitsI t nul k n s = fitsP t nul k n s := by
  unfold fitsI fitsP
  by_cases hk : k = t
  · simp [hk, show t ≠ 0 by omega]
  · simp [hk]

set_option maxHeartbeats 1000000 in
theorem implFits_any (c t : Int) (nul d : Bool) (k n : Int) (s : ByteArray) (w : World) :
    Calls Try.prog 53 #[.agg #[.int .i64 c, .int .i64 t, .bool nul, .bool d], .agg #[.int .i64 k, .int .i64 n, .string s]] w fun e w' => e = .returned (.bool (fitsI t nul k n s)) ∧ Below w.heap.size w w' := by
  have hP := (PBox.new w c t nul d).below ((Below.refl _ _).alloc (Nat.le_refl _) (.cells #[.int .i64 k, .int .i64 n, .string s] 52))
  have hV := Box.new (w.alloc (.cells #[.int .i64 c, .int .i64 t, .bool nul, .bool d] 49)) k n s
  rw [show (w.alloc (.cells #[.int .i64 c, .int .i64 t, .bool nul, .bool d] 49)).heap.size = w.heap.size + 1 by simp] at hV
  have hb0 : Below w.heap.size w ((w.alloc (.cells #[.int .i64 c, .int .i64 t, .bool nul, .bool d] 49)).alloc (.cells #[.int .i64 k, .int .i64 n, .string s] 52)) := ((Below.refl _ _).alloc (Nat.le_refl _) _).alloc (by simp) _
  cases ho : okF k n s with
  | false =>
    have hr : fitsI t nul k n s = false := by unfold fitsI; rw [ho]; rfl
    rw [hr]
    clear hr
    go_enter Try.func53, Try.ntmps53
    go_wp2_with fail
    refine (valOk_any k n s _).mono ?_
    rw [ho]
    rintro e w1 ⟨rfl, hb1⟩
    have hB : Below w.heap.size w w1 := hb0.trans (hb1.mono hb0.size)
    clear hP hV hb0 hb1 ho
    go_wp2
    go_ret
    exact ⟨rfl, hB⟩
  | true =>
    by_cases kt : k = t
    · subst kt
      have hr : fitsI k nul k n s = true := by unfold fitsI; rw [ho]; simp
      rw [hr]
      have q4 : (k == k) = true := by simp
      clear hr
      go_enter Try.func53, Try.ntmps53
      go_wp2_with fail
      refine (valOk_any k n s _).mono ?_
      rw [ho]
      rintro e w1 ⟨rfl, hb1⟩
      obtain ⟨p0, p1, p2, p3⟩ := (hP.below hb1).cells
      obtain ⟨v0, v1, v2⟩ := (hV.below hb1).cells
      have hB : Below w.heap.size w w1 := hb0.trans (hb1.mono hb0.size)
      clear hP hV hb0 hb1 ho
      go_wp2
      go_ret
      exact ⟨rfl, hB⟩
    · have q4 : (k == t) = false := by simpa using kt
      by_cases k0 : k = 0
      · have hr : fitsI t nul k n s = nul := by unfold fitsI; rw [ho]; simp [k0, show ¬ (0 : Int) = t by omega]
        rw [hr]
        have q2 : (k == 0) = true := by simpa using k0
        clear hr k0 kt
        go_enter Try.func53, Try.ntmps53
        go_wp2_with fail
        refine (valOk_any k n s _).mono ?_
        rw [ho]
        rintro e w1 ⟨rfl, hb1⟩
        obtain ⟨p0, p1, p2, p3⟩ := (hP.below hb1).cells
        obtain ⟨v0, v1, v2⟩ := (hV.below hb1).cells
        have hB : Below w.heap.size w w1 := hb0.trans (hb1.mono hb0.size)
        clear hP hV hb0 hb1 ho
        go_wp2
        go_ret
        exact ⟨rfl, hB⟩
      · have hr : fitsI t nul k n s = false := by unfold fitsI; rw [ho]; simp [kt, k0]
        rw [hr]
        have q2 : (k == 0) = false := by simpa using k0
        clear hr k0 kt
        go_enter Try.func53, Try.ntmps53
        go_wp2_with fail
        refine (valOk_any k n s _).mono ?_
        rw [ho]
        rintro e w1 ⟨rfl, hb1⟩
        obtain ⟨p0, p1, p2, p3⟩ := (hP.below hb1).cells
        obtain ⟨v0, v1, v2⟩ := (hV.below hb1).cells
        have hB : Below w.heap.size w w1 := hb0.trans (hb1.mono hb0.size)
        clear hP hV hb0 hb1 ho
        go_wp2
        go_ret
        exact ⟨rfl, hB⟩
end Go.Proofs.Ytikopeihkbpjhas

/-
  The program's PlanOk comes to the plain one.
-/
namespace Go.Proofs.Ytikopeihkbpjhas
open Go.RowKit
set_option maxRecDepth 4000

set_option maxHeartbeats 2000000 in
theorem implPlanOk_any (a : Option Addr) (n cap : Nat) (fc ft : Nat → Int) (fu fd : Nat → Bool) (w : World) (h : PView w a n cap fc ft fu fd) :
    Calls Try.prog 30 #[.slice a n cap] w fun e w' => e = .returned (.bool (planOk n fc ft)) ∧ Below w.heap.size w w' := by
  by_cases h6 : n ≤ 6
  · have h6z : ¬ (n : Int) > 6 := by omega
    have h6y : (n : Int) ≤ 6 := by omega
    go_enter Try.func30, Try.ntmps30
    go_wp2
    go_loopg [10] n (fun q i wr => ∃ k : Nat, k ≤ n ∧ q = n - k ∧ i = .int .i64 k ∧ Below w.heap.size w wr ∧ ∀ j, j < k → partOk (fc j) (ft j) = true)
    case atStart => exact ⟨0, Nat.zero_le _, rfl, rfl, Below.refl _ _, fun j hj => absurd hj (Nat.not_lt_zero _)⟩
    case round =>
      obtain ⟨k, hk, rfl, rfl, hB, hall⟩ := hrel
      have HA : Hid (∀ j, j < k → partOk (fc j) (ft j) = true) := hall
      clear hall
      by_cases hlt : k < n
      · obtain ⟨b1, o1, rfl, hb1, hd1⟩ := (h.below hB).cells (by omega)
        obtain ⟨x0, x1, x2, x3⟩ := hd1 k hlt
        have hkz : (k : Int) < (n : Int) := by omega
        clear hd1 h
        go_wp2_with fail
        clear x0 x1 x2 x3
        refine (implPartOk_any (fc k) (ft k) (fu k) (fd k) _).mono ?_
        cases ho : partOk (fc k) (ft k) with
        | true =>
          rintro e w2 ⟨rfl, hB2⟩
          have hB3 : Hid (Below w.heap.size w w2) := (hB.alloc hB.size _).trans (hB2.mono (by have := hB.size; simp; omega))
          clear hB2
          have HN : Hid (∀ j, j < k + 1 → partOk (fc j) (ft j) = true) := by
            intro j hj
            by_cases e : j < k
            · exact HA.out j e
            · obtain rfl : j = k := by omega
              exact ho
          clear ho HA
          go_wp2
          go_roundg (n - (k + 1))
          case measure => omega
          case rel => exact ⟨k + 1, by omega, rfl, by go_num, hB3.out, HN.out⟩
        | false =>
          rintro e w2 ⟨rfl, hB2⟩
          have hB3 : Hid (Below w.heap.size w w2) := (hB.alloc hB.size _).trans (hB2.mono (by have := hB.size; simp; omega))
          have HF : Hid (planOk n fc ft = false) := by show _ = _; unfold planOk; rw [allUpto_no hlt ho]; rfl
          clear hB2 ho HA
          go_wp2
          go_ret
          exact ⟨by rw [HF.out]; rfl, hB3.out⟩
      · have hkz : ¬ (k : Int) < (n : Int) := by omega
        have HF : Hid (planOk n fc ft = true) := planOk_iff.2 ⟨fun i hi => HA.out i (by omega), h6⟩
        clear HA
        go_wp2
        go_ret
        exact ⟨by rw [HF.out]; rfl, hB⟩
  · have h6z : (n : Int) > 6 := by omega
    have HF : Hid (planOk n fc ft = false) := by show _ = _; unfold planOk; simp [h6]
    go_enter Try.func30, Try.ntmps30
    go_wp2
    go_ret
    exact ⟨by rw [HF.out]; rfl, Below.refl _ _⟩
end Go.Proofs.Ytikopeihkbpjhas

/-
  What a round of a loop over an iterator keeps: all that lay at the start of the call, and the two boxes that the iterator holds.
-/
namespace Go.Proofs.Ytikopeihkbpjhas
open Go.RowKit
set_option maxRecDepth 4000

/-- What a round that goes on keeps. -/
structure KpB (n₀ Bl Bv : Nat) (W W' : World) : Prop where
  below : Below n₀ W W'
  bl : W'.heap[Bl]? = W.heap[Bl]?
  bv : W'.heap[Bv]? = W.heap[Bv]?
theorem KpB.refl (n₀ Bl Bv : Nat) (W : World) : KpB n₀ Bl Bv W W := ⟨Below.refl _ _, rfl, rfl⟩
theorem KpB.trans {n₀ Bl Bv : Nat} {A B C : World} (h : KpB n₀ Bl Bv A B) (k : KpB n₀ Bl Bv B C) : KpB n₀ Bl Bv A C := ⟨h.below.trans k.below, k.bl.trans h.bl, k.bv.trans h.bv⟩
/-- Whatever leaves all that lay as it lay. -/
theorem KpB.ofBelow {n₀ Bl Bv : Nat} {W W' : World} (h : Below W.heap.size W W') (hn : n₀ ≤ W.heap.size) (hl : Bl < W.heap.size) (hv : Bv < W.heap.size) : KpB n₀ Bl Bv W W' := ⟨h.mono hn, h.block Bl hl, h.block Bv hv⟩
/-- A step that turns one block. -/
theorem KpB.ofGrown {n₀ Bl Bv : Nat} {W W' : World} {row : Option Nat} (hg : W.grownBy W' row) (hn : n₀ ≤ W.heap.size) (hl : Bl < W.heap.size) (hv : Bv < W.heap.size) (hr : ∀ k, row = some k → n₀ ≤ k ∧ k ≠ Bl ∧ k ≠ Bv) : KpB n₀ Bl Bv W W' :=
  ⟨⟨hg.os, hg.tape, hg.output, hg.size, fun k hk => hg.block k (by omega) (fun e => by have := (hr k e.symm).1; omega)⟩, hg.block Bl hl (fun e => (hr Bl e.symm).2.1 rfl), hg.block Bv hv (fun e => (hr Bv e.symm).2.2 rfl)⟩
theorem KpB.put {n₀ Bl Bv : Nat} {w : World} (hn : n₀ ≤ w.heap.size) (hl : Bl < w.heap.size) (hv : Bv < w.heap.size) (W : World) (l : Nat) (o o' : Obj) (hle : w.heap.size ≤ l) (h : W.heap[l]? = some o) (h1 : o.isCells = false) (h2 : o.isWalk = false) : KpB n₀ Bl Bv W (W.putObj l o') :=
  ⟨belowK_b hn W l o o' hle h h1 h2, World.putObj_heap_other (by omega), World.putObj_heap_other (by omega)⟩
theorem Boxed.kpl {n₀ Bl Bv : Nat} {W W' : World} {t : TypeId} {v : Value} (h : Boxed W Bl t v) (k : KpB n₀ Bl Bv W W') : Boxed W' Bl t v := k.bl.trans h
theorem Boxed.kpv {n₀ Bl Bv : Nat} {W W' : World} {t : TypeId} {v : Value} (h : Boxed W Bv t v) (k : KpB n₀ Bl Bv W W') : Boxed W' Bv t v := k.bv.trans h
theorem Boxed.below' {W W' : World} {B : Nat} {t : TypeId} {v : Value} (h : Boxed W B t v) (k : Below W.heap.size W W') : Boxed W' B t v := (k.block B h.lt).trans h
theorem grownBy_drew' (W : World) : W.grownBy W.drew none := ⟨rfl, rfl, rfl, Nat.le_refl _, fun _ _ _ => rfl⟩
theorem grownBy_below' {W W' : World} (h : Below W.heap.size W W') : W.grownBy W' none := ⟨h.os, h.tape, h.output, h.size, fun k hk _ => h.block k hk⟩
theorem AbidesFrom.step {β : Type} {B : Nat} {J : β → World → Prop} (h : AbidesFrom B J) {s : β} {W W' : World} (hs : J s W) (hg : W.grownBy W' none) : J s W' := h s W W' none hs hg (fun _ e => by cases e)
/-- 'KeepsFrom' of whatever leaves all that lay as it lay. -/
theorem KeepsFrom.ofBelow {B : Nat} {W W' : World} (h : Below W.heap.size W W') : KeepsFrom B W W' := ⟨h.size, fun k _ _ hk _ => (h.block k (Array.getElem?_eq_some_iff.1 hk).1).trans hk⟩
/-- 'KpB .. w₀ ·' abides what the loop itself turns. -/
theorem ownFrom_kpB {β : Type} {n₀ Bl Bv B' : Nat} {w₀ : World} (hn : n₀ ≤ B') (hl : Bl < B') (hv : Bv < B') (hB : B' ≤ w₀.heap.size) : OwnFrom B' (fun (_ : β) W => KpB n₀ Bl Bv w₀ W) :=
  fun _ X Y row hs hg hr => by
    have hs0 := hs.below.size
    refine ⟨hs.below.trans ⟨hg.os, hg.tape, hg.output, hg.size, fun k hk => hg.block k (by omega) (fun e => by have := (hr k e.symm).1; omega)⟩, ?_, ?_⟩
    · exact (hg.block Bl (by omega) (fun e => by have := (hr Bl e.symm).1; omega)).trans hs.bl
    · exact (hg.block Bv (by omega) (fun e => by have := (hr Bv e.symm).1; omega)).trans hs.bv

/-- The first j of the indices. -/
theorem fin_take {k j : Nat} (h : j < k) : (List.finRange k).take (j + 1) = (List.finRange k).take j ++ [⟨j, h⟩] := by
  rw [List.take_add_one, List.getElem?_eq_getElem (by simpa using h)]
  simp
theorem fin_len {k j : Nat} (h : j ≤ k) : ((List.finRange k).take j).length = j := by simp [h]
end Go.Proofs.Ytikopeihkbpjhas

/-
  The program's valsByPart: each value beside its part.
-/
namespace Go.Proofs.Ytikopeihkbpjhas
open Go.RowKit
set_option maxRecDepth 4000

attribute [local go_sem] Oper.semAt_some

abbrev encP (fc ft : Nat → Int) (fu fd : Nat → Bool) (i : Nat) : Value := .agg #[.int .i64 (fc i), .int .i64 (ft i), .bool (fu i), .bool (fd i)]
abbrev encV (fk fn : Nat → Int) (fs : Nat → ByteArray) (i : Nat) : Value := .agg #[.int .i64 (fk i), .int .i64 (fn i), .string (fs i)]

set_option linter.unusedSimpArgs false in
set_option maxRecDepth 100000 in
set_option maxHeartbeats 4000000 in
theorem byPart1_in (N : Nat) (hN : 1 ≤ N) (l Bl Bv : Nat) (a : Option Addr) (n cap : Nat) (fc ft : Nat → Int) (fu fd : Nat → Bool) (a2 : Option Addr) (m c2 : Nat) (fk fn : Nat → Int) (fs : Nat → ByteArray) (w : World) (hp : PView w a n cap fc ft fu fd) (hq : VView w a2 m c2 fk fn fs) (hn : n ≤ 281474976710656) (hm : m ≤ 281474976710656)
    (K : Nat) (hK : K = min n m) (J Jx : List (Fin K) → World → Prop) (W : World) (hJ : AbidesFrom W.heap.size J)
    (hY : ∀ pre x W1, J pre W1 → pre.length < K → YieldAt Fence.wide (N - 1) Try.prog l #[encP fc ft fu fd x.1, encV fk fn fs x.1] W1 fun e W' =>
      (e = .returned (.bool true) ∧ J (pre ++ [x]) W' ∧ KpB w.heap.size Bl Bv W1 W') ∨ (e = .returned (.bool false) ∧ Jx (pre ++ [x]) W'))
    (hb : Below w.heap.size w W) (hl : Boxed W Bl 27 (.slice a n cap)) (hv : Boxed W Bv 29 (.slice a2 m c2)) (h0 : J [] W) :
    CallsIn Fence.wide N Try.prog 70 #[.func (.yield l) #[] #[], .pointer (some ⟨Bl, 0, none⟩), .pointer (some ⟨Bv, 0, none⟩)] W fun e W' => (∃ v, e = .returned v) ∧
      ((∃ xs, xs = List.finRange K ∧ J xs W') ∨ (∃ pre, pre <+: List.finRange K ∧ Jx pre W')) := by
  refine callsIn_of_wp Try.func70 rfl trivial ?_ rfl
  simp only [Try.ntmps70, List.size_toArray, List.length_cons, List.length_nil, Nat.reduceAdd, Nat.reduceSub, Array.replicate_succ, Array.replicate_zero, List.push_toArray, List.append_toArray, List.nil_append, List.cons_append]
  have cl := hl.cell
  have cv := hv.cell
  gi_wp2
  case inl =>
    rename_i hmn
    have hKm : m = K := by omega
    have hnK : n ≥ K := by omega
    clear hK
    subst hKm
    gi_loopw [10] (fun i wr => ∃ j : Nat, j ≤ m ∧ i = .int .i64 j ∧ J ((List.finRange m).take j) wr ∧ KpB w.heap.size Bl Bv W wr) (fun i _ => m - (intOf i).toNat)
    case atStart => exact ⟨0, Nat.zero_le _, rfl, h0, KpB.refl _ _ _ _⟩
    case round =>
      obtain ⟨j, hj, rfl, hJs, hk⟩ := hrel
      by_cases hlt : j < m
      · have hbw : Below w.heap.size w wr := hb.trans hk.below
        obtain ⟨b1, o1, rfl, hb1, hd1⟩ := (hp.below hbw).cells (by omega)
        obtain ⟨b2, o2, rfl, hb2, hd2⟩ := (hq.below hbw).cells (by omega)
        obtain ⟨x0, x1, x2, x3⟩ := hd1 j (by omega)
        obtain ⟨y0, y1, y2⟩ := hd2 j (by omega)
        have cl' := (Boxed.kpl hl hk).cell
        have cv' := (Boxed.kpv hv hk).cell
        have hjz : (j : Int) < (m : Int) := by omega
        have hjn : (j : Int) < (n : Int) := by omega
        obtain ⟨fn', tmps, assign, body, hy, hR⟩ := hY _ ⟨j, hlt⟩ wr.drew (AbidesFrom.step hJ hJs (grownBy_drew' _)) (by rw [fin_len hj]; exact hlt)
        dsimp only at hy
        clear hd1 hd2 cl cv
        gi_wp2
        have hmx : Try.prog.follows .mixedOrders = true := by kernel_rfl
        replace hR := hR.mono (R' := fun e W' => ∃ o, e = .returned (.bool o) ∧ Hid ((o = true ∧ J ((List.finRange m).take (j + 1)) W' ∧ KpB w.heap.size Bl Bv wr W') ∨ (o = false ∧ Jx ((List.finRange m).take (j + 1)) W'))) (by
          rw [fin_take hlt]
          rintro e W' (⟨rfl, h1, h2⟩ | ⟨rfl, h1⟩)
          · exact ⟨true, rfl, .inl ⟨rfl, h1, (KpB.ofBelow (Below.refl _ _).drew (by have := hbw.size; exact this) (Boxed.kpl hl hk).lt (Boxed.kpv hv hk).lt).trans h2⟩⟩
          · exact ⟨false, rfl, .inr ⟨rfl, h1⟩⟩)
        gi_region_with_o (refine hR.mono ?_; rintro e W3 ⟨o, rfl, ho⟩)
        all_goals
          clear x0 x1 x2 x3 y0 y1 y2 cl' cv' hy hR
          rcases ho.out with ⟨rfl, hJ3, hk3⟩ | ⟨rfl, hJx3⟩
          · gi_wp2
            go_roundw
            case rel => exact ⟨j + 1, by omega, by go_num, hJ3, hk.trans hk3⟩
            case measure => simp [intOf]; omega
          · gi_wp2
            refine bodyPost_ret (results_none rfl _ _ _) rfl ?_
            exact ⟨⟨_, rfl⟩, .inr ⟨_, List.take_prefix _ _, hJx3⟩⟩
      · have hjz : ¬ (j : Int) < (m : Int) := by omega
        have hjK : j = m := by omega
        have hJe : Hid (J (List.finRange m) wr) := by
          show J _ wr
          have e : (List.finRange m).take j = List.finRange m := List.take_of_length_le (by simp; omega)
          rw [← e]; exact hJs
        clear hJs
        gi_wp2
        go_end0
        exact ⟨⟨_, rfl⟩, .inl hJe.out⟩
  case inr =>
    rename_i hmn
    have hKm : n = K := by omega
    have hnK : m ≥ K := by omega
    clear hK
    subst hKm
    gi_loopw [10] (fun i wr => ∃ j : Nat, j ≤ n ∧ i = .int .i64 j ∧ J ((List.finRange n).take j) wr ∧ KpB w.heap.size Bl Bv W wr) (fun i _ => n - (intOf i).toNat)
    case atStart => exact ⟨0, Nat.zero_le _, rfl, h0, KpB.refl _ _ _ _⟩
    case round =>
      obtain ⟨j, hj, rfl, hJs, hk⟩ := hrel
      by_cases hlt : j < n
      · have hbw : Below w.heap.size w wr := hb.trans hk.below
        obtain ⟨b1, o1, rfl, hb1, hd1⟩ := (hp.below hbw).cells (by omega)
        obtain ⟨b2, o2, rfl, hb2, hd2⟩ := (hq.below hbw).cells (by omega)
        obtain ⟨x0, x1, x2, x3⟩ := hd1 j (by omega)
        obtain ⟨y0, y1, y2⟩ := hd2 j (by omega)
        have cl' := (Boxed.kpl hl hk).cell
        have cv' := (Boxed.kpv hv hk).cell
        have hjz : (j : Int) < (n : Int) := by omega
        have hjn : (j : Int) < (m : Int) := by omega
        obtain ⟨fn', tmps, assign, body, hy, hR⟩ := hY _ ⟨j, hlt⟩ wr.drew (AbidesFrom.step hJ hJs (grownBy_drew' _)) (by rw [fin_len hj]; exact hlt)
        dsimp only at hy
        clear hd1 hd2 cl cv
        gi_wp2
        have hmx : Try.prog.follows .mixedOrders = true := by kernel_rfl
        replace hR := hR.mono (R' := fun e W' => ∃ o, e = .returned (.bool o) ∧ Hid ((o = true ∧ J ((List.finRange n).take (j + 1)) W' ∧ KpB w.heap.size Bl Bv wr W') ∨ (o = false ∧ Jx ((List.finRange n).take (j + 1)) W'))) (by
          rw [fin_take hlt]
          rintro e W' (⟨rfl, h1, h2⟩ | ⟨rfl, h1⟩)
          · exact ⟨true, rfl, .inl ⟨rfl, h1, (KpB.ofBelow (Below.refl _ _).drew (by have := hbw.size; exact this) (Boxed.kpl hl hk).lt (Boxed.kpv hv hk).lt).trans h2⟩⟩
          · exact ⟨false, rfl, .inr ⟨rfl, h1⟩⟩)
        gi_region_with_o (refine hR.mono ?_; rintro e W3 ⟨o, rfl, ho⟩)
        all_goals
          clear x0 x1 x2 x3 y0 y1 y2 cl' cv' hy hR
          rcases ho.out with ⟨rfl, hJ3, hk3⟩ | ⟨rfl, hJx3⟩
          · gi_wp2
            go_roundw
            case rel => exact ⟨j + 1, by omega, by go_num, hJ3, hk.trans hk3⟩
            case measure => simp [intOf]; omega
          · gi_wp2
            refine bodyPost_ret (results_none rfl _ _ _) rfl ?_
            exact ⟨⟨_, rfl⟩, .inr ⟨_, List.take_prefix _ _, hJx3⟩⟩
      · have hjz : ¬ (j : Int) < (n : Int) := by omega
        have hjK : j = n := by omega
        have hJe : Hid (J (List.finRange n) wr) := by
          show J _ wr
          have e : (List.finRange n).take j = List.finRange n := List.take_of_length_le (by simp; omega)
          rw [← e]; exact hJs
        clear hJs
        gi_wp2
        go_end0
        exact ⟨⟨_, rfl⟩, .inl hJe.out⟩

theorem byPart_stops (N : Nat) (hN : 1 ≤ N) (Bl Bv : Nat) (a : Option Addr) (n cap : Nat) (fc ft : Nat → Int) (fu fd : Nat → Bool) (a2 : Option Addr) (m c2 : Nat) (fk fn : Nat → Int) (fs : Nat → ByteArray) (w : World) (hp : PView w a n cap fc ft fu fd) (hq : VView w a2 m c2 fk fn fs) (hn : n ≤ 281474976710656) (hm : m ≤ 281474976710656)
    (W0 : World) (hb : Below w.heap.size w W0) (hl : Boxed W0 Bl 27 (.slice a n cap)) (hv : Boxed W0 Bv 29 (.slice a2 m c2)) :
    SeqStopsK Fence.wide N Try.prog 70 #[.pointer (some ⟨Bl, 0, none⟩), .pointer (some ⟨Bv, 0, none⟩)] (fun x : Fin (min n m) => #[encP fc ft fu fd x.1, encV fk fn fs x.1]) (KpB w.heap.size Bl Bv) (fun xs => xs = List.finRange (min n m)) (fun pre => pre <+: List.finRange (min n m)) (min n m) W0 :=
  fun l J Jx W hW hJ _ hY h0 => byPart1_in N hN l Bl Bv a n cap fc ft fu fd a2 m c2 fk fn fs w hp hq hn hm (min n m) rfl J Jx W hJ hY (hb.trans (hW.mono hb.size)) (Boxed.below' hl hW) (Boxed.below' hv hW) h0

set_option maxHeartbeats 1000000 in
/-- valsByPart boxes its two arguments. -/
theorem valsByPart_in (N : Nat) (a : Option Addr) (n cap : Nat) (a2 : Option Addr) (m c2 : Nat) (w : World) :
    CallsIn Fence.wide N Try.prog 52 #[.slice a n cap, .slice a2 m c2] w fun e w' => e = .returned (.func (.func 70) #[] #[.pointer (some ⟨w.heap.size, 0, none⟩), .pointer (some ⟨w.heap.size + 1, 0, none⟩)]) ∧ w' = (w.alloc (.cells #[.slice a n cap] 27)).alloc (.cells #[.slice a2 m c2] 29) := by
  refine callsIn_of_wp Try.func52 rfl trivial ?_ rfl
  simp only [Try.ntmps52, List.size_toArray, List.length_cons, List.length_nil, Nat.reduceAdd, Nat.reduceSub, Array.replicate_succ, Array.replicate_zero, List.push_toArray, List.append_toArray, List.nil_append, List.cons_append]
  gi_wp2
  go_ret
  exact ⟨rfl, rfl⟩
end Go.Proofs.Ytikopeihkbpjhas

/-
  Parts and values in boxes of a round, and what the loop itself turns.
-/
namespace Go.Proofs.Ytikopeihkbpjhas
open Go.RowKit
set_option maxRecDepth 4000

theorem PBox.ownK {W W' : World} {row : Option Nat} {B : Nat} {c t : Int} {nul d : Bool} (h : PBox W B c t nul d) (hg : W.grownBy W' row) (hr : ∀ r, row = some r → ∃ o : Obj, W.heap[r]? = some o ∧ o.isCells = false) : PBox W' B c t nul d := by
  obtain ⟨o, ho, hc⟩ := cells_of_cell h.cells.1
  exact h.of_block (grownBy_keeps_cells hg hr ho hc)
theorem Box.ownK {W W' : World} {row : Option Nat} {B : Nat} {k n : Int} {s : ByteArray} (h : Box W B k n s) (hg : W.grownBy W' row) (hr : ∀ r, row = some r → ∃ o : Obj, W.heap[r]? = some o ∧ o.isCells = false) : Box W' B k n s := by
  obtain ⟨o, ho, hc⟩ := cells_of_cell h.cells.1
  exact h.of_block (grownBy_keeps_cells hg hr ho hc)
theorem Boxed.ownK {W W' : World} {row : Option Nat} {B : Nat} {t : TypeId} {v : Value} (h : Boxed W B t v) (hg : W.grownBy W' row) (hr : ∀ r, row = some r → ∃ o : Obj, W.heap[r]? = some o ∧ o.isCells = false) : Boxed W' B t v := by
  obtain ⟨o, ho, hc⟩ := cells_of_cell h.cell
  exact (grownBy_keeps_cells hg hr ho hc).trans h
theorem Below.put' {n₀ : Nat} {w₀ W : World} {D : Nat} {o o' : Obj} (h : Below n₀ w₀ W) (hn : n₀ ≤ D) (hK : W.heap[D]? = some o) : Below n₀ w₀ (W.putObj D o') :=
  h.trans ((Below.refl n₀ W).grown (grownBy_putObj' W D o') (by have := (Array.getElem?_eq_some_iff.1 hK).1; omega) (fun k e => by cases e; omega))
end Go.Proofs.Ytikopeihkbpjhas

/-
  The program's FitsAll: each value is asked beside its part.
-/
namespace Go.Proofs.Ytikopeihkbpjhas
open Go.RowKit
set_option maxRecDepth 4000

attribute [local go_sem] Oper.semAt_some

/-- What the program's FitsAll answers. -/
def fitsAllI (n m : Nat) (ft : Nat → Int) (fu : Nat → Bool) (fk fn : Nat → Int) (fs : Nat → ByteArray) : Bool := decide (m ≤ n) && (List.range m).all (fun i => fitsI (ft i) (fu i) (fk i) (fn i) (fs i))

set_option linter.unusedSimpArgs false in
set_option maxRecDepth 100000 in
set_option maxHeartbeats 4000000 in
theorem implFitsAll_any (a : Option Addr) (n cap : Nat) (fc ft : Nat → Int) (fu fd : Nat → Bool) (a2 : Option Addr) (m c2 : Nat) (fk fn : Nat → Int) (fs : Nat → ByteArray) (w : World) (hp : PView w a n cap fc ft fu fd) (hq : VView w a2 m c2 fk fn fs) (hn : n ≤ 281474976710656) (hm : m ≤ 281474976710656) :
    Calls Try.prog 31 #[.slice a n cap, .slice a2 m c2] w fun e w' => e = .returned (.bool (fitsAllI n m ft fu fk fn fs)) ∧ Below w.heap.size w w' := by
  refine (callsIn_wide (n := 6)).1 ?_
  refine callsIn_of_wp_marks Try.func31 rfl trivial ?_ rfl
  simp only [Try.ntmps31, List.size_toArray, List.length_cons, List.length_nil, Nat.reduceAdd, Nat.reduceSub, Array.replicate_succ, Array.replicate_zero, List.push_toArray, List.append_toArray, List.nil_append, List.cons_append]
  by_cases hmn : m ≤ n
  · have hmz : ¬ (m : Int) > (n : Int) := by omega
    gi_wp2_with (refine ⟨trivial, ?_⟩; gi_at_call 52; refine (valsByPart_in _ _ _ _ _ _ _ _).mono ?_; rintro e w' ⟨rfl, rfl⟩)
    have bR := ((Boxed.new w 4 (.bool false)).alloc (.cells #[.slice a n cap] 27)).alloc (.cells #[.slice a2 m c2] 29)
    have bL := (Boxed.new (w.alloc (.cells #[.bool false] 4)) 27 (.slice a n cap)).alloc (.cells #[.slice a2 m c2] 29)
    have bV := Boxed.new ((w.alloc (.cells #[.bool false] 4)).alloc (.cells #[.slice a n cap] 27)) 29 (.slice a2 m c2)
    have hB0 : Below w.heap.size w (((w.alloc (.cells #[.bool false] 4)).alloc (.cells #[.slice a n cap] 27)).alloc (.cells #[.slice a2 m c2] 29)) := (((Below.refl _ w).alloc (Nat.le_refl _) _).alloc (by simp) _).alloc (by simp; omega) _
    have hsz : (((w.alloc (.cells #[.bool false] 4)).alloc (.cells #[.slice a n cap] 27)).alloc (.cells #[.slice a2 m c2] 29)).heap.size = w.heap.size + 3 := by simp
    simp only [World.size_alloc] at bL bV ⊢
    obtain ⟨W0, hW0⟩ : ∃ W0, ((w.alloc (.cells #[.bool false] 4)).alloc (.cells #[.slice a n cap] 27)).alloc (.cells #[.slice a2 m c2] 29) = W0 := ⟨_, rfl⟩
    rw [hW0] at bR bL bV hB0 hsz ⊢
    clear hW0
    refine wpIn_rangeFunc_ownH rfl (by decide) (gf := 70) (lb := #[.pointer (some ⟨w.heap.size + 1, 0, none⟩), .pointer (some ⟨w.heap.size + 1 + 1, 0, none⟩)]) rfl trivial (enters_of Try.func70 (by kernel_rfl) rfl)
      (byPart_stops (6 - 1) (by decide) (w.heap.size + 1) (w.heap.size + 1 + 1) a n cap fc ft fu fd a2 m c2 fk fn fs w hp hq hn hm W0 hB0 bL bV) (fun h k => KpB.trans h k) (KpB.put (by omega) (by omega) (by omega)) (Below.refl _ _) (fun _ => rfl)
      (fun pre W => (Boxed W w.heap.size 4 (.bool false) ∧ ∀ x ∈ pre, fitsI (ft x.1) (fu x.1) (fk x.1) (fn x.1) (fs x.1) = true) ∧ KpB w.heap.size (w.heap.size + 1) (w.heap.size + 1 + 1) W0 W)
      (fun c pre W => c = .ret ∧ (Boxed W w.heap.size 4 (.bool false) ∧ ∃ x ∈ pre, fitsI (ft x.1) (fu x.1) (fk x.1) (fn x.1) (fs x.1) = false) ∧ Below w.heap.size W0 W)
      (OwnFrom.and (fun s X Y row hs hg hr => ⟨Boxed.ownK hs.1 hg (fun r e => (hr r e).2), hs.2⟩) (ownFrom_kpB (by omega) (by omega) (by omega) (Nat.le_refl _)))
      (fun c s X Y row hs hg hr => ⟨hs.1, ⟨Boxed.ownK hs.2.1.1 hg (fun r e => (hr r e).2), hs.2.1.2⟩, ownFrom_below (w₀ := W0) (n₀ := w.heap.size) (B := W0.heap.size) (β := Unit) (by omega) (by omega) () X Y row hs.2.2 hg hr⟩)
      ⟨⟨bR, fun x hx => by cases hx⟩, KpB.refl _ _ _ _⟩
      (fun x a' W => ∃ Bp Bq, (PBox W Bp (fc x.1) (ft x.1) (fu x.1) (fd x.1) ∧ Box W Bq (fk x.1) (fn x.1) (fs x.1)) ∧ a' = { tmps := #[.slice a n cap, .slice a2 m c2, undef, undef, .pointer (some ⟨w.heap.size, 0, none⟩), .pointer (some ⟨Bp, 0, none⟩), .pointer (some ⟨Bq, 0, none⟩), .slice a2 m c2, .int .i64 m, .slice a n cap, .int .i64 n, .bool false, .slice a n cap, .slice a2 m c2, .func (.func 70) #[] #[.pointer (some ⟨w.heap.size + 1, 0, none⟩), .pointer (some ⟨w.heap.size + 1 + 1, 0, none⟩)], encP fc ft fu fd x.1, encV fk fn fs x.1, undef, undef, undef, undef], defers := [] })
      (fun x a' _ X Y row hs hg hr => by obtain ⟨Bp, Bq, ⟨h1, h2⟩, h3⟩ := hs; exact ⟨Bp, Bq, ⟨h1.ownK hg (fun r e => (hr r e).2), h2.ownK hg (fun r e => (hr r e).2)⟩, h3⟩)
      ?assign ?body ?done ?stop
    case assign =>
      rintro l pre x W K ⟨⟨bR1, hall⟩, hk⟩ hK
      gi_wp2
      have hb1 : Below W.heap.size W ((W.alloc (.cells #[.int .i64 (fc x.1), .int .i64 (ft x.1), .bool (fu x.1), .bool (fd x.1)] 49)).alloc (.cells #[.int .i64 (fk x.1), .int .i64 (fn x.1), .string (fs x.1)] 52)) := ((Below.refl _ _).alloc (Nat.le_refl _) _).alloc (by simp) _
      have hs1 := hk.below.size
      have hkk := KpB.ofBelow (n₀ := w.heap.size) (Bl := w.heap.size + 1) (Bv := w.heap.size + 1 + 1) hb1 (by omega) (by omega) (by omega)
      refine hK _ _ (KeepsFrom.ofBelow hb1) hkk ⟨⟨Boxed.below' bR1 hb1, hall⟩, hk.trans hkk⟩ ⟨W.heap.size, W.heap.size + 1, ⟨(PBox.new W _ _ _ _).below ((Below.refl _ _).alloc (Nat.le_refl _) _), by have := Box.new (W.alloc (.cells #[.int .i64 (fc x.1), .int .i64 (ft x.1), .bool (fu x.1), .bool (fd x.1)] 49)) (fk x.1) (fn x.1) (fs x.1); rw [World.size_alloc] at this; exact this⟩, ?_⟩
      simp
    case body =>
      rintro l pre x a' W hl ⟨r, hr⟩ ⟨⟨bR1, hall⟩, hk⟩ ⟨Bp, Bq, ⟨hP, hQ⟩, rfl⟩ hlt
      obtain ⟨p0, p1, p2, p3⟩ := hP.cells
      obtain ⟨q0, q1, q2⟩ := hQ.cells
      have cR := bR1.cell
      have fR := bR1.frozen
      have hs1 := hk.below.size
      have HA : Hid (∀ x ∈ pre, fitsI (ft x.1) (fu x.1) (fk x.1) (fn x.1) (fs x.1) = true) := hall
      have hC := fun W => implFits_any (fc x.1) (ft x.1) (fu x.1) (fd x.1) (fk x.1) (fn x.1) (fs x.1) W
      obtain ⟨o, ho⟩ : ∃ o, Hid (fitsI (ft x.1) (fu x.1) (fk x.1) (fn x.1) (fs x.1) = o) := ⟨_, rfl⟩
      rw [ho.out] at hC
      clear hall hP hQ hr
      cases o with
      | true =>
        gi_wp2_with (refine ⟨trivial, ?_⟩; gi_at_call 53; refine (CallsIn.inRound l (callsIn_wide.2 (hC _))).mono ?_; rintro e w2 ⟨rfl, hB2⟩)
        have hkk := KpB.ofBelow (n₀ := w.heap.size) (Bl := w.heap.size + 1) (Bv := w.heap.size + 1 + 1) hB2 (by omega) (by omega) (by omega)
        refine ⟨KeepsFrom.ofBelow hB2, hkk, ⟨Boxed.below' bR1 hB2, fun y hy => ?_⟩, hk.trans hkk⟩
        rcases List.mem_append.1 hy with hy | hy
        · exact HA.out y hy
        · simp at hy; subst hy; exact ho.out
      | false =>
        gi_wp2_with (refine ⟨trivial, ?_⟩; gi_at_call 53; refine (CallsIn.inRound l (callsIn_wide.2 (hC _))).mono ?_; rintro e w2 ⟨rfl, hB2⟩; have cR2 := (Boxed.below' bR1 hB2).cell; have fR2 := (Boxed.below' bR1 hB2).frozen)
        have bR2 : Boxed (w2.setCell ⟨w.heap.size, 0, none⟩ (.bool false)) w.heap.size 4 (.bool false) := Boxed.set _ (Boxed.below' bR1 hB2)
        refine ⟨(KeepsFrom.ofBelow hB2).trans ((KeepsOthers.setCell _ _ _).from _), rfl, ⟨bR2, x, List.mem_append.2 (.inr (by simp)), ho.out⟩, ?_⟩
        exact (hk.below.trans (hB2.mono (by omega))).setCell (p := ⟨w.heap.size, 0, none⟩) (Nat.le_refl _) _
    case done =>
      rintro D ys W hD rfl ⟨⟨bR1, hall⟩, hk⟩ hK
      have cR := bR1.cell
      have fR := bR1.frozen
      have HF : Hid (fitsAllI n m ft fu fk fn fs = true) := by
        show _ = _
        unfold fitsAllI
        rw [decide_eq_true hmn, Bool.true_and]
        exact allUpto_yes (fun i hi => hall ⟨i, by omega⟩ (List.mem_finRange _))
      have hk0 := hB0.trans hk.below
      clear hall hk
      gi_wp2
      have hK' := (KeepsOthers.setCell W ⟨w.heap.size, 0, none⟩ (.bool true)).same D _ hK rfl
      refine ⟨by simp, .inl ⟨_, _, rfl, run_takeDeferred hK', ?_⟩⟩
      have hc5 := cell_kept (Boxed.set (.bool true) bR1).cell (grownBy_putObj' _ D (.deferred none)) (fun r e => by cases e; exact ⟨_, hK', rfl⟩)
      refine ⟨.bool true, ?_, by rw [HF.out], Below.put' (hk0.setCell (p := ⟨w.heap.size, 0, none⟩) (Nat.le_refl _) _) (by omega) hK'⟩
      simp [results, Try.f31, go_sem, hc5]
    case stop =>
      rintro D c pre W hD hpre ⟨rfl, ⟨bR1, hno⟩, hk⟩ hK
      have HF : Hid (fitsAllI n m ft fu fk fn fs = false) := by
        show _ = _
        unfold fitsAllI
        obtain ⟨x, _, hx⟩ := hno
        rw [allUpto_no (k := x.1) (by have := x.2; omega) hx, Bool.and_false]
      have hk0 := hB0.trans hk
      clear hno hk
      gi_wp2
      refine ⟨by simp, .inl ⟨_, _, rfl, run_takeDeferred hK, ?_⟩⟩
      have hc5 := cell_kept bR1.cell (grownBy_putObj' _ D (.deferred none)) (fun r e => by cases e; exact ⟨_, hK, rfl⟩)
      refine ⟨.bool false, ?_, by rw [HF.out], Below.put' hk0 (by omega) hK⟩
      simp [results, Try.f31, go_sem, hc5]
  · have hmz : (m : Int) > (n : Int) := by omega
    have HF : Hid (fitsAllI n m ft fu fk fn fs = false) := by show _ = _; unfold fitsAllI; rw [decide_eq_false hmn]; rfl
    gi_wp2
    refine ⟨.bool false, ?_, by rw [HF.out], (Below.refl _ w).alloc (Nat.le_refl _) _⟩
    simp [results, Try.f31, go_sem]
end Go.Proofs.Ytikopeihkbpjhas

/-
  Where a plan is right the program's FitsAll is the plain one.
-/
namespace Go.Proofs.Ytikopeihkbpjhas
open Go.RowKit
set_option maxRecDepth 4000

/-- Where the plan is right the program's answer is the plain one. -/
theorem fitsAllI_ok {n m : Nat} {fc ft : Nat → Int} {fu : Nat → Bool} {fk fn : Nat → Int} {fs : Nat → ByteArray} (h : planOk n fc ft = true) : fitsAllI n m ft fu fk fn fs = fitsAll n m ft fu fk fn fs := by
  unfold fitsAllI fitsAll
  by_cases hm : m ≤ n
  · rw [decide_eq_true hm, Bool.true_and, Bool.true_and]
    have hp := (planOk_iff.1 h).1
    have e : ∀ i, i < m → fitsI (ft i) (fu i) (fk i) (fn i) (fs i) = fitsP (ft i) (fu i) (fk i) (fn i) (fs i) := fun i hi => by
      have := hp i (by omega)
      refine fitsI_ok ?_
      unfold partOk at this; simp at this; omega
    rw [Bool.eq_iff_iff, List.all_eq_true, List.all_eq_true]
    constructor
    · intro h' i hi; rw [← e i (List.mem_range.1 hi)]; exact h' i hi
    · intro h' i hi; rw [e i (List.mem_range.1 hi)]; exact h' i hi
  · rw [decide_eq_false hm, Bool.false_and, Bool.false_and]
end Go.Proofs.Ytikopeihkbpjhas

/-
  The program's RowOk: as the model's.
-/
namespace Go.Proofs.Ytikopeihkbpjhas
open Go.RowKit
set_option maxRecDepth 4000

theorem implRowOk_any (a : Option Addr) (n cap : Nat) (fc ft : Nat → Int) (fu fd : Nat → Bool) (a2 : Option Addr) (m c2 : Nat) (fk fn : Nat → Int) (fs : Nat → ByteArray) (w : World) (hp : PView w a n cap fc ft fu fd) (hq : VView w a2 m c2 fk fn fs) (hn : n ≤ 281474976710656) (_hm : m ≤ 281474976710656) :
    Calls Try.prog 11 #[.slice a n cap, .slice a2 m c2] w fun e w' => e = .returned (.bool (rowOk n fc ft fu m fk fn fs)) ∧ Below w.heap.size w w' := by
  obtain ⟨o, ho⟩ : ∃ o, Hid (rowOk n fc ft fu m fk fn fs = o) := ⟨_, rfl⟩
  rw [ho.out]
  go_enter Try.func11, Try.ntmps11
  go_wp2_with fail
  refine (implPlanOk_any a n cap fc ft fu fd w hp).mono ?_
  cases hpk : planOk n fc ft with
  | false =>
    have e : o = false := by rw [← ho.out]; unfold rowOk; rw [hpk]; rfl
    subst e
    rintro e w1 ⟨rfl, hb⟩
    go_wp2
    go_ret
    exact ⟨rfl, hb⟩
  | true =>
    rintro e w1 ⟨rfl, hb⟩
    by_cases hmn : m = n
    · subst hmn
      have e : fitsAllI m m ft fu fk fn fs = o := by rw [fitsAllI_ok hpk, ← ho.out]; unfold rowOk; rw [hpk]; simp
      have HE : Hid (fitsAllI m m ft fu fk fn fs = o) := e
      clear e ho
      replace hp := hp.below hb
      replace hq := hq.below hb
      go_wp2_with fail
      refine (implFitsAll_any a m cap fc ft fu fd a2 m c2 fk fn fs _ hp hq (by omega) (by omega)).mono ?_
      rw [HE.out]
      rintro e w2 ⟨rfl, hb2⟩
      replace hb := hb.trans (hb2.mono hb.size)
      clear hb2 hp hq
      go_wp2
      go_ret
      exact ⟨rfl, hb⟩
    · have e : o = false := by rw [← ho.out]; unfold rowOk; rw [hpk]; simp [hmn]
      subst e
      have hz : ¬ (m : Int) = (n : Int) := by omega
      have hz' : ¬ (n : Int) = (m : Int) := by omega
      clear hp hq
      go_wp2
      go_ret
      exact ⟨rfl, hb⟩
end Go.Proofs.Ytikopeihkbpjhas

/-
  What the law's own helper markText comes to: a text that hangs on the count alone.
-/
namespace Go.Proofs.Ytikopeihkbpjhas
open Go.RowKit
set_option maxRecDepth 4000

theorem Row.litOne (w : World) (t : TypeId) (h : Int) : Row t (w.alloc (.cells #[.int .u8 h] t)) w.heap.size 1 (fun _ => h) :=
  Row.ofIs (World.rowIs_alloc w #[.int .u8 h] t (fun _ => .int .u8 h) (fun j hj => by match j, hj with | 0, _ => rfl))

/-- The digits of a number ahead of a text. -/
def digT (k : Nat) (acc : ByteArray) : ByteArray := if _h : k = 0 then acc else digT (k / 10) (strOfNums [48 + ((k % 10 : Nat) : Int)] ++ acc)
  termination_by k
  decreasing_by omega
def markT (k : Int) : ByteArray := if k ≤ 0 then ⟨#[109, 48]⟩ else (⟨#[109]⟩ : ByteArray) ++ digT k.toNat ⟨#[]⟩

set_option maxHeartbeats 1000000 in
theorem markText_any (k : Int) (w : World) (hk1 : k ≤ 4611686018427387904) :
    Calls Try.prog 41 #[.int .i64 k] w fun e w' => e = .returned (.string (markT k)) ∧ Below w.heap.size w w' := by
  by_cases h0 : k ≤ 0
  · have e : markT k = ⟨#[109, 48]⟩ := by unfold markT; rw [if_pos h0]
    rw [e]
    go_enter Try.func41, Try.ntmps41
    go_wp2
    go_ret
    exact ⟨rfl, Below.refl _ _⟩
  obtain ⟨m, rfl⟩ : ∃ m : Nat, k = m := ⟨k.toNat, by omega⟩
  have HM : Hid (markT (m : Int) = (⟨#[109]⟩ : ByteArray) ++ digT m ⟨#[]⟩) := by show _ = _; unfold markT; rw [if_neg h0]; rfl
  go_enter Try.func41, Try.ntmps41
  go_wp2
  go_loopg [0, 3] m (fun q kv s wr => ∃ (j : Nat) (acc : ByteArray), j ≤ m ∧ j = q ∧ kv = .int .i64 j ∧ s = .string acc ∧ digT j acc = digT m ⟨#[]⟩ ∧ acc.size + j ≤ m ∧ Below w.heap.size w wr)
  case atStart => exact ⟨m, _, Nat.le_refl _, rfl, rfl, rfl, rfl, by show 0 + m ≤ m; omega, Below.refl _ _⟩
  case round =>
    obtain ⟨j, acc, hj, hq, rfl, rfl, hd, hsz, hB⟩ := hrel
    subst hq
    have HD : Hid (digT j acc = digT m ⟨#[]⟩) := hd
    clear hd
    by_cases hz : j = 0
    · subst hz
      have HF : Hid (digT m ⟨#[]⟩ = acc) := by show _ = _; rw [← HD.out]; unfold digT; simp
      have hs1 : (⟨#[109]⟩ : ByteArray).size = 1 := rfl
      have hs2 : ¬ (1 + acc.size > 9223372036854775807) := by omega
      go_wp2
      go_ret
      exact ⟨by rw [HM.out, HF.out]; rfl, hB⟩
    · have hjz : (0 : Int) < (j : Int) := by omega
      obtain ⟨r, hr⟩ : ∃ r : Nat, Hid (j % 10 = r) := ⟨_, rfl⟩
      obtain ⟨d, hd⟩ : ∃ d : Nat, Hid (j / 10 = d) := ⟨_, rfl⟩
      have hr9 : r ≤ 9 := by have := hr.out; omega
      have hdj : d < j := by have := hd.out; omega
      have HN : Hid (digT d (strOfNums [48 + (r : Int)] ++ acc) = digT m ⟨#[]⟩) := by
        show _ = _
        rw [← HD.out]
        conv => rhs; unfold digT
        rw [dif_neg hz, hr.out, hd.out]
      have h1 : Int.tmod (j : Int) 10 = (r : Int) := by rw [← hr.out]; rfl
      have h2 : Int.tdiv (j : Int) 10 = (d : Int) := by rw [← hd.out]; rfl
      have h3 : IntKind.u8.wrap (48 + (r : Int)) = 48 + (r : Int) := by rw [u8_wrap]; omega
      have hcv := conv_view ((Row.litOne wr 5 (48 + (r : Int))).view (cap := 1) (Nat.le_refl _) (fun _ _ => ⟨by omega, by omega⟩))
      rw [show lof 1 (fun _ => 48 + (r : Int)) = [48 + (r : Int)] by simp [lof]] at hcv
      have hB2 : Below w.heap.size w (wr.alloc (.cells #[.int .u8 (48 + (r : Int))] 5)) := hB.alloc hB.size _
      have hs1 : (strOfNums [48 + (r : Int)]).size = 1 := by simp [strOfNums, ByteArray.size]
      have hs2 : ¬ (1 + acc.size > 9223372036854775807) := by omega
      have HZ : Hid ((strOfNums [48 + (r : Int)] ++ acc).size + d ≤ m) := by show _ ≤ _; rw [ByteArray.size_append, hs1]; omega
      clear HD
      go_wp2
      go_roundg d
      case measure => omega
      case rel => exact ⟨d, _, by omega, rfl, by go_num, rfl, HN.out, HZ.out, hB2⟩
end Go.Proofs.Ytikopeihkbpjhas

