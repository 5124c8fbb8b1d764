/-
  Together: PageGet, PageAtI, LawPageAt
-/
import Derived.Test.YtphipmhibegbnaaPkR12
import Derived.Test.YtphipmhibegbnaaPkR2
import Derived.Test.YtphipmhibegbnaaPkR13
import Derived.Test.YtphipmhibegbnaaPkR8
import Derived.Test.YtphipmhibegbnaaPkR10
/-
  The program's GetPage and the model's: what is read as a page, in memory of its own.
-/
namespace Go.Proofs.Ytphipmhibegbnaa
open Go.RowKit
set_option maxRecDepth 4000

/-- What GetPage comes to. -/
def PgTo (w : World) (r : Int × ByteArray × Bool) (e : Ending) (w' : World) : Prop := ∃ g c, e = .returned (.tuple #[.int .i64 r.1, .slice (some ⟨g, 0, none⟩) r.2.1.size c, .bool r.2.2]) ∧ w.heap.size ≤ g ∧ r.2.1.size ≤ c ∧ RowZ 5 w' g r.2.1.size (fun i => (sl r.2.1).getD i 0) ∧ Below w.heap.size w w'
theorem pgTo_no {w w1 : World} {b : Nat} (hb : Below w.heap.size w w1) (hw : b = w1.heap.size) : PgTo w (0, strOfNums [], false) (.returned (.tuple #[.int .i64 0, .slice (some ⟨b, 0, none⟩) 0 0, .bool false])) (w1.alloc (.cells #[] 5)) := by
  subst hw
  exact ⟨_, 0, rfl, hb.size, Nat.le_refl _, RowZ.ofRow (noRow _ _ _), hb.alloc hb.size _⟩
theorem getU_none13 {n : Nat} {f : Nat → Int} {p a q : Int} (h : getU n f p = (a, q, false)) : a = 0 ∧ q = 0 := by
  unfold getU at h
  repeat' split at h
  all_goals first | (simp at h; done) | (cases h; exact ⟨rfl, rfl⟩)
theorem getU_zero (f : Nat → Int) : getU 0 f 0 = (0, 0, false) := by unfold getU; rw [if_pos (by right; decide)]
theorem getText_zero (f : Nat → Int) : getText 0 f 0 = (strOfNums [], 0, false) := by unfold getText; rw [getU_zero, if_neg (by simp)]
theorem getPg_bad {n : Nat} {f : Nat → Int} (h : sumGood n f = false) : getPg n f = (0, strOfNums [], false) := by
  unfold getPg; rw [if_neg (by simp [h])]
theorem getPg_sum {n : Nat} {f : Nat → Int} {k q r : Int} {s : ByteArray} {a b : Bool} (hg : sumGood n f = true) (h1 : getU (n - 4) f 0 = (k, q, a)) (h2 : getText (n - 4) f q = (s, r, b)) : getPg n f = if a = true ∧ b = true ∧ r = ((n - 4 : Nat) : Int) ∧ (k = 1 ∨ k = 2) ∧ s.size ≤ 240 then (k, s, true) else (0, strOfNums [], false) := by
  unfold getPg
  rw [h1, h2]
  simp only [hg, true_and]
/-- What the sum gives. -/
def SumGives (fn : Nat) (ao : Option Addr) (n cap : Nat) (f : Nat → Int) (N : Nat) (B : Bool) (w : World) : Prop := Calls Try.prog fn #[.slice ao n cap] w fun e w' =>
    ∃ g c, e = .returned (.tuple #[.slice (some ⟨g, 0, none⟩) N c, .bool B]) ∧ w.heap.size ≤ g ∧ N ≤ c ∧ Row 5 w' g N f ∧ Below w.heap.size w w'

set_option maxHeartbeats 1000000 in
theorem sumFew_impl (ao : Option Addr) (n cap : Nat) (f : Nat → Int) (hn : n < 4) (w : World) : SumGives 71 ao n cap f 0 false w := by
  have hz : (n : Int) - 4 < 0 := by omega
  have hz2 : (n : Int) < 4 := by omega
  unfold SumGives
  go_enter Try.func71, Try.ntmps71
  go_wp2
  go_ret2
  exact ⟨_, _, rfl, Nat.le_refl _, Nat.le_refl _, noRow _ _ _, (Below.refl _ _).alloc (Nat.le_refl _) _⟩
theorem sumBad_impl (ao : Option Addr) (n cap : Nat) (f : Nat → Int) (w : World) (ha : 4 ≤ n → ∃ b, ao = some ⟨b, 0, none⟩) (hv : View w ao n cap f) (hn : n ≤ 1048576) (hg : sumGood n f = false) : SumGives 71 ao n cap f 0 false w := by
  by_cases h4 : n < 4
  · exact sumFew_impl ao n cap f h4 w
  · obtain ⟨b, rfl⟩ := ha (by omega)
    obtain ⟨m, rfl⟩ : ∃ m, n = m + 4 := ⟨n - 4, by omega⟩
    have h : last4 m f ≠ (crc m f : Int) := by simpa [sumGood] using hg
    exact getSum_impl_no m f hn hv.byte h b cap w hv
theorem sumYes_impl (b : Nat) (n cap : Nat) (f : Nat → Int) (w : World) (hv : View w (some ⟨b, 0, none⟩) n cap f) (hn : n ≤ 1048576) (hg : sumGood n f = true) : SumGives 71 (some ⟨b, 0, none⟩) n cap f (n - 4) true w := by
  have h' : 4 ≤ n ∧ last4 (n - 4) f = (crc (n - 4) f : Int) := by simpa [sumGood] using hg
  obtain ⟨m, rfl⟩ : ∃ m, n = m + 4 := ⟨n - 4, by omega⟩
  rw [Nat.add_sub_cancel] at h' ⊢
  exact getSum_impl_yes m f hn hv.byte h'.2 b cap w hv

set_option maxHeartbeats 1000000 in
theorem sumFew_spec (ao : Option Addr) (n cap : Nat) (f : Nat → Int) (hn : n < 4) (w : World) : SumGives 68 ao n cap f 0 false w := by
  have hz : (n : Int) - 4 < 0 := by omega
  have hz2 : (n : Int) < 4 := by omega
  unfold SumGives
  go_enter Try.func68, Try.ntmps68
  go_wp2
  go_ret2
  exact ⟨_, _, rfl, Nat.le_refl _, Nat.le_refl _, noRow _ _ _, (Below.refl _ _).alloc (Nat.le_refl _) _⟩
theorem sumBad_spec (ao : Option Addr) (n cap : Nat) (f : Nat → Int) (w : World) (ha : 4 ≤ n → ∃ b, ao = some ⟨b, 0, none⟩) (hv : View w ao n cap f) (hn : n ≤ 1048576) (hg : sumGood n f = false) : SumGives 68 ao n cap f 0 false w := by
  by_cases h4 : n < 4
  · exact sumFew_spec ao n cap f h4 w
  · obtain ⟨b, rfl⟩ := ha (by omega)
    obtain ⟨m, rfl⟩ : ∃ m, n = m + 4 := ⟨n - 4, by omega⟩
    have h : last4 m f ≠ (crc m f : Int) := by simpa [sumGood] using hg
    exact getSum_spec_all m f hn hv.byte 0 false (.inr ⟨h, rfl, rfl⟩) b cap w hv
theorem sumYes_spec (b : Nat) (n cap : Nat) (f : Nat → Int) (w : World) (hv : View w (some ⟨b, 0, none⟩) n cap f) (hn : n ≤ 1048576) (hg : sumGood n f = true) : SumGives 68 (some ⟨b, 0, none⟩) n cap f (n - 4) true w := by
  have h' : 4 ≤ n ∧ last4 (n - 4) f = (crc (n - 4) f : Int) := by simpa [sumGood] using hg
  obtain ⟨m, rfl⟩ : ∃ m, n = m + 4 := ⟨n - 4, by omega⟩
  rw [Nat.add_sub_cancel] at h' ⊢
  exact getSum_spec_all m f hn hv.byte m true (.inl ⟨h'.2, rfl, rfl⟩) b cap w hv

set_option maxHeartbeats 4000000 in
theorem getPage_spec (ao : Option Addr) (n cap : Nat) (f : Nat → Int) (w : World) (ha : 4 ≤ n → ∃ b, ao = some ⟨b, 0, none⟩) (hv : View w ao n cap f) (hn : n ≤ 1048576) :
    Calls Try.prog 26 #[.slice ao n cap] w (PgTo w (getPg n f)) := by
  by_cases hg : sumGood n f = true
  case neg =>
    have hg' : sumGood n f = false := by simpa using hg
    have HG : Hid (getPg n f = (0, strOfNums [], false)) := getPg_bad hg'
    have hS := sumBad_spec ao n cap f w ha hv hn hg'
    unfold SumGives at hS
    obtain ⟨M, hM⟩ : ∃ M, Hid (M = 0) := ⟨0, rfl⟩
    obtain ⟨q, hq⟩ : ∃ q : Int, Hid (q = 0) := ⟨0, rfl⟩
    obtain ⟨s, hs⟩ : ∃ s, Hid (s = strOfNums []) := ⟨_, rfl⟩
    obtain ⟨r, hr⟩ : ∃ r : Int, Hid (r = 0) := ⟨0, rfl⟩
    obtain ⟨gd, hgd⟩ : ∃ gd, Hid (gd = false) := ⟨_, rfl⟩
    have hU : Hid (getU M f 0 = (0, q, false)) := by show _ = _; rw [hM.out, hq.out]; exact getU_zero f
    have hT : Hid (getText M f q = (s, r, gd)) := by show _ = _; rw [hM.out, hq.out, hs.out, hr.out, hgd.out]; exact getText_zero f
    have HY : Hid (∀ i, i < M → 0 ≤ f i ∧ f i ≤ 255) := fun i hi => by rw [hM.out] at hi; omega
    have hMl : M ≤ 1048576 := by rw [hM.out]; omega
    have hql : q ≤ 9223372036854775807 := by rw [hq.out]; omega
    have hS' : Calls Try.prog 68 #[.slice ao n cap] w fun e w' => ∃ g c, e = .returned (.tuple #[.slice (some ⟨g, 0, none⟩) M c, .bool false]) ∧ w.heap.size ≤ g ∧ M ≤ c ∧ Row 5 w' g M f ∧ Below w.heap.size w w' := by rw [hM.out]; exact hS
    clear hS
    have hS := hS'
    clear hS' hM hq hs hr hgd
    go_enter Try.func26, Try.ntmps26
    go_wp2_with fail
    refine hS.mono ?_
    rintro e w1 ⟨g1, c1, rfl, hg1, hc1, hr1, hb1⟩
    have hv1 := hr1.view hc1 HY.out
    go_wp2_with fail
    refine (getU_spec' _ M c1 f 0 w1 hU hv1 (by omega) (by omega)).mono ?_
    rintro e _ ⟨rfl, rfl⟩
    go_wp2_with fail
    refine (getText_spec g1 0 M c1 f q w1 s r gd hT hv1 (by omega) (by omega)).mono ?_
    rintro e _ ⟨rfl, rfl⟩
    clear hv1 hr1
    go_wp2
    go_ret3
    rw [HG.out]
    exact pgTo_no hb1 rfl
  have h4 : 4 ≤ n := by
    have : 4 ≤ n ∧ last4 (n - 4) f = (crc (n - 4) f : Int) := by simpa [sumGood] using hg
    exact this.1
  obtain ⟨b, rfl⟩ := ha h4
  have hS := sumYes_spec b n cap f w hv hn hg
  unfold SumGives at hS
  obtain ⟨M, hM⟩ : ∃ M, Hid (n - 4 = M) := ⟨_, rfl⟩
  obtain ⟨k, q, is, hU⟩ : ∃ a r c, Hid (getU M f 0 = (a, r, c)) := ⟨_, _, _, rfl⟩
  obtain ⟨s, r, gd, hT⟩ : ∃ a r c, Hid (getText M f q = (a, r, c)) := ⟨_, _, _, rfl⟩
  have HP := getPg_sum (n := n) (f := f) (k := k) (q := q) (r := r) (s := s) (a := is) (b := gd) hg (by rw [hM.out]; exact hU.out) (by rw [hM.out]; exact hT.out)
  have HI : is = true → gd = true → (pageF k s = lof n f ↔ (r = (M : Int) ∧ (k = 1 ∨ k = 2) ∧ s.size ≤ 240)) := by
    rintro rfl rfl
    rw [← hM.out]
    exact page_iff hv.byte hg (by rw [hM.out]; exact hU.out) (by rw [hM.out]; exact hT.out)
  rw [hM.out] at hS HP
  have HY : Hid (∀ i, i < M → 0 ≤ f i ∧ f i ≤ 255) := fun i hi => hv.byte i (by rw [← hM.out] at hi; omega)
  have hMl : M ≤ 1048576 := by rw [← hM.out]; omega
  have hkb : -9223372036854775808 ≤ k ∧ k ≤ 9223372036854775807 := by
    cases is with
    | true => have := getU_bd HY.out hU.out; omega
    | false => have := getU_none13 hU.out; omega
  have hql : q ≤ 9223372036854775807 := by
    cases is with
    | true => have := getU_bd HY.out hU.out; omega
    | false => have := getU_none13 hU.out; omega
  have hsl : is = true → gd = true → s.size ≤ 1000000 ∧ 0 ≤ r ∧ r ≤ M := by
    rintro rfl rfl
    obtain ⟨hA, hr, -, -, h3⟩ := page_inner HY.out hU.out hT.out
    have := hA.le
    exact ⟨h3, by omega, by omega⟩
  clear hM
  cases is with
  | false =>
    have HG : Hid (getPg n f = (0, strOfNums [], false)) := by show _ = _; rw [HP, if_neg (by simp)]
    clear HP HI hsl
    go_enter Try.func26, Try.ntmps26
    go_wp2_with fail
    refine hS.mono ?_
    rintro e w1 ⟨g1, c1, rfl, hg1, hc1, hr1, hb1⟩
    have hv1 := hr1.view hc1 HY.out
    go_wp2_with fail
    refine (getU_spec' _ M c1 f 0 w1 hU hv1 (by omega) (by omega)).mono ?_
    rintro e _ ⟨rfl, rfl⟩
    go_wp2_with fail
    refine (getText_spec g1 0 M c1 f q w1 s r gd hT hv1 (by omega) (by omega)).mono ?_
    rintro e _ ⟨rfl, rfl⟩
    clear hv1 hr1
    go_wp2
    go_ret3
    rw [HG.out]
    exact pgTo_no hb1 rfl
  | true =>
  cases gd with
  | false =>
    have HG : Hid (getPg n f = (0, strOfNums [], false)) := by show _ = _; rw [HP, if_neg (by simp)]
    clear HP HI hsl
    go_enter Try.func26, Try.ntmps26
    go_wp2_with fail
    refine hS.mono ?_
    rintro e w1 ⟨g1, c1, rfl, hg1, hc1, hr1, hb1⟩
    have hv1 := hr1.view hc1 HY.out
    go_wp2_with fail
    refine (getU_spec' _ M c1 f 0 w1 hU hv1 (by omega) (by omega)).mono ?_
    rintro e _ ⟨rfl, rfl⟩
    go_wp2_with fail
    refine (getText_spec g1 0 M c1 f q w1 s r false hT hv1 (by omega) (by omega)).mono ?_
    rintro e _ ⟨rfl, rfl⟩
    clear hv1 hr1
    go_wp2
    go_ret3
    rw [HG.out]
    exact pgTo_no hb1 rfl
  | true =>
  obtain ⟨hs1, hr0, hr1'⟩ := hsl rfl rfl
  clear hsl
  clear HI
  by_cases hrm : r = (M : Int)
  case neg =>
    have HG : Hid (getPg n f = (0, strOfNums [], false)) := by show _ = _; rw [HP, if_neg (fun h => hrm h.2.2.1)]
    have hne : (r == (M : Int)) = false := beq_eq_false_iff_ne.2 hrm
    clear HP
    go_enter Try.func26, Try.ntmps26
    go_wp2_with fail
    refine hS.mono ?_
    rintro e w1 ⟨g1, c1, rfl, hg1, hc1, hr1, hb1⟩
    have hv1 := hr1.view hc1 HY.out
    go_wp2_with fail
    refine (getU_spec' _ M c1 f 0 w1 hU hv1 (by omega) (by omega)).mono ?_
    rintro e _ ⟨rfl, rfl⟩
    go_wp2_with fail
    refine (getText_spec g1 0 M c1 f q w1 s r true hT hv1 (by omega) (by omega)).mono ?_
    rintro e _ ⟨rfl, rfl⟩
    clear hv1 hr1
    go_wp2
    go_ret3
    rw [HG.out]
    exact pgTo_no hb1 rfl
  subst hrm
  have hne : ((M : Int) == (M : Int)) = true := beq_self_eq_true _
  by_cases hk : k = 1 ∨ k = 2
  case neg =>
    have HG : Hid (getPg n f = (0, strOfNums [], false)) := by show _ = _; rw [HP, if_neg (fun h => hk h.2.2.2.1)]
    have hV := fun W => l1In_no k 1 2 W (by omega)
    clear HP
    go_enter Try.func26, Try.ntmps26
    go_wp2_with fail
    refine hS.mono ?_
    rintro e w1 ⟨g1, c1, rfl, hg1, hc1, hr1, hb1⟩
    have hv1 := hr1.view hc1 HY.out
    go_wp2_with fail
    refine (getU_spec' _ M c1 f 0 w1 hU hv1 (by omega) (by omega)).mono ?_
    rintro e _ ⟨rfl, rfl⟩
    go_wp2_with fail
    refine (getText_spec g1 0 M c1 f q w1 s _ true hT hv1 (by omega) (by omega)).mono ?_
    rintro e _ ⟨rfl, rfl⟩
    clear hv1 hr1
    go_wp2_with fail
    refine (hV _).mono ?_
    rintro e _ ⟨rfl, rfl⟩
    go_wp2
    go_ret3
    rw [HG.out]
    exact pgTo_no hb1 rfl
  have hV := fun W => l1In_yes k 1 2 W (by omega) (by omega)
  by_cases hs2 : s.size ≤ 240
  case neg =>
    have HG : Hid (getPg n f = (0, strOfNums [], false)) := by show _ = _; rw [HP, if_neg (fun h => hs2 h.2.2.2.2)]
    have hz : (240 : Int) < s.size := by omega
    clear HP
    go_enter Try.func26, Try.ntmps26
    go_wp2_with fail
    refine hS.mono ?_
    rintro e w1 ⟨g1, c1, rfl, hg1, hc1, hr1, hb1⟩
    have hv1 := hr1.view hc1 HY.out
    go_wp2_with fail
    refine (getU_spec' _ M c1 f 0 w1 hU hv1 (by omega) (by omega)).mono ?_
    rintro e _ ⟨rfl, rfl⟩
    go_wp2_with fail
    refine (getText_spec g1 0 M c1 f q w1 s _ true hT hv1 (by omega) (by omega)).mono ?_
    rintro e _ ⟨rfl, rfl⟩
    clear hv1 hr1
    go_wp2_with fail
    refine (hV _).mono ?_
    rintro e _ ⟨rfl, rfl⟩
    go_wp2
    go_ret3
    rw [HG.out]
    exact pgTo_no hb1 rfl
  have HG : Hid (getPg n f = (k, s, true)) := by show _ = _; rw [HP, if_pos ⟨rfl, rfl, rfl, hk, hs2⟩]
  have hz : ¬ (240 : Int) < s.size := by omega
  have kc := fun w => run_bytes_of_string (P := Try.prog) w 9 28 5 s Try.underlying9 Try.underlying28 Try.underlying5
  clear HP
  go_enter Try.func26, Try.ntmps26
  go_wp2_with fail
  refine hS.mono ?_
  rintro e w1 ⟨g1, c1, rfl, hg1, hc1, hr1, hb1⟩
  have hv1 := hr1.view hc1 HY.out
  go_wp2_with fail
  refine (getU_spec' _ M c1 f 0 w1 hU hv1 (by omega) (by omega)).mono ?_
  rintro e _ ⟨rfl, rfl⟩
  go_wp2_with fail
  refine (getText_spec g1 0 M c1 f q w1 s _ true hT hv1 (by omega) (by omega)).mono ?_
  rintro e _ ⟨rfl, rfl⟩
  clear hv1 hr1
  go_wp2_with fail
  refine (hV _).mono ?_
  rintro e _ ⟨rfl, rfl⟩
  clear hV
  go_wp2
  go_ret3
  rw [HG.out]
  exact ⟨_, _, rfl, hb1.size, grownCap_ge _ _ _ _, (text_row w1 s _).of_block rfl, hb1.drew.alloc hb1.size _⟩

set_option maxHeartbeats 4000000 in
theorem getPage_impl (ao : Option Addr) (n cap : Nat) (f : Nat → Int) (w : World) (ha : 4 ≤ n → ∃ b, ao = some ⟨b, 0, none⟩) (hv : View w ao n cap f) (hn : n ≤ 1048576) :
    Calls Try.prog 27 #[.slice ao n cap] w (PgTo w (getPg n f)) := by
  by_cases hg : sumGood n f = true
  case neg =>
    have hg' : sumGood n f = false := by simpa using hg
    have HG : Hid (getPg n f = (0, strOfNums [], false)) := getPg_bad hg'
    have hS := sumBad_impl ao n cap f w ha hv hn hg'
    unfold SumGives at hS
    obtain ⟨M, hM⟩ : ∃ M, Hid (M = 0) := ⟨0, rfl⟩
    obtain ⟨q, hq⟩ : ∃ q : Int, Hid (q = 0) := ⟨0, rfl⟩
    obtain ⟨s, hs⟩ : ∃ s, Hid (s = strOfNums []) := ⟨_, rfl⟩
    obtain ⟨r, hr⟩ : ∃ r : Int, Hid (r = 0) := ⟨0, rfl⟩
    obtain ⟨gd, hgd⟩ : ∃ gd, Hid (gd = false) := ⟨_, rfl⟩
    have hU : Hid (getU M f 0 = (0, q, false)) := by show _ = _; rw [hM.out, hq.out]; exact getU_zero f
    have hT : Hid (getText M f q = (s, r, gd)) := by show _ = _; rw [hM.out, hq.out, hs.out, hr.out, hgd.out]; exact getText_zero f
    have HY : Hid (∀ i, i < M → 0 ≤ f i ∧ f i ≤ 255) := fun i hi => by rw [hM.out] at hi; omega
    have hMl : M ≤ 1048576 := by rw [hM.out]; omega
    have hql : q ≤ 9223372036854775807 := by rw [hq.out]; omega
    have hS' : Calls Try.prog 71 #[.slice ao n cap] w fun e w' => ∃ g c, e = .returned (.tuple #[.slice (some ⟨g, 0, none⟩) M c, .bool false]) ∧ w.heap.size ≤ g ∧ M ≤ c ∧ Row 5 w' g M f ∧ Below w.heap.size w w' := by rw [hM.out]; exact hS
    clear hS
    have hS := hS'
    clear hS' hM hq hs hr hgd
    go_enter Try.func27, Try.ntmps27
    go_wp2_with fail
    refine hS.mono ?_
    rintro e w1 ⟨g1, c1, rfl, hg1, hc1, hr1, hb1⟩
    have hv1 := hr1.view hc1 HY.out
    go_wp2_with fail
    refine (getU_impl' _ M c1 f 0 w1 hU hv1 (by omega) (by omega)).mono ?_
    rintro e _ ⟨rfl, rfl⟩
    go_wp2_with fail
    refine (getText_impl g1 0 M c1 f q w1 s r gd hT hv1 (by omega) (by omega)).mono ?_
    rintro e _ ⟨rfl, rfl⟩
    clear hv1 hr1
    go_wp2
    go_ret3
    rw [HG.out]
    exact pgTo_no hb1 rfl
  have h4 : 4 ≤ n := by
    have : 4 ≤ n ∧ last4 (n - 4) f = (crc (n - 4) f : Int) := by simpa [sumGood] using hg
    exact this.1
  obtain ⟨b, rfl⟩ := ha h4
  have hS := sumYes_impl b n cap f w hv hn hg
  unfold SumGives at hS
  obtain ⟨M, hM⟩ : ∃ M, Hid (n - 4 = M) := ⟨_, rfl⟩
  obtain ⟨k, q, is, hU⟩ : ∃ a r c, Hid (getU M f 0 = (a, r, c)) := ⟨_, _, _, rfl⟩
  obtain ⟨s, r, gd, hT⟩ : ∃ a r c, Hid (getText M f q = (a, r, c)) := ⟨_, _, _, rfl⟩
  have HP := getPg_sum (n := n) (f := f) (k := k) (q := q) (r := r) (s := s) (a := is) (b := gd) hg (by rw [hM.out]; exact hU.out) (by rw [hM.out]; exact hT.out)
  have HI : is = true → gd = true → (pageF k s = lof n f ↔ (r = (M : Int) ∧ (k = 1 ∨ k = 2) ∧ s.size ≤ 240)) := by
    rintro rfl rfl
    rw [← hM.out]
    exact page_iff hv.byte hg (by rw [hM.out]; exact hU.out) (by rw [hM.out]; exact hT.out)
  rw [hM.out] at hS HP
  have HY : Hid (∀ i, i < M → 0 ≤ f i ∧ f i ≤ 255) := fun i hi => hv.byte i (by rw [← hM.out] at hi; omega)
  have hMl : M ≤ 1048576 := by rw [← hM.out]; omega
  have hkb : -9223372036854775808 ≤ k ∧ k ≤ 9223372036854775807 := by
    cases is with
    | true => have := getU_bd HY.out hU.out; omega
    | false => have := getU_none13 hU.out; omega
  have hql : q ≤ 9223372036854775807 := by
    cases is with
    | true => have := getU_bd HY.out hU.out; omega
    | false => have := getU_none13 hU.out; omega
  have hsl : is = true → gd = true → s.size ≤ 1000000 ∧ 0 ≤ r ∧ r ≤ M := by
    rintro rfl rfl
    obtain ⟨hA, hr, -, -, h3⟩ := page_inner HY.out hU.out hT.out
    have := hA.le
    exact ⟨h3, by omega, by omega⟩
  clear hM
  cases is with
  | false =>
    have HG : Hid (getPg n f = (0, strOfNums [], false)) := by show _ = _; rw [HP, if_neg (by simp)]
    clear HP HI hsl
    go_enter Try.func27, Try.ntmps27
    go_wp2_with fail
    refine hS.mono ?_
    rintro e w1 ⟨g1, c1, rfl, hg1, hc1, hr1, hb1⟩
    have hv1 := hr1.view hc1 HY.out
    go_wp2_with fail
    refine (getU_impl' _ M c1 f 0 w1 hU hv1 (by omega) (by omega)).mono ?_
    rintro e _ ⟨rfl, rfl⟩
    go_wp2_with fail
    refine (getText_impl g1 0 M c1 f q w1 s r gd hT hv1 (by omega) (by omega)).mono ?_
    rintro e _ ⟨rfl, rfl⟩
    clear hv1 hr1
    go_wp2
    go_ret3
    rw [HG.out]
    exact pgTo_no hb1 rfl
  | true =>
  cases gd with
  | false =>
    have HG : Hid (getPg n f = (0, strOfNums [], false)) := by show _ = _; rw [HP, if_neg (by simp)]
    clear HP HI hsl
    go_enter Try.func27, Try.ntmps27
    go_wp2_with fail
    refine hS.mono ?_
    rintro e w1 ⟨g1, c1, rfl, hg1, hc1, hr1, hb1⟩
    have hv1 := hr1.view hc1 HY.out
    go_wp2_with fail
    refine (getU_impl' _ M c1 f 0 w1 hU hv1 (by omega) (by omega)).mono ?_
    rintro e _ ⟨rfl, rfl⟩
    go_wp2_with fail
    refine (getText_impl g1 0 M c1 f q w1 s r false hT hv1 (by omega) (by omega)).mono ?_
    rintro e _ ⟨rfl, rfl⟩
    clear hv1 hr1
    go_wp2
    go_ret3
    rw [HG.out]
    exact pgTo_no hb1 rfl
  | true =>
  obtain ⟨hs1, hr0, hr1'⟩ := hsl rfl rfl
  clear hsl
  have HI1 : Hid (pageF k s = lof n f ↔ (r = (M : Int) ∧ (k = 1 ∨ k = 2) ∧ s.size ≤ 240)) := HI rfl rfl
  clear HI
  have HP1 := HP
  clear HP
  have HP : Hid (getPg n f = _) := HP1
  clear HP1
  have kc := fun w => run_bytes_of_string (P := Try.prog) w 9 28 5 s Try.underlying9 Try.underlying28 Try.underlying5
  have HE : Hid (((strOfNums (lof (pageF k s).length (fun i => (pageF k s).getD i 0))).toList == (strOfNums (lof n f)).toList) = decide (pageF k s = lof n f)) := by
    show _ = _
    rw [lof_self, Bool.eq_iff_iff, beq_iff_eq, decide_eq_true_eq]
    constructor
    · intro h
      refine strOfNums_inj (pageF_byte k s) (lof_byteS hv.byte) ?_
      rw [ByteArray.toList_eq, ByteArray.toList_eq] at h
      exact ByteArray.ext (Array.ext' h)
    · intro h; rw [h]
  have HPP : ∀ (g cp : Nat) (W : World), s.size ≤ cp → RowZ 5 W g s.size (fun i => (sl s).getD i 0) → Calls Try.prog 25 #[.int .i64 k, .slice (some ⟨g, 0, none⟩) s.size cp] W (PageTo W (pageF k s)) := by
    intro g cp W hc hz
    have el : lof s.size (fun i => (sl s).getD i 0) = sl s := by
      have := lof_self (sl s)
      rw [sl_len] at this
      exact this
    have := putPage_impl g 0 s.size cp (fun i => (sl s).getD i 0) k W (hz.view hc (by have := bytes_of_list (sl_byte s); rw [sl_len] at this; exact this)) (by omega) hkb.1 hkb.2
    rw [el, strOfNums_sl] at this
    exact this
  have HV : Hid (View w (some ⟨b, 0, none⟩) n cap f) := hv
  have hpb := pageF_byte k s
  obtain ⟨L, hL⟩ : ∃ L, Hid (pageF k s = L) := ⟨_, rfl⟩
  rw [hL.out] at HI1 HE HPP hpb
  have HPB : Hid (∀ y ∈ L, 0 ≤ y ∧ y ≤ 255) := hpb
  clear hpb hv
  go_enter Try.func27, Try.ntmps27
  go_wp2_with fail
  refine hS.mono ?_
  rintro e w1 ⟨g1, c1, rfl, hg1, hc1, hr1, hb1⟩
  have hv1 := hr1.view hc1 HY.out
  go_wp2_with fail
  refine (getU_impl' _ M c1 f 0 w1 hU hv1 (by omega) (by omega)).mono ?_
  rintro e _ ⟨rfl, rfl⟩
  go_wp2_with fail
  refine (getText_impl g1 0 M c1 f q w1 s r true hT hv1 (by omega) (by omega)).mono ?_
  rintro e _ ⟨rfl, rfl⟩
  clear hv1 hr1
  go_wp2_with fail
  obtain ⟨cp, hcp⟩ : ∃ cp, cp = grownCap w1 s.size 0 5 := ⟨_, rfl⟩
  have hge : s.size ≤ cp := by rw [hcp]; exact grownCap_ge _ _ _ _
  rw [← hcp]
  clear hcp
  have hb2 : Below w.heap.size w (w1.alloc (.cells (bytesRow s cp) 5 ((bytesRow s cp).size, (bytesRow s cp).size + 1))).drew := (hb1.alloc hb1.size _).drew
  have hz2 : RowZ 5 (w1.alloc (.cells (bytesRow s cp) 5 ((bytesRow s cp).size, (bytesRow s cp).size + 1))).drew w1.heap.size s.size (fun i => (sl s).getD i 0) := (text_row w1 s cp).of_block rfl
  refine (HPP w1.heap.size cp _ hge hz2).mono ?_
  rintro e w3 ⟨g3, c3, rfl, hg3, hc3, hr3, hb3⟩
  replace hb3 := hb2.trans (hb3.mono hb2.size)
  clear hb2 hz2 HPP
  go_wp2_with fail
  refine (equal_any g3 0 L.length c3 _ b 0 n cap f w3 (hr3.view hc3 (bytes_of_list HPB.out)) (HV.out.below hb3)).mono ?_
  rintro e _ ⟨he, rfl⟩
  rw [HE.out] at he
  subst he
  clear HE hr3 HPB
  by_cases hq : L = lof n f
  · have HG : Hid (getPg n f = (k, s, true)) := by show _ = _; rw [HP.out, if_pos ⟨trivial, trivial, HI1.out.1 hq⟩]
    have hd : decide (L = lof n f) = true := by simpa using hq
    rw [hd]
    clear HP HI1 hq hd
    go_wp2
    go_ret3
    rw [HG.out]
    exact ⟨_, _, rfl, hb3.size, grownCap_ge _ _ _ _, (text_row w3 s _).of_block rfl, hb3.drew.alloc hb3.size _⟩
  · have HG : Hid (getPg n f = (0, strOfNums [], false)) := by show _ = _; rw [HP.out, if_neg (fun h => hq (HI1.out.2 h.2.2))]
    have hd : decide (L = lof n f) = false := by simpa using hq
    rw [hd]
    clear HP HI1 hq hd kc
    go_wp2
    go_ret3
    rw [HG.out]
    exact pgTo_no hb3 rfl
end Go.Proofs.Ytphipmhibegbnaa

/-
  The program's PageAt and the model's.
-/
namespace Go.Proofs.Ytphipmhibegbnaa
open Go.RowKit
set_option maxRecDepth 4000

/-- What PageAt answers. -/
def pgAt (D : PDisk) (n k : Int) : List Int × Bool :=
  if hasB D n = true ∧ (getPg (readB D n).length (bf (readB D n))).2.2 = true ∧ (getPg (readB D n).length (bf (readB D n))).1 = k then (sl (getPg (readB D n).length (bf (readB D n))).2.1, true) else ([], false)
theorem pgAt_len (D : PDisk) (n k : Int) (hb : ∀ i, i < (readB D n).length → 0 ≤ bf (readB D n) i ∧ bf (readB D n) i ≤ 255) : (pgAt D n k).1.length ≤ 240 := by
  unfold pgAt
  split
  · rename_i h
    have := getPg_read (k := (getPg (readB D n).length (bf (readB D n))).1) (s := (getPg (readB D n).length (bf (readB D n))).2.1) hb (Prod.ext rfl (Prod.ext rfl h.2.1))
    rw [sl_len]
    exact this.2.1
  · simp
theorem oz_text {w : World} {B g c : Nat} {s : ByteArray} (hr : RowZ 5 w g s.size (fun i => (sl s).getD i 0)) (hc : s.size ≤ c) (hB : B ≤ g) : OZ w B (.slice (some ⟨g, 0, none⟩) s.size c) (sl s) := by
  refine ⟨_, c, by rw [sl_len], by rw [sl_len]; exact hc, (fun e => by cases e), sl_byte s, .inr ⟨g, rfl, hB, ?_⟩⟩
  rw [sl_len]
  exact hr

set_option maxHeartbeats 4000000 in
theorem pageAt_spec (v : Value) (D : PDisk) (n k : Int) (w : World) (h : KView w v D) (hf : KFine D) :
    Calls Try.prog 28 #[v, .int .i64 n, .int .i64 k] w (BTo w (pgAt D n k).1 (pgAt D n k).2) := by
  have HK : Hid (KView w v D ∧ KFine D) := ⟨h, hf⟩
  have hlen := readB_len hf n
  obtain ⟨sa, sc, ca, cc, fa, fc, rfl, -, -, -⟩ := h.is
  clear h hf
  have hbA : Below w.heap.size w (w.alloc (.cells #[.slice sa D.secs.length sc, .slice ca D.cache.length cc, .int .i64 D.ops, .slice fa D.faults.length fc, .bool D.down] 34)) := (Below.refl _ _).alloc (Nat.le_refl _) _
  have hR := (specReadSec_any _ D n _ (HK.out.1.below hbA) HK.out.2).mono (fun _ _ h => h.bto)
  have HP : Hid (pgAt D n k = if hasB D n = true ∧ (getPg (readB D n).length (bf (readB D n))).2.2 = true ∧ (getPg (readB D n).length (bf (readB D n))).1 = k then (sl (getPg (readB D n).length (bf (readB D n))).2.1, true) else ([], false)) := rfl
  obtain ⟨l, hl⟩ := hidEx (readB D n)
  obtain ⟨ok, hok⟩ := hidEx (hasB D n)
  obtain ⟨P, hP⟩ := hidEx (pgAt D n k)
  rw [hl.out, hok.out, hP.out] at HP
  rw [hl.out, hok.out] at hR
  rw [hl.out] at hlen
  rw [hP.out]
  clear HK hl hok hP
  go_enter Try.func28, Try.ntmps28
  go_wp2_with fail
  refine hR.mono ?_
  rintro e w1 ⟨v1, rfl, hO1, hb1⟩
  replace hb1 := hbA.trans (hb1.mono hbA.size)
  clear hR hbA
  obtain ⟨a1, c1, e1, h1, h2, h3, h4⟩ := hO1.is
  have hv1 := hO1.lv
  subst e1
  have hV : View w1 a1 l.length c1 (bf l) := by
    obtain ⟨a, c, e, hv, -⟩ := hv1.is
    cases e
    exact hv
  have hG := getPage_spec a1 l.length c1 (bf l) w1 (fun h4' => by
    rcases h4 with h4 | ⟨g, e, -, -⟩
    · subst h4; simp at h4'
    · exact ⟨g, e⟩) hV hlen
  obtain ⟨⟨kk, s, is⟩, hr⟩ := hidEx (getPg l.length (bf l))
  rw [hr.out] at hG HP
  obtain ⟨N, hN⟩ := hidEx l.length
  rw [hN.out] at hG ⊢
  clear hO1 hv1 hV h4 h3 h1 h2
  unfold PgTo at hG
  dsimp only at hG HP
  go_wp2_with fail
  refine hG.mono ?_
  rintro e w2 ⟨g2, c2, rfl, hg2, hc2, hr2, hb2⟩
  have HB : Hid (Below w.heap.size w w2) := hb1.trans (hb2.mono hb1.size)
  have HG2 : Hid (w.heap.size ≤ g2) := Nat.le_trans hb1.size hg2
  have HO : Hid (OZ w2 w.heap.size (.slice (some ⟨g2, 0, none⟩) s.size c2) (sl s)) := oz_text hr2 hc2 HG2.out
  clear hG hb1 hb2 hg2 hc2 hr2
  have HN : ∀ (W : World), Below w.heap.size w W → BTo w [] false (.returned (.tuple #[.slice (some ⟨W.heap.size, 0, none⟩) 0 0, .bool false])) (W.alloc (.cells #[] 5)) := fun W hb => ⟨_, rfl, ⟨_, 0, rfl, Nat.le_refl _, (fun e => by cases e), by simp, .inl rfl⟩, hb.alloc hb.size _⟩
  cases ok
  · have hE : Hid (P = ([], false)) := by show _ = _; rw [HP.out, if_neg (by simp)]
    clear HP
    go_wp2
    go_ret2
    rw [hE.out]
    exact HN _ HB.out
  cases is
  · have hE : Hid (P = ([], false)) := by show _ = _; rw [HP.out, if_neg (by simp)]
    clear HP
    go_wp2
    go_ret2
    rw [hE.out]
    exact HN _ HB.out
  by_cases hk : kk = k
  · have hE : Hid (P = (sl s, true)) := by show _ = _; rw [HP.out, if_pos ⟨rfl, rfl, hk⟩]
    subst hk
    have hq : (kk == kk) = true := beq_self_eq_true _
    clear HP HN
    go_wp2
    go_ret2
    rw [hE.out]
    exact ⟨_, rfl, HO.out, HB.out⟩
  · have hE : Hid (P = ([], false)) := by show _ = _; rw [HP.out, if_neg (fun h => hk h.2.2)]
    have hq : (kk == k) = false := beq_eq_false_iff_ne.2 hk
    clear HP
    go_wp2
    go_ret2
    rw [hE.out]
    exact HN _ HB.out

set_option maxHeartbeats 4000000 in
theorem pageAt_impl (v : Value) (D : PDisk) (n k : Int) (w : World) (h : KView w v D) (hf : KFine D) :
    Calls Try.prog 29 #[v, .int .i64 n, .int .i64 k] w (BTo w (pgAt D n k).1 (pgAt D n k).2) := by
  have HK : Hid (KView w v D ∧ KFine D) := ⟨h, hf⟩
  have hlen := readB_len hf n
  obtain ⟨sa, sc, ca, cc, fa, fc, rfl, -, -, -⟩ := h.is
  clear h hf
  have hbA : Below w.heap.size w (w.alloc (.cells #[.slice sa D.secs.length sc, .slice ca D.cache.length cc, .int .i64 D.ops, .slice fa D.faults.length fc, .bool D.down] 34)) := (Below.refl _ _).alloc (Nat.le_refl _) _
  have hR := (implReadSec_any _ D n _ (HK.out.1.below hbA) HK.out.2).mono (fun _ _ h => h.bto)
  have HP : Hid (pgAt D n k = if hasB D n = true ∧ (getPg (readB D n).length (bf (readB D n))).2.2 = true ∧ (getPg (readB D n).length (bf (readB D n))).1 = k then (sl (getPg (readB D n).length (bf (readB D n))).2.1, true) else ([], false)) := rfl
  obtain ⟨l, hl⟩ := hidEx (readB D n)
  obtain ⟨ok, hok⟩ := hidEx (hasB D n)
  obtain ⟨P, hP⟩ := hidEx (pgAt D n k)
  rw [hl.out, hok.out, hP.out] at HP
  rw [hl.out, hok.out] at hR
  rw [hl.out] at hlen
  rw [hP.out]
  clear HK hl hok hP
  go_enter Try.func29, Try.ntmps29
  go_wp2_with fail
  refine hR.mono ?_
  rintro e w1 ⟨v1, rfl, hO1, hb1⟩
  replace hb1 := hbA.trans (hb1.mono hbA.size)
  clear hR hbA
  obtain ⟨a1, c1, e1, h1, h2, h3, h4⟩ := hO1.is
  have hv1 := hO1.lv
  subst e1
  have hV : View w1 a1 l.length c1 (bf l) := by
    obtain ⟨a, c, e, hv, -⟩ := hv1.is
    cases e
    exact hv
  have hG := getPage_impl a1 l.length c1 (bf l) w1 (fun h4' => by
    rcases h4 with h4 | ⟨g, e, -, -⟩
    · subst h4; simp at h4'
    · exact ⟨g, e⟩) hV hlen
  obtain ⟨⟨kk, s, is⟩, hr⟩ := hidEx (getPg l.length (bf l))
  rw [hr.out] at hG HP
  obtain ⟨N, hN⟩ := hidEx l.length
  rw [hN.out] at hG ⊢
  clear hO1 hv1 hV h4 h3 h1 h2
  unfold PgTo at hG
  dsimp only at hG HP
  go_wp2_with fail
  refine hG.mono ?_
  rintro e w2 ⟨g2, c2, rfl, hg2, hc2, hr2, hb2⟩
  have HB : Hid (Below w.heap.size w w2) := hb1.trans (hb2.mono hb1.size)
  have HG2 : Hid (w.heap.size ≤ g2) := Nat.le_trans hb1.size hg2
  have HO : Hid (OZ w2 w.heap.size (.slice (some ⟨g2, 0, none⟩) s.size c2) (sl s)) := oz_text hr2 hc2 HG2.out
  clear hG hb1 hb2 hg2 hc2 hr2
  have HN : ∀ (W : World), Below w.heap.size w W → BTo w [] false (.returned (.tuple #[.slice (some ⟨W.heap.size, 0, none⟩) 0 0, .bool false])) (W.alloc (.cells #[] 5)) := fun W hb => ⟨_, rfl, ⟨_, 0, rfl, Nat.le_refl _, (fun e => by cases e), by simp, .inl rfl⟩, hb.alloc hb.size _⟩
  cases ok
  · have hE : Hid (P = ([], false)) := by show _ = _; rw [HP.out, if_neg (by simp)]
    clear HP
    go_wp2
    go_ret2
    rw [hE.out]
    exact HN _ HB.out
  cases is
  · have hE : Hid (P = ([], false)) := by show _ = _; rw [HP.out, if_neg (by simp)]
    clear HP
    go_wp2
    go_ret2
    rw [hE.out]
    exact HN _ HB.out
  by_cases hk : kk = k
  · have hE : Hid (P = (sl s, true)) := by show _ = _; rw [HP.out, if_pos ⟨rfl, rfl, hk⟩]
    subst hk
    have hq : (kk == kk) = true := beq_self_eq_true _
    clear HP HN
    go_wp2
    go_ret2
    rw [hE.out]
    exact ⟨_, rfl, HO.out, HB.out⟩
  · have hE : Hid (P = ([], false)) := by show _ = _; rw [HP.out, if_neg (fun h => hk h.2.2)]
    have hq : (kk == k) = false := beq_eq_false_iff_ne.2 hk
    clear HP
    go_wp2
    go_ret2
    rw [hE.out]
    exact HN _ HB.out
end Go.Proofs.Ytphipmhibegbnaa

/-
  The law FnExactPageAt.
-/
namespace Go.Proofs.Ytphipmhibegbnaa
open Go.RowKit
set_option maxRecDepth 4000

theorem pgAt_short (D : PDisk) (n k : Int) : (pgAt D n k).1.length ≤ 1048576 := by
  unfold pgAt
  split
  · rename_i h
    rw [sl_len]
    obtain ⟨-, h2, -⟩ := h
    unfold getPg at h2 ⊢
    split at h2
    · rename_i hc
      rw [if_pos hc]
      have := hc.2.2.2.2.2
      show (getText _ _ _).1.size ≤ _
      omega
    · cases h2
  · simp
theorem lawPageAt (v : Value) (D : PDisk) (n k : Int) (w : World) (h : KView w v D) (hm : KLim D) :
    Calls Try.prog 8 #[v, .int .i64 n, .int .i64 k] w fun e w' => e = .returned (.bool true) ∧ Below w.heap.size w w' :=
  lawPageAtOf v D n k (pgAt D n k).1 (pgAt D n k).2 w h hm (fun W u hf hu => pageAt_spec u D n k W hu hf) (fun W u hf hu => pageAt_impl u D n k W hu hf) (fun _ => pgAt_short D n k)
end Go.Proofs.Ytphipmhibegbnaa

