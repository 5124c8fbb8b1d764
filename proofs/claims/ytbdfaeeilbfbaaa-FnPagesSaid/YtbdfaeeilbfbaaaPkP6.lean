/-
  Together: PageGet, PageCut, Big, At, SameB
-/
import Derived.Test.YtbdfaeeilbfbaaaPkP4
import Derived.Test.YtbdfaeeilbfbaaaPkP5
import Derived.Test.YtbdfaeeilbfbaaaPkP3
import Derived.Test.YtbdfaeeilbfbaaaPkP1
import Derived.Test.YtbdfaeeilbfbaaaPkP2
/-
  The program's GetPage and the model's: what is read as a page, in memory of its own.
-/
namespace Go.Proofs.Ytbdfaeeilbfbaaa
open Go.RowKit
set_option maxRecDepth 4000

/-- What GetPage comes to. -/
def PgTo (w : World) (r : Int × ByteArray × Bool) (e : Ending) (w' : World) : Prop := ∃ g c, e = .returned (.tuple #[.int .i64 r.1, .slice (some ⟨g, 0, none⟩) r.2.1.size c, .bool r.2.2]) ∧ w.heap.size ≤ g ∧ r.2.1.size ≤ c ∧ RowZ 5 w' g r.2.1.size (fun i => (sl r.2.1).getD i 0) ∧ Below w.heap.size w w'
theorem pgTo_no {w w1 : World} {b : Nat} (hb : Below w.heap.size w w1) (hw : b = w1.heap.size) : PgTo w (0, strOfNums [], false) (.returned (.tuple #[.int .i64 0, .slice (some ⟨b, 0, none⟩) 0 0, .bool false])) (w1.alloc (.cells #[] 5)) := by
  subst hw
  exact ⟨_, 0, rfl, hb.size, Nat.le_refl _, RowZ.ofRow (noRow _ _ _), hb.alloc hb.size _⟩
theorem getU_none13 {n : Nat} {f : Nat → Int} {p a q : Int} (h : getU n f p = (a, q, false)) : a = 0 ∧ q = 0 := by
  unfold getU at h
  repeat' split at h
  all_goals first | (simp at h; done) | (cases h; exact ⟨rfl, rfl⟩)
theorem getU_zero (f : Nat → Int) : getU 0 f 0 = (0, 0, false) := by unfold getU; rw [if_pos (by right; decide)]
theorem getText_zero (f : Nat → Int) : getText 0 f 0 = (strOfNums [], 0, false) := by unfold getText; rw [getU_zero, if_neg (by simp)]
theorem getPg_bad {n : Nat} {f : Nat → Int} (h : sumGood n f = false) : getPg n f = (0, strOfNums [], false) := by
  unfold getPg; rw [if_neg (by simp [h])]
theorem getPg_sum {n : Nat} {f : Nat → Int} {k q r : Int} {s : ByteArray} {a b : Bool} (hg : sumGood n f = true) (h1 : getU (n - 4) f 0 = (k, q, a)) (h2 : getText (n - 4) f q = (s, r, b)) : getPg n f = if a = true ∧ b = true ∧ r = ((n - 4 : Nat) : Int) ∧ (k = 1 ∨ k = 2) ∧ s.size ≤ 240 then (k, s, true) else (0, strOfNums [], false) := by
  unfold getPg
  rw [h1, h2]
  simp only [hg, true_and]
/-- What the sum gives. -/
def SumGives (fn : Nat) (ao : Option Addr) (n cap : Nat) (f : Nat → Int) (N : Nat) (B : Bool) (w : World) : Prop := Calls Try.prog fn #[.slice ao n cap] w fun e w' =>
    ∃ g c, e = .returned (.tuple #[.slice (some ⟨g, 0, none⟩) N c, .bool B]) ∧ w.heap.size ≤ g ∧ N ≤ c ∧ Row 5 w' g N f ∧ Below w.heap.size w w'

set_option maxHeartbeats 1000000 in
theorem sumFew_impl (ao : Option Addr) (n cap : Nat) (f : Nat → Int) (hn : n < 4) (w : World) : SumGives 70 ao n cap f 0 false w := by
  have hz : (n : Int) - 4 < 0 := by omega
  have hz2 : (n : Int) < 4 := by omega
  unfold SumGives
  go_enter Try.func70, Try.ntmps70
  go_wp2
  go_ret2
  exact ⟨_, _, rfl, Nat.le_refl _, Nat.le_refl _, noRow _ _ _, (Below.refl _ _).alloc (Nat.le_refl _) _⟩
theorem sumBad_impl (ao : Option Addr) (n cap : Nat) (f : Nat → Int) (w : World) (ha : 4 ≤ n → ∃ b, ao = some ⟨b, 0, none⟩) (hv : View w ao n cap f) (hn : n ≤ 1048576) (hg : sumGood n f = false) : SumGives 70 ao n cap f 0 false w := by
  by_cases h4 : n < 4
  · exact sumFew_impl ao n cap f h4 w
  · obtain ⟨b, rfl⟩ := ha (by omega)
    obtain ⟨m, rfl⟩ : ∃ m, n = m + 4 := ⟨n - 4, by omega⟩
    have h : last4 m f ≠ (crc m f : Int) := by simpa [sumGood] using hg
    exact getSum_impl_no m f hn hv.byte h b cap w hv
theorem sumYes_impl (b : Nat) (n cap : Nat) (f : Nat → Int) (w : World) (hv : View w (some ⟨b, 0, none⟩) n cap f) (hn : n ≤ 1048576) (hg : sumGood n f = true) : SumGives 70 (some ⟨b, 0, none⟩) n cap f (n - 4) true w := by
  have h' : 4 ≤ n ∧ last4 (n - 4) f = (crc (n - 4) f : Int) := by simpa [sumGood] using hg
  obtain ⟨m, rfl⟩ : ∃ m, n = m + 4 := ⟨n - 4, by omega⟩
  rw [Nat.add_sub_cancel] at h' ⊢
  exact getSum_impl_yes m f hn hv.byte h'.2 b cap w hv

set_option maxHeartbeats 1000000 in
theorem sumFew_spec (ao : Option Addr) (n cap : Nat) (f : Nat → Int) (hn : n < 4) (w : World) : SumGives 76 ao n cap f 0 false w := by
  have hz : (n : Int) - 4 < 0 := by omega
  have hz2 : (n : Int) < 4 := by omega
  unfold SumGives
  go_enter Try.func76, Try.ntmps76
  go_wp2
  go_ret2
  exact ⟨_, _, rfl, Nat.le_refl _, Nat.le_refl _, noRow _ _ _, (Below.refl _ _).alloc (Nat.le_refl _) _⟩
theorem sumBad_spec (ao : Option Addr) (n cap : Nat) (f : Nat → Int) (w : World) (ha : 4 ≤ n → ∃ b, ao = some ⟨b, 0, none⟩) (hv : View w ao n cap f) (hn : n ≤ 1048576) (hg : sumGood n f = false) : SumGives 76 ao n cap f 0 false w := by
  by_cases h4 : n < 4
  · exact sumFew_spec ao n cap f h4 w
  · obtain ⟨b, rfl⟩ := ha (by omega)
    obtain ⟨m, rfl⟩ : ∃ m, n = m + 4 := ⟨n - 4, by omega⟩
    have h : last4 m f ≠ (crc m f : Int) := by simpa [sumGood] using hg
    exact getSum_spec_all m f hn hv.byte 0 false (.inr ⟨h, rfl, rfl⟩) b cap w hv
theorem sumYes_spec (b : Nat) (n cap : Nat) (f : Nat → Int) (w : World) (hv : View w (some ⟨b, 0, none⟩) n cap f) (hn : n ≤ 1048576) (hg : sumGood n f = true) : SumGives 76 (some ⟨b, 0, none⟩) n cap f (n - 4) true w := by
  have h' : 4 ≤ n ∧ last4 (n - 4) f = (crc (n - 4) f : Int) := by simpa [sumGood] using hg
  obtain ⟨m, rfl⟩ : ∃ m, n = m + 4 := ⟨n - 4, by omega⟩
  rw [Nat.add_sub_cancel] at h' ⊢
  exact getSum_spec_all m f hn hv.byte m true (.inl ⟨h'.2, rfl, rfl⟩) b cap w hv

set_option maxHeartbeats 4000000 in
theorem getPage_spec (ao : Option Addr) (n cap : Nat) (f : Nat → Int) (w : World) (ha : 4 ≤ n → ∃ b, ao = some ⟨b, 0, none⟩) (hv : View w ao n cap f) (hn : n ≤ 1048576) :
    Calls Try.prog 34 #[.slice ao n cap] w (PgTo w (getPg n f)) := by
  by_cases hg : sumGood n f = true
  case neg =>
    have hg' : sumGood n f = false := by simpa using hg
    have HG : Hid (getPg n f = (0, strOfNums [], false)) := getPg_bad hg'
    have hS := sumBad_spec ao n cap f w ha hv hn hg'
    unfold SumGives at hS
    obtain ⟨M, hM⟩ : ∃ M, Hid (M = 0) := ⟨0, rfl⟩
    obtain ⟨q, hq⟩ : ∃ q : Int, Hid (q = 0) := ⟨0, rfl⟩
    obtain ⟨s, hs⟩ : ∃ s, Hid (s = strOfNums []) := ⟨_, rfl⟩
    obtain ⟨r, hr⟩ : ∃ r : Int, Hid (r = 0) := ⟨0, rfl⟩
    obtain ⟨gd, hgd⟩ : ∃ gd, Hid (gd = false) := ⟨_, rfl⟩
    have hU : Hid (getU M f 0 = (0, q, false)) := by show _ = _; rw [hM.out, hq.out]; exact getU_zero f
    have hT : Hid (getText M f q = (s, r, gd)) := by show _ = _; rw [hM.out, hq.out, hs.out, hr.out, hgd.out]; exact getText_zero f
    have HY : Hid (∀ i, i < M → 0 ≤ f i ∧ f i ≤ 255) := fun i hi => by rw [hM.out] at hi; omega
    have hMl : M ≤ 1048576 := by rw [hM.out]; omega
    have hql : q ≤ 9223372036854775807 := by rw [hq.out]; omega
    have hS' : Calls Try.prog 76 #[.slice ao n cap] w fun e w' => ∃ g c, e = .returned (.tuple #[.slice (some ⟨g, 0, none⟩) M c, .bool false]) ∧ w.heap.size ≤ g ∧ M ≤ c ∧ Row 5 w' g M f ∧ Below w.heap.size w w' := by rw [hM.out]; exact hS
    clear hS
    have hS := hS'
    clear hS' hM hq hs hr hgd
    go_enter Try.func34, Try.ntmps34
    go_wp2_with fail
    refine hS.mono ?_
    rintro e w1 ⟨g1, c1, rfl, hg1, hc1, hr1, hb1⟩
    have hv1 := hr1.view hc1 HY.out
    go_wp2_with fail
    refine (getU_spec' _ M c1 f 0 w1 hU hv1 (by omega) (by omega)).mono ?_
    rintro e _ ⟨rfl, rfl⟩
    go_wp2_with fail
    refine (getText_spec g1 0 M c1 f q w1 s r gd hT hv1 (by omega) (by omega)).mono ?_
    rintro e _ ⟨rfl, rfl⟩
    clear hv1 hr1
    go_wp2
    go_ret3
    rw [HG.out]
    exact pgTo_no hb1 rfl
  have h4 : 4 ≤ n := by
    have : 4 ≤ n ∧ last4 (n - 4) f = (crc (n - 4) f : Int) := by simpa [sumGood] using hg
    exact this.1
  obtain ⟨b, rfl⟩ := ha h4
  have hS := sumYes_spec b n cap f w hv hn hg
  unfold SumGives at hS
  obtain ⟨M, hM⟩ : ∃ M, Hid (n - 4 = M) := ⟨_, rfl⟩
  obtain ⟨k, q, is, hU⟩ : ∃ a r c, Hid (getU M f 0 = (a, r, c)) := ⟨_, _, _, rfl⟩
  obtain ⟨s, r, gd, hT⟩ : ∃ a r c, Hid (getText M f q = (a, r, c)) := ⟨_, _, _, rfl⟩
  have HP := getPg_sum (n := n) (f := f) (k := k) (q := q) (r := r) (s := s) (a := is) (b := gd) hg (by rw [hM.out]; exact hU.out) (by rw [hM.out]; exact hT.out)
  have HI : is = true → gd = true → (pageF k s = lof n f ↔ (r = (M : Int) ∧ (k = 1 ∨ k = 2) ∧ s.size ≤ 240)) := by
    rintro rfl rfl
    rw [← hM.out]
    exact page_iff hv.byte hg (by rw [hM.out]; exact hU.out) (by rw [hM.out]; exact hT.out)
  rw [hM.out] at hS HP
  have HY : Hid (∀ i, i < M → 0 ≤ f i ∧ f i ≤ 255) := fun i hi => hv.byte i (by rw [← hM.out] at hi; omega)
  have hMl : M ≤ 1048576 := by rw [← hM.out]; omega
  have hkb : -9223372036854775808 ≤ k ∧ k ≤ 9223372036854775807 := by
    cases is with
    | true => have := getU_bd HY.out hU.out; omega
    | false => have := getU_none13 hU.out; omega
  have hql : q ≤ 9223372036854775807 := by
    cases is with
    | true => have := getU_bd HY.out hU.out; omega
    | false => have := getU_none13 hU.out; omega
  have hsl : is = true → gd = true → s.size ≤ 1000000 ∧ 0 ≤ r ∧ r ≤ M := by
    rintro rfl rfl
    obtain ⟨hA, hr, -, -, h3⟩ := page_inner HY.out hU.out hT.out
    have := hA.le
    exact ⟨h3, by omega, by omega⟩
  clear hM
  cases is with
  | false =>
    have HG : Hid (getPg n f = (0, strOfNums [], false)) := by show _ = _; rw [HP, if_neg (by simp)]
    clear HP HI hsl
    go_enter Try.func34, Try.ntmps34
    go_wp2_with fail
    refine hS.mono ?_
    rintro e w1 ⟨g1, c1, rfl, hg1, hc1, hr1, hb1⟩
    have hv1 := hr1.view hc1 HY.out
    go_wp2_with fail
    refine (getU_spec' _ M c1 f 0 w1 hU hv1 (by omega) (by omega)).mono ?_
    rintro e _ ⟨rfl, rfl⟩
    go_wp2_with fail
    refine (getText_spec g1 0 M c1 f q w1 s r gd hT hv1 (by omega) (by omega)).mono ?_
    rintro e _ ⟨rfl, rfl⟩
    clear hv1 hr1
    go_wp2
    go_ret3
    rw [HG.out]
    exact pgTo_no hb1 rfl
  | true =>
  cases gd with
  | false =>
    have HG : Hid (getPg n f = (0, strOfNums [], false)) := by show _ = _; rw [HP, if_neg (by simp)]
    clear HP HI hsl
    go_enter Try.func34, Try.ntmps34
    go_wp2_with fail
    refine hS.mono ?_
    rintro e w1 ⟨g1, c1, rfl, hg1, hc1, hr1, hb1⟩
    have hv1 := hr1.view hc1 HY.out
    go_wp2_with fail
    refine (getU_spec' _ M c1 f 0 w1 hU hv1 (by omega) (by omega)).mono ?_
    rintro e _ ⟨rfl, rfl⟩
    go_wp2_with fail
    refine (getText_spec g1 0 M c1 f q w1 s r false hT hv1 (by omega) (by omega)).mono ?_
    rintro e _ ⟨rfl, rfl⟩
    clear hv1 hr1
    go_wp2
    go_ret3
    rw [HG.out]
    exact pgTo_no hb1 rfl
  | true =>
  obtain ⟨hs1, hr0, hr1'⟩ := hsl rfl rfl
  clear hsl
  clear HI
  by_cases hrm : r = (M : Int)
  case neg =>
    have HG : Hid (getPg n f = (0, strOfNums [], false)) := by show _ = _; rw [HP, if_neg (fun h => hrm h.2.2.1)]
    have hne : (r == (M : Int)) = false := beq_eq_false_iff_ne.2 hrm
    clear HP
    go_enter Try.func34, Try.ntmps34
    go_wp2_with fail
    refine hS.mono ?_
    rintro e w1 ⟨g1, c1, rfl, hg1, hc1, hr1, hb1⟩
    have hv1 := hr1.view hc1 HY.out
    go_wp2_with fail
    refine (getU_spec' _ M c1 f 0 w1 hU hv1 (by omega) (by omega)).mono ?_
    rintro e _ ⟨rfl, rfl⟩
    go_wp2_with fail
    refine (getText_spec g1 0 M c1 f q w1 s r true hT hv1 (by omega) (by omega)).mono ?_
    rintro e _ ⟨rfl, rfl⟩
    clear hv1 hr1
    go_wp2
    go_ret3
    rw [HG.out]
    exact pgTo_no hb1 rfl
  subst hrm
  have hne : ((M : Int) == (M : Int)) = true := beq_self_eq_true _
  by_cases hk : k = 1 ∨ k = 2
  case neg =>
    have HG : Hid (getPg n f = (0, strOfNums [], false)) := by show _ = _; rw [HP, if_neg (fun h => hk h.2.2.2.1)]
    have hV := fun W => l1In_no k 1 2 W (by omega)
    clear HP
    go_enter Try.func34, Try.ntmps34
    go_wp2_with fail
    refine hS.mono ?_
    rintro e w1 ⟨g1, c1, rfl, hg1, hc1, hr1, hb1⟩
    have hv1 := hr1.view hc1 HY.out
    go_wp2_with fail
    refine (getU_spec' _ M c1 f 0 w1 hU hv1 (by omega) (by omega)).mono ?_
    rintro e _ ⟨rfl, rfl⟩
    go_wp2_with fail
    refine (getText_spec g1 0 M c1 f q w1 s _ true hT hv1 (by omega) (by omega)).mono ?_
    rintro e _ ⟨rfl, rfl⟩
    clear hv1 hr1
    go_wp2_with fail
    refine (hV _).mono ?_
    rintro e _ ⟨rfl, rfl⟩
    go_wp2
    go_ret3
    rw [HG.out]
    exact pgTo_no hb1 rfl
  have hV := fun W => l1In_yes k 1 2 W (by omega) (by omega)
  by_cases hs2 : s.size ≤ 240
  case neg =>
    have HG : Hid (getPg n f = (0, strOfNums [], false)) := by show _ = _; rw [HP, if_neg (fun h => hs2 h.2.2.2.2)]
    have hz : (240 : Int) < s.size := by omega
    clear HP
    go_enter Try.func34, Try.ntmps34
    go_wp2_with fail
    refine hS.mono ?_
    rintro e w1 ⟨g1, c1, rfl, hg1, hc1, hr1, hb1⟩
    have hv1 := hr1.view hc1 HY.out
    go_wp2_with fail
    refine (getU_spec' _ M c1 f 0 w1 hU hv1 (by omega) (by omega)).mono ?_
    rintro e _ ⟨rfl, rfl⟩
    go_wp2_with fail
    refine (getText_spec g1 0 M c1 f q w1 s _ true hT hv1 (by omega) (by omega)).mono ?_
    rintro e _ ⟨rfl, rfl⟩
    clear hv1 hr1
    go_wp2_with fail
    refine (hV _).mono ?_
    rintro e _ ⟨rfl, rfl⟩
    go_wp2
    go_ret3
    rw [HG.out]
    exact pgTo_no hb1 rfl
  have HG : Hid (getPg n f = (k, s, true)) := by show _ = _; rw [HP, if_pos ⟨rfl, rfl, rfl, hk, hs2⟩]
  have hz : ¬ (240 : Int) < s.size := by omega
  have kc := fun w => run_bytes_of_string (P := Try.prog) w 9 22 5 s Try.underlying9 Try.underlying22 Try.underlying5
  clear HP
  go_enter Try.func34, Try.ntmps34
  go_wp2_with fail
  refine hS.mono ?_
  rintro e w1 ⟨g1, c1, rfl, hg1, hc1, hr1, hb1⟩
  have hv1 := hr1.view hc1 HY.out
  go_wp2_with fail
  refine (getU_spec' _ M c1 f 0 w1 hU hv1 (by omega) (by omega)).mono ?_
  rintro e _ ⟨rfl, rfl⟩
  go_wp2_with fail
  refine (getText_spec g1 0 M c1 f q w1 s _ true hT hv1 (by omega) (by omega)).mono ?_
  rintro e _ ⟨rfl, rfl⟩
  clear hv1 hr1
  go_wp2_with fail
  refine (hV _).mono ?_
  rintro e _ ⟨rfl, rfl⟩
  clear hV
  go_wp2
  go_ret3
  rw [HG.out]
  exact ⟨_, _, rfl, hb1.size, grownCap_ge _ _ _ _, (text_row w1 s _).of_block rfl, hb1.drew.alloc hb1.size _⟩

set_option maxHeartbeats 4000000 in
theorem getPage_impl (ao : Option Addr) (n cap : Nat) (f : Nat → Int) (w : World) (ha : 4 ≤ n → ∃ b, ao = some ⟨b, 0, none⟩) (hv : View w ao n cap f) (hn : n ≤ 1048576) :
    Calls Try.prog 31 #[.slice ao n cap] w (PgTo w (getPg n f)) := by
  by_cases hg : sumGood n f = true
  case neg =>
    have hg' : sumGood n f = false := by simpa using hg
    have HG : Hid (getPg n f = (0, strOfNums [], false)) := getPg_bad hg'
    have hS := sumBad_impl ao n cap f w ha hv hn hg'
    unfold SumGives at hS
    obtain ⟨M, hM⟩ : ∃ M, Hid (M = 0) := ⟨0, rfl⟩
    obtain ⟨q, hq⟩ : ∃ q : Int, Hid (q = 0) := ⟨0, rfl⟩
    obtain ⟨s, hs⟩ : ∃ s, Hid (s = strOfNums []) := ⟨_, rfl⟩
    obtain ⟨r, hr⟩ : ∃ r : Int, Hid (r = 0) := ⟨0, rfl⟩
    obtain ⟨gd, hgd⟩ : ∃ gd, Hid (gd = false) := ⟨_, rfl⟩
    have hU : Hid (getU M f 0 = (0, q, false)) := by show _ = _; rw [hM.out, hq.out]; exact getU_zero f
    have hT : Hid (getText M f q = (s, r, gd)) := by show _ = _; rw [hM.out, hq.out, hs.out, hr.out, hgd.out]; exact getText_zero f
    have HY : Hid (∀ i, i < M → 0 ≤ f i ∧ f i ≤ 255) := fun i hi => by rw [hM.out] at hi; omega
    have hMl : M ≤ 1048576 := by rw [hM.out]; omega
    have hql : q ≤ 9223372036854775807 := by rw [hq.out]; omega
    have hS' : Calls Try.prog 70 #[.slice ao n cap] w fun e w' => ∃ g c, e = .returned (.tuple #[.slice (some ⟨g, 0, none⟩) M c, .bool false]) ∧ w.heap.size ≤ g ∧ M ≤ c ∧ Row 5 w' g M f ∧ Below w.heap.size w w' := by rw [hM.out]; exact hS
    clear hS
    have hS := hS'
    clear hS' hM hq hs hr hgd
    go_enter Try.func31, Try.ntmps31
    go_wp2_with fail
    refine hS.mono ?_
    rintro e w1 ⟨g1, c1, rfl, hg1, hc1, hr1, hb1⟩
    have hv1 := hr1.view hc1 HY.out
    go_wp2_with fail
    refine (getU_impl' _ M c1 f 0 w1 hU hv1 (by omega) (by omega)).mono ?_
    rintro e _ ⟨rfl, rfl⟩
    go_wp2_with fail
    refine (getText_impl g1 0 M c1 f q w1 s r gd hT hv1 (by omega) (by omega)).mono ?_
    rintro e _ ⟨rfl, rfl⟩
    clear hv1 hr1
    go_wp2
    go_ret3
    rw [HG.out]
    exact pgTo_no hb1 rfl
  have h4 : 4 ≤ n := by
    have : 4 ≤ n ∧ last4 (n - 4) f = (crc (n - 4) f : Int) := by simpa [sumGood] using hg
    exact this.1
  obtain ⟨b, rfl⟩ := ha h4
  have hS := sumYes_impl b n cap f w hv hn hg
  unfold SumGives at hS
  obtain ⟨M, hM⟩ : ∃ M, Hid (n - 4 = M) := ⟨_, rfl⟩
  obtain ⟨k, q, is, hU⟩ : ∃ a r c, Hid (getU M f 0 = (a, r, c)) := ⟨_, _, _, rfl⟩
  obtain ⟨s, r, gd, hT⟩ : ∃ a r c, Hid (getText M f q = (a, r, c)) := ⟨_, _, _, rfl⟩
  have HP := getPg_sum (n := n) (f := f) (k := k) (q := q) (r := r) (s := s) (a := is) (b := gd) hg (by rw [hM.out]; exact hU.out) (by rw [hM.out]; exact hT.out)
  have HI : is = true → gd = true → (pageF k s = lof n f ↔ (r = (M : Int) ∧ (k = 1 ∨ k = 2) ∧ s.size ≤ 240)) := by
    rintro rfl rfl
    rw [← hM.out]
    exact page_iff hv.byte hg (by rw [hM.out]; exact hU.out) (by rw [hM.out]; exact hT.out)
  rw [hM.out] at hS HP
  have HY : Hid (∀ i, i < M → 0 ≤ f i ∧ f i ≤ 255) := fun i hi => hv.byte i (by rw [← hM.out] at hi; omega)
  have hMl : M ≤ 1048576 := by rw [← hM.out]; omega
  have hkb : -9223372036854775808 ≤ k ∧ k ≤ 9223372036854775807 := by
    cases is with
    | true => have := getU_bd HY.out hU.out; omega
    | false => have := getU_none13 hU.out; omega
  have hql : q ≤ 9223372036854775807 := by
    cases is with
    | true => have := getU_bd HY.out hU.out; omega
    | false => have := getU_none13 hU.out; omega
  have hsl : is = true → gd = true → s.size ≤ 1000000 ∧ 0 ≤ r ∧ r ≤ M := by
    rintro rfl rfl
    obtain ⟨hA, hr, -, -, h3⟩ := page_inner HY.out hU.out hT.out
    have := hA.le
    exact ⟨h3, by omega, by omega⟩
  clear hM
  cases is with
  | false =>
    have HG : Hid (getPg n f = (0, strOfNums [], false)) := by show _ = _; rw [HP, if_neg (by simp)]
    clear HP HI hsl
    go_enter Try.func31, Try.ntmps31
    go_wp2_with fail
    refine hS.mono ?_
    rintro e w1 ⟨g1, c1, rfl, hg1, hc1, hr1, hb1⟩
    have hv1 := hr1.view hc1 HY.out
    go_wp2_with fail
    refine (getU_impl' _ M c1 f 0 w1 hU hv1 (by omega) (by omega)).mono ?_
    rintro e _ ⟨rfl, rfl⟩
    go_wp2_with fail
    refine (getText_impl g1 0 M c1 f q w1 s r gd hT hv1 (by omega) (by omega)).mono ?_
    rintro e _ ⟨rfl, rfl⟩
    clear hv1 hr1
    go_wp2
    go_ret3
    rw [HG.out]
    exact pgTo_no hb1 rfl
  | true =>
  cases gd with
  | false =>
    have HG : Hid (getPg n f = (0, strOfNums [], false)) := by show _ = _; rw [HP, if_neg (by simp)]
    clear HP HI hsl
    go_enter Try.func31, Try.ntmps31
    go_wp2_with fail
    refine hS.mono ?_
    rintro e w1 ⟨g1, c1, rfl, hg1, hc1, hr1, hb1⟩
    have hv1 := hr1.view hc1 HY.out
    go_wp2_with fail
    refine (getU_impl' _ M c1 f 0 w1 hU hv1 (by omega) (by omega)).mono ?_
    rintro e _ ⟨rfl, rfl⟩
    go_wp2_with fail
    refine (getText_impl g1 0 M c1 f q w1 s r false hT hv1 (by omega) (by omega)).mono ?_
    rintro e _ ⟨rfl, rfl⟩
    clear hv1 hr1
    go_wp2
    go_ret3
    rw [HG.out]
    exact pgTo_no hb1 rfl
  | true =>
  obtain ⟨hs1, hr0, hr1'⟩ := hsl rfl rfl
  clear hsl
  have HI1 : Hid (pageF k s = lof n f ↔ (r = (M : Int) ∧ (k = 1 ∨ k = 2) ∧ s.size ≤ 240)) := HI rfl rfl
  clear HI
  have HP1 := HP
  clear HP
  have HP : Hid (getPg n f = _) := HP1
  clear HP1
  have kc := fun w => run_bytes_of_string (P := Try.prog) w 9 22 5 s Try.underlying9 Try.underlying22 Try.underlying5
  have HE : Hid (((strOfNums (lof (pageF k s).length (fun i => (pageF k s).getD i 0))).toList == (strOfNums (lof n f)).toList) = decide (pageF k s = lof n f)) := by
    show _ = _
    rw [lof_self, Bool.eq_iff_iff, beq_iff_eq, decide_eq_true_eq]
    constructor
    · intro h
      refine strOfNums_inj (pageF_byte k s) (lof_byteS hv.byte) ?_
      rw [ByteArray.toList_eq, ByteArray.toList_eq] at h
      exact ByteArray.ext (Array.ext' h)
    · intro h; rw [h]
  have HPP : ∀ (g cp : Nat) (W : World), s.size ≤ cp → RowZ 5 W g s.size (fun i => (sl s).getD i 0) → Calls Try.prog 30 #[.int .i64 k, .slice (some ⟨g, 0, none⟩) s.size cp] W (PageTo W (pageF k s)) := by
    intro g cp W hc hz
    have el : lof s.size (fun i => (sl s).getD i 0) = sl s := by
      have := lof_self (sl s)
      rw [sl_len] at this
      exact this
    have := putPage_impl g 0 s.size cp (fun i => (sl s).getD i 0) k W (hz.view hc (by have := bytes_of_list (sl_byte s); rw [sl_len] at this; exact this)) (by omega) hkb.1 hkb.2
    rw [el, strOfNums_sl] at this
    exact this
  have HV : Hid (View w (some ⟨b, 0, none⟩) n cap f) := hv
  have hpb := pageF_byte k s
  obtain ⟨L, hL⟩ : ∃ L, Hid (pageF k s = L) := ⟨_, rfl⟩
  rw [hL.out] at HI1 HE HPP hpb
  have HPB : Hid (∀ y ∈ L, 0 ≤ y ∧ y ≤ 255) := hpb
  clear hpb hv
  go_enter Try.func31, Try.ntmps31
  go_wp2_with fail
  refine hS.mono ?_
  rintro e w1 ⟨g1, c1, rfl, hg1, hc1, hr1, hb1⟩
  have hv1 := hr1.view hc1 HY.out
  go_wp2_with fail
  refine (getU_impl' _ M c1 f 0 w1 hU hv1 (by omega) (by omega)).mono ?_
  rintro e _ ⟨rfl, rfl⟩
  go_wp2_with fail
  refine (getText_impl g1 0 M c1 f q w1 s r true hT hv1 (by omega) (by omega)).mono ?_
  rintro e _ ⟨rfl, rfl⟩
  clear hv1 hr1
  go_wp2_with fail
  obtain ⟨cp, hcp⟩ : ∃ cp, cp = grownCap w1 s.size 0 5 := ⟨_, rfl⟩
  have hge : s.size ≤ cp := by rw [hcp]; exact grownCap_ge _ _ _ _
  rw [← hcp]
  clear hcp
  have hb2 : Below w.heap.size w (w1.alloc (.cells (bytesRow s cp) 5 ((bytesRow s cp).size, (bytesRow s cp).size + 1))).drew := (hb1.alloc hb1.size _).drew
  have hz2 : RowZ 5 (w1.alloc (.cells (bytesRow s cp) 5 ((bytesRow s cp).size, (bytesRow s cp).size + 1))).drew w1.heap.size s.size (fun i => (sl s).getD i 0) := (text_row w1 s cp).of_block rfl
  refine (HPP w1.heap.size cp _ hge hz2).mono ?_
  rintro e w3 ⟨g3, c3, rfl, hg3, hc3, hr3, hb3⟩
  replace hb3 := hb2.trans (hb3.mono hb2.size)
  clear hb2 hz2 HPP
  go_wp2_with fail
  refine (equal_any g3 0 L.length c3 _ b 0 n cap f w3 (hr3.view hc3 (bytes_of_list HPB.out)) (HV.out.below hb3)).mono ?_
  rintro e _ ⟨he, rfl⟩
  rw [HE.out] at he
  subst he
  clear HE hr3 HPB
  by_cases hq : L = lof n f
  · have HG : Hid (getPg n f = (k, s, true)) := by show _ = _; rw [HP.out, if_pos ⟨trivial, trivial, HI1.out.1 hq⟩]
    have hd : decide (L = lof n f) = true := by simpa using hq
    rw [hd]
    clear HP HI1 hq hd
    go_wp2
    go_ret3
    rw [HG.out]
    exact ⟨_, _, rfl, hb3.size, grownCap_ge _ _ _ _, (text_row w3 s _).of_block rfl, hb3.drew.alloc hb3.size _⟩
  · have HG : Hid (getPg n f = (0, strOfNums [], false)) := by show _ = _; rw [HP.out, if_neg (fun h => hq (HI1.out.2 h.2.2))]
    have hd : decide (L = lof n f) = false := by simpa using hq
    rw [hd]
    clear HP HI1 hq hd kc
    go_wp2
    go_ret3
    rw [HG.out]
    exact pgTo_no hb3 rfl
end Go.Proofs.Ytbdfaeeilbfbaaa

/-
  A page that is cut is none; one with a byte turned is none.
-/
namespace Go.Proofs.Ytbdfaeeilbfbaaa
open Go.RowKit
set_option maxRecDepth 4000

theorem AtF.more {N M : Nat} {F : Nat → Int} {i : Nat} {L : List Int} (h : AtF N F i L) (hM : N ≤ M) : AtF M F i L := ⟨by have := h.le; omega, h.at'⟩
theorem inn_same {N : Nat} {f : Nat → Int} {k k' : Int} {s s' : ByteArray} (hk : 0 ≤ k ∧ k ≤ 1000000) (hk' : 0 ≤ k' ∧ k' ≤ 1000000) (hs : s.size ≤ 1000000) (hs' : s'.size ≤ 1000000) (h : AtF N f 0 (innL k s)) (h' : AtF N f 0 (innL k' s')) : k = k' ∧ s = s' := by
  have e1 := getU_at (x := k) hk.1 hk.2 (AtF.left (L := groups k) (K := txtL s) h)
  have e2 := getU_at (x := k') hk'.1 hk'.2 (AtF.left (L := groups k') (K := txtL s') h')
  rw [e1] at e2
  simp only [Prod.mk.injEq] at e2
  obtain ⟨rfl, -, -⟩ := e2
  have g1 := getText_at hs (AtF.right (L := groups k) (K := txtL s) h)
  have g2 := getText_at hs' (AtF.right (L := groups k) (K := txtL s') h')
  rw [g1] at g2
  simp only [Prod.mk.injEq] at g2
  exact ⟨rfl, g2.1⟩
theorem page_at {n : Nat} {f : Nat → Int} {k : Int} {s : ByteArray} (h : pageL k s = lof n f) : AtF n f 0 (innL k s) := by
  have hl := congrArg List.length h
  rw [pageL_len, lof_len] at hl
  refine ⟨by omega, fun j hj => ?_⟩
  rw [Nat.zero_add, ← lof_get n f j (by omega), ← h]
  exact getD_left _ _ _ hj
/-- What is cut is none. -/
theorem page_cut {k : Int} {s : ByteArray} {f : Nat → Int} {j : Nat} (hk : k = 1 ∨ k = 2) (hs : s.size ≤ 240) (hf : ∀ i, i < (pageL k s).length → f i = (pageL k s).getD i 0) (hj : j < (pageL k s).length) : getPg j f = (0, strOfNums [], false) := by
  by_cases h : (getPg j f).2.2 = true
  · exfalso
    have hfb : ∀ i, i < j → 0 ≤ f i ∧ f i ≤ 255 := fun i hi => by rw [hf i (by omega)]; exact bytes_of_list (pageL_byte hk hs) i (by omega)
    obtain ⟨hk', hs', e⟩ := getPg_read (k := (getPg j f).1) (s := (getPg j f).2.1) hfb (Prod.ext rfl (Prod.ext rfl h))
    have hall : pageL k s = lof (pageL k s).length f := (lof_all _ rfl hf).symm
    obtain ⟨e1, e2⟩ := inn_same (N := (pageL k s).length) (by omega) (by omega) (by omega) (by omega) (page_at hall) ((page_at e).more (by omega))
    rw [← e1, ← e2] at e
    have := congrArg List.length e
    rw [lof_len] at this
    omega
  · exact getPg_none (by simpa using h)
theorem page_sum {k : Int} {s : ByteArray} {f : Nat → Int} (hk : k = 1 ∨ k = 2) (hs : s.size ≤ 240) (hf : ∀ i, i < (pageL k s).length → f i = (pageL k s).getD i 0) : sumGood (pageL k s).length f = true := by
  have h := getPg_put hk hs hf
  unfold getPg at h
  split at h
  · rename_i hc; exact hc.1
  · cases h
/-- With a byte turned it is none. -/
theorem page_turned {k : Int} {s : ByteArray} {f : Nat → Int} {j : Nat} {v : Int} (hk : k = 1 ∨ k = 2) (hs : s.size ≤ 240) (hf : ∀ i, i < (pageL k s).length → f i = (pageL k s).getD i 0) (hj : j < (pageL k s).length) (hv : 0 ≤ v ∧ v ≤ 255) (hne : v ≠ f j) : getPg (pageL k s).length (fun i => if i = j then v else f i) = (0, strOfNums [], false) := by
  have hg := page_sum hk hs hf
  have hg' : 4 ≤ (pageL k s).length ∧ last4 ((pageL k s).length - 4) f = (crc ((pageL k s).length - 4) f : Int) := by simpa [sumGood] using hg
  obtain ⟨m, hm⟩ : ∃ m, (pageL k s).length = m + 4 := ⟨(pageL k s).length - 4, by omega⟩
  have hfb : ∀ i, i < m + 4 → 0 ≤ f i ∧ f i ≤ 255 := fun i hi => by rw [hf i (by omega)]; exact bytes_of_list (pageL_byte hk hs) i (by omega)
  rw [hm] at hg' hj ⊢
  rw [Nat.add_sub_cancel] at hg'
  have ht := sum_turned hfb hg'.2 hj hv hne
  unfold getPg
  rw [if_neg]
  intro hc
  have := hc.1
  simp only [sumGood, decide_eq_true_eq, Nat.add_sub_cancel] at this
  exact ht this.2
end Go.Proofs.Ytbdfaeeilbfbaaa

/-
  Whether a code is too long.
-/
namespace Go.Proofs.Ytbdfaeeilbfbaaa
open Go.RowKit
set_option maxRecDepth 4000

theorem big_any (ao : Option Addr) (n cap : Nat) (w : World) (_hn : n ≤ 9223372036854775807) :
    Calls Try.prog 8 #[.slice ao n cap] w fun e w' => e = .returned (.bool (decide ((1048576 : Int) < (n : Int)))) ∧ w = w' := by
  go_enter Try.func8, Try.ntmps8
  go_wp2
  go_ret
  exact ⟨rfl, rfl⟩

end Go.Proofs.Ytbdfaeeilbfbaaa

/-
  What the law's own helper at comes to: a byte of the code, or a number in its stead.
-/
namespace Go.Proofs.Ytbdfaeeilbfbaaa
open Go.RowKit
set_option maxRecDepth 4000

/-- The code's byte at a small place, or a number in its stead. -/
def atN (n : Nat) (f : Nat → Int) (i : Nat) : Nat := if i < n then (f i).toNat else (i * 31 + n * 7) % 256
theorem atN_le (n : Nat) (f : Nat → Int) (i : Nat) (hf : ∀ i, i < n → 0 ≤ f i ∧ f i ≤ 255) : atN n f i ≤ 255 := by
  unfold atN
  split
  · have := hf i (by assumption); omega
  · omega
theorem at_val (ao : Option Addr) (n cap : Nat) (f : Nat → Int) (i : Nat) (z : Int) (x : Nat) (w : World) (hx : Hid (atN n f i = x)) (hv : View w ao n cap f) (hn : n ≤ 1048576) (hi : i ≤ 64) (hz : z = (i : Int)) :
    Calls Try.prog 32 #[.slice ao n cap, .int .i64 z] w fun e w' => e = .returned (.int .i64 (x : Int)) ∧ w = w' := by
  subst hz
  by_cases hlt : i < n
  · have hx' : (f i).toNat = x := by have := hx.out; unfold atN at this; rw [if_pos hlt] at this; exact this
    clear hx
    obtain ⟨b, off, rfl, hb, hc⟩ := hv.cells (by omega)
    have hz : (i : Int) < (n : Int) := by omega
    have hc1 := hc i hlt
    have hbi := hv.byte i hlt
    rw [show f i = (x : Int) by omega] at hc1
    have hxb : x ≤ 255 := by omega
    clear hc hx' hbi
    go_enter Try.func32, Try.ntmps32
    go_wp2
    go_ret
    exact ⟨rfl, rfl⟩
  · have hx' : (i * 31 + n * 7) % 256 = x := by have := hx.out; unfold atN at this; rw [if_neg hlt] at this; exact this
    have HX : Hid ((i * 31 + n * 7) % 256 = x) := hx'
    clear hx hx'
    have hz : (n : Int) ≤ (i : Int) := by omega
    go_enter Try.func32, Try.ntmps32
    go_wp2
    go_ret
    have hE : ((i : Int) * 31 + (n : Int) * 7) % 256 = (x : Int) := by have := HX.out; omega
    rw [hE]
    exact ⟨rfl, rfl⟩
end Go.Proofs.Ytbdfaeeilbfbaaa

/-
  What the law's own helpers sameBytes and begins come to, at every two slices of bytes that read.
-/
namespace Go.Proofs.Ytbdfaeeilbfbaaa
open Go.RowKit
set_option maxRecDepth 4000

set_option maxHeartbeats 1000000 in
theorem sameBytes_any (a1 a2 : Option Addr) (n m c1 c2 : Nat) (f g : Nat → Int) (w : World) (h1 : View w a1 n c1 f) (h2 : View w a2 m c2 g) (hn : n ≤ 281474976710656) (hm : m ≤ 281474976710656) :
    Calls Try.prog 16 #[.slice a1 n c1, .slice a2 m c2] w fun e w' => e = .returned (.bool (decide (lof n f = lof m g))) ∧ Below w.heap.size w w' := by
  by_cases hnm : n = m
  · subst hnm
    have q0 : ((n : Int) != (n : Int)) = false := by simp
    go_enter Try.func16, Try.ntmps16
    go_wp2
    go_loopg [5] n (fun q i wr => ∃ k : Nat, k ≤ n ∧ q = n - k ∧ i = .int .i64 k ∧ Below w.heap.size w wr ∧ ∀ j, j < k → f j = g j)
    case atStart => exact ⟨0, Nat.zero_le _, rfl, rfl, Below.refl _ _, fun j hj => absurd hj (Nat.not_lt_zero _)⟩
    case round =>
      obtain ⟨k, hk, rfl, rfl, hB, hE⟩ := hrel
      have HE : Hid (∀ j, j < k → f j = g j) := hE
      clear hE
      by_cases hlt : k < n
      · obtain ⟨b1, o1, rfl, hb1, hc1⟩ := h1.cells (by omega)
        obtain ⟨b2, o2, rfl, hb2, hc2⟩ := h2.cells (by omega)
        have hkz : (k : Int) < (n : Int) := by omega
        have e1 : wr.cell? ⟨b1, o1 + k, none⟩ = some (.int .u8 (f k)) := by rw [hB.cell (p := ⟨b1, o1 + k, none⟩) hb1]; exact hc1 k hlt
        have e2 : wr.cell? ⟨b2, o2 + k, none⟩ = some (.int .u8 (g k)) := by rw [hB.cell (p := ⟨b2, o2 + k, none⟩) hb2]; exact hc2 k hlt
        clear hc1 hc2
        by_cases he : f k = g k
        · have q1 : (f k != g k) = false := by simpa using he
          have HE2 : Hid (∀ j, j < k + 1 → f j = g j) := fun j hj => by
            by_cases e : j = k
            · subst e; exact he
            · exact HE.out j (by omega)
          clear he
          go_wp2
          go_region
          all_goals go_wp2
          all_goals
            go_roundg (n - (k + 1))
            case measure => omega
            case rel => exact ⟨k + 1, by omega, rfl, by go_num, by first | exact hB.drew | exact hB, HE2.out⟩
        · have q1 : (f k != g k) = true := by simpa using he
          have HD : Hid (decide (lof n f = lof n g) = false) := by
            show _ = _
            rw [decide_eq_false_iff_not, lof_eq]
            exact fun h => he (h k hlt)
          clear he
          go_wp2
          go_region
          all_goals go_wp2
          all_goals
            go_ret
            exact ⟨by rw [HD.out]; rfl, by first | exact hB.drew | exact hB⟩
      · obtain rfl : k = n := by omega
        have HD : Hid (decide (lof k f = lof k g) = true) := by
          show _ = _
          rw [decide_eq_true_iff, lof_eq]
          exact HE.out
        go_wp2
        go_ret
        exact ⟨by rw [HD.out]; rfl, hB⟩
  · have q0 : ((n : Int) != (m : Int)) = true := by simp; omega
    have HD : Hid (decide (lof n f = lof m g) = false) := by
      show _ = _
      rw [decide_eq_false_iff_not]
      intro h
      have := congrArg List.length h
      rw [lof_len, lof_len] at this
      exact hnm this
    go_enter Try.func16, Try.ntmps16
    go_wp2
    go_ret
    exact ⟨by rw [HD.out]; rfl, Below.refl _ _⟩
end Go.Proofs.Ytbdfaeeilbfbaaa

