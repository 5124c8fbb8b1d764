/-
  Together: PageGet, MetaGet, MetaGetS, ReadSecS, OwnZ, ReadLen, BestPlain
-/
import Derived.Test.YtdhfbblameiloaaBE15
import Derived.Test.YtdhfbblameiloaaBE20
import Derived.Test.YtdhfbblameiloaaBE19
import Derived.Test.YtdhfbblameiloaaBE5
import Derived.Test.YtdhfbblameiloaaBE4
import Derived.Test.YtdhfbblameiloaaBE6
import Derived.Test.YtdhfbblameiloaaBE2
/-
  The program's GetPage and the model's: what is read as a page, in memory of its own.
-/
namespace Go.Proofs.Ytdhfbblameiloaa
open Go.RowKit
set_option maxRecDepth 4000

/-- What GetPage comes to. -/
def PgTo (w : World) (r : Int × ByteArray × Bool) (e : Ending) (w' : World) : Prop := ∃ g c, e = .returned (.tuple #[.int .i64 r.1, .slice (some ⟨g, 0, none⟩) r.2.1.size c, .bool r.2.2]) ∧ w.heap.size ≤ g ∧ r.2.1.size ≤ c ∧ RowZ 5 w' g r.2.1.size (fun i => (sl r.2.1).getD i 0) ∧ Below w.heap.size w w'
theorem pgTo_no {w w1 : World} {b : Nat} (hb : Below w.heap.size w w1) (hw : b = w1.heap.size) : PgTo w (0, strOfNums [], false) (.returned (.tuple #[.int .i64 0, .slice (some ⟨b, 0, none⟩) 0 0, .bool false])) (w1.alloc (.cells #[] 5)) := by
  subst hw
  exact ⟨_, 0, rfl, hb.size, Nat.le_refl _, RowZ.ofRow (noRow _ _ _), hb.alloc hb.size _⟩
theorem getU_none13 {n : Nat} {f : Nat → Int} {p a q : Int} (h : getU n f p = (a, q, false)) : a = 0 ∧ q = 0 := by
  unfold getU at h
  repeat' split at h
  all_goals first | (simp at h; done) | (cases h; exact ⟨rfl, rfl⟩)
theorem getU_zero (f : Nat → Int) : getU 0 f 0 = (0, 0, false) := by unfold getU; rw [if_pos (by right; decide)]
theorem getText_zero (f : Nat → Int) : getText 0 f 0 = (strOfNums [], 0, false) := by unfold getText; rw [getU_zero, if_neg (by simp)]
theorem getPg_bad {n : Nat} {f : Nat → Int} (h : sumGood n f = false) : getPg n f = (0, strOfNums [], false) := by
  unfold getPg; rw [if_neg (by simp [h])]
theorem getPg_sum {n : Nat} {f : Nat → Int} {k q r : Int} {s : ByteArray} {a b : Bool} (hg : sumGood n f = true) (h1 : getU (n - 4) f 0 = (k, q, a)) (h2 : getText (n - 4) f q = (s, r, b)) : getPg n f = if a = true ∧ b = true ∧ r = ((n - 4 : Nat) : Int) ∧ (k = 1 ∨ k = 2) ∧ s.size ≤ 240 then (k, s, true) else (0, strOfNums [], false) := by
  unfold getPg
  rw [h1, h2]
  simp only [hg, true_and]
/-- What the sum gives. -/
def SumGives (fn : Nat) (ao : Option Addr) (n cap : Nat) (f : Nat → Int) (N : Nat) (B : Bool) (w : World) : Prop := Calls Try.prog fn #[.slice ao n cap] w fun e w' =>
    ∃ g c, e = .returned (.tuple #[.slice (some ⟨g, 0, none⟩) N c, .bool B]) ∧ w.heap.size ≤ g ∧ N ≤ c ∧ Row 5 w' g N f ∧ Below w.heap.size w w'

set_option maxHeartbeats 1000000 in
theorem sumFew_impl (ao : Option Addr) (n cap : Nat) (f : Nat → Int) (hn : n < 4) (w : World) : SumGives 97 ao n cap f 0 false w := by
  have hz : (n : Int) - 4 < 0 := by omega
  have hz2 : (n : Int) < 4 := by omega
  unfold SumGives
  go_enter Try.func97, Try.ntmps97
  go_wp2
  go_ret2
  exact ⟨_, _, rfl, Nat.le_refl _, Nat.le_refl _, noRow _ _ _, (Below.refl _ _).alloc (Nat.le_refl _) _⟩
theorem sumBad_impl (ao : Option Addr) (n cap : Nat) (f : Nat → Int) (w : World) (ha : 4 ≤ n → ∃ b, ao = some ⟨b, 0, none⟩) (hv : View w ao n cap f) (hn : n ≤ 1048576) (hg : sumGood n f = false) : SumGives 97 ao n cap f 0 false w := by
  by_cases h4 : n < 4
  · exact sumFew_impl ao n cap f h4 w
  · obtain ⟨b, rfl⟩ := ha (by omega)
    obtain ⟨m, rfl⟩ : ∃ m, n = m + 4 := ⟨n - 4, by omega⟩
    have h : last4 m f ≠ (crc m f : Int) := by simpa [sumGood] using hg
    exact getSum_impl_no m f hn hv.byte h b cap w hv
theorem sumYes_impl (b : Nat) (n cap : Nat) (f : Nat → Int) (w : World) (hv : View w (some ⟨b, 0, none⟩) n cap f) (hn : n ≤ 1048576) (hg : sumGood n f = true) : SumGives 97 (some ⟨b, 0, none⟩) n cap f (n - 4) true w := by
  have h' : 4 ≤ n ∧ last4 (n - 4) f = (crc (n - 4) f : Int) := by simpa [sumGood] using hg
  obtain ⟨m, rfl⟩ : ∃ m, n = m + 4 := ⟨n - 4, by omega⟩
  rw [Nat.add_sub_cancel] at h' ⊢
  exact getSum_impl_yes m f hn hv.byte h'.2 b cap w hv

set_option maxHeartbeats 1000000 in
theorem sumFew_spec (ao : Option Addr) (n cap : Nat) (f : Nat → Int) (hn : n < 4) (w : World) : SumGives 101 ao n cap f 0 false w := by
  have hz : (n : Int) - 4 < 0 := by omega
  have hz2 : (n : Int) < 4 := by omega
  unfold SumGives
  go_enter Try.func101, Try.ntmps101
  go_wp2
  go_ret2
  exact ⟨_, _, rfl, Nat.le_refl _, Nat.le_refl _, noRow _ _ _, (Below.refl _ _).alloc (Nat.le_refl _) _⟩
theorem sumBad_spec (ao : Option Addr) (n cap : Nat) (f : Nat → Int) (w : World) (ha : 4 ≤ n → ∃ b, ao = some ⟨b, 0, none⟩) (hv : View w ao n cap f) (hn : n ≤ 1048576) (hg : sumGood n f = false) : SumGives 101 ao n cap f 0 false w := by
  by_cases h4 : n < 4
  · exact sumFew_spec ao n cap f h4 w
  · obtain ⟨b, rfl⟩ := ha (by omega)
    obtain ⟨m, rfl⟩ : ∃ m, n = m + 4 := ⟨n - 4, by omega⟩
    have h : last4 m f ≠ (crc m f : Int) := by simpa [sumGood] using hg
    exact getSum_spec_all m f hn hv.byte 0 false (.inr ⟨h, rfl, rfl⟩) b cap w hv
theorem sumYes_spec (b : Nat) (n cap : Nat) (f : Nat → Int) (w : World) (hv : View w (some ⟨b, 0, none⟩) n cap f) (hn : n ≤ 1048576) (hg : sumGood n f = true) : SumGives 101 (some ⟨b, 0, none⟩) n cap f (n - 4) true w := by
  have h' : 4 ≤ n ∧ last4 (n - 4) f = (crc (n - 4) f : Int) := by simpa [sumGood] using hg
  obtain ⟨m, rfl⟩ : ∃ m, n = m + 4 := ⟨n - 4, by omega⟩
  rw [Nat.add_sub_cancel] at h' ⊢
  exact getSum_spec_all m f hn hv.byte m true (.inl ⟨h'.2, rfl, rfl⟩) b cap w hv

set_option maxHeartbeats 4000000 in
theorem getPage_spec (ao : Option Addr) (n cap : Nat) (f : Nat → Int) (w : World) (ha : 4 ≤ n → ∃ b, ao = some ⟨b, 0, none⟩) (hv : View w ao n cap f) (hn : n ≤ 1048576) :
    Calls Try.prog 40 #[.slice ao n cap] w (PgTo w (getPg n f)) := by
  by_cases hg : sumGood n f = true
  case neg =>
    have hg' : sumGood n f = false := by simpa using hg
    have HG : Hid (getPg n f = (0, strOfNums [], false)) := getPg_bad hg'
    have hS := sumBad_spec ao n cap f w ha hv hn hg'
    unfold SumGives at hS
    obtain ⟨M, hM⟩ : ∃ M, Hid (M = 0) := ⟨0, rfl⟩
    obtain ⟨q, hq⟩ : ∃ q : Int, Hid (q = 0) := ⟨0, rfl⟩
    obtain ⟨s, hs⟩ : ∃ s, Hid (s = strOfNums []) := ⟨_, rfl⟩
    obtain ⟨r, hr⟩ : ∃ r : Int, Hid (r = 0) := ⟨0, rfl⟩
    obtain ⟨gd, hgd⟩ : ∃ gd, Hid (gd = false) := ⟨_, rfl⟩
    have hU : Hid (getU M f 0 = (0, q, false)) := by show _ = _; rw [hM.out, hq.out]; exact getU_zero f
    have hT : Hid (getText M f q = (s, r, gd)) := by show _ = _; rw [hM.out, hq.out, hs.out, hr.out, hgd.out]; exact getText_zero f
    have HY : Hid (∀ i, i < M → 0 ≤ f i ∧ f i ≤ 255) := fun i hi => by rw [hM.out] at hi; omega
    have hMl : M ≤ 1048576 := by rw [hM.out]; omega
    have hql : q ≤ 9223372036854775807 := by rw [hq.out]; omega
    have hS' : Calls Try.prog 101 #[.slice ao n cap] w fun e w' => ∃ g c, e = .returned (.tuple #[.slice (some ⟨g, 0, none⟩) M c, .bool false]) ∧ w.heap.size ≤ g ∧ M ≤ c ∧ Row 5 w' g M f ∧ Below w.heap.size w w' := by rw [hM.out]; exact hS
    clear hS
    have hS := hS'
    clear hS' hM hq hs hr hgd
    go_enter Try.func40, Try.ntmps40
    go_wp2_with fail
    refine hS.mono ?_
    rintro e w1 ⟨g1, c1, rfl, hg1, hc1, hr1, hb1⟩
    have hv1 := hr1.view hc1 HY.out
    go_wp2_with fail
    refine (getU_spec' _ M c1 f 0 w1 hU hv1 (by omega) (by omega)).mono ?_
    rintro e _ ⟨rfl, rfl⟩
    go_wp2_with fail
    refine (getText_spec g1 0 M c1 f q w1 s r gd hT hv1 (by omega) (by omega)).mono ?_
    rintro e _ ⟨rfl, rfl⟩
    clear hv1 hr1
    go_wp2
    go_ret3
    rw [HG.out]
    exact pgTo_no hb1 rfl
  have h4 : 4 ≤ n := by
    have : 4 ≤ n ∧ last4 (n - 4) f = (crc (n - 4) f : Int) := by simpa [sumGood] using hg
    exact this.1
  obtain ⟨b, rfl⟩ := ha h4
  have hS := sumYes_spec b n cap f w hv hn hg
  unfold SumGives at hS
  obtain ⟨M, hM⟩ : ∃ M, Hid (n - 4 = M) := ⟨_, rfl⟩
  obtain ⟨k, q, is, hU⟩ : ∃ a r c, Hid (getU M f 0 = (a, r, c)) := ⟨_, _, _, rfl⟩
  obtain ⟨s, r, gd, hT⟩ : ∃ a r c, Hid (getText M f q = (a, r, c)) := ⟨_, _, _, rfl⟩
  have HP := getPg_sum (n := n) (f := f) (k := k) (q := q) (r := r) (s := s) (a := is) (b := gd) hg (by rw [hM.out]; exact hU.out) (by rw [hM.out]; exact hT.out)
  have HI : is = true → gd = true → (pageF k s = lof n f ↔ (r = (M : Int) ∧ (k = 1 ∨ k = 2) ∧ s.size ≤ 240)) := by
    rintro rfl rfl
    rw [← hM.out]
    exact page_iff hv.byte hg (by rw [hM.out]; exact hU.out) (by rw [hM.out]; exact hT.out)
  rw [hM.out] at hS HP
  have HY : Hid (∀ i, i < M → 0 ≤ f i ∧ f i ≤ 255) := fun i hi => hv.byte i (by rw [← hM.out] at hi; omega)
  have hMl : M ≤ 1048576 := by rw [← hM.out]; omega
  have hkb : -9223372036854775808 ≤ k ∧ k ≤ 9223372036854775807 := by
    cases is with
    | true => have := getU_bd HY.out hU.out; omega
    | false => have := getU_none13 hU.out; omega
  have hql : q ≤ 9223372036854775807 := by
    cases is with
    | true => have := getU_bd HY.out hU.out; omega
    | false => have := getU_none13 hU.out; omega
  have hsl : is = true → gd = true → s.size ≤ 1000000 ∧ 0 ≤ r ∧ r ≤ M := by
    rintro rfl rfl
    obtain ⟨hA, hr, -, -, h3⟩ := page_inner HY.out hU.out hT.out
    have := hA.le
    exact ⟨h3, by omega, by omega⟩
  clear hM
  cases is with
  | false =>
    have HG : Hid (getPg n f = (0, strOfNums [], false)) := by show _ = _; rw [HP, if_neg (by simp)]
    clear HP HI hsl
    go_enter Try.func40, Try.ntmps40
    go_wp2_with fail
    refine hS.mono ?_
    rintro e w1 ⟨g1, c1, rfl, hg1, hc1, hr1, hb1⟩
    have hv1 := hr1.view hc1 HY.out
    go_wp2_with fail
    refine (getU_spec' _ M c1 f 0 w1 hU hv1 (by omega) (by omega)).mono ?_
    rintro e _ ⟨rfl, rfl⟩
    go_wp2_with fail
    refine (getText_spec g1 0 M c1 f q w1 s r gd hT hv1 (by omega) (by omega)).mono ?_
    rintro e _ ⟨rfl, rfl⟩
    clear hv1 hr1
    go_wp2
    go_ret3
    rw [HG.out]
    exact pgTo_no hb1 rfl
  | true =>
  cases gd with
  | false =>
    have HG : Hid (getPg n f = (0, strOfNums [], false)) := by show _ = _; rw [HP, if_neg (by simp)]
    clear HP HI hsl
    go_enter Try.func40, Try.ntmps40
    go_wp2_with fail
    refine hS.mono ?_
    rintro e w1 ⟨g1, c1, rfl, hg1, hc1, hr1, hb1⟩
    have hv1 := hr1.view hc1 HY.out
    go_wp2_with fail
    refine (getU_spec' _ M c1 f 0 w1 hU hv1 (by omega) (by omega)).mono ?_
    rintro e _ ⟨rfl, rfl⟩
    go_wp2_with fail
    refine (getText_spec g1 0 M c1 f q w1 s r false hT hv1 (by omega) (by omega)).mono ?_
    rintro e _ ⟨rfl, rfl⟩
    clear hv1 hr1
    go_wp2
    go_ret3
    rw [HG.out]
    exact pgTo_no hb1 rfl
  | true =>
  obtain ⟨hs1, hr0, hr1'⟩ := hsl rfl rfl
  clear hsl
  clear HI
  by_cases hrm : r = (M : Int)
  case neg =>
    have HG : Hid (getPg n f = (0, strOfNums [], false)) := by show _ = _; rw [HP, if_neg (fun h => hrm h.2.2.1)]
    have hne : (r == (M : Int)) = false := beq_eq_false_iff_ne.2 hrm
    clear HP
    go_enter Try.func40, Try.ntmps40
    go_wp2_with fail
    refine hS.mono ?_
    rintro e w1 ⟨g1, c1, rfl, hg1, hc1, hr1, hb1⟩
    have hv1 := hr1.view hc1 HY.out
    go_wp2_with fail
    refine (getU_spec' _ M c1 f 0 w1 hU hv1 (by omega) (by omega)).mono ?_
    rintro e _ ⟨rfl, rfl⟩
    go_wp2_with fail
    refine (getText_spec g1 0 M c1 f q w1 s r true hT hv1 (by omega) (by omega)).mono ?_
    rintro e _ ⟨rfl, rfl⟩
    clear hv1 hr1
    go_wp2
    go_ret3
    rw [HG.out]
    exact pgTo_no hb1 rfl
  subst hrm
  have hne : ((M : Int) == (M : Int)) = true := beq_self_eq_true _
  by_cases hk : k = 1 ∨ k = 2
  case neg =>
    have HG : Hid (getPg n f = (0, strOfNums [], false)) := by show _ = _; rw [HP, if_neg (fun h => hk h.2.2.2.1)]
    have hV := fun W => l1In_no k 1 2 W (by omega)
    clear HP
    go_enter Try.func40, Try.ntmps40
    go_wp2_with fail
    refine hS.mono ?_
    rintro e w1 ⟨g1, c1, rfl, hg1, hc1, hr1, hb1⟩
    have hv1 := hr1.view hc1 HY.out
    go_wp2_with fail
    refine (getU_spec' _ M c1 f 0 w1 hU hv1 (by omega) (by omega)).mono ?_
    rintro e _ ⟨rfl, rfl⟩
    go_wp2_with fail
    refine (getText_spec g1 0 M c1 f q w1 s _ true hT hv1 (by omega) (by omega)).mono ?_
    rintro e _ ⟨rfl, rfl⟩
    clear hv1 hr1
    go_wp2_with fail
    refine (hV _).mono ?_
    rintro e _ ⟨rfl, rfl⟩
    go_wp2
    go_ret3
    rw [HG.out]
    exact pgTo_no hb1 rfl
  have hV := fun W => l1In_yes k 1 2 W (by omega) (by omega)
  by_cases hs2 : s.size ≤ 240
  case neg =>
    have HG : Hid (getPg n f = (0, strOfNums [], false)) := by show _ = _; rw [HP, if_neg (fun h => hs2 h.2.2.2.2)]
    have hz : (240 : Int) < s.size := by omega
    clear HP
    go_enter Try.func40, Try.ntmps40
    go_wp2_with fail
    refine hS.mono ?_
    rintro e w1 ⟨g1, c1, rfl, hg1, hc1, hr1, hb1⟩
    have hv1 := hr1.view hc1 HY.out
    go_wp2_with fail
    refine (getU_spec' _ M c1 f 0 w1 hU hv1 (by omega) (by omega)).mono ?_
    rintro e _ ⟨rfl, rfl⟩
    go_wp2_with fail
    refine (getText_spec g1 0 M c1 f q w1 s _ true hT hv1 (by omega) (by omega)).mono ?_
    rintro e _ ⟨rfl, rfl⟩
    clear hv1 hr1
    go_wp2_with fail
    refine (hV _).mono ?_
    rintro e _ ⟨rfl, rfl⟩
    go_wp2
    go_ret3
    rw [HG.out]
    exact pgTo_no hb1 rfl
  have HG : Hid (getPg n f = (k, s, true)) := by show _ = _; rw [HP, if_pos ⟨rfl, rfl, rfl, hk, hs2⟩]
  have hz : ¬ (240 : Int) < s.size := by omega
  have kc := fun w => run_bytes_of_string (P := Try.prog) w 9 27 5 s Try.underlying9 Try.underlying27 Try.underlying5
  clear HP
  go_enter Try.func40, Try.ntmps40
  go_wp2_with fail
  refine hS.mono ?_
  rintro e w1 ⟨g1, c1, rfl, hg1, hc1, hr1, hb1⟩
  have hv1 := hr1.view hc1 HY.out
  go_wp2_with fail
  refine (getU_spec' _ M c1 f 0 w1 hU hv1 (by omega) (by omega)).mono ?_
  rintro e _ ⟨rfl, rfl⟩
  go_wp2_with fail
  refine (getText_spec g1 0 M c1 f q w1 s _ true hT hv1 (by omega) (by omega)).mono ?_
  rintro e _ ⟨rfl, rfl⟩
  clear hv1 hr1
  go_wp2_with fail
  refine (hV _).mono ?_
  rintro e _ ⟨rfl, rfl⟩
  clear hV
  go_wp2
  go_ret3
  rw [HG.out]
  exact ⟨_, _, rfl, hb1.size, grownCap_ge _ _ _ _, (text_row w1 s _).of_block rfl, hb1.drew.alloc hb1.size _⟩

set_option maxHeartbeats 4000000 in
theorem getPage_impl (ao : Option Addr) (n cap : Nat) (f : Nat → Int) (w : World) (ha : 4 ≤ n → ∃ b, ao = some ⟨b, 0, none⟩) (hv : View w ao n cap f) (hn : n ≤ 1048576) :
    Calls Try.prog 39 #[.slice ao n cap] w (PgTo w (getPg n f)) := by
  by_cases hg : sumGood n f = true
  case neg =>
    have hg' : sumGood n f = false := by simpa using hg
    have HG : Hid (getPg n f = (0, strOfNums [], false)) := getPg_bad hg'
    have hS := sumBad_impl ao n cap f w ha hv hn hg'
    unfold SumGives at hS
    obtain ⟨M, hM⟩ : ∃ M, Hid (M = 0) := ⟨0, rfl⟩
    obtain ⟨q, hq⟩ : ∃ q : Int, Hid (q = 0) := ⟨0, rfl⟩
    obtain ⟨s, hs⟩ : ∃ s, Hid (s = strOfNums []) := ⟨_, rfl⟩
    obtain ⟨r, hr⟩ : ∃ r : Int, Hid (r = 0) := ⟨0, rfl⟩
    obtain ⟨gd, hgd⟩ : ∃ gd, Hid (gd = false) := ⟨_, rfl⟩
    have hU : Hid (getU M f 0 = (0, q, false)) := by show _ = _; rw [hM.out, hq.out]; exact getU_zero f
    have hT : Hid (getText M f q = (s, r, gd)) := by show _ = _; rw [hM.out, hq.out, hs.out, hr.out, hgd.out]; exact getText_zero f
    have HY : Hid (∀ i, i < M → 0 ≤ f i ∧ f i ≤ 255) := fun i hi => by rw [hM.out] at hi; omega
    have hMl : M ≤ 1048576 := by rw [hM.out]; omega
    have hql : q ≤ 9223372036854775807 := by rw [hq.out]; omega
    have hS' : Calls Try.prog 97 #[.slice ao n cap] w fun e w' => ∃ g c, e = .returned (.tuple #[.slice (some ⟨g, 0, none⟩) M c, .bool false]) ∧ w.heap.size ≤ g ∧ M ≤ c ∧ Row 5 w' g M f ∧ Below w.heap.size w w' := by rw [hM.out]; exact hS
    clear hS
    have hS := hS'
    clear hS' hM hq hs hr hgd
    go_enter Try.func39, Try.ntmps39
    go_wp2_with fail
    refine hS.mono ?_
    rintro e w1 ⟨g1, c1, rfl, hg1, hc1, hr1, hb1⟩
    have hv1 := hr1.view hc1 HY.out
    go_wp2_with fail
    refine (getU_impl' _ M c1 f 0 w1 hU hv1 (by omega) (by omega)).mono ?_
    rintro e _ ⟨rfl, rfl⟩
    go_wp2_with fail
    refine (getText_impl g1 0 M c1 f q w1 s r gd hT hv1 (by omega) (by omega)).mono ?_
    rintro e _ ⟨rfl, rfl⟩
    clear hv1 hr1
    go_wp2
    go_ret3
    rw [HG.out]
    exact pgTo_no hb1 rfl
  have h4 : 4 ≤ n := by
    have : 4 ≤ n ∧ last4 (n - 4) f = (crc (n - 4) f : Int) := by simpa [sumGood] using hg
    exact this.1
  obtain ⟨b, rfl⟩ := ha h4
  have hS := sumYes_impl b n cap f w hv hn hg
  unfold SumGives at hS
  obtain ⟨M, hM⟩ : ∃ M, Hid (n - 4 = M) := ⟨_, rfl⟩
  obtain ⟨k, q, is, hU⟩ : ∃ a r c, Hid (getU M f 0 = (a, r, c)) := ⟨_, _, _, rfl⟩
  obtain ⟨s, r, gd, hT⟩ : ∃ a r c, Hid (getText M f q = (a, r, c)) := ⟨_, _, _, rfl⟩
  have HP := getPg_sum (n := n) (f := f) (k := k) (q := q) (r := r) (s := s) (a := is) (b := gd) hg (by rw [hM.out]; exact hU.out) (by rw [hM.out]; exact hT.out)
  have HI : is = true → gd = true → (pageF k s = lof n f ↔ (r = (M : Int) ∧ (k = 1 ∨ k = 2) ∧ s.size ≤ 240)) := by
    rintro rfl rfl
    rw [← hM.out]
    exact page_iff hv.byte hg (by rw [hM.out]; exact hU.out) (by rw [hM.out]; exact hT.out)
  rw [hM.out] at hS HP
  have HY : Hid (∀ i, i < M → 0 ≤ f i ∧ f i ≤ 255) := fun i hi => hv.byte i (by rw [← hM.out] at hi; omega)
  have hMl : M ≤ 1048576 := by rw [← hM.out]; omega
  have hkb : -9223372036854775808 ≤ k ∧ k ≤ 9223372036854775807 := by
    cases is with
    | true => have := getU_bd HY.out hU.out; omega
    | false => have := getU_none13 hU.out; omega
  have hql : q ≤ 9223372036854775807 := by
    cases is with
    | true => have := getU_bd HY.out hU.out; omega
    | false => have := getU_none13 hU.out; omega
  have hsl : is = true → gd = true → s.size ≤ 1000000 ∧ 0 ≤ r ∧ r ≤ M := by
    rintro rfl rfl
    obtain ⟨hA, hr, -, -, h3⟩ := page_inner HY.out hU.out hT.out
    have := hA.le
    exact ⟨h3, by omega, by omega⟩
  clear hM
  cases is with
  | false =>
    have HG : Hid (getPg n f = (0, strOfNums [], false)) := by show _ = _; rw [HP, if_neg (by simp)]
    clear HP HI hsl
    go_enter Try.func39, Try.ntmps39
    go_wp2_with fail
    refine hS.mono ?_
    rintro e w1 ⟨g1, c1, rfl, hg1, hc1, hr1, hb1⟩
    have hv1 := hr1.view hc1 HY.out
    go_wp2_with fail
    refine (getU_impl' _ M c1 f 0 w1 hU hv1 (by omega) (by omega)).mono ?_
    rintro e _ ⟨rfl, rfl⟩
    go_wp2_with fail
    refine (getText_impl g1 0 M c1 f q w1 s r gd hT hv1 (by omega) (by omega)).mono ?_
    rintro e _ ⟨rfl, rfl⟩
    clear hv1 hr1
    go_wp2
    go_ret3
    rw [HG.out]
    exact pgTo_no hb1 rfl
  | true =>
  cases gd with
  | false =>
    have HG : Hid (getPg n f = (0, strOfNums [], false)) := by show _ = _; rw [HP, if_neg (by simp)]
    clear HP HI hsl
    go_enter Try.func39, Try.ntmps39
    go_wp2_with fail
    refine hS.mono ?_
    rintro e w1 ⟨g1, c1, rfl, hg1, hc1, hr1, hb1⟩
    have hv1 := hr1.view hc1 HY.out
    go_wp2_with fail
    refine (getU_impl' _ M c1 f 0 w1 hU hv1 (by omega) (by omega)).mono ?_
    rintro e _ ⟨rfl, rfl⟩
    go_wp2_with fail
    refine (getText_impl g1 0 M c1 f q w1 s r false hT hv1 (by omega) (by omega)).mono ?_
    rintro e _ ⟨rfl, rfl⟩
    clear hv1 hr1
    go_wp2
    go_ret3
    rw [HG.out]
    exact pgTo_no hb1 rfl
  | true =>
  obtain ⟨hs1, hr0, hr1'⟩ := hsl rfl rfl
  clear hsl
  have HI1 : Hid (pageF k s = lof n f ↔ (r = (M : Int) ∧ (k = 1 ∨ k = 2) ∧ s.size ≤ 240)) := HI rfl rfl
  clear HI
  have HP1 := HP
  clear HP
  have HP : Hid (getPg n f = _) := HP1
  clear HP1
  have kc := fun w => run_bytes_of_string (P := Try.prog) w 9 27 5 s Try.underlying9 Try.underlying27 Try.underlying5
  have HE : Hid (((strOfNums (lof (pageF k s).length (fun i => (pageF k s).getD i 0))).toList == (strOfNums (lof n f)).toList) = decide (pageF k s = lof n f)) := by
    show _ = _
    rw [lof_self, Bool.eq_iff_iff, beq_iff_eq, decide_eq_true_eq]
    constructor
    · intro h
      refine strOfNums_inj (pageF_byte k s) (lof_byteS hv.byte) ?_
      rw [ByteArray.toList_eq, ByteArray.toList_eq] at h
      exact ByteArray.ext (Array.ext' h)
    · intro h; rw [h]
  have HPP : ∀ (g cp : Nat) (W : World), s.size ≤ cp → RowZ 5 W g s.size (fun i => (sl s).getD i 0) → Calls Try.prog 44 #[.int .i64 k, .slice (some ⟨g, 0, none⟩) s.size cp] W (PageTo W (pageF k s)) := by
    intro g cp W hc hz
    have el : lof s.size (fun i => (sl s).getD i 0) = sl s := by
      have := lof_self (sl s)
      rw [sl_len] at this
      exact this
    have := putPage_impl g 0 s.size cp (fun i => (sl s).getD i 0) k W (hz.view hc (by have := bytes_of_list (sl_byte s); rw [sl_len] at this; exact this)) (by omega) hkb.1 hkb.2
    rw [el, strOfNums_sl] at this
    exact this
  have HV : Hid (View w (some ⟨b, 0, none⟩) n cap f) := hv
  have hpb := pageF_byte k s
  obtain ⟨L, hL⟩ : ∃ L, Hid (pageF k s = L) := ⟨_, rfl⟩
  rw [hL.out] at HI1 HE HPP hpb
  have HPB : Hid (∀ y ∈ L, 0 ≤ y ∧ y ≤ 255) := hpb
  clear hpb hv
  go_enter Try.func39, Try.ntmps39
  go_wp2_with fail
  refine hS.mono ?_
  rintro e w1 ⟨g1, c1, rfl, hg1, hc1, hr1, hb1⟩
  have hv1 := hr1.view hc1 HY.out
  go_wp2_with fail
  refine (getU_impl' _ M c1 f 0 w1 hU hv1 (by omega) (by omega)).mono ?_
  rintro e _ ⟨rfl, rfl⟩
  go_wp2_with fail
  refine (getText_impl g1 0 M c1 f q w1 s r true hT hv1 (by omega) (by omega)).mono ?_
  rintro e _ ⟨rfl, rfl⟩
  clear hv1 hr1
  go_wp2_with fail
  obtain ⟨cp, hcp⟩ : ∃ cp, cp = grownCap w1 s.size 0 5 := ⟨_, rfl⟩
  have hge : s.size ≤ cp := by rw [hcp]; exact grownCap_ge _ _ _ _
  rw [← hcp]
  clear hcp
  have hb2 : Below w.heap.size w (w1.alloc (.cells (bytesRow s cp) 5 ((bytesRow s cp).size, (bytesRow s cp).size + 1))).drew := (hb1.alloc hb1.size _).drew
  have hz2 : RowZ 5 (w1.alloc (.cells (bytesRow s cp) 5 ((bytesRow s cp).size, (bytesRow s cp).size + 1))).drew w1.heap.size s.size (fun i => (sl s).getD i 0) := (text_row w1 s cp).of_block rfl
  refine (HPP w1.heap.size cp _ hge hz2).mono ?_
  rintro e w3 ⟨g3, c3, rfl, hg3, hc3, hr3, hb3⟩
  replace hb3 := hb2.trans (hb3.mono hb2.size)
  clear hb2 hz2 HPP
  go_wp2_with fail
  refine (equal_any g3 0 L.length c3 _ b 0 n cap f w3 (hr3.view hc3 (bytes_of_list HPB.out)) (HV.out.below hb3)).mono ?_
  rintro e _ ⟨he, rfl⟩
  rw [HE.out] at he
  subst he
  clear HE hr3 HPB
  by_cases hq : L = lof n f
  · have HG : Hid (getPg n f = (k, s, true)) := by show _ = _; rw [HP.out, if_pos ⟨trivial, trivial, HI1.out.1 hq⟩]
    have hd : decide (L = lof n f) = true := by simpa using hq
    rw [hd]
    clear HP HI1 hq hd
    go_wp2
    go_ret3
    rw [HG.out]
    exact ⟨_, _, rfl, hb3.size, grownCap_ge _ _ _ _, (text_row w3 s _).of_block rfl, hb3.drew.alloc hb3.size _⟩
  · have HG : Hid (getPg n f = (0, strOfNums [], false)) := by show _ = _; rw [HP.out, if_neg (fun h => hq (HI1.out.2 h.2.2))]
    have hd : decide (L = lof n f) = false := by simpa using hq
    rw [hd]
    clear HP HI1 hq hd kc
    go_wp2
    go_ret3
    rw [HG.out]
    exact pgTo_no hb3 rfl
end Go.Proofs.Ytdhfbblameiloaa

/-
  The program's GetMeta and the model's: what is read as a root.
-/
namespace Go.Proofs.Ytdhfbblameiloaa
open Go.RowKit
set_option maxRecDepth 4000

/-- What GetMeta comes to. -/
def MeTo (w : World) (r : Int × Int × Bool) (e : Ending) (w' : World) : Prop := e = .returned (.tuple #[.agg #[.int .i64 r.1, .int .i64 r.2.1], .bool r.2.2]) ∧ Below w.heap.size w w'
theorem metaEq {L : List Int} {n : Nat} {f : Nat → Int} (hL : ∀ y ∈ L, 0 ≤ y ∧ y ≤ 255) (hf : ∀ i, i < n → 0 ≤ f i ∧ f i ≤ 255) : ((strOfNums (lof L.length (fun i => L.getD i 0))).toList == (strOfNums (lof n f)).toList) = decide (L = lof n f) := by
  rw [lof_self, Bool.eq_iff_iff, beq_iff_eq, decide_eq_true_eq]
  constructor
  · intro h
    refine strOfNums_inj hL (lof_byteS hf) ?_
    rw [ByteArray.toList_eq, ByteArray.toList_eq] at h
    exact ByteArray.ext (Array.ext' h)
  · intro h; rw [h]
theorem getU_lim {M : Nat} {F : Nat → Int} {p a q : Int} {c : Bool} (hb : ∀ i, i < M → 0 ≤ F i ∧ F i ≤ 255) (h : getU M F p = (a, q, c)) : 0 ≤ a ∧ a ≤ 1000000 ∧ 0 ≤ q ∧ q ≤ M := by
  cases c with
  | true =>
    obtain ⟨i, -, hA, hq, h0, h1⟩ := getU_read hb h
    have := hA.le
    omega
  | false =>
    obtain ⟨rfl, rfl⟩ := getU_none13 h
    omega
/-- What was read is no root. -/
theorem getMe_no {n : Nat} {f : Nat → Int} {k g q r e : Int} {s : ByteArray} {ok told led : Bool} (hp : getPg n f = (k, s, ok)) (ha : getU s.size (fun i => (sl s).getD i 0) 0 = (g, q, told)) (hb : getU s.size (fun i => (sl s).getD i 0) q = (r, e, led)) (h : ¬ (ok = true ∧ told = true ∧ led = true ∧ k = 2 ∧ e = (s.size : Int) ∧ metaOk g r = true)) : getMe n f = (0, 0, false) := by
  rw [getMe_is hp ha hb, if_neg h]

set_option maxHeartbeats 4000000 in
theorem implGetMeta_any (ao : Option Addr) (n cap : Nat) (f : Nat → Int) (w : World) (hao : 4 ≤ n → ∃ b, ao = some ⟨b, 0, none⟩) (hv : View w ao n cap f) (hn : n ≤ 1048576) :
    Calls Try.prog 47 #[.slice ao n cap] w (MeTo w (getMe n f)) := by
  obtain ⟨k, s, ok, hp⟩ : ∃ k s ok, Hid (getPg n f = (k, s, ok)) := ⟨_, _, _, rfl⟩
  obtain ⟨g, q, told, ha⟩ : ∃ g q told, Hid (getU s.size (fun i => (sl s).getD i 0) 0 = (g, q, told)) := ⟨_, _, _, rfl⟩
  obtain ⟨r, e, led, hb⟩ : ∃ r e led, Hid (getU s.size (fun i => (sl s).getD i 0) q = (r, e, led)) := ⟨_, _, _, rfl⟩
  have HY : Hid (∀ i, i < s.size → 0 ≤ (sl s).getD i 0 ∧ (sl s).getD i 0 ≤ 255) := by
    have := bytes_of_list (sl_byte s)
    rwa [sl_len] at this
  have l1 := getU_lim HY.out ha.out
  have l2 := getU_lim HY.out hb.out
  have HNO : Hid (¬ (ok = true ∧ told = true ∧ led = true ∧ k = 2 ∧ e = (s.size : Int) ∧ metaOk g r = true) → getMe n f = (0, 0, false)) := getMe_no hp.out ha.out hb.out
  have HIS : Hid (getMe n f = if ok = true ∧ told = true ∧ led = true ∧ k = 2 ∧ e = (s.size : Int) ∧ metaOk g r = true then (g, r, true) else (0, 0, false)) := getMe_is hp.out ha.out hb.out
  have hG := getPage_impl ao n cap f (w.alloc (.cells #[.int .i64 0, .int .i64 0] 64)) hao (hv.below ((Below.refl _ _).alloc (Nat.le_refl _) _)) hn
  rw [hp.out] at hG
  have hs : s.size ≤ 281474976710656 := by
    cases ok with
    | true => have := (getPg_read hv.byte hp.out).2.1; omega
    | false => have h2 := getPg_none (n := n) (f := f) (by rw [hp.out]); rw [hp.out] at h2; cases h2; rw [str_size]; simp
  have hbA : Below w.heap.size w (w.alloc (.cells #[.int .i64 0, .int .i64 0] 64)) := (Below.refl _ _).alloc (Nat.le_refl _) _
  have hR := MBox.new w 0 0
  have HCA : Hid (ok = true → ∃ b, ao = some ⟨b, 0, none⟩) := by
    intro h
    refine hao ?_
    by_cases h4 : 4 ≤ n
    · exact h4
    · have := getPg_bad (n := n) (f := f) (by unfold sumGood; simp; omega)
      rw [hp.out] at this
      cases this
      cases h
  have HV : Hid (View w ao n cap f) := hv
  have HFB : Hid (∀ i, i < n → 0 ≤ f i ∧ f i ≤ 255) := hv.byte
  clear hv hao
  go_enter Try.func47, Try.ntmps47
  go_wp2_with fail
  refine hG.mono ?_
  rintro e1 w1 ⟨g1, c1, rfl, hg1, hc1, hz1, hb1⟩
  have hv1 := hz1.view hc1 HY.out
  replace hR := hR.below hb1
  obtain ⟨x0, x1⟩ := hR.cells
  obtain ⟨r0, r1⟩ := hR.frozen
  have hxl := hR.lt
  have hB1 := hbA.trans (hb1.mono hbA.size)
  clear hG hz1 hg1 hb1 hbA
  go_wp2_with fail
  refine (getU_impl' _ s.size c1 _ 0 w1 ha hv1 (by omega) (by omega)).mono ?_
  rintro e1 _ ⟨rfl, rfl⟩
  go_wp2_with fail
  refine (getU_impl' _ s.size c1 _ q w1 hb hv1 (by omega) (by omega)).mono ?_
  rintro e1 _ ⟨rfl, rfl⟩
  clear hv1
  by_cases hall : ok = true ∧ told = true ∧ led = true
  case neg =>
    have HN : Hid (getMe n f = (0, 0, false)) := HNO.out (fun h => hall ⟨h.1, h.2.1, h.2.2.1⟩)
    clear HNO HIS HCA
    have hgs := stored2 (.int .i64 0) (.int .i64 0) x0 x1
    have HB : Hid (Below w.heap.size w ((w1.setCell ⟨w.heap.size, 0, none⟩ (.int .i64 0)).setCell ⟨w.heap.size, 1, none⟩ (.int .i64 0))) := (hB1.setCell (Nat.le_refl _) _).setCell (Nat.le_refl _) _
    clear HV HFB HY hp ha hb hR hB1
    cases ok with
    | false =>
      go_wp2
      exact bodyPost_ret (v := .tuple #[.agg #[.int .i64 0, .int .i64 0], .bool false]) (by simp [results, Try.results47, go_sem, hgs]) rfl (by rw [HN.out]; exact ⟨rfl, HB.out⟩)
    | true =>
      cases told with
      | false =>
        go_wp2
        exact bodyPost_ret (v := .tuple #[.agg #[.int .i64 0, .int .i64 0], .bool false]) (by simp [results, Try.results47, go_sem, hgs]) rfl (by rw [HN.out]; exact ⟨rfl, HB.out⟩)
      | true =>
        cases led with
        | false =>
          go_wp2
          exact bodyPost_ret (v := .tuple #[.agg #[.int .i64 0, .int .i64 0], .bool false]) (by simp [results, Try.results47, go_sem, hgs]) rfl (by rw [HN.out]; exact ⟨rfl, HB.out⟩)
        | true => exact absurd ⟨rfl, rfl, rfl⟩ hall
  case pos =>
    obtain ⟨rfl, rfl, rfl⟩ := hall
    obtain ⟨b, rfl⟩ := HCA.out rfl
    have HI : Hid (metaF g r = lof n f ↔ (k = 2 ∧ e = (s.size : Int) ∧ metaOk g r = true)) := meta_iff HFB.out hp.out ha.out hb.out
    have HE : Hid (((strOfNums (lof (metaF g r).length (fun i => (metaF g r).getD i 0))).toList == (strOfNums (lof n f)).toList) = decide (metaF g r = lof n f)) := metaEq (metaF_byte g r) HFB.out
    have HPB : Hid (∀ y ∈ metaF g r, 0 ≤ y ∧ y ≤ 255) := metaF_byte g r
    have hPM := fun W => implPutMeta_any g r W
    obtain ⟨L, hL⟩ : ∃ L, Hid (metaF g r = L) := ⟨_, rfl⟩
    rw [hL.out] at HI HE HPB
    simp only [hL.out] at hPM
    clear hL HNO HCA
    have hM := MBox.new w1 g r
    have hB2 : Below w.heap.size w (w1.alloc (.cells #[.int .i64 g, .int .i64 r] 64)) := hB1.alloc hB1.size _
    replace hR := hR.below ((Below.refl _ _).alloc (Nat.le_refl _) (.cells #[.int .i64 g, .int .i64 r] 64))
    clear x0 x1 r0 r1 hB1 ha hb hp
    go_wp2_with fail
    refine (hPM _).mono ?_
    rintro e1 w2 ⟨g3, c3, rfl, hg3, hc3, hr3, hb3⟩
    replace hM := hM.below hb3
    replace hR := hR.below hb3
    replace hB2 := hB2.trans (hb3.mono hB2.size)
    obtain ⟨m0, m1⟩ := hM.cells
    obtain ⟨x0, x1⟩ := hR.cells
    obtain ⟨r0, r1⟩ := hR.frozen
    clear hb3 hPM
    go_wp2_with fail
    refine (equal_any g3 0 L.length c3 _ b 0 n cap f w2 (hr3.view hc3 (bytes_of_list HPB.out)) (HV.out.below hB2)).mono ?_
    rintro e1 _ ⟨he, rfl⟩
    rw [HE.out] at he
    subst he
    clear hr3 HE HPB HV HFB HY
    by_cases hq : L = lof n f
    · have HG : Hid (getMe n f = (g, r, true)) := by show _ = _; rw [HIS.out, if_pos ⟨trivial, trivial, trivial, HI.out.1 hq⟩]
      have hd : decide (L = lof n f) = true := by simpa using hq
      have hgs := stored2 (.int .i64 g) (.int .i64 r) x0 x1
      have HB : Hid (Below w.heap.size w ((w2.setCell ⟨w.heap.size, 0, none⟩ (.int .i64 g)).setCell ⟨w.heap.size, 1, none⟩ (.int .i64 r))) := (hB2.setCell (Nat.le_refl _) _).setCell (Nat.le_refl _) _
      rw [hd]
      clear HIS HI hq hd hB2 hM hR
      go_wp2
      exact bodyPost_ret (v := .tuple #[.agg #[.int .i64 g, .int .i64 r], .bool true]) (by simp [results, Try.results47, go_sem, hgs]) rfl (by rw [HG.out]; exact ⟨rfl, HB.out⟩)
    · have HG : Hid (getMe n f = (0, 0, false)) := by show _ = _; rw [HIS.out, if_neg (fun h => hq (HI.out.2 h.2.2.2))]
      have hd : decide (L = lof n f) = false := by simpa using hq
      have hgs := stored2 (.int .i64 0) (.int .i64 0) x0 x1
      have HB : Hid (Below w.heap.size w ((w2.setCell ⟨w.heap.size, 0, none⟩ (.int .i64 0)).setCell ⟨w.heap.size, 1, none⟩ (.int .i64 0))) := (hB2.setCell (Nat.le_refl _) _).setCell (Nat.le_refl _) _
      rw [hd]
      clear HIS HI hq hd hB2 hM hR
      go_wp2
      exact bodyPost_ret (v := .tuple #[.agg #[.int .i64 0, .int .i64 0], .bool false]) (by simp [results, Try.results47, go_sem, hgs]) rfl (by rw [HG.out]; exact ⟨rfl, HB.out⟩)
end Go.Proofs.Ytdhfbblameiloaa

/-
  The model's GetMeta: what is read as a root.
-/
namespace Go.Proofs.Ytdhfbblameiloaa
open Go.RowKit
set_option maxRecDepth 4000

set_option maxHeartbeats 4000000 in
theorem specGetMeta_any (ao : Option Addr) (n cap : Nat) (f : Nat → Int) (w : World) (hao : 4 ≤ n → ∃ b, ao = some ⟨b, 0, none⟩) (hv : View w ao n cap f) (hn : n ≤ 1048576) :
    Calls Try.prog 113 #[.slice ao n cap] w (MeTo w (getMe n f)) := by
  obtain ⟨k, s, ok, hp⟩ : ∃ k s ok, Hid (getPg n f = (k, s, ok)) := ⟨_, _, _, rfl⟩
  obtain ⟨g, q, told, ha⟩ : ∃ g q told, Hid (getU s.size (fun i => (sl s).getD i 0) 0 = (g, q, told)) := ⟨_, _, _, rfl⟩
  obtain ⟨r, e, led, hb⟩ : ∃ r e led, Hid (getU s.size (fun i => (sl s).getD i 0) q = (r, e, led)) := ⟨_, _, _, rfl⟩
  have HY : Hid (∀ i, i < s.size → 0 ≤ (sl s).getD i 0 ∧ (sl s).getD i 0 ≤ 255) := by
    have := bytes_of_list (sl_byte s)
    rwa [sl_len] at this
  have l1 := getU_lim HY.out ha.out
  have l2 := getU_lim HY.out hb.out
  have HNO : Hid (¬ (ok = true ∧ told = true ∧ led = true ∧ k = 2 ∧ e = (s.size : Int) ∧ metaOk g r = true) → getMe n f = (0, 0, false)) := getMe_no hp.out ha.out hb.out
  have HIS : Hid (getMe n f = if ok = true ∧ told = true ∧ led = true ∧ k = 2 ∧ e = (s.size : Int) ∧ metaOk g r = true then (g, r, true) else (0, 0, false)) := getMe_is hp.out ha.out hb.out
  have hG := getPage_spec ao n cap f (w.alloc (.cells #[.int .i64 0, .int .i64 0] 64)) hao (hv.below ((Below.refl _ _).alloc (Nat.le_refl _) _)) hn
  rw [hp.out] at hG
  have hs : s.size ≤ 281474976710656 := by
    cases ok with
    | true => have := (getPg_read hv.byte hp.out).2.1; omega
    | false => have h2 := getPg_none (n := n) (f := f) (by rw [hp.out]); rw [hp.out] at h2; cases h2; rw [str_size]; simp
  have hbA : Below w.heap.size w (w.alloc (.cells #[.int .i64 0, .int .i64 0] 64)) := (Below.refl _ _).alloc (Nat.le_refl _) _
  have hR := MBox.new w 0 0
  clear hv hao
  go_enter Try.func113, Try.ntmps113
  go_wp2_with fail
  refine hG.mono ?_
  rintro e1 w1 ⟨g1, c1, rfl, hg1, hc1, hz1, hb1⟩
  have hv1 := hz1.view hc1 HY.out
  replace hR := hR.below hb1
  have hR2 := hR.below ((Below.refl _ _).alloc (Nat.le_refl _) (.cells #[.int .i64 g, .int .i64 r] 64))
  have hxl := hR.lt
  have hB1 := hbA.trans (hb1.mono hbA.size)
  clear hG hz1 hg1 hb1 hbA
  go_wp2_with fail
  refine (getU_spec' _ s.size c1 _ 0 w1 ha hv1 (by omega) (by omega)).mono ?_
  rintro e1 _ ⟨rfl, rfl⟩
  go_wp2_with fail
  refine (getU_spec' _ s.size c1 _ q w1 hb hv1 (by omega) (by omega)).mono ?_
  rintro e1 _ ⟨rfl, rfl⟩
  clear hv1
  have hB2 : Below w.heap.size w (w1.alloc (.cells #[.int .i64 g, .int .i64 r] 64)) := hB1.alloc hB1.size _
  have HQ : Hid (k = 2 → (k == 2) = true) := fun h => by rw [h]; rfl
  clear hp ha hb
  by_cases hall : ok = true ∧ k = 2 ∧ told = true ∧ led = true ∧ e = (s.size : Int)
  case neg =>
    have HN : Hid (getMe n f = (0, 0, false)) := HNO.out (fun h => hall ⟨h.1, h.2.2.2.1, h.2.1, h.2.2.1, h.2.2.2.2.1⟩)
    obtain ⟨x0, x1⟩ := hR.cells
    obtain ⟨r0, r1⟩ := hR.frozen
    have hgs := stored2A (.int .i64 0) (.int .i64 0) x0 x1 hxl (.cells #[.int .i64 g, .int .i64 r] 64)
    have HB : Hid (Below w.heap.size w (((w1.setCell ⟨w.heap.size, 0, none⟩ (.int .i64 0)).setCell ⟨w.heap.size, 1, none⟩ (.int .i64 0)).alloc (.cells #[.int .i64 g, .int .i64 r] 64))) := ((hB1.setCell (Nat.le_refl _) _).setCell (Nat.le_refl _) _).alloc (by simp; omega) _
    clear HNO HIS HY hR2 hB2 hR hB1
    cases ok with
    | false =>
      clear hall HQ
      go_wp2
      exact bodyPost_ret (v := .tuple #[.agg #[.int .i64 0, .int .i64 0], .bool false]) (by simp [results, Try.results113, go_sem, hgs]) rfl (by rw [HN.out]; exact ⟨rfl, HB.out⟩)
    | true =>
      by_cases hk : k = 2
      case neg =>
        have hk' : (k == 2) = false := beq_eq_false_iff_ne.2 hk
        clear hall HQ
        go_wp2
        exact bodyPost_ret (v := .tuple #[.agg #[.int .i64 0, .int .i64 0], .bool false]) (by simp [results, Try.results113, go_sem, hgs]) rfl (by rw [HN.out]; exact ⟨rfl, HB.out⟩)
      case pos =>
        subst hk
        clear HQ
        cases told with
        | false =>
          clear hall
          go_wp2
          exact bodyPost_ret (v := .tuple #[.agg #[.int .i64 0, .int .i64 0], .bool false]) (by simp [results, Try.results113, go_sem, hgs]) rfl (by rw [HN.out]; exact ⟨rfl, HB.out⟩)
        | true =>
          cases led with
          | false =>
            clear hall
            go_wp2
            exact bodyPost_ret (v := .tuple #[.agg #[.int .i64 0, .int .i64 0], .bool false]) (by simp [results, Try.results113, go_sem, hgs]) rfl (by rw [HN.out]; exact ⟨rfl, HB.out⟩)
          | true =>
            have he : ¬ e = (s.size : Int) := fun h => hall ⟨rfl, rfl, rfl, rfl, h⟩
            have he' : (e == (s.size : Int)) = false := beq_eq_false_iff_ne.2 he
            clear hall
            go_wp2
            exact bodyPost_ret (v := .tuple #[.agg #[.int .i64 0, .int .i64 0], .bool false]) (by simp [results, Try.results113, go_sem, hgs]) rfl (by rw [HN.out]; exact ⟨rfl, HB.out⟩)
  case pos =>
    obtain ⟨rfl, hk, rfl, rfl, hes⟩ := hall
    subst hk
    subst hes
    have hM := fun W => specMetaOk_any g r W
    clear hR hB1
    cases hok : metaOk g r with
    | false =>
      have HN : Hid (getMe n f = (0, 0, false)) := HNO.out (fun h => by have := h.2.2.2.2.2; rw [hok] at this; cases this)
      rw [hok] at hM
      clear HNO HIS HQ hok HY
      go_wp2_with fail
      refine (hM _).mono ?_
      rintro e1 w2 ⟨rfl, hb2⟩
      have hR3 := hR2.below hb2
      obtain ⟨x0, x1⟩ := hR3.cells
      obtain ⟨r0, r1⟩ := hR3.frozen
      have hgs := stored2 (.int .i64 0) (.int .i64 0) x0 x1
      have hB3 := hB2.trans (hb2.mono hB2.size)
      have HB : Hid (Below w.heap.size w ((w2.setCell ⟨w.heap.size, 0, none⟩ (.int .i64 0)).setCell ⟨w.heap.size, 1, none⟩ (.int .i64 0))) := (hB3.setCell (Nat.le_refl _) _).setCell (Nat.le_refl _) _
      clear hM hb2 hR2 hR3 hB2 hB3
      go_wp2
      exact bodyPost_ret (v := .tuple #[.agg #[.int .i64 0, .int .i64 0], .bool false]) (by simp [results, Try.results113, go_sem, hgs]) rfl (by rw [HN.out]; exact ⟨rfl, HB.out⟩)
    | true =>
      have HN : Hid (getMe n f = (g, r, true)) := by show _ = _; rw [HIS.out, if_pos ⟨rfl, rfl, rfl, rfl, rfl, hok⟩]
      rw [hok] at hM
      clear HNO HIS HQ hok HY
      have hX := MBox.new w1 g r
      go_wp2_with fail
      refine (hM _).mono ?_
      rintro e1 w2 ⟨rfl, hb2⟩
      have hR3 := hR2.below hb2
      have hX3 := hX.below hb2
      obtain ⟨m0, m1⟩ := hX3.cells
      obtain ⟨x0, x1⟩ := hR3.cells
      obtain ⟨r0, r1⟩ := hR3.frozen
      have hgs := stored2 (.int .i64 g) (.int .i64 r) x0 x1
      have hB3 := hB2.trans (hb2.mono hB2.size)
      have HB : Hid (Below w.heap.size w ((w2.setCell ⟨w.heap.size, 0, none⟩ (.int .i64 g)).setCell ⟨w.heap.size, 1, none⟩ (.int .i64 r))) := (hB3.setCell (Nat.le_refl _) _).setCell (Nat.le_refl _) _
      clear hM hb2 hR2 hR3 hB2 hB3 hX hX3
      go_wp2
      exact bodyPost_ret (v := .tuple #[.agg #[.int .i64 g, .int .i64 r], .bool true]) (by simp [results, Try.results113, go_sem, hgs]) rfl (by rw [HN.out]; exact ⟨rfl, HB.out⟩)
end Go.Proofs.Ytdhfbblameiloaa

/-
  The model's ReadSec.
-/
namespace Go.Proofs.Ytdhfbblameiloaa
open Go.RowKit
set_option maxRecDepth 4000

/-- What ReadSec comes to. -/
def ReadTo (w : World) (D : PDisk) (n : Int) (e : Ending) (w' : World) : Prop := ∃ (v : Value) (ok : Bool), e = .returned (.tuple #[v, .bool ok]) ∧ (ok = true ↔ HasS D n) ∧ OB w' w.heap.size v (readB D n) ∧ Below w.heap.size w w'

set_option maxHeartbeats 8000000 in
theorem specReadSec_any (v : Value) (D : PDisk) (n : Int) (w : World) (h : KView w v D) (hf : KFine D) :
    Calls Try.prog 36 #[v, .int .i64 n] w (ReadTo w D n) := by
  obtain ⟨ib, hib, hb0, hb1, hb2⟩ := info_parts Try.info5
  obtain ⟨sa, sc, ca, cc, fa, fc, rfl, hs, hc, hfv⟩ := h.is
  clear h hfv
  have hns := hf.ns
  have hnc := hf.nc
  have HH : Hid (SView w sa sc D.secs ∧ WView w ca cc D.cache ∧ KFine D) := ⟨hs, hc, hf⟩
  clear hs hc hf
  have hB0 := box5_start w (.cells #[.slice sa D.secs.length sc, .slice ca D.cache.length cc, .int .i64 D.ops, .slice fa D.faults.length fc, .bool D.down] 32)
  have hs1 : IntKind.i64.wrap ((D.secs.length : Int) - 1) = (D.secs.length : Int) - 1 := by rw [IntKind.wrap_i64]; omega
  have hs2 : IntKind.i64.wrap ((D.cache.length : Int) - 1) = (D.cache.length : Int) - 1 := by rw [IntKind.wrap_i64]; omega
  by_cases hr : 0 ≤ n ∧ n < D.secs.length
  case neg =>
    have hV := fun W => l1In_no n 0 ((D.secs.length : Int) - 1) W (by omega)
    obtain ⟨hBw0, -⟩ := box5_below hB0
    go_enter Try.func36, Try.ntmps36
    go_wp2_with fail
    refine (hV _).mono ?_
    rintro e w1 ⟨rfl, rfl⟩
    clear hV
    go_wp2
    refine bodyPost_ret (v := .tuple #[.slice (some ⟨w.heap.size + 1, 0, none⟩) 0 0, .bool false]) (by simp [results, Try.results36, go_sem]) rfl ⟨_, false, rfl, by simpa [HasS] using hr, ?_, hBw0.alloc (by simp) _⟩
    rw [readB_none hr]
    exact ⟨_, 0, rfl, Nat.le_refl _, (fun e => by cases e), by simp, .inl rfl⟩
  have hV := fun W => l1In_yes n 0 ((D.secs.length : Int) - 1) W hr.1 (by omega)
  go_enter Try.func36, Try.ntmps36
  go_wp2_with fail
  refine (hV _).mono ?_
  rintro e w1 ⟨rfl, rfl⟩
  clear hV
  go_wp2
  go_loopg [6] D.cache.length (fun q i wr => ∃ k : Nat, k ≤ D.cache.length ∧ q = k ∧ i = .int .i64 ((k : Int) - 1) ∧ Below (w.heap.size + 1) (w.alloc (.cells #[.slice sa D.secs.length sc, .slice ca D.cache.length cc, .int .i64 D.ops, .slice fa D.faults.length fc, .bool D.down] 32)) wr ∧ Hid (lastW D.cache n D.cache.length = lastW D.cache n k))
  case atStart => exact ⟨D.cache.length, Nat.le_refl _, rfl, rfl, hB0, rfl⟩
  case round =>
    clear hB0
    obtain ⟨k, hk, hqk, rfl, hB5, HL⟩ := hrel
    obtain ⟨hB, -⟩ := box5_below hB5
    obtain ⟨y0, y1, y2, y3, y4⟩ := box5 hB5
    have hbE : Below w.heap.size w (wr.alloc (.cells #[] 5)) := hB.alloc hB.size _
    have hbE0 : Below wr.heap.size wr (wr.alloc (.cells #[] 5)) := (Below.refl _ _).alloc (Nat.le_refl _) _
    have hE := own_emptyK wr 5 1
    have hszE : wr.heap.size ≤ (wr.alloc (.cells #[] 5)).heap.size := hbE0.size
    by_cases hlt : 0 < k
    · obtain ⟨j, rfl⟩ : ∃ j, k = j + 1 := ⟨k - 1, by omega⟩
      have hjl : j < D.cache.length := by omega
      obtain ⟨b1, o1, a3, c3, esa, hb1', x0, x1, v0, vn⟩ := wview_at (wview_below HH.out.2.1 hB) hjl
      subst esa
      have hkz : (0 : Int) ≤ (j : Int) := by omega
      have hjz : (j : Int) < (D.cache.length : Int) := by omega
      have e1 : ((j + 1 : Nat) : Int) - 1 = (j : Int) := by omega
      rw [e1]
      have hw1 : IntKind.i64.wrap ((j : Int) - 1) = (j : Int) - 1 := by rw [IntKind.wrap_i64]; omega
      have hpl := HH.out.2.2.cache _ (List.getElem_mem hjl)
      by_cases hN : (D.cache[j]).1 = n
      · have HRB : Hid (readB D n = (D.cache[j]).2) := readB_hit hr (by rw [HL.out, lastW_hit hjl hN])
        rw [hN] at x0
        have v0' := v0.below hbE0
        have hnews := view_news v0'
        have hby := lv_bytes v0
        have hno : a3 = none → (D.cache[j]).2.length = 0 ∧ c3 = 0 := fun e => by have h1 := vn e; have h2 := v0.le; omega
        have hlen : (bl (D.cache[j]).2).length = (D.cache[j]).2.length * 1 := by rw [bl_len]; omega
        obtain ⟨p0, hp0⟩ := hidEx (D.cache[j]).2.length
        obtain ⟨pl, hpl'⟩ := hidEx (D.cache[j]).2
        have hp0v := hp0.out
        have hq : (n == n) = true := beq_self_eq_true _
        rw [hpl'.out] at hnews hby hlen HRB hp0v
        rw [hp0.out] at x1 hno hpl
        rw [hp0v] at hlen
        have hlb : w.heap.size < wr.heap.size := by have := hB5.size; simp at this; omega
        have y1' : (wr.alloc (.cells #[] 5)).cell? ⟨w.heap.size, 1, none⟩ = some (.slice (some ⟨b1, o1, none⟩) D.cache.length cc) := by rw [hbE0.cell (p := ⟨w.heap.size, 1, none⟩) hlb]; exact y1
        have x1' : (wr.alloc (.cells #[] 5)).cell? ⟨b1, o1 + j * 2 + 1, none⟩ = some (.slice a3 p0 c3) := by rw [hbE0.cell (p := ⟨b1, o1 + j * 2 + 1, none⟩) hb1']; exact x1
        clear v0 v0' HL
        go_wp2_with (at_builtin; refine wpList_append_opt rfl (.tmp 31) (.tmp 37) 27 rfl wr.heap.size 5 ib (.int .u8 0) 1 1 Try.underlying27 hib hb0 hb1 hb2 rfl (by decide) _ _ _ rfl hE a3 p0 c3 (bl pl) rfl hno hlen hnews (bl_one _) (by unfold maxLen; omega) (by omega) hszE ?_)
        intro v8 w8 hE8 hgr8
        try rw [Nat.zero_add, List.nil_append] at hE8
        have HO : Hid (OB w8 w.heap.size v8 pl ∧ Below w.heap.size w w8) := ⟨(ob_own_any hE8 hp0v.symm hby).mono hB.size, hbE.grown hgr8 hbE.size (fun k e => by have h1 := own_geK hE k e; have h2 := hB.size; omega)⟩
        clear hE8 hgr8 hE hnews
        go_wp2
        exact bodyPost_ret (v := .tuple #[v8, .bool true]) (by simp [results, Try.results36, go_sem]) rfl ⟨v8, true, rfl, by simpa [HasS] using hr, by rw [HRB.out]; exact HO.out.1, HO.out.2⟩
      · have HL2 : Hid (lastW D.cache n D.cache.length = lastW D.cache n j) := by
          show _ = _
          rw [HL.out, lastW_miss hjl hN]
        obtain ⟨p1, hp1⟩ := hidEx (D.cache[j]).1
        obtain ⟨p0, hp0⟩ := hidEx (D.cache[j]).2.length
        have hN' : ¬ p1 = n := by rw [← hp1.out]; exact hN
        have hq : (p1 == n) = false := beq_eq_false_iff_ne.2 hN'
        rw [hp1.out] at x0
        rw [hp0.out] at x1
        clear v0 HL hE hbE hbE0 hN hpl
        go_wp2
        go_roundg j
        case measure => omega
        case rel => exact ⟨j, by omega, rfl, by go_num, hB5, HL2⟩
    · obtain rfl : k = 0 := by omega
      have hkz : ¬ (0 : Int) ≤ ((0 : Nat) : Int) - 1 := by omega
      obtain ⟨m, hm⟩ : ∃ m : Nat, n = m := ⟨n.toNat, by omega⟩
      subst hm
      have hml : m < D.secs.length := by omega
      obtain ⟨b1, o1, a3, c3, esa, hb1', x0, v0, vn⟩ := sview_at (sview_below HH.out.1 hB) hml
      subst esa
      have hmz : (m : Int) < (D.secs.length : Int) := by omega
      have hpl := HH.out.2.2.sec _ (List.getElem_mem hml)
      have HRB : Hid (readB D (m : Int) = D.secs[m]) := readB_sec hr (by rw [HL.out]; rfl) hml
      have v0' := v0.below hbE0
      have hnews := view_news v0'
      have hby := lv_bytes v0
      have hno : a3 = none → (D.secs[m]).length = 0 ∧ c3 = 0 := fun e => by have h1 := vn e; have h2 := v0.le; omega
      have hlen : (bl D.secs[m]).length = (D.secs[m]).length * 1 := by rw [bl_len]; omega
      obtain ⟨p0, hp0⟩ := hidEx (D.secs[m]).length
      obtain ⟨pl, hpl'⟩ := hidEx D.secs[m]
      have hp0v := hp0.out
      rw [hpl'.out] at hnews hby hlen HRB hp0v
      rw [hp0.out] at x0 hno hpl
      rw [hp0v] at hlen
      have hlb : w.heap.size < wr.heap.size := by have := hB5.size; simp at this; omega
      have y0' : (wr.alloc (.cells #[] 5)).cell? ⟨w.heap.size, 0, none⟩ = some (.slice (some ⟨b1, o1, none⟩) D.secs.length sc) := by rw [hbE0.cell (p := ⟨w.heap.size, 0, none⟩) hlb]; exact y0
      have x0' : (wr.alloc (.cells #[] 5)).cell? ⟨b1, o1 + m, none⟩ = some (.slice a3 p0 c3) := by rw [hbE0.cell (p := ⟨b1, o1 + m, none⟩) hb1']; exact x0
      clear v0 v0' HL
      go_wp2_with (at_builtin; refine wpList_append_opt rfl (.tmp 39) (.tmp 44) 27 rfl wr.heap.size 5 ib (.int .u8 0) 1 1 Try.underlying27 hib hb0 hb1 hb2 rfl (by decide) _ _ _ rfl hE a3 p0 c3 (bl pl) rfl hno hlen hnews (bl_one _) (by unfold maxLen; omega) (by omega) hszE ?_)
      intro v8 w8 hE8 hgr8
      try rw [Nat.zero_add, List.nil_append] at hE8
      have HO : Hid (OB w8 w.heap.size v8 pl ∧ Below w.heap.size w w8) := ⟨(ob_own_any hE8 hp0v.symm hby).mono hB.size, hbE.grown hgr8 hbE.size (fun k e => by have h1 := own_geK hE k e; have h2 := hB.size; omega)⟩
      clear hE8 hgr8 hE hnews
      go_wp2
      exact bodyPost_ret (v := .tuple #[v8, .bool true]) (by simp [results, Try.results36, go_sem]) rfl ⟨v8, true, rfl, by simpa [HasS] using hr, by rw [HRB.out]; exact HO.out.1, HO.out.2⟩
end Go.Proofs.Ytdhfbblameiloaa

/-
  Bytes of the call's own, whatever lies behind them.
-/
namespace Go.Proofs.Ytdhfbblameiloaa
open Go.RowKit
set_option maxRecDepth 4000

/-- Bytes of the call's own. -/
structure OZ (w : World) (B : Nat) (v : Value) (l : List Int) : Prop where
  is : ∃ a c, v = .slice a l.length c ∧ l.length ≤ c ∧ (a = none → c = 0) ∧ (∀ x ∈ l, 0 ≤ x ∧ x ≤ 255) ∧ (l = [] ∨ ∃ g, a = some ⟨g, 0, none⟩ ∧ B ≤ g ∧ RowZ 5 w g l.length (bf l))
theorem OB.oz {w : World} {B : Nat} {v : Value} {l : List Int} (h : OB w B v l) : OZ w B v l := by
  obtain ⟨a, c, e, h1, h2, h3, h4⟩ := h.is
  refine ⟨a, c, e, h1, h2, h3, ?_⟩
  rcases h4 with h4 | ⟨g, ea, hb, hr⟩
  · exact .inl h4
  · exact .inr ⟨g, ea, hb, RowZ.ofRow hr⟩
theorem OZ.up {w w' : World} {B : Nat} {v : Value} {l : List Int} (h : OZ w B v l) (hu : Up B w w') : OZ w' B v l := by
  obtain ⟨a, c, e, h1, h2, h3, h4⟩ := h.is
  refine ⟨a, c, e, h1, h2, h3, ?_⟩
  rcases h4 with h4 | ⟨g, ea, hb, hr⟩
  · exact .inl h4
  · exact .inr ⟨g, ea, hb, hr.of_block (hu.2 g hb hr.lt)⟩
theorem OZ.mono {w : World} {B B' : Nat} {v : Value} {l : List Int} (h : OZ w B v l) (hB : B' ≤ B) : OZ w B' v l := by
  obtain ⟨a, c, e, h1, h2, h3, h4⟩ := h.is
  refine ⟨a, c, e, h1, h2, h3, ?_⟩
  rcases h4 with h4 | ⟨g, ea, hb, hr⟩
  · exact .inl h4
  · exact .inr ⟨g, ea, by omega, hr⟩
theorem bf_bytes {l : List Int} (h : ∀ x ∈ l, 0 ≤ x ∧ x ≤ 255) : ∀ i, i < l.length → 0 ≤ bf l i ∧ bf l i ≤ 255 := by
  intro i hi
  have : bf l i = l[i] := by simp [bf, hi]
  rw [this]
  exact h _ (List.getElem_mem hi)
theorem OZ.lv {w : World} {B : Nat} {v : Value} {l : List Int} (h : OZ w B v l) : LV w v l := by
  obtain ⟨a, c, e, h1, h2, h3, h4⟩ := h.is
  refine ⟨a, c, e, ⟨h1, bf_bytes h3, fun hn => ?_⟩, h2⟩
  rcases h4 with h4 | ⟨g, ea, hb, hr⟩
  · subst h4; simp at hn
  · exact ⟨g, 0, ea, hr.lt, fun i hi => by rw [Nat.zero_add]; exact hr.cell hi⟩
/-- What a call that answers bytes and a bool comes to. -/
def BTo (w : World) (l : List Int) (ok : Bool) (e : Ending) (w' : World) : Prop := ∃ v, e = .returned (.tuple #[v, .bool ok]) ∧ OZ w' w.heap.size v l ∧ Below w.heap.size w w'
end Go.Proofs.Ytdhfbblameiloaa

/-
  What ReadSec comes to, as bytes and a bool; how many bytes.
-/
namespace Go.Proofs.Ytdhfbblameiloaa
open Go.RowKit
set_option maxRecDepth 4000

def hasB (D : PDisk) (n : Int) : Bool := decide (0 ≤ n ∧ n < D.secs.length)
theorem hasB_iff (D : PDisk) (n : Int) : hasB D n = true ↔ HasS D n := by simp [hasB, HasS]
theorem ReadTo.bto {w w' : World} {D : PDisk} {n : Int} {e : Ending} (h : ReadTo w D n e w') : BTo w (readB D n) (hasB D n) e w' := by
  obtain ⟨v, ok, rfl, hok, hO, hb⟩ := h
  have : ok = hasB D n := by
    rw [Bool.eq_iff_iff, hok, hasB_iff]
  subst this
  exact ⟨v, rfl, hO.oz, hb⟩
theorem lastW_mem {l : List (Int × List Int)} {n : Int} : ∀ {k : Nat} {b : List Int}, lastW l n k = some b → ∃ x ∈ l, x.2 = b
  | 0, b, h => by cases h
  | k + 1, b, h => by
    rw [lastW] at h
    split at h
    · obtain ⟨x, hx, rfl⟩ := Option.map_eq_some_iff.1 h
      exact ⟨x, List.mem_of_getElem? hx, rfl⟩
    · exact lastW_mem h
theorem readB_len {D : PDisk} (hf : KFine D) (n : Int) : (readB D n).length ≤ 1048576 := by
  unfold readB
  split
  · rename_i hn
    cases hl : lastW D.cache n D.cache.length with
    | some b =>
      obtain ⟨x, hx, rfl⟩ := lastW_mem hl
      exact hf.cache x hx
    | none =>
      have hi : n.toNat < D.secs.length := by omega
      have e : (Option.none.getD (D.secs.getD n.toNat []) : List Int) = D.secs[n.toNat] := by simp [hi]
      rw [e]
      exact hf.sec _ (List.getElem_mem hi)
  · simp
end Go.Proofs.Ytdhfbblameiloaa

/-
  The newer of two roots, plainly.
-/
namespace Go.Proofs.Ytdhfbblameiloaa
open Go.RowKit
set_option maxRecDepth 4000

/-- The root that a sector has, if its Gen belongs there. -/
def rootP (D : PDisk) (n : Int) : Int × Int × Bool :=
  let r := getMe (readB D n).length (bf (readB D n))
  if r.2.2 = true ∧ r.1 % 2 = n then r else (0, 0, false)
/-- Of what was found and what is there now the newer one. -/
def newerP (b r : Int × Int × Bool) : Int × Int × Bool := if r.2.2 = true ∧ (b.2.2 = false ∨ b.1 < r.1) then r else b
def bestP (D : PDisk) : Nat → Int × Int × Bool
  | 0 => (0, 0, false)
  | k + 1 => newerP (bestP D k) (rootP D k)
theorem getMe_cases {n : Nat} {f : Nat → Int} (hf : ∀ i, i < n → 0 ≤ f i ∧ f i ≤ 255) : ((getMe n f).2.2 = true ∧ 0 ≤ (getMe n f).1 ∧ (getMe n f).1 ≤ 1000000 ∧ 0 ≤ (getMe n f).2.1 ∧ (getMe n f).2.1 ≤ 47) ∨ getMe n f = (0, 0, false) := by
  obtain ⟨⟨g, r, ok⟩, e⟩ : ∃ x, getMe n f = x := ⟨_, rfl⟩
  rw [e]
  cases ok with
  | false =>
    right
    have := getMe_none (n := n) (f := f) (by rw [e])
    rw [e] at this
    exact this
  | true =>
    left
    have := metaOk_iff.1 (getMe_read hf e).1
    dsimp only
    exact ⟨rfl, by omega, by omega, by omega, by omega⟩
/-- What is found is a root, or nothing. -/
def Sound (b : Int × Int × Bool) : Prop := (b.2.2 = true ∧ 0 ≤ b.1 ∧ b.1 ≤ 1000000 ∧ 0 ≤ b.2.1 ∧ b.2.1 ≤ 47) ∨ b = (0, 0, false)
theorem rootP_sound {D : PDisk} {n : Int} (hb : ∀ i, i < (readB D n).length → 0 ≤ bf (readB D n) i ∧ bf (readB D n) i ≤ 255) : Sound (rootP D n) := by
  unfold rootP
  dsimp only
  split
  · exact getMe_cases hb
  · exact .inr rfl
theorem newerP_sound {b r : Int × Int × Bool} (hb : Sound b) (hr : Sound r) : Sound (newerP b r) := by
  unfold newerP
  split
  · exact hr
  · exact hb
theorem bestP_sound {D : PDisk} (hb : ∀ n : Int, ∀ i, i < (readB D n).length → 0 ≤ bf (readB D n) i ∧ bf (readB D n) i ≤ 255) : ∀ k, Sound (bestP D k)
  | 0 => .inr rfl
  | k + 1 => newerP_sound (bestP_sound hb k) (rootP_sound (hb k))
theorem getMe_zero (f : Nat → Int) : getMe 0 f = (0, 0, false) := by
  have hp := getPg_bad (n := 0) (f := f) (by unfold sumGood; simp)
  unfold getMe
  simp [hp]
theorem rootP_none {D : PDisk} {n : Int} (h : hasB D n = false) : rootP D n = (0, 0, false) := by
  have : readB D n = [] := readB_none (fun hh => by unfold hasB at h; simp at h; exact absurd hh.1 (fun h0 => by have := hh.2; omega))
  unfold rootP
  rw [this]
  simp [getMe_zero]
end Go.Proofs.Ytdhfbblameiloaa

