/-
  Together: GetTextSpec, PageGet, PageAtI, PgShort, Big, SameB, LawPagesRead
-/
import Derived.Test.YtidjcppfolipjaaPR16
import Derived.Test.YtidjcppfolipjaaPR12
import Derived.Test.YtidjcppfolipjaaPR14
import Derived.Test.YtidjcppfolipjaaPR1
import Derived.Test.YtidjcppfolipjaaPR15
/-
  The model's GetText: the bytes behind a number that says how many they are, as a text.
-/
namespace Go.Proofs.Ytidjcppfolipjaa
open Go.RowKit
set_option maxRecDepth 4000

theorem getU_spec' {a b : Int} {c : Bool} (ao : Option Addr) (n cap : Nat) (f : Nat → Int) (p : Int) (w : World) (hg : Hid (getU n f p = (a, b, c))) (hv : View w ao n cap f) (hn : n ≤ 281474976710656) (hp1 : p ≤ 9223372036854775807) :
    Calls Try.prog 102 #[.slice ao n cap, .int .i64 p] w fun e w' => e = .returned (.tuple #[.int .i64 a, .int .i64 b, .bool c]) ∧ w = w' := by
  refine (getU_spec ao n cap f p w hv hn hp1).mono ?_
  rintro e w' ⟨he, hw⟩
  rw [hg.out] at he
  exact ⟨he, hw.symm⟩
set_option maxHeartbeats 1000000 in
theorem getText_spec (b off n cap : Nat) (f : Nat → Int) (p : Int) (w : World) (s : ByteArray) (q : Int) (ok : Bool) (hg : Hid (getText n f p = (s, q, ok))) (hv : View w (some ⟨b, off, none⟩) n cap f) (hn : n ≤ 281474976710656) (hp1 : p ≤ 9223372036854775807) :
    Calls Try.prog 103 #[.slice (some ⟨b, off, none⟩) n cap, .int .i64 p] w fun e w' => e = .returned (.tuple #[.string s, .int .i64 q, .bool ok]) ∧ w = w' := by
  obtain ⟨a, r, c, hu⟩ : ∃ a r c, Hid (getU n f p = (a, r, c)) := ⟨_, _, _, rfl⟩
  have hbd : c = true → 0 ≤ a ∧ a ≤ 1000000 ∧ 0 ≤ r ∧ r ≤ n := by rintro rfl; exact getU_bd hv.byte hu.out
  have hT : getText n f p = if c = true ∧ a ≤ n - r then (strOfNums (lof a.toNat (fun i => f (r.toNat + i))), r + a, true) else (strOfNums [], 0, false) := by unfold getText; rw [hu.out]
  rw [hg.out] at hT
  cases c with
  | false =>
    rw [if_neg (by simp)] at hT
    cases hT
    clear hbd
    go_enter Try.func103, Try.ntmps103
    go_wp2_with fail
    refine (getU_spec' _ n cap f p w hu hv hn hp1).mono ?_
    rintro e _ ⟨rfl, rfl⟩
    go_wp2
    go_ret3
    exact ⟨rfl, rfl⟩
  | true =>
    obtain ⟨h0, h1, h2, h3⟩ := hbd rfl
    obtain ⟨a, rfl⟩ := Int.eq_ofNat_of_zero_le h0
    obtain ⟨r, rfl⟩ := Int.eq_ofNat_of_zero_le h2
    clear hbd
    by_cases hl : (a : Int) ≤ n - r
    · rw [if_pos ⟨rfl, hl⟩, Int.toNat_natCast, Int.toNat_natCast] at hT
      simp only [Prod.mk.injEq] at hT
      obtain ⟨rfl, rfl, rfl⟩ := hT
      have hle := hv.le
      have hcap : (r : Int) + a ≤ cap := by omega
      by_cases hrc : r < cap
      · have hrz : (r : Int) < cap := by omega
        have q1 : (convert 27 9 (.slice (some ⟨b, off + r, none⟩) a (cap - r))).run Try.prog w = .ok (.string (strOfNums (lof a (fun i => f (r + i))))) w := conv_view (hv.cut (by omega))
        go_enter Try.func103, Try.ntmps103
        go_wp2_with fail
        refine (getU_spec' _ n cap f p w hu hv hn hp1).mono ?_
        rintro e _ ⟨rfl, rfl⟩
        go_wp2
        go_ret3
        exact ⟨rfl, rfl⟩
      · obtain rfl : r = cap := by omega
        obtain rfl : a = 0 := by omega
        have hrz : ¬ (r : Int) < r := by omega
        have q2 : (convert 27 9 (.slice (some ⟨b, off, none⟩) 0 0)).run Try.prog w = .ok (.string (strOfNums (lof 0 f))) w := conv_view ⟨Nat.le_refl _, fun _ h => absurd h (Nat.not_lt_zero _), fun h => absurd h (Nat.lt_irrefl _)⟩
        go_enter Try.func103, Try.ntmps103
        go_wp2_with fail
        refine (getU_spec' _ n r f p w hu hv hn hp1).mono ?_
        rintro e _ ⟨rfl, rfl⟩
        go_wp2
        go_ret3
        exact ⟨retT rfl (by omega) rfl, rfl⟩
    · rw [if_neg (by simp [hl])] at hT
      cases hT
      have hl2 : (n : Int) - r < a := by omega
      go_enter Try.func103, Try.ntmps103
      go_wp2_with fail
      refine (getU_spec' _ n cap f p w hu hv hn hp1).mono ?_
      rintro e _ ⟨rfl, rfl⟩
      go_wp2
      go_ret3
      exact ⟨rfl, rfl⟩
end Go.Proofs.Ytidjcppfolipjaa

/-
  The program's GetPage and the model's: what is read as a page, in memory of its own.
-/
namespace Go.Proofs.Ytidjcppfolipjaa
open Go.RowKit
set_option maxRecDepth 4000

/-- What GetPage comes to. -/
def PgTo (w : World) (r : Int × ByteArray × Bool) (e : Ending) (w' : World) : Prop := ∃ g c, e = .returned (.tuple #[.int .i64 r.1, .slice (some ⟨g, 0, none⟩) r.2.1.size c, .bool r.2.2]) ∧ w.heap.size ≤ g ∧ r.2.1.size ≤ c ∧ RowZ 5 w' g r.2.1.size (fun i => (sl r.2.1).getD i 0) ∧ Below w.heap.size w w'
theorem pgTo_no {w w1 : World} {b : Nat} (hb : Below w.heap.size w w1) (hw : b = w1.heap.size) : PgTo w (0, strOfNums [], false) (.returned (.tuple #[.int .i64 0, .slice (some ⟨b, 0, none⟩) 0 0, .bool false])) (w1.alloc (.cells #[] 5)) := by
  subst hw
  exact ⟨_, 0, rfl, hb.size, Nat.le_refl _, RowZ.ofRow (noRow _ _ _), hb.alloc hb.size _⟩
theorem getU_none13 {n : Nat} {f : Nat → Int} {p a q : Int} (h : getU n f p = (a, q, false)) : a = 0 ∧ q = 0 := by
  unfold getU at h
  repeat' split at h
  all_goals first | (simp at h; done) | (cases h; exact ⟨rfl, rfl⟩)
theorem getU_zero (f : Nat → Int) : getU 0 f 0 = (0, 0, false) := by unfold getU; rw [if_pos (by right; decide)]
theorem getText_zero (f : Nat → Int) : getText 0 f 0 = (strOfNums [], 0, false) := by unfold getText; rw [getU_zero, if_neg (by simp)]
theorem getPg_bad {n : Nat} {f : Nat → Int} (h : sumGood n f = false) : getPg n f = (0, strOfNums [], false) := by
  unfold getPg; rw [if_neg (by simp [h])]
theorem getPg_sum {n : Nat} {f : Nat → Int} {k q r : Int} {s : ByteArray} {a b : Bool} (hg : sumGood n f = true) (h1 : getU (n - 4) f 0 = (k, q, a)) (h2 : getText (n - 4) f q = (s, r, b)) : getPg n f = if a = true ∧ b = true ∧ r = ((n - 4 : Nat) : Int) ∧ (k = 1 ∨ k = 2) ∧ s.size ≤ 240 then (k, s, true) else (0, strOfNums [], false) := by
  unfold getPg
  rw [h1, h2]
  simp only [hg, true_and]
/-- What the sum gives. -/
def SumGives (fn : Nat) (ao : Option Addr) (n cap : Nat) (f : Nat → Int) (N : Nat) (B : Bool) (w : World) : Prop := Calls Try.prog fn #[.slice ao n cap] w fun e w' =>
    ∃ g c, e = .returned (.tuple #[.slice (some ⟨g, 0, none⟩) N c, .bool B]) ∧ w.heap.size ≤ g ∧ N ≤ c ∧ Row 5 w' g N f ∧ Below w.heap.size w w'

set_option maxHeartbeats 1000000 in
theorem sumFew_impl (ao : Option Addr) (n cap : Nat) (f : Nat → Int) (hn : n < 4) (w : World) : SumGives 97 ao n cap f 0 false w := by
  have hz : (n : Int) - 4 < 0 := by omega
  have hz2 : (n : Int) < 4 := by omega
  unfold SumGives
  go_enter Try.func97, Try.ntmps97
  go_wp2
  go_ret2
  exact ⟨_, _, rfl, Nat.le_refl _, Nat.le_refl _, noRow _ _ _, (Below.refl _ _).alloc (Nat.le_refl _) _⟩
theorem sumBad_impl (ao : Option Addr) (n cap : Nat) (f : Nat → Int) (w : World) (ha : 4 ≤ n → ∃ b, ao = some ⟨b, 0, none⟩) (hv : View w ao n cap f) (hn : n ≤ 1048576) (hg : sumGood n f = false) : SumGives 97 ao n cap f 0 false w := by
  by_cases h4 : n < 4
  · exact sumFew_impl ao n cap f h4 w
  · obtain ⟨b, rfl⟩ := ha (by omega)
    obtain ⟨m, rfl⟩ : ∃ m, n = m + 4 := ⟨n - 4, by omega⟩
    have h : last4 m f ≠ (crc m f : Int) := by simpa [sumGood] using hg
    exact getSum_impl_no m f hn hv.byte h b cap w hv
theorem sumYes_impl (b : Nat) (n cap : Nat) (f : Nat → Int) (w : World) (hv : View w (some ⟨b, 0, none⟩) n cap f) (hn : n ≤ 1048576) (hg : sumGood n f = true) : SumGives 97 (some ⟨b, 0, none⟩) n cap f (n - 4) true w := by
  have h' : 4 ≤ n ∧ last4 (n - 4) f = (crc (n - 4) f : Int) := by simpa [sumGood] using hg
  obtain ⟨m, rfl⟩ : ∃ m, n = m + 4 := ⟨n - 4, by omega⟩
  rw [Nat.add_sub_cancel] at h' ⊢
  exact getSum_impl_yes m f hn hv.byte h'.2 b cap w hv

set_option maxHeartbeats 1000000 in
theorem sumFew_spec (ao : Option Addr) (n cap : Nat) (f : Nat → Int) (hn : n < 4) (w : World) : SumGives 101 ao n cap f 0 false w := by
  have hz : (n : Int) - 4 < 0 := by omega
  have hz2 : (n : Int) < 4 := by omega
  unfold SumGives
  go_enter Try.func101, Try.ntmps101
  go_wp2
  go_ret2
  exact ⟨_, _, rfl, Nat.le_refl _, Nat.le_refl _, noRow _ _ _, (Below.refl _ _).alloc (Nat.le_refl _) _⟩
theorem sumBad_spec (ao : Option Addr) (n cap : Nat) (f : Nat → Int) (w : World) (ha : 4 ≤ n → ∃ b, ao = some ⟨b, 0, none⟩) (hv : View w ao n cap f) (hn : n ≤ 1048576) (hg : sumGood n f = false) : SumGives 101 ao n cap f 0 false w := by
  by_cases h4 : n < 4
  · exact sumFew_spec ao n cap f h4 w
  · obtain ⟨b, rfl⟩ := ha (by omega)
    obtain ⟨m, rfl⟩ : ∃ m, n = m + 4 := ⟨n - 4, by omega⟩
    have h : last4 m f ≠ (crc m f : Int) := by simpa [sumGood] using hg
    exact getSum_spec_all m f hn hv.byte 0 false (.inr ⟨h, rfl, rfl⟩) b cap w hv
theorem sumYes_spec (b : Nat) (n cap : Nat) (f : Nat → Int) (w : World) (hv : View w (some ⟨b, 0, none⟩) n cap f) (hn : n ≤ 1048576) (hg : sumGood n f = true) : SumGives 101 (some ⟨b, 0, none⟩) n cap f (n - 4) true w := by
  have h' : 4 ≤ n ∧ last4 (n - 4) f = (crc (n - 4) f : Int) := by simpa [sumGood] using hg
  obtain ⟨m, rfl⟩ : ∃ m, n = m + 4 := ⟨n - 4, by omega⟩
  rw [Nat.add_sub_cancel] at h' ⊢
  exact getSum_spec_all m f hn hv.byte m true (.inl ⟨h'.2, rfl, rfl⟩) b cap w hv

set_option maxHeartbeats 4000000 in
theorem getPage_spec (ao : Option Addr) (n cap : Nat) (f : Nat → Int) (w : World) (ha : 4 ≤ n → ∃ b, ao = some ⟨b, 0, none⟩) (hv : View w ao n cap f) (hn : n ≤ 1048576) :
    Calls Try.prog 40 #[.slice ao n cap] w (PgTo w (getPg n f)) := by
  by_cases hg : sumGood n f = true
  case neg =>
    have hg' : sumGood n f = false := by simpa using hg
    have HG : Hid (getPg n f = (0, strOfNums [], false)) := getPg_bad hg'
    have hS := sumBad_spec ao n cap f w ha hv hn hg'
    unfold SumGives at hS
    obtain ⟨M, hM⟩ : ∃ M, Hid (M = 0) := ⟨0, rfl⟩
    obtain ⟨q, hq⟩ : ∃ q : Int, Hid (q = 0) := ⟨0, rfl⟩
    obtain ⟨s, hs⟩ : ∃ s, Hid (s = strOfNums []) := ⟨_, rfl⟩
    obtain ⟨r, hr⟩ : ∃ r : Int, Hid (r = 0) := ⟨0, rfl⟩
    obtain ⟨gd, hgd⟩ : ∃ gd, Hid (gd = false) := ⟨_, rfl⟩
    have hU : Hid (getU M f 0 = (0, q, false)) := by show _ = _; rw [hM.out, hq.out]; exact getU_zero f
    have hT : Hid (getText M f q = (s, r, gd)) := by show _ = _; rw [hM.out, hq.out, hs.out, hr.out, hgd.out]; exact getText_zero f
    have HY : Hid (∀ i, i < M → 0 ≤ f i ∧ f i ≤ 255) := fun i hi => by rw [hM.out] at hi; omega
    have hMl : M ≤ 1048576 := by rw [hM.out]; omega
    have hql : q ≤ 9223372036854775807 := by rw [hq.out]; omega
    have hS' : Calls Try.prog 101 #[.slice ao n cap] w fun e w' => ∃ g c, e = .returned (.tuple #[.slice (some ⟨g, 0, none⟩) M c, .bool false]) ∧ w.heap.size ≤ g ∧ M ≤ c ∧ Row 5 w' g M f ∧ Below w.heap.size w w' := by rw [hM.out]; exact hS
    clear hS
    have hS := hS'
    clear hS' hM hq hs hr hgd
    go_enter Try.func40, Try.ntmps40
    go_wp2_with fail
    refine hS.mono ?_
    rintro e w1 ⟨g1, c1, rfl, hg1, hc1, hr1, hb1⟩
    have hv1 := hr1.view hc1 HY.out
    go_wp2_with fail
    refine (getU_spec' _ M c1 f 0 w1 hU hv1 (by omega) (by omega)).mono ?_
    rintro e _ ⟨rfl, rfl⟩
    go_wp2_with fail
    refine (getText_spec g1 0 M c1 f q w1 s r gd hT hv1 (by omega) (by omega)).mono ?_
    rintro e _ ⟨rfl, rfl⟩
    clear hv1 hr1
    go_wp2
    go_ret3
    rw [HG.out]
    exact pgTo_no hb1 rfl
  have h4 : 4 ≤ n := by
    have : 4 ≤ n ∧ last4 (n - 4) f = (crc (n - 4) f : Int) := by simpa [sumGood] using hg
    exact this.1
  obtain ⟨b, rfl⟩ := ha h4
  have hS := sumYes_spec b n cap f w hv hn hg
  unfold SumGives at hS
  obtain ⟨M, hM⟩ : ∃ M, Hid (n - 4 = M) := ⟨_, rfl⟩
  obtain ⟨k, q, is, hU⟩ : ∃ a r c, Hid (getU M f 0 = (a, r, c)) := ⟨_, _, _, rfl⟩
  obtain ⟨s, r, gd, hT⟩ : ∃ a r c, Hid (getText M f q = (a, r, c)) := ⟨_, _, _, rfl⟩
  have HP := getPg_sum (n := n) (f := f) (k := k) (q := q) (r := r) (s := s) (a := is) (b := gd) hg (by rw [hM.out]; exact hU.out) (by rw [hM.out]; exact hT.out)
  have HI : is = true → gd = true → (pageF k s = lof n f ↔ (r = (M : Int) ∧ (k = 1 ∨ k = 2) ∧ s.size ≤ 240)) := by
    rintro rfl rfl
    rw [← hM.out]
    exact page_iff hv.byte hg (by rw [hM.out]; exact hU.out) (by rw [hM.out]; exact hT.out)
  rw [hM.out] at hS HP
  have HY : Hid (∀ i, i < M → 0 ≤ f i ∧ f i ≤ 255) := fun i hi => hv.byte i (by rw [← hM.out] at hi; omega)
  have hMl : M ≤ 1048576 := by rw [← hM.out]; omega
  have hkb : -9223372036854775808 ≤ k ∧ k ≤ 9223372036854775807 := by
    cases is with
    | true => have := getU_bd HY.out hU.out; omega
    | false => have := getU_none13 hU.out; omega
  have hql : q ≤ 9223372036854775807 := by
    cases is with
    | true => have := getU_bd HY.out hU.out; omega
    | false => have := getU_none13 hU.out; omega
  have hsl : is = true → gd = true → s.size ≤ 1000000 ∧ 0 ≤ r ∧ r ≤ M := by
    rintro rfl rfl
    obtain ⟨hA, hr, -, -, h3⟩ := page_inner HY.out hU.out hT.out
    have := hA.le
    exact ⟨h3, by omega, by omega⟩
  clear hM
  cases is with
  | false =>
    have HG : Hid (getPg n f = (0, strOfNums [], false)) := by show _ = _; rw [HP, if_neg (by simp)]
    clear HP HI hsl
    go_enter Try.func40, Try.ntmps40
    go_wp2_with fail
    refine hS.mono ?_
    rintro e w1 ⟨g1, c1, rfl, hg1, hc1, hr1, hb1⟩
    have hv1 := hr1.view hc1 HY.out
    go_wp2_with fail
    refine (getU_spec' _ M c1 f 0 w1 hU hv1 (by omega) (by omega)).mono ?_
    rintro e _ ⟨rfl, rfl⟩
    go_wp2_with fail
    refine (getText_spec g1 0 M c1 f q w1 s r gd hT hv1 (by omega) (by omega)).mono ?_
    rintro e _ ⟨rfl, rfl⟩
    clear hv1 hr1
    go_wp2
    go_ret3
    rw [HG.out]
    exact pgTo_no hb1 rfl
  | true =>
  cases gd with
  | false =>
    have HG : Hid (getPg n f = (0, strOfNums [], false)) := by show _ = _; rw [HP, if_neg (by simp)]
    clear HP HI hsl
    go_enter Try.func40, Try.ntmps40
    go_wp2_with fail
    refine hS.mono ?_
    rintro e w1 ⟨g1, c1, rfl, hg1, hc1, hr1, hb1⟩
    have hv1 := hr1.view hc1 HY.out
    go_wp2_with fail
    refine (getU_spec' _ M c1 f 0 w1 hU hv1 (by omega) (by omega)).mono ?_
    rintro e _ ⟨rfl, rfl⟩
    go_wp2_with fail
    refine (getText_spec g1 0 M c1 f q w1 s r false hT hv1 (by omega) (by omega)).mono ?_
    rintro e _ ⟨rfl, rfl⟩
    clear hv1 hr1
    go_wp2
    go_ret3
    rw [HG.out]
    exact pgTo_no hb1 rfl
  | true =>
  obtain ⟨hs1, hr0, hr1'⟩ := hsl rfl rfl
  clear hsl
  clear HI
  by_cases hrm : r = (M : Int)
  case neg =>
    have HG : Hid (getPg n f = (0, strOfNums [], false)) := by show _ = _; rw [HP, if_neg (fun h => hrm h.2.2.1)]
    have hne : (r == (M : Int)) = false := beq_eq_false_iff_ne.2 hrm
    clear HP
    go_enter Try.func40, Try.ntmps40
    go_wp2_with fail
    refine hS.mono ?_
    rintro e w1 ⟨g1, c1, rfl, hg1, hc1, hr1, hb1⟩
    have hv1 := hr1.view hc1 HY.out
    go_wp2_with fail
    refine (getU_spec' _ M c1 f 0 w1 hU hv1 (by omega) (by omega)).mono ?_
    rintro e _ ⟨rfl, rfl⟩
    go_wp2_with fail
    refine (getText_spec g1 0 M c1 f q w1 s r true hT hv1 (by omega) (by omega)).mono ?_
    rintro e _ ⟨rfl, rfl⟩
    clear hv1 hr1
    go_wp2
    go_ret3
    rw [HG.out]
    exact pgTo_no hb1 rfl
  subst hrm
  have hne : ((M : Int) == (M : Int)) = true := beq_self_eq_true _
  by_cases hk : k = 1 ∨ k = 2
  case neg =>
    have HG : Hid (getPg n f = (0, strOfNums [], false)) := by show _ = _; rw [HP, if_neg (fun h => hk h.2.2.2.1)]
    have hV := fun W => l1In_no k 1 2 W (by omega)
    clear HP
    go_enter Try.func40, Try.ntmps40
    go_wp2_with fail
    refine hS.mono ?_
    rintro e w1 ⟨g1, c1, rfl, hg1, hc1, hr1, hb1⟩
    have hv1 := hr1.view hc1 HY.out
    go_wp2_with fail
    refine (getU_spec' _ M c1 f 0 w1 hU hv1 (by omega) (by omega)).mono ?_
    rintro e _ ⟨rfl, rfl⟩
    go_wp2_with fail
    refine (getText_spec g1 0 M c1 f q w1 s _ true hT hv1 (by omega) (by omega)).mono ?_
    rintro e _ ⟨rfl, rfl⟩
    clear hv1 hr1
    go_wp2_with fail
    refine (hV _).mono ?_
    rintro e _ ⟨rfl, rfl⟩
    go_wp2
    go_ret3
    rw [HG.out]
    exact pgTo_no hb1 rfl
  have hV := fun W => l1In_yes k 1 2 W (by omega) (by omega)
  by_cases hs2 : s.size ≤ 240
  case neg =>
    have HG : Hid (getPg n f = (0, strOfNums [], false)) := by show _ = _; rw [HP, if_neg (fun h => hs2 h.2.2.2.2)]
    have hz : (240 : Int) < s.size := by omega
    clear HP
    go_enter Try.func40, Try.ntmps40
    go_wp2_with fail
    refine hS.mono ?_
    rintro e w1 ⟨g1, c1, rfl, hg1, hc1, hr1, hb1⟩
    have hv1 := hr1.view hc1 HY.out
    go_wp2_with fail
    refine (getU_spec' _ M c1 f 0 w1 hU hv1 (by omega) (by omega)).mono ?_
    rintro e _ ⟨rfl, rfl⟩
    go_wp2_with fail
    refine (getText_spec g1 0 M c1 f q w1 s _ true hT hv1 (by omega) (by omega)).mono ?_
    rintro e _ ⟨rfl, rfl⟩
    clear hv1 hr1
    go_wp2_with fail
    refine (hV _).mono ?_
    rintro e _ ⟨rfl, rfl⟩
    go_wp2
    go_ret3
    rw [HG.out]
    exact pgTo_no hb1 rfl
  have HG : Hid (getPg n f = (k, s, true)) := by show _ = _; rw [HP, if_pos ⟨rfl, rfl, rfl, hk, hs2⟩]
  have hz : ¬ (240 : Int) < s.size := by omega
  have kc := fun w => run_bytes_of_string (P := Try.prog) w 9 27 5 s Try.underlying9 Try.underlying27 Try.underlying5
  clear HP
  go_enter Try.func40, Try.ntmps40
  go_wp2_with fail
  refine hS.mono ?_
  rintro e w1 ⟨g1, c1, rfl, hg1, hc1, hr1, hb1⟩
  have hv1 := hr1.view hc1 HY.out
  go_wp2_with fail
  refine (getU_spec' _ M c1 f 0 w1 hU hv1 (by omega) (by omega)).mono ?_
  rintro e _ ⟨rfl, rfl⟩
  go_wp2_with fail
  refine (getText_spec g1 0 M c1 f q w1 s _ true hT hv1 (by omega) (by omega)).mono ?_
  rintro e _ ⟨rfl, rfl⟩
  clear hv1 hr1
  go_wp2_with fail
  refine (hV _).mono ?_
  rintro e _ ⟨rfl, rfl⟩
  clear hV
  go_wp2
  go_ret3
  rw [HG.out]
  exact ⟨_, _, rfl, hb1.size, grownCap_ge _ _ _ _, (text_row w1 s _).of_block rfl, hb1.drew.alloc hb1.size _⟩

set_option maxHeartbeats 4000000 in
theorem getPage_impl (ao : Option Addr) (n cap : Nat) (f : Nat → Int) (w : World) (ha : 4 ≤ n → ∃ b, ao = some ⟨b, 0, none⟩) (hv : View w ao n cap f) (hn : n ≤ 1048576) :
    Calls Try.prog 39 #[.slice ao n cap] w (PgTo w (getPg n f)) := by
  by_cases hg : sumGood n f = true
  case neg =>
    have hg' : sumGood n f = false := by simpa using hg
    have HG : Hid (getPg n f = (0, strOfNums [], false)) := getPg_bad hg'
    have hS := sumBad_impl ao n cap f w ha hv hn hg'
    unfold SumGives at hS
    obtain ⟨M, hM⟩ : ∃ M, Hid (M = 0) := ⟨0, rfl⟩
    obtain ⟨q, hq⟩ : ∃ q : Int, Hid (q = 0) := ⟨0, rfl⟩
    obtain ⟨s, hs⟩ : ∃ s, Hid (s = strOfNums []) := ⟨_, rfl⟩
    obtain ⟨r, hr⟩ : ∃ r : Int, Hid (r = 0) := ⟨0, rfl⟩
    obtain ⟨gd, hgd⟩ : ∃ gd, Hid (gd = false) := ⟨_, rfl⟩
    have hU : Hid (getU M f 0 = (0, q, false)) := by show _ = _; rw [hM.out, hq.out]; exact getU_zero f
    have hT : Hid (getText M f q = (s, r, gd)) := by show _ = _; rw [hM.out, hq.out, hs.out, hr.out, hgd.out]; exact getText_zero f
    have HY : Hid (∀ i, i < M → 0 ≤ f i ∧ f i ≤ 255) := fun i hi => by rw [hM.out] at hi; omega
    have hMl : M ≤ 1048576 := by rw [hM.out]; omega
    have hql : q ≤ 9223372036854775807 := by rw [hq.out]; omega
    have hS' : Calls Try.prog 97 #[.slice ao n cap] w fun e w' => ∃ g c, e = .returned (.tuple #[.slice (some ⟨g, 0, none⟩) M c, .bool false]) ∧ w.heap.size ≤ g ∧ M ≤ c ∧ Row 5 w' g M f ∧ Below w.heap.size w w' := by rw [hM.out]; exact hS
    clear hS
    have hS := hS'
    clear hS' hM hq hs hr hgd
    go_enter Try.func39, Try.ntmps39
    go_wp2_with fail
    refine hS.mono ?_
    rintro e w1 ⟨g1, c1, rfl, hg1, hc1, hr1, hb1⟩
    have hv1 := hr1.view hc1 HY.out
    go_wp2_with fail
    refine (getU_impl' _ M c1 f 0 w1 hU hv1 (by omega) (by omega)).mono ?_
    rintro e _ ⟨rfl, rfl⟩
    go_wp2_with fail
    refine (getText_impl g1 0 M c1 f q w1 s r gd hT hv1 (by omega) (by omega)).mono ?_
    rintro e _ ⟨rfl, rfl⟩
    clear hv1 hr1
    go_wp2
    go_ret3
    rw [HG.out]
    exact pgTo_no hb1 rfl
  have h4 : 4 ≤ n := by
    have : 4 ≤ n ∧ last4 (n - 4) f = (crc (n - 4) f : Int) := by simpa [sumGood] using hg
    exact this.1
  obtain ⟨b, rfl⟩ := ha h4
  have hS := sumYes_impl b n cap f w hv hn hg
  unfold SumGives at hS
  obtain ⟨M, hM⟩ : ∃ M, Hid (n - 4 = M) := ⟨_, rfl⟩
  obtain ⟨k, q, is, hU⟩ : ∃ a r c, Hid (getU M f 0 = (a, r, c)) := ⟨_, _, _, rfl⟩
  obtain ⟨s, r, gd, hT⟩ : ∃ a r c, Hid (getText M f q = (a, r, c)) := ⟨_, _, _, rfl⟩
  have HP := getPg_sum (n := n) (f := f) (k := k) (q := q) (r := r) (s := s) (a := is) (b := gd) hg (by rw [hM.out]; exact hU.out) (by rw [hM.out]; exact hT.out)
  have HI : is = true → gd = true → (pageF k s = lof n f ↔ (r = (M : Int) ∧ (k = 1 ∨ k = 2) ∧ s.size ≤ 240)) := by
    rintro rfl rfl
    rw [← hM.out]
    exact page_iff hv.byte hg (by rw [hM.out]; exact hU.out) (by rw [hM.out]; exact hT.out)
  rw [hM.out] at hS HP
  have HY : Hid (∀ i, i < M → 0 ≤ f i ∧ f i ≤ 255) := fun i hi => hv.byte i (by rw [← hM.out] at hi; omega)
  have hMl : M ≤ 1048576 := by rw [← hM.out]; omega
  have hkb : -9223372036854775808 ≤ k ∧ k ≤ 9223372036854775807 := by
    cases is with
    | true => have := getU_bd HY.out hU.out; omega
    | false => have := getU_none13 hU.out; omega
  have hql : q ≤ 9223372036854775807 := by
    cases is with
    | true => have := getU_bd HY.out hU.out; omega
    | false => have := getU_none13 hU.out; omega
  have hsl : is = true → gd = true → s.size ≤ 1000000 ∧ 0 ≤ r ∧ r ≤ M := by
    rintro rfl rfl
    obtain ⟨hA, hr, -, -, h3⟩ := page_inner HY.out hU.out hT.out
    have := hA.le
    exact ⟨h3, by omega, by omega⟩
  clear hM
  cases is with
  | false =>
    have HG : Hid (getPg n f = (0, strOfNums [], false)) := by show _ = _; rw [HP, if_neg (by simp)]
    clear HP HI hsl
    go_enter Try.func39, Try.ntmps39
    go_wp2_with fail
    refine hS.mono ?_
    rintro e w1 ⟨g1, c1, rfl, hg1, hc1, hr1, hb1⟩
    have hv1 := hr1.view hc1 HY.out
    go_wp2_with fail
    refine (getU_impl' _ M c1 f 0 w1 hU hv1 (by omega) (by omega)).mono ?_
    rintro e _ ⟨rfl, rfl⟩
    go_wp2_with fail
    refine (getText_impl g1 0 M c1 f q w1 s r gd hT hv1 (by omega) (by omega)).mono ?_
    rintro e _ ⟨rfl, rfl⟩
    clear hv1 hr1
    go_wp2
    go_ret3
    rw [HG.out]
    exact pgTo_no hb1 rfl
  | true =>
  cases gd with
  | false =>
    have HG : Hid (getPg n f = (0, strOfNums [], false)) := by show _ = _; rw [HP, if_neg (by simp)]
    clear HP HI hsl
    go_enter Try.func39, Try.ntmps39
    go_wp2_with fail
    refine hS.mono ?_
    rintro e w1 ⟨g1, c1, rfl, hg1, hc1, hr1, hb1⟩
    have hv1 := hr1.view hc1 HY.out
    go_wp2_with fail
    refine (getU_impl' _ M c1 f 0 w1 hU hv1 (by omega) (by omega)).mono ?_
    rintro e _ ⟨rfl, rfl⟩
    go_wp2_with fail
    refine (getText_impl g1 0 M c1 f q w1 s r false hT hv1 (by omega) (by omega)).mono ?_
    rintro e _ ⟨rfl, rfl⟩
    clear hv1 hr1
    go_wp2
    go_ret3
    rw [HG.out]
    exact pgTo_no hb1 rfl
  | true =>
  obtain ⟨hs1, hr0, hr1'⟩ := hsl rfl rfl
  clear hsl
  have HI1 : Hid (pageF k s = lof n f ↔ (r = (M : Int) ∧ (k = 1 ∨ k = 2) ∧ s.size ≤ 240)) := HI rfl rfl
  clear HI
  have HP1 := HP
  clear HP
  have HP : Hid (getPg n f = _) := HP1
  clear HP1
  have kc := fun w => run_bytes_of_string (P := Try.prog) w 9 27 5 s Try.underlying9 Try.underlying27 Try.underlying5
  have HE : Hid (((strOfNums (lof (pageF k s).length (fun i => (pageF k s).getD i 0))).toList == (strOfNums (lof n f)).toList) = decide (pageF k s = lof n f)) := by
    show _ = _
    rw [lof_self, Bool.eq_iff_iff, beq_iff_eq, decide_eq_true_eq]
    constructor
    · intro h
      refine strOfNums_inj (pageF_byte k s) (lof_byteS hv.byte) ?_
      rw [ByteArray.toList_eq, ByteArray.toList_eq] at h
      exact ByteArray.ext (Array.ext' h)
    · intro h; rw [h]
  have HPP : ∀ (g cp : Nat) (W : World), s.size ≤ cp → RowZ 5 W g s.size (fun i => (sl s).getD i 0) → Calls Try.prog 44 #[.int .i64 k, .slice (some ⟨g, 0, none⟩) s.size cp] W (PageTo W (pageF k s)) := by
    intro g cp W hc hz
    have el : lof s.size (fun i => (sl s).getD i 0) = sl s := by
      have := lof_self (sl s)
      rw [sl_len] at this
      exact this
    have := putPage_impl g 0 s.size cp (fun i => (sl s).getD i 0) k W (hz.view hc (by have := bytes_of_list (sl_byte s); rw [sl_len] at this; exact this)) (by omega) hkb.1 hkb.2
    rw [el, strOfNums_sl] at this
    exact this
  have HV : Hid (View w (some ⟨b, 0, none⟩) n cap f) := hv
  have hpb := pageF_byte k s
  obtain ⟨L, hL⟩ : ∃ L, Hid (pageF k s = L) := ⟨_, rfl⟩
  rw [hL.out] at HI1 HE HPP hpb
  have HPB : Hid (∀ y ∈ L, 0 ≤ y ∧ y ≤ 255) := hpb
  clear hpb hv
  go_enter Try.func39, Try.ntmps39
  go_wp2_with fail
  refine hS.mono ?_
  rintro e w1 ⟨g1, c1, rfl, hg1, hc1, hr1, hb1⟩
  have hv1 := hr1.view hc1 HY.out
  go_wp2_with fail
  refine (getU_impl' _ M c1 f 0 w1 hU hv1 (by omega) (by omega)).mono ?_
  rintro e _ ⟨rfl, rfl⟩
  go_wp2_with fail
  refine (getText_impl g1 0 M c1 f q w1 s r true hT hv1 (by omega) (by omega)).mono ?_
  rintro e _ ⟨rfl, rfl⟩
  clear hv1 hr1
  go_wp2_with fail
  obtain ⟨cp, hcp⟩ : ∃ cp, cp = grownCap w1 s.size 0 5 := ⟨_, rfl⟩
  have hge : s.size ≤ cp := by rw [hcp]; exact grownCap_ge _ _ _ _
  rw [← hcp]
  clear hcp
  have hb2 : Below w.heap.size w (w1.alloc (.cells (bytesRow s cp) 5 ((bytesRow s cp).size, (bytesRow s cp).size + 1))).drew := (hb1.alloc hb1.size _).drew
  have hz2 : RowZ 5 (w1.alloc (.cells (bytesRow s cp) 5 ((bytesRow s cp).size, (bytesRow s cp).size + 1))).drew w1.heap.size s.size (fun i => (sl s).getD i 0) := (text_row w1 s cp).of_block rfl
  refine (HPP w1.heap.size cp _ hge hz2).mono ?_
  rintro e w3 ⟨g3, c3, rfl, hg3, hc3, hr3, hb3⟩
  replace hb3 := hb2.trans (hb3.mono hb2.size)
  clear hb2 hz2 HPP
  go_wp2_with fail
  refine (equal_any g3 0 L.length c3 _ b 0 n cap f w3 (hr3.view hc3 (bytes_of_list HPB.out)) (HV.out.below hb3)).mono ?_
  rintro e _ ⟨he, rfl⟩
  rw [HE.out] at he
  subst he
  clear HE hr3 HPB
  by_cases hq : L = lof n f
  · have HG : Hid (getPg n f = (k, s, true)) := by show _ = _; rw [HP.out, if_pos ⟨trivial, trivial, HI1.out.1 hq⟩]
    have hd : decide (L = lof n f) = true := by simpa using hq
    rw [hd]
    clear HP HI1 hq hd
    go_wp2
    go_ret3
    rw [HG.out]
    exact ⟨_, _, rfl, hb3.size, grownCap_ge _ _ _ _, (text_row w3 s _).of_block rfl, hb3.drew.alloc hb3.size _⟩
  · have HG : Hid (getPg n f = (0, strOfNums [], false)) := by show _ = _; rw [HP.out, if_neg (fun h => hq (HI1.out.2 h.2.2))]
    have hd : decide (L = lof n f) = false := by simpa using hq
    rw [hd]
    clear HP HI1 hq hd kc
    go_wp2
    go_ret3
    rw [HG.out]
    exact pgTo_no hb3 rfl
end Go.Proofs.Ytidjcppfolipjaa

/-
  The program's PageAt and the model's.
-/
namespace Go.Proofs.Ytidjcppfolipjaa
open Go.RowKit
set_option maxRecDepth 4000

/-- What PageAt answers. -/
def pgAt (D : PDisk) (n k : Int) : List Int × Bool :=
  if hasB D n = true ∧ (getPg (readB D n).length (bf (readB D n))).2.2 = true ∧ (getPg (readB D n).length (bf (readB D n))).1 = k then (sl (getPg (readB D n).length (bf (readB D n))).2.1, true) else ([], false)
theorem pgAt_len (D : PDisk) (n k : Int) (hb : ∀ i, i < (readB D n).length → 0 ≤ bf (readB D n) i ∧ bf (readB D n) i ≤ 255) : (pgAt D n k).1.length ≤ 240 := by
  unfold pgAt
  split
  · rename_i h
    have := getPg_read (k := (getPg (readB D n).length (bf (readB D n))).1) (s := (getPg (readB D n).length (bf (readB D n))).2.1) hb (Prod.ext rfl (Prod.ext rfl h.2.1))
    rw [sl_len]
    exact this.2.1
  · simp
theorem oz_text {w : World} {B g c : Nat} {s : ByteArray} (hr : RowZ 5 w g s.size (fun i => (sl s).getD i 0)) (hc : s.size ≤ c) (hB : B ≤ g) : OZ w B (.slice (some ⟨g, 0, none⟩) s.size c) (sl s) := by
  refine ⟨_, c, by rw [sl_len], by rw [sl_len]; exact hc, (fun e => by cases e), sl_byte s, .inr ⟨g, rfl, hB, ?_⟩⟩
  rw [sl_len]
  exact hr

set_option maxHeartbeats 4000000 in
theorem pageAt_spec (v : Value) (D : PDisk) (n k : Int) (w : World) (h : KView w v D) (hf : KFine D) :
    Calls Try.prog 43 #[v, .int .i64 n, .int .i64 k] w (BTo w (pgAt D n k).1 (pgAt D n k).2) := by
  have HK : Hid (KView w v D ∧ KFine D) := ⟨h, hf⟩
  have hlen := readB_len hf n
  obtain ⟨sa, sc, ca, cc, fa, fc, rfl, -, -, -⟩ := h.is
  clear h hf
  have hbA : Below w.heap.size w (w.alloc (.cells #[.slice sa D.secs.length sc, .slice ca D.cache.length cc, .int .i64 D.ops, .slice fa D.faults.length fc, .bool D.down] 32)) := (Below.refl _ _).alloc (Nat.le_refl _) _
  have hR := (specReadSec_any _ D n _ (HK.out.1.below hbA) HK.out.2).mono (fun _ _ h => h.bto)
  have HP : Hid (pgAt D n k = if hasB D n = true ∧ (getPg (readB D n).length (bf (readB D n))).2.2 = true ∧ (getPg (readB D n).length (bf (readB D n))).1 = k then (sl (getPg (readB D n).length (bf (readB D n))).2.1, true) else ([], false)) := rfl
  obtain ⟨l, hl⟩ := hidEx (readB D n)
  obtain ⟨ok, hok⟩ := hidEx (hasB D n)
  obtain ⟨P, hP⟩ := hidEx (pgAt D n k)
  rw [hl.out, hok.out, hP.out] at HP
  rw [hl.out, hok.out] at hR
  rw [hl.out] at hlen
  rw [hP.out]
  clear HK hl hok hP
  go_enter Try.func43, Try.ntmps43
  go_wp2_with fail
  refine hR.mono ?_
  rintro e w1 ⟨v1, rfl, hO1, hb1⟩
  replace hb1 := hbA.trans (hb1.mono hbA.size)
  clear hR hbA
  obtain ⟨a1, c1, e1, h1, h2, h3, h4⟩ := hO1.is
  have hv1 := hO1.lv
  subst e1
  have hV : View w1 a1 l.length c1 (bf l) := by
    obtain ⟨a, c, e, hv, -⟩ := hv1.is
    cases e
    exact hv
  have hG := getPage_spec a1 l.length c1 (bf l) w1 (fun h4' => by
    rcases h4 with h4 | ⟨g, e, -, -⟩
    · subst h4; simp at h4'
    · exact ⟨g, e⟩) hV hlen
  obtain ⟨⟨kk, s, is⟩, hr⟩ := hidEx (getPg l.length (bf l))
  rw [hr.out] at hG HP
  obtain ⟨N, hN⟩ := hidEx l.length
  rw [hN.out] at hG ⊢
  clear hO1 hv1 hV h4 h3 h1 h2
  unfold PgTo at hG
  dsimp only at hG HP
  go_wp2_with fail
  refine hG.mono ?_
  rintro e w2 ⟨g2, c2, rfl, hg2, hc2, hr2, hb2⟩
  have HB : Hid (Below w.heap.size w w2) := hb1.trans (hb2.mono hb1.size)
  have HG2 : Hid (w.heap.size ≤ g2) := Nat.le_trans hb1.size hg2
  have HO : Hid (OZ w2 w.heap.size (.slice (some ⟨g2, 0, none⟩) s.size c2) (sl s)) := oz_text hr2 hc2 HG2.out
  clear hG hb1 hb2 hg2 hc2 hr2
  have HN : ∀ (W : World), Below w.heap.size w W → BTo w [] false (.returned (.tuple #[.slice (some ⟨W.heap.size, 0, none⟩) 0 0, .bool false])) (W.alloc (.cells #[] 5)) := fun W hb => ⟨_, rfl, ⟨_, 0, rfl, Nat.le_refl _, (fun e => by cases e), by simp, .inl rfl⟩, hb.alloc hb.size _⟩
  cases ok
  · have hE : Hid (P = ([], false)) := by show _ = _; rw [HP.out, if_neg (by simp)]
    clear HP
    go_wp2
    go_ret2
    rw [hE.out]
    exact HN _ HB.out
  cases is
  · have hE : Hid (P = ([], false)) := by show _ = _; rw [HP.out, if_neg (by simp)]
    clear HP
    go_wp2
    go_ret2
    rw [hE.out]
    exact HN _ HB.out
  by_cases hk : kk = k
  · have hE : Hid (P = (sl s, true)) := by show _ = _; rw [HP.out, if_pos ⟨rfl, rfl, hk⟩]
    subst hk
    have hq : (kk == kk) = true := beq_self_eq_true _
    clear HP HN
    go_wp2
    go_ret2
    rw [hE.out]
    exact ⟨_, rfl, HO.out, HB.out⟩
  · have hE : Hid (P = ([], false)) := by show _ = _; rw [HP.out, if_neg (fun h => hk h.2.2)]
    have hq : (kk == k) = false := beq_eq_false_iff_ne.2 hk
    clear HP
    go_wp2
    go_ret2
    rw [hE.out]
    exact HN _ HB.out

set_option maxHeartbeats 4000000 in
theorem pageAt_impl (v : Value) (D : PDisk) (n k : Int) (w : World) (h : KView w v D) (hf : KFine D) :
    Calls Try.prog 42 #[v, .int .i64 n, .int .i64 k] w (BTo w (pgAt D n k).1 (pgAt D n k).2) := by
  have HK : Hid (KView w v D ∧ KFine D) := ⟨h, hf⟩
  have hlen := readB_len hf n
  obtain ⟨sa, sc, ca, cc, fa, fc, rfl, -, -, -⟩ := h.is
  clear h hf
  have hbA : Below w.heap.size w (w.alloc (.cells #[.slice sa D.secs.length sc, .slice ca D.cache.length cc, .int .i64 D.ops, .slice fa D.faults.length fc, .bool D.down] 32)) := (Below.refl _ _).alloc (Nat.le_refl _) _
  have hR := (implReadSec_any _ D n _ (HK.out.1.below hbA) HK.out.2).mono (fun _ _ h => h.bto)
  have HP : Hid (pgAt D n k = if hasB D n = true ∧ (getPg (readB D n).length (bf (readB D n))).2.2 = true ∧ (getPg (readB D n).length (bf (readB D n))).1 = k then (sl (getPg (readB D n).length (bf (readB D n))).2.1, true) else ([], false)) := rfl
  obtain ⟨l, hl⟩ := hidEx (readB D n)
  obtain ⟨ok, hok⟩ := hidEx (hasB D n)
  obtain ⟨P, hP⟩ := hidEx (pgAt D n k)
  rw [hl.out, hok.out, hP.out] at HP
  rw [hl.out, hok.out] at hR
  rw [hl.out] at hlen
  rw [hP.out]
  clear HK hl hok hP
  go_enter Try.func42, Try.ntmps42
  go_wp2_with fail
  refine hR.mono ?_
  rintro e w1 ⟨v1, rfl, hO1, hb1⟩
  replace hb1 := hbA.trans (hb1.mono hbA.size)
  clear hR hbA
  obtain ⟨a1, c1, e1, h1, h2, h3, h4⟩ := hO1.is
  have hv1 := hO1.lv
  subst e1
  have hV : View w1 a1 l.length c1 (bf l) := by
    obtain ⟨a, c, e, hv, -⟩ := hv1.is
    cases e
    exact hv
  have hG := getPage_impl a1 l.length c1 (bf l) w1 (fun h4' => by
    rcases h4 with h4 | ⟨g, e, -, -⟩
    · subst h4; simp at h4'
    · exact ⟨g, e⟩) hV hlen
  obtain ⟨⟨kk, s, is⟩, hr⟩ := hidEx (getPg l.length (bf l))
  rw [hr.out] at hG HP
  obtain ⟨N, hN⟩ := hidEx l.length
  rw [hN.out] at hG ⊢
  clear hO1 hv1 hV h4 h3 h1 h2
  unfold PgTo at hG
  dsimp only at hG HP
  go_wp2_with fail
  refine hG.mono ?_
  rintro e w2 ⟨g2, c2, rfl, hg2, hc2, hr2, hb2⟩
  have HB : Hid (Below w.heap.size w w2) := hb1.trans (hb2.mono hb1.size)
  have HG2 : Hid (w.heap.size ≤ g2) := Nat.le_trans hb1.size hg2
  have HO : Hid (OZ w2 w.heap.size (.slice (some ⟨g2, 0, none⟩) s.size c2) (sl s)) := oz_text hr2 hc2 HG2.out
  clear hG hb1 hb2 hg2 hc2 hr2
  have HN : ∀ (W : World), Below w.heap.size w W → BTo w [] false (.returned (.tuple #[.slice (some ⟨W.heap.size, 0, none⟩) 0 0, .bool false])) (W.alloc (.cells #[] 5)) := fun W hb => ⟨_, rfl, ⟨_, 0, rfl, Nat.le_refl _, (fun e => by cases e), by simp, .inl rfl⟩, hb.alloc hb.size _⟩
  cases ok
  · have hE : Hid (P = ([], false)) := by show _ = _; rw [HP.out, if_neg (by simp)]
    clear HP
    go_wp2
    go_ret2
    rw [hE.out]
    exact HN _ HB.out
  cases is
  · have hE : Hid (P = ([], false)) := by show _ = _; rw [HP.out, if_neg (by simp)]
    clear HP
    go_wp2
    go_ret2
    rw [hE.out]
    exact HN _ HB.out
  by_cases hk : kk = k
  · have hE : Hid (P = (sl s, true)) := by show _ = _; rw [HP.out, if_pos ⟨rfl, rfl, hk⟩]
    subst hk
    have hq : (kk == kk) = true := beq_self_eq_true _
    clear HP HN
    go_wp2
    go_ret2
    rw [hE.out]
    exact ⟨_, rfl, HO.out, HB.out⟩
  · have hE : Hid (P = ([], false)) := by show _ = _; rw [HP.out, if_neg (fun h => hk h.2.2)]
    have hq : (kk == k) = false := beq_eq_false_iff_ne.2 hk
    clear HP
    go_wp2
    go_ret2
    rw [hE.out]
    exact HN _ HB.out
end Go.Proofs.Ytidjcppfolipjaa

/-
  What is read of a sector as a page is short.
-/
namespace Go.Proofs.Ytidjcppfolipjaa
open Go.RowKit
set_option maxRecDepth 4000

theorem pgAt_short (D : PDisk) (n k : Int) : (pgAt D n k).1.length ≤ 1048576 := by
  unfold pgAt
  split
  · rename_i h
    rw [sl_len]
    obtain ⟨-, h2, -⟩ := h
    unfold getPg at h2 ⊢
    split at h2
    · rename_i hc
      rw [if_pos hc]
      have := hc.2.2.2.2.2
      show (getText _ _ _).1.size ≤ _
      omega
    · cases h2
  · simp
end Go.Proofs.Ytidjcppfolipjaa

/-
  Whether a code is too long.
-/
namespace Go.Proofs.Ytidjcppfolipjaa
open Go.RowKit
set_option maxRecDepth 4000

theorem big_any (ao : Option Addr) (n cap : Nat) (w : World) (_hn : n ≤ 9223372036854775807) :
    Calls Try.prog 19 #[.slice ao n cap] w fun e w' => e = .returned (.bool (decide ((1048576 : Int) < (n : Int)))) ∧ w = w' := by
  go_enter Try.func19, Try.ntmps19
  go_wp2
  go_ret
  exact ⟨rfl, rfl⟩

end Go.Proofs.Ytidjcppfolipjaa

/-
  What the law's own helpers sameBytes and begins come to, at every two slices of bytes that read.
-/
namespace Go.Proofs.Ytidjcppfolipjaa
open Go.RowKit
set_option maxRecDepth 4000

set_option maxHeartbeats 1000000 in
theorem sameBytes_any (a1 a2 : Option Addr) (n m c1 c2 : Nat) (f g : Nat → Int) (w : World) (h1 : View w a1 n c1 f) (h2 : View w a2 m c2 g) (hn : n ≤ 281474976710656) (hm : m ≤ 281474976710656) :
    Calls Try.prog 25 #[.slice a1 n c1, .slice a2 m c2] w fun e w' => e = .returned (.bool (decide (lof n f = lof m g))) ∧ Below w.heap.size w w' := by
  by_cases hnm : n = m
  · subst hnm
    have q0 : ((n : Int) != (n : Int)) = false := by simp
    go_enter Try.func25, Try.ntmps25
    go_wp2
    go_loopg [5] n (fun q i wr => ∃ k : Nat, k ≤ n ∧ q = n - k ∧ i = .int .i64 k ∧ Below w.heap.size w wr ∧ ∀ j, j < k → f j = g j)
    case atStart => exact ⟨0, Nat.zero_le _, rfl, rfl, Below.refl _ _, fun j hj => absurd hj (Nat.not_lt_zero _)⟩
    case round =>
      obtain ⟨k, hk, rfl, rfl, hB, hE⟩ := hrel
      have HE : Hid (∀ j, j < k → f j = g j) := hE
      clear hE
      by_cases hlt : k < n
      · obtain ⟨b1, o1, rfl, hb1, hc1⟩ := h1.cells (by omega)
        obtain ⟨b2, o2, rfl, hb2, hc2⟩ := h2.cells (by omega)
        have hkz : (k : Int) < (n : Int) := by omega
        have e1 : wr.cell? ⟨b1, o1 + k, none⟩ = some (.int .u8 (f k)) := by rw [hB.cell (p := ⟨b1, o1 + k, none⟩) hb1]; exact hc1 k hlt
        have e2 : wr.cell? ⟨b2, o2 + k, none⟩ = some (.int .u8 (g k)) := by rw [hB.cell (p := ⟨b2, o2 + k, none⟩) hb2]; exact hc2 k hlt
        clear hc1 hc2
        by_cases he : f k = g k
        · have q1 : (f k != g k) = false := by simpa using he
          have HE2 : Hid (∀ j, j < k + 1 → f j = g j) := fun j hj => by
            by_cases e : j = k
            · subst e; exact he
            · exact HE.out j (by omega)
          clear he
          go_wp2
          go_region
          all_goals go_wp2
          all_goals
            go_roundg (n - (k + 1))
            case measure => omega
            case rel => exact ⟨k + 1, by omega, rfl, by go_num, by first | exact hB.drew | exact hB, HE2.out⟩
        · have q1 : (f k != g k) = true := by simpa using he
          have HD : Hid (decide (lof n f = lof n g) = false) := by
            show _ = _
            rw [decide_eq_false_iff_not, lof_eq]
            exact fun h => he (h k hlt)
          clear he
          go_wp2
          go_region
          all_goals go_wp2
          all_goals
            go_ret
            exact ⟨by rw [HD.out]; rfl, by first | exact hB.drew | exact hB⟩
      · obtain rfl : k = n := by omega
        have HD : Hid (decide (lof k f = lof k g) = true) := by
          show _ = _
          rw [decide_eq_true_iff, lof_eq]
          exact HE.out
        go_wp2
        go_ret
        exact ⟨by rw [HD.out]; rfl, hB⟩
  · have q0 : ((n : Int) != (m : Int)) = true := by simp; omega
    have HD : Hid (decide (lof n f = lof m g) = false) := by
      show _ = _
      rw [decide_eq_false_iff_not]
      intro h
      have := congrArg List.length h
      rw [lof_len, lof_len] at this
      exact hnm this
    go_enter Try.func25, Try.ntmps25
    go_wp2
    go_ret
    exact ⟨by rw [HD.out]; rfl, Below.refl _ _⟩
end Go.Proofs.Ytidjcppfolipjaa

/-
  The walk over the law FnPagesRead.
-/
namespace Go.Proofs.Ytidjcppfolipjaa
open Go.RowKit
set_option maxRecDepth 4000

theorem oz_view {w : World} {B : Nat} {v : Value} {l : List Int} (h : OZ w B v l) : ∃ a c, v = .slice a l.length c ∧ View w a l.length c (bf l) := by
  obtain ⟨a, c, e, h1, h2, h3, h4⟩ := h.is
  refine ⟨a, c, e, ?_⟩
  rcases h4 with rfl | ⟨g, rfl, hg, hr⟩
  · exact ⟨by simp, fun i hi => absurd hi (Nat.not_lt_zero _), fun h => absurd h (Nat.lt_irrefl _)⟩
  · exact hr.view h1 (bytes_of_list h3)

set_option maxHeartbeats 4000000 in
theorem lawPagesRead (ao : Option Addr) (n cap : Nat) (f : Nat → Int) (w : World) (hv : View w ao n cap f) (hn63 : n ≤ 9223372036854775807) :
    Calls Try.prog 7 #[.slice ao n cap] w fun e w' => e = .returned (.bool true) ∧ Below w.heap.size w w' := by
  by_cases hbig : 1048576 < n
  · have hd : decide ((1048576 : Int) < (n : Int)) = true := by simp; omega
    go_enter Try.func7, Try.ntmps7
    go_wp2_with fail
    refine (big_any ao n cap w hn63).mono ?_
    rw [hd]
    rintro e _ ⟨rfl, rfl⟩
    go_wp2
    go_ret
    exact ⟨rfl, Below.refl _ _⟩
  have hd : decide ((1048576 : Int) < (n : Int)) = false := by simp; omega
  have hn : n ≤ 1048576 := by omega
  clear hbig
  go_enter Try.func7, Try.ntmps7
  go_wp2_with fail
  refine (big_any ao n cap w hn63).mono ?_
  rw [hd]
  rintro e _ ⟨rfl, rfl⟩
  clear hd
  go_wp2_with fail
  refine (drawGetPage_any ao n cap f w hn hv).mono ?_
  rintro e w1 ⟨b, c, m, F, rfl, hm, hV, hB⟩
  obtain ⟨k, s, ok, hp⟩ : ∃ k s ok, Hid (getPg m F = (k, s, ok)) := ⟨_, _, _, rfl⟩
  have hF := hV.byte
  have HFB : Hid (∀ i, i < m → 0 ≤ F i ∧ F i ≤ 255) := hF
  have hI := getPage_impl (some ⟨b, 0, none⟩) m c F w1 (fun _ => ⟨b, rfl⟩) hV (by omega)
  rw [hp.out] at hI
  unfold PgTo at hI
  dsimp only at hI
  clear hF
  go_wp2_with fail
  refine hI.mono ?_
  rintro e w2 ⟨g2, c2, rfl, hg2, hc2, hz2, hb2⟩
  replace hV := hV.below hb2
  replace hB := hB.trans (hb2.mono hB.size)
  have hS := getPage_spec (some ⟨b, 0, none⟩) m c F w2 (fun _ => ⟨b, rfl⟩) hV (by omega)
  rw [hp.out] at hS
  unfold PgTo at hS
  dsimp only at hS
  clear hI hg2 hb2
  go_wp2_with fail
  refine hS.mono ?_
  rintro e w3 ⟨g3, c3, rfl, -, -, -, hb3⟩
  replace hV := hV.below hb3
  replace hz2 := hz2.belowAll hb3
  replace hB := hB.trans (hb3.mono hB.size)
  clear hS hb3
  go_wp2_with fail
  refine (drawPageAt_any ao n cap f w3 hn (hv.below hB)).mono ?_
  rintro e w4 ⟨dv, D, z, kk, rfl, hK, hok, hz, hkk, hb4⟩
  replace hV := hV.below hb4
  replace hz2 := hz2.belowAll hb4
  replace hB := hB.trans (hb4.mono hB.size)
  obtain ⟨sa, sc, ca, cc, fa, fc, rfl, -, -, -⟩ := hK.is
  have hbX : Below w4.heap.size w4 (w4.alloc (.cells #[.slice sa D.secs.length sc, .slice ca D.cache.length cc, .int .i64 D.ops, .slice fa D.faults.length fc, .bool D.down] 32)) := (Below.refl _ _).alloc (Nat.le_refl _) _
  have hX := VN.new w4 32 [.slice sa D.secs.length sc, .slice ca D.cache.length cc, .int .i64 D.ops, .slice fa D.faults.length fc, .bool D.down]
  replace hV := hV.below hbX
  replace hz2 := hz2.belowAll hbX
  replace hK := hK.below hbX
  replace hB := hB.trans (hbX.mono hB.size)
  obtain ⟨y, is, hpa⟩ : ∃ y is, Hid (pgAt D z kk = (y, is)) := ⟨_, _, rfl⟩
  clear hb4 hbX
  go_wp2_with fail
  obtain ⟨W5, hW5⟩ : ∃ x, Hid (w4.alloc (.cells #[.slice sa D.secs.length sc, .slice ca D.cache.length cc, .int .i64 D.ops, .slice fa D.faults.length fc, .bool D.down] 32) = x) := ⟨_, rfl⟩
  obtain ⟨X, hXe⟩ : ∃ x, Hid (w4.heap.size = x) := ⟨_, rfl⟩
  rw [hW5.out] at hX hV hz2 hK hB ⊢
  rw [hXe.out] at hX ⊢
  have hI := pageAt_impl _ D z kk W5 hK hok
  rw [hpa.out] at hI
  unfold BTo at hI
  dsimp only at hI
  refine hI.mono ?_
  rintro e w6 ⟨v6, rfl, hoz6, hb6⟩
  replace hV := hV.below hb6
  replace hz2 := hz2.belowAll hb6
  replace hK := hK.below hb6
  replace hX := hX.below hb6
  replace hB := hB.trans (hb6.mono hB.size)
  obtain ⟨a6, c6, rfl, hv6⟩ := oz_view hoz6
  have x0 := hX.cell 0
  have x1 := hX.cell 1
  have x2 := hX.cell 2
  have x3 := hX.cell 3
  have x4 := hX.cell 4
  simp only [List.getElem?_cons_zero, List.getElem?_cons_succ] at x0 x1 x2 x3 x4
  have hS := pageAt_spec _ D z kk w6 hK hok
  rw [hpa.out] at hS
  unfold BTo at hS
  dsimp only at hS
  have hyl : y.length ≤ 1048576 := by have := pgAt_short D z kk; rw [hpa.out] at this; exact this
  clear hI hb6 hoz6 hK hX hW5 hXe
  go_wp2_with fail
  refine hS.mono ?_
  rintro e w7 ⟨v7, rfl, hoz7, hb7⟩
  replace hV := hV.below hb7
  replace hz2 := hz2.belowAll hb7
  replace hv6 := hv6.below hb7
  replace hB := hB.trans (hb7.mono hB.size)
  obtain ⟨a7, c7, rfl, hv7⟩ := oz_view hoz7
  have hii : (is == is) = true := beq_self_eq_true _
  have hoo : (ok == ok) = true := beq_self_eq_true _
  clear hS hb7 hoz7 x0 x1 x2 x3 x4
  have hsm := sameBytes_any a6 a7 y.length y.length c6 c7 (bf y) (bf y) w7 hv6 hv7 (by omega) (by omega)
  rw [decide_eq_true rfl] at hsm
  go_wp2_with fail
  refine hsm.mono ?_
  rintro e w8 ⟨rfl, hb8⟩
  replace hV := hV.below hb8
  replace hz2 := hz2.belowAll hb8
  replace hB := hB.trans (hb8.mono hB.size)
  clear hsm hv6 hv7 hb8
  cases ok with
  | false =>
    obtain ⟨rfl, rfl⟩ : k = 0 ∧ s = strOfNums [] := by
      have h := getPg_none (n := m) (f := F) (by rw [hp.out])
      rw [hp.out] at h
      simp only [Prod.mk.injEq, and_true] at h
      exact h
    rw [str_size] at *
    clear hz2 hV
    go_wp2
    go_ret
    exact ⟨rfl, hB⟩
  | true =>
    obtain ⟨hk12, hs240, hL⟩ := getPg_read HFB.out hp.out
    have hZ := hz2.view hc2 (by have := bytes_of_list (sl_byte s); rw [sl_len] at this; exact this)
    have hP := putPage_impl g2 0 s.size c2 (fun i => (sl s).getD i 0) k w8 hZ (by omega) (by omega) (by omega)
    have el : lof s.size (fun i => (sl s).getD i 0) = sl s := by
      have := lof_self (sl s)
      rw [sl_len] at this
      exact this
    have hpF : pageF k s = lof m F := by unfold pageF; rw [if_pos ⟨hk12, hs240⟩]; exact hL
    rw [el, strOfNums_sl, hpF] at hP
    unfold PageTo at hP
    rw [lof_len] at hP
    clear hz2 hZ el hpF hL hp
    go_wp2_with fail
    refine hP.mono ?_
    rintro e w9 ⟨g9, c9, rfl, -, hc9, hr9, hb9⟩
    replace hV := hV.below hb9
    replace hB := hB.trans (hb9.mono hB.size)
    have hsm := sameBytes_any (some ⟨g9, 0, none⟩) (some ⟨b, 0, none⟩) m m c9 c (fun i => (lof m F).getD i 0) F w9 (hr9.view hc9 (fun i hi => by rw [lof_get m F i hi]; exact HFB.out i hi)) hV (by omega) (by omega)
    rw [decide_eq_true (by have := lof_self (lof m F); rw [lof_len] at this; exact this)] at hsm
    clear hP hr9 hb9
    go_wp2_with fail
    refine hsm.mono ?_
    rintro e w10 ⟨rfl, hb10⟩
    replace hB := hB.trans (hb10.mono hB.size)
    clear hsm hb10 hV
    go_wp2
    go_ret
    exact ⟨rfl, hB⟩
end Go.Proofs.Ytidjcppfolipjaa

