/-
  The model's GetVar: it answers as the program's.
-/
import Derived.Test.YtbcgonfihdpjnaqNumRead
import Derived.Test.YtbcgonfihdpjnaqParts
import Derived.Test.YtbcgonfihdpjnaqPutVarSpec
namespace Go.Proofs.Ytbcgonfihdpjnaq
open Go.RowKit
set_option maxRecDepth 4000

theorem view_nil (w : World) (b : Nat) : View w (some ⟨b, 0, none⟩) 0 0 (fun _ => 0) := ⟨Nat.le_refl _, fun _ hi => absurd hi (Nat.not_lt_zero _), fun h => absurd h (Nat.lt_irrefl _)⟩

set_option maxHeartbeats 1000000 in
theorem l1In_any (x l m : Int) (w : World) :
    Calls Try.prog 26 #[.int .i64 x, .int .i64 l, .int .i64 m] w fun e w' => e = .returned (.bool (decide (l ≤ x) && decide (x ≤ m))) ∧ w = w' := by
  go_enter Try.func26, Try.ntmps26
  by_cases h : l ≤ x
  · have e1 : decide (l ≤ x) = true := by simpa using h
    go_wp2
    go_ret
    exact ⟨by simp [h], rfl⟩
  · have e1 : decide (l ≤ x) = false := by simpa using h
    go_wp2
    go_ret
    exact ⟨by simp, rfl⟩

theorem l1In_yes (x l m : Int) (w : World) (h1 : l ≤ x) (h2 : x ≤ m) :
    Calls Try.prog 26 #[.int .i64 x, .int .i64 l, .int .i64 m] w fun e w' => e = .returned (.bool true) ∧ w = w' := by
  have h := l1In_any x l m w
  rw [decide_eq_true h1, decide_eq_true h2] at h
  exact h
theorem l1In_no (x l m : Int) (w : World) (h1 : x < l ∨ m < x) :
    Calls Try.prog 26 #[.int .i64 x, .int .i64 l, .int .i64 m] w fun e w' => e = .returned (.bool false) ∧ w = w' := by
  have h := l1In_any x l m w
  have e : (decide (l ≤ x) && decide (x ≤ m)) = false := by
    rcases h1 with h1 | h1
    · rw [decide_eq_false (by omega), Bool.false_and]
    · rw [decide_eq_false (p := x ≤ m) (by omega), Bool.and_false]
  rw [e] at h
  exact h

/-- How many bytes the model puts of a number. -/
theorem putVar_many (b : Nat) (x : Int) (k : Nat) (w : World) (hk : Hid ((varL x).length = k + 1)) (hx0 : -9223372036854775808 ≤ x) (hx1 : x ≤ 9223372036854775807) :
    Calls Try.prog 28 #[.slice (some ⟨b, 0, none⟩) 0 0, .int .i64 x] w fun e w' => ∃ g c, e = .returned (.slice (some ⟨g, 0, none⟩) (k + 1) c) ∧ Below w.heap.size w w' := by
  refine (putVar_own b 0 0 0 (fun _ => 0) x w (view_nil w b) (by omega) hx0 hx1).mono ?_
  rintro e w' ⟨v, rfl, hown, hb⟩
  rw [Nat.zero_add, hk.out] at hown
  obtain ⟨g, c, rfl, hg, hc, hr⟩ := row_of_own hown (by omega)
  exact ⟨g, c, rfl, hb⟩

theorem sizeV_num (f : Nat → Int) (i : Nat) (h : 0 ≤ valF (hcnt (f i)) (digF f i)) : sizeV (numV f i) = valF (hcnt (f i)) (digF f i) := by
  unfold sizeV numV
  (repeat' split) <;> omega

set_option maxHeartbeats 1000000 in
theorem getVar_spec {a q : Int} {ok : Bool} (b off n cap : Nat) (f : Nat → Int) (p : Int) (w : World) (hg : Hid (getV n f p = (a, q, ok))) (hv : View w (some ⟨b, off, none⟩) n cap f) (hn : n ≤ 70368744177664) (hp1 : p ≤ 9223372036854775807) :
    Calls Try.prog 8 #[.slice (some ⟨b, off, none⟩) n cap, .int .i64 p] w fun e w' => e = .returned (.tuple #[.int .i64 a, .int .i64 q, .bool ok]) ∧ Below w.heap.size w w' := by
  by_cases hp : p < 0
  · have e := hg.out
    rw [getV_out n f p (Or.inl hp)] at e
    obtain ⟨rfl, rfl, rfl⟩ : 0 = a ∧ 0 = q ∧ false = ok := by simpa using e
    clear hg e
    go_enter Try.func8, Try.ntmps8
    go_wp2
    go_ret3
    exact ⟨rfl, Below.refl _ _⟩
  by_cases h4 : (n : Int) ≤ p
  · have e := hg.out
    rw [getV_out n f p (Or.inr h4)] at e
    obtain ⟨rfl, rfl, rfl⟩ : 0 = a ∧ 0 = q ∧ false = ok := by simpa using e
    clear hg e
    go_enter Try.func8, Try.ntmps8
    go_wp2
    go_ret3
    exact ⟨rfl, Below.refl _ _⟩
  obtain ⟨i, rfl⟩ := Int.eq_ofNat_of_zero_le (Int.not_lt.1 hp)
  have hin : i < n := by omega
  have hle := hv.le
  have hb0 := hv.byte i hin
  have hzi : (i : Int) < (n : Int) := by omega
  obtain ⟨b', off', e', hbl, hcs⟩ := hv.cells (by omega)
  cases e'
  have hci := hcs i hin
  clear hcs
  go_enter Try.func8, Try.ntmps8
  obtain ⟨c, hc⟩ : ∃ c, Hid (hcnt (f i) = c) := ⟨_, rfl⟩
  have hcz : (f i < 128 ∧ (c : Int) = 127 - f i) ∨ (128 ≤ f i ∧ (c : Int) = f i - 128) := by
    rw [← hc.out]; unfold hcnt; split
    · left; omega
    · right; omega
  go_wp2_with fail
  by_cases hf : 7 < c
  ·
    have e := hg.out
    rw [getV_few n f i hin (by rw [hc.out]; exact Or.inl hf)] at e
    obtain ⟨rfl, rfl, rfl⟩ : 0 = a ∧ 0 = q ∧ false = ok := by simpa using e
    clear hg e
    refine (l1In_no (f i) 120 135 w (by omega)).mono ?_
    rintro e _ ⟨rfl, rfl⟩
    clear hcz
    go_wp2
    go_ret3
    exact ⟨rfl, Below.refl _ _⟩
  refine (l1In_yes (f i) 120 135 w (by omega) (by omega)).mono ?_
  rintro e _ ⟨rfl, rfl⟩
  rcases hcz with ⟨hlow, hcz⟩ | ⟨hlow, hcz⟩
  ·
    have HD : Hid (turnF true (fun j => f (i + 1 + j)) = digF f i) := by show _ = _; unfold digF; rw [decide_eq_true (by omega)]
    have hzh : f i < 128 := by omega
    by_cases hfew : n < i + 1 + c
    ·
      have e := hg.out
      rw [getV_few n f i hin (by rw [hc.out]; exact Or.inr hfew)] at e
      obtain ⟨rfl, rfl, rfl⟩ : 0 = a ∧ 0 = q ∧ false = ok := by simpa using e
      clear hg e
      go_wp2_with fail
      refine (l4Read_no _ n cap _ _ true w (by omega) (by omega) (by omega) (Or.inr (by omega))).mono ?_
      rintro e _ ⟨rfl, rfl⟩
      go_wp2
      go_ret3
      exact ⟨rfl, Below.refl _ _⟩
    have hok : ¬ (7 < hcnt (f i) ∨ n < i + 1 + hcnt (f i)) := by rw [hc.out]; omega
    have hl4 := l4Read_any (some ⟨b, off, none⟩) n cap f (i + 1) c true w hv (by omega) (by omega) (by omega)
    rw [HD.out] at hl4
    have hvb := valF7 c (digF f i) (by omega) (by unfold digF; exact turnF_bd _ (fun j hj => hv.byte (i + 1 + j) (by omega)))
    have hx : numV f i = -1 - valF c (digF f i) := by unfold numV; rw [if_pos (by omega), hc.out]
    have hsz := sizeV_num f i (by rw [hc.out]; exact hvb.1)
    have hcv := cnt_valF c (digF f i) (by omega) (by unfold digF; exact turnF_bd _ (fun j hj => hv.byte (i + 1 + j) (by omega)))
    rw [hc.out] at hsz
    have HCV : Hid (cnt (valF c (digF f i)) = c ↔ ¬ (0 < c ∧ digF f i 0 = 0)) := hcv
    have HSZ : Hid (sizeV (numV f i) = valF c (digF f i)) := hsz
    clear hcv hsz HD
    generalize valF c (digF f i) = v at *
    rw [show ((i + 1 : Nat) : Int) = (i : Int) + 1 by omega] at hl4
    go_wp2_with fail
    rw [show -1 - (f i - 128) = (c : Int) by omega]
    refine hl4.mono ?_
    rintro e _ ⟨rfl, rfl⟩
    clear hl4
    by_cases hr : -1 - v < -1000000000000000 ∨ 1000000000000000 < -1 - v
    ·
      have e := hg.out
      rw [getV_bad n f i hin hok (by unfold badV; rw [hx]; exact Or.inr hr)] at e
      obtain ⟨rfl, rfl, rfl⟩ : 0 = a ∧ 0 = q ∧ false = ok := by simpa using e
      clear hg e
      go_wp2_with fail
      refine (l1In_no _ _ _ w hr).mono ?_
      rintro e _ ⟨rfl, rfl⟩
      go_wp2
      go_ret3
      exact ⟨rfl, Below.refl _ _⟩
    go_wp2_with fail
    refine (l1In_yes _ _ _ w (by omega) (by omega)).mono ?_
    rintro e _ ⟨rfl, rfl⟩
    go_wp2_with fail
    obtain ⟨k, hk⟩ : ∃ k, Hid (cnt v = k) := ⟨_, rfl⟩
    have HK : Hid ((varL (-1 - v)).length = k + 1) := by
      show _ = _
      have e1 : clampV (-1 - v) = -1 - v := by unfold clampV; rw [if_neg (by omega), if_neg (by omega)]
      have e2 := HSZ.out
      rw [hx] at e2
      unfold varL
      rw [keptL_len, e1, e2, hk.out]
    refine (putVar_many _ (-1 - v) k _ HK (by omega) (by omega)).mono ?_
    rintro e w1 ⟨g, cg, rfl, hb1⟩
    have hB : Below w.heap.size w w1 := ((Below.refl _ _).alloc (Nat.le_refl _) _).trans (hb1.mono (by simp))
    clear hb1 HK
    by_cases hkc : k = c
    · have hbad : ¬ badV f i := by
        unfold badV
        rw [hx, hc.out]
        have := HCV.out.1 (by rw [hk.out]; exact hkc)
        omega
      have e := hg.out
      rw [getV_is n f i hin hok hbad, hc.out, hx] at e
      simp only [Prod.mk.injEq] at e
      obtain ⟨rfl, rfl, rfl⟩ := e
      clear hg hbad HCV HSZ hx
      go_wp2_with fail
      go_ret3
      refine ⟨?_, hB⟩
      rw [hcz]
      rfl
    · have hbad : badV f i := by
        unfold badV
        rw [hc.out]
        by_cases h0 : 0 < c ∧ digF f i 0 = 0
        · exact Or.inl h0
        · exact absurd (HCV.out.2 h0) (by rw [hk.out]; exact hkc)
      have e := hg.out
      rw [getV_bad n f i hin hok hbad] at e
      obtain ⟨rfl, rfl, rfl⟩ : 0 = a ∧ 0 = q ∧ false = ok := by simpa using e
      clear hg e
      clear hbad HCV HSZ hx
      go_wp2_with fail
      go_ret3
      exact ⟨rfl, hB⟩
  ·
    have HD : Hid (turnF false (fun j => f (i + 1 + j)) = digF f i) := by show _ = _; unfold digF; rw [decide_eq_false (by omega)]
    have hzh : f i ≥ 128 := by omega
    have hdf : decide (f i - 128 < 0) = false := by simp; omega
    by_cases hfew : n < i + 1 + c
    ·
      have e := hg.out
      rw [getV_few n f i hin (by rw [hc.out]; exact Or.inr hfew)] at e
      obtain ⟨rfl, rfl, rfl⟩ : 0 = a ∧ 0 = q ∧ false = ok := by simpa using e
      clear hg e
      go_wp2_with fail
      refine (l4Read_no _ n cap _ _ false w (by omega) (by omega) (by omega) (Or.inr (by omega))).mono ?_
      rintro e _ ⟨rfl, rfl⟩
      go_wp2
      go_ret3
      exact ⟨rfl, Below.refl _ _⟩
    have hok : ¬ (7 < hcnt (f i) ∨ n < i + 1 + hcnt (f i)) := by rw [hc.out]; omega
    have hl4 := l4Read_any (some ⟨b, off, none⟩) n cap f (i + 1) c false w hv (by omega) (by omega) (by omega)
    rw [HD.out] at hl4
    have hvb := valF7 c (digF f i) (by omega) (by unfold digF; exact turnF_bd _ (fun j hj => hv.byte (i + 1 + j) (by omega)))
    have hx : numV f i = valF c (digF f i) := by unfold numV; rw [if_neg (by omega), hc.out]
    have hsz := sizeV_num f i (by rw [hc.out]; exact hvb.1)
    have hcv := cnt_valF c (digF f i) (by omega) (by unfold digF; exact turnF_bd _ (fun j hj => hv.byte (i + 1 + j) (by omega)))
    rw [hc.out] at hsz
    have HCV : Hid (cnt (valF c (digF f i)) = c ↔ ¬ (0 < c ∧ digF f i 0 = 0)) := hcv
    have HSZ : Hid (sizeV (numV f i) = valF c (digF f i)) := hsz
    clear hcv hsz HD
    generalize valF c (digF f i) = v at *
    rw [show ((i + 1 : Nat) : Int) = (i : Int) + 1 by omega] at hl4
    go_wp2_with fail
    rw [show f i - 128 = (c : Int) by omega]
    refine hl4.mono ?_
    rintro e _ ⟨rfl, rfl⟩
    clear hl4
    by_cases hr : v < -1000000000000000 ∨ 1000000000000000 < v
    ·
      have e := hg.out
      rw [getV_bad n f i hin hok (by unfold badV; rw [hx]; exact Or.inr hr)] at e
      obtain ⟨rfl, rfl, rfl⟩ : 0 = a ∧ 0 = q ∧ false = ok := by simpa using e
      clear hg e
      go_wp2_with fail
      refine (l1In_no _ _ _ w hr).mono ?_
      rintro e _ ⟨rfl, rfl⟩
      go_wp2
      go_ret3
      exact ⟨rfl, Below.refl _ _⟩
    go_wp2_with fail
    refine (l1In_yes _ _ _ w (by omega) (by omega)).mono ?_
    rintro e _ ⟨rfl, rfl⟩
    go_wp2_with fail
    obtain ⟨k, hk⟩ : ∃ k, Hid (cnt v = k) := ⟨_, rfl⟩
    have HK : Hid ((varL (v)).length = k + 1) := by
      show _ = _
      have e1 : clampV (v) = v := by unfold clampV; rw [if_neg (by omega), if_neg (by omega)]
      have e2 := HSZ.out
      rw [hx] at e2
      unfold varL
      rw [keptL_len, e1, e2, hk.out]
    refine (putVar_many _ (v) k _ HK (by omega) (by omega)).mono ?_
    rintro e w1 ⟨g, cg, rfl, hb1⟩
    have hB : Below w.heap.size w w1 := ((Below.refl _ _).alloc (Nat.le_refl _) _).trans (hb1.mono (by simp))
    clear hb1 HK
    by_cases hkc : k = c
    · have hbad : ¬ badV f i := by
        unfold badV
        rw [hx, hc.out]
        have := HCV.out.1 (by rw [hk.out]; exact hkc)
        omega
      have e := hg.out
      rw [getV_is n f i hin hok hbad, hc.out, hx] at e
      simp only [Prod.mk.injEq] at e
      obtain ⟨rfl, rfl, rfl⟩ := e
      clear hg hbad HCV HSZ hx
      go_wp2_with fail
      go_ret3
      refine ⟨?_, hB⟩
      rw [hcz]
      rfl
    · have hbad : badV f i := by
        unfold badV
        rw [hc.out]
        by_cases h0 : 0 < c ∧ digF f i 0 = 0
        · exact Or.inl h0
        · exact absurd (HCV.out.2 h0) (by rw [hk.out]; exact hkc)
      have e := hg.out
      rw [getV_bad n f i hin hok hbad] at e
      obtain ⟨rfl, rfl, rfl⟩ : 0 = a ∧ 0 = q ∧ false = ok := by simpa using e
      clear hg e
      clear hbad HCV HSZ hx
      go_wp2_with fail
      go_ret3
      exact ⟨rfl, hB⟩
end Go.Proofs.Ytbcgonfihdpjnaq
