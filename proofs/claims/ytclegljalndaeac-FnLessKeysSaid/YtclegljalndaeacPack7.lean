/-
  Together: GetVarSpec, PartSpec, DrawL5, PView, PartRow, DrawPlan, ValGrow, PutFixSpec
-/
import Derived.Test.YtclegljalndaeacPack2
import Derived.Test.YtclegljalndaeacPack6
import Derived.Test.YtclegljalndaeacPack3
import Derived.Test.YtclegljalndaeacPack4
import Derived.Test.YtclegljalndaeacPack5
import Derived.Test.YtclegljalndaeacPack1
import Derived.Deep.LoopGhost
import Derived.WalkSpells
/-
  The model's GetVar: it answers as the program's.
-/
namespace Go.Proofs.Ytclegljalndaeac
open Go.RowKit
set_option maxRecDepth 4000

theorem view_nil (w : World) (b : Nat) : View w (some ⟨b, 0, none⟩) 0 0 (fun _ => 0) := ⟨Nat.le_refl _, fun _ hi => absurd hi (Nat.not_lt_zero _), fun h => absurd h (Nat.lt_irrefl _)⟩

set_option maxHeartbeats 1000000 in
theorem l1In_any (x l m : Int) (w : World) :
    Calls Try.prog 72 #[.int .i64 x, .int .i64 l, .int .i64 m] w fun e w' => e = .returned (.bool (decide (l ≤ x) && decide (x ≤ m))) ∧ w = w' := by
  go_enter Try.func72, Try.ntmps72
  by_cases h : l ≤ x
  · have e1 : decide (l ≤ x) = true := by simpa using h
    go_wp2
    go_ret
    exact ⟨by simp [h], rfl⟩
  · have e1 : decide (l ≤ x) = false := by simpa using h
    go_wp2
    go_ret
    exact ⟨by simp, rfl⟩

theorem l1In_yes (x l m : Int) (w : World) (h1 : l ≤ x) (h2 : x ≤ m) :
    Calls Try.prog 72 #[.int .i64 x, .int .i64 l, .int .i64 m] w fun e w' => e = .returned (.bool true) ∧ w = w' := by
  have h := l1In_any x l m w
  rw [decide_eq_true h1, decide_eq_true h2] at h
  exact h
theorem l1In_no (x l m : Int) (w : World) (h1 : x < l ∨ m < x) :
    Calls Try.prog 72 #[.int .i64 x, .int .i64 l, .int .i64 m] w fun e w' => e = .returned (.bool false) ∧ w = w' := by
  have h := l1In_any x l m w
  have e : (decide (l ≤ x) && decide (x ≤ m)) = false := by
    rcases h1 with h1 | h1
    · rw [decide_eq_false (by omega), Bool.false_and]
    · rw [decide_eq_false (p := x ≤ m) (by omega), Bool.and_false]
  rw [e] at h
  exact h

/-- How many bytes the model puts of a number. -/
theorem putVar_many (b : Nat) (x : Int) (k : Nat) (w : World) (hk : Hid ((varL x).length = k + 1)) (hx0 : -9223372036854775808 ≤ x) (hx1 : x ≤ 9223372036854775807) :
    Calls Try.prog 105 #[.slice (some ⟨b, 0, none⟩) 0 0, .int .i64 x] w fun e w' => ∃ g c, e = .returned (.slice (some ⟨g, 0, none⟩) (k + 1) c) ∧ Below w.heap.size w w' := by
  refine (putVar_own b 0 0 0 (fun _ => 0) x w (view_nil w b) (by omega) hx0 hx1).mono ?_
  rintro e w' ⟨v, rfl, hown, hb⟩
  rw [Nat.zero_add, hk.out] at hown
  obtain ⟨g, c, rfl, hg, hc, hr⟩ := row_of_own hown (by omega)
  exact ⟨g, c, rfl, hb⟩

theorem sizeV_num (f : Nat → Int) (i : Nat) (h : 0 ≤ valF (hcnt (f i)) (digF f i)) : sizeV (numV f i) = valF (hcnt (f i)) (digF f i) := by
  unfold sizeV numV
  (repeat' split) <;> omega

set_option maxHeartbeats 1000000 in
theorem getVar_spec {a q : Int} {ok : Bool} (b off n cap : Nat) (f : Nat → Int) (p : Int) (w : World) (hg : Hid (getV n f p = (a, q, ok))) (hv : View w (some ⟨b, off, none⟩) n cap f) (hn : n ≤ 70368744177664) (hp1 : p ≤ 9223372036854775807) :
    Calls Try.prog 90 #[.slice (some ⟨b, off, none⟩) n cap, .int .i64 p] w fun e w' => e = .returned (.tuple #[.int .i64 a, .int .i64 q, .bool ok]) ∧ Below w.heap.size w w' := by
  by_cases hp : p < 0
  · have e := hg.out
    rw [getV_out n f p (Or.inl hp)] at e
    obtain ⟨rfl, rfl, rfl⟩ : 0 = a ∧ 0 = q ∧ false = ok := by simpa using e
    clear hg e
    go_enter Try.func90, Try.ntmps90
    go_wp2
    go_ret3
    exact ⟨rfl, Below.refl _ _⟩
  by_cases h4 : (n : Int) ≤ p
  · have e := hg.out
    rw [getV_out n f p (Or.inr h4)] at e
    obtain ⟨rfl, rfl, rfl⟩ : 0 = a ∧ 0 = q ∧ false = ok := by simpa using e
    clear hg e
    go_enter Try.func90, Try.ntmps90
    go_wp2
    go_ret3
    exact ⟨rfl, Below.refl _ _⟩
  obtain ⟨i, rfl⟩ := Int.eq_ofNat_of_zero_le (Int.not_lt.1 hp)
  have hin : i < n := by omega
  have hle := hv.le
  have hb0 := hv.byte i hin
  have hzi : (i : Int) < (n : Int) := by omega
  obtain ⟨b', off', e', hbl, hcs⟩ := hv.cells (by omega)
  cases e'
  have hci := hcs i hin
  clear hcs
  go_enter Try.func90, Try.ntmps90
  obtain ⟨c, hc⟩ : ∃ c, Hid (hcnt (f i) = c) := ⟨_, rfl⟩
  have hcz : (f i < 128 ∧ (c : Int) = 127 - f i) ∨ (128 ≤ f i ∧ (c : Int) = f i - 128) := by
    rw [← hc.out]; unfold hcnt; split
    · left; omega
    · right; omega
  go_wp2_with fail
  by_cases hf : 7 < c
  ·
    have e := hg.out
    rw [getV_few n f i hin (by rw [hc.out]; exact Or.inl hf)] at e
    obtain ⟨rfl, rfl, rfl⟩ : 0 = a ∧ 0 = q ∧ false = ok := by simpa using e
    clear hg e
    refine (l1In_no (f i) 120 135 w (by omega)).mono ?_
    rintro e _ ⟨rfl, rfl⟩
    clear hcz
    go_wp2
    go_ret3
    exact ⟨rfl, Below.refl _ _⟩
  refine (l1In_yes (f i) 120 135 w (by omega) (by omega)).mono ?_
  rintro e _ ⟨rfl, rfl⟩
  rcases hcz with ⟨hlow, hcz⟩ | ⟨hlow, hcz⟩
  ·
    have HD : Hid (turnF true (fun j => f (i + 1 + j)) = digF f i) := by show _ = _; unfold digF; rw [decide_eq_true (by omega)]
    have hzh : f i < 128 := by omega
    by_cases hfew : n < i + 1 + c
    ·
      have e := hg.out
      rw [getV_few n f i hin (by rw [hc.out]; exact Or.inr hfew)] at e
      obtain ⟨rfl, rfl, rfl⟩ : 0 = a ∧ 0 = q ∧ false = ok := by simpa using e
      clear hg e
      go_wp2_with fail
      refine (l4Read_no _ n cap _ _ true w (by omega) (by omega) (by omega) (Or.inr (by omega))).mono ?_
      rintro e _ ⟨rfl, rfl⟩
      go_wp2
      go_ret3
      exact ⟨rfl, Below.refl _ _⟩
    have hok : ¬ (7 < hcnt (f i) ∨ n < i + 1 + hcnt (f i)) := by rw [hc.out]; omega
    have hl4 := l4Read_any (some ⟨b, off, none⟩) n cap f (i + 1) c true w hv (by omega) (by omega) (by omega)
    rw [HD.out] at hl4
    have hvb := valF7 c (digF f i) (by omega) (by unfold digF; exact turnF_bd _ (fun j hj => hv.byte (i + 1 + j) (by omega)))
    have hx : numV f i = -1 - valF c (digF f i) := by unfold numV; rw [if_pos (by omega), hc.out]
    have hsz := sizeV_num f i (by rw [hc.out]; exact hvb.1)
    have hcv := cnt_valF c (digF f i) (by omega) (by unfold digF; exact turnF_bd _ (fun j hj => hv.byte (i + 1 + j) (by omega)))
    rw [hc.out] at hsz
    have HCV : Hid (cnt (valF c (digF f i)) = c ↔ ¬ (0 < c ∧ digF f i 0 = 0)) := hcv
    have HSZ : Hid (sizeV (numV f i) = valF c (digF f i)) := hsz
    clear hcv hsz HD
    generalize valF c (digF f i) = v at *
    rw [show ((i + 1 : Nat) : Int) = (i : Int) + 1 by omega] at hl4
    go_wp2_with fail
    rw [show -1 - (f i - 128) = (c : Int) by omega]
    refine hl4.mono ?_
    rintro e _ ⟨rfl, rfl⟩
    clear hl4
    by_cases hr : -1 - v < -1000000000000000 ∨ 1000000000000000 < -1 - v
    ·
      have e := hg.out
      rw [getV_bad n f i hin hok (by unfold badV; rw [hx]; exact Or.inr hr)] at e
      obtain ⟨rfl, rfl, rfl⟩ : 0 = a ∧ 0 = q ∧ false = ok := by simpa using e
      clear hg e
      go_wp2_with fail
      refine (l1In_no _ _ _ w hr).mono ?_
      rintro e _ ⟨rfl, rfl⟩
      go_wp2
      go_ret3
      exact ⟨rfl, Below.refl _ _⟩
    go_wp2_with fail
    refine (l1In_yes _ _ _ w (by omega) (by omega)).mono ?_
    rintro e _ ⟨rfl, rfl⟩
    go_wp2_with fail
    obtain ⟨k, hk⟩ : ∃ k, Hid (cnt v = k) := ⟨_, rfl⟩
    have HK : Hid ((varL (-1 - v)).length = k + 1) := by
      show _ = _
      have e1 : clampV (-1 - v) = -1 - v := by unfold clampV; rw [if_neg (by omega), if_neg (by omega)]
      have e2 := HSZ.out
      rw [hx] at e2
      unfold varL
      rw [keptL_len, e1, e2, hk.out]
    refine (putVar_many _ (-1 - v) k _ HK (by omega) (by omega)).mono ?_
    rintro e w1 ⟨g, cg, rfl, hb1⟩
    have hB : Below w.heap.size w w1 := ((Below.refl _ _).alloc (Nat.le_refl _) _).trans (hb1.mono (by simp))
    clear hb1 HK
    by_cases hkc : k = c
    · have hbad : ¬ badV f i := by
        unfold badV
        rw [hx, hc.out]
        have := HCV.out.1 (by rw [hk.out]; exact hkc)
        omega
      have e := hg.out
      rw [getV_is n f i hin hok hbad, hc.out, hx] at e
      simp only [Prod.mk.injEq] at e
      obtain ⟨rfl, rfl, rfl⟩ := e
      clear hg hbad HCV HSZ hx
      go_wp2_with fail
      go_ret3
      refine ⟨?_, hB⟩
      rw [hcz]
      rfl
    · have hbad : badV f i := by
        unfold badV
        rw [hc.out]
        by_cases h0 : 0 < c ∧ digF f i 0 = 0
        · exact Or.inl h0
        · exact absurd (HCV.out.2 h0) (by rw [hk.out]; exact hkc)
      have e := hg.out
      rw [getV_bad n f i hin hok hbad] at e
      obtain ⟨rfl, rfl, rfl⟩ : 0 = a ∧ 0 = q ∧ false = ok := by simpa using e
      clear hg e
      clear hbad HCV HSZ hx
      go_wp2_with fail
      go_ret3
      exact ⟨rfl, hB⟩
  ·
    have HD : Hid (turnF false (fun j => f (i + 1 + j)) = digF f i) := by show _ = _; unfold digF; rw [decide_eq_false (by omega)]
    have hzh : f i ≥ 128 := by omega
    have hdf : decide (f i - 128 < 0) = false := by simp; omega
    by_cases hfew : n < i + 1 + c
    ·
      have e := hg.out
      rw [getV_few n f i hin (by rw [hc.out]; exact Or.inr hfew)] at e
      obtain ⟨rfl, rfl, rfl⟩ : 0 = a ∧ 0 = q ∧ false = ok := by simpa using e
      clear hg e
      go_wp2_with fail
      refine (l4Read_no _ n cap _ _ false w (by omega) (by omega) (by omega) (Or.inr (by omega))).mono ?_
      rintro e _ ⟨rfl, rfl⟩
      go_wp2
      go_ret3
      exact ⟨rfl, Below.refl _ _⟩
    have hok : ¬ (7 < hcnt (f i) ∨ n < i + 1 + hcnt (f i)) := by rw [hc.out]; omega
    have hl4 := l4Read_any (some ⟨b, off, none⟩) n cap f (i + 1) c false w hv (by omega) (by omega) (by omega)
    rw [HD.out] at hl4
    have hvb := valF7 c (digF f i) (by omega) (by unfold digF; exact turnF_bd _ (fun j hj => hv.byte (i + 1 + j) (by omega)))
    have hx : numV f i = valF c (digF f i) := by unfold numV; rw [if_neg (by omega), hc.out]
    have hsz := sizeV_num f i (by rw [hc.out]; exact hvb.1)
    have hcv := cnt_valF c (digF f i) (by omega) (by unfold digF; exact turnF_bd _ (fun j hj => hv.byte (i + 1 + j) (by omega)))
    rw [hc.out] at hsz
    have HCV : Hid (cnt (valF c (digF f i)) = c ↔ ¬ (0 < c ∧ digF f i 0 = 0)) := hcv
    have HSZ : Hid (sizeV (numV f i) = valF c (digF f i)) := hsz
    clear hcv hsz HD
    generalize valF c (digF f i) = v at *
    rw [show ((i + 1 : Nat) : Int) = (i : Int) + 1 by omega] at hl4
    go_wp2_with fail
    rw [show f i - 128 = (c : Int) by omega]
    refine hl4.mono ?_
    rintro e _ ⟨rfl, rfl⟩
    clear hl4
    by_cases hr : v < -1000000000000000 ∨ 1000000000000000 < v
    ·
      have e := hg.out
      rw [getV_bad n f i hin hok (by unfold badV; rw [hx]; exact Or.inr hr)] at e
      obtain ⟨rfl, rfl, rfl⟩ : 0 = a ∧ 0 = q ∧ false = ok := by simpa using e
      clear hg e
      go_wp2_with fail
      refine (l1In_no _ _ _ w hr).mono ?_
      rintro e _ ⟨rfl, rfl⟩
      go_wp2
      go_ret3
      exact ⟨rfl, Below.refl _ _⟩
    go_wp2_with fail
    refine (l1In_yes _ _ _ w (by omega) (by omega)).mono ?_
    rintro e _ ⟨rfl, rfl⟩
    go_wp2_with fail
    obtain ⟨k, hk⟩ : ∃ k, Hid (cnt v = k) := ⟨_, rfl⟩
    have HK : Hid ((varL (v)).length = k + 1) := by
      show _ = _
      have e1 : clampV (v) = v := by unfold clampV; rw [if_neg (by omega), if_neg (by omega)]
      have e2 := HSZ.out
      rw [hx] at e2
      unfold varL
      rw [keptL_len, e1, e2, hk.out]
    refine (putVar_many _ (v) k _ HK (by omega) (by omega)).mono ?_
    rintro e w1 ⟨g, cg, rfl, hb1⟩
    have hB : Below w.heap.size w w1 := ((Below.refl _ _).alloc (Nat.le_refl _) _).trans (hb1.mono (by simp))
    clear hb1 HK
    by_cases hkc : k = c
    · have hbad : ¬ badV f i := by
        unfold badV
        rw [hx, hc.out]
        have := HCV.out.1 (by rw [hk.out]; exact hkc)
        omega
      have e := hg.out
      rw [getV_is n f i hin hok hbad, hc.out, hx] at e
      simp only [Prod.mk.injEq] at e
      obtain ⟨rfl, rfl, rfl⟩ := e
      clear hg hbad HCV HSZ hx
      go_wp2_with fail
      go_ret3
      refine ⟨?_, hB⟩
      rw [hcz]
      rfl
    · have hbad : badV f i := by
        unfold badV
        rw [hc.out]
        by_cases h0 : 0 < c ∧ digF f i 0 = 0
        · exact Or.inl h0
        · exact absurd (HCV.out.2 h0) (by rw [hk.out]; exact hkc)
      have e := hg.out
      rw [getV_bad n f i hin hok hbad] at e
      obtain ⟨rfl, rfl, rfl⟩ : 0 = a ∧ 0 = q ∧ false = ok := by simpa using e
      clear hg e
      clear hbad HCV HSZ hx
      go_wp2_with fail
      go_ret3
      exact ⟨rfl, hB⟩
end Go.Proofs.Ytclegljalndaeac

/-
  The model's PartOk, Fits and LessPart come to the plain ones.
-/
namespace Go.Proofs.Ytclegljalndaeac
open Go.RowKit
set_option maxRecDepth 4000

def partAgg (c t : Int) (nul d : Bool) : Value := .agg #[.int .i64 c, .int .i64 t, .bool nul, .bool d]

set_option maxHeartbeats 1000000 in
theorem specPartOk_any (c t : Int) (nul d : Bool) (w : World) :
    Calls Try.prog 50 #[.agg #[.int .i64 c, .int .i64 t, .bool nul, .bool d]] w fun e w' => e = .returned (.bool (partOk c t)) ∧ Below w.heap.size w w' := by
  have hb0 : ∀ o, Below w.heap.size w (w.alloc o) := fun o => (Below.refl _ _).alloc (Nat.le_refl _) _
  by_cases h1 : 0 ≤ c ∧ c ≤ 9
  · by_cases h2 : 1 ≤ t ∧ t ≤ 4
    · have e : partOk c t = true := by unfold partOk; simp; omega
      rw [e]
      go_enter Try.func50, Try.ntmps50
      go_wp2_with fail
      refine (l1In_yes c 0 9 _ h1.1 h1.2).mono ?_
      rintro e _ ⟨rfl, rfl⟩
      go_wp2_with fail
      refine (l1In_yes t 1 4 _ h2.1 h2.2).mono ?_
      rintro e _ ⟨rfl, rfl⟩
      go_wp2
      go_ret
      exact ⟨rfl, hb0 _⟩
    · have e : partOk c t = false := by unfold partOk; simp; omega
      rw [e]
      go_enter Try.func50, Try.ntmps50
      go_wp2_with fail
      refine (l1In_yes c 0 9 _ h1.1 h1.2).mono ?_
      rintro e _ ⟨rfl, rfl⟩
      go_wp2_with fail
      refine (l1In_no t 1 4 _ (by omega)).mono ?_
      rintro e _ ⟨rfl, rfl⟩
      go_wp2
      go_ret
      exact ⟨rfl, hb0 _⟩
  · have e : partOk c t = false := by unfold partOk; simp; omega
    rw [e]
    go_enter Try.func50, Try.ntmps50
    go_wp2_with fail
    refine (l1In_no c 0 9 _ (by omega)).mono ?_
    rintro e _ ⟨rfl, rfl⟩
    go_wp2
    go_ret
    exact ⟨rfl, hb0 _⟩

set_option maxHeartbeats 1000000 in
theorem specFits_any (c t : Int) (nul d : Bool) (k n : Int) (s : ByteArray) (w : World) (hs : s.size ≤ 281474976710656) :
    Calls Try.prog 69 #[.agg #[.int .i64 c, .int .i64 t, .bool nul, .bool d], .agg #[.int .i64 k, .int .i64 n, .string s]] w fun e w' => e = .returned (.bool (fitsP t nul k n s)) ∧ Below w.heap.size w w' := by
  have hP := (PBox.new w c t nul d).below ((Below.refl _ _).alloc (Nat.le_refl _) (.cells #[.int .i64 k, .int .i64 n, .string s] 29))
  have hV := Box.new (w.alloc (.cells #[.int .i64 c, .int .i64 t, .bool nul, .bool d] 25)) k n s
  rw [show (w.alloc (.cells #[.int .i64 c, .int .i64 t, .bool nul, .bool d] 25)).heap.size = w.heap.size + 1 by simp] at hV
  have hb0 : Below w.heap.size w ((w.alloc (.cells #[.int .i64 c, .int .i64 t, .bool nul, .bool d] 25)).alloc (.cells #[.int .i64 k, .int .i64 n, .string s] 29)) := ((Below.refl _ _).alloc (Nat.le_refl _) _).alloc (by simp) _
  cases ho : okF k n s with
  | false =>
    have hr : fitsP t nul k n s = false := by unfold fitsP; rw [ho]; rfl
    rw [hr]
    clear hr
    go_enter Try.func69, Try.ntmps69
    go_wp2_with fail
    refine (specValOk_any k n s _ hs).mono ?_
    rw [ho]
    rintro e w1 ⟨rfl, hb1⟩
    obtain ⟨p0, p1, p2, p3⟩ := (hP.below hb1).cells
    obtain ⟨v0, v1, v2⟩ := (hV.below hb1).cells
    have hB : Below w.heap.size w w1 := hb0.trans (hb1.mono hb0.size)
    clear hP hV hb0 hb1 ho
    go_wp2
    go_ret
    exact ⟨rfl, hB⟩
  | true =>
    by_cases k0 : k = 0
    · subst k0
      have hr : fitsP t nul 0 n s = nul := by unfold fitsP; rw [ho]; simp
      rw [hr]
      clear hr
      by_cases ht : t = 0
      · subst ht
        have q0 : ((0 : Int) == 0) = true := by simp
        have q1 : ((0 : Int) != 0) = false := by simp
        go_enter Try.func69, Try.ntmps69
        go_wp2_with fail
        refine (specValOk_any 0 n s _ hs).mono ?_
        rw [ho]
        rintro e w1 ⟨rfl, hb1⟩
        obtain ⟨p0, p1, p2, p3⟩ := (hP.below hb1).cells
        obtain ⟨v0, v1, v2⟩ := (hV.below hb1).cells
        have hB : Below w.heap.size w w1 := hb0.trans (hb1.mono hb0.size)
        clear hP hV hb0 hb1 ho
        go_wp2
        go_ret
        exact ⟨rfl, hB⟩
      · have q0 : ((0 : Int) == t) = false := by simp; omega
        have q1 : ((0 : Int) == 0) = true := by simp
        clear ht
        go_enter Try.func69, Try.ntmps69
        go_wp2_with fail
        refine (specValOk_any 0 n s _ hs).mono ?_
        rw [ho]
        rintro e w1 ⟨rfl, hb1⟩
        obtain ⟨p0, p1, p2, p3⟩ := (hP.below hb1).cells
        obtain ⟨v0, v1, v2⟩ := (hV.below hb1).cells
        have hB : Below w.heap.size w w1 := hb0.trans (hb1.mono hb0.size)
        clear hP hV hb0 hb1 ho
        go_wp2
        go_ret
        exact ⟨rfl, hB⟩
    · have q2 : (k == 0) = false := by simpa using k0
      have q3 : (k != 0) = true := by simpa using k0
      by_cases kt : k = t
      · subst kt
        have hr : fitsP k nul k n s = true := by unfold fitsP; rw [ho]; simp [k0]
        rw [hr]
        have q4 : (k == k) = true := by simp
        clear hr k0
        go_enter Try.func69, Try.ntmps69
        go_wp2_with fail
        refine (specValOk_any k n s _ hs).mono ?_
        rw [ho]
        rintro e w1 ⟨rfl, hb1⟩
        obtain ⟨p0, p1, p2, p3⟩ := (hP.below hb1).cells
        obtain ⟨v0, v1, v2⟩ := (hV.below hb1).cells
        have hB : Below w.heap.size w w1 := hb0.trans (hb1.mono hb0.size)
        clear hP hV hb0 hb1 ho
        go_wp2
        go_ret
        exact ⟨rfl, hB⟩
      · have hr : fitsP t nul k n s = false := by unfold fitsP; rw [ho]; simp [k0, kt]
        rw [hr]
        have q4 : (k == t) = false := by simpa using kt
        clear hr k0 kt
        go_enter Try.func69, Try.ntmps69
        go_wp2_with fail
        refine (specValOk_any k n s _ hs).mono ?_
        rw [ho]
        rintro e w1 ⟨rfl, hb1⟩
        obtain ⟨p0, p1, p2, p3⟩ := (hP.below hb1).cells
        obtain ⟨v0, v1, v2⟩ := (hV.below hb1).cells
        have hB : Below w.heap.size w w1 := hb0.trans (hb1.mono hb0.size)
        clear hP hV hb0 hb1 ho
        go_wp2
        go_ret
        exact ⟨rfl, hB⟩
end Go.Proofs.Ytclegljalndaeac

/-
  The draws of parts, as far as a law leans on them.
-/
namespace Go.Proofs.Ytclegljalndaeac
open Go.RowKit
set_option maxRecDepth 4000

theorem PBox.but {w w' : World} {B g : Nat} {c t : Int} {nul d : Bool} (h : PBox w B c t nul d) (hb : But g w w') (hne : B ≠ g) : PBox w' B c t nul d := h.of_block (hb.block B h.lt hne)
theorem PBox.put {w : World} {B : Nat} {c t : Int} {nul d : Bool} (h : PBox w B c t nul d) (c' t' : Int) (nul' d' : Bool) : PBox ((((w.setCell ⟨B, 0, none⟩ (.int .i64 c')).setCell ⟨B, 1, none⟩ (.int .i64 t')).setCell ⟨B, 2, none⟩ (.bool nul')).setCell ⟨B, 3, none⟩ (.bool d')) B c' t' nul' d' :=
  (World.rowIs.set (World.rowIs.set (World.rowIs.set (World.rowIs.set h 0 (.int .i64 c')) 1 (.int .i64 t')) 2 (.bool nul')) 3 (.bool d')).congr (fun j hj => by match j, hj with | 0, _ => rfl | 1, _ => rfl | 2, _ => rfl | 3, _ => rfl)
theorem PBox.set0 {w : World} {B : Nat} {c t : Int} {nul d : Bool} (h : PBox w B c t nul d) (x : Int) : PBox (w.setCell ⟨B, 0, none⟩ (.int .i64 x)) B x t nul d :=
  (World.rowIs.set h 0 _).congr (fun j hj => by match j, hj with | 0, _ => rfl | 1, _ => rfl | 2, _ => rfl | 3, _ => rfl)
theorem PBox.set1 {w : World} {B : Nat} {c t : Int} {nul d : Bool} (h : PBox w B c t nul d) (x : Int) : PBox (w.setCell ⟨B, 1, none⟩ (.int .i64 x)) B c x nul d :=
  (World.rowIs.set h 1 _).congr (fun j hj => by match j, hj with | 0, _ => rfl | 1, _ => rfl | 2, _ => rfl | 3, _ => rfl)

/-- Some part, and the cursor behind its draw. -/
structure DrewP (w : World) (g : Nat) (ao : Option Addr) (n cap : Nat) (f : Nat → Int) (c t : Int) (w' : World) : Prop where
  c64 : I64 c
  t64 : I64 t
  cur : Cur w' g ao n cap f
  but : But g w w'
theorem DrewP.put {w w' : World} {g : Nat} {ao : Option Addr} {n cap : Nat} {f : Nat → Int} {c t : Int} (u v : Value) (hc : I64 c) (ht : I64 t) (hC : Cur w' g ao n cap f) (hB : But g w w') (hg : g < w.heap.size) (ha : ∀ a, ao = some a → 0 < n → a.block < w.heap.size) :
    DrewP w g ao n cap f c t ((((w'.setCell ⟨w.heap.size, 0, none⟩ (.int .i64 c)).setCell ⟨w.heap.size, 1, none⟩ (.int .i64 t)).setCell ⟨w.heap.size, 2, none⟩ u).setCell ⟨w.heap.size, 3, none⟩ v) := by
  have q : ∀ a, ao = some a → 0 < n → a.block ≠ w.heap.size := fun a h1 h0 => by have := ha a h1 h0; omega
  exact ⟨hc, ht, (((hC.setNew _ (by omega) q).setNew _ (by omega) q).setNew _ (by omega) q).setNew _ (by omega) q,
    (((hB.setNew (Nat.le_refl _) _).setNew (Nat.le_refl _) _).setNew (Nat.le_refl _) _).setNew (Nat.le_refl _) _⟩

set_option maxHeartbeats 2000000 in
theorem l5Draw_any (g : Nat) (ao : Option Addr) (n cap : Nat) (f : Nat → Int) (c : Int) (w : World) (hn : n ≤ 1048576) (hc : I64 c) (hC : Cur w g ao n cap f) :
    Calls Try.prog 74 #[.pointer (some ⟨g, 0, none⟩), .int .i64 c] w fun e w' => ∃ (t : Int) (nul d : Bool), e = .returned (.agg #[.int .i64 c, .int .i64 t, .bool nul, .bool d]) ∧ DrewP w g ao n cap f c t w' := by
  have hg := hC.lt
  have HC : Hid (∀ a, ao = some a → 0 < n → a.block < w.heap.size) := hC.code
  have Hc : Hid (I64 c) := hc
  have hb0 : Below w.heap.size w (w.alloc (.cells #[.int .i64 0, .int .i64 0, .bool false, .bool false] 25)) := (Below.refl _ _).alloc (Nat.le_refl _) _
  have hP0 := PBox.new w 0 0 false false
  have hC0 := hC.below hb0
  have hB0 : But g w (w.alloc (.cells #[.int .i64 0, .int .i64 0, .bool false, .bool false] 25)) := But.ofBelow hb0
  clear hb0 hC hc
  go_enter Try.func74, Try.ntmps74
  go_wp2_with fail
  refine (l1Below_any g ao n cap f 4 _ hn (by omega) (by omega) hC0).mono ?_
  rintro e w1 ⟨y, rfl, hy0, hy1, hC1, hO1⟩
  have hP1 := hP0.but (But.ofOnly hO1) (by omega)
  have hB1 := hB0.trans (But.ofOnly hO1)
  clear hO1 hP0 hB0 hC0
  go_wp2_with fail
  refine (l1Once_any g ao n cap f 2 w1 hn (by omega) (by omega) hC1).mono ?_
  rintro e w2 ⟨nul, rfl, hC2, hO2⟩
  have hP2 := hP1.but (But.ofOnly hO2) (by omega)
  have hB2 := hB1.trans (But.ofOnly hO2)
  clear hO2 hP1 hB1 hC1
  go_wp2_with fail
  refine (l1Once_any g ao n cap f 2 w2 hn (by omega) (by omega) hC2).mono ?_
  rintro e w3 ⟨d, rfl, hC3, hO3⟩
  have hP3 := hP2.but (But.ofOnly hO3) (by omega)
  have hB3 := hB2.trans (But.ofOnly hO3)
  clear hO3 hP2 hB2 hC2
  obtain ⟨p0, p1, p2, p3⟩ := hP3.cells
  obtain ⟨f0, f1, f2, f3⟩ := hP3.frozen
  obtain ⟨g0, g1, g2, g3⟩ := (hP3.put c (1 + y) nul d).cells
  have HD : Hid (DrewP w g ao n cap f c (1 + y) _) := DrewP.put (.bool nul) (.bool d) Hc.out (by unfold I64; omega) hC3 hB3 hg HC.out
  clear hP3 hB3 hC3
  go_wp2
  exact bodyPost_ret (v := .agg #[.int .i64 c, .int .i64 (1 + y), .bool nul, .bool d]) (by simp [results, Try.results74, go_sem, g0, g1, g2, g3]) rfl ⟨1 + y, nul, d, rfl, HD.out⟩

set_option maxHeartbeats 2000000 in
theorem l5Any_any (g : Nat) (ao : Option Addr) (n cap : Nat) (f : Nat → Int) (w : World) (hn : n ≤ 1048576) (hC : Cur w g ao n cap f) :
    Calls Try.prog 41 #[.pointer (some ⟨g, 0, none⟩)] w fun e w' => ∃ (c t : Int) (nul d : Bool), e = .returned (.agg #[.int .i64 c, .int .i64 t, .bool nul, .bool d]) ∧ DrewP w g ao n cap f c t w' := by
  have hg := hC.lt
  have HC : Hid (∀ a, ao = some a → 0 < n → a.block < w.heap.size) := hC.code
  have hb0 : Below w.heap.size w (w.alloc (.cells #[.int .i64 0, .int .i64 0, .bool false, .bool false] 25)) := (Below.refl _ _).alloc (Nat.le_refl _) _
  have hR0 := PBox.new w 0 0 false false
  have hC0 := hC.below hb0
  have hB0 : But g w (w.alloc (.cells #[.int .i64 0, .int .i64 0, .bool false, .bool false] 25)) := But.ofBelow hb0
  clear hb0 hC
  go_enter Try.func41, Try.ntmps41
  go_wp2_with fail
  refine (l1Below_any g ao n cap f 3 _ hn (by omega) (by omega) hC0).mono ?_
  rintro e w1 ⟨y, rfl, hy0, hy1, hC1, hO1⟩
  have hR1 := hR0.but (But.ofOnly hO1) (by omega)
  have hB1 := hB0.trans (But.ofOnly hO1)
  clear hO1 hR0 hB0 hC0
  go_wp2_with fail
  refine (l5Draw_any g ao n cap f y w1 hn (by unfold I64; omega) hC1).mono ?_
  rintro e w2 ⟨t, nul, d, rfl, hD⟩
  have hR2 := hR1.but hD.but (by omega)
  have hB2 := hB1.trans hD.but
  have hC2 := hD.cur
  have Ht : Hid (I64 t) := hD.t64
  have hlt2 : w.heap.size < w2.heap.size := hR2.lt
  clear hD hR1 hB1 hC1
  have hb3 : Below w2.heap.size w2 (w2.alloc (.cells #[.int .i64 y, .int .i64 t, .bool nul, .bool d] 25)) := (Below.refl _ _).alloc (Nat.le_refl _) _
  have hP3 := PBox.new w2 y t nul d
  have hR3 := hR2.below hb3
  have hC3 := hC2.below hb3
  have hB3 := hB2.trans (But.ofBelow (g := g) hb3)
  clear hb3 hR2 hB2 hC2
  go_wp2_with fail
  refine (l1Below_any g ao n cap f 12 _ hn (by omega) (by omega) hC3).mono ?_
  rintro e w4 ⟨z, rfl, hz0, hz1, hC4, hO4⟩
  have hR4 := hR3.but (But.ofOnly hO4) (by omega)
  have hP4 := hP3.but (But.ofOnly hO4) (by have := hC3.lt; simp at this; omega)
  have hB4 := hB3.trans (But.ofOnly hO4)
  have hg4 := hC4.lt
  clear hO4 hR3 hB3 hC3 hP3
  by_cases e0 : z = 0
  · subst e0
    have HL : Hid (∀ u ∈ [-1, 9, 10], I64 u) := by
      intro u hu
      simp only [List.mem_cons, List.not_mem_nil, or_false] at hu
      unfold I64
      omega
    go_wp2_with fail
    refine (l1Int_of g ao n cap f [-1, 9, 10] w4.heap.size w4 rfl hn (by simp) (by simp) HL.out hC4).mono ?_
    rintro e w5 ⟨x, rfl, hx, hC5, hB5⟩
    have HX : Hid (I64 x) := hx
    have hP5 := hP4.but hB5 (by omega)
    have hR5 := hR4.but hB5 (by omega)
    have hB6 := hB4.trans hB5
    clear HL hx hB5 hB4 hC4 hP4 hR4
    have hR6 := hR5.other (D := w2.heap.size) (i := 0) (by omega) (.int .i64 x)
    obtain ⟨c0, c1, c2, c3⟩ := hP5.cells
    obtain ⟨f0, f1, f2, f3⟩ := hP5.frozen
    obtain ⟨s0, s1, s2, s3⟩ := (hP5.set0 x).cells
    obtain ⟨d0, d1, d2, d3⟩ := hR6.cells
    obtain ⟨r0, r1, r2, r3⟩ := hR5.frozen
    obtain ⟨p0, p1, p2, p3⟩ := hR5.cells
    obtain ⟨g0, g1, g2, g3⟩ := (hR6.put x t nul d).cells
    have HD : Hid (DrewP w g ao n cap f x t _) := DrewP.put (.bool nul) (.bool d) HX.out Ht.out (hC5.setNew (B := w2.heap.size) (i := 0) (.int .i64 x) (by omega) (fun a ha h0 => by have := HC.out a ha h0; omega)) (hB6.setNew (Nat.le_of_lt hlt2) _) hg HC.out
    clear hC5 hB6 hP5 hR5 hR6
    go_wp2
    exact bodyPost_ret (v := .agg #[.int .i64 x, .int .i64 t, .bool nul, .bool d]) (by simp [results, Try.results41, go_sem, g0, g1, g2, g3]) rfl ⟨x, t, nul, d, rfl, HD.out⟩
  by_cases e1 : z = 1
  · subst e1
    go_wp2_with fail
    refine (l1Below_any g ao n cap f 6 w4 hn (by omega) (by omega) hC4).mono ?_
    rintro e w5 ⟨x, rfl, hx0, hx1, hC5, hO5⟩
    have hB5 : But g w4 w5 := But.ofOnly hO5
    have hP5 := hP4.but hB5 (by omega)
    have hR5 := hR4.but hB5 (by omega)
    have hB6 := hB4.trans hB5
    clear hO5 hB5 hB4 hC4 hP4 hR4
    have hR6 := hR5.other (D := w2.heap.size) (i := 1) (by omega) (.int .i64 x)
    obtain ⟨c0, c1, c2, c3⟩ := hP5.cells
    obtain ⟨f0, f1, f2, f3⟩ := hP5.frozen
    obtain ⟨s0, s1, s2, s3⟩ := (hP5.set1 x).cells
    obtain ⟨d0, d1, d2, d3⟩ := hR6.cells
    obtain ⟨r0, r1, r2, r3⟩ := hR5.frozen
    obtain ⟨p0, p1, p2, p3⟩ := hR5.cells
    obtain ⟨g0, g1, g2, g3⟩ := (hR6.put y x nul d).cells
    have HD : Hid (DrewP w g ao n cap f y x _) := DrewP.put (.bool nul) (.bool d) (by unfold I64; omega) (by unfold I64; omega) (hC5.setNew (B := w2.heap.size) (i := 1) (.int .i64 x) (by omega) (fun a ha h0 => by have := HC.out a ha h0; omega)) (hB6.setNew (Nat.le_of_lt hlt2) _) hg HC.out
    clear hC5 hB6 hP5 hR5 hR6
    go_wp2
    exact bodyPost_ret (v := .agg #[.int .i64 y, .int .i64 x, .bool nul, .bool d]) (by simp [results, Try.results41, go_sem, g0, g1, g2, g3]) rfl ⟨y, x, nul, d, rfl, HD.out⟩
  have q0 : (z == 0) = false := by simpa using e0
  have q1 : (z == 1) = false := by simpa using e1
  obtain ⟨c0, c1, c2, c3⟩ := hP4.cells
  obtain ⟨r0, r1, r2, r3⟩ := hR4.frozen
  obtain ⟨p0, p1, p2, p3⟩ := hR4.cells
  obtain ⟨g0, g1, g2, g3⟩ := (hR4.put y t nul d).cells
  have HD : Hid (DrewP w g ao n cap f y t _) := DrewP.put (.bool nul) (.bool d) (by unfold I64; omega) Ht.out hC4 hB4 hg HC.out
  clear hC4 hB4 hP4 hR4 e0 e1
  go_wp2
  exact bodyPost_ret (v := .agg #[.int .i64 y, .int .i64 t, .bool nul, .bool d]) (by simp [results, Try.results41, go_sem, g0, g1, g2, g3]) rfl ⟨y, t, nul, d, rfl, HD.out⟩
end Go.Proofs.Ytclegljalndaeac

/-
  A slice of parts that reads, by functions of the index, and how that is carried from one world to the next.
-/
namespace Go.Proofs.Ytclegljalndaeac
open Go.RowKit
set_option maxRecDepth 4000

/-- The slice value '.slice ao n cap' reads, in the world w, as n parts. -/
structure PView (w : World) (ao : Option Addr) (n cap : Nat) (fc ft : Nat → Int) (fu fd : Nat → Bool) : Prop where
  le : n ≤ cap
  cells : 0 < n → ∃ b off, ao = some ⟨b, off, none⟩ ∧ b < w.heap.size ∧ ∀ i, i < n → w.cell? ⟨b, off + i * 4, none⟩ = some (.int .i64 (fc i)) ∧ w.cell? ⟨b, off + i * 4 + 1, none⟩ = some (.int .i64 (ft i)) ∧ w.cell? ⟨b, off + i * 4 + 2, none⟩ = some (.bool (fu i)) ∧ w.cell? ⟨b, off + i * 4 + 3, none⟩ = some (.bool (fd i))

theorem PView.below {w w' : World} {ao : Option Addr} {n cap : Nat} {fc ft : Nat → Int} {fu fd : Nat → Bool} (h : PView w ao n cap fc ft fu fd) (hb : Below w.heap.size w w') : PView w' ao n cap fc ft fu fd := by
  refine ⟨h.le, fun hn => ?_⟩
  obtain ⟨b, off, e, hlt, hc⟩ := h.cells hn
  refine ⟨b, off, e, Nat.lt_of_lt_of_le hlt hb.size, fun i hi => ?_⟩
  rw [hb.cell (p := ⟨b, off + i * 4, none⟩) hlt, hb.cell (p := ⟨b, off + i * 4 + 1, none⟩) hlt, hb.cell (p := ⟨b, off + i * 4 + 2, none⟩) hlt, hb.cell (p := ⟨b, off + i * 4 + 3, none⟩) hlt]
  exact hc i hi
end Go.Proofs.Ytclegljalndaeac

/-
  Rows of parts of the call's own, that grow by one part at a time.
-/
namespace Go.Proofs.Ytclegljalndaeac
open Go.RowKit
set_option maxRecDepth 4000

/-- The cells of the first k parts. -/
def rowP (gc gt : Nat → Int) (gu gd : Nat → Bool) : Nat → List Value
  | 0 => []
  | k + 1 => rowP gc gt gu gd k ++ [.int .i64 (gc k), .int .i64 (gt k), .bool (gu k), .bool (gd k)]
theorem rowP_len (gc gt : Nat → Int) (gu gd : Nat → Bool) : ∀ k, (rowP gc gt gu gd k).length = k * 4
  | 0 => rfl
  | k + 1 => by rw [rowP, List.length_append, rowP_len gc gt gu gd k]; simp; omega
theorem rowP_get (gc gt : Nat → Int) (gu gd : Nat → Bool) : ∀ k i, i < k → (rowP gc gt gu gd k)[i * 4]? = some (.int .i64 (gc i)) ∧ (rowP gc gt gu gd k)[i * 4 + 1]? = some (.int .i64 (gt i)) ∧ (rowP gc gt gu gd k)[i * 4 + 2]? = some (.bool (gu i)) ∧ (rowP gc gt gu gd k)[i * 4 + 3]? = some (.bool (gd i))
  | k + 1, i, hi => by
    have hl := rowP_len gc gt gu gd k
    by_cases e : i < k
    · obtain ⟨h1, h2, h3, h4⟩ := rowP_get gc gt gu gd k i e
      rw [rowP, List.getElem?_append_left (by omega), List.getElem?_append_left (by omega), List.getElem?_append_left (by omega), List.getElem?_append_left (by omega)]
      exact ⟨h1, h2, h3, h4⟩
    · obtain rfl : i = k := by omega
      rw [rowP, List.getElem?_append_right (by omega), List.getElem?_append_right (by omega), List.getElem?_append_right (by omega), List.getElem?_append_right (by omega), hl]
      simp [show i * 4 + 1 - i * 4 = 1 by omega, show i * 4 + 2 - i * 4 = 2 by omega, show i * 4 + 3 - i * 4 = 3 by omega]
theorem rowP_congr {gc gt : Nat → Int} {gu gd : Nat → Bool} {hc ht : Nat → Int} {hu hd : Nat → Bool} : ∀ {k : Nat}, (∀ i, i < k → gc i = hc i ∧ gt i = ht i ∧ gu i = hu i ∧ gd i = hd i) → rowP gc gt gu gd k = rowP hc ht hu hd k
  | 0, _ => rfl
  | k + 1, e => by
    obtain ⟨h1, h2, h3, h4⟩ := e k (by omega)
    rw [rowP, rowP, rowP_congr (fun i hi => e i (by omega)), h1, h2, h3, h4]

/-- A row of parts of the call's own reads. -/
theorem pview_of_own {w : World} {base : Nat} {v : Value} {N : Nat} {gc gt : Nat → Int} {gu gd : Nat → Bool} (h : w.ownsRow base 25 4 v N (rowP gc gt gu gd N)) : ∃ a c, v = .slice a N c ∧ PView w a N c gc gt gu gd ∧ (v ≠ .slice none 0 0 → ∃ g, a = some ⟨g, 0, none⟩ ∧ base ≤ g) := by
  obtain ⟨hl, h⟩ := h
  rcases h with ⟨rfl, h0⟩ | ⟨g, c, cur, rfl, hb, hg, hnc, _, hcs, ht⟩
  · have hN : N = 0 := by have := h0; have := rowP_len gc gt gu gd N; omega
    subst hN
    exact ⟨none, 0, rfl, ⟨Nat.le_refl _, fun hn => absurd hn (Nat.lt_irrefl _)⟩, fun hne => absurd rfl hne⟩
  · refine ⟨_, c, rfl, ⟨hnc, fun hn => ⟨g, 0, rfl, ?_, fun i hi => ?_⟩⟩, fun _ => ⟨g, rfl, hb⟩⟩
    · exact (Array.getElem?_eq_some_iff.1 hg).1
    · have key : ∀ j x, j < N * 4 → (rowP gc gt gu gd N)[j]? = some x → w.cell? ⟨g, 0 + j, none⟩ = some x := by
        intro j x hj hx
        rw [← ht, List.getElem?_take, if_pos hj] at hx
        simp only [World.cell?, hg, Nat.zero_add]
        simpa using hx
      obtain ⟨h1, h2, h3, h4⟩ := rowP_get gc gt gu gd N i hi
      have k0 := key _ _ (by omega) h1
      have k1 := key _ _ (by omega) h2
      have k2 := key _ _ (by omega) h3
      have k3 := key _ _ (by omega) h4
      simp only [Nat.zero_add] at k0 k1 k2 k3 ⊢
      exact ⟨k0, k1, k2, k3⟩
end Go.Proofs.Ytclegljalndaeac

/-
  The draw of a plan that is right.
-/
namespace Go.Proofs.Ytclegljalndaeac
open Go.RowKit
set_option maxRecDepth 4000

set_option maxHeartbeats 2000000 in
theorem l5Draw_fit (g : Nat) (ao : Option Addr) (n cap : Nat) (f : Nat → Int) (c : Int) (w : World) (hn : n ≤ 1048576) (hc : I64 c) (hC : Cur w g ao n cap f) :
    Calls Try.prog 74 #[.pointer (some ⟨g, 0, none⟩), .int .i64 c] w fun e w' => ∃ (t : Int) (nul d : Bool), e = .returned (.agg #[.int .i64 c, .int .i64 t, .bool nul, .bool d]) ∧ (1 ≤ t ∧ t ≤ 4) ∧ DrewP w g ao n cap f c t w' := by
  have hg := hC.lt
  have HC : Hid (∀ a, ao = some a → 0 < n → a.block < w.heap.size) := hC.code
  have Hc : Hid (I64 c) := hc
  have hb0 : Below w.heap.size w (w.alloc (.cells #[.int .i64 0, .int .i64 0, .bool false, .bool false] 25)) := (Below.refl _ _).alloc (Nat.le_refl _) _
  have hP0 := PBox.new w 0 0 false false
  have hC0 := hC.below hb0
  have hB0 : But g w (w.alloc (.cells #[.int .i64 0, .int .i64 0, .bool false, .bool false] 25)) := But.ofBelow hb0
  clear hb0 hC hc
  go_enter Try.func74, Try.ntmps74
  go_wp2_with fail
  refine (l1Below_any g ao n cap f 4 _ hn (by omega) (by omega) hC0).mono ?_
  rintro e w1 ⟨y, rfl, hy0, hy1, hC1, hO1⟩
  have hP1 := hP0.but (But.ofOnly hO1) (by omega)
  have hB1 := hB0.trans (But.ofOnly hO1)
  clear hO1 hP0 hB0 hC0
  go_wp2_with fail
  refine (l1Once_any g ao n cap f 2 w1 hn (by omega) (by omega) hC1).mono ?_
  rintro e w2 ⟨nul, rfl, hC2, hO2⟩
  have hP2 := hP1.but (But.ofOnly hO2) (by omega)
  have hB2 := hB1.trans (But.ofOnly hO2)
  clear hO2 hP1 hB1 hC1
  go_wp2_with fail
  refine (l1Once_any g ao n cap f 2 w2 hn (by omega) (by omega) hC2).mono ?_
  rintro e w3 ⟨d, rfl, hC3, hO3⟩
  have hP3 := hP2.but (But.ofOnly hO3) (by omega)
  have hB3 := hB2.trans (But.ofOnly hO3)
  clear hO3 hP2 hB2 hC2
  obtain ⟨p0, p1, p2, p3⟩ := hP3.cells
  obtain ⟨f0, f1, f2, f3⟩ := hP3.frozen
  obtain ⟨g0, g1, g2, g3⟩ := (hP3.put c (1 + y) nul d).cells
  have HD : Hid (DrewP w g ao n cap f c (1 + y) _) := DrewP.put (.bool nul) (.bool d) Hc.out (by unfold I64; omega) hC3 hB3 hg HC.out
  clear hP3 hB3 hC3
  go_wp2
  exact bodyPost_ret (v := .agg #[.int .i64 c, .int .i64 (1 + y), .bool nul, .bool d]) (by simp [results, Try.results74, go_sem, g0, g1, g2, g3]) rfl ⟨1 + y, nul, d, rfl, by omega, HD.out⟩

theorem But.grown {g : Nat} {w w' : World} (h : But g w w') : w.grownBy w' (some g) := ⟨h.os, h.tape, h.output, h.size, fun k hk hne => h.block k hk (fun e => hne (by rw [e]))⟩
theorem infoPart4 : ∃ i, Try.prog.info? 25 = some i ∧ i.zero = some (.agg #[.int .i64 0, .int .i64 0, .bool false, .bool false]) ∧ i.size = 4 ∧ i.bytes = 24 := by
  have h : (Try.prog.info? 25).map (fun i => (i.zero, i.size, i.bytes)) = some (some (.agg #[.int .i64 0, .int .i64 0, .bool false, .bool false]), 4, 24) := by kernel_rfl
  obtain ⟨i, hi, hz⟩ := Option.map_eq_some_iff.1 h
  simp only [Prod.mk.injEq] at hz
  exact ⟨i, hi, hz.1, hz.2.1, hz.2.2⟩
/-- The cells of a new row of one part. -/
theorem cells_part (W : World) (c t : Int) (nul d : Bool) : ∀ j u, [Value.int .i64 c, .int .i64 t, .bool nul, .bool d][j]? = some u → (W.alloc (.cells #[.int .i64 c, .int .i64 t, .bool nul, .bool d] 25)).cell? ((⟨W.heap.size, 0, none⟩ : Addr).add j) = some u := by
  intro j u h
  obtain ⟨c0, c1, c2, c3⟩ := (PBox.new W c t nul d).cells
  have ea : ∀ j, (⟨W.heap.size, 0, none⟩ : Addr).add j = ⟨W.heap.size, 0 + j, none⟩ := fun j => by unfold Addr.add; split <;> simp_all
  match j, h with
  | 0, h => cases h; rw [ea]; exact c0
  | 1, h => cases h; rw [ea]; exact c1
  | 2, h => cases h; rw [ea]; exact c2
  | 3, h => cases h; rw [ea]; exact c3
  | j + 4, h => simp at h
theorem one_part (c t : Int) (nul d : Bool) : ∀ u ∈ [Value.int .i64 c, .int .i64 t, .bool nul, .bool d], u.oneCell' = true := by
  intro u hu
  simp at hu
  rcases hu with rfl | rfl | rfl | rfl <;> rfl

/-- A plan that was drawn: m parts that are right, in a row of the call's own. -/
structure DrewPlan (w : World) (g : Nat) (ao : Option Addr) (n cap : Nat) (f : Nat → Int) (v : Value) (m : Nat) (gc gt : Nat → Int) (gu gd : Nat → Bool) (w' : World) : Prop where
  ok : ∀ i, i < m → (0 ≤ gc i ∧ gc i ≤ 3) ∧ (1 ≤ gt i ∧ gt i ≤ 4)
  some : v ≠ .slice none 0 0
  own : w'.ownsRow w.heap.size 25 4 v m (rowP gc gt gu gd m)
  cur : Cur w' g ao n cap f
  but : But g w w'

set_option maxHeartbeats 4000000 in
theorem l6Plan_any (g : Nat) (ao : Option Addr) (n cap : Nat) (f : Nat → Int) (w : World) (hn : n ≤ 1048576) (hC : Cur w g ao n cap f) :
    Calls Try.prog 59 #[.pointer (some ⟨g, 0, none⟩)] w fun e w' => ∃ (v : Value) (m : Nat) (gc gt : Nat → Int) (gu gd : Nat → Bool), e = .returned v ∧ 1 ≤ m ∧ m ≤ 3 ∧ DrewPlan w g ao n cap f v m gc gt gu gd w' := by
  obtain ⟨i0, hi, hz0, hz1, hz2⟩ := infoPart4
  have hown0 := World.ownsRow_lit (base := w.heap.size) (e := 25) (size := 4) w #[] 0 (Nat.le_refl _) (Nat.zero_le _) rfl
  have hb0 : Below w.heap.size w (w.alloc (.cells #[] 25)) := (Below.refl _ _).alloc (Nat.le_refl _) _
  have hgl := hC.lt
  have HC : Hid (∀ a, ao = some a → 0 < n → a.block < w.heap.size) := hC.code
  have hC0 := hC.below hb0
  clear hC
  go_enter Try.func59, Try.ntmps59
  go_wp2_with fail
  refine (l1Below_any g ao n cap f 3 _ hn (by omega) (by omega) hC0).mono ?_
  rintro e w1 ⟨x, rfl, hx0, hx1, hC1, hO1⟩
  have hown1 := hown0.kept hO1.grown (Or.inr (fun e => by have := (hown0.lt g e).1; omega))
  have hB1 : But g w w1 := (But.ofBelow hb0).trans (But.ofOnly hO1)
  obtain ⟨M, rfl⟩ : ∃ M : Nat, x = M := ⟨x.toNat, by omega⟩
  have hD1 : DrewPlan w g ao n cap f (.slice (some ⟨w.heap.size, 0, none⟩) 0 0) 0 (fun _ => 0) (fun _ => 0) (fun _ => false) (fun _ => false) w1 := ⟨fun i hi => absurd hi (Nat.not_lt_zero _), by simp, hown1, hC1, hB1⟩
  clear hown0 hb0 hC0 hO1 hown1 hC1 hB1
  go_wp2
  go_loopg [3, 4] (1 + M) (fun q v i wr => ∃ (k m : Nat) (gc gt : Nat → Int) (gu gd : Nat → Bool), k + m = 1 + M ∧ k = q ∧ i = .int .i64 k ∧ DrewPlan w g ao n cap f v m gc gt gu gd wr)
  case atStart => exact ⟨1 + M, 0, _, _, _, _, by omega, rfl, by go_num, hD1⟩
  case round =>
    obtain ⟨k, m, gc, gt, gu, gd, hkm, hq, rfl, hD⟩ := hrel
    subst hq
    have hown := hD.own
    have HD : Hid (DrewPlan w g ao n cap f u3 m gc gt gu gd wr) := hD
    have hCr := hD.cur
    clear hD hD1
    by_cases hlt : 0 < k
    · have hkz : (0 : Int) < (k : Int) := by omega
      go_wp2_with fail
      refine (l1Below_any g ao n cap f 4 wr hn (by omega) (by omega) hCr).mono ?_
      rintro e w2 ⟨c, rfl, hc0, hc1, hC2, hO2⟩
      go_wp2_with fail
      refine (l5Draw_fit g ao n cap f c w2 hn (by unfold I64; omega) hC2).mono ?_
      rintro e w3 ⟨t, nul, d, rfl, ht, hP⟩
      have hBw3 : But g wr w3 := (But.ofOnly hO2).trans hP.but
      have hown3 := hown.kept hBw3.grown (Or.inr (fun e => by have := (hown.lt g e).1; omega))
      have hC3 := hP.cur
      have hB3 : But g w w3 := HD.out.but.trans hBw3
      have hs3 : w.heap.size ≤ w3.heap.size := hB3.size
      have hcl := cells_part w3 c t nul d
      have Ht : Hid (1 ≤ t ∧ t ≤ 4) := ht
      clear hO2 hC2 hP hCr hBw3 ht
      go_wp2_with (at_builtin; refine wpList_append_own _ rfl (.tmp 13) (.tmp 18) 38 rfl w.heap.size 25 i0 (.agg #[.int .i64 0, .int .i64 0, .bool false, .bool false]) 4 24 Try.underlying38 hi hz0 hz1 hz2 rfl (by decide) u3 _ _ rfl (hown3.alloc _) ⟨w3.heap.size, 0, none⟩ 1 1 [.int .i64 c, .int .i64 t, .bool nul, .bool d] rfl rfl hcl (one_part _ _ _ _) (by unfold maxLen; omega) (by omega) (by simp; omega) ?_; intro v4 w4 hown4 hgr4 hnil4)
      have hb4 : Below w3.heap.size w3 (w3.alloc (.cells #[.int .i64 c, .int .i64 t, .bool nul, .bool d] 25)) := (Below.refl _ _).alloc (Nat.le_refl _) _
      have hB4 : But g w w4 := by
        refine ⟨hgr4.os.trans hB3.os, hgr4.tape.trans hB3.tape, hgr4.output.trans hB3.output, Nat.le_trans hs3 (Nat.le_trans (by simp) hgr4.size), fun j hj hg => ?_⟩
        rw [hgr4.block j (by simp; omega) (fun e => by have := (hown.lt j e.symm).1; omega), Below.heap_alloc _ _ _ (by omega)]
        exact hB3.block j hj hg
      have hC4 : Cur w4 g ao n cap f := (hC3.below hb4).grown hgr4 (fun e => by have := (hown.lt g e).1; omega) (fun a ha h0 e => by have := (hown.lt _ e).1; have := HC.out a ha h0; omega)
      have HD4 : Hid (DrewPlan w g ao n cap f v4 (m + 1) (fun i => if i = m then c else gc i) (fun i => if i = m then t else gt i) (fun i => if i = m then nul else gu i) (fun i => if i = m then d else gd i) w4) := by
        refine ⟨fun i hi => ?_, fun e => HD.out.some (hnil4.1 e).1, ?_, hC4, hB4⟩
        · by_cases e : i = m
          · have := Ht.out
            rw [if_pos e, if_pos e]; omega
          · rw [if_neg e, if_neg e]; exact HD.out.ok i (by omega)
        · rw [rowP, if_pos rfl, if_pos rfl, if_pos rfl, if_pos rfl, rowP_congr (hc := gc) (ht := gt) (hu := gu) (hd := gd) (fun i hi => by rw [if_neg (by omega), if_neg (by omega), if_neg (by omega), if_neg (by omega)]; exact ⟨rfl, rfl, rfl, rfl⟩)]
          exact hown4
      clear hown hown3 hown4 hgr4 hnil4 hcl hC4 hB4 hb4 hB3 hC3 HD
      go_wp2
      go_roundg (k - 1)
      case measure => omega
      case rel => exact ⟨k - 1, m + 1, _, _, _, _, by omega, rfl, by go_num, HD4.out⟩
    · have hkz : ¬ (0 : Int) < (k : Int) := by omega
      clear hown hCr
      go_wp2
      go_ret
      exact ⟨_, rfl, m, by omega, by omega, gc, gt, gu, gd, HD.out⟩
end Go.Proofs.Ytclegljalndaeac

/-
  A row of values grows by one value.
-/

namespace Go.Proofs.Ytclegljalndaeac
open Go.RowKit
set_option maxRecDepth 4000

theorem infoVal3 : ∃ i, Try.prog.info? 29 = some i ∧ i.zero = some (.agg #[.int .i64 0, .int .i64 0, .string ⟨#[]⟩]) ∧ i.size = 3 ∧ i.bytes = 32 := by
  have h : (Try.prog.info? 29).map (fun i => (i.zero, i.size, i.bytes)) = some (some (.agg #[.int .i64 0, .int .i64 0, .string ⟨#[]⟩]), 3, 32) := by kernel_rfl
  obtain ⟨i, hi, hz⟩ := Option.map_eq_some_iff.1 h
  simp only [Prod.mk.injEq] at hz
  exact ⟨i, hi, hz.1, hz.2.1, hz.2.2⟩

/-- The cells of a new row of one value. -/
theorem cells_one (W : World) (k n : Int) (s : ByteArray) : ∀ j u, [Value.int .i64 k, .int .i64 n, .string s][j]? = some u → (W.alloc (.cells #[.int .i64 k, .int .i64 n, .string s] 29)).cell? ((⟨W.heap.size, 0, none⟩ : Addr).add j) = some u := by
  intro j u h
  obtain ⟨c0, c1, c2⟩ := (Box.new W k n s).cells
  have ea : ∀ j, (⟨W.heap.size, 0, none⟩ : Addr).add j = ⟨W.heap.size, 0 + j, none⟩ := fun j => by unfold Addr.add; split <;> simp_all
  match j, h with
  | 0, h => cases h; rw [ea]; exact c0
  | 1, h => cases h; rw [ea]; exact c1
  | 2, h => cases h; rw [ea]; exact c2
  | j + 3, h => simp at h
theorem one_cells (k n : Int) (s : ByteArray) : ∀ u ∈ [Value.int .i64 k, .int .i64 n, .string s], u.oneCell' = true := by
  intro u hu
  simp at hu
  rcases hu with rfl | rfl | rfl <;> rfl

theorem own_below3 {w w' : World} {base : Nat} {t : TypeId} {v : Value} {n : Nat} {l : List Value} (h : w.ownsRow base t 3 v n l) (hb : Below w.heap.size w w') : w'.ownsRow base t 3 v n l := by
  refine h.kept (row := none) ⟨hb.os, hb.tape, hb.output, hb.size, fun k hk _ => hb.block k hk⟩ ?_
  cases hv : v.ownBlock with
  | none => exact Or.inl rfl
  | some k => exact Or.inr (fun e => by cases e)
/-- The value of a part's column. -/
def pickK (fc : Nat → Int) (m : Nat) (f : Nat → Int) (i : Nat) : Int := if 0 ≤ fc i ∧ fc i < m then f (fc i).toNat else 0
def pickS (fc : Nat → Int) (m : Nat) (f : Nat → ByteArray) (i : Nat) : ByteArray := if 0 ≤ fc i ∧ fc i < m then f (fc i).toNat else ⟨#[]⟩
end Go.Proofs.Ytclegljalndaeac

/-
  The model's PutFix: what was there, and behind it the number's four bytes, in memory of its own.
-/
namespace Go.Proofs.Ytclegljalndaeac
open Go.RowKit
set_option maxRecDepth 4000

theorem cellsNew4 (w : World) (a b c d : Value) (t : TypeId) : ∀ j u, [a, b, c, d][j]? = some u → (w.alloc (.cells #[a, b, c, d] t)).cell? ((⟨w.heap.size, 0, none⟩ : Addr).add j) = some u := by
  intro j u hj
  match j, hj with
  | 0, hj => simp at hj; subst hj; simp [Addr.add]
  | 1, hj => simp at hj; subst hj; simp [Addr.add]
  | 2, hj => simp at hj; subst hj; simp [Addr.add]
  | 3, hj => simp at hj; subst hj; simp [Addr.add]

theorem fixL_is (x y : Int) (hy : y = clampF x + 2147483648) : fixL x = [y / 16777216 % 256, y / 65536 % 256, y / 256 % 256, y % 256] := by
  subst hy
  unfold fixL
  simp [lof, be, dg, List.range_succ]

set_option maxHeartbeats 1000000 in
theorem putFix_own (b off n cap : Nat) (f : Nat → Int) (x : Int) (w : World) (hv : View w (some ⟨b, off, none⟩) n cap f) (hn : n ≤ 70368744170000) (hx0 : -9223372036854775808 ≤ x) (hx1 : x ≤ 9223372036854775807) :
    Calls Try.prog 104 #[.slice (some ⟨b, off, none⟩) n cap, .int .i64 x] w fun e w' => ∃ v, e = .returned v ∧ w'.ownsRow w.heap.size 5 1 v (n + 4) (bl (lof n f ++ fixL x)) ∧ Below w.heap.size w w' := by
  obtain ⟨i0, hi, hz0, hz1, hz2⟩ := info_parts Try.info5
  have hown0 := World.ownsRow_lit (base := w.heap.size) (e := 5) (size := 1) w #[] 0 (Nat.le_refl _) (Nat.zero_le _) rfl
  have hb0 : Below w.heap.size w (w.alloc (.cells #[] 5)) := (Below.refl _ _).alloc (Nat.le_refl _) _
  have hcl := cells_of_view (hv.below hb0)
  have hsz : (w.alloc (.cells #[] 5)).heap.size = w.heap.size + 1 := by simp
  obtain ⟨y, hy⟩ : ∃ y, y = clampF x := ⟨_, rfl⟩
  have hyb := clampF_bd x
  rw [← hy] at hyb
  have HL : Hid (fixL x = [(y + 2147483648) / 16777216 % 256, (y + 2147483648) / 65536 % 256, (y + 2147483648) / 256 % 256, (y + 2147483648) % 256]) := fixL_is x _ (by omega)
  have hcase : (2147483647 < x ∧ y = 2147483647) ∨ (x < -2147483648 ∧ y = -2147483648) ∨ (-2147483648 ≤ x ∧ x ≤ 2147483647 ∧ y = x) := by
    rw [hy]; unfold clampF; split
    · right; left; omega
    · split
      · left; omega
      · right; right; omega
  clear hy
  go_enter Try.func104, Try.ntmps104
  rcases hcase with ⟨h1, rfl⟩ | ⟨h1, rfl⟩ | ⟨h1, h2, rfl⟩
  ·
    go_wp2_with (first | (at_builtin; (refine wpList_append_own _ rfl (.tmp 11) (.tmp 12) 22 rfl w.heap.size 5 i0 (.int .u8 0) 1 1 Try.underlying22 hi hz0 hz1 hz2 rfl (by decide) (.slice (some ⟨w.heap.size, 0, none⟩) 0 0) 0 [] rfl hown0 ⟨b, off, none⟩ n cap (bl (lof n f)) rfl (by rw [bl_len, lof_len]; omega) hcl (bl_one _) (by unfold maxLen; omega) (by omega) (by rw [hsz]; omega) ?_); intro v1 w1 hown1 hgr1 _; simp only [Nat.zero_add, List.nil_append] at hown1; have hb1 : Below w.heap.size w w1 := hb0.grown hgr1 (by simp) (fun k hk => by simp only [Value.ownBlock, Option.some.injEq] at hk; omega); clear hown0 hcl hsz hgr1 hb0 hv) | (at_builtin; refine wpList_append_own _ rfl (.tmp 13) (.tmp 25) 22 rfl w.heap.size 5 i0 (.int .u8 0) 1 1 Try.underlying22 hi hz0 hz1 hz2 rfl (by decide) v1 _ _ rfl (hown1.alloc _) ⟨w1.heap.size, 0, none⟩ 4 4 [.int .u8 (255), .int .u8 (255), .int .u8 (255), .int .u8 (255)] rfl rfl (cellsNew4 _ _ _ _ _ _) (bl_one [255, 255, 255, 255]) (by unfold maxLen; omega) (by omega) (by have := hb1.size; simp; omega) ?_; intro v2 w2 hown2 hgr2 _))
    go_ret
    refine ⟨v2, rfl, ?_, (hb1.alloc hb1.size _).grown hgr2 (by have := hb1.size; simp; omega) (fun k hk => (hown1.lt k hk).1)⟩
    rw [HL.out, bl_append]
    exact hown2
  ·
    go_wp2_with (first | (at_builtin; (refine wpList_append_own _ rfl (.tmp 11) (.tmp 12) 22 rfl w.heap.size 5 i0 (.int .u8 0) 1 1 Try.underlying22 hi hz0 hz1 hz2 rfl (by decide) (.slice (some ⟨w.heap.size, 0, none⟩) 0 0) 0 [] rfl hown0 ⟨b, off, none⟩ n cap (bl (lof n f)) rfl (by rw [bl_len, lof_len]; omega) hcl (bl_one _) (by unfold maxLen; omega) (by omega) (by rw [hsz]; omega) ?_); intro v1 w1 hown1 hgr1 _; simp only [Nat.zero_add, List.nil_append] at hown1; have hb1 : Below w.heap.size w w1 := hb0.grown hgr1 (by simp) (fun k hk => by simp only [Value.ownBlock, Option.some.injEq] at hk; omega); clear hown0 hcl hsz hgr1 hb0 hv) | (at_builtin; refine wpList_append_own _ rfl (.tmp 13) (.tmp 25) 22 rfl w.heap.size 5 i0 (.int .u8 0) 1 1 Try.underlying22 hi hz0 hz1 hz2 rfl (by decide) v1 _ _ rfl (hown1.alloc _) ⟨w1.heap.size, 0, none⟩ 4 4 [.int .u8 (0), .int .u8 (0), .int .u8 (0), .int .u8 (0)] rfl rfl (cellsNew4 _ _ _ _ _ _) (bl_one [0, 0, 0, 0]) (by unfold maxLen; omega) (by omega) (by have := hb1.size; simp; omega) ?_; intro v2 w2 hown2 hgr2 _))
    go_ret
    refine ⟨v2, rfl, ?_, (hb1.alloc hb1.size _).grown hgr2 (by have := hb1.size; simp; omega) (fun k hk => (hown1.lt k hk).1)⟩
    rw [HL.out, bl_append]
    exact hown2
  ·
    go_wp2_with (first | (at_builtin; (refine wpList_append_own _ rfl (.tmp 11) (.tmp 12) 22 rfl w.heap.size 5 i0 (.int .u8 0) 1 1 Try.underlying22 hi hz0 hz1 hz2 rfl (by decide) (.slice (some ⟨w.heap.size, 0, none⟩) 0 0) 0 [] rfl hown0 ⟨b, off, none⟩ n cap (bl (lof n f)) rfl (by rw [bl_len, lof_len]; omega) hcl (bl_one _) (by unfold maxLen; omega) (by omega) (by rw [hsz]; omega) ?_); intro v1 w1 hown1 hgr1 _; simp only [Nat.zero_add, List.nil_append] at hown1; have hb1 : Below w.heap.size w w1 := hb0.grown hgr1 (by simp) (fun k hk => by simp only [Value.ownBlock, Option.some.injEq] at hk; omega); clear hown0 hcl hsz hgr1 hb0 hv) | (at_builtin; refine wpList_append_own _ rfl (.tmp 13) (.tmp 25) 22 rfl w.heap.size 5 i0 (.int .u8 0) 1 1 Try.underlying22 hi hz0 hz1 hz2 rfl (by decide) v1 _ _ rfl (hown1.alloc _) ⟨w1.heap.size, 0, none⟩ 4 4 [.int .u8 ((y + 2147483648) / 16777216), .int .u8 ((y + 2147483648) / 65536 % 256), .int .u8 ((y + 2147483648) / 256 % 256), .int .u8 ((y + 2147483648) % 256)] rfl rfl (cellsNew4 _ _ _ _ _ _) (bl_one [(y + 2147483648) / 16777216, (y + 2147483648) / 65536 % 256, (y + 2147483648) / 256 % 256, (y + 2147483648) % 256]) (by unfold maxLen; omega) (by omega) (by have := hb1.size; simp; omega) ?_; intro v2 w2 hown2 hgr2 _))
    go_ret
    refine ⟨v2, rfl, ?_, (hb1.alloc hb1.size _).grown hgr2 (by have := hb1.size; simp; omega) (fun k hk => (hown1.lt k hk).1)⟩
    rw [HL.out, show (y + 2147483648) / 16777216 % 256 = (y + 2147483648) / 16777216 by omega, bl_append]
    exact hown2
end Go.Proofs.Ytclegljalndaeac

