/-
  Together: FirstSpec, L1In, PartSpec, KeySpec, PutFixSpec
-/
import Derived.Test.YtkakkjnbhklfpaaGreatDoorPackR8
import Derived.Test.YtkakkjnbhklfpaaGreatDoorPackR18
import Derived.Test.YtkakkjnbhklfpaaGreatDoorPackR6
import Derived.Test.YtkakkjnbhklfpaaGreatDoorPackR5
import Derived.BigQuiet
import Derived.WalkSmall
import Derived.Deep.LoopGhost
import Derived.Test.YtkakkjnbhklfpaaGreatDoorPackR1
import Derived.Test.YtkakkjnbhklfpaaGreatDoorPackR2
import Derived.Test.YtkakkjnbhklfpaaGreatDoorPackR9
import Derived.Test.YtkakkjnbhklfpaaGreatDoorPackR10
import Derived.Test.YtkakkjnbhklfpaaGreatDoorPackR4
import Derived.Deep.RegionHeld3
import Derived.WalkSpells
/-
  spec.FirstBad, walked.
-/
namespace Go.Proofs.YtkakkjnbhklfpaaGreatDoor
open Go.RowKit
set_option maxRecDepth 4000

set_option maxHeartbeats 4000000 in
theorem specFirst_any (a : Option Addr) (n cap : Nat) (f : Nat → PDef) (w : World) (h : LView w a n cap f) (hf : LFine n f) :
    Calls Tryz.prog 69 #[.slice a n cap] w fun e w' => e = .returned (.int .i64 (firstF f n)) ∧ Below w.heap.size w w' := by
  have hn := hf.few
  go_enter Tryz.func69, Tryz.ntmps69
  go_wp2
  go_loopg [3] n (fun q i wr => ∃ k : Nat, k ≤ n ∧ q = n - k ∧ i = .int .i64 k ∧ Below w.heap.size w wr ∧ Hid (∀ i, i < k → badF f i = false))
  case atStart => exact ⟨0, Nat.zero_le _, rfl, rfl, Below.refl _ _, fun i hi => absurd hi (Nat.not_lt_zero _)⟩
  case round =>
    obtain ⟨k, hk, rfl, rfl, hB, HA⟩ := hrel
    by_cases hlt : k < n
    · obtain ⟨b1, o1, rfl, hb1, hc1⟩ := (h.below hB).cells (by omega)
      obtain ⟨y1, y2, y3, x0, x1, x2, x3, hv⟩ := hc1 k hlt
      have hkz : (k : Int) < (n : Int) := by omega
      have hS := specCheck_any _ (f k) wr hv (hf.at_ k hlt)
      obtain ⟨c, hc⟩ : ∃ c, Hid (checkF (f k) = c) := ⟨_, rfl⟩
      rw [hc.out] at hS
      obtain ⟨p0, hp0⟩ : ∃ x, Hid ((f k).name = x) := ⟨_, rfl⟩
      rw [hp0.out] at x0
      simp only [hp0.out] at hS
      clear hv hf h
      by_cases hcz : c = 0
      · subst hcz
        by_cases hk2 : k ≤ 2
        · have hk2' : ¬ (2 : Int) < (k : Int) := by omega
          go_wp2_with fail
          refine hS.mono ?_
          rintro e w1 ⟨rfl, hb⟩
          have HB : Hid (Below w.heap.size w w1) := hB.trans (hb.mono hB.size)
          have HC : Hid (∀ i, i < n → ∃ v, w1.cell? ⟨b1, o1 + i * 4, none⟩ = some (.string v) ∧ Hid (v = (f i).name)) := by
            intro i hi
            obtain ⟨_, _, _, y0, _⟩ := hc1 i hi
            exact ⟨_, (hb.cell (p := ⟨b1, o1 + i * 4, none⟩) hb1).trans y0, rfl⟩
          clear hS hb hB x0 x1 x2 x3 hc1 hb1
          go_wp2
          go_loopg [4] k (fun q i wr => ∃ j : Nat, j ≤ k ∧ q = k - j ∧ i = .int .i64 j ∧ Hid (Below w.heap.size w wr ∧ ∀ i, i < n → ∃ v, wr.cell? ⟨b1, o1 + i * 4, none⟩ = some (.string v) ∧ Hid (v = (f i).name)) ∧ Hid (∀ i, i < j → (f i).name ≠ (f k).name))
          case atStart => exact ⟨0, Nat.zero_le _, rfl, rfl, ⟨HB.out, HC.out⟩, fun i hi => absurd hi (Nat.not_lt_zero _)⟩
          case round =>
            obtain ⟨j, hj, rfl, rfl, HW, HN⟩ := hrel
            clear HB HC
            by_cases hjk : j < k
            · have hjz : (j : Int) < (k : Int) := by omega
              have hjn : (j : Int) < (n : Int) := by omega
              obtain ⟨vj, ej, evj⟩ := HW.out.2 j (by omega)
              obtain ⟨vk, ek, evk⟩ := HW.out.2 k hlt
              by_cases hne : vj = vk
              · have hq := bytes_eq hne
                go_wp2_with fail
                go_quiet (fail)
                go_wp2
                go_ret
                refine ⟨?_, below_drewN HW.out.1 _⟩
                rw [firstF_hit hlt HA.out (badF_twice hjk (by rw [← evj.out, ← evk.out]; exact hne))]; rfl
              · have hq := bytes_ne hne
                go_wp2_with fail
                go_quiet (fail)
                go_wp2
                go_roundg (k - (j + 1))
                case measure => omega
                case rel => exact ⟨j + 1, by omega, rfl, by go_num, ⟨below_drewN HW.out.1 _, HW.out.2⟩, fun i hi => by
                  by_cases e : i < j
                  · exact HN.out i e
                  · obtain rfl : i = j := by omega
                    rw [← evj.out, ← evk.out]; exact hne⟩
            · have hjz : ¬ (j : Int) < (k : Int) := by omega
              go_wp2
              go_roundg (n - (k + 1))
              case measure => omega
              case rel => exact ⟨k + 1, by omega, rfl, by go_num, HW.out.1, fun i hi => by
                by_cases e : i < k
                · exact HA.out i e
                · obtain rfl : i = k := by omega
                  exact badF_no hc.out hk2 (fun j' hj' => HN.out j' (by omega))⟩
        · have hk2' : (2 : Int) < (k : Int) := by omega
          go_wp2_with fail
          refine hS.mono ?_
          rintro e w1 ⟨rfl, hb⟩
          have HB : Hid (Below w.heap.size w w1) := hB.trans (hb.mono hB.size)
          clear hS hb hB x0 x1 x2 x3 hc1 hb1
          go_wp2
          go_ret
          refine ⟨?_, HB.out⟩
          rw [firstF_hit hlt HA.out (badF_late (by omega))]; rfl
      · have hcz' : (c != 0) = true := by simpa using hcz
        go_wp2_with fail
        refine hS.mono ?_
        rintro e w1 ⟨rfl, hb⟩
        have HB : Hid (Below w.heap.size w w1) := hB.trans (hb.mono hB.size)
        clear hS hb hB x0 x1 x2 x3 hc1 hb1
        go_wp2
        go_ret
        refine ⟨?_, HB.out⟩
        rw [firstF_hit hlt HA.out (badF_check (by rw [hc.out]; exact hcz))]; rfl
    · have hkz : ¬ (k : Int) < (n : Int) := by omega
      clear h hf
      go_wp2
      go_ret
      exact ⟨by rw [firstF_no (fun i hi => HA.out i (by omega))]; rfl, hB⟩
end Go.Proofs.YtkakkjnbhklfpaaGreatDoor

/-
  The model's l1In: whether a number lies between two.
-/
namespace Go.Proofs.YtkakkjnbhklfpaaGreatDoor
open Go.RowKit
set_option maxRecDepth 4000

set_option maxHeartbeats 1000000 in
theorem l1In_any (x l m : Int) (w : World) :
    Calls Tryz.prog 70 #[.int .i64 x, .int .i64 l, .int .i64 m] w fun e w' => e = .returned (.bool (decide (l ≤ x) && decide (x ≤ m))) ∧ w = w' := by
  go_enter Tryz.func70, Tryz.ntmps70
  by_cases h : l ≤ x
  · have e1 : decide (l ≤ x) = true := by simpa using h
    go_wp2
    go_ret
    exact ⟨by simp [h], rfl⟩
  · have e1 : decide (l ≤ x) = false := by simpa using h
    go_wp2
    go_ret
    exact ⟨by simp, rfl⟩

theorem l1In_yes (x l m : Int) (w : World) (h1 : l ≤ x) (h2 : x ≤ m) :
    Calls Tryz.prog 70 #[.int .i64 x, .int .i64 l, .int .i64 m] w fun e w' => e = .returned (.bool true) ∧ w = w' := by
  have h := l1In_any x l m w
  rw [decide_eq_true h1, decide_eq_true h2] at h
  exact h
theorem l1In_no (x l m : Int) (w : World) (h1 : x < l ∨ m < x) :
    Calls Tryz.prog 70 #[.int .i64 x, .int .i64 l, .int .i64 m] w fun e w' => e = .returned (.bool false) ∧ w = w' := by
  have h := l1In_any x l m w
  have e : (decide (l ≤ x) && decide (x ≤ m)) = false := by
    rcases h1 with h1 | h1
    · rw [decide_eq_false (by omega), Bool.false_and]
    · rw [decide_eq_false (p := x ≤ m) (by omega), Bool.and_false]
  rw [e] at h
  exact h
end Go.Proofs.YtkakkjnbhklfpaaGreatDoor

/-
  The model's PartOk, Fits and LessPart come to the plain ones.
-/
namespace Go.Proofs.YtkakkjnbhklfpaaGreatDoor
open Go.RowKit
set_option maxRecDepth 4000

set_option maxHeartbeats 1000000 in
theorem specPartOk_any (c t : Int) (nul d : Bool) (w : World) :
    Calls Tryz.prog 113 #[.agg #[.int .i64 c, .int .i64 t, .bool nul, .bool d]] w fun e w' => e = .returned (.bool (partOk c t)) ∧ Below w.heap.size w w' := by
  have hb0 : ∀ o, Below w.heap.size w (w.alloc o) := fun o => (Below.refl _ _).alloc (Nat.le_refl _) _
  by_cases h1 : 0 ≤ c ∧ c ≤ 9
  · by_cases h2 : 1 ≤ t ∧ t ≤ 4
    · have e : partOk c t = true := by unfold partOk; simp; omega
      rw [e]
      go_enter Tryz.func113, Tryz.ntmps113
      go_wp2_with fail
      refine (l1In_yes c 0 9 _ h1.1 h1.2).mono ?_
      rintro e _ ⟨rfl, rfl⟩
      go_wp2_with fail
      refine (l1In_yes t 1 4 _ h2.1 h2.2).mono ?_
      rintro e _ ⟨rfl, rfl⟩
      go_wp2
      go_ret
      exact ⟨rfl, hb0 _⟩
    · have e : partOk c t = false := by unfold partOk; simp; omega
      rw [e]
      go_enter Tryz.func113, Tryz.ntmps113
      go_wp2_with fail
      refine (l1In_yes c 0 9 _ h1.1 h1.2).mono ?_
      rintro e _ ⟨rfl, rfl⟩
      go_wp2_with fail
      refine (l1In_no t 1 4 _ (by omega)).mono ?_
      rintro e _ ⟨rfl, rfl⟩
      go_wp2
      go_ret
      exact ⟨rfl, hb0 _⟩
  · have e : partOk c t = false := by unfold partOk; simp; omega
    rw [e]
    go_enter Tryz.func113, Tryz.ntmps113
    go_wp2_with fail
    refine (l1In_no c 0 9 _ (by omega)).mono ?_
    rintro e _ ⟨rfl, rfl⟩
    go_wp2
    go_ret
    exact ⟨rfl, hb0 _⟩

set_option maxHeartbeats 1000000 in
theorem specFits_any (c t : Int) (nul d : Bool) (k n : Int) (s : ByteArray) (w : World) (hs : s.size ≤ 281474976710656) :
    Calls Tryz.prog 114 #[.agg #[.int .i64 c, .int .i64 t, .bool nul, .bool d], .agg #[.int .i64 k, .int .i64 n, .string s]] w fun e w' => e = .returned (.bool (fitsP t nul k n s)) ∧ Below w.heap.size w w' := by
  have hP := (PBox.new w c t nul d).below ((Below.refl _ _).alloc (Nat.le_refl _) (.cells #[.int .i64 k, .int .i64 n, .string s] 58))
  have hV := Box.new (w.alloc (.cells #[.int .i64 c, .int .i64 t, .bool nul, .bool d] 50)) k n s
  rw [show (w.alloc (.cells #[.int .i64 c, .int .i64 t, .bool nul, .bool d] 50)).heap.size = w.heap.size + 1 by simp] at hV
  have hb0 : Below w.heap.size w ((w.alloc (.cells #[.int .i64 c, .int .i64 t, .bool nul, .bool d] 50)).alloc (.cells #[.int .i64 k, .int .i64 n, .string s] 58)) := ((Below.refl _ _).alloc (Nat.le_refl _) _).alloc (by simp) _
  cases ho : okF k n s with
  | false =>
    have hr : fitsP t nul k n s = false := by unfold fitsP; rw [ho]; rfl
    rw [hr]
    clear hr
    go_enter Tryz.func114, Tryz.ntmps114
    go_wp2_with fail
    refine (specValOk_any k n s _ hs).mono ?_
    rw [ho]
    rintro e w1 ⟨rfl, hb1⟩
    obtain ⟨p0, p1, p2, p3⟩ := (hP.below hb1).cells
    obtain ⟨v0, v1, v2⟩ := (hV.below hb1).cells
    have hB : Below w.heap.size w w1 := hb0.trans (hb1.mono hb0.size)
    clear hP hV hb0 hb1 ho
    go_wp2
    go_ret
    exact ⟨rfl, hB⟩
  | true =>
    by_cases k0 : k = 0
    · subst k0
      have hr : fitsP t nul 0 n s = nul := by unfold fitsP; rw [ho]; simp
      rw [hr]
      clear hr
      by_cases ht : t = 0
      · subst ht
        have q0 : ((0 : Int) == 0) = true := by simp
        have q1 : ((0 : Int) != 0) = false := by simp
        go_enter Tryz.func114, Tryz.ntmps114
        go_wp2_with fail
        refine (specValOk_any 0 n s _ hs).mono ?_
        rw [ho]
        rintro e w1 ⟨rfl, hb1⟩
        obtain ⟨p0, p1, p2, p3⟩ := (hP.below hb1).cells
        obtain ⟨v0, v1, v2⟩ := (hV.below hb1).cells
        have hB : Below w.heap.size w w1 := hb0.trans (hb1.mono hb0.size)
        clear hP hV hb0 hb1 ho
        go_wp2
        go_ret
        exact ⟨rfl, hB⟩
      · have q0 : ((0 : Int) == t) = false := by simp; omega
        have q1 : ((0 : Int) == 0) = true := by simp
        clear ht
        go_enter Tryz.func114, Tryz.ntmps114
        go_wp2_with fail
        refine (specValOk_any 0 n s _ hs).mono ?_
        rw [ho]
        rintro e w1 ⟨rfl, hb1⟩
        obtain ⟨p0, p1, p2, p3⟩ := (hP.below hb1).cells
        obtain ⟨v0, v1, v2⟩ := (hV.below hb1).cells
        have hB : Below w.heap.size w w1 := hb0.trans (hb1.mono hb0.size)
        clear hP hV hb0 hb1 ho
        go_wp2
        go_ret
        exact ⟨rfl, hB⟩
    · have q2 : (k == 0) = false := by simpa using k0
      have q3 : (k != 0) = true := by simpa using k0
      by_cases kt : k = t
      · subst kt
        have hr : fitsP k nul k n s = true := by unfold fitsP; rw [ho]; simp [k0]
        rw [hr]
        have q4 : (k == k) = true := by simp
        clear hr k0
        go_enter Tryz.func114, Tryz.ntmps114
        go_wp2_with fail
        refine (specValOk_any k n s _ hs).mono ?_
        rw [ho]
        rintro e w1 ⟨rfl, hb1⟩
        obtain ⟨p0, p1, p2, p3⟩ := (hP.below hb1).cells
        obtain ⟨v0, v1, v2⟩ := (hV.below hb1).cells
        have hB : Below w.heap.size w w1 := hb0.trans (hb1.mono hb0.size)
        clear hP hV hb0 hb1 ho
        go_wp2
        go_ret
        exact ⟨rfl, hB⟩
      · have hr : fitsP t nul k n s = false := by unfold fitsP; rw [ho]; simp [k0, kt]
        rw [hr]
        have q4 : (k == t) = false := by simpa using kt
        clear hr k0 kt
        go_enter Tryz.func114, Tryz.ntmps114
        go_wp2_with fail
        refine (specValOk_any k n s _ hs).mono ?_
        rw [ho]
        rintro e w1 ⟨rfl, hb1⟩
        obtain ⟨p0, p1, p2, p3⟩ := (hP.below hb1).cells
        obtain ⟨v0, v1, v2⟩ := (hV.below hb1).cells
        have hB : Below w.heap.size w w1 := hb0.trans (hb1.mono hb0.size)
        clear hP hV hb0 hb1 ho
        go_wp2
        go_ret
        exact ⟨rfl, hB⟩
end Go.Proofs.YtkakkjnbhklfpaaGreatDoor

/-
  The model's PlanOk and FitsAll come to the plain ones.
-/
namespace Go.Proofs.YtkakkjnbhklfpaaGreatDoor
open Go.RowKit
set_option maxRecDepth 4000

set_option maxHeartbeats 2000000 in
theorem specPlanOk_any (a : Option Addr) (n cap : Nat) (fc ft : Nat → Int) (fu fd : Nat → Bool) (w : World) (h : PView w a n cap fc ft fu fd) (hn : n ≤ 1048576) :
    Calls Tryz.prog 71 #[.slice a n cap] w fun e w' => e = .returned (.bool (planOk n fc ft)) ∧ Below w.heap.size w w' := by
  go_enter Tryz.func71, Tryz.ntmps71
  go_wp2
  go_loopg [3] n (fun q i wr => ∃ k : Nat, k ≤ n ∧ q = n - k ∧ i = .int .i64 k ∧ Below w.heap.size w wr ∧ ∀ j, j < k → partOk (fc j) (ft j) = true)
  case atStart => exact ⟨0, Nat.zero_le _, rfl, rfl, Below.refl _ _, fun j hj => absurd hj (Nat.not_lt_zero _)⟩
  case round =>
    obtain ⟨k, hk, rfl, rfl, hB, hall⟩ := hrel
    have HA : Hid (∀ j, j < k → partOk (fc j) (ft j) = true) := hall
    clear hall
    by_cases hlt : k < n
    · obtain ⟨b1, o1, rfl, hb1, hd1⟩ := (h.below hB).cells (by omega)
      obtain ⟨x0, x1, x2, x3⟩ := hd1 k hlt
      have hkz : (k : Int) < (n : Int) := by omega
      clear hd1 h
      go_wp2_with fail
      clear x0 x1 x2 x3
      refine (specPartOk_any (fc k) (ft k) (fu k) (fd k) _).mono ?_
      cases ho : partOk (fc k) (ft k) with
      | true =>
        rintro e w2 ⟨rfl, hB2⟩
        have hB3 := hB.trans (hB2.mono hB.size)
        clear hB2
        have HN : Hid (∀ j, j < k + 1 → partOk (fc j) (ft j) = true) := by
          intro j hj
          by_cases e : j < k
          · exact HA.out j e
          · obtain rfl : j = k := by omega
            exact ho
        clear ho HA
        go_wp2
        go_roundg (n - (k + 1))
        case measure => omega
        case rel => exact ⟨k + 1, by omega, rfl, by go_num, hB3, HN.out⟩
      | false =>
        rintro e w2 ⟨rfl, hB2⟩
        have hB3 := hB.trans (hB2.mono hB.size)
        have HF : Hid (planOk n fc ft = false) := by show _ = _; unfold planOk; rw [allUpto_no hlt ho]; rfl
        clear hB2 ho HA
        go_wp2
        go_ret
        exact ⟨by rw [HF.out]; rfl, hB3⟩
    · have hkn : k = n := by omega
      have hkz : ¬ (k : Int) < (n : Int) := by omega
      by_cases h6 : n ≤ 6
      · have hz : (n : Int) ≤ 6 := by omega
        have HT : Hid (planOk n fc ft = true) := planOk_iff.2 ⟨fun i hi => HA.out i (by omega), h6⟩
        clear HA
        go_wp2
        go_ret
        exact ⟨by rw [HT.out]; rfl, hB⟩
      · have hz : ¬ (n : Int) ≤ 6 := by omega
        have HT : Hid (planOk n fc ft = false) := by show _ = _; unfold planOk; simp [h6]
        clear HA
        go_wp2
        go_ret
        exact ⟨by rw [HT.out]; rfl, hB⟩

set_option maxHeartbeats 2000000 in
theorem specFitsAll_any (a : Option Addr) (n cap : Nat) (fc ft : Nat → Int) (fu fd : Nat → Bool) (a2 : Option Addr) (m cap2 : Nat) (fk fn : Nat → Int) (fs : Nat → ByteArray) (w : World) (h : PView w a n cap fc ft fu fd) (h2 : VView w a2 m cap2 fk fn fs) (hn : n ≤ 1048576) (hm : m ≤ 1048576) (hs : ∀ i, i < m → (fs i).size ≤ 1048576) :
    Calls Tryz.prog 72 #[.slice a n cap, .slice a2 m cap2] w fun e w' => e = .returned (.bool (fitsAll n m ft fu fk fn fs)) ∧ Below w.heap.size w w' := by
  by_cases hmn : n < m
  · have hz : (n : Int) < (m : Int) := by omega
    have e : fitsAll n m ft fu fk fn fs = false := by unfold fitsAll; simp; omega
    rw [e]
    go_enter Tryz.func72, Tryz.ntmps72
    go_wp2
    go_ret
    exact ⟨rfl, Below.refl _ _⟩
  have hz0 : ¬ (n : Int) < (m : Int) := by omega
  go_enter Tryz.func72, Tryz.ntmps72
  go_wp2
  go_loopg [5] m (fun q i wr => ∃ k : Nat, k ≤ m ∧ q = m - k ∧ i = .int .i64 k ∧ Below w.heap.size w wr ∧ ∀ j, j < k → fitsP (ft j) (fu j) (fk j) (fn j) (fs j) = true)
  case atStart => exact ⟨0, Nat.zero_le _, rfl, rfl, Below.refl _ _, fun j hj => absurd hj (Nat.not_lt_zero _)⟩
  case round =>
    obtain ⟨k, hk, rfl, rfl, hB, hall⟩ := hrel
    have HA : Hid (∀ j, j < k → fitsP (ft j) (fu j) (fk j) (fn j) (fs j) = true) := hall
    clear hall
    by_cases hlt : k < m
    · have hlt2 : k < n := by omega
      obtain ⟨b1, o1, rfl, hb1, hd1⟩ := (h.below hB).cells (by omega)
      obtain ⟨b2, o2, rfl, hb2, hd2⟩ := (h2.below hB).cells (by omega)
      obtain ⟨x0, x1, x2, x3⟩ := hd1 k (by omega)
      obtain ⟨y0, y1, y2⟩ := hd2 k hlt
      have hkz : (k : Int) < (m : Int) := by omega
      have hkn : (k : Int) < (n : Int) := by omega
      have hsz := hs k hlt
      obtain ⟨o, ho⟩ : ∃ o, Hid (fitsP (ft k) (fu k) (fk k) (fn k) (fs k) = o) := ⟨_, rfl⟩
      have hF := fun W => specFits_any (fc k) (ft k) (fu k) (fd k) (fk k) (fn k) (fs k) W (by omega)
      rw [ho.out] at hF
      have HO : Hid (o = false → fitsAll n m ft fu fk fn fs = false) := by
        intro e
        have := ho.out
        rw [e] at this
        unfold fitsAll
        rw [allUpto_no (p := fun i => fitsP (ft i) (fu i) (fk i) (fn i) (fs i)) hlt this, Bool.and_false]
      have HN : Hid (o = true → ∀ j, j < k + 1 → fitsP (ft j) (fu j) (fk j) (fn j) (fs j) = true) := by
        intro e j hj
        by_cases ej : j < k
        · exact HA.out j ej
        · obtain rfl : j = k := by omega
          rw [ho.out, e]
      clear hd1 hd2 h h2 ho HA hsz
      obtain ⟨p0, hp0⟩ : ∃ p, Hid (fc k = p) := ⟨_, rfl⟩
      obtain ⟨p1, hp1⟩ : ∃ p, Hid (ft k = p) := ⟨_, rfl⟩
      obtain ⟨p2, hp2⟩ : ∃ p, Hid (fu k = p) := ⟨_, rfl⟩
      obtain ⟨p3, hp3⟩ : ∃ p, Hid (fd k = p) := ⟨_, rfl⟩
      obtain ⟨q0, hq0⟩ : ∃ p, Hid (fk k = p) := ⟨_, rfl⟩
      obtain ⟨q1, hq1⟩ : ∃ p, Hid (fn k = p) := ⟨_, rfl⟩
      obtain ⟨q2, hq2⟩ : ∃ p, Hid (fs k = p) := ⟨_, rfl⟩
      rw [hp0.out] at x0 hF
      rw [hp1.out] at x1 hF
      rw [hp2.out] at x2 hF
      rw [hp3.out] at x3 hF
      rw [hq0.out] at y0 hF
      rw [hq1.out] at y1 hF
      rw [hq2.out] at y2 hF
      go_wp2_with fail
      refine wp_region_held_drew (S := fun W => (W.cell? ⟨b1, o1 + k * 4, none⟩ = some (.int .i64 p0) ∧ W.cell? ⟨b1, o1 + k * 4 + 1, none⟩ = some (.int .i64 p1) ∧ W.cell? ⟨b1, o1 + k * 4 + 2, none⟩ = some (.bool p2) ∧ W.cell? ⟨b1, o1 + k * 4 + 3, none⟩ = some (.bool p3)) ∧ (W.cell? ⟨b2, o2 + k * 3, none⟩ = some (.int .i64 q0) ∧ W.cell? ⟨b2, o2 + k * 3 + 1, none⟩ = some (.int .i64 q1) ∧ W.cell? ⟨b2, o2 + k * 3 + 2, none⟩ = some (.string q2))) (by kernel_rfl) (⟨⟨x0, x1, x2, x3⟩, y0, y1, y2⟩) (fun hHeld => ?_)
      refine' wpAnyH_take (i := 0) (v := _) rfl (by kernel_rfl) (by kernel_rfl) (by kernel_rfl) (fun _ _ _ h => h) (Or.inl ⟨by kernel_rfl, ?ha0⟩) (by assumption) ?ra0
      case ha0 => intro W hW; obtain ⟨⟨d0, d1, d2, d3⟩, g0, g1, g2⟩ := hW; go_simp; all_goals with_reducible rfl
      change wpAnyH _ _ _ _ _ _ _ (Act.put _ (some 17) _) _
      simp only [Act.put, List.setIfInBounds_toArray, List.set_cons_zero, List.set_cons_succ]
      refine' wpAnyH_take (i := 1) (v := _) rfl (by kernel_rfl) (by kernel_rfl) (by kernel_rfl) (fun _ _ _ h => h) (Or.inl ⟨by kernel_rfl, ?ha1⟩) (by assumption) ?ra1
      case ha1 => intro W hW; obtain ⟨⟨d0, d1, d2, d3⟩, g0, g1, g2⟩ := hW; go_simp; all_goals with_reducible rfl
      change wpAnyH _ _ _ _ _ _ _ (Act.put _ (some 18) _) _
      simp only [Act.put, List.setIfInBounds_toArray, List.set_cons_zero, List.set_cons_succ]
      refine' wpAnyH_take (i := 2) (v := _) rfl (by kernel_rfl) (by kernel_rfl) (by kernel_rfl) (fun _ _ _ h => h) (Or.inl ⟨by kernel_rfl, ?ha2⟩) (by assumption) ?ra2
      case ha2 => intro W hW; obtain ⟨⟨d0, d1, d2, d3⟩, g0, g1, g2⟩ := hW; go_simp; all_goals with_reducible rfl
      change wpAnyH _ _ _ _ _ _ _ (Act.put _ (some 19) _) _
      simp only [Act.put, List.setIfInBounds_toArray, List.set_cons_zero, List.set_cons_succ]
      refine' wpAnyH_take (i := 3) (v := _) rfl (by kernel_rfl) (by kernel_rfl) (by kernel_rfl) (fun _ _ _ h => h) (Or.inl ⟨by kernel_rfl, ?ha3⟩) (by assumption) ?ra3
      case ha3 => intro W hW; obtain ⟨⟨d0, d1, d2, d3⟩, g0, g1, g2⟩ := hW; go_simp; all_goals with_reducible rfl
      change wpAnyH _ _ _ _ _ _ _ (Act.put _ (some 20) _) _
      simp only [Act.put, List.setIfInBounds_toArray, List.set_cons_zero, List.set_cons_succ]
      refine' wpAnyH_take (i := 4) (v := _) rfl (by kernel_rfl) (by kernel_rfl) (by kernel_rfl) (fun _ _ _ h => h) (Or.inl ⟨by kernel_rfl, ?ha4⟩) (by assumption) ?ra4
      case ha4 => intro W hW; obtain ⟨⟨d0, d1, d2, d3⟩, g0, g1, g2⟩ := hW; go_simp; all_goals with_reducible rfl
      change wpAnyH _ _ _ _ _ _ _ (Act.put _ (some 21) _) _
      simp only [Act.put, List.setIfInBounds_toArray, List.set_cons_zero, List.set_cons_succ]
      refine' wpAnyH_take (i := 5) (v := _) rfl (by kernel_rfl) (by kernel_rfl) (by kernel_rfl) (fun _ _ _ h => h) (Or.inl ⟨by kernel_rfl, ?ha5⟩) (by assumption) ?ra5
      case ha5 => intro W hW; obtain ⟨⟨d0, d1, d2, d3⟩, g0, g1, g2⟩ := hW; go_simp; all_goals with_reducible rfl
      change wpAnyH _ _ _ _ _ _ _ (Act.put _ (some 22) _) _
      simp only [Act.put, List.setIfInBounds_toArray, List.set_cons_zero, List.set_cons_succ]
      refine' wpAnyH_take (i := 6) (v := _) rfl (by kernel_rfl) (by kernel_rfl) (by kernel_rfl) (fun _ _ _ h => h) (Or.inl ⟨by kernel_rfl, ?ha6⟩) (by assumption) ?ra6
      case ha6 => intro W hW; obtain ⟨⟨d0, d1, d2, d3⟩, g0, g1, g2⟩ := hW; go_simp; all_goals with_reducible rfl
      change wpAnyH _ _ _ _ _ _ _ (Act.put _ (some 23) _) _
      simp only [Act.put, List.setIfInBounds_toArray, List.set_cons_zero, List.set_cons_succ]
      refine' wpAnyH_take (i := 7) (v := _) rfl (by kernel_rfl) (by kernel_rfl) (by kernel_rfl) (fun _ _ _ h => h) (Or.inl ⟨by kernel_rfl, ?ha7⟩) (by assumption) ?ra7
      case ha7 => intro W hW; obtain ⟨⟨d0, d1, d2, d3⟩, g0, g1, g2⟩ := hW; go_simp; all_goals with_reducible rfl
      change wpAnyH _ _ _ _ _ _ _ (Act.put _ (some 24) _) _
      simp only [Act.put, List.setIfInBounds_toArray, List.set_cons_zero, List.set_cons_succ]
      refine wpAnyH_ready (rs := [8]) (by kernel_rfl) (by simp) ?_
      refine AllReadyH.cons rfl (fun KK hK => ?_) AllReadyH.nil
      go_simp
      refine (hF _).mono ?_
      rintro e w2 ⟨rfl, hB2⟩
      go_wp2_with fail
      refine hK.out _ _ ⟨⟨by rw [hB2.cell hb1]; exact x0, by rw [hB2.cell hb1]; exact x1, by rw [hB2.cell hb1]; exact x2, by rw [hB2.cell hb1]; exact x3⟩, by rw [hB2.cell hb2]; exact y0, by rw [hB2.cell hb2]; exact y1, by rw [hB2.cell hb2]; exact y2⟩ (fun hHeld => ?_)
      clear hK KK
      try simp only [Act.put, List.setIfInBounds_toArray, List.set_cons_zero, List.set_cons_succ]
      refine' wpAnyH_take (i := 9) (v := _) rfl (by kernel_rfl) (by kernel_rfl) (by kernel_rfl) (fun _ _ _ h => h) (Or.inl ⟨by kernel_rfl, ?ha9⟩) (by assumption) ?ra9
      case ha9 => intro W hW; obtain ⟨⟨d0, d1, d2, d3⟩, g0, g1, g2⟩ := hW; go_simp; all_goals with_reducible rfl
      change wpAnyH _ _ _ _ _ _ _ (Act.put _ (some 26) _) _
      simp only [Act.put, List.setIfInBounds_toArray, List.set_cons_zero, List.set_cons_succ]
      refine wpAnyH_done (by kernel_rfl) ?_ _
      have hB3 : Hid (Below w.heap.size w w2) := hB.trans (Below.trans (Below.drew (Below.refl _ _)) (hB2.mono (by have := hB.size; exact this)))
      clear hHeld x0 x1 x2 x3 y0 y1 y2 hF
      cases o with
      | true =>
        go_wp2
        go_roundg (m - (k + 1))
        case measure => omega
        case rel => exact ⟨k + 1, by omega, rfl, by go_num, hB3.out, HN.out (by simp)⟩
      | false =>
        go_wp2
        go_ret
        exact ⟨by rw [HO.out (by simp)]; rfl, hB3.out⟩
    · have hkz : ¬ (k : Int) < (m : Int) := by omega
      have HT : Hid (fitsAll n m ft fu fk fn fs = true) := fitsAll_iff.2 ⟨by omega, fun i hi => HA.out i (by omega)⟩
      clear HA
      go_wp2
      go_ret
      exact ⟨by rw [HT.out]; rfl, hB⟩
end Go.Proofs.YtkakkjnbhklfpaaGreatDoor

/-
  The model's PutFix: what was there, and behind it the number's four bytes, in memory of its own.
-/
namespace Go.Proofs.YtkakkjnbhklfpaaGreatDoor
open Go.RowKit
set_option maxRecDepth 4000

theorem cellsNew4 (w : World) (a b c d : Value) (t : TypeId) : ∀ j u, [a, b, c, d][j]? = some u → (w.alloc (.cells #[a, b, c, d] t)).cell? ((⟨w.heap.size, 0, none⟩ : Addr).add j) = some u := by
  intro j u hj
  match j, hj with
  | 0, hj => simp at hj; subst hj; simp [Addr.add]
  | 1, hj => simp at hj; subst hj; simp [Addr.add]
  | 2, hj => simp at hj; subst hj; simp [Addr.add]
  | 3, hj => simp at hj; subst hj; simp [Addr.add]

theorem fixL_is (x y : Int) (hy : y = clampF x + 2147483648) : fixL x = [y / 16777216 % 256, y / 65536 % 256, y / 256 % 256, y % 256] := by
  subst hy
  unfold fixL
  simp [lof, be, dg, List.range_succ]

set_option maxHeartbeats 1000000 in
theorem putFix_own (b off n cap : Nat) (f : Nat → Int) (x : Int) (w : World) (hv : View w (some ⟨b, off, none⟩) n cap f) (hn : n ≤ 70368744170000) (hx0 : -9223372036854775808 ≤ x) (hx1 : x ≤ 9223372036854775807) :
    Calls Tryz.prog 170 #[.slice (some ⟨b, off, none⟩) n cap, .int .i64 x] w fun e w' => ∃ v, e = .returned v ∧ w'.ownsRow w.heap.size 5 1 v (n + 4) (bl (lof n f ++ fixL x)) ∧ Below w.heap.size w w' := by
  obtain ⟨i0, hi, hz0, hz1, hz2⟩ := info_parts Tryz.info5
  have hown0 := World.ownsRow_lit (base := w.heap.size) (e := 5) (size := 1) w #[] 0 (Nat.le_refl _) (Nat.zero_le _) rfl
  have hb0 : Below w.heap.size w (w.alloc (.cells #[] 5)) := (Below.refl _ _).alloc (Nat.le_refl _) _
  have hcl := cells_of_view (hv.below hb0)
  have hsz : (w.alloc (.cells #[] 5)).heap.size = w.heap.size + 1 := by simp
  obtain ⟨y, hy⟩ : ∃ y, y = clampF x := ⟨_, rfl⟩
  have hyb := clampF_bd x
  rw [← hy] at hyb
  have HL : Hid (fixL x = [(y + 2147483648) / 16777216 % 256, (y + 2147483648) / 65536 % 256, (y + 2147483648) / 256 % 256, (y + 2147483648) % 256]) := fixL_is x _ (by omega)
  have hcase : (2147483647 < x ∧ y = 2147483647) ∨ (x < -2147483648 ∧ y = -2147483648) ∨ (-2147483648 ≤ x ∧ x ≤ 2147483647 ∧ y = x) := by
    rw [hy]; unfold clampF; split
    · right; left; omega
    · split
      · left; omega
      · right; right; omega
  clear hy
  go_enter Tryz.func170, Tryz.ntmps170
  rcases hcase with ⟨h1, rfl⟩ | ⟨h1, rfl⟩ | ⟨h1, h2, rfl⟩
  ·
    go_wp2_with (first | (at_builtin; (refine wpList_append_own _ rfl (.tmp 11) (.tmp 12) 22 rfl w.heap.size 5 i0 (.int .u8 0) 1 1 Tryz.underlying22 hi hz0 hz1 hz2 rfl (by decide) (.slice (some ⟨w.heap.size, 0, none⟩) 0 0) 0 [] rfl hown0 ⟨b, off, none⟩ n cap (bl (lof n f)) rfl (by rw [bl_len, lof_len]; omega) hcl (bl_one _) (by unfold maxLen; omega) (by omega) (by rw [hsz]; omega) ?_); intro v1 w1 hown1 hgr1 _; simp only [Nat.zero_add, List.nil_append] at hown1; have hb1 : Below w.heap.size w w1 := hb0.grown hgr1 (by simp) (fun k hk => by simp only [Value.ownBlock, Option.some.injEq] at hk; omega); clear hown0 hcl hsz hgr1 hb0 hv) | (at_builtin; refine wpList_append_own _ rfl (.tmp 13) (.tmp 25) 22 rfl w.heap.size 5 i0 (.int .u8 0) 1 1 Tryz.underlying22 hi hz0 hz1 hz2 rfl (by decide) v1 _ _ rfl (hown1.alloc _) ⟨w1.heap.size, 0, none⟩ 4 4 [.int .u8 (255), .int .u8 (255), .int .u8 (255), .int .u8 (255)] rfl rfl (cellsNew4 _ _ _ _ _ _) (bl_one [255, 255, 255, 255]) (by unfold maxLen; omega) (by omega) (by have := hb1.size; simp; omega) ?_; intro v2 w2 hown2 hgr2 _))
    go_ret
    refine ⟨v2, rfl, ?_, (hb1.alloc hb1.size _).grown hgr2 (by have := hb1.size; simp; omega) (fun k hk => (hown1.lt k hk).1)⟩
    rw [HL.out, bl_append]
    exact hown2
  ·
    go_wp2_with (first | (at_builtin; (refine wpList_append_own _ rfl (.tmp 11) (.tmp 12) 22 rfl w.heap.size 5 i0 (.int .u8 0) 1 1 Tryz.underlying22 hi hz0 hz1 hz2 rfl (by decide) (.slice (some ⟨w.heap.size, 0, none⟩) 0 0) 0 [] rfl hown0 ⟨b, off, none⟩ n cap (bl (lof n f)) rfl (by rw [bl_len, lof_len]; omega) hcl (bl_one _) (by unfold maxLen; omega) (by omega) (by rw [hsz]; omega) ?_); intro v1 w1 hown1 hgr1 _; simp only [Nat.zero_add, List.nil_append] at hown1; have hb1 : Below w.heap.size w w1 := hb0.grown hgr1 (by simp) (fun k hk => by simp only [Value.ownBlock, Option.some.injEq] at hk; omega); clear hown0 hcl hsz hgr1 hb0 hv) | (at_builtin; refine wpList_append_own _ rfl (.tmp 13) (.tmp 25) 22 rfl w.heap.size 5 i0 (.int .u8 0) 1 1 Tryz.underlying22 hi hz0 hz1 hz2 rfl (by decide) v1 _ _ rfl (hown1.alloc _) ⟨w1.heap.size, 0, none⟩ 4 4 [.int .u8 (0), .int .u8 (0), .int .u8 (0), .int .u8 (0)] rfl rfl (cellsNew4 _ _ _ _ _ _) (bl_one [0, 0, 0, 0]) (by unfold maxLen; omega) (by omega) (by have := hb1.size; simp; omega) ?_; intro v2 w2 hown2 hgr2 _))
    go_ret
    refine ⟨v2, rfl, ?_, (hb1.alloc hb1.size _).grown hgr2 (by have := hb1.size; simp; omega) (fun k hk => (hown1.lt k hk).1)⟩
    rw [HL.out, bl_append]
    exact hown2
  ·
    go_wp2_with (first | (at_builtin; (refine wpList_append_own _ rfl (.tmp 11) (.tmp 12) 22 rfl w.heap.size 5 i0 (.int .u8 0) 1 1 Tryz.underlying22 hi hz0 hz1 hz2 rfl (by decide) (.slice (some ⟨w.heap.size, 0, none⟩) 0 0) 0 [] rfl hown0 ⟨b, off, none⟩ n cap (bl (lof n f)) rfl (by rw [bl_len, lof_len]; omega) hcl (bl_one _) (by unfold maxLen; omega) (by omega) (by rw [hsz]; omega) ?_); intro v1 w1 hown1 hgr1 _; simp only [Nat.zero_add, List.nil_append] at hown1; have hb1 : Below w.heap.size w w1 := hb0.grown hgr1 (by simp) (fun k hk => by simp only [Value.ownBlock, Option.some.injEq] at hk; omega); clear hown0 hcl hsz hgr1 hb0 hv) | (at_builtin; refine wpList_append_own _ rfl (.tmp 13) (.tmp 25) 22 rfl w.heap.size 5 i0 (.int .u8 0) 1 1 Tryz.underlying22 hi hz0 hz1 hz2 rfl (by decide) v1 _ _ rfl (hown1.alloc _) ⟨w1.heap.size, 0, none⟩ 4 4 [.int .u8 ((y + 2147483648) / 16777216), .int .u8 ((y + 2147483648) / 65536 % 256), .int .u8 ((y + 2147483648) / 256 % 256), .int .u8 ((y + 2147483648) % 256)] rfl rfl (cellsNew4 _ _ _ _ _ _) (bl_one [(y + 2147483648) / 16777216, (y + 2147483648) / 65536 % 256, (y + 2147483648) / 256 % 256, (y + 2147483648) % 256]) (by unfold maxLen; omega) (by omega) (by have := hb1.size; simp; omega) ?_; intro v2 w2 hown2 hgr2 _))
    go_ret
    refine ⟨v2, rfl, ?_, (hb1.alloc hb1.size _).grown hgr2 (by have := hb1.size; simp; omega) (fun k hk => (hown1.lt k hk).1)⟩
    rw [HL.out, show (y + 2147483648) / 16777216 % 256 = (y + 2147483648) / 16777216 by omega, bl_append]
    exact hown2
end Go.Proofs.YtkakkjnbhklfpaaGreatDoor

