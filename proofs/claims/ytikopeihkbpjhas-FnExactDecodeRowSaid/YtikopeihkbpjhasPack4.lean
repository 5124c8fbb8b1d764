/-
  Together: PartSpec, KeySpec, RowOkSpec, CrcSpec, GetSumSpec, RowDecSpec, SumsPlain, OkFKinds, RowBack, GetBit, RowReadI, GetVarImpl, GetTextImpl, But
-/
import Derived.Test.YtikopeihkbpjhasPack2
import Derived.Test.YtikopeihkbpjhasPack3
import Derived.Deep.LoopGhost
import Derived.Deep.RegionHeld3
import Derived.Test.YtikopeihkbpjhasPack1
/-
  The model's PartOk, Fits and LessPart come to the plain ones.
-/
namespace Go.Proofs.Ytikopeihkbpjhas
open Go.RowKit
set_option maxRecDepth 4000

def partAgg (c t : Int) (nul d : Bool) : Value := .agg #[.int .i64 c, .int .i64 t, .bool nul, .bool d]

set_option maxHeartbeats 1000000 in
theorem specPartOk_any (c t : Int) (nul d : Bool) (w : World) :
    Calls Try.prog 49 #[.agg #[.int .i64 c, .int .i64 t, .bool nul, .bool d]] w fun e w' => e = .returned (.bool (partOk c t)) ∧ Below w.heap.size w w' := by
  have hb0 : ∀ o, Below w.heap.size w (w.alloc o) := fun o => (Below.refl _ _).alloc (Nat.le_refl _) _
  by_cases h1 : 0 ≤ c ∧ c ≤ 9
  · by_cases h2 : 1 ≤ t ∧ t ≤ 4
    · have e : partOk c t = true := by unfold partOk; simp; omega
      rw [e]
      go_enter Try.func49, Try.ntmps49
      go_wp2_with fail
      refine (l1In_yes c 0 9 _ h1.1 h1.2).mono ?_
      rintro e _ ⟨rfl, rfl⟩
      go_wp2_with fail
      refine (l1In_yes t 1 4 _ h2.1 h2.2).mono ?_
      rintro e _ ⟨rfl, rfl⟩
      go_wp2
      go_ret
      exact ⟨rfl, hb0 _⟩
    · have e : partOk c t = false := by unfold partOk; simp; omega
      rw [e]
      go_enter Try.func49, Try.ntmps49
      go_wp2_with fail
      refine (l1In_yes c 0 9 _ h1.1 h1.2).mono ?_
      rintro e _ ⟨rfl, rfl⟩
      go_wp2_with fail
      refine (l1In_no t 1 4 _ (by omega)).mono ?_
      rintro e _ ⟨rfl, rfl⟩
      go_wp2
      go_ret
      exact ⟨rfl, hb0 _⟩
  · have e : partOk c t = false := by unfold partOk; simp; omega
    rw [e]
    go_enter Try.func49, Try.ntmps49
    go_wp2_with fail
    refine (l1In_no c 0 9 _ (by omega)).mono ?_
    rintro e _ ⟨rfl, rfl⟩
    go_wp2
    go_ret
    exact ⟨rfl, hb0 _⟩

set_option maxHeartbeats 1000000 in
theorem specFits_any (c t : Int) (nul d : Bool) (k n : Int) (s : ByteArray) (w : World) (hs : s.size ≤ 281474976710656) :
    Calls Try.prog 50 #[.agg #[.int .i64 c, .int .i64 t, .bool nul, .bool d], .agg #[.int .i64 k, .int .i64 n, .string s]] w fun e w' => e = .returned (.bool (fitsP t nul k n s)) ∧ Below w.heap.size w w' := by
  have hP := (PBox.new w c t nul d).below ((Below.refl _ _).alloc (Nat.le_refl _) (.cells #[.int .i64 k, .int .i64 n, .string s] 52))
  have hV := Box.new (w.alloc (.cells #[.int .i64 c, .int .i64 t, .bool nul, .bool d] 49)) k n s
  rw [show (w.alloc (.cells #[.int .i64 c, .int .i64 t, .bool nul, .bool d] 49)).heap.size = w.heap.size + 1 by simp] at hV
  have hb0 : Below w.heap.size w ((w.alloc (.cells #[.int .i64 c, .int .i64 t, .bool nul, .bool d] 49)).alloc (.cells #[.int .i64 k, .int .i64 n, .string s] 52)) := ((Below.refl _ _).alloc (Nat.le_refl _) _).alloc (by simp) _
  cases ho : okF k n s with
  | false =>
    have hr : fitsP t nul k n s = false := by unfold fitsP; rw [ho]; rfl
    rw [hr]
    clear hr
    go_enter Try.func50, Try.ntmps50
    go_wp2_with fail
    refine (specValOk_any k n s _ hs).mono ?_
    rw [ho]
    rintro e w1 ⟨rfl, hb1⟩
    obtain ⟨p0, p1, p2, p3⟩ := (hP.below hb1).cells
    obtain ⟨v0, v1, v2⟩ := (hV.below hb1).cells
    have hB : Below w.heap.size w w1 := hb0.trans (hb1.mono hb0.size)
    clear hP hV hb0 hb1 ho
    go_wp2
    go_ret
    exact ⟨rfl, hB⟩
  | true =>
    by_cases k0 : k = 0
    · subst k0
      have hr : fitsP t nul 0 n s = nul := by unfold fitsP; rw [ho]; simp
      rw [hr]
      clear hr
      by_cases ht : t = 0
      · subst ht
        have q0 : ((0 : Int) == 0) = true := by simp
        have q1 : ((0 : Int) != 0) = false := by simp
        go_enter Try.func50, Try.ntmps50
        go_wp2_with fail
        refine (specValOk_any 0 n s _ hs).mono ?_
        rw [ho]
        rintro e w1 ⟨rfl, hb1⟩
        obtain ⟨p0, p1, p2, p3⟩ := (hP.below hb1).cells
        obtain ⟨v0, v1, v2⟩ := (hV.below hb1).cells
        have hB : Below w.heap.size w w1 := hb0.trans (hb1.mono hb0.size)
        clear hP hV hb0 hb1 ho
        go_wp2
        go_ret
        exact ⟨rfl, hB⟩
      · have q0 : ((0 : Int) == t) = false := by simp; omega
        have q1 : ((0 : Int) == 0) = true := by simp
        clear ht
        go_enter Try.func50, Try.ntmps50
        go_wp2_with fail
        refine (specValOk_any 0 n s _ hs).mono ?_
        rw [ho]
        rintro e w1 ⟨rfl, hb1⟩
        obtain ⟨p0, p1, p2, p3⟩ := (hP.below hb1).cells
        obtain ⟨v0, v1, v2⟩ := (hV.below hb1).cells
        have hB : Below w.heap.size w w1 := hb0.trans (hb1.mono hb0.size)
        clear hP hV hb0 hb1 ho
        go_wp2
        go_ret
        exact ⟨rfl, hB⟩
    · have q2 : (k == 0) = false := by simpa using k0
      have q3 : (k != 0) = true := by simpa using k0
      by_cases kt : k = t
      · subst kt
        have hr : fitsP k nul k n s = true := by unfold fitsP; rw [ho]; simp [k0]
        rw [hr]
        have q4 : (k == k) = true := by simp
        clear hr k0
        go_enter Try.func50, Try.ntmps50
        go_wp2_with fail
        refine (specValOk_any k n s _ hs).mono ?_
        rw [ho]
        rintro e w1 ⟨rfl, hb1⟩
        obtain ⟨p0, p1, p2, p3⟩ := (hP.below hb1).cells
        obtain ⟨v0, v1, v2⟩ := (hV.below hb1).cells
        have hB : Below w.heap.size w w1 := hb0.trans (hb1.mono hb0.size)
        clear hP hV hb0 hb1 ho
        go_wp2
        go_ret
        exact ⟨rfl, hB⟩
      · have hr : fitsP t nul k n s = false := by unfold fitsP; rw [ho]; simp [k0, kt]
        rw [hr]
        have q4 : (k == t) = false := by simpa using kt
        clear hr k0 kt
        go_enter Try.func50, Try.ntmps50
        go_wp2_with fail
        refine (specValOk_any k n s _ hs).mono ?_
        rw [ho]
        rintro e w1 ⟨rfl, hb1⟩
        obtain ⟨p0, p1, p2, p3⟩ := (hP.below hb1).cells
        obtain ⟨v0, v1, v2⟩ := (hV.below hb1).cells
        have hB : Below w.heap.size w w1 := hb0.trans (hb1.mono hb0.size)
        clear hP hV hb0 hb1 ho
        go_wp2
        go_ret
        exact ⟨rfl, hB⟩
end Go.Proofs.Ytikopeihkbpjhas

/-
  The model's PlanOk and FitsAll come to the plain ones.
-/
namespace Go.Proofs.Ytikopeihkbpjhas
open Go.RowKit
set_option maxRecDepth 4000

set_option maxHeartbeats 2000000 in
theorem specPlanOk_any (a : Option Addr) (n cap : Nat) (fc ft : Nat → Int) (fu fd : Nat → Bool) (w : World) (h : PView w a n cap fc ft fu fd) (hn : n ≤ 1048576) :
    Calls Try.prog 26 #[.slice a n cap] w fun e w' => e = .returned (.bool (planOk n fc ft)) ∧ Below w.heap.size w w' := by
  go_enter Try.func26, Try.ntmps26
  go_wp2
  go_loopg [3] n (fun q i wr => ∃ k : Nat, k ≤ n ∧ q = n - k ∧ i = .int .i64 k ∧ Below w.heap.size w wr ∧ ∀ j, j < k → partOk (fc j) (ft j) = true)
  case atStart => exact ⟨0, Nat.zero_le _, rfl, rfl, Below.refl _ _, fun j hj => absurd hj (Nat.not_lt_zero _)⟩
  case round =>
    obtain ⟨k, hk, rfl, rfl, hB, hall⟩ := hrel
    have HA : Hid (∀ j, j < k → partOk (fc j) (ft j) = true) := hall
    clear hall
    by_cases hlt : k < n
    · obtain ⟨b1, o1, rfl, hb1, hd1⟩ := (h.below hB).cells (by omega)
      obtain ⟨x0, x1, x2, x3⟩ := hd1 k hlt
      have hkz : (k : Int) < (n : Int) := by omega
      clear hd1 h
      go_wp2_with fail
      clear x0 x1 x2 x3
      refine (specPartOk_any (fc k) (ft k) (fu k) (fd k) _).mono ?_
      cases ho : partOk (fc k) (ft k) with
      | true =>
        rintro e w2 ⟨rfl, hB2⟩
        have hB3 := hB.trans (hB2.mono hB.size)
        clear hB2
        have HN : Hid (∀ j, j < k + 1 → partOk (fc j) (ft j) = true) := by
          intro j hj
          by_cases e : j < k
          · exact HA.out j e
          · obtain rfl : j = k := by omega
            exact ho
        clear ho HA
        go_wp2
        go_roundg (n - (k + 1))
        case measure => omega
        case rel => exact ⟨k + 1, by omega, rfl, by go_num, hB3, HN.out⟩
      | false =>
        rintro e w2 ⟨rfl, hB2⟩
        have hB3 := hB.trans (hB2.mono hB.size)
        have HF : Hid (planOk n fc ft = false) := by show _ = _; unfold planOk; rw [allUpto_no hlt ho]; rfl
        clear hB2 ho HA
        go_wp2
        go_ret
        exact ⟨by rw [HF.out]; rfl, hB3⟩
    · have hkn : k = n := by omega
      have hkz : ¬ (k : Int) < (n : Int) := by omega
      by_cases h6 : n ≤ 6
      · have hz : (n : Int) ≤ 6 := by omega
        have HT : Hid (planOk n fc ft = true) := planOk_iff.2 ⟨fun i hi => HA.out i (by omega), h6⟩
        clear HA
        go_wp2
        go_ret
        exact ⟨by rw [HT.out]; rfl, hB⟩
      · have hz : ¬ (n : Int) ≤ 6 := by omega
        have HT : Hid (planOk n fc ft = false) := by show _ = _; unfold planOk; simp [h6]
        clear HA
        go_wp2
        go_ret
        exact ⟨by rw [HT.out]; rfl, hB⟩

set_option maxHeartbeats 2000000 in
theorem specFitsAll_any (a : Option Addr) (n cap : Nat) (fc ft : Nat → Int) (fu fd : Nat → Bool) (a2 : Option Addr) (m cap2 : Nat) (fk fn : Nat → Int) (fs : Nat → ByteArray) (w : World) (h : PView w a n cap fc ft fu fd) (h2 : VView w a2 m cap2 fk fn fs) (hn : n ≤ 1048576) (hm : m ≤ 1048576) (hs : ∀ i, i < m → (fs i).size ≤ 1048576) :
    Calls Try.prog 27 #[.slice a n cap, .slice a2 m cap2] w fun e w' => e = .returned (.bool (fitsAll n m ft fu fk fn fs)) ∧ Below w.heap.size w w' := by
  by_cases hmn : n < m
  · have hz : (n : Int) < (m : Int) := by omega
    have e : fitsAll n m ft fu fk fn fs = false := by unfold fitsAll; simp; omega
    rw [e]
    go_enter Try.func27, Try.ntmps27
    go_wp2
    go_ret
    exact ⟨rfl, Below.refl _ _⟩
  have hz0 : ¬ (n : Int) < (m : Int) := by omega
  go_enter Try.func27, Try.ntmps27
  go_wp2
  go_loopg [5] m (fun q i wr => ∃ k : Nat, k ≤ m ∧ q = m - k ∧ i = .int .i64 k ∧ Below w.heap.size w wr ∧ ∀ j, j < k → fitsP (ft j) (fu j) (fk j) (fn j) (fs j) = true)
  case atStart => exact ⟨0, Nat.zero_le _, rfl, rfl, Below.refl _ _, fun j hj => absurd hj (Nat.not_lt_zero _)⟩
  case round =>
    obtain ⟨k, hk, rfl, rfl, hB, hall⟩ := hrel
    have HA : Hid (∀ j, j < k → fitsP (ft j) (fu j) (fk j) (fn j) (fs j) = true) := hall
    clear hall
    by_cases hlt : k < m
    · have hlt2 : k < n := by omega
      obtain ⟨b1, o1, rfl, hb1, hd1⟩ := (h.below hB).cells (by omega)
      obtain ⟨b2, o2, rfl, hb2, hd2⟩ := (h2.below hB).cells (by omega)
      obtain ⟨x0, x1, x2, x3⟩ := hd1 k (by omega)
      obtain ⟨y0, y1, y2⟩ := hd2 k hlt
      have hkz : (k : Int) < (m : Int) := by omega
      have hkn : (k : Int) < (n : Int) := by omega
      have hsz := hs k hlt
      obtain ⟨o, ho⟩ : ∃ o, Hid (fitsP (ft k) (fu k) (fk k) (fn k) (fs k) = o) := ⟨_, rfl⟩
      have hF := fun W => specFits_any (fc k) (ft k) (fu k) (fd k) (fk k) (fn k) (fs k) W (by omega)
      rw [ho.out] at hF
      have HO : Hid (o = false → fitsAll n m ft fu fk fn fs = false) := by
        intro e
        have := ho.out
        rw [e] at this
        unfold fitsAll
        rw [allUpto_no (p := fun i => fitsP (ft i) (fu i) (fk i) (fn i) (fs i)) hlt this, Bool.and_false]
      have HN : Hid (o = true → ∀ j, j < k + 1 → fitsP (ft j) (fu j) (fk j) (fn j) (fs j) = true) := by
        intro e j hj
        by_cases ej : j < k
        · exact HA.out j ej
        · obtain rfl : j = k := by omega
          rw [ho.out, e]
      clear hd1 hd2 h h2 ho HA hsz
      obtain ⟨p0, hp0⟩ : ∃ p, Hid (fc k = p) := ⟨_, rfl⟩
      obtain ⟨p1, hp1⟩ : ∃ p, Hid (ft k = p) := ⟨_, rfl⟩
      obtain ⟨p2, hp2⟩ : ∃ p, Hid (fu k = p) := ⟨_, rfl⟩
      obtain ⟨p3, hp3⟩ : ∃ p, Hid (fd k = p) := ⟨_, rfl⟩
      obtain ⟨q0, hq0⟩ : ∃ p, Hid (fk k = p) := ⟨_, rfl⟩
      obtain ⟨q1, hq1⟩ : ∃ p, Hid (fn k = p) := ⟨_, rfl⟩
      obtain ⟨q2, hq2⟩ : ∃ p, Hid (fs k = p) := ⟨_, rfl⟩
      rw [hp0.out] at x0 hF
      rw [hp1.out] at x1 hF
      rw [hp2.out] at x2 hF
      rw [hp3.out] at x3 hF
      rw [hq0.out] at y0 hF
      rw [hq1.out] at y1 hF
      rw [hq2.out] at y2 hF
      go_wp2_with fail
      refine wp_region_held_drew (S := fun W => (W.cell? ⟨b1, o1 + k * 4, none⟩ = some (.int .i64 p0) ∧ W.cell? ⟨b1, o1 + k * 4 + 1, none⟩ = some (.int .i64 p1) ∧ W.cell? ⟨b1, o1 + k * 4 + 2, none⟩ = some (.bool p2) ∧ W.cell? ⟨b1, o1 + k * 4 + 3, none⟩ = some (.bool p3)) ∧ (W.cell? ⟨b2, o2 + k * 3, none⟩ = some (.int .i64 q0) ∧ W.cell? ⟨b2, o2 + k * 3 + 1, none⟩ = some (.int .i64 q1) ∧ W.cell? ⟨b2, o2 + k * 3 + 2, none⟩ = some (.string q2))) (by kernel_rfl) (⟨⟨x0, x1, x2, x3⟩, y0, y1, y2⟩) (fun hHeld => ?_)
      refine' wpAnyH_take (i := 0) (v := _) rfl (by kernel_rfl) (by kernel_rfl) (by kernel_rfl) (fun _ _ _ h => h) (Or.inl ⟨by kernel_rfl, ?ha0⟩) (by assumption) ?ra0
      case ha0 => intro W hW; obtain ⟨⟨d0, d1, d2, d3⟩, g0, g1, g2⟩ := hW; go_simp; all_goals with_reducible rfl
      change wpAnyH _ _ _ _ _ _ _ (Act.put _ (some 17) _) _
      simp only [Act.put, List.setIfInBounds_toArray, List.set_cons_zero, List.set_cons_succ]
      refine' wpAnyH_take (i := 1) (v := _) rfl (by kernel_rfl) (by kernel_rfl) (by kernel_rfl) (fun _ _ _ h => h) (Or.inl ⟨by kernel_rfl, ?ha1⟩) (by assumption) ?ra1
      case ha1 => intro W hW; obtain ⟨⟨d0, d1, d2, d3⟩, g0, g1, g2⟩ := hW; go_simp; all_goals with_reducible rfl
      change wpAnyH _ _ _ _ _ _ _ (Act.put _ (some 18) _) _
      simp only [Act.put, List.setIfInBounds_toArray, List.set_cons_zero, List.set_cons_succ]
      refine' wpAnyH_take (i := 2) (v := _) rfl (by kernel_rfl) (by kernel_rfl) (by kernel_rfl) (fun _ _ _ h => h) (Or.inl ⟨by kernel_rfl, ?ha2⟩) (by assumption) ?ra2
      case ha2 => intro W hW; obtain ⟨⟨d0, d1, d2, d3⟩, g0, g1, g2⟩ := hW; go_simp; all_goals with_reducible rfl
      change wpAnyH _ _ _ _ _ _ _ (Act.put _ (some 19) _) _
      simp only [Act.put, List.setIfInBounds_toArray, List.set_cons_zero, List.set_cons_succ]
      refine' wpAnyH_take (i := 3) (v := _) rfl (by kernel_rfl) (by kernel_rfl) (by kernel_rfl) (fun _ _ _ h => h) (Or.inl ⟨by kernel_rfl, ?ha3⟩) (by assumption) ?ra3
      case ha3 => intro W hW; obtain ⟨⟨d0, d1, d2, d3⟩, g0, g1, g2⟩ := hW; go_simp; all_goals with_reducible rfl
      change wpAnyH _ _ _ _ _ _ _ (Act.put _ (some 20) _) _
      simp only [Act.put, List.setIfInBounds_toArray, List.set_cons_zero, List.set_cons_succ]
      refine' wpAnyH_take (i := 4) (v := _) rfl (by kernel_rfl) (by kernel_rfl) (by kernel_rfl) (fun _ _ _ h => h) (Or.inl ⟨by kernel_rfl, ?ha4⟩) (by assumption) ?ra4
      case ha4 => intro W hW; obtain ⟨⟨d0, d1, d2, d3⟩, g0, g1, g2⟩ := hW; go_simp; all_goals with_reducible rfl
      change wpAnyH _ _ _ _ _ _ _ (Act.put _ (some 21) _) _
      simp only [Act.put, List.setIfInBounds_toArray, List.set_cons_zero, List.set_cons_succ]
      refine' wpAnyH_take (i := 5) (v := _) rfl (by kernel_rfl) (by kernel_rfl) (by kernel_rfl) (fun _ _ _ h => h) (Or.inl ⟨by kernel_rfl, ?ha5⟩) (by assumption) ?ra5
      case ha5 => intro W hW; obtain ⟨⟨d0, d1, d2, d3⟩, g0, g1, g2⟩ := hW; go_simp; all_goals with_reducible rfl
      change wpAnyH _ _ _ _ _ _ _ (Act.put _ (some 22) _) _
      simp only [Act.put, List.setIfInBounds_toArray, List.set_cons_zero, List.set_cons_succ]
      refine' wpAnyH_take (i := 6) (v := _) rfl (by kernel_rfl) (by kernel_rfl) (by kernel_rfl) (fun _ _ _ h => h) (Or.inl ⟨by kernel_rfl, ?ha6⟩) (by assumption) ?ra6
      case ha6 => intro W hW; obtain ⟨⟨d0, d1, d2, d3⟩, g0, g1, g2⟩ := hW; go_simp; all_goals with_reducible rfl
      change wpAnyH _ _ _ _ _ _ _ (Act.put _ (some 23) _) _
      simp only [Act.put, List.setIfInBounds_toArray, List.set_cons_zero, List.set_cons_succ]
      refine' wpAnyH_take (i := 7) (v := _) rfl (by kernel_rfl) (by kernel_rfl) (by kernel_rfl) (fun _ _ _ h => h) (Or.inl ⟨by kernel_rfl, ?ha7⟩) (by assumption) ?ra7
      case ha7 => intro W hW; obtain ⟨⟨d0, d1, d2, d3⟩, g0, g1, g2⟩ := hW; go_simp; all_goals with_reducible rfl
      change wpAnyH _ _ _ _ _ _ _ (Act.put _ (some 24) _) _
      simp only [Act.put, List.setIfInBounds_toArray, List.set_cons_zero, List.set_cons_succ]
      refine wpAnyH_ready (rs := [8]) (by kernel_rfl) (by simp) ?_
      refine AllReadyH.cons rfl (fun KK hK => ?_) AllReadyH.nil
      go_simp
      refine (hF _).mono ?_
      rintro e w2 ⟨rfl, hB2⟩
      go_wp2_with fail
      refine hK.out _ _ ⟨⟨by rw [hB2.cell hb1]; exact x0, by rw [hB2.cell hb1]; exact x1, by rw [hB2.cell hb1]; exact x2, by rw [hB2.cell hb1]; exact x3⟩, by rw [hB2.cell hb2]; exact y0, by rw [hB2.cell hb2]; exact y1, by rw [hB2.cell hb2]; exact y2⟩ (fun hHeld => ?_)
      clear hK KK
      try simp only [Act.put, List.setIfInBounds_toArray, List.set_cons_zero, List.set_cons_succ]
      refine' wpAnyH_take (i := 9) (v := _) rfl (by kernel_rfl) (by kernel_rfl) (by kernel_rfl) (fun _ _ _ h => h) (Or.inl ⟨by kernel_rfl, ?ha9⟩) (by assumption) ?ra9
      case ha9 => intro W hW; obtain ⟨⟨d0, d1, d2, d3⟩, g0, g1, g2⟩ := hW; go_simp; all_goals with_reducible rfl
      change wpAnyH _ _ _ _ _ _ _ (Act.put _ (some 26) _) _
      simp only [Act.put, List.setIfInBounds_toArray, List.set_cons_zero, List.set_cons_succ]
      refine wpAnyH_done (by kernel_rfl) ?_ _
      have hB3 : Hid (Below w.heap.size w w2) := hB.trans (Below.trans (Below.drew (Below.refl _ _)) (hB2.mono (by have := hB.size; exact this)))
      clear hHeld x0 x1 x2 x3 y0 y1 y2 hF
      cases o with
      | true =>
        go_wp2
        go_roundg (m - (k + 1))
        case measure => omega
        case rel => exact ⟨k + 1, by omega, rfl, by go_num, hB3.out, HN.out (by simp)⟩
      | false =>
        go_wp2
        go_ret
        exact ⟨by rw [HO.out (by simp)]; rfl, hB3.out⟩
    · have hkz : ¬ (k : Int) < (m : Int) := by omega
      have HT : Hid (fitsAll n m ft fu fk fn fs = true) := fitsAll_iff.2 ⟨by omega, fun i hi => HA.out i (by omega)⟩
      clear HA
      go_wp2
      go_ret
      exact ⟨by rw [HT.out]; rfl, hB⟩
end Go.Proofs.Ytikopeihkbpjhas

/-
  The model's RowOk comes to the plain one.
-/
namespace Go.Proofs.Ytikopeihkbpjhas
open Go.RowKit
set_option maxRecDepth 4000

set_option maxHeartbeats 2000000 in
theorem specRowOk_any (a : Option Addr) (n cap : Nat) (fc ft : Nat → Int) (fu fd : Nat → Bool) (a2 : Option Addr) (m cap2 : Nat) (fk fn : Nat → Int) (fs : Nat → ByteArray) (w : World) (h : PView w a n cap fc ft fu fd) (h2 : VView w a2 m cap2 fk fn fs) (hn : n ≤ 1048576) (hm : m ≤ 1048576) (hs : ∀ i, i < m → (fs i).size ≤ 1048576) :
    Calls Try.prog 8 #[.slice a n cap, .slice a2 m cap2] w fun e w' => e = .returned (.bool (rowOk n fc ft fu m fk fn fs)) ∧ Below w.heap.size w w' := by
  have hF := fun W (hb : Below w.heap.size w W) => specFitsAll_any a n cap fc ft fu fd a2 m cap2 fk fn fs W (h.below hb) (h2.below hb) hn hm hs
  go_enter Try.func8, Try.ntmps8
  go_wp2_with fail
  refine (specPlanOk_any a n cap fc ft fu fd w h hn).mono ?_
  clear h h2
  cases hpk : planOk n fc ft with
  | false =>
    have HR : Hid (rowOk n fc ft fu m fk fn fs = false) := by show _ = _; unfold rowOk; rw [hpk]; rfl
    rintro e w1 ⟨rfl, hb⟩
    clear hF
    go_wp2
    go_ret
    exact ⟨by rw [HR.out]; rfl, hb⟩
  | true =>
    rintro e w1 ⟨rfl, hb⟩
    replace hF := hF w1 hb
    by_cases hmn : m = n
    · have hmz : (m : Int) = (n : Int) := by omega
      obtain ⟨o, ho⟩ : ∃ o, Hid (fitsAll n m ft fu fk fn fs = o) := ⟨_, rfl⟩
      have HR : Hid (rowOk n fc ft fu m fk fn fs = o) := by show _ = _; unfold rowOk; rw [hpk, decide_eq_true hmn, ho.out]; rfl
      rw [ho.out] at hF
      subst hmn
      go_wp2_with fail
      refine hF.mono ?_
      rintro e w2 ⟨rfl, hb2⟩
      have hB := hb.trans (hb2.mono hb.size)
      clear hF hb hb2
      go_wp2
      go_ret
      exact ⟨by rw [HR.out]; rfl, hB⟩
    · have hmz : ¬ (m : Int) = (n : Int) := by omega
      have HR : Hid (rowOk n fc ft fu m fk fn fs = false) := by show _ = _; unfold rowOk; rw [hpk, decide_eq_false hmn]; rfl
      clear hF
      go_wp2
      go_ret
      exact ⟨by rw [HR.out]; rfl, hb⟩
end Go.Proofs.Ytikopeihkbpjhas

/-
  The model's Crc comes to the plain sum, at every slice of bytes that reads.
-/
namespace Go.Proofs.Ytikopeihkbpjhas
open Go.RowKit
set_option maxRecDepth 4000

set_option maxHeartbeats 1000000 in
theorem crc_spec (ao : Option Addr) (n cap : Nat) (f : Nat → Int) (w : World) (hv : View w ao n cap f) (hn : n ≤ 281474976710656) :
    Calls Try.prog 56 #[.slice ao n cap] w fun e w' => e = .returned (.int .i64 ((crc n f : Nat) : Int)) ∧ w = w' := by
  go_enter Try.func56, Try.ntmps56
  go_wp2
  go_loopg [3, 4] n (fun g s i wr => w = wr ∧ ∃ k y : Nat, k ≤ n ∧ g = n - k ∧ s = .int .i64 (y : Int) ∧ i = .int .i64 k ∧ y < 4294967296 ∧ y = crcTo f k)
  case atStart => exact ⟨rfl, 0, 4294967295, by omega, rfl, rfl, rfl, by decide, rfl⟩
  case round =>
    obtain ⟨rfl, k, y, hk, rfl, rfl, rfl, hy, hyk⟩ := hrel
    have HY : Hid (y = crcTo f k) := hyk
    clear hyk
    by_cases hlt : k < n
    · obtain ⟨b, off, rfl, hb, hc⟩ := hv.cells (by omega)
      have hkz : (k : Int) < (n : Int) := by omega
      have hc1 := hc k hlt
      have hbk := hv.byte k hlt
      have q1 := i64_in y (f k) hy hbk
      have hlt2 := xorByte_lt hy hbk
      obtain ⟨hbk0, hbk1⟩ := hbk
      clear hc
      go_wp2
      clear q1 hc1
      go_loopg [3, 5] 8 (fun g s i wi => w = wi ∧ ∃ j z : Nat, j ≤ 8 ∧ g = 8 - j ∧ s = .int .i64 (z : Int) ∧ i = .int .i64 j ∧ z < 4294967296 ∧ z = crcBits j (y ^^^ (f k).toNat))
      case atStart => exact ⟨rfl, 0, y ^^^ (f k).toNat, by omega, rfl, rfl, rfl, hlt2, rfl⟩
      case round =>
        obtain ⟨rfl, j, z, hj, rfl, rfl, rfl, hz, hzj⟩ := hrel
        have HZ : Hid (z = crcBits j (y ^^^ (f k).toNat)) := hzj
        clear hzj
        by_cases hj8 : j < 8
        · have hjz : (j : Int) < 8 := by omega
          by_cases hodd : z % 2 = 1
          · have q1 : bits .and .i64 (z : Int) 1 = 1 := by rw [i64_and1 z (by omega), hodd]; rfl
            have q2 := i64_turn z hz
            have HO : Hid (z % 2 = 1) := hodd
            clear hodd
            go_wp2
            go_roundg (8 - (j + 1))
            case measure => omega
            case rel => exact ⟨rfl, j + 1, z / 2 ^^^ 2197175160, by omega, rfl, rfl, by go_num, Nat.xor_lt_two_pow (n := 32) (by omega) (by decide), by rw [← crcBit_odd z HO.out, HZ.out]; rfl⟩
          · have q1 : bits .and .i64 (z : Int) 1 = 0 := by rw [i64_and1 z (by omega), show z % 2 = 0 by omega]; rfl
            have HO : Hid (¬ z % 2 = 1) := hodd
            clear hodd
            go_wp2
            go_roundg (8 - (j + 1))
            case measure => omega
            case rel => exact ⟨rfl, j + 1, z / 2, by omega, rfl, by go_num, by go_num, by omega, by rw [← crcBit_even z HO.out, HZ.out]; rfl⟩
        · obtain rfl : j = 8 := by omega
          go_wp2
          go_roundg (n - (k + 1))
          case measure => omega
          case rel => exact ⟨rfl, k + 1, z, by omega, rfl, rfl, by go_num, hz, by rw [HZ.out, HY.out]; rfl⟩
    · obtain rfl : k = n := by omega
      have q1 := i64_last y hy
      go_wp2
      go_ret
      exact ⟨retInt (congrArg (fun z : Nat => ((z ^^^ 4294967295 : Nat) : Int)) HY.out), rfl⟩

theorem crc_spec' {c : Nat} (ao : Option Addr) (n cap : Nat) (f : Nat → Int) (w : World) (hg : Hid (crc n f = c)) (hv : View w ao n cap f) (hn : n ≤ 281474976710656) :
    Calls Try.prog 56 #[.slice ao n cap] w fun e w' => e = .returned (.int .i64 (c : Int)) ∧ w = w' := by
  have h := crc_spec ao n cap f w hv hn
  rw [hg.out] at h; exact h

end Go.Proofs.Ytikopeihkbpjhas

/-
  The model's GetSum: it answers as the program's.
-/
namespace Go.Proofs.Ytikopeihkbpjhas
open Go.RowKit
set_option maxRecDepth 4000

theorem i64_add_or (x y : Int) (h0 : 0 ≤ x) (h1 : x ≤ 16777215) (h2 : 0 ≤ y) (h3 : y ≤ 255) : bits .or .i64 (x * 256) y = x * 256 + y := by
  have e : bits .or .i64 (x * 256) y = bits .or .i64 y (x * 256) := by simp only [bits, BitVec.or_comm]
  rw [e, i64_or_add 8 y (x * 256) h2 (by show _ < (256 : Int); omega) (by omega) (by show _ % (256 : Int) = 0; omega) (by omega) (by decide)]
  omega

set_option maxHeartbeats 1000000 in
theorem getSum_spec_few (n : Nat) (f : Nat → Int) (hn : n < 4) : Gives 42 n f 0 false := by
  intro b cap w hv
  have hz : (n : Int) - 4 < 0 := by omega
  go_enter Try.func42, Try.ntmps42
  go_wp2
  go_ret2
  exact ⟨_, _, rfl, Nat.le_refl _, Nat.le_refl _, noRow _ _ _, (Below.refl _ _).alloc (Nat.le_refl _) _⟩

set_option maxRecDepth 100000 in
set_option maxHeartbeats 2000000 in
theorem getSum_spec_all (m : Nat) (f : Nat → Int) (hn : m + 4 ≤ 1048576) (hf : ∀ i, i < m + 4 → 0 ≤ f i ∧ f i ≤ 255) (N : Nat) (B : Bool) (hs : (last4 m f = (crc m f : Int) ∧ N = m ∧ B = true) ∨ (last4 m f ≠ (crc m f : Int) ∧ N = 0 ∧ B = false)) : Gives 42 (m + 4) f N B := by
  intro b cap w hv
  obtain ⟨i0, hi, hz0, hz1, hz2⟩ := info_parts Try.info5
  have hz : (0 : Int) ≤ (m : Int) := by omega
  have hcl : (m : Int) ≤ (cap : Int) := by have := hv.le; omega
  obtain ⟨b', off', e, hb, hc⟩ := hv.cells (by omega)
  simp only [Option.some.injEq, Addr.mk.injEq, and_true] at e
  obtain ⟨rfl, rfl⟩ := e
  have hc0 := hc m (by omega)
  have hc1 := hc (m + 1) (by omega)
  have hc2 := hc (m + 2) (by omega)
  have hc3 := hc (m + 3) (by omega)
  rw [Nat.zero_add] at hc0 hc1 hc2 hc3
  obtain ⟨b00, b01⟩ := hf m (by omega)
  obtain ⟨b10, b11⟩ := hf (m + 1) (by omega)
  obtain ⟨b20, b21⟩ := hf (m + 2) (by omega)
  obtain ⟨b30, b31⟩ := hf (m + 3) (by omega)
  have q0 : bits .or .i64 0 (f m) = f m := by have := i64_add_or 0 (f m) (by omega) (by omega) b00 b01; simpa using this
  have q1 := i64_add_or (f m) (f (m + 1)) b00 (by omega) b10 b11
  have q2 := i64_add_or (f m * 256 + f (m + 1)) (f (m + 2)) (by omega) (by omega) b20 b21
  have q3 := i64_add_or ((f m * 256 + f (m + 1)) * 256 + f (m + 2)) (f (m + 3)) (by omega) (by omega) b30 b31
  obtain ⟨c, hcc⟩ : ∃ c, Hid (crc m f = c) := ⟨_, rfl⟩
  rw [hcc.out] at hs
  unfold last4 at hs
  have hown0 := World.ownsRow_lit (base := w.heap.size) (e := 5) (size := 1) w #[] 0 (Nat.le_refl _) (Nat.zero_le _) rfl
  have hb0 : Below w.heap.size w (w.alloc (.cells #[] 5)) := (Below.refl _ _).alloc (Nat.le_refl _) _
  have hclc := cells_of_view ((hv.take (m := m) (by omega)).below hb0)
  have hsz : (w.alloc (.cells #[] 5)).heap.size = w.heap.size + 1 := by simp
  clear hc hf
  rcases hs with ⟨hs, rfl, rfl⟩ | ⟨hs, rfl, rfl⟩
  · have hne : (((f N * 256 + f (N + 1)) * 256 + f (N + 2)) * 256 + f (N + 3) != (c : Int)) = false := by simp [hs]
    have HS : Hid (((f N * 256 + f (N + 1)) * 256 + f (N + 2)) * 256 + f (N + 3) = (c : Int)) := hs
    clear hs
    go_enter Try.func42, Try.ntmps42
    go_wp2
    refine wp_loop_rounds 5 ?_
    rw [rounds_succ]
    go_wp2
    rw [rounds_succ]
    go_wp2
    rw [rounds_succ]
    go_wp2
    rw [rounds_succ]
    go_wp2
    rw [rounds_succ]
    go_wp2_with fail
    refine (crc_spec' _ N cap f w hcc (hv.take (by omega)) (by omega)).mono ?_
    rintro e _ ⟨rfl, rfl⟩
    go_wp2_with (at_builtin; go_must (refine wpList_append_own _ rfl (.tmp 35) (.tmp 38) 34 rfl w.heap.size 5 i0 (.int .u8 0) 1 1 Try.underlying34 hi hz0 hz1 hz2 rfl (by decide) (.slice (some ⟨w.heap.size, 0, none⟩) 0 0) 0 [] rfl hown0 ⟨b, 0, none⟩ N cap (bl (lof N f)) rfl (by rw [bl_len, lof_len]; omega) hclc (bl_one _) (by unfold maxLen; omega) (by omega) (by rw [hsz]; omega) ?_); intro v1 w1 hown1 hgr1 hnil)
    have hb1 : Below w.heap.size w w1 := hb0.grown hgr1 (by simp) (fun k hk => by simp only [Value.ownBlock, Option.some.injEq] at hk; omega)
    rw [Nat.zero_add, List.nil_append] at hown1
    obtain ⟨g, c', hv1, hg, hgc, hrow⟩ := row_of_own' hown1 (fun h => by have := hnil.1 h; simp at this)
    go_ret2
    rw [hv1]
    exact ⟨g, c', rfl, hg, hgc, hrow.congr (fun i hi => lof_get N f i hi), hb1⟩
  · have hne : (((f m * 256 + f (m + 1)) * 256 + f (m + 2)) * 256 + f (m + 3) != (c : Int)) = true := by simp [hs]
    clear hs
    go_enter Try.func42, Try.ntmps42
    go_wp2
    refine wp_loop_rounds 5 ?_
    rw [rounds_succ]
    go_wp2
    rw [rounds_succ]
    go_wp2
    rw [rounds_succ]
    go_wp2
    rw [rounds_succ]
    go_wp2
    rw [rounds_succ]
    go_wp2_with fail
    refine (crc_spec' _ m cap f w hcc (hv.take (by omega)) (by omega)).mono ?_
    rintro e _ ⟨rfl, rfl⟩
    go_wp2
    go_ret2
    exact ⟨_, _, rfl, Nat.le_refl _, Nat.le_refl _, noRow _ _ _, (Below.refl _ _).alloc (Nat.le_refl _) _⟩
end Go.Proofs.Ytikopeihkbpjhas

/-
  The model's DecodeRow: the values of a row, in a row of its own.
-/
namespace Go.Proofs.Ytikopeihkbpjhas
open Go.RowKit
set_option maxRecDepth 4000

theorem getSum_spec_is (N : Nat) (F : Nat → Int) (hN : N ≤ 1048576) (hb : ∀ i, i < N → 0 ≤ F i ∧ F i ≤ 255) : Gives 42 N F (sumN N F) (sumGood N F) := by
  by_cases h4 : N < 4
  · have e : sumGood N F = false := by unfold sumGood; simp; omega
    have e2 : sumN N F = 0 := by unfold sumN; rw [e]; rfl
    rw [e, e2]
    exact getSum_spec_few N F h4
  · obtain ⟨m, rfl⟩ : ∃ m, N = m + 4 := ⟨N - 4, by omega⟩
    refine getSum_spec_all m F hN hb _ _ ?_
    by_cases hc : last4 m F = (crc m F : Int)
    · have e : sumGood (m + 4) F = true := by unfold sumGood; simp [hc]
      exact .inl ⟨hc, by unfold sumN; rw [e]; simp, e⟩
    · have e : sumGood (m + 4) F = false := by unfold sumGood; simp [hc]
      exact .inr ⟨hc, by unfold sumN; rw [e]; rfl, e⟩

set_option linter.unusedSimpArgs false in
set_option maxHeartbeats 2000000 in
theorem specDecodeRow_any (a : Option Addr) (n cap : Nat) (fc ft : Nat → Int) (fu fd : Nat → Bool) (b N cb : Nat) (F : Nat → Int) (w : World) (h : PView w a n cap fc ft fu fd) (hv : View w (some ⟨b, 0, none⟩) N cb F) (hn : n ≤ 1048576) (hN : N ≤ 1048576) :
    Calls Try.prog 21 #[.slice a n cap, .slice (some ⟨b, 0, none⟩) N cb] w (DecsR w n N F fc ft fu) := by
  obtain ⟨i0, hi, hz0, hz1, hz2⟩ := infoVal3
  have none_ : ∀ (W : World), Below w.heap.size w W → decROk N F n fc ft fu = false → DecsR w n N F fc ft fu (.returned (.tuple #[.slice (some ⟨W.heap.size, 0, none⟩) 0 0, .bool false])) (W.alloc (.cells #[] 52)) := fun W hB e =>
    ⟨_, 0, by rw [e], by simp, by rw [e]; rfl, World.ownsRow_lit (base := w.heap.size) (e := 52) (size := 3) W #[] 0 hB.size (Nat.zero_le _) rfl, hB.alloc hB.size _⟩
  have Hnone : Hid (∀ (W : World), Below w.heap.size w W → decROk N F n fc ft fu = false → DecsR w n N F fc ft fu (.returned (.tuple #[.slice (some ⟨W.heap.size, 0, none⟩) 0 0, .bool false])) (W.alloc (.cells #[] 52))) := none_
  clear none_
  have hS := getSum_spec_is N F hN hv.byte b cb w hv
  have hFb : Hid (∀ i, i < N → 0 ≤ F i ∧ F i ≤ 255) := hv.byte
  cases hg : sumGood N F with
  | false =>
    have e0 : sumN N F = 0 := by unfold sumN; rw [hg]; rfl
    have HD : Hid (decROk N F n fc ft fu = false) := by show _ = _; unfold decROk; rw [hg]; rfl
    rw [hg, e0] at hS
    clear hv
    go_enter Try.func21, Try.ntmps21
    go_wp2_with fail
    refine hS.mono ?_
    rintro e w1 ⟨gx, cx, rfl, -, hcx, hx, hB1⟩
    have hvx := hx.view hcx (fun i hi => absurd hi (Nat.not_lt_zero _))
    have hu : Hid (getU 0 F 0 = (0, 0, false)) := getU_past 0 F 0 (Nat.le_refl _)
    clear hS hx
    go_wp2_with fail
    refine (getU_spec' _ 0 cx F 0 w1 hu hvx (by omega) (by omega)).mono ?_
    rintro e _ ⟨rfl, rfl⟩
    clear hvx hu
    go_wp2
    have HB2 : Hid (Below w.heap.size w (w1.alloc (.cells #[] 52))) := hB1.alloc hB1.size _
    obtain ⟨W2, hW2⟩ : ∃ W2, Hid (w1.alloc (.cells #[] 52) = W2) := ⟨_, rfl⟩
    rw [hW2.out] at HB2 ⊢
    go_loopg [12] 0 (fun q i wr => q = 0 ∧ i = .int .i64 0 ∧ wr = W2)
    case atStart => exact ⟨rfl, rfl, rfl⟩
    case round =>
      obtain ⟨-, rfl, rfl⟩ := hrel
      have HN := Hnone.out wr HB2.out HD.out
      have HN' : Hid (DecsR w n N F fc ft fu (.returned (.tuple #[.slice (some ⟨wr.heap.size, 0, none⟩) 0 0, .bool false])) (wr.alloc (.cells #[] 52))) := HN
      clear HN Hnone HB2
      go_wp2
      exact bodyPost_ret (v := .tuple #[.slice (some ⟨wr.heap.size, 0, none⟩) 0 0, .bool false]) (by simp [results, Try.results21, go_sem]) rfl HN'.out
  | true =>
    have e0 : sumN N F = N - 4 := by unfold sumN; rw [hg]; rfl
    rw [hg, e0] at hS
    have hN4 : 4 ≤ N := by unfold sumGood at hg; simp at hg; exact hg.1
    obtain ⟨M, hM⟩ : ∃ M, Hid (N - 4 = M) := ⟨_, rfl⟩
    have hMN : M ≤ N := by rw [← hM.out]; omega
    rw [hM.out] at hS
    have HD0 : Hid (decROk N F n fc ft fu = rowRd M F n fc ft fu) := by show _ = _; unfold decROk; rw [hg, hM.out]; rfl
    have hbM : Hid (∀ i, i < M → 0 ≤ F i ∧ F i ≤ 255) := fun i hi => hFb.out i (by omega)
    clear hv hg e0
    obtain ⟨cnt0, p0, ok, hu⟩ : ∃ a q ok, Hid (getU M F 0 = (a, q, ok)) := ⟨_, _, _, rfl⟩
    go_enter Try.func21, Try.ntmps21
    go_wp2_with fail
    refine hS.mono ?_
    rintro e w1 ⟨gx, cx, rfl, hgx, hcx, hx, hB1⟩
    have hvx := hx.view hcx hbM.out
    clear hS
    go_wp2_with fail
    refine (getU_spec' _ M cx F 0 w1 hu hvx (by omega) (by omega)).mono ?_
    rintro e _ ⟨rfl, rfl⟩
    cases ok with
    | false =>
      have HD : Hid (decROk N F n fc ft fu = false) := by show _ = _; rw [HD0.out]; unfold rowRd; rw [hu.out]; rfl
      clear hvx hu
      go_wp2
      have HB2 : Hid (Below w.heap.size w (w1.alloc (.cells #[] 52))) := hB1.alloc hB1.size _
      obtain ⟨W2, hW2⟩ : ∃ W2, Hid (w1.alloc (.cells #[] 52) = W2) := ⟨_, rfl⟩
      rw [hW2.out] at HB2 ⊢
      go_loopg [12] 0 (fun q i wr => q = 0 ∧ i = .int .i64 0 ∧ wr = W2)
      case atStart => exact ⟨rfl, rfl, rfl⟩
      case round =>
        obtain ⟨-, rfl, rfl⟩ := hrel
        have HN := Hnone.out wr HB2.out HD.out
        have HN' : Hid (DecsR w n N F fc ft fu (.returned (.tuple #[.slice (some ⟨wr.heap.size, 0, none⟩) 0 0, .bool false])) (wr.alloc (.cells #[] 52))) := HN
        clear HN Hnone HB2
        go_wp2
        exact bodyPost_ret (v := .tuple #[.slice (some ⟨wr.heap.size, 0, none⟩) 0 0, .bool false]) (by simp [results, Try.results21, go_sem]) rfl HN'.out
    | true =>
      have hubd := getU_bd hbM.out hu.out
      obtain ⟨CN, rfl⟩ : ∃ CN : Nat, cnt0 = CN := ⟨cnt0.toNat, by omega⟩
      have HC : Hid (rCnt M F = CN) := by show _ = _; unfold rCnt; rw [hu.out]; rfl
      have Hu2 : Hid ((getU M F 0).2.2 = true) := by show _ = _; rw [hu.out]
      have HQ0 : Hid (rQ M F 0 = some p0) := by show _ = _; rw [rQ, hu.out]
      have hO0 := World.ownsRow_lit (base := w.heap.size) (e := 52) (size := 3) w1 #[] 0 hB1.size (Nat.zero_le _) rfl
      have hb2 : Below w1.heap.size w1 (w1.alloc (.cells #[] 52)) := (Below.refl _ _).alloc (Nat.le_refl _) _
      have hB2 := hB1.trans (hb2.mono hB1.size)
      have hx2 := hx.belowAll hb2
      clear hvx hB1 hb2 hx
      go_wp2
      obtain ⟨W2, hW2⟩ : ∃ W2, Hid (w1.alloc (.cells #[] 52) = W2) := ⟨_, rfl⟩
      rw [hW2.out] at hO0 hB2 hx2 ⊢
      go_loopg [9, 11, 12] 8 (fun q at' o i wr => ∃ (k : Nat) (v : Value) (p : Int), k ≤ 7 ∧ k ≤ CN ∧ q = 8 - k ∧ at' = .int .i64 p ∧ v = o ∧ i = .int .i64 k ∧ v ≠ .slice none 0 0 ∧ rQ M F k = some p ∧ wr.ownsRow w.heap.size 52 3 v k (rowC (rK M F) (rN M F) (rS M F) k) ∧ Row 5 wr gx M F ∧ Below w.heap.size w wr)
      case atStart => exact ⟨0, _, p0, by omega, by omega, rfl, rfl, rfl, rfl, by simp, HQ0.out, hO0, hx2, hB2⟩
      case round =>
        clear hO0 hx2 hB2
        obtain ⟨k, bv, p, hk7, hkC, rfl, rfl, hbv, rfl, hne, hq, hown, hxr, hB⟩ := hrel
        subst hbv
        have Hne : Hid (bv ≠ .slice none 0 0) := hne
        have HQ : Hid (rQ M F k = some p) := hq
        have hpb := rQ_bd hbM.out Hu2.out hq
        clear hne hq
        by_cases hlt : k < CN ∧ k < 7
        · have hkz : (k : Int) < (CN : Int) := by omega
          have hk7z : (k : Int) < 7 := by omega
          obtain ⟨kk, y, s, q, ok, hgr⟩ : ∃ kk y s q ok, getR M F p = ⟨kk, y, s, q, ok⟩ := ⟨_, _, _, _, _, rfl⟩
          have hC := specL7Val_any gx 0 M cx F p wr (hxr.view hcx hbM.out) (by omega) (by omega)
          rw [hgr] at hC
          unfold gotRet at hC
          simp only at hC
          have hgG : rG M F k = ⟨kk, y, s, q, ok⟩ := by unfold rG; rw [HQ.out]; exact hgr
          have HK : Hid (rK M F k = kk ∧ rN M F k = y ∧ rS M F k = s) := by show _ ∧ _ ∧ _; unfold rK rN rS; rw [hgG]; exact ⟨rfl, rfl, rfl⟩
          have HQ2 : Hid (rQ M F (k + 1) = if ok then some q else none) := by show _ = _; rw [rQ, HQ.out]; show (if (getR M F p).ok = true then _ else _) = _; rw [hgr]
          clear hgr hgG
          go_wp2_with fail
          refine hC.mono ?_
          cases ok with
          | false =>
            rintro e w3 ⟨rfl, hb3⟩
            have HD : Hid (decROk N F n fc ft fu = false) := by
              show _ = _
              rw [HD0.out]
              unfold rowRd
              rw [HC.out]
              have e1 := rQ_none (HQ2.out.trans (if_neg (by simp))) (CN - (k + 1))
              rw [show k + 1 + (CN - (k + 1)) = CN by omega] at e1
              rw [e1]; simp
            have hB3 : Below w.heap.size w (w3.alloc (.cells #[.int .i64 kk, .int .i64 y, .string s] 52)) := (hB.trans (hb3.mono hB.size)).alloc (hB.trans (hb3.mono hB.size)).size _
            have HN := Hnone.out _ hB3 HD.out
            have HN' : Hid (DecsR w n N F fc ft fu (.returned (.tuple #[.slice (some ⟨(w3.alloc (.cells #[.int .i64 kk, .int .i64 y, .string s] 52)).heap.size, 0, none⟩) 0 0, .bool false])) ((w3.alloc (.cells #[.int .i64 kk, .int .i64 y, .string s] 52)).alloc (.cells #[] 52))) := HN
            clear HN Hnone hC hown hB3 hb3 hxr
            go_wp2
            refine bodyPost_ret (v := .tuple #[.slice (some ⟨w3.heap.size + 1, 0, none⟩) 0 0, .bool false]) (by simp [results, Try.results21, go_sem]) rfl ?_
            have := HN'.out
            rw [World.size_alloc] at this
            exact this
          | true =>
            rintro e w3 ⟨rfl, hb3⟩
            have hB3 := hB.trans (hb3.mono hB.size)
            have hba : Below w3.heap.size w3 (w3.alloc (.cells #[.int .i64 kk, .int .i64 y, .string s] 52)) := (Below.refl _ _).alloc (Nat.le_refl _) _
            have hV3 := Box.new w3 kk y s
            have hown4 := own_below3 (own_below3 hown hb3) hba
            have hB4 := hB3.trans (hba.mono hB3.size)
            have hx4 := (hxr.belowAll hb3).belowAll hba
            obtain ⟨W4, hW4⟩ : ∃ W4, Hid (w3.alloc (.cells #[.int .i64 kk, .int .i64 y, .string s] 52) = W4) := ⟨_, rfl⟩
            obtain ⟨A3, hA3⟩ : ∃ A3, Hid (w3.heap.size = A3) := ⟨_, rfl⟩
            rw [hW4.out] at hV3 hown4 hB4 hx4
            rw [hA3.out] at hV3
            obtain ⟨z0, z1, z2⟩ := hV3.cells
            have hcl := cells_one W4 kk y s
            have hs4 := hB4.size
            clear hown hb3 hba hC hB3 hB hxr
            go_wp2_with (first | rw [hW4.out, hA3.out] | (at_builtin; refine wpList_append_own _ rfl (.tmp 53) (.tmp 55) 29 rfl w.heap.size 52 i0 (.agg #[.int .i64 0, .int .i64 0, .string ⟨#[]⟩]) 3 32 Try.underlying29 hi hz0 hz1 hz2 rfl (by decide) bv _ _ rfl (own_below3 hown4 ((Below.refl _ _).alloc (Nat.le_refl _) _)) ⟨W4.heap.size, 0, none⟩ 1 1 [.int .i64 kk, .int .i64 y, .string s] rfl rfl hcl (one_cells _ _ _) (by unfold maxLen; omega) (by omega) (by simp; omega) ?_; intro v5 w5 hown5 hgr5 hnil5))
            have HO5 : Hid (w5.ownsRow w.heap.size 52 3 v5 (k + 1) (rowC (rK M F) (rN M F) (rS M F) (k + 1))) := by
              rw [rowC, HK.out.1, HK.out.2.1, HK.out.2.2]; exact hown5
            have HNE : Hid (v5 ≠ .slice none 0 0) := fun e => Hne.out (hnil5.1 e).1
            have hb5 : Below W4.heap.size W4 (W4.alloc (.cells #[.int .i64 kk, .int .i64 y, .string s] 52)) := (Below.refl _ _).alloc (Nat.le_refl _) _
            have HB5 : Hid (Below w.heap.size w w5) := (hB4.trans (hb5.mono hs4)).grown hgr5 (by have := (hB4.trans (hb5.mono hs4)).size; exact this) (fun j e => ((own_below3 hown4 hb5).lt j e).1)
            have HX5 : Hid (Row 5 w5 gx M F) := (hx4.belowAll hb5).of_block (hgr5.block gx (hx4.belowAll hb5).lt (Row.not_own (hx4.belowAll hb5) (by decide) (own_below3 hown4 hb5)))
            clear hown4 hown5 hgr5 hnil5 hcl hB4 hx4 hb5 hV3 z0 z1 z2
            go_wp2
            go_roundg (8 - (k + 1))
            case measure => omega
            case rel => exact ⟨k + 1, v5, q, by omega, by omega, rfl, rfl, rfl, by go_num, HNE.out, HQ2.out.trans (if_pos trivial), HO5.out, HX5.out, HB5.out⟩
        · have hloop : ¬ ((k : Int) < (CN : Int) ∧ (k : Int) < 7) := by omega
          by_cases hpM : p = (M : Int)
          · by_cases hkN : k = CN
            · subst hkN
              subst hpM
              obtain ⟨a5, c5, rfl, hvv, -⟩ := vview_of_own hown
              have hC := specRowOk_any a n cap fc ft fu fd a5 k c5 (rK M F) (rN M F) (rS M F) wr (h.below hB) hvv hn (by omega) (fun i hi => by have := rS_short hbM.out HQ.out i hi; omega)
              obtain ⟨o, ho⟩ : ∃ o, Hid (rowOk n fc ft fu k (rK M F) (rN M F) (rS M F) = o) := ⟨_, rfl⟩
              have HD : Hid (decROk N F n fc ft fu = o) := by
                show _ = _
                rw [HD0.out]
                unfold rowRd
                rw [Hu2.out, HC.out, HQ.out, ho.out, decide_eq_true ⟨hk7, rfl⟩]; rfl
              rw [ho.out] at hC
              have hk1 : ¬ (k : Int) < (k : Int) := by omega
              have HO : Hid (wr.ownsRow w.heap.size 52 3 (.slice a5 k c5) k (rowC (rK M F) (rN M F) (rS M F) k)) := hown
              clear hvv hown hxr
              go_wp2_with fail
              refine hC.mono ?_
              rintro e w4 ⟨rfl, hb4⟩
              have hB4 := hB.trans (hb4.mono hB.size)
              have HB4 : Hid (Below w.heap.size w w4) := hB4
              have HO4 : Hid (w4.ownsRow w.heap.size 52 3 (.slice a5 k c5) k (rowC (rK M F) (rN M F) (rS M F) k)) := own_below3 HO.out hb4
              clear hC hb4 hB4
              cases o with
              | true =>
                clear Hnone
                go_wp2
                refine bodyPost_ret (v := .tuple #[.slice a5 k c5, .bool true]) (by simp [results, Try.results21, go_sem]) rfl ?_
                exact ⟨_, k, by rw [HD.out], Hne.out, by rw [HD.out, hM.out, HC.out]; rfl, by rw [hM.out]; exact HO4.out, HB4.out⟩
              | false =>
                have HN := Hnone.out w4 HB4.out HD.out
                have HN' : Hid (DecsR w n N F fc ft fu (.returned (.tuple #[.slice (some ⟨w4.heap.size, 0, none⟩) 0 0, .bool false])) (w4.alloc (.cells #[] 52))) := HN
                clear HN Hnone
                go_wp2
                exact bodyPost_ret (v := .tuple #[.slice (some ⟨w4.heap.size, 0, none⟩) 0 0, .bool false]) (by simp [results, Try.results21, go_sem]) rfl HN'.out
            · have hCN : 7 < CN := by omega
              have hk7e : k = 7 := by omega
              have HD : Hid (decROk N F n fc ft fu = false) := by
                show _ = _
                rw [HD0.out]
                unfold rowRd
                rw [HC.out]
                have e1 : decide (CN ≤ 7 ∧ rQ M F CN = some (M : Int)) = false := by
                  apply decide_eq_false
                  rintro ⟨h1, h2⟩
                  omega
                rw [e1]; simp
              subst hk7e
              obtain ⟨a5, c5, rfl, -, -⟩ := vview_of_own hown
              have hc1 : (7 : Int) < (CN : Int) := by omega
              have hc2 : ¬ (CN : Int) = 7 := by omega
              have HB : Hid (Below w.heap.size w wr) := hB
              have HN := Hnone.out wr HB.out HD.out
              have HN' : Hid (DecsR w n N F fc ft fu (.returned (.tuple #[.slice (some ⟨wr.heap.size, 0, none⟩) 0 0, .bool false])) (wr.alloc (.cells #[] 52))) := HN
              clear HN Hnone hown hxr hB
              go_wp2
              exact bodyPost_ret (v := .tuple #[.slice (some ⟨wr.heap.size, 0, none⟩) 0 0, .bool false]) (by simp [results, Try.results21, go_sem]) rfl HN'.out
          · have hpz : ¬ p = (M : Int) := hpM
            have HD : Hid (decROk N F n fc ft fu = false) := by
              show _ = _
              rw [HD0.out]
              unfold rowRd
              rw [HC.out]
              have e1 : decide (CN ≤ 7 ∧ rQ M F CN = some (M : Int)) = false := by
                apply decide_eq_false
                rintro ⟨h1, h2⟩
                by_cases e : k = CN
                · rw [← e, HQ.out] at h2; exact hpM (Option.some.inj h2)
                · omega
              rw [e1]; simp
            have HB : Hid (Below w.heap.size w wr) := hB
            by_cases hkC2 : k < CN
            · have hkc : (k : Int) < (CN : Int) := by omega
              have hk7e : k = 7 := by omega
              subst hk7e
              have HN := Hnone.out wr HB.out HD.out
              have HN' : Hid (DecsR w n N F fc ft fu (.returned (.tuple #[.slice (some ⟨wr.heap.size, 0, none⟩) 0 0, .bool false])) (wr.alloc (.cells #[] 52))) := HN
              clear HN Hnone hown hxr hB
              go_wp2
              exact bodyPost_ret (v := .tuple #[.slice (some ⟨wr.heap.size, 0, none⟩) 0 0, .bool false]) (by simp [results, Try.results21, go_sem]) rfl HN'.out
            · have hkc : ¬ (k : Int) < (CN : Int) := by omega
              have HN := Hnone.out wr HB.out HD.out
              have HN' : Hid (DecsR w n N F fc ft fu (.returned (.tuple #[.slice (some ⟨wr.heap.size, 0, none⟩) 0 0, .bool false])) (wr.alloc (.cells #[] 52))) := HN
              clear HN Hnone hown hxr hB
              go_wp2
              exact bodyPost_ret (v := .tuple #[.slice (some ⟨wr.heap.size, 0, none⟩) 0 0, .bool false]) (by simp [results, Try.results21, go_sem]) rfl HN'.out
end Go.Proofs.Ytikopeihkbpjhas

/-
  Bytes behind which their sum stands, plainly: they are right; with one byte turned they are not.
-/
namespace Go.Proofs.Ytikopeihkbpjhas
open Go.RowKit
set_option maxRecDepth 4000

theorem sum_turned {m j : Nat} {F : Nat → Int} {v : Int} (hF : ∀ i, i < m + 4 → 0 ≤ F i ∧ F i ≤ 255) (hg : last4 m F = (crc m F : Int)) (hj : j < m + 4) (hv : 0 ≤ v ∧ v ≤ 255) (hne : v ≠ F j) :
    last4 m (fun i => if i = j then v else F i) ≠ (crc m (fun i => if i = j then v else F i) : Int) := by
  by_cases h : j < m
  · have hc : crc m (fun i => if i = j then v else F i) ≠ crc m F := by
      refine crc_parts (j := j) (fun i hi => ?_) (fun i hi => hF i (by omega)) h ?_ (fun i hi hij => ?_)
      · by_cases e : i = j
        · simp only [e, if_true]; exact hv
        · simp only [e, if_false]; exact hF i (by omega)
      · simp only [if_true]; exact hne
      · simp only [hij, if_false]
    have hl : last4 m (fun i => if i = j then v else F i) = last4 m F := by
      unfold last4
      dsimp only
      rw [if_neg (by omega), if_neg (by omega), if_neg (by omega), if_neg (by omega)]
    rw [hl, hg]
    intro e
    exact hc (by omega)
  · have hc : crc m (fun i => if i = j then v else F i) = crc m F := crc_congr (fun i hi => by rw [if_neg (by omega)])
    rw [hc, ← hg]
    have h0 := hF m (by omega)
    have h1 := hF (m + 1) (by omega)
    have h2 := hF (m + 2) (by omega)
    have h3 := hF (m + 3) (by omega)
    unfold last4
    dsimp only
    rcases (show j = m ∨ j = m + 1 ∨ j = m + 2 ∨ j = m + 3 by omega) with rfl | rfl | rfl | rfl
    · rw [if_pos rfl, if_neg (by omega), if_neg (by omega), if_neg (by omega)]; omega
    · rw [if_neg (by omega), if_pos rfl, if_neg (by omega), if_neg (by omega)]; omega
    · rw [if_neg (by omega), if_neg (by omega), if_pos rfl, if_neg (by omega)]; omega
    · rw [if_neg (by omega), if_neg (by omega), if_neg (by omega), if_pos rfl]; omega

/-- What PutSum lays is right. -/
theorem sum_put (m : Nat) (f : Nat → Int) (hf : ∀ i, i < m → 0 ≤ f i ∧ f i ≤ 255) : last4 m (fun i => (lof m f ++ sumL (crc m f)).getD i 0) = (crc m (fun i => (lof m f ++ sumL (crc m f)).getD i 0) : Int) := by
  have hl : ∀ i, i < m → (lof m f ++ sumL (crc m f)).getD i 0 = f i := by
    intro i hi
    rw [← lof_get m f i hi, List.getD_eq_getElem?_getD, List.getD_eq_getElem?_getD, List.getElem?_append_left (by rw [lof_len]; exact hi)]
  have hr : ∀ i, (lof m f ++ sumL (crc m f)).getD (m + i) 0 = (sumL (crc m f)).getD i 0 := by
    intro i
    rw [List.getD_eq_getElem?_getD, List.getD_eq_getElem?_getD, List.getElem?_append_right (by rw [lof_len]; omega), lof_len]
    congr 2
    omega
  have hc : crc m (fun i => (lof m f ++ sumL (crc m f)).getD i 0) = crc m f := crc_congr hl
  rw [hc]
  have hlt := crc_lt hf
  have r0 := hr 0
  have r1 := hr 1
  have r2 := hr 2
  have r3 := hr 3
  unfold last4
  dsimp only
  rw [Nat.add_zero] at r0
  rw [r0, r1, r2, r3]
  generalize crc m f = c at hlt
  show ((((c : Int) / 16777216 % 256) * 256 + (c : Int) / 65536 % 256) * 256 + (c : Int) / 256 % 256) * 256 + (c : Int) % 256 = (c : Int)
  omega

/-- A byte with one bit turned is another byte. -/
theorem bit_turned (x : Int) (k : Nat) (h : 0 ≤ x ∧ x ≤ 255) (hk : k < 8) : (0 ≤ bits .xor .u8 x (2 ^ k) ∧ bits .xor .u8 x (2 ^ k) ≤ 255) ∧ bits .xor .u8 x (2 ^ k) ≠ x := by
  obtain ⟨n, rfl⟩ := Int.eq_ofNat_of_zero_le h.1
  have hn : n < 256 := by omega
  have hp : 2 ^ k < 256 := Nat.lt_of_lt_of_le (Nat.pow_lt_pow_right (by decide) hk) (by decide)
  have e : bits .xor .u8 (n : Int) (2 ^ k) = ((n ^^^ 2 ^ k : Nat) : Int) := by
    have := u8_xor_nat n (2 ^ k) hn hp
    rw [← this]
    simp
  rw [e]
  have hlt : n ^^^ 2 ^ k < 256 := Nat.xor_lt_two_pow (n := 8) hn hp
  refine ⟨by omega, fun h => ?_⟩
  have h' : n ^^^ 2 ^ k = n := by omega
  have h2 := congrArg (fun z => z.testBit k) h'
  simp only [Nat.testBit_xor, Nat.testBit_two_pow_self, Bool.xor_true] at h2
  cases hb : n.testBit k <;> simp [hb] at h2

theorem small_pow (x : Nat) : (2 : Int) ^ min (x % 8) 8 % 256 = 2 ^ (x % 8) := by
  have hk : x % 8 < 8 := Nat.mod_lt _ (by decide)
  rw [Nat.min_eq_left (by omega)]
  rcases (show x % 8 = 0 ∨ x % 8 = 1 ∨ x % 8 = 2 ∨ x % 8 = 3 ∨ x % 8 = 4 ∨ x % 8 = 5 ∨ x % 8 = 6 ∨ x % 8 = 7 by omega) with h | h | h | h | h | h | h | h <;> rw [h] <;> rfl
end Go.Proofs.Ytikopeihkbpjhas

/-
  Right values, kind by kind.
-/
namespace Go.Proofs.Ytikopeihkbpjhas
open Go.RowKit
set_option maxRecDepth 4000

theorem okF_kinds {k n : Int} {s : ByteArray} (h : okF k n s = true) : (k = 0 ∧ n = 0 ∧ s = noBytes) ∨ (k = 1 ∧ (-2147483648 ≤ n ∧ n ≤ 2147483647) ∧ s = noBytes) ∨ (k = 2 ∧ (-1000000000000000 ≤ n ∧ n ≤ 1000000000000000) ∧ s = noBytes) ∨ (k = 3 ∧ n = 0 ∧ s.size ≤ 30) ∨ (k = 4 ∧ (0 ≤ n ∧ n ≤ 1) ∧ s = noBytes) := by
  by_cases h0 : k = 0
  · subst h0; rw [okF_spec0] at h; simp at h; exact .inl ⟨rfl, h⟩
  by_cases h1 : k = 1
  · subst h1; rw [okF_spec1] at h; simp at h; exact .inr (.inl ⟨rfl, h⟩)
  by_cases h2 : k = 2
  · subst h2; rw [okF_spec2] at h; simp at h; exact .inr (.inr (.inl ⟨rfl, h⟩))
  by_cases h3 : k = 3
  · subst h3; rw [okF_spec3] at h; simp at h; exact .inr (.inr (.inr (.inl ⟨rfl, h.2, h.1⟩)))
  by_cases h4 : k = 4
  · subst h4; rw [okF_spec4] at h; simp at h; exact .inr (.inr (.inr (.inr ⟨rfl, h⟩)))
  · rw [okF_specX n s h0 h1 h2 h3 h4] at h; cases h
end Go.Proofs.Ytikopeihkbpjhas

/-
  Rows come back of their bytes, plainly; what is read has these bytes; with one byte turned it is no row.
-/
namespace Go.Proofs.Ytikopeihkbpjhas
open Go.RowKit
set_option maxRecDepth 4000

theorem rowOk_iff {n : Nat} {fc ft : Nat → Int} {fu : Nat → Bool} {m : Nat} {fk fn : Nat → Int} {fs : Nat → ByteArray} : rowOk n fc ft fu m fk fn fs = true ↔ planOk n fc ft = true ∧ m = n ∧ fitsAll n m ft fu fk fn fs = true := by
  unfold rowOk; simp
theorem rowOk_congr {n : Nat} {fc ft : Nat → Int} {fu : Nat → Bool} {m : Nat} {fk fn : Nat → Int} {fs : Nat → ByteArray} {gk gn : Nat → Int} {gs : Nat → ByteArray} (h : ∀ i, i < m → fk i = gk i ∧ fn i = gn i ∧ fs i = gs i) : rowOk n fc ft fu m fk fn fs = rowOk n fc ft fu m gk gn gs := by
  rw [Bool.eq_iff_iff, rowOk_iff, rowOk_iff, fitsAll_iff, fitsAll_iff]
  constructor
  · rintro ⟨h1, h2, h3, h4⟩
    exact ⟨h1, h2, h3, fun i hi => by obtain ⟨e1, e2, e3⟩ := h i hi; rw [← e1, ← e2, ← e3]; exact h4 i hi⟩
  · rintro ⟨h1, h2, h3, h4⟩
    exact ⟨h1, h2, h3, fun i hi => by obtain ⟨e1, e2, e3⟩ := h i hi; rw [e1, e2, e3]; exact h4 i hi⟩
theorem sumB_len (R : List Int) : (sumB R).length = R.length + 4 := by unfold sumB; rw [List.length_append]; rfl
theorem sumB_byte {R : List Int} (h : ∀ y ∈ R, 0 ≤ y ∧ y ≤ 255) : ∀ y ∈ sumB R, 0 ≤ y ∧ y ≤ 255 := fun y hy => by
  unfold sumB at hy
  rcases List.mem_append.1 hy with hy | hy
  · exact h y hy
  · exact sumL_byte _ y hy
theorem sumB_good {R : List Int} (h : ∀ y ∈ R, 0 ≤ y ∧ y ≤ 255) : sumGood (sumB R).length (fun i => (sumB R).getD i 0) = true := by
  have e := sum_put R.length (fun i => R.getD i 0) (bytes_of_list h)
  rw [lof_self] at e
  unfold sumGood
  rw [sumB_len, show R.length + 4 - 4 = R.length by omega]
  apply decide_eq_true
  exact ⟨by omega, e⟩
theorem sumB_at (R : List Int) : AtF R.length (fun i => (sumB R).getD i 0) 0 R := ⟨by omega, fun j hj => by
  rw [Nat.zero_add]
  unfold sumB
  exact getD_left _ _ _ hj⟩

/-- The values of a row of which the bytes stand in F are read. -/
theorem rQ_at {M m : Nat} {F : Nat → Int} {fk fn : Nat → Int} {fs : Nat → ByteArray} (hm : m ≤ 6) (hok : ∀ i, i < m → okF (fk i) (fn i) (fs i) = true) (h : AtF M F 0 (rowB m fk fn fs)) :
    getU M F 0 = ((m : Int), ((groups (m : Int)).length : Int), true) ∧ ∀ k, k ≤ m → rQ M F k = some (((groups (m : Int)).length + (keyT (fun i => valB (fk i) (fn i) (fs i)) k).length : Nat) : Int) ∧ ∀ i, i < k → rG M F i = ⟨fk i, fn i, fs i, (((groups (m : Int)).length + (keyT (fun i => valB (fk i) (fn i) (fs i)) (i + 1)).length : Nat) : Int), true⟩ := by
  have hc : clampN (m : Int) = m := clampN_id (by omega) (by omega)
  unfold rowB at h
  rw [hc] at h
  have hu := getU_at (N := M) (F := F) (i := 0) (x := m) (by omega) (by omega) h.left
  have hr := h.right
  rw [Nat.zero_add] at hr
  have hu' : getU M F 0 = ((m : Int), ((groups (m : Int)).length : Int), true) := by
    have : ((0 : Nat) : Int) = (0 : Int) := rfl
    rw [this] at hu
    rw [hu]; simp
  refine ⟨hu', fun k => ?_⟩
  induction k with
  | zero => intro _; exact ⟨by rw [rQ, hu']; simp [keyT], fun i hi => absurd hi (Nat.not_lt_zero _)⟩
  | succ k ih =>
    intro hk
    obtain ⟨h1, h2⟩ := ih (by omega)
    have hsplit := keyT_split (fun i => valB (fk i) (fn i) (fs i)) k (m - k)
    rw [show k + (m - k) = m by omega] at hsplit
    rw [hsplit] at hr
    have hr2 := hr.right
    rw [show m - k = 1 + (m - k - 1) by omega, keyT_split] at hr2
    have hr3 := hr2.left
    have e1 : keyT (fun i => valB (fk (k + i)) (fn (k + i)) (fs (k + i))) 1 = valB (fk k) (fn k) (fs k) := by simp [keyT]
    rw [e1] at hr3
    have hg := getR_at (okF_kinds (hok k (by omega))) hr3
    have e2 : (((groups (m : Int)).length + (keyT (fun i => valB (fk i) (fn i) (fs i)) k).length : Nat) : Int) + ((valB (fk k) (fn k) (fs k)).length : Int) = (((groups (m : Int)).length + (keyT (fun i => valB (fk i) (fn i) (fs i)) (k + 1)).length : Nat) : Int) := by
      rw [keyT, List.length_append]; push_cast; omega
    rw [e2] at hg
    refine ⟨?_, fun i hi => ?_⟩
    · rw [rQ, h1]
      show (if (getR M F _).ok = true then _ else _) = _
      rw [hg]; rfl
    · by_cases e : i < k
      · exact h2 i e
      · obtain rfl : i = k := by omega
        unfold rG
        rw [h1]
        exact hg

/-- Rows come back. -/
theorem row_back {n : Nat} {fc ft : Nat → Int} {fu : Nat → Bool} {m : Nat} {fk fn : Nat → Int} {fs : Nat → ByteArray} (h : rowOk n fc ft fu m fk fn fs = true) (L : List Int) (hL : L = encB n fc ft fu m fk fn fs) :
    4 < L.length ∧ sumGood L.length (fun i => L.getD i 0) = true ∧ rowRd (L.length - 4) (fun i => L.getD i 0) n fc ft fu = true ∧ rCnt (L.length - 4) (fun i => L.getD i 0) = m ∧ ∀ i, i < m → rK (L.length - 4) (fun i => L.getD i 0) i = fk i ∧ rN (L.length - 4) (fun i => L.getD i 0) i = fn i ∧ rS (L.length - 4) (fun i => L.getD i 0) i = fs i := by
  have hL2 : L = sumB (rowB m fk fn fs) := by rw [hL]; unfold encB; rw [h]; rfl
  obtain ⟨hpk, hmn, hfa⟩ := rowOk_iff.1 h
  have hm6 : m ≤ 6 := by have := (planOk_iff.1 hpk).2; omega
  have hok : ∀ i, i < m → okF (fk i) (fn i) (fs i) = true := fun i hi => by have := (fitsAll_iff.1 hfa).2 i hi; unfold fitsP at this; simp only [Bool.and_eq_true] at this; exact this.1
  have hR := rowB_byte m fk fn fs
  have hgood := sumB_good hR
  have hat := sumB_at (rowB m fk fn fs)
  have hlen : L.length - 4 = (rowB m fk fn fs).length := by rw [hL2, sumB_len]; omega
  have hpos : 0 < (rowB m fk fn fs).length := by unfold rowB; rw [List.length_append]; have := (groups_len (clampN (m : Int))).1; omega
  rw [← hL2] at hgood hat
  rw [← hlen] at hat
  obtain ⟨hu, hq⟩ := rQ_at hm6 hok hat
  obtain ⟨hq1, hq2⟩ := hq m (Nat.le_refl _)
  have hcnt : rCnt (L.length - 4) (fun i => L.getD i 0) = m := by unfold rCnt; rw [hu]; simp
  have hvals : ∀ i, i < m → rK (L.length - 4) (fun i => L.getD i 0) i = fk i ∧ rN (L.length - 4) (fun i => L.getD i 0) i = fn i ∧ rS (L.length - 4) (fun i => L.getD i 0) i = fs i := fun i hi => by
    unfold rK rN rS; rw [hq2 i hi]; exact ⟨rfl, rfl, rfl⟩
  refine ⟨by rw [hL2, sumB_len]; omega, hgood, ?_, hcnt, hvals⟩
  unfold rowRd
  rw [hu, hcnt, hq1, rowOk_congr hvals, h]
  have e : (((groups (m : Int)).length + (keyT (fun i => valB (fk i) (fn i) (fs i)) m).length : Nat) : Int) = ((L.length - 4 : Nat) : Int) := by
    rw [hlen]; unfold rowB; rw [List.length_append, clampN_id (x := (m : Int)) (by omega) (by omega)]
  rw [e]
  simp; omega
/-- What is read of the first bytes. -/
theorem rQ_read {M : Nat} {F : Nat → Int} (hb : ∀ i, i < M → 0 ≤ F i ∧ F i ≤ 255) (h0 : (getU M F 0).2.2 = true) : ∀ {k : Nat} {p : Int}, rQ M F k = some p → AtF M F 0 (groups (getU M F 0).1 ++ keyT (fun i => valB (rK M F i) (rN M F i) (rS M F i)) k) ∧ p = ((groups (getU M F 0).1 ++ keyT (fun i => valB (rK M F i) (rN M F i) (rS M F i)) k).length : Int)
  | 0, p, h => by
    obtain ⟨a, q, ok, hu⟩ : ∃ a q ok, getU M F 0 = (a, q, ok) := ⟨_, _, _, rfl⟩
    rw [rQ] at h
    rw [hu] at h h0 ⊢
    simp only at h h0 ⊢
    subst h0
    obtain ⟨i, e, hA, hq, -, -⟩ := getU_read hb hu
    have ei : i = 0 := by omega
    subst ei
    have e2 := Option.some.inj h
    simp only [keyT, List.append_nil]
    exact ⟨hA, by omega⟩
  | k + 1, p, h => by
    obtain ⟨p', h1, h2, h3⟩ := rQ_succ h
    obtain ⟨hA, hp⟩ := rQ_read hb h0 h1
    have eg : rG M F k = getR M F p' := by unfold rG; rw [h1]; rfl
    obtain ⟨kk, y, s, q, ok, hg⟩ : ∃ kk y s q ok, getR M F p' = ⟨kk, y, s, q, ok⟩ := ⟨_, _, _, _, _, rfl⟩
    have ek : rK M F k = kk ∧ rN M F k = y ∧ rS M F k = s := by unfold rK rN rS; rw [eg, hg]; exact ⟨rfl, rfl, rfl⟩
    rw [hg] at h2 h3
    simp only at h2 h3
    subst h2 h3
    obtain ⟨i, ei, hV, hq, -, -⟩ := getR_read hb hg
    have ei2 : i = (groups (getU M F 0).1 ++ keyT (fun i => valB (rK M F i) (rN M F i) (rS M F i)) k).length := by omega
    rw [keyT, ← List.append_assoc, ek.1, ek.2.1, ek.2.2]
    refine ⟨hA.append ?_, ?_⟩
    · rw [Nat.zero_add, ← ei2]; exact hV
    · rw [List.length_append, ← ei2, hq]; push_cast; rfl
/-- What is read has these bytes. -/
theorem row_read {N : Nat} {F : Nat → Int} {n : Nat} {fc ft : Nat → Int} {fu : Nat → Bool} (hb : ∀ i, i < N → 0 ≤ F i ∧ F i ≤ 255) (hg : sumGood N F = true) (h : rowRd (N - 4) F n fc ft fu = true) :
    rowOk n fc ft fu (rCnt (N - 4) F) (rK (N - 4) F) (rN (N - 4) F) (rS (N - 4) F) = true ∧ encB n fc ft fu (rCnt (N - 4) F) (rK (N - 4) F) (rN (N - 4) F) (rS (N - 4) F) = lof N F := by
  unfold sumGood at hg
  simp only [decide_eq_true_eq] at hg
  obtain ⟨M, rfl⟩ : ∃ M, N = M + 4 := ⟨N - 4, by omega⟩
  rw [show M + 4 - 4 = M by omega] at *
  unfold rowRd at h
  simp only [Bool.and_eq_true, decide_eq_true_eq] at h
  obtain ⟨h0, ⟨h7, hq⟩, hr⟩ := h
  refine ⟨hr, ?_⟩
  unfold encB
  rw [hr]
  obtain ⟨hA, hp⟩ := rQ_read (fun i hi => hb i (by omega)) h0 hq
  have ec : clampN (rCnt M F : Int) = (getU M F 0).1 := by
    obtain ⟨a, q, ok, hu⟩ : ∃ a q ok, getU M F 0 = (a, q, ok) := ⟨_, _, _, rfl⟩
    unfold rCnt
    rw [hu] at h0 ⊢
    simp only at h0 ⊢
    subst h0
    have := getU_bd (fun i hi => hb i (by omega)) hu
    rw [Int.toNat_of_nonneg this.1]
    exact clampN_id this.1 this.2.1
  have eR : rowB (rCnt M F) (rK M F) (rN M F) (rS M F) = lof M F := by
    have e := hA.lof
    unfold rowB
    rw [ec]
    rw [← e]
    have el : (groups (getU M F 0).1 ++ keyT (fun i => valB (rK M F i) (rN M F i) (rS M F i)) (rCnt M F)).length = M := by omega
    rw [el]
    congr 1
    funext j
    rw [Nat.zero_add]
  show sumB _ = _
  rw [eR]
  unfold sumB
  have e3 : crc (lof M F).length (fun i => (lof M F).getD i 0) = crc M F := by
    rw [lof_len]
    exact crc_congr (fun i hi => lof_get M F i hi)
  rw [e3]
  exact (sum_iff hb (crc_lt (fun i hi => hb i (by omega)))).2 hg.2
end Go.Proofs.Ytikopeihkbpjhas

/-
  The program's getBit: a byte of 0 or 1 at a place.
-/
namespace Go.Proofs.Ytikopeihkbpjhas
open Go.RowKit
set_option maxRecDepth 4000

/-- A byte of 0 or 1 at a place. -/
def getB (n : Nat) (f : Nat → Int) (p : Int) : Int × Int × Bool := if p < 0 ∨ (n : Int) ≤ p ∨ 1 < f p.toNat then (0, 0, false) else (f p.toNat, p + 1, true)

set_option maxHeartbeats 1000000 in
theorem getBit_any {a q : Int} {ok : Bool} (b off n cap : Nat) (f : Nat → Int) (p : Int) (w : World) (hg : Hid (getB n f p = (a, q, ok))) (hv : View w (some ⟨b, off, none⟩) n cap f) (hn : n ≤ 70368744177664) (hp1 : p ≤ 9223372036854775807) :
    Calls Try.prog 67 #[.slice (some ⟨b, off, none⟩) n cap, .int .i64 p] w fun e w' => e = .returned (.tuple #[.int .i64 a, .int .i64 q, .bool ok]) ∧ Below w.heap.size w w' := by
  by_cases hp : p < 0
  · have e := hg.out
    unfold getB at e
    rw [if_pos (Or.inl hp)] at e
    obtain ⟨rfl, rfl, rfl⟩ : 0 = a ∧ 0 = q ∧ false = ok := by simpa using e
    clear hg e hv
    go_enter Try.func67, Try.ntmps67
    go_wp2
    exact bodyPost_ret (v := .tuple #[_, _, _]) (by simp [results, Try.results67, go_sem]) rfl ⟨rfl, Below.refl _ _⟩
  by_cases hq : (n : Int) ≤ p
  · have e := hg.out
    unfold getB at e
    rw [if_pos (Or.inr (Or.inl hq))] at e
    obtain ⟨rfl, rfl, rfl⟩ : 0 = a ∧ 0 = q ∧ false = ok := by simpa using e
    clear hg e hv
    go_enter Try.func67, Try.ntmps67
    go_wp2
    exact bodyPost_ret (v := .tuple #[_, _, _]) (by simp [results, Try.results67, go_sem]) rfl ⟨rfl, Below.refl _ _⟩
  obtain ⟨i, rfl⟩ : ∃ i : Nat, p = i := ⟨p.toNat, by omega⟩
  have hi : i < n := by omega
  obtain ⟨b', off', eb, -, hc⟩ := hv.cells (by omega)
  cases eb
  have hci := hc i hi
  have hby := hv.byte i hi
  obtain ⟨y, hy⟩ : ∃ y, y = f i := ⟨_, rfl⟩
  rw [← hy] at hci hby
  have e := hg.out
  unfold getB at e
  rw [Int.toNat_natCast, ← hy] at e
  clear hg hc hv hy
  by_cases h1 : 1 < y
  · rw [if_pos (Or.inr (Or.inr h1))] at e
    obtain ⟨rfl, rfl, rfl⟩ : 0 = a ∧ 0 = q ∧ false = ok := by simpa using e
    clear e
    go_enter Try.func67, Try.ntmps67
    go_wp2
    exact bodyPost_ret (v := .tuple #[_, _, _]) (by simp [results, Try.results67, go_sem]) rfl ⟨rfl, Below.refl _ _⟩
  · rw [if_neg (by omega)] at e
    obtain ⟨rfl, rfl, rfl⟩ : y = a ∧ (i : Int) + 1 = q ∧ true = ok := by simpa using e
    clear e
    go_enter Try.func67, Try.ntmps67
    go_wp2
    exact bodyPost_ret (v := .tuple #[_, _, _]) (by simp [results, Try.results67, go_sem]) rfl ⟨rfl, Below.refl _ _⟩

end Go.Proofs.Ytikopeihkbpjhas

/-
  A value of a row, as the program reads it: plainly.
-/
namespace Go.Proofs.Ytikopeihkbpjhas
open Go.RowKit
set_option maxRecDepth 4000

/-- What the program reads as a value of a row. -/
def getRI (N : Nat) (F : Nat → Int) (p : Int) : Got :=
  if (getU N F p).2.2 = false then ⟨0, 0, noBytes, p, false⟩
  else if (getU N F p).1 = 1 ∨ (getU N F p).1 = 2 then ⟨(getU N F p).1, (getV N F (getU N F p).2.1).1, noBytes, (getV N F (getU N F p).2.1).2.1, (getV N F (getU N F p).2.1).2.2⟩
  else if (getU N F p).1 = 3 then ⟨3, 0, (getText N F (getU N F p).2.1).1, (getText N F (getU N F p).2.1).2.1, (getText N F (getU N F p).2.1).2.2⟩
  else if (getU N F p).1 = 4 then ⟨4, (getB N F (getU N F p).2.1).1, noBytes, (getB N F (getU N F p).2.1).2.1, (getB N F (getU N F p).2.1).2.2⟩
  else ⟨(getU N F p).1, 0, noBytes, (getU N F p).2.1, true⟩

/-- What it reads is the value. -/
theorem getRI_yes {N : Nat} {F : Nat → Int} {p : Int} (h : (getRI N F p).ok = true) : getR N F p = getRI N F p := by
  unfold getRI getR at *
  by_cases c0 : (getU N F p).2.2 = false
  · rw [if_pos c0] at h; cases h
  rw [if_neg c0] at h ⊢
  have c0' : (getU N F p).2.2 = true := by simpa using c0
  by_cases c1 : (getU N F p).1 = 1 ∨ (getU N F p).1 = 2
  · rw [if_pos c1, if_pos c1, c0', Bool.true_and]
  rw [if_neg c1] at h ⊢
  rw [if_neg c1]
  by_cases c2 : (getU N F p).1 = 3
  · rw [if_pos c2, if_pos c2, c0', Bool.true_and]
  rw [if_neg c2] at h ⊢
  rw [if_neg c2]
  by_cases c3 : (getU N F p).1 = 4
  · rw [if_pos c3] at h ⊢
    rw [if_pos c3]
    simp only at h
    unfold getB at *
    by_cases c4 : (getU N F p).2.1 < 0 ∨ (N : Int) ≤ (getU N F p).2.1 ∨ 1 < F (getU N F p).2.1.toNat
    · rw [if_pos c4] at h; cases h
    · rw [if_neg c4, if_pos (by omega), c0']
  · rw [if_neg c3, if_neg c3, c0']
/-- What it does not read is no right value. -/
theorem getRI_no {N : Nat} {F : Nat → Int} {p : Int} (hb : ∀ i, i < N → 0 ≤ F i ∧ F i ≤ 255) (h : (getRI N F p).ok = false) : (getR N F p).ok = false ∨ okF (getR N F p).k (getR N F p).n (getR N F p).s = false := by
  unfold getRI at h
  by_cases c0 : (getU N F p).2.2 = false
  · left
    unfold getR
    rw [c0]
    by_cases c1 : (getU N F p).1 = 1 ∨ (getU N F p).1 = 2
    · rw [if_pos c1]; rfl
    rw [if_neg c1]
    by_cases c2 : (getU N F p).1 = 3
    · rw [if_pos c2]; rfl
    rw [if_neg c2]
    by_cases c3 : (getU N F p).1 = 4
    · rw [if_pos c3]; split <;> rfl
    rw [if_neg c3]
  rw [if_neg c0] at h
  have c0' : (getU N F p).2.2 = true := by simpa using c0
  obtain ⟨a, q, ok, hu⟩ : ∃ a q ok, getU N F p = (a, q, ok) := ⟨_, _, _, rfl⟩
  rw [hu] at c0' h
  simp only at c0' h
  subst c0'
  have hbd := getU_bd hb hu
  unfold getR
  rw [hu]
  simp only
  by_cases c1 : a = 1 ∨ a = 2
  · rw [if_pos c1] at h ⊢
    simp only at h ⊢
    left; rw [h]; rfl
  rw [if_neg c1] at h ⊢
  by_cases c2 : a = 3
  · rw [if_pos c2] at h ⊢
    simp only at h ⊢
    left; rw [h]; rfl
  rw [if_neg c2] at h ⊢
  by_cases c3 : a = 4
  · rw [if_pos c3] at h ⊢
    simp only at h
    unfold getB at h
    by_cases c4 : q < 0 ∨ (N : Int) ≤ q ∨ 1 < F q.toNat
    · by_cases c5 : q < N
      · rw [if_pos c5]
        right
        simp only
        have h1 : 1 < F q.toNat := by omega
        cases e : okF 4 (F q.toNat) noBytes with
        | false => rfl
        | true => have := okF_kinds e; omega
      · rw [if_neg c5]; left; rfl
    · rw [if_neg c4] at h; cases h
  · rw [if_neg c3] at h; cases h

/-- Where it reads no value there is no row. -/
theorem rowRd_no {M : Nat} {F : Nat → Int} {n : Nat} {fc ft : Nat → Int} {fu : Nat → Bool} {k : Nat} {p : Int} (hb : ∀ i, i < M → 0 ≤ F i ∧ F i ≤ 255) (hq : rQ M F k = some p) (hk : k < rCnt M F) (h : (getRI M F p).ok = false) : rowRd M F n fc ft fu = false := by
  cases e : rowRd M F n fc ft fu with
  | false => rfl
  | true =>
    exfalso
    unfold rowRd at e
    simp only [Bool.and_eq_true, decide_eq_true_eq] at e
    obtain ⟨-, ⟨-, e1⟩, e2⟩ := e
    rcases getRI_no hb h with h1 | h1
    · have h2 : rQ M F (k + 1) = none := by
        rw [rQ, hq]
        show (if (getR M F p).ok = true then _ else _) = _
        rw [h1]; rfl
      have h3 := rQ_none h2 (rCnt M F - (k + 1))
      rw [show k + 1 + (rCnt M F - (k + 1)) = rCnt M F by omega, e1] at h3
      cases h3
    · obtain ⟨-, -, h4⟩ := rowOk_iff.1 e2
      have h5 := (fitsAll_iff.1 h4).2 k hk
      unfold fitsP at h5
      simp only [Bool.and_eq_true] at h5
      have eg : rG M F k = getR M F p := by unfold rG; rw [hq]; rfl
      have h6 := h5.1
      unfold rK rN rS at h6
      rw [eg, h1] at h6
      cases h6

/-- A row is read just where it has these bytes. -/
theorem dec_eq {N : Nat} {F : Nat → Int} {n : Nat} {fc ft : Nat → Int} {fu : Nat → Bool} {p : Int} (hb : ∀ i, i < N → 0 ≤ F i ∧ F i ≤ 255) (hg : sumGood N F = true) (hu : (getU (N - 4) F 0).2.2 = true) (hc : rCnt (N - 4) F = n) (hq : rQ (N - 4) F n = some p) (hr : rowOk n fc ft fu n (rK (N - 4) F) (rN (N - 4) F) (rS (N - 4) F) = true) :
    (encB n fc ft fu n (rK (N - 4) F) (rN (N - 4) F) (rS (N - 4) F) = lof N F) ↔ rowRd (N - 4) F n fc ft fu = true := by
  have hn6 : n ≤ 6 := (planOk_iff.1 (rowOk_iff.1 hr).1).2
  constructor
  · intro h
    have h1 := congrArg List.length h
    unfold encB at h1
    rw [hr, lof_len] at h1
    simp only [if_true] at h1
    rw [sumB_len] at h1
    obtain ⟨hA, hp⟩ := rQ_read (fun i hi => hb i (by omega)) hu hq
    have ec : clampN (n : Int) = (getU (N - 4) F 0).1 := by
      obtain ⟨a, q, ok, hu2⟩ : ∃ a q ok, getU (N - 4) F 0 = (a, q, ok) := ⟨_, _, _, rfl⟩
      rw [← hc]
      unfold rCnt
      rw [hu2] at hu ⊢
      simp only at hu ⊢
      subst hu
      have := getU_bd (fun i hi => hb i (by omega)) hu2
      rw [Int.toNat_of_nonneg this.1]
      exact clampN_id this.1 this.2.1
    unfold rowB at h1
    rw [ec] at h1
    have hpM : p = ((N - 4 : Nat) : Int) := by omega
    unfold rowRd
    rw [hu, hc, hq, hr, hpM]
    simp; omega
  · intro h
    have := (row_read hb hg h).2
    rw [hc] at this
    exact this
end Go.Proofs.Ytikopeihkbpjhas

/-
  The program's GetVar: a number of the kept ones, at every slice of bytes that reads and at every place.
-/
namespace Go.Proofs.Ytikopeihkbpjhas
open Go.RowKit
set_option maxRecDepth 4000

set_option maxHeartbeats 1000000 in
theorem varCount_any (h : Int) (w : World) (h0 : 0 ≤ h) (h1 : h ≤ 255) :
    Calls Try.prog 77 #[.int .u8 h] w fun e w' => e = .returned (.int .i64 (hcnt h : Int)) ∧ w = w' := by
  by_cases hl : h < 128
  · have e : (hcnt h : Int) = 127 - h := by unfold hcnt; rw [if_pos hl]; omega
    rw [e]
    have hx : bits .xor .u8 IntKind.u8.max h = 255 - h := u8_not _ h0 h1
    obtain ⟨y, hy⟩ : ∃ y, 255 - h = y := ⟨_, rfl⟩
    have hy0 : 0 ≤ y := by omega
    have hy1 : y ≤ 255 := by omega
    rw [show 127 - h = y - 128 by omega]
    rw [hy] at hx
    clear hy e
    go_enter Try.func77, Try.ntmps77
    go_wp2
    go_ret
    refine ⟨?_, rfl⟩
    show Ending.returned (.int .i64 (wrap64 (wrap64 y - 128))) = _
    rw [show wrap64 (wrap64 y - 128) = y - 128 by unfold wrap64; omega]
  · have e : (hcnt h : Int) = h - 128 := by unfold hcnt; rw [if_neg hl]; omega
    rw [e]
    go_enter Try.func77, Try.ntmps77
    go_wp2
    go_ret
    exact ⟨rfl, rfl⟩

theorem view_first {w : World} {b off n cap : Nat} {f : Nat → Int} (h : View w (some ⟨b, off, none⟩) n cap f) (h0 : 0 < n) : w.cell? ⟨b, off, none⟩ = some (.int .u8 (f 0)) := by
  obtain ⟨b', off', e, _, hc⟩ := h.cells h0
  cases e
  exact hc 0 h0

set_option maxHeartbeats 1000000 in
theorem getVar_impl {a q : Int} {ok : Bool} (b off n cap : Nat) (f : Nat → Int) (p : Int) (w : World) (hg : Hid (getV n f p = (a, q, ok))) (hv : View w (some ⟨b, off, none⟩) n cap f) (hn : n ≤ 70368744177664) (hp1 : p ≤ 9223372036854775807) :
    Calls Try.prog 65 #[.slice (some ⟨b, off, none⟩) n cap, .int .i64 p] w fun e w' => e = .returned (.tuple #[.int .i64 a, .int .i64 q, .bool ok]) ∧ Below w.heap.size w w' := by
  by_cases hp : p < 0
  · have e := hg.out
    rw [getV_out n f p (Or.inl hp)] at e
    obtain ⟨rfl, rfl, rfl⟩ : 0 = a ∧ 0 = q ∧ false = ok := by simpa using e
    clear hg e
    go_enter Try.func65, Try.ntmps65
    go_wp2
    go_ret3
    exact ⟨rfl, Below.refl _ _⟩
  by_cases h4 : (n : Int) ≤ p
  · have e := hg.out
    rw [getV_out n f p (Or.inr h4)] at e
    obtain ⟨rfl, rfl, rfl⟩ : 0 = a ∧ 0 = q ∧ false = ok := by simpa using e
    clear hg e
    go_enter Try.func65, Try.ntmps65
    go_wp2
    go_ret3
    exact ⟨rfl, Below.refl _ _⟩
  obtain ⟨i, rfl⟩ := Int.eq_ofNat_of_zero_le (Int.not_lt.1 hp)
  have hin : i < n := by omega
  have hle := hv.le
  have hb0 := hv.byte i hin
  have hzi : (i : Int) < (n : Int) := by omega
  obtain ⟨b', off', e', hbl, hcs⟩ := hv.cells (by omega)
  cases e'
  have hci := hcs i hin
  clear hcs
  obtain ⟨c, hc⟩ : ∃ c, Hid (hcnt (f i) = c) := ⟨_, rfl⟩
  by_cases hf : 7 < c ∨ n < i + 1 + c
  · have e := hg.out
    rw [getV_few n f i hin (by rw [hc.out]; exact hf)] at e
    obtain ⟨rfl, rfl, rfl⟩ : 0 = a ∧ 0 = q ∧ false = ok := by simpa using e
    clear hg e
    go_enter Try.func65, Try.ntmps65
    go_wp2_with fail
    refine (varCount_any (f i) w hb0.1 hb0.2).mono ?_
    rw [hc.out]
    rintro e _ ⟨rfl, rfl⟩
    by_cases h7 : 7 < c
    · clear hf
      have hz : (7 : Int) < (c : Int) := by omega
      go_wp2
      go_ret3
      exact ⟨rfl, Below.refl _ _⟩
    · have hz : (c : Int) ≤ 7 := by omega
      have hz2 : (n : Int) - (i : Int) - 1 < (c : Int) := by omega
      clear hf
      go_wp2
      go_ret3
      exact ⟨rfl, Below.refl _ _⟩
  have hc7 : (c : Int) ≤ 7 := by omega
  have hzc : (c : Int) ≤ (n : Int) - (i : Int) - 1 := by omega
  have hzn : (i : Int) + 1 + (c : Int) ≤ (n : Int) := by omega
  have hzc2 : (i : Int) + 1 + (c : Int) ≤ (cap : Int) := by omega
  by_cases hlow : f i < 128
  · have HD : Hid (digF f i = turnF true (fun j => f (i + 1 + j))) := by show _ = _; unfold digF; rw [decide_eq_true hlow]
    go_enter Try.func65, Try.ntmps65
    go_wp2_with fail
    refine (varCount_any (f i) w hb0.1 hb0.2).mono ?_
    rw [hc.out]
    rintro e _ ⟨rfl, rfl⟩
    by_cases hc0 : c = 0
    · subst hc0
      have hV : View w (some ⟨b, off, none⟩) 0 0 (fun j => f (i + 1 + j)) := ⟨Nat.le_refl _, fun j hj => absurd hj (Nat.not_lt_zero _), fun h => absurd h (Nat.lt_irrefl _)⟩
      go_wp2_with fail
      refine (flip_impl b off 0 0 _ 0 w hV (by omega) (by omega)).mono ?_
      rintro e w1 ⟨g, cg, rfl, hgn, hgc, hr, hB⟩
      have hV1 := hr.view hgc (flipF_byte 0 hV.byte)
      replace hV1 : View w1 (some ⟨g, 0, none⟩) 0 cg (digF f i) := hV1.congr (fun j _ => by rw [HD.out]; unfold flipF; rw [if_pos (by omega)]; rfl)
      clear hr hV hgn
      go_wp2_with fail
      refine (numberOf_any _ 0 cg _ w1 hV1 (by omega)).mono ?_
      rintro e _ ⟨rfl, rfl⟩
      have hvb := valF7 0 (digF f i) (by omega) hV1.byte
      have hx : numV f i = -1 := by unfold numV; rw [if_pos hlow, hc.out]; rfl
      have hvz : valF 0 (digF f i) = 0 := rfl
      clear hV1 hvb
      have hbad : ¬ badV f i := by unfold badV; rw [hx, hc.out]; omega
      have e := hg.out
      rw [getV_is n f i hin (by rw [hc.out]; exact hf) hbad, hc.out, hx] at e
      obtain ⟨rfl, rfl, rfl⟩ : -1 = a ∧ (i : Int) + 1 = q ∧ true = ok := by
        simp only [Prod.mk.injEq] at e
        exact ⟨e.1, by omega, e.2.2⟩
      clear hg e
      go_wp2
      go_ret3
      exact ⟨rfl, hB⟩
    ·
      have hV := hv.part (k := i + 1) (m := c) (by omega) c (Nat.le_refl _)
      go_wp2_with fail
      refine (flip_impl b (off + (i + 1)) c c _ 0 w hV (by omega) (by omega)).mono ?_
      rintro e w1 ⟨g, cg, rfl, hgn, hgc, hr, hB⟩
      have hV1 := hr.view hgc (flipF_byte 0 hV.byte)
      replace hV1 : View w1 (some ⟨g, 0, none⟩) c cg (digF f i) := hV1.congr (fun j _ => by rw [HD.out]; unfold flipF; rw [if_pos (by omega)]; rfl)
      clear hr hV hgn
      go_wp2_with fail
      refine (numberOf_any _ c cg _ w1 hV1 (by omega)).mono ?_
      rintro e _ ⟨rfl, rfl⟩
      have hvb := valF7 c (digF f i) (by omega) hV1.byte
      have hx : numV f i = -1 - valF c (digF f i) := by unfold numV; rw [if_pos hlow, hc.out]
      have hcd := view_first hV1 (by omega)
      have hdb := hV1.byte 0 (by omega)
      have hc0z : (0 : Int) < (c : Int) := by omega
      generalize valF c (digF f i) = v at *
      clear hV1
      by_cases hd0 : digF f i 0 = 0
      · have hbad : badV f i := by unfold badV; rw [hc.out]; exact Or.inl ⟨by omega, hd0⟩
        rw [hd0] at hcd
        have e := hg.out
        rw [getV_bad n f i hin (by rw [hc.out]; exact hf) hbad] at e
        obtain ⟨rfl, rfl, rfl⟩ : 0 = a ∧ 0 = q ∧ false = ok := by simpa using e
        clear hg e
        go_wp2
        go_ret3
        exact ⟨rfl, hB⟩
      · have hq0 : (digF f i 0 == 0) = false := by simpa using hd0
        by_cases hr : -1 - v < -1000000000000000 ∨ 1000000000000000 < -1 - v
        · have hbad : badV f i := by unfold badV; rw [hx]; exact Or.inr hr
          rcases hr with hr | hr
          · have e := hg.out
            rw [getV_bad n f i hin (by rw [hc.out]; exact hf) hbad] at e
            obtain ⟨rfl, rfl, rfl⟩ : 0 = a ∧ 0 = q ∧ false = ok := by simpa using e
            clear hg e
            go_wp2
            go_ret3
            exact ⟨rfl, hB⟩
          · omega
        · have hbad : ¬ badV f i := by unfold badV; rw [hx, hc.out]; omega
          have hr1 : -1000000000000000 ≤ -1 - v := by omega
          have hr2 : -1 - v ≤ 1000000000000000 := by omega
          clear hr
          have e := hg.out
          rw [getV_is n f i hin (by rw [hc.out]; exact hf) hbad, hc.out] at e
          simp only [Prod.mk.injEq] at e
          obtain ⟨ea, rfl, rfl⟩ := e
          rw [hx] at ea
          subst ea
          clear hg
          go_wp2
          go_ret3
          exact ⟨rfl, hB⟩
  · have HD : Hid (digF f i = turnF false (fun j => f (i + 1 + j))) := by show _ = _; unfold digF; rw [decide_eq_false hlow]
    go_enter Try.func65, Try.ntmps65
    go_wp2_with fail
    refine (varCount_any (f i) w hb0.1 hb0.2).mono ?_
    rw [hc.out]
    rintro e _ ⟨rfl, rfl⟩
    by_cases hc0 : c = 0
    · subst hc0
      have hV : View w (some ⟨b, off, none⟩) 0 0 (fun j => f (i + 1 + j)) := ⟨Nat.le_refl _, fun j hj => absurd hj (Nat.not_lt_zero _), fun h => absurd h (Nat.lt_irrefl _)⟩
      have hB : Below w.heap.size w w := Below.refl _ _
      have hV1 : View w (some ⟨b, off, none⟩) 0 0 (digF f i) := hV.congr (fun j _ => by rw [HD.out]; rfl)
      clear hV
      go_wp2_with fail
      refine (numberOf_any _ 0 0 _ w hV1 (by omega)).mono ?_
      rintro e _ ⟨rfl, rfl⟩
      have hvb := valF7 0 (digF f i) (by omega) hV1.byte
      have hx : numV f i = 0 := by unfold numV; rw [if_neg (by omega), hc.out]; rfl
      have hvz : valF 0 (digF f i) = 0 := rfl
      clear hV1 hvb
      have hbad : ¬ badV f i := by unfold badV; rw [hx, hc.out]; omega
      have e := hg.out
      rw [getV_is n f i hin (by rw [hc.out]; exact hf) hbad, hc.out, hx] at e
      obtain ⟨rfl, rfl, rfl⟩ : 0 = a ∧ (i : Int) + 1 = q ∧ true = ok := by
        simp only [Prod.mk.injEq] at e
        exact ⟨e.1, by omega, e.2.2⟩
      clear hg e
      go_wp2
      go_ret3
      exact ⟨rfl, hB⟩
    ·
      have hV := hv.part (k := i + 1) (m := c) (by omega) c (Nat.le_refl _)
      have hB : Below w.heap.size w w := Below.refl _ _
      have hV1 : View w (some ⟨b, off + (i + 1), none⟩) c c (digF f i) := hV.congr (fun j _ => by rw [HD.out]; rfl)
      clear hV
      go_wp2_with fail
      refine (numberOf_any _ c c _ w hV1 (by omega)).mono ?_
      rintro e _ ⟨rfl, rfl⟩
      have hvb := valF7 c (digF f i) (by omega) hV1.byte
      have hx : numV f i = valF c (digF f i) := by unfold numV; rw [if_neg (by omega), hc.out]
      have hcd := view_first hV1 (by omega)
      have hdb := hV1.byte 0 (by omega)
      have hc0z : (0 : Int) < (c : Int) := by omega
      generalize valF c (digF f i) = v at *
      clear hV1
      by_cases hd0 : digF f i 0 = 0
      · have hbad : badV f i := by unfold badV; rw [hc.out]; exact Or.inl ⟨by omega, hd0⟩
        rw [hd0] at hcd
        have e := hg.out
        rw [getV_bad n f i hin (by rw [hc.out]; exact hf) hbad] at e
        obtain ⟨rfl, rfl, rfl⟩ : 0 = a ∧ 0 = q ∧ false = ok := by simpa using e
        clear hg e
        go_wp2
        go_ret3
        exact ⟨rfl, hB⟩
      · have hq0 : (digF f i 0 == 0) = false := by simpa using hd0
        by_cases hr : v < -1000000000000000 ∨ 1000000000000000 < v
        · have hbad : badV f i := by unfold badV; rw [hx]; exact Or.inr hr
          rcases hr with hr | hr
          · omega
          · have e := hg.out
            rw [getV_bad n f i hin (by rw [hc.out]; exact hf) hbad] at e
            obtain ⟨rfl, rfl, rfl⟩ : 0 = a ∧ 0 = q ∧ false = ok := by simpa using e
            clear hg e
            go_wp2
            go_ret3
            exact ⟨rfl, hB⟩
        · have hbad : ¬ badV f i := by unfold badV; rw [hx, hc.out]; omega
          have hr1 : -1000000000000000 ≤ v := by omega
          have hr2 : v ≤ 1000000000000000 := by omega
          clear hr
          have e := hg.out
          rw [getV_is n f i hin (by rw [hc.out]; exact hf) hbad, hc.out] at e
          simp only [Prod.mk.injEq] at e
          obtain ⟨ea, rfl, rfl⟩ := e
          rw [hx] at ea
          subst ea
          clear hg
          go_wp2
          go_ret3
          exact ⟨rfl, hB⟩
end Go.Proofs.Ytikopeihkbpjhas

/-
  The program's GetText: the bytes behind a number that says how many they are, as a text.
-/
namespace Go.Proofs.Ytikopeihkbpjhas
open Go.RowKit
set_option maxRecDepth 4000

theorem getU_impl' {a b : Int} {c : Bool} (ao : Option Addr) (n cap : Nat) (f : Nat → Int) (p : Int) (w : World) (hg : Hid (getU n f p = (a, b, c))) (hv : View w ao n cap f) (hn : n ≤ 281474976710656) (hp1 : p ≤ 9223372036854775807) :
    Calls Try.prog 46 #[.slice ao n cap, .int .i64 p] w fun e w' => e = .returned (.tuple #[.int .i64 a, .int .i64 b, .bool c]) ∧ w = w' := by
  refine (getU_impl ao n cap f p w hv hn hp1).mono ?_
  rintro e w' ⟨he, hw⟩
  rw [hg.out] at he
  exact ⟨he, hw.symm⟩

set_option maxHeartbeats 1000000 in
theorem getText_impl (b off n cap : Nat) (f : Nat → Int) (p : Int) (w : World) (s : ByteArray) (q : Int) (ok : Bool) (hg : Hid (getText n f p = (s, q, ok))) (hv : View w (some ⟨b, off, none⟩) n cap f) (hn : n ≤ 281474976710656) (hp1 : p ≤ 9223372036854775807) :
    Calls Try.prog 66 #[.slice (some ⟨b, off, none⟩) n cap, .int .i64 p] w fun e w' => e = .returned (.tuple #[.string s, .int .i64 q, .bool ok]) ∧ w = w' := by
  obtain ⟨a, r, c, hu⟩ : ∃ a r c, Hid (getU n f p = (a, r, c)) := ⟨_, _, _, rfl⟩
  have hbd : c = true → 0 ≤ a ∧ a ≤ 1000000 ∧ 0 ≤ r ∧ r ≤ n := by rintro rfl; exact getU_bd hv.byte hu.out
  have hT : getText n f p = if c = true ∧ a ≤ n - r then (strOfNums (lof a.toNat (fun i => f (r.toNat + i))), r + a, true) else (strOfNums [], 0, false) := by unfold getText; rw [hu.out]
  rw [hg.out] at hT
  cases c with
  | false =>
    rw [if_neg (by simp)] at hT
    cases hT
    clear hbd
    go_enter Try.func66, Try.ntmps66
    go_wp2_with fail
    refine (getU_impl' _ n cap f p w hu hv hn hp1).mono ?_
    rintro e _ ⟨rfl, rfl⟩
    go_wp2
    go_ret3
    exact ⟨rfl, rfl⟩
  | true =>
    obtain ⟨h0, h1, h2, h3⟩ := hbd rfl
    obtain ⟨a, rfl⟩ := Int.eq_ofNat_of_zero_le h0
    obtain ⟨r, rfl⟩ := Int.eq_ofNat_of_zero_le h2
    clear hbd
    by_cases hl : (a : Int) ≤ n - r
    · rw [if_pos ⟨rfl, hl⟩, Int.toNat_natCast, Int.toNat_natCast] at hT
      simp only [Prod.mk.injEq] at hT
      obtain ⟨rfl, rfl, rfl⟩ := hT
      have hle := hv.le
      have hcap : (r : Int) + a ≤ cap := by omega
      by_cases hrc : r < cap
      · have hrz : (r : Int) < cap := by omega
        have q1 : (convert 34 9 (.slice (some ⟨b, off + r, none⟩) a (cap - r))).run Try.prog w = .ok (.string (strOfNums (lof a (fun i => f (r + i))))) w := conv_view (hv.cut (by omega))
        go_enter Try.func66, Try.ntmps66
        go_wp2_with fail
        refine (getU_impl' _ n cap f p w hu hv hn hp1).mono ?_
        rintro e _ ⟨rfl, rfl⟩
        go_wp2
        go_ret3
        exact ⟨rfl, rfl⟩
      · obtain rfl : r = cap := by omega
        obtain rfl : a = 0 := by omega
        have hrz : ¬ (r : Int) < r := by omega
        have q2 : (convert 34 9 (.slice (some ⟨b, off, none⟩) 0 0)).run Try.prog w = .ok (.string (strOfNums (lof 0 f))) w := conv_view ⟨Nat.le_refl _, fun _ h => absurd h (Nat.not_lt_zero _), fun h => absurd h (Nat.lt_irrefl _)⟩
        go_enter Try.func66, Try.ntmps66
        go_wp2_with fail
        refine (getU_impl' _ n r f p w hu hv hn hp1).mono ?_
        rintro e _ ⟨rfl, rfl⟩
        go_wp2
        go_ret3
        exact ⟨retT rfl (by omega) rfl, rfl⟩
    · rw [if_neg (by simp [hl])] at hT
      cases hT
      have hl2 : (n : Int) - r < a := by omega
      go_enter Try.func66, Try.ntmps66
      go_wp2_with fail
      refine (getU_impl' _ n cap f p w hu hv hn hp1).mono ?_
      rintro e _ ⟨rfl, rfl⟩
      go_wp2
      go_ret3
      exact ⟨rfl, rfl⟩

end Go.Proofs.Ytikopeihkbpjhas

/-
  What turns but one block: how it is carried.
-/
namespace Go.Proofs.Ytikopeihkbpjhas
open Go.RowKit
set_option maxRecDepth 4000

/-- Of what was there block g alone may have turned. -/
structure But (g : Nat) (w w' : World) : Prop where
  os : w'.os = w.os
  tape : w'.tape = w.tape
  output : w'.output = w.output
  size : w.heap.size ≤ w'.heap.size
  block : ∀ k, k < w.heap.size → k ≠ g → w'.heap[k]? = w.heap[k]?

theorem But.refl (g : Nat) (w : World) : But g w w := ⟨rfl, rfl, rfl, Nat.le_refl _, fun _ _ _ => rfl⟩
theorem But.trans {g : Nat} {a b c : World} (h : But g a b) (k : But g b c) : But g a c :=
  ⟨k.os.trans h.os, k.tape.trans h.tape, k.output.trans h.output, Nat.le_trans h.size k.size, fun i hi hg => (k.block i (Nat.lt_of_lt_of_le hi h.size) hg).trans (h.block i hi hg)⟩
theorem But.ofOnly {g : Nat} {w w' : World} (h : Only g w w') : But g w w' := ⟨h.os, h.tape, h.output, by rw [h.size]; exact Nat.le_refl _, fun k _ hk => h.block k hk⟩
theorem But.ofBelow {g : Nat} {w w' : World} (h : Below w.heap.size w w') : But g w w' := ⟨h.os, h.tape, h.output, h.size, fun k hk _ => h.block k hk⟩
theorem But.below {g B : Nat} {w w' : World} (h : But g w w') (hB : B ≤ g) (hs : B ≤ w.heap.size) : Below B w w' := ⟨h.os, h.tape, h.output, h.size, fun k hk => h.block k (by omega) (by omega)⟩
theorem But.row {t : TypeId} {g b n : Nat} {f : Nat → Int} {w w' : World} (h : But g w w') (hr : Row t w b n f) (hne : b ≠ g) : Row t w' b n f := hr.of_block (h.block b hr.lt hne)
theorem But.view {g : Nat} {ao : Option Addr} {n cap : Nat} {f : Nat → Int} {w w' : World} (h : But g w w') (hv : View w ao n cap f) (hne : ∀ a, ao = some a → 0 < n → a.block ≠ g) : View w' ao n cap f := by
  refine ⟨hv.le, hv.byte, fun hn => ?_⟩
  obtain ⟨b', off, e, hlt, hc⟩ := hv.cells hn
  refine ⟨b', off, e, Nat.lt_of_lt_of_le hlt h.size, fun i hi => ?_⟩
  rw [World.cell?_of_block (w := w) (h.block b' hlt (hne _ e hn))]
  exact hc i hi
theorem Only.grown {g : Nat} {w w' : World} (h : Only g w w') : w.grownBy w' (some g) :=
  ⟨h.os, h.tape, h.output, by rw [h.size]; exact Nat.le_refl _, fun k _ hk => h.block k (fun e => hk (by rw [e]))⟩
theorem But.grown {g : Nat} {w w' : World} (h : But g w w') : w.grownBy w' (some g) := ⟨h.os, h.tape, h.output, h.size, fun k hk hne => h.block k hk (fun e => hne (by rw [e]))⟩
end Go.Proofs.Ytikopeihkbpjhas

