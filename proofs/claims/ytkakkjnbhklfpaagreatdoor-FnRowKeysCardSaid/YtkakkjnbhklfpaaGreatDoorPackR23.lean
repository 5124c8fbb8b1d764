/-
  Together: KeyEncSpec, KeyPickSpec, RowOkSpec, KeySpec11, SpecKey11
-/
import Derived.Test.YtkakkjnbhklfpaaGreatDoorPackR20
import Derived.Test.YtkakkjnbhklfpaaGreatDoorPackR13
import Derived.Test.YtkakkjnbhklfpaaGreatDoorPackR22
import Derived.Test.YtkakkjnbhklfpaaGreatDoorPackR6
import Derived.Test.YtkakkjnbhklfpaaGreatDoorPackR4
import Derived.Test.YtkakkjnbhklfpaaGreatDoorPackR21
import Derived.Deep.LoopGhost
import Derived.Test.YtkakkjnbhklfpaaGreatDoorPackR19
import Derived.Test.YtkakkjnbhklfpaaGreatDoorPackR2
import Derived.Test.YtkakkjnbhklfpaaGreatDoorPackR15
/-
  The model's EncodeKey: the bytes of a key, in memory of its own.
-/
namespace Go.Proofs.YtkakkjnbhklfpaaGreatDoor
open Go.RowKit
set_option maxRecDepth 4000

theorem okF_bd {k n : Int} {s : ByteArray} (h : okF k n s = true) : -9223372036854775808 ≤ n ∧ n ≤ 9223372036854775807 := by
  by_cases h0 : k = 0
  · subst h0; rw [okF_spec0] at h; simp at h; omega
  by_cases h1 : k = 1
  · subst h1; rw [okF_spec1] at h; simp at h; omega
  by_cases h2 : k = 2
  · subst h2; rw [okF_spec2] at h; simp at h; omega
  by_cases h3 : k = 3
  · subst h3; rw [okF_spec3] at h; simp at h; omega
  by_cases h4 : k = 4
  · subst h4; rw [okF_spec4] at h; simp at h; omega
  · rw [okF_specX n s h0 h1 h2 h3 h4] at h; cases h

set_option linter.unusedSimpArgs false in
set_option maxHeartbeats 4000000 in
theorem specEncodeKey_any (a : Option Addr) (n cap : Nat) (fc ft : Nat → Int) (fu fd : Nat → Bool) (a2 : Option Addr) (m cap2 : Nat) (fk fn : Nat → Int) (fs : Nat → ByteArray) (w : World) (h : PView w a n cap fc ft fu fd) (h2 : VView w a2 m cap2 fk fn fs) (hn : n ≤ 1048576) (hm : m ≤ 1048576) (hs : ∀ i, i < m → (fs i).size ≤ 1048576) :
    Calls Tryz.prog 76 #[.slice a n cap, .slice a2 m cap2] w fun e w' => ∃ g cg, e = .returned (.slice (some ⟨g, 0, none⟩) (keyL n fc ft fu fd m fk fn fs).length cg) ∧ EncTo w w' g cg (keyL n fc ft fu fd m fk fn fs) := by
  have hR0 : EncTo w (w.alloc (.cells #[] 5)) w.heap.size 0 [] := ⟨Row.none w _ _, Nat.le_refl _, Nat.le_refl _, (Below.refl _ _).alloc (Nat.le_refl _) _⟩
  cases hpk : planOk n fc ft with
  | false =>
    have e : keyL n fc ft fu fd m fk fn fs = [] := by unfold keyL; rw [hpk]; rfl
    rw [e]
    clear e
    go_enter Tryz.func76, Tryz.ntmps76
    go_wp2_with fail
    refine (specPlanOk_any a n cap fc ft fu fd _ (h.below hR0.below) hn).mono ?_
    rw [hpk]
    rintro e w1 ⟨rfl, hb⟩
    have hR1 : EncTo w w1 w.heap.size 0 [] := ⟨hR0.row.belowAll hb, hR0.new, hR0.le, hR0.below.trans (hb.mono hR0.below.size)⟩
    clear hR0 hb
    go_wp2
    go_ret
    exact ⟨_, _, rfl, hR1⟩
  | true =>
    cases hft : fitsAll n m ft fu fk fn fs with
    | false =>
      have e : keyL n fc ft fu fd m fk fn fs = [] := by unfold keyL; rw [hpk, hft]; rfl
      rw [e]
      clear e
      go_enter Tryz.func76, Tryz.ntmps76
      go_wp2_with fail
      refine (specPlanOk_any a n cap fc ft fu fd _ (h.below hR0.below) hn).mono ?_
      rw [hpk]
      rintro e w1 ⟨rfl, hb⟩
      have hR1 : EncTo w w1 w.heap.size 0 [] := ⟨hR0.row.belowAll hb, hR0.new, hR0.le, hR0.below.trans (hb.mono hR0.below.size)⟩
      clear hR0 hb
      go_wp2_with fail
      refine (specFitsAll_any a n cap fc ft fu fd a2 m cap2 fk fn fs _ (h.below hR1.below) (h2.below hR1.below) hn hm hs).mono ?_
      rw [hft]
      rintro e w2 ⟨rfl, hb⟩
      have hR2 : EncTo w w2 w.heap.size 0 [] := ⟨hR1.row.belowAll hb, hR1.new, hR1.le, hR1.below.trans (hb.mono hR1.below.size)⟩
      clear hR1 hb
      go_wp2
      go_ret
      exact ⟨_, _, rfl, hR2⟩
    | true =>
      have HK : Hid (keyL n fc ft fu fd m fk fn fs = keyT (onePL fc ft fu fd fk fn fs) m) := by show _ = _; unfold keyL; rw [hpk, hft]; rfl
      rw [HK.out]
      have hP := (planOk_iff.1 hpk).1
      have hn6 := (planOk_iff.1 hpk).2
      have hF := (fitsAll_iff.1 hft).2
      have hmn := (fitsAll_iff.1 hft).1
      go_enter Tryz.func76, Tryz.ntmps76
      go_wp2_with fail
      refine (specPlanOk_any a n cap fc ft fu fd _ (h.below hR0.below) hn).mono ?_
      rw [hpk]
      rintro e w1 ⟨rfl, hb⟩
      have hR1 : EncTo w w1 w.heap.size 0 [] := ⟨hR0.row.belowAll hb, hR0.new, hR0.le, hR0.below.trans (hb.mono hR0.below.size)⟩
      clear hR0 hb
      go_wp2_with fail
      refine (specFitsAll_any a n cap fc ft fu fd a2 m cap2 fk fn fs _ (h.below hR1.below) (h2.below hR1.below) hn hm hs).mono ?_
      rw [hft]
      rintro e w2 ⟨rfl, hb⟩
      have hR2 : EncTo w w2 w.heap.size 0 [] := ⟨hR1.row.belowAll hb, hR1.new, hR1.le, hR1.below.trans (hb.mono hR1.below.size)⟩
      have HP : Hid (∀ i, i < n → partOk (fc i) (ft i) = true) := hP
      have HF : Hid (∀ i, i < m → fitsP (ft i) (fu i) (fk i) (fn i) (fs i) = true) := hF
      clear hR1 hb hP hF hpk hft hs
      go_wp2
      go_loopg [5, 6] m (fun q bv i wr => ∃ (k g cg : Nat), k ≤ m ∧ q = m - k ∧ bv = .slice (some ⟨g, 0, none⟩) (keyT (onePL fc ft fu fd fk fn fs) k).length cg ∧ i = .int .i64 k ∧ EncTo w wr g cg (keyT (onePL fc ft fu fd fk fn fs) k))
      case atStart => exact ⟨0, w.heap.size, 0, Nat.zero_le _, rfl, rfl, rfl, hR2⟩
      case round =>
        obtain ⟨k, g, cg, hk, rfl, rfl, rfl, hE⟩ := hrel
        have hB := hE.below
        by_cases hlt : k < m
        · obtain ⟨b1, o1, rfl, hb1, hd1⟩ := (h.below hB).cells (by omega)
          obtain ⟨b2, o2, rfl, hb2, hd2⟩ := (h2.below hB).cells (by omega)
          obtain ⟨x0, x1, x2, x3⟩ := hd1 k (by omega)
          obtain ⟨y0, y1, y2⟩ := hd2 k hlt
          have hkz : (k : Int) < (m : Int) := by omega
          have hkn : (k : Int) < (n : Int) := by omega
          have hfk := HF.out k hlt
          have hlen := keyT_len (g := onePL fc ft fu fd fk fn fs) (k := k) (fun i hi => onePL_len fc fd (HF.out i (by omega)))
          have hs30 : (fs k).size ≤ 30 := by unfold fitsP at hfk; simp only [Bool.and_eq_true] at hfk; exact okF_few hfk.1
          have hx9 : -9223372036854775808 ≤ fn k ∧ fn k ≤ 9223372036854775807 := by unfold fitsP at hfk; simp only [Bool.and_eq_true] at hfk; exact okF_bd hfk.1
          have HYB : Hid (∀ y ∈ keyT (onePL fc ft fu fd fk fn fs) k, 0 ≤ y ∧ y ≤ 255) := keyT_byte (fun i _ => putPL_byte _ _ _ _ _ _ _)
          have HO : Hid (onePL fc ft fu fd fk fn fs k = putPL (fc k) (ft k) (fu k) (fd k) (fk k) (fn k) (fs k)) := rfl
          have HS : Hid (keyT (onePL fc ft fu fd fk fn fs) (k + 1) = keyT (onePL fc ft fu fd fk fn fs) k ++ onePL fc ft fu fd fk fn fs k) := rfl
          obtain ⟨L, hL⟩ : ∃ L, Hid (keyT (onePL fc ft fu fd fk fn fs) k = L) := ⟨_, rfl⟩
          obtain ⟨L2, hL2⟩ : ∃ L2, Hid (onePL fc ft fu fd fk fn fs k = L2) := ⟨_, rfl⟩
          rw [hL.out] at hE hlen HYB HS ⊢
          rw [hL2.out] at HO HS
          have hF := fun W (hr : Row 5 W g L.length (fun i => L.getD i 0)) => putPart_own g 0 L.length cg (fun i => L.getD i 0) (fc k) (ft k) (fu k) (fd k) (fk k) (fn k) (fs k) W (hr.view hE.le (fun i hi => HYB.out _ (getD_in hi))) (by omega) hx9 (by omega)
          rw [← HO.out, lof_self] at hF
          clear hd1 hd2 h h2 hfk HO
          obtain ⟨p0, hp0⟩ : ∃ p, Hid (fc k = p) := ⟨_, rfl⟩
          obtain ⟨p1, hp1⟩ : ∃ p, Hid (ft k = p) := ⟨_, rfl⟩
          obtain ⟨p2, hp2⟩ : ∃ p, Hid (fu k = p) := ⟨_, rfl⟩
          obtain ⟨p3, hp3⟩ : ∃ p, Hid (fd k = p) := ⟨_, rfl⟩
          obtain ⟨q0, hq0⟩ : ∃ p, Hid (fk k = p) := ⟨_, rfl⟩
          obtain ⟨q1, hq1⟩ : ∃ p, Hid (fn k = p) := ⟨_, rfl⟩
          obtain ⟨q2, hq2⟩ : ∃ p, Hid (fs k = p) := ⟨_, rfl⟩
          rw [hp0.out] at x0 hF
          rw [hp1.out] at x1 hF
          rw [hp2.out] at x2 hF
          rw [hp3.out] at x3 hF
          rw [hq0.out] at y0 hF
          rw [hq1.out] at y1 hF hx9
          rw [hq2.out] at y2 hF hs30
          have hrow := hE.row
          have hBw : Below wr.heap.size wr wr.drew := (Below.refl _ _).drew
          go_wp2_with fail
          refine wp_region_held_drew (S := fun W => (W.cell? ⟨b1, o1 + k * 4, none⟩ = some (.int .i64 p0) ∧ W.cell? ⟨b1, o1 + k * 4 + 1, none⟩ = some (.int .i64 p1) ∧ W.cell? ⟨b1, o1 + k * 4 + 2, none⟩ = some (.bool p2) ∧ W.cell? ⟨b1, o1 + k * 4 + 3, none⟩ = some (.bool p3)) ∧ (W.cell? ⟨b2, o2 + k * 3, none⟩ = some (.int .i64 q0) ∧ W.cell? ⟨b2, o2 + k * 3 + 1, none⟩ = some (.int .i64 q1) ∧ W.cell? ⟨b2, o2 + k * 3 + 2, none⟩ = some (.string q2))) (by kernel_rfl) (⟨⟨x0, x1, x2, x3⟩, y0, y1, y2⟩) (fun hHeld => ?_)
          refine' wpAnyH_take (i := 0) (v := _) rfl (by kernel_rfl) (by kernel_rfl) (by kernel_rfl) (fun _ _ _ h => h) (Or.inl ⟨by kernel_rfl, ?ha0⟩) (by assumption) ?ra0
          case ha0 => intro W hW; obtain ⟨⟨d0, d1, d2, d3⟩, g0, g1, g2⟩ := hW; go_simp; all_goals with_reducible rfl
          change wpAnyH _ _ _ _ _ _ _ (Act.put _ (some 24) _) _
          simp only [Act.put, List.setIfInBounds_toArray, List.set_cons_zero, List.set_cons_succ]
          refine' wpAnyH_take (i := 1) (v := _) rfl (by kernel_rfl) (by kernel_rfl) (by kernel_rfl) (fun _ _ _ h => h) (Or.inl ⟨by kernel_rfl, ?ha1⟩) (by assumption) ?ra1
          case ha1 => intro W hW; obtain ⟨⟨d0, d1, d2, d3⟩, g0, g1, g2⟩ := hW; go_simp; all_goals with_reducible rfl
          change wpAnyH _ _ _ _ _ _ _ (Act.put _ (some 25) _) _
          simp only [Act.put, List.setIfInBounds_toArray, List.set_cons_zero, List.set_cons_succ]
          refine' wpAnyH_take (i := 2) (v := _) rfl (by kernel_rfl) (by kernel_rfl) (by kernel_rfl) (fun _ _ _ h => h) (Or.inl ⟨by kernel_rfl, ?ha2⟩) (by assumption) ?ra2
          case ha2 => intro W hW; obtain ⟨⟨d0, d1, d2, d3⟩, g0, g1, g2⟩ := hW; go_simp; all_goals with_reducible rfl
          change wpAnyH _ _ _ _ _ _ _ (Act.put _ (some 26) _) _
          simp only [Act.put, List.setIfInBounds_toArray, List.set_cons_zero, List.set_cons_succ]
          refine' wpAnyH_take (i := 3) (v := _) rfl (by kernel_rfl) (by kernel_rfl) (by kernel_rfl) (fun _ _ _ h => h) (Or.inl ⟨by kernel_rfl, ?ha3⟩) (by assumption) ?ra3
          case ha3 => intro W hW; obtain ⟨⟨d0, d1, d2, d3⟩, g0, g1, g2⟩ := hW; go_simp; all_goals with_reducible rfl
          change wpAnyH _ _ _ _ _ _ _ (Act.put _ (some 27) _) _
          simp only [Act.put, List.setIfInBounds_toArray, List.set_cons_zero, List.set_cons_succ]
          refine' wpAnyH_take (i := 4) (v := _) rfl (by kernel_rfl) (by kernel_rfl) (by kernel_rfl) (fun _ _ _ h => h) (Or.inl ⟨by kernel_rfl, ?ha4⟩) (by assumption) ?ra4
          case ha4 => intro W hW; obtain ⟨⟨d0, d1, d2, d3⟩, g0, g1, g2⟩ := hW; go_simp; all_goals with_reducible rfl
          change wpAnyH _ _ _ _ _ _ _ (Act.put _ (some 28) _) _
          simp only [Act.put, List.setIfInBounds_toArray, List.set_cons_zero, List.set_cons_succ]
          refine' wpAnyH_take (i := 5) (v := _) rfl (by kernel_rfl) (by kernel_rfl) (by kernel_rfl) (fun _ _ _ h => h) (Or.inl ⟨by kernel_rfl, ?ha5⟩) (by assumption) ?ra5
          case ha5 => intro W hW; obtain ⟨⟨d0, d1, d2, d3⟩, g0, g1, g2⟩ := hW; go_simp; all_goals with_reducible rfl
          change wpAnyH _ _ _ _ _ _ _ (Act.put _ (some 29) _) _
          simp only [Act.put, List.setIfInBounds_toArray, List.set_cons_zero, List.set_cons_succ]
          refine' wpAnyH_take (i := 6) (v := _) rfl (by kernel_rfl) (by kernel_rfl) (by kernel_rfl) (fun _ _ _ h => h) (Or.inl ⟨by kernel_rfl, ?ha6⟩) (by assumption) ?ra6
          case ha6 => intro W hW; obtain ⟨⟨d0, d1, d2, d3⟩, g0, g1, g2⟩ := hW; go_simp; all_goals with_reducible rfl
          change wpAnyH _ _ _ _ _ _ _ (Act.put _ (some 30) _) _
          simp only [Act.put, List.setIfInBounds_toArray, List.set_cons_zero, List.set_cons_succ]
          refine' wpAnyH_take (i := 7) (v := _) rfl (by kernel_rfl) (by kernel_rfl) (by kernel_rfl) (fun _ _ _ h => h) (Or.inl ⟨by kernel_rfl, ?ha7⟩) (by assumption) ?ra7
          case ha7 => intro W hW; obtain ⟨⟨d0, d1, d2, d3⟩, g0, g1, g2⟩ := hW; go_simp; all_goals with_reducible rfl
          change wpAnyH _ _ _ _ _ _ _ (Act.put _ (some 31) _) _
          simp only [Act.put, List.setIfInBounds_toArray, List.set_cons_zero, List.set_cons_succ]
          refine' wpAnyH_take (i := 8) (v := _) rfl (by kernel_rfl) (by kernel_rfl) (by kernel_rfl) (fun _ _ _ h => h) (Or.inl ⟨by kernel_rfl, ?ha8⟩) (by assumption) ?ra8
          case ha8 => intro W hW; obtain ⟨⟨d0, d1, d2, d3⟩, g0, g1, g2⟩ := hW; go_simp; all_goals with_reducible rfl
          change wpAnyH _ _ _ _ _ _ _ (Act.put _ (some 32) _) _
          simp only [Act.put, List.setIfInBounds_toArray, List.set_cons_zero, List.set_cons_succ]
          refine wpAnyH_ready (rs := [9]) (by kernel_rfl) (by simp) ?_
          refine AllReadyH.cons rfl (fun KK hK => ?_) AllReadyH.nil
          go_simp
          refine (hF _ (hrow.belowAll hBw)).mono ?_
          rintro e w3 ⟨v3, rfl, hne3, hown3, hB2⟩
          go_wp2_with fail
          refine hK.out _ _ ⟨⟨by rw [hB2.cell hb1]; exact x0, by rw [hB2.cell hb1]; exact x1, by rw [hB2.cell hb1]; exact x2, by rw [hB2.cell hb1]; exact x3⟩, by rw [hB2.cell hb2]; exact y0, by rw [hB2.cell hb2]; exact y1, by rw [hB2.cell hb2]; exact y2⟩ (fun hHeld => ?_)
          clear hK KK
          try simp only [Act.put, List.setIfInBounds_toArray, List.set_cons_zero, List.set_cons_succ]
          obtain ⟨g3, c3, rfl, hg3, hc3, hr3⟩ := row_of_own' hown3 hne3
          refine' wpAnyH_take (i := 10) (v := _) rfl (by kernel_rfl) (by kernel_rfl) (by kernel_rfl) (fun _ _ _ h => h) (Or.inl ⟨by kernel_rfl, ?ha10⟩) (by assumption) ?ra10
          case ha10 => intro W hW; obtain ⟨⟨d0, d1, d2, d3⟩, g0, g1, g2⟩ := hW; go_simp; all_goals with_reducible rfl
          change wpAnyH _ _ _ _ _ _ _ (Act.put _ (some 5) _) _
          simp only [Act.put, List.setIfInBounds_toArray, List.set_cons_zero, List.set_cons_succ]
          refine wpAnyH_done (by kernel_rfl) ?_ _
          have hE3 : EncTo w w3 g3 c3 (keyT (onePL fc ft fu fd fk fn fs) (k + 1)) := by
            rw [HS.out]
            refine ⟨?_, Nat.le_trans hB.size (Nat.le_trans hBw.size hg3), ?_, hB.trans ((hBw.trans (hB2.mono hBw.size)).mono hB.size)⟩
            · rw [List.length_append]; exact hr3
            · rw [List.length_append]; exact hc3
          have hLe : Hid ((keyT (onePL fc ft fu fd fk fn fs) (k + 1)).length = L.length + L2.length) := by show _ = _; rw [HS.out, List.length_append]
          clear hHeld x0 x1 x2 x3 y0 y1 y2 hF hown3 hne3 hr3 hc3 hE hrow HYB
          go_wp2
          go_roundg (m - (k + 1))
          case measure => omega
          case rel => exact ⟨k + 1, g3, c3, by omega, rfl, by rw [hLe.out], by go_num, hE3⟩
        · have hkz : ¬ (k : Int) < (m : Int) := by omega
          obtain rfl : k = m := by omega
          clear HP HF
          go_wp2
          go_ret
          exact ⟨_, _, rfl, hE⟩
end Go.Proofs.YtkakkjnbhklfpaaGreatDoor

/-
  The model's Pick: of each part the value of its column, in a row of its own.
-/
namespace Go.Proofs.YtkakkjnbhklfpaaGreatDoor
open Go.RowKit
set_option maxRecDepth 4000

set_option linter.unusedSimpArgs false in
set_option maxHeartbeats 4000000 in
theorem specPick_any (a : Option Addr) (n cap : Nat) (fc ft : Nat → Int) (fu fd : Nat → Bool) (a2 : Option Addr) (m cap2 : Nat) (fk fn : Nat → Int) (fs : Nat → ByteArray) (w : World) (h : PView w a n cap fc ft fu fd) (h2 : VView w a2 m cap2 fk fn fs) (hn : n ≤ 1048576) (hm : m ≤ 1048576) :
    Calls Tryz.prog 77 #[.slice a n cap, .slice a2 m cap2] w fun e w' => ∃ v, e = .returned v ∧ v ≠ .slice none 0 0 ∧ w'.ownsRow w.heap.size 58 3 v n (rowC (pickK fc m fk) (pickK fc m fn) (pickS fc m fs) n) ∧ Below w.heap.size w w' := by
  obtain ⟨i0, hi, hz0, hz1, hz2⟩ := infoVal3
  have hown0 := World.ownsRow_lit (base := w.heap.size) (e := 58) (size := 3) w #[] 0 (Nat.le_refl _) (Nat.zero_le _) rfl
  have hb0 : Below w.heap.size w (w.alloc (.cells #[] 58)) := (Below.refl _ _).alloc (Nat.le_refl _) _
  go_enter Tryz.func77, Tryz.ntmps77
  go_wp2
  go_loopg [5, 6] n (fun q bv i wr => ∃ (k : Nat) (v : Value), k ≤ n ∧ q = n - k ∧ v = bv ∧ i = .int .i64 k ∧ v ≠ .slice none 0 0 ∧ wr.ownsRow w.heap.size 58 3 v k (rowC (pickK fc m fk) (pickK fc m fn) (pickS fc m fs) k) ∧ Below w.heap.size w wr)
  case atStart => exact ⟨0, _, Nat.zero_le _, rfl, rfl, rfl, by simp, hown0, hb0⟩
  case round =>
    obtain ⟨k, bv, hk, rfl, hbv, rfl, hne, hown, hB⟩ := hrel
    subst hbv
    have Hne : Hid (bv ≠ .slice none 0 0) := hne
    clear hne hown0 hb0
    by_cases hlt : k < n
    · have hkz : (k : Int) < (n : Int) := by omega
      have hV := Box.new wr 0 0 ⟨#[]⟩
      have hb2 : Below wr.heap.size wr (wr.alloc (.cells #[.int .i64 0, .int .i64 0, .string ⟨#[]⟩] 58)) := (Below.refl _ _).alloc (Nat.le_refl _) _
      obtain ⟨W1, hW1⟩ : ∃ W1, Hid (W1 = wr.alloc (.cells #[.int .i64 0, .int .i64 0, .string ⟨#[]⟩] 58)) := ⟨_, rfl⟩
      obtain ⟨A, hA⟩ : ∃ A, Hid (A = wr.heap.size) := ⟨_, rfl⟩
      rw [← hW1.out] at hV hb2
      rw [← hA.out] at hV
      have hAw : wr.heap.size ≤ A := by rw [hA.out]; exact Nat.le_refl _
      have hBW := hB.trans (hb2.mono hB.size)
      obtain ⟨b1, o1, rfl, hb1, hd1⟩ := (h.below hB).cells (by omega)
      obtain ⟨xw, -, -, -⟩ := hd1 k hlt
      have x0 : W1.cell? ⟨b1, o1 + k * 4, none⟩ = some (.int .i64 (fc k)) := by rw [hb2.cell (p := ⟨b1, o1 + k * 4, none⟩) hb1]; exact xw
      clear hd1
      by_cases hc : 0 ≤ fc k ∧ fc k < m
      · obtain ⟨b2, o2, rfl, hbb, hd2⟩ := (h2.below hBW).cells (by omega)
        obtain ⟨j, hj⟩ : ∃ j : Nat, Hid (fc k = j) := ⟨(fc k).toNat, by show _ = _; omega⟩
        have hjm : j < m := by have := hj.out; omega
        have hjz : (j : Int) < (m : Int) := by omega
        obtain ⟨y0, y1, y2⟩ := hd2 j hjm
        have HK : Hid (pickK fc m fk k = fk j) := by show _ = _; unfold pickK; rw [if_pos hc, hj.out]; simp
        have HN : Hid (pickK fc m fn k = fn j) := by show _ = _; unfold pickK; rw [if_pos hc, hj.out]; simp
        have HS : Hid (pickS fc m fs k = fs j) := by show _ = _; unfold pickS; rw [if_pos hc, hj.out]; simp
        rw [hj.out] at x0 xw
        clear hd2 h h2 hc
        obtain ⟨q0, hq0⟩ : ∃ p, Hid (fk j = p) := ⟨_, rfl⟩
        obtain ⟨q1, hq1⟩ : ∃ p, Hid (fn j = p) := ⟨_, rfl⟩
        obtain ⟨q2, hq2⟩ : ∃ p, Hid (fs j = p) := ⟨_, rfl⟩
        rw [hq0.out] at y0 HK
        rw [hq1.out] at y1 HN
        rw [hq2.out] at y2 HS
        go_wp2_with fail
        clear xw
        rw [← hW1.out, ← hA.out]
        refine (l1In_yes (j : Int) 0 ((m : Int) - 1) _ (by omega) (by omega)).mono ?_
        rintro e _ ⟨rfl, rfl⟩
        obtain ⟨f0, f1, f2⟩ := hV.frozen
        obtain ⟨c0, c1, c2⟩ := hV.cells
        have hV2 := hV.put q0 q1 q2
        replace hb2 := ((hb2.setCell (p := ⟨A, 0, none⟩) hAw (.int .i64 q0)).setCell (p := ⟨A, 1, none⟩) hAw (.int .i64 q1)).setCell (p := ⟨A, 2, none⟩) hAw (.string q2)
        obtain ⟨W2, hW2⟩ : ∃ W2, Hid (W2 = ((W1.setCell ⟨A, 0, none⟩ (.int .i64 q0)).setCell ⟨A, 1, none⟩ (.int .i64 q1)).setCell ⟨A, 2, none⟩ (.string q2)) := ⟨_, rfl⟩
        rw [← hW2.out] at hV2 hb2
        obtain ⟨z0, z1, z2⟩ := hV2.cells
        have hb3 : Below wr.heap.size wr (W2.alloc (.cells #[.int .i64 q0, .int .i64 q1, .string q2] 58)) := hb2.alloc hb2.size _
        have hown3 := own_below3 hown hb3
        have hcl := cells_one W2 q0 q1 q2
        have hsz3 : (W2.alloc (.cells #[.int .i64 q0, .int .i64 q1, .string q2] 58)).heap.size = W2.heap.size + 1 := by simp
        have hB3 := hB.trans (hb3.mono hB.size)
        obtain ⟨W3, hW3⟩ : ∃ W3, Hid (W3 = W2.alloc (.cells #[.int .i64 q0, .int .i64 q1, .string q2] 58)) := ⟨_, rfl⟩
        obtain ⟨B3, hB3e⟩ : ∃ B3, Hid (B3 = W2.heap.size) := ⟨_, rfl⟩
        rw [← hW3.out] at hown3 hcl hsz3 hB3
        rw [← hB3e.out] at hcl
        have hbs : w.heap.size ≤ W3.heap.size := hB3.size
        go_wp2_with (first | (at_builtin; refine wpList_append_own _ rfl (.tmp 33) (.tmp 35) 25 rfl w.heap.size 58 i0 (.agg #[.int .i64 0, .int .i64 0, .string ⟨#[]⟩]) 3 32 Tryz.underlying25 hi hz0 hz1 hz2 rfl (by decide) bv k (rowC (pickK fc m fk) (pickK fc m fn) (pickS fc m fs) k) rfl hown3 ⟨B3, 0, none⟩ 1 1 [.int .i64 q0, .int .i64 q1, .string q2] rfl rfl hcl (one_cells _ _ _) (by unfold maxLen; omega) (by omega) hbs ?_; intro v4 w4 hown4 hgr4 hnil4) | rw [← hW3.out, ← hB3e.out] | rw [← hW2.out])
        have Hne4 : Hid (v4 ≠ .slice none 0 0) := fun e => Hne.out ((hnil4.1 e).1)
        have hB4 : Hid (Below w.heap.size w w4) := hB3.grown hgr4 hB3.size (fun j hj => (hown3.lt j hj).1)
        have hown5 : Hid (w4.ownsRow w.heap.size 58 3 v4 (k + 1) (rowC (pickK fc m fk) (pickK fc m fn) (pickS fc m fs) (k + 1))) := by
          show w4.ownsRow _ _ _ _ _ _
          rw [rowC, HK.out, HN.out, HS.out]
          exact hown4
        clear z0 z1 z2 c0 c1 c2 f0 f1 f2 y0 y1 y2 x0 hown hown3 hown4 hgr4 hnil4 hcl hB3 hb3 hb2
        go_wp2
        go_roundg (n - (k + 1))
        case measure => omega
        case rel => exact ⟨k + 1, v4, by omega, rfl, rfl, by go_num, Hne4.out, hown5.out, hB4.out⟩
      · have HK : Hid (pickK fc m fk k = 0) := by show _ = _; unfold pickK; rw [if_neg hc]
        have HN : Hid (pickK fc m fn k = 0) := by show _ = _; unfold pickK; rw [if_neg hc]
        have HS : Hid (pickS fc m fs k = ⟨#[]⟩) := by show _ = _; unfold pickS; rw [if_neg hc]
        have hc2 : fc k < 0 ∨ (m : Int) - 1 < fc k := by omega
        obtain ⟨p0, hp0⟩ : ∃ p, Hid (fc k = p) := ⟨_, rfl⟩
        rw [hp0.out] at x0 xw hc2
        clear h h2 hc
        go_wp2_with fail
        clear xw
        rw [← hW1.out, ← hA.out]
        refine (l1In_no p0 0 ((m : Int) - 1) _ hc2).mono ?_
        rintro e _ ⟨rfl, rfl⟩
        obtain ⟨z0, z1, z2⟩ := hV.cells
        have hb3 : Below wr.heap.size wr (W1.alloc (.cells #[.int .i64 0, .int .i64 0, .string ⟨#[]⟩] 58)) := hb2.alloc hb2.size _
        have hown3 := own_below3 hown hb3
        have hcl := cells_one W1 0 0 ⟨#[]⟩
        have hsz3 : (W1.alloc (.cells #[.int .i64 0, .int .i64 0, .string ⟨#[]⟩] 58)).heap.size = W1.heap.size + 1 := by simp
        have hB3 := hB.trans (hb3.mono hB.size)
        obtain ⟨W3, hW3⟩ : ∃ W3, Hid (W3 = W1.alloc (.cells #[.int .i64 0, .int .i64 0, .string ⟨#[]⟩] 58)) := ⟨_, rfl⟩
        obtain ⟨B3, hB3e⟩ : ∃ B3, Hid (B3 = W1.heap.size) := ⟨_, rfl⟩
        rw [← hW3.out] at hown3 hcl hsz3 hB3
        rw [← hB3e.out] at hcl
        have hbs : w.heap.size ≤ W3.heap.size := hB3.size
        go_wp2_with (first | (at_builtin; refine wpList_append_own _ rfl (.tmp 33) (.tmp 35) 25 rfl w.heap.size 58 i0 (.agg #[.int .i64 0, .int .i64 0, .string ⟨#[]⟩]) 3 32 Tryz.underlying25 hi hz0 hz1 hz2 rfl (by decide) bv k (rowC (pickK fc m fk) (pickK fc m fn) (pickS fc m fs) k) rfl hown3 ⟨B3, 0, none⟩ 1 1 [.int .i64 0, .int .i64 0, .string ⟨#[]⟩] rfl rfl hcl (one_cells _ _ _) (by unfold maxLen; omega) (by omega) hbs ?_; intro v4 w4 hown4 hgr4 hnil4) | rw [← hW3.out, ← hB3e.out])
        have Hne4 : Hid (v4 ≠ .slice none 0 0) := fun e => Hne.out ((hnil4.1 e).1)
        have hB4 : Hid (Below w.heap.size w w4) := hB3.grown hgr4 hB3.size (fun j hj => (hown3.lt j hj).1)
        have hown5 : Hid (w4.ownsRow w.heap.size 58 3 v4 (k + 1) (rowC (pickK fc m fk) (pickK fc m fn) (pickS fc m fs) (k + 1))) := by
          show w4.ownsRow _ _ _ _ _ _
          rw [rowC, HK.out, HN.out, HS.out]
          exact hown4
        clear z0 z1 z2 x0 hown hown3 hown4 hgr4 hnil4 hcl hB3 hb3 hb2
        go_wp2
        go_roundg (n - (k + 1))
        case measure => omega
        case rel => exact ⟨k + 1, v4, by omega, rfl, rfl, by go_num, Hne4.out, hown5.out, hB4.out⟩
    · have hkz : ¬ (k : Int) < (n : Int) := by omega
      obtain rfl : k = n := by omega
      have hO : Hid _ := hown
      clear hown
      go_wp2
      go_ret
      exact ⟨_, rfl, Hne.out, hO.out, hB⟩
end Go.Proofs.YtkakkjnbhklfpaaGreatDoor

/-
  The model's RowOk comes to the plain one.
-/
namespace Go.Proofs.YtkakkjnbhklfpaaGreatDoor
open Go.RowKit
set_option maxRecDepth 4000

set_option maxHeartbeats 2000000 in
theorem specRowOk_any (a : Option Addr) (n cap : Nat) (fc ft : Nat → Int) (fu fd : Nat → Bool) (a2 : Option Addr) (m cap2 : Nat) (fk fn : Nat → Int) (fs : Nat → ByteArray) (w : World) (h : PView w a n cap fc ft fu fd) (h2 : VView w a2 m cap2 fk fn fs) (hn : n ≤ 1048576) (hm : m ≤ 1048576) (hs : ∀ i, i < m → (fs i).size ≤ 1048576) :
    Calls Tryz.prog 43 #[.slice a n cap, .slice a2 m cap2] w fun e w' => e = .returned (.bool (rowOk n fc ft fu m fk fn fs)) ∧ Below w.heap.size w w' := by
  have hF := fun W (hb : Below w.heap.size w W) => specFitsAll_any a n cap fc ft fu fd a2 m cap2 fk fn fs W (h.below hb) (h2.below hb) hn hm hs
  go_enter Tryz.func43, Tryz.ntmps43
  go_wp2_with fail
  refine (specPlanOk_any a n cap fc ft fu fd w h hn).mono ?_
  clear h h2
  cases hpk : planOk n fc ft with
  | false =>
    have HR : Hid (rowOk n fc ft fu m fk fn fs = false) := by show _ = _; unfold rowOk; rw [hpk]; rfl
    rintro e w1 ⟨rfl, hb⟩
    clear hF
    go_wp2
    go_ret
    exact ⟨by rw [HR.out]; rfl, hb⟩
  | true =>
    rintro e w1 ⟨rfl, hb⟩
    replace hF := hF w1 hb
    by_cases hmn : m = n
    · have hmz : (m : Int) = (n : Int) := by omega
      obtain ⟨o, ho⟩ : ∃ o, Hid (fitsAll n m ft fu fk fn fs = o) := ⟨_, rfl⟩
      have HR : Hid (rowOk n fc ft fu m fk fn fs = o) := by show _ = _; unfold rowOk; rw [hpk, decide_eq_true hmn, ho.out]; rfl
      rw [ho.out] at hF
      subst hmn
      go_wp2_with fail
      refine hF.mono ?_
      rintro e w2 ⟨rfl, hb2⟩
      have hB := hb.trans (hb2.mono hb.size)
      clear hF hb hb2
      go_wp2
      go_ret
      exact ⟨by rw [HR.out]; rfl, hB⟩
    · have hmz : ¬ (m : Int) = (n : Int) := by omega
      have HR : Hid (rowOk n fc ft fu m fk fn fs = false) := by show _ = _; unfold rowOk; rw [hpk, decide_eq_false hmn]; rfl
      clear hF
      go_wp2
      go_ret
      exact ⟨by rw [HR.out]; rfl, hb⟩
end Go.Proofs.YtkakkjnbhklfpaaGreatDoor

/-
  The model's HeadOf and KeyOf come to the plain ones.
-/
namespace Go.Proofs.YtkakkjnbhklfpaaGreatDoor
open Go.RowKit
set_option maxRecDepth 4000

set_option maxHeartbeats 4000000 in
theorem there_any (a : Option Addr) (n cap : Nat) (f : Nat → PDef) (t i : Int) (w : World) (h : LView w a n cap f) (hf : LFine n f) :
    Calls Tryz.prog 42 #[.slice a n cap, .int .i64 t, .int .i64 i] w fun e w' => ∃ b : Bool, e = .returned (.bool b) ∧ Hid (b = true ↔ There f n t i) ∧ Below w.heap.size w w' := by
  have hF := specFirst_any a n cap f w h hf
  have hn := hf.few
  have HNI : Hid (∀ j, j < n → (f j).ni ≤ 1048576) := fun j hj => (hf.at_ j hj).ni
  obtain ⟨r, hr⟩ : ∃ r, Hid (firstF f n = r) := ⟨_, rfl⟩
  rw [hr.out] at hF
  have hsub : IntKind.i64.wrap ((n : Int) - 1) = (n : Int) - 1 := wrapI (by omega) (by omega)
  have hI1 := fun W => l1In_tok t 0 ((n : Int) - 1) W
  go_enter Tryz.func42, Tryz.ntmps42
  go_wp2_with fail
  refine hF.mono ?_
  rintro e w1 ⟨rfl, hb1⟩
  have HVL : Hid (LView w1 a n cap f) := h.below hb1
  have HB : Hid (Below w.heap.size w w1) := hb1
  clear hF h hf hb1
  by_cases hfr : r = -1
  · subst hfr
    by_cases htt : 0 ≤ t ∧ t < n
    · have hd : (decide (0 ≤ t) && decide (t ≤ (n : Int) - 1)) = true := by simp; omega
      simp only [hd] at hI1
      obtain ⟨j, rfl⟩ : ∃ j : Nat, t = j := ⟨t.toNat, by omega⟩
      have hjn : j < n := by omega
      have hjz : (j : Int) < (n : Int) := by omega
      obtain ⟨b1, o1, rfl, hb1, hc1⟩ := HVL.out.cells (by omega)
      obtain ⟨y1, y2, y3, x0, x1, x2, x3, hv⟩ := hc1 j hjn
      obtain ⟨ac, cc, ap, cp, ai, ci, -, rfl, rfl, rfl, -, -, -⟩ := hv.parts
      have hni := HNI.out j hjn
      have HTH : Hid (There f n (j : Int) i ↔ (-1 ≤ i ∧ i < (f j).ni)) := by
        show _ ↔ _
        unfold There
        rw [hr.out]
        simp only [Int.toNat_natCast]
        constructor
        · rintro ⟨-, -, -, h4, h5⟩; exact ⟨h4, h5⟩
        · rintro ⟨h4, h5⟩; exact ⟨by simp, by omega, by omega, h4, h5⟩
      obtain ⟨n3, hn3⟩ : ∃ x, Hid ((f j).ni = x) := ⟨_, rfl⟩
      rw [hn3.out] at x3 hni HTH
      have hsub2 : IntKind.i64.wrap ((n3 : Int) - 1) = (n3 : Int) - 1 := wrapI (by omega) (by omega)
      have hI2 := fun W => l1In_tok i (-1) ((n3 : Int) - 1) W
      obtain ⟨b, hb⟩ : ∃ b : Bool, Hid ((decide (-1 ≤ i) && decide (i ≤ (n3 : Int) - 1)) = b) := ⟨_, rfl⟩
      simp only [hb.out] at hI2
      have HBT : Hid (b = true ↔ There f n (j : Int) i) := by
        show _ ↔ _
        rw [HTH.out, ← hb.out]
        simp
        omega
      clear hc1 hv x0 x1 x2 hd HTH HVL HNI
      go_wp2_with fail
      refine (hI1 _).mono ?_
      rintro e _ ⟨rfl, rfl⟩
      clear hI1
      go_wp2_with fail
      refine (hI2 _).mono ?_
      rintro e _ ⟨rfl, rfl⟩
      clear hI2
      go_wp2
      go_ret
      exact ⟨b, by simp, HBT, HB.out⟩
    · have hd : (decide (0 ≤ t) && decide (t ≤ (n : Int) - 1)) = false := by
        rw [Bool.eq_false_iff]; intro h; simp at h; exact htt (by omega)
      simp only [hd] at hI1
      have HBT : Hid (false = true ↔ There f n t i) := ⟨fun h => by simp at h, fun h => absurd ⟨h.2.1, h.2.2.1⟩ htt⟩
      clear hd HVL HNI
      go_wp2_with fail
      refine (hI1 _).mono ?_
      rintro e _ ⟨rfl, rfl⟩
      clear hI1
      go_wp2
      go_ret
      exact ⟨false, rfl, HBT, HB.out⟩
  · have hq : (r == -1) = false := by simpa using hfr
    have HBT : Hid (false = true ↔ There f n t i) := ⟨fun h => by simp at h, fun h => absurd (hr.out.symm.trans h.1) hfr⟩
    clear HVL HNI hI1
    go_wp2
    go_ret
    exact ⟨false, rfl, HBT, HB.out⟩

set_option maxHeartbeats 2000000 in
theorem l11Plan_any (v : Value) (D : PDef) (i : Int) (w : World) (h : DView w v D) (hf : DFine D) :
    Calls Tryz.prog 74 #[v, .int .i64 i] w (PlanTo w (planN D i) (plF D.col (planL D i))) := by
  have hv := h
  obtain ⟨ac, cc, ap, cp, ai, ci, rfl, -, -, -⟩ := h.is
  clear h
  have hB0 := box4_start w (.cells #[.string D.name, .slice ac D.nc cc, .slice ap D.np cp, .slice ai D.ni ci] 36)
  obtain ⟨hBw0, -⟩ := box4_below hB0
  have hP := specPrimary_any _ D _ (hv.below hBw0) hf
  have hX := specIndex_any _ D i _ (hv.below hBw0) hf
  have HB : Hid (Below w.heap.size w (w.alloc (.cells #[.string D.name, .slice ac D.nc cc, .slice ap D.np cp, .slice ai D.ni ci] 36))) := hBw0
  have HPL : Hid (i = -1 → planN D i = priN D ∧ planL D i = D.pri) := fun e => by unfold planN planL; simp [e]
  have HXL : Hid (i ≠ -1 → planN D i = idxN D i ∧ planL D i = ixpL D i) := fun e => by unfold planN planL; simp [e]
  clear hv hf hB0 hBw0
  by_cases him : i = -1
  · have HE := HPL.out him
    subst him
    clear hX HXL HPL
    go_enter Tryz.func74, Tryz.ntmps74
    go_wp2_with fail
    refine hP.mono ?_
    rintro e w2 hPT
    have HR : Hid (PlanTo w (planN D (-1)) (plF D.col (planL D (-1))) e w2) := by
      show PlanTo _ _ _ _ _
      rw [HE.1, HE.2]; exact hPT.low HB.out
    obtain ⟨g, c, rfl, -, -⟩ := hPT
    clear hP
    go_wp2
    go_ret
    exact HR.out
  · have HE := HXL.out him
    have hq : (i == -1) = false := by simpa using him
    clear hP HXL HPL
    go_enter Tryz.func74, Tryz.ntmps74
    go_wp2_with fail
    refine hX.mono ?_
    rintro e w2 hPT
    have HR : Hid (PlanTo w (planN D i) (plF D.col (planL D i)) e w2) := by
      show PlanTo _ _ _ _ _
      rw [HE.1, HE.2]; exact hPT.low HB.out
    obtain ⟨g, c, rfl, -, -⟩ := hPT
    clear hX
    go_wp2
    go_ret
    exact HR.out

set_option maxHeartbeats 2000000 in
theorem specHead_any (a : Option Addr) (n cap : Nat) (f : Nat → PDef) (t i : Int) (w : World) (h : LView w a n cap f) (hf : LFine n f) :
    Calls Tryz.prog 75 #[.slice a n cap, .int .i64 t, .int .i64 i] w (ByTo w (headB f n t i)) := by
  have hT := there_any a n cap f t i w h hf
  clear h hf
  go_enter Tryz.func75, Tryz.ntmps75
  go_wp2_with fail
  refine hT.mono ?_
  rintro e w1 ⟨b, rfl, hbT, hb1⟩
  clear hT
  cases b with
  | true =>
    have hT := hbT.out.1 rfl
    obtain ⟨ht, hi⟩ := hT.small
    have hwt : IntKind.u8.wrap (t + 1) = t + 1 := by rw [u8_wrap]; omega
    have hwi : IntKind.u8.wrap (i + 1) = i + 1 := by rw [u8_wrap]; omega
    have HL : Hid (headB f n t i = [t + 1, i + 1]) := by show _ = _; unfold headB; rw [if_pos hT]
    have HR : Hid (ByTo w (headB f n t i) (.returned (.slice (some ⟨w1.heap.size, 0, none⟩) 2 2)) (w1.alloc (.cells #[.int .u8 (t + 1), .int .u8 (i + 1)] 5))) := by
      show ByTo _ _ _ _
      rw [HL.out]
      refine ByTo.low (w := w1) ⟨_, _, rfl, ?_, (Below.refl _ _).alloc (Nat.le_refl _) _⟩ hb1
      have := World.ownsRow_lit (base := w1.heap.size) (e := 5) (size := 1) w1 #[.int .u8 (t + 1), .int .u8 (i + 1)] 2 (Nat.le_refl _) (by unfold maxLen; omega) rfl
      simpa [bl] using this
    clear hT hbT hb1
    by_cases him : i = -1
    · subst him
      go_wp2
      go_ret
      simpa using HR.out
    · go_wp2
      go_ret
      exact HR.out
  | false =>
    have hT : ¬ There f n t i := fun h => by have := hbT.out.2 h; simp at this
    have HR : Hid (ByTo w (headB f n t i) (.returned (.slice (some ⟨w1.heap.size, 0, none⟩) 0 0)) (w1.alloc (.cells #[] 5))) := by
      show ByTo _ _ _ _
      unfold headB; rw [if_neg hT]
      exact (ByTo.nil w1).low hb1
    clear hbT hb1
    go_wp2
    go_ret
    exact HR.out
end Go.Proofs.YtkakkjnbhklfpaaGreatDoor

/-
  The model's l11Key and KeyOf come to the plain ones.
-/
namespace Go.Proofs.YtkakkjnbhklfpaaGreatDoor
open Go.RowKit
set_option maxRecDepth 4000

set_option maxHeartbeats 4000000 in
theorem l11Key_any (a : Option Addr) (n cap : Nat) (f : Nat → PDef) (j : Nat) (i : Int) (a2 : Option Addr) (m c2 : Nat) (fk fn : Nat → Int) (fs : Nat → ByteArray) (w : World) (h : LView w a n cap f) (hf : LFine n f) (hq : VView w a2 m c2 fk fn fs) (hm : m ≤ 1048576) (hs : ∀ i, i < m → (fs i).size ≤ 1048576) (hT : There f n (j : Int) i) :
    Calls Tryz.prog 45 #[.slice a n cap, .int .i64 j, .int .i64 i, .slice a2 m c2] w (ByTo w ([(j : Int) + 1, i + 1] ++ keyQ (planN (f j) i) (plF (f j).col (planL (f j) i)) m fk fn fs)) := by
  obtain ⟨i0, hi, hz⟩ := Option.map_eq_some_iff.1 Tryz.info5
  simp only [Prod.mk.injEq] at hz
  obtain ⟨hz0, hz1, hz2⟩ := hz
  have hjn : j < n := by have := hT.2.2.1; omega
  have hjz : (j : Int) < (n : Int) := by omega
  have hjz0 : ¬ (j : Int) < 0 := by omega
  have hN6 := planN_le (f j) i
  have HHD : Hid (headB f n (j : Int) i = [(j : Int) + 1, i + 1]) := by show _ = _; unfold headB; rw [if_pos hT]
  have HH : Hid (∀ W, Below w.heap.size w W → Calls Tryz.prog 75 #[.slice a n cap, .int .i64 j, .int .i64 i] W (ByTo W [(j : Int) + 1, i + 1])) := fun W hb => by rw [← HHD.out]; exact specHead_any a n cap f j i W (h.below hb) hf
  obtain ⟨N, hN⟩ : ∃ x, Hid (planN (f j) i = x) := ⟨_, rfl⟩
  obtain ⟨P, hP⟩ : ∃ x, Hid (plF (f j).col (planL (f j) i) = x) := ⟨_, rfl⟩
  rw [hN.out] at hN6
  obtain ⟨b1, o1, e1, hb1, hc1⟩ := h.cells (by omega)
  obtain ⟨y1, y2, y3, x0, x1, x2, x3, hv⟩ := hc1 j hjn
  have hL := l11Plan_any _ (f j) i w hv (hf.at_ j hjn)
  rw [hN.out, hP.out] at hL
  have HPK : Hid (∀ (W : World) (g c : Nat), Below w.heap.size w W → QView W (some ⟨g, 0, none⟩) N c P → Calls Tryz.prog 77 #[.slice (some ⟨g, 0, none⟩) N c, .slice a2 m c2] W fun e w' => ∃ v, e = .returned v ∧ v ≠ .slice none 0 0 ∧ w'.ownsRow W.heap.size 58 3 v N (rowC (pickK (fun i => (P i).col) m fk) (pickK (fun i => (P i).col) m fn) (pickS (fun i => (P i).col) m fs) N) ∧ Below W.heap.size W w') := fun W g c hb hp => specPick_any _ N c _ _ _ _ a2 m c2 fk fn fs W hp (hq.below hb) (by omega) hm
  have HEK : Hid (∀ (W : World) (g c : Nat) (a3 : Option Addr) (c3 : Nat), QView W (some ⟨g, 0, none⟩) N c P → VView W a3 N c3 (pickK (fun i => (P i).col) m fk) (pickK (fun i => (P i).col) m fn) (pickS (fun i => (P i).col) m fs) → Calls Tryz.prog 76 #[.slice (some ⟨g, 0, none⟩) N c, .slice a3 N c3] W fun e w' => ∃ g2 cg, e = .returned (.slice (some ⟨g2, 0, none⟩) (keyQ N P m fk fn fs).length cg) ∧ EncTo W w' g2 cg (keyQ N P m fk fn fs)) := fun W g c a3 c3 hp hv => specEncodeKey_any _ N c _ _ _ _ a3 N c3 _ _ _ W hp hv (by omega) (by omega) (fun i hi => by
    unfold pickS
    split
    · rename_i hc; exact hs _ (by omega)
    · exact Nat.zero_le _)
  rw [hN.out, hP.out]
  have HQB : Hid ((∀ y ∈ keyQ N P m fk fn fs, 0 ≤ y ∧ y ≤ 255) ∧ (keyQ N P m fk fn fs).length ≤ 414) := ⟨keyL_byte _ _ _ _ _ _ _ _ _, keyL_len _ _ _ _ _ _ _ _ _⟩
  obtain ⟨L, hLL⟩ : ∃ x, Hid (keyQ N P m fk fn fs = x) := ⟨_, rfl⟩
  simp only [hLL.out] at HEK HQB
  rw [hLL.out]
  have hL4 := HQB.out.2
  obtain ⟨p0, hp0⟩ : ∃ x, Hid ((f j).name = x) := ⟨_, rfl⟩
  rw [hp0.out] at x0 hL
  clear h hf hq hs hc1 hv hT
  subst e1
  go_enter Tryz.func45, Tryz.ntmps45
  go_wp2_with fail
  refine hL.mono ?_
  rintro e w1 ⟨g, c, rfl, hO, hb⟩
  have hH := HH.out w1 hb
  have HB1 : Hid (Below w.heap.size w w1) := hb
  clear hL hb x0 x1 x2 x3 HH
  go_wp2_with fail
  refine hH.mono ?_
  rintro e w2 ⟨gh, ch, rfl, hOh, hb2⟩
  have hO2 := own_belowG hO hb2
  have HB2 : Hid (Below w.heap.size w w2) := HB1.out.trans (hb2.mono HB1.out.size)
  have hOh2 := own_low hOh HB1.out.size
  have hPk := HPK.out w2 g c HB2.out (qview_of_own hO2)
  have hl2 : ([(j : Int) + 1, i + 1] : List Int).length = 2 := rfl
  simp only [hl2] at hOh2 ⊢
  clear hH hO hb2 hOh HPK
  go_wp2_with fail
  refine hPk.mono ?_
  rintro e w3 ⟨v3, rfl, -, hO3, hb3⟩
  obtain ⟨a3, c3, rfl, hv3, -⟩ := vview_of_own hO3
  have hOp := own_belowG hO2 hb3
  have hOh3 := own_belowG hOh2 hb3
  have HB3 : Hid (Below w.heap.size w w3) := HB2.out.trans (hb3.mono HB2.out.size)
  have hE := HEK.out w3 g c a3 c3 (qview_of_own hOp) hv3
  clear hPk hO2 hb3 hO3 hv3 hOp hOh2 HEK
  go_wp2_with fail
  refine hE.mono ?_
  rintro e w4 ⟨g4, c4, rfl, hE4⟩
  have hOh4 := own_belowG hOh3 hE4.below
  have hv4 := hE4.byte HQB.out.1
  have HB4 : Hid (Below w.heap.size w w4) := HB3.out.trans (hE4.below.mono HB3.out.size)
  have hcl := cells_of_any hv4 _ rfl
  have hsz := HB4.out.size
  clear hE hOh3 hv4 hE4
  rw [lof_self] at hcl
  go_wp2_with (at_builtin; refine wpList_append_own _ rfl (.tmp 19) (.tmp 24) 22 rfl w.heap.size 5 i0 (.int .u8 0) 1 1 Tryz.underlying22 hi hz0 hz1 hz2 rfl (by decide) _ _ _ rfl hOh4 ⟨g4, 0, none⟩ L.length c4 (bl L) rfl (by rw [bl_len]; omega) hcl (bl_one _) (by unfold maxLen; omega) (by omega) (by omega) ?_)
  intro v5 w5 hO5 hgr5 hnil5
  obtain ⟨⟨g5, k5, rfl⟩, hb5⟩ := grown11 HB4.out hOh4 hO5 hgr5 hnil5
  have HR : Hid (ByTo w ([(j : Int) + 1, i + 1] ++ L) (.returned (.slice (some ⟨g5, 0, none⟩) (2 + L.length) k5)) w5) := by
    have e3 : ([(j : Int) + 1, i + 1] ++ L).length = 2 + L.length := by simp; omega
    refine ⟨g5, k5, by rw [e3], ?_, hb5⟩
    rw [e3, bl_append]
    exact hO5
  clear hOh4 hO5 hgr5 hnil5 hb5 hcl
  go_wp2
  go_ret
  exact HR.out

end Go.Proofs.YtkakkjnbhklfpaaGreatDoor

