/-
  The program's GetVar: a number of the kept ones, at every slice of bytes that reads and at every place.
-/
import Derived.Test.YtfgigbgfkkmaiaqNumRead
import Derived.Test.YtfgigbgfkkmaiaqParts
import Derived.Test.YtfgigbgfkkmaiaqFlipWalks
namespace Go.Proofs.Ytfgigbgfkkmaiaq
open Go.RowKit

set_option maxHeartbeats 1000000 in
theorem varCount_any (h : Int) (w : World) (h0 : 0 ≤ h) (h1 : h ≤ 255) :
    Calls Try.prog 11 #[.int .u8 h] w fun e w' => e = .returned (.int .i64 (hcnt h : Int)) ∧ w = w' := by
  by_cases hl : h < 128
  · have e : (hcnt h : Int) = 127 - h := by unfold hcnt; rw [if_pos hl]; omega
    rw [e]
    have hx : bits .xor .u8 IntKind.u8.max h = 255 - h := u8_not _ h0 h1
    obtain ⟨y, hy⟩ : ∃ y, 255 - h = y := ⟨_, rfl⟩
    have hy0 : 0 ≤ y := by omega
    have hy1 : y ≤ 255 := by omega
    rw [show 127 - h = y - 128 by omega]
    rw [hy] at hx
    clear hy e
    go_enter Try.func11, Try.ntmps11
    go_wp2
    go_ret
    refine ⟨?_, rfl⟩
    show Ending.returned (.int .i64 (wrap64 (wrap64 y - 128))) = _
    rw [show wrap64 (wrap64 y - 128) = y - 128 by unfold wrap64; omega]
  · have e : (hcnt h : Int) = h - 128 := by unfold hcnt; rw [if_neg hl]; omega
    rw [e]
    go_enter Try.func11, Try.ntmps11
    go_wp2
    go_ret
    exact ⟨rfl, rfl⟩

theorem view_first {w : World} {b off n cap : Nat} {f : Nat → Int} (h : View w (some ⟨b, off, none⟩) n cap f) (h0 : 0 < n) : w.cell? ⟨b, off, none⟩ = some (.int .u8 (f 0)) := by
  obtain ⟨b', off', e, _, hc⟩ := h.cells h0
  cases e
  exact hc 0 h0

set_option maxHeartbeats 1000000 in
theorem getVar_impl {a q : Int} {ok : Bool} (b off n cap : Nat) (f : Nat → Int) (p : Int) (w : World) (hg : Hid (getV n f p = (a, q, ok))) (hv : View w (some ⟨b, off, none⟩) n cap f) (hn : n ≤ 70368744177664) (hp1 : p ≤ 9223372036854775807) :
    Calls Try.prog 6 #[.slice (some ⟨b, off, none⟩) n cap, .int .i64 p] w fun e w' => e = .returned (.tuple #[.int .i64 a, .int .i64 q, .bool ok]) ∧ Below w.heap.size w w' := by
  by_cases hp : p < 0
  · have e := hg.out
    rw [getV_out n f p (Or.inl hp)] at e
    obtain ⟨rfl, rfl, rfl⟩ : 0 = a ∧ 0 = q ∧ false = ok := by simpa using e
    clear hg e
    go_enter Try.func6, Try.ntmps6
    go_wp2
    go_ret3
    exact ⟨rfl, Below.refl _ _⟩
  by_cases h4 : (n : Int) ≤ p
  · have e := hg.out
    rw [getV_out n f p (Or.inr h4)] at e
    obtain ⟨rfl, rfl, rfl⟩ : 0 = a ∧ 0 = q ∧ false = ok := by simpa using e
    clear hg e
    go_enter Try.func6, Try.ntmps6
    go_wp2
    go_ret3
    exact ⟨rfl, Below.refl _ _⟩
  obtain ⟨i, rfl⟩ := Int.eq_ofNat_of_zero_le (Int.not_lt.1 hp)
  have hin : i < n := by omega
  have hle := hv.le
  have hb0 := hv.byte i hin
  have hzi : (i : Int) < (n : Int) := by omega
  obtain ⟨b', off', e', hbl, hcs⟩ := hv.cells (by omega)
  cases e'
  have hci := hcs i hin
  clear hcs
  obtain ⟨c, hc⟩ : ∃ c, Hid (hcnt (f i) = c) := ⟨_, rfl⟩
  by_cases hf : 7 < c ∨ n < i + 1 + c
  · have e := hg.out
    rw [getV_few n f i hin (by rw [hc.out]; exact hf)] at e
    obtain ⟨rfl, rfl, rfl⟩ : 0 = a ∧ 0 = q ∧ false = ok := by simpa using e
    clear hg e
    go_enter Try.func6, Try.ntmps6
    go_wp2_with fail
    refine (varCount_any (f i) w hb0.1 hb0.2).mono ?_
    rw [hc.out]
    rintro e _ ⟨rfl, rfl⟩
    by_cases h7 : 7 < c
    · clear hf
      have hz : (7 : Int) < (c : Int) := by omega
      go_wp2
      go_ret3
      exact ⟨rfl, Below.refl _ _⟩
    · have hz : (c : Int) ≤ 7 := by omega
      have hz2 : (n : Int) - (i : Int) - 1 < (c : Int) := by omega
      clear hf
      go_wp2
      go_ret3
      exact ⟨rfl, Below.refl _ _⟩
  have hc7 : (c : Int) ≤ 7 := by omega
  have hzc : (c : Int) ≤ (n : Int) - (i : Int) - 1 := by omega
  have hzn : (i : Int) + 1 + (c : Int) ≤ (n : Int) := by omega
  have hzc2 : (i : Int) + 1 + (c : Int) ≤ (cap : Int) := by omega
  by_cases hlow : f i < 128
  · have HD : Hid (digF f i = turnF true (fun j => f (i + 1 + j))) := by show _ = _; unfold digF; rw [decide_eq_true hlow]
    go_enter Try.func6, Try.ntmps6
    go_wp2_with fail
    refine (varCount_any (f i) w hb0.1 hb0.2).mono ?_
    rw [hc.out]
    rintro e _ ⟨rfl, rfl⟩
    by_cases hc0 : c = 0
    · subst hc0
      have hV : View w (some ⟨b, off, none⟩) 0 0 (fun j => f (i + 1 + j)) := ⟨Nat.le_refl _, fun j hj => absurd hj (Nat.not_lt_zero _), fun h => absurd h (Nat.lt_irrefl _)⟩
      go_wp2_with fail
      refine (flip_impl b off 0 0 _ 0 w hV (by omega) (by omega)).mono ?_
      rintro e w1 ⟨g, cg, rfl, hgn, hgc, hr, hB⟩
      have hV1 := hr.view hgc (flipF_byte 0 hV.byte)
      replace hV1 : View w1 (some ⟨g, 0, none⟩) 0 cg (digF f i) := hV1.congr (fun j _ => by rw [HD.out]; unfold flipF; rw [if_pos (by omega)]; rfl)
      clear hr hV hgn
      go_wp2_with fail
      refine (numberOf_any _ 0 cg _ w1 hV1 (by omega)).mono ?_
      rintro e _ ⟨rfl, rfl⟩
      have hvb := valF7 0 (digF f i) (by omega) hV1.byte
      have hx : numV f i = -1 := by unfold numV; rw [if_pos hlow, hc.out]; rfl
      have hvz : valF 0 (digF f i) = 0 := rfl
      clear hV1 hvb
      have hbad : ¬ badV f i := by unfold badV; rw [hx, hc.out]; omega
      have e := hg.out
      rw [getV_is n f i hin (by rw [hc.out]; exact hf) hbad, hc.out, hx] at e
      obtain ⟨rfl, rfl, rfl⟩ : -1 = a ∧ (i : Int) + 1 = q ∧ true = ok := by
        simp only [Prod.mk.injEq] at e
        exact ⟨e.1, by omega, e.2.2⟩
      clear hg e
      go_wp2
      go_ret3
      exact ⟨rfl, hB⟩
    ·
      have hV := hv.part (k := i + 1) (m := c) (by omega) c (Nat.le_refl _)
      go_wp2_with fail
      refine (flip_impl b (off + (i + 1)) c c _ 0 w hV (by omega) (by omega)).mono ?_
      rintro e w1 ⟨g, cg, rfl, hgn, hgc, hr, hB⟩
      have hV1 := hr.view hgc (flipF_byte 0 hV.byte)
      replace hV1 : View w1 (some ⟨g, 0, none⟩) c cg (digF f i) := hV1.congr (fun j _ => by rw [HD.out]; unfold flipF; rw [if_pos (by omega)]; rfl)
      clear hr hV hgn
      go_wp2_with fail
      refine (numberOf_any _ c cg _ w1 hV1 (by omega)).mono ?_
      rintro e _ ⟨rfl, rfl⟩
      have hvb := valF7 c (digF f i) (by omega) hV1.byte
      have hx : numV f i = -1 - valF c (digF f i) := by unfold numV; rw [if_pos hlow, hc.out]
      have hcd := view_first hV1 (by omega)
      have hdb := hV1.byte 0 (by omega)
      have hc0z : (0 : Int) < (c : Int) := by omega
      generalize valF c (digF f i) = v at *
      clear hV1
      by_cases hd0 : digF f i 0 = 0
      · have hbad : badV f i := by unfold badV; rw [hc.out]; exact Or.inl ⟨by omega, hd0⟩
        rw [hd0] at hcd
        have e := hg.out
        rw [getV_bad n f i hin (by rw [hc.out]; exact hf) hbad] at e
        obtain ⟨rfl, rfl, rfl⟩ : 0 = a ∧ 0 = q ∧ false = ok := by simpa using e
        clear hg e
        go_wp2
        go_ret3
        exact ⟨rfl, hB⟩
      · have hq0 : (digF f i 0 == 0) = false := by simpa using hd0
        by_cases hr : -1 - v < -1000000000000000 ∨ 1000000000000000 < -1 - v
        · have hbad : badV f i := by unfold badV; rw [hx]; exact Or.inr hr
          rcases hr with hr | hr
          · have e := hg.out
            rw [getV_bad n f i hin (by rw [hc.out]; exact hf) hbad] at e
            obtain ⟨rfl, rfl, rfl⟩ : 0 = a ∧ 0 = q ∧ false = ok := by simpa using e
            clear hg e
            go_wp2
            go_ret3
            exact ⟨rfl, hB⟩
          · omega
        · have hbad : ¬ badV f i := by unfold badV; rw [hx, hc.out]; omega
          have hr1 : -1000000000000000 ≤ -1 - v := by omega
          have hr2 : -1 - v ≤ 1000000000000000 := by omega
          clear hr
          have e := hg.out
          rw [getV_is n f i hin (by rw [hc.out]; exact hf) hbad, hc.out] at e
          simp only [Prod.mk.injEq] at e
          obtain ⟨ea, rfl, rfl⟩ := e
          rw [hx] at ea
          subst ea
          clear hg
          go_wp2
          go_ret3
          exact ⟨rfl, hB⟩
  · have HD : Hid (digF f i = turnF false (fun j => f (i + 1 + j))) := by show _ = _; unfold digF; rw [decide_eq_false hlow]
    go_enter Try.func6, Try.ntmps6
    go_wp2_with fail
    refine (varCount_any (f i) w hb0.1 hb0.2).mono ?_
    rw [hc.out]
    rintro e _ ⟨rfl, rfl⟩
    by_cases hc0 : c = 0
    · subst hc0
      have hV : View w (some ⟨b, off, none⟩) 0 0 (fun j => f (i + 1 + j)) := ⟨Nat.le_refl _, fun j hj => absurd hj (Nat.not_lt_zero _), fun h => absurd h (Nat.lt_irrefl _)⟩
      have hB : Below w.heap.size w w := Below.refl _ _
      have hV1 : View w (some ⟨b, off, none⟩) 0 0 (digF f i) := hV.congr (fun j _ => by rw [HD.out]; rfl)
      clear hV
      go_wp2_with fail
      refine (numberOf_any _ 0 0 _ w hV1 (by omega)).mono ?_
      rintro e _ ⟨rfl, rfl⟩
      have hvb := valF7 0 (digF f i) (by omega) hV1.byte
      have hx : numV f i = 0 := by unfold numV; rw [if_neg (by omega), hc.out]; rfl
      have hvz : valF 0 (digF f i) = 0 := rfl
      clear hV1 hvb
      have hbad : ¬ badV f i := by unfold badV; rw [hx, hc.out]; omega
      have e := hg.out
      rw [getV_is n f i hin (by rw [hc.out]; exact hf) hbad, hc.out, hx] at e
      obtain ⟨rfl, rfl, rfl⟩ : 0 = a ∧ (i : Int) + 1 = q ∧ true = ok := by
        simp only [Prod.mk.injEq] at e
        exact ⟨e.1, by omega, e.2.2⟩
      clear hg e
      go_wp2
      go_ret3
      exact ⟨rfl, hB⟩
    ·
      have hV := hv.part (k := i + 1) (m := c) (by omega) c (Nat.le_refl _)
      have hB : Below w.heap.size w w := Below.refl _ _
      have hV1 : View w (some ⟨b, off + (i + 1), none⟩) c c (digF f i) := hV.congr (fun j _ => by rw [HD.out]; rfl)
      clear hV
      go_wp2_with fail
      refine (numberOf_any _ c c _ w hV1 (by omega)).mono ?_
      rintro e _ ⟨rfl, rfl⟩
      have hvb := valF7 c (digF f i) (by omega) hV1.byte
      have hx : numV f i = valF c (digF f i) := by unfold numV; rw [if_neg (by omega), hc.out]
      have hcd := view_first hV1 (by omega)
      have hdb := hV1.byte 0 (by omega)
      have hc0z : (0 : Int) < (c : Int) := by omega
      generalize valF c (digF f i) = v at *
      clear hV1
      by_cases hd0 : digF f i 0 = 0
      · have hbad : badV f i := by unfold badV; rw [hc.out]; exact Or.inl ⟨by omega, hd0⟩
        rw [hd0] at hcd
        have e := hg.out
        rw [getV_bad n f i hin (by rw [hc.out]; exact hf) hbad] at e
        obtain ⟨rfl, rfl, rfl⟩ : 0 = a ∧ 0 = q ∧ false = ok := by simpa using e
        clear hg e
        go_wp2
        go_ret3
        exact ⟨rfl, hB⟩
      · have hq0 : (digF f i 0 == 0) = false := by simpa using hd0
        by_cases hr : v < -1000000000000000 ∨ 1000000000000000 < v
        · have hbad : badV f i := by unfold badV; rw [hx]; exact Or.inr hr
          rcases hr with hr | hr
          · omega
          · have e := hg.out
            rw [getV_bad n f i hin (by rw [hc.out]; exact hf) hbad] at e
            obtain ⟨rfl, rfl, rfl⟩ : 0 = a ∧ 0 = q ∧ false = ok := by simpa using e
            clear hg e
            go_wp2
            go_ret3
            exact ⟨rfl, hB⟩
        · have hbad : ¬ badV f i := by unfold badV; rw [hx, hc.out]; omega
          have hr1 : -1000000000000000 ≤ v := by omega
          have hr2 : v ≤ 1000000000000000 := by omega
          clear hr
          have e := hg.out
          rw [getV_is n f i hin (by rw [hc.out]; exact hf) hbad, hc.out] at e
          simp only [Prod.mk.injEq] at e
          obtain ⟨ea, rfl, rfl⟩ := e
          rw [hx] at ea
          subst ea
          clear hg
          go_wp2
          go_ret3
          exact ⟨rfl, hB⟩
end Go.Proofs.Ytfgigbgfkkmaiaq
