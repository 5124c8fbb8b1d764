/-
  Together: GetVarImpl, FormGet, PartGetPlain, ValInner, ValOfWalk, ValOkImpl, PartImpl
-/
import Derived.Test.YtclegljalndaearPack2
import Derived.Test.YtclegljalndaearPack5
import Derived.Test.YtclegljalndaearPack3
import Derived.Test.YtclegljalndaearPack1
import Derived.Deep.RegionWith
import Derived.BigQuiet
/-
  The program's GetVar: a number of the kept ones, at every slice of bytes that reads and at every place.
-/
namespace Go.Proofs.Ytclegljalndaear
open Go.RowKit
set_option maxRecDepth 4000

set_option maxHeartbeats 1000000 in
theorem varCount_any (h : Int) (w : World) (h0 : 0 ≤ h) (h1 : h ≤ 255) :
    Calls Try.prog 108 #[.int .u8 h] w fun e w' => e = .returned (.int .i64 (hcnt h : Int)) ∧ w = w' := by
  by_cases hl : h < 128
  · have e : (hcnt h : Int) = 127 - h := by unfold hcnt; rw [if_pos hl]; omega
    rw [e]
    have hx : bits .xor .u8 IntKind.u8.max h = 255 - h := u8_not _ h0 h1
    obtain ⟨y, hy⟩ : ∃ y, 255 - h = y := ⟨_, rfl⟩
    have hy0 : 0 ≤ y := by omega
    have hy1 : y ≤ 255 := by omega
    rw [show 127 - h = y - 128 by omega]
    rw [hy] at hx
    clear hy e
    go_enter Try.func108, Try.ntmps108
    go_wp2
    go_ret
    refine ⟨?_, rfl⟩
    show Ending.returned (.int .i64 (wrap64 (wrap64 y - 128))) = _
    rw [show wrap64 (wrap64 y - 128) = y - 128 by unfold wrap64; omega]
  · have e : (hcnt h : Int) = h - 128 := by unfold hcnt; rw [if_neg hl]; omega
    rw [e]
    go_enter Try.func108, Try.ntmps108
    go_wp2
    go_ret
    exact ⟨rfl, rfl⟩

theorem view_first {w : World} {b off n cap : Nat} {f : Nat → Int} (h : View w (some ⟨b, off, none⟩) n cap f) (h0 : 0 < n) : w.cell? ⟨b, off, none⟩ = some (.int .u8 (f 0)) := by
  obtain ⟨b', off', e, _, hc⟩ := h.cells h0
  cases e
  exact hc 0 h0

set_option maxHeartbeats 1000000 in
theorem getVar_impl {a q : Int} {ok : Bool} (b off n cap : Nat) (f : Nat → Int) (p : Int) (w : World) (hg : Hid (getV n f p = (a, q, ok))) (hv : View w (some ⟨b, off, none⟩) n cap f) (hn : n ≤ 70368744177664) (hp1 : p ≤ 9223372036854775807) :
    Calls Try.prog 98 #[.slice (some ⟨b, off, none⟩) n cap, .int .i64 p] w fun e w' => e = .returned (.tuple #[.int .i64 a, .int .i64 q, .bool ok]) ∧ Below w.heap.size w w' := by
  by_cases hp : p < 0
  · have e := hg.out
    rw [getV_out n f p (Or.inl hp)] at e
    obtain ⟨rfl, rfl, rfl⟩ : 0 = a ∧ 0 = q ∧ false = ok := by simpa using e
    clear hg e
    go_enter Try.func98, Try.ntmps98
    go_wp2
    go_ret3
    exact ⟨rfl, Below.refl _ _⟩
  by_cases h4 : (n : Int) ≤ p
  · have e := hg.out
    rw [getV_out n f p (Or.inr h4)] at e
    obtain ⟨rfl, rfl, rfl⟩ : 0 = a ∧ 0 = q ∧ false = ok := by simpa using e
    clear hg e
    go_enter Try.func98, Try.ntmps98
    go_wp2
    go_ret3
    exact ⟨rfl, Below.refl _ _⟩
  obtain ⟨i, rfl⟩ := Int.eq_ofNat_of_zero_le (Int.not_lt.1 hp)
  have hin : i < n := by omega
  have hle := hv.le
  have hb0 := hv.byte i hin
  have hzi : (i : Int) < (n : Int) := by omega
  obtain ⟨b', off', e', hbl, hcs⟩ := hv.cells (by omega)
  cases e'
  have hci := hcs i hin
  clear hcs
  obtain ⟨c, hc⟩ : ∃ c, Hid (hcnt (f i) = c) := ⟨_, rfl⟩
  by_cases hf : 7 < c ∨ n < i + 1 + c
  · have e := hg.out
    rw [getV_few n f i hin (by rw [hc.out]; exact hf)] at e
    obtain ⟨rfl, rfl, rfl⟩ : 0 = a ∧ 0 = q ∧ false = ok := by simpa using e
    clear hg e
    go_enter Try.func98, Try.ntmps98
    go_wp2_with fail
    refine (varCount_any (f i) w hb0.1 hb0.2).mono ?_
    rw [hc.out]
    rintro e _ ⟨rfl, rfl⟩
    by_cases h7 : 7 < c
    · clear hf
      have hz : (7 : Int) < (c : Int) := by omega
      go_wp2
      go_ret3
      exact ⟨rfl, Below.refl _ _⟩
    · have hz : (c : Int) ≤ 7 := by omega
      have hz2 : (n : Int) - (i : Int) - 1 < (c : Int) := by omega
      clear hf
      go_wp2
      go_ret3
      exact ⟨rfl, Below.refl _ _⟩
  have hc7 : (c : Int) ≤ 7 := by omega
  have hzc : (c : Int) ≤ (n : Int) - (i : Int) - 1 := by omega
  have hzn : (i : Int) + 1 + (c : Int) ≤ (n : Int) := by omega
  have hzc2 : (i : Int) + 1 + (c : Int) ≤ (cap : Int) := by omega
  by_cases hlow : f i < 128
  · have HD : Hid (digF f i = turnF true (fun j => f (i + 1 + j))) := by show _ = _; unfold digF; rw [decide_eq_true hlow]
    go_enter Try.func98, Try.ntmps98
    go_wp2_with fail
    refine (varCount_any (f i) w hb0.1 hb0.2).mono ?_
    rw [hc.out]
    rintro e _ ⟨rfl, rfl⟩
    by_cases hc0 : c = 0
    · subst hc0
      have hV : View w (some ⟨b, off, none⟩) 0 0 (fun j => f (i + 1 + j)) := ⟨Nat.le_refl _, fun j hj => absurd hj (Nat.not_lt_zero _), fun h => absurd h (Nat.lt_irrefl _)⟩
      go_wp2_with fail
      refine (flip_impl b off 0 0 _ 0 w hV (by omega) (by omega)).mono ?_
      rintro e w1 ⟨g, cg, rfl, hgn, hgc, hr, hB⟩
      have hV1 := hr.view hgc (flipF_byte 0 hV.byte)
      replace hV1 : View w1 (some ⟨g, 0, none⟩) 0 cg (digF f i) := hV1.congr (fun j _ => by rw [HD.out]; unfold flipF; rw [if_pos (by omega)]; rfl)
      clear hr hV hgn
      go_wp2_with fail
      refine (numberOf_any _ 0 cg _ w1 hV1 (by omega)).mono ?_
      rintro e _ ⟨rfl, rfl⟩
      have hvb := valF7 0 (digF f i) (by omega) hV1.byte
      have hx : numV f i = -1 := by unfold numV; rw [if_pos hlow, hc.out]; rfl
      have hvz : valF 0 (digF f i) = 0 := rfl
      clear hV1 hvb
      have hbad : ¬ badV f i := by unfold badV; rw [hx, hc.out]; omega
      have e := hg.out
      rw [getV_is n f i hin (by rw [hc.out]; exact hf) hbad, hc.out, hx] at e
      obtain ⟨rfl, rfl, rfl⟩ : -1 = a ∧ (i : Int) + 1 = q ∧ true = ok := by
        simp only [Prod.mk.injEq] at e
        exact ⟨e.1, by omega, e.2.2⟩
      clear hg e
      go_wp2
      go_ret3
      exact ⟨rfl, hB⟩
    ·
      have hV := hv.part (k := i + 1) (m := c) (by omega) c (Nat.le_refl _)
      go_wp2_with fail
      refine (flip_impl b (off + (i + 1)) c c _ 0 w hV (by omega) (by omega)).mono ?_
      rintro e w1 ⟨g, cg, rfl, hgn, hgc, hr, hB⟩
      have hV1 := hr.view hgc (flipF_byte 0 hV.byte)
      replace hV1 : View w1 (some ⟨g, 0, none⟩) c cg (digF f i) := hV1.congr (fun j _ => by rw [HD.out]; unfold flipF; rw [if_pos (by omega)]; rfl)
      clear hr hV hgn
      go_wp2_with fail
      refine (numberOf_any _ c cg _ w1 hV1 (by omega)).mono ?_
      rintro e _ ⟨rfl, rfl⟩
      have hvb := valF7 c (digF f i) (by omega) hV1.byte
      have hx : numV f i = -1 - valF c (digF f i) := by unfold numV; rw [if_pos hlow, hc.out]
      have hcd := view_first hV1 (by omega)
      have hdb := hV1.byte 0 (by omega)
      have hc0z : (0 : Int) < (c : Int) := by omega
      generalize valF c (digF f i) = v at *
      clear hV1
      by_cases hd0 : digF f i 0 = 0
      · have hbad : badV f i := by unfold badV; rw [hc.out]; exact Or.inl ⟨by omega, hd0⟩
        rw [hd0] at hcd
        have e := hg.out
        rw [getV_bad n f i hin (by rw [hc.out]; exact hf) hbad] at e
        obtain ⟨rfl, rfl, rfl⟩ : 0 = a ∧ 0 = q ∧ false = ok := by simpa using e
        clear hg e
        go_wp2
        go_ret3
        exact ⟨rfl, hB⟩
      · have hq0 : (digF f i 0 == 0) = false := by simpa using hd0
        by_cases hr : -1 - v < -1000000000000000 ∨ 1000000000000000 < -1 - v
        · have hbad : badV f i := by unfold badV; rw [hx]; exact Or.inr hr
          rcases hr with hr | hr
          · have e := hg.out
            rw [getV_bad n f i hin (by rw [hc.out]; exact hf) hbad] at e
            obtain ⟨rfl, rfl, rfl⟩ : 0 = a ∧ 0 = q ∧ false = ok := by simpa using e
            clear hg e
            go_wp2
            go_ret3
            exact ⟨rfl, hB⟩
          · omega
        · have hbad : ¬ badV f i := by unfold badV; rw [hx, hc.out]; omega
          have hr1 : -1000000000000000 ≤ -1 - v := by omega
          have hr2 : -1 - v ≤ 1000000000000000 := by omega
          clear hr
          have e := hg.out
          rw [getV_is n f i hin (by rw [hc.out]; exact hf) hbad, hc.out] at e
          simp only [Prod.mk.injEq] at e
          obtain ⟨ea, rfl, rfl⟩ := e
          rw [hx] at ea
          subst ea
          clear hg
          go_wp2
          go_ret3
          exact ⟨rfl, hB⟩
  · have HD : Hid (digF f i = turnF false (fun j => f (i + 1 + j))) := by show _ = _; unfold digF; rw [decide_eq_false hlow]
    go_enter Try.func98, Try.ntmps98
    go_wp2_with fail
    refine (varCount_any (f i) w hb0.1 hb0.2).mono ?_
    rw [hc.out]
    rintro e _ ⟨rfl, rfl⟩
    by_cases hc0 : c = 0
    · subst hc0
      have hV : View w (some ⟨b, off, none⟩) 0 0 (fun j => f (i + 1 + j)) := ⟨Nat.le_refl _, fun j hj => absurd hj (Nat.not_lt_zero _), fun h => absurd h (Nat.lt_irrefl _)⟩
      have hB : Below w.heap.size w w := Below.refl _ _
      have hV1 : View w (some ⟨b, off, none⟩) 0 0 (digF f i) := hV.congr (fun j _ => by rw [HD.out]; rfl)
      clear hV
      go_wp2_with fail
      refine (numberOf_any _ 0 0 _ w hV1 (by omega)).mono ?_
      rintro e _ ⟨rfl, rfl⟩
      have hvb := valF7 0 (digF f i) (by omega) hV1.byte
      have hx : numV f i = 0 := by unfold numV; rw [if_neg (by omega), hc.out]; rfl
      have hvz : valF 0 (digF f i) = 0 := rfl
      clear hV1 hvb
      have hbad : ¬ badV f i := by unfold badV; rw [hx, hc.out]; omega
      have e := hg.out
      rw [getV_is n f i hin (by rw [hc.out]; exact hf) hbad, hc.out, hx] at e
      obtain ⟨rfl, rfl, rfl⟩ : 0 = a ∧ (i : Int) + 1 = q ∧ true = ok := by
        simp only [Prod.mk.injEq] at e
        exact ⟨e.1, by omega, e.2.2⟩
      clear hg e
      go_wp2
      go_ret3
      exact ⟨rfl, hB⟩
    ·
      have hV := hv.part (k := i + 1) (m := c) (by omega) c (Nat.le_refl _)
      have hB : Below w.heap.size w w := Below.refl _ _
      have hV1 : View w (some ⟨b, off + (i + 1), none⟩) c c (digF f i) := hV.congr (fun j _ => by rw [HD.out]; rfl)
      clear hV
      go_wp2_with fail
      refine (numberOf_any _ c c _ w hV1 (by omega)).mono ?_
      rintro e _ ⟨rfl, rfl⟩
      have hvb := valF7 c (digF f i) (by omega) hV1.byte
      have hx : numV f i = valF c (digF f i) := by unfold numV; rw [if_neg (by omega), hc.out]
      have hcd := view_first hV1 (by omega)
      have hdb := hV1.byte 0 (by omega)
      have hc0z : (0 : Int) < (c : Int) := by omega
      generalize valF c (digF f i) = v at *
      clear hV1
      by_cases hd0 : digF f i 0 = 0
      · have hbad : badV f i := by unfold badV; rw [hc.out]; exact Or.inl ⟨by omega, hd0⟩
        rw [hd0] at hcd
        have e := hg.out
        rw [getV_bad n f i hin (by rw [hc.out]; exact hf) hbad] at e
        obtain ⟨rfl, rfl, rfl⟩ : 0 = a ∧ 0 = q ∧ false = ok := by simpa using e
        clear hg e
        go_wp2
        go_ret3
        exact ⟨rfl, hB⟩
      · have hq0 : (digF f i 0 == 0) = false := by simpa using hd0
        by_cases hr : v < -1000000000000000 ∨ 1000000000000000 < v
        · have hbad : badV f i := by unfold badV; rw [hx]; exact Or.inr hr
          rcases hr with hr | hr
          · omega
          · have e := hg.out
            rw [getV_bad n f i hin (by rw [hc.out]; exact hf) hbad] at e
            obtain ⟨rfl, rfl, rfl⟩ : 0 = a ∧ 0 = q ∧ false = ok := by simpa using e
            clear hg e
            go_wp2
            go_ret3
            exact ⟨rfl, hB⟩
        · have hbad : ¬ badV f i := by unfold badV; rw [hx, hc.out]; omega
          have hr1 : -1000000000000000 ≤ v := by omega
          have hr2 : v ≤ 1000000000000000 := by omega
          clear hr
          have e := hg.out
          rw [getV_is n f i hin (by rw [hc.out]; exact hf) hbad, hc.out] at e
          simp only [Prod.mk.injEq] at e
          obtain ⟨ea, rfl, rfl⟩ := e
          rw [hx] at ea
          subst ea
          clear hg
          go_wp2
          go_ret3
          exact ⟨rfl, hB⟩
end Go.Proofs.Ytclegljalndaear

/-
  The program's readers of a value of each type, as they read.
-/
namespace Go.Proofs.Ytclegljalndaear
open Go.RowKit
set_option maxRecDepth 4000

/-- A byte of 0 or 1 at a place. -/
def getB (n : Nat) (f : Nat → Int) (p : Int) : Int × Int × Bool := if p < 0 ∨ (n : Int) ≤ p ∨ 1 < f p.toNat then (0, 0, false) else (f p.toNat, p + 1, true)

set_option maxHeartbeats 1000000 in
theorem getBit_any {a q : Int} {ok : Bool} (b off n cap : Nat) (f : Nat → Int) (p : Int) (w : World) (hg : Hid (getB n f p = (a, q, ok))) (hv : View w (some ⟨b, off, none⟩) n cap f) (hn : n ≤ 70368744177664) (hp1 : p ≤ 9223372036854775807) :
    Calls Try.prog 87 #[.slice (some ⟨b, off, none⟩) n cap, .int .i64 p] w fun e w' => e = .returned (.tuple #[.int .i64 a, .int .i64 q, .bool ok]) ∧ Below w.heap.size w w' := by
  by_cases hp : p < 0
  · have e := hg.out
    unfold getB at e
    rw [if_pos (Or.inl hp)] at e
    obtain ⟨rfl, rfl, rfl⟩ : 0 = a ∧ 0 = q ∧ false = ok := by simpa using e
    clear hg e hv
    go_enter Try.func87, Try.ntmps87
    go_wp2
    exact bodyPost_ret (v := .tuple #[_, _, _]) (by simp [results, Try.results87, go_sem]) rfl ⟨rfl, Below.refl _ _⟩
  by_cases hq : (n : Int) ≤ p
  · have e := hg.out
    unfold getB at e
    rw [if_pos (Or.inr (Or.inl hq))] at e
    obtain ⟨rfl, rfl, rfl⟩ : 0 = a ∧ 0 = q ∧ false = ok := by simpa using e
    clear hg e hv
    go_enter Try.func87, Try.ntmps87
    go_wp2
    exact bodyPost_ret (v := .tuple #[_, _, _]) (by simp [results, Try.results87, go_sem]) rfl ⟨rfl, Below.refl _ _⟩
  obtain ⟨i, rfl⟩ : ∃ i : Nat, p = i := ⟨p.toNat, by omega⟩
  have hi : i < n := by omega
  obtain ⟨b', off', eb, -, hc⟩ := hv.cells (by omega)
  cases eb
  have hci := hc i hi
  have hby := hv.byte i hi
  obtain ⟨y, hy⟩ : ∃ y, y = f i := ⟨_, rfl⟩
  rw [← hy] at hci hby
  have e := hg.out
  unfold getB at e
  rw [Int.toNat_natCast, ← hy] at e
  clear hg hc hv hy
  by_cases h1 : 1 < y
  · rw [if_pos (Or.inr (Or.inr h1))] at e
    obtain ⟨rfl, rfl, rfl⟩ : 0 = a ∧ 0 = q ∧ false = ok := by simpa using e
    clear e
    go_enter Try.func87, Try.ntmps87
    go_wp2
    exact bodyPost_ret (v := .tuple #[_, _, _]) (by simp [results, Try.results87, go_sem]) rfl ⟨rfl, Below.refl _ _⟩
  · rw [if_neg (by omega)] at e
    obtain ⟨rfl, rfl, rfl⟩ : y = a ∧ (i : Int) + 1 = q ∧ true = ok := by simpa using e
    clear e
    go_enter Try.func87, Try.ntmps87
    go_wp2
    exact bodyPost_ret (v := .tuple #[_, _, _]) (by simp [results, Try.results87, go_sem]) rfl ⟨rfl, Below.refl _ _⟩

/-- A value of a type, as the program's readers read it. -/
def rawI (n : Nat) (f : Nat → Int) (t : Int) (p : Int) : Got :=
  if t = 1 then ⟨1, (getF n f p).1, noBytes, (getF n f p).2.1, (getF n f p).2.2⟩
  else if t = 2 then ⟨2, (getV n f p).1, noBytes, (getV n f p).2.1, (getV n f p).2.2⟩
  else if t = 3 then ⟨3, 0, (getE n f p).1, (getE n f p).2.1, (getE n f p).2.2⟩
  else ⟨4, (getB n f p).1, noBytes, (getB n f p).2.1, (getB n f p).2.2⟩

theorem getFix_implB {a q : Int} {ok : Bool} (b off n cap : Nat) (f : Nat → Int) (p : Int) (w : World) (hg : Hid (getF n f p = (a, q, ok))) (hv : View w (some ⟨b, off, none⟩) n cap f) (hn : n ≤ 281474976710656) (hp1 : p ≤ 9223372036854775807) :
    Calls Try.prog 96 #[.slice (some ⟨b, off, none⟩) n cap, .int .i64 p] w fun e w' => e = .returned (.tuple #[.int .i64 a, .int .i64 q, .bool ok]) ∧ Below w.heap.size w w' := by
  refine (getFix_impl b off n cap f p w hg hv hn hp1).mono ?_
  rintro e _ ⟨h, rfl⟩
  exact ⟨h, Below.refl _ _⟩

/-- What a reader of values comes to. -/
def ReadsV (fn : Nat) (n : Nat) (f : Nat → Int) (p : Int) (g : Got) : Prop :=
  ∀ (b off cap : Nat) (w : World), View w (some ⟨b, off, none⟩) n cap f → Calls Try.prog fn #[.slice (some ⟨b, off, none⟩) n cap, .int .i64 p] w fun e w' => e = gotRet g ∧ Below w.heap.size w w'

set_option maxHeartbeats 1000000 in
theorem getInt_any (n : Nat) (f : Nat → Int) (p : Int) (hn : n ≤ 10000000) (hp1 : p ≤ 9223372036854775807) : ReadsV 77 n f p (rawI n f 1 p) := by
  intro b off cap w hv
  obtain ⟨a, q, ok, hg⟩ : ∃ a q ok, Hid (getF n f p = (a, q, ok)) := ⟨_, _, _, rfl⟩
  have HR : Hid (rawI n f 1 p = ⟨1, a, noBytes, q, ok⟩) := by show _ = _; unfold rawI; rw [if_pos rfl, hg.out]
  rw [HR.out]
  have hR := Box.new w 0 0 ⟨#[]⟩
  have hb : Below w.heap.size w (w.alloc (.cells #[.int .i64 0, .int .i64 0, .string ⟨#[]⟩] 59)) := (Below.refl _ _).alloc (Nat.le_refl _) _
  have hv2 := hv.below hb
  go_enter Try.func77, Try.ntmps77
  go_wp2_with fail
  refine (getFix_implB b off n cap f p _ hg hv2 (by omega) hp1).mono ?_
  rintro e w1 ⟨rfl, hb1⟩
  have hR1 := hR.below hb1
  have hB1 : Below w.heap.size w w1 := hb.trans (hb1.mono hb.size)
  clear hv hv2 hg hR hb hb1
  obtain ⟨r0, r1, r2⟩ := hR1.frozen
  obtain ⟨p0, p1, p2⟩ := hR1.cells
  have hgs := stored3 (.int .i64 1) (.int .i64 a) (.string ⟨#[]⟩) p0 p1 p2
  have HB : Hid (Below w.heap.size w (((w1.setCell ⟨w.heap.size, 0, none⟩ (.int .i64 1)).setCell ⟨w.heap.size, 1, none⟩ (.int .i64 a)).setCell ⟨w.heap.size, 2, none⟩ (.string ⟨#[]⟩))) := ((hB1.setCell (Nat.le_refl _) _).setCell (Nat.le_refl _) _).setCell (Nat.le_refl _) _
  clear hR1 hB1
  go_wp2
  exact bodyPost_ret (v := .tuple #[.agg #[_, _, _], _, _]) (by simp [results, Try.results77, go_sem, hgs, noBytes]) rfl ⟨rfl, HB.out⟩

set_option maxHeartbeats 1000000 in
theorem getNum_any (n : Nat) (f : Nat → Int) (p : Int) (hn : n ≤ 10000000) (hp1 : p ≤ 9223372036854775807) : ReadsV 79 n f p (rawI n f 2 p) := by
  intro b off cap w hv
  obtain ⟨a, q, ok, hg⟩ : ∃ a q ok, Hid (getV n f p = (a, q, ok)) := ⟨_, _, _, rfl⟩
  have HR : Hid (rawI n f 2 p = ⟨2, a, noBytes, q, ok⟩) := by show _ = _; unfold rawI; rw [if_neg (by decide), if_pos rfl, hg.out]
  rw [HR.out]
  have hR := Box.new w 0 0 ⟨#[]⟩
  have hb : Below w.heap.size w (w.alloc (.cells #[.int .i64 0, .int .i64 0, .string ⟨#[]⟩] 59)) := (Below.refl _ _).alloc (Nat.le_refl _) _
  have hv2 := hv.below hb
  go_enter Try.func79, Try.ntmps79
  go_wp2_with fail
  refine (getVar_impl b off n cap f p _ hg hv2 (by omega) hp1).mono ?_
  rintro e w1 ⟨rfl, hb1⟩
  have hR1 := hR.below hb1
  have hB1 : Below w.heap.size w w1 := hb.trans (hb1.mono hb.size)
  clear hv hv2 hg hR hb hb1
  obtain ⟨r0, r1, r2⟩ := hR1.frozen
  obtain ⟨p0, p1, p2⟩ := hR1.cells
  have hgs := stored3 (.int .i64 2) (.int .i64 a) (.string ⟨#[]⟩) p0 p1 p2
  have HB : Hid (Below w.heap.size w (((w1.setCell ⟨w.heap.size, 0, none⟩ (.int .i64 2)).setCell ⟨w.heap.size, 1, none⟩ (.int .i64 a)).setCell ⟨w.heap.size, 2, none⟩ (.string ⟨#[]⟩))) := ((hB1.setCell (Nat.le_refl _) _).setCell (Nat.le_refl _) _).setCell (Nat.le_refl _) _
  clear hR1 hB1
  go_wp2
  exact bodyPost_ret (v := .tuple #[.agg #[_, _, _], _, _]) (by simp [results, Try.results79, go_sem, hgs, noBytes]) rfl ⟨rfl, HB.out⟩

set_option maxHeartbeats 1000000 in
theorem getText_any (n : Nat) (f : Nat → Int) (p : Int) (hn : n ≤ 10000000) (hp1 : p ≤ 9223372036854775807) : ReadsV 81 n f p (rawI n f 3 p) := by
  intro b off cap w hv
  obtain ⟨a, q, ok, hg⟩ : ∃ a q ok, Hid (getE n f p = (a, q, ok)) := ⟨_, _, _, rfl⟩
  have HR : Hid (rawI n f 3 p = ⟨3, 0, a, q, ok⟩) := by show _ = _; unfold rawI; rw [if_neg (by decide), if_neg (by decide), if_pos rfl, hg.out]
  rw [HR.out]
  have hR := Box.new w 0 0 ⟨#[]⟩
  have hb : Below w.heap.size w (w.alloc (.cells #[.int .i64 0, .int .i64 0, .string ⟨#[]⟩] 59)) := (Below.refl _ _).alloc (Nat.le_refl _) _
  have hv2 := hv.below hb
  go_enter Try.func81, Try.ntmps81
  go_wp2_with fail
  refine (getEsc_impl _ n cap f p _ a q ok hg hv2 (by omega) hp1).mono ?_
  rintro e w1 ⟨rfl, hb1⟩
  have hR1 := hR.below hb1
  have hB1 : Below w.heap.size w w1 := hb.trans (hb1.mono hb.size)
  clear hv hv2 hg hR hb hb1
  obtain ⟨r0, r1, r2⟩ := hR1.frozen
  obtain ⟨p0, p1, p2⟩ := hR1.cells
  have hgs := stored3 (.int .i64 3) (.int .i64 0) (.string a) p0 p1 p2
  have HB : Hid (Below w.heap.size w (((w1.setCell ⟨w.heap.size, 0, none⟩ (.int .i64 3)).setCell ⟨w.heap.size, 1, none⟩ (.int .i64 0)).setCell ⟨w.heap.size, 2, none⟩ (.string a))) := ((hB1.setCell (Nat.le_refl _) _).setCell (Nat.le_refl _) _).setCell (Nat.le_refl _) _
  clear hR1 hB1
  go_wp2
  exact bodyPost_ret (v := .tuple #[.agg #[_, _, _], _, _]) (by simp [results, Try.results81, go_sem, hgs]) rfl ⟨rfl, HB.out⟩

set_option maxHeartbeats 1000000 in
theorem getBool_any (n : Nat) (f : Nat → Int) (p : Int) (hn : n ≤ 10000000) (hp1 : p ≤ 9223372036854775807) : ReadsV 83 n f p (rawI n f 4 p) := by
  intro b off cap w hv
  obtain ⟨a, q, ok, hg⟩ : ∃ a q ok, Hid (getB n f p = (a, q, ok)) := ⟨_, _, _, rfl⟩
  have HR : Hid (rawI n f 4 p = ⟨4, a, noBytes, q, ok⟩) := by show _ = _; unfold rawI; rw [if_neg (by decide), if_neg (by decide), if_neg (by decide), hg.out]
  rw [HR.out]
  have hR := Box.new w 0 0 ⟨#[]⟩
  have hb : Below w.heap.size w (w.alloc (.cells #[.int .i64 0, .int .i64 0, .string ⟨#[]⟩] 59)) := (Below.refl _ _).alloc (Nat.le_refl _) _
  have hv2 := hv.below hb
  go_enter Try.func83, Try.ntmps83
  go_wp2_with fail
  refine (getBit_any b off n cap f p _ hg hv2 (by omega) hp1).mono ?_
  rintro e w1 ⟨rfl, hb1⟩
  have hR1 := hR.below hb1
  have hB1 : Below w.heap.size w w1 := hb.trans (hb1.mono hb.size)
  clear hv hv2 hg hR hb hb1
  obtain ⟨r0, r1, r2⟩ := hR1.frozen
  obtain ⟨p0, p1, p2⟩ := hR1.cells
  have hgs := stored3 (.int .i64 4) (.int .i64 a) (.string ⟨#[]⟩) p0 p1 p2
  have HB : Hid (Below w.heap.size w (((w1.setCell ⟨w.heap.size, 0, none⟩ (.int .i64 4)).setCell ⟨w.heap.size, 1, none⟩ (.int .i64 a)).setCell ⟨w.heap.size, 2, none⟩ (.string ⟨#[]⟩))) := ((hB1.setCell (Nat.le_refl _) _).setCell (Nat.le_refl _) _).setCell (Nat.le_refl _) _
  clear hR1 hB1
  go_wp2
  exact bodyPost_ret (v := .tuple #[.agg #[_, _, _], _, _]) (by simp [results, Try.results83, go_sem, hgs, noBytes]) rfl ⟨rfl, HB.out⟩

theorem rawI_chk {n : Nat} {f : Nat → Int} {t p : Int} (ht : 1 ≤ t ∧ t ≤ 4) : (rawI n f t p).chk = getT n f t p := by
  unfold getT
  obtain rfl | rfl | rfl | rfl : t = 1 ∨ t = 2 ∨ t = 3 ∨ t = 4 := by omega
  · rfl
  · rfl
  · rfl
  · unfold rawI rawT
    rw [if_neg (by decide), if_neg (by decide), if_neg (by decide), if_neg (by decide), if_neg (by decide), if_neg (by decide)]
    unfold getB
    by_cases h : 0 ≤ p ∧ p < n
    · rw [if_pos h]
      by_cases h1 : 1 < f p.toNat
      · rw [if_pos (Or.inr (Or.inr h1))]
        have e : okF 4 (f p.toNat) noBytes = false := by rw [okF_spec4]; simp; omega
        unfold Got.chk
        simp [e]
      · rw [if_neg (by omega)]
    · rw [if_neg h, if_pos (by omega)]
end Go.Proofs.Ytclegljalndaear

/-
  What the program reads as one value of a key, plainly: it is what is to be read.
-/
namespace Go.Proofs.Ytclegljalndaear
open Go.RowKit
set_option maxRecDepth 4000

theorem getF_from {n : Nat} {f g : Nat → Int} {p : Int} (h : ∀ i : Nat, p ≤ i → f i = g i) : getF n f p = getF n g p := by
  unfold getF
  by_cases hp : p < 0 ∨ (n : Int) - p < 4
  · rw [if_pos hp, if_pos hp]
  · rw [if_neg hp, if_neg hp, show (fun i => f (p.toNat + i)) = (fun i => g (p.toNat + i)) from funext (fun i => h _ (by omega))]
theorem getV_from {n : Nat} {f g : Nat → Int} {p : Int} (h : ∀ i : Nat, p ≤ i → f i = g i) : getV n f p = getV n g p := by
  unfold getV
  by_cases hp : p < 0 ∨ (n : Int) ≤ p
  · rw [if_pos hp, if_pos hp]
  · have h0 : f p.toNat = g p.toNat := h _ (by omega)
    have h1 : (fun j => f (p.toNat + 1 + j)) = (fun j => g (p.toNat + 1 + j)) := funext (fun j => h _ (by omega))
    have hd : digF f p.toNat = digF g p.toNat := by unfold digF; rw [h0, h1]
    have hm : numV f p.toNat = numV g p.toNat := by unfold numV; rw [h0, hd]
    have hb : badV f p.toNat ↔ badV g p.toNat := by unfold badV; rw [h0, hd, hm]
    simp only [h0, hm, hb]
theorem getE_from {n : Nat} {f g : Nat → Int} {p : Int} (h : ∀ i : Nat, p ≤ i → f i = g i) : getE n f p = getE n g p := by
  unfold getE
  by_cases hp : p < 0
  · rw [if_pos hp, if_pos hp]
  · have e : fromL n f p.toNat = fromL n g p.toNat := by
      unfold fromL
      rw [show (fun i => f (p.toNat + i)) = (fun i => g (p.toNat + i)) from funext (fun i => h _ (by omega))]
    rw [e]
theorem getB_from {n : Nat} {f g : Nat → Int} {p : Int} (h : ∀ i : Nat, p ≤ i → f i = g i) : getB n f p = getB n g p := by
  unfold getB
  rw [h p.toNat (by omega)]
theorem rawI_from {n : Nat} {f g : Nat → Int} {t p : Int} (h : ∀ i : Nat, p ≤ i → f i = g i) : rawI n f t p = rawI n g t p := by
  unfold rawI
  rw [getF_from h, getV_from h, getE_from h, getB_from h]

theorem rawI_out {n : Nat} {f : Nat → Int} {t p : Int} (h : p < 0 ∨ (n : Int) < p) : (rawI n f t p).ok = false := by
  unfold rawI
  split
  · rw [getF_no n f p (by omega)]
  · split
    · rw [getV_out n f p (by omega)]
    · split
      · rcases h with h | h
        · rw [getE_neg n f p h]
        · obtain ⟨i, rfl⟩ : ∃ i : Nat, p = i := ⟨p.toNat, by omega⟩
          rw [getE_none (by rw [fromL_end n f i (by omega)]; rfl)]
      · unfold getB
        rw [if_pos (by omega)]

/-- What the program reads behind the part's own words: of bytes F from p on. -/
def nextI (n : Nat) (F : Nat → Int) (t : Int) (nul : Bool) (p : Int) : Got :=
  if nul then (if (getB n F p).2.2 = false then .no else if (getB n F p).1 = 0 then ⟨0, 0, noBytes, (getB n F p).2.1, true⟩ else (rawI n F t (getB n F p).2.1).chk) else (rawI n F t p).chk

theorem chk_no {g : Got} (h : g.ok = false) : g.chk = .no := by unfold Got.chk; rw [h]; rfl

theorem nextI_is {n : Nat} {f F : Nat → Int} {c t p : Int} {nul d : Bool} (hok : partOk c t = true) (ht : 1 ≤ t ∧ t ≤ 4) (hb : ∀ i, i < n → 0 ≤ f i ∧ f i ≤ 255) (hF : ∀ i : Nat, p ≤ i → F i = turned d f i) : nextI n F t nul p = getP n f c t nul d p := by
  by_cases hp : p < 0 ∨ (n : Int) < p
  · rw [getP_out hp]
    unfold nextI
    cases nul with
    | false => exact chk_no (rawI_out hp)
    | true =>
      have e : getB n F p = (0, 0, false) := by unfold getB; rw [if_pos (by omega)]
      simp [e]
  · rw [getP_in hok (by omega) (by omega)]
    obtain ⟨i, rfl⟩ : ∃ i : Nat, p = i := ⟨p.toNat, by omega⟩
    cases nul with
    | false =>
      rw [getN_no]
      show (rawI n F t (i : Int)).chk = _
      rw [rawI_from hF, rawI_chk ht]
    | true =>
      by_cases hn : i = n
      · subst hn
        rw [getN_end]
        have e : getB i F (i : Int) = (0, 0, false) := by unfold getB; rw [if_pos (by omega)]
        unfold nextI
        simp [e]
      · have hi : i < n := by omega
        have hG := hF i (Int.le_refl _)
        have hby : 0 ≤ turned d f i := by have := hb i hi; unfold turned; split <;> simp <;> omega
        by_cases h1 : 1 < turned d f i
        · rw [getN_big h1]
          have e : getB n F (i : Int) = (0, 0, false) := by unfold getB; rw [Int.toNat_natCast, hG, if_pos (Or.inr (Or.inr h1))]
          unfold nextI
          simp [e]
        · have e : getB n F (i : Int) = (turned d f i, (i : Int) + 1, true) := by unfold getB; rw [Int.toNat_natCast, hG, if_neg (by omega)]
          by_cases h0 : turned d f i = 0
          · rw [getN_zero hi h0]
            unfold nextI
            simp [e, h0]
          · rw [getN_one hi (by omega)]
            unfold nextI
            simp only [e, h0, if_true, if_false, Bool.true_eq_false]
            rw [rawI_from (fun j hj => hF j (by omega)), rawI_chk ht]
end Go.Proofs.Ytclegljalndaear

/-
  The program's values within: what each function answers of each kind.
-/
namespace Go.Proofs.Ytclegljalndaear
open Go.RowKit
set_option maxRecDepth 4000

/-- A value within, as the machine holds it. -/
def V.enc : V → Value
  | .null => .iface 109 (.agg #[])
  | .int n => .iface 110 (.int .i64 n)
  | .num n => .iface 111 (.int .i64 n)
  | .text s => .iface 112 (.string s)
  | .bool b => .iface 113 (.bool b)

theorem as_null_null (W : World) : (Instr.typeAssert (.iface 109 (.agg #[])) 92 109 true).run Try.prog W = .ok (.tuple #[.agg #[], .bool true]) W := by kernel_rfl
theorem as_null_int (W : World) : (Instr.typeAssert (.iface 109 (.agg #[])) 92 110 true).run Try.prog W = .ok (.tuple #[.int .i64 0, .bool false]) W := by kernel_rfl
theorem as_null_num (W : World) : (Instr.typeAssert (.iface 109 (.agg #[])) 92 111 true).run Try.prog W = .ok (.tuple #[.int .i64 0, .bool false]) W := by kernel_rfl
theorem as_null_text (W : World) : (Instr.typeAssert (.iface 109 (.agg #[])) 92 112 true).run Try.prog W = .ok (.tuple #[.string ⟨#[]⟩, .bool false]) W := by kernel_rfl
theorem as_null_bool (W : World) : (Instr.typeAssert (.iface 109 (.agg #[])) 92 113 true).run Try.prog W = .ok (.tuple #[.bool false, .bool false]) W := by kernel_rfl
theorem as_int_null (n : Int) (W : World) : (Instr.typeAssert (.iface 110 (.int .i64 n)) 92 109 true).run Try.prog W = .ok (.tuple #[.agg #[], .bool false]) W := by kernel_rfl
theorem as_int_int (n : Int) (W : World) : (Instr.typeAssert (.iface 110 (.int .i64 n)) 92 110 true).run Try.prog W = .ok (.tuple #[.int .i64 n, .bool true]) W := by kernel_rfl
theorem as_int_num (n : Int) (W : World) : (Instr.typeAssert (.iface 110 (.int .i64 n)) 92 111 true).run Try.prog W = .ok (.tuple #[.int .i64 0, .bool false]) W := by kernel_rfl
theorem as_int_text (n : Int) (W : World) : (Instr.typeAssert (.iface 110 (.int .i64 n)) 92 112 true).run Try.prog W = .ok (.tuple #[.string ⟨#[]⟩, .bool false]) W := by kernel_rfl
theorem as_int_bool (n : Int) (W : World) : (Instr.typeAssert (.iface 110 (.int .i64 n)) 92 113 true).run Try.prog W = .ok (.tuple #[.bool false, .bool false]) W := by kernel_rfl
theorem as_num_null (n : Int) (W : World) : (Instr.typeAssert (.iface 111 (.int .i64 n)) 92 109 true).run Try.prog W = .ok (.tuple #[.agg #[], .bool false]) W := by kernel_rfl
theorem as_num_int (n : Int) (W : World) : (Instr.typeAssert (.iface 111 (.int .i64 n)) 92 110 true).run Try.prog W = .ok (.tuple #[.int .i64 0, .bool false]) W := by kernel_rfl
theorem as_num_num (n : Int) (W : World) : (Instr.typeAssert (.iface 111 (.int .i64 n)) 92 111 true).run Try.prog W = .ok (.tuple #[.int .i64 n, .bool true]) W := by kernel_rfl
theorem as_num_text (n : Int) (W : World) : (Instr.typeAssert (.iface 111 (.int .i64 n)) 92 112 true).run Try.prog W = .ok (.tuple #[.string ⟨#[]⟩, .bool false]) W := by kernel_rfl
theorem as_num_bool (n : Int) (W : World) : (Instr.typeAssert (.iface 111 (.int .i64 n)) 92 113 true).run Try.prog W = .ok (.tuple #[.bool false, .bool false]) W := by kernel_rfl
theorem as_text_null (s : ByteArray) (W : World) : (Instr.typeAssert (.iface 112 (.string s)) 92 109 true).run Try.prog W = .ok (.tuple #[.agg #[], .bool false]) W := by kernel_rfl
theorem as_text_int (s : ByteArray) (W : World) : (Instr.typeAssert (.iface 112 (.string s)) 92 110 true).run Try.prog W = .ok (.tuple #[.int .i64 0, .bool false]) W := by kernel_rfl
theorem as_text_num (s : ByteArray) (W : World) : (Instr.typeAssert (.iface 112 (.string s)) 92 111 true).run Try.prog W = .ok (.tuple #[.int .i64 0, .bool false]) W := by kernel_rfl
theorem as_text_text (s : ByteArray) (W : World) : (Instr.typeAssert (.iface 112 (.string s)) 92 112 true).run Try.prog W = .ok (.tuple #[.string s, .bool true]) W := by kernel_rfl
theorem as_text_bool (s : ByteArray) (W : World) : (Instr.typeAssert (.iface 112 (.string s)) 92 113 true).run Try.prog W = .ok (.tuple #[.bool false, .bool false]) W := by kernel_rfl
theorem as_bool_null (b : Bool) (W : World) : (Instr.typeAssert (.iface 113 (.bool b)) 92 109 true).run Try.prog W = .ok (.tuple #[.agg #[], .bool false]) W := by kernel_rfl
theorem as_bool_int (b : Bool) (W : World) : (Instr.typeAssert (.iface 113 (.bool b)) 92 110 true).run Try.prog W = .ok (.tuple #[.int .i64 0, .bool false]) W := by kernel_rfl
theorem as_bool_num (b : Bool) (W : World) : (Instr.typeAssert (.iface 113 (.bool b)) 92 111 true).run Try.prog W = .ok (.tuple #[.int .i64 0, .bool false]) W := by kernel_rfl
theorem as_bool_text (b : Bool) (W : World) : (Instr.typeAssert (.iface 113 (.bool b)) 92 112 true).run Try.prog W = .ok (.tuple #[.string ⟨#[]⟩, .bool false]) W := by kernel_rfl
theorem as_bool_bool (b : Bool) (W : World) : (Instr.typeAssert (.iface 113 (.bool b)) 92 113 true).run Try.prog W = .ok (.tuple #[.bool b, .bool true]) W := by kernel_rfl

set_option maxHeartbeats 1000000 in
theorem inRange_any (v : V) (w : World) :
    Calls Try.prog 92 #[v.enc] w fun e w' => e = .returned (.bool v.rng) ∧ w' = w := by
  cases v with
  | null =>
    have q_int := as_null_int
    have q_num := as_null_num
    have q_text := as_null_text
    unfold V.enc
    go_enter Try.func92, Try.ntmps92
    go_wp2
    all_goals go_ret
    all_goals (refine ⟨?_, rfl⟩; first | rfl | (simp_all [V.rng] <;> omega))
  | int n =>
    have q_int := as_int_int n
    unfold V.enc
    go_enter Try.func92, Try.ntmps92
    go_wp2
    all_goals go_ret
    all_goals (refine ⟨?_, rfl⟩; first | rfl | (simp_all [V.rng] <;> omega))
  | num n =>
    have q_int := as_num_int n
    have q_num := as_num_num n
    unfold V.enc
    go_enter Try.func92, Try.ntmps92
    go_wp2
    all_goals go_ret
    all_goals (refine ⟨?_, rfl⟩; first | rfl | (simp_all [V.rng] <;> omega))
  | text s =>
    have q_int := as_text_int s
    have q_num := as_text_num s
    have q_text := as_text_text s
    unfold V.enc
    go_enter Try.func92, Try.ntmps92
    go_wp2
    all_goals go_ret
    all_goals (refine ⟨?_, rfl⟩; first | rfl | (simp_all [V.rng] <;> omega))
  | bool b =>
    have q_int := as_bool_int b
    have q_num := as_bool_num b
    have q_text := as_bool_text b
    unfold V.enc
    go_enter Try.func92, Try.ntmps92
    go_wp2
    all_goals go_ret
    all_goals (refine ⟨?_, rfl⟩; first | rfl | (simp_all [V.rng] <;> omega))

set_option maxHeartbeats 1000000 in
theorem valOf_any (v : V) (w : World) :
    Calls Try.prog 93 #[v.enc] w fun e w' => e = .returned (valAgg v.k v.n v.s) ∧ Below w.heap.size w w' := by
  cases v with
  | null =>
    have q_int := as_null_int
    have q_num := as_null_num
    have q_text := as_null_text
    have q_bool := as_null_bool
    have hm : ∀ W : World, (method 249 109 (.agg #[]) "loop.example/g00322/impl.kind").run Try.prog W = .ok (126, .agg #[]) W := fun _ => by kernel_rfl
    have hn : ∀ W : World, (nilAhead 249 109 (.agg #[]) "loop.example/g00322/impl.kind").run Try.prog W = .ok (some false) W := fun _ => by kernel_rfl
    unfold V.enc
    go_enter Try.func93, Try.ntmps93
    go_wp2
    all_goals refine bodyPost_ret (v := valAgg _ _ _) (by simp [results, Try.results93, go_sem, valAgg]; try exact ⟨rfl, rfl, rfl⟩) rfl ⟨rfl, ?_⟩
    all_goals repeat (first | exact Below.refl _ _ | refine Below.alloc ?_ (by simp <;> omega) _ | refine Below.drew ?_)
  | int n =>
    have q_int := as_int_int n
    have hm : ∀ W : World, (method 249 110 (.int .i64 n) "loop.example/g00322/impl.kind").run Try.prog W = .ok (127, .int .i64 n) W := fun _ => by kernel_rfl
    have hn : ∀ W : World, (nilAhead 249 110 (.int .i64 n) "loop.example/g00322/impl.kind").run Try.prog W = .ok (some false) W := fun _ => by kernel_rfl
    unfold V.enc
    go_enter Try.func93, Try.ntmps93
    go_wp2
    all_goals refine bodyPost_ret (v := valAgg _ _ _) (by simp [results, Try.results93, go_sem, valAgg]; try exact ⟨rfl, rfl, rfl⟩) rfl ⟨rfl, ?_⟩
    all_goals repeat (first | exact Below.refl _ _ | refine Below.alloc ?_ (by simp <;> omega) _ | refine Below.drew ?_)
  | num n =>
    have q_int := as_num_int n
    have q_num := as_num_num n
    have hm : ∀ W : World, (method 249 111 (.int .i64 n) "loop.example/g00322/impl.kind").run Try.prog W = .ok (128, .int .i64 n) W := fun _ => by kernel_rfl
    have hn : ∀ W : World, (nilAhead 249 111 (.int .i64 n) "loop.example/g00322/impl.kind").run Try.prog W = .ok (some false) W := fun _ => by kernel_rfl
    unfold V.enc
    go_enter Try.func93, Try.ntmps93
    go_wp2
    all_goals refine bodyPost_ret (v := valAgg _ _ _) (by simp [results, Try.results93, go_sem, valAgg]; try exact ⟨rfl, rfl, rfl⟩) rfl ⟨rfl, ?_⟩
    all_goals repeat (first | exact Below.refl _ _ | refine Below.alloc ?_ (by simp <;> omega) _ | refine Below.drew ?_)
  | text s =>
    have q_int := as_text_int s
    have q_num := as_text_num s
    have q_text := as_text_text s
    have hm : ∀ W : World, (method 249 112 (.string s) "loop.example/g00322/impl.kind").run Try.prog W = .ok (129, .string s) W := fun _ => by kernel_rfl
    have hn : ∀ W : World, (nilAhead 249 112 (.string s) "loop.example/g00322/impl.kind").run Try.prog W = .ok (some false) W := fun _ => by kernel_rfl
    unfold V.enc
    go_enter Try.func93, Try.ntmps93
    go_wp2
    all_goals refine bodyPost_ret (v := valAgg _ _ _) (by simp [results, Try.results93, go_sem, valAgg]; try exact ⟨rfl, rfl, rfl⟩) rfl ⟨rfl, ?_⟩
    all_goals repeat (first | exact Below.refl _ _ | refine Below.alloc ?_ (by simp <;> omega) _ | refine Below.drew ?_)
  | bool b =>
    have q_int := as_bool_int b
    have q_num := as_bool_num b
    have q_text := as_bool_text b
    have q_bool := as_bool_bool b
    have hm : ∀ W : World, (method 249 113 (.bool b) "loop.example/g00322/impl.kind").run Try.prog W = .ok (130, .bool b) W := fun _ => by kernel_rfl
    have hn : ∀ W : World, (nilAhead 249 113 (.bool b) "loop.example/g00322/impl.kind").run Try.prog W = .ok (some false) W := fun _ => by kernel_rfl
    unfold V.enc
    go_enter Try.func93, Try.ntmps93
    cases b <;> go_wp2
    all_goals refine bodyPost_ret (v := valAgg _ _ _) (by simp [results, Try.results93, go_sem, valAgg]; try exact ⟨rfl, rfl, rfl⟩) rfl ⟨rfl, ?_⟩
    all_goals repeat (first | exact Below.refl _ _ | refine Below.alloc ?_ (by simp <;> omega) _ | refine Below.drew ?_)

end Go.Proofs.Ytclegljalndaear

/-
  What the program holds of three fields: the value within, and whether it is sound.
-/
namespace Go.Proofs.Ytclegljalndaear
open Go.RowKit
set_option maxRecDepth 4000

theorem okF_at {k n : Int} {s : ByteArray} {v : V} (h : ofFields k n s = some v) : okF k n s = (v.rng && eqV v.k v.n v.s k n s) := by
  unfold okF
  rw [h]
  rfl

theorem box_cells (w W' : World) (k n : Int) (s : ByteArray) (h : Below (w.heap.size + 1) (w.alloc (.cells #[.int .i64 k, .int .i64 n, .string s] 59)) W') : W'.cell? ⟨w.heap.size, 0, none⟩ = some (.int .i64 k) ∧ W'.cell? ⟨w.heap.size, 1, none⟩ = some (.int .i64 n) ∧ W'.cell? ⟨w.heap.size, 2, none⟩ = some (.string s) := by
  refine ⟨?_, ?_, ?_⟩
  all_goals (rw [h.cell (by simp)]; simp [go_sem])

set_option maxHeartbeats 2000000 in
theorem valueOf_bool_true (n : Int) (s : ByteArray) (hz : (n != 0) = true) (w : World) :
    Calls Try.prog 72 #[.agg #[.int .i64 4, .int .i64 n, .string s]] w fun e w' => e = .returned (.tuple #[V.enc (.bool true), .bool (eqV 4 1 ⟨#[]⟩ 4 n s)]) ∧ Below w.heap.size w w' := by
  have hO : ∀ W, Calls Try.prog 93 #[.iface 113 (.bool true)] W fun e w' => e = .returned (.agg #[.int .i64 4, .int .i64 1, .string ⟨#[]⟩]) ∧ Below W.heap.size W w' := fun W => valOf_any (.bool true) W
  have hbox := fun W' h => box_cells w W' 4 n s h
  have qe := eqVal_run 4 1 ⟨#[]⟩ 4 n s
  have hI : ∀ W, Calls Try.prog 92 #[.iface 113 (.bool true)] W fun e w' => e = .returned (.bool true) ∧ w' = W := fun W => inRange_any (.bool true) W
  go_enter Try.func72, Try.ntmps72
  go_wp2_with (fail)
  go_region_with (first | (go_at_call 92; refine (hI _).mono ?_; rintro e _ ⟨rfl, rfl⟩) | (go_at_call 93; refine (hO _).mono ?_; rintro e w2 ⟨rfl, hB⟩; obtain ⟨hb0, hb1, hb2⟩ := hbox _ (Below.trans (by repeat (first | exact Below.refl _ _ | refine Below.drew ?_)) (hB.mono (by simp)))))
  all_goals go_wp2
  all_goals go_ret2
  all_goals refine ⟨rfl, Below.trans (b := w.alloc _) ((Below.refl _ _).alloc (Nat.le_refl _) _) (Below.trans (by repeat (first | exact Below.refl _ _ | refine Below.drew ?_)) (hB.mono (by simp)))⟩

set_option maxHeartbeats 2000000 in
theorem valueOf_bool_false (s : ByteArray) (w : World) :
    Calls Try.prog 72 #[.agg #[.int .i64 4, .int .i64 0, .string s]] w fun e w' => e = .returned (.tuple #[V.enc (.bool false), .bool (eqV 4 0 ⟨#[]⟩ 4 0 s)]) ∧ Below w.heap.size w w' := by
  have hO : ∀ W, Calls Try.prog 93 #[.iface 113 (.bool false)] W fun e w' => e = .returned (.agg #[.int .i64 4, .int .i64 0, .string ⟨#[]⟩]) ∧ Below W.heap.size W w' := fun W => valOf_any (.bool false) W
  have hbox := fun W' h => box_cells w W' 4 0 s h
  have qe := eqVal_run 4 0 ⟨#[]⟩ 4 0 s
  have hI : ∀ W, Calls Try.prog 92 #[.iface 113 (.bool false)] W fun e w' => e = .returned (.bool true) ∧ w' = W := fun W => inRange_any (.bool false) W
  go_enter Try.func72, Try.ntmps72
  go_wp2_with (fail)
  go_region_with (first | (go_at_call 92; refine (hI _).mono ?_; rintro e _ ⟨rfl, rfl⟩) | (go_at_call 93; refine (hO _).mono ?_; rintro e w2 ⟨rfl, hB⟩; obtain ⟨hb0, hb1, hb2⟩ := hbox _ (Below.trans (by repeat (first | exact Below.refl _ _ | refine Below.drew ?_)) (hB.mono (by simp)))))
  all_goals go_wp2
  all_goals go_ret2
  all_goals refine ⟨rfl, Below.trans (b := w.alloc _) ((Below.refl _ _).alloc (Nat.le_refl _) _) (Below.trans (by repeat (first | exact Below.refl _ _ | refine Below.drew ?_)) (hB.mono (by simp)))⟩

set_option maxHeartbeats 2000000 in
theorem valueOf_null (n : Int) (s : ByteArray) (w : World) :
    Calls Try.prog 72 #[.agg #[.int .i64 0, .int .i64 n, .string s]] w fun e w' => e = .returned (.tuple #[V.enc .null, .bool (V.rng .null && eqV 0 0 ⟨#[]⟩ 0 n s)]) ∧ Below w.heap.size w w' := by
  have hO : ∀ W, Calls Try.prog 93 #[.iface 109 (.agg #[])] W fun e w' => e = .returned (.agg #[.int .i64 0, .int .i64 0, .string ⟨#[]⟩]) ∧ Below W.heap.size W w' := fun W => valOf_any .null W
  have hbox := fun W' h => box_cells w W' 0 n s h
  have qe := eqVal_run 0 0 ⟨#[]⟩ 0 n s
  have hI : ∀ W, Calls Try.prog 92 #[.iface 109 (.agg #[])] W fun e w' => e = .returned (.bool true) ∧ w' = W := fun W => by have := inRange_any .null W; exact this
  go_enter Try.func72, Try.ntmps72
  go_wp2_with (fail)
  go_region_with (first | (go_at_call 92; refine (hI _).mono ?_; rintro e _ ⟨rfl, rfl⟩) | (go_at_call 93; refine (hO _).mono ?_; rintro e w2 ⟨rfl, hB⟩; obtain ⟨hb0, hb1, hb2⟩ := hbox _ (Below.trans (by repeat (first | exact Below.refl _ _ | refine Below.drew ?_)) (hB.mono (by simp)))))
  all_goals go_wp2
  all_goals go_ret2
  all_goals refine ⟨rfl, Below.trans (b := w.alloc _) ((Below.refl _ _).alloc (Nat.le_refl _) _) (Below.trans (by repeat (first | exact Below.refl _ _ | refine Below.drew ?_)) (hB.mono (by simp)))⟩

set_option maxHeartbeats 2000000 in
theorem valueOf_int (n : Int) (s : ByteArray) (w : World) :
    Calls Try.prog 72 #[.agg #[.int .i64 1, .int .i64 n, .string s]] w fun e w' => e = .returned (.tuple #[V.enc (.int n), .bool (V.rng (.int n) && eqV 1 n ⟨#[]⟩ 1 n s)]) ∧ Below w.heap.size w w' := by
  have hO : ∀ W, Calls Try.prog 93 #[.iface 110 (.int .i64 n)] W fun e w' => e = .returned (.agg #[.int .i64 1, .int .i64 n, .string ⟨#[]⟩]) ∧ Below W.heap.size W w' := fun W => valOf_any (.int n) W
  have hbox := fun W' h => box_cells w W' 1 n s h
  have qe := eqVal_run 1 n ⟨#[]⟩ 1 n s
  cases hr : V.rng (.int n)
  case true =>
    have hI : ∀ W, Calls Try.prog 92 #[.iface 110 (.int .i64 n)] W fun e w' => e = .returned (.bool true) ∧ w' = W := fun W => by have := inRange_any (.int n) W; rw [hr] at this; exact this
    clear hr
    go_enter Try.func72, Try.ntmps72
    go_wp2_with (fail)
    go_region_with (first | (go_at_call 92; refine (hI _).mono ?_; rintro e _ ⟨rfl, rfl⟩) | (go_at_call 93; refine (hO _).mono ?_; rintro e w2 ⟨rfl, hB⟩; obtain ⟨hb0, hb1, hb2⟩ := hbox _ (Below.trans (by repeat (first | exact Below.refl _ _ | refine Below.drew ?_)) (hB.mono (by simp)))))
    all_goals go_wp2
    all_goals go_ret2
    all_goals refine ⟨rfl, Below.trans (b := w.alloc _) ((Below.refl _ _).alloc (Nat.le_refl _) _) (Below.trans (by repeat (first | exact Below.refl _ _ | refine Below.drew ?_)) (hB.mono (by simp)))⟩
  case false =>
    have hI : ∀ W, Calls Try.prog 92 #[.iface 110 (.int .i64 n)] W fun e w' => e = .returned (.bool false) ∧ w' = W := fun W => by have := inRange_any (.int n) W; rw [hr] at this; exact this
    clear hr
    go_enter Try.func72, Try.ntmps72
    go_wp2_with (fail)
    go_quiet (first | (go_at_call 92; exact Calls.quiet_of_same (hI _)))
    all_goals go_wp2
    all_goals go_ret2
    all_goals refine ⟨rfl, ?_⟩
    exact Below.trans ((Below.refl _ _).alloc (Nat.le_refl _) _) ⟨rfl, rfl, rfl, Nat.le_refl _, fun _ _ => rfl⟩

set_option maxHeartbeats 2000000 in
theorem valueOf_num (n : Int) (s : ByteArray) (w : World) :
    Calls Try.prog 72 #[.agg #[.int .i64 2, .int .i64 n, .string s]] w fun e w' => e = .returned (.tuple #[V.enc (.num n), .bool (V.rng (.num n) && eqV 2 n ⟨#[]⟩ 2 n s)]) ∧ Below w.heap.size w w' := by
  have hO : ∀ W, Calls Try.prog 93 #[.iface 111 (.int .i64 n)] W fun e w' => e = .returned (.agg #[.int .i64 2, .int .i64 n, .string ⟨#[]⟩]) ∧ Below W.heap.size W w' := fun W => valOf_any (.num n) W
  have hbox := fun W' h => box_cells w W' 2 n s h
  have qe := eqVal_run 2 n ⟨#[]⟩ 2 n s
  cases hr : V.rng (.num n)
  case true =>
    have hI : ∀ W, Calls Try.prog 92 #[.iface 111 (.int .i64 n)] W fun e w' => e = .returned (.bool true) ∧ w' = W := fun W => by have := inRange_any (.num n) W; rw [hr] at this; exact this
    clear hr
    go_enter Try.func72, Try.ntmps72
    go_wp2_with (fail)
    go_region_with (first | (go_at_call 92; refine (hI _).mono ?_; rintro e _ ⟨rfl, rfl⟩) | (go_at_call 93; refine (hO _).mono ?_; rintro e w2 ⟨rfl, hB⟩; obtain ⟨hb0, hb1, hb2⟩ := hbox _ (Below.trans (by repeat (first | exact Below.refl _ _ | refine Below.drew ?_)) (hB.mono (by simp)))))
    all_goals go_wp2
    all_goals go_ret2
    all_goals refine ⟨rfl, Below.trans (b := w.alloc _) ((Below.refl _ _).alloc (Nat.le_refl _) _) (Below.trans (by repeat (first | exact Below.refl _ _ | refine Below.drew ?_)) (hB.mono (by simp)))⟩
  case false =>
    have hI : ∀ W, Calls Try.prog 92 #[.iface 111 (.int .i64 n)] W fun e w' => e = .returned (.bool false) ∧ w' = W := fun W => by have := inRange_any (.num n) W; rw [hr] at this; exact this
    clear hr
    go_enter Try.func72, Try.ntmps72
    go_wp2_with (fail)
    go_quiet (first | (go_at_call 92; exact Calls.quiet_of_same (hI _)))
    all_goals go_wp2
    all_goals go_ret2
    all_goals refine ⟨rfl, ?_⟩
    exact Below.trans ((Below.refl _ _).alloc (Nat.le_refl _) _) ⟨rfl, rfl, rfl, Nat.le_refl _, fun _ _ => rfl⟩

set_option maxHeartbeats 2000000 in
theorem valueOf_text (n : Int) (s : ByteArray) (w : World) :
    Calls Try.prog 72 #[.agg #[.int .i64 3, .int .i64 n, .string s]] w fun e w' => e = .returned (.tuple #[V.enc (.text s), .bool (V.rng (.text s) && eqV 3 0 s 3 n s)]) ∧ Below w.heap.size w w' := by
  have hO : ∀ W, Calls Try.prog 93 #[.iface 112 (.string s)] W fun e w' => e = .returned (.agg #[.int .i64 3, .int .i64 0, .string s]) ∧ Below W.heap.size W w' := fun W => valOf_any (.text s) W
  have hbox := fun W' h => box_cells w W' 3 n s h
  have qe := eqVal_run 3 0 s 3 n s
  cases hr : V.rng (.text s)
  case true =>
    have hI : ∀ W, Calls Try.prog 92 #[.iface 112 (.string s)] W fun e w' => e = .returned (.bool true) ∧ w' = W := fun W => by have := inRange_any (.text s) W; rw [hr] at this; exact this
    clear hr
    go_enter Try.func72, Try.ntmps72
    go_wp2_with (fail)
    go_region_with (first | (go_at_call 92; refine (hI _).mono ?_; rintro e _ ⟨rfl, rfl⟩) | (go_at_call 93; refine (hO _).mono ?_; rintro e w2 ⟨rfl, hB⟩; obtain ⟨hb0, hb1, hb2⟩ := hbox _ (Below.trans (by repeat (first | exact Below.refl _ _ | refine Below.drew ?_)) (hB.mono (by simp)))))
    all_goals go_wp2
    all_goals go_ret2
    all_goals refine ⟨rfl, Below.trans (b := w.alloc _) ((Below.refl _ _).alloc (Nat.le_refl _) _) (Below.trans (by repeat (first | exact Below.refl _ _ | refine Below.drew ?_)) (hB.mono (by simp)))⟩
  case false =>
    have hI : ∀ W, Calls Try.prog 92 #[.iface 112 (.string s)] W fun e w' => e = .returned (.bool false) ∧ w' = W := fun W => by have := inRange_any (.text s) W; rw [hr] at this; exact this
    clear hr
    go_enter Try.func72, Try.ntmps72
    go_wp2_with (fail)
    go_quiet (first | (go_at_call 92; exact Calls.quiet_of_same (hI _)))
    all_goals go_wp2
    all_goals go_ret2
    all_goals refine ⟨rfl, ?_⟩
    exact Below.trans ((Below.refl _ _).alloc (Nat.le_refl _) _) ⟨rfl, rfl, rfl, Nat.le_refl _, fun _ _ => rfl⟩

def vOpt : Option V → Value
  | none => .nilIface
  | some v => v.enc

set_option maxHeartbeats 2000000 in
theorem valueOf_any (k n : Int) (s : ByteArray) (w : World) :
    Calls Try.prog 72 #[valAgg k n s] w fun e w' => e = .returned (.tuple #[vOpt (ofFields k n s), .bool (okF k n s)]) ∧ Below w.heap.size w w' := by
  unfold valAgg
  by_cases k0 : k = 0
  · subst k0
    have e : ofFields 0 n s = some .null := rfl
    rw [okF_at e, e]
    exact valueOf_null n s w
  by_cases k1 : k = 1
  · subst k1
    have e : ofFields 1 n s = some (.int n) := rfl
    rw [okF_at e, e]
    exact valueOf_int n s w
  by_cases k2 : k = 2
  · subst k2
    have e : ofFields 2 n s = some (.num n) := rfl
    rw [okF_at e, e]
    exact valueOf_num n s w
  by_cases k3 : k = 3
  · subst k3
    have e : ofFields 3 n s = some (.text s) := rfl
    rw [okF_at e, e]
    exact valueOf_text n s w
  by_cases k4 : k = 4
  · subst k4
    have e : ofFields 4 n s = some (.bool (n != 0)) := rfl
    rw [okF_at e, e]
    by_cases hz : n = 0
    · subst hz
      exact valueOf_bool_false s w
    · have hz : (n != 0) = true := by simpa using hz
      rw [hz]
      exact valueOf_bool_true n s hz w
  have e : ofFields k n s = none := by simp [ofFields, k0, k1, k2, k3, k4]
  have e2 : okF k n s = false := by unfold okF; rw [e]
  rw [e2, e]
  have q0 : (k == 0) = false := by simpa using k0
  have q1 : (k == 1) = false := by simpa using k1
  have q2 : (k == 2) = false := by simpa using k2
  have q3 : (k == 3) = false := by simpa using k3
  have q4 : (k == 4) = false := by simpa using k4
  clear e e2 k0 k1 k2 k3 k4
  go_enter Try.func72, Try.ntmps72
  go_wp2
  go_ret2
  refine ⟨rfl, ?_⟩
  repeat (first | exact Below.refl _ _ | refine Below.alloc ?_ (by simp <;> omega) _ | refine Below.drew ?_)
end Go.Proofs.Ytclegljalndaear

/-
  The program's ValOk comes to the plain one.
-/
namespace Go.Proofs.Ytclegljalndaear
open Go.RowKit
set_option maxRecDepth 4000

set_option maxHeartbeats 1000000 in
theorem valOk_any (k n : Int) (s : ByteArray) (w : World) :
    Calls Try.prog 58 #[.agg #[.int .i64 k, .int .i64 n, .string s]] w fun e w' => e = .returned (.bool (okF k n s)) ∧ Below w.heap.size w w' := by
  go_enter Try.func58, Try.ntmps58
  go_wp2_with fail
  refine (valueOf_any k n s _).mono ?_
  rintro e w1 ⟨rfl, hB⟩
  go_wp2
  go_ret
  exact ⟨rfl, ((Below.refl _ _).alloc (Nat.le_refl _) _).trans (hB.mono (by simp))⟩

end Go.Proofs.Ytclegljalndaear

/-
  The program's PartOk and Fits. (Nothing fits a part of no type, even where it may not be nothing: as the program has it.)
-/
namespace Go.Proofs.Ytclegljalndaear
open Go.RowKit
set_option maxRecDepth 4000

set_option maxHeartbeats 1000000 in
theorem implPartOk_any (c t : Int) (nul d : Bool) (w : World) :
    Calls Try.prog 36 #[.agg #[.int .i64 c, .int .i64 t, .bool nul, .bool d]] w fun e w' => e = .returned (.bool (partOk c t)) ∧ Below w.heap.size w w' := by
  have hb0 : ∀ o, Below w.heap.size w (w.alloc o) := fun o => (Below.refl _ _).alloc (Nat.le_refl _) _
  by_cases h1 : 0 ≤ c
  · by_cases h2 : c ≤ 9
    · by_cases h3 : 1 ≤ t
      · by_cases h4 : t ≤ 4
        · have e : partOk c t = true := by unfold partOk; simp [h1, h2, h3, h4]
          rw [e]
          go_enter Try.func36, Try.ntmps36
          go_wp2
          go_ret
          exact ⟨rfl, hb0 _⟩
        · have e : partOk c t = false := by unfold partOk; simp [h1, h2, h3, h4]
          rw [e]
          go_enter Try.func36, Try.ntmps36
          go_wp2
          go_ret
          exact ⟨rfl, hb0 _⟩
      · have e : partOk c t = false := by unfold partOk; simp [h1, h2, h3]
        rw [e]
        go_enter Try.func36, Try.ntmps36
        go_wp2
        go_ret
        exact ⟨rfl, hb0 _⟩
    · have e : partOk c t = false := by unfold partOk; simp [h1, h2]
      rw [e]
      go_enter Try.func36, Try.ntmps36
      go_wp2
      go_ret
      exact ⟨rfl, hb0 _⟩
  · have e : partOk c t = false := by unfold partOk; simp [h1]
    rw [e]
    go_enter Try.func36, Try.ntmps36
    go_wp2
    go_ret
    exact ⟨rfl, hb0 _⟩

/-- What fits, as the program has it. -/
def fitsI (t : Int) (nul : Bool) (k n : Int) (s : ByteArray) : Bool := okF k n s && (decide (k = t) || (decide (k = 0) && nul))
theorem fitsI_ok {t : Int} {nul : Bool} {k n : Int} {s : ByteArray} (ht : 1 ≤ t) : fitsI t nul k n s = fitsP t nul k n s := by
  unfold fitsI fitsP
  by_cases hk : k = t
  · simp [hk, show t ≠ 0 by omega]
  · simp [hk]

set_option maxHeartbeats 1000000 in
theorem implFits_any (c t : Int) (nul d : Bool) (k n : Int) (s : ByteArray) (w : World) :
    Calls Try.prog 42 #[.agg #[.int .i64 c, .int .i64 t, .bool nul, .bool d], .agg #[.int .i64 k, .int .i64 n, .string s]] w fun e w' => e = .returned (.bool (fitsI t nul k n s)) ∧ Below w.heap.size w w' := by
  have hP := (PBox.new w c t nul d).below ((Below.refl _ _).alloc (Nat.le_refl _) (.cells #[.int .i64 k, .int .i64 n, .string s] 59))
  have hV := Box.new (w.alloc (.cells #[.int .i64 c, .int .i64 t, .bool nul, .bool d] 51)) k n s
  rw [show (w.alloc (.cells #[.int .i64 c, .int .i64 t, .bool nul, .bool d] 51)).heap.size = w.heap.size + 1 by simp] at hV
  have hb0 : Below w.heap.size w ((w.alloc (.cells #[.int .i64 c, .int .i64 t, .bool nul, .bool d] 51)).alloc (.cells #[.int .i64 k, .int .i64 n, .string s] 59)) := ((Below.refl _ _).alloc (Nat.le_refl _) _).alloc (by simp) _
  cases ho : okF k n s with
  | false =>
    have hr : fitsI t nul k n s = false := by unfold fitsI; rw [ho]; rfl
    rw [hr]
    clear hr
    go_enter Try.func42, Try.ntmps42
    go_wp2_with fail
    refine (valOk_any k n s _).mono ?_
    rw [ho]
    rintro e w1 ⟨rfl, hb1⟩
    have hB : Below w.heap.size w w1 := hb0.trans (hb1.mono hb0.size)
    clear hP hV hb0 hb1 ho
    go_wp2
    go_ret
    exact ⟨rfl, hB⟩
  | true =>
    by_cases kt : k = t
    · subst kt
      have hr : fitsI k nul k n s = true := by unfold fitsI; rw [ho]; simp
      rw [hr]
      have q4 : (k == k) = true := by simp
      clear hr
      go_enter Try.func42, Try.ntmps42
      go_wp2_with fail
      refine (valOk_any k n s _).mono ?_
      rw [ho]
      rintro e w1 ⟨rfl, hb1⟩
      obtain ⟨p0, p1, p2, p3⟩ := (hP.below hb1).cells
      obtain ⟨v0, v1, v2⟩ := (hV.below hb1).cells
      have hB : Below w.heap.size w w1 := hb0.trans (hb1.mono hb0.size)
      clear hP hV hb0 hb1 ho
      go_wp2
      go_ret
      exact ⟨rfl, hB⟩
    · have q4 : (k == t) = false := by simpa using kt
      by_cases k0 : k = 0
      · have hr : fitsI t nul k n s = nul := by unfold fitsI; rw [ho]; simp [k0, show ¬ (0 : Int) = t by omega]
        rw [hr]
        have q2 : (k == 0) = true := by simpa using k0
        clear hr k0 kt
        go_enter Try.func42, Try.ntmps42
        go_wp2_with fail
        refine (valOk_any k n s _).mono ?_
        rw [ho]
        rintro e w1 ⟨rfl, hb1⟩
        obtain ⟨p0, p1, p2, p3⟩ := (hP.below hb1).cells
        obtain ⟨v0, v1, v2⟩ := (hV.below hb1).cells
        have hB : Below w.heap.size w w1 := hb0.trans (hb1.mono hb0.size)
        clear hP hV hb0 hb1 ho
        go_wp2
        go_ret
        exact ⟨rfl, hB⟩
      · have hr : fitsI t nul k n s = false := by unfold fitsI; rw [ho]; simp [kt, k0]
        rw [hr]
        have q2 : (k == 0) = false := by simpa using k0
        clear hr k0 kt
        go_enter Try.func42, Try.ntmps42
        go_wp2_with fail
        refine (valOk_any k n s _).mono ?_
        rw [ho]
        rintro e w1 ⟨rfl, hb1⟩
        obtain ⟨p0, p1, p2, p3⟩ := (hP.below hb1).cells
        obtain ⟨v0, v1, v2⟩ := (hV.below hb1).cells
        have hB : Below w.heap.size w w1 := hb0.trans (hb1.mono hb0.size)
        clear hP hV hb0 hb1 ho
        go_wp2
        go_ret
        exact ⟨rfl, hB⟩
end Go.Proofs.Ytclegljalndaear

