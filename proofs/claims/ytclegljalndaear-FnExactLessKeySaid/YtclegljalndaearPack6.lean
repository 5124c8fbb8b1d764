/-
  Together: RowCopy, EqVal, EqValS, LawLessKey, PartLessImpl
-/
import Derived.Test.YtclegljalndaearPack5
import Derived.Test.YtclegljalndaearPack3
import Derived.Deep.LoopGhost
import Derived.Deep.RegionHeld3
import Derived.Test.YtclegljalndaearPack4
/-
  A row of values copied into a new one, as the law does it.
-/
namespace Go.Proofs.Ytclegljalndaear
open Go.RowKit
set_option maxRecDepth 4000

def cellF (fk fn : Nat → Int) (fs : Nat → ByteArray) (j : Nat) : Value := if j % 3 = 0 then .int .i64 (fk (j / 3)) else if j % 3 = 1 then .int .i64 (fn (j / 3)) else .string (fs (j / 3))
def zeroF (j : Nat) : Value := if j % 3 = 0 then .int .i64 0 else if j % 3 = 1 then .int .i64 0 else .string ⟨#[]⟩

theorem Try.infoVal : (Try.prog.info? 59).map (fun i => (i.zero, i.size, i.bytes)) = some (some (.agg #[.int .i64 0, .int .i64 0, .string ⟨#[]⟩]), 3, 32) := by kernel_rfl

theorem make_vals (n : Nat) (h : n ≤ 1048576) (w : World) : (Instr.makeSlice 32 (.int .i64 (n : Int)) (.int .i64 (n : Int))).run Try.prog w = .ok (.slice (some ⟨w.heap.size, 0, none⟩) n n) (w.alloc (.cells (madeCells #[.int .i64 0, .int .i64 0, .string ⟨#[]⟩] (n * 3)) 59)) := by
  obtain ⟨i, hi, hzz⟩ := Option.map_eq_some_iff.1 Try.infoVal
  simp only [Prod.mk.injEq] at hzz
  obtain ⟨hz, hs, hb⟩ := hzz
  have hr := run_make (P := Try.prog) w 32 59 i _ Try.underlying32 hi hz .i64 .i64 n n (by omega) (Int.le_refl _) (by rw [hb]; omega) (by omega)
  simp only [Int.toNat_natCast, hs] at hr
  exact hr

/-- k of the n values are copied into the new row. -/
structure CopiedV (w wr : World) (n : Nat) (fk fn : Nat → Int) (fs : Nat → ByteArray) (k : Nat) : Prop where
  below : Below w.heap.size w wr
  size : w.heap.size < wr.heap.size
  row : wr.rowIs w.heap.size 59 (n * 3) (fun j => if j < k * 3 then cellF fk fn fs j else zeroF j)

theorem copiedV_start (w : World) (n : Nat) (fk fn : Nat → Int) (fs : Nat → ByteArray) : CopiedV w (w.alloc (.cells (madeCells #[.int .i64 0, .int .i64 0, .string ⟨#[]⟩] (n * 3)) 59)) n fk fn fs 0 := by
  have hr := World.rowIs_alloc w (madeCells #[.int .i64 0, .int .i64 0, .string ⟨#[]⟩] (n * 3)) 59 zeroF (fun i hi => by
    rw [size_madeCells] at hi
    simp [madeCells, hi, zeroF]
    have h3 : i % 3 = 0 ∨ i % 3 = 1 ∨ i % 3 = 2 := by omega
    rcases h3 with h | h | h <;> simp [h])
  rw [size_madeCells] at hr
  exact ⟨(Below.refl _ _).alloc (Nat.le_refl _) _, by simp, hr.congr (fun i _ => by simp)⟩

theorem rowIs_below {w w' : World} {b : Nat} {t : TypeId} {m : Nat} {f : Nat → Value} (h : w.rowIs b t m f) (hb : Below w.heap.size w w') (hlt : b < w.heap.size) : w'.rowIs b t m f := by
  obtain ⟨c, h1, h2, h3⟩ := h
  exact ⟨c, by rw [hb.block b hlt]; exact h1, h2, h3⟩

theorem CopiedV.step {w wr w2 : World} {n : Nat} {fk fn : Nat → Int} {fs : Nat → ByteArray} {k : Nat} (h : CopiedV w wr n fk fn fs k) (hb : Below wr.heap.size wr w2) : CopiedV w w2 n fk fn fs k :=
  ⟨h.below.trans (hb.mono h.below.size), Nat.lt_of_lt_of_le h.size hb.size, rowIs_below h.row hb h.size⟩

theorem CopiedV.put {w wr : World} {n : Nat} {fk fn : Nat → Int} {fs : Nat → ByteArray} {k : Nat} (h : CopiedV w wr n fk fn fs k) :
    CopiedV w (((wr.setCell ⟨w.heap.size, k * 3, none⟩ (.int .i64 (fk k))).setCell ⟨w.heap.size, k * 3 + 1, none⟩ (.int .i64 (fn k))).setCell ⟨w.heap.size, k * 3 + 2, none⟩ (.string (fs k))) n fk fn fs (k + 1) := by
  refine ⟨((h.below.setCell (Nat.le_refl _) _).setCell (Nat.le_refl _) _).setCell (Nat.le_refl _) _, by simpa using h.size, ((((h.row.set _ _).set _ _).set _ _).congr (fun i _ => ?_))⟩
  by_cases e2 : i = k * 3 + 2
  · subst e2
    have : (k * 3 + 2) % 3 = 2 := by omega
    have d : (k * 3 + 2) / 3 = k := by omega
    simp [cellF, this, d, show k * 3 + 2 < (k + 1) * 3 by omega]
  by_cases e1 : i = k * 3 + 1
  · subst e1
    have : (k * 3 + 1) % 3 = 1 := by omega
    have d : (k * 3 + 1) / 3 = k := by omega
    simp [cellF, this, d, show k * 3 + 1 < (k + 1) * 3 by omega]
  by_cases e0 : i = k * 3
  · subst e0
    have : (k * 3) % 3 = 0 := by omega
    have d : (k * 3) / 3 = k := by omega
    simp [cellF, this, d, show k * 3 < (k + 1) * 3 by omega]
  · simp only [e0, e1, e2, if_false]
    by_cases hlt : i < k * 3
    · rw [if_pos hlt, if_pos (by omega)]
    · rw [if_neg hlt, if_neg (by omega)]

theorem CopiedV.view {w wr : World} {n : Nat} {fk fn : Nat → Int} {fs : Nat → ByteArray} (h : CopiedV w wr n fk fn fs n) : VView wr (some ⟨w.heap.size, 0, none⟩) n n fk fn fs := by
  refine ⟨Nat.le_refl _, fun _ => ⟨_, 0, rfl, h.size, fun i hi => ?_⟩⟩
  have c0 := h.row.cell (i := i * 3) (by omega)
  have c1 := h.row.cell (i := i * 3 + 1) (by omega)
  have c2 := h.row.cell (i := i * 3 + 2) (by omega)
  simp only [show i * 3 < n * 3 by omega, show i * 3 + 1 < n * 3 by omega, show i * 3 + 2 < n * 3 by omega, if_true, cellF] at c0 c1 c2
  have m0 : (i * 3) % 3 = 0 := by omega
  have m1 : (i * 3 + 1) % 3 = 1 := by omega
  have m2 : (i * 3 + 2) % 3 = 2 := by omega
  have d0 : (i * 3) / 3 = i := by omega
  have d1 : (i * 3 + 1) / 3 = i := by omega
  have d2 : (i * 3 + 2) / 3 = i := by omega
  simp only [m0, m1, m2, d0, d1, d2] at c0 c1 c2
  rw [Nat.zero_add]
  exact ⟨by simpa using c0, by simpa using c1, by simpa using c2⟩

set_option maxHeartbeats 2000000 in
theorem toValS_row (a : Option Addr) (n cap : Nat) (fk fn : Nat → Int) (fs : Nat → ByteArray) (w : World) (h : VView w a n cap fk fn fs) (hn : n ≤ 1048576) :
    Calls Try.prog 16 #[.slice a n cap] w fun e w' => e = .returned (.slice (some ⟨w.heap.size, 0, none⟩) n n) ∧ CopiedV w w' n fk fn fs n := by
  have hmk := fun W => make_vals n hn W
  go_enter Try.func16, Try.ntmps16
  go_wp2
  clear hmk
  go_loopg [4] n (fun q i wr => ∃ k : Nat, k ≤ n ∧ q = n - k ∧ i = .int .i64 k ∧ CopiedV w wr n fk fn fs k)
  case atStart => exact ⟨0, Nat.zero_le _, rfl, rfl, copiedV_start w n fk fn fs⟩
  case round =>
    obtain ⟨k, hk, rfl, rfl, hC⟩ := hrel
    by_cases hlt : k < n
    · obtain ⟨b1, o1, rfl, hb1, hc1⟩ := (h.below hC.below).cells (by omega)
      obtain ⟨x0, x1, x2⟩ := hc1 k hlt
      have hkz : (k : Int) < (n : Int) := by omega
      have hV := fun W => toVal_any (fk k) (fn k) (fs k) W
      go_wp2_with fail
      refine (hV _).mono ?_
      rintro e w2 ⟨rfl, hB2⟩
      have hC2 := hC.step hB2
      have hS : Hid _ := hC2.put
      have z0 := hC2.row.cell (i := k * 3) (by omega)
      have z1 := hC2.row.cell (i := k * 3 + 1) (by omega)
      have z2 := hC2.row.cell (i := k * 3 + 2) (by omega)
      have f0 := hC2.row.frozen (k * 3)
      have f1 := hC2.row.frozen (k * 3 + 1)
      have f2 := hC2.row.frozen (k * 3 + 2)
      clear hc1 hC hC2 hB2 hV x0 x1 x2 h
      go_wp2
      go_roundg (n - (k + 1))
      case measure => omega
      case rel => exact ⟨k + 1, by omega, rfl, by go_num, hS.out⟩
    · have hkn : k = n := by omega
      have hkz : ¬ (k : Int) < (n : Int) := by omega
      rw [hkn] at hC
      have hS : Hid (CopiedV w wr n fk fn fs n) := hC
      clear hC
      go_wp2
      go_ret
      exact ⟨rfl, hS.out⟩

theorem toValS_any (a : Option Addr) (n cap : Nat) (fk fn : Nat → Int) (fs : Nat → ByteArray) (w : World) (h : VView w a n cap fk fn fs) (hn : n ≤ 1048576) :
    Calls Try.prog 16 #[.slice a n cap] w fun e w' => e = .returned (.slice (some ⟨w.heap.size, 0, none⟩) n n) ∧ VView w' (some ⟨w.heap.size, 0, none⟩) n n fk fn fs ∧ Below w.heap.size w w' :=
  (toValS_row a n cap fk fn fs w h hn).mono (fun _ _ h => ⟨h.1, h.2.view, h.2.below⟩)
end Go.Proofs.Ytclegljalndaear

/-
  What the law's own helper eqVal comes to, at the same value twice.
-/
namespace Go.Proofs.Ytclegljalndaear
open Go.RowKit
set_option maxRecDepth 4000

set_option maxHeartbeats 1000000 in
theorem eqVal_same (k n : Int) (s : ByteArray) (w : World) :
    Calls Try.prog 43 #[.agg #[.int .i64 k, .int .i64 n, .string s], .agg #[.int .i64 k, .int .i64 n, .string s]] w fun e w' => e = .returned (.bool true) ∧ Below w.heap.size w w' := by
  have e1 : (k != k) = false := by simp
  have e2 : (n != n) = false := by simp
  go_enter Try.func43, Try.ntmps43
  go_wp2
  go_ret
  refine ⟨rfl, ?_⟩
  repeat (first | exact Below.refl _ _ | refine Below.alloc ?_ (by simp <;> omega) _ | refine Below.drew ?_)
end Go.Proofs.Ytclegljalndaear

/-
  Two rows of values that read alike are alike, as the law holds them against each other.
-/
namespace Go.Proofs.Ytclegljalndaear
open Go.RowKit
set_option maxRecDepth 4000

set_option maxHeartbeats 2000000 in
theorem eqValS_same (a1 a2 : Option Addr) (n c1 c2 : Nat) (fk fn : Nat → Int) (fs : Nat → ByteArray) (w : World) (h1 : VView w a1 n c1 fk fn fs) (h2 : VView w a2 n c2 fk fn fs) (hn : n ≤ 281474976710656) :
    Calls Try.prog 18 #[.slice a1 n c1, .slice a2 n c2] w fun e w' => e = .returned (.bool true) ∧ Below w.heap.size w w' := by
  go_enter Try.func18, Try.ntmps18
  go_wp2
  go_loopg [5] n (fun q i wr => ∃ k : Nat, k ≤ n ∧ q = n - k ∧ i = .int .i64 k ∧ Below w.heap.size w wr)
  case atStart => exact ⟨0, Nat.zero_le _, rfl, rfl, Below.refl _ _⟩
  case round =>
    obtain ⟨k, hk, rfl, rfl, hB⟩ := hrel
    by_cases hlt : k < n
    · obtain ⟨b1, o1, rfl, hb1, hc1⟩ := (h1.below hB).cells (by omega)
      obtain ⟨b2, o2, rfl, hb2, hc2⟩ := (h2.below hB).cells (by omega)
      obtain ⟨x0, x1, x2⟩ := hc1 k hlt
      obtain ⟨y0, y1, y2⟩ := hc2 k hlt
      have hkz : (k : Int) < (n : Int) := by omega
      have hV := fun W => eqVal_same (fk k) (fn k) (fs k) W
      clear hc1 hc2 h1 h2
      generalize fk k = p0 at *
      generalize fn k = p1 at *
      generalize fs k = p2 at *
      go_wp2_with fail
      go_region_held3 (fun W => (W.cell? ⟨b1, o1 + k * 3, none⟩ = some (.int .i64 p0) ∧ W.cell? ⟨b1, o1 + k * 3 + 1, none⟩ = some (.int .i64 p1) ∧ W.cell? ⟨b1, o1 + k * 3 + 2, none⟩ = some (.string p2)) ∧ (W.cell? ⟨b2, o2 + k * 3, none⟩ = some (.int .i64 p0) ∧ W.cell? ⟨b2, o2 + k * 3 + 1, none⟩ = some (.int .i64 p1) ∧ W.cell? ⟨b2, o2 + k * 3 + 2, none⟩ = some (.string p2))) (first | assumption | go_keep) (first | (go_at_call 43; refine (hV _).mono ?_; rintro e w2 ⟨rfl, hB2⟩; have hcells : (w2.cell? ⟨b1, o1 + k * 3, none⟩ = some (.int .i64 p0) ∧ w2.cell? ⟨b1, o1 + k * 3 + 1, none⟩ = some (.int .i64 p1) ∧ w2.cell? ⟨b1, o1 + k * 3 + 2, none⟩ = some (.string p2)) ∧ (w2.cell? ⟨b2, o2 + k * 3, none⟩ = some (.int .i64 p0) ∧ w2.cell? ⟨b2, o2 + k * 3 + 1, none⟩ = some (.int .i64 p1) ∧ w2.cell? ⟨b2, o2 + k * 3 + 2, none⟩ = some (.string p2)) := (by (refine ⟨⟨?_, ?_, ?_⟩, ?_, ?_, ?_⟩ <;> (rw [hB2.cell (by first | exact hb1 | exact hb2)]; assumption)))))
      all_goals
        have hB3 : Hid (Below w.heap.size w w2) := hB.trans (Below.trans (by repeat (first | exact Below.refl _ _ | refine Below.drew ?_)) (hB2.mono (by have := hB.size; exact this)))
        go_wp2
        go_roundg (n - (k + 1))
        case measure => omega
        case rel => exact ⟨k + 1, by omega, rfl, by go_num, by first | exact hB3.out | exact hB3.out.drew⟩
    · go_wp2
      go_ret
      exact ⟨rfl, hB⟩
end Go.Proofs.Ytclegljalndaear

/-
  The walk over the law FnExactLessKey, out of what the program's LessKey comes to.
-/
namespace Go.Proofs.Ytclegljalndaear
open Go.RowKit
set_option maxRecDepth 4000

set_option linter.unusedSimpArgs false in
set_option maxHeartbeats 4000000 in
theorem lawLessKey (a : Option Addr) (n cap : Nat) (fc ft : Nat → Int) (fu fd : Nat → Bool) (a1 : Option Addr) (m c1 : Nat) (fk fn : Nat → Int) (fs : Nat → ByteArray) (a2 : Option Addr) (m' c2 : Nat) (fk' fn' : Nat → Int) (fs' : Nat → ByteArray) (w : World) (h : PView w a n cap fc ft fu fd) (h1 : VView w a1 m c1 fk fn fs) (h2 : VView w a2 m' c2 fk' fn' fs') (hM : n ≤ maxLen) (hM1 : m ≤ maxLen) (hM2 : m' ≤ maxLen) (hz1 : ∀ i, i < m → (fs i).size ≤ maxLen) (hz2 : ∀ i, i < m' → (fs' i).size ≤ maxLen)
    (hI : n ≤ 1048576 → m ≤ 1048576 → m' ≤ 1048576 → ∀ (A A1 A2 : Option Addr) (W : World), PView W A n n fc ft fu fd → VView W A1 m m fk fn fs → VView W A2 m' m' fk' fn' fs' → Calls Try.prog 31 #[.slice A n n, .slice A1 m m, .slice A2 m' m'] W fun e w' => e = .returned (.bool (lessK n fd m fk fn fs m' fk' fn' fs')) ∧ Below W.heap.size W w') :
    Calls Try.prog 7 #[.slice a n cap, .slice a1 m c1, .slice a2 m' c2] w fun e w' => e = .returned (.bool true) ∧ Below w.heap.size w w' := by
  have hB : Below w.heap.size w w := Below.refl _ _
  obtain ⟨o, ho⟩ : ∃ o, Hid (lessK n fd m fk fn fs m' fk' fn' fs' = o) := ⟨_, rfl⟩
  go_enter Try.func7, Try.ntmps7
  go_wp2_with fail
  refine (szPartS_any a n cap 1048576 _ hM (by omega) (by omega)).mono ?_
  rintro e w0 ⟨L0, rfl, rfl, hL0⟩
  by_cases hneg0 : L0 < 0
  · go_wp2
    go_ret
    exact ⟨rfl, hB⟩
  have hn0 : n ≤ 1048576 ∧ 0 ≤ L0 ∧ L0 ≤ 1048576 := by omega
  clear hL0
  go_wp2_with fail
  refine (szValS_any a1 m c1 fk fn fs L0 _ (h1.below hB) hM1 hz1 (by omega) (by omega)).mono ?_
  rintro e w1 ⟨L1, rfl, hb, hL1⟩
  replace hB := hB.trans (hb.mono hB.size)
  clear hb
  by_cases hneg1 : L1 < 0
  · go_wp2
    go_ret
    exact ⟨rfl, hB⟩
  have hn1 : m ≤ 1048576 ∧ 0 ≤ L1 ∧ L1 ≤ 1048576 := by omega
  clear hL1
  go_wp2_with fail
  refine (szValS_any a2 m' c2 fk' fn' fs' L1 _ (h2.below hB) hM2 hz2 (by omega) (by omega)).mono ?_
  rintro e w2 ⟨L2, rfl, hb, hL2⟩
  replace hB := hB.trans (hb.mono hB.size)
  clear hb
  by_cases hneg2 : L2 < 0
  · go_wp2
    go_ret
    exact ⟨rfl, hB⟩
  have hn2 : m' ≤ 1048576 ∧ 0 ≤ L2 ∧ L2 ≤ 1048576 := by omega
  clear hL2
  replace hI := hI hn0.1 hn1.1 hn2.1
  go_wp2_with fail
  refine (toPartS_any a n cap fc ft fu fd _ (h.below hB) hn0.1).mono ?_
  rintro e W_hp ⟨rfl, hC⟩
  have hp := hC.view
  have hb := hC.below
  clear hC
  replace hB := hB.trans (hb.mono hB.size)
  clear hb
  go_wp2_with fail
  refine (toValS_any a1 m c1 fk fn fs _ (h1.below hB) hn1.1).mono ?_
  rintro e W_hv1 ⟨rfl, hv1, hb⟩
  replace hp := hp.below hb
  replace hB := hB.trans (hb.mono hB.size)
  clear hb
  go_wp2_with fail
  refine (toValS_any a2 m' c2 fk' fn' fs' _ (h2.below hB) hn2.1).mono ?_
  rintro e W_hv2 ⟨rfl, hv2, hb⟩
  replace hp := hp.below hb
  replace hv1 := hv1.below hb
  replace hB := hB.trans (hb.mono hB.size)
  clear hb
  go_wp2_with fail
  refine (specLessKey_any _ n n fc ft fu fd _ m m fk fn fs _ m' m' fk' fn' fs' _ hp hv1 hv2 (by omega) (by omega) (by omega)).mono ?_
  rw [ho.out]
  rintro e wA ⟨rfl, hb⟩
  replace hp := hp.below hb
  replace hv1 := hv1.below hb
  replace hv2 := hv2.below hb
  replace hB := hB.trans (hb.mono hB.size)
  clear hb
  clear hp hv1 hv2
  go_wp2_with fail
  refine (toPartS_any a n cap fc ft fu fd _ (h.below hB) hn0.1).mono ?_
  rintro e W_hp ⟨rfl, hC⟩
  have hp := hC.view
  have hb := hC.below
  clear hC
  replace hB := hB.trans (hb.mono hB.size)
  clear hb
  go_wp2_with fail
  refine (toValS_any a1 m c1 fk fn fs _ (h1.below hB) hn1.1).mono ?_
  rintro e W_hv1 ⟨rfl, hv1, hb⟩
  replace hp := hp.below hb
  replace hB := hB.trans (hb.mono hB.size)
  clear hb
  go_wp2_with fail
  refine (toValS_any a2 m' c2 fk' fn' fs' _ (h2.below hB) hn2.1).mono ?_
  rintro e W_hv2 ⟨rfl, hv2, hb⟩
  replace hp := hp.below hb
  replace hv1 := hv1.below hb
  replace hB := hB.trans (hb.mono hB.size)
  clear hb
  go_wp2_with fail
  refine (hI _ _ _ _ hp hv1 hv2).mono ?_
  rw [ho.out]
  rintro e wB ⟨rfl, hb⟩
  replace hp := hp.below hb
  replace hv1 := hv1.below hb
  replace hv2 := hv2.below hb
  replace hB := hB.trans (hb.mono hB.size)
  clear hb
  have q : (o != o) = false := by cases o <;> rfl
  go_wp2_with fail
  refine (toPartS_any a n cap fc ft fu fd _ (h.below hB) hn0.1).mono ?_
  rintro e W_hq ⟨rfl, hC⟩
  have hq := hC.view
  have hb := hC.below
  clear hC
  replace hp := hp.below hb
  replace hv1 := hv1.below hb
  replace hv2 := hv2.below hb
  replace hB := hB.trans (hb.mono hB.size)
  clear hb
  go_wp2_with fail
  refine (eqPartS_same _ _ n n n fc ft fu fd _ hp hq hn0.1).mono ?_
  rintro e wC ⟨rfl, hb⟩
  replace hp := hp.below hb
  replace hv1 := hv1.below hb
  replace hv2 := hv2.below hb
  replace hq := hq.below hb
  replace hB := hB.trans (hb.mono hB.size)
  clear hb
  clear hp hq
  go_wp2_with fail
  refine (toValS_any a1 m c1 fk fn fs _ (h1.below hB) hn1.1).mono ?_
  rintro e W_hq ⟨rfl, hq, hb⟩
  replace hv1 := hv1.below hb
  replace hv2 := hv2.below hb
  replace hB := hB.trans (hb.mono hB.size)
  clear hb
  go_wp2_with fail
  refine (eqValS_same _ _ m m m fk fn fs _ hv1 hq (by omega)).mono ?_
  rintro e wD ⟨rfl, hb⟩
  replace hv1 := hv1.below hb
  replace hv2 := hv2.below hb
  replace hq := hq.below hb
  replace hB := hB.trans (hb.mono hB.size)
  clear hb
  clear hv1 hq
  go_wp2_with fail
  refine (toValS_any a2 m' c2 fk' fn' fs' _ (h2.below hB) hn2.1).mono ?_
  rintro e W_hq ⟨rfl, hq, hb⟩
  replace hv2 := hv2.below hb
  replace hB := hB.trans (hb.mono hB.size)
  clear hb
  go_wp2_with fail
  refine (eqValS_same _ _ m' m' m' fk' fn' fs' _ hv2 hq (by omega)).mono ?_
  rintro e wE ⟨rfl, hb⟩
  replace hv2 := hv2.below hb
  replace hq := hq.below hb
  replace hB := hB.trans (hb.mono hB.size)
  clear hb
  clear hv2 hq
  go_wp2
  go_ret
  exact ⟨rfl, hB⟩
end Go.Proofs.Ytclegljalndaear

/-
  The program's LessPart: values as they stand, the other way round where it is asked.
-/
namespace Go.Proofs.Ytclegljalndaear
open Go.RowKit
set_option maxRecDepth 4000

set_option maxHeartbeats 1000000 in
theorem implLessPart_any (c t : Int) (nul d : Bool) (k n : Int) (s : ByteArray) (k' n' : Int) (s' : ByteArray) (w : World) :
    Calls Try.prog 52 #[.agg #[.int .i64 c, .int .i64 t, .bool nul, .bool d], .agg #[.int .i64 k, .int .i64 n, .string s], .agg #[.int .i64 k', .int .i64 n', .string s']] w fun e w' => e = .returned (.bool (lessP d k n s k' n' s')) ∧ Below w.heap.size w w' := by
  have hb0 : ∀ o o' o'', Below w.heap.size w (((w.alloc o).alloc o').alloc o'') := fun o o' o'' => (((Below.refl _ _).alloc (Nat.le_refl _) _).alloc (by simp) _).alloc (by simp; omega) _
  cases d with
  | true =>
    go_enter Try.func52, Try.ntmps52
    go_wp2_with fail
    refine (lessVal_impl k' n' s' k n s _).mono ?_
    rintro e w1 ⟨rfl, hb1⟩
    have HB : Hid (Below w.heap.size w w1) := (hb0 _ _ _).trans (hb1.mono (by simp; omega))
    clear hb1 hb0
    go_wp2
    go_ret
    exact ⟨rfl, HB.out⟩
  | false =>
    go_enter Try.func52, Try.ntmps52
    go_wp2_with fail
    refine (lessVal_impl k n s k' n' s' _).mono ?_
    rintro e w1 ⟨rfl, hb1⟩
    have HB : Hid (Below w.heap.size w w1) := (hb0 _ _ _).trans (hb1.mono (by simp; omega))
    clear hb1 hb0
    go_wp2
    go_ret
    exact ⟨rfl, HB.out⟩
end Go.Proofs.Ytclegljalndaear

