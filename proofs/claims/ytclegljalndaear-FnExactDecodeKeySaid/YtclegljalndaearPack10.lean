/-
  Together: ValHelp, RowCopy, RowVMore, EqVal, EqValS, RowBut, PartRowEq, LawDecodeKey, PartsIn
-/
import Derived.Test.YtclegljalndaearPack2
import Derived.Test.YtclegljalndaearPack9
import Derived.Deep.LoopGhost
import Derived.Deep.RegionHeld3
import Derived.Test.YtclegljalndaearPack3
import Derived.Test.YtclegljalndaearPack6
import Derived.Lib.SmallJoins
import Derived.Deep.Strs
/-
  What the law's own helpers over values come to.
-/
namespace Go.Proofs.Ytclegljalndaear
open Go.RowKit
set_option maxRecDepth 4000

set_option maxHeartbeats 1000000 in
theorem szVal_small (k n : Int) (s : ByteArray) (left : Int) (w : World) (h : (s.size : Int) ≤ left) (hl : left ≤ 1048576) :
    Calls Try.prog 38 #[.agg #[.int .i64 k, .int .i64 n, .string s], .int .i64 left] w fun e w' => e = .returned (.int .i64 (left - s.size)) ∧ Below w.heap.size w w' := by
  have h1 : ¬ left - (s.size : Int) < 0 := by omega
  go_enter Try.func38, Try.ntmps38
  go_wp2
  go_ret
  exact ⟨rfl, (Below.refl _ _).alloc (Nat.le_refl _) _⟩

set_option maxHeartbeats 1000000 in
theorem szVal_big (k n : Int) (s : ByteArray) (left : Int) (w : World) (h : left < (s.size : Int)) (h0 : 0 ≤ left) (hs : s.size ≤ maxLen) :
    Calls Try.prog 38 #[.agg #[.int .i64 k, .int .i64 n, .string s], .int .i64 left] w fun e w' => e = .returned (.int .i64 (-1)) ∧ Below w.heap.size w w' := by
  have h1 : left - (s.size : Int) < 0 := by omega
  have hs : (s.size : Int) ≤ 9223372036854775807 := by unfold maxLen at hs; omega
  go_enter Try.func38, Try.ntmps38
  go_wp2
  go_ret
  exact ⟨rfl, (Below.refl _ _).alloc (Nat.le_refl _) _⟩

set_option maxHeartbeats 1000000 in
theorem toVal_any (k n : Int) (s : ByteArray) (w : World) :
    Calls Try.prog 40 #[.agg #[.int .i64 k, .int .i64 n, .string s]] w fun e w' => e = .returned (.agg #[.int .i64 k, .int .i64 n, .string s]) ∧ Below w.heap.size w w' := by
  go_enter Try.func40, Try.ntmps40
  go_wp2
  refine bodyPost_ret (v := valAgg k n s) (by simp [results, Try.results40, go_sem, valAgg]) rfl ⟨rfl, ?_⟩
  repeat (first | exact Below.refl _ _ | refine Below.alloc ?_ (by simp <;> omega) _ | refine Below.drew ?_)
end Go.Proofs.Ytclegljalndaear

/-
  A row of values copied into a new one, as the law does it.
-/
namespace Go.Proofs.Ytclegljalndaear
open Go.RowKit
set_option maxRecDepth 4000

def cellF (fk fn : Nat → Int) (fs : Nat → ByteArray) (j : Nat) : Value := if j % 3 = 0 then .int .i64 (fk (j / 3)) else if j % 3 = 1 then .int .i64 (fn (j / 3)) else .string (fs (j / 3))
def zeroF (j : Nat) : Value := if j % 3 = 0 then .int .i64 0 else if j % 3 = 1 then .int .i64 0 else .string ⟨#[]⟩

theorem Try.infoVal : (Try.prog.info? 59).map (fun i => (i.zero, i.size, i.bytes)) = some (some (.agg #[.int .i64 0, .int .i64 0, .string ⟨#[]⟩]), 3, 32) := by kernel_rfl

theorem make_vals (n : Nat) (h : n ≤ 1048576) (w : World) : (Instr.makeSlice 32 (.int .i64 (n : Int)) (.int .i64 (n : Int))).run Try.prog w = .ok (.slice (some ⟨w.heap.size, 0, none⟩) n n) (w.alloc (.cells (madeCells #[.int .i64 0, .int .i64 0, .string ⟨#[]⟩] (n * 3)) 59)) := by
  obtain ⟨i, hi, hzz⟩ := Option.map_eq_some_iff.1 Try.infoVal
  simp only [Prod.mk.injEq] at hzz
  obtain ⟨hz, hs, hb⟩ := hzz
  have hr := run_make (P := Try.prog) w 32 59 i _ Try.underlying32 hi hz .i64 .i64 n n (by omega) (Int.le_refl _) (by rw [hb]; omega) (by omega)
  simp only [Int.toNat_natCast, hs] at hr
  exact hr

/-- k of the n values are copied into the new row. -/
structure CopiedV (w wr : World) (n : Nat) (fk fn : Nat → Int) (fs : Nat → ByteArray) (k : Nat) : Prop where
  below : Below w.heap.size w wr
  size : w.heap.size < wr.heap.size
  row : wr.rowIs w.heap.size 59 (n * 3) (fun j => if j < k * 3 then cellF fk fn fs j else zeroF j)

theorem copiedV_start (w : World) (n : Nat) (fk fn : Nat → Int) (fs : Nat → ByteArray) : CopiedV w (w.alloc (.cells (madeCells #[.int .i64 0, .int .i64 0, .string ⟨#[]⟩] (n * 3)) 59)) n fk fn fs 0 := by
  have hr := World.rowIs_alloc w (madeCells #[.int .i64 0, .int .i64 0, .string ⟨#[]⟩] (n * 3)) 59 zeroF (fun i hi => by
    rw [size_madeCells] at hi
    simp [madeCells, hi, zeroF]
    have h3 : i % 3 = 0 ∨ i % 3 = 1 ∨ i % 3 = 2 := by omega
    rcases h3 with h | h | h <;> simp [h])
  rw [size_madeCells] at hr
  exact ⟨(Below.refl _ _).alloc (Nat.le_refl _) _, by simp, hr.congr (fun i _ => by simp)⟩

theorem rowIs_below {w w' : World} {b : Nat} {t : TypeId} {m : Nat} {f : Nat → Value} (h : w.rowIs b t m f) (hb : Below w.heap.size w w') (hlt : b < w.heap.size) : w'.rowIs b t m f := by
  obtain ⟨c, h1, h2, h3⟩ := h
  exact ⟨c, by rw [hb.block b hlt]; exact h1, h2, h3⟩

theorem CopiedV.step {w wr w2 : World} {n : Nat} {fk fn : Nat → Int} {fs : Nat → ByteArray} {k : Nat} (h : CopiedV w wr n fk fn fs k) (hb : Below wr.heap.size wr w2) : CopiedV w w2 n fk fn fs k :=
  ⟨h.below.trans (hb.mono h.below.size), Nat.lt_of_lt_of_le h.size hb.size, rowIs_below h.row hb h.size⟩

theorem CopiedV.put {w wr : World} {n : Nat} {fk fn : Nat → Int} {fs : Nat → ByteArray} {k : Nat} (h : CopiedV w wr n fk fn fs k) :
    CopiedV w (((wr.setCell ⟨w.heap.size, k * 3, none⟩ (.int .i64 (fk k))).setCell ⟨w.heap.size, k * 3 + 1, none⟩ (.int .i64 (fn k))).setCell ⟨w.heap.size, k * 3 + 2, none⟩ (.string (fs k))) n fk fn fs (k + 1) := by
  refine ⟨((h.below.setCell (Nat.le_refl _) _).setCell (Nat.le_refl _) _).setCell (Nat.le_refl _) _, by simpa using h.size, ((((h.row.set _ _).set _ _).set _ _).congr (fun i _ => ?_))⟩
  by_cases e2 : i = k * 3 + 2
  · subst e2
    have : (k * 3 + 2) % 3 = 2 := by omega
    have d : (k * 3 + 2) / 3 = k := by omega
    simp [cellF, this, d, show k * 3 + 2 < (k + 1) * 3 by omega]
  by_cases e1 : i = k * 3 + 1
  · subst e1
    have : (k * 3 + 1) % 3 = 1 := by omega
    have d : (k * 3 + 1) / 3 = k := by omega
    simp [cellF, this, d, show k * 3 + 1 < (k + 1) * 3 by omega]
  by_cases e0 : i = k * 3
  · subst e0
    have : (k * 3) % 3 = 0 := by omega
    have d : (k * 3) / 3 = k := by omega
    simp [cellF, this, d, show k * 3 < (k + 1) * 3 by omega]
  · simp only [e0, e1, e2, if_false]
    by_cases hlt : i < k * 3
    · rw [if_pos hlt, if_pos (by omega)]
    · rw [if_neg hlt, if_neg (by omega)]

theorem CopiedV.view {w wr : World} {n : Nat} {fk fn : Nat → Int} {fs : Nat → ByteArray} (h : CopiedV w wr n fk fn fs n) : VView wr (some ⟨w.heap.size, 0, none⟩) n n fk fn fs := by
  refine ⟨Nat.le_refl _, fun _ => ⟨_, 0, rfl, h.size, fun i hi => ?_⟩⟩
  have c0 := h.row.cell (i := i * 3) (by omega)
  have c1 := h.row.cell (i := i * 3 + 1) (by omega)
  have c2 := h.row.cell (i := i * 3 + 2) (by omega)
  simp only [show i * 3 < n * 3 by omega, show i * 3 + 1 < n * 3 by omega, show i * 3 + 2 < n * 3 by omega, if_true, cellF] at c0 c1 c2
  have m0 : (i * 3) % 3 = 0 := by omega
  have m1 : (i * 3 + 1) % 3 = 1 := by omega
  have m2 : (i * 3 + 2) % 3 = 2 := by omega
  have d0 : (i * 3) / 3 = i := by omega
  have d1 : (i * 3 + 1) / 3 = i := by omega
  have d2 : (i * 3 + 2) / 3 = i := by omega
  simp only [m0, m1, m2, d0, d1, d2] at c0 c1 c2
  rw [Nat.zero_add]
  exact ⟨by simpa using c0, by simpa using c1, by simpa using c2⟩

set_option maxHeartbeats 2000000 in
theorem toValS_row (a : Option Addr) (n cap : Nat) (fk fn : Nat → Int) (fs : Nat → ByteArray) (w : World) (h : VView w a n cap fk fn fs) (hn : n ≤ 1048576) :
    Calls Try.prog 16 #[.slice a n cap] w fun e w' => e = .returned (.slice (some ⟨w.heap.size, 0, none⟩) n n) ∧ CopiedV w w' n fk fn fs n := by
  have hmk := fun W => make_vals n hn W
  go_enter Try.func16, Try.ntmps16
  go_wp2
  clear hmk
  go_loopg [4] n (fun q i wr => ∃ k : Nat, k ≤ n ∧ q = n - k ∧ i = .int .i64 k ∧ CopiedV w wr n fk fn fs k)
  case atStart => exact ⟨0, Nat.zero_le _, rfl, rfl, copiedV_start w n fk fn fs⟩
  case round =>
    obtain ⟨k, hk, rfl, rfl, hC⟩ := hrel
    by_cases hlt : k < n
    · obtain ⟨b1, o1, rfl, hb1, hc1⟩ := (h.below hC.below).cells (by omega)
      obtain ⟨x0, x1, x2⟩ := hc1 k hlt
      have hkz : (k : Int) < (n : Int) := by omega
      have hV := fun W => toVal_any (fk k) (fn k) (fs k) W
      go_wp2_with fail
      refine (hV _).mono ?_
      rintro e w2 ⟨rfl, hB2⟩
      have hC2 := hC.step hB2
      have hS : Hid _ := hC2.put
      have z0 := hC2.row.cell (i := k * 3) (by omega)
      have z1 := hC2.row.cell (i := k * 3 + 1) (by omega)
      have z2 := hC2.row.cell (i := k * 3 + 2) (by omega)
      have f0 := hC2.row.frozen (k * 3)
      have f1 := hC2.row.frozen (k * 3 + 1)
      have f2 := hC2.row.frozen (k * 3 + 2)
      clear hc1 hC hC2 hB2 hV x0 x1 x2 h
      go_wp2
      go_roundg (n - (k + 1))
      case measure => omega
      case rel => exact ⟨k + 1, by omega, rfl, by go_num, hS.out⟩
    · have hkn : k = n := by omega
      have hkz : ¬ (k : Int) < (n : Int) := by omega
      rw [hkn] at hC
      have hS : Hid (CopiedV w wr n fk fn fs n) := hC
      clear hC
      go_wp2
      go_ret
      exact ⟨rfl, hS.out⟩

theorem toValS_any (a : Option Addr) (n cap : Nat) (fk fn : Nat → Int) (fs : Nat → ByteArray) (w : World) (h : VView w a n cap fk fn fs) (hn : n ≤ 1048576) :
    Calls Try.prog 16 #[.slice a n cap] w fun e w' => e = .returned (.slice (some ⟨w.heap.size, 0, none⟩) n n) ∧ VView w' (some ⟨w.heap.size, 0, none⟩) n n fk fn fs ∧ Below w.heap.size w w' :=
  (toValS_row a n cap fk fn fs w h hn).mono (fun _ _ h => ⟨h.1, h.2.view, h.2.below⟩)
end Go.Proofs.Ytclegljalndaear

/-
  Rows of values of the call's own: how they read, how they are carried.
-/
namespace Go.Proofs.Ytclegljalndaear
open Go.RowKit
set_option maxRecDepth 4000

theorem RowV.belowAll {w w' : World} {b n : Nat} {F : Nat → Value} (h : RowV w b n F) (hb : Below w.heap.size w w') : RowV w' b n F := h.of_block (hb.block b h.lt)
theorem RowV.but {w w' : World} {g b n : Nat} {F : Nat → Value} (h : RowV w b n F) (hb : But g w w') (hne : b ≠ g) : RowV w' b n F := h.of_block (hb.block b h.lt hne)
theorem RowV.vview {w : World} {b n c : Nat} {gk gn : Nat → Int} {gs : Nat → ByteArray} (h : RowV w b n (fun i => (rowC gk gn gs n).getD i .nilFunc)) (hc : n ≤ c) : VView w (some ⟨b, 0, none⟩) n c gk gn gs := by
  refine ⟨hc, fun _ => ⟨b, 0, rfl, h.lt, fun i hi => ?_⟩⟩
  have c0 := h.cell (i := i * 3) (by omega)
  have c1 := h.cell (i := i * 3 + 1) (by omega)
  have c2 := h.cell (i := i * 3 + 2) (by omega)
  obtain ⟨g0, g1, g2⟩ := rowC_get gk gn gs n i hi
  simp only [List.getD, g0, g1, g2, Option.getD_some] at c0 c1 c2
  simp only [Nat.zero_add]
  exact ⟨c0, c1, c2⟩
theorem RowV.ofIs {w : World} {b n : Nat} {F : Nat → Value} (h : w.rowIs b 59 (n * 3) F) : RowV w b n F := by
  obtain ⟨c, hb, hn, hc⟩ := h
  exact ⟨c, hb, by omega, hc⟩
end Go.Proofs.Ytclegljalndaear

/-
  What the law's own helper eqVal comes to, at the same value twice.
-/
namespace Go.Proofs.Ytclegljalndaear
open Go.RowKit
set_option maxRecDepth 4000

set_option maxHeartbeats 1000000 in
theorem eqVal_same (k n : Int) (s : ByteArray) (w : World) :
    Calls Try.prog 43 #[.agg #[.int .i64 k, .int .i64 n, .string s], .agg #[.int .i64 k, .int .i64 n, .string s]] w fun e w' => e = .returned (.bool true) ∧ Below w.heap.size w w' := by
  have e1 : (k != k) = false := by simp
  have e2 : (n != n) = false := by simp
  go_enter Try.func43, Try.ntmps43
  go_wp2
  go_ret
  refine ⟨rfl, ?_⟩
  repeat (first | exact Below.refl _ _ | refine Below.alloc ?_ (by simp <;> omega) _ | refine Below.drew ?_)
end Go.Proofs.Ytclegljalndaear

/-
  Two rows of values that read alike are alike, as the law holds them against each other.
-/
namespace Go.Proofs.Ytclegljalndaear
open Go.RowKit
set_option maxRecDepth 4000

set_option maxHeartbeats 2000000 in
theorem eqValS_same (a1 a2 : Option Addr) (n c1 c2 : Nat) (fk fn : Nat → Int) (fs : Nat → ByteArray) (w : World) (h1 : VView w a1 n c1 fk fn fs) (h2 : VView w a2 n c2 fk fn fs) (hn : n ≤ 281474976710656) :
    Calls Try.prog 18 #[.slice a1 n c1, .slice a2 n c2] w fun e w' => e = .returned (.bool true) ∧ Below w.heap.size w w' := by
  go_enter Try.func18, Try.ntmps18
  go_wp2
  go_loopg [5] n (fun q i wr => ∃ k : Nat, k ≤ n ∧ q = n - k ∧ i = .int .i64 k ∧ Below w.heap.size w wr)
  case atStart => exact ⟨0, Nat.zero_le _, rfl, rfl, Below.refl _ _⟩
  case round =>
    obtain ⟨k, hk, rfl, rfl, hB⟩ := hrel
    by_cases hlt : k < n
    · obtain ⟨b1, o1, rfl, hb1, hc1⟩ := (h1.below hB).cells (by omega)
      obtain ⟨b2, o2, rfl, hb2, hc2⟩ := (h2.below hB).cells (by omega)
      obtain ⟨x0, x1, x2⟩ := hc1 k hlt
      obtain ⟨y0, y1, y2⟩ := hc2 k hlt
      have hkz : (k : Int) < (n : Int) := by omega
      have hV := fun W => eqVal_same (fk k) (fn k) (fs k) W
      clear hc1 hc2 h1 h2
      generalize fk k = p0 at *
      generalize fn k = p1 at *
      generalize fs k = p2 at *
      go_wp2_with fail
      go_region_held3 (fun W => (W.cell? ⟨b1, o1 + k * 3, none⟩ = some (.int .i64 p0) ∧ W.cell? ⟨b1, o1 + k * 3 + 1, none⟩ = some (.int .i64 p1) ∧ W.cell? ⟨b1, o1 + k * 3 + 2, none⟩ = some (.string p2)) ∧ (W.cell? ⟨b2, o2 + k * 3, none⟩ = some (.int .i64 p0) ∧ W.cell? ⟨b2, o2 + k * 3 + 1, none⟩ = some (.int .i64 p1) ∧ W.cell? ⟨b2, o2 + k * 3 + 2, none⟩ = some (.string p2))) (first | assumption | go_keep) (first | (go_at_call 43; refine (hV _).mono ?_; rintro e w2 ⟨rfl, hB2⟩; have hcells : (w2.cell? ⟨b1, o1 + k * 3, none⟩ = some (.int .i64 p0) ∧ w2.cell? ⟨b1, o1 + k * 3 + 1, none⟩ = some (.int .i64 p1) ∧ w2.cell? ⟨b1, o1 + k * 3 + 2, none⟩ = some (.string p2)) ∧ (w2.cell? ⟨b2, o2 + k * 3, none⟩ = some (.int .i64 p0) ∧ w2.cell? ⟨b2, o2 + k * 3 + 1, none⟩ = some (.int .i64 p1) ∧ w2.cell? ⟨b2, o2 + k * 3 + 2, none⟩ = some (.string p2)) := (by (refine ⟨⟨?_, ?_, ?_⟩, ?_, ?_, ?_⟩ <;> (rw [hB2.cell (by first | exact hb1 | exact hb2)]; assumption)))))
      all_goals
        have hB3 : Hid (Below w.heap.size w w2) := hB.trans (Below.trans (by repeat (first | exact Below.refl _ _ | refine Below.drew ?_)) (hB2.mono (by have := hB.size; exact this)))
        go_wp2
        go_roundg (n - (k + 1))
        case measure => omega
        case rel => exact ⟨k + 1, by omega, rfl, by go_num, by first | exact hB3.out | exact hB3.out.drew⟩
    · go_wp2
      go_ret
      exact ⟨rfl, hB⟩
end Go.Proofs.Ytclegljalndaear

/-
  A row of bytes is carried where one other block turns.
-/
namespace Go.Proofs.Ytclegljalndaear
open Go.RowKit
set_option maxRecDepth 4000
theorem Row.but {t : TypeId} {w w' : World} {g b n : Nat} {f : Nat → Int} (hr : Row t w b n f) (h : But g w w') (hne : b ≠ g) : Row t w' b n f := h.row hr hne
end Go.Proofs.Ytclegljalndaear

/-
  Two lists of parts that read alike are alike, as the law holds them against each other.
-/
namespace Go.Proofs.Ytclegljalndaear
open Go.RowKit
set_option maxRecDepth 4000

set_option maxHeartbeats 1000000 in
theorem eqPart_same (c t : Int) (nul d : Bool) (w : World) :
    Calls Try.prog 37 #[.agg #[.int .i64 c, .int .i64 t, .bool nul, .bool d], .agg #[.int .i64 c, .int .i64 t, .bool nul, .bool d]] w fun e w' => e = .returned (.bool true) ∧ Below w.heap.size w w' := by
  have q1 : (c != c) = false := by simp
  have q2 : (t != t) = false := by simp
  have q3 : (nul != nul) = false := by cases nul <;> rfl
  have q4 : (d != d) = false := by cases d <;> rfl
  have hb : ∀ o o', Below w.heap.size w ((w.alloc o).alloc o') := fun o o' => ((Below.refl _ _).alloc (Nat.le_refl _) _).alloc (by simp) _
  go_enter Try.func37, Try.ntmps37
  go_wp2
  go_ret
  exact ⟨rfl, hb _ _⟩

set_option maxHeartbeats 2000000 in
theorem eqPartS_same (a1 a2 : Option Addr) (n c1 c2 : Nat) (fc ft : Nat → Int) (fu fd : Nat → Bool) (w : World) (h1 : PView w a1 n c1 fc ft fu fd) (h2 : PView w a2 n c2 fc ft fu fd) (hn : n ≤ 1048576) :
    Calls Try.prog 13 #[.slice a1 n c1, .slice a2 n c2] w fun e w' => e = .returned (.bool true) ∧ Below w.heap.size w w' := by
  have hnn : ((n : Int) != (n : Int)) = false := by simp
  have hc1 := h1.le
  have hc2 := h2.le
  go_enter Try.func13, Try.ntmps13
  go_wp2
  go_loopg [5] n (fun q i wr => ∃ k : Nat, k ≤ n ∧ q = n - k ∧ i = .int .i64 k ∧ Below w.heap.size w wr)
  case atStart => exact ⟨0, Nat.zero_le _, rfl, rfl, Below.refl _ _⟩
  case round =>
    obtain ⟨k, hk, rfl, rfl, hB⟩ := hrel
    by_cases hlt : k < n
    · obtain ⟨b1, o1, rfl, hb1, hd1⟩ := (h1.below hB).cells (by omega)
      obtain ⟨b2, o2, rfl, hb2, hd2⟩ := (h2.below hB).cells (by omega)
      obtain ⟨x0, x1, x2, x3⟩ := hd1 k hlt
      obtain ⟨y0, y1, y2, y3⟩ := hd2 k hlt
      have hkz : (k : Int) < (n : Int) := by omega
      clear hd1 hd2 h1 h2
      generalize fc k = p0 at *
      generalize ft k = p1 at *
      generalize fu k = p2 at *
      generalize fd k = p3 at *
      have hV := fun W => eqPart_same p0 p1 p2 p3 W
      go_wp2_with fail
      go_region_held3 (fun W => (W.cell? ⟨b1, o1 + k * 4, none⟩ = some (.int .i64 p0) ∧ W.cell? ⟨b1, o1 + k * 4 + 1, none⟩ = some (.int .i64 p1) ∧ W.cell? ⟨b1, o1 + k * 4 + 2, none⟩ = some (.bool p2) ∧ W.cell? ⟨b1, o1 + k * 4 + 3, none⟩ = some (.bool p3)) ∧ (W.cell? ⟨b2, o2 + k * 4, none⟩ = some (.int .i64 p0) ∧ W.cell? ⟨b2, o2 + k * 4 + 1, none⟩ = some (.int .i64 p1) ∧ W.cell? ⟨b2, o2 + k * 4 + 2, none⟩ = some (.bool p2) ∧ W.cell? ⟨b2, o2 + k * 4 + 3, none⟩ = some (.bool p3))) (first | assumption | go_keep) (first | (go_at_call 37; refine (hV _).mono ?_; rintro e w2 ⟨rfl, hB2⟩; have hcells : (w2.cell? ⟨b1, o1 + k * 4, none⟩ = some (.int .i64 p0) ∧ w2.cell? ⟨b1, o1 + k * 4 + 1, none⟩ = some (.int .i64 p1) ∧ w2.cell? ⟨b1, o1 + k * 4 + 2, none⟩ = some (.bool p2) ∧ w2.cell? ⟨b1, o1 + k * 4 + 3, none⟩ = some (.bool p3)) ∧ (w2.cell? ⟨b2, o2 + k * 4, none⟩ = some (.int .i64 p0) ∧ w2.cell? ⟨b2, o2 + k * 4 + 1, none⟩ = some (.int .i64 p1) ∧ w2.cell? ⟨b2, o2 + k * 4 + 2, none⟩ = some (.bool p2) ∧ w2.cell? ⟨b2, o2 + k * 4 + 3, none⟩ = some (.bool p3)) := (by (refine ⟨⟨?_, ?_, ?_, ?_⟩, ?_, ?_, ?_, ?_⟩ <;> (rw [hB2.cell (by first | exact hb1 | exact hb2)]; assumption)))))
      all_goals
        have hB3 : Hid (Below w.heap.size w w2) := hB.trans (Below.trans (by repeat (first | exact Below.refl _ _ | refine Below.drew ?_)) (hB2.mono (by have := hB.size; exact this)))
        go_wp2
        go_roundg (n - (k + 1))
        case measure => omega
        case rel => exact ⟨k + 1, by omega, rfl, by go_num, by first | exact hB3.out | exact hB3.out.drew⟩
    · have hkz : ¬ (k : Int) < (n : Int) := by omega
      go_wp2
      go_ret
      exact ⟨rfl, hB⟩
end Go.Proofs.Ytclegljalndaear

/-
  The walk over the law FnExactDecodeKey.
-/
namespace Go.Proofs.Ytclegljalndaear
open Go.RowKit
set_option maxRecDepth 4000

set_option linter.unusedSimpArgs false in
set_option maxHeartbeats 4000000 in
theorem lawDecodeKey (a : Option Addr) (n cap : Nat) (fc ft : Nat → Int) (fu fd : Nat → Bool) (a1 : Option Addr) (N cb : Nat) (F : Nat → Int) (w : World) (h : PView w a n cap fc ft fu fd) (h1 : View w a1 N cb F) (hM : n ≤ maxLen) :
    Calls Try.prog 6 #[.slice a n cap, .slice a1 N cb] w fun e w' => e = .returned (.bool true) ∧ Below w.heap.size w w' := by
  have hB : Below w.heap.size w w := Below.refl _ _
  obtain ⟨o, ho⟩ : ∃ o, Hid (decOk N F fc ft fu fd n = o) := ⟨_, rfl⟩
  obtain ⟨MM, hMM⟩ : ∃ MM, Hid ((if o = true then n else 0) = MM) := ⟨_, rfl⟩
  have hMn : MM ≤ n := by rw [← hMM.out]; split <;> omega
  go_enter Try.func6, Try.ntmps6
  by_cases hN : N > 1048576
  · have hNz : (N : Int) > 1048576 := by omega
    go_wp2
    go_ret
    exact ⟨rfl, hB⟩
  have hNz : ¬ (N : Int) > 1048576 := by omega
  go_wp2_with fail
  refine (szPartS_any a n cap 1048576 _ hM (by omega) (by omega)).mono ?_
  rintro e w0 ⟨L0, rfl, rfl, hL0⟩
  by_cases hneg0 : L0 < 0
  · go_wp2
    go_ret
    exact ⟨rfl, hB⟩
  have hn0 : n ≤ 1048576 ∧ 0 ≤ L0 ∧ L0 ≤ 1048576 := by omega
  clear hL0
  go_wp2_with fail
  refine (toPartS_any a n cap fc ft fu fd _ (h.below hB) hn0.1).mono ?_
  rintro e W_hp ⟨rfl, hC⟩
  have hp := hC.view
  have hb := hC.below
  have sz_hp := hC.size
  clear hC
  replace hB := hB.trans (hb.mono hB.size)
  clear hb
  go_wp2_with fail
  refine (toByteS_any a1 N cb F _ (h1.below hB) (by omega)).mono ?_
  rintro e W_hv ⟨rfl, hC, hb, hz⟩
  have hv := (Row.ofIs hC).view (Nat.le_refl _) h1.byte
  have sz_hv : _ = _ + 1 := hz
  clear hC hz
  replace hp := hp.below hb
  replace hB := hB.trans (hb.mono hB.size)
  clear hb
  go_wp2_with fail
  refine (specDecodeKey_any _ n n fc ft fu fd _ _ N N F _ hp hv hn0.1 (by omega)).mono ?_
  rintro e wA ⟨v0, M0, he, hne, hM0, hO, hb⟩
  rw [ho.out] at he hM0
  rw [hMM.out] at hM0
  rw [hM0] at hO
  clear hM0
  subst he
  obtain ⟨gs, cs, rfl, hw0n, hw0c, hw0⟩ := RowV.ofOwn hO hne
  clear hO hne
  replace hp := hp.below hb
  replace hv := hv.below hb
  replace hB := hB.trans (hb.mono hB.size)
  clear hb
  clear hp hv
  clear sz_hp sz_hv
  have lw0 := hw0.lt
  have sB0 := hB.size
  go_wp2_with fail
  refine (toPartS_any a n cap fc ft fu fd _ (h.below hB) hn0.1).mono ?_
  rintro e W_hp ⟨rfl, hC⟩
  have hp := hC.view
  have hb := hC.below
  have hpr := hC.row
  have sz_hp := hC.size
  clear hC
  replace hw0 := hw0.belowAll hb
  replace hB := hB.trans (hb.mono hB.size)
  clear hb
  go_wp2_with fail
  refine (toByteS_any a1 N cb F _ (h1.below hB) (by omega)).mono ?_
  rintro e W_hv ⟨rfl, hC, hb, hz⟩
  have hv := (Row.ofIs hC).view (Nat.le_refl _) h1.byte
  have hvr := Row.ofIs hC
  have sz_hv : _ = _ + 1 := hz
  clear hC hz
  replace hw0 := hw0.belowAll hb
  replace hp := hp.below hb
  replace hpr := rowIs_belowP hpr hb (World.rowIs.lt hpr)
  replace hB := hB.trans (hb.mono hB.size)
  clear hb
  have lpr := World.rowIs.lt hpr
  have lvr := hvr.lt
  go_wp2_with fail
  refine (implDecodeKey_any _ n n fc ft fu fd _ _ N N F _ hp hv (by omega) (by omega)).mono ?_
  rintro e wB ⟨v1, M0, he, hne, hM0, hO, hb⟩
  rw [ho.out] at he hM0
  rw [hMM.out] at hM0
  rw [hM0] at hO
  clear hM0
  subst he
  obtain ⟨g, cg, rfl, hgn, hgc, hg⟩ := RowV.ofOwn hO hne
  clear hO hne
  replace hw0 := hw0.belowAll hb
  replace hp := hp.below hb
  replace hpr := rowIs_belowP hpr hb (World.rowIs.lt hpr)
  replace hv := hv.below hb
  replace hvr := hvr.belowAll hb
  replace hB := hB.trans (hb.mono hB.size)
  clear hb
  have q : (o != o) = false := by cases o <;> rfl
  have hVw := RowV.vview (c := cs) hw0 hw0c
  have hVg := RowV.vview (c := cg) hg hgc
  go_wp2_with fail
  refine (eqValS_same _ _ MM cg cs (decK N F fc ft fu fd) (decNm N F fc ft fu fd) (decS N F fc ft fu fd) _ hVg hVw (by omega)).mono ?_
  rintro e wC ⟨rfl, hb⟩
  replace hw0 := hw0.belowAll hb
  replace hp := hp.below hb
  replace hpr := rowIs_belowP hpr hb (World.rowIs.lt hpr)
  replace hv := hv.below hb
  replace hvr := hvr.belowAll hb
  replace hg := hg.belowAll hb
  replace hB := hB.trans (hb.mono hB.size)
  clear hb
  clear hVw hVg
  go_wp2_with fail
  refine (toPartS_any a n cap fc ft fu fd _ (h.below hB) hn0.1).mono ?_
  rintro e W_hq ⟨rfl, hC⟩
  have hq := hC.view
  have hb := hC.below
  have sz_hq := hC.size
  clear hC
  replace hw0 := hw0.belowAll hb
  replace hp := hp.below hb
  replace hpr := rowIs_belowP hpr hb (World.rowIs.lt hpr)
  replace hv := hv.below hb
  replace hvr := hvr.belowAll hb
  replace hg := hg.belowAll hb
  replace hB := hB.trans (hb.mono hB.size)
  clear hb
  go_wp2_with fail
  refine (eqPartS_same _ _ n n n fc ft fu fd _ hp hq hn0.1).mono ?_
  rintro e wD ⟨rfl, hb⟩
  replace hw0 := hw0.belowAll hb
  replace hp := hp.below hb
  replace hpr := rowIs_belowP hpr hb (World.rowIs.lt hpr)
  replace hv := hv.below hb
  replace hvr := hvr.belowAll hb
  replace hg := hg.belowAll hb
  replace hq := hq.below hb
  replace hB := hB.trans (hb.mono hB.size)
  clear hb
  clear hp hq
  clear sz_hq
  go_wp2_with fail
  refine (toByteS_any a1 N cb F _ (h1.below hB) (by omega)).mono ?_
  rintro e W_hq ⟨rfl, hC, hb, hz⟩
  have hq := (Row.ofIs hC).view (Nat.le_refl _) h1.byte
  have sz_hq : _ = _ + 1 := hz
  clear hC hz
  replace hw0 := hw0.belowAll hb
  replace hpr := rowIs_belowP hpr hb (World.rowIs.lt hpr)
  replace hv := hv.below hb
  replace hvr := hvr.belowAll hb
  replace hg := hg.belowAll hb
  replace hB := hB.trans (hb.mono hB.size)
  clear hb
  go_wp2_with fail
  refine (eqByteS_same _ _ N N N F F _ hv hq (by omega) (fun _ _ => rfl)).mono ?_
  rintro e wE ⟨rfl, hb⟩
  replace hw0 := hw0.belowAll hb
  replace hpr := rowIs_belowP hpr hb (World.rowIs.lt hpr)
  replace hv := hv.below hb
  replace hvr := hvr.belowAll hb
  replace hg := hg.belowAll hb
  replace hq := hq.below hb
  replace hB := hB.trans (hb.mono hB.size)
  clear hb
  clear hv hq
  clear sz_hq
  go_wp2_with fail
  refine (markPartS_any _ n n _ 1 _ hpr (by omega) (by omega)).mono ?_
  rintro e wM ⟨rfl, hO⟩
  have hbt := But.ofOnly hO
  clear hO hpr
  replace hw0 := hw0.but hbt (by omega)
  replace hvr := hvr.but hbt (by omega)
  replace hg := hg.but hbt (by omega)
  replace hB := hB.trans (hbt.below (by omega) hB.size)
  clear hbt
  go_wp2_with fail
  refine (mark_any _ N N _ (1 + 4 * n) _ hvr (by omega) (by omega)).mono ?_
  rintro e wN ⟨rfl, hO1, hO⟩
  have hbt := But.ofOnly hO
  clear hO hO1 hvr
  replace hw0 := hw0.but hbt (by omega)
  replace hg := hg.but hbt (by omega)
  replace hB := hB.trans (hbt.below (by omega) hB.size)
  clear hbt
  have hkk : ¬ (1 + 4 * (n : Int) + (N : Int)) < 0 := by omega
  have hVw := RowV.vview (c := cs) hw0 hw0c
  have hVg := RowV.vview (c := cg) hg hgc
  go_wp2_with fail
  refine (eqValS_same _ _ MM cg cs (decK N F fc ft fu fd) (decNm N F fc ft fu fd) (decS N F fc ft fu fd) _ hVg hVw (by omega)).mono ?_
  rintro e wF ⟨rfl, hb⟩
  replace hw0 := hw0.belowAll hb
  replace hg := hg.belowAll hb
  replace hB := hB.trans (hb.mono hB.size)
  clear hb
  clear hVw hVg
  go_wp2_with fail
  refine (markValS_any g MM cg _ 1 _ hg (by omega) (by omega)).mono ?_
  rintro e wG ⟨rfl, hgm, hbt⟩
  clear hg
  replace hw0 := hw0.but hbt (by omega)
  replace hB := hB.trans (hbt.below (by omega) hB.size)
  clear hbt
  have hVg := RowV.marked (c := cg) hgm hgc
  go_wp2_with fail
  refine (heldValS_any _ MM cg 1 _ hVg (by omega) (by omega)).mono ?_
  rintro e wH ⟨rfl, hb⟩
  replace hw0 := hw0.belowAll hb
  replace hgm := hgm.belowAll hb
  replace hB := hB.trans (hb.mono hB.size)
  clear hb
  clear hVg
  have hqn : ¬ (1 + 3 * (MM : Int)) < 0 := by omega
  go_wp2_with fail
  refine (toPartS_any a n cap fc ft fu fd _ (h.below hB) hn0.1).mono ?_
  rintro e W_hp ⟨rfl, hC⟩
  have hp := hC.view
  have hb := hC.below
  have sz_hp := hC.size
  clear hC
  replace hw0 := hw0.belowAll hb
  replace hgm := hgm.belowAll hb
  replace hB := hB.trans (hb.mono hB.size)
  clear hb
  go_wp2_with fail
  refine (toByteS_any a1 N cb F _ (h1.below hB) (by omega)).mono ?_
  rintro e W_hv ⟨rfl, hC, hb, hz⟩
  have hv := (Row.ofIs hC).view (Nat.le_refl _) h1.byte
  have sz_hv : _ = _ + 1 := hz
  clear hC hz
  replace hw0 := hw0.belowAll hb
  replace hgm := hgm.belowAll hb
  replace hp := hp.below hb
  replace hB := hB.trans (hb.mono hB.size)
  clear hb
  go_wp2_with fail
  refine (implDecodeKey_any _ n n fc ft fu fd _ _ N N F _ hp hv (by omega) (by omega)).mono ?_
  rintro e wI ⟨v2, M0, he, hne, hM0, hO, hb⟩
  rw [ho.out] at he hM0
  rw [hMM.out] at hM0
  rw [hM0] at hO
  clear hM0
  subst he
  obtain ⟨g2, cg2, rfl, hg2n, hg2c, hg2⟩ := RowV.ofOwn hO hne
  clear hO hne
  replace hw0 := hw0.belowAll hb
  replace hgm := hgm.belowAll hb
  replace hp := hp.below hb
  replace hv := hv.below hb
  replace hB := hB.trans (hb.mono hB.size)
  clear hb
  have hVw := RowV.vview (c := cs) hw0 hw0c
  have hVg := RowV.vview (c := cg2) hg2 hg2c
  go_wp2_with fail
  refine (eqValS_same _ _ MM cg2 cs (decK N F fc ft fu fd) (decNm N F fc ft fu fd) (decS N F fc ft fu fd) _ hVg hVw (by omega)).mono ?_
  rintro e wJ ⟨rfl, hb⟩
  replace hw0 := hw0.belowAll hb
  replace hgm := hgm.belowAll hb
  replace hp := hp.below hb
  replace hv := hv.below hb
  replace hg2 := hg2.belowAll hb
  replace hB := hB.trans (hb.mono hB.size)
  clear hb
  clear hVw hVg
  clear hp hv hg2
  have hVg := RowV.marked (c := cg) hgm hgc
  go_wp2_with fail
  refine (heldValS_any _ MM cg 1 _ hVg (by omega) (by omega)).mono ?_
  rintro e wK ⟨rfl, hb⟩
  replace hw0 := hw0.belowAll hb
  replace hgm := hgm.belowAll hb
  replace hB := hB.trans (hb.mono hB.size)
  clear hb
  clear hVg
  go_wp2
  go_ret
  exact ⟨rfl, hB⟩
end Go.Proofs.Ytclegljalndaear

/-
  What the frame of a row hands over of a slice of parts that came in.
-/
namespace Go.Proofs.Ytclegljalndaear
open Go.RowKit Go.Deep Go.Joins

theorem partsIn {H : Type} {enc : TypeId × Value → H} {W : World} {sp : Nat → Bool} {a : Option Addr} {len cap : Nat} {d : DataW H} {p : List MemPlace} {T : TypeId}
    (ht : Try.prog.underlying T = some (.slice 53)) (h : DataW.Trod enc Try.prog W 0 sp true T (.slice a len cap) d p) :
    ∃ fc ft fu fd, PView W a len cap fc ft fu fd ∧ cap ≤ maxLen := by
  obtain ⟨fuel, hf⟩ := h
  have c3 : Try.prog.cellsOf 53 = 4 := by kernel_rfl
  rcases DataW.trod_slice ht hf with ⟨hcs, _⟩ | ⟨x, l, c, elems, rest, n, _, hcs, _, _, hl, hm, hlen, hel, _, _⟩
  · simp [Value.cells] at hcs
    obtain ⟨rfl, rfl, rfl⟩ := hcs
    exact ⟨fun _ => 0, fun _ => 0, fun _ => false, fun _ => false, ⟨Nat.le_refl _, fun h => absurd h (Nat.lt_irrefl _)⟩, Nat.zero_le _⟩
  · simp [Value.cells] at hcs
    obtain ⟨rfl, rfl, rfl⟩ := hcs
    have each : ∀ i, i < len → ∃ (k m : Int) (u v : Bool), W.cell? (x.add (i * 4)) = some (.int .i64 k) ∧ W.cell? ((x.add (i * 4)).add 1) = some (.int .i64 m) ∧ W.cell? ((x.add (i * 4)).add 2) = some (.bool u) ∧ W.cell? ((x.add (i * 4)).add 3) = some (.bool v) := by
      intro i hi
      have h1 := hel i hi
      rw [c3] at h1
      have h2 : elems[i]? = some elems[i] := List.getElem?_eq_getElem (by omega)
      rw [h2] at h1
      obtain ⟨cs, hcs, htr⟩ := Option.bind_eq_some_iff.1 h1
      obtain ⟨_, hl3, hcell⟩ := World.cells?_some hcs
      obtain ⟨y0, y1, y2, y3, m, _, _, t0, t1, t2, t3⟩ := trod_struct4 Try.underlying53 htr
      have o1 : Try.prog.cellsOf 3 = 1 := by kernel_rfl
      have o2 : Try.prog.cellsOf 4 = 1 := by kernel_rfl
      simp only [o1, o2] at t0 t1 t2 t3
      match cs, hl3 with
      | [c0, c1, c2, c3], _ =>
        simp only [List.drop_zero, List.drop_succ_cons, List.take_succ_cons, List.take_zero] at t0 t1 t2 t3
        obtain ⟨k, e0, _, _⟩ := DataW.trod_int Try.underlying3 t0
        obtain ⟨m, e1, _, _⟩ := DataW.trod_int Try.underlying3 t1
        obtain ⟨u, e2, _⟩ := DataW.trod_bool Try.underlying4 t2
        obtain ⟨v, e3, _⟩ := DataW.trod_bool Try.underlying4 t3
        simp only [List.cons.injEq, and_true] at e0 e1 e2 e3
        subst e0 e1 e2 e3
        refine ⟨k, m, u, v, ?_, ?_, ?_, ?_⟩
        · have := hcell 0 (by omega)
          simpa [Addr.add] using this
        · exact hcell 1 (by omega)
        · exact hcell 2 (by omega)
        · exact hcell 3 (by omega)
    refine ⟨fun i => if h : i < len then (each i h).choose else 0, fun i => if h : i < len then (each i h).choose_spec.choose else 0, fun i => if h : i < len then (each i h).choose_spec.choose_spec.choose else false, fun i => if h : i < len then (each i h).choose_spec.choose_spec.choose_spec.choose else false, ⟨hl, fun hn => ?_⟩, hm⟩
    obtain ⟨b, off, spot⟩ := x
    obtain ⟨k0, m0, u0, v0, h0, _⟩ := each 0 hn
    have hs : spot = none := by simpa [Addr.add] using World.cell?_spot h0
    subst hs
    refine ⟨b, off, rfl, World.block_lt_of_cell? _ _ h0, fun i hi => ?_⟩
    have hsp := (each i hi).choose_spec.choose_spec.choose_spec.choose_spec
    have ea : (⟨b, off, none⟩ : Addr).add (i * 4) = ⟨b, off + i * 4, none⟩ := by unfold Addr.add; split <;> simp_all
    have eb : ∀ j, (⟨b, off + i * 4, none⟩ : Addr).add j = ⟨b, off + i * 4 + j, none⟩ := fun j => by unfold Addr.add; split <;> simp_all
    have e1 : (⟨b, off + i * 4 + 1, none⟩ : Addr) = ((⟨b, off, none⟩ : Addr).add (i * 4)).add 1 := by rw [ea, eb]
    have e2 : (⟨b, off + i * 4 + 2, none⟩ : Addr) = ((⟨b, off, none⟩ : Addr).add (i * 4)).add 2 := by rw [ea, eb]
    have e3 : (⟨b, off + i * 4 + 3, none⟩ : Addr) = ((⟨b, off, none⟩ : Addr).add (i * 4)).add 3 := by rw [ea, eb]
    simp only [dif_pos hi]
    exact ⟨by rw [← ea]; exact hsp.1, by rw [e1]; exact hsp.2.1, by rw [e2]; exact hsp.2.2.1, by rw [e3]; exact hsp.2.2.2⟩
end Go.Proofs.Ytclegljalndaear

