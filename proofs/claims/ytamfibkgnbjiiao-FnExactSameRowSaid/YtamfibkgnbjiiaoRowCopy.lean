/-
  A row of values copied into a new one, as the law does it.
-/
import Derived.Test.YtamfibkgnbjiiaoVals
import Derived.Test.YtamfibkgnbjiiaoValHelp
namespace Go.Proofs.Ytamfibkgnbjiiao
open Go.RowKit

def cellF (fk fn : Nat → Int) (fs : Nat → ByteArray) (j : Nat) : Value := if j % 3 = 0 then .int .i64 (fk (j / 3)) else if j % 3 = 1 then .int .i64 (fn (j / 3)) else .string (fs (j / 3))
def zeroF (j : Nat) : Value := if j % 3 = 0 then .int .i64 0 else if j % 3 = 1 then .int .i64 0 else .string ⟨#[]⟩

theorem Try.infoVal : (Try.prog.info? 26).map (fun i => (i.zero, i.size, i.bytes)) = some (some (.agg #[.int .i64 0, .int .i64 0, .string ⟨#[]⟩]), 3, 32) := by kernel_rfl

theorem make_vals (n : Nat) (h : n ≤ 1048576) (w : World) : (Instr.makeSlice 32 (.int .i64 (n : Int)) (.int .i64 (n : Int))).run Try.prog w = .ok (.slice (some ⟨w.heap.size, 0, none⟩) n n) (w.alloc (.cells (madeCells #[.int .i64 0, .int .i64 0, .string ⟨#[]⟩] (n * 3)) 26)) := by
  obtain ⟨i, hi, hzz⟩ := Option.map_eq_some_iff.1 Try.infoVal
  simp only [Prod.mk.injEq] at hzz
  obtain ⟨hz, hs, hb⟩ := hzz
  have hr := run_make (P := Try.prog) w 32 26 i _ Try.underlying32 hi hz .i64 .i64 n n (by omega) (Int.le_refl _) (by rw [hb]; omega) (by omega)
  simp only [Int.toNat_natCast, hs] at hr
  exact hr

/-- k of the n values are copied into the new row. -/
structure CopiedV (w wr : World) (n : Nat) (fk fn : Nat → Int) (fs : Nat → ByteArray) (k : Nat) : Prop where
  below : Below w.heap.size w wr
  size : w.heap.size < wr.heap.size
  row : wr.rowIs w.heap.size 26 (n * 3) (fun j => if j < k * 3 then cellF fk fn fs j else zeroF j)

theorem copiedV_start (w : World) (n : Nat) (fk fn : Nat → Int) (fs : Nat → ByteArray) : CopiedV w (w.alloc (.cells (madeCells #[.int .i64 0, .int .i64 0, .string ⟨#[]⟩] (n * 3)) 26)) n fk fn fs 0 := by
  have hr := World.rowIs_alloc w (madeCells #[.int .i64 0, .int .i64 0, .string ⟨#[]⟩] (n * 3)) 26 zeroF (fun i hi => by
    rw [size_madeCells] at hi
    simp [madeCells, hi, zeroF]
    have h3 : i % 3 = 0 ∨ i % 3 = 1 ∨ i % 3 = 2 := by omega
    rcases h3 with h | h | h <;> simp [h])
  rw [size_madeCells] at hr
  exact ⟨(Below.refl _ _).alloc (Nat.le_refl _) _, by simp, hr.congr (fun i _ => by simp)⟩

theorem rowIs_below {w w' : World} {b : Nat} {t : TypeId} {m : Nat} {f : Nat → Value} (h : w.rowIs b t m f) (hb : Below w.heap.size w w') (hlt : b < w.heap.size) : w'.rowIs b t m f := by
  obtain ⟨c, h1, h2, h3⟩ := h
  exact ⟨c, by rw [hb.block b hlt]; exact h1, h2, h3⟩

theorem CopiedV.step {w wr w2 : World} {n : Nat} {fk fn : Nat → Int} {fs : Nat → ByteArray} {k : Nat} (h : CopiedV w wr n fk fn fs k) (hb : Below wr.heap.size wr w2) : CopiedV w w2 n fk fn fs k :=
  ⟨h.below.trans (hb.mono h.below.size), Nat.lt_of_lt_of_le h.size hb.size, rowIs_below h.row hb h.size⟩

theorem CopiedV.put {w wr : World} {n : Nat} {fk fn : Nat → Int} {fs : Nat → ByteArray} {k : Nat} (h : CopiedV w wr n fk fn fs k) :
    CopiedV w (((wr.setCell ⟨w.heap.size, k * 3, none⟩ (.int .i64 (fk k))).setCell ⟨w.heap.size, k * 3 + 1, none⟩ (.int .i64 (fn k))).setCell ⟨w.heap.size, k * 3 + 2, none⟩ (.string (fs k))) n fk fn fs (k + 1) := by
  refine ⟨((h.below.setCell (Nat.le_refl _) _).setCell (Nat.le_refl _) _).setCell (Nat.le_refl _) _, by simpa using h.size, ((((h.row.set _ _).set _ _).set _ _).congr (fun i _ => ?_))⟩
  by_cases e2 : i = k * 3 + 2
  · subst e2
    have : (k * 3 + 2) % 3 = 2 := by omega
    have d : (k * 3 + 2) / 3 = k := by omega
    simp [cellF, this, d, show k * 3 + 2 < (k + 1) * 3 by omega]
  by_cases e1 : i = k * 3 + 1
  · subst e1
    have : (k * 3 + 1) % 3 = 1 := by omega
    have d : (k * 3 + 1) / 3 = k := by omega
    simp [cellF, this, d, show k * 3 + 1 < (k + 1) * 3 by omega]
  by_cases e0 : i = k * 3
  · subst e0
    have : (k * 3) % 3 = 0 := by omega
    have d : (k * 3) / 3 = k := by omega
    simp [cellF, this, d, show k * 3 < (k + 1) * 3 by omega]
  · simp only [e0, e1, e2, if_false]
    by_cases hlt : i < k * 3
    · rw [if_pos hlt, if_pos (by omega)]
    · rw [if_neg hlt, if_neg (by omega)]

theorem CopiedV.view {w wr : World} {n : Nat} {fk fn : Nat → Int} {fs : Nat → ByteArray} (h : CopiedV w wr n fk fn fs n) : VView wr (some ⟨w.heap.size, 0, none⟩) n n fk fn fs := by
  refine ⟨Nat.le_refl _, fun _ => ⟨_, 0, rfl, h.size, fun i hi => ?_⟩⟩
  have c0 := h.row.cell (i := i * 3) (by omega)
  have c1 := h.row.cell (i := i * 3 + 1) (by omega)
  have c2 := h.row.cell (i := i * 3 + 2) (by omega)
  simp only [show i * 3 < n * 3 by omega, show i * 3 + 1 < n * 3 by omega, show i * 3 + 2 < n * 3 by omega, if_true, cellF] at c0 c1 c2
  have m0 : (i * 3) % 3 = 0 := by omega
  have m1 : (i * 3 + 1) % 3 = 1 := by omega
  have m2 : (i * 3 + 2) % 3 = 2 := by omega
  have d0 : (i * 3) / 3 = i := by omega
  have d1 : (i * 3 + 1) / 3 = i := by omega
  have d2 : (i * 3 + 2) / 3 = i := by omega
  simp only [m0, m1, m2, d0, d1, d2] at c0 c1 c2
  rw [Nat.zero_add]
  exact ⟨by simpa using c0, by simpa using c1, by simpa using c2⟩

set_option maxHeartbeats 2000000 in
theorem toValS_any (a : Option Addr) (n cap : Nat) (fk fn : Nat → Int) (fs : Nat → ByteArray) (w : World) (h : VView w a n cap fk fn fs) (hn : n ≤ 1048576) :
    Calls Try.prog 14 #[.slice a n cap] w fun e w' => e = .returned (.slice (some ⟨w.heap.size, 0, none⟩) n n) ∧ VView w' (some ⟨w.heap.size, 0, none⟩) n n fk fn fs ∧ Below w.heap.size w w' := by
  have hmk := fun W => make_vals n hn W
  go_enter Try.func14, Try.ntmps14
  go_wp2
  clear hmk
  go_loopg [4] n (fun q i wr => ∃ k : Nat, k ≤ n ∧ q = n - k ∧ i = .int .i64 k ∧ CopiedV w wr n fk fn fs k)
  case atStart => exact ⟨0, Nat.zero_le _, rfl, rfl, copiedV_start w n fk fn fs⟩
  case round =>
    obtain ⟨k, hk, rfl, rfl, hC⟩ := hrel
    by_cases hlt : k < n
    · obtain ⟨b1, o1, rfl, hb1, hc1⟩ := (h.below hC.below).cells (by omega)
      obtain ⟨x0, x1, x2⟩ := hc1 k hlt
      have hkz : (k : Int) < (n : Int) := by omega
      have hV := fun W => toVal_any (fk k) (fn k) (fs k) W
      go_wp2_with fail
      refine (hV _).mono ?_
      rintro e w2 ⟨rfl, hB2⟩
      have hC2 := hC.step hB2
      have hS : Hid _ := hC2.put
      have z0 := hC2.row.cell (i := k * 3) (by omega)
      have z1 := hC2.row.cell (i := k * 3 + 1) (by omega)
      have z2 := hC2.row.cell (i := k * 3 + 2) (by omega)
      have f0 := hC2.row.frozen (k * 3)
      have f1 := hC2.row.frozen (k * 3 + 1)
      have f2 := hC2.row.frozen (k * 3 + 2)
      clear hc1 hC hC2 hB2 hV x0 x1 x2 h
      go_wp2
      go_roundg (n - (k + 1))
      case measure => omega
      case rel => exact ⟨k + 1, by omega, rfl, by go_num, hS.out⟩
    · have hkn : k = n := by omega
      have hkz : ¬ (k : Int) < (n : Int) := by omega
      rw [hkn] at hC
      have hS : Hid (VView wr (some ⟨w.heap.size, 0, none⟩) n n fk fn fs ∧ Below w.heap.size w wr) := ⟨hC.view, hC.below⟩
      clear hC
      go_wp2
      go_ret
      exact ⟨rfl, hS.out.1, hS.out.2⟩
end Go.Proofs.Ytamfibkgnbjiiao
