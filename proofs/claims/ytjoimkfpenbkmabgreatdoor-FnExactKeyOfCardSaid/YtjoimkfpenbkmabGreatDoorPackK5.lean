/-
  Together: MarkSome11, DefsView, InfoDef, CopyDefs2, MarkDefs11, ValEq, Boxed, VView, ValRow
-/
import Derived.Test.YtjoimkfpenbkmabGreatDoorPackK4
import Derived.Deep.LoopGhost
import Derived.Test.YtjoimkfpenbkmabGreatDoorPackK3
import Derived.Test.YtjoimkfpenbkmabGreatDoorPackK1
import Derived.Laws.StructEq
/-
  What the law's own helpers markColS, markByS, markIndexS come to, by what they may turn alone.
-/
namespace Go.Proofs.YtjoimkfpenbkmabGreatDoor
open Go.RowKit
set_option maxRecDepth 4000

theorem keepC_col (j : Nat) : ¬ keepC 102 j := by rintro (⟨h, -⟩ | ⟨h, -⟩) <;> exact absurd h (by decide)
theorem keepC_by (j : Nat) : ¬ keepC 104 j := by rintro (⟨h, -⟩ | ⟨h, -⟩) <;> exact absurd h (by decide)
theorem keepC_idx {j : Nat} (hj : j % 3 ≠ 2) : ¬ keepC 106 j := by
  rintro (⟨-, h⟩ | ⟨h, -⟩)
  · exact hj h
  · exact absurd h (by decide)

set_option maxHeartbeats 2000000 in
theorem markColS_mk {S : TypeId → Prop} (hS : S 102) (B b n cap : Nat) (k : Int) (w : World) (hM : MkC B w b n) (hk : 0 ≤ k) (hk1 : k + 3 * n ≤ 4611686018427387904) :
    Calls Tryz.prog 39 #[.slice (some ⟨b, 0, none⟩) n cap, .int .i64 k] w fun e w' => e = .returned (.int .i64 (k + 3 * n)) ∧ Mk S B w w' := by
  obtain ⟨hB, hn, f, hr⟩ := hM
  go_enter Tryz.func39, Tryz.ntmps39
  go_wp2
  go_loopg [1, 5] n (fun g s i wr => ∃ j : Nat, j ≤ n ∧ g = n - j ∧ s = .int .i64 (k + 3 * j) ∧ i = .int .i64 j ∧ Mk S B w wr ∧ ∃ f', wr.rowIs b 102 (n * 3) f')
  case atStart => exact ⟨0, Nat.zero_le _, rfl, by simp, rfl, Mk.refl _ _ _, f, hr⟩
  case round =>
    obtain ⟨j, hj, rfl, rfl, rfl, hO, f', hr'⟩ := hrel
    clear hr
    by_cases hlt : j < n
    · have hjz : (j : Int) < (n : Int) := by omega
      have hMt := markText_any (k + 3 * j) wr (by omega)
      go_wp2_with fail
      refine hMt.mono ?_
      rintro e w2 ⟨rfl, hb⟩
      obtain ⟨mt, hmt⟩ : ∃ x, Hid (markT (k + 3 * j) = x) := ⟨_, rfl⟩
      rw [hmt.out]
      have hr2 := rowIs_below9 hr' hb hr'.lt
      have hO2 := hO.trans (Mk.ofBelow (S := S) (B := B) hb)
      have z0 := hr2.cell (i := j * 3) (by omega)
      have z1 := hr2.cell (i := j * 3 + 1) (by omega)
      have z2 := hr2.cell (i := j * 3 + 2) (by omega)
      have f0 := hr2.frozen (j * 3)
      have f1 := hr2.frozen (j * 3 + 1)
      have f2 := hr2.frozen (j * 3 + 2)
      have HS : Hid (∀ u0 u1 u2 : Value, Mk S B w (((w2.setCell ⟨b, j * 3, none⟩ u0).setCell ⟨b, j * 3 + 1, none⟩ u1).setCell ⟨b, j * 3 + 2, none⟩ u2) ∧ ∃ f', (((w2.setCell ⟨b, j * 3, none⟩ u0).setCell ⟨b, j * 3 + 1, none⟩ u1).setCell ⟨b, j * 3 + 2, none⟩ u2).rowIs b 102 (n * 3) f') := fun u0 u1 u2 =>
        ⟨((hO2.trans (Mk.set hr2 hB hS (keepC_col _) u0)).trans (Mk.set (hr2.set _ _) hB hS (keepC_col _) u1)).trans (Mk.set ((hr2.set _ _).set _ _) hB hS (keepC_col _) u2), _, ((hr2.set _ _).set _ _).set _ _⟩
      clear hr' hr2 hO hO2 hMt hb
      go_wp2
      go_roundg (n - (j + 1))
      case measure => omega
      case rel => exact ⟨j + 1, by omega, rfl, by go_num, by go_num, (HS.out _ _ _).1, (HS.out _ _ _).2⟩
    · obtain rfl : j = n := by omega
      have hjz : ¬ (j : Int) < (j : Int) := by omega
      clear hr'
      go_wp2
      go_ret
      exact ⟨rfl, hO⟩

set_option maxHeartbeats 2000000 in
theorem markByS_mk {S : TypeId → Prop} (hS : S 104) (B b n cap : Nat) (k : Int) (w : World) (hM : MkB B w b n) (hk : 0 ≤ k) (hk1 : k + 2 * n ≤ 4611686018427387904) :
    Calls Tryz.prog 40 #[.slice (some ⟨b, 0, none⟩) n cap, .int .i64 k] w fun e w' => e = .returned (.int .i64 (k + 2 * n)) ∧ Mk S B w w' := by
  obtain ⟨hB, hn, f, hr⟩ := hM
  go_enter Tryz.func40, Tryz.ntmps40
  go_wp2
  go_loopg [1, 5] n (fun g s i wr => ∃ j : Nat, j ≤ n ∧ g = n - j ∧ s = .int .i64 (k + 2 * j) ∧ i = .int .i64 j ∧ Mk S B w wr ∧ ∃ f', wr.rowIs b 104 (n * 2) f')
  case atStart => exact ⟨0, Nat.zero_le _, rfl, by simp, rfl, Mk.refl _ _ _, f, hr⟩
  case round =>
    obtain ⟨j, hj, rfl, rfl, rfl, hO, f', hr'⟩ := hrel
    clear hr
    by_cases hlt : j < n
    · have hjz : (j : Int) < (n : Int) := by omega
      have z0 := hr'.cell (i := j * 2) (by omega)
      have z1 := hr'.cell (i := j * 2 + 1) (by omega)
      have f0 := hr'.frozen (j * 2)
      have f1 := hr'.frozen (j * 2 + 1)
      have HS : Hid (∀ u0 u1 : Value, Mk S B w ((wr.setCell ⟨b, j * 2, none⟩ u0).setCell ⟨b, j * 2 + 1, none⟩ u1) ∧ ∃ f', ((wr.setCell ⟨b, j * 2, none⟩ u0).setCell ⟨b, j * 2 + 1, none⟩ u1).rowIs b 104 (n * 2) f') := fun u0 u1 =>
        ⟨(hO.trans (Mk.set hr' hB hS (keepC_by _) u0)).trans (Mk.set (hr'.set _ _) hB hS (keepC_by _) u1), _, (hr'.set _ _).set _ _⟩
      clear hr' hO
      go_wp2
      go_roundg (n - (j + 1))
      case measure => omega
      case rel => exact ⟨j + 1, by omega, rfl, by go_num, by go_num, (HS.out _ _).1, (HS.out _ _).2⟩
    · obtain rfl : j = n := by omega
      have hjz : ¬ (j : Int) < (j : Int) := by omega
      clear hr'
      go_wp2
      go_ret
      exact ⟨rfl, hO⟩

set_option maxHeartbeats 4000000 in
theorem markIndexS_mk {S : TypeId → Prop} (hS : S 106) (hSB : S 104) (B b n cap : Nat) (k : Int) (w : World) (hM : MkI B w b n) (hk : 0 ≤ k) (hk1 : k + 2097154 * n ≤ 4611686018427387904) :
    Calls Tryz.prog 41 #[.slice (some ⟨b, 0, none⟩) n cap, .int .i64 k] w fun e w' => ∃ k' : Int, e = .returned (.int .i64 k') ∧ k ≤ k' ∧ k' ≤ k + 2097154 * n ∧ Mk S B w w' := by
  have hn := hM.2.1
  go_enter Tryz.func41, Tryz.ntmps41
  go_wp2
  go_loopg [1, 5] n (fun g s i wr => ∃ (j : Nat) (K : Int), j ≤ n ∧ g = n - j ∧ s = .int .i64 K ∧ i = .int .i64 j ∧ k ≤ K ∧ K ≤ k + 2097154 * j ∧ Mk S B w wr)
  case atStart => exact ⟨0, k, Nat.zero_le _, rfl, rfl, rfl, Int.le_refl _, by simp, Mk.refl _ _ _⟩
  case round =>
    obtain ⟨j, K, hj, rfl, rfl, rfl, hK0, hK1, hO⟩ := hrel
    by_cases hlt : j < n
    · have hjz : (j : Int) < (n : Int) := by omega
      have hMt := markText_any K wr (by omega)
      go_wp2_with fail
      refine hMt.mono ?_
      rintro e w2 ⟨rfl, hb⟩
      obtain ⟨mt, hmt⟩ : ∃ x, Hid (markT K = x) := ⟨_, rfl⟩
      rw [hmt.out]
      have hO2 := hO.trans (Mk.ofBelow (S := S) (B := B) hb)
      obtain ⟨hB, -, f, hr2, hp⟩ := hM.on hO2
      obtain ⟨A, m, c, ef, hMB⟩ := hp j hlt
      have hm := hMB.2.1
      have z0 := hr2.cell (i := j * 3) (by omega)
      have z1 := hr2.cell (i := j * 3 + 1) (by omega)
      have f0 := hr2.frozen (j * 3)
      have f1 := hr2.frozen (j * 3 + 1)
      have r4 := (hr2.set (j * 3) (.string mt)).set (j * 3 + 1) (.bool ((K + 1) % 3 == 0))
      have M4 := (Mk.set (S := S) hr2 hB hS (keepC_idx (j := j * 3) (by omega)) (.string mt)).trans (Mk.set (hr2.set (j * 3) (.string mt)) hB hS (keepC_idx (j := j * 3 + 1) (by omega)) (.bool ((K + 1) % 3 == 0)))
      have z2 := r4.cell (i := j * 3 + 2) (by omega)
      simp only [show ¬ (j * 3 + 2 = j * 3 + 1) by omega, show ¬ (j * 3 + 2 = j * 3) by omega, if_false, ef] at z2
      obtain ⟨W3, hW3⟩ : ∃ W3, Hid ((w2.setCell ⟨b, j * 3, none⟩ (.string mt)).setCell ⟨b, j * 3 + 1, none⟩ (.bool ((K + 1) % 3 == 0)) = W3) := ⟨_, rfl⟩
      rw [hW3.out] at M4 z2
      have HO3 : Hid (Mk S B w W3) := hO2.trans M4
      have hBy := markByS_mk hSB B A m c (K + 1 + 1) W3 (hMB.on M4) (by omega) (by omega)
      clear hMt hb hO hO2 hr2 hp hMB r4 M4
      go_wp2_with (rw [hW3.out])
      refine hBy.mono ?_
      rintro e w4 ⟨rfl, hM4⟩
      have HR : Hid (Mk S B w w4) := HO3.out.trans hM4
      clear hBy hM4 HO3
      go_wp2
      go_roundg (n - (j + 1))
      case measure => omega
      case rel => exact ⟨j + 1, K + 1 + 1 + 2 * m, by omega, rfl, by go_num, by go_num, by omega, by push_cast; omega, HR.out⟩
    · obtain rfl : j = n := by omega
      have hjz : ¬ (j : Int) < (j : Int) := by omega
      clear hM
      go_wp2
      go_ret
      exact ⟨K, rfl, hK0, hK1, hO⟩
end Go.Proofs.YtjoimkfpenbkmabGreatDoor

/-
  Rows of tables that read, and how that is carried.
-/
namespace Go.Proofs.YtjoimkfpenbkmabGreatDoor
open Go.RowKit
set_option maxRecDepth 4000

/-- The slice value '.slice ao n cap' reads as n tables. -/
structure LView (w : World) (ao : Option Addr) (n cap : Nat) (f : Nat → PDef) : Prop where
  le : n ≤ cap
  cells : 0 < n → ∃ b off, ao = some ⟨b, off, none⟩ ∧ b < w.heap.size ∧ ∀ i, i < n → ∃ x1 x2 x3, w.cell? ⟨b, off + i * 4, none⟩ = some (.string (f i).name) ∧ w.cell? ⟨b, off + i * 4 + 1, none⟩ = some x1 ∧ w.cell? ⟨b, off + i * 4 + 2, none⟩ = some x2 ∧ w.cell? ⟨b, off + i * 4 + 3, none⟩ = some x3 ∧ DView w (.agg #[.string (f i).name, x1, x2, x3]) (f i)
theorem LView.below {w w' : World} {ao : Option Addr} {n cap : Nat} {f : Nat → PDef} (h : LView w ao n cap f) (hb : Below w.heap.size w w') : LView w' ao n cap f := by
  refine ⟨h.le, fun hn => ?_⟩
  obtain ⟨b, off, e, hlt, hc⟩ := h.cells hn
  refine ⟨b, off, e, Nat.lt_of_lt_of_le hlt hb.size, fun i hi => ?_⟩
  rw [hb.cell (p := ⟨b, off + i * 4, none⟩) hlt, hb.cell (p := ⟨b, off + i * 4 + 1, none⟩) hlt, hb.cell (p := ⟨b, off + i * 4 + 2, none⟩) hlt, hb.cell (p := ⟨b, off + i * 4 + 3, none⟩) hlt]
  obtain ⟨x1, x2, x3, h0, h1, h2, h3, hv⟩ := hc i hi
  exact ⟨x1, x2, x3, h0, h1, h2, h3, hv.below hb⟩
theorem LView.empty (w : World) (ao : Option Addr) (cap : Nat) (f : Nat → PDef) : LView w ao 0 cap f := ⟨Nat.zero_le _, fun h => absurd h (Nat.lt_irrefl _)⟩
/-- Nothing of the tables is great. -/
structure LFine (n : Nat) (f : Nat → PDef) : Prop where
  few : n ≤ 1048576
  at_ : ∀ i, i < n → DFine (f i)
/-- The parts of a table's value. -/
theorem DView.parts {w : World} {s : ByteArray} {x1 x2 x3 : Value} {D : PDef} (h : DView w (.agg #[.string s, x1, x2, x3]) D) : ∃ ac cc ap cp ai ci, s = D.name ∧ x1 = .slice ac D.nc cc ∧ x2 = .slice ap D.np cp ∧ x3 = .slice ai D.ni ci ∧ CView w ac D.nc cc D.col ∧ BView w ap D.np cp D.pri ∧ IView w ai D.ni ci D.idx := by
  obtain ⟨ac, cc, ap, cp, ai, ci, e, h1, h2, h3⟩ := h.is
  simp only [Value.agg.injEq, Array.mk.injEq, List.cons.injEq, Value.string.injEq, and_true] at e
  obtain ⟨rfl, rfl, rfl, rfl⟩ := e
  exact ⟨ac, cc, ap, cp, ai, ci, rfl, rfl, rfl, rfl, h1, h2, h3⟩
end Go.Proofs.YtjoimkfpenbkmabGreatDoor

/-
  The type of tables.
-/
namespace Go.Proofs.YtjoimkfpenbkmabGreatDoor
open Go.RowKit
set_option maxRecDepth 4000

theorem infoDef : ∃ i, Tryz.prog.info? 60 = some i ∧ i.zero = some (.agg #[.string ⟨#[]⟩, .slice none 0 0, .slice none 0 0, .slice none 0 0]) ∧ i.size = 4 ∧ i.bytes = 88 := by
  have h : (Tryz.prog.info? 60).map (fun i => (i.zero, i.size, i.bytes)) = some (some (.agg #[.string ⟨#[]⟩, .slice none 0 0, .slice none 0 0, .slice none 0 0]), 4, 88) := by kernel_rfl
  obtain ⟨i, hi, hz⟩ := Option.map_eq_some_iff.1 h
  simp only [Prod.mk.injEq] at hz
  exact ⟨i, hi, hz.1, hz.2.1, hz.2.2⟩
end Go.Proofs.YtjoimkfpenbkmabGreatDoor

/-
  A row of tables copied into a new one, as the law does it.
-/
namespace Go.Proofs.YtjoimkfpenbkmabGreatDoor
open Go.RowKit
set_option maxRecDepth 4000

def cellDef (f : Nat → PDef) (V : Nat → Value × Value × Value) (j : Nat) : Value := if j % 4 = 0 then .string (f (j / 4)).name else if j % 4 = 1 then (V (j / 4)).1 else if j % 4 = 2 then (V (j / 4)).2.1 else (V (j / 4)).2.2
def zeroDef (j : Nat) : Value := if j % 4 = 0 then .string ⟨#[]⟩ else .slice none 0 0
theorem makeDef (n : Nat) (h : n ≤ 1048576) (w : World) : (Instr.makeSlice 28 (.int .i64 (n : Int)) (.int .i64 (n : Int))).run Tryz.prog w = .ok (.slice (some ⟨w.heap.size, 0, none⟩) n n) (w.alloc (.cells (madeCells #[.string ⟨#[]⟩, .slice none 0 0, .slice none 0 0, .slice none 0 0] (n * 4)) 60)) := by
  obtain ⟨i, hi, hz, hs, hb⟩ := infoDef
  have hr := run_make (P := Tryz.prog) w 28 60 i _ Tryz.underlying28 hi hz .i64 .i64 n n (by omega) (Int.le_refl _) (by rw [hb]; omega) (by omega)
  simp only [Int.toNat_natCast, hs] at hr
  exact hr

/-- k of the n elements are copied into the new row. -/
structure CopiedDef (w wr : World) (n : Nat) (f : Nat → PDef) (V : Nat → Value × Value × Value) (k : Nat) : Prop where
  below : Below w.heap.size w wr
  size : w.heap.size < wr.heap.size
  row : wr.rowIs w.heap.size 60 (n * 4) (fun j => if j < k * 4 then cellDef f V j else zeroDef j)
  views : ∀ i, i < k → DOwn wr (w.heap.size + 1) (.agg #[.string (f i).name, (V i).1, (V i).2.1, (V i).2.2]) (f i)
theorem copiedDef_start (w : World) (n : Nat) (f : Nat → PDef) (V : Nat → Value × Value × Value) : CopiedDef w (w.alloc (.cells (madeCells #[.string ⟨#[]⟩, .slice none 0 0, .slice none 0 0, .slice none 0 0] (n * 4)) 60)) n f V 0 := by
  have hr := World.rowIs_alloc w (madeCells #[.string ⟨#[]⟩, .slice none 0 0, .slice none 0 0, .slice none 0 0] (n * 4)) 60 zeroDef (fun i hi => by
    rw [size_madeCells] at hi
    simp [madeCells, hi, zeroDef]
    have h3 : i % 4 = 0 ∨ i % 4 = 1 ∨ i % 4 = 2 ∨ i % 4 = 3 := by omega
    rcases h3 with h | h | h | h <;> simp [h])
  rw [size_madeCells] at hr
  exact ⟨(Below.refl _ _).alloc (Nat.le_refl _) _, by simp, hr.congr (fun i _ => by simp), fun i hi => absurd hi (Nat.not_lt_zero _)⟩
theorem CopiedDef.step {w wr w2 : World} {n : Nat} {f : Nat → PDef} {V : Nat → Value × Value × Value} {k : Nat} (h : CopiedDef w wr n f V k) (hb : Below wr.heap.size wr w2) : CopiedDef w w2 n f V k :=
  ⟨h.below.trans (hb.mono h.below.size), Nat.lt_of_lt_of_le h.size hb.size, rowIs_below9 h.row hb h.size, fun i hi => (h.views i hi).below hb⟩
theorem CopiedDef.put {w wr : World} {n : Nat} {f : Nat → PDef} {V : Nat → Value × Value × Value} {k : Nat} (h : CopiedDef w wr n f V k) (hA : DOwn wr (w.heap.size + 1) (.agg #[.string (f k).name, (V k).1, (V k).2.1, (V k).2.2]) (f k)) :
    CopiedDef w ((((wr.setCell ⟨w.heap.size, k * 4, none⟩ (.string (f k).name)).setCell ⟨w.heap.size, k * 4 + 1, none⟩ (V k).1).setCell ⟨w.heap.size, k * 4 + 2, none⟩ (V k).2.1).setCell ⟨w.heap.size, k * 4 + 3, none⟩ (V k).2.2) n f V (k + 1) := by
  refine ⟨((((h.below.setCell (Nat.le_refl _) _).setCell (Nat.le_refl _) _).setCell (Nat.le_refl _) _).setCell (Nat.le_refl _) _), by simpa using h.size, (((((h.row.set _ _).set _ _).set _ _).set _ _).congr (fun i _ => ?_)), fun i hi => ?_⟩
  · by_cases e3 : i = k * 4 + 3
    · subst e3
      have m : (k * 4 + 3) % 4 = 3 := by omega
      have d : (k * 4 + 3) / 4 = k := by omega
      simp [cellDef, m, d, show k * 4 + 3 < (k + 1) * 4 by omega]
    by_cases e2 : i = k * 4 + 2
    · subst e2
      have m : (k * 4 + 2) % 4 = 2 := by omega
      have d : (k * 4 + 2) / 4 = k := by omega
      simp [cellDef, m, d, show k * 4 + 2 < (k + 1) * 4 by omega]
    by_cases e1 : i = k * 4 + 1
    · subst e1
      have m : (k * 4 + 1) % 4 = 1 := by omega
      have d : (k * 4 + 1) / 4 = k := by omega
      simp [cellDef, m, d, show k * 4 + 1 < (k + 1) * 4 by omega]
    by_cases e0 : i = k * 4
    · subst e0
      have m : (k * 4) % 4 = 0 := by omega
      have d : (k * 4) / 4 = k := by omega
      simp [cellDef, m, d, show k * 4 < (k + 1) * 4 by omega]
    simp only [e0, e1, e2, e3, if_false]
    by_cases hlt : i < k * 4
    · rw [if_pos hlt, if_pos (by omega)]
    · rw [if_neg hlt, if_neg (by omega)]
  · have key : ∀ i, i < k + 1 → DOwn wr (w.heap.size + 1) (.agg #[.string (f i).name, (V i).1, (V i).2.1, (V i).2.2]) (f i) := by
      intro i hi
      by_cases e : i < k
      · exact h.views i e
      · obtain rfl : i = k := by omega
        exact hA
    exact ((((key i hi).set (by omega) _ _).set (by omega) _ _).set (by omega) _ _).set (by omega) _ _
theorem CopiedDef.view {w wr : World} {n : Nat} {f : Nat → PDef} {V : Nat → Value × Value × Value} (h : CopiedDef w wr n f V n) : LView wr (some ⟨w.heap.size, 0, none⟩) n n f := by
  refine ⟨Nat.le_refl _, fun _ => ⟨_, 0, rfl, h.size, fun i hi => ?_⟩⟩
  have c0 := h.row.cell (i := i * 4) (by omega)
  have m0 : (i * 4) % 4 = 0 := by omega
  have d0 : (i * 4) / 4 = i := by omega
  simp only [show i * 4 < n * 4 by omega, if_true, cellDef, m0, d0] at c0
  have c1 := h.row.cell (i := i * 4 + 1) (by omega)
  have m1 : (i * 4 + 1) % 4 = 1 := by omega
  have d1 : (i * 4 + 1) / 4 = i := by omega
  simp only [show i * 4 + 1 < n * 4 by omega, if_true, cellDef, m1, d1] at c1
  have c2 := h.row.cell (i := i * 4 + 2) (by omega)
  have m2 : (i * 4 + 2) % 4 = 2 := by omega
  have d2 : (i * 4 + 2) / 4 = i := by omega
  simp only [show i * 4 + 2 < n * 4 by omega, if_true, cellDef, m2, d2] at c2
  have c3 := h.row.cell (i := i * 4 + 3) (by omega)
  have m3 : (i * 4 + 3) % 4 = 3 := by omega
  have d3 : (i * 4 + 3) / 4 = i := by omega
  simp only [show i * 4 + 3 < n * 4 by omega, if_true, cellDef, m3, d3] at c3
  rw [Nat.zero_add]
  exact ⟨_, _, _, by simpa using c0, by simpa using c1, by simpa using c2, by simpa using c3, (h.views i hi).view⟩
/-- The values, with one more. -/
def upV (V : Nat → Value × Value × Value) (k : Nat) (v : Value × Value × Value) : Nat → Value × Value × Value := fun i => if i = k then v else V i
theorem CopiedDef.up {w wr : World} {n : Nat} {f : Nat → PDef} {V : Nat → Value × Value × Value} {k : Nat} (h : CopiedDef w wr n f V k) (v : Value × Value × Value) : CopiedDef w wr n f (upV V k v) k := by
  refine ⟨h.below, h.size, h.row.congr (fun i _ => ?_), fun i hi => ?_⟩
  · by_cases e : i < k * 4
    · have d : i / 4 ≠ k := by omega
      simp [e, cellDef, upV, d]
    · simp [e]
  · have d : i ≠ k := by omega
    have := h.views i hi
    simpa [upV, d] using this

/-- A row of tables that reads, whose block is a row of its own, and whose tables' blocks lie from B on. -/
structure LRow (w : World) (B a n : Nat) (f : Nat → PDef) : Prop where
  view : LView w (some ⟨a, 0, none⟩) n n f
  low : B ≤ a
  row : ∃ V : Nat → Value × Value × Value, w.rowIs a 60 (n * 4) (cellDef f V) ∧ ∀ i, i < n → DOwn w B (.agg #[.string (f i).name, (V i).1, (V i).2.1, (V i).2.2]) (f i)
theorem LRow.below {w w' : World} {B a n : Nat} {f : Nat → PDef} (h : LRow w B a n f) (hb : Below w.heap.size w w') : LRow w' B a n f := by
  obtain ⟨V, hr, hd⟩ := h.row
  exact ⟨h.view.below hb, h.low, V, rowIs_below9 hr hb hr.lt, fun i hi => (hd i hi).below hb⟩
theorem CopiedDef.lrow {w wr : World} {n : Nat} {f : Nat → PDef} {V : Nat → Value × Value × Value} (h : CopiedDef w wr n f V n) : LRow wr w.heap.size w.heap.size n f :=
  ⟨h.view, Nat.le_refl _, V, h.row.congr (fun i hi => by simp [hi]), fun i hi => (h.views i hi).mono (Nat.le_succ _)⟩

set_option maxHeartbeats 2000000 in
theorem toDefS_any (a : Option Addr) (n cap : Nat) (f : Nat → PDef) (w : World) (h : LView w a n cap f) (hf : LFine n f) :
    Calls Tryz.prog 9 #[.slice a n cap] w fun e w' => e = .returned (.slice (some ⟨w.heap.size, 0, none⟩) n n) ∧ LRow w' w.heap.size w.heap.size n f ∧ Below w.heap.size w w' ∧ w.heap.size < w'.heap.size := by
  have hn := hf.few
  have hmk := fun W => makeDef n hn W
  go_enter Tryz.func9, Tryz.ntmps9
  go_wp2
  clear hmk
  go_loopg [4] n (fun q i wr => ∃ (k : Nat) (V : Nat → Value × Value × Value), k ≤ n ∧ q = n - k ∧ i = .int .i64 k ∧ CopiedDef w wr n f V k)
  case atStart => exact ⟨0, fun _ => (.string ⟨#[]⟩, .string ⟨#[]⟩, .string ⟨#[]⟩), Nat.zero_le _, rfl, rfl, copiedDef_start w n f _⟩
  case round =>
    obtain ⟨k, V, hk, rfl, rfl, hC⟩ := hrel
    by_cases hlt : k < n
    · obtain ⟨b1, o1, rfl, hb1, hc1⟩ := (h.below hC.below).cells (by omega)
      obtain ⟨y1, y2, y3, x0, x1, x2, x3, hv⟩ := hc1 k hlt
      have hkz : (k : Int) < (n : Int) := by omega
      have hV := toDef_any _ (f k) wr hv (hf.at_ k hlt)
      clear hf hv
      go_wp2_with fail
      refine hV.mono ?_
      rintro e w2 ⟨v', rfl, hO, hB2⟩
      have hO' := hO.mono (B' := w.heap.size + 1) hC.size
      obtain ⟨gc, cc, gp, cp, gi, ci, rfl, -, -, -, -, -⟩ := hO.is
      have hC2 := (hC.step hB2).up (.slice (some ⟨gc, 0, none⟩) (f k).nc cc, .slice (some ⟨gp, 0, none⟩) (f k).np cp, .slice (some ⟨gi, 0, none⟩) (f k).ni ci)
      have hup : ∀ v, upV V k v k = v := fun v => by simp [upV]
      have hS0 := hC2.put (by rw [hup]; exact hO')
      rw [hup] at hS0
      have hS : Hid _ := hS0
      have z0 := hC2.row.cell (i := k * 4) (by omega)
      have z1 := hC2.row.cell (i := k * 4 + 1) (by omega)
      have z2 := hC2.row.cell (i := k * 4 + 2) (by omega)
      have z3 := hC2.row.cell (i := k * 4 + 3) (by omega)
      have f0 := hC2.row.frozen (k * 4)
      have f1 := hC2.row.frozen (k * 4 + 1)
      have f2 := hC2.row.frozen (k * 4 + 2)
      have f3 := hC2.row.frozen (k * 4 + 3)
      clear hc1 hC hC2 hB2 hV x0 x1 x2 x3 h hO hO' hup hS0
      go_wp2
      go_roundg (n - (k + 1))
      case measure => omega
      case rel => exact ⟨k + 1, upV V k _, by omega, rfl, by go_num, hS.out⟩
    · have hkn : k = n := by omega
      have hkz : ¬ (k : Int) < (n : Int) := by omega
      rw [hkn] at hC
      have hS : Hid (CopiedDef w wr n f V n) := hC
      clear hC h hf
      go_wp2
      go_ret
      exact ⟨rfl, hS.out.lrow, hS.out.below, hS.out.size⟩
end Go.Proofs.YtjoimkfpenbkmabGreatDoor

/-
  What the law's own helper markDefS comes to, by what it may turn alone.
-/
namespace Go.Proofs.YtjoimkfpenbkmabGreatDoor
open Go.RowKit
set_option maxRecDepth 4000

/-- A row of tables that may be marked. -/
def MkD (B : Nat) (w : World) (a n : Nat) : Prop := B ≤ a ∧ n ≤ 1048576 ∧ ∃ f, w.rowIs a 60 (n * 4) f ∧ ∀ i, i < n → ∃ gc nc cc gp np cp gi ni ci, f (i * 4 + 1) = .slice (some ⟨gc, 0, none⟩) nc cc ∧ f (i * 4 + 2) = .slice (some ⟨gp, 0, none⟩) np cp ∧ f (i * 4 + 3) = .slice (some ⟨gi, 0, none⟩) ni ci ∧ MkC B w gc nc ∧ MkB B w gp np ∧ MkI B w gi ni
theorem MkD.on {S : TypeId → Prop} {B a n : Nat} {w w' : World} (h : MkD B w a n) (hm : Mk S B w w') : MkD B w' a n := by
  obtain ⟨h1, h2, f, hr, hp⟩ := h
  obtain ⟨f', hr', hk⟩ := hm.rowIs hr
  refine ⟨h1, h2, f', hr', fun i hi => ?_⟩
  obtain ⟨gc, nc, cc, gp, np, cp, gi, ni, ci, e1, e2, e3, hC, hB, hI⟩ := hp i hi
  exact ⟨gc, nc, cc, gp, np, cp, gi, ni, ci, by rw [hk (i * 4 + 1) (by omega) (.inr ⟨rfl, by omega⟩), e1], by rw [hk (i * 4 + 2) (by omega) (.inr ⟨rfl, by omega⟩), e2], by rw [hk (i * 4 + 3) (by omega) (.inr ⟨rfl, by omega⟩), e3], hC.on hm, hB.on hm, hI.on hm⟩
theorem LRow.marks {w : World} {B a n : Nat} {f : Nat → PDef} (h : LRow w B a n f) (hf : LFine n f) : MkD B w a n := by
  obtain ⟨V, hr, hd⟩ := h.row
  refine ⟨h.low, hf.few, _, hr, fun i hi => ?_⟩
  obtain ⟨gc, cc, gp, cp, gi, ci, e, hC, hB, hI⟩ := (hd i hi).marks (hf.at_ i hi)
  simp only [Value.agg.injEq, Array.mk.injEq, List.cons.injEq, and_true, true_and] at e
  obtain ⟨e1, e2, e3⟩ := e
  refine ⟨gc, _, cc, gp, _, cp, gi, _, ci, ?_, ?_, ?_, hC, hB, hI⟩
  · have m : (i * 4 + 1) % 4 = 1 := by omega
    have d : (i * 4 + 1) / 4 = i := by omega
    simp [cellDef, m, d, e1]
  · have m : (i * 4 + 2) % 4 = 2 := by omega
    have d : (i * 4 + 2) / 4 = i := by omega
    simp [cellDef, m, d, e2]
  · have m : (i * 4 + 3) % 4 = 3 := by omega
    have d : (i * 4 + 3) / 4 = i := by omega
    simp [cellDef, m, d, e3]
theorem keepC_def {j : Nat} (hj : j % 4 = 0) : ¬ keepC 60 j := by
  rintro (⟨h, -⟩ | ⟨-, h⟩)
  · exact absurd h (by decide)
  · exact h hj

/-- The types that tables' marks are written into. -/
def S4 (t : TypeId) : Prop := t = 102 ∨ t = 104 ∨ t = 106 ∨ t = 60
set_option maxHeartbeats 4000000 in
theorem markDefS_mk (B a n cap : Nat) (w : World) (hM : MkD B w a n) :
    Calls Tryz.prog 15 #[.slice (some ⟨a, 0, none⟩) n cap, .int .i64 1] w fun e w' => ∃ k' : Int, e = .returned (.int .i64 k') ∧ 1 ≤ k' ∧ k' ≤ 1 + 2199030595585 * n ∧ Mk S4 B w w' := by
  have hn := hM.2.1
  go_enter Tryz.func15, Tryz.ntmps15
  go_wp2
  go_loopg [1, 5] n (fun g s i wr => ∃ (j : Nat) (K : Int), j ≤ n ∧ g = n - j ∧ s = .int .i64 K ∧ i = .int .i64 j ∧ 1 ≤ K ∧ K ≤ 1 + 2199030595585 * j ∧ Mk S4 B w wr)
  case atStart => exact ⟨0, 1, Nat.zero_le _, rfl, rfl, rfl, Int.le_refl _, by simp, Mk.refl _ _ _⟩
  case round =>
    obtain ⟨j, K, hj, rfl, rfl, rfl, hK0, hK1, hO⟩ := hrel
    by_cases hlt : j < n
    · have hjz : (j : Int) < (n : Int) := by omega
      have hMt := markText_any K wr (by omega)
      go_wp2_with fail
      refine hMt.mono ?_
      rintro e w2 ⟨rfl, hb⟩
      obtain ⟨mt, hmt⟩ : ∃ x, Hid (markT K = x) := ⟨_, rfl⟩
      rw [hmt.out]
      have hO2 := hO.trans (Mk.ofBelow (S := S4) (B := B) hb)
      obtain ⟨hB, -, f, hr2, hp⟩ := hM.on hO2
      obtain ⟨gc, nc, cc, gp, np, cp, gi, ni, ci, e1, e2, e3, hC, hBy, hIx⟩ := hp j hlt
      have hnc := hC.2.1
      have hnp := hBy.2.1
      have hni := hIx.2.1
      have z0 := hr2.cell (i := j * 4) (by omega)
      have f0 := hr2.frozen (j * 4)
      have r3 := hr2.set (j * 4) (.string mt)
      have M3 := Mk.set (S := S4) hr2 hB (.inr (.inr (.inr rfl))) (keepC_def (j := j * 4) (by omega)) (.string mt)
      obtain ⟨W3, hW3⟩ : ∃ W, Hid (w2.setCell ⟨a, j * 4, none⟩ (.string mt) = W) := ⟨_, rfl⟩
      rw [hW3.out] at r3 M3
      have HCE : Hid (∀ W, Mk S4 B W3 W → W.cell? ⟨a, j * 4 + 1, none⟩ = some (.slice (some ⟨gc, 0, none⟩) nc cc) ∧ W.cell? ⟨a, j * 4 + 2, none⟩ = some (.slice (some ⟨gp, 0, none⟩) np cp) ∧ W.cell? ⟨a, j * 4 + 3, none⟩ = some (.slice (some ⟨gi, 0, none⟩) ni ci)) := by
        intro W hm
        obtain ⟨f', hr', hk⟩ := hm.rowIs r3
        refine ⟨?_, ?_, ?_⟩
        · rw [hr'.cell (i := j * 4 + 1) (by omega), hk _ (by omega) (.inr ⟨rfl, by omega⟩)]
          simp [e1]
        · rw [hr'.cell (i := j * 4 + 2) (by omega), hk _ (by omega) (.inr ⟨rfl, by omega⟩)]
          simp [e2]
        · rw [hr'.cell (i := j * 4 + 3) (by omega), hk _ (by omega) (.inr ⟨rfl, by omega⟩)]
          simp [e3]
      have HO3 : Hid (Mk S4 B w W3) := hO2.trans M3
      have hC3 := hC.on M3
      have hBy3 := hBy.on M3
      have hIx3 := hIx.on M3
      have h1 := markColS_mk (S := S4) (.inl rfl) B gc nc cc (K + 1) W3 hC3 (by omega) (by omega)
      obtain ⟨q1, q2, q3⟩ := HCE.out W3 (Mk.refl _ _ _)
      clear hMt hb hO hO2 hr2 hp hC hBy hIx r3 M3 hC3 e1 e2 e3
      go_wp2_with (rw [hW3.out])
      refine h1.mono ?_
      rintro e w4 ⟨rfl, m4⟩
      clear q1 q2 q3 h1
      obtain ⟨q1, q2, q3⟩ := HCE.out w4 m4
      have h2 := markByS_mk (S := S4) (.inr (.inl rfl)) B gp np cp (K + 1 + 3 * nc) w4 (hBy3.on m4) (by omega) (by omega)
      clear hBy3
      go_wp2_with fail
      refine h2.mono ?_
      rintro e w5 ⟨rfl, m5⟩
      have m45 := m4.trans m5
      clear q1 q2 q3 h2 m4 m5
      obtain ⟨q1, q2, q3⟩ := HCE.out w5 m45
      have h3 := markIndexS_mk (S := S4) (.inr (.inr (.inl rfl))) (.inr (.inl rfl)) B gi ni ci (K + 1 + 3 * nc + 2 * np) w5 (hIx3.on m45) (by omega) (by omega)
      clear hIx3
      go_wp2_with fail
      refine h3.mono ?_
      rintro e w6 ⟨k', rfl, hk0, hk1, m6⟩
      have HR : Hid (Mk S4 B w w6) := HO3.out.trans (m45.trans m6)
      clear q1 q2 q3 h3 m45 m6 HCE HO3
      go_wp2
      go_roundg (n - (j + 1))
      case measure => omega
      case rel => exact ⟨j + 1, k', by omega, rfl, by go_num, by go_num, by omega, by push_cast; omega, HR.out⟩
    · obtain rfl : j = n := by omega
      have hjz : ¬ (j : Int) < (j : Int) := by omega
      clear hM
      go_wp2
      go_ret
      exact ⟨K, rfl, hK0, hK1, hO⟩
end Go.Proofs.YtjoimkfpenbkmabGreatDoor

/-
  Two values are held against each other, all fields at once.
-/
namespace Go.Proofs.YtjoimkfpenbkmabGreatDoor
open Go.RowKit
set_option maxRecDepth 4000

def valAgg (k n : Int) (s : ByteArray) : Value := .agg #[.int .i64 k, .int .i64 n, .string s]

/-- Whether two values are alike. -/
def eqV (k n : Int) (s : ByteArray) (k' n' : Int) (s' : ByteArray) : Bool := decide (k = k') && decide (n = n') && decide (s = s')

theorem toList_inj {a b : ByteArray} : a.toList = b.toList ↔ a = b := by
  constructor
  · intro h
    rw [ByteArray.toList_eq, ByteArray.toList_eq] at h
    obtain ⟨⟨x⟩⟩ := a
    obtain ⟨⟨y⟩⟩ := b
    simp only at h
    rw [h]
  · rintro rfl; rfl

theorem eqVal_run (k n : Int) (s : ByteArray) (k' n' : Int) (s' : ByteArray) (W : World) :
    (binOp .eql 62 (.agg #[.int .i64 k, .int .i64 n, .string s]) (.agg #[.int .i64 k', .int .i64 n', .string s'])).run Tryz.prog W = .ok (.bool (eqV k n s k' n' s')) W := by
  by_cases h1 : k = k' <;> by_cases h2 : n = n' <;> by_cases h3 : s = s' <;> simp [go_sem, h1, h2, h3, eqV, toList_inj]

theorem neVal_run (k n : Int) (s : ByteArray) (k' n' : Int) (s' : ByteArray) (W : World) :
    (binOp .neq 62 (.agg #[.int .i64 k, .int .i64 n, .string s]) (.agg #[.int .i64 k', .int .i64 n', .string s'])).run Tryz.prog W = .ok (.bool (!eqV k n s k' n' s')) W := by
  by_cases h1 : k = k' <;> by_cases h2 : n = n' <;> by_cases h3 : s = s' <;> simp [go_sem, h1, h2, h3, eqV, toList_inj]

end Go.Proofs.YtjoimkfpenbkmabGreatDoor

/-
  Values that were put into variables of the call's own, in later worlds.
-/
namespace Go.Proofs.YtjoimkfpenbkmabGreatDoor
open Go.RowKit
set_option maxRecDepth 4000

/-- A value that was put into a variable of the call's own reads as it did. -/
theorem boxed {w W' : World} {T : TypeId} {k n : Int} {s : ByteArray} {B : Nat} (h : Below B (w.alloc (.cells #[.int .i64 k, .int .i64 n, .string s] T)) W') (hB : w.heap.size < B) : W'.cell? ⟨w.heap.size, 0, none⟩ = some (.int .i64 k) ∧ W'.cell? ⟨w.heap.size, 1, none⟩ = some (.int .i64 n) ∧ W'.cell? ⟨w.heap.size, 2, none⟩ = some (.string s) := by
  refine ⟨?_, ?_, ?_⟩
  all_goals (rw [h.cell hB]; simp [go_sem])

/-- And it may be written. -/
theorem boxedF {w W' : World} {T : TypeId} {k n : Int} {s : ByteArray} {B : Nat} (h : Below B (w.alloc (.cells #[.int .i64 k, .int .i64 n, .string s] T)) W') (hB : w.heap.size < B) : W'.frozen? ⟨w.heap.size, 0, none⟩ = false ∧ W'.frozen? ⟨w.heap.size, 1, none⟩ = false ∧ W'.frozen? ⟨w.heap.size, 2, none⟩ = false := by
  refine ⟨?_, ?_, ?_⟩
  all_goals (rw [h.frozen hB]; simp [go_sem])

theorem sc_other (W : World) (B i j : Nat) (v : Value) (h : i ≠ j) : (W.setCell ⟨B, i, none⟩ v).cell? ⟨B, j, none⟩ = W.cell? ⟨B, j, none⟩ :=
  World.cell?_setCell_other W _ _ v (by intro e; exact h (congrArg Addr.off e))
theorem sc_same {W : World} {B i : Nat} {v u : Value} (h : W.cell? ⟨B, i, none⟩ = some u) : (W.setCell ⟨B, i, none⟩ v).cell? ⟨B, i, none⟩ = some v := World.cell?_setCell_same W _ v h

/-- A value that is put into the result's variable. -/
theorem stored3 {W : World} {B : Nat} {x0 x1 x2 : Value} (a b c : Value) (c0 : W.cell? ⟨B, 0, none⟩ = some x0) (c1 : W.cell? ⟨B, 1, none⟩ = some x1) (c2 : W.cell? ⟨B, 2, none⟩ = some x2) :
    (((W.setCell ⟨B, 0, none⟩ a).setCell ⟨B, 1, none⟩ b).setCell ⟨B, 2, none⟩ c).cell? ⟨B, 0, none⟩ = some a ∧
    (((W.setCell ⟨B, 0, none⟩ a).setCell ⟨B, 1, none⟩ b).setCell ⟨B, 2, none⟩ c).cell? ⟨B, 1, none⟩ = some b ∧
    (((W.setCell ⟨B, 0, none⟩ a).setCell ⟨B, 1, none⟩ b).setCell ⟨B, 2, none⟩ c).cell? ⟨B, 2, none⟩ = some c := by
  refine ⟨?_, ?_, ?_⟩
  · rw [sc_other _ _ 2 0 _ (by decide), sc_other _ _ 1 0 _ (by decide), sc_same c0]
  · rw [sc_other _ _ 2 1 _ (by decide), sc_same (u := x1) (by rw [sc_other _ _ 0 1 _ (by decide)]; exact c1)]
  · rw [sc_same (u := x2) (by rw [sc_other _ _ 1 2 _ (by decide), sc_other _ _ 0 2 _ (by decide)]; exact c2)]

theorem stored3A {W : World} {B : Nat} {x0 x1 x2 : Value} (a b c : Value) (c0 : W.cell? ⟨B, 0, none⟩ = some x0) (c1 : W.cell? ⟨B, 1, none⟩ = some x1) (c2 : W.cell? ⟨B, 2, none⟩ = some x2) (h : B < W.heap.size) (o : Obj) :
    ((((W.setCell ⟨B, 0, none⟩ a).setCell ⟨B, 1, none⟩ b).setCell ⟨B, 2, none⟩ c).alloc o).cell? ⟨B, 0, none⟩ = some a ∧
    ((((W.setCell ⟨B, 0, none⟩ a).setCell ⟨B, 1, none⟩ b).setCell ⟨B, 2, none⟩ c).alloc o).cell? ⟨B, 1, none⟩ = some b ∧
    ((((W.setCell ⟨B, 0, none⟩ a).setCell ⟨B, 1, none⟩ b).setCell ⟨B, 2, none⟩ c).alloc o).cell? ⟨B, 2, none⟩ = some c := by
  have g := stored3 a b c c0 c1 c2
  have hB : B < (((W.setCell ⟨B, 0, none⟩ a).setCell ⟨B, 1, none⟩ b).setCell ⟨B, 2, none⟩ c).heap.size := by simpa using h
  rw [World.cell?_alloc_past _ _ _ hB, World.cell?_alloc_past _ _ _ hB, World.cell?_alloc_past _ _ _ hB]
  exact g

/-- Two values that were put into variables of the call's own stand in a later world. -/
structure Two (w : World) (T : TypeId) (k n : Int) (s : ByteArray) (k' n' : Int) (s' : ByteArray) (W : World) : Prop where
  below : Below (w.heap.size + 2) ((w.alloc (.cells #[.int .i64 k, .int .i64 n, .string s] T)).alloc (.cells #[.int .i64 k', .int .i64 n', .string s'] T)) W
  size : w.heap.size + 2 ≤ W.heap.size

theorem Two.start (w : World) (T : TypeId) (k n : Int) (s : ByteArray) (k' n' : Int) (s' : ByteArray) : Two w T k n s k' n' s' ((w.alloc (.cells #[.int .i64 k, .int .i64 n, .string s] T)).alloc (.cells #[.int .i64 k', .int .i64 n', .string s'] T)) := ⟨Below.refl _ _, by simp⟩
theorem Two.drew {w W : World} {T : TypeId} {k n : Int} {s : ByteArray} {k' n' : Int} {s' : ByteArray} (h : Two w T k n s k' n' s' W) : Two w T k n s k' n' s' W.drew := ⟨h.below.drew, h.size⟩
theorem Two.step {w W W' : World} {T : TypeId} {k n : Int} {s : ByteArray} {k' n' : Int} {s' : ByteArray} (h : Two w T k n s k' n' s' W) (hB : Below W.heap.size W W') : Two w T k n s k' n' s' W' :=
  ⟨h.below.trans (hB.mono h.size), Nat.le_trans h.size hB.size⟩
theorem Two.cells {w W : World} {T : TypeId} {k n : Int} {s : ByteArray} {k' n' : Int} {s' : ByteArray} (h : Two w T k n s k' n' s' W) :
    (W.cell? ⟨w.heap.size, 0, none⟩ = some (.int .i64 k) ∧ W.cell? ⟨w.heap.size, 1, none⟩ = some (.int .i64 n) ∧ W.cell? ⟨w.heap.size, 2, none⟩ = some (.string s)) ∧
    (W.cell? ⟨w.heap.size + 1, 0, none⟩ = some (.int .i64 k') ∧ W.cell? ⟨w.heap.size + 1, 1, none⟩ = some (.int .i64 n') ∧ W.cell? ⟨w.heap.size + 1, 2, none⟩ = some (.string s')) := by
  refine ⟨⟨?_, ?_, ?_⟩, ?_, ?_, ?_⟩
  all_goals (rw [h.below.cell (by show _ < _; simp <;> omega)]; simp [go_sem])
theorem Two.all {w W : World} {T : TypeId} {k n : Int} {s : ByteArray} {k' n' : Int} {s' : ByteArray} (h : Two w T k n s k' n' s' W) : Below w.heap.size w W :=
  (((Below.refl _ _).alloc (Nat.le_refl _) _).alloc (by simp) _).trans (h.below.mono (by omega))

end Go.Proofs.YtjoimkfpenbkmabGreatDoor

/-
  A slice of values that reads, by a function of the index, and how that is carried from one world to the next.
-/
namespace Go.Proofs.YtjoimkfpenbkmabGreatDoor
open Go.RowKit
set_option maxRecDepth 4000

/-- The slice value '.slice ao n cap' reads, in the world w, as the n values f 0 up to f (n - 1). -/
structure VView (w : World) (ao : Option Addr) (n cap : Nat) (fk fn : Nat → Int) (fs : Nat → ByteArray) : Prop where
  le : n ≤ cap
  cells : 0 < n → ∃ b off, ao = some ⟨b, off, none⟩ ∧ b < w.heap.size ∧ ∀ i, i < n → w.cell? ⟨b, off + i * 3, none⟩ = some (.int .i64 (fk i)) ∧ w.cell? ⟨b, off + i * 3 + 1, none⟩ = some (.int .i64 (fn i)) ∧ w.cell? ⟨b, off + i * 3 + 2, none⟩ = some (.string (fs i))

theorem VView.below {w w' : World} {ao : Option Addr} {n cap : Nat} {fk fn : Nat → Int} {fs : Nat → ByteArray} (h : VView w ao n cap fk fn fs) (hb : Below w.heap.size w w') : VView w' ao n cap fk fn fs := by
  refine ⟨h.le, fun hn => ?_⟩
  obtain ⟨b, off, e, hlt, hc⟩ := h.cells hn
  refine ⟨b, off, e, Nat.lt_of_lt_of_le hlt hb.size, fun i hi => ?_⟩
  rw [hb.cell (p := ⟨b, off + i * 3, none⟩) hlt, hb.cell (p := ⟨b, off + i * 3 + 1, none⟩) hlt, hb.cell (p := ⟨b, off + i * 3 + 2, none⟩) hlt]
  exact hc i hi

end Go.Proofs.YtjoimkfpenbkmabGreatDoor

/-
  Rows of values of the call's own, that grow by one value at a time.
-/
namespace Go.Proofs.YtjoimkfpenbkmabGreatDoor
open Go.RowKit
set_option maxRecDepth 4000

/-- The cells of the first k values. -/
def rowC (gk gn : Nat → Int) (gs : Nat → ByteArray) : Nat → List Value
  | 0 => []
  | k + 1 => rowC gk gn gs k ++ [.int .i64 (gk k), .int .i64 (gn k), .string (gs k)]
theorem rowC_len (gk gn : Nat → Int) (gs : Nat → ByteArray) : ∀ k, (rowC gk gn gs k).length = k * 3
  | 0 => rfl
  | k + 1 => by rw [rowC, List.length_append, rowC_len gk gn gs k]; simp; omega
theorem rowC_get (gk gn : Nat → Int) (gs : Nat → ByteArray) : ∀ k i, i < k → (rowC gk gn gs k)[i * 3]? = some (.int .i64 (gk i)) ∧ (rowC gk gn gs k)[i * 3 + 1]? = some (.int .i64 (gn i)) ∧ (rowC gk gn gs k)[i * 3 + 2]? = some (.string (gs i))
  | k + 1, i, hi => by
    have hl := rowC_len gk gn gs k
    by_cases e : i < k
    · obtain ⟨h1, h2, h3⟩ := rowC_get gk gn gs k i e
      rw [rowC, List.getElem?_append_left (by omega), List.getElem?_append_left (by omega), List.getElem?_append_left (by omega)]
      exact ⟨h1, h2, h3⟩
    · obtain rfl : i = k := by omega
      rw [rowC, List.getElem?_append_right (by omega), List.getElem?_append_right (by omega), List.getElem?_append_right (by omega), hl]
      simp [show i * 3 + 1 - i * 3 = 1 by omega, show i * 3 + 2 - i * 3 = 2 by omega]
theorem rowC_congr {gk gn : Nat → Int} {gs : Nat → ByteArray} {hk hn : Nat → Int} {hs : Nat → ByteArray} : ∀ {k : Nat}, (∀ i, i < k → gk i = hk i ∧ gn i = hn i ∧ gs i = hs i) → rowC gk gn gs k = rowC hk hn hs k
  | 0, _ => rfl
  | k + 1, e => by
    obtain ⟨h1, h2, h3⟩ := e k (by omega)
    rw [rowC, rowC, rowC_congr (fun i hi => e i (by omega)), h1, h2, h3]

/-- A row of values of the call's own reads. -/
theorem vview_of_own {w : World} {base : Nat} {v : Value} {N : Nat} {gk gn : Nat → Int} {gs : Nat → ByteArray} (h : w.ownsRow base 62 3 v N (rowC gk gn gs N)) : ∃ a c, v = .slice a N c ∧ VView w a N c gk gn gs ∧ (v ≠ .slice none 0 0 → ∃ g, a = some ⟨g, 0, none⟩ ∧ base ≤ g) := by
  obtain ⟨hl, h⟩ := h
  rcases h with ⟨rfl, h0⟩ | ⟨g, c, cur, rfl, hb, hg, hnc, _, hcs, ht⟩
  · have hN : N = 0 := by have := h0; have := rowC_len gk gn gs N; omega
    subst hN
    exact ⟨none, 0, rfl, ⟨Nat.le_refl _, fun hn => absurd hn (Nat.lt_irrefl _)⟩, fun hne => absurd rfl hne⟩
  · refine ⟨_, c, rfl, ⟨hnc, fun hn => ⟨g, 0, rfl, ?_, fun i hi => ?_⟩⟩, fun _ => ⟨g, rfl, hb⟩⟩
    · exact (Array.getElem?_eq_some_iff.1 hg).1
    · have key : ∀ j x, j < N * 3 → (rowC gk gn gs N)[j]? = some x → w.cell? ⟨g, 0 + j, none⟩ = some x := by
        intro j x hj hx
        rw [← ht, List.getElem?_take, if_pos hj] at hx
        simp only [World.cell?, hg, Nat.zero_add]
        simpa using hx
      obtain ⟨h1, h2, h3⟩ := rowC_get gk gn gs N i hi
      have k0 := key _ _ (by omega) h1
      have k1 := key _ _ (by omega) h2
      have k2 := key _ _ (by omega) h3
      simp only [Nat.zero_add] at k0 k1 k2 ⊢
      exact ⟨k0, k1, k2⟩
end Go.Proofs.YtjoimkfpenbkmabGreatDoor

