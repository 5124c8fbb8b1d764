/-
  Together: CopyIdx2, CopyDef2, Conv, MarkText, MarkKit11
-/
import Derived.Test.YtjoimkfpenbkmabGreatDoorPackK3
import Derived.Test.YtjoimkfpenbkmabGreatDoorPackK1
import Derived.Laws.BytesArg
import Derived.Deep.LoopGhost
/-
  A row of indexes copied into a new one, as the law does it.
-/
namespace Go.Proofs.YtjoimkfpenbkmabGreatDoor
open Go.RowKit
set_option maxRecDepth 4000

/-- A row of indexes whose blocks, and those of their parts, lie from B on. -/
structure IOwn (w : World) (B : Nat) (ao : Option Addr) (n cap : Nat) (f : Nat → PIdx) : Prop where
  le : n ≤ cap
  cells : 0 < n → ∃ b off, ao = some ⟨b, off, none⟩ ∧ B ≤ b ∧ b < w.heap.size ∧ ∀ i, i < n → w.cell? ⟨b, off + i * 3, none⟩ = some (.string (f i).name) ∧ w.cell? ⟨b, off + i * 3 + 1, none⟩ = some (.bool (f i).uniq) ∧ ∃ A c, w.cell? ⟨b, off + i * 3 + 2, none⟩ = some (.slice (some ⟨A, 0, none⟩) (f i).n c) ∧ B ≤ A ∧ BRow w (some ⟨A, 0, none⟩) (f i).n c (f i).part
  row : ∃ b g, ao = some ⟨b, 0, none⟩ ∧ B ≤ b ∧ w.rowIs b 106 (n * 3) g
theorem IOwn.view {w : World} {B : Nat} {ao : Option Addr} {n cap : Nat} {f : Nat → PIdx} (h : IOwn w B ao n cap f) : IView w ao n cap f := by
  refine ⟨h.le, fun hn => ?_⟩
  obtain ⟨b, off, e, -, hlt, hc⟩ := h.cells hn
  refine ⟨b, off, e, hlt, fun i hi => ?_⟩
  obtain ⟨h0, h1, A, c, h2, -, hv⟩ := hc i hi
  exact ⟨h0, h1, _, c, h2, hv.view⟩
theorem IOwn.below {w w' : World} {B : Nat} {ao : Option Addr} {n cap : Nat} {f : Nat → PIdx} (h : IOwn w B ao n cap f) (hb : Below w.heap.size w w') : IOwn w' B ao n cap f := by
  refine ⟨h.le, fun hn => ?_, ?_⟩
  rotate_left
  · obtain ⟨b, g, e, hB, hr⟩ := h.row
    exact ⟨b, g, e, hB, rowIs_below9 hr hb hr.lt⟩
  obtain ⟨b, off, e, hB, hlt, hc⟩ := h.cells hn
  refine ⟨b, off, e, hB, Nat.lt_of_lt_of_le hlt hb.size, fun i hi => ?_⟩
  rw [hb.cell (p := ⟨b, off + i * 3, none⟩) hlt, hb.cell (p := ⟨b, off + i * 3 + 1, none⟩) hlt, hb.cell (p := ⟨b, off + i * 3 + 2, none⟩) hlt]
  obtain ⟨h0, h1, A, c, h2, hA, hv⟩ := hc i hi
  exact ⟨h0, h1, A, c, h2, hA, hv.below hb⟩
theorem IOwn.set {w : World} {B C : Nat} {ao : Option Addr} {n cap : Nat} {f : Nat → PIdx} (h : IOwn w B ao n cap f) (hC : C < B) (j : Nat) (u : Value) : IOwn (w.setCell ⟨C, j, none⟩ u) B ao n cap f := by
  refine ⟨h.le, fun hn => ?_, ?_⟩
  rotate_left
  · obtain ⟨b, g, e, hB, hr⟩ := h.row
    exact ⟨b, g, e, hB, hr.setOther (show b ≠ C by omega) u⟩
  obtain ⟨b, off, e, hB, hlt, hc⟩ := h.cells hn
  refine ⟨b, off, e, hB, by simpa using hlt, fun i hi => ?_⟩
  have hk : (w.setCell ⟨C, j, none⟩ u).heap[b]? = w.heap[b]? := Below.heap_setCell _ _ _ _ (show b ≠ C by omega)
  rw [World.cell?_of_block (w := w) (a := ⟨b, off + i * 3, none⟩) hk, World.cell?_of_block (w := w) (a := ⟨b, off + i * 3 + 1, none⟩) hk, World.cell?_of_block (w := w) (a := ⟨b, off + i * 3 + 2, none⟩) hk]
  obtain ⟨h0, h1, A, c, h2, hA, hv⟩ := hc i hi
  exact ⟨h0, h1, A, c, h2, hA, hv.set (by omega) _ _⟩
theorem IOwn.mono {w : World} {B B' : Nat} {ao : Option Addr} {n cap : Nat} {f : Nat → PIdx} (h : IOwn w B ao n cap f) (hB : B' ≤ B) : IOwn w B' ao n cap f := by
  refine ⟨h.le, fun hn => ?_, ?_⟩
  rotate_left
  · obtain ⟨b, g, e, hb, hr⟩ := h.row
    exact ⟨b, g, e, by omega, hr⟩
  obtain ⟨b, off, e, hb, hlt, hc⟩ := h.cells hn
  refine ⟨b, off, e, by omega, hlt, fun i hi => ?_⟩
  obtain ⟨h0, h1, A, c, h2, hA, hv⟩ := hc i hi
  exact ⟨h0, h1, A, c, h2, by omega, hv⟩

def cellIdx (f : Nat → PIdx) (A : Nat → Nat) (j : Nat) : Value := if j % 3 = 0 then .string (f (j / 3)).name else if j % 3 = 1 then .bool (f (j / 3)).uniq else .slice (some ⟨A (j / 3), 0, none⟩) (f (j / 3)).n (f (j / 3)).n
def zeroIdx (j : Nat) : Value := if j % 3 = 0 then .string ⟨#[]⟩ else if j % 3 = 1 then .bool false else .slice none 0 0
theorem infoIdx : ∃ i, Tryz.prog.info? 106 = some i ∧ i.zero = some (.agg #[.string ⟨#[]⟩, .bool false, .slice none 0 0]) ∧ i.size = 3 ∧ i.bytes = 48 := by
  have h : (Tryz.prog.info? 106).map (fun i => (i.zero, i.size, i.bytes)) = some (some (.agg #[.string ⟨#[]⟩, .bool false, .slice none 0 0]), 3, 48) := by kernel_rfl
  obtain ⟨i, hi, hz⟩ := Option.map_eq_some_iff.1 h
  simp only [Prod.mk.injEq] at hz
  exact ⟨i, hi, hz.1, hz.2.1, hz.2.2⟩
theorem makeIdx (n : Nat) (h : n ≤ 1048576) (w : World) : (Instr.makeSlice 58 (.int .i64 (n : Int)) (.int .i64 (n : Int))).run Tryz.prog w = .ok (.slice (some ⟨w.heap.size, 0, none⟩) n n) (w.alloc (.cells (madeCells #[.string ⟨#[]⟩, .bool false, .slice none 0 0] (n * 3)) 106)) := by
  obtain ⟨i, hi, hz, hs, hb⟩ := infoIdx
  have hr := run_make (P := Tryz.prog) w 58 106 i _ Tryz.underlying58 hi hz .i64 .i64 n n (by omega) (Int.le_refl _) (by rw [hb]; omega) (by omega)
  simp only [Int.toNat_natCast, hs] at hr
  exact hr

/-- k of the n elements are copied into the new row. -/
structure CopiedIdx (w wr : World) (n : Nat) (f : Nat → PIdx) (A : Nat → Nat) (k : Nat) : Prop where
  below : Below w.heap.size w wr
  size : w.heap.size < wr.heap.size
  row : wr.rowIs w.heap.size 106 (n * 3) (fun j => if j < k * 3 then cellIdx f A j else zeroIdx j)
  views : ∀ i, i < k → w.heap.size < A i ∧ A i < wr.heap.size ∧ BRow wr (some ⟨A i, 0, none⟩) (f i).n (f i).n (f i).part
theorem copiedIdx_start (w : World) (n : Nat) (f : Nat → PIdx) (A : Nat → Nat) : CopiedIdx w (w.alloc (.cells (madeCells #[.string ⟨#[]⟩, .bool false, .slice none 0 0] (n * 3)) 106)) n f A 0 := by
  have hr := World.rowIs_alloc w (madeCells #[.string ⟨#[]⟩, .bool false, .slice none 0 0] (n * 3)) 106 zeroIdx (fun i hi => by
    rw [size_madeCells] at hi
    simp [madeCells, hi, zeroIdx]
    have h3 : i % 3 = 0 ∨ i % 3 = 1 ∨ i % 3 = 2 := by omega
    rcases h3 with h | h | h <;> simp [h])
  rw [size_madeCells] at hr
  exact ⟨(Below.refl _ _).alloc (Nat.le_refl _) _, by simp, hr.congr (fun i _ => by simp), fun i hi => absurd hi (Nat.not_lt_zero _)⟩
theorem CopiedIdx.step {w wr w2 : World} {n : Nat} {f : Nat → PIdx} {A : Nat → Nat} {k : Nat} (h : CopiedIdx w wr n f A k) (hb : Below wr.heap.size wr w2) : CopiedIdx w w2 n f A k :=
  ⟨h.below.trans (hb.mono h.below.size), Nat.lt_of_lt_of_le h.size hb.size, rowIs_below9 h.row hb h.size, fun i hi => ⟨(h.views i hi).1, Nat.lt_of_lt_of_le (h.views i hi).2.1 hb.size, (h.views i hi).2.2.below hb⟩⟩
theorem CopiedIdx.put {w wr : World} {n : Nat} {f : Nat → PIdx} {A : Nat → Nat} {k : Nat} (h : CopiedIdx w wr n f A k) (hA : w.heap.size < A k ∧ A k < wr.heap.size ∧ BRow wr (some ⟨A k, 0, none⟩) (f k).n (f k).n (f k).part) :
    CopiedIdx w (((wr.setCell ⟨w.heap.size, k * 3, none⟩ (.string (f k).name)).setCell ⟨w.heap.size, k * 3 + 1, none⟩ (.bool (f k).uniq)).setCell ⟨w.heap.size, k * 3 + 2, none⟩ (.slice (some ⟨A k, 0, none⟩) (f k).n (f k).n)) n f A (k + 1) := by
  refine ⟨(((h.below.setCell (Nat.le_refl _) _).setCell (Nat.le_refl _) _).setCell (Nat.le_refl _) _), by simpa using h.size, ((((h.row.set _ _).set _ _).set _ _).congr (fun i _ => ?_)), fun i hi => ?_⟩
  · by_cases e2 : i = k * 3 + 2
    · subst e2
      have m : (k * 3 + 2) % 3 = 2 := by omega
      have d : (k * 3 + 2) / 3 = k := by omega
      simp [cellIdx, m, d, show k * 3 + 2 < (k + 1) * 3 by omega]
    by_cases e1 : i = k * 3 + 1
    · subst e1
      have m : (k * 3 + 1) % 3 = 1 := by omega
      have d : (k * 3 + 1) / 3 = k := by omega
      simp [cellIdx, m, d, show k * 3 + 1 < (k + 1) * 3 by omega]
    by_cases e0 : i = k * 3
    · subst e0
      have m : (k * 3) % 3 = 0 := by omega
      have d : (k * 3) / 3 = k := by omega
      simp [cellIdx, m, d, show k * 3 < (k + 1) * 3 by omega]
    simp only [e0, e1, e2, if_false]
    by_cases hlt : i < k * 3
    · rw [if_pos hlt, if_pos (by omega)]
    · rw [if_neg hlt, if_neg (by omega)]
  · have key : ∀ i, i < k + 1 → w.heap.size < A i ∧ A i < wr.heap.size ∧ BRow wr (some ⟨A i, 0, none⟩) (f i).n (f i).n (f i).part := by
      intro i hi
      by_cases e : i < k
      · exact h.views i e
      · obtain rfl : i = k := by omega
        exact hA
    obtain ⟨h1, h2, h3⟩ := key i hi
    exact ⟨h1, by simpa using h2, ((h3.set (by omega) _ _).set (by omega) _ _).set (by omega) _ _⟩
theorem CopiedIdx.view {w wr : World} {n : Nat} {f : Nat → PIdx} {A : Nat → Nat} (h : CopiedIdx w wr n f A n) : IOwn wr w.heap.size (some ⟨w.heap.size, 0, none⟩) n n f := by
  refine ⟨Nat.le_refl _, fun _ => ⟨_, 0, rfl, Nat.le_refl _, h.size, fun i hi => ?_⟩, ⟨_, _, rfl, Nat.le_refl _, h.row⟩⟩
  have c0 := h.row.cell (i := i * 3) (by omega)
  have m0 : (i * 3) % 3 = 0 := by omega
  have d0 : (i * 3) / 3 = i := by omega
  simp only [show i * 3 < n * 3 by omega, if_true, cellIdx, m0, d0] at c0
  have c1 := h.row.cell (i := i * 3 + 1) (by omega)
  have m1 : (i * 3 + 1) % 3 = 1 := by omega
  have d1 : (i * 3 + 1) / 3 = i := by omega
  simp only [show i * 3 + 1 < n * 3 by omega, if_true, cellIdx, m1, d1] at c1
  have c2 := h.row.cell (i := i * 3 + 2) (by omega)
  have m2 : (i * 3 + 2) % 3 = 2 := by omega
  have d2 : (i * 3 + 2) / 3 = i := by omega
  simp only [show i * 3 + 2 < n * 3 by omega, if_true, cellIdx, m2, d2] at c2
  rw [Nat.zero_add]
  exact ⟨by simpa using c0, by simpa using c1, _, _, by simpa using c2, Nat.le_of_lt (h.views i hi).1, (h.views i hi).2.2⟩

set_option maxHeartbeats 1000000 in
theorem toIndex_any (s : ByteArray) (u : Bool) (a : Option Addr) (n cap : Nat) (f : Nat → PBy) (w : World) (h : BView w a n cap f) (hn : n ≤ 1048576) :
    Calls Tryz.prog 87 #[.agg #[.string s, .bool u, .slice a n cap]] w fun e w' => ∃ A : Nat, e = .returned (.agg #[.string s, .bool u, .slice (some ⟨A, 0, none⟩) n n]) ∧ w.heap.size ≤ A ∧ A < w'.heap.size ∧ BRow w' (some ⟨A, 0, none⟩) n n f ∧ Below w.heap.size w w' := by
  have hb0 : Below w.heap.size w (((w.alloc (.cells #[.string s, .bool u, .slice a n cap] 114)).alloc (.cells #[.string ⟨#[]⟩, .bool false, .slice none 0 0] 106)).alloc (.cells #[.string s, .bool u, .slice none 0 0] 106)) := (((Below.refl _ _).alloc (Nat.le_refl _) _).alloc (by simp) _).alloc (by simp; omega) _
  have hS := toByS_any a n cap f _ (h.below hb0) hn
  have V2 := V3.new ((w.alloc (.cells #[.string s, .bool u, .slice a n cap] 114)).alloc (.cells #[.string ⟨#[]⟩, .bool false, .slice none 0 0] 106)) 106 (.string s) (.bool u) (.slice none 0 0)
  have V1 := (V3.new (w.alloc (.cells #[.string s, .bool u, .slice a n cap] 114)) 106 (.string ⟨#[]⟩) (.bool false) (.slice none 0 0)).below ((Below.refl _ _).alloc (Nat.le_refl _) (.cells #[.string s, .bool u, .slice none 0 0] 106))
  simp only [alloc_size9] at V1 V2 hS
  clear h
  go_enter Tryz.func87, Tryz.ntmps87
  go_wp2_with fail
  refine hS.mono ?_
  rintro e w2 ⟨rfl, hv, hb2, hlt2⟩
  have V2' := V2.below (by simpa using hb2)
  have V1' := V1.below (by simpa using hb2)
  clear V1 V2 hS
  obtain ⟨c0, c1, c2⟩ := V2'.cells
  obtain ⟨-, -, q2⟩ := V2'.fz
  obtain ⟨W3, hW3⟩ : ∃ W3, Hid (w2.setCell ⟨w.heap.size + 1 + 1, 2, none⟩ (.slice (some ⟨w.heap.size + 1 + 1 + 1, 0, none⟩) n n) = W3) := ⟨_, rfl⟩
  have V2'' := V2'.set2 (.slice (some ⟨w.heap.size + 1 + 1 + 1, 0, none⟩) n n)
  have V1'' := V1'.other (C := w.heap.size + 1 + 1) (i := 2) (u := .slice (some ⟨w.heap.size + 1 + 1 + 1, 0, none⟩) n n) (by omega)
  rw [hW3.out] at V1'' V2''
  obtain ⟨g0, g1, g2⟩ := V2''.cells
  obtain ⟨k0, k1, k2⟩ := V1''.cells
  obtain ⟨p0, p1, p2⟩ := V1''.fz
  have V1f := ((V1''.set0 (.string s)).set1 (.bool u)).set2 (.slice (some ⟨w.heap.size + 1 + 1 + 1, 0, none⟩) n n)
  obtain ⟨r0, r1, r2⟩ := V1f.cells
  have HR : Hid (BRow (((W3.setCell ⟨w.heap.size + 1, 0, none⟩ (.string s)).setCell ⟨w.heap.size + 1, 1, none⟩ (.bool u)).setCell ⟨w.heap.size + 1, 2, none⟩ (.slice (some ⟨w.heap.size + 1 + 1 + 1, 0, none⟩) n n)) (some ⟨w.heap.size + 1 + 1 + 1, 0, none⟩) n n f ∧ Below w.heap.size w (((W3.setCell ⟨w.heap.size + 1, 0, none⟩ (.string s)).setCell ⟨w.heap.size + 1, 1, none⟩ (.bool u)).setCell ⟨w.heap.size + 1, 2, none⟩ (.slice (some ⟨w.heap.size + 1 + 1 + 1, 0, none⟩) n n)) ∧ w.heap.size + 1 + 1 + 1 < (((W3.setCell ⟨w.heap.size + 1, 0, none⟩ (.string s)).setCell ⟨w.heap.size + 1, 1, none⟩ (.bool u)).setCell ⟨w.heap.size + 1, 2, none⟩ (.slice (some ⟨w.heap.size + 1 + 1 + 1, 0, none⟩) n n)).heap.size) := by
    rw [← hW3.out]
    refine ⟨?_, ?_, by simpa using hlt2⟩
    · exact (((hv.set (by omega) _ _).set (by omega) _ _).set (by omega) _ _).set (by omega) _ _
    · have hb3 : Below w.heap.size w w2 := hb0.trans (hb2.mono (by omega))
      exact (((hb3.setCell (p := ⟨w.heap.size + 1 + 1, 2, none⟩) (by simp; omega) _).setCell (p := ⟨w.heap.size + 1, 0, none⟩) (by simp) _).setCell (p := ⟨w.heap.size + 1, 1, none⟩) (by simp) _).setCell (p := ⟨w.heap.size + 1, 2, none⟩) (by simp) _
  clear V1f V1' V1'' V2' V2'' hv hb2 hb0 hlt2
  go_wp2_with (rw [hW3.out])
  refine bodyPost_ret (v := .agg #[.string s, .bool u, .slice (some ⟨w.heap.size + 1 + 1 + 1, 0, none⟩) n n]) (by simp [results, Tryz.results87, go_sem, r0, r1, r2]) rfl ⟨_, rfl, by omega, HR.out.2.2, HR.out.1, HR.out.2.1⟩

/-- The addresses, with one more. -/
def upA (A : Nat → Nat) (k a : Nat) : Nat → Nat := fun i => if i = k then a else A i
theorem CopiedIdx.up {w wr : World} {n : Nat} {f : Nat → PIdx} {A : Nat → Nat} {k : Nat} (h : CopiedIdx w wr n f A k) (a : Nat) : CopiedIdx w wr n f (upA A k a) k := by
  refine ⟨h.below, h.size, h.row.congr (fun i _ => ?_), fun i hi => ?_⟩
  · by_cases e : i < k * 3
    · have d : i / 3 ≠ k := by omega
      simp [e, cellIdx, upA, d]
    · simp [e]
  · have d : i ≠ k := by omega
    have := h.views i hi
    simpa [upA, d] using this

set_option maxHeartbeats 2000000 in
theorem toIndexS_any (a : Option Addr) (n cap : Nat) (f : Nat → PIdx) (w : World) (h : IView w a n cap f) (hn : n ≤ 1048576) (hz : ∀ i, i < n → (f i).n ≤ 1048576) :
    Calls Tryz.prog 58 #[.slice a n cap] w fun e w' => e = .returned (.slice (some ⟨w.heap.size, 0, none⟩) n n) ∧ IOwn w' w.heap.size (some ⟨w.heap.size, 0, none⟩) n n f ∧ Below w.heap.size w w' ∧ w.heap.size < w'.heap.size := by
  have hmk := fun W => makeIdx n hn W
  go_enter Tryz.func58, Tryz.ntmps58
  go_wp2
  clear hmk
  go_loopg [4] n (fun q i wr => ∃ (k : Nat) (A : Nat → Nat), k ≤ n ∧ q = n - k ∧ i = .int .i64 k ∧ CopiedIdx w wr n f A k)
  case atStart => exact ⟨0, fun _ => 0, Nat.zero_le _, rfl, rfl, copiedIdx_start w n f _⟩
  case round =>
    obtain ⟨k, A, hk, rfl, rfl, hC⟩ := hrel
    by_cases hlt : k < n
    · obtain ⟨b1, o1, rfl, hb1, hc1⟩ := (h.below hC.below).cells (by omega)
      obtain ⟨x0, x1, a2, c2, x2, hv⟩ := hc1 k hlt
      have hkz : (k : Int) < (n : Int) := by omega
      have hV := toIndex_any (f k).name (f k).uniq a2 (f k).n c2 (f k).part wr hv (hz k hlt)
      clear hz
      go_wp2_with fail
      refine hV.mono ?_
      rintro e w2 ⟨B, rfl, hB0, hB1, hvB, hB2⟩
      have hC2 := (hC.step hB2).up B
      have hup : upA A k B k = B := by simp [upA]
      have hS0 := hC2.put (by rw [hup]; exact ⟨Nat.lt_of_lt_of_le hC.size hB0, hB1, hvB⟩)
      rw [hup] at hS0
      have hS : Hid _ := hS0
      have z0 := hC2.row.cell (i := k * 3) (by omega)
      have z1 := hC2.row.cell (i := k * 3 + 1) (by omega)
      have z2 := hC2.row.cell (i := k * 3 + 2) (by omega)
      have f0 := hC2.row.frozen (k * 3)
      have f1 := hC2.row.frozen (k * 3 + 1)
      have f2 := hC2.row.frozen (k * 3 + 2)
      clear hc1 hC hC2 hB2 hV x0 x1 x2 h hv hvB hup hB0 hB1 hS0
      go_wp2
      go_roundg (n - (k + 1))
      case measure => omega
      case rel => exact ⟨k + 1, upA A k B, by omega, rfl, by go_num, hS.out⟩
    · have hkn : k = n := by omega
      have hkz : ¬ (k : Int) < (n : Int) := by omega
      rw [hkn] at hC
      have hS : Hid (CopiedIdx w wr n f A n) := hC
      clear hC h hz
      go_wp2
      go_ret
      exact ⟨rfl, hS.out.view, hS.out.below, hS.out.size⟩
end Go.Proofs.YtjoimkfpenbkmabGreatDoor

/-
  A table copied, as the law does it.
-/
namespace Go.Proofs.YtjoimkfpenbkmabGreatDoor
open Go.RowKit
set_option maxRecDepth 4000

theorem CView.set {w : World} {a n c B : Nat} {f : Nat → PCol} (h : CView w (some ⟨a, 0, none⟩) n c f) (hne : a ≠ B) (i : Nat) (u : Value) : CView (w.setCell ⟨B, i, none⟩ u) (some ⟨a, 0, none⟩) n c f := by
  refine ⟨h.le, fun hn => ?_⟩
  obtain ⟨b, off, e, hlt, hc⟩ := h.cells hn
  have hba : b = a := by cases e; rfl
  have hk : (w.setCell ⟨B, i, none⟩ u).heap[b]? = w.heap[b]? := Below.heap_setCell _ _ _ _ (by rw [hba]; exact hne)
  refine ⟨b, off, e, by simpa using hlt, fun j hj => ?_⟩
  rw [World.cell?_of_block (w := w) (a := ⟨b, off + j * 3, none⟩) hk, World.cell?_of_block (w := w) (a := ⟨b, off + j * 3 + 1, none⟩) hk, World.cell?_of_block (w := w) (a := ⟨b, off + j * 3 + 2, none⟩) hk]
  exact hc j hj
theorem CRow.set {w : World} {a n c B : Nat} {f : Nat → PCol} (h : CRow w (some ⟨a, 0, none⟩) n c f) (hne : a ≠ B) (i : Nat) (u : Value) : CRow (w.setCell ⟨B, i, none⟩ u) (some ⟨a, 0, none⟩) n c f := by
  obtain ⟨b, g, e, hr⟩ := h.row
  cases e
  exact ⟨h.view.set hne i u, a, g, rfl, hr.setOther hne u⟩

/-- A table's value whose blocks lie from B on. -/
structure DOwn (w : World) (B : Nat) (v : Value) (D : PDef) : Prop where
  is : ∃ gc cc gp cp gi ci, v = .agg #[.string D.name, .slice (some ⟨gc, 0, none⟩) D.nc cc, .slice (some ⟨gp, 0, none⟩) D.np cp, .slice (some ⟨gi, 0, none⟩) D.ni ci] ∧ B ≤ gc ∧ B ≤ gp ∧ CRow w (some ⟨gc, 0, none⟩) D.nc cc D.col ∧ BRow w (some ⟨gp, 0, none⟩) D.np cp D.pri ∧ IOwn w B (some ⟨gi, 0, none⟩) D.ni ci D.idx
theorem DOwn.view {w : World} {B : Nat} {v : Value} {D : PDef} (h : DOwn w B v D) : DView w v D := by
  obtain ⟨gc, cc, gp, cp, gi, ci, e, -, -, h1, h2, h3⟩ := h.is
  exact ⟨_, cc, _, cp, _, ci, e, h1.view, h2.view, h3.view⟩
theorem DOwn.below {w w' : World} {B : Nat} {v : Value} {D : PDef} (h : DOwn w B v D) (hb : Below w.heap.size w w') : DOwn w' B v D := by
  obtain ⟨gc, cc, gp, cp, gi, ci, e, e1, e2, h1, h2, h3⟩ := h.is
  exact ⟨gc, cc, gp, cp, gi, ci, e, e1, e2, h1.below hb, h2.below hb, h3.below hb⟩
theorem DOwn.set {w : World} {B C : Nat} {v : Value} {D : PDef} (h : DOwn w B v D) (hC : C < B) (j : Nat) (u : Value) : DOwn (w.setCell ⟨C, j, none⟩ u) B v D := by
  obtain ⟨gc, cc, gp, cp, gi, ci, e, e1, e2, h1, h2, h3⟩ := h.is
  exact ⟨gc, cc, gp, cp, gi, ci, e, e1, e2, h1.set (by omega) _ _, h2.set (by omega) _ _, h3.set hC _ _⟩
theorem DOwn.mono {w : World} {B B' : Nat} {v : Value} {D : PDef} (h : DOwn w B v D) (hB : B' ≤ B) : DOwn w B' v D := by
  obtain ⟨gc, cc, gp, cp, gi, ci, e, e1, e2, h1, h2, h3⟩ := h.is
  exact ⟨gc, cc, gp, cp, gi, ci, e, by omega, by omega, h1, h2, h3.mono hB⟩

set_option maxHeartbeats 2000000 in
theorem toDef_any (v : Value) (D : PDef) (w : World) (h : DView w v D) (hf : DFine D) :
    Calls Tryz.prog 29 #[v] w fun e w' => ∃ v', e = .returned v' ∧ DOwn w' w.heap.size v' D ∧ Below w.heap.size w w' := by
  obtain ⟨ac, cc, ap, cp, ai, ci, rfl, hc, hp, hi⟩ := h.is
  clear h
  have hb0 : Below w.heap.size w (((w.alloc (.cells #[.string D.name, .slice ac D.nc cc, .slice ap D.np cp, .slice ai D.ni ci] 48)).alloc (.cells #[.string ⟨#[]⟩, .slice none 0 0, .slice none 0 0, .slice none 0 0] 60)).alloc (.cells #[.string D.name, .slice none 0 0, .slice none 0 0, .slice none 0 0] 60)) := (((Below.refl _ _).alloc (Nat.le_refl _) _).alloc (by simp) _).alloc (by simp; omega) _
  have hS := toColS_any ac D.nc cc D.col _ (hc.below hb0) hf.nc
  have V2 := V4.new ((w.alloc (.cells #[.string D.name, .slice ac D.nc cc, .slice ap D.np cp, .slice ai D.ni ci] 48)).alloc (.cells #[.string ⟨#[]⟩, .slice none 0 0, .slice none 0 0, .slice none 0 0] 60)) 60 (.string D.name) (.slice none 0 0) (.slice none 0 0) (.slice none 0 0)
  have V1 := (V4.new (w.alloc (.cells #[.string D.name, .slice ac D.nc cc, .slice ap D.np cp, .slice ai D.ni ci] 48)) 60 (.string ⟨#[]⟩) (.slice none 0 0) (.slice none 0 0) (.slice none 0 0)).below ((Below.refl _ _).alloc (Nat.le_refl _) (.cells #[.string D.name, .slice none 0 0, .slice none 0 0, .slice none 0 0] 60))
  have V0 := ((V4.new w 48 (.string D.name) (.slice ac D.nc cc) (.slice ap D.np cp) (.slice ai D.ni ci)).below ((Below.refl _ _).alloc (Nat.le_refl _) (.cells #[.string ⟨#[]⟩, .slice none 0 0, .slice none 0 0, .slice none 0 0] 60))).below ((Below.refl _ _).alloc (Nat.le_refl _) (.cells #[.string D.name, .slice none 0 0, .slice none 0 0, .slice none 0 0] 60))
  simp only [alloc_size9] at V0 V1 V2 hS
  go_enter Tryz.func29, Tryz.ntmps29
  go_wp2_with fail
  refine hS.mono ?_
  rintro e w2 ⟨rfl, hv2, hb2, hlt2⟩
  have hbw2 : Below w.heap.size w w2 := hb0.trans (hb2.mono (by omega))
  have V2' := V2.below (by simpa using hb2)
  have V1' := V1.below (by simpa using hb2)
  have V0' := V0.below (by simpa using hb2)
  clear V0 V1 V2 hS hb2 hb0
  obtain ⟨-, a1, -, -⟩ := V2'.cells
  obtain ⟨-, q1, -, -⟩ := V2'.fz
  obtain ⟨W3, hW3⟩ : ∃ W3, Hid (w2.setCell ⟨w.heap.size + 1 + 1, 1, none⟩ (.slice (some ⟨w.heap.size + 1 + 1 + 1, 0, none⟩) D.nc D.nc) = W3) := ⟨_, rfl⟩
  have U2 := V2'.set1 (.slice (some ⟨w.heap.size + 1 + 1 + 1, 0, none⟩) D.nc D.nc)
  have U1 := V1'.other (C := w.heap.size + 1 + 1) (i := 1) (u := .slice (some ⟨w.heap.size + 1 + 1 + 1, 0, none⟩) D.nc D.nc) (by omega)
  have U0 := V0'.other (C := w.heap.size + 1 + 1) (i := 1) (u := .slice (some ⟨w.heap.size + 1 + 1 + 1, 0, none⟩) D.nc D.nc) (by omega)
  have hv3 := hv2.set (B := w.heap.size + 1 + 1) (by omega) 1 (.slice (some ⟨w.heap.size + 1 + 1 + 1, 0, none⟩) D.nc D.nc)
  have hbw3 : Below w.heap.size w (w2.setCell ⟨w.heap.size + 1 + 1, 1, none⟩ (.slice (some ⟨w.heap.size + 1 + 1 + 1, 0, none⟩) D.nc D.nc)) := hbw2.setCell (p := ⟨w.heap.size + 1 + 1, 1, none⟩) (by simp; omega) _
  have hs3 : w.heap.size + 1 + 1 + 1 < (w2.setCell ⟨w.heap.size + 1 + 1, 1, none⟩ (.slice (some ⟨w.heap.size + 1 + 1 + 1, 0, none⟩) D.nc D.nc)).heap.size := by simpa using hlt2
  rw [hW3.out] at U0 U1 U2 hv3 hbw3 hs3
  obtain ⟨u0, u1, u2, u3⟩ := U0.cells
  have hS := toByS_any ap D.np cp D.pri W3 (hp.below hbw3) hf.np
  clear V0' V1' V2' hv2 hbw2 hlt2
  go_wp2_with (rw [hW3.out])
  refine hS.mono ?_
  rintro e w4 ⟨rfl, hv4, hb4, hlt4⟩
  obtain ⟨g4, hg4⟩ : ∃ g, Hid (W3.heap.size = g) := ⟨_, rfl⟩
  rw [hg4.out] at hv4 hlt4 hs3 ⊢
  have hbw4 : Below w.heap.size w w4 := hbw3.trans (hb4.mono hbw3.size)
  have T2 := U2.below hb4
  have T1 := U1.below hb4
  have T0 := U0.below hb4
  have hv3' := hv3.below hb4
  clear U0 U1 U2 hS hb4 hbw3 hv3 u0 u1 u2 u3 hc hp a1 q1
  obtain ⟨-, -, a1, -⟩ := T2.cells
  obtain ⟨-, -, q1, -⟩ := T2.fz
  obtain ⟨W5, hW5⟩ : ∃ W5, Hid (w4.setCell ⟨w.heap.size + 1 + 1, 2, none⟩ (.slice (some ⟨g4, 0, none⟩) D.np D.np) = W5) := ⟨_, rfl⟩
  have S2 := T2.set2 (.slice (some ⟨g4, 0, none⟩) D.np D.np)
  have S1 := T1.other (C := w.heap.size + 1 + 1) (i := 2) (u := .slice (some ⟨g4, 0, none⟩) D.np D.np) (by omega)
  have S0 := T0.other (C := w.heap.size + 1 + 1) (i := 2) (u := .slice (some ⟨g4, 0, none⟩) D.np D.np) (by omega)
  have hv5 := hv4.set (B := w.heap.size + 1 + 1) (by omega) 2 (.slice (some ⟨g4, 0, none⟩) D.np D.np)
  have hv3'' := hv3'.set (B := w.heap.size + 1 + 1) (by omega) 2 (.slice (some ⟨g4, 0, none⟩) D.np D.np)
  have hbw5 : Below w.heap.size w (w4.setCell ⟨w.heap.size + 1 + 1, 2, none⟩ (.slice (some ⟨g4, 0, none⟩) D.np D.np)) := hbw4.setCell (p := ⟨w.heap.size + 1 + 1, 2, none⟩) (by simp; omega) _
  have hs5 : g4 < (w4.setCell ⟨w.heap.size + 1 + 1, 2, none⟩ (.slice (some ⟨g4, 0, none⟩) D.np D.np)).heap.size := by simpa using hlt4
  rw [hW5.out] at S0 S1 S2 hv5 hv3'' hbw5 hs5
  obtain ⟨u0, u1, u2, u3⟩ := S0.cells
  have hS := toIndexS_any ai D.ni ci D.idx W5 (hi.below hbw5) hf.ni (fun i h => (hf.idx i h).2)
  clear T0 T1 T2 hv4 hbw4 hlt4 hv3' hi
  go_wp2_with (rw [hW5.out])
  refine hS.mono ?_
  rintro e w6 ⟨rfl, hv6, hb6, hlt6⟩
  obtain ⟨g6, hg6⟩ : ∃ g, Hid (W5.heap.size = g) := ⟨_, rfl⟩
  rw [hg6.out] at hv6 hlt6 hs5 ⊢
  have hbw6 : Below w.heap.size w w6 := hbw5.trans (hb6.mono hbw5.size)
  have R2 := S2.below hb6
  have R1 := S1.below hb6
  have hv3b := hv3''.below hb6
  have hv5b := hv5.below hb6
  clear S0 S1 S2 hS hb6 hbw5 hv3'' hv5 u0 u1 u2 u3 a1 q1
  obtain ⟨-, -, -, a1⟩ := R2.cells
  obtain ⟨-, -, -, q1⟩ := R2.fz
  obtain ⟨W7, hW7⟩ : ∃ W7, Hid (w6.setCell ⟨w.heap.size + 1 + 1, 3, none⟩ (.slice (some ⟨g6, 0, none⟩) D.ni D.ni) = W7) := ⟨_, rfl⟩
  have Z2 := R2.set3 (.slice (some ⟨g6, 0, none⟩) D.ni D.ni)
  have Z1 := R1.other (C := w.heap.size + 1 + 1) (i := 3) (u := .slice (some ⟨g6, 0, none⟩) D.ni D.ni) (by omega)
  have hv3c := hv3b.set (B := w.heap.size + 1 + 1) (by omega) 3 (.slice (some ⟨g6, 0, none⟩) D.ni D.ni)
  have hv5c := hv5b.set (B := w.heap.size + 1 + 1) (by omega) 3 (.slice (some ⟨g6, 0, none⟩) D.ni D.ni)
  have hv6c := hv6.set (C := w.heap.size + 1 + 1) (by omega) 3 (.slice (some ⟨g6, 0, none⟩) D.ni D.ni)
  have hbw7 : Below w.heap.size w (w6.setCell ⟨w.heap.size + 1 + 1, 3, none⟩ (.slice (some ⟨g6, 0, none⟩) D.ni D.ni)) := hbw6.setCell (p := ⟨w.heap.size + 1 + 1, 3, none⟩) (by simp; omega) _
  rw [hW7.out] at Z1 Z2 hv3c hv5c hv6c hbw7
  obtain ⟨u0, u1, u2, u3⟩ := Z2.cells
  obtain ⟨p0, p1, p2, p3⟩ := Z1.cells
  obtain ⟨k0, k1, k2, k3⟩ := Z1.fz
  have ZF := (((Z1.set0 (.string D.name)).set1 (.slice (some ⟨w.heap.size + 1 + 1 + 1, 0, none⟩) D.nc D.nc)).set2 (.slice (some ⟨g4, 0, none⟩) D.np D.np)).set3 (.slice (some ⟨g6, 0, none⟩) D.ni D.ni)
  have HR : Hid (DOwn ((((W7.setCell ⟨w.heap.size + 1, 0, none⟩ (.string D.name)).setCell ⟨w.heap.size + 1, 1, none⟩ (.slice (some ⟨w.heap.size + 1 + 1 + 1, 0, none⟩) D.nc D.nc)).setCell ⟨w.heap.size + 1, 2, none⟩ (.slice (some ⟨g4, 0, none⟩) D.np D.np)).setCell ⟨w.heap.size + 1, 3, none⟩ (.slice (some ⟨g6, 0, none⟩) D.ni D.ni)) w.heap.size (.agg #[.string D.name, .slice (some ⟨w.heap.size + 1 + 1 + 1, 0, none⟩) D.nc D.nc, .slice (some ⟨g4, 0, none⟩) D.np D.np, .slice (some ⟨g6, 0, none⟩) D.ni D.ni]) D
      ∧ Below w.heap.size w ((((W7.setCell ⟨w.heap.size + 1, 0, none⟩ (.string D.name)).setCell ⟨w.heap.size + 1, 1, none⟩ (.slice (some ⟨w.heap.size + 1 + 1 + 1, 0, none⟩) D.nc D.nc)).setCell ⟨w.heap.size + 1, 2, none⟩ (.slice (some ⟨g4, 0, none⟩) D.np D.np)).setCell ⟨w.heap.size + 1, 3, none⟩ (.slice (some ⟨g6, 0, none⟩) D.ni D.ni))) := by
    refine ⟨⟨_, _, _, _, _, _, rfl, by omega, by omega, ?_, ?_, ?_⟩, ?_⟩
    · exact (((hv3c.set (by omega) _ _).set (by omega) _ _).set (by omega) _ _).set (by omega) _ _
    · exact (((hv5c.set (by omega) _ _).set (by omega) _ _).set (by omega) _ _).set (by omega) _ _
    · exact ((((hv6c.set (C := w.heap.size + 1) (by omega) _ _).set (C := w.heap.size + 1) (by omega) _ _).set (C := w.heap.size + 1) (by omega) _ _).set (C := w.heap.size + 1) (by omega) _ _).mono (by omega)
    · exact (((hbw7.setCell (p := ⟨w.heap.size + 1, 0, none⟩) (by simp) _).setCell (p := ⟨w.heap.size + 1, 1, none⟩) (by simp) _).setCell (p := ⟨w.heap.size + 1, 2, none⟩) (by simp) _).setCell (p := ⟨w.heap.size + 1, 3, none⟩) (by simp) _
  obtain ⟨r0, r1, r2, r3⟩ := ZF.cells
  clear R1 R2 Z1 Z2 ZF hv3b hv5b hv6 hv3c hv5c hv6c hbw6 hbw7 hlt6 hs3 hs5 hf
  go_wp2_with (rw [hW7.out])
  refine bodyPost_ret (v := .agg #[.string D.name, .slice (some ⟨w.heap.size + 1 + 1 + 1, 0, none⟩) D.nc D.nc, .slice (some ⟨g4, 0, none⟩) D.np D.np, .slice (some ⟨g6, 0, none⟩) D.ni D.ni]) (by simp [results, Tryz.results29, go_sem, r0, r1, r2, r3]) rfl ⟨_, rfl, HR.out.1, HR.out.2⟩
end Go.Proofs.YtjoimkfpenbkmabGreatDoor

/-
  Bytes as a string: what 'string(b)' comes to at a slice of bytes that reads.
-/
namespace Go.Proofs.YtjoimkfpenbkmabGreatDoor
open Go.RowKit
set_option maxRecDepth 4000

theorem conv_view {w : World} {b off n cap : Nat} {f : Nat → Int} (hv : View w (some ⟨b, off, none⟩) n cap f) :
    (convert 26 9 (.slice (some ⟨b, off, none⟩) n cap)).run Tryz.prog w = .ok (.string (strOfNums (lof n f))) w := by
  refine run_convert_bytes_arg w 26 5 Tryz.underlying26 Tryz.underlying5 b off n cap (lof n f) (lof_len n f) ?_ 9 Tryz.underlying9
  intro i hi
  obtain ⟨b', off', e, _, hc⟩ := hv.cells (by omega)
  simp only [Option.some.injEq, Addr.mk.injEq, and_true] at e
  obtain ⟨rfl, rfl⟩ := e
  rw [hc i hi, lof_get n f i hi]

theorem strOfNums_inj {xs ys : List Int} (hx : ∀ y ∈ xs, 0 ≤ y ∧ y ≤ 255) (hy : ∀ y ∈ ys, 0 ≤ y ∧ y ≤ 255) (h : strOfNums xs = strOfNums ys) : xs = ys := by
  have h1 : xs.map (fun n => UInt8.ofNat n.toNat) = ys.map (fun n => UInt8.ofNat n.toNat) := by
    rw [← strOfNums_data, ← strOfNums_data, h]
  have key : ∀ a b : Int, 0 ≤ a ∧ a ≤ 255 → 0 ≤ b ∧ b ≤ 255 → UInt8.ofNat a.toNat = UInt8.ofNat b.toNat → a = b := by
    intro a b ha hb e
    have := congrArg UInt8.toNat e
    simp at this
    omega
  clear h
  induction xs generalizing ys with
  | nil => cases ys with
    | nil => rfl
    | cons y ys => simp at h1
  | cons x xs ih => cases ys with
    | nil => simp at h1
    | cons y ys =>
      simp only [List.map_cons, List.cons.injEq] at h1
      rw [key x y (hx x (by simp)) (hy y (by simp)) h1.1, ih (fun z hz => hx z (by simp [hz])) (fun z hz => hy z (by simp [hz])) h1.2]

end Go.Proofs.YtjoimkfpenbkmabGreatDoor

/-
  What the law's own helper markText comes to: a text that hangs on the count alone.
-/
namespace Go.Proofs.YtjoimkfpenbkmabGreatDoor
open Go.RowKit
set_option maxRecDepth 4000

theorem Row.litOne (w : World) (t : TypeId) (h : Int) : Row t (w.alloc (.cells #[.int .u8 h] t)) w.heap.size 1 (fun _ => h) :=
  Row.ofIs (World.rowIs_alloc w #[.int .u8 h] t (fun _ => .int .u8 h) (fun j hj => by match j, hj with | 0, _ => rfl))

/-- The digits of a number ahead of a text. -/
def digT (k : Nat) (acc : ByteArray) : ByteArray := if _h : k = 0 then acc else digT (k / 10) (strOfNums [48 + ((k % 10 : Nat) : Int)] ++ acc)
  termination_by k
  decreasing_by omega
def markT (k : Int) : ByteArray := if k ≤ 0 then ⟨#[109, 48]⟩ else (⟨#[109]⟩ : ByteArray) ++ digT k.toNat ⟨#[]⟩

set_option maxHeartbeats 1000000 in
theorem markText_any (k : Int) (w : World) (hk1 : k ≤ 4611686018427387904) :
    Calls Tryz.prog 38 #[.int .i64 k] w fun e w' => e = .returned (.string (markT k)) ∧ Below w.heap.size w w' := by
  by_cases h0 : k ≤ 0
  · have e : markT k = ⟨#[109, 48]⟩ := by unfold markT; rw [if_pos h0]
    rw [e]
    go_enter Tryz.func38, Tryz.ntmps38
    go_wp2
    go_ret
    exact ⟨rfl, Below.refl _ _⟩
  obtain ⟨m, rfl⟩ : ∃ m : Nat, k = m := ⟨k.toNat, by omega⟩
  have HM : Hid (markT (m : Int) = (⟨#[109]⟩ : ByteArray) ++ digT m ⟨#[]⟩) := by show _ = _; unfold markT; rw [if_neg h0]; rfl
  go_enter Tryz.func38, Tryz.ntmps38
  go_wp2
  go_loopg [0, 3] m (fun q kv s wr => ∃ (j : Nat) (acc : ByteArray), j ≤ m ∧ j = q ∧ kv = .int .i64 j ∧ s = .string acc ∧ digT j acc = digT m ⟨#[]⟩ ∧ acc.size + j ≤ m ∧ Below w.heap.size w wr)
  case atStart => exact ⟨m, _, Nat.le_refl _, rfl, rfl, rfl, rfl, by show 0 + m ≤ m; omega, Below.refl _ _⟩
  case round =>
    obtain ⟨j, acc, hj, hq, rfl, rfl, hd, hsz, hB⟩ := hrel
    subst hq
    have HD : Hid (digT j acc = digT m ⟨#[]⟩) := hd
    clear hd
    by_cases hz : j = 0
    · subst hz
      have HF : Hid (digT m ⟨#[]⟩ = acc) := by show _ = _; rw [← HD.out]; unfold digT; simp
      have hs1 : (⟨#[109]⟩ : ByteArray).size = 1 := rfl
      have hs2 : ¬ (1 + acc.size > 9223372036854775807) := by omega
      go_wp2
      go_ret
      exact ⟨by rw [HM.out, HF.out]; rfl, hB⟩
    · have hjz : (0 : Int) < (j : Int) := by omega
      obtain ⟨r, hr⟩ : ∃ r : Nat, Hid (j % 10 = r) := ⟨_, rfl⟩
      obtain ⟨d, hd⟩ : ∃ d : Nat, Hid (j / 10 = d) := ⟨_, rfl⟩
      have hr9 : r ≤ 9 := by have := hr.out; omega
      have hdj : d < j := by have := hd.out; omega
      have HN : Hid (digT d (strOfNums [48 + (r : Int)] ++ acc) = digT m ⟨#[]⟩) := by
        show _ = _
        rw [← HD.out]
        conv => rhs; unfold digT
        rw [dif_neg hz, hr.out, hd.out]
      have h1 : Int.tmod (j : Int) 10 = (r : Int) := by rw [← hr.out]; rfl
      have h2 : Int.tdiv (j : Int) 10 = (d : Int) := by rw [← hd.out]; rfl
      have h3 : IntKind.u8.wrap (48 + (r : Int)) = 48 + (r : Int) := by rw [u8_wrap]; omega
      have hcv := conv_view ((Row.litOne wr 5 (48 + (r : Int))).view (cap := 1) (Nat.le_refl _) (fun _ _ => ⟨by omega, by omega⟩))
      rw [show lof 1 (fun _ => 48 + (r : Int)) = [48 + (r : Int)] by simp [lof]] at hcv
      have hB2 : Below w.heap.size w (wr.alloc (.cells #[.int .u8 (48 + (r : Int))] 5)) := hB.alloc hB.size _
      have hs1 : (strOfNums [48 + (r : Int)]).size = 1 := by simp [strOfNums, ByteArray.size]
      have hs2 : ¬ (1 + acc.size > 9223372036854775807) := by omega
      have HZ : Hid ((strOfNums [48 + (r : Int)] ++ acc).size + d ≤ m) := by show _ ≤ _; rw [ByteArray.size_append, hs1]; omega
      clear HD
      go_wp2
      go_roundg d
      case measure => omega
      case rel => exact ⟨d, _, by omega, rfl, by go_num, rfl, HN.out, HZ.out, hB2⟩
end Go.Proofs.YtjoimkfpenbkmabGreatDoor

/-
  What marking may turn: rows of the types of S from B on, which stay rows; the rest is as it was.
-/
namespace Go.Proofs.YtjoimkfpenbkmabGreatDoor
open Go.RowKit
set_option maxRecDepth 4000

/-- Cells that no mark is written into: an index's parts, a table's rows. -/
def keepC (t : TypeId) (j : Nat) : Prop := (t = 106 ∧ j % 3 = 2) ∨ (t = 60 ∧ j % 4 ≠ 0)
structure Mk (S : TypeId → Prop) (B : Nat) (w w' : World) : Prop where
  os : w'.os = w.os
  tape : w'.tape = w.tape
  output : w'.output = w.output
  size : w.heap.size ≤ w'.heap.size
  low : ∀ k, k < B → k < w.heap.size → w'.heap[k]? = w.heap[k]?
  other : ∀ (k : Nat) (c : Array Value) (t : TypeId) (z : Nat × Nat), w.heap[k]? = some (Obj.cells c t z) → ¬ S t → w'.heap[k]? = w.heap[k]?
  row : ∀ (k : Nat) (c : Array Value) (t : TypeId), w.heap[k]? = some (Obj.cells c t (0, 0)) → ∃ c' : Array Value, w'.heap[k]? = some (Obj.cells c' t (0, 0)) ∧ c'.size = c.size ∧ ∀ j, keepC t j → c'[j]? = c[j]?
theorem Mk.refl (S : TypeId → Prop) (B : Nat) (w : World) : Mk S B w w := ⟨rfl, rfl, rfl, Nat.le_refl _, fun _ _ _ => rfl, fun _ _ _ _ _ _ => rfl, fun _ c _ h => ⟨c, h, rfl, fun _ _ => rfl⟩⟩
theorem Mk.trans {S : TypeId → Prop} {B : Nat} {a b c : World} (h : Mk S B a b) (k : Mk S B b c) : Mk S B a c := by
  refine ⟨k.os.trans h.os, k.tape.trans h.tape, k.output.trans h.output, Nat.le_trans h.size k.size, fun i hi hl => (k.low i hi (Nat.lt_of_lt_of_le hl h.size)).trans (h.low i hi hl), fun i c t z e hs => ?_, fun i x t e => ?_⟩
  · have e1 := h.other i c t z e hs
    exact (k.other i c t z (e1.trans e) hs).trans e1
  · obtain ⟨c1, e1, s1, k1⟩ := h.row i x t e
    obtain ⟨c2, e2, s2, k2⟩ := k.row i c1 t e1
    exact ⟨c2, e2, s2.trans s1, fun j hj => (k2 j hj).trans (k1 j hj)⟩
theorem Mk.ofBelow {S : TypeId → Prop} {B : Nat} {w w' : World} (h : Below w.heap.size w w') : Mk S B w w' := by
  have key : ∀ k o, w.heap[k]? = some o → w'.heap[k]? = w.heap[k]? := fun k o e => h.block k (Array.getElem?_eq_some_iff.1 e).1
  exact ⟨h.os, h.tape, h.output, h.size, fun k _ hl => h.block k hl, fun k c t z e _ => key k _ e, fun k c t e => ⟨c, (key k _ e).trans e, rfl, fun _ _ => rfl⟩⟩
theorem Mk.below {S : TypeId → Prop} {B : Nat} {w w' : World} (h : Mk S B w w') {n : Nat} (hn : n ≤ B) (hw : n ≤ w.heap.size) : Below n w w' := ⟨h.os, h.tape, h.output, h.size, fun k hk => h.low k (Nat.lt_of_lt_of_le hk hn) (Nat.lt_of_lt_of_le hk hw)⟩
/-- A mark is written. -/
theorem Mk.set {S : TypeId → Prop} {B : Nat} {w : World} {b m : Nat} {t : TypeId} {f : Nat → Value} (hr : w.rowIs b t m f) (hB : B ≤ b) (hS : S t) {j : Nat} (hk : ¬ keepC t j) (u : Value) : Mk S B w (w.setCell ⟨b, j, none⟩ u) := by
  have ho : ∀ k, k ≠ b → (w.setCell ⟨b, j, none⟩ u).heap[k]? = w.heap[k]? := fun k hk => Below.heap_setCell _ _ _ _ hk
  obtain ⟨c0, hb, -, -⟩ := hr
  refine ⟨rfl, rfl, rfl, by simp, fun k hk _ => ho k (by omega), fun k c t' z e hs => ?_, fun k c t' e => ?_⟩
  · by_cases hkb : k = b
    · subst hkb
      rw [hb] at e; cases e
      exact absurd hS hs
    · exact ho k hkb
  · by_cases hkb : k = b
    · subst hkb
      rw [hb] at e; cases e
      refine ⟨c0.setIfInBounds j u, by simp [World.setCell, Array.getElem?_modify, hb], by simp, fun q hq => ?_⟩
      have hne : ¬ j = q := fun e => hk (by rw [e]; exact hq)
      simp [hne]
    · exact ⟨c, (ho k hkb).trans e, rfl, fun _ _ => rfl⟩
theorem Mk.rowIs {S : TypeId → Prop} {B : Nat} {w w' : World} {b m : Nat} {t : TypeId} {f : Nat → Value} (h : Mk S B w w') (hr : w.rowIs b t m f) : ∃ f', w'.rowIs b t m f' ∧ ∀ j, j < m → keepC t j → f' j = f j := by
  obtain ⟨c, hb, hn, hc⟩ := hr
  obtain ⟨c', hb', hs, hk⟩ := h.row b c t hb
  refine ⟨fun j => (c'[j]?).getD default, ⟨c', hb', hs.trans hn, fun i hi => ?_⟩, fun j hj hkj => ?_⟩
  · have : i < c'.size := by rw [hs, hn]; exact hi
    simp [this]
  · simp [hk j hkj, hc j hj]
theorem own_mk {S : TypeId → Prop} {B : Nat} {W W' : World} {base T c N : Nat} {v : Value} {xs : List Value} (h : W.ownsRow base T c v N xs) (hm : Mk S B W W') (hT : ¬ S T) : W'.ownsRow base T c v N xs := by
  refine ⟨h.1, ?_⟩
  rcases h.2 with ⟨e, h0⟩ | ⟨g, k, cur, e, hb0, hg, hr⟩
  · exact .inl ⟨e, h0⟩
  · exact .inr ⟨g, k, cur, e, hb0, (hm.other g _ _ _ hg hT).trans hg, hr⟩

/-- Rows that may be marked. -/
def MkC (B : Nat) (w : World) (b n : Nat) : Prop := B ≤ b ∧ n ≤ 1048576 ∧ ∃ f, w.rowIs b 102 (n * 3) f
def MkB (B : Nat) (w : World) (b n : Nat) : Prop := B ≤ b ∧ n ≤ 1048576 ∧ ∃ f, w.rowIs b 104 (n * 2) f
def MkI (B : Nat) (w : World) (b n : Nat) : Prop := B ≤ b ∧ n ≤ 1048576 ∧ ∃ f, w.rowIs b 106 (n * 3) f ∧ ∀ i, i < n → ∃ A m c, f (i * 3 + 2) = .slice (some ⟨A, 0, none⟩) m c ∧ MkB B w A m
theorem MkC.on {S : TypeId → Prop} {B b n : Nat} {w w' : World} (h : MkC B w b n) (hm : Mk S B w w') : MkC B w' b n := by
  obtain ⟨h1, h2, f, hr⟩ := h
  obtain ⟨f', hr', -⟩ := hm.rowIs hr
  exact ⟨h1, h2, f', hr'⟩
theorem MkB.on {S : TypeId → Prop} {B b n : Nat} {w w' : World} (h : MkB B w b n) (hm : Mk S B w w') : MkB B w' b n := by
  obtain ⟨h1, h2, f, hr⟩ := h
  obtain ⟨f', hr', -⟩ := hm.rowIs hr
  exact ⟨h1, h2, f', hr'⟩
theorem MkI.on {S : TypeId → Prop} {B b n : Nat} {w w' : World} (h : MkI B w b n) (hm : Mk S B w w') : MkI B w' b n := by
  obtain ⟨h1, h2, f, hr, hp⟩ := h
  obtain ⟨f', hr', hk⟩ := hm.rowIs hr
  refine ⟨h1, h2, f', hr', fun i hi => ?_⟩
  obtain ⟨A, m, c, e, hb⟩ := hp i hi
  exact ⟨A, m, c, by rw [hk (i * 3 + 2) (by omega) (.inl ⟨rfl, by omega⟩), e], hb.on hm⟩
/-- A table's value whose rows may be marked. -/
theorem DOwn.marks {w : World} {B : Nat} {v : Value} {D : PDef} (h : DOwn w B v D) (hf : DFine D) : ∃ gc cc gp cp gi ci, v = .agg #[.string D.name, .slice (some ⟨gc, 0, none⟩) D.nc cc, .slice (some ⟨gp, 0, none⟩) D.np cp, .slice (some ⟨gi, 0, none⟩) D.ni ci] ∧ MkC B w gc D.nc ∧ MkB B w gp D.np ∧ MkI B w gi D.ni := by
  obtain ⟨gc, cc, gp, cp, gi, ci, e, h1, h2, hc, hp, hi⟩ := h.is
  refine ⟨gc, cc, gp, cp, gi, ci, e, ?_, ?_, ?_⟩
  · obtain ⟨b, g, eb, hr⟩ := hc.row
    cases eb
    exact ⟨h1, hf.nc, g, hr⟩
  · obtain ⟨b, g, eb, hr⟩ := hp.row
    cases eb
    exact ⟨h2, hf.np, g, hr⟩
  · obtain ⟨b, g, eb, hb, hr⟩ := hi.row
    cases eb
    refine ⟨hb, hf.ni, g, hr, fun i hil => ?_⟩
    obtain ⟨b', off, e', -, -, hcs⟩ := hi.cells (by omega)
    cases e'
    obtain ⟨-, -, A, c, hc2, hA, hB⟩ := hcs i hil
    rw [Nat.zero_add, hr.cell (i := i * 3 + 2) (by omega)] at hc2
    obtain ⟨q, g', eq, hr'⟩ := hB.row
    cases eq
    exact ⟨A, _, c, Option.some.inj hc2, hA, (hf.idx i hil).2, g', hr'⟩
end Go.Proofs.YtjoimkfpenbkmabGreatDoor

