/-
  Together: RowG, DefBox, CopyBy2, CopyCol2, Row34
-/
import Derived.Test.YtjoimkfpenbkmabGreatDoorPackK2
import Derived.Test.YtjoimkfpenbkmabGreatDoorPackK1
import Derived.Test.YtjoimkfpenbkmabGreatDoorProg
import Derived.Deep.LoopGhost
/-
  Rows of the call's own whose elements have several cells, by a function of the index.
-/
namespace Go.Proofs.YtjoimkfpenbkmabGreatDoor
open Go.RowKit
set_option maxRecDepth 4000

/-- The cells of the first k elements. -/
def rowG (enc : Nat → List Value) : Nat → List Value
  | 0 => []
  | k + 1 => rowG enc k ++ enc k
theorem rowG_len {enc : Nat → List Value} {c : Nat} (h : ∀ i, (enc i).length = c) : ∀ k, (rowG enc k).length = k * c
  | 0 => by rw [Nat.zero_mul]; rfl
  | k + 1 => by rw [rowG, List.length_append, rowG_len h k, h k, Nat.add_mul]; omega
theorem rowG_get {enc : Nat → List Value} {c : Nat} (h : ∀ i, (enc i).length = c) : ∀ k i j, i < k → j < c → (rowG enc k)[i * c + j]? = (enc i)[j]?
  | k + 1, i, j, hi, hj => by
    have hl := rowG_len h k
    by_cases e : i < k
    · have : i * c + j < k * c := by
        have : (i + 1) * c ≤ k * c := Nat.mul_le_mul_right _ e
        rw [Nat.add_mul] at this; omega
      rw [rowG, List.getElem?_append_left (by omega)]
      exact rowG_get h k i j e hj
    · obtain rfl : i = k := by omega
      rw [rowG, List.getElem?_append_right (by omega), hl]
      congr 1; omega
theorem rowG_congr {enc enc' : Nat → List Value} : ∀ {k : Nat}, (∀ i, i < k → enc i = enc' i) → rowG enc k = rowG enc' k
  | 0, _ => rfl
  | k + 1, e => by rw [rowG, rowG, rowG_congr (fun i hi => e i (by omega)), e k (by omega)]

/-- The cells of a row of the call's own. -/
theorem own_cells {w : World} {base T c N : Nat} {v : Value} {enc : Nat → List Value} (he : ∀ i, (enc i).length = c) (h : w.ownsRow base T c v N (rowG enc N)) :
    ∃ a k, v = .slice a N k ∧ N ≤ k ∧ (0 < N → ∃ g, a = some ⟨g, 0, none⟩ ∧ base ≤ g ∧ v.ownBlock = some g ∧ g < w.heap.size ∧ ∀ i j u, i < N → (enc i)[j]? = some u → w.cell? ⟨g, 0 + i * c + j, none⟩ = some u) := by
  obtain ⟨hl, h⟩ := h
  rcases h with ⟨rfl, h0⟩ | ⟨g, k, cur, rfl, hb, hg, hnc, _, hcs, ht⟩
  · have hN : N = 0 := by
      rw [rowG_len he] at hl
      have := h0
      rcases Nat.eq_zero_or_pos N with h | h
      · exact h
      · omega
    subst hN
    exact ⟨none, 0, rfl, Nat.le_refl _, fun hn => absurd hn (Nat.lt_irrefl _)⟩
  · refine ⟨_, k, rfl, hnc, fun _ => ⟨g, rfl, hb, rfl, (Array.getElem?_eq_some_iff.1 hg).1, fun i j u hi hj => ?_⟩⟩
    have hj' : j < c := by
      have := (List.getElem?_eq_some_iff.1 hj).1
      rw [he] at this; exact this
    have hlt : i * c + j < N * c := by
      have : (i + 1) * c ≤ N * c := Nat.mul_le_mul_right _ hi
      rw [Nat.add_mul] at this; omega
    have hx := rowG_get he N i j hi hj'
    rw [hj, ← ht, List.getElem?_take, if_pos hlt] at hx
    simp only [World.cell?, hg, Nat.zero_add]
    simpa using hx

def encB (f : Nat → PBy) (i : Nat) : List Value := [.int .i64 (f i).col, .bool (f i).desc]
def encC (f : Nat → PCol) (i : Nat) : List Value := [.string (f i).name, .int .i64 (f i).type, .bool (f i).null]
def encI (f : Nat → PIdx) (A C : Nat → Nat) (i : Nat) : List Value := [.string (f i).name, .bool (f i).uniq, .slice (some ⟨A i, 0, none⟩) (f i).n (C i)]
theorem bview_of_own {w : World} {base N : Nat} {v : Value} {f : Nat → PBy} (h : w.ownsRow base 104 2 v N (rowG (encB f) N)) : ∃ a k, v = .slice a N k ∧ BView w a N k f ∧ (0 < N → ∃ g, a = some ⟨g, 0, none⟩ ∧ base ≤ g ∧ v.ownBlock = some g) := by
  obtain ⟨a, k, e, hk, h1⟩ := own_cells (c := 2) (fun _ => rfl) h
  refine ⟨a, k, e, ⟨hk, fun hn => ?_⟩, fun hn => ?_⟩
  · obtain ⟨g, ea, -, -, hg, hc⟩ := h1 hn
    exact ⟨g, 0, ea, hg, fun i hi => ⟨by simpa using hc i 0 _ hi rfl, by simpa using hc i 1 _ hi rfl⟩⟩
  · obtain ⟨g, ea, hb, ho, -⟩ := h1 hn
    exact ⟨g, ea, hb, ho⟩
theorem cview_of_own {w : World} {base N : Nat} {v : Value} {f : Nat → PCol} (h : w.ownsRow base 102 3 v N (rowG (encC f) N)) : ∃ a k, v = .slice a N k ∧ CView w a N k f ∧ (0 < N → ∃ g, a = some ⟨g, 0, none⟩ ∧ base ≤ g ∧ v.ownBlock = some g) := by
  obtain ⟨a, k, e, hk, h1⟩ := own_cells (c := 3) (fun _ => rfl) h
  refine ⟨a, k, e, ⟨hk, fun hn => ?_⟩, fun hn => ?_⟩
  · obtain ⟨g, ea, -, -, hg, hc⟩ := h1 hn
    exact ⟨g, 0, ea, hg, fun i hi => ⟨by simpa using hc i 0 _ hi rfl, by simpa using hc i 1 _ hi rfl, by simpa using hc i 2 _ hi rfl⟩⟩
  · obtain ⟨g, ea, hb, ho, -⟩ := h1 hn
    exact ⟨g, ea, hb, ho⟩
theorem iview_of_own {w : World} {base N : Nat} {v : Value} {f : Nat → PIdx} {A C : Nat → Nat} (h : w.ownsRow base 106 3 v N (rowG (encI f A C) N)) (hp : ∀ i, i < N → BView w (some ⟨A i, 0, none⟩) (f i).n (C i) (f i).part) : ∃ a k, v = .slice a N k ∧ IView w a N k f ∧ (0 < N → ∃ g, a = some ⟨g, 0, none⟩ ∧ base ≤ g ∧ v.ownBlock = some g) := by
  obtain ⟨a, k, e, hk, h1⟩ := own_cells (c := 3) (fun _ => rfl) h
  refine ⟨a, k, e, ⟨hk, fun hn => ?_⟩, fun hn => ?_⟩
  · obtain ⟨g, ea, -, -, hg, hc⟩ := h1 hn
    exact ⟨g, 0, ea, hg, fun i hi => ⟨by simpa using hc i 0 _ hi rfl, by simpa using hc i 1 _ hi rfl, _, _, by simpa using hc i 2 _ hi rfl, hp i hi⟩⟩
  · obtain ⟨g, ea, hb, ho, -⟩ := h1 hn
    exact ⟨g, ea, hb, ho⟩
theorem alloc_size9 (W : World) (o : Obj) : (W.alloc o).heap.size = W.heap.size + 1 := by simp
end Go.Proofs.YtjoimkfpenbkmabGreatDoor

/-
  A table in a variable of the call's own.
-/
namespace Go.Proofs.YtjoimkfpenbkmabGreatDoor
open Go.RowKit
set_option maxRecDepth 4000

/-- Numbers of columns, parts and indexes, and texts, that are not great. -/
structure DFine (D : PDef) : Prop where
  name : D.name.size ≤ 1048576
  nc : D.nc ≤ 1048576
  col : ∀ i, i < D.nc → (D.col i).name.size ≤ 1048576
  np : D.np ≤ 1048576
  ni : D.ni ≤ 1048576
  idx : ∀ i, i < D.ni → (D.idx i).name.size ≤ 1048576 ∧ (D.idx i).n ≤ 1048576

/-- What was put into a variable of four cells is there while nothing of it is written. -/
theorem box4 {w wr : World} {T : TypeId} {x0 x1 x2 x3 : Value} (h : Below (w.heap.size + 1) (w.alloc (.cells #[x0, x1, x2, x3] T)) wr) :
    wr.cell? ⟨w.heap.size, 0, none⟩ = some x0 ∧ wr.cell? ⟨w.heap.size, 1, none⟩ = some x1 ∧ wr.cell? ⟨w.heap.size, 2, none⟩ = some x2 ∧ wr.cell? ⟨w.heap.size, 3, none⟩ = some x3 := by
  refine ⟨?_, ?_, ?_, ?_⟩
  all_goals (rw [h.cell (by simp)]; simp [go_sem])
theorem box4_below {w wr : World} {o : Obj} (h : Below (w.heap.size + 1) (w.alloc o) wr) : Below w.heap.size w wr ∧ w.heap.size + 1 ≤ wr.heap.size := by
  refine ⟨((Below.refl _ _).alloc (Nat.le_refl _) _).trans (h.mono (by simp)), ?_⟩
  have := h.size
  simpa using this
theorem box4_start (w : World) (o : Obj) : Below (w.heap.size + 1) (w.alloc o) (w.alloc o) := Below.refl _ _
theorem box4_on {w wr w' : World} {o : Obj} (h : Below (w.heap.size + 1) (w.alloc o) wr) (h' : Below wr.heap.size wr w') : Below (w.heap.size + 1) (w.alloc o) w' := h.trans (h'.mono (box4_below h).2)
end Go.Proofs.YtjoimkfpenbkmabGreatDoor

/-
  A row of parts copied into a new one, as the law does it; the new row is whole and may be written.
-/
namespace Go.Proofs.YtjoimkfpenbkmabGreatDoor
open Go.RowKit
set_option maxRecDepth 4000

theorem rowIs_below9 {w w' : World} {b : Nat} {t : TypeId} {m : Nat} {f : Nat → Value} (h : w.rowIs b t m f) (hb : Below w.heap.size w w') (hlt : b < w.heap.size) : w'.rowIs b t m f := by
  obtain ⟨c, h1, h2, h3⟩ := h
  exact ⟨c, by rw [hb.block b hlt]; exact h1, h2, h3⟩
theorem BView.set {w : World} {a n c B : Nat} {f : Nat → PBy} (h : BView w (some ⟨a, 0, none⟩) n c f) (hne : a ≠ B) (i : Nat) (u : Value) : BView (w.setCell ⟨B, i, none⟩ u) (some ⟨a, 0, none⟩) n c f := by
  refine ⟨h.le, fun hn => ?_⟩
  obtain ⟨b, off, e, hlt, hc⟩ := h.cells hn
  have hba : b = a := by cases e; rfl
  refine ⟨b, off, e, by simpa using hlt, fun j hj => ?_⟩
  rw [World.cell?_of_block (w := w) (a := ⟨b, off + j * 2, none⟩) (Below.heap_setCell _ _ _ _ (by rw [hba]; exact hne)), World.cell?_of_block (w := w) (a := ⟨b, off + j * 2 + 1, none⟩) (Below.heap_setCell _ _ _ _ (by rw [hba]; exact hne))]
  exact hc j hj

/-- A row of parts that reads, whose block is a row of its own. -/
structure BRow (w : World) (ao : Option Addr) (n cap : Nat) (f : Nat → PBy) : Prop where
  view : BView w ao n cap f
  row : ∃ b g, ao = some ⟨b, 0, none⟩ ∧ w.rowIs b 104 (n * 2) g
theorem BRow.below {w w' : World} {ao : Option Addr} {n cap : Nat} {f : Nat → PBy} (h : BRow w ao n cap f) (hb : Below w.heap.size w w') : BRow w' ao n cap f := by
  obtain ⟨b, g, e, hr⟩ := h.row
  exact ⟨h.view.below hb, b, g, e, rowIs_below9 hr hb hr.lt⟩
theorem BRow.set {w : World} {a n c B : Nat} {f : Nat → PBy} (h : BRow w (some ⟨a, 0, none⟩) n c f) (hne : a ≠ B) (i : Nat) (u : Value) : BRow (w.setCell ⟨B, i, none⟩ u) (some ⟨a, 0, none⟩) n c f := by
  obtain ⟨b, g, e, hr⟩ := h.row
  cases e
  exact ⟨h.view.set hne i u, a, g, rfl, hr.setOther hne u⟩

def cellBy (f : Nat → PBy) (j : Nat) : Value := if j % 2 = 0 then .int .i64 (f (j / 2)).col else .bool (f (j / 2)).desc
def zeroBy (j : Nat) : Value := if j % 2 = 0 then .int .i64 0 else .bool false
theorem infoBy : ∃ i, Tryz.prog.info? 104 = some i ∧ i.zero = some (.agg #[.int .i64 0, .bool false]) ∧ i.size = 2 ∧ i.bytes = 16 := by
  have h : (Tryz.prog.info? 104).map (fun i => (i.zero, i.size, i.bytes)) = some (some (.agg #[.int .i64 0, .bool false]), 2, 16) := by kernel_rfl
  obtain ⟨i, hi, hz⟩ := Option.map_eq_some_iff.1 h
  simp only [Prod.mk.injEq] at hz
  exact ⟨i, hi, hz.1, hz.2.1, hz.2.2⟩
theorem makeBy (n : Nat) (h : n ≤ 1048576) (w : World) : (Instr.makeSlice 57 (.int .i64 (n : Int)) (.int .i64 (n : Int))).run Tryz.prog w = .ok (.slice (some ⟨w.heap.size, 0, none⟩) n n) (w.alloc (.cells (madeCells #[.int .i64 0, .bool false] (n * 2)) 104)) := by
  obtain ⟨i, hi, hz, hs, hb⟩ := infoBy
  have hr := run_make (P := Tryz.prog) w 57 104 i _ Tryz.underlying57 hi hz .i64 .i64 n n (by omega) (Int.le_refl _) (by rw [hb]; omega) (by omega)
  simp only [Int.toNat_natCast, hs] at hr
  exact hr

/-- k of the n elements are copied into the new row. -/
structure CopiedBy (w wr : World) (n : Nat) (f : Nat → PBy) (k : Nat) : Prop where
  below : Below w.heap.size w wr
  size : w.heap.size < wr.heap.size
  row : wr.rowIs w.heap.size 104 (n * 2) (fun j => if j < k * 2 then cellBy f j else zeroBy j)
theorem copiedBy_start (w : World) (n : Nat) (f : Nat → PBy) : CopiedBy w (w.alloc (.cells (madeCells #[.int .i64 0, .bool false] (n * 2)) 104)) n f 0 := by
  have hr := World.rowIs_alloc w (madeCells #[.int .i64 0, .bool false] (n * 2)) 104 zeroBy (fun i hi => by
    rw [size_madeCells] at hi
    simp [madeCells, hi, zeroBy]
    have h3 : i % 2 = 0 ∨ i % 2 = 1 := by omega
    rcases h3 with h | h <;> simp [h])
  rw [size_madeCells] at hr
  exact ⟨(Below.refl _ _).alloc (Nat.le_refl _) _, by simp, hr.congr (fun i _ => by simp)⟩
theorem CopiedBy.step {w wr w2 : World} {n : Nat} {f : Nat → PBy} {k : Nat} (h : CopiedBy w wr n f k) (hb : Below wr.heap.size wr w2) : CopiedBy w w2 n f k :=
  ⟨h.below.trans (hb.mono h.below.size), Nat.lt_of_lt_of_le h.size hb.size, rowIs_below9 h.row hb h.size⟩
theorem CopiedBy.put {w wr : World} {n : Nat} {f : Nat → PBy} {k : Nat} (h : CopiedBy w wr n f k) :
    CopiedBy w ((wr.setCell ⟨w.heap.size, k * 2, none⟩ (.int .i64 (f k).col)).setCell ⟨w.heap.size, k * 2 + 1, none⟩ (.bool (f k).desc)) n f (k + 1) := by
  refine ⟨((h.below.setCell (Nat.le_refl _) _).setCell (Nat.le_refl _) _), by simpa using h.size, (((h.row.set _ _).set _ _).congr (fun i _ => ?_))⟩
  by_cases e1 : i = k * 2 + 1
  · subst e1
    have m : (k * 2 + 1) % 2 = 1 := by omega
    have d : (k * 2 + 1) / 2 = k := by omega
    simp [cellBy, m, d, show k * 2 + 1 < (k + 1) * 2 by omega]
  by_cases e0 : i = k * 2
  · subst e0
    have m : (k * 2) % 2 = 0 := by omega
    have d : (k * 2) / 2 = k := by omega
    simp [cellBy, m, d, show k * 2 < (k + 1) * 2 by omega]
  simp only [e0, e1, if_false]
  by_cases hlt : i < k * 2
  · rw [if_pos hlt, if_pos (by omega)]
  · rw [if_neg hlt, if_neg (by omega)]
theorem CopiedBy.view0 {w wr : World} {n : Nat} {f : Nat → PBy} (h : CopiedBy w wr n f n) : BView wr (some ⟨w.heap.size, 0, none⟩) n n f := by
  refine ⟨Nat.le_refl _, fun _ => ⟨_, 0, rfl, h.size, fun i hi => ?_⟩⟩
  have c0 := h.row.cell (i := i * 2) (by omega)
  have m0 : (i * 2) % 2 = 0 := by omega
  have d0 : (i * 2) / 2 = i := by omega
  simp only [show i * 2 < n * 2 by omega, if_true, cellBy, m0, d0] at c0
  have c1 := h.row.cell (i := i * 2 + 1) (by omega)
  have m1 : (i * 2 + 1) % 2 = 1 := by omega
  have d1 : (i * 2 + 1) / 2 = i := by omega
  simp only [show i * 2 + 1 < n * 2 by omega, if_true, cellBy, m1, d1] at c1
  rw [Nat.zero_add]
  exact ⟨by simpa using c0, by simpa using c1⟩

theorem CopiedBy.view {w wr : World} {n : Nat} {f : Nat → PBy} (h : CopiedBy w wr n f n) : BRow wr (some ⟨w.heap.size, 0, none⟩) n n f := ⟨h.view0, _, _, rfl, h.row⟩

set_option maxHeartbeats 1000000 in
theorem toBy_any (c : Int) (d : Bool) (w : World) :
    Calls Tryz.prog 86 #[.agg #[.int .i64 c, .bool d]] w fun e w' => e = .returned (.agg #[.int .i64 c, .bool d]) ∧ Below w.heap.size w w' := by
  go_enter Tryz.func86, Tryz.ntmps86
  go_wp2
  refine bodyPost_ret (v := .agg #[.int .i64 c, .bool d]) (by simp [results, Tryz.results86, go_sem]) rfl ⟨rfl, ?_⟩
  repeat (first | exact Below.refl _ _ | refine Below.alloc ?_ (by simp <;> omega) _ | refine Below.drew ?_)

set_option maxHeartbeats 2000000 in
theorem toByS_any (a : Option Addr) (n cap : Nat) (f : Nat → PBy) (w : World) (h : BView w a n cap f) (hn : n ≤ 1048576) :
    Calls Tryz.prog 57 #[.slice a n cap] w fun e w' => e = .returned (.slice (some ⟨w.heap.size, 0, none⟩) n n) ∧ BRow w' (some ⟨w.heap.size, 0, none⟩) n n f ∧ Below w.heap.size w w' ∧ w.heap.size < w'.heap.size := by
  have hmk := fun W => makeBy n hn W
  go_enter Tryz.func57, Tryz.ntmps57
  go_wp2
  clear hmk
  go_loopg [4] n (fun q i wr => ∃ k : Nat, k ≤ n ∧ q = n - k ∧ i = .int .i64 k ∧ CopiedBy w wr n f k)
  case atStart => exact ⟨0, Nat.zero_le _, rfl, rfl, copiedBy_start w n f⟩
  case round =>
    obtain ⟨k, hk, rfl, rfl, hC⟩ := hrel
    by_cases hlt : k < n
    · obtain ⟨b1, o1, rfl, hb1, hc1⟩ := (h.below hC.below).cells (by omega)
      obtain ⟨x0, x1⟩ := hc1 k hlt
      have hkz : (k : Int) < (n : Int) := by omega
      have hV := fun W => toBy_any (f k).col (f k).desc W
      go_wp2_with fail
      refine (hV _).mono ?_
      rintro e w2 ⟨rfl, hB2⟩
      have hC2 := hC.step hB2
      have hS : Hid _ := hC2.put
      have z0 := hC2.row.cell (i := k * 2) (by omega)
      have f0 := hC2.row.frozen (k * 2)
      have z1 := hC2.row.cell (i := k * 2 + 1) (by omega)
      have f1 := hC2.row.frozen (k * 2 + 1)
      clear hc1 hC hC2 hB2 hV x0 x1 h
      go_wp2
      go_roundg (n - (k + 1))
      case measure => omega
      case rel => exact ⟨k + 1, by omega, rfl, by go_num, hS.out⟩
    · have hkn : k = n := by omega
      have hkz : ¬ (k : Int) < (n : Int) := by omega
      rw [hkn] at hC
      have hS : Hid (CopiedBy w wr n f n) := hC
      clear hC
      go_wp2
      go_ret
      exact ⟨rfl, hS.out.view, hS.out.below, hS.out.size⟩
end Go.Proofs.YtjoimkfpenbkmabGreatDoor

/-
  A row of columns copied into a new one, as the law does it.
-/
namespace Go.Proofs.YtjoimkfpenbkmabGreatDoor
open Go.RowKit
set_option maxRecDepth 4000

def cellCol (f : Nat → PCol) (j : Nat) : Value := if j % 3 = 0 then .string (f (j / 3)).name else if j % 3 = 1 then .int .i64 (f (j / 3)).type else .bool (f (j / 3)).null
def zeroCol (j : Nat) : Value := if j % 3 = 0 then .string ⟨#[]⟩ else if j % 3 = 1 then .int .i64 0 else .bool false
theorem infoCol : ∃ i, Tryz.prog.info? 102 = some i ∧ i.zero = some (.agg #[.string ⟨#[]⟩, .int .i64 0, .bool false]) ∧ i.size = 3 ∧ i.bytes = 32 := by
  have h : (Tryz.prog.info? 102).map (fun i => (i.zero, i.size, i.bytes)) = some (some (.agg #[.string ⟨#[]⟩, .int .i64 0, .bool false]), 3, 32) := by kernel_rfl
  obtain ⟨i, hi, hz⟩ := Option.map_eq_some_iff.1 h
  simp only [Prod.mk.injEq] at hz
  exact ⟨i, hi, hz.1, hz.2.1, hz.2.2⟩
theorem makeCol (n : Nat) (h : n ≤ 1048576) (w : World) : (Instr.makeSlice 56 (.int .i64 (n : Int)) (.int .i64 (n : Int))).run Tryz.prog w = .ok (.slice (some ⟨w.heap.size, 0, none⟩) n n) (w.alloc (.cells (madeCells #[.string ⟨#[]⟩, .int .i64 0, .bool false] (n * 3)) 102)) := by
  obtain ⟨i, hi, hz, hs, hb⟩ := infoCol
  have hr := run_make (P := Tryz.prog) w 56 102 i _ Tryz.underlying56 hi hz .i64 .i64 n n (by omega) (Int.le_refl _) (by rw [hb]; omega) (by omega)
  simp only [Int.toNat_natCast, hs] at hr
  exact hr

/-- A row of columns that reads, whose block is a row of its own. -/
structure CRow (w : World) (ao : Option Addr) (n cap : Nat) (f : Nat → PCol) : Prop where
  view : CView w ao n cap f
  row : ∃ b g, ao = some ⟨b, 0, none⟩ ∧ w.rowIs b 102 (n * 3) g
theorem CRow.below {w w' : World} {ao : Option Addr} {n cap : Nat} {f : Nat → PCol} (h : CRow w ao n cap f) (hb : Below w.heap.size w w') : CRow w' ao n cap f := by
  obtain ⟨b, g, e, hr⟩ := h.row
  exact ⟨h.view.below hb, b, g, e, rowIs_below9 hr hb hr.lt⟩

/-- k of the n elements are copied into the new row. -/
structure CopiedCol (w wr : World) (n : Nat) (f : Nat → PCol) (k : Nat) : Prop where
  below : Below w.heap.size w wr
  size : w.heap.size < wr.heap.size
  row : wr.rowIs w.heap.size 102 (n * 3) (fun j => if j < k * 3 then cellCol f j else zeroCol j)
theorem copiedCol_start (w : World) (n : Nat) (f : Nat → PCol) : CopiedCol w (w.alloc (.cells (madeCells #[.string ⟨#[]⟩, .int .i64 0, .bool false] (n * 3)) 102)) n f 0 := by
  have hr := World.rowIs_alloc w (madeCells #[.string ⟨#[]⟩, .int .i64 0, .bool false] (n * 3)) 102 zeroCol (fun i hi => by
    rw [size_madeCells] at hi
    simp [madeCells, hi, zeroCol]
    have h3 : i % 3 = 0 ∨ i % 3 = 1 ∨ i % 3 = 2 := by omega
    rcases h3 with h | h | h <;> simp [h])
  rw [size_madeCells] at hr
  exact ⟨(Below.refl _ _).alloc (Nat.le_refl _) _, by simp, hr.congr (fun i _ => by simp)⟩
theorem CopiedCol.step {w wr w2 : World} {n : Nat} {f : Nat → PCol} {k : Nat} (h : CopiedCol w wr n f k) (hb : Below wr.heap.size wr w2) : CopiedCol w w2 n f k :=
  ⟨h.below.trans (hb.mono h.below.size), Nat.lt_of_lt_of_le h.size hb.size, rowIs_below9 h.row hb h.size⟩
theorem CopiedCol.put {w wr : World} {n : Nat} {f : Nat → PCol} {k : Nat} (h : CopiedCol w wr n f k) :
    CopiedCol w (((wr.setCell ⟨w.heap.size, k * 3, none⟩ (.string (f k).name)).setCell ⟨w.heap.size, k * 3 + 1, none⟩ (.int .i64 (f k).type)).setCell ⟨w.heap.size, k * 3 + 2, none⟩ (.bool (f k).null)) n f (k + 1) := by
  refine ⟨(((h.below.setCell (Nat.le_refl _) _).setCell (Nat.le_refl _) _).setCell (Nat.le_refl _) _), by simpa using h.size, ((((h.row.set _ _).set _ _).set _ _).congr (fun i _ => ?_))⟩
  by_cases e2 : i = k * 3 + 2
  · subst e2
    have m : (k * 3 + 2) % 3 = 2 := by omega
    have d : (k * 3 + 2) / 3 = k := by omega
    simp [cellCol, m, d, show k * 3 + 2 < (k + 1) * 3 by omega]
  by_cases e1 : i = k * 3 + 1
  · subst e1
    have m : (k * 3 + 1) % 3 = 1 := by omega
    have d : (k * 3 + 1) / 3 = k := by omega
    simp [cellCol, m, d, show k * 3 + 1 < (k + 1) * 3 by omega]
  by_cases e0 : i = k * 3
  · subst e0
    have m : (k * 3) % 3 = 0 := by omega
    have d : (k * 3) / 3 = k := by omega
    simp [cellCol, m, d, show k * 3 < (k + 1) * 3 by omega]
  simp only [e0, e1, e2, if_false]
  by_cases hlt : i < k * 3
  · rw [if_pos hlt, if_pos (by omega)]
  · rw [if_neg hlt, if_neg (by omega)]
theorem CopiedCol.view0 {w wr : World} {n : Nat} {f : Nat → PCol} (h : CopiedCol w wr n f n) : CView wr (some ⟨w.heap.size, 0, none⟩) n n f := by
  refine ⟨Nat.le_refl _, fun _ => ⟨_, 0, rfl, h.size, fun i hi => ?_⟩⟩
  have c0 := h.row.cell (i := i * 3) (by omega)
  have m0 : (i * 3) % 3 = 0 := by omega
  have d0 : (i * 3) / 3 = i := by omega
  simp only [show i * 3 < n * 3 by omega, if_true, cellCol, m0, d0] at c0
  have c1 := h.row.cell (i := i * 3 + 1) (by omega)
  have m1 : (i * 3 + 1) % 3 = 1 := by omega
  have d1 : (i * 3 + 1) / 3 = i := by omega
  simp only [show i * 3 + 1 < n * 3 by omega, if_true, cellCol, m1, d1] at c1
  have c2 := h.row.cell (i := i * 3 + 2) (by omega)
  have m2 : (i * 3 + 2) % 3 = 2 := by omega
  have d2 : (i * 3 + 2) / 3 = i := by omega
  simp only [show i * 3 + 2 < n * 3 by omega, if_true, cellCol, m2, d2] at c2
  rw [Nat.zero_add]
  exact ⟨by simpa using c0, by simpa using c1, by simpa using c2⟩

theorem CopiedCol.view {w wr : World} {n : Nat} {f : Nat → PCol} (h : CopiedCol w wr n f n) : CRow wr (some ⟨w.heap.size, 0, none⟩) n n f := ⟨h.view0, _, _, rfl, h.row⟩

set_option maxHeartbeats 1000000 in
theorem toCol_any (s : ByteArray) (t : Int) (z : Bool) (w : World) :
    Calls Tryz.prog 85 #[.agg #[.string s, .int .i64 t, .bool z]] w fun e w' => e = .returned (.agg #[.string s, .int .i64 t, .bool z]) ∧ Below w.heap.size w w' := by
  go_enter Tryz.func85, Tryz.ntmps85
  go_wp2
  refine bodyPost_ret (v := .agg #[.string s, .int .i64 t, .bool z]) (by simp [results, Tryz.results85, go_sem]) rfl ⟨rfl, ?_⟩
  repeat (first | exact Below.refl _ _ | refine Below.alloc ?_ (by simp <;> omega) _ | refine Below.drew ?_)

set_option maxHeartbeats 2000000 in
theorem toColS_any (a : Option Addr) (n cap : Nat) (f : Nat → PCol) (w : World) (h : CView w a n cap f) (hn : n ≤ 1048576) :
    Calls Tryz.prog 56 #[.slice a n cap] w fun e w' => e = .returned (.slice (some ⟨w.heap.size, 0, none⟩) n n) ∧ CRow w' (some ⟨w.heap.size, 0, none⟩) n n f ∧ Below w.heap.size w w' ∧ w.heap.size < w'.heap.size := by
  have hmk := fun W => makeCol n hn W
  go_enter Tryz.func56, Tryz.ntmps56
  go_wp2
  clear hmk
  go_loopg [4] n (fun q i wr => ∃ k : Nat, k ≤ n ∧ q = n - k ∧ i = .int .i64 k ∧ CopiedCol w wr n f k)
  case atStart => exact ⟨0, Nat.zero_le _, rfl, rfl, copiedCol_start w n f⟩
  case round =>
    obtain ⟨k, hk, rfl, rfl, hC⟩ := hrel
    by_cases hlt : k < n
    · obtain ⟨b1, o1, rfl, hb1, hc1⟩ := (h.below hC.below).cells (by omega)
      obtain ⟨x0, x1, x2⟩ := hc1 k hlt
      have hkz : (k : Int) < (n : Int) := by omega
      have hV := fun W => toCol_any (f k).name (f k).type (f k).null W
      go_wp2_with fail
      refine (hV _).mono ?_
      rintro e w2 ⟨rfl, hB2⟩
      have hC2 := hC.step hB2
      have hS : Hid _ := hC2.put
      have z0 := hC2.row.cell (i := k * 3) (by omega)
      have f0 := hC2.row.frozen (k * 3)
      have z1 := hC2.row.cell (i := k * 3 + 1) (by omega)
      have f1 := hC2.row.frozen (k * 3 + 1)
      have z2 := hC2.row.cell (i := k * 3 + 2) (by omega)
      have f2 := hC2.row.frozen (k * 3 + 2)
      clear hc1 hC hC2 hB2 hV x0 x1 x2 h
      go_wp2
      go_roundg (n - (k + 1))
      case measure => omega
      case rel => exact ⟨k + 1, by omega, rfl, by go_num, hS.out⟩
    · have hkn : k = n := by omega
      have hkz : ¬ (k : Int) < (n : Int) := by omega
      rw [hkn] at hC
      have hS : Hid (CopiedCol w wr n f n) := hC
      clear hC
      go_wp2
      go_ret
      exact ⟨rfl, hS.out.view, hS.out.below, hS.out.size⟩
end Go.Proofs.YtjoimkfpenbkmabGreatDoor

/-
  Variables of three and of four cells, as rows.
-/
namespace Go.Proofs.YtjoimkfpenbkmabGreatDoor
open Go.RowKit
set_option maxRecDepth 4000

def cell3 (x0 x1 x2 : Value) : Nat → Value
  | 0 => x0
  | 1 => x1
  | _ => x2
def cell4 (x0 x1 x2 x3 : Value) : Nat → Value
  | 0 => x0
  | 1 => x1
  | 2 => x2
  | _ => x3
/-- A variable of three cells. -/
def V3 (w : World) (B : Nat) (T : TypeId) (x0 x1 x2 : Value) : Prop := w.rowIs B T 3 (cell3 x0 x1 x2)
/-- A variable of four cells. -/
def V4 (w : World) (B : Nat) (T : TypeId) (x0 x1 x2 x3 : Value) : Prop := w.rowIs B T 4 (cell4 x0 x1 x2 x3)
theorem V3.new (w : World) (T : TypeId) (x0 x1 x2 : Value) : V3 (w.alloc (.cells #[x0, x1, x2] T)) w.heap.size T x0 x1 x2 :=
  World.rowIs_alloc w _ T (cell3 x0 x1 x2) (fun j hj => by match j, hj with | 0, _ => rfl | 1, _ => rfl | 2, _ => rfl)
theorem V4.new (w : World) (T : TypeId) (x0 x1 x2 x3 : Value) : V4 (w.alloc (.cells #[x0, x1, x2, x3] T)) w.heap.size T x0 x1 x2 x3 :=
  World.rowIs_alloc w _ T (cell4 x0 x1 x2 x3) (fun j hj => by match j, hj with | 0, _ => rfl | 1, _ => rfl | 2, _ => rfl | 3, _ => rfl)
theorem V3.lt {w : World} {B : Nat} {T : TypeId} {x0 x1 x2 : Value} (h : V3 w B T x0 x1 x2) : B < w.heap.size := World.rowIs.lt h
theorem V4.lt {w : World} {B : Nat} {T : TypeId} {x0 x1 x2 x3 : Value} (h : V4 w B T x0 x1 x2 x3) : B < w.heap.size := World.rowIs.lt h
theorem V3.block {w w' : World} {B : Nat} {T : TypeId} {x0 x1 x2 : Value} (h : V3 w B T x0 x1 x2) (e : w'.heap[B]? = w.heap[B]?) : V3 w' B T x0 x1 x2 := World.rowIs.of_block h e
theorem V4.block {w w' : World} {B : Nat} {T : TypeId} {x0 x1 x2 x3 : Value} (h : V4 w B T x0 x1 x2 x3) (e : w'.heap[B]? = w.heap[B]?) : V4 w' B T x0 x1 x2 x3 := World.rowIs.of_block h e
theorem V3.below {w w' : World} {B : Nat} {T : TypeId} {x0 x1 x2 : Value} (h : V3 w B T x0 x1 x2) (hb : Below w.heap.size w w') : V3 w' B T x0 x1 x2 := h.block (hb.block B h.lt)
theorem V4.below {w w' : World} {B : Nat} {T : TypeId} {x0 x1 x2 x3 : Value} (h : V4 w B T x0 x1 x2 x3) (hb : Below w.heap.size w w') : V4 w' B T x0 x1 x2 x3 := h.block (hb.block B h.lt)
theorem V3.cells {w : World} {B : Nat} {T : TypeId} {x0 x1 x2 : Value} (h : V3 w B T x0 x1 x2) : w.cell? ⟨B, 0, none⟩ = some x0 ∧ w.cell? ⟨B, 1, none⟩ = some x1 ∧ w.cell? ⟨B, 2, none⟩ = some x2 :=
  ⟨World.rowIs.cell h (i := 0) (by decide), World.rowIs.cell h (i := 1) (by decide), World.rowIs.cell h (i := 2) (by decide)⟩
theorem V4.cells {w : World} {B : Nat} {T : TypeId} {x0 x1 x2 x3 : Value} (h : V4 w B T x0 x1 x2 x3) : w.cell? ⟨B, 0, none⟩ = some x0 ∧ w.cell? ⟨B, 1, none⟩ = some x1 ∧ w.cell? ⟨B, 2, none⟩ = some x2 ∧ w.cell? ⟨B, 3, none⟩ = some x3 :=
  ⟨World.rowIs.cell h (i := 0) (by decide), World.rowIs.cell h (i := 1) (by decide), World.rowIs.cell h (i := 2) (by decide), World.rowIs.cell h (i := 3) (by decide)⟩
theorem V3.fz {w : World} {B : Nat} {T : TypeId} {x0 x1 x2 : Value} (h : V3 w B T x0 x1 x2) : w.frozen? ⟨B, 0, none⟩ = false ∧ w.frozen? ⟨B, 1, none⟩ = false ∧ w.frozen? ⟨B, 2, none⟩ = false :=
  ⟨World.rowIs.frozen h 0, World.rowIs.frozen h 1, World.rowIs.frozen h 2⟩
theorem V4.fz {w : World} {B : Nat} {T : TypeId} {x0 x1 x2 x3 : Value} (h : V4 w B T x0 x1 x2 x3) : w.frozen? ⟨B, 0, none⟩ = false ∧ w.frozen? ⟨B, 1, none⟩ = false ∧ w.frozen? ⟨B, 2, none⟩ = false ∧ w.frozen? ⟨B, 3, none⟩ = false :=
  ⟨World.rowIs.frozen h 0, World.rowIs.frozen h 1, World.rowIs.frozen h 2, World.rowIs.frozen h 3⟩
theorem V3.other {w : World} {B C i : Nat} {T : TypeId} {x0 x1 x2 u : Value} (h : V3 w B T x0 x1 x2) (hne : B ≠ C) : V3 (w.setCell ⟨C, i, none⟩ u) B T x0 x1 x2 := h.block (Below.heap_setCell _ _ _ _ hne)
theorem V4.other {w : World} {B C i : Nat} {T : TypeId} {x0 x1 x2 x3 u : Value} (h : V4 w B T x0 x1 x2 x3) (hne : B ≠ C) : V4 (w.setCell ⟨C, i, none⟩ u) B T x0 x1 x2 x3 := h.block (Below.heap_setCell _ _ _ _ hne)
theorem V3.set0 {w : World} {B : Nat} {T : TypeId} {x0 x1 x2 : Value} (h : V3 w B T x0 x1 x2) (u : Value) : V3 (w.setCell ⟨B, 0, none⟩ u) B T u x1 x2 :=
  (World.rowIs.set h 0 _).congr (fun j hj => by match j, hj with | 0, _ => rfl | 1, _ => rfl | 2, _ => rfl)
theorem V3.set1 {w : World} {B : Nat} {T : TypeId} {x0 x1 x2 : Value} (h : V3 w B T x0 x1 x2) (u : Value) : V3 (w.setCell ⟨B, 1, none⟩ u) B T x0 u x2 :=
  (World.rowIs.set h 1 _).congr (fun j hj => by match j, hj with | 0, _ => rfl | 1, _ => rfl | 2, _ => rfl)
theorem V3.set2 {w : World} {B : Nat} {T : TypeId} {x0 x1 x2 : Value} (h : V3 w B T x0 x1 x2) (u : Value) : V3 (w.setCell ⟨B, 2, none⟩ u) B T x0 x1 u :=
  (World.rowIs.set h 2 _).congr (fun j hj => by match j, hj with | 0, _ => rfl | 1, _ => rfl | 2, _ => rfl)
theorem V4.set0 {w : World} {B : Nat} {T : TypeId} {x0 x1 x2 x3 : Value} (h : V4 w B T x0 x1 x2 x3) (u : Value) : V4 (w.setCell ⟨B, 0, none⟩ u) B T u x1 x2 x3 :=
  (World.rowIs.set h 0 _).congr (fun j hj => by match j, hj with | 0, _ => rfl | 1, _ => rfl | 2, _ => rfl | 3, _ => rfl)
theorem V4.set1 {w : World} {B : Nat} {T : TypeId} {x0 x1 x2 x3 : Value} (h : V4 w B T x0 x1 x2 x3) (u : Value) : V4 (w.setCell ⟨B, 1, none⟩ u) B T x0 u x2 x3 :=
  (World.rowIs.set h 1 _).congr (fun j hj => by match j, hj with | 0, _ => rfl | 1, _ => rfl | 2, _ => rfl | 3, _ => rfl)
theorem V4.set2 {w : World} {B : Nat} {T : TypeId} {x0 x1 x2 x3 : Value} (h : V4 w B T x0 x1 x2 x3) (u : Value) : V4 (w.setCell ⟨B, 2, none⟩ u) B T x0 x1 u x3 :=
  (World.rowIs.set h 2 _).congr (fun j hj => by match j, hj with | 0, _ => rfl | 1, _ => rfl | 2, _ => rfl | 3, _ => rfl)
theorem V4.set3 {w : World} {B : Nat} {T : TypeId} {x0 x1 x2 x3 : Value} (h : V4 w B T x0 x1 x2 x3) (u : Value) : V4 (w.setCell ⟨B, 3, none⟩ u) B T x0 x1 x2 u :=
  (World.rowIs.set h 3 _).congr (fun j hj => by match j, hj with | 0, _ => rfl | 1, _ => rfl | 2, _ => rfl | 3, _ => rfl)
end Go.Proofs.YtjoimkfpenbkmabGreatDoor

