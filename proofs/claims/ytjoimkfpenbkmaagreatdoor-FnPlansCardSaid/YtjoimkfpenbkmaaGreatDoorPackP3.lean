/-
  Together: DefPlain, DefView, DefBox, SizeDef, Box44, BytesEq
-/
import Derived.Test.YtjoimkfpenbkmaaGreatDoorPackP1
import Derived.Test.YtjoimkfpenbkmaaGreatDoorPackP2
import Derived.Test.YtjoimkfpenbkmaaGreatDoorProg
import Derived.Deep.LoopGhost
/-
  Tables, plainly: columns, parts, indexes; what is wrong with one; whether two are the same.
-/
namespace Go.Proofs.YtjoimkfpenbkmaaGreatDoor
open Go.RowKit
set_option maxRecDepth 4000

structure PCol where
  name : ByteArray
  type : Int
  null : Bool
structure PBy where
  col : Int
  desc : Bool
structure PIdx where
  name : ByteArray
  uniq : Bool
  n : Nat
  part : Nat → PBy
structure PDef where
  name : ByteArray
  nc : Nat
  col : Nat → PCol
  np : Nat
  pri : Nat → PBy
  ni : Nat
  idx : Nat → PIdx

/-- The words that are no names: table, primary, unique, index, null, desc, int, num, text, bool. -/
def kwords : List (List UInt8) := [[116, 97, 98, 108, 101], [112, 114, 105, 109, 97, 114, 121], [117, 110, 105, 113, 117, 101], [105, 110, 100, 101, 120], [110, 117, 108, 108], [100, 101, 115, 99], [105, 110, 116], [110, 117, 109], [116, 101, 120, 116], [98, 111, 111, 108]]
def isKw (s : ByteArray) : Bool := kwords.contains s.toList
/-- Whether a text may be a name in a table. -/
def wordOk (s : ByteArray) : Bool := nameOk s && !isKw s

def namesF (D : PDef) : Bool := decide ((∀ i, i < D.nc → wordOk (D.col i).name = true) ∧ (∀ i, i < D.ni → wordOk (D.idx i).name = true) ∧ wordOk D.name = true)
def typesF (D : PDef) : Bool := decide ((∀ i, i < D.nc → 1 ≤ (D.col i).type ∧ (D.col i).type ≤ 4) ∧ 1 ≤ D.nc ∧ D.nc ≤ 6)
def onceF (D : PDef) : Bool := decide ((∀ i, i < D.nc → ∀ j, j < i → (D.col j).name ≠ (D.col i).name) ∧ (∀ i, i < D.ni → ∀ j, j < i → (D.idx j).name ≠ (D.idx i).name))
def partsF (nc n : Nat) (f : Nat → PBy) : Bool := decide ((∀ i, i < n → 0 ≤ (f i).col ∧ (f i).col < nc ∧ (0 < i → (f 0).col ≠ (f i).col)) ∧ 1 ≤ n ∧ n ≤ 2)
def allPartsF (D : PDef) : Bool := decide ((∀ i, i < D.ni → partsF D.nc (D.idx i).n (D.idx i).part = true) ∧ partsF D.nc D.np D.pri = true)
def nullF (D : PDef) : Bool := decide (∃ i, i < D.np ∧ (D.col (D.pri i).col.toNat).null = true)
/-- What is wrong with a table: the first that holds. -/
def checkF (D : PDef) : Int :=
  if namesF D = false then 1 else if typesF D = false then 2 else if onceF D = false then 3 else if 2 < D.ni then 6 else if allPartsF D = false then 5 else if nullF D then 4 else 0

def sameByF (n : Nat) (f : Nat → PBy) (m : Nat) (g : Nat → PBy) : Bool := decide (n = m ∧ ∀ i, i < n → (f i).col = (g i).col ∧ (f i).desc = (g i).desc)
/-- Whether two tables are the same. -/
def sameF (D E : PDef) : Bool :=
  decide (D.name = E.name ∧ D.nc = E.nc ∧ D.ni = E.ni ∧ sameByF D.np D.pri E.np E.pri = true ∧ (∀ i, i < D.nc → (D.col i).name = (E.col i).name ∧ (D.col i).type = (E.col i).type ∧ (D.col i).null = (E.col i).null)
    ∧ (∀ i, i < D.ni → (D.idx i).name = (E.idx i).name ∧ (D.idx i).uniq = (E.idx i).uniq ∧ sameByF (D.idx i).n (D.idx i).part (E.idx i).n (E.idx i).part = true))

theorem partsF_two {nc n : Nat} {f : Nat → PBy} (h : partsF nc n f = true) : 1 ≤ n ∧ n ≤ 2 := by
  unfold partsF at h; exact (of_decide_eq_true h).2
theorem partsF_in {nc n : Nat} {f : Nat → PBy} (h : partsF nc n f = true) {i : Nat} (hi : i < n) : 0 ≤ (f i).col ∧ (f i).col < nc := by
  unfold partsF at h; have := (of_decide_eq_true h).1 i hi; exact ⟨this.1, this.2.1⟩
/-- What a table is that nothing is wrong with. -/
theorem checkF_good {D : PDef} (h : checkF D = 0) : namesF D = true ∧ typesF D = true ∧ onceF D = true ∧ D.ni ≤ 2 ∧ allPartsF D = true ∧ nullF D = false := by
  unfold checkF at h
  cases h1 : namesF D <;> rw [h1] at h
  · simp at h
  cases h2 : typesF D <;> rw [h2] at h
  · simp at h
  cases h3 : onceF D <;> rw [h3] at h
  · simp at h
  by_cases h4 : 2 < D.ni
  · simp [h4] at h
  cases h5 : allPartsF D <;> rw [h5] at h
  · simp [h4] at h
  cases h6 : nullF D <;> rw [h6] at h
  · exact ⟨rfl, rfl, rfl, by omega, rfl, rfl⟩
  · simp [h4] at h
end Go.Proofs.YtjoimkfpenbkmaaGreatDoor

/-
  Rows of columns, of parts and of indexes that read, and a table that reads; how that is carried from one world to the next.
-/
namespace Go.Proofs.YtjoimkfpenbkmaaGreatDoor
open Go.RowKit
set_option maxRecDepth 4000

/-- The slice value '.slice ao n cap' reads as n columns. -/
structure CView (w : World) (ao : Option Addr) (n cap : Nat) (f : Nat → PCol) : Prop where
  le : n ≤ cap
  cells : 0 < n → ∃ b off, ao = some ⟨b, off, none⟩ ∧ b < w.heap.size ∧ ∀ i, i < n → w.cell? ⟨b, off + i * 3, none⟩ = some (.string (f i).name) ∧ w.cell? ⟨b, off + i * 3 + 1, none⟩ = some (.int .i64 (f i).type) ∧ w.cell? ⟨b, off + i * 3 + 2, none⟩ = some (.bool (f i).null)
/-- .. as n parts. -/
structure BView (w : World) (ao : Option Addr) (n cap : Nat) (f : Nat → PBy) : Prop where
  le : n ≤ cap
  cells : 0 < n → ∃ b off, ao = some ⟨b, off, none⟩ ∧ b < w.heap.size ∧ ∀ i, i < n → w.cell? ⟨b, off + i * 2, none⟩ = some (.int .i64 (f i).col) ∧ w.cell? ⟨b, off + i * 2 + 1, none⟩ = some (.bool (f i).desc)
/-- .. as n indexes. -/
structure IView (w : World) (ao : Option Addr) (n cap : Nat) (f : Nat → PIdx) : Prop where
  le : n ≤ cap
  cells : 0 < n → ∃ b off, ao = some ⟨b, off, none⟩ ∧ b < w.heap.size ∧ ∀ i, i < n → w.cell? ⟨b, off + i * 3, none⟩ = some (.string (f i).name) ∧ w.cell? ⟨b, off + i * 3 + 1, none⟩ = some (.bool (f i).uniq) ∧ ∃ a c, w.cell? ⟨b, off + i * 3 + 2, none⟩ = some (.slice a (f i).n c) ∧ BView w a (f i).n c (f i).part
/-- A table's value. -/
structure DView (w : World) (v : Value) (D : PDef) : Prop where
  is : ∃ ac cc ap cp ai ci, v = .agg #[.string D.name, .slice ac D.nc cc, .slice ap D.np cp, .slice ai D.ni ci] ∧ CView w ac D.nc cc D.col ∧ BView w ap D.np cp D.pri ∧ IView w ai D.ni ci D.idx

theorem CView.below {w w' : World} {ao : Option Addr} {n cap : Nat} {f : Nat → PCol} (h : CView w ao n cap f) (hb : Below w.heap.size w w') : CView w' ao n cap f := by
  refine ⟨h.le, fun hn => ?_⟩
  obtain ⟨b, off, e, hlt, hc⟩ := h.cells hn
  refine ⟨b, off, e, Nat.lt_of_lt_of_le hlt hb.size, fun i hi => ?_⟩
  rw [hb.cell (p := ⟨b, off + i * 3, none⟩) hlt, hb.cell (p := ⟨b, off + i * 3 + 1, none⟩) hlt, hb.cell (p := ⟨b, off + i * 3 + 2, none⟩) hlt]
  exact hc i hi
theorem BView.below {w w' : World} {ao : Option Addr} {n cap : Nat} {f : Nat → PBy} (h : BView w ao n cap f) (hb : Below w.heap.size w w') : BView w' ao n cap f := by
  refine ⟨h.le, fun hn => ?_⟩
  obtain ⟨b, off, e, hlt, hc⟩ := h.cells hn
  refine ⟨b, off, e, Nat.lt_of_lt_of_le hlt hb.size, fun i hi => ?_⟩
  rw [hb.cell (p := ⟨b, off + i * 2, none⟩) hlt, hb.cell (p := ⟨b, off + i * 2 + 1, none⟩) hlt]
  exact hc i hi
theorem IView.below {w w' : World} {ao : Option Addr} {n cap : Nat} {f : Nat → PIdx} (h : IView w ao n cap f) (hb : Below w.heap.size w w') : IView w' ao n cap f := by
  refine ⟨h.le, fun hn => ?_⟩
  obtain ⟨b, off, e, hlt, hc⟩ := h.cells hn
  refine ⟨b, off, e, Nat.lt_of_lt_of_le hlt hb.size, fun i hi => ?_⟩
  rw [hb.cell (p := ⟨b, off + i * 3, none⟩) hlt, hb.cell (p := ⟨b, off + i * 3 + 1, none⟩) hlt, hb.cell (p := ⟨b, off + i * 3 + 2, none⟩) hlt]
  obtain ⟨h0, h1, a, c, h2, hv⟩ := hc i hi
  exact ⟨h0, h1, a, c, h2, hv.below hb⟩
theorem DView.below {w w' : World} {v : Value} {D : PDef} (h : DView w v D) (hb : Below w.heap.size w w') : DView w' v D := by
  obtain ⟨ac, cc, ap, cp, ai, ci, e, h1, h2, h3⟩ := h.is
  exact ⟨ac, cc, ap, cp, ai, ci, e, h1.below hb, h2.below hb, h3.below hb⟩
theorem CView.take {w : World} {ao : Option Addr} {n cap m : Nat} {f : Nat → PCol} (h : CView w ao n cap f) (hm : m ≤ n) : CView w ao m cap f := by
  refine ⟨Nat.le_trans hm h.le, fun hn => ?_⟩
  obtain ⟨b, off, e, hlt, hc⟩ := h.cells (by omega)
  exact ⟨b, off, e, hlt, fun i hi => hc i (by omega)⟩
end Go.Proofs.YtjoimkfpenbkmaaGreatDoor

/-
  A table in a variable of the call's own.
-/
namespace Go.Proofs.YtjoimkfpenbkmaaGreatDoor
open Go.RowKit
set_option maxRecDepth 4000

/-- Numbers of columns, parts and indexes, and texts, that are not great. -/
structure DFine (D : PDef) : Prop where
  name : D.name.size ≤ 1048576
  nc : D.nc ≤ 1048576
  col : ∀ i, i < D.nc → (D.col i).name.size ≤ 1048576
  np : D.np ≤ 1048576
  ni : D.ni ≤ 1048576
  idx : ∀ i, i < D.ni → (D.idx i).name.size ≤ 1048576 ∧ (D.idx i).n ≤ 1048576

/-- What was put into a variable of four cells is there while nothing of it is written. -/
theorem box4 {w wr : World} {T : TypeId} {x0 x1 x2 x3 : Value} (h : Below (w.heap.size + 1) (w.alloc (.cells #[x0, x1, x2, x3] T)) wr) :
    wr.cell? ⟨w.heap.size, 0, none⟩ = some x0 ∧ wr.cell? ⟨w.heap.size, 1, none⟩ = some x1 ∧ wr.cell? ⟨w.heap.size, 2, none⟩ = some x2 ∧ wr.cell? ⟨w.heap.size, 3, none⟩ = some x3 := by
  refine ⟨?_, ?_, ?_, ?_⟩
  all_goals (rw [h.cell (by simp)]; simp [go_sem])
theorem box4_below {w wr : World} {o : Obj} (h : Below (w.heap.size + 1) (w.alloc o) wr) : Below w.heap.size w wr ∧ w.heap.size + 1 ≤ wr.heap.size := by
  refine ⟨((Below.refl _ _).alloc (Nat.le_refl _) _).trans (h.mono (by simp)), ?_⟩
  have := h.size
  simpa using this
theorem box4_start (w : World) (o : Obj) : Below (w.heap.size + 1) (w.alloc o) (w.alloc o) := Below.refl _ _
theorem box4_on {w wr w' : World} {o : Obj} (h : Below (w.heap.size + 1) (w.alloc o) wr) (h' : Below wr.heap.size wr w') : Below (w.heap.size + 1) (w.alloc o) w' := h.trans (h'.mono (box4_below h).2)
end Go.Proofs.YtjoimkfpenbkmaaGreatDoor

/-
  How much a table holds, as the law counts it; where that is not too much, nothing of it is long.
-/
namespace Go.Proofs.YtjoimkfpenbkmaaGreatDoor
open Go.RowKit
set_option maxRecDepth 4000

/-- Texts and rows that a machine can have. -/
structure DLim (D : PDef) : Prop where
  name : D.name.size ≤ maxLen
  nc : D.nc ≤ maxLen
  col : ∀ i, i < D.nc → (D.col i).name.size ≤ maxLen
  np : D.np ≤ maxLen
  ni : D.ni ≤ maxLen
  idx : ∀ i, i < D.ni → (D.idx i).name.size ≤ maxLen ∧ (D.idx i).n ≤ maxLen

/-- What a count comes to: too much, or what is left. -/
def Left (w : World) (left : Int) (P : Prop) (e : Ending) (w' : World) : Prop := ∃ L : Int, e = .returned (.int .i64 L) ∧ Below w.heap.size w w' ∧ (L = -1 ∨ (0 ≤ L ∧ L ≤ left ∧ P))

set_option maxHeartbeats 1000000 in
theorem szCol_fine (s : ByteArray) (t : Int) (z : Bool) (left : Int) (w : World) (hs : s.size ≤ maxLen) (h0 : 0 ≤ left) (hl : left ≤ 1048576) :
    Calls Tryz.prog 123 #[.agg #[.string s, .int .i64 t, .bool z], .int .i64 left] w (Left w left (s.size ≤ 1048576)) := by
  have hs' : (s.size : Int) ≤ 9223372036854775807 := by unfold maxLen at hs; omega
  by_cases hb : left - (s.size : Int) < 0
  · go_enter Tryz.func123, Tryz.ntmps123
    go_wp2
    go_ret
    exact ⟨_, rfl, (Below.refl _ _).alloc (Nat.le_refl _) _, .inl rfl⟩
  · go_enter Tryz.func123, Tryz.ntmps123
    go_wp2
    go_ret
    exact ⟨_, rfl, (Below.refl _ _).alloc (Nat.le_refl _) _, .inr ⟨by omega, by omega, by omega⟩⟩
set_option maxHeartbeats 1000000 in
theorem szByS_fine (a : Option Addr) (n cap : Nat) (left : Int) (w : World) (hs : n ≤ maxLen) (h0 : 0 ≤ left) (hl : left ≤ 1048576) :
    Calls Tryz.prog 75 #[.slice a n cap, .int .i64 left] w (Left w left (n ≤ 1048576)) := by
  have hs' : (n : Int) ≤ 9223372036854775807 := by unfold maxLen at hs; omega
  by_cases hb : left - (n : Int) < 0
  · go_enter Tryz.func75, Tryz.ntmps75
    go_wp2
    go_ret
    exact ⟨_, rfl, Below.refl _ _, .inl rfl⟩
  · go_enter Tryz.func75, Tryz.ntmps75
    go_wp2
    go_ret
    exact ⟨_, rfl, Below.refl _ _, .inr ⟨by omega, by omega, by omega⟩⟩
set_option maxHeartbeats 1000000 in
theorem szIndex_fine (s : ByteArray) (u : Bool) (a : Option Addr) (n cap : Nat) (left : Int) (w : World) (hs : s.size ≤ maxLen) (hn : n ≤ maxLen) (h0 : 0 ≤ left) (hl : left ≤ 1048576) :
    Calls Tryz.prog 124 #[.agg #[.string s, .bool u, .slice a n cap], .int .i64 left] w (Left w left (s.size ≤ 1048576 ∧ n ≤ 1048576)) := by
  have hs' : (s.size : Int) ≤ 9223372036854775807 := by unfold maxLen at hs; omega
  by_cases hb : left - (s.size : Int) < 0
  · go_enter Tryz.func124, Tryz.ntmps124
    go_wp2
    go_ret
    exact ⟨_, rfl, (Below.refl _ _).alloc (Nat.le_refl _) _, .inl rfl⟩
  · have hS := fun W => szByS_fine a n cap (left - s.size) W hn (by omega) (by omega)
    go_enter Tryz.func124, Tryz.ntmps124
    go_wp2_with fail
    refine (hS _).mono ?_
    rintro e w1 ⟨L, rfl, hb1, hL⟩
    have HB : Hid (Below w.heap.size w w1) := ((Below.refl _ _).alloc (Nat.le_refl _) _).trans (hb1.mono (by simp))
    clear hS hb1
    rcases hL with rfl | ⟨hL0, hL1, hP⟩
    · go_wp2
      go_ret
      exact ⟨_, rfl, HB.out, .inl rfl⟩
    · have hLn : ¬ L < 0 := by omega
      go_wp2
      go_ret
      exact ⟨_, rfl, HB.out, .inr ⟨by omega, by omega, by omega, hP⟩⟩

set_option maxHeartbeats 2000000 in
theorem szColS_fine (a : Option Addr) (n cap : Nat) (f : Nat → PCol) (left : Int) (w : World) (h : CView w a n cap f) (hn : n ≤ maxLen) (hz : ∀ i, i < n → (f i).name.size ≤ maxLen) (h0 : 0 ≤ left) (hl : left ≤ 1048576) :
    Calls Tryz.prog 74 #[.slice a n cap, .int .i64 left] w (Left w left (n ≤ 1048576 ∧ ∀ i, i < n → (f i).name.size ≤ 1048576)) := by
  have hn' : (n : Int) ≤ 9223372036854775807 := by unfold maxLen at hn; omega
  by_cases hb : left - (n : Int) < 0
  · go_enter Tryz.func74, Tryz.ntmps74
    go_wp2
    go_ret
    exact ⟨_, rfl, Below.refl _ _, .inl rfl⟩
  go_enter Tryz.func74, Tryz.ntmps74
  go_wp2
  go_loopg [1, 5] n (fun q l i wr => ∃ (k : Nat) (L : Int), k ≤ n ∧ q = n - k ∧ l = .int .i64 L ∧ i = .int .i64 k ∧ Below w.heap.size w wr ∧ 0 ≤ L ∧ L ≤ left - n ∧ Hid (∀ i, i < k → (f i).name.size ≤ 1048576))
  case atStart => exact ⟨0, left - n, Nat.zero_le _, rfl, rfl, rfl, Below.refl _ _, by omega, by omega, fun i hi => absurd hi (Nat.not_lt_zero _)⟩
  case round =>
    obtain ⟨k, L, hk, rfl, rfl, rfl, hB, hL0, hL1, HA⟩ := hrel
    by_cases hlt : k < n
    · obtain ⟨b1, o1, rfl, hb1, hc1⟩ := (h.below hB).cells (by omega)
      obtain ⟨x0, x1, x2⟩ := hc1 k hlt
      have hkz : (k : Int) < (n : Int) := by omega
      have hS := fun W => szCol_fine (f k).name (f k).type (f k).null L W (hz k hlt) hL0 (by omega)
      have HN : Hid ((f k).name.size ≤ 1048576 → ∀ i, i < k + 1 → (f i).name.size ≤ 1048576) := by
        intro hp i hi
        by_cases e : i < k
        · exact HA.out i e
        · obtain rfl : i = k := by omega
          exact hp
      clear hc1 h hz HA
      obtain ⟨p0, hp0⟩ : ∃ x, Hid ((f k).name = x) := ⟨_, rfl⟩
      obtain ⟨p1, hp1⟩ : ∃ x, Hid ((f k).type = x) := ⟨_, rfl⟩
      obtain ⟨p2, hp2⟩ : ∃ x, Hid ((f k).null = x) := ⟨_, rfl⟩
      rw [hp0.out] at x0 HN
      rw [hp1.out] at x1
      rw [hp2.out] at x2
      simp only [hp0.out, hp1.out, hp2.out] at hS
      go_wp2_with fail
      refine (hS _).mono ?_
      rintro e w1 ⟨L', rfl, hb1', hL⟩
      have HB : Hid (Below w.heap.size w w1) := hB.trans (hb1'.mono hB.size)
      clear hS hb1' hB
      rcases hL with rfl | ⟨hL0', hL1', hP⟩
      · go_wp2
        go_ret
        exact ⟨_, rfl, HB.out, .inl rfl⟩
      · have hLn : ¬ L' < 0 := by omega
        have HN2 : Hid (∀ i, i < k + 1 → (f i).name.size ≤ 1048576) := HN.out hP
        clear HN
        go_wp2
        go_roundg (n - (k + 1))
        case measure => omega
        case rel => exact ⟨k + 1, L', by omega, rfl, rfl, by go_num, HB.out, by omega, by omega, HN2⟩
    · have hkz : ¬ (k : Int) < (n : Int) := by omega
      clear h hz
      go_wp2
      go_ret
      exact ⟨_, rfl, hB, .inr ⟨hL0, by omega, by omega, fun i hi => HA.out i (by omega)⟩⟩

set_option maxHeartbeats 2000000 in
theorem szIndexS_fine (a : Option Addr) (n cap : Nat) (f : Nat → PIdx) (left : Int) (w : World) (h : IView w a n cap f) (hn : n ≤ maxLen) (hz : ∀ i, i < n → (f i).name.size ≤ maxLen ∧ (f i).n ≤ maxLen) (h0 : 0 ≤ left) (hl : left ≤ 1048576) :
    Calls Tryz.prog 76 #[.slice a n cap, .int .i64 left] w (Left w left (n ≤ 1048576 ∧ ∀ i, i < n → (f i).name.size ≤ 1048576 ∧ (f i).n ≤ 1048576)) := by
  have hn' : (n : Int) ≤ 9223372036854775807 := by unfold maxLen at hn; omega
  by_cases hb : left - (n : Int) < 0
  · go_enter Tryz.func76, Tryz.ntmps76
    go_wp2
    go_ret
    exact ⟨_, rfl, Below.refl _ _, .inl rfl⟩
  go_enter Tryz.func76, Tryz.ntmps76
  go_wp2
  go_loopg [1, 5] n (fun q l i wr => ∃ (k : Nat) (L : Int), k ≤ n ∧ q = n - k ∧ l = .int .i64 L ∧ i = .int .i64 k ∧ Below w.heap.size w wr ∧ 0 ≤ L ∧ L ≤ left - n ∧ Hid (∀ i, i < k → (f i).name.size ≤ 1048576 ∧ (f i).n ≤ 1048576))
  case atStart => exact ⟨0, left - n, Nat.zero_le _, rfl, rfl, rfl, Below.refl _ _, by omega, by omega, fun i hi => absurd hi (Nat.not_lt_zero _)⟩
  case round =>
    obtain ⟨k, L, hk, rfl, rfl, rfl, hB, hL0, hL1, HA⟩ := hrel
    by_cases hlt : k < n
    · obtain ⟨b1, o1, rfl, hb1, hc1⟩ := (h.below hB).cells (by omega)
      obtain ⟨x0, x1, a2, c2, x2, -⟩ := hc1 k hlt
      have hkz : (k : Int) < (n : Int) := by omega
      have hS := fun W => szIndex_fine (f k).name (f k).uniq a2 (f k).n c2 L W (hz k hlt).1 (hz k hlt).2 hL0 (by omega)
      have HN : Hid ((f k).name.size ≤ 1048576 ∧ (f k).n ≤ 1048576 → ∀ i, i < k + 1 → (f i).name.size ≤ 1048576 ∧ (f i).n ≤ 1048576) := by
        intro hp i hi
        by_cases e : i < k
        · exact HA.out i e
        · obtain rfl : i = k := by omega
          exact hp
      clear hc1 h hz HA
      obtain ⟨p0, hp0⟩ : ∃ x, Hid ((f k).name = x) := ⟨_, rfl⟩
      obtain ⟨p1, hp1⟩ : ∃ x, Hid ((f k).uniq = x) := ⟨_, rfl⟩
      obtain ⟨p2, hp2⟩ : ∃ x, Hid ((f k).n = x) := ⟨_, rfl⟩
      rw [hp0.out] at x0
      rw [hp1.out] at x1
      rw [hp2.out] at x2
      rw [hp0.out, hp2.out] at HN
      simp only [hp0.out, hp1.out, hp2.out] at hS
      go_wp2_with fail
      refine (hS _).mono ?_
      rintro e w1 ⟨L', rfl, hb1', hL⟩
      have HB : Hid (Below w.heap.size w w1) := hB.trans (hb1'.mono hB.size)
      clear hS hb1' hB
      rcases hL with rfl | ⟨hL0', hL1', hP⟩
      · go_wp2
        go_ret
        exact ⟨_, rfl, HB.out, .inl rfl⟩
      · have hLn : ¬ L' < 0 := by omega
        have HN2 : Hid (∀ i, i < k + 1 → (f i).name.size ≤ 1048576 ∧ (f i).n ≤ 1048576) := HN.out hP
        clear HN hP
        go_wp2
        go_roundg (n - (k + 1))
        case measure => omega
        case rel => exact ⟨k + 1, L', by omega, rfl, rfl, by go_num, HB.out, by omega, by omega, HN2⟩
    · have hkz : ¬ (k : Int) < (n : Int) := by omega
      clear h hz
      go_wp2
      go_ret
      exact ⟨_, rfl, hB, .inr ⟨hL0, by omega, by omega, fun i hi => HA.out i (by omega)⟩⟩

set_option maxHeartbeats 2000000 in
theorem szDef_fine (v : Value) (D : PDef) (left : Int) (w : World) (h : DView w v D) (hm : DLim D) (h0 : 0 ≤ left) (hl : left ≤ 1048576) :
    Calls Tryz.prog 32 #[v, .int .i64 left] w (Left w left (DFine D)) := by
  obtain ⟨ac, cc, ap, cp, ai, ci, rfl, hc, hp, hi⟩ := h.is
  clear h
  have hs' : (D.name.size : Int) ≤ 9223372036854775807 := by have := hm.name; unfold maxLen at this; omega
  have hB0 := box4_start w (.cells #[.string D.name, .slice ac D.nc cc, .slice ap D.np cp, .slice ai D.ni ci] 61)
  obtain ⟨hBw0, -⟩ := box4_below hB0
  by_cases hb : left - (D.name.size : Int) < 0
  · clear hc hp hi
    go_enter Tryz.func32, Tryz.ntmps32
    go_wp2
    go_ret
    exact ⟨_, rfl, hBw0, .inl rfl⟩
  have h1 := szColS_fine ac D.nc cc D.col (left - D.name.size) _ (hc.below hBw0) hm.nc hm.col (by omega) (by omega)
  go_enter Tryz.func32, Tryz.ntmps32
  go_wp2_with fail
  refine h1.mono ?_
  rintro e w1 ⟨L1, rfl, hb1, hL⟩
  have hB1 := box4_on hB0 hb1
  obtain ⟨hBw1, hs1⟩ := box4_below hB1
  obtain ⟨x0, x1, x2, x3⟩ := box4 hB1
  clear h1 hb1 hB0 hBw0 hc
  rcases hL with rfl | ⟨a0, a1, aP⟩
  · clear hp hi
    go_wp2
    go_ret
    exact ⟨_, rfl, hBw1, .inl rfl⟩
  have n1 : ¬ L1 < 0 := by omega
  have HP1 : Hid (D.nc ≤ 1048576 ∧ ∀ i, i < D.nc → (D.col i).name.size ≤ 1048576) := aP
  have h2 := szByS_fine ap D.np cp L1 w1 hm.np a0 (by omega)
  clear aP
  go_wp2_with fail
  refine h2.mono ?_
  rintro e w2 ⟨L2, rfl, hb2, hL⟩
  have hB2 := box4_on hB1 hb2
  obtain ⟨hBw2, hs2⟩ := box4_below hB2
  clear x0 x1 x2 x3
  obtain ⟨x0, x1, x2, x3⟩ := box4 hB2
  clear h2 hb2 hB1 hBw1 hs1 hp
  rcases hL with rfl | ⟨c0, c1, cP⟩
  · clear hi
    go_wp2
    go_ret
    exact ⟨_, rfl, hBw2, .inl rfl⟩
  have n2 : ¬ L2 < 0 := by omega
  have h3 := szIndexS_fine ai D.ni ci D.idx L2 w2 (hi.below hBw2) hm.ni hm.idx c0 (by omega)
  go_wp2_with fail
  refine h3.mono ?_
  rintro e w3 ⟨L3, rfl, hb3, hL⟩
  have HB3 : Hid (Below w.heap.size w w3) := (box4_below (box4_on hB2 hb3)).1
  clear h3 hb3 hB2 hBw2 hs2 hi x0 x1 x2 x3
  rcases hL with rfl | ⟨d0, d1, dP⟩
  · go_wp2
    go_ret
    exact ⟨_, rfl, HB3.out, .inl rfl⟩
  have n3 : ¬ L3 < 0 := by omega
  have HF : Hid (DFine D) := ⟨by omega, HP1.out.1, HP1.out.2, cP, dP.1, dP.2⟩
  clear dP
  go_wp2
  go_ret
  exact ⟨_, rfl, HB3.out, .inr ⟨d0, by omega, HF.out⟩⟩
end Go.Proofs.YtjoimkfpenbkmaaGreatDoor

/-
  Two tables in variables of the call's own.
-/
namespace Go.Proofs.YtjoimkfpenbkmaaGreatDoor
open Go.RowKit
set_option maxRecDepth 4000

theorem bool_ne {a b : Bool} (h : ¬ a = b) : b = !a := by cases a <;> cases b <;> simp at h <;> rfl
/-- Two variables of four cells, one behind the other. -/
theorem box44 {w wr : World} {T U : TypeId} {x0 x1 x2 x3 y0 y1 y2 y3 : Value} (h : Below (w.heap.size + 1 + 1) ((w.alloc (.cells #[x0, x1, x2, x3] T)).alloc (.cells #[y0, y1, y2, y3] U)) wr) :
    (wr.cell? ⟨w.heap.size, 0, none⟩ = some x0 ∧ wr.cell? ⟨w.heap.size, 1, none⟩ = some x1 ∧ wr.cell? ⟨w.heap.size, 2, none⟩ = some x2 ∧ wr.cell? ⟨w.heap.size, 3, none⟩ = some x3)
    ∧ (wr.cell? ⟨w.heap.size + 1, 0, none⟩ = some y0 ∧ wr.cell? ⟨w.heap.size + 1, 1, none⟩ = some y1 ∧ wr.cell? ⟨w.heap.size + 1, 2, none⟩ = some y2 ∧ wr.cell? ⟨w.heap.size + 1, 3, none⟩ = some y3) := by
  refine ⟨⟨?_, ?_, ?_, ?_⟩, ?_, ?_, ?_, ?_⟩
  all_goals (rw [h.cell (by first | (simp; done) | (simp; omega))]; simp [go_sem])
theorem box44_below {w wr : World} {o p : Obj} (h : Below (w.heap.size + 1 + 1) ((w.alloc o).alloc p) wr) : Below w.heap.size w wr ∧ w.heap.size + 2 ≤ wr.heap.size := by
  refine ⟨(((Below.refl _ _).alloc (Nat.le_refl _) _).alloc (by simp) _).trans (h.mono (by omega)), ?_⟩
  have := h.size
  simpa using this
theorem box44_on {w wr w' : World} {o p : Obj} (h : Below (w.heap.size + 1 + 1) ((w.alloc o).alloc p) wr) (h' : Below wr.heap.size wr w') : Below (w.heap.size + 1 + 1) ((w.alloc o).alloc p) w' := h.trans (h'.mono (box44_below h).2)
theorem box3 {w wr : World} {T : TypeId} {x0 x1 x2 : Value} (h : Below (w.heap.size + 1) (w.alloc (.cells #[x0, x1, x2] T)) wr) :
    wr.cell? ⟨w.heap.size, 0, none⟩ = some x0 ∧ wr.cell? ⟨w.heap.size, 1, none⟩ = some x1 ∧ wr.cell? ⟨w.heap.size, 2, none⟩ = some x2 := by
  refine ⟨?_, ?_, ?_⟩
  all_goals (rw [h.cell (by simp)]; simp [go_sem])

end Go.Proofs.YtjoimkfpenbkmaaGreatDoor

/-
  Texts that are held against each other.
-/
namespace Go.Proofs.YtjoimkfpenbkmaaGreatDoor
open Go.RowKit
set_option maxRecDepth 4000

theorem bytes_inj {a b : ByteArray} : a.toList = b.toList ↔ a = b := by
  constructor
  · intro h
    rw [ByteArray.toList_eq, ByteArray.toList_eq] at h
    obtain ⟨⟨x⟩⟩ := a
    obtain ⟨⟨y⟩⟩ := b
    simp only at h
    rw [h]
  · rintro rfl; rfl
theorem bytes_eq {a b : ByteArray} (h : a = b) : (a.toList == b.toList) = true := by rw [h]; exact beq_self_eq_true _
theorem bytes_ne {a b : ByteArray} (h : a ≠ b) : (a.toList == b.toList) = false := by
  cases e : (a.toList == b.toList) with
  | false => rfl
  | true => exact absurd (bytes_inj.1 (eq_of_beq e)) h
end Go.Proofs.YtjoimkfpenbkmaaGreatDoor

