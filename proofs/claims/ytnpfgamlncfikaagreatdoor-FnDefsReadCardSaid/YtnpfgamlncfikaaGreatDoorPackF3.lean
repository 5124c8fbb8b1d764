/-
  Together: DefPlain, DefView, RowG, OwnSet, Conv, MarkText
-/
import Derived.Test.YtnpfgamlncfikaaGreatDoorPackF1
import Derived.Test.YtnpfgamlncfikaaGreatDoorPackF2
import Derived.Laws.BytesArg
import Derived.Deep.LoopGhost
/-
  Tables, plainly: columns, parts, indexes; what is wrong with one; whether two are the same.
-/
namespace Go.Proofs.YtnpfgamlncfikaaGreatDoor
open Go.RowKit
set_option maxRecDepth 4000

structure PCol where
  name : ByteArray
  type : Int
  null : Bool
structure PBy where
  col : Int
  desc : Bool
structure PIdx where
  name : ByteArray
  uniq : Bool
  n : Nat
  part : Nat → PBy
structure PDef where
  name : ByteArray
  nc : Nat
  col : Nat → PCol
  np : Nat
  pri : Nat → PBy
  ni : Nat
  idx : Nat → PIdx

/-- The words that are no names: table, primary, unique, index, null, desc, int, num, text, bool. -/
def kwords : List (List UInt8) := [[116, 97, 98, 108, 101], [112, 114, 105, 109, 97, 114, 121], [117, 110, 105, 113, 117, 101], [105, 110, 100, 101, 120], [110, 117, 108, 108], [100, 101, 115, 99], [105, 110, 116], [110, 117, 109], [116, 101, 120, 116], [98, 111, 111, 108]]
def isKw (s : ByteArray) : Bool := kwords.contains s.toList
/-- Whether a text may be a name in a table. -/
def wordOk (s : ByteArray) : Bool := nameOk s && !isKw s

def namesF (D : PDef) : Bool := decide ((∀ i, i < D.nc → wordOk (D.col i).name = true) ∧ (∀ i, i < D.ni → wordOk (D.idx i).name = true) ∧ wordOk D.name = true)
def typesF (D : PDef) : Bool := decide ((∀ i, i < D.nc → 1 ≤ (D.col i).type ∧ (D.col i).type ≤ 4) ∧ 1 ≤ D.nc ∧ D.nc ≤ 6)
def onceF (D : PDef) : Bool := decide ((∀ i, i < D.nc → ∀ j, j < i → (D.col j).name ≠ (D.col i).name) ∧ (∀ i, i < D.ni → ∀ j, j < i → (D.idx j).name ≠ (D.idx i).name))
def partsF (nc n : Nat) (f : Nat → PBy) : Bool := decide ((∀ i, i < n → 0 ≤ (f i).col ∧ (f i).col < nc ∧ (0 < i → (f 0).col ≠ (f i).col)) ∧ 1 ≤ n ∧ n ≤ 2)
def allPartsF (D : PDef) : Bool := decide ((∀ i, i < D.ni → partsF D.nc (D.idx i).n (D.idx i).part = true) ∧ partsF D.nc D.np D.pri = true)
def nullF (D : PDef) : Bool := decide (∃ i, i < D.np ∧ (D.col (D.pri i).col.toNat).null = true)
/-- What is wrong with a table: the first that holds. -/
def checkF (D : PDef) : Int :=
  if namesF D = false then 1 else if typesF D = false then 2 else if onceF D = false then 3 else if 2 < D.ni then 6 else if allPartsF D = false then 5 else if nullF D then 4 else 0

def sameByF (n : Nat) (f : Nat → PBy) (m : Nat) (g : Nat → PBy) : Bool := decide (n = m ∧ ∀ i, i < n → (f i).col = (g i).col ∧ (f i).desc = (g i).desc)
/-- Whether two tables are the same. -/
def sameF (D E : PDef) : Bool :=
  decide (D.name = E.name ∧ D.nc = E.nc ∧ D.ni = E.ni ∧ sameByF D.np D.pri E.np E.pri = true ∧ (∀ i, i < D.nc → (D.col i).name = (E.col i).name ∧ (D.col i).type = (E.col i).type ∧ (D.col i).null = (E.col i).null)
    ∧ (∀ i, i < D.ni → (D.idx i).name = (E.idx i).name ∧ (D.idx i).uniq = (E.idx i).uniq ∧ sameByF (D.idx i).n (D.idx i).part (E.idx i).n (E.idx i).part = true))

theorem partsF_two {nc n : Nat} {f : Nat → PBy} (h : partsF nc n f = true) : 1 ≤ n ∧ n ≤ 2 := by
  unfold partsF at h; exact (of_decide_eq_true h).2
theorem partsF_in {nc n : Nat} {f : Nat → PBy} (h : partsF nc n f = true) {i : Nat} (hi : i < n) : 0 ≤ (f i).col ∧ (f i).col < nc := by
  unfold partsF at h; have := (of_decide_eq_true h).1 i hi; exact ⟨this.1, this.2.1⟩
/-- What a table is that nothing is wrong with. -/
theorem checkF_good {D : PDef} (h : checkF D = 0) : namesF D = true ∧ typesF D = true ∧ onceF D = true ∧ D.ni ≤ 2 ∧ allPartsF D = true ∧ nullF D = false := by
  unfold checkF at h
  cases h1 : namesF D <;> rw [h1] at h
  · simp at h
  cases h2 : typesF D <;> rw [h2] at h
  · simp at h
  cases h3 : onceF D <;> rw [h3] at h
  · simp at h
  by_cases h4 : 2 < D.ni
  · simp [h4] at h
  cases h5 : allPartsF D <;> rw [h5] at h
  · simp [h4] at h
  cases h6 : nullF D <;> rw [h6] at h
  · exact ⟨rfl, rfl, rfl, by omega, rfl, rfl⟩
  · simp [h4] at h
end Go.Proofs.YtnpfgamlncfikaaGreatDoor

/-
  Rows of columns, of parts and of indexes that read, and a table that reads; how that is carried from one world to the next.
-/
namespace Go.Proofs.YtnpfgamlncfikaaGreatDoor
open Go.RowKit
set_option maxRecDepth 4000

/-- The slice value '.slice ao n cap' reads as n columns. -/
structure CView (w : World) (ao : Option Addr) (n cap : Nat) (f : Nat → PCol) : Prop where
  le : n ≤ cap
  cells : 0 < n → ∃ b off, ao = some ⟨b, off, none⟩ ∧ b < w.heap.size ∧ ∀ i, i < n → w.cell? ⟨b, off + i * 3, none⟩ = some (.string (f i).name) ∧ w.cell? ⟨b, off + i * 3 + 1, none⟩ = some (.int .i64 (f i).type) ∧ w.cell? ⟨b, off + i * 3 + 2, none⟩ = some (.bool (f i).null)
/-- .. as n parts. -/
structure BView (w : World) (ao : Option Addr) (n cap : Nat) (f : Nat → PBy) : Prop where
  le : n ≤ cap
  cells : 0 < n → ∃ b off, ao = some ⟨b, off, none⟩ ∧ b < w.heap.size ∧ ∀ i, i < n → w.cell? ⟨b, off + i * 2, none⟩ = some (.int .i64 (f i).col) ∧ w.cell? ⟨b, off + i * 2 + 1, none⟩ = some (.bool (f i).desc)
/-- .. as n indexes. -/
structure IView (w : World) (ao : Option Addr) (n cap : Nat) (f : Nat → PIdx) : Prop where
  le : n ≤ cap
  cells : 0 < n → ∃ b off, ao = some ⟨b, off, none⟩ ∧ b < w.heap.size ∧ ∀ i, i < n → w.cell? ⟨b, off + i * 3, none⟩ = some (.string (f i).name) ∧ w.cell? ⟨b, off + i * 3 + 1, none⟩ = some (.bool (f i).uniq) ∧ ∃ a c, w.cell? ⟨b, off + i * 3 + 2, none⟩ = some (.slice a (f i).n c) ∧ BView w a (f i).n c (f i).part
/-- A table's value. -/
structure DView (w : World) (v : Value) (D : PDef) : Prop where
  is : ∃ ac cc ap cp ai ci, v = .agg #[.string D.name, .slice ac D.nc cc, .slice ap D.np cp, .slice ai D.ni ci] ∧ CView w ac D.nc cc D.col ∧ BView w ap D.np cp D.pri ∧ IView w ai D.ni ci D.idx

theorem CView.below {w w' : World} {ao : Option Addr} {n cap : Nat} {f : Nat → PCol} (h : CView w ao n cap f) (hb : Below w.heap.size w w') : CView w' ao n cap f := by
  refine ⟨h.le, fun hn => ?_⟩
  obtain ⟨b, off, e, hlt, hc⟩ := h.cells hn
  refine ⟨b, off, e, Nat.lt_of_lt_of_le hlt hb.size, fun i hi => ?_⟩
  rw [hb.cell (p := ⟨b, off + i * 3, none⟩) hlt, hb.cell (p := ⟨b, off + i * 3 + 1, none⟩) hlt, hb.cell (p := ⟨b, off + i * 3 + 2, none⟩) hlt]
  exact hc i hi
theorem BView.below {w w' : World} {ao : Option Addr} {n cap : Nat} {f : Nat → PBy} (h : BView w ao n cap f) (hb : Below w.heap.size w w') : BView w' ao n cap f := by
  refine ⟨h.le, fun hn => ?_⟩
  obtain ⟨b, off, e, hlt, hc⟩ := h.cells hn
  refine ⟨b, off, e, Nat.lt_of_lt_of_le hlt hb.size, fun i hi => ?_⟩
  rw [hb.cell (p := ⟨b, off + i * 2, none⟩) hlt, hb.cell (p := ⟨b, off + i * 2 + 1, none⟩) hlt]
  exact hc i hi
theorem IView.below {w w' : World} {ao : Option Addr} {n cap : Nat} {f : Nat → PIdx} (h : IView w ao n cap f) (hb : Below w.heap.size w w') : IView w' ao n cap f := by
  refine ⟨h.le, fun hn => ?_⟩
  obtain ⟨b, off, e, hlt, hc⟩ := h.cells hn
  refine ⟨b, off, e, Nat.lt_of_lt_of_le hlt hb.size, fun i hi => ?_⟩
  rw [hb.cell (p := ⟨b, off + i * 3, none⟩) hlt, hb.cell (p := ⟨b, off + i * 3 + 1, none⟩) hlt, hb.cell (p := ⟨b, off + i * 3 + 2, none⟩) hlt]
  obtain ⟨h0, h1, a, c, h2, hv⟩ := hc i hi
  exact ⟨h0, h1, a, c, h2, hv.below hb⟩
theorem DView.below {w w' : World} {v : Value} {D : PDef} (h : DView w v D) (hb : Below w.heap.size w w') : DView w' v D := by
  obtain ⟨ac, cc, ap, cp, ai, ci, e, h1, h2, h3⟩ := h.is
  exact ⟨ac, cc, ap, cp, ai, ci, e, h1.below hb, h2.below hb, h3.below hb⟩
theorem CView.take {w : World} {ao : Option Addr} {n cap m : Nat} {f : Nat → PCol} (h : CView w ao n cap f) (hm : m ≤ n) : CView w ao m cap f := by
  refine ⟨Nat.le_trans hm h.le, fun hn => ?_⟩
  obtain ⟨b, off, e, hlt, hc⟩ := h.cells (by omega)
  exact ⟨b, off, e, hlt, fun i hi => hc i (by omega)⟩
end Go.Proofs.YtnpfgamlncfikaaGreatDoor

/-
  Rows of the call's own whose elements have several cells, by a function of the index.
-/
namespace Go.Proofs.YtnpfgamlncfikaaGreatDoor
open Go.RowKit
set_option maxRecDepth 4000

/-- The cells of the first k elements. -/
def rowG (enc : Nat → List Value) : Nat → List Value
  | 0 => []
  | k + 1 => rowG enc k ++ enc k
theorem rowG_len {enc : Nat → List Value} {c : Nat} (h : ∀ i, (enc i).length = c) : ∀ k, (rowG enc k).length = k * c
  | 0 => by rw [Nat.zero_mul]; rfl
  | k + 1 => by rw [rowG, List.length_append, rowG_len h k, h k, Nat.add_mul]; omega
theorem rowG_get {enc : Nat → List Value} {c : Nat} (h : ∀ i, (enc i).length = c) : ∀ k i j, i < k → j < c → (rowG enc k)[i * c + j]? = (enc i)[j]?
  | k + 1, i, j, hi, hj => by
    have hl := rowG_len h k
    by_cases e : i < k
    · have : i * c + j < k * c := by
        have : (i + 1) * c ≤ k * c := Nat.mul_le_mul_right _ e
        rw [Nat.add_mul] at this; omega
      rw [rowG, List.getElem?_append_left (by omega)]
      exact rowG_get h k i j e hj
    · obtain rfl : i = k := by omega
      rw [rowG, List.getElem?_append_right (by omega), hl]
      congr 1; omega
theorem rowG_congr {enc enc' : Nat → List Value} : ∀ {k : Nat}, (∀ i, i < k → enc i = enc' i) → rowG enc k = rowG enc' k
  | 0, _ => rfl
  | k + 1, e => by rw [rowG, rowG, rowG_congr (fun i hi => e i (by omega)), e k (by omega)]

/-- The cells of a row of the call's own. -/
theorem own_cells {w : World} {base T c N : Nat} {v : Value} {enc : Nat → List Value} (he : ∀ i, (enc i).length = c) (h : w.ownsRow base T c v N (rowG enc N)) :
    ∃ a k, v = .slice a N k ∧ N ≤ k ∧ (0 < N → ∃ g, a = some ⟨g, 0, none⟩ ∧ base ≤ g ∧ v.ownBlock = some g ∧ g < w.heap.size ∧ ∀ i j u, i < N → (enc i)[j]? = some u → w.cell? ⟨g, 0 + i * c + j, none⟩ = some u) := by
  obtain ⟨hl, h⟩ := h
  rcases h with ⟨rfl, h0⟩ | ⟨g, k, cur, rfl, hb, hg, hnc, _, hcs, ht⟩
  · have hN : N = 0 := by
      rw [rowG_len he] at hl
      have := h0
      rcases Nat.eq_zero_or_pos N with h | h
      · exact h
      · omega
    subst hN
    exact ⟨none, 0, rfl, Nat.le_refl _, fun hn => absurd hn (Nat.lt_irrefl _)⟩
  · refine ⟨_, k, rfl, hnc, fun _ => ⟨g, rfl, hb, rfl, (Array.getElem?_eq_some_iff.1 hg).1, fun i j u hi hj => ?_⟩⟩
    have hj' : j < c := by
      have := (List.getElem?_eq_some_iff.1 hj).1
      rw [he] at this; exact this
    have hlt : i * c + j < N * c := by
      have : (i + 1) * c ≤ N * c := Nat.mul_le_mul_right _ hi
      rw [Nat.add_mul] at this; omega
    have hx := rowG_get he N i j hi hj'
    rw [hj, ← ht, List.getElem?_take, if_pos hlt] at hx
    simp only [World.cell?, hg, Nat.zero_add]
    simpa using hx

def encB (f : Nat → PBy) (i : Nat) : List Value := [.int .i64 (f i).col, .bool (f i).desc]
def encC (f : Nat → PCol) (i : Nat) : List Value := [.string (f i).name, .int .i64 (f i).type, .bool (f i).null]
def encI (f : Nat → PIdx) (A C : Nat → Nat) (i : Nat) : List Value := [.string (f i).name, .bool (f i).uniq, .slice (some ⟨A i, 0, none⟩) (f i).n (C i)]
theorem bview_of_own {w : World} {base N : Nat} {v : Value} {f : Nat → PBy} (h : w.ownsRow base 70 2 v N (rowG (encB f) N)) : ∃ a k, v = .slice a N k ∧ BView w a N k f ∧ (0 < N → ∃ g, a = some ⟨g, 0, none⟩ ∧ base ≤ g ∧ v.ownBlock = some g) := by
  obtain ⟨a, k, e, hk, h1⟩ := own_cells (c := 2) (fun _ => rfl) h
  refine ⟨a, k, e, ⟨hk, fun hn => ?_⟩, fun hn => ?_⟩
  · obtain ⟨g, ea, -, -, hg, hc⟩ := h1 hn
    exact ⟨g, 0, ea, hg, fun i hi => ⟨by simpa using hc i 0 _ hi rfl, by simpa using hc i 1 _ hi rfl⟩⟩
  · obtain ⟨g, ea, hb, ho, -⟩ := h1 hn
    exact ⟨g, ea, hb, ho⟩
theorem cview_of_own {w : World} {base N : Nat} {v : Value} {f : Nat → PCol} (h : w.ownsRow base 67 3 v N (rowG (encC f) N)) : ∃ a k, v = .slice a N k ∧ CView w a N k f ∧ (0 < N → ∃ g, a = some ⟨g, 0, none⟩ ∧ base ≤ g ∧ v.ownBlock = some g) := by
  obtain ⟨a, k, e, hk, h1⟩ := own_cells (c := 3) (fun _ => rfl) h
  refine ⟨a, k, e, ⟨hk, fun hn => ?_⟩, fun hn => ?_⟩
  · obtain ⟨g, ea, -, -, hg, hc⟩ := h1 hn
    exact ⟨g, 0, ea, hg, fun i hi => ⟨by simpa using hc i 0 _ hi rfl, by simpa using hc i 1 _ hi rfl, by simpa using hc i 2 _ hi rfl⟩⟩
  · obtain ⟨g, ea, hb, ho, -⟩ := h1 hn
    exact ⟨g, ea, hb, ho⟩
theorem iview_of_own {w : World} {base N : Nat} {v : Value} {f : Nat → PIdx} {A C : Nat → Nat} (h : w.ownsRow base 73 3 v N (rowG (encI f A C) N)) (hp : ∀ i, i < N → BView w (some ⟨A i, 0, none⟩) (f i).n (C i) (f i).part) : ∃ a k, v = .slice a N k ∧ IView w a N k f ∧ (0 < N → ∃ g, a = some ⟨g, 0, none⟩ ∧ base ≤ g ∧ v.ownBlock = some g) := by
  obtain ⟨a, k, e, hk, h1⟩ := own_cells (c := 3) (fun _ => rfl) h
  refine ⟨a, k, e, ⟨hk, fun hn => ?_⟩, fun hn => ?_⟩
  · obtain ⟨g, ea, -, -, hg, hc⟩ := h1 hn
    exact ⟨g, 0, ea, hg, fun i hi => ⟨by simpa using hc i 0 _ hi rfl, by simpa using hc i 1 _ hi rfl, _, _, by simpa using hc i 2 _ hi rfl, hp i hi⟩⟩
  · obtain ⟨g, ea, hb, ho, -⟩ := h1 hn
    exact ⟨g, ea, hb, ho⟩
theorem alloc_size9 (W : World) (o : Obj) : (W.alloc o).heap.size = W.heap.size + 1 := by simp
end Go.Proofs.YtnpfgamlncfikaaGreatDoor

/-
  A cell of a row of the call's own is set.
-/
namespace Go.Proofs.YtnpfgamlncfikaaGreatDoor
open Go.RowKit
set_option maxRecDepth 4000

theorem own_setG {W : World} {base T c N b cap : Nat} {enc enc' : Nat → List Value} (he : ∀ i, (enc i).length = c) (he' : ∀ i, (enc' i).length = c) (h : W.ownsRow base T c (.slice (some ⟨b, 0, none⟩) N cap) N (rowG enc N)) {i j : Nat} {u : Value} (hi : i < N) (hj : j < c) (hn : (enc' i)[j]? = some u) (ho : ∀ i' j', i' ≠ i ∨ j' ≠ j → (enc' i')[j']? = (enc i')[j']?) :
    (W.setCell ⟨b, i * c + j, none⟩ u).ownsRow base T c (.slice (some ⟨b, 0, none⟩) N cap) N (rowG enc' N) := by
  refine ⟨rowG_len he' N, .inr ?_⟩
  rcases h.2 with ⟨e, _⟩ | ⟨g, k, cur, e, hb, hg, h1, h2, h3, h4⟩
  · cases e
  cases e
  refine ⟨b, cap, cur.setIfInBounds (i * c + j) u, rfl, hb, ?_, h1, h2, by simpa using h3, ?_⟩
  · simp [World.setCell, Array.getElem?_modify, hg]
  · have hc : 0 < c := by omega
    have hmul : N * c ≤ cap * c := Nat.mul_le_mul_right _ h1
    have hij : i * c + j < N * c := by
      have : (i + 1) * c ≤ N * c := Nat.mul_le_mul_right _ hi
      rw [Nat.add_mul] at this; omega
    refine List.ext_getElem? (fun q => ?_)
    by_cases hq : q < N * c
    · have hd : q = (q / c) * c + q % c := by rw [Nat.mul_comm]; exact (Nat.div_add_mod q c).symm
      have hqi : q / c < N := (Nat.div_lt_iff_lt_mul hc).2 hq
      have hqj : q % c < c := Nat.mod_lt _ hc
      rw [List.getElem?_take, if_pos hq]
      have e1 : (rowG enc' N)[q]? = (enc' (q / c))[q % c]? := by
        have := rowG_get he' N (q / c) (q % c) hqi hqj
        rw [← hd] at this; exact this
      have e2 : (rowG enc N)[q]? = (enc (q / c))[q % c]? := by
        have := rowG_get he N (q / c) (q % c) hqi hqj
        rw [← hd] at this; exact this
      rw [← h4, List.getElem?_take, if_pos hq] at e2
      rw [e1]
      by_cases hx : q = i * c + j
      · have e3 : q / c = i := by
          subst hx
          rw [Nat.mul_comm, Nat.mul_add_div hc, Nat.div_eq_of_lt hj]; omega
        have e4 : q % c = j := by
          subst hx
          rw [Nat.mul_comm, Nat.mul_add_mod, Nat.mod_eq_of_lt hj]
        rw [e3, e4, hn, hx, Array.getElem?_toList, Array.getElem?_setIfInBounds, if_pos rfl, if_pos (by omega)]
      · rw [ho (q / c) (q % c) (by
          by_cases e3 : q / c = i
          · right; intro e4; exact hx (by rw [hd, e3, e4])
          · exact .inl e3), ← e2]
        simp [Ne.symm hx]
    · rw [List.getElem?_eq_none (by simp; omega), List.getElem?_eq_none (by rw [rowG_len he']; omega)]
theorem own_fz9 {W : World} {base T c N b cap : Nat} {xs : List Value} (h : W.ownsRow base T c (.slice (some ⟨b, 0, none⟩) N cap) N xs) (q : Nat) : W.frozen? ⟨b, q, none⟩ = false := by
  rcases h.2 with ⟨e, _⟩ | ⟨g, k, cur, e, hb, hg, _⟩
  · cases e
  · cases e
    simp [World.frozen?, hg]
/-- Cells by the element and the place in it. -/
def encF (c : Nat) (F : Nat → Nat → Value) (i : Nat) : List Value := (List.range c).map (F i)
theorem encF_len (c : Nat) (F : Nat → Nat → Value) (i : Nat) : (encF c F i).length = c := by simp [encF]
theorem encF_at {c : Nat} {F : Nat → Nat → Value} {i j : Nat} (h : j < c) : (encF c F i)[j]? = some (F i j) := by simp [encF, h]
def setF (F : Nat → Nat → Value) (i j : Nat) (u : Value) : Nat → Nat → Value := fun a b => if a = i ∧ b = j then u else F a b
theorem own_setF {W : World} {base T c N b cap : Nat} {F : Nat → Nat → Value} (h : W.ownsRow base T c (.slice (some ⟨b, 0, none⟩) N cap) N (rowG (encF c F) N)) {i j : Nat} (u : Value) (hi : i < N) (hj : j < c) :
    (W.setCell ⟨b, i * c + j, none⟩ u).ownsRow base T c (.slice (some ⟨b, 0, none⟩) N cap) N (rowG (encF c (setF F i j u)) N) := by
  refine own_setG (encF_len c F) (encF_len c _) h hi hj ?_ (fun i' j' hne => ?_)
  · rw [encF_at hj]; simp [setF]
  · by_cases e : j' < c
    · rw [encF_at e, encF_at e]
      have : ¬ (i' = i ∧ j' = j) := by omega
      simp [setF, this]
    · rw [List.getElem?_eq_none (by rw [encF_len]; omega), List.getElem?_eq_none (by rw [encF_len]; omega)]
theorem own_cellF {W : World} {base T c N b cap : Nat} {F : Nat → Nat → Value} (h : W.ownsRow base T c (.slice (some ⟨b, 0, none⟩) N cap) N (rowG (encF c F) N)) {i j : Nat} (hi : i < N) (hj : j < c) : W.cell? ⟨b, i * c + j, none⟩ = some (F i j) := by
  obtain ⟨a, k, e, -, h1⟩ := own_cells (encF_len c F) h
  cases e
  obtain ⟨g, ea, -, -, -, hc⟩ := h1 (by omega)
  cases ea
  have := hc i j _ hi (encF_at hj)
  simpa using this
theorem own_congrF {W : World} {base T c N : Nat} {v : Value} {F G : Nat → Nat → Value} (h : W.ownsRow base T c v N (rowG (encF c F) N)) (e : ∀ i j, i < N → j < c → F i j = G i j) : W.ownsRow base T c v N (rowG (encF c G) N) := by
  have : rowG (encF c F) N = rowG (encF c G) N := rowG_congr (fun i hi => by
    unfold encF
    exact List.map_congr_left (fun j hj => e i j hi (List.mem_range.1 hj)))
  rw [← this]; exact h
theorem own_eqF {W : World} {base T c N : Nat} {v : Value} {enc : Nat → List Value} {F : Nat → Nat → Value} (e : ∀ i, i < N → enc i = encF c F i) : W.ownsRow base T c v N (rowG enc N) ↔ W.ownsRow base T c v N (rowG (encF c F) N) := by
  rw [rowG_congr e]
theorem own_blkne {W : World} {base T c N b cap : Nat} {xs : List Value} (h : W.ownsRow base T c (.slice (some ⟨b, 0, none⟩) N cap) N xs) : b < W.heap.size := by
  rcases h.2 with ⟨e, _⟩ | ⟨g, k, cur, e, hb, hg, _⟩
  · cases e
  · cases e; exact (Array.getElem?_eq_some_iff.1 hg).1
end Go.Proofs.YtnpfgamlncfikaaGreatDoor

/-
  Bytes as a string: what 'string(b)' comes to at a slice of bytes that reads.
-/
namespace Go.Proofs.YtnpfgamlncfikaaGreatDoor
open Go.RowKit
set_option maxRecDepth 4000

theorem conv_view {w : World} {b off n cap : Nat} {f : Nat → Int} (hv : View w (some ⟨b, off, none⟩) n cap f) :
    (convert 22 9 (.slice (some ⟨b, off, none⟩) n cap)).run Tryz.prog w = .ok (.string (strOfNums (lof n f))) w := by
  refine run_convert_bytes_arg w 22 5 Tryz.underlying22 Tryz.underlying5 b off n cap (lof n f) (lof_len n f) ?_ 9 Tryz.underlying9
  intro i hi
  obtain ⟨b', off', e, _, hc⟩ := hv.cells (by omega)
  simp only [Option.some.injEq, Addr.mk.injEq, and_true] at e
  obtain ⟨rfl, rfl⟩ := e
  rw [hc i hi, lof_get n f i hi]

theorem strOfNums_inj {xs ys : List Int} (hx : ∀ y ∈ xs, 0 ≤ y ∧ y ≤ 255) (hy : ∀ y ∈ ys, 0 ≤ y ∧ y ≤ 255) (h : strOfNums xs = strOfNums ys) : xs = ys := by
  have h1 : xs.map (fun n => UInt8.ofNat n.toNat) = ys.map (fun n => UInt8.ofNat n.toNat) := by
    rw [← strOfNums_data, ← strOfNums_data, h]
  have key : ∀ a b : Int, 0 ≤ a ∧ a ≤ 255 → 0 ≤ b ∧ b ≤ 255 → UInt8.ofNat a.toNat = UInt8.ofNat b.toNat → a = b := by
    intro a b ha hb e
    have := congrArg UInt8.toNat e
    simp at this
    omega
  clear h
  induction xs generalizing ys with
  | nil => cases ys with
    | nil => rfl
    | cons y ys => simp at h1
  | cons x xs ih => cases ys with
    | nil => simp at h1
    | cons y ys =>
      simp only [List.map_cons, List.cons.injEq] at h1
      rw [key x y (hx x (by simp)) (hy y (by simp)) h1.1, ih (fun z hz => hx z (by simp [hz])) (fun z hz => hy z (by simp [hz])) h1.2]

end Go.Proofs.YtnpfgamlncfikaaGreatDoor

/-
  What the law's own helper markText comes to: a text that hangs on the count alone.
-/
namespace Go.Proofs.YtnpfgamlncfikaaGreatDoor
open Go.RowKit
set_option maxRecDepth 4000

theorem Row.litOne (w : World) (t : TypeId) (h : Int) : Row t (w.alloc (.cells #[.int .u8 h] t)) w.heap.size 1 (fun _ => h) :=
  Row.ofIs (World.rowIs_alloc w #[.int .u8 h] t (fun _ => .int .u8 h) (fun j hj => by match j, hj with | 0, _ => rfl))

/-- The digits of a number ahead of a text. -/
def digT (k : Nat) (acc : ByteArray) : ByteArray := if _h : k = 0 then acc else digT (k / 10) (strOfNums [48 + ((k % 10 : Nat) : Int)] ++ acc)
  termination_by k
  decreasing_by omega
def markT (k : Int) : ByteArray := if k ≤ 0 then ⟨#[109, 48]⟩ else (⟨#[109]⟩ : ByteArray) ++ digT k.toNat ⟨#[]⟩

set_option maxHeartbeats 1000000 in
theorem markText_any (k : Int) (w : World) (hk1 : k ≤ 4611686018427387904) :
    Calls Tryz.prog 50 #[.int .i64 k] w fun e w' => e = .returned (.string (markT k)) ∧ Below w.heap.size w w' := by
  by_cases h0 : k ≤ 0
  · have e : markT k = ⟨#[109, 48]⟩ := by unfold markT; rw [if_pos h0]
    rw [e]
    go_enter Tryz.func50, Tryz.ntmps50
    go_wp2
    go_ret
    exact ⟨rfl, Below.refl _ _⟩
  obtain ⟨m, rfl⟩ : ∃ m : Nat, k = m := ⟨k.toNat, by omega⟩
  have HM : Hid (markT (m : Int) = (⟨#[109]⟩ : ByteArray) ++ digT m ⟨#[]⟩) := by show _ = _; unfold markT; rw [if_neg h0]; rfl
  go_enter Tryz.func50, Tryz.ntmps50
  go_wp2
  go_loopg [0, 3] m (fun q kv s wr => ∃ (j : Nat) (acc : ByteArray), j ≤ m ∧ j = q ∧ kv = .int .i64 j ∧ s = .string acc ∧ digT j acc = digT m ⟨#[]⟩ ∧ acc.size + j ≤ m ∧ Below w.heap.size w wr)
  case atStart => exact ⟨m, _, Nat.le_refl _, rfl, rfl, rfl, rfl, by show 0 + m ≤ m; omega, Below.refl _ _⟩
  case round =>
    obtain ⟨j, acc, hj, hq, rfl, rfl, hd, hsz, hB⟩ := hrel
    subst hq
    have HD : Hid (digT j acc = digT m ⟨#[]⟩) := hd
    clear hd
    by_cases hz : j = 0
    · subst hz
      have HF : Hid (digT m ⟨#[]⟩ = acc) := by show _ = _; rw [← HD.out]; unfold digT; simp
      have hs1 : (⟨#[109]⟩ : ByteArray).size = 1 := rfl
      have hs2 : ¬ (1 + acc.size > 9223372036854775807) := by omega
      go_wp2
      go_ret
      exact ⟨by rw [HM.out, HF.out]; rfl, hB⟩
    · have hjz : (0 : Int) < (j : Int) := by omega
      obtain ⟨r, hr⟩ : ∃ r : Nat, Hid (j % 10 = r) := ⟨_, rfl⟩
      obtain ⟨d, hd⟩ : ∃ d : Nat, Hid (j / 10 = d) := ⟨_, rfl⟩
      have hr9 : r ≤ 9 := by have := hr.out; omega
      have hdj : d < j := by have := hd.out; omega
      have HN : Hid (digT d (strOfNums [48 + (r : Int)] ++ acc) = digT m ⟨#[]⟩) := by
        show _ = _
        rw [← HD.out]
        conv => rhs; unfold digT
        rw [dif_neg hz, hr.out, hd.out]
      have h1 : Int.tmod (j : Int) 10 = (r : Int) := by rw [← hr.out]; rfl
      have h2 : Int.tdiv (j : Int) 10 = (d : Int) := by rw [← hd.out]; rfl
      have h3 : IntKind.u8.wrap (48 + (r : Int)) = 48 + (r : Int) := by rw [u8_wrap]; omega
      have hcv := conv_view ((Row.litOne wr 5 (48 + (r : Int))).view (cap := 1) (Nat.le_refl _) (fun _ _ => ⟨by omega, by omega⟩))
      rw [show lof 1 (fun _ => 48 + (r : Int)) = [48 + (r : Int)] by simp [lof]] at hcv
      have hB2 : Below w.heap.size w (wr.alloc (.cells #[.int .u8 (48 + (r : Int))] 5)) := hB.alloc hB.size _
      have hs1 : (strOfNums [48 + (r : Int)]).size = 1 := by simp [strOfNums, ByteArray.size]
      have hs2 : ¬ (1 + acc.size > 9223372036854775807) := by omega
      have HZ : Hid ((strOfNums [48 + (r : Int)] ++ acc).size + d ≤ m) := by show _ ≤ _; rw [ByteArray.size_append, hs1]; omega
      clear HD
      go_wp2
      go_roundg d
      case measure => omega
      case rel => exact ⟨d, _, by omega, rfl, by go_num, rfl, HN.out, HZ.out, hB2⟩
end Go.Proofs.YtnpfgamlncfikaaGreatDoor

