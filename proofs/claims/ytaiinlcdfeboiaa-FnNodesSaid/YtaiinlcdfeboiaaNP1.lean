/-
  Together: Base, NodePlain, OView, NodeView, Row34, Plain, PutPlain, Info, Draw, But, DrawBut, CurKit, NodeKit
-/
import Derived.WalkKit
import Derived.Deep.OwnRows
import Derived.Deep.LoopGhost
import Derived.OpenShut
import Derived.Test.YtaiinlcdfeboiaaProg
import Derived.Laws.BitsAllLaws
import Derived.Laws.Bits128
import Derived.Test.YtaiinlcdfeboiaaChecked
import Derived.WalkSpells
/-
  What a walk over bytes is told of a slice of bytes that it reads ('View'), and how that is carried from one world to the next. No program text is named here.
-/
namespace Go.Proofs.Ytaiinlcdfeboiaa
open Go.RowKit
set_option maxRecDepth 4000

/-- The slice value '.slice ao n cap' reads, in the world w, as the n bytes f 0 up to f (n - 1). -/
structure View (w : World) (ao : Option Addr) (n cap : Nat) (f : Nat → Int) : Prop where
  le : n ≤ cap
  byte : ∀ i, i < n → 0 ≤ f i ∧ f i ≤ 255
  cells : 0 < n → ∃ b off, ao = some ⟨b, off, none⟩ ∧ b < w.heap.size ∧ ∀ i, i < n → w.cell? ⟨b, off + i, none⟩ = some (.int .u8 (f i))

/-- What was there reads as it did. -/
theorem View.below {w w' : World} {ao : Option Addr} {n cap : Nat} {f : Nat → Int} (h : View w ao n cap f) (hb : Below w.heap.size w w') : View w' ao n cap f := by
  refine ⟨h.le, h.byte, fun hn => ?_⟩
  obtain ⟨b, off, e, hlt, hc⟩ := h.cells hn
  exact ⟨b, off, e, Nat.lt_of_lt_of_le hlt hb.size, fun i hi => by rw [hb.cell (p := ⟨b, off + i, none⟩) hlt]; exact hc i hi⟩

theorem View.drew {w : World} {ao : Option Addr} {n cap : Nat} {f : Nat → Int} (h : View w ao n cap f) : View w.drew ao n cap f := h.below (Below.refl _ _).drew

theorem View.take {w : World} {ao : Option Addr} {n cap m : Nat} {f : Nat → Int} (h : View w ao n cap f) (hm : m ≤ n) : View w ao m cap f := by
  refine ⟨Nat.le_trans hm h.le, fun i hi => h.byte i (by omega), fun h0 => ?_⟩
  obtain ⟨b, off, e, hb, hc⟩ := h.cells (by omega)
  exact ⟨b, off, e, hb, fun i hi => hc i (by omega)⟩

theorem View.congr {w : World} {ao : Option Addr} {n cap : Nat} {f g : Nat → Int} (h : View w ao n cap f) (e : ∀ i, i < n → f i = g i) : View w ao n cap g := by
  refine ⟨h.le, fun i hi => by rw [← e i hi]; exact h.byte i hi, fun hn => ?_⟩
  obtain ⟨b, off, ea, hlt, hc⟩ := h.cells hn
  exact ⟨b, off, ea, hlt, fun i hi => by rw [← e i hi]; exact hc i hi⟩

/-- What the frame of a row hands over of a slice of bytes that came in, as a view. -/
theorem View.ofIn {w : World} {a : Option Addr} {len cap : Nat} {zs : List Int}
    (h : (a = none ∧ len = 0 ∧ cap = 0 ∧ zs = []) ∨ ∃ x, a = some x ∧ len ≤ cap ∧ cap ≤ maxLen ∧ zs.length = cap ∧ (∀ i, i < zs.length → w.cell? (x.add i) = some (.int .u8 (zs.getD i 0))) ∧ ∀ n ∈ zs, (Lit.int .u8 n).wf = true) :
    View w a len cap (fun i => zs.getD i 0) := by
  rcases h with ⟨rfl, rfl, rfl, rfl⟩ | ⟨x, rfl, hl, _, hz, hc, hw⟩
  · exact ⟨Nat.le_refl _, fun i hi => absurd hi (Nat.not_lt_zero _), fun h => absurd h (Nat.lt_irrefl _)⟩
  · refine ⟨hl, fun i _ => by simpa using range_u8 hw i, fun hn => ?_⟩
    obtain ⟨b, off, spot⟩ := x
    have h0 := hc 0 (by omega)
    have hs : spot = none := by simpa [Addr.add] using World.cell?_spot h0
    subst hs
    refine ⟨b, off, rfl, ?_, fun i hi => ?_⟩
    · exact World.block_lt_of_cell? _ _ h0
    · have h1 := hc i (by omega)
      have e : (⟨b, off, none⟩ : Addr).add i = ⟨b, off + i, none⟩ := by unfold Addr.add; split <;> simp_all
      rw [e] at h1
      exact h1

theorem lenOfIn {w : World} {a : Option Addr} {len cap : Nat} {zs : List Int}
    (h : (a = none ∧ len = 0 ∧ cap = 0 ∧ zs = []) ∨ ∃ x, a = some x ∧ len ≤ cap ∧ cap ≤ maxLen ∧ zs.length = cap ∧ (∀ i, i < zs.length → w.cell? (x.add i) = some (.int .u8 (zs.getD i 0))) ∧ ∀ n ∈ zs, (Lit.int .u8 n).wf = true) : len ≤ 9223372036854775807 := by
  rcases h with ⟨_, rfl, _, _⟩ | ⟨_, _, h1, h2, _⟩
  · exact Nat.zero_le _
  · unfold maxLen at h2; omega

/-- A row of the call's own reads as what it holds. -/
theorem View.ofRow {w : World} {b : Nat} {t : TypeId} {m n cap : Nat} {f : Nat → Int} (h : w.rowIs b t m (fun i => .int .u8 (f i))) (hn : n ≤ m) (hc : n ≤ cap) (hb : ∀ i, i < n → 0 ≤ f i ∧ f i ≤ 255) : View w (some ⟨b, 0, none⟩) n cap f :=
  ⟨hc, hb, fun _ => ⟨b, 0, rfl, h.lt, fun i hi => by rw [Nat.zero_add]; exact h.cell (by omega)⟩⟩

theorem rowBelow {w w' : World} {b : Nat} {t : TypeId} {n : Nat} {f : Nat → Value} {B : Nat} (h : w.rowIs b t n f) (hb : Below B w w') (hlt : b < B) : w'.rowIs b t n f := h.of_block (hb.block b hlt)

/-- Block b is a row of bytes of the call's own, none frozen, whose first n are f 0 up to f (n - 1) (t: the number of the bytes' type). -/
def Row (t : TypeId) (w : World) (b n : Nat) (f : Nat → Int) : Prop :=
  ∃ c : Array Value, w.heap[b]? = some (.cells c t (0, 0)) ∧ n ≤ c.size ∧ ∀ i, i < n → c[i]? = some (.int .u8 (f i))

namespace Row
variable {t : TypeId} {w w' : World} {b n : Nat} {f g : Nat → Int}
theorem cell (h : Row t w b n f) {i : Nat} (hi : i < n) : w.cell? ⟨b, i, none⟩ = some (.int .u8 (f i)) := by
  obtain ⟨c, hb, _, hc⟩ := h
  simp [World.cell?, hb, hc i hi]
theorem frozen (h : Row t w b n f) (i : Nat) : w.frozen? ⟨b, i, none⟩ = false := by
  obtain ⟨c, hb, _, _⟩ := h
  simp [World.frozen?, hb]
theorem lt (h : Row t w b n f) : b < w.heap.size := by
  obtain ⟨c, hb, _, _⟩ := h
  exact (Array.getElem?_eq_some_iff.1 hb).1
theorem congr (h : Row t w b n f) (e : ∀ i, i < n → f i = g i) : Row t w b n g := by
  obtain ⟨c, hb, hn, hc⟩ := h
  exact ⟨c, hb, hn, fun i hi => by rw [hc i hi, e i hi]⟩
theorem of_block (h : Row t w b n f) (e : w'.heap[b]? = w.heap[b]?) : Row t w' b n f := by
  obtain ⟨c, hb, hn, hc⟩ := h
  exact ⟨c, e.trans hb, hn, hc⟩
theorem below {B : Nat} (h : Row t w b n f) (hb : Below B w w') (hlt : b < B) : Row t w' b n f := h.of_block (hb.block b hlt)
theorem belowAll (h : Row t w b n f) (hb : Below w.heap.size w w') : Row t w' b n f := h.below hb h.lt
theorem ofIs (h : w.rowIs b t n (fun i => .int .u8 (f i))) : Row t w b n f := by
  obtain ⟨c, hb, hn, hc⟩ := h
  exact ⟨c, hb, by omega, hc⟩
theorem set (h : Row t w b n f) (i : Nat) (x : Int) : Row t (w.setCell ⟨b, i, none⟩ (.int .u8 x)) b n (fun j => if j = i then x else f j) := by
  obtain ⟨c, hb, hn, hc⟩ := h
  refine ⟨c.setIfInBounds i (.int .u8 x), ?_, by simpa using hn, fun j hj => ?_⟩
  · simp [World.setCell, Array.getElem?_modify, hb]
  · rw [Array.getElem?_setIfInBounds]
    by_cases e : j = i
    · subst e
      have : j < c.size := by omega
      simp [this]
    · rw [if_neg (fun h => e h.symm)]
      show c[j]? = some (.int .u8 (if j = i then x else f j))
      rw [if_neg e]
      exact hc j hj
theorem view {cap : Nat} (h : Row t w b n f) (hc : n ≤ cap) (hb : ∀ i, i < n → 0 ≤ f i ∧ f i ≤ 255) : View w (some ⟨b, 0, none⟩) n cap f :=
  ⟨hc, hb, fun _ => ⟨b, 0, rfl, h.lt, fun i hi => by rw [Nat.zero_add]; exact h.cell hi⟩⟩
end Row

/-- Block b alone may have turned; no block has come or gone. -/
structure Only (b : Nat) (w w' : World) : Prop where
  os : w'.os = w.os
  tape : w'.tape = w.tape
  output : w'.output = w.output
  size : w'.heap.size = w.heap.size
  block : ∀ k, k ≠ b → w'.heap[k]? = w.heap[k]?

theorem Only.refl (b : Nat) (w : World) : Only b w w := ⟨rfl, rfl, rfl, rfl, fun _ _ => rfl⟩
theorem Only.drew {b : Nat} {w w' : World} (h : Only b w w') : Only b w w'.drew := ⟨h.os, h.tape, h.output, h.size, h.block⟩
theorem Only.setCell {b i : Nat} {w w' : World} (h : Only b w w') (u : Value) : Only b w (w'.setCell ⟨b, i, none⟩ u) :=
  ⟨h.os, h.tape, h.output, by simpa using h.size, fun k hk => by rw [Below.heap_setCell _ _ _ _ (by exact hk)]; exact h.block k hk⟩
theorem Only.below {b B : Nat} {w w' : World} (h : Only b w w') (hB : B ≤ b) : Below B w w' :=
  ⟨h.os, h.tape, h.output, by rw [h.size]; exact Nat.le_refl _, fun k hk => h.block k (by omega)⟩
theorem Only.row {t : TypeId} {b b' n : Nat} {f : Nat → Int} {w w' : World} (h : Only b w w') (hr : Row t w b' n f) (hne : b' ≠ b) : Row t w' b' n f := hr.of_block (h.block b' hne)
theorem Only.view {b : Nat} {ao : Option Addr} {n cap : Nat} {f : Nat → Int} {w w' : World} (h : Only b w w') (hv : View w ao n cap f) (hne : ∀ a, ao = some a → a.block ≠ b) : View w' ao n cap f := by
  refine ⟨hv.le, hv.byte, fun hn => ?_⟩
  obtain ⟨b', off, e, hlt, hc⟩ := hv.cells hn
  refine ⟨b', off, e, by rw [h.size]; exact hlt, fun i hi => ?_⟩
  rw [World.cell?_of_block (w := w) (h.block b' (hne _ e))]
  exact hc i hi

end Go.Proofs.Ytaiinlcdfeboiaa

/-
  Nodes, plainly.
-/
namespace Go.Proofs.Ytaiinlcdfeboiaa
open Go.RowKit
set_option maxRecDepth 4000

/-- A node: whether it is a leaf, its keys, values and kids (how many, and each by its place). -/
structure PNode where
  leaf : Bool
  nk : Nat
  key : Nat → ByteArray
  nv : Nat
  val : Nat → ByteArray
  nd : Nat
  kid : Nat → Int
/-- Texts of which there are as many, each the same. -/
def sameTx (n : Nat) (f : Nat → ByteArray) (m : Nat) (g : Nat → ByteArray) : Bool := decide (n = m ∧ ∀ i, i < n → f i = g i)
def sameNu (n : Nat) (f : Nat → Int) (m : Nat) (g : Nat → Int) : Bool := decide (n = m ∧ ∀ i, i < n → f i = g i)
def sameNd (D E : PNode) : Bool := D.leaf == E.leaf && sameTx D.nk D.key E.nk E.key && sameTx D.nv D.val E.nv E.val && sameNu D.nd D.kid E.nd E.kid
theorem sameTx_yes {n : Nat} {f g : Nat → ByteArray} (h : ∀ i, i < n → f i = g i) : sameTx n f n g = true := by simp [sameTx]; exact h
theorem sameTx_len {n m : Nat} {f g : Nat → ByteArray} (h : n ≠ m) : sameTx n f m g = false := by simp [sameTx, h]
theorem sameTx_at {n k : Nat} {f g : Nat → ByteArray} (hk : k < n) (h : f k ≠ g k) : sameTx n f n g = false := by
  simp [sameTx]; exact ⟨k, hk, h⟩
theorem sameNu_yes {n : Nat} {f g : Nat → Int} (h : ∀ i, i < n → f i = g i) : sameNu n f n g = true := by simp [sameNu]; exact h
theorem sameNu_len {n m : Nat} {f g : Nat → Int} (h : n ≠ m) : sameNu n f m g = false := by simp [sameNu, h]
theorem sameNu_at {n k : Nat} {f g : Nat → Int} (hk : k < n) (h : f k ≠ g k) : sameNu n f n g = false := by
  simp [sameNu]; exact ⟨k, hk, h⟩
end Go.Proofs.Ytaiinlcdfeboiaa

/-
  Rows of one cell each that read, texts and numbers.
-/
namespace Go.Proofs.Ytaiinlcdfeboiaa
open Go.RowKit
set_option maxRecDepth 4000

/-- The slice value '.slice ao n cap' reads as the n values f 0 up to f (n - 1), of one cell each. -/
structure OV (w : World) (ao : Option Addr) (n cap : Nat) (f : Nat → Value) : Prop where
  le : n ≤ cap
  cells : 0 < n → ∃ b off, ao = some ⟨b, off, none⟩ ∧ b < w.heap.size ∧ ∀ i, i < n → w.cell? ⟨b, off + i, none⟩ = some (f i)
theorem OV.below {w w' : World} {ao : Option Addr} {n cap : Nat} {f : Nat → Value} (h : OV w ao n cap f) (hb : Below w.heap.size w w') : OV w' ao n cap f := by
  refine ⟨h.le, fun hn => ?_⟩
  obtain ⟨b, off, e, hlt, hc⟩ := h.cells hn
  refine ⟨b, off, e, Nat.lt_of_lt_of_le hlt hb.size, fun i hi => ?_⟩
  rw [hb.cell (p := ⟨b, off + i, none⟩) hlt]
  exact hc i hi
theorem OV.set {w : World} {a n c B : Nat} {f : Nat → Value} (h : OV w (some ⟨a, 0, none⟩) n c f) (hne : a ≠ B) (i : Nat) (u : Value) : OV (w.setCell ⟨B, i, none⟩ u) (some ⟨a, 0, none⟩) n c f := by
  refine ⟨h.le, fun hn => ?_⟩
  obtain ⟨b, off, e, hlt, hc⟩ := h.cells hn
  have hba : b = a := by cases e; rfl
  refine ⟨b, off, e, by simpa using hlt, fun j hj => ?_⟩
  rw [World.cell?_of_block (w := w) (a := ⟨b, off + j, none⟩) (Below.heap_setCell _ _ _ _ (by rw [hba]; exact hne))]
  exact hc j hj
theorem OV.ofIs {w : World} {b : Nat} {t : TypeId} {n cap : Nat} {f : Nat → Value} (h : w.rowIs b t n f) (hc : n ≤ cap) : OV w (some ⟨b, 0, none⟩) n cap f :=
  ⟨hc, fun _ => ⟨b, 0, rfl, h.lt, fun i hi => by rw [Nat.zero_add]; exact h.cell hi⟩⟩
abbrev TxV (w : World) (ao : Option Addr) (n cap : Nat) (f : Nat → ByteArray) : Prop := OV w ao n cap (fun i => .string (f i))
abbrev NuV (w : World) (ao : Option Addr) (n cap : Nat) (f : Nat → Int) : Prop := OV w ao n cap (fun i => .int .i64 (f i))
theorem txv_at {w : World} {ao : Option Addr} {n cap : Nat} {f : Nat → ByteArray} (h : TxV w ao n cap f) {k : Nat} (hk : k < n) : ∃ b off, ao = some ⟨b, off, none⟩ ∧ b < w.heap.size ∧ w.cell? ⟨b, off + k, none⟩ = some (.string (f k)) := by
  obtain ⟨b, off, e, hlt, hc⟩ := h.cells (by omega)
  exact ⟨b, off, e, hlt, hc k hk⟩
theorem nuv_at {w : World} {ao : Option Addr} {n cap : Nat} {f : Nat → Int} (h : NuV w ao n cap f) {k : Nat} (hk : k < n) : ∃ b off, ao = some ⟨b, off, none⟩ ∧ b < w.heap.size ∧ w.cell? ⟨b, off + k, none⟩ = some (.int .i64 (f k)) := by
  obtain ⟨b, off, e, hlt, hc⟩ := h.cells (by omega)
  exact ⟨b, off, e, hlt, hc k hk⟩
end Go.Proofs.Ytaiinlcdfeboiaa

/-
  A node that reads; how that is carried from one world to the next.
-/
namespace Go.Proofs.Ytaiinlcdfeboiaa
open Go.RowKit
set_option maxRecDepth 4000

/-- A node's value. -/
structure NdView (w : World) (v : Value) (D : PNode) : Prop where
  is : ∃ ac cc ap cp ai ci, v = .agg #[.bool D.leaf, .slice ac D.nk cc, .slice ap D.nv cp, .slice ai D.nd ci] ∧ TxV w ac D.nk cc D.key ∧ TxV w ap D.nv cp D.val ∧ NuV w ai D.nd ci D.kid
theorem NdView.below {w w' : World} {v : Value} {D : PNode} (h : NdView w v D) (hb : Below w.heap.size w w') : NdView w' v D := by
  obtain ⟨ac, cc, ap, cp, ai, ci, e, h1, h2, h3⟩ := h.is
  exact ⟨ac, cc, ap, cp, ai, ci, e, h1.below hb, h2.below hb, h3.below hb⟩
/-- Rows that a machine can have. -/
structure NLim (D : PNode) : Prop where
  nk : D.nk ≤ maxLen
  key : ∀ i, i < D.nk → (D.key i).size ≤ maxLen
  nv : D.nv ≤ maxLen
  val : ∀ i, i < D.nv → (D.val i).size ≤ maxLen
  nd : D.nd ≤ maxLen
  kid : ∀ i, i < D.nd → -9223372036854775808 ≤ D.kid i ∧ D.kid i ≤ 9223372036854775807
/-- Nothing is great. -/
structure NFine (D : PNode) : Prop where
  nk : D.nk ≤ 1048576
  key : ∀ i, i < D.nk → (D.key i).size ≤ 1048576
  nv : D.nv ≤ 1048576
  val : ∀ i, i < D.nv → (D.val i).size ≤ 1048576
  nd : D.nd ≤ 1048576
  kid : ∀ i, i < D.nd → -9223372036854775808 ≤ D.kid i ∧ D.kid i ≤ 9223372036854775807
/-- What was put into a variable of four cells is there while nothing of it is written. -/
theorem nbox4 {w wr : World} {T : TypeId} {x0 x1 x2 x3 : Value} (h : Below (w.heap.size + 1) (w.alloc (.cells #[x0, x1, x2, x3] T)) wr) :
    wr.cell? ⟨w.heap.size, 0, none⟩ = some x0 ∧ wr.cell? ⟨w.heap.size, 1, none⟩ = some x1 ∧ wr.cell? ⟨w.heap.size, 2, none⟩ = some x2 ∧ wr.cell? ⟨w.heap.size, 3, none⟩ = some x3 := by
  refine ⟨?_, ?_, ?_, ?_⟩
  all_goals (rw [h.cell (by simp)]; simp [go_sem])
theorem nbox_below {w wr : World} {o : Obj} (h : Below (w.heap.size + 1) (w.alloc o) wr) : Below w.heap.size w wr ∧ w.heap.size + 1 ≤ wr.heap.size := by
  refine ⟨((Below.refl _ _).alloc (Nat.le_refl _) _).trans (h.mono (by simp)), ?_⟩
  have := h.size
  simpa using this
theorem nbox_start (w : World) (o : Obj) : Below (w.heap.size + 1) (w.alloc o) (w.alloc o) := Below.refl _ _
theorem nbox_on {w wr w' : World} {o : Obj} (h : Below (w.heap.size + 1) (w.alloc o) wr) (h' : Below wr.heap.size wr w') : Below (w.heap.size + 1) (w.alloc o) w' := h.trans (h'.mono (nbox_below h).2)
theorem nbool_ne {a b : Bool} (h : ¬ a = b) : b = !a := by cases a <;> cases b <;> simp at h <;> rfl
/-- Two variables of four cells, one behind the other. -/
theorem nbox44 {w wr : World} {T U : TypeId} {x0 x1 x2 x3 y0 y1 y2 y3 : Value} (h : Below (w.heap.size + 1 + 1) ((w.alloc (.cells #[x0, x1, x2, x3] T)).alloc (.cells #[y0, y1, y2, y3] U)) wr) :
    (wr.cell? ⟨w.heap.size, 0, none⟩ = some x0 ∧ wr.cell? ⟨w.heap.size, 1, none⟩ = some x1 ∧ wr.cell? ⟨w.heap.size, 2, none⟩ = some x2 ∧ wr.cell? ⟨w.heap.size, 3, none⟩ = some x3)
    ∧ (wr.cell? ⟨w.heap.size + 1, 0, none⟩ = some y0 ∧ wr.cell? ⟨w.heap.size + 1, 1, none⟩ = some y1 ∧ wr.cell? ⟨w.heap.size + 1, 2, none⟩ = some y2 ∧ wr.cell? ⟨w.heap.size + 1, 3, none⟩ = some y3) := by
  refine ⟨⟨?_, ?_, ?_, ?_⟩, ?_, ?_, ?_, ?_⟩
  all_goals (rw [h.cell (by first | (simp; done) | (simp; omega))]; simp [go_sem])
theorem nbox44_below {w wr : World} {o p : Obj} (h : Below (w.heap.size + 1 + 1) ((w.alloc o).alloc p) wr) : Below w.heap.size w wr ∧ w.heap.size + 2 ≤ wr.heap.size := by
  refine ⟨(((Below.refl _ _).alloc (Nat.le_refl _) _).alloc (by simp) _).trans (h.mono (by omega)), ?_⟩
  have := h.size
  simpa using this
theorem nbox44_on {w wr w' : World} {o p : Obj} (h : Below (w.heap.size + 1 + 1) ((w.alloc o).alloc p) wr) (h' : Below wr.heap.size wr w') : Below (w.heap.size + 1 + 1) ((w.alloc o).alloc p) w' := h.trans (h'.mono (nbox44_below h).2)
end Go.Proofs.Ytaiinlcdfeboiaa

/-
  Variables of three and of four cells, as rows.
-/
namespace Go.Proofs.Ytaiinlcdfeboiaa
open Go.RowKit
set_option maxRecDepth 4000

def cell3 (x0 x1 x2 : Value) : Nat → Value
  | 0 => x0
  | 1 => x1
  | _ => x2
def cell4 (x0 x1 x2 x3 : Value) : Nat → Value
  | 0 => x0
  | 1 => x1
  | 2 => x2
  | _ => x3
/-- A variable of three cells. -/
def V3 (w : World) (B : Nat) (T : TypeId) (x0 x1 x2 : Value) : Prop := w.rowIs B T 3 (cell3 x0 x1 x2)
/-- A variable of four cells. -/
def V4 (w : World) (B : Nat) (T : TypeId) (x0 x1 x2 x3 : Value) : Prop := w.rowIs B T 4 (cell4 x0 x1 x2 x3)
theorem V3.new (w : World) (T : TypeId) (x0 x1 x2 : Value) : V3 (w.alloc (.cells #[x0, x1, x2] T)) w.heap.size T x0 x1 x2 :=
  World.rowIs_alloc w _ T (cell3 x0 x1 x2) (fun j hj => by match j, hj with | 0, _ => rfl | 1, _ => rfl | 2, _ => rfl)
theorem V4.new (w : World) (T : TypeId) (x0 x1 x2 x3 : Value) : V4 (w.alloc (.cells #[x0, x1, x2, x3] T)) w.heap.size T x0 x1 x2 x3 :=
  World.rowIs_alloc w _ T (cell4 x0 x1 x2 x3) (fun j hj => by match j, hj with | 0, _ => rfl | 1, _ => rfl | 2, _ => rfl | 3, _ => rfl)
theorem V3.lt {w : World} {B : Nat} {T : TypeId} {x0 x1 x2 : Value} (h : V3 w B T x0 x1 x2) : B < w.heap.size := World.rowIs.lt h
theorem V4.lt {w : World} {B : Nat} {T : TypeId} {x0 x1 x2 x3 : Value} (h : V4 w B T x0 x1 x2 x3) : B < w.heap.size := World.rowIs.lt h
theorem V3.block {w w' : World} {B : Nat} {T : TypeId} {x0 x1 x2 : Value} (h : V3 w B T x0 x1 x2) (e : w'.heap[B]? = w.heap[B]?) : V3 w' B T x0 x1 x2 := World.rowIs.of_block h e
theorem V4.block {w w' : World} {B : Nat} {T : TypeId} {x0 x1 x2 x3 : Value} (h : V4 w B T x0 x1 x2 x3) (e : w'.heap[B]? = w.heap[B]?) : V4 w' B T x0 x1 x2 x3 := World.rowIs.of_block h e
theorem V3.below {w w' : World} {B : Nat} {T : TypeId} {x0 x1 x2 : Value} (h : V3 w B T x0 x1 x2) (hb : Below w.heap.size w w') : V3 w' B T x0 x1 x2 := h.block (hb.block B h.lt)
theorem V4.below {w w' : World} {B : Nat} {T : TypeId} {x0 x1 x2 x3 : Value} (h : V4 w B T x0 x1 x2 x3) (hb : Below w.heap.size w w') : V4 w' B T x0 x1 x2 x3 := h.block (hb.block B h.lt)
theorem V3.cells {w : World} {B : Nat} {T : TypeId} {x0 x1 x2 : Value} (h : V3 w B T x0 x1 x2) : w.cell? ⟨B, 0, none⟩ = some x0 ∧ w.cell? ⟨B, 1, none⟩ = some x1 ∧ w.cell? ⟨B, 2, none⟩ = some x2 :=
  ⟨World.rowIs.cell h (i := 0) (by decide), World.rowIs.cell h (i := 1) (by decide), World.rowIs.cell h (i := 2) (by decide)⟩
theorem V4.cells {w : World} {B : Nat} {T : TypeId} {x0 x1 x2 x3 : Value} (h : V4 w B T x0 x1 x2 x3) : w.cell? ⟨B, 0, none⟩ = some x0 ∧ w.cell? ⟨B, 1, none⟩ = some x1 ∧ w.cell? ⟨B, 2, none⟩ = some x2 ∧ w.cell? ⟨B, 3, none⟩ = some x3 :=
  ⟨World.rowIs.cell h (i := 0) (by decide), World.rowIs.cell h (i := 1) (by decide), World.rowIs.cell h (i := 2) (by decide), World.rowIs.cell h (i := 3) (by decide)⟩
theorem V3.fz {w : World} {B : Nat} {T : TypeId} {x0 x1 x2 : Value} (h : V3 w B T x0 x1 x2) : w.frozen? ⟨B, 0, none⟩ = false ∧ w.frozen? ⟨B, 1, none⟩ = false ∧ w.frozen? ⟨B, 2, none⟩ = false :=
  ⟨World.rowIs.frozen h 0, World.rowIs.frozen h 1, World.rowIs.frozen h 2⟩
theorem V4.fz {w : World} {B : Nat} {T : TypeId} {x0 x1 x2 x3 : Value} (h : V4 w B T x0 x1 x2 x3) : w.frozen? ⟨B, 0, none⟩ = false ∧ w.frozen? ⟨B, 1, none⟩ = false ∧ w.frozen? ⟨B, 2, none⟩ = false ∧ w.frozen? ⟨B, 3, none⟩ = false :=
  ⟨World.rowIs.frozen h 0, World.rowIs.frozen h 1, World.rowIs.frozen h 2, World.rowIs.frozen h 3⟩
theorem V3.other {w : World} {B C i : Nat} {T : TypeId} {x0 x1 x2 u : Value} (h : V3 w B T x0 x1 x2) (hne : B ≠ C) : V3 (w.setCell ⟨C, i, none⟩ u) B T x0 x1 x2 := h.block (Below.heap_setCell _ _ _ _ hne)
theorem V4.other {w : World} {B C i : Nat} {T : TypeId} {x0 x1 x2 x3 u : Value} (h : V4 w B T x0 x1 x2 x3) (hne : B ≠ C) : V4 (w.setCell ⟨C, i, none⟩ u) B T x0 x1 x2 x3 := h.block (Below.heap_setCell _ _ _ _ hne)
theorem V3.set0 {w : World} {B : Nat} {T : TypeId} {x0 x1 x2 : Value} (h : V3 w B T x0 x1 x2) (u : Value) : V3 (w.setCell ⟨B, 0, none⟩ u) B T u x1 x2 :=
  (World.rowIs.set h 0 _).congr (fun j hj => by match j, hj with | 0, _ => rfl | 1, _ => rfl | 2, _ => rfl)
theorem V3.set1 {w : World} {B : Nat} {T : TypeId} {x0 x1 x2 : Value} (h : V3 w B T x0 x1 x2) (u : Value) : V3 (w.setCell ⟨B, 1, none⟩ u) B T x0 u x2 :=
  (World.rowIs.set h 1 _).congr (fun j hj => by match j, hj with | 0, _ => rfl | 1, _ => rfl | 2, _ => rfl)
theorem V3.set2 {w : World} {B : Nat} {T : TypeId} {x0 x1 x2 : Value} (h : V3 w B T x0 x1 x2) (u : Value) : V3 (w.setCell ⟨B, 2, none⟩ u) B T x0 x1 u :=
  (World.rowIs.set h 2 _).congr (fun j hj => by match j, hj with | 0, _ => rfl | 1, _ => rfl | 2, _ => rfl)
theorem V4.set0 {w : World} {B : Nat} {T : TypeId} {x0 x1 x2 x3 : Value} (h : V4 w B T x0 x1 x2 x3) (u : Value) : V4 (w.setCell ⟨B, 0, none⟩ u) B T u x1 x2 x3 :=
  (World.rowIs.set h 0 _).congr (fun j hj => by match j, hj with | 0, _ => rfl | 1, _ => rfl | 2, _ => rfl | 3, _ => rfl)
theorem V4.set1 {w : World} {B : Nat} {T : TypeId} {x0 x1 x2 x3 : Value} (h : V4 w B T x0 x1 x2 x3) (u : Value) : V4 (w.setCell ⟨B, 1, none⟩ u) B T x0 u x2 x3 :=
  (World.rowIs.set h 1 _).congr (fun j hj => by match j, hj with | 0, _ => rfl | 1, _ => rfl | 2, _ => rfl | 3, _ => rfl)
theorem V4.set2 {w : World} {B : Nat} {T : TypeId} {x0 x1 x2 x3 : Value} (h : V4 w B T x0 x1 x2 x3) (u : Value) : V4 (w.setCell ⟨B, 2, none⟩ u) B T x0 x1 u x3 :=
  (World.rowIs.set h 2 _).congr (fun j hj => by match j, hj with | 0, _ => rfl | 1, _ => rfl | 2, _ => rfl | 3, _ => rfl)
theorem V4.set3 {w : World} {B : Nat} {T : TypeId} {x0 x1 x2 x3 : Value} (h : V4 w B T x0 x1 x2 x3) (u : Value) : V4 (w.setCell ⟨B, 3, none⟩ u) B T x0 x1 x2 u :=
  (World.rowIs.set h 3 _).congr (fun j hj => by match j, hj with | 0, _ => rfl | 1, _ => rfl | 2, _ => rfl | 3, _ => rfl)
end Go.Proofs.Ytaiinlcdfeboiaa

/-
  Plain facts on numbers: and, or, exclusive or of two numbers that are not negative, as Go's int has them. No program text is named here.
-/
namespace Go.Proofs.Ytaiinlcdfeboiaa
open Go.RowKit
set_option maxRecDepth 4000

theorem wrapNat63 (n : Nat) (h : n < 9223372036854775808) : IntKind.i64.wrap (n : Int) = (n : Int) := by
  rw [IntKind.wrap_i64]; omega

theorem i64_xor_nat (a b : Nat) (ha : a < 9223372036854775808) (hb : b < 9223372036854775808) : bits .xor .i64 (a : Int) (b : Int) = ((a ^^^ b : Nat) : Int) := by
  have h : a ^^^ b < 9223372036854775808 := Nat.xor_lt_two_pow (n := 63) ha hb
  show IntKind.i64.wrap ((BitVec.ofInt 64 (a : Int) ^^^ BitVec.ofInt 64 (b : Int)).toNat : Nat) = _
  rw [BitVec.toNat_xor, ofInt_u64 a (by omega), ofInt_u64 b (by omega), wrapNat63 _ h]

theorem i64_or_nat (a b : Nat) (ha : a < 9223372036854775808) (hb : b < 9223372036854775808) : bits .or .i64 (a : Int) (b : Int) = ((a ||| b : Nat) : Int) := by
  have h : a ||| b < 9223372036854775808 := Nat.or_lt_two_pow (n := 63) ha hb
  show IntKind.i64.wrap ((BitVec.ofInt 64 (a : Int) ||| BitVec.ofInt 64 (b : Int)).toNat : Nat) = _
  rw [BitVec.toNat_or, ofInt_u64 a (by omega), ofInt_u64 b (by omega), wrapNat63 _ h]

theorem i64_and_nat (a b : Nat) (ha : a < 9223372036854775808) (hb : b < 9223372036854775808) : bits .and .i64 (a : Int) (b : Int) = ((a &&& b : Nat) : Int) := by
  have h : a &&& b < 9223372036854775808 := Nat.and_lt_two_pow (n := 63) _ hb
  show IntKind.i64.wrap ((BitVec.ofInt 64 (a : Int) &&& BitVec.ofInt 64 (b : Int)).toNat : Nat) = _
  rw [BitVec.toNat_and, ofInt_u64 a (by omega), ofInt_u64 b (by omega), wrapNat63 _ h]

theorem i64_and1 (n : Nat) (h : n < 9223372036854775808) : bits .and .i64 (n : Int) 1 = ((n % 2 : Nat) : Int) := by
  have := i64_and_nat n 1 h (by decide)
  rw [nat_mask1] at this; exact this

/-- What is laid above the lower i bits is added. -/
theorem i64_or_add (i : Nat) (a b : Int) (h0 : 0 ≤ a) (h1 : a < 2 ^ i) (h2 : 0 ≤ b) (h3 : b % 2 ^ i = 0) (h4 : b < 9223372036854775808) (h5 : (2 : Int) ^ i ≤ 9223372036854775808) : bits .or .i64 a b = a + b := by
  obtain ⟨x, rfl⟩ := Int.eq_ofNat_of_zero_le h0
  obtain ⟨y, rfl⟩ := Int.eq_ofNat_of_zero_le h2
  have e : ((2 ^ i : Nat) : Int) = 2 ^ i := by simp
  rw [← e] at h1 h3 h5
  have h3' : y % 2 ^ i = 0 := by omega
  rw [i64_or_nat x y (by omega) (by omega), Nat.or_comm, nat_join i y x h3' (by omega)]
  omega

theorem u8_wrap (x : Int) : IntKind.u8.wrap x = x % 256 := by simp [IntKind.wrap, IntKind.bits, IntKind.signed]

end Go.Proofs.Ytaiinlcdfeboiaa

/-
  A number as its groups, plainly; lists of bytes that the call owns as rows.
-/
namespace Go.Proofs.Ytaiinlcdfeboiaa
open Go.RowKit
set_option maxRecDepth 4000

def groups (x : Int) : List Int := if x < 128 then [x] else if x < 16384 then [x % 128 + 128, x / 128] else [x % 128 + 128, x / 128 % 128 + 128, x / 16384]
theorem groups_last (x : Int) (h : x < 128) : groups x = [x] := by unfold groups; rw [if_pos h]
theorem groups_step (x : Int) (h : 128 ≤ x) (h1 : x ≤ 1000000) : groups x = (x % 128 + 128) :: groups (x / 128) := by
  unfold groups
  rw [if_neg (by omega)]
  by_cases h2 : x < 16384
  · rw [if_pos h2, if_pos (by omega)]
  · rw [if_neg h2, if_neg (by omega), if_pos (by omega)]
    have : x / 128 / 128 = x / 16384 := by omega
    rw [this]
theorem groups_len (x : Int) : 1 ≤ (groups x).length ∧ (groups x).length ≤ 3 := by
  unfold groups; split
  · simp
  · split <;> simp
theorem groups_byte (x : Int) (h0 : 0 ≤ x) (h1 : x ≤ 1000000) : ∀ y ∈ groups x, 0 ≤ y ∧ y ≤ 255 := by
  unfold groups; intro y hy; split at hy
  · simp at hy; omega
  · split at hy
    · simp at hy; omega
    · simp at hy; omega

def clampN (x : Int) : Int := if x < 0 then 0 else if 1000000 < x then 1000000 else x
theorem clampN_bd (x : Int) : 0 ≤ clampN x ∧ clampN x ≤ 1000000 := by unfold clampN; split <;> (try split) <;> omega

def lof (n : Nat) (f : Nat → Int) : List Int := (List.range n).map f
theorem lof_len (n : Nat) (f : Nat → Int) : (lof n f).length = n := by simp [lof]
theorem lof_get (n : Nat) (f : Nat → Int) (i : Nat) (h : i < n) : (lof n f).getD i 0 = f i := by simp [lof, h]
def bl (l : List Int) : List Value := l.map (Value.int .u8)
theorem bl_len (l : List Int) : (bl l).length = l.length := by simp [bl]
theorem bl_append (l m : List Int) : bl (l ++ m) = bl l ++ bl m := by simp [bl]
theorem bl_one (l : List Int) : ∀ u ∈ bl l, u.oneCell' = true := by
  intro u hu
  simp only [bl, List.mem_map] at hu
  obtain ⟨x, _, rfl⟩ := hu
  rfl

/-- What the call owns as a list of bytes, as a row. -/
theorem row_of_own {base : Nat} {t : TypeId} {v : Value} {N : Nat} {l : List Int} {w : World} (h : w.ownsRow base t 1 v N (bl l)) (hN : 0 < N) :
    ∃ g c, v = .slice (some ⟨g, 0, none⟩) N c ∧ base ≤ g ∧ N ≤ c ∧ Row t w g N (fun i => l.getD i 0) := by
  obtain ⟨hl, h⟩ := h
  rcases h with ⟨_, h0⟩ | ⟨g, c, cur, rfl, hb, hg, hnc, _, hcs, ht⟩
  · omega
  · refine ⟨g, c, rfl, hb, hnc, cur, hg, by omega, fun i hi => ?_⟩
    have e : (bl l)[i]? = some (.int .u8 (l.getD i 0)) := by
      have : i < l.length := by rw [bl_len] at hl; omega
      simp [bl, this]
    rw [← ht, List.getElem?_take, if_pos (by omega)] at e
    simpa using e

theorem row_of_own' {base : Nat} {t : TypeId} {v : Value} {N : Nat} {l : List Int} {w : World} (h : w.ownsRow base t 1 v N (bl l)) (hv : v ≠ .slice none 0 0) :
    ∃ g c, v = .slice (some ⟨g, 0, none⟩) N c ∧ base ≤ g ∧ N ≤ c ∧ Row t w g N (fun i => l.getD i 0) := by
  obtain ⟨hl, h⟩ := h
  rcases h with ⟨h0, _⟩ | ⟨g, c, cur, rfl, hb, hg, hnc, _, hcs, ht⟩
  · exact absurd h0 hv
  · refine ⟨g, c, rfl, hb, hnc, cur, hg, by omega, fun i hi => ?_⟩
    have e : (bl l)[i]? = some (.int .u8 (l.getD i 0)) := by
      have : i < l.length := by rw [bl_len] at hl; omega
      simp [bl, this]
    rw [← ht, List.getElem?_take, if_pos (by omega)] at e
    simpa using e
theorem row_of_owned {base : Nat} {t : TypeId} {g N c : Nat} {l : List Int} {w : World} (h : w.ownsRow base t 1 (.slice (some ⟨g, 0, none⟩) N c) N (bl l)) : Row t w g N (fun i => l.getD i 0) := by
  obtain ⟨hl, h⟩ := h
  rcases h with ⟨h, _⟩ | ⟨g', c', cur, e, hb, hg, hnc, _, hcs, ht⟩
  · cases h
  · simp only [Value.slice.injEq, Option.some.injEq, Addr.mk.injEq, and_true, true_and] at e
    obtain ⟨rfl, rfl⟩ := e
    refine ⟨cur, hg, by omega, fun i hi => ?_⟩
    have e : (bl l)[i]? = some (.int .u8 (l.getD i 0)) := by
      have : i < l.length := by rw [bl_len] at hl; omega
      simp [bl, this]
    rw [← ht, List.getElem?_take, if_pos (by omega)] at e
    simpa using e
theorem lof_self (l : List Int) : lof l.length (fun i => l.getD i 0) = l := by
  apply List.ext_getElem
  · simp [lof]
  · intro i h1 h2
    simp [lof, h2]

/-- One new cell. -/
theorem cellNew (w : World) (x : Value) (t : TypeId) : ∀ j u, [x][j]? = some u → (w.alloc (.cells #[x] t)).cell? ((⟨w.heap.size, 0, none⟩ : Addr).add j) = some u := by
  intro j u hj
  match j, hj with
  | 0, hj => simp at hj; subst hj; simp [Addr.add]

/-- The cells of a slice that reads, as the law on appending asks for them. -/
theorem cells_of_view {w : World} {b off n cap : Nat} {f : Nat → Int} (h : View w (some ⟨b, off, none⟩) n cap f) : ∀ j u, (bl (lof n f))[j]? = some u → w.cell? ((⟨b, off, none⟩ : Addr).add j) = some u := by
  intro j u hu
  have hj : j < n := by
    by_cases hj : j < n
    · exact hj
    · rw [List.getElem?_eq_none (by rw [bl_len, lof_len]; omega)] at hu; cases hu
  obtain ⟨b', off', e, _, hc⟩ := h.cells (by omega)
  simp only [Option.some.injEq, Addr.mk.injEq, and_true] at e
  obtain ⟨rfl, rfl⟩ := e
  have ea : (⟨b, off, none⟩ : Addr).add j = ⟨b, off + j, none⟩ := by unfold Addr.add; split <;> simp_all
  rw [ea, hc j hj]
  simp [bl, lof, hj] at hu
  rw [hu]

theorem put_byte (n : Nat) (f : Nat → Int) (gs : List Int) (hf : ∀ i, i < n → 0 ≤ f i ∧ f i ≤ 255) (hg : ∀ y ∈ gs, 0 ≤ y ∧ y ≤ 255) : ∀ i, i < n + gs.length → 0 ≤ (lof n f ++ gs).getD i 0 ∧ (lof n f ++ gs).getD i 0 ≤ 255 := by
  intro i hi
  by_cases h : i < n
  · have e : (lof n f ++ gs).getD i 0 = f i := by
      rw [← lof_get n f i h, List.getD_eq_getElem?_getD, List.getD_eq_getElem?_getD, List.getElem?_append_left (by rw [lof_len]; exact h)]
    rw [e]; exact hf i h
  · have e : (lof n f ++ gs).getD i 0 = gs.getD (i - n) 0 := by
      rw [List.getD_eq_getElem?_getD, List.getD_eq_getElem?_getD, List.getElem?_append_right (by rw [lof_len]; omega), lof_len]
    rw [e]
    have hi' : i - n < gs.length := by omega
    have : gs.getD (i - n) 0 = gs[i - n] := by simp [hi']
    rw [this]
    exact hg _ (List.getElem_mem hi')

end Go.Proofs.Ytaiinlcdfeboiaa

/-
  What the table of the types says of the bytes.
-/
namespace Go.Proofs.Ytaiinlcdfeboiaa
open Go.RowKit
set_option maxRecDepth 4000

theorem Try.info5 : (Try.prog.info? 5).map (fun i => (i.zero, i.size, i.bytes)) = some (some (.int .u8 0), 1, 1) := by kernel_rfl

end Go.Proofs.Ytaiinlcdfeboiaa

/-
  The cursor that the draws go by: what each draw comes to, as far as a law leans on it: a number within its bounds, bytes of their own; nothing turns but the cursor.
-/
namespace Go.Proofs.Ytaiinlcdfeboiaa
open Go.RowKit
set_option maxRecDepth 4000

theorem i64_and255 (n : Int) : bits .and .i64 n 255 = n % 256 := by
  have h255 : (BitVec.ofInt 64 255).toNat = 2 ^ 8 - 1 := by decide
  have key : (BitVec.ofInt 64 n &&& BitVec.ofInt 64 255).toNat = (n % ((2 ^ 64 : Nat) : Int)).toNat % 2 ^ 8 := by
    rw [BitVec.toNat_and, BitVec.toNat_ofInt, h255, Nat.and_two_pow_sub_one_eq_mod]
  show IntKind.i64.wrap ((BitVec.ofInt 64 n &&& BitVec.ofInt 64 255).toNat : Nat) = n % 256
  rw [key, IntKind.wrap_i64]
  omega

theorem Only.trans {b : Nat} {w w1 w2 : World} (h : Only b w w1) (k : Only b w1 w2) : Only b w w2 :=
  ⟨k.os.trans h.os, k.tape.trans h.tape, k.output.trans h.output, k.size.trans h.size, fun i hi => (k.block i hi).trans (h.block i hi)⟩

/-- The three cells of a cursor. -/
def curF (ao : Option Addr) (n cap : Nat) (i h : Int) : Nat → Value
  | 0 => .slice ao n cap
  | 1 => .int .i64 i
  | _ => .int .i64 h

structure Cur (w : World) (g : Nat) (ao : Option Addr) (n cap : Nat) (f : Nat → Int) : Prop where
  cells : ∃ i h : Int, w.rowIs g 82 3 (curF ao n cap i h) ∧ 0 ≤ i ∧ i ≤ n
  view : View w ao n cap f
  apart : ∀ a, ao = some a → 0 < n → a.block ≠ g

theorem Cur.lt {w : World} {g : Nat} {ao : Option Addr} {n cap : Nat} {f : Nat → Int} (h : Cur w g ao n cap f) : g < w.heap.size := by
  obtain ⟨i, k, hr, _⟩ := h.cells
  exact hr.lt

theorem Cur.below {w w' : World} {g : Nat} {ao : Option Addr} {n cap : Nat} {f : Nat → Int} (h : Cur w g ao n cap f) (hb : Below w.heap.size w w') : Cur w' g ao n cap f := by
  obtain ⟨i, k, hr, h0, h1⟩ := h.cells
  exact ⟨⟨i, k, hr.of_block (hb.block g hr.lt), h0, h1⟩, h.view.below hb, h.apart⟩

set_option maxHeartbeats 2000000 in
theorem l1Byte_any (g : Nat) (ao : Option Addr) (n cap : Nat) (f : Nat → Int) (w : World) (hn : n ≤ 1048576) (hC : Cur w g ao n cap f) :
    Calls Try.prog 78 #[.pointer (some ⟨g, 0, none⟩)] w fun e w' => ∃ x : Int, e = .returned (.int .i64 x) ∧ 0 ≤ x ∧ x ≤ 255 ∧ Cur w' g ao n cap f ∧ Only g w w' := by
  obtain ⟨i, h, hr, hi0, hi1⟩ := hC.cells
  have c0 : w.cell? ⟨g, 0, none⟩ = some (.slice ao n cap) := hr.cell (by decide)
  have c1 : w.cell? ⟨g, 1, none⟩ = some (.int .i64 i) := hr.cell (by decide)
  have c2 : w.cell? ⟨g, 2, none⟩ = some (.int .i64 h) := hr.cell (by decide)
  have z1 := hr.frozen 1
  have z2 := hr.frozen 2
  have hA : ∀ z : Int, bits .and .i64 z 255 = z % 256 := i64_and255
  by_cases hlt : i < n
  · have hv := hC.view
    obtain ⟨b, off, rfl, hb, hc⟩ := hv.cells (by omega)
    have hne : b ≠ g := hC.apart _ rfl (by omega)
    obtain ⟨k, rfl⟩ := Int.eq_ofNat_of_zero_le hi0
    have hbk := hv.byte k (by omega)
    have hck := hc k (by omega)
    clear hc
    go_enter Try.func78, Try.ntmps78
    go_wp2
    go_region
    all_goals go_wp2
    all_goals go_region
    all_goals go_wp2
    all_goals go_region
    all_goals go_wp2
    go_ret
    have hO : Only g w ((w.setCell ⟨g, 2, none⟩ (.int .i64 (wrap64 (wrap64 (h * 6364136223846793005) + 1442695040888963407)))).setCell ⟨g, 1, none⟩ (.int .i64 ((k : Int) + 1))) := ((Only.refl _ _).setCell _).setCell _
    have hR := ((hr.set 2 (.int .i64 (wrap64 (wrap64 (h * 6364136223846793005) + 1442695040888963407)))).set 1 (.int .i64 ((k : Int) + 1))).congr (g := curF (some ⟨b, off, none⟩) n cap ((k : Int) + 1) (wrap64 (wrap64 (h * 6364136223846793005) + 1442695040888963407)))
      (fun j hj => by match j, hj with | 0, _ => rfl | 1, _ => rfl | 2, _ => rfl)
    exact ⟨_, rfl, by omega, by omega, ⟨⟨_, _, hR, by omega, by omega⟩, (hO.view hv (fun a ha => hC.apart a ha (by omega))).drew.drew.drew, hC.apart⟩, hO.os, hO.tape, hO.output, hO.size, hO.block⟩
  · go_enter Try.func78, Try.ntmps78
    go_wp2
    go_region
    all_goals go_wp2
    all_goals go_region
    all_goals go_wp2
    go_ret
    have hO : Only g w (w.setCell ⟨g, 2, none⟩ (.int .i64 (wrap64 (wrap64 (h * 6364136223846793005) + 1442695040888963407)))) := (Only.refl _ _).setCell _
    have hR := (hr.set 2 (.int .i64 (wrap64 (wrap64 (h * 6364136223846793005) + 1442695040888963407)))).congr (g := curF ao n cap i (wrap64 (wrap64 (h * 6364136223846793005) + 1442695040888963407)))
      (fun j hj => by match j, hj with | 0, _ => rfl | 1, _ => rfl | 2, _ => rfl)
    have hV : View (w.setCell ⟨g, 2, none⟩ (.int .i64 (wrap64 (wrap64 (h * 6364136223846793005) + 1442695040888963407)))) ao n cap f := by
      by_cases h0 : 0 < n
      · exact hO.view hC.view (fun a ha => hC.apart a ha h0)
      · exact ⟨hC.view.le, hC.view.byte, fun h => absurd h h0⟩
    exact ⟨_, rfl, by omega, by omega, ⟨⟨_, _, hR, hi0, hi1⟩, hV.drew.drew, hC.apart⟩, hO.os, hO.tape, hO.output, hO.size, hO.block⟩

set_option maxHeartbeats 1000000 in
theorem l1Below_any (g : Nat) (ao : Option Addr) (n cap : Nat) (f : Nat → Int) (m : Int) (w : World) (hn : n ≤ 1048576) (hm : 0 < m) (hm1 : m ≤ 16777216) (hC : Cur w g ao n cap f) :
    Calls Try.prog 61 #[.pointer (some ⟨g, 0, none⟩), .int .i64 m] w fun e w' => ∃ x : Int, e = .returned (.int .i64 x) ∧ 0 ≤ x ∧ x < m ∧ Cur w' g ao n cap f ∧ Only g w w' := by
  by_cases h256 : m ≤ 256
  · go_enter Try.func61, Try.ntmps61
    go_wp2_with fail
    refine (l1Byte_any g ao n cap f w hn hC).mono ?_
    rintro e w1 ⟨x, rfl, hx0, hx1, hC1, hO1⟩
    go_wp2
    go_ret
    exact ⟨_, rfl, Int.emod_nonneg _ (by omega), Int.emod_lt_of_pos _ hm, hC1, hO1⟩
  · go_enter Try.func61, Try.ntmps61
    go_wp2_with fail
    refine (l1Byte_any g ao n cap f w hn hC).mono ?_
    rintro e w1 ⟨x, rfl, hx0, hx1, hC1, hO1⟩
    go_wp2_with fail
    refine (l1Byte_any g ao n cap f w1 hn hC1).mono ?_
    rintro e w2 ⟨y, rfl, hy0, hy1, hC2, hO2⟩
    go_wp2_with fail
    refine (l1Byte_any g ao n cap f w2 hn hC2).mono ?_
    rintro e w3 ⟨z, rfl, hz0, hz1, hC3, hO3⟩
    go_wp2
    go_ret
    exact ⟨_, rfl, Int.emod_nonneg _ (by omega), Int.emod_lt_of_pos _ hm, hC3, (hO1.trans hO2).trans hO3⟩

set_option maxHeartbeats 1000000 in
theorem l1New_any (ao : Option Addr) (n cap : Nat) (f : Nat → Int) (w : World) (hn : n ≤ 1048576) (hv : View w ao n cap f) :
    Calls Try.prog 28 #[.slice ao n cap] w fun e w' => e = .returned (.pointer (some ⟨w.heap.size, 0, none⟩)) ∧ Cur w' w.heap.size ao n cap f ∧ Below w.heap.size w w' := by
  go_enter Try.func28, Try.ntmps28
  go_wp2
  go_loopg [3, 4] n (fun q s i wr => w = wr ∧ ∃ (k : Nat) (h : Int), k ≤ n ∧ q = n - k ∧ s = .int .i64 h ∧ i = .int .i64 k)
  case atStart => exact ⟨rfl, 0, _, Nat.zero_le _, rfl, rfl, rfl⟩
  case round =>
    obtain ⟨rfl, k, h, hk, rfl, rfl, rfl⟩ := hrel
    by_cases hlt : k < n
    · obtain ⟨b, off, rfl, hb, hc⟩ := hv.cells (by omega)
      have hkz : (k : Int) < (n : Int) := by omega
      have hc1 := hc k hlt
      have hbk := hv.byte k hlt
      by_cases h4 : k < 4000
      · have hz4 : (k : Int) < 4000 := by omega
        clear hc
        go_wp2
        go_roundg (n - (k + 1))
        case measure => omega
        case rel => exact ⟨rfl, k + 1, _, by omega, rfl, rfl, by go_num⟩
      · have hz4 : ¬ (k : Int) < 4000 := by omega
        clear h4
        clear hc
        go_wp2
        go_ret
        refine ⟨rfl, ⟨⟨0, _, World.rowIs_alloc w _ 82 (curF (some ⟨b, off, none⟩) n cap 0 h) (fun j hj => ?_), by omega, by omega⟩, hv.below ((Below.refl _ _).alloc (Nat.le_refl _) _), fun a ha _ => ?_⟩, (Below.refl _ _).alloc (Nat.le_refl _) _⟩
        · match j, hj with | 0, _ => rfl | 1, _ => rfl | 2, _ => rfl
        · cases ha; show b ≠ w.heap.size; omega
    · have hkz : (n : Int) ≤ (k : Int) := by omega
      go_wp2
      go_ret
      refine ⟨rfl, ⟨⟨0, _, World.rowIs_alloc w _ 82 (curF ao n cap 0 h) (fun j hj => ?_), by omega, by omega⟩, hv.below ((Below.refl _ _).alloc (Nat.le_refl _) _), fun a ha h0 => ?_⟩, (Below.refl _ _).alloc (Nat.le_refl _) _⟩
      · match j, hj with | 0, _ => rfl | 1, _ => rfl | 2, _ => rfl
      · obtain ⟨b, off, e, hb, _⟩ := hv.cells h0
        rw [e] at ha; cases ha; show b ≠ w.heap.size; omega
end Go.Proofs.Ytaiinlcdfeboiaa

/-
  What turns but one block: how it is carried.
-/
namespace Go.Proofs.Ytaiinlcdfeboiaa
open Go.RowKit
set_option maxRecDepth 4000

/-- Of what was there block g alone may have turned. -/
structure But (g : Nat) (w w' : World) : Prop where
  os : w'.os = w.os
  tape : w'.tape = w.tape
  output : w'.output = w.output
  size : w.heap.size ≤ w'.heap.size
  block : ∀ k, k < w.heap.size → k ≠ g → w'.heap[k]? = w.heap[k]?

theorem But.refl (g : Nat) (w : World) : But g w w := ⟨rfl, rfl, rfl, Nat.le_refl _, fun _ _ _ => rfl⟩
theorem But.trans {g : Nat} {a b c : World} (h : But g a b) (k : But g b c) : But g a c :=
  ⟨k.os.trans h.os, k.tape.trans h.tape, k.output.trans h.output, Nat.le_trans h.size k.size, fun i hi hg => (k.block i (Nat.lt_of_lt_of_le hi h.size) hg).trans (h.block i hi hg)⟩
theorem But.ofOnly {g : Nat} {w w' : World} (h : Only g w w') : But g w w' := ⟨h.os, h.tape, h.output, by rw [h.size]; exact Nat.le_refl _, fun k _ hk => h.block k hk⟩
theorem But.ofBelow {g : Nat} {w w' : World} (h : Below w.heap.size w w') : But g w w' := ⟨h.os, h.tape, h.output, h.size, fun k hk _ => h.block k hk⟩
theorem But.below {g B : Nat} {w w' : World} (h : But g w w') (hB : B ≤ g) (hs : B ≤ w.heap.size) : Below B w w' := ⟨h.os, h.tape, h.output, h.size, fun k hk => h.block k (by omega) (by omega)⟩
theorem But.row {t : TypeId} {g b n : Nat} {f : Nat → Int} {w w' : World} (h : But g w w') (hr : Row t w b n f) (hne : b ≠ g) : Row t w' b n f := hr.of_block (h.block b hr.lt hne)
theorem But.view {g : Nat} {ao : Option Addr} {n cap : Nat} {f : Nat → Int} {w w' : World} (h : But g w w') (hv : View w ao n cap f) (hne : ∀ a, ao = some a → 0 < n → a.block ≠ g) : View w' ao n cap f := by
  refine ⟨hv.le, hv.byte, fun hn => ?_⟩
  obtain ⟨b', off, e, hlt, hc⟩ := hv.cells hn
  refine ⟨b', off, e, Nat.lt_of_lt_of_le hlt h.size, fun i hi => ?_⟩
  rw [World.cell?_of_block (w := w) (h.block b' hlt (hne _ e hn))]
  exact hc i hi
theorem Only.grown {g : Nat} {w w' : World} (h : Only g w w') : w.grownBy w' (some g) :=
  ⟨h.os, h.tape, h.output, by rw [h.size]; exact Nat.le_refl _, fun k _ hk => h.block k (fun e => hk (by rw [e]))⟩
theorem But.grown {g : Nat} {w w' : World} (h : But g w w') : w.grownBy w' (some g) := ⟨h.os, h.tape, h.output, h.size, fun k hk hne => h.block k hk (fun e => hne (by rw [e]))⟩
end Go.Proofs.Ytaiinlcdfeboiaa

/-
  What turns but the cursor: how it is carried.
-/
namespace Go.Proofs.Ytaiinlcdfeboiaa
open Go.RowKit
set_option maxRecDepth 4000

theorem Cur.grown {w w' : World} {g : Nat} {ao : Option Addr} {n cap : Nat} {f : Nat → Int} {row : Option Nat} (h : Cur w g ao n cap f) (hg : w.grownBy w' row) (h1 : row ≠ some g) (h2 : ∀ a, ao = some a → 0 < n → row ≠ some a.block) : Cur w' g ao n cap f := by
  obtain ⟨i, k, hr, h0, hi⟩ := h.cells
  refine ⟨⟨i, k, hr.of_block (hg.block g hr.lt (fun e => h1 e.symm)), h0, hi⟩, ⟨h.view.le, h.view.byte, fun hn => ?_⟩, h.apart⟩
  obtain ⟨b', off, e, hlt, hc⟩ := h.view.cells hn
  refine ⟨b', off, e, Nat.lt_of_lt_of_le hlt hg.size, fun j hj => ?_⟩
  rw [World.cell?_of_block (w := w) (hg.block b' hlt (fun e' => h2 _ e hn e'.symm))]
  exact hc j hj
theorem Cur.code {w : World} {g : Nat} {ao : Option Addr} {n cap : Nat} {f : Nat → Int} (h : Cur w g ao n cap f) : ∀ a, ao = some a → 0 < n → a.block < w.heap.size := by
  rintro a rfl hn
  obtain ⟨b, off, e, hlt, _⟩ := h.view.cells hn
  cases e
  exact hlt

end Go.Proofs.Ytaiinlcdfeboiaa

/-
  The cursor and rows of the call's own, how they are carried.
-/
namespace Go.Proofs.Ytaiinlcdfeboiaa
open Go.RowKit
set_option maxRecDepth 4000

theorem own_blkN {W : World} {base T c N : Nat} {v : Value} {xs : List Value} (h : W.ownsRow base T c v N xs) {k : Nat} (hk : v.ownBlock = some k) : base ≤ k ∧ k < W.heap.size ∧ ∃ cur z, W.heap[k]? = some (.cells cur T z) := by
  rcases h.2 with ⟨e, -⟩ | ⟨g, cp, cur, e, hb, hg, -⟩
  · rw [e] at hk; cases hk
  · rw [e] at hk
    simp only [Value.ownBlock, Option.some.injEq] at hk
    subst hk
    exact ⟨hb, (Array.getElem?_eq_some_iff.1 hg).1, cur, _, hg⟩
theorem own_grownN {W W' : World} {base T c N : Nat} {v : Value} {xs : List Value} {row : Option Nat} (h : W.ownsRow base T c v N xs) (hg : W.grownBy W' row) (hne : ∀ k, v.ownBlock = some k → row ≠ some k) : W'.ownsRow base T c v N xs := by
  refine ⟨h.1, ?_⟩
  rcases h.2 with ⟨e, h0⟩ | ⟨g, k, cur, e, hb0, hg0, hr⟩
  · exact .inl ⟨e, h0⟩
  · refine .inr ⟨g, k, cur, e, hb0, ?_, hr⟩
    rw [hg.block g (Array.getElem?_eq_some_iff.1 hg0).1 (fun x => hne g (by rw [e]; rfl) x.symm)]
    exact hg0
theorem grown_set (W : World) (B i : Nat) (u : Value) : W.grownBy (W.setCell ⟨B, i, none⟩ u) (some B) :=
  ⟨rfl, rfl, rfl, by simp, fun k _ hk => Below.heap_setCell _ _ _ _ (fun e => hk (by rw [show k = B from e]))⟩
theorem own_base' {W : World} {base base' T c N : Nat} {v : Value} {xs : List Value} (h : W.ownsRow base T c v N xs) (hb : ∀ k, v.ownBlock = some k → base' ≤ k) : W.ownsRow base' T c v N xs := by
  refine ⟨h.1, ?_⟩
  rcases h.2 with ⟨e, h0⟩ | ⟨g, k, cur, e, hb0, hr⟩
  · exact .inl ⟨e, h0⟩
  · exact .inr ⟨g, k, cur, e, hb g (by rw [e]; rfl), hr⟩

theorem own_form {W : World} {base T c N : Nat} {v : Value} {xs : List Value} (h : W.ownsRow base T c v N xs) (hc : 0 < c := by decide) : ∃ a k, v = .slice a N k := by
  obtain ⟨hl, h⟩ := h
  rcases h with ⟨rfl, h0⟩ | ⟨g, k, cur, rfl, -⟩
  · have hN : N = 0 := by
      rcases Nat.eq_zero_or_pos N with h | h
      · exact h
      · have := Nat.mul_pos h hc
        omega
    subst hN
    exact ⟨none, 0, rfl⟩
  · exact ⟨_, k, rfl⟩
/-- The cursor, where the draw began, and that it alone of what was there has turned. -/
structure CN (w : World) (g : Nat) (ao : Option Addr) (n cap : Nat) (f : Nat → Int) (W : World) : Prop where
  cur : Cur W g ao n cap f
  but : But g w W
  lt : g < w.heap.size
  code : ∀ a, ao = some a → 0 < n → a.block < w.heap.size
theorem CN.start {w : World} {g : Nat} {ao : Option Addr} {n cap : Nat} {f : Nat → Int} (h : Cur w g ao n cap f) : CN w g ao n cap f w := ⟨h, But.refl _ _, h.lt, h.code⟩
theorem CN.size {w : World} {g : Nat} {ao : Option Addr} {n cap : Nat} {f : Nat → Int} {W : World} (h : CN w g ao n cap f W) : w.heap.size ≤ W.heap.size := h.but.size
theorem CN.next {w : World} {g : Nat} {ao : Option Addr} {n cap : Nat} {f : Nat → Int} {W W' : World} (h : CN w g ao n cap f W) (hc : Cur W' g ao n cap f) (hb : But g W W') : CN w g ao n cap f W' := ⟨hc, h.but.trans hb, h.lt, h.code⟩
theorem CN.below {w : World} {g : Nat} {ao : Option Addr} {n cap : Nat} {f : Nat → Int} {W W' : World} (h : CN w g ao n cap f W) (hb : Below W.heap.size W W') : CN w g ao n cap f W' := h.next (h.cur.below hb) (But.ofBelow hb)
theorem CN.grown {w : World} {g : Nat} {ao : Option Addr} {n cap : Nat} {f : Nat → Int} {W W' : World} {row : Option Nat} (h : CN w g ao n cap f W) (hg : W.grownBy W' row) (hr : ∀ j, row = some j → w.heap.size ≤ j) : CN w g ao n cap f W' :=
  ⟨h.cur.grown hg (fun e => by have := hr g e; have := h.lt; omega) (fun a e hn e' => by have := hr _ e'; have := h.code a e hn; omega), ⟨hg.os.trans h.but.os, hg.tape.trans h.but.tape, hg.output.trans h.but.output, Nat.le_trans h.but.size hg.size, fun k hk hne => (hg.block k (Nat.lt_of_lt_of_le hk h.but.size) (fun e => by have := hr k e.symm; omega)).trans (h.but.block k hk hne)⟩, h.lt, h.code⟩
theorem CN.set {w : World} {g : Nat} {ao : Option Addr} {n cap : Nat} {f : Nat → Int} {W : World} (h : CN w g ao n cap f W) {X : Nat} (hX : w.heap.size ≤ X) (i : Nat) (u : Value) : CN w g ao n cap f (W.setCell ⟨X, i, none⟩ u) := h.grown (grown_set W X i u) (fun j e => by cases e; exact hX)
end Go.Proofs.Ytaiinlcdfeboiaa

/-
  Nodes that are drawn: their variables, their rows, the cursor; how that is carried.
-/
namespace Go.Proofs.Ytaiinlcdfeboiaa
open Go.RowKit
set_option maxRecDepth 4000

/-- A node by lists. -/
structure NL where
  leaf : Bool
  ks : List ByteArray
  vs : List ByteArray
  ds : List Int
def NL.pn (L : NL) : PNode := ⟨L.leaf, L.ks.length, fun i => L.ks.getD i ⟨#[]⟩, L.vs.length, fun i => L.vs.getD i ⟨#[]⟩, L.ds.length, fun i => L.ds.getD i 0⟩
def txc (l : List ByteArray) : List Value := l.map Value.string
def nuc (l : List Int) : List Value := l.map (Value.int .i64)
theorem txc_app (l : List ByteArray) (s : ByteArray) : txc (l ++ [s]) = txc l ++ [.string s] := by simp [txc]
theorem nuc_app (l : List Int) (s : Int) : nuc (l ++ [s]) = nuc l ++ [.int .i64 s] := by simp [nuc]
/-- All its bytes are signs from the minus on. -/
def OkB (s : ByteArray) : Bool := s.data.toList.all (fun x => decide (45 ≤ x.toNat) && decide (x.toNat ≤ 127))
theorem okB_app {a b : ByteArray} (ha : OkB a = true) (hb : OkB b = true) : OkB (a ++ b) = true := by
  unfold OkB at ha hb ⊢
  simp only [ByteArray.data_append, Array.toList_append, List.all_append, ha, hb, Bool.and_self]
/-- A key as they are drawn. -/
def GoodK (s : ByteArray) : Prop := (1 ≤ s.size ∧ s.size ≤ 22) ∧ OkB s = true
/-- Nothing of it is great; of a node that is drawn unbent (50) the keys are good, and a node that is no leaf has a kid more. -/
structure Small (B : Nat) (L : NL) : Prop where
  kk : B = 50 → (∀ s ∈ L.ks, GoodK s) ∧ (L.leaf = false → L.ds.length = L.ks.length + 1)
  kd : L.leaf = false → L.ds.length = L.ks.length + 1 → ∀ s ∈ L.ks, s.size ≤ 48
  nk : L.ks.length ≤ B
  ks : ∀ s ∈ L.ks, s.size ≤ B
  nv : L.vs.length ≤ B
  vs : ∀ s ∈ L.vs, s.size ≤ B
  nd : L.ds.length ≤ B
  ds : ∀ y ∈ L.ds, -(B : Int) ≤ y ∧ y ≤ (B : Int)
theorem getD_of {α : Type} {l : List α} {d : α} {P : α → Prop} (h : ∀ x ∈ l, P x) {i : Nat} (hi : i < l.length) : P (l.getD i d) := by
  have := h _ (List.getElem_mem hi)
  simpa [List.getD, hi] using this
theorem Small.fine {L : NL} (h : Small 100 L) : NFine L.pn :=
  ⟨by have := h.nk; show L.ks.length ≤ _; omega, fun i hi => Nat.le_trans (getD_of (P := fun s => s.size ≤ 100) h.ks hi) (by omega), by have := h.nv; show L.vs.length ≤ _; omega, fun i hi => Nat.le_trans (getD_of (P := fun s => s.size ≤ 100) h.vs hi) (by omega), by have := h.nd; show L.ds.length ≤ _; omega, fun i hi => by
    have := getD_of (d := 0) (P := fun y : Int => -((100 : Nat) : Int) ≤ y ∧ y ≤ ((100 : Nat) : Int)) h.ds hi
    show -9223372036854775808 ≤ L.ds.getD i 0 ∧ L.ds.getD i 0 ≤ 9223372036854775807
    omega⟩
/-- A row of the call's own reads. -/
theorem ov_own {W : World} {base T : Nat} {v : Value} {N : Nat} {xs : List Value} {F : Nat → Value} (h : W.ownsRow base T 1 v N xs) (hF : ∀ i, i < N → xs[i]? = some (F i)) : ∃ a c, v = .slice a N c ∧ OV W a N c F ∧ (a = none → c = 0) := by
  obtain ⟨hl, h⟩ := h
  rcases h with ⟨rfl, h0⟩ | ⟨g, k, cur, rfl, hb, hg, hnc, _, hcs, ht⟩
  · have hN : N = 0 := by omega
    subst hN
    exact ⟨none, 0, rfl, ⟨Nat.le_refl _, fun hn => absurd hn (Nat.lt_irrefl _)⟩, fun _ => rfl⟩
  · refine ⟨_, k, rfl, ⟨hnc, fun _ => ⟨g, 0, rfl, (Array.getElem?_eq_some_iff.1 hg).1, fun i hi => ?_⟩⟩, (fun e => by cases e)⟩
    have hx := hF i hi
    rw [← ht, List.getElem?_take, if_pos (by omega)] at hx
    simp only [World.cell?, hg, Nat.zero_add]
    simpa using hx
theorem own_neV {W : World} {base T U c N B : Nat} {v : Value} {xs : List Value} {x0 x1 x2 x3 : Value} (h : W.ownsRow base T c v N xs) (hV : V4 W B U x0 x1 x2 x3) (hT : T ≠ U) : v.ownBlock ≠ some B := by
  intro e
  obtain ⟨-, -, cur, z, hc⟩ := own_blkN h e
  obtain ⟨c2, h2, -⟩ := hV
  rw [hc] at h2
  cases h2
  exact hT rfl
theorem own_neO {W : World} {base base' T U c c' N N' : Nat} {v v' : Value} {xs xs' : List Value} (h : W.ownsRow base T c v N xs) (h' : W.ownsRow base' U c' v' N' xs') (hT : T ≠ U) : ∀ k, v'.ownBlock = some k → v.ownBlock ≠ some k := by
  intro k e e'
  obtain ⟨-, -, cur, z, hc⟩ := own_blkN h e'
  obtain ⟨-, -, cur', z', hc'⟩ := own_blkN h' e
  rw [hc] at hc'
  cases hc'
  exact hT rfl
theorem V4.grownN {W W' : World} {B : Nat} {T : TypeId} {x0 x1 x2 x3 : Value} {row : Option Nat} (h : V4 W B T x0 x1 x2 x3) (hg : W.grownBy W' row) (hne : row ≠ some B) : V4 W' B T x0 x1 x2 x3 := h.block (hg.block B h.lt (fun e => hne e.symm))
/-- The rows of a drawn node. -/
structure RN (w W : World) (b2 : Nat) (kv vv dv : Value) (L : NL) : Prop where
  k : W.ownsRow w.heap.size 9 1 kv L.ks.length (txc L.ks)
  v : W.ownsRow b2 9 1 vv L.vs.length (txc L.vs)
  d : W.ownsRow w.heap.size 3 1 dv L.ds.length (nuc L.ds)
  kb : ∀ j, kv.ownBlock = some j → j < b2
  b2w : w.heap.size ≤ b2 ∧ b2 ≤ W.heap.size
theorem RN.grown {w W W' : World} {b2 : Nat} {kv vv dv : Value} {L : NL} {row : Option Nat} (h : RN w W b2 kv vv dv L) (hg : W.grownBy W' row) (hr : ∀ j, row = some j → j < w.heap.size) : RN w W' b2 kv vv dv L :=
  have hb := h.b2w
  ⟨own_grownN h.k hg (fun j e e' => by have := (own_blkN h.k e).1; have := hr j e'; omega), own_grownN h.v hg (fun j e e' => by have := (own_blkN h.v e).1; have := hr j e'; omega), own_grownN h.d hg (fun j e e' => by have := (own_blkN h.d e).1; have := hr j e'; omega), h.kb, hb.1, Nat.le_trans hb.2 hg.size⟩
/-- .. while a variable of the node's type is written. -/
theorem RN.set {w W : World} {b2 X i : Nat} {kv vv dv u : Value} {L : NL} {x0 x1 x2 x3 : Value} (h : RN w W b2 kv vv dv L) (hV : V4 W X 27 x0 x1 x2 x3) : RN w (W.setCell ⟨X, i, none⟩ u) b2 kv vv dv L :=
  have hb := h.b2w
  ⟨own_grownN h.k (grown_set W X i u) (fun j e e' => own_neV h.k hV (by decide) (by rw [e]; exact e'.symm)), own_grownN h.v (grown_set W X i u) (fun j e e' => own_neV h.v hV (by decide) (by rw [e]; exact e'.symm)), own_grownN h.d (grown_set W X i u) (fun j e e' => own_neV h.d hV (by decide) (by rw [e]; exact e'.symm)), h.kb, hb.1, by simpa using hb.2⟩
theorem RN.below {w W W' : World} {b2 : Nat} {kv vv dv : Value} {L : NL} (h : RN w W b2 kv vv dv L) (hb : Below W.heap.size W W') : RN w W' b2 kv vv dv L :=
  h.grown (row := none) ⟨hb.os, hb.tape, hb.output, hb.size, fun k hk _ => hb.block k hk⟩ (fun j e => by cases e)
theorem RN.but {w W W' : World} {b2 g : Nat} {kv vv dv : Value} {L : NL} (h : RN w W b2 kv vv dv L) (hb : But g W W') (hg : g < w.heap.size) : RN w W' b2 kv vv dv L :=
  h.grown hb.grown (fun j e => by cases e; exact hg)
/-- A key more, while there is no value. -/
theorem RN.addK {w W W' : World} {b2 : Nat} {kv dv k2 : Value} {L : NL} {s : ByteArray} (h : RN w W b2 kv (.slice none 0 0) dv L) (hv : L.vs = []) (hg : W.grownBy W' kv.ownBlock) (hO : W'.ownsRow w.heap.size 9 1 k2 (L.ks.length + 1) (txc L.ks ++ [.string s])) : RN w W' W'.heap.size k2 (.slice none 0 0) dv { L with ks := L.ks ++ [s] } :=
  ⟨by show W'.ownsRow _ _ 1 k2 (L.ks ++ [s]).length (txc (L.ks ++ [s])); rw [List.length_append, txc_app]; exact hO, by show W'.ownsRow _ _ 1 _ L.vs.length (txc L.vs); rw [hv]; exact World.ownsRow_nil _ _ _ _, own_grownN h.d hg (own_neO h.k h.d (by decide)), fun j e => (own_blkN hO e).2.1, by have := h.b2w; have := hg.size; omega, Nat.le_refl _⟩
/-- A value more. -/
theorem RN.addV {w W W' : World} {b2 : Nat} {kv vv dv v2 : Value} {L : NL} {s : ByteArray} (h : RN w W b2 kv vv dv L) (hg : W.grownBy W' vv.ownBlock) (hO : W'.ownsRow b2 9 1 v2 (L.vs.length + 1) (txc L.vs ++ [.string s])) : RN w W' b2 kv v2 dv { L with vs := L.vs ++ [s] } :=
  ⟨own_grownN h.k hg (fun j e e' => by have := h.kb j e; have := (own_blkN h.v e').1; omega), by show W'.ownsRow _ _ 1 v2 (L.vs ++ [s]).length (txc (L.vs ++ [s])); rw [List.length_append, txc_app]; exact hO, own_grownN h.d hg (own_neO h.v h.d (by decide)), h.kb, h.b2w.1, Nat.le_trans h.b2w.2 hg.size⟩
/-- A kid more. -/
theorem RN.addD {w W W' : World} {b2 : Nat} {kv vv dv d2 : Value} {L : NL} {s : Int} (h : RN w W b2 kv vv dv L) (hg : W.grownBy W' dv.ownBlock) (hO : W'.ownsRow w.heap.size 3 1 d2 (L.ds.length + 1) (nuc L.ds ++ [.int .i64 s])) : RN w W' b2 kv vv d2 { L with ds := L.ds ++ [s] } :=
  ⟨own_grownN h.k hg (own_neO h.d h.k (by decide)), own_grownN h.v hg (own_neO h.d h.v (by decide)), by show W'.ownsRow _ _ 1 d2 (L.ds ++ [s]).length (nuc (L.ds ++ [s])); rw [List.length_append, nuc_app]; exact hO, h.kb, h.b2w.1, Nat.le_trans h.b2w.2 hg.size⟩
/-- The three rows read. -/
structure RV3 (W : World) (kv vv dv : Value) (L : NL) : Prop where
  k : ∃ a c, kv = .slice a L.ks.length c ∧ TxV W a L.ks.length c L.pn.key ∧ (a = none → c = 0)
  v : ∃ a c, vv = .slice a L.vs.length c ∧ TxV W a L.vs.length c L.pn.val ∧ (a = none → c = 0)
  d : ∃ a c, dv = .slice a L.ds.length c ∧ NuV W a L.ds.length c L.pn.kid ∧ (a = none → c = 0)
theorem own_tx {W : World} {base : Nat} {v : Value} {l : List ByteArray} (h : W.ownsRow base 9 1 v l.length (txc l)) : ∃ a c, v = .slice a l.length c ∧ TxV W a l.length c (fun i => l.getD i ⟨#[]⟩) ∧ (a = none → c = 0) :=
  ov_own h (fun i hi => by simp [txc, List.getD, hi])
theorem own_nu {W : World} {base : Nat} {v : Value} {l : List Int} (h : W.ownsRow base 3 1 v l.length (nuc l)) : ∃ a c, v = .slice a l.length c ∧ NuV W a l.length c (fun i => l.getD i 0) ∧ (a = none → c = 0) :=
  ov_own h (fun i hi => by simp [nuc, List.getD, hi])
theorem RN.rv {w W : World} {b2 : Nat} {kv vv dv : Value} {L : NL} (h : RN w W b2 kv vv dv L) : RV3 W kv vv dv L := ⟨own_tx h.k, own_tx h.v, own_nu h.d⟩
theorem RV3.below {W W' : World} {kv vv dv : Value} {L : NL} (h : RV3 W kv vv dv L) (hb : Below W.heap.size W W') : RV3 W' kv vv dv L := by
  obtain ⟨⟨a, c, e, h1, q1⟩, ⟨a2, c2, e2, h2, q2⟩, ⟨a3, c3, e3, h3, q3⟩⟩ := h
  exact ⟨⟨a, c, e, h1.below hb, q1⟩, ⟨a2, c2, e2, h2.below hb, q2⟩, ⟨a3, c3, e3, h3.below hb, q3⟩⟩
theorem RV3.view {W : World} {kv vv dv : Value} {L : NL} (h : RV3 W kv vv dv L) : NdView W (.agg #[.bool L.leaf, kv, vv, dv]) L.pn := by
  obtain ⟨⟨a, c, e, h1, -⟩, ⟨a2, c2, e2, h2, -⟩, ⟨a3, c3, e3, h3, -⟩⟩ := h
  subst e e2 e3
  exact ⟨a, c, a2, c2, a3, c3, rfl, h1, h2, h3⟩
theorem V4.butN {W W' : World} {B g : Nat} {T : TypeId} {x0 x1 x2 x3 : Value} (h : V4 W B T x0 x1 x2 x3) (hb : But g W W') (hne : g ≠ B) : V4 W' B T x0 x1 x2 x3 := h.grownN hb.grown (fun e => hne (by cases e; rfl))
end Go.Proofs.Ytaiinlcdfeboiaa

