/-
  Together: Base, Row34, Plain, PutPlain, TokPlain, DefPlain, But, DefView, RowG, Info, Draw, DrawBut, DefBox, DrawKit9, DrawOnce, Draw9Two
-/
import Derived.WalkKit
import Derived.Deep.OwnRows
import Derived.Deep.LoopGhost
import Derived.OpenShut
import Derived.Laws.BitsAllLaws
import Derived.Laws.Bits128
import Derived.Test.YtfjlmkphncigladGreatDoorChecked
import Derived.WalkSpells
import Derived.Test.YtfjlmkphncigladGreatDoorProg
import Derived.Deep.RegionHeld3
/-
  What a walk over bytes is told of a slice of bytes that it reads ('View'), and how that is carried from one world to the next. No program text is named here.
-/
namespace Go.Proofs.YtfjlmkphncigladGreatDoor
open Go.RowKit
set_option maxRecDepth 4000

/-- The slice value '.slice ao n cap' reads, in the world w, as the n bytes f 0 up to f (n - 1). -/
structure View (w : World) (ao : Option Addr) (n cap : Nat) (f : Nat → Int) : Prop where
  le : n ≤ cap
  byte : ∀ i, i < n → 0 ≤ f i ∧ f i ≤ 255
  cells : 0 < n → ∃ b off, ao = some ⟨b, off, none⟩ ∧ b < w.heap.size ∧ ∀ i, i < n → w.cell? ⟨b, off + i, none⟩ = some (.int .u8 (f i))

/-- What was there reads as it did. -/
theorem View.below {w w' : World} {ao : Option Addr} {n cap : Nat} {f : Nat → Int} (h : View w ao n cap f) (hb : Below w.heap.size w w') : View w' ao n cap f := by
  refine ⟨h.le, h.byte, fun hn => ?_⟩
  obtain ⟨b, off, e, hlt, hc⟩ := h.cells hn
  exact ⟨b, off, e, Nat.lt_of_lt_of_le hlt hb.size, fun i hi => by rw [hb.cell (p := ⟨b, off + i, none⟩) hlt]; exact hc i hi⟩

theorem View.drew {w : World} {ao : Option Addr} {n cap : Nat} {f : Nat → Int} (h : View w ao n cap f) : View w.drew ao n cap f := h.below (Below.refl _ _).drew

theorem View.take {w : World} {ao : Option Addr} {n cap m : Nat} {f : Nat → Int} (h : View w ao n cap f) (hm : m ≤ n) : View w ao m cap f := by
  refine ⟨Nat.le_trans hm h.le, fun i hi => h.byte i (by omega), fun h0 => ?_⟩
  obtain ⟨b, off, e, hb, hc⟩ := h.cells (by omega)
  exact ⟨b, off, e, hb, fun i hi => hc i (by omega)⟩

theorem View.congr {w : World} {ao : Option Addr} {n cap : Nat} {f g : Nat → Int} (h : View w ao n cap f) (e : ∀ i, i < n → f i = g i) : View w ao n cap g := by
  refine ⟨h.le, fun i hi => by rw [← e i hi]; exact h.byte i hi, fun hn => ?_⟩
  obtain ⟨b, off, ea, hlt, hc⟩ := h.cells hn
  exact ⟨b, off, ea, hlt, fun i hi => by rw [← e i hi]; exact hc i hi⟩

/-- What the frame of a row hands over of a slice of bytes that came in, as a view. -/
theorem View.ofIn {w : World} {a : Option Addr} {len cap : Nat} {zs : List Int}
    (h : (a = none ∧ len = 0 ∧ cap = 0 ∧ zs = []) ∨ ∃ x, a = some x ∧ len ≤ cap ∧ cap ≤ maxLen ∧ zs.length = cap ∧ (∀ i, i < zs.length → w.cell? (x.add i) = some (.int .u8 (zs.getD i 0))) ∧ ∀ n ∈ zs, (Lit.int .u8 n).wf = true) :
    View w a len cap (fun i => zs.getD i 0) := by
  rcases h with ⟨rfl, rfl, rfl, rfl⟩ | ⟨x, rfl, hl, _, hz, hc, hw⟩
  · exact ⟨Nat.le_refl _, fun i hi => absurd hi (Nat.not_lt_zero _), fun h => absurd h (Nat.lt_irrefl _)⟩
  · refine ⟨hl, fun i _ => by simpa using range_u8 hw i, fun hn => ?_⟩
    obtain ⟨b, off, spot⟩ := x
    have h0 := hc 0 (by omega)
    have hs : spot = none := by simpa [Addr.add] using World.cell?_spot h0
    subst hs
    refine ⟨b, off, rfl, ?_, fun i hi => ?_⟩
    · exact World.block_lt_of_cell? _ _ h0
    · have h1 := hc i (by omega)
      have e : (⟨b, off, none⟩ : Addr).add i = ⟨b, off + i, none⟩ := by unfold Addr.add; split <;> simp_all
      rw [e] at h1
      exact h1

theorem lenOfIn {w : World} {a : Option Addr} {len cap : Nat} {zs : List Int}
    (h : (a = none ∧ len = 0 ∧ cap = 0 ∧ zs = []) ∨ ∃ x, a = some x ∧ len ≤ cap ∧ cap ≤ maxLen ∧ zs.length = cap ∧ (∀ i, i < zs.length → w.cell? (x.add i) = some (.int .u8 (zs.getD i 0))) ∧ ∀ n ∈ zs, (Lit.int .u8 n).wf = true) : len ≤ 9223372036854775807 := by
  rcases h with ⟨_, rfl, _, _⟩ | ⟨_, _, h1, h2, _⟩
  · exact Nat.zero_le _
  · unfold maxLen at h2; omega

/-- A row of the call's own reads as what it holds. -/
theorem View.ofRow {w : World} {b : Nat} {t : TypeId} {m n cap : Nat} {f : Nat → Int} (h : w.rowIs b t m (fun i => .int .u8 (f i))) (hn : n ≤ m) (hc : n ≤ cap) (hb : ∀ i, i < n → 0 ≤ f i ∧ f i ≤ 255) : View w (some ⟨b, 0, none⟩) n cap f :=
  ⟨hc, hb, fun _ => ⟨b, 0, rfl, h.lt, fun i hi => by rw [Nat.zero_add]; exact h.cell (by omega)⟩⟩

theorem rowBelow {w w' : World} {b : Nat} {t : TypeId} {n : Nat} {f : Nat → Value} {B : Nat} (h : w.rowIs b t n f) (hb : Below B w w') (hlt : b < B) : w'.rowIs b t n f := h.of_block (hb.block b hlt)

/-- Block b is a row of bytes of the call's own, none frozen, whose first n are f 0 up to f (n - 1) (t: the number of the bytes' type). -/
def Row (t : TypeId) (w : World) (b n : Nat) (f : Nat → Int) : Prop :=
  ∃ c : Array Value, w.heap[b]? = some (.cells c t (0, 0)) ∧ n ≤ c.size ∧ ∀ i, i < n → c[i]? = some (.int .u8 (f i))

namespace Row
variable {t : TypeId} {w w' : World} {b n : Nat} {f g : Nat → Int}
theorem cell (h : Row t w b n f) {i : Nat} (hi : i < n) : w.cell? ⟨b, i, none⟩ = some (.int .u8 (f i)) := by
  obtain ⟨c, hb, _, hc⟩ := h
  simp [World.cell?, hb, hc i hi]
theorem frozen (h : Row t w b n f) (i : Nat) : w.frozen? ⟨b, i, none⟩ = false := by
  obtain ⟨c, hb, _, _⟩ := h
  simp [World.frozen?, hb]
theorem lt (h : Row t w b n f) : b < w.heap.size := by
  obtain ⟨c, hb, _, _⟩ := h
  exact (Array.getElem?_eq_some_iff.1 hb).1
theorem congr (h : Row t w b n f) (e : ∀ i, i < n → f i = g i) : Row t w b n g := by
  obtain ⟨c, hb, hn, hc⟩ := h
  exact ⟨c, hb, hn, fun i hi => by rw [hc i hi, e i hi]⟩
theorem of_block (h : Row t w b n f) (e : w'.heap[b]? = w.heap[b]?) : Row t w' b n f := by
  obtain ⟨c, hb, hn, hc⟩ := h
  exact ⟨c, e.trans hb, hn, hc⟩
theorem below {B : Nat} (h : Row t w b n f) (hb : Below B w w') (hlt : b < B) : Row t w' b n f := h.of_block (hb.block b hlt)
theorem belowAll (h : Row t w b n f) (hb : Below w.heap.size w w') : Row t w' b n f := h.below hb h.lt
theorem ofIs (h : w.rowIs b t n (fun i => .int .u8 (f i))) : Row t w b n f := by
  obtain ⟨c, hb, hn, hc⟩ := h
  exact ⟨c, hb, by omega, hc⟩
theorem set (h : Row t w b n f) (i : Nat) (x : Int) : Row t (w.setCell ⟨b, i, none⟩ (.int .u8 x)) b n (fun j => if j = i then x else f j) := by
  obtain ⟨c, hb, hn, hc⟩ := h
  refine ⟨c.setIfInBounds i (.int .u8 x), ?_, by simpa using hn, fun j hj => ?_⟩
  · simp [World.setCell, Array.getElem?_modify, hb]
  · rw [Array.getElem?_setIfInBounds]
    by_cases e : j = i
    · subst e
      have : j < c.size := by omega
      simp [this]
    · rw [if_neg (fun h => e h.symm)]
      show c[j]? = some (.int .u8 (if j = i then x else f j))
      rw [if_neg e]
      exact hc j hj
theorem view {cap : Nat} (h : Row t w b n f) (hc : n ≤ cap) (hb : ∀ i, i < n → 0 ≤ f i ∧ f i ≤ 255) : View w (some ⟨b, 0, none⟩) n cap f :=
  ⟨hc, hb, fun _ => ⟨b, 0, rfl, h.lt, fun i hi => by rw [Nat.zero_add]; exact h.cell hi⟩⟩
end Row

/-- Block b alone may have turned; no block has come or gone. -/
structure Only (b : Nat) (w w' : World) : Prop where
  os : w'.os = w.os
  tape : w'.tape = w.tape
  output : w'.output = w.output
  size : w'.heap.size = w.heap.size
  block : ∀ k, k ≠ b → w'.heap[k]? = w.heap[k]?

theorem Only.refl (b : Nat) (w : World) : Only b w w := ⟨rfl, rfl, rfl, rfl, fun _ _ => rfl⟩
theorem Only.drew {b : Nat} {w w' : World} (h : Only b w w') : Only b w w'.drew := ⟨h.os, h.tape, h.output, h.size, h.block⟩
theorem Only.setCell {b i : Nat} {w w' : World} (h : Only b w w') (u : Value) : Only b w (w'.setCell ⟨b, i, none⟩ u) :=
  ⟨h.os, h.tape, h.output, by simpa using h.size, fun k hk => by rw [Below.heap_setCell _ _ _ _ (by exact hk)]; exact h.block k hk⟩
theorem Only.below {b B : Nat} {w w' : World} (h : Only b w w') (hB : B ≤ b) : Below B w w' :=
  ⟨h.os, h.tape, h.output, by rw [h.size]; exact Nat.le_refl _, fun k hk => h.block k (by omega)⟩
theorem Only.row {t : TypeId} {b b' n : Nat} {f : Nat → Int} {w w' : World} (h : Only b w w') (hr : Row t w b' n f) (hne : b' ≠ b) : Row t w' b' n f := hr.of_block (h.block b' hne)
theorem Only.view {b : Nat} {ao : Option Addr} {n cap : Nat} {f : Nat → Int} {w w' : World} (h : Only b w w') (hv : View w ao n cap f) (hne : ∀ a, ao = some a → a.block ≠ b) : View w' ao n cap f := by
  refine ⟨hv.le, hv.byte, fun hn => ?_⟩
  obtain ⟨b', off, e, hlt, hc⟩ := hv.cells hn
  refine ⟨b', off, e, by rw [h.size]; exact hlt, fun i hi => ?_⟩
  rw [World.cell?_of_block (w := w) (h.block b' (hne _ e))]
  exact hc i hi

end Go.Proofs.YtfjlmkphncigladGreatDoor

/-
  Variables of three and of four cells, as rows.
-/
namespace Go.Proofs.YtfjlmkphncigladGreatDoor
open Go.RowKit
set_option maxRecDepth 4000

def cell3 (x0 x1 x2 : Value) : Nat → Value
  | 0 => x0
  | 1 => x1
  | _ => x2
def cell4 (x0 x1 x2 x3 : Value) : Nat → Value
  | 0 => x0
  | 1 => x1
  | 2 => x2
  | _ => x3
/-- A variable of three cells. -/
def V3 (w : World) (B : Nat) (T : TypeId) (x0 x1 x2 : Value) : Prop := w.rowIs B T 3 (cell3 x0 x1 x2)
/-- A variable of four cells. -/
def V4 (w : World) (B : Nat) (T : TypeId) (x0 x1 x2 x3 : Value) : Prop := w.rowIs B T 4 (cell4 x0 x1 x2 x3)
theorem V3.new (w : World) (T : TypeId) (x0 x1 x2 : Value) : V3 (w.alloc (.cells #[x0, x1, x2] T)) w.heap.size T x0 x1 x2 :=
  World.rowIs_alloc w _ T (cell3 x0 x1 x2) (fun j hj => by match j, hj with | 0, _ => rfl | 1, _ => rfl | 2, _ => rfl)
theorem V4.new (w : World) (T : TypeId) (x0 x1 x2 x3 : Value) : V4 (w.alloc (.cells #[x0, x1, x2, x3] T)) w.heap.size T x0 x1 x2 x3 :=
  World.rowIs_alloc w _ T (cell4 x0 x1 x2 x3) (fun j hj => by match j, hj with | 0, _ => rfl | 1, _ => rfl | 2, _ => rfl | 3, _ => rfl)
theorem V3.lt {w : World} {B : Nat} {T : TypeId} {x0 x1 x2 : Value} (h : V3 w B T x0 x1 x2) : B < w.heap.size := World.rowIs.lt h
theorem V4.lt {w : World} {B : Nat} {T : TypeId} {x0 x1 x2 x3 : Value} (h : V4 w B T x0 x1 x2 x3) : B < w.heap.size := World.rowIs.lt h
theorem V3.block {w w' : World} {B : Nat} {T : TypeId} {x0 x1 x2 : Value} (h : V3 w B T x0 x1 x2) (e : w'.heap[B]? = w.heap[B]?) : V3 w' B T x0 x1 x2 := World.rowIs.of_block h e
theorem V4.block {w w' : World} {B : Nat} {T : TypeId} {x0 x1 x2 x3 : Value} (h : V4 w B T x0 x1 x2 x3) (e : w'.heap[B]? = w.heap[B]?) : V4 w' B T x0 x1 x2 x3 := World.rowIs.of_block h e
theorem V3.below {w w' : World} {B : Nat} {T : TypeId} {x0 x1 x2 : Value} (h : V3 w B T x0 x1 x2) (hb : Below w.heap.size w w') : V3 w' B T x0 x1 x2 := h.block (hb.block B h.lt)
theorem V4.below {w w' : World} {B : Nat} {T : TypeId} {x0 x1 x2 x3 : Value} (h : V4 w B T x0 x1 x2 x3) (hb : Below w.heap.size w w') : V4 w' B T x0 x1 x2 x3 := h.block (hb.block B h.lt)
theorem V3.cells {w : World} {B : Nat} {T : TypeId} {x0 x1 x2 : Value} (h : V3 w B T x0 x1 x2) : w.cell? ⟨B, 0, none⟩ = some x0 ∧ w.cell? ⟨B, 1, none⟩ = some x1 ∧ w.cell? ⟨B, 2, none⟩ = some x2 :=
  ⟨World.rowIs.cell h (i := 0) (by decide), World.rowIs.cell h (i := 1) (by decide), World.rowIs.cell h (i := 2) (by decide)⟩
theorem V4.cells {w : World} {B : Nat} {T : TypeId} {x0 x1 x2 x3 : Value} (h : V4 w B T x0 x1 x2 x3) : w.cell? ⟨B, 0, none⟩ = some x0 ∧ w.cell? ⟨B, 1, none⟩ = some x1 ∧ w.cell? ⟨B, 2, none⟩ = some x2 ∧ w.cell? ⟨B, 3, none⟩ = some x3 :=
  ⟨World.rowIs.cell h (i := 0) (by decide), World.rowIs.cell h (i := 1) (by decide), World.rowIs.cell h (i := 2) (by decide), World.rowIs.cell h (i := 3) (by decide)⟩
theorem V3.fz {w : World} {B : Nat} {T : TypeId} {x0 x1 x2 : Value} (h : V3 w B T x0 x1 x2) : w.frozen? ⟨B, 0, none⟩ = false ∧ w.frozen? ⟨B, 1, none⟩ = false ∧ w.frozen? ⟨B, 2, none⟩ = false :=
  ⟨World.rowIs.frozen h 0, World.rowIs.frozen h 1, World.rowIs.frozen h 2⟩
theorem V4.fz {w : World} {B : Nat} {T : TypeId} {x0 x1 x2 x3 : Value} (h : V4 w B T x0 x1 x2 x3) : w.frozen? ⟨B, 0, none⟩ = false ∧ w.frozen? ⟨B, 1, none⟩ = false ∧ w.frozen? ⟨B, 2, none⟩ = false ∧ w.frozen? ⟨B, 3, none⟩ = false :=
  ⟨World.rowIs.frozen h 0, World.rowIs.frozen h 1, World.rowIs.frozen h 2, World.rowIs.frozen h 3⟩
theorem V3.other {w : World} {B C i : Nat} {T : TypeId} {x0 x1 x2 u : Value} (h : V3 w B T x0 x1 x2) (hne : B ≠ C) : V3 (w.setCell ⟨C, i, none⟩ u) B T x0 x1 x2 := h.block (Below.heap_setCell _ _ _ _ hne)
theorem V4.other {w : World} {B C i : Nat} {T : TypeId} {x0 x1 x2 x3 u : Value} (h : V4 w B T x0 x1 x2 x3) (hne : B ≠ C) : V4 (w.setCell ⟨C, i, none⟩ u) B T x0 x1 x2 x3 := h.block (Below.heap_setCell _ _ _ _ hne)
theorem V3.set0 {w : World} {B : Nat} {T : TypeId} {x0 x1 x2 : Value} (h : V3 w B T x0 x1 x2) (u : Value) : V3 (w.setCell ⟨B, 0, none⟩ u) B T u x1 x2 :=
  (World.rowIs.set h 0 _).congr (fun j hj => by match j, hj with | 0, _ => rfl | 1, _ => rfl | 2, _ => rfl)
theorem V3.set1 {w : World} {B : Nat} {T : TypeId} {x0 x1 x2 : Value} (h : V3 w B T x0 x1 x2) (u : Value) : V3 (w.setCell ⟨B, 1, none⟩ u) B T x0 u x2 :=
  (World.rowIs.set h 1 _).congr (fun j hj => by match j, hj with | 0, _ => rfl | 1, _ => rfl | 2, _ => rfl)
theorem V3.set2 {w : World} {B : Nat} {T : TypeId} {x0 x1 x2 : Value} (h : V3 w B T x0 x1 x2) (u : Value) : V3 (w.setCell ⟨B, 2, none⟩ u) B T x0 x1 u :=
  (World.rowIs.set h 2 _).congr (fun j hj => by match j, hj with | 0, _ => rfl | 1, _ => rfl | 2, _ => rfl)
theorem V4.set0 {w : World} {B : Nat} {T : TypeId} {x0 x1 x2 x3 : Value} (h : V4 w B T x0 x1 x2 x3) (u : Value) : V4 (w.setCell ⟨B, 0, none⟩ u) B T u x1 x2 x3 :=
  (World.rowIs.set h 0 _).congr (fun j hj => by match j, hj with | 0, _ => rfl | 1, _ => rfl | 2, _ => rfl | 3, _ => rfl)
theorem V4.set1 {w : World} {B : Nat} {T : TypeId} {x0 x1 x2 x3 : Value} (h : V4 w B T x0 x1 x2 x3) (u : Value) : V4 (w.setCell ⟨B, 1, none⟩ u) B T x0 u x2 x3 :=
  (World.rowIs.set h 1 _).congr (fun j hj => by match j, hj with | 0, _ => rfl | 1, _ => rfl | 2, _ => rfl | 3, _ => rfl)
theorem V4.set2 {w : World} {B : Nat} {T : TypeId} {x0 x1 x2 x3 : Value} (h : V4 w B T x0 x1 x2 x3) (u : Value) : V4 (w.setCell ⟨B, 2, none⟩ u) B T x0 x1 u x3 :=
  (World.rowIs.set h 2 _).congr (fun j hj => by match j, hj with | 0, _ => rfl | 1, _ => rfl | 2, _ => rfl | 3, _ => rfl)
theorem V4.set3 {w : World} {B : Nat} {T : TypeId} {x0 x1 x2 x3 : Value} (h : V4 w B T x0 x1 x2 x3) (u : Value) : V4 (w.setCell ⟨B, 3, none⟩ u) B T x0 x1 x2 u :=
  (World.rowIs.set h 3 _).congr (fun j hj => by match j, hj with | 0, _ => rfl | 1, _ => rfl | 2, _ => rfl | 3, _ => rfl)
end Go.Proofs.YtfjlmkphncigladGreatDoor

/-
  Plain facts on numbers: and, or, exclusive or of two numbers that are not negative, as Go's int has them. No program text is named here.
-/
namespace Go.Proofs.YtfjlmkphncigladGreatDoor
open Go.RowKit
set_option maxRecDepth 4000

theorem wrapNat63 (n : Nat) (h : n < 9223372036854775808) : IntKind.i64.wrap (n : Int) = (n : Int) := by
  rw [IntKind.wrap_i64]; omega

theorem i64_xor_nat (a b : Nat) (ha : a < 9223372036854775808) (hb : b < 9223372036854775808) : bits .xor .i64 (a : Int) (b : Int) = ((a ^^^ b : Nat) : Int) := by
  have h : a ^^^ b < 9223372036854775808 := Nat.xor_lt_two_pow (n := 63) ha hb
  show IntKind.i64.wrap ((BitVec.ofInt 64 (a : Int) ^^^ BitVec.ofInt 64 (b : Int)).toNat : Nat) = _
  rw [BitVec.toNat_xor, ofInt_u64 a (by omega), ofInt_u64 b (by omega), wrapNat63 _ h]

theorem i64_or_nat (a b : Nat) (ha : a < 9223372036854775808) (hb : b < 9223372036854775808) : bits .or .i64 (a : Int) (b : Int) = ((a ||| b : Nat) : Int) := by
  have h : a ||| b < 9223372036854775808 := Nat.or_lt_two_pow (n := 63) ha hb
  show IntKind.i64.wrap ((BitVec.ofInt 64 (a : Int) ||| BitVec.ofInt 64 (b : Int)).toNat : Nat) = _
  rw [BitVec.toNat_or, ofInt_u64 a (by omega), ofInt_u64 b (by omega), wrapNat63 _ h]

theorem i64_and_nat (a b : Nat) (ha : a < 9223372036854775808) (hb : b < 9223372036854775808) : bits .and .i64 (a : Int) (b : Int) = ((a &&& b : Nat) : Int) := by
  have h : a &&& b < 9223372036854775808 := Nat.and_lt_two_pow (n := 63) _ hb
  show IntKind.i64.wrap ((BitVec.ofInt 64 (a : Int) &&& BitVec.ofInt 64 (b : Int)).toNat : Nat) = _
  rw [BitVec.toNat_and, ofInt_u64 a (by omega), ofInt_u64 b (by omega), wrapNat63 _ h]

theorem i64_and1 (n : Nat) (h : n < 9223372036854775808) : bits .and .i64 (n : Int) 1 = ((n % 2 : Nat) : Int) := by
  have := i64_and_nat n 1 h (by decide)
  rw [nat_mask1] at this; exact this

/-- What is laid above the lower i bits is added. -/
theorem i64_or_add (i : Nat) (a b : Int) (h0 : 0 ≤ a) (h1 : a < 2 ^ i) (h2 : 0 ≤ b) (h3 : b % 2 ^ i = 0) (h4 : b < 9223372036854775808) (h5 : (2 : Int) ^ i ≤ 9223372036854775808) : bits .or .i64 a b = a + b := by
  obtain ⟨x, rfl⟩ := Int.eq_ofNat_of_zero_le h0
  obtain ⟨y, rfl⟩ := Int.eq_ofNat_of_zero_le h2
  have e : ((2 ^ i : Nat) : Int) = 2 ^ i := by simp
  rw [← e] at h1 h3 h5
  have h3' : y % 2 ^ i = 0 := by omega
  rw [i64_or_nat x y (by omega) (by omega), Nat.or_comm, nat_join i y x h3' (by omega)]
  omega

theorem u8_wrap (x : Int) : IntKind.u8.wrap x = x % 256 := by simp [IntKind.wrap, IntKind.bits, IntKind.signed]

end Go.Proofs.YtfjlmkphncigladGreatDoor

/-
  A number as its groups, plainly; lists of bytes that the call owns as rows.
-/
namespace Go.Proofs.YtfjlmkphncigladGreatDoor
open Go.RowKit
set_option maxRecDepth 4000

def groups (x : Int) : List Int := if x < 128 then [x] else if x < 16384 then [x % 128 + 128, x / 128] else [x % 128 + 128, x / 128 % 128 + 128, x / 16384]
theorem groups_last (x : Int) (h : x < 128) : groups x = [x] := by unfold groups; rw [if_pos h]
theorem groups_step (x : Int) (h : 128 ≤ x) (h1 : x ≤ 1000000) : groups x = (x % 128 + 128) :: groups (x / 128) := by
  unfold groups
  rw [if_neg (by omega)]
  by_cases h2 : x < 16384
  · rw [if_pos h2, if_pos (by omega)]
  · rw [if_neg h2, if_neg (by omega), if_pos (by omega)]
    have : x / 128 / 128 = x / 16384 := by omega
    rw [this]
theorem groups_len (x : Int) : 1 ≤ (groups x).length ∧ (groups x).length ≤ 3 := by
  unfold groups; split
  · simp
  · split <;> simp
theorem groups_byte (x : Int) (h0 : 0 ≤ x) (h1 : x ≤ 1000000) : ∀ y ∈ groups x, 0 ≤ y ∧ y ≤ 255 := by
  unfold groups; intro y hy; split at hy
  · simp at hy; omega
  · split at hy
    · simp at hy; omega
    · simp at hy; omega

def clampN (x : Int) : Int := if x < 0 then 0 else if 1000000 < x then 1000000 else x
theorem clampN_bd (x : Int) : 0 ≤ clampN x ∧ clampN x ≤ 1000000 := by unfold clampN; split <;> (try split) <;> omega

def lof (n : Nat) (f : Nat → Int) : List Int := (List.range n).map f
theorem lof_len (n : Nat) (f : Nat → Int) : (lof n f).length = n := by simp [lof]
theorem lof_get (n : Nat) (f : Nat → Int) (i : Nat) (h : i < n) : (lof n f).getD i 0 = f i := by simp [lof, h]
def bl (l : List Int) : List Value := l.map (Value.int .u8)
theorem bl_len (l : List Int) : (bl l).length = l.length := by simp [bl]
theorem bl_append (l m : List Int) : bl (l ++ m) = bl l ++ bl m := by simp [bl]
theorem bl_one (l : List Int) : ∀ u ∈ bl l, u.oneCell' = true := by
  intro u hu
  simp only [bl, List.mem_map] at hu
  obtain ⟨x, _, rfl⟩ := hu
  rfl

/-- What the call owns as a list of bytes, as a row. -/
theorem row_of_own {base : Nat} {t : TypeId} {v : Value} {N : Nat} {l : List Int} {w : World} (h : w.ownsRow base t 1 v N (bl l)) (hN : 0 < N) :
    ∃ g c, v = .slice (some ⟨g, 0, none⟩) N c ∧ base ≤ g ∧ N ≤ c ∧ Row t w g N (fun i => l.getD i 0) := by
  obtain ⟨hl, h⟩ := h
  rcases h with ⟨_, h0⟩ | ⟨g, c, cur, rfl, hb, hg, hnc, _, hcs, ht⟩
  · omega
  · refine ⟨g, c, rfl, hb, hnc, cur, hg, by omega, fun i hi => ?_⟩
    have e : (bl l)[i]? = some (.int .u8 (l.getD i 0)) := by
      have : i < l.length := by rw [bl_len] at hl; omega
      simp [bl, this]
    rw [← ht, List.getElem?_take, if_pos (by omega)] at e
    simpa using e

theorem row_of_own' {base : Nat} {t : TypeId} {v : Value} {N : Nat} {l : List Int} {w : World} (h : w.ownsRow base t 1 v N (bl l)) (hv : v ≠ .slice none 0 0) :
    ∃ g c, v = .slice (some ⟨g, 0, none⟩) N c ∧ base ≤ g ∧ N ≤ c ∧ Row t w g N (fun i => l.getD i 0) := by
  obtain ⟨hl, h⟩ := h
  rcases h with ⟨h0, _⟩ | ⟨g, c, cur, rfl, hb, hg, hnc, _, hcs, ht⟩
  · exact absurd h0 hv
  · refine ⟨g, c, rfl, hb, hnc, cur, hg, by omega, fun i hi => ?_⟩
    have e : (bl l)[i]? = some (.int .u8 (l.getD i 0)) := by
      have : i < l.length := by rw [bl_len] at hl; omega
      simp [bl, this]
    rw [← ht, List.getElem?_take, if_pos (by omega)] at e
    simpa using e
theorem row_of_owned {base : Nat} {t : TypeId} {g N c : Nat} {l : List Int} {w : World} (h : w.ownsRow base t 1 (.slice (some ⟨g, 0, none⟩) N c) N (bl l)) : Row t w g N (fun i => l.getD i 0) := by
  obtain ⟨hl, h⟩ := h
  rcases h with ⟨h, _⟩ | ⟨g', c', cur, e, hb, hg, hnc, _, hcs, ht⟩
  · cases h
  · simp only [Value.slice.injEq, Option.some.injEq, Addr.mk.injEq, and_true, true_and] at e
    obtain ⟨rfl, rfl⟩ := e
    refine ⟨cur, hg, by omega, fun i hi => ?_⟩
    have e : (bl l)[i]? = some (.int .u8 (l.getD i 0)) := by
      have : i < l.length := by rw [bl_len] at hl; omega
      simp [bl, this]
    rw [← ht, List.getElem?_take, if_pos (by omega)] at e
    simpa using e
theorem lof_self (l : List Int) : lof l.length (fun i => l.getD i 0) = l := by
  apply List.ext_getElem
  · simp [lof]
  · intro i h1 h2
    simp [lof, h2]

/-- One new cell. -/
theorem cellNew (w : World) (x : Value) (t : TypeId) : ∀ j u, [x][j]? = some u → (w.alloc (.cells #[x] t)).cell? ((⟨w.heap.size, 0, none⟩ : Addr).add j) = some u := by
  intro j u hj
  match j, hj with
  | 0, hj => simp at hj; subst hj; simp [Addr.add]

/-- The cells of a slice that reads, as the law on appending asks for them. -/
theorem cells_of_view {w : World} {b off n cap : Nat} {f : Nat → Int} (h : View w (some ⟨b, off, none⟩) n cap f) : ∀ j u, (bl (lof n f))[j]? = some u → w.cell? ((⟨b, off, none⟩ : Addr).add j) = some u := by
  intro j u hu
  have hj : j < n := by
    by_cases hj : j < n
    · exact hj
    · rw [List.getElem?_eq_none (by rw [bl_len, lof_len]; omega)] at hu; cases hu
  obtain ⟨b', off', e, _, hc⟩ := h.cells (by omega)
  simp only [Option.some.injEq, Addr.mk.injEq, and_true] at e
  obtain ⟨rfl, rfl⟩ := e
  have ea : (⟨b, off, none⟩ : Addr).add j = ⟨b, off + j, none⟩ := by unfold Addr.add; split <;> simp_all
  rw [ea, hc j hj]
  simp [bl, lof, hj] at hu
  rw [hu]

theorem put_byte (n : Nat) (f : Nat → Int) (gs : List Int) (hf : ∀ i, i < n → 0 ≤ f i ∧ f i ≤ 255) (hg : ∀ y ∈ gs, 0 ≤ y ∧ y ≤ 255) : ∀ i, i < n + gs.length → 0 ≤ (lof n f ++ gs).getD i 0 ∧ (lof n f ++ gs).getD i 0 ≤ 255 := by
  intro i hi
  by_cases h : i < n
  · have e : (lof n f ++ gs).getD i 0 = f i := by
      rw [← lof_get n f i h, List.getD_eq_getElem?_getD, List.getD_eq_getElem?_getD, List.getElem?_append_left (by rw [lof_len]; exact h)]
    rw [e]; exact hf i h
  · have e : (lof n f ++ gs).getD i 0 = gs.getD (i - n) 0 := by
      rw [List.getD_eq_getElem?_getD, List.getD_eq_getElem?_getD, List.getElem?_append_right (by rw [lof_len]; omega), lof_len]
    rw [e]
    have hi' : i - n < gs.length := by omega
    have : gs.getD (i - n) 0 = gs[i - n] := by simp [hi']
    rw [this]
    exact hg _ (List.getElem_mem hi')

end Go.Proofs.YtfjlmkphncigladGreatDoor

/-
  Tokens, plainly: bytes of a text, names, marks, and a text as its tokens.
-/
namespace Go.Proofs.YtfjlmkphncigladGreatDoor
open Go.RowKit
set_option maxRecDepth 4000

/-- A byte of a text. -/
def bt (s : ByteArray) (i : Nat) : Int := if h : i < s.size then (s[i].toNat : Int) else 0
theorem bt_at {s : ByteArray} {i : Nat} (h : i < s.size) : (s[i].toNat : Int) = bt s i := by unfold bt; rw [dif_pos h]
theorem bt_bd (s : ByteArray) (i : Nat) : 0 ≤ bt s i ∧ bt s i ≤ 255 := by
  unfold bt
  split
  · have := s[i].toNat_lt; omega
  · omega
def small (c : Int) : Bool := decide (97 ≤ c ∧ c ≤ 122)
def digit (c : Int) : Bool := decide (48 ≤ c ∧ c ≤ 57)
def blank (c : Int) : Bool := decide (c = 32 ∨ c = 9 ∨ c = 10 ∨ c = 13)
def markC (c : Int) : Bool := decide (c = 123 ∨ c = 125 ∨ c = 44 ∨ c = 59)
/-- Whether a byte goes on with a name. -/
def inName (c : Int) : Bool := small c || digit c
/-- Whether a text is a name. -/
def nameOk (s : ByteArray) : Bool := decide (1 ≤ s.size ∧ s.size ≤ 8 ∧ small (bt s 0) = true ∧ ∀ i, i < s.size → inName (bt s i) = true)
/-- Whether a text is a mark. -/
def markOk (s : ByteArray) : Bool := decide (s.size = 1 ∧ markC (bt s 0) = true)
/-- Whether a token is right. -/
def tokOk (k : Int) (s : ByteArray) : Bool := if k = 1 then nameOk s else if k = 2 then markOk s else false

/-- The end of the name that goes on at a place. -/
def endN (s : ByteArray) (i : Nat) : Nat := if _h : i < s.size ∧ inName (bt s i) = true then endN s (i + 1) else i
  termination_by s.size - i
theorem endN_step {s : ByteArray} {i : Nat} (h : i < s.size) (h1 : inName (bt s i) = true) : endN s i = endN s (i + 1) := by
  conv => lhs; unfold endN
  rw [dif_pos ⟨h, h1⟩]
theorem endN_stop {s : ByteArray} {i : Nat} (h : ¬ (i < s.size ∧ inName (bt s i) = true)) : endN s i = i := by
  unfold endN; rw [dif_neg h]
theorem endN_ge (s : ByteArray) (i : Nat) : i ≤ endN s i := by
  unfold endN
  split
  · have := endN_ge s (i + 1); omega
  · exact Nat.le_refl _
  termination_by s.size - i
theorem endN_le (s : ByteArray) (i : Nat) (hi : i ≤ s.size) : endN s i ≤ s.size := by
  unfold endN
  split
  · rename_i h; exact endN_le s (i + 1) (by omega)
  · exact hi
  termination_by s.size - i

/-- The kind and the end of the token at a place. -/
def kindAt (s : ByteArray) (i : Nat) : Int := if small (bt s i) then 1 else 2
def stopAt (s : ByteArray) (i : Nat) : Nat := if small (bt s i) then endN s (i + 1) else i + 1
theorem stopAt_gt (s : ByteArray) (i : Nat) : i < stopAt s i := by
  unfold stopAt
  split
  · have := endN_ge s (i + 1); omega
  · omega
theorem stopAt_le {s : ByteArray} {i : Nat} (h : i < s.size) : stopAt s i ≤ s.size := by
  unfold stopAt
  split
  · exact endN_le s (i + 1) (by omega)
  · omega
/-- A text's tokens from a place on, behind those that are there; and -1, or the place where there is none. -/
def lexF (s : ByteArray) (i : Nat) (l : List (Int × ByteArray)) : List (Int × ByteArray) × Int :=
  if _h : i < s.size then
    if blank (bt s i) then lexF s (i + 1) l
    else if tokOk (kindAt s i) (s.extract i (stopAt s i)) = true ∧ l.length ≠ 500 then lexF s (stopAt s i) (l ++ [(kindAt s i, s.extract i (stopAt s i))])
    else ([], (i : Int))
  else (l, -1)
  termination_by s.size - i
  decreasing_by
    · omega
    · have := stopAt_gt s i; omega
theorem lexF_end {s : ByteArray} {i : Nat} {l : List (Int × ByteArray)} (h : ¬ i < s.size) : lexF s i l = (l, -1) := by unfold lexF; rw [dif_neg h]
theorem lexF_blank {s : ByteArray} {i : Nat} {l : List (Int × ByteArray)} (h : i < s.size) (hb : blank (bt s i) = true) : lexF s i l = lexF s (i + 1) l := by
  conv => lhs; unfold lexF
  rw [dif_pos h, if_pos hb]
theorem lexF_tok {s : ByteArray} {i : Nat} {l : List (Int × ByteArray)} (h : i < s.size) (hb : blank (bt s i) = false) (ht : tokOk (kindAt s i) (s.extract i (stopAt s i)) = true) (hl : l.length ≠ 500) : lexF s i l = lexF s (stopAt s i) (l ++ [(kindAt s i, s.extract i (stopAt s i))]) := by
  conv => lhs; unfold lexF
  rw [dif_pos h, if_neg (by rw [hb]; simp), if_pos ⟨ht, hl⟩]
theorem lexF_no {s : ByteArray} {i : Nat} {l : List (Int × ByteArray)} (h : i < s.size) (hb : blank (bt s i) = false) (ht : ¬ (tokOk (kindAt s i) (s.extract i (stopAt s i)) = true ∧ l.length ≠ 500)) : lexF s i l = ([], (i : Int)) := by
  unfold lexF
  rw [dif_pos h, if_neg (by rw [hb]; simp), if_neg ht]

/-- There are at most 500. -/
theorem lexF_few (s : ByteArray) (i : Nat) (l : List (Int × ByteArray)) (hl : l.length ≤ 500) : (lexF s i l).1.length ≤ 500 := by
  by_cases h : i < s.size
  · cases hb : blank (bt s i) with
    | true => rw [lexF_blank h hb]; exact lexF_few s (i + 1) l hl
    | false =>
      by_cases ht : tokOk (kindAt s i) (s.extract i (stopAt s i)) = true ∧ l.length ≠ 500
      · rw [lexF_tok h hb ht.1 ht.2]
        exact lexF_few s (stopAt s i) _ (by rw [List.length_append]; simp; omega)
      · rw [lexF_no h hb ht]; exact Nat.zero_le _
  · rw [lexF_end h]; exact hl
  termination_by s.size - i
  decreasing_by all_goals (have := stopAt_gt s i; omega)

/-- The bytes of a piece of a text. -/
theorem bt_extract {s : ByteArray} {i e j : Nat} (he : e ≤ s.size) (hj : i + j < e) : bt (s.extract i e) j = bt s (i + j) := by
  have h1 : j < (s.extract i e).size := by rw [ByteArray.size_extract]; omega
  rw [← bt_at h1, ← bt_at (s := s) (i := i + j) (by omega), ByteArray.getElem_extract]
end Go.Proofs.YtfjlmkphncigladGreatDoor

/-
  Tables, plainly: columns, parts, indexes; what is wrong with one; whether two are the same.
-/
namespace Go.Proofs.YtfjlmkphncigladGreatDoor
open Go.RowKit
set_option maxRecDepth 4000

structure PCol where
  name : ByteArray
  type : Int
  null : Bool
structure PBy where
  col : Int
  desc : Bool
structure PIdx where
  name : ByteArray
  uniq : Bool
  n : Nat
  part : Nat → PBy
structure PDef where
  name : ByteArray
  nc : Nat
  col : Nat → PCol
  np : Nat
  pri : Nat → PBy
  ni : Nat
  idx : Nat → PIdx

/-- The words that are no names: table, primary, unique, index, null, desc, int, num, text, bool. -/
def kwords : List (List UInt8) := [[116, 97, 98, 108, 101], [112, 114, 105, 109, 97, 114, 121], [117, 110, 105, 113, 117, 101], [105, 110, 100, 101, 120], [110, 117, 108, 108], [100, 101, 115, 99], [105, 110, 116], [110, 117, 109], [116, 101, 120, 116], [98, 111, 111, 108]]
def isKw (s : ByteArray) : Bool := kwords.contains s.toList
/-- Whether a text may be a name in a table. -/
def wordOk (s : ByteArray) : Bool := nameOk s && !isKw s

def namesF (D : PDef) : Bool := decide ((∀ i, i < D.nc → wordOk (D.col i).name = true) ∧ (∀ i, i < D.ni → wordOk (D.idx i).name = true) ∧ wordOk D.name = true)
def typesF (D : PDef) : Bool := decide ((∀ i, i < D.nc → 1 ≤ (D.col i).type ∧ (D.col i).type ≤ 4) ∧ 1 ≤ D.nc ∧ D.nc ≤ 6)
def onceF (D : PDef) : Bool := decide ((∀ i, i < D.nc → ∀ j, j < i → (D.col j).name ≠ (D.col i).name) ∧ (∀ i, i < D.ni → ∀ j, j < i → (D.idx j).name ≠ (D.idx i).name))
def partsF (nc n : Nat) (f : Nat → PBy) : Bool := decide ((∀ i, i < n → 0 ≤ (f i).col ∧ (f i).col < nc ∧ (0 < i → (f 0).col ≠ (f i).col)) ∧ 1 ≤ n ∧ n ≤ 2)
def allPartsF (D : PDef) : Bool := decide ((∀ i, i < D.ni → partsF D.nc (D.idx i).n (D.idx i).part = true) ∧ partsF D.nc D.np D.pri = true)
def nullF (D : PDef) : Bool := decide (∃ i, i < D.np ∧ (D.col (D.pri i).col.toNat).null = true)
/-- What is wrong with a table: the first that holds. -/
def checkF (D : PDef) : Int :=
  if namesF D = false then 1 else if typesF D = false then 2 else if onceF D = false then 3 else if 2 < D.ni then 6 else if allPartsF D = false then 5 else if nullF D then 4 else 0

def sameByF (n : Nat) (f : Nat → PBy) (m : Nat) (g : Nat → PBy) : Bool := decide (n = m ∧ ∀ i, i < n → (f i).col = (g i).col ∧ (f i).desc = (g i).desc)
/-- Whether two tables are the same. -/
def sameF (D E : PDef) : Bool :=
  decide (D.name = E.name ∧ D.nc = E.nc ∧ D.ni = E.ni ∧ sameByF D.np D.pri E.np E.pri = true ∧ (∀ i, i < D.nc → (D.col i).name = (E.col i).name ∧ (D.col i).type = (E.col i).type ∧ (D.col i).null = (E.col i).null)
    ∧ (∀ i, i < D.ni → (D.idx i).name = (E.idx i).name ∧ (D.idx i).uniq = (E.idx i).uniq ∧ sameByF (D.idx i).n (D.idx i).part (E.idx i).n (E.idx i).part = true))

theorem partsF_two {nc n : Nat} {f : Nat → PBy} (h : partsF nc n f = true) : 1 ≤ n ∧ n ≤ 2 := by
  unfold partsF at h; exact (of_decide_eq_true h).2
theorem partsF_in {nc n : Nat} {f : Nat → PBy} (h : partsF nc n f = true) {i : Nat} (hi : i < n) : 0 ≤ (f i).col ∧ (f i).col < nc := by
  unfold partsF at h; have := (of_decide_eq_true h).1 i hi; exact ⟨this.1, this.2.1⟩
/-- What a table is that nothing is wrong with. -/
theorem checkF_good {D : PDef} (h : checkF D = 0) : namesF D = true ∧ typesF D = true ∧ onceF D = true ∧ D.ni ≤ 2 ∧ allPartsF D = true ∧ nullF D = false := by
  unfold checkF at h
  cases h1 : namesF D <;> rw [h1] at h
  · simp at h
  cases h2 : typesF D <;> rw [h2] at h
  · simp at h
  cases h3 : onceF D <;> rw [h3] at h
  · simp at h
  by_cases h4 : 2 < D.ni
  · simp [h4] at h
  cases h5 : allPartsF D <;> rw [h5] at h
  · simp [h4] at h
  cases h6 : nullF D <;> rw [h6] at h
  · exact ⟨rfl, rfl, rfl, by omega, rfl, rfl⟩
  · simp [h4] at h
end Go.Proofs.YtfjlmkphncigladGreatDoor

/-
  What turns but one block: how it is carried.
-/
namespace Go.Proofs.YtfjlmkphncigladGreatDoor
open Go.RowKit
set_option maxRecDepth 4000

/-- Of what was there block g alone may have turned. -/
structure But (g : Nat) (w w' : World) : Prop where
  os : w'.os = w.os
  tape : w'.tape = w.tape
  output : w'.output = w.output
  size : w.heap.size ≤ w'.heap.size
  block : ∀ k, k < w.heap.size → k ≠ g → w'.heap[k]? = w.heap[k]?

theorem But.refl (g : Nat) (w : World) : But g w w := ⟨rfl, rfl, rfl, Nat.le_refl _, fun _ _ _ => rfl⟩
theorem But.trans {g : Nat} {a b c : World} (h : But g a b) (k : But g b c) : But g a c :=
  ⟨k.os.trans h.os, k.tape.trans h.tape, k.output.trans h.output, Nat.le_trans h.size k.size, fun i hi hg => (k.block i (Nat.lt_of_lt_of_le hi h.size) hg).trans (h.block i hi hg)⟩
theorem But.ofOnly {g : Nat} {w w' : World} (h : Only g w w') : But g w w' := ⟨h.os, h.tape, h.output, by rw [h.size]; exact Nat.le_refl _, fun k _ hk => h.block k hk⟩
theorem But.ofBelow {g : Nat} {w w' : World} (h : Below w.heap.size w w') : But g w w' := ⟨h.os, h.tape, h.output, h.size, fun k hk _ => h.block k hk⟩
theorem But.below {g B : Nat} {w w' : World} (h : But g w w') (hB : B ≤ g) (hs : B ≤ w.heap.size) : Below B w w' := ⟨h.os, h.tape, h.output, h.size, fun k hk => h.block k (by omega) (by omega)⟩
theorem But.row {t : TypeId} {g b n : Nat} {f : Nat → Int} {w w' : World} (h : But g w w') (hr : Row t w b n f) (hne : b ≠ g) : Row t w' b n f := hr.of_block (h.block b hr.lt hne)
theorem But.view {g : Nat} {ao : Option Addr} {n cap : Nat} {f : Nat → Int} {w w' : World} (h : But g w w') (hv : View w ao n cap f) (hne : ∀ a, ao = some a → 0 < n → a.block ≠ g) : View w' ao n cap f := by
  refine ⟨hv.le, hv.byte, fun hn => ?_⟩
  obtain ⟨b', off, e, hlt, hc⟩ := hv.cells hn
  refine ⟨b', off, e, Nat.lt_of_lt_of_le hlt h.size, fun i hi => ?_⟩
  rw [World.cell?_of_block (w := w) (h.block b' hlt (hne _ e hn))]
  exact hc i hi
theorem Only.grown {g : Nat} {w w' : World} (h : Only g w w') : w.grownBy w' (some g) :=
  ⟨h.os, h.tape, h.output, by rw [h.size]; exact Nat.le_refl _, fun k _ hk => h.block k (fun e => hk (by rw [e]))⟩
theorem But.grown {g : Nat} {w w' : World} (h : But g w w') : w.grownBy w' (some g) := ⟨h.os, h.tape, h.output, h.size, fun k hk hne => h.block k hk (fun e => hne (by rw [e]))⟩
end Go.Proofs.YtfjlmkphncigladGreatDoor

/-
  Rows of columns, of parts and of indexes that read, and a table that reads; how that is carried from one world to the next.
-/
namespace Go.Proofs.YtfjlmkphncigladGreatDoor
open Go.RowKit
set_option maxRecDepth 4000

/-- The slice value '.slice ao n cap' reads as n columns. -/
structure CView (w : World) (ao : Option Addr) (n cap : Nat) (f : Nat → PCol) : Prop where
  le : n ≤ cap
  cells : 0 < n → ∃ b off, ao = some ⟨b, off, none⟩ ∧ b < w.heap.size ∧ ∀ i, i < n → w.cell? ⟨b, off + i * 3, none⟩ = some (.string (f i).name) ∧ w.cell? ⟨b, off + i * 3 + 1, none⟩ = some (.int .i64 (f i).type) ∧ w.cell? ⟨b, off + i * 3 + 2, none⟩ = some (.bool (f i).null)
/-- .. as n parts. -/
structure BView (w : World) (ao : Option Addr) (n cap : Nat) (f : Nat → PBy) : Prop where
  le : n ≤ cap
  cells : 0 < n → ∃ b off, ao = some ⟨b, off, none⟩ ∧ b < w.heap.size ∧ ∀ i, i < n → w.cell? ⟨b, off + i * 2, none⟩ = some (.int .i64 (f i).col) ∧ w.cell? ⟨b, off + i * 2 + 1, none⟩ = some (.bool (f i).desc)
/-- .. as n indexes. -/
structure IView (w : World) (ao : Option Addr) (n cap : Nat) (f : Nat → PIdx) : Prop where
  le : n ≤ cap
  cells : 0 < n → ∃ b off, ao = some ⟨b, off, none⟩ ∧ b < w.heap.size ∧ ∀ i, i < n → w.cell? ⟨b, off + i * 3, none⟩ = some (.string (f i).name) ∧ w.cell? ⟨b, off + i * 3 + 1, none⟩ = some (.bool (f i).uniq) ∧ ∃ a c, w.cell? ⟨b, off + i * 3 + 2, none⟩ = some (.slice a (f i).n c) ∧ BView w a (f i).n c (f i).part
/-- A table's value. -/
structure DView (w : World) (v : Value) (D : PDef) : Prop where
  is : ∃ ac cc ap cp ai ci, v = .agg #[.string D.name, .slice ac D.nc cc, .slice ap D.np cp, .slice ai D.ni ci] ∧ CView w ac D.nc cc D.col ∧ BView w ap D.np cp D.pri ∧ IView w ai D.ni ci D.idx

theorem CView.below {w w' : World} {ao : Option Addr} {n cap : Nat} {f : Nat → PCol} (h : CView w ao n cap f) (hb : Below w.heap.size w w') : CView w' ao n cap f := by
  refine ⟨h.le, fun hn => ?_⟩
  obtain ⟨b, off, e, hlt, hc⟩ := h.cells hn
  refine ⟨b, off, e, Nat.lt_of_lt_of_le hlt hb.size, fun i hi => ?_⟩
  rw [hb.cell (p := ⟨b, off + i * 3, none⟩) hlt, hb.cell (p := ⟨b, off + i * 3 + 1, none⟩) hlt, hb.cell (p := ⟨b, off + i * 3 + 2, none⟩) hlt]
  exact hc i hi
theorem BView.below {w w' : World} {ao : Option Addr} {n cap : Nat} {f : Nat → PBy} (h : BView w ao n cap f) (hb : Below w.heap.size w w') : BView w' ao n cap f := by
  refine ⟨h.le, fun hn => ?_⟩
  obtain ⟨b, off, e, hlt, hc⟩ := h.cells hn
  refine ⟨b, off, e, Nat.lt_of_lt_of_le hlt hb.size, fun i hi => ?_⟩
  rw [hb.cell (p := ⟨b, off + i * 2, none⟩) hlt, hb.cell (p := ⟨b, off + i * 2 + 1, none⟩) hlt]
  exact hc i hi
theorem IView.below {w w' : World} {ao : Option Addr} {n cap : Nat} {f : Nat → PIdx} (h : IView w ao n cap f) (hb : Below w.heap.size w w') : IView w' ao n cap f := by
  refine ⟨h.le, fun hn => ?_⟩
  obtain ⟨b, off, e, hlt, hc⟩ := h.cells hn
  refine ⟨b, off, e, Nat.lt_of_lt_of_le hlt hb.size, fun i hi => ?_⟩
  rw [hb.cell (p := ⟨b, off + i * 3, none⟩) hlt, hb.cell (p := ⟨b, off + i * 3 + 1, none⟩) hlt, hb.cell (p := ⟨b, off + i * 3 + 2, none⟩) hlt]
  obtain ⟨h0, h1, a, c, h2, hv⟩ := hc i hi
  exact ⟨h0, h1, a, c, h2, hv.below hb⟩
theorem DView.below {w w' : World} {v : Value} {D : PDef} (h : DView w v D) (hb : Below w.heap.size w w') : DView w' v D := by
  obtain ⟨ac, cc, ap, cp, ai, ci, e, h1, h2, h3⟩ := h.is
  exact ⟨ac, cc, ap, cp, ai, ci, e, h1.below hb, h2.below hb, h3.below hb⟩
theorem CView.take {w : World} {ao : Option Addr} {n cap m : Nat} {f : Nat → PCol} (h : CView w ao n cap f) (hm : m ≤ n) : CView w ao m cap f := by
  refine ⟨Nat.le_trans hm h.le, fun hn => ?_⟩
  obtain ⟨b, off, e, hlt, hc⟩ := h.cells (by omega)
  exact ⟨b, off, e, hlt, fun i hi => hc i (by omega)⟩
end Go.Proofs.YtfjlmkphncigladGreatDoor

/-
  Rows of the call's own whose elements have several cells, by a function of the index.
-/
namespace Go.Proofs.YtfjlmkphncigladGreatDoor
open Go.RowKit
set_option maxRecDepth 4000

/-- The cells of the first k elements. -/
def rowG (enc : Nat → List Value) : Nat → List Value
  | 0 => []
  | k + 1 => rowG enc k ++ enc k
theorem rowG_len {enc : Nat → List Value} {c : Nat} (h : ∀ i, (enc i).length = c) : ∀ k, (rowG enc k).length = k * c
  | 0 => by rw [Nat.zero_mul]; rfl
  | k + 1 => by rw [rowG, List.length_append, rowG_len h k, h k, Nat.add_mul]; omega
theorem rowG_get {enc : Nat → List Value} {c : Nat} (h : ∀ i, (enc i).length = c) : ∀ k i j, i < k → j < c → (rowG enc k)[i * c + j]? = (enc i)[j]?
  | k + 1, i, j, hi, hj => by
    have hl := rowG_len h k
    by_cases e : i < k
    · have : i * c + j < k * c := by
        have : (i + 1) * c ≤ k * c := Nat.mul_le_mul_right _ e
        rw [Nat.add_mul] at this; omega
      rw [rowG, List.getElem?_append_left (by omega)]
      exact rowG_get h k i j e hj
    · obtain rfl : i = k := by omega
      rw [rowG, List.getElem?_append_right (by omega), hl]
      congr 1; omega
theorem rowG_congr {enc enc' : Nat → List Value} : ∀ {k : Nat}, (∀ i, i < k → enc i = enc' i) → rowG enc k = rowG enc' k
  | 0, _ => rfl
  | k + 1, e => by rw [rowG, rowG, rowG_congr (fun i hi => e i (by omega)), e k (by omega)]

/-- The cells of a row of the call's own. -/
theorem own_cells {w : World} {base T c N : Nat} {v : Value} {enc : Nat → List Value} (he : ∀ i, (enc i).length = c) (h : w.ownsRow base T c v N (rowG enc N)) :
    ∃ a k, v = .slice a N k ∧ N ≤ k ∧ (0 < N → ∃ g, a = some ⟨g, 0, none⟩ ∧ base ≤ g ∧ v.ownBlock = some g ∧ g < w.heap.size ∧ ∀ i j u, i < N → (enc i)[j]? = some u → w.cell? ⟨g, 0 + i * c + j, none⟩ = some u) := by
  obtain ⟨hl, h⟩ := h
  rcases h with ⟨rfl, h0⟩ | ⟨g, k, cur, rfl, hb, hg, hnc, _, hcs, ht⟩
  · have hN : N = 0 := by
      rw [rowG_len he] at hl
      have := h0
      rcases Nat.eq_zero_or_pos N with h | h
      · exact h
      · omega
    subst hN
    exact ⟨none, 0, rfl, Nat.le_refl _, fun hn => absurd hn (Nat.lt_irrefl _)⟩
  · refine ⟨_, k, rfl, hnc, fun _ => ⟨g, rfl, hb, rfl, (Array.getElem?_eq_some_iff.1 hg).1, fun i j u hi hj => ?_⟩⟩
    have hj' : j < c := by
      have := (List.getElem?_eq_some_iff.1 hj).1
      rw [he] at this; exact this
    have hlt : i * c + j < N * c := by
      have : (i + 1) * c ≤ N * c := Nat.mul_le_mul_right _ hi
      rw [Nat.add_mul] at this; omega
    have hx := rowG_get he N i j hi hj'
    rw [hj, ← ht, List.getElem?_take, if_pos hlt] at hx
    simp only [World.cell?, hg, Nat.zero_add]
    simpa using hx

def encB (f : Nat → PBy) (i : Nat) : List Value := [.int .i64 (f i).col, .bool (f i).desc]
def encC (f : Nat → PCol) (i : Nat) : List Value := [.string (f i).name, .int .i64 (f i).type, .bool (f i).null]
def encI (f : Nat → PIdx) (A C : Nat → Nat) (i : Nat) : List Value := [.string (f i).name, .bool (f i).uniq, .slice (some ⟨A i, 0, none⟩) (f i).n (C i)]
theorem bview_of_own {w : World} {base N : Nat} {v : Value} {f : Nat → PBy} (h : w.ownsRow base 51 2 v N (rowG (encB f) N)) : ∃ a k, v = .slice a N k ∧ BView w a N k f ∧ (0 < N → ∃ g, a = some ⟨g, 0, none⟩ ∧ base ≤ g ∧ v.ownBlock = some g) := by
  obtain ⟨a, k, e, hk, h1⟩ := own_cells (c := 2) (fun _ => rfl) h
  refine ⟨a, k, e, ⟨hk, fun hn => ?_⟩, fun hn => ?_⟩
  · obtain ⟨g, ea, -, -, hg, hc⟩ := h1 hn
    exact ⟨g, 0, ea, hg, fun i hi => ⟨by simpa using hc i 0 _ hi rfl, by simpa using hc i 1 _ hi rfl⟩⟩
  · obtain ⟨g, ea, hb, ho, -⟩ := h1 hn
    exact ⟨g, ea, hb, ho⟩
theorem cview_of_own {w : World} {base N : Nat} {v : Value} {f : Nat → PCol} (h : w.ownsRow base 49 3 v N (rowG (encC f) N)) : ∃ a k, v = .slice a N k ∧ CView w a N k f ∧ (0 < N → ∃ g, a = some ⟨g, 0, none⟩ ∧ base ≤ g ∧ v.ownBlock = some g) := by
  obtain ⟨a, k, e, hk, h1⟩ := own_cells (c := 3) (fun _ => rfl) h
  refine ⟨a, k, e, ⟨hk, fun hn => ?_⟩, fun hn => ?_⟩
  · obtain ⟨g, ea, -, -, hg, hc⟩ := h1 hn
    exact ⟨g, 0, ea, hg, fun i hi => ⟨by simpa using hc i 0 _ hi rfl, by simpa using hc i 1 _ hi rfl, by simpa using hc i 2 _ hi rfl⟩⟩
  · obtain ⟨g, ea, hb, ho, -⟩ := h1 hn
    exact ⟨g, ea, hb, ho⟩
theorem iview_of_own {w : World} {base N : Nat} {v : Value} {f : Nat → PIdx} {A C : Nat → Nat} (h : w.ownsRow base 60 3 v N (rowG (encI f A C) N)) (hp : ∀ i, i < N → BView w (some ⟨A i, 0, none⟩) (f i).n (C i) (f i).part) : ∃ a k, v = .slice a N k ∧ IView w a N k f ∧ (0 < N → ∃ g, a = some ⟨g, 0, none⟩ ∧ base ≤ g ∧ v.ownBlock = some g) := by
  obtain ⟨a, k, e, hk, h1⟩ := own_cells (c := 3) (fun _ => rfl) h
  refine ⟨a, k, e, ⟨hk, fun hn => ?_⟩, fun hn => ?_⟩
  · obtain ⟨g, ea, -, -, hg, hc⟩ := h1 hn
    exact ⟨g, 0, ea, hg, fun i hi => ⟨by simpa using hc i 0 _ hi rfl, by simpa using hc i 1 _ hi rfl, _, _, by simpa using hc i 2 _ hi rfl, hp i hi⟩⟩
  · obtain ⟨g, ea, hb, ho, -⟩ := h1 hn
    exact ⟨g, ea, hb, ho⟩
end Go.Proofs.YtfjlmkphncigladGreatDoor

/-
  What the table of the types says of the bytes.
-/
namespace Go.Proofs.YtfjlmkphncigladGreatDoor
open Go.RowKit
set_option maxRecDepth 4000

theorem Tryz.info5 : (Tryz.prog.info? 5).map (fun i => (i.zero, i.size, i.bytes)) = some (some (.int .u8 0), 1, 1) := by kernel_rfl

end Go.Proofs.YtfjlmkphncigladGreatDoor

/-
  The cursor that the draws go by: what each draw comes to, as far as a law leans on it: a number within its bounds, bytes of their own; nothing turns but the cursor.
-/
namespace Go.Proofs.YtfjlmkphncigladGreatDoor
open Go.RowKit
set_option maxRecDepth 4000

theorem i64_and255 (n : Int) : bits .and .i64 n 255 = n % 256 := by
  have h255 : (BitVec.ofInt 64 255).toNat = 2 ^ 8 - 1 := by decide
  have key : (BitVec.ofInt 64 n &&& BitVec.ofInt 64 255).toNat = (n % ((2 ^ 64 : Nat) : Int)).toNat % 2 ^ 8 := by
    rw [BitVec.toNat_and, BitVec.toNat_ofInt, h255, Nat.and_two_pow_sub_one_eq_mod]
  show IntKind.i64.wrap ((BitVec.ofInt 64 n &&& BitVec.ofInt 64 255).toNat : Nat) = n % 256
  rw [key, IntKind.wrap_i64]
  omega

theorem Only.trans {b : Nat} {w w1 w2 : World} (h : Only b w w1) (k : Only b w1 w2) : Only b w w2 :=
  ⟨k.os.trans h.os, k.tape.trans h.tape, k.output.trans h.output, k.size.trans h.size, fun i hi => (k.block i hi).trans (h.block i hi)⟩

/-- The three cells of a cursor. -/
def curF (ao : Option Addr) (n cap : Nat) (i h : Int) : Nat → Value
  | 0 => .slice ao n cap
  | 1 => .int .i64 i
  | _ => .int .i64 h

structure Cur (w : World) (g : Nat) (ao : Option Addr) (n cap : Nat) (f : Nat → Int) : Prop where
  cells : ∃ i h : Int, w.rowIs g 70 3 (curF ao n cap i h) ∧ 0 ≤ i ∧ i ≤ n
  view : View w ao n cap f
  apart : ∀ a, ao = some a → 0 < n → a.block ≠ g

theorem Cur.lt {w : World} {g : Nat} {ao : Option Addr} {n cap : Nat} {f : Nat → Int} (h : Cur w g ao n cap f) : g < w.heap.size := by
  obtain ⟨i, k, hr, _⟩ := h.cells
  exact hr.lt

theorem Cur.below {w w' : World} {g : Nat} {ao : Option Addr} {n cap : Nat} {f : Nat → Int} (h : Cur w g ao n cap f) (hb : Below w.heap.size w w') : Cur w' g ao n cap f := by
  obtain ⟨i, k, hr, h0, h1⟩ := h.cells
  exact ⟨⟨i, k, hr.of_block (hb.block g hr.lt), h0, h1⟩, h.view.below hb, h.apart⟩

set_option maxHeartbeats 2000000 in
theorem l1Byte_any (g : Nat) (ao : Option Addr) (n cap : Nat) (f : Nat → Int) (w : World) (hn : n ≤ 1048576) (hC : Cur w g ao n cap f) :
    Calls Tryz.prog 61 #[.pointer (some ⟨g, 0, none⟩)] w fun e w' => ∃ x : Int, e = .returned (.int .i64 x) ∧ 0 ≤ x ∧ x ≤ 255 ∧ Cur w' g ao n cap f ∧ Only g w w' := by
  obtain ⟨i, h, hr, hi0, hi1⟩ := hC.cells
  have c0 : w.cell? ⟨g, 0, none⟩ = some (.slice ao n cap) := hr.cell (by decide)
  have c1 : w.cell? ⟨g, 1, none⟩ = some (.int .i64 i) := hr.cell (by decide)
  have c2 : w.cell? ⟨g, 2, none⟩ = some (.int .i64 h) := hr.cell (by decide)
  have z1 := hr.frozen 1
  have z2 := hr.frozen 2
  have hA : ∀ z : Int, bits .and .i64 z 255 = z % 256 := i64_and255
  by_cases hlt : i < n
  · have hv := hC.view
    obtain ⟨b, off, rfl, hb, hc⟩ := hv.cells (by omega)
    have hne : b ≠ g := hC.apart _ rfl (by omega)
    obtain ⟨k, rfl⟩ := Int.eq_ofNat_of_zero_le hi0
    have hbk := hv.byte k (by omega)
    have hck := hc k (by omega)
    clear hc
    go_enter Tryz.func61, Tryz.ntmps61
    go_wp2
    go_region
    all_goals go_wp2
    all_goals go_region
    all_goals go_wp2
    all_goals go_region
    all_goals go_wp2
    go_ret
    have hO : Only g w ((w.setCell ⟨g, 2, none⟩ (.int .i64 (wrap64 (wrap64 (h * 6364136223846793005) + 1442695040888963407)))).setCell ⟨g, 1, none⟩ (.int .i64 ((k : Int) + 1))) := ((Only.refl _ _).setCell _).setCell _
    have hR := ((hr.set 2 (.int .i64 (wrap64 (wrap64 (h * 6364136223846793005) + 1442695040888963407)))).set 1 (.int .i64 ((k : Int) + 1))).congr (g := curF (some ⟨b, off, none⟩) n cap ((k : Int) + 1) (wrap64 (wrap64 (h * 6364136223846793005) + 1442695040888963407)))
      (fun j hj => by match j, hj with | 0, _ => rfl | 1, _ => rfl | 2, _ => rfl)
    exact ⟨_, rfl, by omega, by omega, ⟨⟨_, _, hR, by omega, by omega⟩, (hO.view hv (fun a ha => hC.apart a ha (by omega))).drew.drew.drew, hC.apart⟩, hO.os, hO.tape, hO.output, hO.size, hO.block⟩
  · go_enter Tryz.func61, Tryz.ntmps61
    go_wp2
    go_region
    all_goals go_wp2
    all_goals go_region
    all_goals go_wp2
    go_ret
    have hO : Only g w (w.setCell ⟨g, 2, none⟩ (.int .i64 (wrap64 (wrap64 (h * 6364136223846793005) + 1442695040888963407)))) := (Only.refl _ _).setCell _
    have hR := (hr.set 2 (.int .i64 (wrap64 (wrap64 (h * 6364136223846793005) + 1442695040888963407)))).congr (g := curF ao n cap i (wrap64 (wrap64 (h * 6364136223846793005) + 1442695040888963407)))
      (fun j hj => by match j, hj with | 0, _ => rfl | 1, _ => rfl | 2, _ => rfl)
    have hV : View (w.setCell ⟨g, 2, none⟩ (.int .i64 (wrap64 (wrap64 (h * 6364136223846793005) + 1442695040888963407)))) ao n cap f := by
      by_cases h0 : 0 < n
      · exact hO.view hC.view (fun a ha => hC.apart a ha h0)
      · exact ⟨hC.view.le, hC.view.byte, fun h => absurd h h0⟩
    exact ⟨_, rfl, by omega, by omega, ⟨⟨_, _, hR, hi0, hi1⟩, hV.drew.drew, hC.apart⟩, hO.os, hO.tape, hO.output, hO.size, hO.block⟩

set_option maxHeartbeats 1000000 in
theorem l1Below_any (g : Nat) (ao : Option Addr) (n cap : Nat) (f : Nat → Int) (m : Int) (w : World) (hn : n ≤ 1048576) (hm : 0 < m) (hm1 : m ≤ 16777216) (hC : Cur w g ao n cap f) :
    Calls Tryz.prog 36 #[.pointer (some ⟨g, 0, none⟩), .int .i64 m] w fun e w' => ∃ x : Int, e = .returned (.int .i64 x) ∧ 0 ≤ x ∧ x < m ∧ Cur w' g ao n cap f ∧ Only g w w' := by
  by_cases h256 : m ≤ 256
  · go_enter Tryz.func36, Tryz.ntmps36
    go_wp2_with fail
    refine (l1Byte_any g ao n cap f w hn hC).mono ?_
    rintro e w1 ⟨x, rfl, hx0, hx1, hC1, hO1⟩
    go_wp2
    go_ret
    exact ⟨_, rfl, Int.emod_nonneg _ (by omega), Int.emod_lt_of_pos _ hm, hC1, hO1⟩
  · go_enter Tryz.func36, Tryz.ntmps36
    go_wp2_with fail
    refine (l1Byte_any g ao n cap f w hn hC).mono ?_
    rintro e w1 ⟨x, rfl, hx0, hx1, hC1, hO1⟩
    go_wp2_with fail
    refine (l1Byte_any g ao n cap f w1 hn hC1).mono ?_
    rintro e w2 ⟨y, rfl, hy0, hy1, hC2, hO2⟩
    go_wp2_with fail
    refine (l1Byte_any g ao n cap f w2 hn hC2).mono ?_
    rintro e w3 ⟨z, rfl, hz0, hz1, hC3, hO3⟩
    go_wp2
    go_ret
    exact ⟨_, rfl, Int.emod_nonneg _ (by omega), Int.emod_lt_of_pos _ hm, hC3, (hO1.trans hO2).trans hO3⟩

set_option maxHeartbeats 1000000 in
theorem l1New_any (ao : Option Addr) (n cap : Nat) (f : Nat → Int) (w : World) (hn : n ≤ 1048576) (hv : View w ao n cap f) :
    Calls Tryz.prog 13 #[.slice ao n cap] w fun e w' => e = .returned (.pointer (some ⟨w.heap.size, 0, none⟩)) ∧ Cur w' w.heap.size ao n cap f ∧ Below w.heap.size w w' := by
  go_enter Tryz.func13, Tryz.ntmps13
  go_wp2
  go_loopg [3, 4] n (fun q s i wr => w = wr ∧ ∃ (k : Nat) (h : Int), k ≤ n ∧ q = n - k ∧ s = .int .i64 h ∧ i = .int .i64 k)
  case atStart => exact ⟨rfl, 0, _, Nat.zero_le _, rfl, rfl, rfl⟩
  case round =>
    obtain ⟨rfl, k, h, hk, rfl, rfl, rfl⟩ := hrel
    by_cases hlt : k < n
    · obtain ⟨b, off, rfl, hb, hc⟩ := hv.cells (by omega)
      have hkz : (k : Int) < (n : Int) := by omega
      have hc1 := hc k hlt
      have hbk := hv.byte k hlt
      by_cases h4 : k < 4000
      · have hz4 : (k : Int) < 4000 := by omega
        clear hc
        go_wp2
        go_roundg (n - (k + 1))
        case measure => omega
        case rel => exact ⟨rfl, k + 1, _, by omega, rfl, rfl, by go_num⟩
      · have hz4 : ¬ (k : Int) < 4000 := by omega
        clear h4
        clear hc
        go_wp2
        go_ret
        refine ⟨rfl, ⟨⟨0, _, World.rowIs_alloc w _ 70 (curF (some ⟨b, off, none⟩) n cap 0 h) (fun j hj => ?_), by omega, by omega⟩, hv.below ((Below.refl _ _).alloc (Nat.le_refl _) _), fun a ha _ => ?_⟩, (Below.refl _ _).alloc (Nat.le_refl _) _⟩
        · match j, hj with | 0, _ => rfl | 1, _ => rfl | 2, _ => rfl
        · cases ha; show b ≠ w.heap.size; omega
    · have hkz : (n : Int) ≤ (k : Int) := by omega
      go_wp2
      go_ret
      refine ⟨rfl, ⟨⟨0, _, World.rowIs_alloc w _ 70 (curF ao n cap 0 h) (fun j hj => ?_), by omega, by omega⟩, hv.below ((Below.refl _ _).alloc (Nat.le_refl _) _), fun a ha h0 => ?_⟩, (Below.refl _ _).alloc (Nat.le_refl _) _⟩
      · match j, hj with | 0, _ => rfl | 1, _ => rfl | 2, _ => rfl
      · obtain ⟨b, off, e, hb, _⟩ := hv.cells h0
        rw [e] at ha; cases ha; show b ≠ w.heap.size; omega
end Go.Proofs.YtfjlmkphncigladGreatDoor

/-
  What turns but the cursor: how it is carried.
-/
namespace Go.Proofs.YtfjlmkphncigladGreatDoor
open Go.RowKit
set_option maxRecDepth 4000

theorem Cur.grown {w w' : World} {g : Nat} {ao : Option Addr} {n cap : Nat} {f : Nat → Int} {row : Option Nat} (h : Cur w g ao n cap f) (hg : w.grownBy w' row) (h1 : row ≠ some g) (h2 : ∀ a, ao = some a → 0 < n → row ≠ some a.block) : Cur w' g ao n cap f := by
  obtain ⟨i, k, hr, h0, hi⟩ := h.cells
  refine ⟨⟨i, k, hr.of_block (hg.block g hr.lt (fun e => h1 e.symm)), h0, hi⟩, ⟨h.view.le, h.view.byte, fun hn => ?_⟩, h.apart⟩
  obtain ⟨b', off, e, hlt, hc⟩ := h.view.cells hn
  refine ⟨b', off, e, Nat.lt_of_lt_of_le hlt hg.size, fun j hj => ?_⟩
  rw [World.cell?_of_block (w := w) (hg.block b' hlt (fun e' => h2 _ e hn e'.symm))]
  exact hc j hj
theorem Cur.code {w : World} {g : Nat} {ao : Option Addr} {n cap : Nat} {f : Nat → Int} (h : Cur w g ao n cap f) : ∀ a, ao = some a → 0 < n → a.block < w.heap.size := by
  rintro a rfl hn
  obtain ⟨b, off, e, hlt, _⟩ := h.view.cells hn
  cases e
  exact hlt

end Go.Proofs.YtfjlmkphncigladGreatDoor

/-
  A table in a variable of the call's own.
-/
namespace Go.Proofs.YtfjlmkphncigladGreatDoor
open Go.RowKit
set_option maxRecDepth 4000

/-- Numbers of columns, parts and indexes, and texts, that are not great. -/
structure DFine (D : PDef) : Prop where
  name : D.name.size ≤ 1048576
  nc : D.nc ≤ 1048576
  col : ∀ i, i < D.nc → (D.col i).name.size ≤ 1048576
  np : D.np ≤ 1048576
  ni : D.ni ≤ 1048576
  idx : ∀ i, i < D.ni → (D.idx i).name.size ≤ 1048576 ∧ (D.idx i).n ≤ 1048576

/-- What was put into a variable of four cells is there while nothing of it is written. -/
theorem box4 {w wr : World} {T : TypeId} {x0 x1 x2 x3 : Value} (h : Below (w.heap.size + 1) (w.alloc (.cells #[x0, x1, x2, x3] T)) wr) :
    wr.cell? ⟨w.heap.size, 0, none⟩ = some x0 ∧ wr.cell? ⟨w.heap.size, 1, none⟩ = some x1 ∧ wr.cell? ⟨w.heap.size, 2, none⟩ = some x2 ∧ wr.cell? ⟨w.heap.size, 3, none⟩ = some x3 := by
  refine ⟨?_, ?_, ?_, ?_⟩
  all_goals (rw [h.cell (by simp)]; simp [go_sem])
theorem box4_below {w wr : World} {o : Obj} (h : Below (w.heap.size + 1) (w.alloc o) wr) : Below w.heap.size w wr ∧ w.heap.size + 1 ≤ wr.heap.size := by
  refine ⟨((Below.refl _ _).alloc (Nat.le_refl _) _).trans (h.mono (by simp)), ?_⟩
  have := h.size
  simpa using this
theorem box4_start (w : World) (o : Obj) : Below (w.heap.size + 1) (w.alloc o) (w.alloc o) := Below.refl _ _
theorem box4_on {w wr w' : World} {o : Obj} (h : Below (w.heap.size + 1) (w.alloc o) wr) (h' : Below wr.heap.size wr w') : Below (w.heap.size + 1) (w.alloc o) w' := h.trans (h'.mono (box4_below h).2)
end Go.Proofs.YtfjlmkphncigladGreatDoor

/-
  What the draws of tables turn: new blocks of one type alone; what is carried over it.
-/
namespace Go.Proofs.YtfjlmkphncigladGreatDoor
open Go.RowKit
set_option maxRecDepth 4000

/-- Of what was there only blocks of the type T that came behind w may have turned. -/
structure Eff (w : World) (T : TypeId) (W W' : World) : Prop where
  os : W'.os = W.os
  tape : W'.tape = W.tape
  output : W'.output = W.output
  size : W.heap.size ≤ W'.heap.size
  old : ∀ k, k < w.heap.size → k < W.heap.size → W'.heap[k]? = W.heap[k]?
  ty : ∀ (k : Nat) (c : Array Value) (U : TypeId) (fr : Nat × Nat), W.heap[k]? = some (.cells c U fr) → U ≠ T → W'.heap[k]? = W.heap[k]?
theorem Eff.ofBelow {w : World} {T : TypeId} {W W' : World} (h : Below W.heap.size W W') : Eff w T W W' :=
  ⟨h.os, h.tape, h.output, h.size, fun k _ hk => h.block k hk, fun k _ _ _ hk _ => h.block k (Array.getElem?_eq_some_iff.1 hk).1⟩
theorem Eff.alloc (w : World) (T : TypeId) (W : World) (o : Obj) : Eff w T W (W.alloc o) := Eff.ofBelow ((Below.refl _ _).alloc (Nat.le_refl _) _)
theorem Eff.trans {w : World} {T : TypeId} {A B C : World} (h : Eff w T A B) (k : Eff w T B C) : Eff w T A C := by
  refine ⟨k.os.trans h.os, k.tape.trans h.tape, k.output.trans h.output, Nat.le_trans h.size k.size, fun i hi hA => (k.old i hi (Nat.lt_of_lt_of_le hA h.size)).trans (h.old i hi hA), fun i c U fr hi hU => ?_⟩
  have h1 := h.ty i c U fr hi hU
  exact (k.ty i c U fr (h1.trans hi) hU).trans h1
theorem Eff.set {w W : World} {T : TypeId} {B i : Nat} {c : Array Value} {fr : Nat × Nat} (hB : w.heap.size ≤ B) (hb : W.heap[B]? = some (.cells c T fr)) (u : Value) : Eff w T W (W.setCell ⟨B, i, none⟩ u) := by
  refine ⟨rfl, rfl, rfl, by simp, fun k hk _ => Below.heap_setCell _ _ _ _ (by show k ≠ B; omega), fun k c' U fr' hk hU => Below.heap_setCell _ _ _ _ ?_⟩
  rintro rfl
  rw [hb] at hk
  cases hk
  exact hU rfl
theorem Eff.grown {w W W' : World} {T : TypeId} {c N : Nat} {v : Value} {xs : List Value} (h : W.ownsRow w.heap.size T c v N xs) (hg : W.grownBy W' v.ownBlock) : Eff w T W W' := by
  have key : ∀ j, v.ownBlock = some j → w.heap.size ≤ j ∧ ∃ cur, W.heap[j]? = some (.cells cur T (0, 0)) := by
    intro j hj
    rcases h.2 with ⟨rfl, _⟩ | ⟨g, cap, cur, rfl, hb, hgb, _⟩
    · simp [Value.ownBlock] at hj
    · obtain rfl : g = j := by simpa [Value.ownBlock] using hj
      exact ⟨hb, cur, hgb⟩
  refine ⟨hg.os, hg.tape, hg.output, hg.size, fun k hk hW => hg.block k hW (fun e => by have := (key k e.symm).1; omega), fun k c' U fr hk hU => hg.block k (Array.getElem?_eq_some_iff.1 hk).1 (fun e => ?_)⟩
  obtain ⟨_, cur, h2⟩ := key k e.symm
  rw [h2] at hk
  cases hk
  exact hU rfl

/-- The cursor, and what has turned since w: it alone, of what was there. -/
structure Cr (w : World) (g : Nat) (ao : Option Addr) (n cap : Nat) (f : Nat → Int) (W : World) : Prop where
  cur : Cur W g ao n cap f
  but : But g w W
  lt : g < w.heap.size
  code : ∀ a, ao = some a → 0 < n → a.block < w.heap.size
theorem Cr.start {w : World} {g : Nat} {ao : Option Addr} {n cap : Nat} {f : Nat → Int} (h : Cur w g ao n cap f) : Cr w g ao n cap f w := ⟨h, But.refl _ _, h.lt, h.code⟩
theorem Cr.next {w : World} {g : Nat} {ao : Option Addr} {n cap : Nat} {f : Nat → Int} {W W' : World} (h : Cr w g ao n cap f W) (hc : Cur W' g ao n cap f) (hb : But g W W') : Cr w g ao n cap f W' := ⟨hc, h.but.trans hb, h.lt, h.code⟩
theorem Cr.eff {w : World} {g : Nat} {ao : Option Addr} {n cap : Nat} {f : Nat → Int} {T : TypeId} {W W' : World} (h : Cr w g ao n cap f W) (e : Eff w T W W') : Cr w g ao n cap f W' := by
  have hs := h.but.size
  have hg := h.lt
  refine ⟨?_, ⟨e.os.trans h.but.os, e.tape.trans h.but.tape, e.output.trans h.but.output, Nat.le_trans hs e.size, fun k hk hne => (e.old k hk (by omega)).trans (h.but.block k hk hne)⟩, h.lt, h.code⟩
  obtain ⟨i, k, hr, h0, hi⟩ := h.cur.cells
  refine ⟨⟨i, k, hr.of_block (e.old g hg (by omega)), h0, hi⟩, ⟨h.cur.view.le, h.cur.view.byte, fun hn => ?_⟩, h.cur.apart⟩
  obtain ⟨b', off, ea, hlt, hc⟩ := h.cur.view.cells hn
  have hb' := h.code _ ea hn
  refine ⟨b', off, ea, Nat.lt_of_lt_of_le hlt e.size, fun j hj => ?_⟩
  rw [World.cell?_of_block (w := W) (e.old b' hb' hlt)]
  exact hc j hj
theorem Cr.size {w : World} {g : Nat} {ao : Option Addr} {n cap : Nat} {f : Nat → Int} {W : World} (h : Cr w g ao n cap f W) : w.heap.size ≤ W.heap.size := h.but.size

/-- A table's variable that came behind w. -/
structure Vd (w : World) (B : Nat) (x0 x1 x2 x3 : Value) (W : World) : Prop where
  v : V4 W B 28 x0 x1 x2 x3
  ge : w.heap.size ≤ B
theorem V4.blk {w : World} {B : Nat} {T : TypeId} {x0 x1 x2 x3 : Value} (h : V4 w B T x0 x1 x2 x3) : ∃ c, w.heap[B]? = some (.cells c T (0, 0)) := by
  obtain ⟨c, h1, _⟩ := h
  exact ⟨c, h1⟩
theorem Vd.eff {w : World} {B : Nat} {x0 x1 x2 x3 : Value} {T : TypeId} {W W' : World} (h : Vd w B x0 x1 x2 x3 W) (e : Eff w T W W') (hT : 28 ≠ T) : Vd w B x0 x1 x2 x3 W' := by
  obtain ⟨c, hc⟩ := h.v.blk
  exact ⟨h.v.block (e.ty B _ _ _ hc hT), h.ge⟩
theorem Vd.but {w : World} {B : Nat} {x0 x1 x2 x3 : Value} {g : Nat} {W W' : World} (h : Vd w B x0 x1 x2 x3 W) (hb : But g W W') (hg : g < w.heap.size) : Vd w B x0 x1 x2 x3 W' :=
  ⟨h.v.block (hb.block B h.v.lt (by have := h.ge; omega)), h.ge⟩
theorem Vd.below {w : World} {B : Nat} {x0 x1 x2 x3 : Value} {W W' : World} (h : Vd w B x0 x1 x2 x3 W) (hb : Below W.heap.size W W') : Vd w B x0 x1 x2 x3 W' := ⟨h.v.below hb, h.ge⟩
theorem Vd.new {w W : World} (hw : w.heap.size ≤ W.heap.size) (x0 x1 x2 x3 : Value) : Vd w W.heap.size x0 x1 x2 x3 (W.alloc (.cells #[x0, x1, x2, x3] 28)) := ⟨V4.new _ _ _ _ _ _, hw⟩
/-- Storing into the variable. -/
theorem Vd.effSet {w : World} {B : Nat} {x0 x1 x2 x3 : Value} {W : World} (h : Vd w B x0 x1 x2 x3 W) (i : Nat) (u : Value) : Eff w 28 W (W.setCell ⟨B, i, none⟩ u) := by
  obtain ⟨c, hc⟩ := h.v.blk
  exact Eff.set h.ge hc u
theorem Vd.set0 {w : World} {B : Nat} {x0 x1 x2 x3 : Value} {W : World} (h : Vd w B x0 x1 x2 x3 W) (u : Value) : Vd w B u x1 x2 x3 (W.setCell ⟨B, 0, none⟩ u) := ⟨h.v.set0 u, h.ge⟩
theorem Vd.set1 {w : World} {B : Nat} {x0 x1 x2 x3 : Value} {W : World} (h : Vd w B x0 x1 x2 x3 W) (u : Value) : Vd w B x0 u x2 x3 (W.setCell ⟨B, 1, none⟩ u) := ⟨h.v.set1 u, h.ge⟩
theorem Vd.set2 {w : World} {B : Nat} {x0 x1 x2 x3 : Value} {W : World} (h : Vd w B x0 x1 x2 x3 W) (u : Value) : Vd w B x0 x1 u x3 (W.setCell ⟨B, 2, none⟩ u) := ⟨h.v.set2 u, h.ge⟩
theorem Vd.set3 {w : World} {B : Nat} {x0 x1 x2 x3 : Value} {W : World} (h : Vd w B x0 x1 x2 x3 W) (u : Value) : Vd w B x0 x1 x2 u (W.setCell ⟨B, 3, none⟩ u) := ⟨h.v.set3 u, h.ge⟩
theorem Vd.other {w : World} {B C i : Nat} {x0 x1 x2 x3 u : Value} {W : World} (h : Vd w B x0 x1 x2 x3 W) (hne : B ≠ C) : Vd w B x0 x1 x2 x3 (W.setCell ⟨C, i, none⟩ u) := ⟨h.v.other hne, h.ge⟩

/-- Rows of the call's own. -/
theorem own_eff {w W W' : World} {T U : TypeId} {c N : Nat} {v : Value} {xs : List Value} (h : W.ownsRow w.heap.size U c v N xs) (e : Eff w T W W') (hT : U ≠ T) : W'.ownsRow w.heap.size U c v N xs := by
  refine ⟨h.1, ?_⟩
  rcases h.2 with ⟨e1, h0⟩ | ⟨g, k, cur, e1, hb0, hg, hr⟩
  · exact .inl ⟨e1, h0⟩
  · exact .inr ⟨g, k, cur, e1, hb0, (e.ty g _ _ _ hg hT).trans hg, hr⟩
theorem own_but9 {w W W' : World} {U : TypeId} {c N g : Nat} {v : Value} {xs : List Value} (h : W.ownsRow w.heap.size U c v N xs) (hb : But g W W') (hg : g < w.heap.size) : W'.ownsRow w.heap.size U c v N xs := by
  refine ⟨h.1, ?_⟩
  rcases h.2 with ⟨e1, h0⟩ | ⟨k, cp, cur, e1, hb0, hk, hr⟩
  · exact .inl ⟨e1, h0⟩
  · exact .inr ⟨k, cp, cur, e1, hb0, (hb.block k (Array.getElem?_eq_some_iff.1 hk).1 (by omega)).trans hk, hr⟩

theorem own_belowG9 {W W' : World} {base T c N : Nat} {v : Value} {xs : List Value} (h : W.ownsRow base T c v N xs) (hb : Below W.heap.size W W') : W'.ownsRow base T c v N xs := by
  refine ⟨h.1, ?_⟩
  rcases h.2 with ⟨e, h0⟩ | ⟨g, k, cur, e, hb0, hg, hr⟩
  · exact .inl ⟨e, h0⟩
  · exact .inr ⟨g, k, cur, e, hb0, (hb.block g (Array.getElem?_eq_some_iff.1 hg).1).trans hg, hr⟩
theorem own_succG {W : World} {base T c k : Nat} {v : Value} {xs : List Value} (h : W.ownsRow base T c v (k + 1) xs) : ∃ g cap, v = .slice (some ⟨g, 0, none⟩) (k + 1) cap := by
  rcases h.2 with ⟨_, h0⟩ | ⟨g, cap, cur, e, _⟩
  · omega
  · exact ⟨g, cap, e⟩

/-- The parts of an index, in a row of their own. -/
structure PtAt (w : World) (A C : Nat) (x : PIdx) (W : World) : Prop where
  own : W.ownsRow w.heap.size 51 2 (.slice (some ⟨A, 0, none⟩) x.n C) x.n (rowG (encB x.part) x.n)
theorem PtAt.view {w : World} {A C : Nat} {x : PIdx} {W : World} (h : PtAt w A C x W) : BView W (some ⟨A, 0, none⟩) x.n C x.part := by
  obtain ⟨a, k, e, hv, _⟩ := bview_of_own h.own
  cases e
  exact hv
/-- The parts of all indexes; none lies in the block b. -/
structure Pts (w : World) (b : Option Nat) (ni : Nat) (idx : Nat → PIdx) (A C : Nat → Nat) (W : World) : Prop where
  at_ : ∀ i, i < ni → PtAt w (A i) (C i) (idx i) W
  ne : ∀ i, i < ni → b ≠ some (A i)
theorem Pts.eff {w : World} {b : Option Nat} {ni : Nat} {idx : Nat → PIdx} {A C : Nat → Nat} {T : TypeId} {W W' : World} (h : Pts w b ni idx A C W) (e : Eff w T W W') (hT : 51 ≠ T) : Pts w b ni idx A C W' :=
  ⟨fun i hi => ⟨own_eff (h.at_ i hi).own e hT⟩, h.ne⟩
theorem Pts.but {w : World} {b : Option Nat} {ni : Nat} {idx : Nat → PIdx} {A C : Nat → Nat} {g : Nat} {W W' : World} (h : Pts w b ni idx A C W) (hb : But g W W') (hg : g < w.heap.size) : Pts w b ni idx A C W' :=
  ⟨fun i hi => ⟨own_but9 (h.at_ i hi).own hb hg⟩, h.ne⟩
theorem Pts.grown {w : World} {b : Option Nat} {ni : Nat} {idx : Nat → PIdx} {A C : Nat → Nat} {W W' : World} (h : Pts w b ni idx A C W) (hg : W.grownBy W' b) : Pts w b ni idx A C W' :=
  ⟨fun i hi => ⟨(h.at_ i hi).own.kept hg (.inr (fun e => h.ne i hi (by simpa [Value.ownBlock] using e.symm)))⟩, h.ne⟩
theorem Pts.none (w : World) (b : Option Nat) (idx : Nat → PIdx) (A C : Nat → Nat) (W : World) : Pts w b 0 idx A C W := ⟨fun _ hi => absurd hi (Nat.not_lt_zero _), fun _ hi => absurd hi (Nat.not_lt_zero _)⟩

/-- A row of texts of the call's own, only read. -/
structure Txs (w : World) (b : Nat) (l : List ByteArray) (W : World) : Prop where
  blk : W.heap[b]? = some (.cells (l.map Value.string).toArray 9 (0, 0))
  ge : w.heap.size ≤ b
theorem Txs.eff {w : World} {b : Nat} {l : List ByteArray} {T : TypeId} {W W' : World} (h : Txs w b l W) (e : Eff w T W W') (hT : 9 ≠ T) : Txs w b l W' := ⟨(e.ty b _ _ _ h.blk hT).trans h.blk, h.ge⟩
theorem Txs.but {w : World} {b : Nat} {l : List ByteArray} {g : Nat} {W W' : World} (h : Txs w b l W) (hb : But g W W') (hg : g < w.heap.size) : Txs w b l W' :=
  ⟨(hb.block b (Array.getElem?_eq_some_iff.1 h.blk).1 (by have := h.ge; omega)).trans h.blk, h.ge⟩
theorem Txs.new {w W : World} (hw : w.heap.size ≤ W.heap.size) (l : List ByteArray) : Txs w W.heap.size l (W.alloc (.cells (l.map Value.string).toArray 9)) := ⟨heap_alloc_new _ _, hw⟩
theorem Txs.cell {w : World} {b : Nat} {l : List ByteArray} {W : World} (h : Txs w b l W) {i : Nat} {s : ByteArray} (hi : l[i]? = some s) : W.cell? ⟨b, i, none⟩ = some (.string s) := by
  simp [World.cell?, h.blk, hi]
theorem infoCol9 : ∃ i, Tryz.prog.info? 49 = some i ∧ i.zero = some (.agg #[.string ⟨#[]⟩, .int .i64 0, .bool false]) ∧ i.size = 3 ∧ i.bytes = 32 := by
  have h : (Tryz.prog.info? 49).map (fun i => (i.zero, i.size, i.bytes)) = some (some (.agg #[.string ⟨#[]⟩, .int .i64 0, .bool false]), 3, 32) := by kernel_rfl
  obtain ⟨i, hi, hz⟩ := Option.map_eq_some_iff.1 h
  simp only [Prod.mk.injEq] at hz
  exact ⟨i, hi, hz.1, hz.2.1, hz.2.2⟩
theorem infoBy9 : ∃ i, Tryz.prog.info? 51 = some i ∧ i.zero = some (.agg #[.int .i64 0, .bool false]) ∧ i.size = 2 ∧ i.bytes = 16 := by
  have h : (Tryz.prog.info? 51).map (fun i => (i.zero, i.size, i.bytes)) = some (some (.agg #[.int .i64 0, .bool false]), 2, 16) := by kernel_rfl
  obtain ⟨i, hi, hz⟩ := Option.map_eq_some_iff.1 h
  simp only [Prod.mk.injEq] at hz
  exact ⟨i, hi, hz.1, hz.2.1, hz.2.2⟩
theorem infoIdx9 : ∃ i, Tryz.prog.info? 60 = some i ∧ i.zero = some (.agg #[.string ⟨#[]⟩, .bool false, .slice none 0 0]) ∧ i.size = 3 ∧ i.bytes = 48 := by
  have h : (Tryz.prog.info? 60).map (fun i => (i.zero, i.size, i.bytes)) = some (some (.agg #[.string ⟨#[]⟩, .bool false, .slice none 0 0]), 3, 48) := by kernel_rfl
  obtain ⟨i, hi, hz⟩ := Option.map_eq_some_iff.1 h
  simp only [Prod.mk.injEq] at hz
  exact ⟨i, hi, hz.1, hz.2.1, hz.2.2⟩
end Go.Proofs.YtfjlmkphncigladGreatDoor

/-
  A draw of yes or no.
-/
namespace Go.Proofs.YtfjlmkphncigladGreatDoor
open Go.RowKit
set_option maxRecDepth 4000

set_option maxHeartbeats 1000000 in
theorem l1Once_any (g : Nat) (ao : Option Addr) (n cap : Nat) (f : Nat → Int) (m : Int) (w : World) (hn : n ≤ 1048576) (hm : 0 < m) (hm1 : m ≤ 16777216) (hC : Cur w g ao n cap f) :
    Calls Tryz.prog 17 #[.pointer (some ⟨g, 0, none⟩), .int .i64 m] w fun e w' => ∃ b : Bool, e = .returned (.bool b) ∧ Cur w' g ao n cap f ∧ Only g w w' := by
  go_enter Tryz.func17, Tryz.ntmps17
  go_wp2_with fail
  refine (l1Below_any g ao n cap f m w hn hm hm1 hC).mono ?_
  rintro e w1 ⟨x, rfl, hx0, hx1, hC1, hO1⟩
  go_wp2
  go_ret
  exact ⟨_, rfl, hC1, hO1⟩
end Go.Proofs.YtfjlmkphncigladGreatDoor

/-
  The draw of one or two parts.
-/
namespace Go.Proofs.YtfjlmkphncigladGreatDoor
open Go.RowKit
set_option maxRecDepth 4000

theorem cells_by9 (W : World) (c : Int) (d : Bool) : ∀ j u, [Value.int .i64 c, .bool d][j]? = some u → (W.alloc (.cells #[.int .i64 c, .bool d] 51)).cell? ((⟨W.heap.size, 0, none⟩ : Addr).add j) = some u := by
  intro j u h
  have ea : ∀ j, (⟨W.heap.size, 0, none⟩ : Addr).add j = ⟨W.heap.size, 0 + j, none⟩ := fun j => by unfold Addr.add; split <;> simp_all
  match j, h with
  | 0, h => cases h; rw [ea]; simp
  | 1, h => cases h; rw [ea]; simp [go_sem]
  | j + 2, h => simp at h
theorem one_by9 (c : Int) (d : Bool) : ∀ u ∈ [Value.int .i64 c, .bool d], u.oneCell' = true := by
  intro u hu
  simp at hu
  rcases hu with rfl | rfl <;> rfl
/-- One part in a new row. -/
theorem own_by1 {w W : World} (hw : w.heap.size ≤ W.heap.size) (c : Int) (d : Bool) : (W.alloc (.cells #[.int .i64 c, .bool d] 51)).ownsRow w.heap.size 51 2 (.slice (some ⟨W.heap.size, 0, none⟩) 1 1) 1 (rowG (encB (fun _ => ⟨c, d⟩)) 1) := by
  have := World.ownsRow_lit (base := w.heap.size) (e := 51) (size := 2) W #[.int .i64 c, .bool d] 1 hw (by unfold maxLen; omega) rfl
  simpa [rowG, encB] using this
def upd {α : Type} (f : Nat → α) (k : Nat) (x : α) : Nat → α := fun i => if i = k then x else f i
theorem upd_old {α : Type} {f : Nat → α} {k i : Nat} {x : α} (h : i < k) : upd f k x i = f i := if_neg (by omega)
theorem upd_new {α : Type} {f : Nat → α} {k : Nat} {x : α} : upd f k x k = x := if_pos rfl
theorem rowG_updB (f : Nat → PBy) (k : Nat) (x : PBy) : rowG (encB (upd f k x)) (k + 1) = rowG (encB f) k ++ [.int .i64 x.col, .bool x.desc] := by
  rw [rowG, rowG_congr (enc' := encB f) (fun i hi => by simp [encB, upd_old hi])]
  simp [encB, upd_new]

/-- One or two parts that were drawn. -/
def Drew2 (w : World) (g : Nat) (ao : Option Addr) (n cap : Nat) (f : Nat → Int) (b c N : Nat) (w' : World) : Prop :=
  ∃ h : Nat → PBy, (1 ≤ N ∧ N ≤ 2) ∧ w'.ownsRow w.heap.size 51 2 (.slice (some ⟨b, 0, none⟩) N c) N (rowG (encB h) N) ∧ Cur w' g ao n cap f ∧ But g w w'

set_option maxHeartbeats 4000000 in
theorem l9Draw2_any (g : Nat) (ao : Option Addr) (n cap : Nat) (f : Nat → Int) (m : Int) (w : World) (hn : n ≤ 1048576) (hm : 0 < m) (hm1 : m ≤ 1000) (hC : Cur w g ao n cap f) :
    Calls Tryz.prog 38 #[.pointer (some ⟨g, 0, none⟩), .int .i64 m] w fun e w' => ∃ (b c N : Nat), e = .returned (.slice (some ⟨b, 0, none⟩) N c) ∧ Drew2 w g ao n cap f b c N w' := by
  obtain ⟨i0, hi, hz0, hz1, hz2⟩ := infoBy9
  have hR := Cr.start hC
  have hg := hR.lt
  clear hC
  go_enter Tryz.func38, Tryz.ntmps38
  go_wp2_with fail
  refine (l1Below_any g ao n cap f m _ hn hm (by omega) hR.cur).mono ?_
  rintro e w1 ⟨a, rfl, ha0, ha1, hC1, hO1⟩
  replace hR := hR.next hC1 (But.ofOnly hO1)
  clear hC1 hO1
  go_wp2_with fail
  refine (l1Once_any g ao n cap f 2 w1 hn (by omega) (by omega) hR.cur).mono ?_
  rintro e w2 ⟨o, rfl, hC2, hO2⟩
  replace hR := hR.next hC2 (But.ofOnly hO2)
  clear hC2 hO2
  have hO := own_by1 (w := w) (W := w2) hR.size a o
  have hE := Eff.alloc w 51 w2 (.cells #[.int .i64 a, .bool o] 51)
  replace hR := hR.eff hE
  clear hE
  by_cases h1 : m > 1
  · go_wp2_with fail
    obtain ⟨w3, hw3⟩ : ∃ w3, Hid (w3 = w2.alloc (.cells #[.int .i64 a, .bool o] 51)) := ⟨_, rfl⟩
    obtain ⟨b, hb⟩ : ∃ b, Hid (b = w2.heap.size) := ⟨_, rfl⟩
    rw [← hw3.out, ← hb.out] at hO ⊢
    rw [← hw3.out] at hR
    refine (l1Once_any g ao n cap f 3 w3 hn (by omega) (by omega) hR.cur).mono ?_
    rintro e w4 ⟨p, rfl, hC4, hO4⟩
    replace hO := own_but9 hO (But.ofOnly hO4) hg
    replace hR := hR.next hC4 (But.ofOnly hO4)
    clear hC4 hO4 hw3 hb
    cases p with
    | false =>
      have HR : Hid (w4.ownsRow w.heap.size 51 2 (.slice (some ⟨b, 0, none⟩) 1 1) 1 (rowG (encB (fun _ => ⟨a, o⟩)) 1) ∧ Cr w g ao n cap f w4) := ⟨hO, hR⟩
      clear hO hR
      go_wp2
      go_ret
      exact ⟨b, 1, 1, rfl, _, by omega, HR.out.1, HR.out.2.cur, HR.out.2.but⟩
    | true =>
      go_wp2_with fail
      have e1 : wrap64 (a + 1) = a + 1 := by unfold wrap64; omega
      have e2 : IntKind.i64.wrap (a + 1) = a + 1 := by rw [IntKind.wrap_i64]; omega
      have e3 : ¬ (m = 0) := by omega
      refine wp_region_held_drew (S := fun _ => True) (by kernel_rfl) trivial (fun hHeld => ?_)
      have hbd : Below w4.heap.size w4 w4.drew := (Below.refl _ _).drew
      replace hO := own_belowG9 hO hbd
      replace hR := hR.eff (T := 28) (Eff.ofBelow hbd)
      obtain ⟨wd, hwd⟩ : ∃ wd, Hid (wd = w4.drew) := ⟨_, rfl⟩
      rw [← hwd.out] at hO hR ⊢
      clear hbd
      refine' wpAnyH_take (i := 0) (v := _) rfl (by kernel_rfl) (by kernel_rfl) (by kernel_rfl) (fun _ _ _ h => h) (Or.inl ⟨by kernel_rfl, ?hda1⟩) (by assumption) ?rda1
      case hda1 => intro W hW; go_simp; all_goals with_reducible rfl
      change wpAnyH _ _ _ _ _ _ _ (Act.put _ (some 21) _) _
      simp only [Act.put, List.setIfInBounds_toArray, List.set_cons_zero, List.set_cons_succ]
      refine' wpAnyH_take (i := 1) (v := _) rfl (by kernel_rfl) (by kernel_rfl) (by kernel_rfl) (fun _ _ _ h => h) (Or.inl ⟨by kernel_rfl, ?hda2⟩) (by assumption) ?rda2
      case hda2 => intro W hW; go_simp; all_goals with_reducible rfl
      change wpAnyH _ _ _ _ _ _ _ (Act.put _ (some 22) _) _
      simp only [Act.put, List.setIfInBounds_toArray, List.set_cons_zero, List.set_cons_succ]
      refine' wpAnyH_take (i := 2) (v := _) rfl (by kernel_rfl) (by kernel_rfl) (by kernel_rfl) (fun _ _ _ h => h) (Or.inl ⟨by kernel_rfl, ?hda3⟩) (by assumption) ?rda3
      case hda3 => intro W hW; go_simp; all_goals with_reducible rfl
      change wpAnyH _ _ _ _ _ _ _ (Act.put _ (some 23) _) _
      simp only [Act.put, List.setIfInBounds_toArray, List.set_cons_zero, List.set_cons_succ]
      refine' wpAnyH_take (i := 3) (v := _) rfl (by kernel_rfl) (by kernel_rfl) (by kernel_rfl) (fun _ _ _ h => h) (Or.inl ⟨by kernel_rfl, ?hda4⟩) (by assumption) ?rda4
      case hda4 => intro W hW; go_simp; all_goals with_reducible rfl
      change wpAnyH _ _ _ _ _ _ _ (Act.put _ (some 24) _) _
      simp only [Act.put, List.setIfInBounds_toArray, List.set_cons_zero, List.set_cons_succ]
      refine' wpAnyH_take (i := 4) (v := _) rfl (by kernel_rfl) (by kernel_rfl) (by kernel_rfl) (fun _ _ _ h => h) (Or.inl ⟨by kernel_rfl, ?hda5⟩) (by assumption) ?rda5
      case hda5 => intro W hW; go_simp; all_goals with_reducible rfl
      change wpAnyH _ _ _ _ _ _ _ (Act.put _ (some 25) _) _
      simp only [Act.put, List.setIfInBounds_toArray, List.set_cons_zero, List.set_cons_succ]
      refine' wpAnyH_take (i := 5) (v := _) rfl (by kernel_rfl) (by kernel_rfl) (by kernel_rfl) (fun _ _ _ h => h) (Or.inl ⟨by kernel_rfl, ?hda6⟩) (by assumption) ?rda6
      case hda6 => intro W hW; go_simp; all_goals with_reducible rfl
      change wpAnyH _ _ _ _ _ _ _ (Act.put _ (some 26) _) _
      simp only [Act.put, List.setIfInBounds_toArray, List.set_cons_zero, List.set_cons_succ]
      refine wpAnyH_ready (rs := [6]) (by kernel_rfl) (by simp) ?_
      refine AllReadyH.cons rfl (fun KK hK => ?_) AllReadyH.nil
      go_simp
      refine (l1Once_any g ao n cap f 2 _ hn (by omega) (by omega) hR.cur).mono ?_
      rintro e w5 ⟨q, rfl, hC5, hO5⟩
      replace hO := own_but9 hO (But.ofOnly hO5) hg
      replace hR := hR.next hC5 (But.ofOnly hO5)
      clear hC5 hO5
      go_wp2_with fail
      refine hK.out _ _ trivial (fun hHeld => ?_)
      clear hK KK
      try simp only [Act.put, List.setIfInBounds_toArray, List.set_cons_zero, List.set_cons_succ]
      refine' wpAnyH_take (i := 7) (v := _) rfl (by kernel_rfl) (by kernel_rfl) (by kernel_rfl) (fun _ _ _ h => h) (Or.inl ⟨by kernel_rfl, ?hda7⟩) (by assumption) ?rda7
      case hda7 => intro W hW; go_simp; all_goals with_reducible rfl
      change wpAnyH _ _ _ _ _ _ _ (Act.put _ (some 28) _) _
      simp only [Act.put, List.setIfInBounds_toArray, List.set_cons_zero, List.set_cons_succ]
      refine wpAnyH_ready (rs := [8]) (by kernel_rfl) (by simp) ?_
      refine AllReadyH.cons rfl (fun KK hK => ?_) AllReadyH.nil
      go_simp
      have hcl := cells_by9 w5 (Int.tmod (a + 1) m) q
      have hbA : Below w5.heap.size w5 (w5.alloc (.cells #[.int .i64 (Int.tmod (a + 1) m), .bool q] 51)) := (Below.refl _ _).alloc (Nat.le_refl _) _
      replace hO := own_belowG9 hO hbA
      replace hR := hR.eff (T := 28) (Eff.ofBelow hbA)
      have hsz := hR.size
      refine hK.out _ _ trivial (fun hHeld => ?_)
      clear hK KK
      try simp only [Act.put, List.setIfInBounds_toArray, List.set_cons_zero, List.set_cons_succ]
      refine wpAnyH_ready (rs := [9]) (by kernel_rfl) (by simp) ?_
      refine AllReadyH.cons rfl (fun KK hK => ?_) AllReadyH.nil
      rw [if_pos (by kernel_rfl)]
      refine wp_append_own _ (.tmp 21) (.tmp 29) 25 rfl w.heap.size 51 i0 (.agg #[.int .i64 0, .bool false]) 2 16 Tryz.underlying25 hi hz0 hz1 hz2 rfl (by decide) _ _ _ rfl hO ⟨w5.heap.size, 0, none⟩ 1 1 [.int .i64 (Int.tmod (a + 1) m), .bool q] rfl rfl hcl (one_by9 _ _) (by unfold maxLen; omega) (by omega) (by omega) ?_
      intro v6 w6 hO6 hgr6 hnil6
      have hE := Eff.grown hO hgr6
      replace hR := hR.eff hE
      obtain ⟨b6, c6, rfl⟩ := own_succG hO6
      have hO7 : w6.ownsRow w.heap.size 51 2 (.slice (some ⟨b6, 0, none⟩) 2 c6) 2 (rowG (encB (upd (fun _ => ⟨a, o⟩) 1 ⟨Int.tmod (a + 1) m, q⟩)) 2) := by rw [rowG_updB]; exact hO6
      clear hE hO hO6 hgr6 hnil6 hcl hbA
      refine hK.out _ _ trivial (fun hHeld => ?_)
      clear hK KK
      change wpAnyH _ _ _ _ _ _ _ (Act.put _ (some 30) _) _
      try simp only [Act.put, List.setIfInBounds_toArray, List.set_cons_zero, List.set_cons_succ]
      refine' wpAnyH_take (i := 10) (v := _) rfl (by kernel_rfl) (by kernel_rfl) (by kernel_rfl) (fun _ _ _ h => h) (Or.inl ⟨by kernel_rfl, ?hda8⟩) (by assumption) ?rda8
      case hda8 => intro W hW; go_simp; all_goals with_reducible rfl
      change wpAnyH _ _ _ _ _ _ _ (Act.put _ (some 6) _) _
      simp only [Act.put, List.setIfInBounds_toArray, List.set_cons_zero, List.set_cons_succ]
      refine wpAnyH_done (by kernel_rfl) ?_ _
      have HR : Hid (w6.ownsRow w.heap.size 51 2 (.slice (some ⟨b6, 0, none⟩) 2 c6) 2 (rowG (encB (upd (fun _ => ⟨a, o⟩) 1 ⟨Int.tmod (a + 1) m, q⟩)) 2) ∧ Cr w g ao n cap f w6) := ⟨hO7, hR⟩
      clear hO7 hR
      go_wp2
      go_ret
      exact ⟨b6, c6, 2, rfl, _, by omega, HR.out.1, HR.out.2.cur, HR.out.2.but⟩
  · have HR : Hid ((w2.alloc (.cells #[.int .i64 a, .bool o] 51)).ownsRow w.heap.size 51 2 (.slice (some ⟨w2.heap.size, 0, none⟩) 1 1) 1 (rowG (encB (fun _ => ⟨a, o⟩)) 1) ∧ Cr w g ao n cap f (w2.alloc (.cells #[.int .i64 a, .bool o] 51))) := ⟨hO, hR⟩
    clear hO hR
    go_wp2
    go_ret
    exact ⟨w2.heap.size, 1, 1, rfl, _, by omega, HR.out.1, HR.out.2.cur, HR.out.2.but⟩
end Go.Proofs.YtfjlmkphncigladGreatDoor

