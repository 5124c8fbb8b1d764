/-
  Together: Row34, DefBox, EffKit, JoinPlain, TokJoin
-/
import Derived.Test.YtnpfgamlncfikaaGreatDoorPackF1
import Derived.Test.YtnpfgamlncfikaaGreatDoorPackF3
import Derived.Test.YtnpfgamlncfikaaGreatDoorProg
import Derived.Test.YtnpfgamlncfikaaGreatDoorPackF2
/-
  Variables of three and of four cells, as rows.
-/
namespace Go.Proofs.YtnpfgamlncfikaaGreatDoor
open Go.RowKit
set_option maxRecDepth 4000

def cell3 (x0 x1 x2 : Value) : Nat → Value
  | 0 => x0
  | 1 => x1
  | _ => x2
def cell4 (x0 x1 x2 x3 : Value) : Nat → Value
  | 0 => x0
  | 1 => x1
  | 2 => x2
  | _ => x3
/-- A variable of three cells. -/
def V3 (w : World) (B : Nat) (T : TypeId) (x0 x1 x2 : Value) : Prop := w.rowIs B T 3 (cell3 x0 x1 x2)
/-- A variable of four cells. -/
def V4 (w : World) (B : Nat) (T : TypeId) (x0 x1 x2 x3 : Value) : Prop := w.rowIs B T 4 (cell4 x0 x1 x2 x3)
theorem V3.new (w : World) (T : TypeId) (x0 x1 x2 : Value) : V3 (w.alloc (.cells #[x0, x1, x2] T)) w.heap.size T x0 x1 x2 :=
  World.rowIs_alloc w _ T (cell3 x0 x1 x2) (fun j hj => by match j, hj with | 0, _ => rfl | 1, _ => rfl | 2, _ => rfl)
theorem V4.new (w : World) (T : TypeId) (x0 x1 x2 x3 : Value) : V4 (w.alloc (.cells #[x0, x1, x2, x3] T)) w.heap.size T x0 x1 x2 x3 :=
  World.rowIs_alloc w _ T (cell4 x0 x1 x2 x3) (fun j hj => by match j, hj with | 0, _ => rfl | 1, _ => rfl | 2, _ => rfl | 3, _ => rfl)
theorem V3.lt {w : World} {B : Nat} {T : TypeId} {x0 x1 x2 : Value} (h : V3 w B T x0 x1 x2) : B < w.heap.size := World.rowIs.lt h
theorem V4.lt {w : World} {B : Nat} {T : TypeId} {x0 x1 x2 x3 : Value} (h : V4 w B T x0 x1 x2 x3) : B < w.heap.size := World.rowIs.lt h
theorem V3.block {w w' : World} {B : Nat} {T : TypeId} {x0 x1 x2 : Value} (h : V3 w B T x0 x1 x2) (e : w'.heap[B]? = w.heap[B]?) : V3 w' B T x0 x1 x2 := World.rowIs.of_block h e
theorem V4.block {w w' : World} {B : Nat} {T : TypeId} {x0 x1 x2 x3 : Value} (h : V4 w B T x0 x1 x2 x3) (e : w'.heap[B]? = w.heap[B]?) : V4 w' B T x0 x1 x2 x3 := World.rowIs.of_block h e
theorem V3.below {w w' : World} {B : Nat} {T : TypeId} {x0 x1 x2 : Value} (h : V3 w B T x0 x1 x2) (hb : Below w.heap.size w w') : V3 w' B T x0 x1 x2 := h.block (hb.block B h.lt)
theorem V4.below {w w' : World} {B : Nat} {T : TypeId} {x0 x1 x2 x3 : Value} (h : V4 w B T x0 x1 x2 x3) (hb : Below w.heap.size w w') : V4 w' B T x0 x1 x2 x3 := h.block (hb.block B h.lt)
theorem V3.cells {w : World} {B : Nat} {T : TypeId} {x0 x1 x2 : Value} (h : V3 w B T x0 x1 x2) : w.cell? ⟨B, 0, none⟩ = some x0 ∧ w.cell? ⟨B, 1, none⟩ = some x1 ∧ w.cell? ⟨B, 2, none⟩ = some x2 :=
  ⟨World.rowIs.cell h (i := 0) (by decide), World.rowIs.cell h (i := 1) (by decide), World.rowIs.cell h (i := 2) (by decide)⟩
theorem V4.cells {w : World} {B : Nat} {T : TypeId} {x0 x1 x2 x3 : Value} (h : V4 w B T x0 x1 x2 x3) : w.cell? ⟨B, 0, none⟩ = some x0 ∧ w.cell? ⟨B, 1, none⟩ = some x1 ∧ w.cell? ⟨B, 2, none⟩ = some x2 ∧ w.cell? ⟨B, 3, none⟩ = some x3 :=
  ⟨World.rowIs.cell h (i := 0) (by decide), World.rowIs.cell h (i := 1) (by decide), World.rowIs.cell h (i := 2) (by decide), World.rowIs.cell h (i := 3) (by decide)⟩
theorem V3.fz {w : World} {B : Nat} {T : TypeId} {x0 x1 x2 : Value} (h : V3 w B T x0 x1 x2) : w.frozen? ⟨B, 0, none⟩ = false ∧ w.frozen? ⟨B, 1, none⟩ = false ∧ w.frozen? ⟨B, 2, none⟩ = false :=
  ⟨World.rowIs.frozen h 0, World.rowIs.frozen h 1, World.rowIs.frozen h 2⟩
theorem V4.fz {w : World} {B : Nat} {T : TypeId} {x0 x1 x2 x3 : Value} (h : V4 w B T x0 x1 x2 x3) : w.frozen? ⟨B, 0, none⟩ = false ∧ w.frozen? ⟨B, 1, none⟩ = false ∧ w.frozen? ⟨B, 2, none⟩ = false ∧ w.frozen? ⟨B, 3, none⟩ = false :=
  ⟨World.rowIs.frozen h 0, World.rowIs.frozen h 1, World.rowIs.frozen h 2, World.rowIs.frozen h 3⟩
theorem V3.other {w : World} {B C i : Nat} {T : TypeId} {x0 x1 x2 u : Value} (h : V3 w B T x0 x1 x2) (hne : B ≠ C) : V3 (w.setCell ⟨C, i, none⟩ u) B T x0 x1 x2 := h.block (Below.heap_setCell _ _ _ _ hne)
theorem V4.other {w : World} {B C i : Nat} {T : TypeId} {x0 x1 x2 x3 u : Value} (h : V4 w B T x0 x1 x2 x3) (hne : B ≠ C) : V4 (w.setCell ⟨C, i, none⟩ u) B T x0 x1 x2 x3 := h.block (Below.heap_setCell _ _ _ _ hne)
theorem V3.set0 {w : World} {B : Nat} {T : TypeId} {x0 x1 x2 : Value} (h : V3 w B T x0 x1 x2) (u : Value) : V3 (w.setCell ⟨B, 0, none⟩ u) B T u x1 x2 :=
  (World.rowIs.set h 0 _).congr (fun j hj => by match j, hj with | 0, _ => rfl | 1, _ => rfl | 2, _ => rfl)
theorem V3.set1 {w : World} {B : Nat} {T : TypeId} {x0 x1 x2 : Value} (h : V3 w B T x0 x1 x2) (u : Value) : V3 (w.setCell ⟨B, 1, none⟩ u) B T x0 u x2 :=
  (World.rowIs.set h 1 _).congr (fun j hj => by match j, hj with | 0, _ => rfl | 1, _ => rfl | 2, _ => rfl)
theorem V3.set2 {w : World} {B : Nat} {T : TypeId} {x0 x1 x2 : Value} (h : V3 w B T x0 x1 x2) (u : Value) : V3 (w.setCell ⟨B, 2, none⟩ u) B T x0 x1 u :=
  (World.rowIs.set h 2 _).congr (fun j hj => by match j, hj with | 0, _ => rfl | 1, _ => rfl | 2, _ => rfl)
theorem V4.set0 {w : World} {B : Nat} {T : TypeId} {x0 x1 x2 x3 : Value} (h : V4 w B T x0 x1 x2 x3) (u : Value) : V4 (w.setCell ⟨B, 0, none⟩ u) B T u x1 x2 x3 :=
  (World.rowIs.set h 0 _).congr (fun j hj => by match j, hj with | 0, _ => rfl | 1, _ => rfl | 2, _ => rfl | 3, _ => rfl)
theorem V4.set1 {w : World} {B : Nat} {T : TypeId} {x0 x1 x2 x3 : Value} (h : V4 w B T x0 x1 x2 x3) (u : Value) : V4 (w.setCell ⟨B, 1, none⟩ u) B T x0 u x2 x3 :=
  (World.rowIs.set h 1 _).congr (fun j hj => by match j, hj with | 0, _ => rfl | 1, _ => rfl | 2, _ => rfl | 3, _ => rfl)
theorem V4.set2 {w : World} {B : Nat} {T : TypeId} {x0 x1 x2 x3 : Value} (h : V4 w B T x0 x1 x2 x3) (u : Value) : V4 (w.setCell ⟨B, 2, none⟩ u) B T x0 x1 u x3 :=
  (World.rowIs.set h 2 _).congr (fun j hj => by match j, hj with | 0, _ => rfl | 1, _ => rfl | 2, _ => rfl | 3, _ => rfl)
theorem V4.set3 {w : World} {B : Nat} {T : TypeId} {x0 x1 x2 x3 : Value} (h : V4 w B T x0 x1 x2 x3) (u : Value) : V4 (w.setCell ⟨B, 3, none⟩ u) B T x0 x1 x2 u :=
  (World.rowIs.set h 3 _).congr (fun j hj => by match j, hj with | 0, _ => rfl | 1, _ => rfl | 2, _ => rfl | 3, _ => rfl)
end Go.Proofs.YtnpfgamlncfikaaGreatDoor

/-
  A table in a variable of the call's own.
-/
namespace Go.Proofs.YtnpfgamlncfikaaGreatDoor
open Go.RowKit
set_option maxRecDepth 4000

/-- Numbers of columns, parts and indexes, and texts, that are not great. -/
structure DFine (D : PDef) : Prop where
  name : D.name.size ≤ 1048576
  nc : D.nc ≤ 1048576
  col : ∀ i, i < D.nc → (D.col i).name.size ≤ 1048576
  np : D.np ≤ 1048576
  ni : D.ni ≤ 1048576
  idx : ∀ i, i < D.ni → (D.idx i).name.size ≤ 1048576 ∧ (D.idx i).n ≤ 1048576

/-- What was put into a variable of four cells is there while nothing of it is written. -/
theorem box4 {w wr : World} {T : TypeId} {x0 x1 x2 x3 : Value} (h : Below (w.heap.size + 1) (w.alloc (.cells #[x0, x1, x2, x3] T)) wr) :
    wr.cell? ⟨w.heap.size, 0, none⟩ = some x0 ∧ wr.cell? ⟨w.heap.size, 1, none⟩ = some x1 ∧ wr.cell? ⟨w.heap.size, 2, none⟩ = some x2 ∧ wr.cell? ⟨w.heap.size, 3, none⟩ = some x3 := by
  refine ⟨?_, ?_, ?_, ?_⟩
  all_goals (rw [h.cell (by simp)]; simp [go_sem])
theorem box4_below {w wr : World} {o : Obj} (h : Below (w.heap.size + 1) (w.alloc o) wr) : Below w.heap.size w wr ∧ w.heap.size + 1 ≤ wr.heap.size := by
  refine ⟨((Below.refl _ _).alloc (Nat.le_refl _) _).trans (h.mono (by simp)), ?_⟩
  have := h.size
  simpa using this
theorem box4_start (w : World) (o : Obj) : Below (w.heap.size + 1) (w.alloc o) (w.alloc o) := Below.refl _ _
theorem box4_on {w wr w' : World} {o : Obj} (h : Below (w.heap.size + 1) (w.alloc o) wr) (h' : Below wr.heap.size wr w') : Below (w.heap.size + 1) (w.alloc o) w' := h.trans (h'.mono (box4_below h).2)
end Go.Proofs.YtnpfgamlncfikaaGreatDoor

/-
  What turns new blocks of one type alone; what is carried over it.
-/
namespace Go.Proofs.YtnpfgamlncfikaaGreatDoor
open Go.RowKit
set_option maxRecDepth 4000

/-- Of what was there only blocks of the type T that came behind w may have turned. -/
structure Eff (w : World) (T : TypeId) (W W' : World) : Prop where
  os : W'.os = W.os
  tape : W'.tape = W.tape
  output : W'.output = W.output
  size : W.heap.size ≤ W'.heap.size
  old : ∀ k, k < w.heap.size → k < W.heap.size → W'.heap[k]? = W.heap[k]?
  ty : ∀ (k : Nat) (c : Array Value) (U : TypeId) (fr : Nat × Nat), W.heap[k]? = some (.cells c U fr) → U ≠ T → W'.heap[k]? = W.heap[k]?
theorem Eff.ofBelow {w : World} {T : TypeId} {W W' : World} (h : Below W.heap.size W W') : Eff w T W W' :=
  ⟨h.os, h.tape, h.output, h.size, fun k _ hk => h.block k hk, fun k _ _ _ hk _ => h.block k (Array.getElem?_eq_some_iff.1 hk).1⟩
theorem Eff.alloc (w : World) (T : TypeId) (W : World) (o : Obj) : Eff w T W (W.alloc o) := Eff.ofBelow ((Below.refl _ _).alloc (Nat.le_refl _) _)
theorem Eff.trans {w : World} {T : TypeId} {A B C : World} (h : Eff w T A B) (k : Eff w T B C) : Eff w T A C := by
  refine ⟨k.os.trans h.os, k.tape.trans h.tape, k.output.trans h.output, Nat.le_trans h.size k.size, fun i hi hA => (k.old i hi (Nat.lt_of_lt_of_le hA h.size)).trans (h.old i hi hA), fun i c U fr hi hU => ?_⟩
  have h1 := h.ty i c U fr hi hU
  exact (k.ty i c U fr (h1.trans hi) hU).trans h1
theorem Eff.set {w W : World} {T : TypeId} {B i : Nat} {c : Array Value} {fr : Nat × Nat} (hB : w.heap.size ≤ B) (hb : W.heap[B]? = some (.cells c T fr)) (u : Value) : Eff w T W (W.setCell ⟨B, i, none⟩ u) := by
  refine ⟨rfl, rfl, rfl, by simp, fun k hk _ => Below.heap_setCell _ _ _ _ (by show k ≠ B; omega), fun k c' U fr' hk hU => Below.heap_setCell _ _ _ _ ?_⟩
  rintro rfl
  rw [hb] at hk
  cases hk
  exact hU rfl
theorem Eff.grown {w W W' : World} {T : TypeId} {c N : Nat} {v : Value} {xs : List Value} (h : W.ownsRow w.heap.size T c v N xs) (hg : W.grownBy W' v.ownBlock) : Eff w T W W' := by
  have key : ∀ j, v.ownBlock = some j → w.heap.size ≤ j ∧ ∃ cur, W.heap[j]? = some (.cells cur T (0, 0)) := by
    intro j hj
    rcases h.2 with ⟨rfl, _⟩ | ⟨g, cap, cur, rfl, hb, hgb, _⟩
    · simp [Value.ownBlock] at hj
    · obtain rfl : g = j := by simpa [Value.ownBlock] using hj
      exact ⟨hb, cur, hgb⟩
  refine ⟨hg.os, hg.tape, hg.output, hg.size, fun k hk hW => hg.block k hW (fun e => by have := (key k e.symm).1; omega), fun k c' U fr hk hU => hg.block k (Array.getElem?_eq_some_iff.1 hk).1 (fun e => ?_)⟩
  obtain ⟨_, cur, h2⟩ := key k e.symm
  rw [h2] at hk
  cases hk
  exact hU rfl

/-- A table's variable that came behind w. -/
structure Vd (w : World) (B : Nat) (x0 x1 x2 x3 : Value) (W : World) : Prop where
  v : V4 W B 35 x0 x1 x2 x3
  ge : w.heap.size ≤ B
theorem V4.blk {w : World} {B : Nat} {T : TypeId} {x0 x1 x2 x3 : Value} (h : V4 w B T x0 x1 x2 x3) : ∃ c, w.heap[B]? = some (.cells c T (0, 0)) := by
  obtain ⟨c, h1, _⟩ := h
  exact ⟨c, h1⟩
theorem Vd.eff {w : World} {B : Nat} {x0 x1 x2 x3 : Value} {T : TypeId} {W W' : World} (h : Vd w B x0 x1 x2 x3 W) (e : Eff w T W W') (hT : 35 ≠ T) : Vd w B x0 x1 x2 x3 W' := by
  obtain ⟨c, hc⟩ := h.v.blk
  exact ⟨h.v.block (e.ty B _ _ _ hc hT), h.ge⟩
theorem Vd.but {w : World} {B : Nat} {x0 x1 x2 x3 : Value} {g : Nat} {W W' : World} (h : Vd w B x0 x1 x2 x3 W) (hb : But g W W') (hg : g < w.heap.size) : Vd w B x0 x1 x2 x3 W' :=
  ⟨h.v.block (hb.block B h.v.lt (by have := h.ge; omega)), h.ge⟩
theorem Vd.below {w : World} {B : Nat} {x0 x1 x2 x3 : Value} {W W' : World} (h : Vd w B x0 x1 x2 x3 W) (hb : Below W.heap.size W W') : Vd w B x0 x1 x2 x3 W' := ⟨h.v.below hb, h.ge⟩
theorem Vd.new {w W : World} (hw : w.heap.size ≤ W.heap.size) (x0 x1 x2 x3 : Value) : Vd w W.heap.size x0 x1 x2 x3 (W.alloc (.cells #[x0, x1, x2, x3] 35)) := ⟨V4.new _ _ _ _ _ _, hw⟩
/-- Storing into the variable. -/
theorem Vd.effSet {w : World} {B : Nat} {x0 x1 x2 x3 : Value} {W : World} (h : Vd w B x0 x1 x2 x3 W) (i : Nat) (u : Value) : Eff w 35 W (W.setCell ⟨B, i, none⟩ u) := by
  obtain ⟨c, hc⟩ := h.v.blk
  exact Eff.set h.ge hc u
theorem Vd.set0 {w : World} {B : Nat} {x0 x1 x2 x3 : Value} {W : World} (h : Vd w B x0 x1 x2 x3 W) (u : Value) : Vd w B u x1 x2 x3 (W.setCell ⟨B, 0, none⟩ u) := ⟨h.v.set0 u, h.ge⟩
theorem Vd.set1 {w : World} {B : Nat} {x0 x1 x2 x3 : Value} {W : World} (h : Vd w B x0 x1 x2 x3 W) (u : Value) : Vd w B x0 u x2 x3 (W.setCell ⟨B, 1, none⟩ u) := ⟨h.v.set1 u, h.ge⟩
theorem Vd.set2 {w : World} {B : Nat} {x0 x1 x2 x3 : Value} {W : World} (h : Vd w B x0 x1 x2 x3 W) (u : Value) : Vd w B x0 x1 u x3 (W.setCell ⟨B, 2, none⟩ u) := ⟨h.v.set2 u, h.ge⟩
theorem Vd.set3 {w : World} {B : Nat} {x0 x1 x2 x3 : Value} {W : World} (h : Vd w B x0 x1 x2 x3 W) (u : Value) : Vd w B x0 x1 x2 u (W.setCell ⟨B, 3, none⟩ u) := ⟨h.v.set3 u, h.ge⟩
theorem Vd.other {w : World} {B C i : Nat} {x0 x1 x2 x3 u : Value} {W : World} (h : Vd w B x0 x1 x2 x3 W) (hne : B ≠ C) : Vd w B x0 x1 x2 x3 (W.setCell ⟨C, i, none⟩ u) := ⟨h.v.other hne, h.ge⟩

/-- Rows of the call's own. -/
theorem own_eff {w W W' : World} {T U : TypeId} {c N : Nat} {v : Value} {xs : List Value} (h : W.ownsRow w.heap.size U c v N xs) (e : Eff w T W W') (hT : U ≠ T) : W'.ownsRow w.heap.size U c v N xs := by
  refine ⟨h.1, ?_⟩
  rcases h.2 with ⟨e1, h0⟩ | ⟨g, k, cur, e1, hb0, hg, hr⟩
  · exact .inl ⟨e1, h0⟩
  · exact .inr ⟨g, k, cur, e1, hb0, (e.ty g _ _ _ hg hT).trans hg, hr⟩
theorem own_but9 {w W W' : World} {U : TypeId} {c N g : Nat} {v : Value} {xs : List Value} (h : W.ownsRow w.heap.size U c v N xs) (hb : But g W W') (hg : g < w.heap.size) : W'.ownsRow w.heap.size U c v N xs := by
  refine ⟨h.1, ?_⟩
  rcases h.2 with ⟨e1, h0⟩ | ⟨k, cp, cur, e1, hb0, hk, hr⟩
  · exact .inl ⟨e1, h0⟩
  · exact .inr ⟨k, cp, cur, e1, hb0, (hb.block k (Array.getElem?_eq_some_iff.1 hk).1 (by omega)).trans hk, hr⟩

theorem own_belowG9 {W W' : World} {base T c N : Nat} {v : Value} {xs : List Value} (h : W.ownsRow base T c v N xs) (hb : Below W.heap.size W W') : W'.ownsRow base T c v N xs := by
  refine ⟨h.1, ?_⟩
  rcases h.2 with ⟨e, h0⟩ | ⟨g, k, cur, e, hb0, hg, hr⟩
  · exact .inl ⟨e, h0⟩
  · exact .inr ⟨g, k, cur, e, hb0, (hb.block g (Array.getElem?_eq_some_iff.1 hg).1).trans hg, hr⟩
theorem own_succG {W : World} {base T c k : Nat} {v : Value} {xs : List Value} (h : W.ownsRow base T c v (k + 1) xs) : ∃ g cap, v = .slice (some ⟨g, 0, none⟩) (k + 1) cap := by
  rcases h.2 with ⟨_, h0⟩ | ⟨g, cap, cur, e, _⟩
  · omega
  · exact ⟨g, cap, e⟩

/-- The parts of an index, in a row of their own. -/
structure PtAt (w : World) (A C : Nat) (x : PIdx) (W : World) : Prop where
  own : W.ownsRow w.heap.size 70 2 (.slice (some ⟨A, 0, none⟩) x.n C) x.n (rowG (encB x.part) x.n)
theorem PtAt.view {w : World} {A C : Nat} {x : PIdx} {W : World} (h : PtAt w A C x W) : BView W (some ⟨A, 0, none⟩) x.n C x.part := by
  obtain ⟨a, k, e, hv, _⟩ := bview_of_own h.own
  cases e
  exact hv
/-- The parts of all indexes; none lies in the block b. -/
structure Pts (w : World) (b : Option Nat) (ni : Nat) (idx : Nat → PIdx) (A C : Nat → Nat) (W : World) : Prop where
  at_ : ∀ i, i < ni → PtAt w (A i) (C i) (idx i) W
  ne : ∀ i, i < ni → b ≠ some (A i)
theorem Pts.eff {w : World} {b : Option Nat} {ni : Nat} {idx : Nat → PIdx} {A C : Nat → Nat} {T : TypeId} {W W' : World} (h : Pts w b ni idx A C W) (e : Eff w T W W') (hT : 70 ≠ T) : Pts w b ni idx A C W' :=
  ⟨fun i hi => ⟨own_eff (h.at_ i hi).own e hT⟩, h.ne⟩
theorem Pts.but {w : World} {b : Option Nat} {ni : Nat} {idx : Nat → PIdx} {A C : Nat → Nat} {g : Nat} {W W' : World} (h : Pts w b ni idx A C W) (hb : But g W W') (hg : g < w.heap.size) : Pts w b ni idx A C W' :=
  ⟨fun i hi => ⟨own_but9 (h.at_ i hi).own hb hg⟩, h.ne⟩
theorem Pts.grown {w : World} {b : Option Nat} {ni : Nat} {idx : Nat → PIdx} {A C : Nat → Nat} {W W' : World} (h : Pts w b ni idx A C W) (hg : W.grownBy W' b) : Pts w b ni idx A C W' :=
  ⟨fun i hi => ⟨(h.at_ i hi).own.kept hg (.inr (fun e => h.ne i hi (by simpa [Value.ownBlock] using e.symm)))⟩, h.ne⟩
theorem Pts.none (w : World) (b : Option Nat) (idx : Nat → PIdx) (A C : Nat → Nat) (W : World) : Pts w b 0 idx A C W := ⟨fun _ hi => absurd hi (Nat.not_lt_zero _), fun _ hi => absurd hi (Nat.not_lt_zero _)⟩

/-- A row of texts of the call's own, only read. -/
structure Txs (w : World) (b : Nat) (l : List ByteArray) (W : World) : Prop where
  blk : W.heap[b]? = some (.cells (l.map Value.string).toArray 9 (0, 0))
  ge : w.heap.size ≤ b
theorem Txs.eff {w : World} {b : Nat} {l : List ByteArray} {T : TypeId} {W W' : World} (h : Txs w b l W) (e : Eff w T W W') (hT : 9 ≠ T) : Txs w b l W' := ⟨(e.ty b _ _ _ h.blk hT).trans h.blk, h.ge⟩
theorem Txs.but {w : World} {b : Nat} {l : List ByteArray} {g : Nat} {W W' : World} (h : Txs w b l W) (hb : But g W W') (hg : g < w.heap.size) : Txs w b l W' :=
  ⟨(hb.block b (Array.getElem?_eq_some_iff.1 h.blk).1 (by have := h.ge; omega)).trans h.blk, h.ge⟩
theorem Txs.new {w W : World} (hw : w.heap.size ≤ W.heap.size) (l : List ByteArray) : Txs w W.heap.size l (W.alloc (.cells (l.map Value.string).toArray 9)) := ⟨heap_alloc_new _ _, hw⟩
theorem Txs.cell {w : World} {b : Nat} {l : List ByteArray} {W : World} (h : Txs w b l W) {i : Nat} {s : ByteArray} (hi : l[i]? = some s) : W.cell? ⟨b, i, none⟩ = some (.string s) := by
  simp [World.cell?, h.blk, hi]
theorem infoCol9 : ∃ i, Tryz.prog.info? 67 = some i ∧ i.zero = some (.agg #[.string ⟨#[]⟩, .int .i64 0, .bool false]) ∧ i.size = 3 ∧ i.bytes = 32 := by
  have h : (Tryz.prog.info? 67).map (fun i => (i.zero, i.size, i.bytes)) = some (some (.agg #[.string ⟨#[]⟩, .int .i64 0, .bool false]), 3, 32) := by kernel_rfl
  obtain ⟨i, hi, hz⟩ := Option.map_eq_some_iff.1 h
  simp only [Prod.mk.injEq] at hz
  exact ⟨i, hi, hz.1, hz.2.1, hz.2.2⟩
theorem infoBy9 : ∃ i, Tryz.prog.info? 70 = some i ∧ i.zero = some (.agg #[.int .i64 0, .bool false]) ∧ i.size = 2 ∧ i.bytes = 16 := by
  have h : (Tryz.prog.info? 70).map (fun i => (i.zero, i.size, i.bytes)) = some (some (.agg #[.int .i64 0, .bool false]), 2, 16) := by kernel_rfl
  obtain ⟨i, hi, hz⟩ := Option.map_eq_some_iff.1 h
  simp only [Prod.mk.injEq] at hz
  exact ⟨i, hi, hz.1, hz.2.1, hz.2.2⟩
theorem infoIdx9 : ∃ i, Tryz.prog.info? 73 = some i ∧ i.zero = some (.agg #[.string ⟨#[]⟩, .bool false, .slice none 0 0]) ∧ i.size = 3 ∧ i.bytes = 48 := by
  have h : (Tryz.prog.info? 73).map (fun i => (i.zero, i.size, i.bytes)) = some (some (.agg #[.string ⟨#[]⟩, .bool false, .slice none 0 0]), 3, 48) := by kernel_rfl
  obtain ⟨i, hi, hz⟩ := Option.map_eq_some_iff.1 h
  simp only [Prod.mk.injEq] at hz
  exact ⟨i, hi, hz.1, hz.2.1, hz.2.2⟩
end Go.Proofs.YtnpfgamlncfikaaGreatDoor

/-
  Texts joined, a blank between, plainly.
-/
namespace Go.Proofs.YtnpfgamlncfikaaGreatDoor
open Go.RowKit
set_option maxRecDepth 4000

/-- The texts of the first k tokens, a blank between. -/
def joinT (fs : Nat → ByteArray) : Nat → ByteArray
  | 0 => ⟨#[]⟩
  | k + 1 => (if 0 < k then joinT fs k ++ (⟨#[32]⟩ : ByteArray) else joinT fs k) ++ fs k
theorem joinT_size {fs : Nat → ByteArray} {B n : Nat} (h : ∀ i, i < n → (fs i).size ≤ B) : ∀ k, k ≤ n → (joinT fs k).size ≤ k * (B + 1)
  | 0, _ => Nat.zero_le _
  | k + 1, hk => by
    have ih := joinT_size h k (by omega)
    have h1 := h k (by omega)
    have h2 : (⟨#[32]⟩ : ByteArray).size = 1 := rfl
    rw [joinT, ByteArray.size_append]
    have h3 : (k + 1) * (B + 1) = k * (B + 1) + (B + 1) := by rw [Nat.add_mul]; omega
    split
    · rw [ByteArray.size_append]; omega
    · omega
theorem joinT_congr {fs gs : Nat → ByteArray} : ∀ {n : Nat}, (∀ i, i < n → fs i = gs i) → joinT fs n = joinT gs n
  | 0, _ => rfl
  | n + 1, h => by rw [joinT, joinT, joinT_congr (fun i hi => h i (by omega)), h n (by omega)]

end Go.Proofs.YtnpfgamlncfikaaGreatDoor

/-
  Tokens that are joined come back, plainly.
-/
namespace Go.Proofs.YtnpfgamlncfikaaGreatDoor
open Go.RowKit
set_option maxRecDepth 4000

theorem bt_left {a b : ByteArray} {i : Nat} (h : i < a.size) : bt (a ++ b) i = bt a i := by
  have h2 : i < (a ++ b).size := by rw [ByteArray.size_append]; omega
  rw [← bt_at h, ← bt_at h2, ByteArray.getElem_append_left h]
theorem bt_right (a b : ByteArray) (j : Nat) : bt (a ++ b) (a.size + j) = bt b j := by
  by_cases h : j < b.size
  · have h2 : a.size + j < (a ++ b).size := by rw [ByteArray.size_append]; omega
    rw [← bt_at h, ← bt_at h2, ByteArray.getElem_append_right (by omega)]
    congr 2
    simp
  · unfold bt
    rw [dif_neg h, dif_neg (by rw [ByteArray.size_append]; omega)]
/-- Texts of the same bytes are one. -/
theorem bt_ext {a b : ByteArray} (hs : a.size = b.size) (h : ∀ i, i < a.size → bt a i = bt b i) : a = b := by
  apply ByteArray.ext
  apply Array.ext
  · exact hs
  · intro i h1 h2
    have h1' : i < a.size := h1
    have h2' : i < b.size := h2
    have e := h i h1'
    rw [← bt_at h1', ← bt_at h2'] at e
    have e2 : a[i] = b[i] := by apply UInt8.toNat.inj; omega
    exact e2

/-- A name goes on as far as its bytes do. -/
theorem endN_run {s : ByteArray} {p m : Nat} (hle : p + m ≤ s.size) (h : ∀ j, j < m → inName (bt s (p + j)) = true) (hend : p + m = s.size ∨ inName (bt s (p + m)) = false) : ∀ j, j ≤ m → endN s (p + (m - j)) = p + m
  | 0, _ => by
    rw [Nat.sub_zero]
    refine endN_stop (fun hh => ?_)
    rcases hend with e | e
    · omega
    · rw [e] at hh; cases hh.2
  | j + 1, hj => by
    have ih := endN_run hle h hend j (by omega)
    rw [endN_step (by omega) (h (m - (j + 1)) (by omega)), show p + (m - (j + 1)) + 1 = p + (m - j) by omega]
    exact ih

theorem blank_of {c : Int} (h : inName c = true ∨ markC c = true) : blank c = false := by
  unfold inName small digit at h
  unfold markC at h
  unfold blank
  simp only [Bool.or_eq_true, decide_eq_true_eq] at h
  apply decide_eq_false
  omega
/-- A right token that stands at a place is read there. -/
theorem lex_one {s t : ByteArray} {p : Nat} {kd : Int} {l : List (Int × ByteArray)} (hk : tokOk kd t = true) (hat : ∀ j, j < t.size → bt s (p + j) = bt t j) (hle : p + t.size ≤ s.size) (hend : p + t.size = s.size ∨ bt s (p + t.size) = 32) (hl : l.length ≠ 500) :
    lexF s p l = lexF s (p + t.size) (l ++ [(kd, t)]) := by
  have hext : s.extract p (p + t.size) = t := by
    refine bt_ext (by rw [ByteArray.size_extract]; omega) (fun i hi => ?_)
    rw [ByteArray.size_extract] at hi
    rw [bt_extract hle (by omega), hat i (by omega)]
  have hend2 : p + t.size = s.size ∨ inName (bt s (p + t.size)) = false := by
    rcases hend with e | e
    · exact .inl e
    · right; rw [e]; rfl
  by_cases c1 : kd = 1
  · subst c1
    have hn : nameOk t = true := hk
    unfold nameOk at hn
    simp only [decide_eq_true_eq] at hn
    obtain ⟨h1, h8, hs0, hall⟩ := hn
    have h0 := hat 0 (by omega)
    rw [Nat.add_zero] at h0
    have hka : kindAt s p = 1 := by unfold kindAt; rw [h0, hs0]; rfl
    have hst : stopAt s p = p + t.size := by
      unfold stopAt
      rw [h0, hs0]
      show endN s (p + 1) = _
      have := endN_run (s := s) (p := p) (m := t.size) hle (fun j hj => by rw [hat j hj]; exact hall j hj) hend2 (t.size - 1) (by omega)
      rw [show p + (t.size - (t.size - 1)) = p + 1 by omega] at this
      exact this
    rw [lexF_tok (by omega) (blank_of (.inl (by rw [h0]; exact hall 0 (by omega)))) (by rw [hka, hst, hext]; exact hk) hl, hka, hst, hext]
  · have c2 : kd = 2 := by
      unfold tokOk at hk
      rw [if_neg c1] at hk
      by_cases c2 : kd = 2
      · exact c2
      · rw [if_neg c2] at hk; cases hk
    subst c2
    have hn : markOk t = true := hk
    unfold markOk at hn
    simp only [decide_eq_true_eq] at hn
    obtain ⟨h1, hm⟩ := hn
    have h0 := hat 0 (by omega)
    rw [Nat.add_zero] at h0
    have hsm : small (bt s p) = false := by
      rw [h0]
      unfold markC at hm
      unfold small
      simp only [decide_eq_true_eq] at hm
      apply decide_eq_false
      omega
    have hka : kindAt s p = 2 := by unfold kindAt; rw [hsm]; rfl
    have hst : stopAt s p = p + t.size := by unfold stopAt; rw [hsm, h1]; rfl
    rw [lexF_tok (by omega) (blank_of (.inr (by rw [h0]; exact hm))) (by rw [hka, hst, hext]; exact hk) hl, hka, hst, hext]

/-- Where the k-th token begins. -/
def beg (fs : Nat → ByteArray) (k : Nat) : Nat := (joinT fs k).size + (if 0 < k then 1 else 0)
theorem joinT_end (fs : Nat → ByteArray) (k : Nat) : (joinT fs (k + 1)).size = beg fs k + (fs k).size := by
  unfold beg
  have h2 : (⟨#[32]⟩ : ByteArray).size = 1 := rfl
  rw [joinT, ByteArray.size_append]
  split
  · rw [ByteArray.size_append]; omega
  · omega
theorem joinT_pre (fs : Nat → ByteArray) : ∀ (n m : Nat), m ≤ n → (joinT fs m).size ≤ (joinT fs n).size ∧ ∀ i, i < (joinT fs m).size → bt (joinT fs n) i = bt (joinT fs m) i
  | 0, m, h => by
    obtain rfl : m = 0 := by omega
    exact ⟨Nat.le_refl _, fun _ _ => rfl⟩
  | n + 1, m, h => by
    by_cases e : m = n + 1
    · subst e; exact ⟨Nat.le_refl _, fun _ _ => rfl⟩
    · obtain ⟨h1, h2⟩ := joinT_pre fs n m (by omega)
      have h3 := joinT_end fs n
      have h4 : (joinT fs n).size ≤ beg fs n := by unfold beg; omega
      refine ⟨by omega, fun i hi => ?_⟩
      rw [← h2 i hi, joinT]
      by_cases h0 : 0 < n
      · rw [if_pos h0, bt_left (by rw [ByteArray.size_append]; omega), bt_left (by omega)]
      · rw [if_neg h0, bt_left (by omega)]
/-- The k-th token stands in the joined text. -/
theorem join_at {fs : Nat → ByteArray} {n k : Nat} (hk : k < n) : (∀ j, j < (fs k).size → bt (joinT fs n) (beg fs k + j) = bt (fs k) j) ∧ beg fs k + (fs k).size ≤ (joinT fs n).size ∧ (beg fs k + (fs k).size = (joinT fs n).size ∨ bt (joinT fs n) (beg fs k + (fs k).size) = 32) ∧ (k + 1 < n → bt (joinT fs n) (beg fs k + (fs k).size) = 32 ∧ beg fs (k + 1) = beg fs k + (fs k).size + 1) ∧ (k + 1 = n → beg fs k + (fs k).size = (joinT fs n).size) := by
  have hE := joinT_end fs k
  obtain ⟨h1, h2⟩ := joinT_pre fs n (k + 1) (by omega)
  have ha : ∀ j, j < (fs k).size → bt (joinT fs n) (beg fs k + j) = bt (fs k) j := by
    intro j hj
    rw [h2 _ (by omega), joinT]
    unfold beg
    by_cases h0 : 0 < k
    · rw [if_pos h0, if_pos h0]
      have e : (joinT fs k).size + 1 = (joinT fs k ++ (⟨#[32]⟩ : ByteArray)).size := by rw [ByteArray.size_append]; rfl
      rw [e]
      exact bt_right _ _ _
    · rw [if_neg h0, if_neg h0, Nat.add_zero]
      exact bt_right _ _ _
  have hnx : k + 1 < n → bt (joinT fs n) (beg fs k + (fs k).size) = 32 ∧ beg fs (k + 1) = beg fs k + (fs k).size + 1 := by
    intro hlt
    obtain ⟨h3, h4⟩ := joinT_pre fs n (k + 2) (by omega)
    have hE2 := joinT_end fs (k + 1)
    have hb : beg fs (k + 1) = beg fs k + (fs k).size + 1 := by
      conv => lhs; unfold beg
      rw [if_pos (by omega), hE]
    refine ⟨?_, hb⟩
    rw [h4 _ (by rw [show k + 2 = k + 1 + 1 from rfl, hE2]; omega), show k + 2 = k + 1 + 1 from rfl, joinT, if_pos (by omega), ← hE]
    rw [bt_left (by rw [ByteArray.size_append]; show _ < _ + 1; omega)]
    have := bt_right (joinT fs (k + 1)) (⟨#[32]⟩ : ByteArray) 0
    exact this.trans rfl
  have hlast : k + 1 = n → beg fs k + (fs k).size = (joinT fs n).size := by
    rintro rfl; rw [hE]
  refine ⟨ha, by omega, ?_, hnx, hlast⟩
  by_cases e : k + 1 = n
  · exact .inl (hlast e)
  · exact .inr (hnx (by omega)).1

/-- Tokens that are joined come back. -/
theorem lex_join {l : List (Int × ByteArray)} (hl : l.length ≤ 500) (hok : ∀ i, i < l.length → tokOk (tk l i) (ts l i) = true) : lexF (joinT (ts l) l.length) 0 [] = (l, -1) := by
  have key : ∀ k, k ≤ l.length → lexF (joinT (ts l) l.length) 0 [] = lexF (joinT (ts l) l.length) (if k < l.length then beg (ts l) k else (joinT (ts l) l.length).size) (l.take k) := by
    intro k
    induction k with
    | zero =>
      intro _
      by_cases h0 : 0 < l.length
      · rw [if_pos h0]; rfl
      · have : l = [] := by cases l with
          | nil => rfl
          | cons => simp at h0
        subst this; rfl
    | succ k ih =>
      intro hk
      have hkl : k < l.length := by omega
      rw [ih (by omega), if_pos hkl]
      obtain ⟨ha, hle, hend, hnx, hlast⟩ := join_at (fs := ts l) hkl
      have hlt : (l.take k).length ≠ 500 := by rw [List.length_take]; omega
      rw [lex_one (hok k hkl) ha hle hend hlt]
      have ht : l.take k ++ [(tk l k, ts l k)] = l.take (k + 1) := by
        rw [List.take_add_one, List.getElem?_eq_getElem hkl]
        unfold tk ts
        have h2 : l.getD k (0, ⟨#[]⟩) = l[k] := by simp [List.getD, List.getElem?_eq_getElem hkl]
        rw [h2]; rfl
      rw [ht]
      by_cases e : k + 1 < l.length
      · obtain ⟨h3, h4⟩ := hnx e
        rw [if_pos e, h4]
        refine lexF_blank ?_ (by rw [h3]; rfl)
        rcases Nat.lt_or_ge (beg (ts l) k + (ts l k).size) (joinT (ts l) l.length).size with h5 | h5
        · exact h5
        · unfold bt at h3; rw [dif_neg (by omega)] at h3; cases h3
      · rw [if_neg e, hlast (by omega)]
  rw [key l.length (Nat.le_refl _), if_neg (Nat.lt_irrefl _), List.take_length]
  exact lexF_end (Nat.lt_irrefl _)
end Go.Proofs.YtnpfgamlncfikaaGreatDoor

