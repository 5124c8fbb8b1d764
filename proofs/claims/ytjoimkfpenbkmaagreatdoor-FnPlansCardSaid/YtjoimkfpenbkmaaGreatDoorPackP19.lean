/-
  Together: EffKit, TabKit9
-/
import Derived.Test.YtjoimkfpenbkmaaGreatDoorPackP5
import Derived.Test.YtjoimkfpenbkmaaGreatDoorPackP4
import Derived.Test.YtjoimkfpenbkmaaGreatDoorPackP2
import Derived.Test.YtjoimkfpenbkmaaGreatDoorPackP3
import Derived.Test.YtjoimkfpenbkmaaGreatDoorPackP8
/-
  What turns new blocks of one type alone; what is carried over it.
-/
namespace Go.Proofs.YtjoimkfpenbkmaaGreatDoor
open Go.RowKit
set_option maxRecDepth 4000

/-- Of what was there only blocks of the type T that came behind w may have turned. -/
structure Eff (w : World) (T : TypeId) (W W' : World) : Prop where
  os : W'.os = W.os
  tape : W'.tape = W.tape
  output : W'.output = W.output
  size : W.heap.size ≤ W'.heap.size
  old : ∀ k, k < w.heap.size → k < W.heap.size → W'.heap[k]? = W.heap[k]?
  ty : ∀ (k : Nat) (c : Array Value) (U : TypeId) (fr : Nat × Nat), W.heap[k]? = some (.cells c U fr) → U ≠ T → W'.heap[k]? = W.heap[k]?
theorem Eff.ofBelow {w : World} {T : TypeId} {W W' : World} (h : Below W.heap.size W W') : Eff w T W W' :=
  ⟨h.os, h.tape, h.output, h.size, fun k _ hk => h.block k hk, fun k _ _ _ hk _ => h.block k (Array.getElem?_eq_some_iff.1 hk).1⟩
theorem Eff.alloc (w : World) (T : TypeId) (W : World) (o : Obj) : Eff w T W (W.alloc o) := Eff.ofBelow ((Below.refl _ _).alloc (Nat.le_refl _) _)
theorem Eff.trans {w : World} {T : TypeId} {A B C : World} (h : Eff w T A B) (k : Eff w T B C) : Eff w T A C := by
  refine ⟨k.os.trans h.os, k.tape.trans h.tape, k.output.trans h.output, Nat.le_trans h.size k.size, fun i hi hA => (k.old i hi (Nat.lt_of_lt_of_le hA h.size)).trans (h.old i hi hA), fun i c U fr hi hU => ?_⟩
  have h1 := h.ty i c U fr hi hU
  exact (k.ty i c U fr (h1.trans hi) hU).trans h1
theorem Eff.set {w W : World} {T : TypeId} {B i : Nat} {c : Array Value} {fr : Nat × Nat} (hB : w.heap.size ≤ B) (hb : W.heap[B]? = some (.cells c T fr)) (u : Value) : Eff w T W (W.setCell ⟨B, i, none⟩ u) := by
  refine ⟨rfl, rfl, rfl, by simp, fun k hk _ => Below.heap_setCell _ _ _ _ (by show k ≠ B; omega), fun k c' U fr' hk hU => Below.heap_setCell _ _ _ _ ?_⟩
  rintro rfl
  rw [hb] at hk
  cases hk
  exact hU rfl
theorem Eff.grown {w W W' : World} {T : TypeId} {c N : Nat} {v : Value} {xs : List Value} (h : W.ownsRow w.heap.size T c v N xs) (hg : W.grownBy W' v.ownBlock) : Eff w T W W' := by
  have key : ∀ j, v.ownBlock = some j → w.heap.size ≤ j ∧ ∃ cur, W.heap[j]? = some (.cells cur T (0, 0)) := by
    intro j hj
    rcases h.2 with ⟨rfl, _⟩ | ⟨g, cap, cur, rfl, hb, hgb, _⟩
    · simp [Value.ownBlock] at hj
    · obtain rfl : g = j := by simpa [Value.ownBlock] using hj
      exact ⟨hb, cur, hgb⟩
  refine ⟨hg.os, hg.tape, hg.output, hg.size, fun k hk hW => hg.block k hW (fun e => by have := (key k e.symm).1; omega), fun k c' U fr hk hU => hg.block k (Array.getElem?_eq_some_iff.1 hk).1 (fun e => ?_)⟩
  obtain ⟨_, cur, h2⟩ := key k e.symm
  rw [h2] at hk
  cases hk
  exact hU rfl

/-- A table's variable that came behind w. -/
structure Vd (w : World) (B : Nat) (x0 x1 x2 x3 : Value) (W : World) : Prop where
  v : V4 W B 28 x0 x1 x2 x3
  ge : w.heap.size ≤ B
theorem V4.blk {w : World} {B : Nat} {T : TypeId} {x0 x1 x2 x3 : Value} (h : V4 w B T x0 x1 x2 x3) : ∃ c, w.heap[B]? = some (.cells c T (0, 0)) := by
  obtain ⟨c, h1, _⟩ := h
  exact ⟨c, h1⟩
theorem Vd.eff {w : World} {B : Nat} {x0 x1 x2 x3 : Value} {T : TypeId} {W W' : World} (h : Vd w B x0 x1 x2 x3 W) (e : Eff w T W W') (hT : 28 ≠ T) : Vd w B x0 x1 x2 x3 W' := by
  obtain ⟨c, hc⟩ := h.v.blk
  exact ⟨h.v.block (e.ty B _ _ _ hc hT), h.ge⟩
theorem Vd.but {w : World} {B : Nat} {x0 x1 x2 x3 : Value} {g : Nat} {W W' : World} (h : Vd w B x0 x1 x2 x3 W) (hb : But g W W') (hg : g < w.heap.size) : Vd w B x0 x1 x2 x3 W' :=
  ⟨h.v.block (hb.block B h.v.lt (by have := h.ge; omega)), h.ge⟩
theorem Vd.below {w : World} {B : Nat} {x0 x1 x2 x3 : Value} {W W' : World} (h : Vd w B x0 x1 x2 x3 W) (hb : Below W.heap.size W W') : Vd w B x0 x1 x2 x3 W' := ⟨h.v.below hb, h.ge⟩
theorem Vd.new {w W : World} (hw : w.heap.size ≤ W.heap.size) (x0 x1 x2 x3 : Value) : Vd w W.heap.size x0 x1 x2 x3 (W.alloc (.cells #[x0, x1, x2, x3] 28)) := ⟨V4.new _ _ _ _ _ _, hw⟩
/-- Storing into the variable. -/
theorem Vd.effSet {w : World} {B : Nat} {x0 x1 x2 x3 : Value} {W : World} (h : Vd w B x0 x1 x2 x3 W) (i : Nat) (u : Value) : Eff w 28 W (W.setCell ⟨B, i, none⟩ u) := by
  obtain ⟨c, hc⟩ := h.v.blk
  exact Eff.set h.ge hc u
theorem Vd.set0 {w : World} {B : Nat} {x0 x1 x2 x3 : Value} {W : World} (h : Vd w B x0 x1 x2 x3 W) (u : Value) : Vd w B u x1 x2 x3 (W.setCell ⟨B, 0, none⟩ u) := ⟨h.v.set0 u, h.ge⟩
theorem Vd.set1 {w : World} {B : Nat} {x0 x1 x2 x3 : Value} {W : World} (h : Vd w B x0 x1 x2 x3 W) (u : Value) : Vd w B x0 u x2 x3 (W.setCell ⟨B, 1, none⟩ u) := ⟨h.v.set1 u, h.ge⟩
theorem Vd.set2 {w : World} {B : Nat} {x0 x1 x2 x3 : Value} {W : World} (h : Vd w B x0 x1 x2 x3 W) (u : Value) : Vd w B x0 x1 u x3 (W.setCell ⟨B, 2, none⟩ u) := ⟨h.v.set2 u, h.ge⟩
theorem Vd.set3 {w : World} {B : Nat} {x0 x1 x2 x3 : Value} {W : World} (h : Vd w B x0 x1 x2 x3 W) (u : Value) : Vd w B x0 x1 x2 u (W.setCell ⟨B, 3, none⟩ u) := ⟨h.v.set3 u, h.ge⟩
theorem Vd.other {w : World} {B C i : Nat} {x0 x1 x2 x3 u : Value} {W : World} (h : Vd w B x0 x1 x2 x3 W) (hne : B ≠ C) : Vd w B x0 x1 x2 x3 (W.setCell ⟨C, i, none⟩ u) := ⟨h.v.other hne, h.ge⟩

/-- Rows of the call's own. -/
theorem own_eff {w W W' : World} {T U : TypeId} {c N : Nat} {v : Value} {xs : List Value} (h : W.ownsRow w.heap.size U c v N xs) (e : Eff w T W W') (hT : U ≠ T) : W'.ownsRow w.heap.size U c v N xs := by
  refine ⟨h.1, ?_⟩
  rcases h.2 with ⟨e1, h0⟩ | ⟨g, k, cur, e1, hb0, hg, hr⟩
  · exact .inl ⟨e1, h0⟩
  · exact .inr ⟨g, k, cur, e1, hb0, (e.ty g _ _ _ hg hT).trans hg, hr⟩
theorem own_but9 {w W W' : World} {U : TypeId} {c N g : Nat} {v : Value} {xs : List Value} (h : W.ownsRow w.heap.size U c v N xs) (hb : But g W W') (hg : g < w.heap.size) : W'.ownsRow w.heap.size U c v N xs := by
  refine ⟨h.1, ?_⟩
  rcases h.2 with ⟨e1, h0⟩ | ⟨k, cp, cur, e1, hb0, hk, hr⟩
  · exact .inl ⟨e1, h0⟩
  · exact .inr ⟨k, cp, cur, e1, hb0, (hb.block k (Array.getElem?_eq_some_iff.1 hk).1 (by omega)).trans hk, hr⟩

theorem own_belowG9 {W W' : World} {base T c N : Nat} {v : Value} {xs : List Value} (h : W.ownsRow base T c v N xs) (hb : Below W.heap.size W W') : W'.ownsRow base T c v N xs := by
  refine ⟨h.1, ?_⟩
  rcases h.2 with ⟨e, h0⟩ | ⟨g, k, cur, e, hb0, hg, hr⟩
  · exact .inl ⟨e, h0⟩
  · exact .inr ⟨g, k, cur, e, hb0, (hb.block g (Array.getElem?_eq_some_iff.1 hg).1).trans hg, hr⟩
theorem own_succG {W : World} {base T c k : Nat} {v : Value} {xs : List Value} (h : W.ownsRow base T c v (k + 1) xs) : ∃ g cap, v = .slice (some ⟨g, 0, none⟩) (k + 1) cap := by
  rcases h.2 with ⟨_, h0⟩ | ⟨g, cap, cur, e, _⟩
  · omega
  · exact ⟨g, cap, e⟩

/-- The parts of an index, in a row of their own. -/
structure PtAt (w : World) (A C : Nat) (x : PIdx) (W : World) : Prop where
  own : W.ownsRow w.heap.size 78 2 (.slice (some ⟨A, 0, none⟩) x.n C) x.n (rowG (encB x.part) x.n)
theorem PtAt.view {w : World} {A C : Nat} {x : PIdx} {W : World} (h : PtAt w A C x W) : BView W (some ⟨A, 0, none⟩) x.n C x.part := by
  obtain ⟨a, k, e, hv, _⟩ := bview_of_own h.own
  cases e
  exact hv
/-- The parts of all indexes; none lies in the block b. -/
structure Pts (w : World) (b : Option Nat) (ni : Nat) (idx : Nat → PIdx) (A C : Nat → Nat) (W : World) : Prop where
  at_ : ∀ i, i < ni → PtAt w (A i) (C i) (idx i) W
  ne : ∀ i, i < ni → b ≠ some (A i)
theorem Pts.eff {w : World} {b : Option Nat} {ni : Nat} {idx : Nat → PIdx} {A C : Nat → Nat} {T : TypeId} {W W' : World} (h : Pts w b ni idx A C W) (e : Eff w T W W') (hT : 78 ≠ T) : Pts w b ni idx A C W' :=
  ⟨fun i hi => ⟨own_eff (h.at_ i hi).own e hT⟩, h.ne⟩
theorem Pts.but {w : World} {b : Option Nat} {ni : Nat} {idx : Nat → PIdx} {A C : Nat → Nat} {g : Nat} {W W' : World} (h : Pts w b ni idx A C W) (hb : But g W W') (hg : g < w.heap.size) : Pts w b ni idx A C W' :=
  ⟨fun i hi => ⟨own_but9 (h.at_ i hi).own hb hg⟩, h.ne⟩
theorem Pts.grown {w : World} {b : Option Nat} {ni : Nat} {idx : Nat → PIdx} {A C : Nat → Nat} {W W' : World} (h : Pts w b ni idx A C W) (hg : W.grownBy W' b) : Pts w b ni idx A C W' :=
  ⟨fun i hi => ⟨(h.at_ i hi).own.kept hg (.inr (fun e => h.ne i hi (by simpa [Value.ownBlock] using e.symm)))⟩, h.ne⟩
theorem Pts.none (w : World) (b : Option Nat) (idx : Nat → PIdx) (A C : Nat → Nat) (W : World) : Pts w b 0 idx A C W := ⟨fun _ hi => absurd hi (Nat.not_lt_zero _), fun _ hi => absurd hi (Nat.not_lt_zero _)⟩

/-- A row of texts of the call's own, only read. -/
structure Txs (w : World) (b : Nat) (l : List ByteArray) (W : World) : Prop where
  blk : W.heap[b]? = some (.cells (l.map Value.string).toArray 9 (0, 0))
  ge : w.heap.size ≤ b
theorem Txs.eff {w : World} {b : Nat} {l : List ByteArray} {T : TypeId} {W W' : World} (h : Txs w b l W) (e : Eff w T W W') (hT : 9 ≠ T) : Txs w b l W' := ⟨(e.ty b _ _ _ h.blk hT).trans h.blk, h.ge⟩
theorem Txs.but {w : World} {b : Nat} {l : List ByteArray} {g : Nat} {W W' : World} (h : Txs w b l W) (hb : But g W W') (hg : g < w.heap.size) : Txs w b l W' :=
  ⟨(hb.block b (Array.getElem?_eq_some_iff.1 h.blk).1 (by have := h.ge; omega)).trans h.blk, h.ge⟩
theorem Txs.new {w W : World} (hw : w.heap.size ≤ W.heap.size) (l : List ByteArray) : Txs w W.heap.size l (W.alloc (.cells (l.map Value.string).toArray 9)) := ⟨heap_alloc_new _ _, hw⟩
theorem Txs.cell {w : World} {b : Nat} {l : List ByteArray} {W : World} (h : Txs w b l W) {i : Nat} {s : ByteArray} (hi : l[i]? = some s) : W.cell? ⟨b, i, none⟩ = some (.string s) := by
  simp [World.cell?, h.blk, hi]
theorem infoCol9 : ∃ i, Tryz.prog.info? 81 = some i ∧ i.zero = some (.agg #[.string ⟨#[]⟩, .int .i64 0, .bool false]) ∧ i.size = 3 ∧ i.bytes = 32 := by
  have h : (Tryz.prog.info? 81).map (fun i => (i.zero, i.size, i.bytes)) = some (some (.agg #[.string ⟨#[]⟩, .int .i64 0, .bool false]), 3, 32) := by kernel_rfl
  obtain ⟨i, hi, hz⟩ := Option.map_eq_some_iff.1 h
  simp only [Prod.mk.injEq] at hz
  exact ⟨i, hi, hz.1, hz.2.1, hz.2.2⟩
theorem infoBy9 : ∃ i, Tryz.prog.info? 78 = some i ∧ i.zero = some (.agg #[.int .i64 0, .bool false]) ∧ i.size = 2 ∧ i.bytes = 16 := by
  have h : (Tryz.prog.info? 78).map (fun i => (i.zero, i.size, i.bytes)) = some (some (.agg #[.int .i64 0, .bool false]), 2, 16) := by kernel_rfl
  obtain ⟨i, hi, hz⟩ := Option.map_eq_some_iff.1 h
  simp only [Prod.mk.injEq] at hz
  exact ⟨i, hi, hz.1, hz.2.1, hz.2.2⟩
theorem infoIdx9 : ∃ i, Tryz.prog.info? 37 = some i ∧ i.zero = some (.agg #[.string ⟨#[]⟩, .bool false, .slice none 0 0]) ∧ i.size = 3 ∧ i.bytes = 48 := by
  have h : (Tryz.prog.info? 37).map (fun i => (i.zero, i.size, i.bytes)) = some (some (.agg #[.string ⟨#[]⟩, .bool false, .slice none 0 0]), 3, 48) := by kernel_rfl
  obtain ⟨i, hi, hz⟩ := Option.map_eq_some_iff.1 h
  simp only [Prod.mk.injEq] at hz
  exact ⟨i, hi, hz.1, hz.2.1, hz.2.2⟩
end Go.Proofs.YtjoimkfpenbkmaaGreatDoor

/-
  A table in rows of the call's own.
-/
namespace Go.Proofs.YtjoimkfpenbkmaaGreatDoor
open Go.RowKit
set_option maxRecDepth 4000

/-- Nothing of a table is great. -/
structure Sm (D : PDef) : Prop where
  name : D.name.size ≤ 1000
  nc : D.nc ≤ 1000
  col : ∀ i, i < D.nc → (D.col i).name.size ≤ 1000
  np : D.np ≤ 1000
  ni : D.ni ≤ 1000
  idx : ∀ i, i < D.ni → (D.idx i).name.size ≤ 1000 ∧ (D.idx i).n ≤ 1000
theorem Sm.fine {D : PDef} (h : Sm D) : DFine D := by
  have h1 := h.name; have h2 := h.nc; have h3 := h.np; have h4 := h.ni
  exact ⟨by omega, by omega, fun i hi => by have := h.col i hi; omega, by omega, by omega, fun i hi => by have := h.idx i hi; omega⟩

/-- A table whose rows are the call's own. -/
structure Tb (w : World) (vc vp vi : Value) (D : PDef) (A C : Nat → Nat) (W : World) : Prop where
  cols : W.ownsRow w.heap.size 81 3 vc D.nc (rowG (encC D.col) D.nc)
  pri : W.ownsRow w.heap.size 78 2 vp D.np (rowG (encB D.pri) D.np)
  idx : W.ownsRow w.heap.size 37 3 vi D.ni (rowG (encI D.idx A C) D.ni)
  pts : Pts w vp.ownBlock D.ni D.idx A C W
  sm : Sm D
theorem Tb.eff {w : World} {vc vp vi : Value} {D : PDef} {A C : Nat → Nat} {T : TypeId} {W W' : World} (h : Tb w vc vp vi D A C W) (e : Eff w T W W') (h1 : 81 ≠ T) (h2 : 78 ≠ T) (h3 : 37 ≠ T) : Tb w vc vp vi D A C W' :=
  ⟨own_eff h.cols e h1, own_eff h.pri e h2, own_eff h.idx e h3, h.pts.eff e h2, h.sm⟩
theorem Tb.but {w : World} {vc vp vi : Value} {D : PDef} {A C : Nat → Nat} {g : Nat} {W W' : World} (h : Tb w vc vp vi D A C W) (hb : But g W W') (hg : g < w.heap.size) : Tb w vc vp vi D A C W' :=
  ⟨own_but9 h.cols hb hg, own_but9 h.pri hb hg, own_but9 h.idx hb hg, h.pts.but hb hg, h.sm⟩
theorem Tb.below {w : World} {vc vp vi : Value} {D : PDef} {A C : Nat → Nat} {W W' : World} (h : Tb w vc vp vi D A C W) (hb : Below W.heap.size W W') : Tb w vc vp vi D A C W' :=
  h.eff (T := 28) (Eff.ofBelow hb) (by decide) (by decide) (by decide)
theorem Tb.view {w : World} {vc vp vi : Value} {D : PDef} {A C : Nat → Nat} {W : World} (h : Tb w vc vp vi D A C W) : DView W (.agg #[.string D.name, vc, vp, vi]) D := by
  obtain ⟨ac, cc, rfl, h1, -⟩ := cview_of_own h.cols
  obtain ⟨ap, cp, rfl, h2, -⟩ := bview_of_own h.pri
  obtain ⟨ai, ci, rfl, h3, -⟩ := iview_of_own h.idx (fun i hi => (h.pts.at_ i hi).view)
  exact ⟨ac, cc, ap, cp, ai, ci, rfl, h1, h2, h3⟩
theorem rowG_updC (f : Nat → PCol) (k : Nat) (x : PCol) : rowG (encC (upd f k x)) (k + 1) = rowG (encC f) k ++ [.string x.name, .int .i64 x.type, .bool x.null] := by
  rw [rowG, rowG_congr (enc' := encC f) (fun i hi => by simp [encC, upd_old hi])]
  simp [encC, upd_new]
theorem rowG_updI (f : Nat → PIdx) (A C : Nat → Nat) (k : Nat) (x : PIdx) (a c : Nat) : rowG (encI (upd f k x) (upd A k a) (upd C k c)) (k + 1) = rowG (encI f A C) k ++ [.string x.name, .bool x.uniq, .slice (some ⟨a, 0, none⟩) x.n c] := by
  rw [rowG, rowG_congr (enc' := encI f A C) (fun i hi => by simp [encI, upd_old hi])]
  simp [encI, upd_new]

/-- A column more. -/
theorem Tb.addCol {w : World} {vc vp vi : Value} {D : PDef} {A C : Nat → Nat} {W W' : World} (h : Tb w vc vp vi D A C W) (x : PCol) {v' : Value} (hO : W'.ownsRow w.heap.size 81 3 v' (D.nc + 1) (rowG (encC D.col) D.nc ++ [.string x.name, .int .i64 x.type, .bool x.null])) (e : Eff w 81 W W') (hx : x.name.size ≤ 1000) (hn : D.nc + 1 ≤ 1000) :
    Tb w v' vp vi { D with nc := D.nc + 1, col := upd D.col D.nc x } A C W' := by
  refine ⟨?_, own_eff h.pri e (by decide), own_eff h.idx e (by decide), h.pts.eff e (by decide), ⟨h.sm.name, hn, fun i hi => ?_, h.sm.np, h.sm.ni, h.sm.idx⟩⟩
  · show W'.ownsRow _ _ _ _ _ (rowG (encC (upd D.col D.nc x)) (D.nc + 1))
    rw [rowG_updC]; exact hO
  · show (upd D.col D.nc x i).name.size ≤ 1000
    by_cases e1 : i < D.nc
    · rw [upd_old e1]; exact h.sm.col i e1
    · obtain rfl : i = D.nc := by have : i < D.nc + 1 := hi
                                  omega
      rw [upd_new]; exact hx
/-- Another key. -/
theorem Tb.setPri {w : World} {vc vp vi : Value} {D : PDef} {A C : Nat → Nat} {W W' : World} (h : Tb w vc vp vi D A C W) (np : Nat) (pri : Nat → PBy) {v' : Value} (hO : W'.ownsRow w.heap.size 78 2 v' np (rowG (encB pri) np)) (hc : W'.ownsRow w.heap.size 81 3 vc D.nc (rowG (encC D.col) D.nc)) (hi : W'.ownsRow w.heap.size 37 3 vi D.ni (rowG (encI D.idx A C) D.ni)) (hp : Pts w v'.ownBlock D.ni D.idx A C W') (hn : np ≤ 1000) :
    Tb w vc v' vi { D with np := np, pri := pri } A C W' :=
  ⟨hc, hO, hi, hp, ⟨h.sm.name, h.sm.nc, h.sm.col, hn, h.sm.ni, h.sm.idx⟩⟩
/-- An index more. -/
theorem Tb.addIdx {w : World} {vc vp vi : Value} {D : PDef} {A C : Nat → Nat} {W W' : World} (h : Tb w vc vp vi D A C W) (x : PIdx) (a c : Nat) {v' : Value} (hO : W'.ownsRow w.heap.size 37 3 v' (D.ni + 1) (rowG (encI D.idx A C) D.ni ++ [.string x.name, .bool x.uniq, .slice (some ⟨a, 0, none⟩) x.n c])) (hP : PtAt w a c x W) (hne : vp.ownBlock ≠ some a) (e : Eff w 37 W W') (hx : x.name.size ≤ 1000 ∧ x.n ≤ 1000) (hn : D.ni + 1 ≤ 1000) :
    Tb w vc vp v' { D with ni := D.ni + 1, idx := upd D.idx D.ni x } (upd A D.ni a) (upd C D.ni c) W' := by
  have hlt : ∀ i, i < D.ni + 1 → i < D.ni ∨ i = D.ni := fun i hi => by omega
  refine ⟨own_eff h.cols e (by decide), own_eff h.pri e (by decide), ?_, ⟨fun i hi => ?_, fun i hi => ?_⟩, ⟨h.sm.name, h.sm.nc, h.sm.col, h.sm.np, hn, fun i hi => ?_⟩⟩
  · show W'.ownsRow _ _ _ _ _ (rowG (encI (upd D.idx D.ni x) (upd A D.ni a) (upd C D.ni c)) (D.ni + 1))
    rw [rowG_updI]; exact hO
  · show PtAt w (upd A D.ni a i) (upd C D.ni c i) (upd D.idx D.ni x i) W'
    rcases hlt i hi with e1 | rfl
    · rw [upd_old e1, upd_old e1, upd_old e1]; exact (h.pts.eff e (by decide)).at_ i e1
    · rw [upd_new, upd_new, upd_new]; exact ⟨own_eff hP.own e (by decide)⟩
  · rcases hlt i hi with e1 | rfl
    · show vp.ownBlock ≠ some (upd A D.ni a i)
      rw [upd_old e1]; exact h.pts.ne i e1
    · show vp.ownBlock ≠ some (upd A D.ni a D.ni)
      rw [upd_new]; exact hne
  · show (upd D.idx D.ni x i).name.size ≤ 1000 ∧ (upd D.idx D.ni x i).n ≤ 1000
    rcases hlt i hi with e1 | rfl
    · rw [upd_old e1]; exact h.sm.idx i e1
    · rw [upd_new]; exact hx
/-- Cells of a new row of one column, of one index. -/
theorem cells_col9 (W : World) (s : ByteArray) (c : Int) (d : Bool) : ∀ j u, [Value.string s, .int .i64 c, .bool d][j]? = some u → (W.alloc (.cells #[.string s, .int .i64 c, .bool d] 81)).cell? ((⟨W.heap.size, 0, none⟩ : Addr).add j) = some u := by
  intro j u h
  have ea : ∀ j, (⟨W.heap.size, 0, none⟩ : Addr).add j = ⟨W.heap.size, 0 + j, none⟩ := fun j => by unfold Addr.add; split <;> simp_all
  match j, h with
  | 0, h => cases h; rw [ea]; simp
  | 1, h => cases h; rw [ea]; simp [go_sem]
  | 2, h => cases h; rw [ea]; simp [go_sem]
  | j + 3, h => simp at h
theorem one_col9 (s : ByteArray) (c : Int) (d : Bool) : ∀ u ∈ [Value.string s, .int .i64 c, .bool d], u.oneCell' = true := by
  intro u hu
  simp at hu
  rcases hu with rfl | rfl | rfl <;> rfl
theorem cells_idx9 (W : World) (s : ByteArray) (d : Bool) (a : Option Addr) (k c : Nat) : ∀ j u, [Value.string s, .bool d, .slice a k c][j]? = some u → (W.alloc (.cells #[.string s, .bool d, .slice a k c] 37)).cell? ((⟨W.heap.size, 0, none⟩ : Addr).add j) = some u := by
  intro j u h
  have ea : ∀ j, (⟨W.heap.size, 0, none⟩ : Addr).add j = ⟨W.heap.size, 0 + j, none⟩ := fun j => by unfold Addr.add; split <;> simp_all
  match j, h with
  | 0, h => cases h; rw [ea]; simp
  | 1, h => cases h; rw [ea]; simp [go_sem]
  | 2, h => cases h; rw [ea]; simp [go_sem]
  | j + 3, h => simp at h
theorem one_idx9 (s : ByteArray) (d : Bool) (a : Option Addr) (k c : Nat) : ∀ u ∈ [Value.string s, .bool d, .slice a k c], u.oneCell' = true := by
  intro u hu
  simp at hu
  rcases hu with rfl | rfl | rfl <;> rfl
/-- The first column of a drawn table. -/
theorem own_col1 {w W : World} (hw : w.heap.size ≤ W.heap.size) (s : ByteArray) (c : Int) (d : Bool) : (W.alloc (.cells #[.string s, .int .i64 c, .bool d] 81)).ownsRow w.heap.size 81 3 (.slice (some ⟨W.heap.size, 0, none⟩) 1 1) 1 (rowG (encC (fun _ => ⟨s, c, d⟩)) 1) := by
  have := World.ownsRow_lit (base := w.heap.size) (e := 81) (size := 3) W #[.string s, .int .i64 c, .bool d] 1 hw (by unfold maxLen; omega) rfl
  simpa [rowG, encC] using this
theorem own_nil9 {w W : World} {T : TypeId} {c : Nat} : W.ownsRow w.heap.size T c (.slice none 0 0) 0 [] := ⟨by simp, .inl ⟨rfl, rfl⟩⟩
/-- A column's cells. -/
theorem Tb.colAt {w : World} {bc cc : Nat} {vp vi : Value} {D : PDef} {A C : Nat → Nat} {W : World} (h : Tb w (.slice (some ⟨bc, 0, none⟩) D.nc cc) vp vi D A C W) {i : Nat} (hi : i < D.nc) :
    bc < W.heap.size ∧ D.nc ≤ cc ∧ W.cell? ⟨bc, i * 3, none⟩ = some (.string (D.col i).name) ∧ W.cell? ⟨bc, i * 3 + 1, none⟩ = some (.int .i64 (D.col i).type) ∧ W.cell? ⟨bc, i * 3 + 2, none⟩ = some (.bool (D.col i).null) := by
  obtain ⟨a, k, e, hk, h1⟩ := own_cells (c := 3) (fun _ => rfl) h.cols
  cases e
  obtain ⟨g, ea, -, -, hg, hc⟩ := h1 (by omega)
  cases ea
  exact ⟨hg, hk, by simpa using hc i 0 _ hi rfl, by simpa using hc i 1 _ hi rfl, by simpa using hc i 2 _ hi rfl⟩
theorem own_lt9 {W : World} {base T c b n k : Nat} {xs : List Value} (h : W.ownsRow base T c (.slice (some ⟨b, 0, none⟩) n k) n xs) : b < W.heap.size ∧ base ≤ b := by
  rcases h.2 with ⟨e, _⟩ | ⟨g, k', cur, e, hb, hg, _⟩
  · cases e
  · cases e
    exact ⟨(Array.getElem?_eq_some_iff.1 hg).1, hb⟩
theorem own_down9 {W : World} {base base' T c N : Nat} {v : Value} {xs : List Value} (h : W.ownsRow base T c v N xs) (hb : base' ≤ base) : W.ownsRow base' T c v N xs := by
  refine ⟨h.1, ?_⟩
  rcases h.2 with ⟨e, h0⟩ | ⟨g, k, cur, e, hb0, hr⟩
  · exact .inl ⟨e, h0⟩
  · exact .inr ⟨g, k, cur, e, Nat.le_trans hb hb0, hr⟩
theorem Tb.down {w w1 : World} {vc vp vi : Value} {D : PDef} {A C : Nat → Nat} {W : World} (h : Tb w1 vc vp vi D A C W) (hw : w.heap.size ≤ w1.heap.size) : Tb w vc vp vi D A C W :=
  ⟨own_down9 h.cols hw, own_down9 h.pri hw, own_down9 h.idx hw, ⟨fun i hi => ⟨own_down9 (h.pts.at_ i hi).own hw⟩, h.pts.ne⟩, h.sm⟩
end Go.Proofs.YtjoimkfpenbkmaaGreatDoor

