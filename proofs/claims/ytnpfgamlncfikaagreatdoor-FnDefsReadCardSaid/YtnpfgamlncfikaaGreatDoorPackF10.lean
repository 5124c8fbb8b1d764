/-
  Together: TabKit9, MRead, MarkCols
-/
import Derived.Test.YtnpfgamlncfikaaGreatDoorPackF4
import Derived.Test.YtnpfgamlncfikaaGreatDoorPackF9
import Derived.Test.YtnpfgamlncfikaaGreatDoorPackF2
import Derived.Test.YtnpfgamlncfikaaGreatDoorPackF3
import Derived.Deep.LoopGhost
/-
  A table in rows of the call's own.
-/
namespace Go.Proofs.YtnpfgamlncfikaaGreatDoor
open Go.RowKit
set_option maxRecDepth 4000

/-- Nothing of a table is great. -/
structure Sm (D : PDef) : Prop where
  name : D.name.size ≤ 1000
  nc : D.nc ≤ 1000
  col : ∀ i, i < D.nc → (D.col i).name.size ≤ 1000
  np : D.np ≤ 1000
  ni : D.ni ≤ 1000
  idx : ∀ i, i < D.ni → (D.idx i).name.size ≤ 1000 ∧ (D.idx i).n ≤ 1000
theorem Sm.fine {D : PDef} (h : Sm D) : DFine D := by
  have h1 := h.name; have h2 := h.nc; have h3 := h.np; have h4 := h.ni
  exact ⟨by omega, by omega, fun i hi => by have := h.col i hi; omega, by omega, by omega, fun i hi => by have := h.idx i hi; omega⟩

/-- A table whose rows are the call's own. -/
structure Tb (w : World) (vc vp vi : Value) (D : PDef) (A C : Nat → Nat) (W : World) : Prop where
  cols : W.ownsRow w.heap.size 67 3 vc D.nc (rowG (encC D.col) D.nc)
  pri : W.ownsRow w.heap.size 70 2 vp D.np (rowG (encB D.pri) D.np)
  idx : W.ownsRow w.heap.size 73 3 vi D.ni (rowG (encI D.idx A C) D.ni)
  pts : Pts w vp.ownBlock D.ni D.idx A C W
  sm : Sm D
theorem Tb.eff {w : World} {vc vp vi : Value} {D : PDef} {A C : Nat → Nat} {T : TypeId} {W W' : World} (h : Tb w vc vp vi D A C W) (e : Eff w T W W') (h1 : 67 ≠ T) (h2 : 70 ≠ T) (h3 : 73 ≠ T) : Tb w vc vp vi D A C W' :=
  ⟨own_eff h.cols e h1, own_eff h.pri e h2, own_eff h.idx e h3, h.pts.eff e h2, h.sm⟩
theorem Tb.but {w : World} {vc vp vi : Value} {D : PDef} {A C : Nat → Nat} {g : Nat} {W W' : World} (h : Tb w vc vp vi D A C W) (hb : But g W W') (hg : g < w.heap.size) : Tb w vc vp vi D A C W' :=
  ⟨own_but9 h.cols hb hg, own_but9 h.pri hb hg, own_but9 h.idx hb hg, h.pts.but hb hg, h.sm⟩
theorem Tb.below {w : World} {vc vp vi : Value} {D : PDef} {A C : Nat → Nat} {W W' : World} (h : Tb w vc vp vi D A C W) (hb : Below W.heap.size W W') : Tb w vc vp vi D A C W' :=
  h.eff (T := 35) (Eff.ofBelow hb) (by decide) (by decide) (by decide)
theorem Tb.view {w : World} {vc vp vi : Value} {D : PDef} {A C : Nat → Nat} {W : World} (h : Tb w vc vp vi D A C W) : DView W (.agg #[.string D.name, vc, vp, vi]) D := by
  obtain ⟨ac, cc, rfl, h1, -⟩ := cview_of_own h.cols
  obtain ⟨ap, cp, rfl, h2, -⟩ := bview_of_own h.pri
  obtain ⟨ai, ci, rfl, h3, -⟩ := iview_of_own h.idx (fun i hi => (h.pts.at_ i hi).view)
  exact ⟨ac, cc, ap, cp, ai, ci, rfl, h1, h2, h3⟩
theorem rowG_updC (f : Nat → PCol) (k : Nat) (x : PCol) : rowG (encC (upd f k x)) (k + 1) = rowG (encC f) k ++ [.string x.name, .int .i64 x.type, .bool x.null] := by
  rw [rowG, rowG_congr (enc' := encC f) (fun i hi => by simp [encC, upd_old hi])]
  simp [encC, upd_new]
theorem rowG_updI (f : Nat → PIdx) (A C : Nat → Nat) (k : Nat) (x : PIdx) (a c : Nat) : rowG (encI (upd f k x) (upd A k a) (upd C k c)) (k + 1) = rowG (encI f A C) k ++ [.string x.name, .bool x.uniq, .slice (some ⟨a, 0, none⟩) x.n c] := by
  rw [rowG, rowG_congr (enc' := encI f A C) (fun i hi => by simp [encI, upd_old hi])]
  simp [encI, upd_new]

/-- A column more. -/
theorem Tb.addCol {w : World} {vc vp vi : Value} {D : PDef} {A C : Nat → Nat} {W W' : World} (h : Tb w vc vp vi D A C W) (x : PCol) {v' : Value} (hO : W'.ownsRow w.heap.size 67 3 v' (D.nc + 1) (rowG (encC D.col) D.nc ++ [.string x.name, .int .i64 x.type, .bool x.null])) (e : Eff w 67 W W') (hx : x.name.size ≤ 1000) (hn : D.nc + 1 ≤ 1000) :
    Tb w v' vp vi { D with nc := D.nc + 1, col := upd D.col D.nc x } A C W' := by
  refine ⟨?_, own_eff h.pri e (by decide), own_eff h.idx e (by decide), h.pts.eff e (by decide), ⟨h.sm.name, hn, fun i hi => ?_, h.sm.np, h.sm.ni, h.sm.idx⟩⟩
  · show W'.ownsRow _ _ _ _ _ (rowG (encC (upd D.col D.nc x)) (D.nc + 1))
    rw [rowG_updC]; exact hO
  · show (upd D.col D.nc x i).name.size ≤ 1000
    by_cases e1 : i < D.nc
    · rw [upd_old e1]; exact h.sm.col i e1
    · obtain rfl : i = D.nc := by have : i < D.nc + 1 := hi
                                  omega
      rw [upd_new]; exact hx
/-- Another key. -/
theorem Tb.setPri {w : World} {vc vp vi : Value} {D : PDef} {A C : Nat → Nat} {W W' : World} (h : Tb w vc vp vi D A C W) (np : Nat) (pri : Nat → PBy) {v' : Value} (hO : W'.ownsRow w.heap.size 70 2 v' np (rowG (encB pri) np)) (hc : W'.ownsRow w.heap.size 67 3 vc D.nc (rowG (encC D.col) D.nc)) (hi : W'.ownsRow w.heap.size 73 3 vi D.ni (rowG (encI D.idx A C) D.ni)) (hp : Pts w v'.ownBlock D.ni D.idx A C W') (hn : np ≤ 1000) :
    Tb w vc v' vi { D with np := np, pri := pri } A C W' :=
  ⟨hc, hO, hi, hp, ⟨h.sm.name, h.sm.nc, h.sm.col, hn, h.sm.ni, h.sm.idx⟩⟩
/-- An index more. -/
theorem Tb.addIdx {w : World} {vc vp vi : Value} {D : PDef} {A C : Nat → Nat} {W W' : World} (h : Tb w vc vp vi D A C W) (x : PIdx) (a c : Nat) {v' : Value} (hO : W'.ownsRow w.heap.size 73 3 v' (D.ni + 1) (rowG (encI D.idx A C) D.ni ++ [.string x.name, .bool x.uniq, .slice (some ⟨a, 0, none⟩) x.n c])) (hP : PtAt w a c x W) (hne : vp.ownBlock ≠ some a) (e : Eff w 73 W W') (hx : x.name.size ≤ 1000 ∧ x.n ≤ 1000) (hn : D.ni + 1 ≤ 1000) :
    Tb w vc vp v' { D with ni := D.ni + 1, idx := upd D.idx D.ni x } (upd A D.ni a) (upd C D.ni c) W' := by
  have hlt : ∀ i, i < D.ni + 1 → i < D.ni ∨ i = D.ni := fun i hi => by omega
  refine ⟨own_eff h.cols e (by decide), own_eff h.pri e (by decide), ?_, ⟨fun i hi => ?_, fun i hi => ?_⟩, ⟨h.sm.name, h.sm.nc, h.sm.col, h.sm.np, hn, fun i hi => ?_⟩⟩
  · show W'.ownsRow _ _ _ _ _ (rowG (encI (upd D.idx D.ni x) (upd A D.ni a) (upd C D.ni c)) (D.ni + 1))
    rw [rowG_updI]; exact hO
  · show PtAt w (upd A D.ni a i) (upd C D.ni c i) (upd D.idx D.ni x i) W'
    rcases hlt i hi with e1 | rfl
    · rw [upd_old e1, upd_old e1, upd_old e1]; exact (h.pts.eff e (by decide)).at_ i e1
    · rw [upd_new, upd_new, upd_new]; exact ⟨own_eff hP.own e (by decide)⟩
  · rcases hlt i hi with e1 | rfl
    · show vp.ownBlock ≠ some (upd A D.ni a i)
      rw [upd_old e1]; exact h.pts.ne i e1
    · show vp.ownBlock ≠ some (upd A D.ni a D.ni)
      rw [upd_new]; exact hne
  · show (upd D.idx D.ni x i).name.size ≤ 1000 ∧ (upd D.idx D.ni x i).n ≤ 1000
    rcases hlt i hi with e1 | rfl
    · rw [upd_old e1]; exact h.sm.idx i e1
    · rw [upd_new]; exact hx
/-- Cells of a new row of one column, of one index. -/
theorem cells_col9 (W : World) (s : ByteArray) (c : Int) (d : Bool) : ∀ j u, [Value.string s, .int .i64 c, .bool d][j]? = some u → (W.alloc (.cells #[.string s, .int .i64 c, .bool d] 67)).cell? ((⟨W.heap.size, 0, none⟩ : Addr).add j) = some u := by
  intro j u h
  have ea : ∀ j, (⟨W.heap.size, 0, none⟩ : Addr).add j = ⟨W.heap.size, 0 + j, none⟩ := fun j => by unfold Addr.add; split <;> simp_all
  match j, h with
  | 0, h => cases h; rw [ea]; simp
  | 1, h => cases h; rw [ea]; simp [go_sem]
  | 2, h => cases h; rw [ea]; simp [go_sem]
  | j + 3, h => simp at h
theorem one_col9 (s : ByteArray) (c : Int) (d : Bool) : ∀ u ∈ [Value.string s, .int .i64 c, .bool d], u.oneCell' = true := by
  intro u hu
  simp at hu
  rcases hu with rfl | rfl | rfl <;> rfl
theorem cells_idx9 (W : World) (s : ByteArray) (d : Bool) (a : Option Addr) (k c : Nat) : ∀ j u, [Value.string s, .bool d, .slice a k c][j]? = some u → (W.alloc (.cells #[.string s, .bool d, .slice a k c] 73)).cell? ((⟨W.heap.size, 0, none⟩ : Addr).add j) = some u := by
  intro j u h
  have ea : ∀ j, (⟨W.heap.size, 0, none⟩ : Addr).add j = ⟨W.heap.size, 0 + j, none⟩ := fun j => by unfold Addr.add; split <;> simp_all
  match j, h with
  | 0, h => cases h; rw [ea]; simp
  | 1, h => cases h; rw [ea]; simp [go_sem]
  | 2, h => cases h; rw [ea]; simp [go_sem]
  | j + 3, h => simp at h
theorem one_idx9 (s : ByteArray) (d : Bool) (a : Option Addr) (k c : Nat) : ∀ u ∈ [Value.string s, .bool d, .slice a k c], u.oneCell' = true := by
  intro u hu
  simp at hu
  rcases hu with rfl | rfl | rfl <;> rfl
/-- The first column of a drawn table. -/
theorem own_col1 {w W : World} (hw : w.heap.size ≤ W.heap.size) (s : ByteArray) (c : Int) (d : Bool) : (W.alloc (.cells #[.string s, .int .i64 c, .bool d] 67)).ownsRow w.heap.size 67 3 (.slice (some ⟨W.heap.size, 0, none⟩) 1 1) 1 (rowG (encC (fun _ => ⟨s, c, d⟩)) 1) := by
  have := World.ownsRow_lit (base := w.heap.size) (e := 67) (size := 3) W #[.string s, .int .i64 c, .bool d] 1 hw (by unfold maxLen; omega) rfl
  simpa [rowG, encC] using this
theorem own_nil9 {w W : World} {T : TypeId} {c : Nat} : W.ownsRow w.heap.size T c (.slice none 0 0) 0 [] := ⟨by simp, .inl ⟨rfl, rfl⟩⟩
/-- A column's cells. -/
theorem Tb.colAt {w : World} {bc cc : Nat} {vp vi : Value} {D : PDef} {A C : Nat → Nat} {W : World} (h : Tb w (.slice (some ⟨bc, 0, none⟩) D.nc cc) vp vi D A C W) {i : Nat} (hi : i < D.nc) :
    bc < W.heap.size ∧ D.nc ≤ cc ∧ W.cell? ⟨bc, i * 3, none⟩ = some (.string (D.col i).name) ∧ W.cell? ⟨bc, i * 3 + 1, none⟩ = some (.int .i64 (D.col i).type) ∧ W.cell? ⟨bc, i * 3 + 2, none⟩ = some (.bool (D.col i).null) := by
  obtain ⟨a, k, e, hk, h1⟩ := own_cells (c := 3) (fun _ => rfl) h.cols
  cases e
  obtain ⟨g, ea, -, -, hg, hc⟩ := h1 (by omega)
  cases ea
  exact ⟨hg, hk, by simpa using hc i 0 _ hi rfl, by simpa using hc i 1 _ hi rfl, by simpa using hc i 2 _ hi rfl⟩
theorem own_lt9 {W : World} {base T c b n k : Nat} {xs : List Value} (h : W.ownsRow base T c (.slice (some ⟨b, 0, none⟩) n k) n xs) : b < W.heap.size ∧ base ≤ b := by
  rcases h.2 with ⟨e, _⟩ | ⟨g, k', cur, e, hb, hg, _⟩
  · cases e
  · cases e
    exact ⟨(Array.getElem?_eq_some_iff.1 hg).1, hb⟩
theorem own_down9 {W : World} {base base' T c N : Nat} {v : Value} {xs : List Value} (h : W.ownsRow base T c v N xs) (hb : base' ≤ base) : W.ownsRow base' T c v N xs := by
  refine ⟨h.1, ?_⟩
  rcases h.2 with ⟨e, h0⟩ | ⟨g, k, cur, e, hb0, hr⟩
  · exact .inl ⟨e, h0⟩
  · exact .inr ⟨g, k, cur, e, Nat.le_trans hb hb0, hr⟩
theorem Tb.down {w w1 : World} {vc vp vi : Value} {D : PDef} {A C : Nat → Nat} {W : World} (h : Tb w1 vc vp vi D A C W) (hw : w.heap.size ≤ w1.heap.size) : Tb w vc vp vi D A C W :=
  ⟨own_down9 h.cols hw, own_down9 h.pri hw, own_down9 h.idx hw, ⟨fun i hi => ⟨own_down9 (h.pts.at_ i hi).own hw⟩, h.pts.ne⟩, h.sm⟩
end Go.Proofs.YtnpfgamlncfikaaGreatDoor

/-
  The model's reader of tokens: its state, and how that is carried.
-/
namespace Go.Proofs.YtnpfgamlncfikaaGreatDoor
open Go.RowKit
set_option maxRecDepth 4000

/-- Where tokens lie. -/
structure Src where
  tb : Nat
  cap : Nat
  L : List Tok
/-- The model's reader in block g: what is still to be read; none: it is bad. -/
structure MR (g : Nat) (S : Src) (st : Option (List Tok)) (W : World) : Prop where
  row : ∃ i : Nat, V3 W g 79 (.slice (some ⟨S.tb, 0, none⟩) S.L.length S.cap) (.int .i64 (i : Int)) (.bool st.isNone) ∧ ∀ l, st = some l → i ≤ S.L.length ∧ l = S.L.drop i
  toks : TView W (some ⟨S.tb, 0, none⟩) S.L.length S.cap (tk S.L) (ts S.L)
  ne : S.tb ≠ g
  few : S.L.length ≤ 500
  ok : AllOk S.L
  lt : S.tb < W.heap.size
theorem MR.glt {g : Nat} {S : Src} {st : Option (List Tok)} {W : World} (h : MR g S st W) : g < W.heap.size := by
  obtain ⟨i, hv, -⟩ := h.row
  exact hv.lt
theorem TView.of_block {w w' : World} {b n cap : Nat} {fk : Nat → Int} {fs : Nat → ByteArray} (h : TView w (some ⟨b, 0, none⟩) n cap fk fs) (hs : w.heap.size ≤ w'.heap.size) (hb : w'.heap[b]? = w.heap[b]?) : TView w' (some ⟨b, 0, none⟩) n cap fk fs := by
  refine ⟨h.le, fun hn => ?_⟩
  obtain ⟨b', off, e, hlt, hc⟩ := h.cells hn
  cases e
  refine ⟨b, 0, rfl, Nat.lt_of_lt_of_le hlt hs, fun i hi => ?_⟩
  rw [World.cell?_of_block (w := w) (a := ⟨b, 0 + i * 2, none⟩) hb, World.cell?_of_block (w := w) (a := ⟨b, 0 + i * 2 + 1, none⟩) hb]
  exact hc i hi
theorem MR.kept {g : Nat} {S : Src} {st : Option (List Tok)} {W W' : World} (h : MR g S st W) (hs : W.heap.size ≤ W'.heap.size) (hg : W'.heap[g]? = W.heap[g]?) (ht : W'.heap[S.tb]? = W.heap[S.tb]?) : MR g S st W' := by
  obtain ⟨i, hv, hi⟩ := h.row
  exact ⟨⟨i, hv.block hg, hi⟩, h.toks.of_block hs ht, h.ne, h.few, h.ok, Nat.lt_of_lt_of_le h.lt hs⟩
theorem MR.below {g : Nat} {S : Src} {st : Option (List Tok)} {W W' : World} (h : MR g S st W) (hb : Below W.heap.size W W') : MR g S st W' := h.kept hb.size (hb.block g h.glt) (hb.block _ h.lt)
theorem MR.eff {w : World} {g : Nat} {S : Src} {st : Option (List Tok)} {T : TypeId} {W W' : World} (h : MR g S st W) (e : Eff w T W W') (hg : g < w.heap.size) (ht : S.tb < w.heap.size) : MR g S st W' := h.kept e.size (e.old g hg h.glt) (e.old _ ht h.lt)
/-- The reader is set. -/
theorem MR.put {g : Nat} {S : Src} {st st' : Option (List Tok)} {W W' : World} (h : MR g S st W) (hb : But g W W') (hr : ∃ i : Nat, V3 W' g 79 (.slice (some ⟨S.tb, 0, none⟩) S.L.length S.cap) (.int .i64 (i : Int)) (.bool st'.isNone) ∧ ∀ l, st' = some l → i ≤ S.L.length ∧ l = S.L.drop i) : MR g S st' W' :=
  ⟨hr, h.toks.of_block hb.size (hb.block _ h.lt h.ne), h.ne, h.few, h.ok, Nat.lt_of_lt_of_le h.lt hb.size⟩
theorem MR.drewN {g : Nat} {S : Src} {st : Option (List Tok)} {W : World} (h : MR g S st W) (n : Nat) : MR g S st (W.drewN n) := h.kept (Nat.le_refl _) rfl rfl
theorem But.drewN {g : Nat} {W W' : World} (h : But g W W') (n : Nat) : But g W (W'.drewN n) := ⟨h.os, h.tape, h.output, h.size, h.block⟩
theorem But.set {g : Nat} {W W' : World} (h : But g W W') (i : Nat) (u : Value) : But g W (W'.setCell ⟨g, i, none⟩ u) :=
  h.trans ⟨rfl, rfl, rfl, by simp, fun k _ hk => Below.heap_setCell _ _ _ _ hk⟩
theorem But.own {g B i : Nat} {w W : World} (h : But g w W) (hB : w.heap.size ≤ B) (u : Value) : But g w (W.setCell ⟨B, i, none⟩ u) :=
  ⟨h.os, h.tape, h.output, by simpa using h.size, fun k hk hg => (Below.heap_setCell _ _ _ _ (show k ≠ B by omega)).trans (h.block k hk hg)⟩
theorem But.new {g : Nat} {w W : World} (h : But g w W) (o : Obj) : But g w (W.alloc o) := h.trans (But.ofBelow ((Below.refl _ _).alloc (Nat.le_refl _) _))
theorem MR.own {g B i : Nat} {S : Src} {st : Option (List Tok)} {W : World} (h : MR g S st W) (h1 : B ≠ g) (h2 : B ≠ S.tb) (u : Value) : MR g S st (W.setCell ⟨B, i, none⟩ u) :=
  h.kept (by simp) (Below.heap_setCell _ _ _ _ (Ne.symm h1)) (Below.heap_setCell _ _ _ _ (Ne.symm h2))
theorem MR.new {g : Nat} {S : Src} {st : Option (List Tok)} {W : World} (h : MR g S st W) (o : Obj) : MR g S st (W.alloc o) := h.below ((Below.refl _ _).alloc (Nat.le_refl _) _)
theorem V3.but {g B : Nat} {T : TypeId} {x0 x1 x2 : Value} {W W' : World} (h : V3 W B T x0 x1 x2) (hb : But g W W') (hne : B ≠ g) : V3 W' B T x0 x1 x2 := h.block (hb.block B h.lt hne)
theorem V4.but {g B : Nat} {T : TypeId} {x0 x1 x2 x3 : Value} {W W' : World} (h : V4 W B T x0 x1 x2 x3) (hb : But g W W') (hne : B ≠ g) : V4 W' B T x0 x1 x2 x3 := h.block (hb.block B h.lt hne)
/-- The token at a place. -/
theorem src_at {L : List Tok} {i : Nat} (h : i < L.length) : L.drop i = (tk L i, ts L i) :: L.drop (i + 1) := by
  rw [List.drop_eq_getElem_cons h]
  congr 1
  unfold tk ts
  simp [List.getD, h]
def isO (s : ByteArray) : Option (List Tok) → Bool × Option (List Tok)
  | none => (false, none)
  | some l => ((isR s l).1, some (isR s l).2)
def mustO (s : ByteArray) (st : Option (List Tok)) : Option (List Tok) := st.bind (mustR s)
theorem mustO_is (s : ByteArray) (st : Option (List Tok)) : mustO s st = if (isO s st).1 then (isO s st).2 else none := by
  cases st with
  | none => rfl
  | some l => rfl
end Go.Proofs.YtnpfgamlncfikaaGreatDoor

/-
  What the law's own helpers markColS, markByS come to.
-/
namespace Go.Proofs.YtnpfgamlncfikaaGreatDoor
open Go.RowKit
set_option maxRecDepth 4000

def mB (m : Int) : Bool := m % 3 == 0
def mkdC (k : Int) (i : Nat) : PCol := ⟨markT (k + 3 * i), k + 3 * i + 1, mB (k + 3 * i + 1 + 1)⟩
def mkdB (k : Int) (i : Nat) : PBy := ⟨k + 2 * i, mB (k + 2 * i + 1)⟩
def cellC (f : Nat → PCol) (i j : Nat) : Value := if j = 0 then .string (f i).name else if j = 1 then .int .i64 (f i).type else .bool (f i).null
def cellB (f : Nat → PBy) (i j : Nat) : Value := if j = 0 then .int .i64 (f i).col else .bool (f i).desc
theorem encC_F (f : Nat → PCol) (i : Nat) : encC f i = encF 3 (cellC f) i := rfl
theorem encB_F (f : Nat → PBy) (i : Nat) : encB f i = encF 2 (cellB f) i := rfl
theorem grown_refl (w : World) (r : Option Nat) : w.grownBy w r := ⟨rfl, rfl, rfl, Nat.le_refl _, fun _ _ _ => rfl⟩

set_option maxHeartbeats 2000000 in
theorem markColS_own (base b n cap : Nat) (f : Nat → PCol) (k : Int) (w : World) (hO : w.ownsRow base 67 3 (.slice (some ⟨b, 0, none⟩) n cap) n (rowG (encC f) n)) (hk : 0 ≤ k) (hk1 : k + 3 * n ≤ 4611686018427387904) :
    Calls Tryz.prog 51 #[.slice (some ⟨b, 0, none⟩) n cap, .int .i64 k] w fun e w' => e = .returned (.int .i64 (k + 3 * n)) ∧ But b w w' ∧ w'.ownsRow base 67 3 (.slice (some ⟨b, 0, none⟩) n cap) n (rowG (encC (mkdC k)) n) := by
  have hO' := (own_eqF (fun i _ => encC_F f i)).1 hO
  clear hO
  go_enter Tryz.func51, Tryz.ntmps51
  go_wp2
  go_loopg [1, 5] n (fun g s i wr => ∃ j : Nat, j ≤ n ∧ g = n - j ∧ s = .int .i64 (k + 3 * j) ∧ i = .int .i64 j ∧ But b w wr ∧ wr.ownsRow base 67 3 (.slice (some ⟨b, 0, none⟩) n cap) n (rowG (encF 3 (fun i c => if i < j then cellC (mkdC k) i c else cellC f i c)) n))
  case atStart => exact ⟨0, Nat.zero_le _, rfl, by simp, rfl, But.refl _ _, own_congrF hO' (fun i j _ _ => by simp)⟩
  case round =>
    clear hO'
    obtain ⟨j, hj, rfl, rfl, rfl, hB, hO⟩ := hrel
    by_cases hlt : j < n
    · have hjz : (j : Int) < (n : Int) := by omega
      have hMt := markText_any (k + 3 * j) wr (by omega)
      go_wp2_with fail
      refine hMt.mono ?_
      rintro e w2 ⟨rfl, hb⟩
      have hO2 := own_belowG9 hO hb
      have hB2 := hB.trans (But.ofBelow hb)
      have z0 := own_cellF hO2 hlt (show 0 < 3 by decide)
      have z1 := own_cellF hO2 hlt (show 1 < 3 by decide)
      have z2 := own_cellF hO2 hlt (show 2 < 3 by decide)
      have f0 := own_fz9 hO2 (j * 3)
      have f1 := own_fz9 hO2 (j * 3 + 1)
      have f2 := own_fz9 hO2 (j * 3 + 2)
      simp only [Nat.lt_irrefl, if_false, Nat.add_zero] at z0 z1 z2
      have S0 := own_setF hO2 (.string (markT (k + 3 * j))) hlt (show 0 < 3 by decide)
      have S1 := own_setF S0 (.int .i64 (k + 3 * j + 1)) hlt (show 1 < 3 by decide)
      have S2 := own_setF S1 (.bool ((k + 3 * (j : Int) + 1 + 1) % 3 == 0)) hlt (show 2 < 3 by decide)
      rw [Nat.add_zero] at S2
      have HS : Hid (But b w (((w2.setCell ⟨b, j * 3, none⟩ (.string (markT (k + 3 * j)))).setCell ⟨b, j * 3 + 1, none⟩ (.int .i64 (k + 3 * j + 1))).setCell ⟨b, j * 3 + 2, none⟩ (.bool ((k + 3 * (j : Int) + 1 + 1) % 3 == 0))) ∧ (((w2.setCell ⟨b, j * 3, none⟩ (.string (markT (k + 3 * j)))).setCell ⟨b, j * 3 + 1, none⟩ (.int .i64 (k + 3 * j + 1))).setCell ⟨b, j * 3 + 2, none⟩ (.bool ((k + 3 * (j : Int) + 1 + 1) % 3 == 0))).ownsRow base 67 3 (.slice (some ⟨b, 0, none⟩) n cap) n (rowG (encF 3 (fun i c => if i < j + 1 then cellC (mkdC k) i c else cellC f i c)) n)) := by
        refine ⟨((hB2.set _ _).set _ _).set _ _, own_congrF S2 (fun i c hi hc => ?_)⟩
        by_cases e : i = j
        · subst e
          have hc' : c = 0 ∨ c = 1 ∨ c = 2 := by omega
          rcases hc' with rfl | rfl | rfl <;> simp [setF, cellC, mkdC, mB]
        · have h1 : (i < j + 1) = (i < j) := by simp; omega
          simp [setF, e, h1]
      obtain ⟨mt, hmt⟩ : ∃ x, Hid (markT (k + 3 * j) = x) := ⟨_, rfl⟩
      rw [hmt.out] at HS
      rw [hmt.out]
      clear hMt hb hO hB hO2 hB2 S0 S1 S2
      go_wp2
      go_roundg (n - (j + 1))
      case measure => omega
      case rel => exact ⟨j + 1, by omega, rfl, by go_num, by go_num, HS.out.1, HS.out.2⟩
    · obtain rfl : j = n := by omega
      have hF : Hid (wr.ownsRow base 67 3 (.slice (some ⟨b, 0, none⟩) j cap) j (rowG (encC (mkdC k)) j)) := (own_eqF (fun i _ => encC_F (mkdC k) i)).2 (own_congrF hO (fun i c hi _ => by simp [hi]))
      clear hO
      go_wp2
      go_ret
      exact ⟨rfl, hB, hF.out⟩

set_option maxHeartbeats 2000000 in
theorem markByS_own (base b n cap : Nat) (f : Nat → PBy) (k : Int) (w : World) (hO : w.ownsRow base 70 2 (.slice (some ⟨b, 0, none⟩) n cap) n (rowG (encB f) n)) (hk : 0 ≤ k) (hk1 : k + 2 * n ≤ 4611686018427387904) :
    Calls Tryz.prog 52 #[.slice (some ⟨b, 0, none⟩) n cap, .int .i64 k] w fun e w' => e = .returned (.int .i64 (k + 2 * n)) ∧ But b w w' ∧ w'.ownsRow base 70 2 (.slice (some ⟨b, 0, none⟩) n cap) n (rowG (encB (mkdB k)) n) := by
  have hO' := (own_eqF (fun i _ => encB_F f i)).1 hO
  clear hO
  go_enter Tryz.func52, Tryz.ntmps52
  go_wp2
  go_loopg [1, 5] n (fun g s i wr => ∃ j : Nat, j ≤ n ∧ g = n - j ∧ s = .int .i64 (k + 2 * j) ∧ i = .int .i64 j ∧ But b w wr ∧ wr.ownsRow base 70 2 (.slice (some ⟨b, 0, none⟩) n cap) n (rowG (encF 2 (fun i c => if i < j then cellB (mkdB k) i c else cellB f i c)) n))
  case atStart => exact ⟨0, Nat.zero_le _, rfl, by simp, rfl, But.refl _ _, own_congrF hO' (fun i j _ _ => by simp)⟩
  case round =>
    clear hO'
    obtain ⟨j, hj, rfl, rfl, rfl, hB, hO⟩ := hrel
    by_cases hlt : j < n
    · have hjz : (j : Int) < (n : Int) := by omega
      have z0 := own_cellF hO hlt (show 0 < 2 by decide)
      have z1 := own_cellF hO hlt (show 1 < 2 by decide)
      have f0 := own_fz9 hO (j * 2)
      have f1 := own_fz9 hO (j * 2 + 1)
      simp only [Nat.lt_irrefl, if_false, Nat.add_zero] at z0 z1
      have S0 := own_setF hO (.int .i64 (k + 2 * j)) hlt (show 0 < 2 by decide)
      have S1 := own_setF S0 (.bool ((k + 2 * (j : Int) + 1) % 3 == 0)) hlt (show 1 < 2 by decide)
      rw [Nat.add_zero] at S1
      have HS : Hid (But b w ((wr.setCell ⟨b, j * 2, none⟩ (.int .i64 (k + 2 * j))).setCell ⟨b, j * 2 + 1, none⟩ (.bool ((k + 2 * (j : Int) + 1) % 3 == 0))) ∧ ((wr.setCell ⟨b, j * 2, none⟩ (.int .i64 (k + 2 * j))).setCell ⟨b, j * 2 + 1, none⟩ (.bool ((k + 2 * (j : Int) + 1) % 3 == 0))).ownsRow base 70 2 (.slice (some ⟨b, 0, none⟩) n cap) n (rowG (encF 2 (fun i c => if i < j + 1 then cellB (mkdB k) i c else cellB f i c)) n)) := by
        refine ⟨(hB.set _ _).set _ _, own_congrF S1 (fun i c hi hc => ?_)⟩
        by_cases e : i = j
        · subst e
          have hc' : c = 0 ∨ c = 1 := by omega
          rcases hc' with rfl | rfl <;> simp [setF, cellB, mkdB, mB]
        · have h1 : (i < j + 1) = (i < j) := by simp; omega
          simp [setF, e, h1]
      clear hO hB S0 S1
      go_wp2
      go_roundg (n - (j + 1))
      case measure => omega
      case rel => exact ⟨j + 1, by omega, rfl, by go_num, by go_num, HS.out.1, HS.out.2⟩
    · obtain rfl : j = n := by omega
      have hF : Hid (wr.ownsRow base 70 2 (.slice (some ⟨b, 0, none⟩) j cap) j (rowG (encB (mkdB k)) j)) := (own_eqF (fun i _ => encB_F (mkdB k) i)).2 (own_congrF hO (fun i c hi _ => by simp [hi]))
      clear hO
      go_wp2
      go_ret
      exact ⟨rfl, hB, hF.out⟩
end Go.Proofs.YtnpfgamlncfikaaGreatDoor

