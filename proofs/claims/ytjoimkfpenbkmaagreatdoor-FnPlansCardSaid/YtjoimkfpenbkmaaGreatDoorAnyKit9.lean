/-
  AnyKit9
-/
import Derived.Test.YtjoimkfpenbkmaaGreatDoorPackP19
import Derived.Test.YtjoimkfpenbkmaaGreatDoorPackP9
import Derived.Test.YtjoimkfpenbkmaaGreatDoorPackP20
import Derived.Laws.BytesArg
/-
  A drawn table that is turned: a column's field, a key, an index, fewer columns.
-/
namespace Go.Proofs.YtjoimkfpenbkmaaGreatDoor
open Go.RowKit Go.Lib

/-- A table whose rows are the call's own (the blocks of parts may be anywhere). -/
structure Tw (w : World) (vc vp vi : Value) (D : PDef) (A C : Nat → Nat) (W : World) : Prop where
  cols : W.ownsRow w.heap.size 81 3 vc D.nc (rowG (encC D.col) D.nc)
  pri : W.ownsRow w.heap.size 78 2 vp D.np (rowG (encB D.pri) D.np)
  idx : W.ownsRow w.heap.size 37 3 vi D.ni (rowG (encI D.idx A C) D.ni)
  pt : ∀ i, i < D.ni → PtAt w (A i) (C i) (D.idx i) W
  sm : Sm D
theorem Tb.tw {w : World} {vc vp vi : Value} {D : PDef} {A C : Nat → Nat} {W : World} (h : Tb w vc vp vi D A C W) : Tw w vc vp vi D A C W := ⟨h.cols, h.pri, h.idx, h.pts.at_, h.sm⟩
theorem Tw.eff {w : World} {vc vp vi : Value} {D : PDef} {A C : Nat → Nat} {T : TypeId} {W W' : World} (h : Tw w vc vp vi D A C W) (e : Eff w T W W') (h1 : 81 ≠ T) (h2 : 78 ≠ T) (h3 : 37 ≠ T) : Tw w vc vp vi D A C W' :=
  ⟨own_eff h.cols e h1, own_eff h.pri e h2, own_eff h.idx e h3, fun i hi => ⟨own_eff (h.pt i hi).own e h2⟩, h.sm⟩
theorem Tw.but {w : World} {vc vp vi : Value} {D : PDef} {A C : Nat → Nat} {g : Nat} {W W' : World} (h : Tw w vc vp vi D A C W) (hb : But g W W') (hg : g < w.heap.size) : Tw w vc vp vi D A C W' :=
  ⟨own_but9 h.cols hb hg, own_but9 h.pri hb hg, own_but9 h.idx hb hg, fun i hi => ⟨own_but9 (h.pt i hi).own hb hg⟩, h.sm⟩
theorem Tw.view {w : World} {vc vp vi : Value} {D : PDef} {A C : Nat → Nat} {W : World} (h : Tw w vc vp vi D A C W) : DView W (.agg #[.string D.name, vc, vp, vi]) D := by
  obtain ⟨ac, cc, rfl, h1, -⟩ := cview_of_own h.cols
  obtain ⟨ap, cp, rfl, h2, -⟩ := bview_of_own h.pri
  obtain ⟨ai, ci, rfl, h3, -⟩ := iview_of_own h.idx (fun i hi => (h.pt i hi).view)
  exact ⟨ac, cc, ap, cp, ai, ci, rfl, h1, h2, h3⟩
/-- Of its columns only the first m. -/
theorem Tw.cut {w : World} {a : Option Addr} {cc m : Nat} {vp vi : Value} {D : PDef} {A C : Nat → Nat} {W : World} (h : Tw w (.slice a D.nc cc) vp vi D A C W) (hm : m ≤ D.nc) : DView W (.agg #[.string D.name, .slice a m cc, vp, vi]) { D with nc := m } := by
  obtain ⟨ac, cc', e, h1, -⟩ := cview_of_own h.cols
  cases e
  obtain ⟨ap, cp, rfl, h2, -⟩ := bview_of_own h.pri
  obtain ⟨ai, ci, rfl, h3, -⟩ := iview_of_own h.idx (fun i hi => (h.pt i hi).view)
  exact ⟨a, cc, ap, cp, ai, ci, rfl, h1.take hm, h2, h3⟩
theorem Sm.cut {D : PDef} (h : Sm D) {m : Nat} (hm : m ≤ D.nc) : Sm { D with nc := m } :=
  ⟨h.name, Nat.le_trans hm h.nc, fun i hi => h.col i (Nat.lt_of_lt_of_le hi hm), h.np, h.ni, h.idx⟩
/-- A cell of a row of the call's own is turned. -/
def put {α : Type} (f : Nat → α) (i : Nat) (x : α) (j : Nat) : α := if j = i then x else f j
theorem put_same {α : Type} (f : Nat → α) (i : Nat) (x : α) : put f i x i = x := if_pos rfl
theorem put_other {α : Type} (f : Nat → α) {i j : Nat} (x : α) (h : j ≠ i) : put f i x j = f j := if_neg h

/-- A column in the place of another that differs in one field. -/
theorem Tb.setCol {w : World} {bc cc : Nat} {vp vi : Value} {D : PDef} {A C : Nat → Nat} {W : World} (h : Tb w (.slice (some ⟨bc, 0, none⟩) D.nc cc) vp vi D A C W) {i j : Nat} (hi : i < D.nc) (hj : j < 3) (x : PCol) {u : Value} (hx : x.name.size ≤ 1000)
    (hn : [Value.string x.name, .int .i64 x.type, .bool x.null][j]? = some u) (ho : ∀ j', j' ≠ j → [Value.string x.name, .int .i64 x.type, .bool x.null][j']? = [Value.string (D.col i).name, .int .i64 (D.col i).type, .bool (D.col i).null][j']?) :
    Tb w (.slice (some ⟨bc, 0, none⟩) D.nc cc) vp vi { D with col := put D.col i x } A C (W.setCell ⟨bc, i * 3 + j, none⟩ u) ∧ Eff w 81 W (W.setCell ⟨bc, i * 3 + j, none⟩ u) := by
  have e : Eff w 81 W (W.setCell ⟨bc, i * 3 + j, none⟩ u) := by
    rcases h.cols.2 with ⟨e, _⟩ | ⟨g, k, cur, e, hb, hg, _⟩
    · cases e
    · cases e; exact Eff.set hb hg u
  refine ⟨⟨?_, own_eff h.pri e (by decide), own_eff h.idx e (by decide), h.pts.eff e (by decide), ⟨h.sm.name, h.sm.nc, fun q hq => ?_, h.sm.np, h.sm.ni, h.sm.idx⟩⟩, e⟩
  · refine own_setG (enc := encC D.col) (enc' := encC (put D.col i x)) (fun _ => rfl) (fun _ => rfl) h.cols hi hj ?_ (fun i' j' hne => ?_)
    · simp only [encC, put_same]; exact hn
    · by_cases e1 : i' = i
      · subst e1
        simp only [encC, put_same]
        exact ho j' (by rcases hne with h | h; exact absurd rfl h; exact h)
      · simp only [encC, put_other _ _ e1]
  · show (put D.col i x q).name.size ≤ 1000
    by_cases e1 : q = i
    · subst e1; rw [put_same]; exact hx
    · rw [put_other _ _ e1]; exact h.sm.col q hq
theorem Tb.setName {w : World} {vc vp vi : Value} {D : PDef} {A C : Nat → Nat} {W : World} (h : Tb w vc vp vi D A C W) (s : ByteArray) (hs : s.size ≤ 1000) : Tb w vc vp vi { D with name := s } A C W :=
  ⟨h.cols, h.pri, h.idx, h.pts, ⟨hs, h.sm.nc, h.sm.col, h.sm.np, h.sm.ni, h.sm.idx⟩⟩
/-- A part's cells. -/
theorem Tb.priAt {w : World} {bp cp : Nat} {vc vi : Value} {D : PDef} {A C : Nat → Nat} {W : World} (h : Tb w vc (.slice (some ⟨bp, 0, none⟩) D.np cp) vi D A C W) {i : Nat} (hi : i < D.np) :
    bp < W.heap.size ∧ D.np ≤ cp ∧ W.cell? ⟨bp, i * 2, none⟩ = some (.int .i64 (D.pri i).col) ∧ W.cell? ⟨bp, i * 2 + 1, none⟩ = some (.bool (D.pri i).desc) := by
  obtain ⟨a, k, e, hk, h1⟩ := own_cells (c := 2) (fun _ => rfl) h.pri
  cases e
  obtain ⟨g, ea, -, -, hg, hc⟩ := h1 (by omega)
  cases ea
  exact ⟨hg, hk, by simpa using hc i 0 _ hi rfl, by simpa using hc i 1 _ hi rfl⟩
/-- A longer key. -/
theorem Tb.growPri {w : World} {vc vp vi : Value} {D : PDef} {A C : Nat → Nat} {W W' : World} (h : Tb w vc vp vi D A C W) (x : PBy) {v' : Value} (hO : W'.ownsRow w.heap.size 78 2 v' (D.np + 1) (rowG (encB D.pri) D.np ++ [.int .i64 x.col, .bool x.desc])) (hg : W.grownBy W' vp.ownBlock) (hn : D.np + 1 ≤ 1000) :
    Tw w vc v' vi { D with np := D.np + 1, pri := upd D.pri D.np x } A C W' := by
  have e := Eff.grown h.pri hg
  refine ⟨own_eff h.cols e (by decide), ?_, own_eff h.idx e (by decide), (h.pts.grown hg).at_, ⟨h.sm.name, h.sm.nc, h.sm.col, hn, h.sm.ni, h.sm.idx⟩⟩
  show W'.ownsRow _ _ _ _ _ (rowG (encB (upd D.pri D.np x)) (D.np + 1))
  rw [rowG_updB]; exact hO
/-- Another key, in a row of its own. -/
theorem Tb.newPri {w : World} {vc vp vi : Value} {D : PDef} {A C : Nat → Nat} {W : World} (h : Tb w vc vp vi D A C W) (np : Nat) (pri : Nat → PBy) {v' : Value} (hO : W.ownsRow w.heap.size 78 2 v' np (rowG (encB pri) np)) (hn : np ≤ 1000) :
    Tw w vc v' vi { D with np := np, pri := pri } A C W :=
  ⟨h.cols, hO, h.idx, h.pts.at_, ⟨h.sm.name, h.sm.nc, h.sm.col, hn, h.sm.ni, h.sm.idx⟩⟩

/-- A number of one digit. -/
def oneB (c : Int) : ByteArray := strOfNums [c]
theorem oneB_size (c : Int) : (oneB c).size = 1 := by simp [oneB, strOfNums, ByteArray.size]
theorem conv_oneB (W : World) (N : Nat) (c : Int) (h : W.cell? ⟨N, 0, none⟩ = some (.int .u8 c)) : (convert 22 9 (.slice (some ⟨N, 0, none⟩) 1 1)).run Tryz.prog W = .ok (.string (oneB c)) W := by
  refine run_convert_bytes_arg W 22 5 Tryz.underlying22 Tryz.underlying5 N 0 1 1 [c] rfl ?_ 9 Tryz.underlying9
  intro i hi
  obtain rfl : i = 0 := by omega
  simpa using h
theorem l2Num_one (u : Nat) (w : World) (hu : u < 10) :
    Calls Tryz.prog 93 #[.int .i64 (u : Int)] w fun e w' => e = .returned (.string (oneB (48 + (u : Int)))) ∧ Below w.heap.size w w' := by
  have h0 : ¬ (u : Int) < 0 := by omega
  have hz : (u : Int) < 10 := by omega
  have hcv := fun W h => conv_oneB W w.heap.size (48 + (u : Int)) h
  have hw2 : IntKind.i64.wrap (48 + (u : Int)) = 48 + (u : Int) := by rw [IntKind.wrap_i64]; omega
  have hw3 : IntKind.u8.wrap (48 + (u : Int)) = 48 + (u : Int) := by rw [IntKind.wrap_u8]; omega
  go_enter Tryz.func93, Tryz.ntmps93
  go_wp2
  go_ret
  exact ⟨rfl, (Below.refl _ _).alloc (Nat.le_refl _) _⟩
end Go.Proofs.YtjoimkfpenbkmaaGreatDoor

