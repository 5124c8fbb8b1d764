/-
  Together: TabKit9, DrawInt, DrawStrOf
-/
import Derived.Test.YtfjlmkphncigladGreatDoorPack1
/-
  A table in rows of the call's own.
-/
namespace Go.Proofs.YtfjlmkphncigladGreatDoor
open Go.RowKit
set_option maxRecDepth 4000

/-- Nothing of a table is great. -/
structure Sm (D : PDef) : Prop where
  name : D.name.size ≤ 1000
  nc : D.nc ≤ 1000
  col : ∀ i, i < D.nc → (D.col i).name.size ≤ 1000
  np : D.np ≤ 1000
  ni : D.ni ≤ 1000
  idx : ∀ i, i < D.ni → (D.idx i).name.size ≤ 1000 ∧ (D.idx i).n ≤ 1000
theorem Sm.fine {D : PDef} (h : Sm D) : DFine D := by
  have h1 := h.name; have h2 := h.nc; have h3 := h.np; have h4 := h.ni
  exact ⟨by omega, by omega, fun i hi => by have := h.col i hi; omega, by omega, by omega, fun i hi => by have := h.idx i hi; omega⟩

/-- A table whose rows are the call's own. -/
structure Tb (w : World) (vc vp vi : Value) (D : PDef) (A C : Nat → Nat) (W : World) : Prop where
  cols : W.ownsRow w.heap.size 49 3 vc D.nc (rowG (encC D.col) D.nc)
  pri : W.ownsRow w.heap.size 51 2 vp D.np (rowG (encB D.pri) D.np)
  idx : W.ownsRow w.heap.size 60 3 vi D.ni (rowG (encI D.idx A C) D.ni)
  pts : Pts w vp.ownBlock D.ni D.idx A C W
  sm : Sm D
theorem Tb.eff {w : World} {vc vp vi : Value} {D : PDef} {A C : Nat → Nat} {T : TypeId} {W W' : World} (h : Tb w vc vp vi D A C W) (e : Eff w T W W') (h1 : 49 ≠ T) (h2 : 51 ≠ T) (h3 : 60 ≠ T) : Tb w vc vp vi D A C W' :=
  ⟨own_eff h.cols e h1, own_eff h.pri e h2, own_eff h.idx e h3, h.pts.eff e h2, h.sm⟩
theorem Tb.but {w : World} {vc vp vi : Value} {D : PDef} {A C : Nat → Nat} {g : Nat} {W W' : World} (h : Tb w vc vp vi D A C W) (hb : But g W W') (hg : g < w.heap.size) : Tb w vc vp vi D A C W' :=
  ⟨own_but9 h.cols hb hg, own_but9 h.pri hb hg, own_but9 h.idx hb hg, h.pts.but hb hg, h.sm⟩
theorem Tb.below {w : World} {vc vp vi : Value} {D : PDef} {A C : Nat → Nat} {W W' : World} (h : Tb w vc vp vi D A C W) (hb : Below W.heap.size W W') : Tb w vc vp vi D A C W' :=
  h.eff (T := 28) (Eff.ofBelow hb) (by decide) (by decide) (by decide)
theorem Tb.view {w : World} {vc vp vi : Value} {D : PDef} {A C : Nat → Nat} {W : World} (h : Tb w vc vp vi D A C W) : DView W (.agg #[.string D.name, vc, vp, vi]) D := by
  obtain ⟨ac, cc, rfl, h1, -⟩ := cview_of_own h.cols
  obtain ⟨ap, cp, rfl, h2, -⟩ := bview_of_own h.pri
  obtain ⟨ai, ci, rfl, h3, -⟩ := iview_of_own h.idx (fun i hi => (h.pts.at_ i hi).view)
  exact ⟨ac, cc, ap, cp, ai, ci, rfl, h1, h2, h3⟩
theorem rowG_updC (f : Nat → PCol) (k : Nat) (x : PCol) : rowG (encC (upd f k x)) (k + 1) = rowG (encC f) k ++ [.string x.name, .int .i64 x.type, .bool x.null] := by
  rw [rowG, rowG_congr (enc' := encC f) (fun i hi => by simp [encC, upd_old hi])]
  simp [encC, upd_new]
theorem rowG_updI (f : Nat → PIdx) (A C : Nat → Nat) (k : Nat) (x : PIdx) (a c : Nat) : rowG (encI (upd f k x) (upd A k a) (upd C k c)) (k + 1) = rowG (encI f A C) k ++ [.string x.name, .bool x.uniq, .slice (some ⟨a, 0, none⟩) x.n c] := by
  rw [rowG, rowG_congr (enc' := encI f A C) (fun i hi => by simp [encI, upd_old hi])]
  simp [encI, upd_new]

/-- A column more. -/
theorem Tb.addCol {w : World} {vc vp vi : Value} {D : PDef} {A C : Nat → Nat} {W W' : World} (h : Tb w vc vp vi D A C W) (x : PCol) {v' : Value} (hO : W'.ownsRow w.heap.size 49 3 v' (D.nc + 1) (rowG (encC D.col) D.nc ++ [.string x.name, .int .i64 x.type, .bool x.null])) (e : Eff w 49 W W') (hx : x.name.size ≤ 1000) (hn : D.nc + 1 ≤ 1000) :
    Tb w v' vp vi { D with nc := D.nc + 1, col := upd D.col D.nc x } A C W' := by
  refine ⟨?_, own_eff h.pri e (by decide), own_eff h.idx e (by decide), h.pts.eff e (by decide), ⟨h.sm.name, hn, fun i hi => ?_, h.sm.np, h.sm.ni, h.sm.idx⟩⟩
  · show W'.ownsRow _ _ _ _ _ (rowG (encC (upd D.col D.nc x)) (D.nc + 1))
    rw [rowG_updC]; exact hO
  · show (upd D.col D.nc x i).name.size ≤ 1000
    by_cases e1 : i < D.nc
    · rw [upd_old e1]; exact h.sm.col i e1
    · obtain rfl : i = D.nc := by have : i < D.nc + 1 := hi
                                  omega
      rw [upd_new]; exact hx
/-- Another key. -/
theorem Tb.setPri {w : World} {vc vp vi : Value} {D : PDef} {A C : Nat → Nat} {W W' : World} (h : Tb w vc vp vi D A C W) (np : Nat) (pri : Nat → PBy) {v' : Value} (hO : W'.ownsRow w.heap.size 51 2 v' np (rowG (encB pri) np)) (hc : W'.ownsRow w.heap.size 49 3 vc D.nc (rowG (encC D.col) D.nc)) (hi : W'.ownsRow w.heap.size 60 3 vi D.ni (rowG (encI D.idx A C) D.ni)) (hp : Pts w v'.ownBlock D.ni D.idx A C W') (hn : np ≤ 1000) :
    Tb w vc v' vi { D with np := np, pri := pri } A C W' :=
  ⟨hc, hO, hi, hp, ⟨h.sm.name, h.sm.nc, h.sm.col, hn, h.sm.ni, h.sm.idx⟩⟩
/-- An index more. -/
theorem Tb.addIdx {w : World} {vc vp vi : Value} {D : PDef} {A C : Nat → Nat} {W W' : World} (h : Tb w vc vp vi D A C W) (x : PIdx) (a c : Nat) {v' : Value} (hO : W'.ownsRow w.heap.size 60 3 v' (D.ni + 1) (rowG (encI D.idx A C) D.ni ++ [.string x.name, .bool x.uniq, .slice (some ⟨a, 0, none⟩) x.n c])) (hP : PtAt w a c x W) (hne : vp.ownBlock ≠ some a) (e : Eff w 60 W W') (hx : x.name.size ≤ 1000 ∧ x.n ≤ 1000) (hn : D.ni + 1 ≤ 1000) :
    Tb w vc vp v' { D with ni := D.ni + 1, idx := upd D.idx D.ni x } (upd A D.ni a) (upd C D.ni c) W' := by
  have hlt : ∀ i, i < D.ni + 1 → i < D.ni ∨ i = D.ni := fun i hi => by omega
  refine ⟨own_eff h.cols e (by decide), own_eff h.pri e (by decide), ?_, ⟨fun i hi => ?_, fun i hi => ?_⟩, ⟨h.sm.name, h.sm.nc, h.sm.col, h.sm.np, hn, fun i hi => ?_⟩⟩
  · show W'.ownsRow _ _ _ _ _ (rowG (encI (upd D.idx D.ni x) (upd A D.ni a) (upd C D.ni c)) (D.ni + 1))
    rw [rowG_updI]; exact hO
  · show PtAt w (upd A D.ni a i) (upd C D.ni c i) (upd D.idx D.ni x i) W'
    rcases hlt i hi with e1 | rfl
    · rw [upd_old e1, upd_old e1, upd_old e1]; exact (h.pts.eff e (by decide)).at_ i e1
    · rw [upd_new, upd_new, upd_new]; exact ⟨own_eff hP.own e (by decide)⟩
  · rcases hlt i hi with e1 | rfl
    · show vp.ownBlock ≠ some (upd A D.ni a i)
      rw [upd_old e1]; exact h.pts.ne i e1
    · show vp.ownBlock ≠ some (upd A D.ni a D.ni)
      rw [upd_new]; exact hne
  · show (upd D.idx D.ni x i).name.size ≤ 1000 ∧ (upd D.idx D.ni x i).n ≤ 1000
    rcases hlt i hi with e1 | rfl
    · rw [upd_old e1]; exact h.sm.idx i e1
    · rw [upd_new]; exact hx
/-- Cells of a new row of one column, of one index. -/
theorem cells_col9 (W : World) (s : ByteArray) (c : Int) (d : Bool) : ∀ j u, [Value.string s, .int .i64 c, .bool d][j]? = some u → (W.alloc (.cells #[.string s, .int .i64 c, .bool d] 49)).cell? ((⟨W.heap.size, 0, none⟩ : Addr).add j) = some u := by
  intro j u h
  have ea : ∀ j, (⟨W.heap.size, 0, none⟩ : Addr).add j = ⟨W.heap.size, 0 + j, none⟩ := fun j => by unfold Addr.add; split <;> simp_all
  match j, h with
  | 0, h => cases h; rw [ea]; simp
  | 1, h => cases h; rw [ea]; simp [go_sem]
  | 2, h => cases h; rw [ea]; simp [go_sem]
  | j + 3, h => simp at h
theorem one_col9 (s : ByteArray) (c : Int) (d : Bool) : ∀ u ∈ [Value.string s, .int .i64 c, .bool d], u.oneCell' = true := by
  intro u hu
  simp at hu
  rcases hu with rfl | rfl | rfl <;> rfl
theorem cells_idx9 (W : World) (s : ByteArray) (d : Bool) (a : Option Addr) (k c : Nat) : ∀ j u, [Value.string s, .bool d, .slice a k c][j]? = some u → (W.alloc (.cells #[.string s, .bool d, .slice a k c] 60)).cell? ((⟨W.heap.size, 0, none⟩ : Addr).add j) = some u := by
  intro j u h
  have ea : ∀ j, (⟨W.heap.size, 0, none⟩ : Addr).add j = ⟨W.heap.size, 0 + j, none⟩ := fun j => by unfold Addr.add; split <;> simp_all
  match j, h with
  | 0, h => cases h; rw [ea]; simp
  | 1, h => cases h; rw [ea]; simp [go_sem]
  | 2, h => cases h; rw [ea]; simp [go_sem]
  | j + 3, h => simp at h
theorem one_idx9 (s : ByteArray) (d : Bool) (a : Option Addr) (k c : Nat) : ∀ u ∈ [Value.string s, .bool d, .slice a k c], u.oneCell' = true := by
  intro u hu
  simp at hu
  rcases hu with rfl | rfl | rfl <;> rfl
/-- The first column of a drawn table. -/
theorem own_col1 {w W : World} (hw : w.heap.size ≤ W.heap.size) (s : ByteArray) (c : Int) (d : Bool) : (W.alloc (.cells #[.string s, .int .i64 c, .bool d] 49)).ownsRow w.heap.size 49 3 (.slice (some ⟨W.heap.size, 0, none⟩) 1 1) 1 (rowG (encC (fun _ => ⟨s, c, d⟩)) 1) := by
  have := World.ownsRow_lit (base := w.heap.size) (e := 49) (size := 3) W #[.string s, .int .i64 c, .bool d] 1 hw (by unfold maxLen; omega) rfl
  simpa [rowG, encC] using this
theorem own_nil9 {w W : World} {T : TypeId} {c : Nat} : W.ownsRow w.heap.size T c (.slice none 0 0) 0 [] := ⟨by simp, .inl ⟨rfl, rfl⟩⟩
/-- A column's cells. -/
theorem Tb.colAt {w : World} {bc cc : Nat} {vp vi : Value} {D : PDef} {A C : Nat → Nat} {W : World} (h : Tb w (.slice (some ⟨bc, 0, none⟩) D.nc cc) vp vi D A C W) {i : Nat} (hi : i < D.nc) :
    bc < W.heap.size ∧ D.nc ≤ cc ∧ W.cell? ⟨bc, i * 3, none⟩ = some (.string (D.col i).name) ∧ W.cell? ⟨bc, i * 3 + 1, none⟩ = some (.int .i64 (D.col i).type) ∧ W.cell? ⟨bc, i * 3 + 2, none⟩ = some (.bool (D.col i).null) := by
  obtain ⟨a, k, e, hk, h1⟩ := own_cells (c := 3) (fun _ => rfl) h.cols
  cases e
  obtain ⟨g, ea, -, -, hg, hc⟩ := h1 (by omega)
  cases ea
  exact ⟨hg, hk, by simpa using hc i 0 _ hi rfl, by simpa using hc i 1 _ hi rfl, by simpa using hc i 2 _ hi rfl⟩
theorem own_lt9 {W : World} {base T c b n k : Nat} {xs : List Value} (h : W.ownsRow base T c (.slice (some ⟨b, 0, none⟩) n k) n xs) : b < W.heap.size ∧ base ≤ b := by
  rcases h.2 with ⟨e, _⟩ | ⟨g, k', cur, e, hb, hg, _⟩
  · cases e
  · cases e
    exact ⟨(Array.getElem?_eq_some_iff.1 hg).1, hb⟩
theorem own_down9 {W : World} {base base' T c N : Nat} {v : Value} {xs : List Value} (h : W.ownsRow base T c v N xs) (hb : base' ≤ base) : W.ownsRow base' T c v N xs := by
  refine ⟨h.1, ?_⟩
  rcases h.2 with ⟨e, h0⟩ | ⟨g, k, cur, e, hb0, hr⟩
  · exact .inl ⟨e, h0⟩
  · exact .inr ⟨g, k, cur, e, Nat.le_trans hb hb0, hr⟩
end Go.Proofs.YtfjlmkphncigladGreatDoor

/-
  One of a row of numbers, as it is drawn.
-/
namespace Go.Proofs.YtfjlmkphncigladGreatDoor
open Go.RowKit
set_option maxRecDepth 4000

set_option maxHeartbeats 1000000 in
theorem l1Int_any (g : Nat) (ao : Option Addr) (n cap : Nat) (f : Nat → Int) (b m : Nat) (z : Nat → Int) (w : World) (hn : n ≤ 1048576) (hm : 0 < m) (hm1 : m ≤ 16777216) (hz : ∀ i, i < m → w.cell? ⟨b, i, none⟩ = some (.int .i64 (z i))) (hbg : b ≠ g) (hC : Cur w g ao n cap f) :
    Calls Tryz.prog 60 #[.pointer (some ⟨g, 0, none⟩), .slice (some ⟨b, 0, none⟩) m m] w fun e w' => ∃ j : Nat, j < m ∧ e = .returned (.int .i64 (z j)) ∧ Cur w' g ao n cap f ∧ Only g w w' := by
  go_enter Tryz.func60, Tryz.ntmps60
  go_wp2_with fail
  refine (l1Below_any g ao n cap f m w hn (by omega) (by omega) hC).mono ?_
  rintro e w1 ⟨x, rfl, hx0, hx1, hC1, hO1⟩
  obtain ⟨j, rfl⟩ := Int.eq_ofNat_of_zero_le hx0
  have hj : w1.cell? ⟨b, j, none⟩ = some (.int .i64 (z j)) := by
    rw [World.cell?_of_block (w := w) (hO1.block b hbg)]; exact hz j (by omega)
  go_wp2
  go_ret
  exact ⟨j, by omega, rfl, hC1, hO1⟩
end Go.Proofs.YtfjlmkphncigladGreatDoor

/-
  One of a list of texts, as a law leans on it.
-/
namespace Go.Proofs.YtfjlmkphncigladGreatDoor
open Go.RowKit
set_option maxRecDepth 4000

set_option maxHeartbeats 1000000 in
theorem l1Str_any (g : Nat) (ao : Option Addr) (n cap : Nat) (f : Nat → Int) (b m : Nat) (z : Nat → ByteArray) (w : World) (hn : n ≤ 1048576) (hm : 0 < m) (hm1 : m ≤ 16777216) (hz : ∀ i, i < m → w.cell? ⟨b, i, none⟩ = some (.string (z i))) (hbg : b ≠ g) (hC : Cur w g ao n cap f) :
    Calls Tryz.prog 37 #[.pointer (some ⟨g, 0, none⟩), .slice (some ⟨b, 0, none⟩) m m] w fun e w' => ∃ j : Nat, j < m ∧ e = .returned (.string (z j)) ∧ Cur w' g ao n cap f ∧ Only g w w' := by
  go_enter Tryz.func37, Tryz.ntmps37
  go_wp2_with fail
  refine (l1Below_any g ao n cap f m w hn (by omega) (by omega) hC).mono ?_
  rintro e w1 ⟨x, rfl, hx0, hx1, hC1, hO1⟩
  obtain ⟨j, rfl⟩ := Int.eq_ofNat_of_zero_le hx0
  have hj : w1.cell? ⟨b, j, none⟩ = some (.string (z j)) := by
    rw [World.cell?_of_block (w := w) (hO1.block b hbg)]; exact hz j (by omega)
  go_wp2
  go_ret
  exact ⟨j, by omega, rfl, hC1, hO1⟩

/-- The cells of a list of texts that is laid anew. -/
theorem newStrs (w : World) (l : List ByteArray) (t : TypeId) : ∀ i, i < l.length → (w.alloc (.cells (l.map Value.string).toArray t)).cell? ⟨w.heap.size, i, none⟩ = some (.string (l.getD i ⟨#[]⟩)) := by
  intro i hi
  rw [World.cell?, show (w.alloc (.cells (l.map Value.string).toArray t)).heap[w.heap.size]? = some (.cells (l.map Value.string).toArray t) from Deep.blk_alloc_new _ _]
  simp [hi]

/-- One of a list of texts that is laid anew. -/
theorem l1Str_mem (g : Nat) (ao : Option Addr) (n cap : Nat) (f : Nat → Int) (l : List ByteArray) (A : Nat) (w : World) (hA : A = w.heap.size) (hn : n ≤ 1048576) (h0 : 0 < l.length) (h1 : l.length ≤ 1000) (hC : Cur w g ao n cap f) :
    Calls Tryz.prog 37 #[.pointer (some ⟨g, 0, none⟩), .slice (some ⟨A, 0, none⟩) l.length l.length] (w.alloc (.cells (l.map Value.string).toArray 9)) fun e w' => ∃ z : ByteArray, e = .returned (.string z) ∧ z ∈ l ∧ Cur w' g ao n cap f ∧ But g w w' := by
  subst hA
  have hb : Below w.heap.size w (w.alloc (.cells (l.map Value.string).toArray 9)) := (Below.refl _ _).alloc (Nat.le_refl _) _
  have hg := hC.lt
  refine (l1Str_any g ao n cap f w.heap.size l.length (fun i => l.getD i ⟨#[]⟩) _ hn h0 (by omega) (newStrs w l 9) (by omega) (hC.below hb)).mono ?_
  rintro e w' ⟨j, hj, rfl, hC2, hO2⟩
  exact ⟨_, rfl, by simp [hj], hC2, (But.ofBelow hb).trans (But.ofOnly hO2)⟩
end Go.Proofs.YtfjlmkphncigladGreatDoor

