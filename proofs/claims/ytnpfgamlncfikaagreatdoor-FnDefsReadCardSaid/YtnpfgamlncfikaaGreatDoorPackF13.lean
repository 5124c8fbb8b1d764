/-
  Together: TabsI, MarkDefs
-/
import Derived.Test.YtnpfgamlncfikaaGreatDoorPackF12
import Derived.Test.YtnpfgamlncfikaaGreatDoorPackF11
/-
  Rows of tables that were read: each in rows of its own, none of them shared.
-/
namespace Go.Proofs.YtnpfgamlncfikaaGreatDoor
open Go.RowKit
set_option maxRecDepth 4000

/-- The blocks of a table's rows lie from lo on, below hi. -/
structure Bd (lo hi : Nat) (vc vp vi : Value) (ni : Nat) (A : Nat → Nat) : Prop where
  c : ∀ j, vc.ownBlock = some j → lo ≤ j ∧ j < hi
  p : ∀ j, vp.ownBlock = some j → lo ≤ j ∧ j < hi
  i : ∀ j, vi.ownBlock = some j → lo ≤ j ∧ j < hi
  a : ∀ k, k < ni → lo ≤ A k ∧ A k < hi
theorem own_bd {W : World} {base T c N : Nat} {v : Value} {xs : List Value} (h : W.ownsRow base T c v N xs) : ∀ j, v.ownBlock = some j → base ≤ j ∧ j < W.heap.size := by
  intro j hj
  rcases h.2 with ⟨rfl, _⟩ | ⟨g, cap, cur, rfl, hb, hg, _⟩
  · simp [Value.ownBlock] at hj
  · obtain rfl : g = j := by simpa [Value.ownBlock] using hj
    exact ⟨hb, (Array.getElem?_eq_some_iff.1 hg).1⟩
theorem Tb.bd {w W : World} {vc vp vi : Value} {D : PDef} {A C : Nat → Nat} (h : Tb w vc vp vi D A C W) : Bd w.heap.size W.heap.size vc vp vi D.ni A :=
  ⟨own_bd h.cols, own_bd h.pri, own_bd h.idx, fun k hk => by have := own_lt9 (h.pts.at_ k hk).own; exact ⟨this.2, this.1⟩⟩
structure TabsI (w : World) (v : Value) (ds : List PDef) (W : World) : Prop where
  is : ∃ (V : Nat → Value × Value × Value) (A C : Nat → Nat → Nat) (β : Nat → Nat), W.ownsRow w.heap.size 35 4 v ds.length (rowG (encD (atD ds) V) ds.length) ∧ (∀ i, i < ds.length → Tb w (V i).1 (V i).2.1 (V i).2.2 (atD ds i) (A i) (C i) W ∧ (∀ a b, a < b → b < (atD ds i).ni → A i a ≠ A i b) ∧ Bd (β i) (β (i + 1)) (V i).1 (V i).2.1 (V i).2.2 (atD ds i).ni (A i) ∧ β i ≤ β (i + 1)) ∧ β ds.length ≤ W.heap.size
theorem TabsI.tabs {w : World} {v : Value} {ds : List PDef} {W : World} (h : TabsI w v ds W) : Tabs w v ds W := by
  obtain ⟨V, A, C, β, h1, h2, h3⟩ := h.is
  exact ⟨V, h1, fun i hi => ⟨A i, C i, (h2 i hi).1⟩⟩
theorem TabsI.but {w : World} {v : Value} {ds : List PDef} {W W' : World} {g : Nat} (h : TabsI w v ds W) (hb : But g W W') (hg : g < w.heap.size) : TabsI w v ds W' := by
  obtain ⟨V, A, C, β, h1, h2, h3⟩ := h.is
  exact ⟨V, A, C, β, own_but9 h1 hb hg, fun i hi => ⟨(h2 i hi).1.but hb hg, (h2 i hi).2⟩, Nat.le_trans h3 hb.size⟩
theorem TabsI.below {w : World} {v : Value} {ds : List PDef} {W W' : World} (h : TabsI w v ds W) (hb : Below W.heap.size W W') : TabsI w v ds W' := by
  obtain ⟨V, A, C, β, h1, h2, h3⟩ := h.is
  exact ⟨V, A, C, β, own_belowG9 h1 hb, fun i hi => ⟨(h2 i hi).1.below hb, (h2 i hi).2⟩, Nat.le_trans h3 hb.size⟩
/-- A table more. -/
theorem TabsI.add {w w4 W W' : World} {v' vc vp vi : Value} {ds : List PDef} {D : PDef} {V : Nat → Value × Value × Value} {A C : Nat → Nat → Nat} {β A' C' : Nat → Nat}
    (h2 : ∀ i, i < ds.length → Tb w (V i).1 (V i).2.1 (V i).2.2 (atD ds i) (A i) (C i) W ∧ (∀ a b, a < b → b < (atD ds i).ni → A i a ≠ A i b) ∧ Bd (β i) (β (i + 1)) (V i).1 (V i).2.1 (V i).2.2 (atD ds i).ni (A i) ∧ β i ≤ β (i + 1))
    (h3 : β ds.length ≤ w4.heap.size) (h4 : w4.heap.size ≤ W.heap.size) (hw4 : w.heap.size ≤ w4.heap.size) (hT : Tb w4 vc vp vi D A' C' W) (hdj : ∀ a b, a < b → b < D.ni → A' a ≠ A' b)
    (hO : W'.ownsRow w.heap.size 35 4 v' (ds.length + 1) (rowG (encD (atD ds) V) ds.length ++ [.string D.name, vc, vp, vi])) (e : Eff w 35 W W') : TabsI w v' (ds ++ [D]) W' := by
  have hl : (ds ++ [D]).length = ds.length + 1 := by rw [List.length_append, List.length_singleton]
  refine ⟨upd V ds.length (vc, vp, vi), upd A ds.length A', upd C ds.length C', upd β (ds.length + 1) W.heap.size, ?_, fun i hi => ?_, ?_⟩
  · have e1 : rowG (encD (atD (ds ++ [D])) (upd V ds.length (vc, vp, vi))) (ds ++ [D]).length = rowG (encD (atD ds) V) ds.length ++ [.string D.name, vc, vp, vi] := by
      rw [hl, rowG, rowG_congr (enc' := encD (atD ds) V) (fun i hi => by simp [encD, atD_snoc, upd_old hi])]
      simp [encD, atD_snoc, upd_new]
    rw [e1, hl]
    exact hO
  · rw [hl] at hi
    by_cases e1 : i < ds.length
    · obtain ⟨a1, a2, a3, a4⟩ := h2 i e1
      rw [atD_snoc, upd_old e1, upd_old e1, upd_old e1, upd_old e1, upd_old (show i < ds.length + 1 by omega), upd_old (show i + 1 < ds.length + 1 by omega)]
      exact ⟨a1.eff e (by decide) (by decide) (by decide), a2, a3, a4⟩
    · obtain rfl : i = ds.length := by omega
      rw [atD_snoc, upd_new, upd_new, upd_new, upd_new, upd_old (show ds.length < ds.length + 1 by omega), upd_new]
      have hb := hT.bd
      refine ⟨(hT.down hw4).eff e (by decide) (by decide) (by decide), hdj, ⟨fun j hj => ?_, fun j hj => ?_, fun j hj => ?_, fun k hk => ?_⟩, ?_⟩
      · have := hb.c j hj; omega
      · have := hb.p j hj; omega
      · have := hb.i j hj; omega
      · have := hb.a k hk; omega
      · exact Nat.le_trans h3 h4
  · rw [hl, upd_new]
    exact e.size
end Go.Proofs.YtnpfgamlncfikaaGreatDoor

/-
  What the law's own helper markDefS comes to: it writes counts into rows of tables, none of which is shared.
-/
namespace Go.Proofs.YtnpfgamlncfikaaGreatDoor
open Go.RowKit
set_option maxRecDepth 4000

/-- The counts behind a table's name, its columns, its key; behind the table. -/
def kD1 (k : Int) : Int := k + 1
def kD2 (D : PDef) (k : Int) : Int := kD1 k + 3 * D.nc
def kD3 (D : PDef) (k : Int) : Int := kD2 D k + 2 * D.np
def kD4 (D : PDef) (k : Int) : Int := kI D.idx (kD3 D k) D.ni
def mkdD (D : PDef) (k : Int) : PDef := ⟨markT k, D.nc, mkdC (kD1 k), D.np, mkdB (kD2 D k), D.ni, mkdI D.idx (kD3 D k)⟩
/-- The count ahead of the i-th table. -/
def kDs (f : Nat → PDef) (k : Int) : Nat → Int
  | 0 => k
  | i + 1 => kD4 (f i) (kDs f k i)
/-- A table's rows. -/
structure Tr (base : Nat) (vc vp vi : Value) (D : PDef) (A C : Nat → Nat) (W : World) : Prop where
  cols : W.ownsRow base 67 3 vc D.nc (rowG (encC D.col) D.nc)
  pri : W.ownsRow base 70 2 vp D.np (rowG (encB D.pri) D.np)
  idx : W.ownsRow base 73 3 vi D.ni (rowG (encI D.idx A C) D.ni)
  pts : ∀ i, i < D.ni → W.ownsRow base 70 2 (.slice (some ⟨A i, 0, none⟩) (D.idx i).n (C i)) (D.idx i).n (rowG (encB (D.idx i).part) (D.idx i).n)
theorem Tb.tr {w : World} {vc vp vi : Value} {D : PDef} {A C : Nat → Nat} {W : World} (h : Tb w vc vp vi D A C W) : Tr w.heap.size vc vp vi D A C W := ⟨h.cols, h.pri, h.idx, fun i hi => (h.pts.at_ i hi).own⟩
theorem Tr.view {base : Nat} {vc vp vi : Value} {D : PDef} {A C : Nat → Nat} {W : World} (h : Tr base vc vp vi D A C W) : DView W (.agg #[.string D.name, vc, vp, vi]) D := by
  obtain ⟨ac, cc, rfl, h1, -⟩ := cview_of_own h.cols
  obtain ⟨ap, cp, rfl, h2, -⟩ := bview_of_own h.pri
  obtain ⟨ai, ci, rfl, h3, -⟩ := iview_of_own h.idx (fun i hi => by
    obtain ⟨a, k, e, hv, -⟩ := bview_of_own (h.pts i hi)
    cases e
    exact hv)
  exact ⟨ac, cc, ap, cp, ai, ci, rfl, h1, h2, h3⟩
/-- The blocks of a table's rows. -/
def inT (vc vp vi : Value) (ni : Nat) (A : Nat → Nat) (q : Nat) : Prop := vc.ownBlock = some q ∨ vp.ownBlock = some q ∨ vi.ownBlock = some q ∨ ∃ i, i < ni ∧ q = A i
theorem Tr.fr {S : Nat → Prop} {base : Nat} {vc vp vi : Value} {D : PDef} {A C : Nat → Nat} {W W' : World} (h : Tr base vc vp vi D A C W) (hf : Fr S W W') (hn : ∀ q, inT vc vp vi D.ni A q → ¬ S q) : Tr base vc vp vi D A C W' :=
  ⟨own_fr h.cols hf (fun j hj => hn j (.inl hj)), own_fr h.pri hf (fun j hj => hn j (.inr (.inl hj))), own_fr h.idx hf (fun j hj => hn j (.inr (.inr (.inl hj)))), fun i hi => own_fr (h.pts i hi) hf (fun j hj => hn j (.inr (.inr (.inr ⟨i, hi, (show A i = j by simpa [Value.ownBlock] using hj).symm⟩))))⟩
/-- Rows of tables, none of which is shared. -/
structure TM (base a n cap : Nat) (V : Nat → Value × Value × Value) (A C : Nat → Nat → Nat) (β : Nat → Nat) (F : Nat → PDef) (W : World) : Prop where
  row : W.ownsRow base 35 4 (.slice (some ⟨a, 0, none⟩) n cap) n (rowG (encD F V) n)
  tab : ∀ i, i < n → Tr base (V i).1 (V i).2.1 (V i).2.2 (F i) (A i) (C i) W
  bd : ∀ i, i < n → Bd (β i) (β (i + 1)) (V i).1 (V i).2.1 (V i).2.2 (F i).ni (A i)
  mono : ∀ i, i < n → β i ≤ β (i + 1)
def putD (F : Nat → PDef) (j : Nat) (D : PDef) : Nat → PDef := fun i => if i = j then D else F i
theorem mono_le {β : Nat → Nat} {n : Nat} (h : ∀ i, i < n → β i ≤ β (i + 1)) : ∀ j i, i ≤ j → j ≤ n → β i ≤ β j
  | 0, i, h1, _ => by have : i = 0 := by omega
                      subst this; exact Nat.le_refl _
  | j + 1, i, h1, h2 => by
    by_cases e : i = j + 1
    · subst e; exact Nat.le_refl _
    · exact Nat.le_trans (mono_le h j i (by omega) (by omega)) (h j (by omega))
theorem Bd.of {lo hi : Nat} {vc vp vi : Value} {ni : Nat} {A : Nat → Nat} (h : Bd lo hi vc vp vi ni A) {q : Nat} (hq : inT vc vp vi ni A q) : lo ≤ q ∧ q < hi := by
  rcases hq with h1 | h1 | h1 | ⟨i, hi', rfl⟩
  · exact h.c q h1
  · exact h.p q h1
  · exact h.i q h1
  · exact h.a i hi'
theorem TM.apart {base a n cap : Nat} {V : Nat → Value × Value × Value} {A C : Nat → Nat → Nat} {β : Nat → Nat} {F : Nat → PDef} {W : World} (h : TM base a n cap V A C β F W) {i j : Nat} (hi : i < n) (hj : j < n) (hne : i ≠ j) {q : Nat} (h1 : inT (V i).1 (V i).2.1 (V i).2.2 (F i).ni (A i) q) (h2 : inT (V j).1 (V j).2.1 (V j).2.2 (F j).ni (A j) q) : False := by
  have a1 := (h.bd i hi).of h1
  have a2 := (h.bd j hj).of h2
  by_cases e : i < j
  · have := mono_le h.mono j (i + 1) (by omega) (by omega); omega
  · have := mono_le h.mono i (j + 1) (by omega) (by omega); omega
theorem TM.rowne {base a n cap : Nat} {V : Nat → Value × Value × Value} {A C : Nat → Nat → Nat} {β : Nat → Nat} {F : Nat → PDef} {W : World} (h : TM base a n cap V A C β F W) {j : Nat} (hj : j < n) {q : Nat} (h2 : inT (V j).1 (V j).2.1 (V j).2.2 (F j).ni (A j) q) : a ≠ q := by
  have ha : (Value.slice (some ⟨a, 0, none⟩) n cap).ownBlock = some a := by simp [Value.ownBlock]
  rcases h2 with h1 | h1 | h1 | ⟨i, hi', rfl⟩
  · exact own_ne h.row (h.tab j hj).cols (by decide) ha h1
  · exact own_ne h.row (h.tab j hj).pri (by decide) ha h1
  · exact own_ne h.row (h.tab j hj).idx (by decide) ha h1
  · exact own_ne h.row ((h.tab j hj).pts i hi') (by decide) ha (by simp [Value.ownBlock])
/-- One table is turned. -/
theorem TM.turn {base a n cap : Nat} {V : Nat → Value × Value × Value} {A C : Nat → Nat → Nat} {β : Nat → Nat} {F : Nat → PDef} {W W' : World} (h : TM base a n cap V A C β F W) {j : Nat} (hj : j < n) {S : Nat → Prop} {D : PDef} (hf : Fr S W W') (hS : ∀ q, S q → inT (V j).1 (V j).2.1 (V j).2.2 (F j).ni (A j) q) (hT : Tr base (V j).1 (V j).2.1 (V j).2.2 D (A j) (C j) W') (hn : D.name = (F j).name) (hni : D.ni = (F j).ni) : TM base a n cap V A C β (putD F j D) W' := by
  refine ⟨?_, fun i hi => ?_, fun i hi => ?_, h.mono⟩
  · have e : rowG (encD (putD F j D) V) n = rowG (encD F V) n := rowG_congr (fun i _ => by
      unfold encD putD
      by_cases e : i = j
      · subst e; simp [hn]
      · simp [e])
    rw [e]
    refine own_fr h.row hf (fun q hq hs => ?_)
    have : a = q := by simpa [Value.ownBlock] using hq
    exact h.rowne hj (hS q hs) this
  · by_cases e : i = j
    · subst e; simp only [putD, if_true]; exact hT
    · simp only [putD, e, if_false]
      exact (h.tab i hi).fr hf (fun q hq hs => h.apart hi hj e hq (hS q hs))
  · by_cases e : i = j
    · subst e; simp only [putD, if_true]; rw [hni]; exact h.bd i hi
    · simp only [putD, e, if_false]; exact h.bd i hi
/-- A name is set. -/
theorem TM.name {base a n cap : Nat} {V : Nat → Value × Value × Value} {A C : Nat → Nat → Nat} {β : Nat → Nat} {F : Nat → PDef} {W : World} (h : TM base a n cap V A C β F W) {j : Nat} (hj : j < n) (s : ByteArray) : TM base a n cap V A C β (putD F j { F j with name := s }) (W.setCell ⟨a, j * 4, none⟩ (.string s)) := by
  have hb : But a W (W.setCell ⟨a, j * 4, none⟩ (.string s)) := (But.refl _ _).set _ _
  refine ⟨?_, fun i hi => ?_, fun i hi => ?_, h.mono⟩
  · have := own_setG (i := j) (j := 0) (u := .string s) (enc := encD F V) (enc' := encD (putD F j { F j with name := s }) V) (fun _ => rfl) (fun _ => rfl) h.row hj (by decide) (by simp [encD, putD]) (fun i' j' hne => by
      unfold encD putD
      by_cases e : i' = j
      · subst e
        match j', hne with
        | 0, hne => omega
        | q + 1, _ => simp
      · simp [e])
    rw [Nat.add_zero] at this
    exact this
  · have key : Tr base (V i).1 (V i).2.1 (V i).2.2 (F i) (A i) (C i) (W.setCell ⟨a, j * 4, none⟩ (.string s)) := (h.tab i hi).fr (S := fun q => q = a) (Fr.ofBut hb rfl) (fun q hq e => h.rowne hi hq e.symm)
    by_cases e : i = j
    · subst e; simp only [putD, if_true]; exact ⟨key.cols, key.pri, key.idx, key.pts⟩
    · simp only [putD, e, if_false]; exact key
  · by_cases e : i = j
    · subst e; simp only [putD, if_true]; exact h.bd i hi
    · simp only [putD, e, if_false]; exact h.bd i hi
theorem TM.below {base a n cap : Nat} {V : Nat → Value × Value × Value} {A C : Nat → Nat → Nat} {β : Nat → Nat} {F : Nat → PDef} {W W' : World} (h : TM base a n cap V A C β F W) (hb : Below W.heap.size W W') : TM base a n cap V A C β F W' :=
  ⟨own_belowG9 h.row hb, fun i hi => (h.tab i hi).fr (S := fun _ => False) (Fr.ofBelow hb) (fun _ _ hs => hs), h.bd, h.mono⟩
theorem TM.congr {base a n cap : Nat} {V : Nat → Value × Value × Value} {A C : Nat → Nat → Nat} {β : Nat → Nat} {F G : Nat → PDef} {W : World} (h : TM base a n cap V A C β F W) (e : ∀ i, i < n → F i = G i) : TM base a n cap V A C β G W := by
  refine ⟨?_, fun i hi => by rw [← e i hi]; exact h.tab i hi, fun i hi => by rw [← e i hi]; exact h.bd i hi, h.mono⟩
  rw [← rowG_congr (enc := encD F V) (fun i hi => by unfold encD; rw [e i hi])]
  exact h.row
theorem TM.cells {base a n cap : Nat} {V : Nat → Value × Value × Value} {A C : Nat → Nat → Nat} {β : Nat → Nat} {F : Nat → PDef} {W : World} (h : TM base a n cap V A C β F W) {j : Nat} (hj : j < n) : W.cell? ⟨a, j * 4, none⟩ = some (.string (F j).name) ∧ W.cell? ⟨a, j * 4 + 1, none⟩ = some (V j).1 ∧ W.cell? ⟨a, j * 4 + 2, none⟩ = some (V j).2.1 ∧ W.cell? ⟨a, j * 4 + 3, none⟩ = some (V j).2.2 := by
  obtain ⟨a', k, e, -, h1⟩ := own_cells (c := 4) (fun _ => rfl) h.row
  cases e
  obtain ⟨g, ea, -, -, -, hc⟩ := h1 (by omega)
  cases ea
  exact ⟨by simpa using hc j 0 _ hj rfl, by simpa using hc j 1 _ hj rfl, by simpa using hc j 2 _ hj rfl, by simpa using hc j 3 _ hj rfl⟩
end Go.Proofs.YtnpfgamlncfikaaGreatDoor

