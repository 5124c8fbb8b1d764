/-
  Together: DefsView, ParsePlain10, StrRow, NamesImpl
-/
import Derived.Test.YtnpfgamlncfikaaGreatDoorPackF4
import Derived.Test.YtnpfgamlncfikaaGreatDoorPackF11
import Derived.Test.YtnpfgamlncfikaaGreatDoorPackF3
import Derived.Test.YtnpfgamlncfikaaGreatDoorProg
import Derived.Deep.LoopGhost
/-
  Rows of tables that read, and how that is carried.
-/
namespace Go.Proofs.YtnpfgamlncfikaaGreatDoor
open Go.RowKit
set_option maxRecDepth 4000

/-- The slice value '.slice ao n cap' reads as n tables. -/
structure LView (w : World) (ao : Option Addr) (n cap : Nat) (f : Nat → PDef) : Prop where
  le : n ≤ cap
  cells : 0 < n → ∃ b off, ao = some ⟨b, off, none⟩ ∧ b < w.heap.size ∧ ∀ i, i < n → ∃ x1 x2 x3, w.cell? ⟨b, off + i * 4, none⟩ = some (.string (f i).name) ∧ w.cell? ⟨b, off + i * 4 + 1, none⟩ = some x1 ∧ w.cell? ⟨b, off + i * 4 + 2, none⟩ = some x2 ∧ w.cell? ⟨b, off + i * 4 + 3, none⟩ = some x3 ∧ DView w (.agg #[.string (f i).name, x1, x2, x3]) (f i)
theorem LView.below {w w' : World} {ao : Option Addr} {n cap : Nat} {f : Nat → PDef} (h : LView w ao n cap f) (hb : Below w.heap.size w w') : LView w' ao n cap f := by
  refine ⟨h.le, fun hn => ?_⟩
  obtain ⟨b, off, e, hlt, hc⟩ := h.cells hn
  refine ⟨b, off, e, Nat.lt_of_lt_of_le hlt hb.size, fun i hi => ?_⟩
  rw [hb.cell (p := ⟨b, off + i * 4, none⟩) hlt, hb.cell (p := ⟨b, off + i * 4 + 1, none⟩) hlt, hb.cell (p := ⟨b, off + i * 4 + 2, none⟩) hlt, hb.cell (p := ⟨b, off + i * 4 + 3, none⟩) hlt]
  obtain ⟨x1, x2, x3, h0, h1, h2, h3, hv⟩ := hc i hi
  exact ⟨x1, x2, x3, h0, h1, h2, h3, hv.below hb⟩
theorem LView.empty (w : World) (ao : Option Addr) (cap : Nat) (f : Nat → PDef) : LView w ao 0 cap f := ⟨Nat.zero_le _, fun h => absurd h (Nat.lt_irrefl _)⟩
/-- Nothing of the tables is great. -/
structure LFine (n : Nat) (f : Nat → PDef) : Prop where
  few : n ≤ 1048576
  at_ : ∀ i, i < n → DFine (f i)
/-- The parts of a table's value. -/
theorem DView.parts {w : World} {s : ByteArray} {x1 x2 x3 : Value} {D : PDef} (h : DView w (.agg #[.string s, x1, x2, x3]) D) : ∃ ac cc ap cp ai ci, s = D.name ∧ x1 = .slice ac D.nc cc ∧ x2 = .slice ap D.np cp ∧ x3 = .slice ai D.ni ci ∧ CView w ac D.nc cc D.col ∧ BView w ap D.np cp D.pri ∧ IView w ai D.ni ci D.idx := by
  obtain ⟨ac, cc, ap, cp, ai, ci, e, h1, h2, h3⟩ := h.is
  simp only [Value.agg.injEq, Array.mk.injEq, List.cons.injEq, Value.string.injEq, and_true] at e
  obtain ⟨rfl, rfl, rfl, rfl⟩ := e
  exact ⟨ac, cc, ap, cp, ai, ci, rfl, rfl, rfl, rfl, h1, h2, h3⟩
end Go.Proofs.YtnpfgamlncfikaaGreatDoor

/-
  What ParseDefs comes to, plainly; the model's loop over tables.
-/
namespace Go.Proofs.YtnpfgamlncfikaaGreatDoor
open Go.RowKit
set_option maxRecDepth 4000

/-- The tables of a text, where it is one of tables that are right. -/
def parseF (s : ByteArray) : Option (List PDef) := if (lexF s 0 []).2 = -1 then tabsF (lexF s 0 []).1 else none
/-- What ParseDefs answers. -/
def ParseTo (w : World) (o : Option (List PDef)) (e : Ending) (w' : World) : Prop :=
  ∃ a cap, e = .returned (.tuple #[.slice a (o.getD []).length cap, .bool o.isSome]) ∧ LView w' a (o.getD []).length cap (atD (o.getD [])) ∧ Below w.heap.size w w'
def InvD (T : Option (List PDef)) (acc : List PDef) : Option (List Tok) → Prop
  | none => T = none
  | some l => ∃ q, l.length < q ∧ T = (defsR q l).map (fun x => acc ++ x)
theorem invD_start (st : Option (List Tok)) : InvD (st.bind (fun l => defsR (l.length + 1) l)) [] st := by
  cases st with
  | none => rfl
  | some l =>
    refine ⟨l.length + 1, Nat.lt_succ_self _, ?_⟩
    show defsR (l.length + 1) l = _
    cases defsR (l.length + 1) l with
    | none => rfl
    | some y => rfl
theorem invD_end {T : Option (List PDef)} {acc : List PDef} (h : InvD T acc (some [])) : T = some acc := by
  obtain ⟨q, hq, e⟩ : ∃ q, ([] : List Tok).length < q ∧ T = (defsR q []).map (fun x => acc ++ x) := h
  rw [e]
  cases q <;> simp [defsR]
theorem defR_len {l r : List Tok} {D : PDef} (h : defR l = some (D, r)) : r.length < l.length := by
  unfold defR at h
  simp only [Option.bind_eq_bind, Option.bind_eq_some_iff, Prod.exists, Option.pure_def, Option.some.injEq, Prod.mk.injEq] at h
  obtain ⟨l1, h1, n, l2, h2, l3, h3, c, l4, h4, p, l5, h5, x, l6, h6, -, rfl⟩ := h
  have a1 := mustR_len h1
  have a2 := nameR_len h2
  have a3 := mustR_len h3
  have a5 := partsR_len _ _ _ _ h5
  have a4 : l4.length ≤ l3.length := by
    have key : ∀ (q : Nat) (l r : List Tok) (cs : List PCol), colsR q l = some (cs, r) → r.length ≤ l.length := by
      intro q
      induction q with
      | zero => intro l r cs h; simp [colsR] at h
      | succ q ih =>
        intro l r cs h
        rw [colsR] at h
        split at h
        · simp only [Option.some.injEq, Prod.mk.injEq] at h
          rw [← h.2]; exact isR_len _ _
        · simp only [Option.bind_eq_bind, Option.bind_eq_some_iff, Prod.exists, Option.pure_def, Option.some.injEq, Prod.mk.injEq] at h
          obtain ⟨c, l1, b1, rs, l2, b2, -, rfl⟩ := h
          have := colR_len b1
          have := ih _ _ _ b2
          omega
    exact key _ _ _ _ h4
  have a6 : l6.length ≤ l5.length := by
    have key : ∀ (q : Nat) (l r : List Tok) (xs : List (ByteArray × Bool × List PBy)), idxsR c q l = some (xs, r) → r.length ≤ l.length := by
      intro q
      induction q with
      | zero => intro l r cs h; simp [idxsR] at h
      | succ q ih =>
        intro l r cs h
        rw [idxsR] at h
        split at h
        · simp only [Option.some.injEq, Prod.mk.injEq] at h
          rw [← h.2]; exact isR_len _ _
        · simp only [Option.bind_eq_bind, Option.bind_eq_some_iff, Prod.exists, Option.pure_def, Option.some.injEq, Prod.mk.injEq] at h
          obtain ⟨l2, b1, n', l3', b2, p', l4', b3, rs, l5', b4, -, rfl⟩ := h
          have c1 := isR_len kUnique l
          have c2 := nameR_len b2
          have c3 := partsR_len _ _ _ _ b3
          have c4 := ih _ _ _ b4
          have c5 : l2.length ≤ (isR kUnique l).2.length := by
            unfold idxW at b1
            split at b1
            · cases b1; exact Nat.le_refl _
            · exact Nat.le_of_lt (mustR_len b1)
          omega
    exact key _ _ _ _ h6
  omega
theorem invD_step {T : Option (List PDef)} {acc : List PDef} {l : List Tok} (h : InvD T acc (some l)) (hl : l ≠ []) {D : PDef} {st' : Option (List Tok)} (hc : defR l = st'.map (fun r => (D, r))) {K : Nat} (hk : cntP K acc (some l)) :
    InvD T (acc ++ [D]) st' ∧ st'.elim 0 (fun l => l.length + 1) < l.length + 1 ∧ cntP K (acc ++ [D]) st' := by
  have hk' : acc.length + l.length ≤ K := hk
  obtain ⟨q, hq, e⟩ : ∃ q, l.length < q ∧ T = (defsR q l).map (fun x => acc ++ x) := h
  obtain ⟨q', rfl⟩ : ∃ q', q = q' + 1 := ⟨q - 1, by omega⟩
  obtain ⟨t, r, rfl⟩ : ∃ t r, l = t :: r := by cases l with | nil => exact absurd rfl hl | cons t r => exact ⟨t, r, rfl⟩
  rw [defsR, hc] at e
  cases st' with
  | none =>
    refine ⟨e, by simp, ?_⟩
    show (acc ++ [D]).length ≤ K + 1
    rw [List.length_append, List.length_singleton]; omega
  | some r' =>
    have hl := defR_len (D := D) (r := r') hc
    refine ⟨⟨q', by omega, ?_⟩, by simp only [Option.elim]; omega, ?_⟩
    · rw [e]
      simp only [Option.map_some, Option.bind_eq_bind, Option.bind_some]
      cases defsR q' r' with
      | none => rfl
      | some y => simp
    · show (acc ++ [D]).length + r'.length ≤ K
      rw [List.length_append, List.length_singleton]; omega
/-- A row of tables of the call's own, each in rows of its own. -/
def encD (f : Nat → PDef) (V : Nat → Value × Value × Value) (i : Nat) : List Value := [.string (f i).name, (V i).1, (V i).2.1, (V i).2.2]
structure Tabs (w : World) (v : Value) (ds : List PDef) (W : World) : Prop where
  is : ∃ V, W.ownsRow w.heap.size 35 4 v ds.length (rowG (encD (atD ds) V) ds.length) ∧ ∀ i, i < ds.length → ∃ A C, Tb w (V i).1 (V i).2.1 (V i).2.2 (atD ds i) A C W
theorem Tabs.but {w : World} {v : Value} {ds : List PDef} {W W' : World} {g : Nat} (h : Tabs w v ds W) (hb : But g W W') (hg : g < w.heap.size) : Tabs w v ds W' := by
  obtain ⟨V, h1, h2⟩ := h.is
  refine ⟨V, own_but9 h1 hb hg, fun i hi => ?_⟩
  obtain ⟨A, C, h3⟩ := h2 i hi
  exact ⟨A, C, h3.but hb hg⟩
theorem Tabs.below {w : World} {v : Value} {ds : List PDef} {W W' : World} (h : Tabs w v ds W) (hb : Below W.heap.size W W') : Tabs w v ds W' := by
  obtain ⟨V, h1, h2⟩ := h.is
  refine ⟨V, own_belowG9 h1 hb, fun i hi => ?_⟩
  obtain ⟨A, C, h3⟩ := h2 i hi
  exact ⟨A, C, h3.below hb⟩
theorem Tabs.view {w : World} {v : Value} {ds : List PDef} {W : World} (h : Tabs w v ds W) : ∃ a k, v = .slice a ds.length k ∧ LView W a ds.length k (atD ds) := by
  obtain ⟨V, h1, h2⟩ := h.is
  obtain ⟨a, k, e, hk, h3⟩ := own_cells (c := 4) (fun _ => rfl) h1
  refine ⟨a, k, e, hk, fun hn => ?_⟩
  obtain ⟨g, ea, -, -, hg, hc⟩ := h3 hn
  refine ⟨g, 0, ea, hg, fun i hi => ?_⟩
  obtain ⟨A, C, h4⟩ := h2 i hi
  exact ⟨_, _, _, by simpa using hc i 0 _ hi rfl, by simpa using hc i 1 _ hi rfl, by simpa using hc i 2 _ hi rfl, by simpa using hc i 3 _ hi rfl, h4.view⟩
theorem Tabs.fine {w : World} {v : Value} {ds : List PDef} {W : World} (h : Tabs w v ds W) (hn : ds.length ≤ 1048576) : LFine ds.length (atD ds) := by
  obtain ⟨V, h1, h2⟩ := h.is
  refine ⟨hn, fun i hi => ?_⟩
  obtain ⟨A, C, h4⟩ := h2 i hi
  exact h4.sm.fine
theorem atD_snoc (acc : List PDef) (x : PDef) : atD (acc ++ [x]) = upd (atD acc) acc.length x := by
  funext i
  unfold atD upd
  by_cases h : i = acc.length
  · subst h; simp [List.getD]
  · rw [if_neg h]
    by_cases h2 : i < acc.length
    · simp [List.getD, List.getElem?_append_left h2]
    · simp [List.getD, List.getElem?_eq_none (show acc.length ≤ i by omega), List.getElem?_eq_none (show (acc ++ [x]).length ≤ i by simp; omega)]
/-- A table more. -/
theorem Tabs.add {w : World} {v' vc vp vi : Value} {ds : List PDef} {D : PDef} {A C : Nat → Nat} {V : Nat → Value × Value × Value} {W W' : World} (h2 : ∀ i, i < ds.length → ∃ A C, Tb w (V i).1 (V i).2.1 (V i).2.2 (atD ds i) A C W) (hT : Tb w vc vp vi D A C W)
    (h3 : W'.ownsRow w.heap.size 35 4 v' (ds.length + 1) (rowG (encD (atD ds) V) ds.length ++ [.string D.name, vc, vp, vi])) (e : Eff w 35 W W') : Tabs w v' (ds ++ [D]) W' := by
  refine ⟨upd V ds.length (vc, vp, vi), ?_, fun i hi => ?_⟩
  · have e1 : rowG (encD (atD (ds ++ [D])) (upd V ds.length (vc, vp, vi))) (ds ++ [D]).length = rowG (encD (atD ds) V) ds.length ++ [.string D.name, vc, vp, vi] := by
      rw [List.length_append, List.length_singleton, rowG, rowG_congr (enc' := encD (atD ds) V) (fun i hi => by simp [encD, atD_snoc, upd_old hi])]
      simp [encD, atD_snoc, upd_new]
    rw [e1, List.length_append, List.length_singleton]
    exact h3
  · rw [List.length_append, List.length_singleton] at hi
    by_cases e1 : i < ds.length
    · obtain ⟨A', C', h4⟩ := h2 i e1
      rw [atD_snoc, upd_old e1, upd_old e1]
      exact ⟨A', C', h4.eff e (by decide) (by decide) (by decide)⟩
    · obtain rfl : i = ds.length := by omega
      rw [atD_snoc, upd_new, upd_new]
      exact ⟨A, C, hT.eff e (by decide) (by decide) (by decide)⟩
end Go.Proofs.YtnpfgamlncfikaaGreatDoor

/-
  Rows of texts: one that reads, one of the call's own.
-/
namespace Go.Proofs.YtnpfgamlncfikaaGreatDoor
open Go.RowKit
set_option maxRecDepth 4000

/-- The slice value '.slice ao n cap' reads as n texts. -/
structure SView (w : World) (ao : Option Addr) (n cap : Nat) (f : Nat → ByteArray) : Prop where
  le : n ≤ cap
  cells : 0 < n → ∃ b off, ao = some ⟨b, off, none⟩ ∧ b < w.heap.size ∧ ∀ i, i < n → w.cell? ⟨b, off + i, none⟩ = some (.string (f i))
theorem SView.below {w w' : World} {ao : Option Addr} {n cap : Nat} {f : Nat → ByteArray} (h : SView w ao n cap f) (hb : Below w.heap.size w w') : SView w' ao n cap f := by
  refine ⟨h.le, fun hn => ?_⟩
  obtain ⟨b, off, e, hlt, hc⟩ := h.cells hn
  refine ⟨b, off, e, Nat.lt_of_lt_of_le hlt hb.size, fun i hi => ?_⟩
  rw [hb.cell (p := ⟨b, off + i, none⟩) hlt]
  exact hc i hi
def encS (f : Nat → ByteArray) (i : Nat) : List Value := [.string (f i)]
theorem sview_of_own {w : World} {base N : Nat} {v : Value} {f : Nat → ByteArray} (h : w.ownsRow base 9 1 v N (rowG (encS f) N)) : ∃ a k, v = .slice a N k ∧ SView w a N k f ∧ (0 < N → ∃ g, a = some ⟨g, 0, none⟩ ∧ base ≤ g ∧ v.ownBlock = some g) := by
  obtain ⟨a, k, e, hk, h1⟩ := own_cells (c := 1) (fun _ => rfl) h
  refine ⟨a, k, e, ⟨hk, fun hn => ?_⟩, fun hn => ?_⟩
  · obtain ⟨g, ea, -, -, hg, hc⟩ := h1 hn
    exact ⟨g, 0, ea, hg, fun i hi => by simpa using hc i 0 _ hi rfl⟩
  · obtain ⟨g, ea, hb, ho, -⟩ := h1 hn
    exact ⟨g, ea, hb, ho⟩
theorem infoStr : ∃ i, Tryz.prog.info? 9 = some i ∧ i.zero = some (.string ⟨#[]⟩) ∧ i.size = 1 ∧ i.bytes = 16 := by
  have h : (Tryz.prog.info? 9).map (fun i => (i.zero, i.size, i.bytes)) = some (some (.string ⟨#[]⟩), 1, 16) := by kernel_rfl
  obtain ⟨i, hi, hz⟩ := Option.map_eq_some_iff.1 h
  simp only [Prod.mk.injEq] at hz
  exact ⟨i, hi, hz.1, hz.2.1, hz.2.2⟩
/-- A row of the call's own stays while nothing of what lay is turned. -/
theorem own_belowG {W W' : World} {base T c N : Nat} {v : Value} {xs : List Value} (h : W.ownsRow base T c v N xs) (hb : Below W.heap.size W W') : W'.ownsRow base T c v N xs := by
  refine ⟨h.1, ?_⟩
  rcases h.2 with ⟨e, h0⟩ | ⟨g, k, cur, e, hb0, hg, hr⟩
  · exact .inl ⟨e, h0⟩
  · exact .inr ⟨g, k, cur, e, hb0, (hb.block g (Array.getElem?_eq_some_iff.1 hg).1).trans hg, hr⟩
theorem own_base {W : World} {base base' T c N : Nat} {v : Value} {xs : List Value} (h : W.ownsRow base T c v N xs) (hb : base' ≤ base) : W.ownsRow base' T c v N xs := by
  refine ⟨h.1, ?_⟩
  rcases h.2 with ⟨e, h0⟩ | ⟨g, k, cur, e, hb0, hr⟩
  · exact .inl ⟨e, h0⟩
  · exact .inr ⟨g, k, cur, e, Nat.le_trans hb hb0, hr⟩
end Go.Proofs.YtnpfgamlncfikaaGreatDoor

/-
  The program's colNames, indexNames: the names, in a row of their own.
-/
namespace Go.Proofs.YtnpfgamlncfikaaGreatDoor
open Go.RowKit
set_option maxRecDepth 4000

theorem own_succ9 {W : World} {base T c k : Nat} {v : Value} {xs : List Value} (h : W.ownsRow base T c v (k + 1) xs) : ∃ g cap, v = .slice (some ⟨g, 0, none⟩) (k + 1) cap := by
  rcases h.2 with ⟨_, h0⟩ | ⟨g, cap, cur, e, _⟩
  · omega
  · exact ⟨g, cap, e⟩
theorem own_ge9 {W : World} {base T c N : Nat} {v : Value} {xs : List Value} (h : W.ownsRow base T c v N xs) : ∀ j, v.ownBlock = some j → base ≤ j := by
  intro j hj
  rcases h.2 with ⟨rfl, _⟩ | ⟨g, cap, cur, rfl, hb, _⟩
  · simp [Value.ownBlock] at hj
  · obtain rfl : g = j := by simpa [Value.ownBlock] using hj
    exact hb

set_option maxHeartbeats 2000000 in
theorem colNames_any (v : Value) (D : PDef) (w : World) (h : DView w v D) (hf : DFine D) :
    Calls Tryz.prog 106 #[v] w fun e w' => ∃ g c, e = .returned (.slice (some ⟨g, 0, none⟩) D.nc c) ∧ w'.ownsRow w.heap.size 9 1 (.slice (some ⟨g, 0, none⟩) D.nc c) D.nc (rowG (encS (fun i => (D.col i).name)) D.nc) ∧ Below w.heap.size w w' := by
  obtain ⟨i0, hi, hz0, hz1, hz2⟩ := infoStr
  have hnc := hf.nc
  clear hf
  obtain ⟨ac, cc, ap, cp, ai, ci, rfl, hcv, hpv, hiv⟩ := h.is
  clear h
  have hbA : Below w.heap.size w (w.alloc (.cells #[.string D.name, .slice ac D.nc cc, .slice ap D.np cp, .slice ai D.ni ci] 35)) := (Below.refl _ _).alloc (Nat.le_refl _) _
  have hbE : Below w.heap.size w ((w.alloc (.cells #[.string D.name, .slice ac D.nc cc, .slice ap D.np cp, .slice ai D.ni ci] 35)).alloc (.cells #[] 9)) := hbA.alloc (by simp) _
  have hO0 : ((w.alloc (.cells #[.string D.name, .slice ac D.nc cc, .slice ap D.np cp, .slice ai D.ni ci] 35)).alloc (.cells #[] 9)).ownsRow w.heap.size 9 1 (.slice (some ⟨w.heap.size + 1, 0, none⟩) 0 0) 0 (rowG (encS (fun i => (D.col i).name)) 0) := by
    have := World.ownsRow_lit (base := w.heap.size) (e := 9) (size := 1) (w.alloc (.cells #[.string D.name, .slice ac D.nc cc, .slice ap D.np cp, .slice ai D.ni ci] 35)) #[] 0 (by simp) (Nat.zero_le _) rfl
    simpa [rowG] using this
  have HV : Hid (CView w ac D.nc cc D.col) := hcv
  go_enter Tryz.func106, Tryz.ntmps106
  go_wp2
  go_loopg [10, 3] D.nc (fun q i s wr => ∃ k : Nat, k ≤ D.nc ∧ q = D.nc - k ∧ i = .int .i64 k ∧ (∃ g c, s = .slice (some ⟨g, 0, none⟩) k c) ∧ wr.ownsRow w.heap.size 9 1 s k (rowG (encS (fun i => (D.col i).name)) k) ∧ Below w.heap.size w wr)
  case atStart => exact ⟨0, Nat.zero_le _, rfl, rfl, ⟨_, _, rfl⟩, hO0, hbE⟩
  case round =>
    clear hO0 hbE hbA hcv hpv hiv
    obtain ⟨k, hk, rfl, rfl, ⟨sa, sc, rfl⟩, hO, hB⟩ := hrel
    by_cases hlt : k < D.nc
    · have hkz : (k : Int) < (D.nc : Int) := by omega
      obtain ⟨b1, o1, rfl, hb1, hcs⟩ := (HV.out.below hB).cells (by omega)
      obtain ⟨x0, x1, x2⟩ := hcs k hlt
      have hsz := hB.size
      have HN : Hid (rowG (encS (fun i => (D.col i).name)) (k + 1) = rowG (encS (fun i => (D.col i).name)) k ++ [.string (D.col k).name]) := rfl
      have HB : Hid (Below w.heap.size w wr) := hB
      obtain ⟨s0, hs0⟩ : ∃ x, Hid ((D.col k).name = x) := ⟨_, rfl⟩
      obtain ⟨R, hR⟩ : ∃ x, Hid (rowG (encS (fun i => (D.col i).name)) k = x) := ⟨_, rfl⟩
      rw [hs0.out] at x0 HN
      rw [hR.out] at HN hO
      obtain ⟨s1, hs1⟩ : ∃ x, Hid ((D.col k).type = x) := ⟨_, rfl⟩
      obtain ⟨s2, hs2⟩ : ∃ x, Hid ((D.col k).null = x) := ⟨_, rfl⟩
      rw [hs1.out] at x1
      rw [hs2.out] at x2
      clear hcs HV hB
      have hb2 : Below wr.heap.size wr ((wr.alloc (.cells #[.string s0, .int .i64 s1, .bool s2] 67)).alloc (.cells #[.string s0] 9)) := ((Below.refl _ _).alloc (Nat.le_refl _) _).alloc (by simp) _
      have hO2 := own_belowG hO hb2
      have hcl : ∀ j u, [Value.string s0][j]? = some u → ((wr.alloc (.cells #[.string s0, .int .i64 s1, .bool s2] 67)).alloc (.cells #[.string s0] 9)).cell? ((⟨wr.heap.size + 1, 0, none⟩ : Addr).add j) = some u := by
        intro j u hj
        match j, hj with
        | 0, hj => simp at hj; subst hj; simp [Addr.add]
      have HBB : Hid (Below wr.heap.size wr ((wr.alloc (.cells #[.string s0, .int .i64 s1, .bool s2] 67)).alloc (.cells #[.string s0] 9))) := hb2
      have HOW := own_ge9 hO
      go_wp2_with (at_builtin; refine wpList_append_own _ rfl (.tmp 14) (.tmp 17) 61 rfl w.heap.size 9 i0 (.string ⟨#[]⟩) 1 16 Tryz.underlying61 hi hz0 hz1 hz2 rfl (by decide) _ _ _ rfl hO2 ⟨wr.heap.size + 1, 0, none⟩ 1 1 [.string s0] rfl rfl hcl (by intro u hu; simp at hu; subst hu; rfl) (by unfold maxLen; omega) (by omega) (by simp; omega) ?_)
      intro v5 w2 hown5 hgr hnil
      obtain ⟨g', cap', rfl⟩ := own_succ9 hown5
      have HR : Hid (w2.ownsRow w.heap.size 9 1 (.slice (some ⟨g', 0, none⟩) (k + 1) cap') (k + 1) (rowG (encS (fun i => (D.col i).name)) (k + 1)) ∧ Below w.heap.size w w2) := by
        refine ⟨?_, ?_⟩
        · rw [HN.out]; exact hown5
        · exact (HB.out.trans (HBB.out.mono hsz)).grown hgr (by simp; omega) HOW
      clear hown5 hgr hnil hO hO2 hcl HOW hb2
      go_wp2
      go_roundg (D.nc - (k + 1))
      case measure => omega
      case rel => exact ⟨k + 1, by omega, rfl, by go_num, ⟨_, _, rfl⟩, HR.out.1, HR.out.2⟩
    · have hkz : ¬ (k : Int) < (D.nc : Int) := by omega
      obtain rfl : k = D.nc := by omega
      have HR : Hid (wr.ownsRow w.heap.size 9 1 (.slice (some ⟨sa, 0, none⟩) D.nc sc) D.nc (rowG (encS (fun i => (D.col i).name)) D.nc) ∧ Below w.heap.size w wr) := ⟨hO, hB⟩
      clear hO hB
      go_wp2
      go_ret
      exact ⟨_, _, rfl, HR.out.1, HR.out.2⟩

set_option maxHeartbeats 2000000 in
theorem indexNames_any (v : Value) (D : PDef) (w : World) (h : DView w v D) (hf : DFine D) :
    Calls Tryz.prog 107 #[v] w fun e w' => ∃ g c, e = .returned (.slice (some ⟨g, 0, none⟩) D.ni c) ∧ w'.ownsRow w.heap.size 9 1 (.slice (some ⟨g, 0, none⟩) D.ni c) D.ni (rowG (encS (fun i => (D.idx i).name)) D.ni) ∧ Below w.heap.size w w' := by
  obtain ⟨i0, hi, hz0, hz1, hz2⟩ := infoStr
  have hnc := hf.ni
  clear hf
  obtain ⟨ac, cc, ap, cp, ai, ci, rfl, hcv, hpv, hiv⟩ := h.is
  clear h
  have hbA : Below w.heap.size w (w.alloc (.cells #[.string D.name, .slice ac D.nc cc, .slice ap D.np cp, .slice ai D.ni ci] 35)) := (Below.refl _ _).alloc (Nat.le_refl _) _
  have hbE : Below w.heap.size w ((w.alloc (.cells #[.string D.name, .slice ac D.nc cc, .slice ap D.np cp, .slice ai D.ni ci] 35)).alloc (.cells #[] 9)) := hbA.alloc (by simp) _
  have hO0 : ((w.alloc (.cells #[.string D.name, .slice ac D.nc cc, .slice ap D.np cp, .slice ai D.ni ci] 35)).alloc (.cells #[] 9)).ownsRow w.heap.size 9 1 (.slice (some ⟨w.heap.size + 1, 0, none⟩) 0 0) 0 (rowG (encS (fun i => (D.idx i).name)) 0) := by
    have := World.ownsRow_lit (base := w.heap.size) (e := 9) (size := 1) (w.alloc (.cells #[.string D.name, .slice ac D.nc cc, .slice ap D.np cp, .slice ai D.ni ci] 35)) #[] 0 (by simp) (Nat.zero_le _) rfl
    simpa [rowG] using this
  have HV : Hid (IView w ai D.ni ci D.idx) := hiv
  go_enter Tryz.func107, Tryz.ntmps107
  go_wp2
  go_loopg [10, 3] D.ni (fun q i s wr => ∃ k : Nat, k ≤ D.ni ∧ q = D.ni - k ∧ i = .int .i64 k ∧ (∃ g c, s = .slice (some ⟨g, 0, none⟩) k c) ∧ wr.ownsRow w.heap.size 9 1 s k (rowG (encS (fun i => (D.idx i).name)) k) ∧ Below w.heap.size w wr)
  case atStart => exact ⟨0, Nat.zero_le _, rfl, rfl, ⟨_, _, rfl⟩, hO0, hbE⟩
  case round =>
    clear hO0 hbE hbA hcv hpv hiv
    obtain ⟨k, hk, rfl, rfl, ⟨sa, sc, rfl⟩, hO, hB⟩ := hrel
    by_cases hlt : k < D.ni
    · have hkz : (k : Int) < (D.ni : Int) := by omega
      obtain ⟨b1, o1, rfl, hb1, hcs⟩ := (HV.out.below hB).cells (by omega)
      obtain ⟨x0, x1, ap3, cp3, x2, -⟩ := hcs k hlt
      have hsz := hB.size
      have HN : Hid (rowG (encS (fun i => (D.idx i).name)) (k + 1) = rowG (encS (fun i => (D.idx i).name)) k ++ [.string (D.idx k).name]) := rfl
      have HB : Hid (Below w.heap.size w wr) := hB
      obtain ⟨s0, hs0⟩ : ∃ x, Hid ((D.idx k).name = x) := ⟨_, rfl⟩
      obtain ⟨R, hR⟩ : ∃ x, Hid (rowG (encS (fun i => (D.idx i).name)) k = x) := ⟨_, rfl⟩
      rw [hs0.out] at x0 HN
      rw [hR.out] at HN hO
      obtain ⟨s1, hs1⟩ : ∃ x, Hid ((D.idx k).uniq = x) := ⟨_, rfl⟩
      obtain ⟨s2, hs2⟩ : ∃ x, Hid ((D.idx k).n = x) := ⟨_, rfl⟩
      rw [hs1.out] at x1
      rw [hs2.out] at x2
      clear hcs HV hB
      have hb2 : Below wr.heap.size wr ((wr.alloc (.cells #[.string s0, .bool s1, .slice ap3 s2 cp3] 73)).alloc (.cells #[.string s0] 9)) := ((Below.refl _ _).alloc (Nat.le_refl _) _).alloc (by simp) _
      have hO2 := own_belowG hO hb2
      have hcl : ∀ j u, [Value.string s0][j]? = some u → ((wr.alloc (.cells #[.string s0, .bool s1, .slice ap3 s2 cp3] 73)).alloc (.cells #[.string s0] 9)).cell? ((⟨wr.heap.size + 1, 0, none⟩ : Addr).add j) = some u := by
        intro j u hj
        match j, hj with
        | 0, hj => simp at hj; subst hj; simp [Addr.add]
      have HBB : Hid (Below wr.heap.size wr ((wr.alloc (.cells #[.string s0, .bool s1, .slice ap3 s2 cp3] 73)).alloc (.cells #[.string s0] 9))) := hb2
      have HOW := own_ge9 hO
      go_wp2_with (at_builtin; refine wpList_append_own _ rfl (.tmp 14) (.tmp 17) 61 rfl w.heap.size 9 i0 (.string ⟨#[]⟩) 1 16 Tryz.underlying61 hi hz0 hz1 hz2 rfl (by decide) _ _ _ rfl hO2 ⟨wr.heap.size + 1, 0, none⟩ 1 1 [.string s0] rfl rfl hcl (by intro u hu; simp at hu; subst hu; rfl) (by unfold maxLen; omega) (by omega) (by simp; omega) ?_)
      intro v5 w2 hown5 hgr hnil
      obtain ⟨g', cap', rfl⟩ := own_succ9 hown5
      have HR : Hid (w2.ownsRow w.heap.size 9 1 (.slice (some ⟨g', 0, none⟩) (k + 1) cap') (k + 1) (rowG (encS (fun i => (D.idx i).name)) (k + 1)) ∧ Below w.heap.size w w2) := by
        refine ⟨?_, ?_⟩
        · rw [HN.out]; exact hown5
        · exact (HB.out.trans (HBB.out.mono hsz)).grown hgr (by simp; omega) HOW
      clear hown5 hgr hnil hO hO2 hcl HOW hb2
      go_wp2
      go_roundg (D.ni - (k + 1))
      case measure => omega
      case rel => exact ⟨k + 1, by omega, rfl, by go_num, ⟨_, _, rfl⟩, HR.out.1, HR.out.2⟩
    · have hkz : ¬ (k : Int) < (D.ni : Int) := by omega
      obtain rfl : k = D.ni := by omega
      have HR : Hid (wr.ownsRow w.heap.size 9 1 (.slice (some ⟨sa, 0, none⟩) D.ni sc) D.ni (rowG (encS (fun i => (D.idx i).name)) D.ni) ∧ Below w.heap.size w wr) := ⟨hO, hB⟩
      clear hO hB
      go_wp2
      go_ret
      exact ⟨_, _, rfl, HR.out.1, HR.out.2⟩
end Go.Proofs.YtnpfgamlncfikaaGreatDoor

