/-
  Together: DiskOwn, SettlePlain, LosePlain, LosePlainS, EqBytes, Mark, DiskMark, Slices
-/
import Derived.Test.YtdhfbblameiloaaFF1
/-
  Disks of the call's own: rows that may be written, byte rows that lie apart.
-/
namespace Go.Proofs.Ytdhfbblameiloaa
open Go.RowKit
set_option maxRecDepth 4000

theorem flat_get {α β : Type} (f : α → List β) (c : Nat) (hf : ∀ x, (f x).length = c) : ∀ (l : List α) (i j : Nat), j < c → (l.flatMap f)[i * c + j]? = (l[i]?).bind (fun x => (f x)[j]?)
  | [], i, j, _ => by simp
  | x :: l, 0, j, hj => by
    rw [List.flatMap_cons, Nat.zero_mul, Nat.zero_add, List.getElem?_append_left (by rw [hf]; exact hj)]
    simp
  | x :: l, i + 1, j, hj => by
    rw [List.flatMap_cons, List.getElem?_append_right (by rw [hf, Nat.add_mul]; omega), hf]
    have e : (i + 1) * c + j - c = i * c + j := by rw [Nat.add_mul]; omega
    rw [e, flat_get f c hf l i j hj]
    simp
theorem flat_len {α β : Type} (f : α → List β) (c : Nat) (hf : ∀ x, (f x).length = c) : ∀ (l : List α), (l.flatMap f).length = l.length * c
  | [] => by simp
  | x :: l => by rw [List.flatMap_cons, List.length_append, hf, flat_len f c hf l, List.length_cons, Nat.add_mul]; omega
/-- The cells of writes, whose bytes are these slices; of faults. -/
def wEl (p : Int × Value) : List Value := [.int .i64 p.1, p.2]
def fEl (x : PFault) : List Value := [.int .i64 x.pos, .int .i64 x.keep, .int .i64 x.cut]
def wcells (l : List (Int × List Int)) (cs : List Value) : List Value := ((l.map (·.1)).zip cs).flatMap wEl
def fcells (l : List PFault) : List Value := l.flatMap fEl
theorem zip_get {l : List (Int × List Int)} {cs : List Value} {i : Nat} {x : Int × List Int} {v : Value} (h1 : l[i]? = some x) (h2 : cs[i]? = some v) : ((l.map (·.1)).zip cs)[i]? = some (x.1, v) := by
  simp [List.getElem?_zip_eq_some, h1, h2]
theorem wcells_get {l : List (Int × List Int)} {cs : List Value} {i : Nat} {x : Int × List Int} {v : Value} (h1 : l[i]? = some x) (h2 : cs[i]? = some v) : (wcells l cs)[i * 2]? = some (.int .i64 x.1) ∧ (wcells l cs)[i * 2 + 1]? = some v := by
  have e := zip_get h1 h2
  have g0 := flat_get wEl 2 (fun _ => rfl) ((l.map (·.1)).zip cs) i 0 (by decide)
  have g1 := flat_get wEl 2 (fun _ => rfl) ((l.map (·.1)).zip cs) i 1 (by decide)
  rw [e] at g0 g1
  exact ⟨g0, g1⟩
theorem fcells_get {l : List PFault} {i j : Nat} {x : PFault} (h1 : l[i]? = some x) (hj : j < 3) : (fcells l)[i * 3 + j]? = (fEl x)[j]? := by
  have g0 := flat_get fEl 3 (fun _ => rfl) l i j hj
  rw [h1] at g0
  exact g0

/-- Bytes of the call's own. -/
structure OB (w : World) (B : Nat) (v : Value) (l : List Int) : Prop where
  is : ∃ a c, v = .slice a l.length c ∧ l.length ≤ c ∧ (a = none → c = 0) ∧ (∀ x ∈ l, 0 ≤ x ∧ x ≤ 255) ∧ (l = [] ∨ ∃ g, a = some ⟨g, 0, none⟩ ∧ B ≤ g ∧ Row 5 w g l.length (bf l))
/-- Two slices do not share a block. -/
def Apt (u v : Value) : Prop := ∀ g, u.ownBlock = some g → v.ownBlock = some g → False
/-- Byte rows of the call's own, each by itself. -/
structure Bs (w : World) (B : Nat) (vs : List Value) (ls : List (List Int)) : Prop where
  len : vs.length = ls.length
  ob : ∀ (i : Nat) v l, vs[i]? = some v → ls[i]? = some l → OB w B v l
  lt : ∀ v, v ∈ vs → ∀ g, v.ownBlock = some g → B ≤ g ∧ g < w.heap.size
  apt : vs.Pairwise Apt
/-- A row of the call's own with (at least) these cells. -/
def RL (T : TypeId) (w : World) (B : Nat) (a : Option Addr) (xs : List Value) : Prop := xs = [] ∨ ∃ g cur, a = some ⟨g, 0, none⟩ ∧ B ≤ g ∧ w.heap[g]? = some (.cells cur T (0, 0)) ∧ ∀ (i : Nat) u, xs[i]? = some u → cur[i]? = some u
/-- A disk of the call's own. -/
structure KO (w : World) (B : Nat) (sa : Option Addr) (sc : Nat) (ca : Option Addr) (cc : Nat) (fa : Option Addr) (fc : Nat) (ss cs : List Value) (D : PDisk) : Prop where
  sle : D.secs.length ≤ sc
  snil : sa = none → sc = 0
  cle : D.cache.length ≤ cc
  cnil : ca = none → cc = 0
  fle : D.faults.length ≤ fc
  fnil : fa = none → fc = 0
  ns : ss.length = D.secs.length
  nc : cs.length = D.cache.length
  secs : RL 27 w B sa ss
  cache : RL 51 w B ca (wcells D.cache cs)
  faults : RL 79 w B fa (fcells D.faults)
  bytes : Bs w B (ss ++ cs) (D.secs ++ D.cache.map (·.2))
def dval (D : PDisk) (sa : Option Addr) (sc : Nat) (ca : Option Addr) (cc : Nat) (fa : Option Addr) (fc : Nat) : Value := .agg #[.slice sa D.secs.length sc, .slice ca D.cache.length cc, .int .i64 D.ops, .slice fa D.faults.length fc, .bool D.down]
def KOwn (w : World) (B : Nat) (v : Value) (D : PDisk) : Prop := ∃ sa sc ca cc fa fc ss cs, v = dval D sa sc ca cc fa fc ∧ KO w B sa sc ca cc fa fc ss cs D

/-- What was there from B on is there. -/
def Up (B : Nat) (w w' : World) : Prop := w.heap.size ≤ w'.heap.size ∧ ∀ k, B ≤ k → k < w.heap.size → w'.heap[k]? = w.heap[k]?
theorem Up.ofBelow {B : Nat} {w w' : World} (h : Below w.heap.size w w') : Up B w w' := ⟨h.size, fun k _ hk => h.block k hk⟩
theorem OB.up {w w' : World} {B : Nat} {v : Value} {l : List Int} (h : OB w B v l) (hu : Up B w w') : OB w' B v l := by
  obtain ⟨a, c, e, h1, h2, h3, h4⟩ := h.is
  refine ⟨a, c, e, h1, h2, h3, ?_⟩
  rcases h4 with h4 | ⟨g, ea, hb, hr⟩
  · exact .inl h4
  · exact .inr ⟨g, ea, hb, hr.of_block (hu.2 g hb hr.lt)⟩
theorem RL.up {T : TypeId} {w w' : World} {B : Nat} {a : Option Addr} {xs : List Value} (h : RL T w B a xs) (hu : Up B w w') : RL T w' B a xs := by
  rcases h with h | ⟨g, cur, ea, hb, hg, hc⟩
  · exact .inl h
  · exact .inr ⟨g, cur, ea, hb, (hu.2 g hb (Array.getElem?_eq_some_iff.1 hg).1).trans hg, hc⟩
theorem Bs.up {w w' : World} {B : Nat} {vs : List Value} {ls : List (List Int)} (h : Bs w B vs ls) (hu : Up B w w') : Bs w' B vs ls :=
  ⟨h.len, fun i v l h1 h2 => (h.ob i v l h1 h2).up hu, fun v hv g hg => ⟨(h.lt v hv g hg).1, Nat.lt_of_lt_of_le (h.lt v hv g hg).2 hu.1⟩, h.apt⟩
theorem KO.up {w w' : World} {B : Nat} {sa : Option Addr} {sc : Nat} {ca : Option Addr} {cc : Nat} {fa : Option Addr} {fc : Nat} {ss cs : List Value} {D : PDisk} (h : KO w B sa sc ca cc fa fc ss cs D) (hu : Up B w w') : KO w' B sa sc ca cc fa fc ss cs D :=
  ⟨h.sle, h.snil, h.cle, h.cnil, h.fle, h.fnil, h.ns, h.nc, h.secs.up hu, h.cache.up hu, h.faults.up hu, h.bytes.up hu⟩
theorem KOwn.up {w w' : World} {B : Nat} {v : Value} {D : PDisk} (h : KOwn w B v D) (hu : Up B w w') : KOwn w' B v D := by
  obtain ⟨sa, sc, ca, cc, fa, fc, ss, cs, e, hk⟩ := h
  exact ⟨sa, sc, ca, cc, fa, fc, ss, cs, e, hk.up hu⟩
theorem KOwn.below {w w' : World} {B : Nat} {v : Value} {D : PDisk} (h : KOwn w B v D) (hb : Below w.heap.size w w') : KOwn w' B v D := h.up (Up.ofBelow hb)
theorem OB.mono {w : World} {B B' : Nat} {v : Value} {l : List Int} (h : OB w B v l) (hB : B' ≤ B) : OB w B' v l := by
  obtain ⟨a, c, e, h1, h2, h3, h4⟩ := h.is
  refine ⟨a, c, e, h1, h2, h3, ?_⟩
  rcases h4 with h4 | ⟨g, ea, hb, hr⟩
  · exact .inl h4
  · exact .inr ⟨g, ea, by omega, hr⟩
theorem RL.mono {T : TypeId} {w : World} {B B' : Nat} {a : Option Addr} {xs : List Value} (h : RL T w B a xs) (hB : B' ≤ B) : RL T w B' a xs := by
  rcases h with h | ⟨g, cur, ea, hb, hg, hc⟩
  · exact .inl h
  · exact .inr ⟨g, cur, ea, by omega, hg, hc⟩
theorem Bs.mono {w : World} {B B' : Nat} {vs : List Value} {ls : List (List Int)} (h : Bs w B vs ls) (hB : B' ≤ B) : Bs w B' vs ls := ⟨h.len, fun i v l h1 h2 => (h.ob i v l h1 h2).mono hB, fun v hv g hg => ⟨Nat.le_trans hB (h.lt v hv g hg).1, (h.lt v hv g hg).2⟩, h.apt⟩

theorem OB.lv {w : World} {B : Nat} {v : Value} {l : List Int} (h : OB w B v l) : LV w v l := by
  obtain ⟨a, c, e, h1, h2, h3, h4⟩ := h.is
  refine ⟨a, c, e, ⟨h1, fun i hi => ?_, fun hn => ?_⟩, h2⟩
  · have : bf l i = l[i] := by simp [bf, hi]
    rw [this]
    exact h3 _ (List.getElem_mem hi)
  · rcases h4 with h4 | ⟨g, ea, hb, hr⟩
    · subst h4; simp at hn
    · exact ⟨g, 0, ea, hr.lt, fun i hi => by rw [Nat.zero_add]; exact hr.cell hi⟩
theorem RL.cell {T : TypeId} {w : World} {B : Nat} {a : Option Addr} {xs : List Value} (h : RL T w B a xs) (hn : 0 < xs.length) : ∃ g, a = some ⟨g, 0, none⟩ ∧ B ≤ g ∧ g < w.heap.size ∧ ∀ (i : Nat) u, xs[i]? = some u → w.cell? ⟨g, i, none⟩ = some u := by
  rcases h with h | ⟨g, cur, ea, hb, hg, hc⟩
  · subst h; simp at hn
  · exact ⟨g, ea, hb, (Array.getElem?_eq_some_iff.1 hg).1, fun i u hi => by simp [World.cell?, hg, hc i u hi]⟩
theorem KO.view {w : World} {B : Nat} {sa : Option Addr} {sc : Nat} {ca : Option Addr} {cc : Nat} {fa : Option Addr} {fc : Nat} {ss cs : List Value} {D : PDisk} (h : KO w B sa sc ca cc fa fc ss cs D) : SView w sa sc D.secs ∧ WView w ca cc D.cache ∧ FView w fa fc D.faults := by
  refine ⟨⟨h.sle, h.snil, fun hn => ?_⟩, ⟨h.cle, h.cnil, fun hn => ?_⟩, ⟨h.fle, h.fnil, fun hn => ?_⟩⟩
  · obtain ⟨g, ea, -, hlt, hc⟩ := h.secs.cell (by rw [h.ns]; exact hn)
    refine ⟨g, 0, ea, hlt, fun i x hi => ?_⟩
    have hi' : i < ss.length := by rw [h.ns]; exact (List.getElem?_eq_some_iff.1 hi).1
    have hv := List.getElem?_eq_getElem hi'
    refine ⟨[ss[i]], ⟨ss[i], rfl, (h.bytes.ob i _ x ?_ ?_).lv⟩, fun j u hj => ?_⟩
    · rw [List.getElem?_append_left hi']; exact hv
    · rw [List.getElem?_append_left (by rw [← h.ns]; exact hi')]; exact hi
    · match j, hj with
      | 0, hj => cases hj; simpa using hc i _ hv
  · have hl : (wcells D.cache cs).length = D.cache.length * 2 := by
      unfold wcells
      rw [flat_len wEl 2 (fun _ => rfl), List.length_zip, List.length_map, h.nc, Nat.min_self]
    obtain ⟨g, ea, -, hlt, hc⟩ := h.cache.cell (by omega)
    refine ⟨g, 0, ea, hlt, fun i x hi => ?_⟩
    have hi1 := (List.getElem?_eq_some_iff.1 hi).1
    have hi' : i < cs.length := by rw [h.nc]; exact hi1
    have hv := List.getElem?_eq_getElem hi'
    obtain ⟨g0, g1⟩ := wcells_get hi hv
    refine ⟨[.int .i64 x.1, cs[i]], ⟨cs[i], rfl, (h.bytes.ob (ss.length + i) _ x.2 ?_ ?_).lv⟩, fun j u hj => ?_⟩
    · rw [List.getElem?_append_right (by omega), Nat.add_sub_cancel_left]; exact hv
    · rw [h.ns, List.getElem?_append_right (by omega), Nat.add_sub_cancel_left]; simp [hi]
    · match j, hj with
      | 0, hj => cases hj; simpa using hc _ _ g0
      | 1, hj => cases hj; simpa using hc _ _ g1
  · have hl : (fcells D.faults).length = D.faults.length * 3 := flat_len fEl 3 (fun _ => rfl) _
    obtain ⟨g, ea, -, hlt, hc⟩ := h.faults.cell (by omega)
    refine ⟨g, 0, ea, hlt, fun i x hi => ⟨fEl x, rfl, fun j u hj => ?_⟩⟩
    have hj3 : j < 3 := (List.getElem?_eq_some_iff.1 hj).1
    have g0 := fcells_get hi hj3
    rw [hj] at g0
    simpa using hc _ _ g0
theorem KOwn.view {w : World} {B : Nat} {v : Value} {D : PDisk} (h : KOwn w B v D) : KView w v D := by
  obtain ⟨sa, sc, ca, cc, fa, fc, ss, cs, e, hk⟩ := h
  obtain ⟨h1, h2, h3⟩ := hk.view
  exact ⟨sa, sc, ca, cc, fa, fc, e, h1, h2, h3⟩

/-- One more byte row, a new one. -/
theorem Bs.push {w : World} {B : Nat} {vs : List Value} {ls : List (List Int)} (h : Bs w B vs ls) {v : Value} {l : List Int} (hb : OB w B v l) (hv : ∀ g, v.ownBlock = some g → (B ≤ g ∧ g < w.heap.size) ∧ ∀ u ∈ vs, u.ownBlock ≠ some g) : Bs w B (vs ++ [v]) (ls ++ [l]) := by
  refine ⟨by simp [h.len], fun i u x h1 h2 => ?_, fun u hu g hg => ?_, ?_⟩
  · by_cases hi : i < vs.length
    · rw [List.getElem?_append_left hi] at h1
      rw [List.getElem?_append_left (by rw [← h.len]; exact hi)] at h2
      exact h.ob i u x h1 h2
    · rw [List.getElem?_append_right (by omega)] at h1
      rw [List.getElem?_append_right (by rw [← h.len]; omega)] at h2
      have e0 : i - vs.length = 0 := by
        have := (List.getElem?_eq_some_iff.1 h1).1
        simp at this; omega
      rw [← h.len] at h2
      rw [e0] at h1 h2
      simp at h1 h2
      subst h1 h2
      exact hb
  · rcases List.mem_append.1 hu with hu | hu
    · exact h.lt u hu g hg
    · simp at hu; subst hu
      exact (hv g hg).1
  · rw [List.pairwise_append]
    refine ⟨h.apt, by simp, fun a ha b hb' => ?_⟩
    simp at hb'; subst hb'
    intro g h1 h2
    exact (hv g h2).2 a ha h1
theorem Bs.nil (w : World) (B : Nat) : Bs w B [] [] := ⟨rfl, fun i v l h => by simp at h, fun v hv => by simp at hv, List.Pairwise.nil⟩
/-- What came behind is new to what was there. -/
theorem Bs.newer {w : World} {B : Nat} {vs : List Value} {ls : List (List Int)} (h : Bs w B vs ls) {g : Nat} (hg : w.heap.size ≤ g) : ∀ u ∈ vs, u.ownBlock ≠ some g := by
  intro u hu e
  have := (h.lt u hu g e).2
  omega
/-- Rows, and rows that came behind them. -/
theorem Bs.app {w : World} {B B' : Nat} {vs us : List Value} {ls ms : List (List Int)} (h : Bs w B vs ls) (k : Bs w B' us ms) (hB : B ≤ B') (hlt : ∀ v, v ∈ vs → ∀ g, v.ownBlock = some g → g < B') : Bs w B (vs ++ us) (ls ++ ms) := by
  refine ⟨by simp [h.len, k.len], fun i u x h1 h2 => ?_, fun u hu g hg => ?_, ?_⟩
  · by_cases hi : i < vs.length
    · rw [List.getElem?_append_left hi] at h1
      rw [List.getElem?_append_left (by rw [← h.len]; exact hi)] at h2
      exact h.ob i u x h1 h2
    · rw [List.getElem?_append_right (by omega)] at h1
      rw [List.getElem?_append_right (by rw [← h.len]; omega), ← h.len] at h2
      exact (k.ob _ u x h1 h2).mono hB
  · rcases List.mem_append.1 hu with hu | hu
    · exact h.lt u hu g hg
    · have := k.lt u hu g hg
      exact ⟨by omega, this.2⟩
  · rw [List.pairwise_append]
    refine ⟨h.apt, k.apt, fun a ha b hb g h1 h2 => ?_⟩
    have h3 := hlt a ha g h1
    have h4 := (k.lt b hb g h2).1
    omega
/-- A cell of a block below is written. -/
theorem Up.set {B C i : Nat} {w : World} {u : Value} (h : C < B) : Up B w (w.setCell ⟨C, i, none⟩ u) := ⟨by simp, fun k hk _ => Below.heap_setCell _ _ _ _ (show k ≠ C by omega)⟩
theorem Up.refl (B : Nat) (w : World) : Up B w w := ⟨Nat.le_refl _, fun _ _ _ => rfl⟩
theorem Up.trans {B : Nat} {a b c : World} (h : Up B a b) (k : Up B b c) : Up B a c := ⟨Nat.le_trans h.1 k.1, fun i hi hl => (k.2 i hi (Nat.lt_of_lt_of_le hl h.1)).trans (h.2 i hi hl)⟩
theorem OB.ofIs {w : World} {B g : Nat} {l : List Int} (h : w.rowIs g 5 l.length (fun i => .int .u8 (bf l i))) (hB : B ≤ g) (hb : ∀ i, i < l.length → 0 ≤ bf l i ∧ bf l i ≤ 255) : OB w B (.slice (some ⟨g, 0, none⟩) l.length l.length) l := by
  refine ⟨_, _, rfl, Nat.le_refl _, (fun e => by cases e), fun x hx => ?_, .inr ⟨g, rfl, hB, Row.ofIs h⟩⟩
  obtain ⟨i, hi, rfl⟩ := List.getElem_of_mem hx
  have := hb i hi
  have e : bf l i = l[i] := by simp [bf, hi]
  rw [e] at this
  exact this

/-- A variable of several cells. -/
def VN (w : World) (B : Nat) (T : TypeId) (xs : List Value) : Prop := w.heap[B]? = some (.cells ⟨xs⟩ T (0, 0))
theorem VN.new (w : World) (T : TypeId) (xs : List Value) : VN (w.alloc (.cells ⟨xs⟩ T)) w.heap.size T xs := by unfold VN; show (w.heap.push _)[w.heap.size]? = _; simp
theorem VN.lt {w : World} {B : Nat} {T : TypeId} {xs : List Value} (h : VN w B T xs) : B < w.heap.size := (Array.getElem?_eq_some_iff.1 h).1
theorem VN.block {w w' : World} {B : Nat} {T : TypeId} {xs : List Value} (h : VN w B T xs) (e : w'.heap[B]? = w.heap[B]?) : VN w' B T xs := e.trans h
theorem VN.below {w w' : World} {B : Nat} {T : TypeId} {xs : List Value} (h : VN w B T xs) (hb : Below w.heap.size w w') : VN w' B T xs := h.block (hb.block B h.lt)
theorem VN.other {w : World} {B C i : Nat} {T : TypeId} {xs : List Value} {u : Value} (h : VN w B T xs) (hne : B ≠ C) : VN (w.setCell ⟨C, i, none⟩ u) B T xs := h.block (Below.heap_setCell _ _ _ _ hne)
theorem VN.cell {w : World} {B : Nat} {T : TypeId} {xs : List Value} (h : VN w B T xs) (i : Nat) : w.cell? ⟨B, i, none⟩ = xs[i]? := by
  unfold VN at h
  simp [World.cell?, h]
theorem VN.fz {w : World} {B : Nat} {T : TypeId} {xs : List Value} (h : VN w B T xs) (i : Nat) : w.frozen? ⟨B, i, none⟩ = false := by
  unfold VN at h
  simp [World.frozen?, h]
theorem VN.set {w : World} {B : Nat} {T : TypeId} {xs : List Value} (h : VN w B T xs) (i : Nat) (u : Value) : VN (w.setCell ⟨B, i, none⟩ u) B T (xs.set i u) := by
  unfold VN at h ⊢
  simp [World.setCell, Array.getElem?_modify, h]
end Go.Proofs.Ytdhfbblameiloaa

/-
  Writes that come into their sectors, plainly: what the sectors have, and whose rows they are.
-/
namespace Go.Proofs.Ytdhfbblameiloaa
open Go.RowKit
set_option maxRecDepth 4000

/-- Each write comes into its sector, in order. -/
def settleL {α : Type} (s : List α) : List (Int × α) → List α
  | [] => s
  | x :: l => settleL (s.set x.1.toNat x.2) l
theorem settleL_len {α : Type} : ∀ (l : List (Int × α)) (s : List α), (settleL s l).length = s.length
  | [], _ => rfl
  | x :: l, s => by rw [settleL, settleL_len l]; simp
theorem settleL_app {α : Type} : ∀ (l m : List (Int × α)) (s : List α), settleL s (l ++ m) = settleL (settleL s l) m
  | [], _, _ => rfl
  | x :: l, m, s => by rw [List.cons_append, settleL, settleL, settleL_app l m]
theorem settleL_one {α : Type} {l : List (Int × α)} {s : List α} {k : Nat} (h : k < l.length) : settleL s (l.take (k + 1)) = (settleL s (l.take k)).set (l[k]).1.toNat (l[k]).2 := by
  rw [List.take_add_one, List.getElem?_eq_getElem h]
  exact settleL_app _ _ _
/-- The sectors' slices are those of before, or of the writes: each of them once. -/
theorem settle_pairs {ss cs : List Value} {s c : List (List Int)} {ns : List Int} (hs : ss.length = s.length) (hc : cs.length = c.length) (hn : ns.length = cs.length) :
    ∀ (i : Nat) v l, (settleL ss (ns.zip cs))[i]? = some v → (settleL s (ns.zip c))[i]? = some l → ∃ j : Nat, (ss ++ cs)[j]? = some v ∧ (s ++ c)[j]? = some l := by
  suffices H : ∀ (m : List Int) (cs' : List Value) (c' : List (List Int)) (off : Nat) (ss' : List Value) (s' : List (List Int)), cs'.length = c'.length → m.length = cs'.length → ss'.length = s'.length →
      (∀ (j : Nat) v l, cs'[j]? = some v → c'[j]? = some l → (ss ++ cs)[off + j]? = some v ∧ (s ++ c)[off + j]? = some l) →
      (∀ (i : Nat) v l, ss'[i]? = some v → s'[i]? = some l → ∃ j : Nat, (ss ++ cs)[j]? = some v ∧ (s ++ c)[j]? = some l) →
      ∀ (i : Nat) v l, (settleL ss' (m.zip cs'))[i]? = some v → (settleL s' (m.zip c'))[i]? = some l → ∃ j : Nat, (ss ++ cs)[j]? = some v ∧ (s ++ c)[j]? = some l by
    refine H ns cs c ss.length ss s hc hn hs (fun j v l h1 h2 => ⟨?_, ?_⟩) (fun i v l h1 h2 => ⟨i, ?_, ?_⟩)
    · rw [List.getElem?_append_right (by omega), Nat.add_sub_cancel_left]; exact h1
    · rw [hs, List.getElem?_append_right (by omega), Nat.add_sub_cancel_left]; exact h2
    · rw [List.getElem?_append_left (List.getElem?_eq_some_iff.1 h1).1]; exact h1
    · rw [List.getElem?_append_left (List.getElem?_eq_some_iff.1 h2).1]; exact h2
  intro m
  induction m with
  | nil => intro cs' c' off ss' s' _ _ _ _ hp i v l h1 h2; exact hp i v l h1 h2
  | cons x m ih =>
    intro cs' c' off ss' s' hcc hm hss hq hp i v l h1 h2
    match cs', c', hcc, hm, hq, h1, h2 with
    | u :: cs', b :: c', hcc, hm, hq, h1, h2 =>
      refine ih cs' c' (off + 1) (ss'.set x.toNat u) (s'.set x.toNat b) (by simpa using hcc) (by simpa using hm) (by simpa using hss) (fun j v l g1 g2 => ?_) (fun i v l g1 g2 => ?_) i v l h1 h2
      · have := hq (j + 1) v l (by simpa using g1) (by simpa using g2)
        rw [show off + 1 + j = off + (j + 1) by omega]
        exact this
      · rw [List.getElem?_set] at g1 g2
        by_cases e : x.toNat = i
        · rw [if_pos e] at g1 g2
          by_cases hlt : x.toNat < ss'.length
          · rw [if_pos hlt] at g1
            rw [if_pos (by rw [← hss]; exact hlt)] at g2
            cases g1; cases g2
            exact ⟨off, by simpa using (hq 0 _ _ rfl rfl).1, by simpa using (hq 0 _ _ rfl rfl).2⟩
          · rw [if_neg hlt] at g1; cases g1
        · rw [if_neg e] at g1 g2
          exact hp i v l g1 g2
theorem Apt.symm {u v : Value} (h : Apt u v) : Apt v u := fun g h1 h2 => h g h2 h1
theorem apt_set {ss cs : List Value} {u : Value} (i : Nat) (h : (ss ++ u :: cs).Pairwise Apt) : (ss.set i u ++ cs).Pairwise Apt := by
  rw [List.pairwise_append] at h ⊢
  obtain ⟨h1, h2, h3⟩ := h
  rw [List.pairwise_cons] at h2
  refine ⟨?_, h2.2, fun a ha b hb => ?_⟩
  · rw [List.pairwise_iff_getElem] at h1 ⊢
    intro p q hp hq hpq
    rw [List.length_set] at hp hq
    rw [List.getElem_set, List.getElem_set]
    by_cases e1 : i = p
    · rw [if_pos e1, if_neg (by omega)]
      exact (h3 _ (List.getElem_mem hq) u List.mem_cons_self).symm
    · rw [if_neg e1]
      by_cases e2 : i = q
      · rw [if_pos e2]
        exact h3 _ (List.getElem_mem hp) u List.mem_cons_self
      · rw [if_neg e2]
        exact h1 p q hp hq hpq
  · rcases List.mem_or_eq_of_mem_set ha with ha | rfl
    · exact h3 a ha b (List.mem_cons_of_mem _ hb)
    · exact h2.1 b hb
theorem settle_apt : ∀ (ns : List Int) (cs ss : List Value), (ss ++ cs).Pairwise Apt → (settleL ss (ns.zip cs)).Pairwise Apt
  | [], _, ss, h => (List.pairwise_append.1 h).1
  | _ :: _, [], ss, h => (List.pairwise_append.1 h).1
  | x :: ns, u :: cs, ss, h => by
    rw [List.zip_cons_cons, settleL]
    exact settle_apt ns cs _ (apt_set _ h)
/-- The rows of the sectors behind it. -/
theorem Bs.settle {w : World} {B : Nat} {ss cs : List Value} {s c : List (List Int)} {ns : List Int} (h : Bs w B (ss ++ cs) (s ++ c)) (hs : ss.length = s.length) (hn : ns.length = cs.length) : Bs w B (settleL ss (ns.zip cs)) (settleL s (ns.zip c)) := by
  have hc : cs.length = c.length := by have := h.len; simp at this; omega
  refine ⟨by rw [settleL_len, settleL_len]; exact hs, fun i v l h1 h2 => ?_, fun v hv g hg => ?_, settle_apt ns cs ss h.apt⟩
  · obtain ⟨j, g1, g2⟩ := settle_pairs hs hc hn i v l h1 h2
    exact h.ob j v l g1 g2
  · obtain ⟨i, hi, rfl⟩ := List.getElem_of_mem hv
    have hi2 : i < (settleL s (ns.zip c)).length := by rw [settleL_len, ← hs, ← settleL_len (ns.zip cs) ss]; exact hi
    obtain ⟨j, g1, -⟩ := settle_pairs hs hc hn i _ _ (List.getElem?_eq_getElem hi) (List.getElem?_eq_getElem hi2)
    exact h.lt _ (List.mem_of_getElem? g1) g hg
end Go.Proofs.Ytdhfbblameiloaa

/-
  What a fault keeps of the cache, plainly.
-/
namespace Go.Proofs.Ytdhfbblameiloaa
open Go.RowKit
set_option maxRecDepth 4000

/-- Whether the bit of the i-th write is set. -/
def bitOf (keep : Int) (i : Nat) : Bool := decide (keep / 2 ^ i % 2 = 1)
theorem bitOf_far {keep : Int} (h0 : 0 ≤ keep) (h1 : keep ≤ 1048575) {i : Nat} (hi : 20 ≤ i) : bitOf keep i = false := by
  unfold bitOf
  have h2 : (1048576 : Int) ≤ 2 ^ i := by
    have h9 : 2 ^ 20 ≤ 2 ^ i := Nat.pow_le_pow_right (by decide) hi
    have e : ((2 ^ i : Nat) : Int) = 2 ^ i := by simp
    rw [← e]
    omega
  have h3 : keep / 2 ^ i = 0 := Int.ediv_eq_zero_of_lt h0 (by omega)
  rw [h3]
  rfl
/-- Those of the first k that are kept. -/
def keptG {α : Type} (keep : Int) (l : List α) : Nat → List α
  | 0 => []
  | k + 1 => keptG keep l k ++ (if bitOf keep k then (l[k]?).toList else [])
theorem keptG_yes {α : Type} {keep : Int} {l : List α} {k : Nat} (hb : bitOf keep k = true) (hk : k < l.length) : keptG keep l (k + 1) = keptG keep l k ++ [l[k]] := by
  rw [keptG, if_pos hb, List.getElem?_eq_getElem hk]
  rfl
theorem keptG_no {α : Type} {keep : Int} {l : List α} {k : Nat} (hb : bitOf keep k = false) : keptG keep l (k + 1) = keptG keep l k := by
  rw [keptG, if_neg (by simp [hb])]
  simp
theorem keptG_map {α β : Type} (g : α → β) (keep : Int) (l : List α) : ∀ k, (keptG keep l k).map g = keptG keep (l.map g) k
  | 0 => rfl
  | k + 1 => by
    rw [keptG, keptG, List.map_append, keptG_map g keep l k]
    congr 1
    split
    · cases h : l[k]? <;> simp [h]
    · rfl
theorem keptG_mem {α : Type} {keep : Int} {l : List α} : ∀ {k : Nat} {x : α}, x ∈ keptG keep l k → x ∈ l
  | 0, _, h => by simp [keptG] at h
  | k + 1, x, h => by
    rw [keptG, List.mem_append] at h
    rcases h with h | h
    · exact keptG_mem h
    · split at h
      · exact List.mem_of_getElem? (Option.mem_toList.1 h)
      · simp at h
theorem keptG_len {α : Type} (keep : Int) (l : List α) : ∀ k, (keptG keep l k).length ≤ k
  | 0 => Nat.le_refl _
  | k + 1 => by
    rw [keptG, List.length_append]
    have := keptG_len keep l k
    split
    · cases h : l[k]? <;> simp <;> omega
    · simp; omega
/-- Behind the twentieth nothing is kept. -/
theorem keptG_far {α : Type} {keep : Int} (h0 : 0 ≤ keep) (h1 : keep ≤ 1048575) (l : List α) {k : Nat} (hk : 20 ≤ k) : keptG keep l k = keptG keep l 20 := by
  obtain ⟨d, rfl⟩ : ∃ d, k = 20 + d := ⟨k - 20, by omega⟩
  induction d with
  | zero => rfl
  | succ d ih => rw [← Nat.add_assoc, keptG_no (bitOf_far h0 h1 (by omega)), ih (by omega)]
/-- The last is cut. -/
def cutLast {α : Type} (g : α → α) (l : List α) : List α := match l.getLast? with
  | none => l
  | some x => l.dropLast ++ [g x]
theorem cutLast_nil {α : Type} (g : α → α) : cutLast g [] = [] := rfl
theorem cutLast_app {α : Type} (g : α → α) (l : List α) (x : α) : cutLast g (l ++ [x]) = l ++ [g x] := by simp [cutLast]
theorem keptG_len_eq {α β : Type} {keep : Int} {l : List α} {m : List β} (h : l.length = m.length) : ∀ k, (keptG keep l k).length = (keptG keep m k).length
  | 0 => rfl
  | k + 1 => by
    rw [keptG, keptG, List.length_append, List.length_append, keptG_len_eq h k]
    congr 1
    split
    · by_cases hk : k < l.length
      · rw [List.getElem?_eq_getElem hk, List.getElem?_eq_getElem (by omega)]; rfl
      · rw [List.getElem?_eq_none (by omega), List.getElem?_eq_none (by omega)]; rfl
    · rfl
theorem bit_and {q : Int} (h0 : 0 ≤ q) (h1 : q ≤ 1048575) (k : Nat) : bits .and .i64 (q / 2 ^ k) 1 = q / 2 ^ k % 2 := by
  obtain ⟨x, rfl⟩ := Int.eq_ofNat_of_zero_le h0
  have e : ((x : Int) / 2 ^ k) = ((x / 2 ^ k : Nat) : Int) := by simp
  rw [e, i64_and1 _ (by have : x / 2 ^ k ≤ x := Nat.div_le_self _ _; omega)]
  omega
end Go.Proofs.Ytdhfbblameiloaa

/-
  What the model keeps of the cache, plainly: it comes to what is kept with its last one cut.
-/
namespace Go.Proofs.Ytdhfbblameiloaa
open Go.RowKit
set_option maxRecDepth 4000

def cutW (c : Nat) (x : Int × List Int) : Int × List Int := (x.1, x.2.take c)
/-- What comes into its sectors of the first k writes. -/
def lostL (keep : Int) (cut last : Nat) (l : List (Int × List Int)) : Nat → List (Int × List Int)
  | 0 => []
  | k + 1 => lostL keep cut last l k ++ (if bitOf keep k then (l[k]?).toList.map (fun x => if k = last then cutW cut x else x) else [])
theorem lostL_yes {keep : Int} {cut last : Nat} {l : List (Int × List Int)} {k : Nat} (hb : bitOf keep k = true) (hk : k < l.length) : lostL keep cut last l (k + 1) = lostL keep cut last l k ++ [if k = last then cutW cut l[k] else l[k]] := by
  rw [lostL, if_pos hb, List.getElem?_eq_getElem hk]
  rfl
theorem lostL_no {keep : Int} {cut last : Nat} {l : List (Int × List Int)} {k : Nat} (hb : bitOf keep k = false) : lostL keep cut last l (k + 1) = lostL keep cut last l k := by
  rw [lostL, if_neg (by simp [hb])]
  simp
theorem lostL_kept {keep : Int} {cut last : Nat} {l : List (Int × List Int)} : ∀ {k : Nat}, k ≤ last → lostL keep cut last l k = keptG keep l k
  | 0, _ => rfl
  | k + 1, h => by
    rw [lostL, keptG, lostL_kept (by omega)]
    congr 1
    split
    · cases hx : l[k]? with
      | none => rfl
      | some x => simp [show k ≠ last by omega]
    · rfl
/-- The last bit that is set of the first k. -/
def LastIs (keep : Int) (k : Nat) (last : Int) : Prop := (last = -1 ∧ ∀ j, j < k → bitOf keep j = false) ∨ ∃ m : Nat, last = m ∧ m < k ∧ bitOf keep m = true ∧ ∀ j, m < j → j < k → bitOf keep j = false
theorem LastIs.zero (keep : Int) : LastIs keep 0 (-1) := .inl ⟨rfl, fun _ h => absurd h (Nat.not_lt_zero _)⟩
theorem LastIs.yes {keep : Int} {k : Nat} (hb : bitOf keep k = true) : LastIs keep (k + 1) (k : Int) := .inr ⟨k, rfl, Nat.lt_succ_self _, hb, fun j h1 h2 => by omega⟩
theorem LastIs.no {keep : Int} {k : Nat} {last : Int} (h : LastIs keep k last) (hb : bitOf keep k = false) : LastIs keep (k + 1) last := by
  have key : ∀ j, j < k + 1 → ¬ j < k → bitOf keep j = false := fun j h1 h2 => by rw [show j = k by omega]; exact hb
  rcases h with ⟨rfl, h⟩ | ⟨m, rfl, h1, h2, h3⟩
  · exact .inl ⟨rfl, fun j hj => if e : j < k then h j e else key j hj e⟩
  · exact .inr ⟨m, rfl, by omega, h2, fun j g1 g2 => if e : j < k then h3 j g1 e else key j g2 e⟩
theorem keptG_stop {α : Type} {keep : Int} {l : List α} {i : Nat} : ∀ {k : Nat}, i ≤ k → (∀ j, i ≤ j → j < k → bitOf keep j = false) → keptG keep l k = keptG keep l i
  | 0, h, _ => by rw [show i = 0 by omega]
  | k + 1, h, hb => by
    by_cases e : i = k + 1
    · rw [e]
    · rw [keptG_no (hb k (by omega) (by omega))]
      exact keptG_stop (by omega) (fun j h1 h2 => hb j h1 (by omega))
theorem lost_all {keep : Int} {cut : Nat} {l : List (Int × List Int)} {n : Nat} {last : Int} (h0 : 0 ≤ keep) (h1 : keep ≤ 1048575) (hn : n = min l.length 20) (h : LastIs keep n last) :
    (last = -1 ∧ cutLast (cutW cut) (keptG keep l l.length) = []) ∨ ∃ m : Nat, last = m ∧ m < n ∧ cutLast (cutW cut) (keptG keep l l.length) = lostL keep cut m l (m + 1) := by
  have hfar : ∀ j, n ≤ j → j < l.length → bitOf keep j = false := fun j g1 g2 => bitOf_far h0 h1 (by omega)
  rcases h with ⟨rfl, h⟩ | ⟨m, rfl, g1, g2, g3⟩
  · left
    refine ⟨rfl, ?_⟩
    rw [keptG_stop (i := 0) (Nat.zero_le _) (fun j _ hj => if e : j < n then h j e else hfar j (by omega) hj)]
    rfl
  · right
    have hm : m < l.length := by omega
    refine ⟨m, rfl, g1, ?_⟩
    rw [keptG_stop (i := m + 1) (by omega) (fun j g4 hj => if e : j < n then g3 j (by omega) e else hfar j (by omega) hj), keptG_yes g2 hm, cutLast_app, lostL_yes g2 hm, lostL_kept (Nat.le_refl _), if_pos rfl]
/-- The disk behind a fault; behind a flush. -/
def loseD (D : PDisk) (f : PFault) : PDisk := { D with secs := settleL D.secs (cutLast (cutW f.cut.toNat) (keptG f.keep D.cache D.cache.length)), cache := [], down := true }
def calmD (D : PDisk) : PDisk := { D with secs := settleL D.secs D.cache, cache := [] }
theorem settle_snoc {α : Type} (s : List α) (l : List (Int × α)) (x : Int × α) : settleL s (l ++ [x]) = (settleL s l).set x.1.toNat x.2 := by rw [settleL_app]; rfl
end Go.Proofs.Ytdhfbblameiloaa

/-
  What the law's own helper eqByteS comes to on rows that are alike.
-/
namespace Go.Proofs.Ytdhfbblameiloaa
open Go.RowKit
set_option maxRecDepth 4000

/-- Two slices that read alike: true. -/
theorem eqByteS_same (a1 a2 : Option Addr) (n c1 c2 : Nat) (f g : Nat → Int) (w : World) (h1 : View w a1 n c1 f) (h2 : View w a2 n c2 g) (hn : n ≤ 281474976710656) (he : ∀ i, i < n → f i = g i) :
    Calls Try.prog 15 #[.slice a1 n c1, .slice a2 n c2] w fun e w' => e = .returned (.bool true) ∧ Below w.heap.size w w' := by
  go_enter Try.func15, Try.ntmps15
  go_wp2
  go_loopg [5] n (fun q i wr => ∃ k : Nat, k ≤ n ∧ q = n - k ∧ i = .int .i64 k ∧ Below w.heap.size w wr)
  case atStart => exact ⟨0, Nat.zero_le _, rfl, rfl, Below.refl _ _⟩
  case round =>
    obtain ⟨k, hk, rfl, rfl, hB⟩ := hrel
    by_cases hlt : k < n
    · obtain ⟨b1, o1, rfl, hb1, hc1⟩ := h1.cells (by omega)
      obtain ⟨b2, o2, rfl, hb2, hc2⟩ := h2.cells (by omega)
      have hkz : (k : Int) < (n : Int) := by omega
      have e1 : wr.cell? ⟨b1, o1 + k, none⟩ = some (.int .u8 (f k)) := by rw [hB.cell (p := ⟨b1, o1 + k, none⟩) hb1]; exact hc1 k hlt
      have e2 : wr.cell? ⟨b2, o2 + k, none⟩ = some (.int .u8 (f k)) := by rw [hB.cell (p := ⟨b2, o2 + k, none⟩) hb2, he k hlt]; exact hc2 k hlt
      clear hc1 hc2 he
      go_wp2
      go_region
      all_goals go_wp2
      all_goals
        go_roundg (n - (k + 1))
        case measure => omega
        case rel => exact ⟨k + 1, by omega, rfl, by go_num, by first | exact hB.drew | exact hB⟩
    · go_wp2
      go_ret
      exact ⟨rfl, hB⟩
end Go.Proofs.Ytdhfbblameiloaa

/-
  What the law's own helpers markByteS and heldByteS come to: the one writes a count into a row of the call's own, the other finds it there.
-/
namespace Go.Proofs.Ytdhfbblameiloaa
open Go.RowKit
set_option maxRecDepth 4000

structure Marked (w wr : World) (b n : Nat) (f : Nat → Int) (k : Int) (j : Nat) : Prop where
  only : Only b w wr
  row : Row 5 wr b n (fun i => if i < j then (k + i) % 256 else f i)

theorem marked_step {w wr : World} {b n : Nat} {f : Nat → Int} {k : Int} {j : Nat} (h : Marked w wr b n f k j) : Marked w (wr.setCell ⟨b, j, none⟩ (.int .u8 ((k + j) % 256))) b n f k (j + 1) := by
  refine ⟨h.only.setCell _, (h.row.set j _).congr (fun i _ => ?_)⟩
  by_cases e : i = j
  · subst e; simp
  · rw [if_neg e]
    by_cases hlt : i < j
    · rw [if_pos hlt, if_pos (by omega)]
    · rw [if_neg hlt, if_neg (by omega)]

set_option maxHeartbeats 400000 in
theorem mark_any (b n cap : Nat) (f : Nat → Int) (k : Int) (w : World) (hr : Row 5 w b n f) (hk : 0 ≤ k) (hk1 : k + n ≤ 4611686018427387904) :
    Calls Try.prog 17 #[.slice (some ⟨b, 0, none⟩) n cap, .int .i64 k] w fun e w' => e = .returned (.int .i64 (k + n)) ∧ Row 5 w' b n (fun i => (k + i) % 256) ∧ Only b w w' := by
  go_enter Try.func17, Try.ntmps17
  go_wp2
  go_loopg [1, 5] n (fun g s i wr => ∃ j : Nat, j ≤ n ∧ g = n - j ∧ s = .int .i64 (k + j) ∧ i = .int .i64 j ∧ Marked w wr b n f k j)
  case atStart => exact ⟨0, Nat.zero_le _, rfl, by simp, rfl, Only.refl _ _, hr.congr (fun i _ => by simp)⟩
  case round =>
    obtain ⟨j, hj, rfl, rfl, rfl, hM⟩ := hrel
    clear hr
    by_cases hlt : j < n
    · have hjz : (j : Int) < (n : Int) := by omega
      have hc := hM.row.cell hlt
      have hf := hM.row.frozen j
      have hS : Hid (Marked w (wr.setCell ⟨b, j, none⟩ (.int .u8 ((k + j) % 256))) b n f k (j + 1)) := marked_step hM
      have hw : ∀ x : Int, IntKind.u8.wrap x = x % 256 := u8_wrap
      clear hM
      go_wp2
      go_roundg (n - (j + 1))
      case measure => omega
      case rel => exact ⟨j + 1, by omega, rfl, by go_num, by go_num, hS.out⟩
    · obtain rfl : j = n := by omega
      have hF : Hid (Row 5 wr b j (fun i => (k + i) % 256)) := hM.row.congr (fun i hi => by rw [if_pos (by omega)])
      have hO := hM.only
      clear hM
      go_wp2
      go_ret
      exact ⟨rfl, hF.out, hO⟩

set_option maxHeartbeats 400000 in
theorem held_any (ao : Option Addr) (n cap : Nat) (f : Nat → Int) (k : Int) (w : World) (hv : View w ao n cap f) (he : ∀ i, i < n → f i = (k + i) % 256) (hk : 0 ≤ k) (hk1 : k + n ≤ 4611686018427387904) :
    Calls Try.prog 122 #[.slice ao n cap, .int .i64 k] w fun e w' => e = .returned (.int .i64 (k + n)) ∧ Below w.heap.size w w' := by
  go_enter Try.func122, Try.ntmps122
  go_wp2
  go_loopg [1, 5] n (fun g s i wr => ∃ j : Nat, j ≤ n ∧ g = n - j ∧ s = .int .i64 (k + j) ∧ i = .int .i64 j ∧ Below w.heap.size w wr)
  case atStart => exact ⟨0, Nat.zero_le _, rfl, by simp, rfl, Below.refl _ _⟩
  case round =>
    obtain ⟨j, hj, rfl, rfl, rfl, hB⟩ := hrel
    by_cases hlt : j < n
    · obtain ⟨b, off, rfl, hb, hc⟩ := hv.cells (by omega)
      have hjz : (j : Int) < (n : Int) := by omega
      have hc1 : wr.cell? ⟨b, off + j, none⟩ = some (.int .u8 ((k + j) % 256)) := by rw [hB.cell (p := ⟨b, off + j, none⟩) hb, ← he j hlt]; exact hc j hlt
      have hw : ∀ x : Int, IntKind.u8.wrap x = x % 256 := u8_wrap
      clear hc he
      go_wp2
      all_goals
        go_roundg (n - (j + 1))
        case measure => omega
        case rel => exact ⟨j + 1, by omega, rfl, by go_num, by go_num, by first | exact hB.drew | exact hB⟩
    · obtain rfl : j = n := by omega
      go_wp2
      go_ret
      exact ⟨rfl, hB⟩
end Go.Proofs.Ytdhfbblameiloaa

/-
  Marks that are written into a disk of the call's own: what they come to, and what they turn.
-/
namespace Go.Proofs.Ytdhfbblameiloaa
open Go.RowKit
set_option maxRecDepth 4000

/-- The first j elements are turned. -/
def upto {α : Type} (f : Nat → α → α) (l : List α) (j : Nat) : List α := l.mapIdx (fun i x => if i < j then f i x else x)
theorem upto_get {α : Type} (f : Nat → α → α) (l : List α) (j i : Nat) : (upto f l j)[i]? = (l[i]?).map (fun x => if i < j then f i x else x) := by simp [upto, List.getElem?_mapIdx]
theorem upto_len {α : Type} (f : Nat → α → α) (l : List α) (j : Nat) : (upto f l j).length = l.length := by simp [upto]
theorem upto_zero {α : Type} (f : Nat → α → α) (l : List α) : upto f l 0 = l := by
  refine List.ext_getElem? (fun i => ?_)
  rw [upto_get]
  simp
theorem upto_set {α : Type} (f : Nat → α → α) (l : List α) (j : Nat) (h : j < l.length) : (upto f l j).set j (f j l[j]) = upto f l (j + 1) := by
  refine List.ext_getElem? (fun i => ?_)
  rw [List.getElem?_set, upto_get, upto_len, upto_get]
  by_cases e : j = i
  · subst e
    simp [h]
  · rw [if_neg e]
    by_cases hi : i < j
    · simp [hi, show i < j + 1 by omega]
    · simp [hi, show ¬ i < j + 1 by omega]
theorem upto_all {α : Type} (f : Nat → α → α) (l : List α) (j : Nat) (h : l.length ≤ j) : upto f l j = l.mapIdx f := by
  refine List.ext_getElem? (fun i => ?_)
  rw [upto_get, List.getElem?_mapIdx]
  by_cases hi : i < l.length
  · rw [List.getElem?_eq_getElem hi]
    simp [show i < j by omega]
  · rw [List.getElem?_eq_none (by omega)]
    rfl
def mkB (k : Int) (n : Nat) : List Int := (List.range n).map (fun i : Nat => (k + (i : Int)) % 256)
theorem mkB_len (k : Int) (n : Nat) : (mkB k n).length = n := by simp [mkB]
theorem mkB_get (k : Int) (n i : Nat) (h : i < n) : bf (mkB k n) i = (k + i) % 256 := by simp [bf, mkB, h]
def szS (l : List (List Int)) : Nat := (l.map List.length).sum
def szC (l : List (Int × List Int)) : Nat := (l.map (fun x => 1 + x.2.length)).sum
theorem szS_app (a b : List (List Int)) : szS (a ++ b) = szS a + szS b := by simp only [szS, List.map_append, List.sum_append]
theorem szC_app (a b : List (Int × List Int)) : szC (a ++ b) = szC a + szC b := by simp only [szC, List.map_append, List.sum_append]
theorem szS_take {l : List (List Int)} {j : Nat} (h : j < l.length) : szS (l.take (j + 1)) = szS (l.take j) + (l[j]).length := by
  have e : l.take (j + 1) = l.take j ++ [l[j]] := by rw [List.take_add_one, List.getElem?_eq_getElem h]; rfl
  rw [e, szS_app]; simp [szS]
theorem szC_take {l : List (Int × List Int)} {j : Nat} (h : j < l.length) : szC (l.take (j + 1)) = szC (l.take j) + (1 + (l[j]).2.length) := by
  have e : l.take (j + 1) = l.take j ++ [l[j]] := by rw [List.take_add_one, List.getElem?_eq_getElem h]; rfl
  rw [e, szC_app]; simp [szC]
theorem szS_le (l : List (List Int)) (j : Nat) : szS (l.take j) ≤ szS l := by
  have e : l = l.take j ++ l.drop j := (List.take_append_drop j l).symm
  have : szS l = szS (l.take j) + szS (l.drop j) := by
    conv => lhs; rw [e]
    exact szS_app _ _
  omega
theorem szC_le (l : List (Int × List Int)) (j : Nat) : szC (l.take j) ≤ szC l := by
  have e : l = l.take j ++ l.drop j := (List.take_append_drop j l).symm
  have : szC l = szC (l.take j) + szC (l.drop j) := by
    conv => lhs; rw [e]
    exact szC_app _ _
  omega
theorem szS_bound {l : List (List Int)} (hn : l.length ≤ 1048576) (h : ∀ x, x ∈ l → x.length ≤ 1048576) : szS l ≤ 1099511627776 := by
  have : ∀ m : List (List Int), (∀ x, x ∈ m → x.length ≤ 1048576) → szS m ≤ m.length * 1048576 := by
    intro m
    induction m with
    | nil => intro _; simp [szS]
    | cons a m ih =>
      intro hm
      have h1 := ih (fun x hx => hm x (List.mem_cons_of_mem _ hx))
      have h2 := hm a List.mem_cons_self
      simp only [szS, List.map_cons, List.sum_cons, List.length_cons] at h1 ⊢
      omega
  have h3 := this l h
  have : l.length * 1048576 ≤ 1048576 * 1048576 := Nat.mul_le_mul_right _ hn
  omega
theorem szC_bound {l : List (Int × List Int)} (hn : l.length ≤ 1048576) (h : ∀ x, x ∈ l → x.2.length ≤ 1048576) : szC l ≤ 1099512676352 := by
  have : ∀ m : List (Int × List Int), (∀ x, x ∈ m → x.2.length ≤ 1048576) → szC m ≤ m.length * 1048577 := by
    intro m
    induction m with
    | nil => intro _; simp [szC]
    | cons a m ih =>
      intro hm
      have h1 := ih (fun x hx => hm x (List.mem_cons_of_mem _ hx))
      have h2 := hm a List.mem_cons_self
      simp only [szC, List.map_cons, List.sum_cons, List.length_cons] at h1 ⊢
      omega
  have h3 := this l h
  have : l.length * 1048577 ≤ 1048576 * 1048577 := Nat.mul_le_mul_right _ hn
  omega
def fS (k : Int) (l : List (List Int)) (i : Nat) (x : List Int) : List Int := mkB (k + szS (l.take i)) x.length
def fC (k : Int) (l : List (Int × List Int)) (i : Nat) (x : Int × List Int) : Int × List Int := (k + szC (l.take i), mkB (k + szC (l.take i) + 1) x.2.length)
def fF (k : Int) (i : Nat) (_ : PFault) : PFault := ⟨k + 3 * i, k + 3 * i + 1, k + 3 * i + 2⟩
/-- How much is marked, and the disk with its marks. -/
def szD (D : PDisk) : Nat := szS D.secs + szC D.cache + 3 * D.faults.length
def mkD (k : Int) (D : PDisk) : PDisk := ⟨D.secs.mapIdx (fS k D.secs), D.cache.mapIdx (fC (k + szS D.secs) D.cache), D.ops, D.faults.mapIdx (fF (k + szS D.secs + szC D.cache)), D.down⟩

/-- Nothing but the row of this slice has turned. -/
structure OnlyV (v : Value) (w w' : World) : Prop where
  os : w'.os = w.os
  tape : w'.tape = w.tape
  output : w'.output = w.output
  size : w'.heap.size = w.heap.size
  block : ∀ b, v.ownBlock ≠ some b → w'.heap[b]? = w.heap[b]?
  other : ∀ (b : Nat) (c : Array Value) (t : TypeId) (z : Nat × Nat), w.heap[b]? = some (Obj.cells c t z) → t ≠ 5 → w'.heap[b]? = w.heap[b]?
/-- Rows of other things than bytes are as they were. -/
def Keep8 (w w' : World) : Prop := ∀ (b : Nat) (c : Array Value) (t : TypeId) (z : Nat × Nat), w.heap[b]? = some (Obj.cells c t z) → t ≠ 5 → w'.heap[b]? = w.heap[b]?
theorem Keep8.trans {a b c : World} (h : Keep8 a b) (k : Keep8 b c) : Keep8 a c := fun i x t z h1 h2 => (k i x t z ((h i x t z h1 h2).trans h1) h2).trans (h i x t z h1 h2)
theorem OnlyV.keep {v : Value} {w w' : World} (h : OnlyV v w w') : Keep8 w w' := h.other
set_option maxHeartbeats 400000 in
theorem mark_none (a : Option Addr) (cap : Nat) (k : Int) (w : World) :
    Calls Try.prog 17 #[.slice a 0 cap, .int .i64 k] w fun e w' => e = .returned (.int .i64 k) ∧ w' = w := by
  go_enter Try.func17, Try.ntmps17
  go_wp2
  go_loopg [1, 5] 0 (fun g s i wr => s = .int .i64 k ∧ i = .int .i64 0 ∧ wr = w)
  case atStart => exact ⟨rfl, rfl, rfl⟩
  case round =>
    obtain ⟨rfl, rfl, rfl⟩ := hrel
    go_wp2
    go_ret
    exact ⟨rfl, rfl⟩
theorem markOB {w : World} {B : Nat} {v : Value} {l : List Int} (h : OB w B v l) (k : Int) (hk : 0 ≤ k) (hk1 : k + l.length ≤ 4611686018427387904) :
    Calls Try.prog 17 #[v, .int .i64 k] w fun e w' => e = .returned (.int .i64 (k + l.length)) ∧ OB w' B v (mkB k l.length) ∧ OnlyV v w w' := by
  obtain ⟨a, c, rfl, h1, h2, h3, h4⟩ := h.is
  rcases h4 with h4 | ⟨g, rfl, hb, hr⟩
  · subst h4
    refine (mark_none a c k w).mono ?_
    rintro e w' ⟨rfl, rfl⟩
    refine ⟨by simp, ⟨a, c, rfl, h1, h2, by simp [mkB], .inl rfl⟩, ⟨rfl, rfl, rfl, rfl, fun _ _ => rfl, fun _ _ _ _ _ _ => rfl⟩⟩
  · refine (mark_any g l.length c (bf l) k w hr hk hk1).mono ?_
    rintro e w' ⟨rfl, hr', ho⟩
    refine ⟨rfl, ⟨_, c, by rw [mkB_len], by rw [mkB_len]; exact h1, h2, fun x hx => ?_, .inr ⟨g, rfl, hb, ?_⟩⟩, ⟨ho.os, ho.tape, ho.output, ho.size, fun b hne => ho.block b (fun e => hne (by rw [e]; rfl)), fun b c' t z hc ht => ho.block b (fun e => ?_)⟩⟩
    · simp only [mkB, List.mem_map] at hx
      obtain ⟨i, -, rfl⟩ := hx
      omega
    · rw [mkB_len]
      exact hr'.congr (fun i hi => (mkB_get k _ i hi).symm)
    · obtain ⟨c0, hb0, -, -⟩ := hr
      rw [e, hb0] at hc
      cases hc
      exact ht rfl
theorem RL.onlyV {T : TypeId} {w w' : World} {B : Nat} {v : Value} {a : Option Addr} {xs : List Value} (h : RL T w B a xs) (ho : OnlyV v w w') (hT : T ≠ 5) : RL T w' B a xs := by
  rcases h with h | ⟨g, cur, ea, hb, hg, hc⟩
  · exact .inl h
  · exact .inr ⟨g, cur, ea, hb, (ho.other g _ _ _ hg hT).trans hg, hc⟩
theorem RL.keep {T : TypeId} {w w' : World} {B : Nat} {a : Option Addr} {xs : List Value} (h : RL T w B a xs) (ho : Keep8 w w') (hT : T ≠ 5) : RL T w' B a xs := by
  rcases h with h | ⟨g, cur, ea, hb, hg, hc⟩
  · exact .inl h
  · exact .inr ⟨g, cur, ea, hb, (ho g _ _ _ hg hT).trans hg, hc⟩
theorem Bs.mark {w w' : World} {B j : Nat} {vs : List Value} {ls : List (List Int)} {v : Value} {m : List Int} (h : Bs w B vs ls) (hj : vs[j]? = some v) (hm : OB w' B v m) (ho : OnlyV v w w') : Bs w' B vs (ls.set j m) := by
  refine ⟨by simp [h.len], fun i u x h1 h2 => ?_, fun u hu g hg => ?_, h.apt⟩
  · rw [List.getElem?_set] at h2
    by_cases e : j = i
    · subst e
      rw [if_pos rfl] at h2
      split at h2
      · cases h2
        rw [hj] at h1; cases h1
        exact hm
      · cases h2
    · rw [if_neg e] at h2
      have hO := h.ob i u x h1 h2
      obtain ⟨a, c, rfl, k1, k2, k3, k4⟩ := hO.is
      refine ⟨a, c, rfl, k1, k2, k3, ?_⟩
      rcases k4 with k4 | ⟨g, rfl, hb, hr⟩
      · exact .inl k4
      · refine .inr ⟨g, rfl, hb, hr.of_block (ho.block g (fun e2 => ?_))⟩
        have hij : ∀ (p q : Nat) a b, p < q → vs[p]? = some a → vs[q]? = some b → Apt a b := by
          intro p q a b hpq hp hq
          obtain ⟨hp1, rfl⟩ := List.getElem?_eq_some_iff.1 hp
          obtain ⟨hq1, rfl⟩ := List.getElem?_eq_some_iff.1 hq
          exact (List.pairwise_iff_getElem.1 h.apt) p q hp1 hq1 hpq
        rcases Nat.lt_or_gt_of_ne e with hlt | hlt
        · exact hij j i v _ hlt hj h1 g e2 rfl
        · exact hij i j _ v hlt h1 hj g rfl e2
  · have := h.lt u hu g hg
    exact ⟨this.1, by rw [ho.size]; exact this.2⟩
/-- What lies outside is as it was. -/
structure Out (B H : Nat) (w w' : World) : Prop where
  os : w'.os = w.os
  tape : w'.tape = w.tape
  output : w'.output = w.output
  size : w.heap.size ≤ w'.heap.size
  block : ∀ k, k < w.heap.size → (k < B ∨ H ≤ k) → w'.heap[k]? = w.heap[k]?
theorem Out.refl (B H : Nat) (w : World) : Out B H w w := ⟨rfl, rfl, rfl, Nat.le_refl _, fun _ _ _ => rfl⟩
theorem Out.trans {B H : Nat} {a b c : World} (h : Out B H a b) (k : Out B H b c) : Out B H a c := ⟨k.os.trans h.os, k.tape.trans h.tape, k.output.trans h.output, Nat.le_trans h.size k.size, fun i hi ho => (k.block i (Nat.lt_of_lt_of_le hi h.size) ho).trans (h.block i hi ho)⟩
theorem Out.ofBelow {B H : Nat} {w w' : World} (h : Below w.heap.size w w') : Out B H w w' := ⟨h.os, h.tape, h.output, h.size, fun k hk _ => h.block k hk⟩
theorem Out.below {B H : Nat} {w w' : World} (h : Out B H w w') (hB : B ≤ w.heap.size) : Below B w w' := ⟨h.os, h.tape, h.output, h.size, fun k hk => h.block k (Nat.lt_of_lt_of_le hk hB) (.inl hk)⟩
theorem Out.up {B H : Nat} {w w' : World} (h : Out B H w w') : Up H w w' := ⟨h.size, fun k hk hl => h.block k hl (.inr hk)⟩
theorem Out.ofOnlyV {B H : Nat} {v : Value} {w w' : World} (h : OnlyV v w w') (hv : ∀ g, v.ownBlock = some g → B ≤ g ∧ g < H) : Out B H w w' :=
  ⟨h.os, h.tape, h.output, by rw [h.size]; exact Nat.le_refl _, fun k _ ho => h.block k (fun e => by have := hv k e; omega)⟩
theorem Out.set {B H C i : Nat} {w : World} {u : Value} (h : B ≤ C ∧ C < H) : Out B H w (w.setCell ⟨C, i, none⟩ u) := ⟨rfl, rfl, rfl, by simp, fun k _ ho => Below.heap_setCell _ _ _ _ (show k ≠ C by omega)⟩
theorem RL.set {T : TypeId} {w : World} {B : Nat} {g : Nat} {xs : List Value} (h : RL T w B (some ⟨g, 0, none⟩) xs) (i : Nat) (u : Value) (hi : i < xs.length) : RL T (w.setCell ⟨g, i, none⟩ u) B (some ⟨g, 0, none⟩) (xs.set i u) := by
  rcases h with h | ⟨g', cur, ea, hb, hg, hc⟩
  · subst h; simp at hi
  · cases ea
    have hlt : i < cur.size := by
      have := hc i xs[i] (List.getElem?_eq_getElem hi)
      exact (Array.getElem?_eq_some_iff.1 this).1
    refine .inr ⟨g, cur.setIfInBounds i u, rfl, hb, by simp [World.setCell, Array.getElem?_modify, hg], fun q x hq => ?_⟩
    rw [List.getElem?_set] at hq
    rw [Array.getElem?_setIfInBounds]
    by_cases e : i = q
    · subst e
      rw [if_pos rfl, if_pos hi] at hq
      cases hq
      rw [if_pos rfl, if_pos hlt]
    · rw [if_neg e] at hq
      rw [if_neg e]
      exact hc q x hq
theorem RL.cellFz {T : TypeId} {w : World} {B g : Nat} {xs : List Value} (h : RL T w B (some ⟨g, 0, none⟩) xs) (hn : 0 < xs.length) (i : Nat) : w.frozen? ⟨g, i, none⟩ = false := by
  rcases h with h | ⟨g', cur, ea, hb, hg, hc⟩
  · subst h; simp at hn
  · cases ea
    simp [World.frozen?, hg]
theorem RL.other {T T' : TypeId} {w : World} {B g g' i : Nat} {a : Option Addr} {xs ys : List Value} {u : Value} (h : RL T w B a xs) (k : RL T' w B (some ⟨g, 0, none⟩) ys) (hy : 0 < ys.length) (hT : T ≠ T') (_ : g' = g) : RL T (w.setCell ⟨g, i, none⟩ u) B a xs := by
  rcases h with h | ⟨g1, cur, ea, hb, hg, hc⟩
  · exact .inl h
  · rcases k with k | ⟨g2, cur2, ea2, hb2, hg2, hc2⟩
    · subst k; simp at hy
    · cases ea2
      refine .inr ⟨g1, cur, ea, hb, ?_, hc⟩
      rw [Below.heap_setCell _ _ _ _ (show g1 ≠ g from fun e => by rw [e, hg2] at hg; cases hg; exact hT rfl)]
      exact hg
theorem Bs.other {T' : TypeId} {w : World} {B g i : Nat} {vs : List Value} {ls : List (List Int)} {ys : List Value} {u : Value} (h : Bs w B vs ls) (k : RL T' w B (some ⟨g, 0, none⟩) ys) (hy : 0 < ys.length) (hT : 5 ≠ T') : Bs (w.setCell ⟨g, i, none⟩ u) B vs ls := by
  refine ⟨h.len, fun q v l h1 h2 => ?_, fun v hv q hq => ?_, h.apt⟩
  · obtain ⟨a, c, rfl, k1, k2, k3, k4⟩ := (h.ob q v l h1 h2).is
    refine ⟨a, c, rfl, k1, k2, k3, ?_⟩
    rcases k4 with k4 | ⟨g1, rfl, hb, hr⟩
    · exact .inl k4
    · refine .inr ⟨g1, rfl, hb, hr.of_block (Below.heap_setCell _ _ _ _ (fun e => ?_))⟩
      rcases k with k | ⟨g2, cur2, ea2, hb2, hg2, hc2⟩
      · subst k; simp at hy
      · cases ea2
        obtain ⟨c0, hb0, -, -⟩ := hr
        have e' : g1 = g := e
        rw [e', hg2] at hb0
        cases hb0
        exact hT rfl
  · have := h.lt v hv q hq
    exact ⟨this.1, by simpa using this.2⟩
end Go.Proofs.Ytdhfbblameiloaa

/-
  What the law's own helpers over bytes come to: toByteS copies into a new row, eqByteS answers true where both read alike. For every slice of bytes that reads.
-/
namespace Go.Proofs.Ytdhfbblameiloaa
open Go.RowKit
set_option maxRecDepth 4000

/-- k of the n bytes are copied into the new row. -/
structure Copied (w wr : World) (n : Nat) (f : Nat → Int) (k : Nat) : Prop where
  below : Below w.heap.size w wr
  size : wr.heap.size = w.heap.size + 1
  row : wr.rowIs w.heap.size 5 n (fun i => .int .u8 (if i < k then f i else 0))

theorem copied_start (w : World) (n : Nat) (f : Nat → Int) : Copied w (w.alloc (.cells (madeCells #[.int .u8 0] n) 5)) n f 0 :=
  ⟨(Below.refl _ _).alloc (Nat.le_refl _) _, by simp, (World.rowIs_made w _ n 5).congr (fun i _ => by simp)⟩

theorem copied_step {w wr : World} {n : Nat} {f : Nat → Int} {k : Nat} (h : Copied w wr n f k) : Copied w (wr.setCell ⟨w.heap.size, k, none⟩ (.int .u8 (f k))) n f (k + 1) := by
  refine ⟨h.below.setCell (Nat.le_refl _) _, by simp [h.size], (h.row.set k _).congr (fun i _ => ?_)⟩
  by_cases e : i = k
  · subst e; simp
  · rw [if_neg e]
    by_cases hlt : i < k
    · rw [if_pos hlt, if_pos (by omega)]
    · rw [if_neg hlt, if_neg (by omega)]

theorem Copied.drew {w wr : World} {n : Nat} {f : Nat → Int} {k : Nat} (h : Copied w wr n f k) : Copied w wr.drew n f k := ⟨h.below.drew, h.size, h.row.drew⟩

set_option maxHeartbeats 400000 in
theorem toByteS_any (ao : Option Addr) (n cap : Nat) (f : Nat → Int) (w : World) (hv : View w ao n cap f) (hn : n ≤ 281474976710656) :
    Calls Try.prog 12 #[.slice ao n cap] w fun e w' => e = .returned (.slice (some ⟨w.heap.size, 0, none⟩) n n) ∧ w'.rowIs w.heap.size 5 n (fun i => .int .u8 (f i)) ∧ Below w.heap.size w w' ∧ w'.heap.size = w.heap.size + 1 := by
  have hmk := run_make_row' (P := Try.prog) 27 5 (.int .u8 0) 1 Try.underlying27 Try.info5 rfl .i64 .i64 n (by omega) (by omega)
  go_enter Try.func12, Try.ntmps12
  go_wp2
  clear hmk
  go_loopg [4] n (fun g i wr => ∃ k : Nat, k ≤ n ∧ g = n - k ∧ i = .int .i64 k ∧ Copied w wr n f k)
  case atStart => exact ⟨0, Nat.zero_le _, rfl, rfl, copied_start w n f⟩
  case round =>
    obtain ⟨k, hk, rfl, rfl, hC⟩ := hrel
    by_cases hlt : k < n
    · obtain ⟨b, off, rfl, hb, hc⟩ := hv.cells (by omega)
      have hkz : (k : Int) < (n : Int) := by omega
      have hc1 : wr.cell? ⟨b, off + k, none⟩ = some (.int .u8 (f k)) := by rw [hC.below.cell (p := ⟨b, off + k, none⟩) hb]; exact hc k hlt
      have hc2 : wr.cell? ⟨w.heap.size, k, none⟩ = some (.int .u8 (if k < k then f k else 0)) := hC.row.cell hlt
      have hf2 := hC.row.frozen k
      have hS : Hid (Copied w (wr.setCell ⟨w.heap.size, k, none⟩ (.int .u8 (f k))) n f (k + 1)) := copied_step hC
      clear hC hc
      go_wp2
      go_roundg (n - (k + 1))
      case measure => omega
      case rel => exact ⟨k + 1, by omega, rfl, by go_num, hS.out⟩
    · have hkn : k = n := by omega
      have hF : wr.rowIs w.heap.size 5 n (fun i => .int .u8 (f i)) := hC.row.congr (fun i hi => by rw [if_pos (by omega)])
      go_wp2
      go_ret
      exact ⟨rfl, hF, hC.below, hC.size⟩

end Go.Proofs.Ytdhfbblameiloaa

