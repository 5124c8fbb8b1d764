/-
  Together: DiskOwn, PutBytes, PutNums, TextPlain, PutTextImpl, RowZ, OwnZ, EqBytes
-/
import Derived.Test.YtphipmhibegbnaaPkR1
import Derived.WalkSpells
import Derived.Lib.AppendStr
import Derived.Laws.IdiomStrings
/-
  Disks of the call's own: rows that may be written, byte rows that lie apart.
-/
namespace Go.Proofs.Ytphipmhibegbnaa
open Go.RowKit
set_option maxRecDepth 4000

theorem flat_get {α β : Type} (f : α → List β) (c : Nat) (hf : ∀ x, (f x).length = c) : ∀ (l : List α) (i j : Nat), j < c → (l.flatMap f)[i * c + j]? = (l[i]?).bind (fun x => (f x)[j]?)
  | [], i, j, _ => by simp
  | x :: l, 0, j, hj => by
    rw [List.flatMap_cons, Nat.zero_mul, Nat.zero_add, List.getElem?_append_left (by rw [hf]; exact hj)]
    simp
  | x :: l, i + 1, j, hj => by
    rw [List.flatMap_cons, List.getElem?_append_right (by rw [hf, Nat.add_mul]; omega), hf]
    have e : (i + 1) * c + j - c = i * c + j := by rw [Nat.add_mul]; omega
    rw [e, flat_get f c hf l i j hj]
    simp
theorem flat_len {α β : Type} (f : α → List β) (c : Nat) (hf : ∀ x, (f x).length = c) : ∀ (l : List α), (l.flatMap f).length = l.length * c
  | [] => by simp
  | x :: l => by rw [List.flatMap_cons, List.length_append, hf, flat_len f c hf l, List.length_cons, Nat.add_mul]; omega
/-- The cells of writes, whose bytes are these slices; of faults. -/
def wEl (p : Int × Value) : List Value := [.int .i64 p.1, p.2]
def fEl (x : PFault) : List Value := [.int .i64 x.pos, .int .i64 x.keep, .int .i64 x.cut]
def wcells (l : List (Int × List Int)) (cs : List Value) : List Value := ((l.map (·.1)).zip cs).flatMap wEl
def fcells (l : List PFault) : List Value := l.flatMap fEl
theorem zip_get {l : List (Int × List Int)} {cs : List Value} {i : Nat} {x : Int × List Int} {v : Value} (h1 : l[i]? = some x) (h2 : cs[i]? = some v) : ((l.map (·.1)).zip cs)[i]? = some (x.1, v) := by
  simp [List.getElem?_zip_eq_some, h1, h2]
theorem wcells_get {l : List (Int × List Int)} {cs : List Value} {i : Nat} {x : Int × List Int} {v : Value} (h1 : l[i]? = some x) (h2 : cs[i]? = some v) : (wcells l cs)[i * 2]? = some (.int .i64 x.1) ∧ (wcells l cs)[i * 2 + 1]? = some v := by
  have e := zip_get h1 h2
  have g0 := flat_get wEl 2 (fun _ => rfl) ((l.map (·.1)).zip cs) i 0 (by decide)
  have g1 := flat_get wEl 2 (fun _ => rfl) ((l.map (·.1)).zip cs) i 1 (by decide)
  rw [e] at g0 g1
  exact ⟨g0, g1⟩
theorem fcells_get {l : List PFault} {i j : Nat} {x : PFault} (h1 : l[i]? = some x) (hj : j < 3) : (fcells l)[i * 3 + j]? = (fEl x)[j]? := by
  have g0 := flat_get fEl 3 (fun _ => rfl) l i j hj
  rw [h1] at g0
  exact g0

/-- Bytes of the call's own. -/
structure OB (w : World) (B : Nat) (v : Value) (l : List Int) : Prop where
  is : ∃ a c, v = .slice a l.length c ∧ l.length ≤ c ∧ (a = none → c = 0) ∧ (∀ x ∈ l, 0 ≤ x ∧ x ≤ 255) ∧ (l = [] ∨ ∃ g, a = some ⟨g, 0, none⟩ ∧ B ≤ g ∧ Row 5 w g l.length (bf l))
/-- Two slices do not share a block. -/
def Apt (u v : Value) : Prop := ∀ g, u.ownBlock = some g → v.ownBlock = some g → False
/-- Byte rows of the call's own, each by itself. -/
structure Bs (w : World) (B : Nat) (vs : List Value) (ls : List (List Int)) : Prop where
  len : vs.length = ls.length
  ob : ∀ (i : Nat) v l, vs[i]? = some v → ls[i]? = some l → OB w B v l
  lt : ∀ v, v ∈ vs → ∀ g, v.ownBlock = some g → B ≤ g ∧ g < w.heap.size
  apt : vs.Pairwise Apt
/-- A row of the call's own with (at least) these cells. -/
def RL (T : TypeId) (w : World) (B : Nat) (a : Option Addr) (xs : List Value) : Prop := xs = [] ∨ ∃ g cur, a = some ⟨g, 0, none⟩ ∧ B ≤ g ∧ w.heap[g]? = some (.cells cur T (0, 0)) ∧ ∀ (i : Nat) u, xs[i]? = some u → cur[i]? = some u
/-- A disk of the call's own. -/
structure KO (w : World) (B : Nat) (sa : Option Addr) (sc : Nat) (ca : Option Addr) (cc : Nat) (fa : Option Addr) (fc : Nat) (ss cs : List Value) (D : PDisk) : Prop where
  sle : D.secs.length ≤ sc
  snil : sa = none → sc = 0
  cle : D.cache.length ≤ cc
  cnil : ca = none → cc = 0
  fle : D.faults.length ≤ fc
  fnil : fa = none → fc = 0
  ns : ss.length = D.secs.length
  nc : cs.length = D.cache.length
  secs : RL 28 w B sa ss
  cache : RL 59 w B ca (wcells D.cache cs)
  faults : RL 78 w B fa (fcells D.faults)
  bytes : Bs w B (ss ++ cs) (D.secs ++ D.cache.map (·.2))
def dval (D : PDisk) (sa : Option Addr) (sc : Nat) (ca : Option Addr) (cc : Nat) (fa : Option Addr) (fc : Nat) : Value := .agg #[.slice sa D.secs.length sc, .slice ca D.cache.length cc, .int .i64 D.ops, .slice fa D.faults.length fc, .bool D.down]
def KOwn (w : World) (B : Nat) (v : Value) (D : PDisk) : Prop := ∃ sa sc ca cc fa fc ss cs, v = dval D sa sc ca cc fa fc ∧ KO w B sa sc ca cc fa fc ss cs D

/-- What was there from B on is there. -/
def Up (B : Nat) (w w' : World) : Prop := w.heap.size ≤ w'.heap.size ∧ ∀ k, B ≤ k → k < w.heap.size → w'.heap[k]? = w.heap[k]?
theorem Up.ofBelow {B : Nat} {w w' : World} (h : Below w.heap.size w w') : Up B w w' := ⟨h.size, fun k _ hk => h.block k hk⟩
theorem OB.up {w w' : World} {B : Nat} {v : Value} {l : List Int} (h : OB w B v l) (hu : Up B w w') : OB w' B v l := by
  obtain ⟨a, c, e, h1, h2, h3, h4⟩ := h.is
  refine ⟨a, c, e, h1, h2, h3, ?_⟩
  rcases h4 with h4 | ⟨g, ea, hb, hr⟩
  · exact .inl h4
  · exact .inr ⟨g, ea, hb, hr.of_block (hu.2 g hb hr.lt)⟩
theorem RL.up {T : TypeId} {w w' : World} {B : Nat} {a : Option Addr} {xs : List Value} (h : RL T w B a xs) (hu : Up B w w') : RL T w' B a xs := by
  rcases h with h | ⟨g, cur, ea, hb, hg, hc⟩
  · exact .inl h
  · exact .inr ⟨g, cur, ea, hb, (hu.2 g hb (Array.getElem?_eq_some_iff.1 hg).1).trans hg, hc⟩
theorem Bs.up {w w' : World} {B : Nat} {vs : List Value} {ls : List (List Int)} (h : Bs w B vs ls) (hu : Up B w w') : Bs w' B vs ls :=
  ⟨h.len, fun i v l h1 h2 => (h.ob i v l h1 h2).up hu, fun v hv g hg => ⟨(h.lt v hv g hg).1, Nat.lt_of_lt_of_le (h.lt v hv g hg).2 hu.1⟩, h.apt⟩
theorem KO.up {w w' : World} {B : Nat} {sa : Option Addr} {sc : Nat} {ca : Option Addr} {cc : Nat} {fa : Option Addr} {fc : Nat} {ss cs : List Value} {D : PDisk} (h : KO w B sa sc ca cc fa fc ss cs D) (hu : Up B w w') : KO w' B sa sc ca cc fa fc ss cs D :=
  ⟨h.sle, h.snil, h.cle, h.cnil, h.fle, h.fnil, h.ns, h.nc, h.secs.up hu, h.cache.up hu, h.faults.up hu, h.bytes.up hu⟩
theorem KOwn.up {w w' : World} {B : Nat} {v : Value} {D : PDisk} (h : KOwn w B v D) (hu : Up B w w') : KOwn w' B v D := by
  obtain ⟨sa, sc, ca, cc, fa, fc, ss, cs, e, hk⟩ := h
  exact ⟨sa, sc, ca, cc, fa, fc, ss, cs, e, hk.up hu⟩
theorem KOwn.below {w w' : World} {B : Nat} {v : Value} {D : PDisk} (h : KOwn w B v D) (hb : Below w.heap.size w w') : KOwn w' B v D := h.up (Up.ofBelow hb)
theorem OB.mono {w : World} {B B' : Nat} {v : Value} {l : List Int} (h : OB w B v l) (hB : B' ≤ B) : OB w B' v l := by
  obtain ⟨a, c, e, h1, h2, h3, h4⟩ := h.is
  refine ⟨a, c, e, h1, h2, h3, ?_⟩
  rcases h4 with h4 | ⟨g, ea, hb, hr⟩
  · exact .inl h4
  · exact .inr ⟨g, ea, by omega, hr⟩
theorem RL.mono {T : TypeId} {w : World} {B B' : Nat} {a : Option Addr} {xs : List Value} (h : RL T w B a xs) (hB : B' ≤ B) : RL T w B' a xs := by
  rcases h with h | ⟨g, cur, ea, hb, hg, hc⟩
  · exact .inl h
  · exact .inr ⟨g, cur, ea, by omega, hg, hc⟩
theorem Bs.mono {w : World} {B B' : Nat} {vs : List Value} {ls : List (List Int)} (h : Bs w B vs ls) (hB : B' ≤ B) : Bs w B' vs ls := ⟨h.len, fun i v l h1 h2 => (h.ob i v l h1 h2).mono hB, fun v hv g hg => ⟨Nat.le_trans hB (h.lt v hv g hg).1, (h.lt v hv g hg).2⟩, h.apt⟩

theorem OB.lv {w : World} {B : Nat} {v : Value} {l : List Int} (h : OB w B v l) : LV w v l := by
  obtain ⟨a, c, e, h1, h2, h3, h4⟩ := h.is
  refine ⟨a, c, e, ⟨h1, fun i hi => ?_, fun hn => ?_⟩, h2⟩
  · have : bf l i = l[i] := by simp [bf, hi]
    rw [this]
    exact h3 _ (List.getElem_mem hi)
  · rcases h4 with h4 | ⟨g, ea, hb, hr⟩
    · subst h4; simp at hn
    · exact ⟨g, 0, ea, hr.lt, fun i hi => by rw [Nat.zero_add]; exact hr.cell hi⟩
theorem RL.cell {T : TypeId} {w : World} {B : Nat} {a : Option Addr} {xs : List Value} (h : RL T w B a xs) (hn : 0 < xs.length) : ∃ g, a = some ⟨g, 0, none⟩ ∧ B ≤ g ∧ g < w.heap.size ∧ ∀ (i : Nat) u, xs[i]? = some u → w.cell? ⟨g, i, none⟩ = some u := by
  rcases h with h | ⟨g, cur, ea, hb, hg, hc⟩
  · subst h; simp at hn
  · exact ⟨g, ea, hb, (Array.getElem?_eq_some_iff.1 hg).1, fun i u hi => by simp [World.cell?, hg, hc i u hi]⟩
theorem KO.view {w : World} {B : Nat} {sa : Option Addr} {sc : Nat} {ca : Option Addr} {cc : Nat} {fa : Option Addr} {fc : Nat} {ss cs : List Value} {D : PDisk} (h : KO w B sa sc ca cc fa fc ss cs D) : SView w sa sc D.secs ∧ WView w ca cc D.cache ∧ FView w fa fc D.faults := by
  refine ⟨⟨h.sle, h.snil, fun hn => ?_⟩, ⟨h.cle, h.cnil, fun hn => ?_⟩, ⟨h.fle, h.fnil, fun hn => ?_⟩⟩
  · obtain ⟨g, ea, -, hlt, hc⟩ := h.secs.cell (by rw [h.ns]; exact hn)
    refine ⟨g, 0, ea, hlt, fun i x hi => ?_⟩
    have hi' : i < ss.length := by rw [h.ns]; exact (List.getElem?_eq_some_iff.1 hi).1
    have hv := List.getElem?_eq_getElem hi'
    refine ⟨[ss[i]], ⟨ss[i], rfl, (h.bytes.ob i _ x ?_ ?_).lv⟩, fun j u hj => ?_⟩
    · rw [List.getElem?_append_left hi']; exact hv
    · rw [List.getElem?_append_left (by rw [← h.ns]; exact hi')]; exact hi
    · match j, hj with
      | 0, hj => cases hj; simpa using hc i _ hv
  · have hl : (wcells D.cache cs).length = D.cache.length * 2 := by
      unfold wcells
      rw [flat_len wEl 2 (fun _ => rfl), List.length_zip, List.length_map, h.nc, Nat.min_self]
    obtain ⟨g, ea, -, hlt, hc⟩ := h.cache.cell (by omega)
    refine ⟨g, 0, ea, hlt, fun i x hi => ?_⟩
    have hi1 := (List.getElem?_eq_some_iff.1 hi).1
    have hi' : i < cs.length := by rw [h.nc]; exact hi1
    have hv := List.getElem?_eq_getElem hi'
    obtain ⟨g0, g1⟩ := wcells_get hi hv
    refine ⟨[.int .i64 x.1, cs[i]], ⟨cs[i], rfl, (h.bytes.ob (ss.length + i) _ x.2 ?_ ?_).lv⟩, fun j u hj => ?_⟩
    · rw [List.getElem?_append_right (by omega), Nat.add_sub_cancel_left]; exact hv
    · rw [h.ns, List.getElem?_append_right (by omega), Nat.add_sub_cancel_left]; simp [hi]
    · match j, hj with
      | 0, hj => cases hj; simpa using hc _ _ g0
      | 1, hj => cases hj; simpa using hc _ _ g1
  · have hl : (fcells D.faults).length = D.faults.length * 3 := flat_len fEl 3 (fun _ => rfl) _
    obtain ⟨g, ea, -, hlt, hc⟩ := h.faults.cell (by omega)
    refine ⟨g, 0, ea, hlt, fun i x hi => ⟨fEl x, rfl, fun j u hj => ?_⟩⟩
    have hj3 : j < 3 := (List.getElem?_eq_some_iff.1 hj).1
    have g0 := fcells_get hi hj3
    rw [hj] at g0
    simpa using hc _ _ g0
theorem KOwn.view {w : World} {B : Nat} {v : Value} {D : PDisk} (h : KOwn w B v D) : KView w v D := by
  obtain ⟨sa, sc, ca, cc, fa, fc, ss, cs, e, hk⟩ := h
  obtain ⟨h1, h2, h3⟩ := hk.view
  exact ⟨sa, sc, ca, cc, fa, fc, e, h1, h2, h3⟩

/-- One more byte row, a new one. -/
theorem Bs.push {w : World} {B : Nat} {vs : List Value} {ls : List (List Int)} (h : Bs w B vs ls) {v : Value} {l : List Int} (hb : OB w B v l) (hv : ∀ g, v.ownBlock = some g → (B ≤ g ∧ g < w.heap.size) ∧ ∀ u ∈ vs, u.ownBlock ≠ some g) : Bs w B (vs ++ [v]) (ls ++ [l]) := by
  refine ⟨by simp [h.len], fun i u x h1 h2 => ?_, fun u hu g hg => ?_, ?_⟩
  · by_cases hi : i < vs.length
    · rw [List.getElem?_append_left hi] at h1
      rw [List.getElem?_append_left (by rw [← h.len]; exact hi)] at h2
      exact h.ob i u x h1 h2
    · rw [List.getElem?_append_right (by omega)] at h1
      rw [List.getElem?_append_right (by rw [← h.len]; omega)] at h2
      have e0 : i - vs.length = 0 := by
        have := (List.getElem?_eq_some_iff.1 h1).1
        simp at this; omega
      rw [← h.len] at h2
      rw [e0] at h1 h2
      simp at h1 h2
      subst h1 h2
      exact hb
  · rcases List.mem_append.1 hu with hu | hu
    · exact h.lt u hu g hg
    · simp at hu; subst hu
      exact (hv g hg).1
  · rw [List.pairwise_append]
    refine ⟨h.apt, by simp, fun a ha b hb' => ?_⟩
    simp at hb'; subst hb'
    intro g h1 h2
    exact (hv g h2).2 a ha h1
theorem Bs.nil (w : World) (B : Nat) : Bs w B [] [] := ⟨rfl, fun i v l h => by simp at h, fun v hv => by simp at hv, List.Pairwise.nil⟩
/-- What came behind is new to what was there. -/
theorem Bs.newer {w : World} {B : Nat} {vs : List Value} {ls : List (List Int)} (h : Bs w B vs ls) {g : Nat} (hg : w.heap.size ≤ g) : ∀ u ∈ vs, u.ownBlock ≠ some g := by
  intro u hu e
  have := (h.lt u hu g e).2
  omega
/-- Rows, and rows that came behind them. -/
theorem Bs.app {w : World} {B B' : Nat} {vs us : List Value} {ls ms : List (List Int)} (h : Bs w B vs ls) (k : Bs w B' us ms) (hB : B ≤ B') (hlt : ∀ v, v ∈ vs → ∀ g, v.ownBlock = some g → g < B') : Bs w B (vs ++ us) (ls ++ ms) := by
  refine ⟨by simp [h.len, k.len], fun i u x h1 h2 => ?_, fun u hu g hg => ?_, ?_⟩
  · by_cases hi : i < vs.length
    · rw [List.getElem?_append_left hi] at h1
      rw [List.getElem?_append_left (by rw [← h.len]; exact hi)] at h2
      exact h.ob i u x h1 h2
    · rw [List.getElem?_append_right (by omega)] at h1
      rw [List.getElem?_append_right (by rw [← h.len]; omega), ← h.len] at h2
      exact (k.ob _ u x h1 h2).mono hB
  · rcases List.mem_append.1 hu with hu | hu
    · exact h.lt u hu g hg
    · have := k.lt u hu g hg
      exact ⟨by omega, this.2⟩
  · rw [List.pairwise_append]
    refine ⟨h.apt, k.apt, fun a ha b hb g h1 h2 => ?_⟩
    have h3 := hlt a ha g h1
    have h4 := (k.lt b hb g h2).1
    omega
/-- A cell of a block below is written. -/
theorem Up.set {B C i : Nat} {w : World} {u : Value} (h : C < B) : Up B w (w.setCell ⟨C, i, none⟩ u) := ⟨by simp, fun k hk _ => Below.heap_setCell _ _ _ _ (show k ≠ C by omega)⟩
theorem Up.refl (B : Nat) (w : World) : Up B w w := ⟨Nat.le_refl _, fun _ _ _ => rfl⟩
theorem Up.trans {B : Nat} {a b c : World} (h : Up B a b) (k : Up B b c) : Up B a c := ⟨Nat.le_trans h.1 k.1, fun i hi hl => (k.2 i hi (Nat.lt_of_lt_of_le hl h.1)).trans (h.2 i hi hl)⟩
theorem OB.ofIs {w : World} {B g : Nat} {l : List Int} (h : w.rowIs g 5 l.length (fun i => .int .u8 (bf l i))) (hB : B ≤ g) (hb : ∀ i, i < l.length → 0 ≤ bf l i ∧ bf l i ≤ 255) : OB w B (.slice (some ⟨g, 0, none⟩) l.length l.length) l := by
  refine ⟨_, _, rfl, Nat.le_refl _, (fun e => by cases e), fun x hx => ?_, .inr ⟨g, rfl, hB, Row.ofIs h⟩⟩
  obtain ⟨i, hi, rfl⟩ := List.getElem_of_mem hx
  have := hb i hi
  have e : bf l i = l[i] := by simp [bf, hi]
  rw [e] at this
  exact this

/-- A variable of several cells. -/
def VN (w : World) (B : Nat) (T : TypeId) (xs : List Value) : Prop := w.heap[B]? = some (.cells ⟨xs⟩ T (0, 0))
theorem VN.new (w : World) (T : TypeId) (xs : List Value) : VN (w.alloc (.cells ⟨xs⟩ T)) w.heap.size T xs := by unfold VN; show (w.heap.push _)[w.heap.size]? = _; simp
theorem VN.lt {w : World} {B : Nat} {T : TypeId} {xs : List Value} (h : VN w B T xs) : B < w.heap.size := (Array.getElem?_eq_some_iff.1 h).1
theorem VN.block {w w' : World} {B : Nat} {T : TypeId} {xs : List Value} (h : VN w B T xs) (e : w'.heap[B]? = w.heap[B]?) : VN w' B T xs := e.trans h
theorem VN.below {w w' : World} {B : Nat} {T : TypeId} {xs : List Value} (h : VN w B T xs) (hb : Below w.heap.size w w') : VN w' B T xs := h.block (hb.block B h.lt)
theorem VN.other {w : World} {B C i : Nat} {T : TypeId} {xs : List Value} {u : Value} (h : VN w B T xs) (hne : B ≠ C) : VN (w.setCell ⟨C, i, none⟩ u) B T xs := h.block (Below.heap_setCell _ _ _ _ hne)
theorem VN.cell {w : World} {B : Nat} {T : TypeId} {xs : List Value} (h : VN w B T xs) (i : Nat) : w.cell? ⟨B, i, none⟩ = xs[i]? := by
  unfold VN at h
  simp [World.cell?, h]
theorem VN.fz {w : World} {B : Nat} {T : TypeId} {xs : List Value} (h : VN w B T xs) (i : Nat) : w.frozen? ⟨B, i, none⟩ = false := by
  unfold VN at h
  simp [World.frozen?, h]
theorem VN.set {w : World} {B : Nat} {T : TypeId} {xs : List Value} (h : VN w B T xs) (i : Nat) (u : Value) : VN (w.setCell ⟨B, i, none⟩ u) B T (xs.set i u) := by
  unfold VN at h ⊢
  simp [World.setCell, Array.getElem?_modify, h]
end Go.Proofs.Ytphipmhibegbnaa

/-
  The program's putBytes: both slices of bytes, one behind the other, in one new row that holds just them.
-/
namespace Go.Proofs.Ytphipmhibegbnaa
open Go.RowKit
set_option maxRecDepth 4000

theorem cells_of_any {w : World} {ao : Option Addr} {n cap : Nat} {f : Nat → Int} (h : View w ao n cap f) : ∀ ad, ao = some ad → ∀ j u, (bl (lof n f))[j]? = some u → w.cell? (ad.add j) = some u := by
  rintro ad rfl j u hu
  have hj : j < n := by
    by_cases hj : j < n
    · exact hj
    · rw [List.getElem?_eq_none (by rw [bl_len, lof_len]; omega)] at hu; cases hu
  obtain ⟨b', off', e, _, _⟩ := h.cells (by omega)
  simp only [Option.some.injEq] at e
  subst e
  exact cells_of_view h j u hu

theorem below_new {w w1 : World} (h : w.grownBy w1 none) : Below w.heap.size w w1 := (Below.refl _ _).grown h (Nat.le_refl _) (by intro k hk; cases hk)
theorem below_app {w w1 w2 : World} (h : w.grownBy w1 none) (h2 : w1.grownBy w2 (some w.heap.size)) : Below w.heap.size w w2 :=
  (below_new h).grown h2 h.size (by intro k hk; cases hk; exact Nat.le_refl _)

set_option maxHeartbeats 1000000 in
theorem putBytes_any (b off n cap : Nat) (f : Nat → Int) (ao : Option Addr) (m c : Nat) (g : Nat → Int) (w : World) (hv : View w (some ⟨b, off, none⟩) n cap f) (hg : View w ao m c g) (hno : ao = none → m = 0 ∧ c = 0) (hn : n + m ≤ 70368744177664) :
    Calls Try.prog 39 #[.slice (some ⟨b, off, none⟩) n cap, .slice ao m c] w fun e w' => e = .returned (.slice (some ⟨w.heap.size, 0, none⟩) (n + m) (n + m)) ∧ w'.ownsRow w.heap.size 5 1 (.slice (some ⟨w.heap.size, 0, none⟩) (n + m) (n + m)) (n + m) (bl (lof n f ++ lof m g)) ∧ Below w.heap.size w w' := by
  obtain ⟨i0, hi, hz0, hz1, hz2⟩ := info_parts Try.info5
  go_enter Try.func39, Try.ntmps39
  go_wp2_with (first | (at_make; go_must (refine wpList_make_own _ rfl (.const (.int .i64 0)) (.tmp 10) 28 rfl w.heap.size 5 i0 (.int .u8 0) 1 Try.underlying28 hi hz0 hz1 .i64 .i64 ((n : Int) + (m : Int)) (n + m) rfl rfl (by omega) (by rw [hz2]; omega) (by unfold maxLen; omega) (Nat.le_refl _) ?_); intro w1 hown1 hgr1) | (at_builtin; refine wpList_append_fits_any _ rfl (.tmp 12) (.tmp 13) 28 rfl w.heap.size 5 i0 1 Try.underlying28 hi hz1 w.heap.size 0 (n + m) [] rfl hown1 (some ⟨b, off, none⟩) n cap (bl (lof n f)) rfl (by rw [bl_len, lof_len]; omega) (by intro h; cases h) (cells_of_any (hv.below (below_new hgr1))) (bl_one _) (by omega) ?_; intro w2 hown2 hgr2; simp only [Nat.zero_add, List.nil_append] at hown2) | (at_builtin; refine wpList_append_fits_any _ rfl (.tmp 15) (.tmp 16) 28 rfl w.heap.size 5 i0 1 Try.underlying28 hi hz1 w.heap.size n (n + m) (bl (lof n f)) rfl hown2 ao m c (bl (lof m g)) rfl (by rw [bl_len, lof_len]; omega) hno (cells_of_any (hg.below (below_app hgr1 hgr2))) (bl_one _) (by omega) ?_; intro w3 hown3 hgr3))
  go_ret
  exact ⟨rfl, by rw [bl_append]; exact hown3, (below_app hgr1 hgr2).grown hgr3 (Nat.le_trans hgr1.size hgr2.size) (by intro k hk; cases hk; exact Nat.le_refl _)⟩
end Go.Proofs.Ytphipmhibegbnaa

/-
  The program's putNumbers at one number: what was there, and behind it the number's groups, in memory of its own.
-/
namespace Go.Proofs.Ytphipmhibegbnaa
open Go.RowKit
set_option maxRecDepth 4000

set_option maxHeartbeats 1000000 in
theorem putNums_one (b off n cap : Nat) (f : Nat → Int) (x : Int) (b2 : Nat) (w : World) (hv : View w (some ⟨b, off, none⟩) n cap f) (hn : n ≤ 35184372088832) (hx0 : -9223372036854775808 ≤ x) (hx1 : x ≤ 9223372036854775807)
    (hx : w.cell? ⟨b2, 0, none⟩ = some (.int .i64 x)) :
    Calls Try.prog 92 #[.slice (some ⟨b, off, none⟩) n cap, .slice (some ⟨b2, 0, none⟩) 1 1] w fun e w' => ∃ g c, e = .returned (.slice (some ⟨g, 0, none⟩) (n + (groups (clampN x)).length) c) ∧ w.heap.size ≤ g ∧ n + (groups (clampN x)).length ≤ c ∧ Row 5 w' g (n + (groups (clampN x)).length) (fun i => (lof n f ++ groups (clampN x)).getD i 0) ∧ Below w.heap.size w w' := by
  obtain ⟨i0, hi, hz0, hz1, hz2⟩ := info_parts Try.info5
  go_enter Try.func92, Try.ntmps92
  go_wp2
  refine wp_loop_rounds 2 ?_
  rw [rounds_succ]
  go_wp2
  all_goals
    go_loopg [5, 8] (clampN x).toNat (fun g v s wr => ∃ (y : Int) (ys : List Int), s = .int .i64 y ∧ 0 ≤ y ∧ y ≤ 1000000 ∧ g = y.toNat ∧ groups (clampN x) = ys ++ groups y ∧ wr.ownsRow w.heap.size 5 1 v ys.length (bl ys) ∧ Below w.heap.size w wr)
    case atStart => exact ⟨clampN x, [], congrArg (Value.int .i64) (by unfold clampN; split <;> (try split) <;> omega), (clampN_bd x).1, (clampN_bd x).2, rfl, rfl, World.ownsRow_nil _ _ _ _, Below.refl _ _⟩
    case round =>
      obtain ⟨y, ys, rfl, hy0, hy1, rfl, hgr, hown, hB⟩ := hrel
      have HG : Hid (groups (clampN x) = ys ++ groups y) := hgr
      have hlen : ys.length ≤ 3 := by have := groups_len (clampN x); rw [hgr] at this; simp at this; have := groups_len y; omega
      clear hgr
      by_cases hlt : y < 128
      · go_wp2_with (first | (at_builtin; go_must (refine wpList_append_own _ rfl (.tmp 29) (.tmp 32) 28 rfl w.heap.size 5 i0 (.int .u8 0) 1 1 Try.underlying28 hi hz0 hz1 hz2 rfl (by decide) u5 _ _ rfl (hown.alloc _) ⟨wr.heap.size, 0, none⟩ 1 1 [.int .u8 y] rfl rfl (cellNew _ _ _) (bl_one [y]) (by unfold maxLen; omega) (by omega) (by have := hB.size; simp; omega) ?_); intro v2 w2 hown2 hgr2 _))
        have hB2 : Below w.heap.size w w2 := (hB.alloc hB.size _).grown hgr2 (by have := hB.size; simp; omega) (fun k hk => (hown.lt k hk).1)
        have hO2 : w2.ownsRow w.heap.size 5 1 v2 (groups (clampN x)).length (bl (groups (clampN x))) := by
          rw [HG.out, groups_last y hlt, List.length_append, bl_append]
          exact hown2
        clear hgr2 hown hown2 hB
        obtain ⟨g, c, hv2, hg, hgc, hrow⟩ := row_of_own hO2 (groups_len (clampN x)).1
        clear hO2
        have HL : Hid ((groups (clampN x)).length ≤ 3) := (groups_len (clampN x)).2
        have HB : Hid (∀ i, i < (groups (clampN x)).length → 0 ≤ (groups (clampN x)).getD i 0 ∧ (groups (clampN x)).getD i 0 ≤ 255) := fun i hi => by
          have := groups_byte (clampN x) (clampN_bd x).1 (clampN_bd x).2 _ (List.getElem_mem hi)
          simpa [hi] using this
        generalize hgs : groups (clampN x) = gs at *
        have HE : Hid (groups (clampN x) = gs) := hgs
        clear hgs HG
        rw [hv2]
        clear hv2
        go_wp2
        rw [rounds_succ]
        go_wp2_with fail
        refine (putBytes_any b off n cap f (some ⟨g, 0, none⟩) gs.length c (fun i => gs.getD i 0) w2 (hv.below hB2) (hrow.view hgc HB.out) (by intro h; cases h) (by have := HL.out; omega)).mono ?_
        rintro e w3 ⟨rfl, hown3, hb3⟩
        go_wp2
        go_ret
        rw [lof_self] at hown3
        rw [HE.out]
        exact ⟨w2.heap.size, n + gs.length, rfl, hB2.size, Nat.le_refl _, row_of_owned hown3, hB2.trans (hb3.mono hB2.size)⟩
      · have hG2 : Hid (groups (clampN x) = (ys ++ [y % 128 + 128]) ++ groups (y / 128)) := by
          have := HG.out
          rw [groups_step y (by omega) hy1] at this
          rw [List.append_assoc]; exact this
        go_wp2_with (at_builtin; go_must (refine wpList_append_own _ rfl (.tmp 20) (.tmp 25) 28 rfl w.heap.size 5 i0 (.int .u8 0) 1 1 Try.underlying28 hi hz0 hz1 hz2 rfl (by decide) u5 _ _ rfl (hown.alloc _) ⟨wr.heap.size, 0, none⟩ 1 1 [.int .u8 (y % 128 + 128)] rfl rfl (cellNew _ _ _) (bl_one [y % 128 + 128]) (by unfold maxLen; omega) (by omega) (by have := hB.size; simp; omega) ?_); intro v2 w2 hown2 hgr2 _)
        have hB2 : Below w.heap.size w w2 := (hB.alloc hB.size _).grown hgr2 (by have := hB.size; simp; omega) (fun k hk => (hown.lt k hk).1)
        have hO2 : w2.ownsRow w.heap.size 5 1 v2 (ys ++ [y % 128 + 128]).length (bl (ys ++ [y % 128 + 128])) := by
          rw [List.length_append, bl_append]
          exact hown2
        clear hgr2 hown hown2 hB
        go_wp2
        go_roundg ((y / 128).toNat)
        case measure => omega
        case rel => exact ⟨y / 128, ys ++ [y % 128 + 128], rfl, by omega, by omega, rfl, hG2.out, hO2, hB2⟩

end Go.Proofs.Ytphipmhibegbnaa

/-
  A text's bytes as numbers; what is put of a text.
-/
namespace Go.Proofs.Ytphipmhibegbnaa
open Go.RowKit
set_option maxRecDepth 4000

/-- A text's bytes as numbers. -/
def sl (s : ByteArray) : List Int := s.data.toList.map (fun b => (b.toNat : Int))
theorem sl_len (s : ByteArray) : (sl s).length = s.size := by unfold sl; rw [List.length_map, Array.length_toList]; rfl
theorem sl_byte (s : ByteArray) : ∀ y ∈ sl s, 0 ≤ y ∧ y ≤ 255 := by
  intro y hy
  simp only [sl, List.mem_map] at hy
  obtain ⟨b, _, rfl⟩ := hy
  have := b.toNat_lt
  omega
theorem sl_cells (s : ByteArray) : Lib.strCells s = bl (sl s) := by simp [Lib.strCells, bl, sl]

/-- What is put: the bytes, the count's groups, the text. -/
def textL (n : Nat) (f : Nat → Int) (s : ByteArray) : List Int := lof n f ++ groups (clampN s.size) ++ sl s
theorem textL_len (n : Nat) (f : Nat → Int) (s : ByteArray) : (textL n f s).length = n + (groups (clampN s.size)).length + s.size := by
  unfold textL; rw [List.length_append, List.length_append, lof_len, sl_len]

end Go.Proofs.Ytphipmhibegbnaa

/-
  The program's PutText: what was there, the number of the text's bytes, and these, in memory of its own.
-/
namespace Go.Proofs.Ytphipmhibegbnaa
open Go.RowKit
set_option maxRecDepth 4000

/-- What '[]byte(s)' lays reads as the text's bytes. -/
theorem text_view (w : World) (s : ByteArray) (cap : Nat) (m : Nat × Nat) (hc : s.size ≤ cap) : View (w.alloc (.cells (bytesRow s cap) 5 m)) (some ⟨w.heap.size, 0, none⟩) s.size cap (fun i => (sl s).getD i 0) := by
  refine ⟨hc, fun i hi => ?_, fun _ => ⟨w.heap.size, 0, rfl, by simp, fun i hi => ?_⟩⟩
  · have hi' : i < (sl s).length := by rw [sl_len]; exact hi
    have := sl_byte s _ (List.getElem_mem hi')
    simpa [hi'] using this
  · have hi' : i < (sl s).length := by rw [sl_len]; exact hi
    have hd : i < s.data.size := hi
    have e1 : (bytesRow s cap)[i]? = some (.int .u8 ((sl s).getD i 0)) := by
      unfold bytesRow
      rw [Array.getElem?_append_left (by simpa using hd)]
      simp [sl]
      exact ⟨s.data[i], Array.getElem?_eq_getElem hd, by rw [Array.getElem?_eq_getElem hd]; rfl⟩
    rw [Nat.zero_add, World.cell?]
    rw [show (w.alloc (.cells (bytesRow s cap) 5 m)).heap[w.heap.size]? = some (.cells (bytesRow s cap) 5 m) from Deep.blk_alloc_new _ _]
    simp [e1]

set_option maxHeartbeats 1000000 in
theorem putText_impl (b off n cap : Nat) (f : Nat → Int) (s : ByteArray) (w : World) (hv : View w (some ⟨b, off, none⟩) n cap f) (hn : n ≤ 17592186044416) (hs : s.size ≤ 17592186044416) :
    Calls Try.prog 66 #[.slice (some ⟨b, off, none⟩) n cap, .string s] w fun e w' => ∃ g c, e = .returned (.slice (some ⟨g, 0, none⟩) (n + (groups (clampN s.size)).length + s.size) c) ∧ w.heap.size ≤ g ∧ n + (groups (clampN s.size)).length + s.size ≤ c ∧ Row 5 w' g (n + (groups (clampN s.size)).length + s.size) (fun i => (textL n f s).getD i 0) ∧ Below w.heap.size w w' := by
  have hgl := (groups_len (clampN s.size)).2
  have hgb : Hid (∀ y ∈ groups (clampN s.size), 0 ≤ y ∧ y ≤ 255) := groups_byte _ (clampN_bd _).1 (clampN_bd _).2
  obtain ⟨gs, hgs⟩ : ∃ gs, Hid (groups (clampN s.size) = gs) := ⟨_, rfl⟩
  rw [hgs.out] at hgl hgb
  have kc := fun w => run_bytes_of_string (P := Try.prog) w 9 28 5 s Try.underlying9 Try.underlying28 Try.underlying5
  go_enter Try.func66, Try.ntmps66
  go_wp2_with fail
  have hb1 : Below w.heap.size w (w.alloc (.cells #[.int .i64 (s.size : Int)] 3)) := (Below.refl _ _).alloc (Nat.le_refl _) _
  refine (putNums_one b off n cap f (s.size : Int) w.heap.size _ (hv.below hb1) (by omega) (by omega) (by omega) (by simp)).mono ?_
  rintro e w2 ⟨g, c, rfl, hg, hgc, hrow, hb2⟩
  rw [hgs.out] at hrow hgc ⊢
  replace hb2 := hb1.trans (hb2.mono (by simp))
  go_wp2_with fail
  obtain ⟨cp, hcp⟩ : ∃ cp, cp = grownCap w2 s.size 0 5 := ⟨_, rfl⟩
  have hge : s.size ≤ cp := by rw [hcp]; exact grownCap_ge _ _ _ _
  rw [← hcp]
  clear hcp kc
  have hb3 : Below w2.heap.size w2 (w2.alloc (.cells (bytesRow s cp) 5 ((bytesRow s cp).size, (bytesRow s cp).size + 1))).drew := ((Below.refl _ _).alloc (Nat.le_refl _) _).drew
  have hvt : View (w2.alloc (.cells (bytesRow s cp) 5 ((bytesRow s cp).size, (bytesRow s cp).size + 1))).drew (some ⟨w2.heap.size, 0, none⟩) s.size cp (fun i => (sl s).getD i 0) := (text_view w2 s cp _ hge).below (Below.refl _ _).drew
  refine (putBytes_any g 0 (n + gs.length) c _ (some ⟨w2.heap.size, 0, none⟩) s.size cp (fun i => (sl s).getD i 0) _ ((hrow.belowAll hb3).view hgc (put_byte n f gs hv.byte hgb.out)) hvt (by intro h; cases h) (by omega)).mono ?_
  rintro e w3 ⟨rfl, hown, hb4⟩
  have el1 : lof (n + gs.length) (fun i => (lof n f ++ gs).getD i 0) = lof n f ++ gs := by
    have := lof_self (lof n f ++ gs)
    rw [List.length_append, lof_len] at this
    exact this
  have el2 : lof s.size (fun i => (sl s).getD i 0) = sl s := by
    have := lof_self (sl s)
    rw [sl_len] at this
    exact this
  rw [el1, el2] at hown
  have hr := row_of_owned hown
  have hgr : w.heap.size ≤ (w2.alloc (.cells (bytesRow s cp) 5 ((bytesRow s cp).size, (bytesRow s cp).size + 1))).drew.heap.size := Nat.le_trans hb2.size hb3.size
  have hbb := hb2.trans ((hb3.mono hb2.size).trans (hb4.mono hgr))
  clear hown hb4 hb3 hvt el1 el2 hrow
  generalize (w2.alloc (.cells (bytesRow s cp) 5 ((bytesRow s cp).size, (bytesRow s cp).size + 1))).drew.heap.size = G at *
  go_wp2
  go_ret
  unfold textL
  rw [hgs.out]
  exact ⟨G, _, rfl, hgr, Nat.le_refl _, hr, hbb⟩
end Go.Proofs.Ytphipmhibegbnaa

/-
  Rows of bytes of the call's own, of which no cell that is read is frozen, whatever lies behind: what '[]byte(s)' lays is one.
-/
namespace Go.Proofs.Ytphipmhibegbnaa
open Go.RowKit
set_option maxRecDepth 4000

def RowZ (t : TypeId) (w : World) (b n : Nat) (f : Nat → Int) : Prop :=
  ∃ (c : Array Value) (z : Nat × Nat), w.heap[b]? = some (.cells c t z) ∧ n ≤ c.size ∧ (∀ i, i < n → w.frozen? ⟨b, i, none⟩ = false) ∧ ∀ i, i < n → c[i]? = some (.int .u8 (f i))
namespace RowZ
variable {t : TypeId} {w w' : World} {b n : Nat} {f g : Nat → Int}
theorem ofRow (h : Row t w b n f) : RowZ t w b n f := by
  have hz := h.frozen
  obtain ⟨c, hb, hn, hc⟩ := h
  exact ⟨c, _, hb, hn, fun i _ => hz i, hc⟩
theorem cell (h : RowZ t w b n f) {i : Nat} (hi : i < n) : w.cell? ⟨b, i, none⟩ = some (.int .u8 (f i)) := by
  obtain ⟨c, z, hb, _, _, hc⟩ := h
  simp [World.cell?, hb, hc i hi]
theorem frozen (h : RowZ t w b n f) {i : Nat} (hi : i < n) : w.frozen? ⟨b, i, none⟩ = false := by
  obtain ⟨c, z, hb, _, hz, _⟩ := h
  exact hz i hi
theorem lt (h : RowZ t w b n f) : b < w.heap.size := by
  obtain ⟨c, z, hb, _, _⟩ := h
  exact (Array.getElem?_eq_some_iff.1 hb).1
theorem congr (h : RowZ t w b n f) (e : ∀ i, i < n → f i = g i) : RowZ t w b n g := by
  obtain ⟨c, z, hb, hn, hz, hc⟩ := h
  exact ⟨c, z, hb, hn, hz, fun i hi => by rw [hc i hi, e i hi]⟩
theorem of_block (h : RowZ t w b n f) (e : w'.heap[b]? = w.heap[b]?) : RowZ t w' b n f := by
  obtain ⟨c, z, hb, hn, hz, hc⟩ := h
  refine ⟨c, z, e.trans hb, hn, fun i hi => ?_, hc⟩
  have := hz i hi
  simp only [World.frozen?, e] at this ⊢
  exact this
theorem belowAll (h : RowZ t w b n f) (hb : Below w.heap.size w w') : RowZ t w' b n f := h.of_block (hb.block b h.lt)
theorem set (h : RowZ t w b n f) (i : Nat) (x : Int) : RowZ t (w.setCell ⟨b, i, none⟩ (.int .u8 x)) b n (fun j => if j = i then x else f j) := by
  obtain ⟨c, z, hb, hn, hz, hc⟩ := h
  have hb' : (w.setCell ⟨b, i, none⟩ (.int .u8 x)).heap[b]? = some (.cells (c.setIfInBounds i (.int .u8 x)) t z) := by simp [World.setCell, Array.getElem?_modify, hb]
  refine ⟨c.setIfInBounds i (.int .u8 x), z, hb', by simpa using hn, fun j hj => ?_, fun j hj => ?_⟩
  · have := hz j hj
    simp only [World.frozen?, hb, hb'] at this ⊢
    exact this
  · rw [Array.getElem?_setIfInBounds]
    by_cases e : j = i
    · subst e
      have : j < c.size := by omega
      simp [this]
    · rw [if_neg (fun h => e h.symm)]
      show c[j]? = some (.int .u8 (if j = i then x else f j))
      rw [if_neg e]
      exact hc j hj
theorem view {cap : Nat} (h : RowZ t w b n f) (hc : n ≤ cap) (hb : ∀ i, i < n → 0 ≤ f i ∧ f i ≤ 255) : View w (some ⟨b, 0, none⟩) n cap f :=
  ⟨hc, hb, fun _ => ⟨b, 0, rfl, h.lt, fun i hi => by rw [Nat.zero_add]; exact h.cell hi⟩⟩
end RowZ
theorem Only.rowZ {t : TypeId} {b b' n : Nat} {f : Nat → Int} {w w' : World} (h : Only b w w') (hr : RowZ t w b' n f) (hne : b' ≠ b) : RowZ t w' b' n f := hr.of_block (h.block b' hne)

theorem bytesRow_size (s : ByteArray) (cap : Nat) : s.size ≤ (bytesRow s cap).size := by
  unfold bytesRow
  rw [Array.size_append, Array.size_map]
  exact Nat.le_add_right _ _
/-- What '[]byte(s)' lays. -/
theorem text_row (w : World) (s : ByteArray) (cap : Nat) : RowZ 5 (w.alloc (.cells (bytesRow s cap) 5 ((bytesRow s cap).size, (bytesRow s cap).size + 1))) w.heap.size s.size (fun i => (sl s).getD i 0) := by
  have hb : (w.alloc (.cells (bytesRow s cap) 5 ((bytesRow s cap).size, (bytesRow s cap).size + 1))).heap[w.heap.size]? = some (.cells (bytesRow s cap) 5 ((bytesRow s cap).size, (bytesRow s cap).size + 1)) := Deep.blk_alloc_new _ _
  have hl := bytesRow_size s cap
  refine ⟨_, _, hb, hl, fun i hi => ?_, fun i hi => ?_⟩
  · simp only [World.frozen?, hb]
    have : ¬ (bytesRow s cap).size ≤ i := by omega
    simp [this]
  · have hi' : i < (sl s).length := by rw [sl_len]; exact hi
    have hd : i < s.data.size := hi
    unfold bytesRow
    rw [Array.getElem?_append_left (by simpa using hd)]
    simp [sl]
    exact ⟨s.data[i], Array.getElem?_eq_getElem hd, by rw [Array.getElem?_eq_getElem hd]; rfl⟩

end Go.Proofs.Ytphipmhibegbnaa

/-
  Bytes of the call's own, whatever lies behind them.
-/
namespace Go.Proofs.Ytphipmhibegbnaa
open Go.RowKit
set_option maxRecDepth 4000

/-- Bytes of the call's own. -/
structure OZ (w : World) (B : Nat) (v : Value) (l : List Int) : Prop where
  is : ∃ a c, v = .slice a l.length c ∧ l.length ≤ c ∧ (a = none → c = 0) ∧ (∀ x ∈ l, 0 ≤ x ∧ x ≤ 255) ∧ (l = [] ∨ ∃ g, a = some ⟨g, 0, none⟩ ∧ B ≤ g ∧ RowZ 5 w g l.length (bf l))
theorem OB.oz {w : World} {B : Nat} {v : Value} {l : List Int} (h : OB w B v l) : OZ w B v l := by
  obtain ⟨a, c, e, h1, h2, h3, h4⟩ := h.is
  refine ⟨a, c, e, h1, h2, h3, ?_⟩
  rcases h4 with h4 | ⟨g, ea, hb, hr⟩
  · exact .inl h4
  · exact .inr ⟨g, ea, hb, RowZ.ofRow hr⟩
theorem OZ.up {w w' : World} {B : Nat} {v : Value} {l : List Int} (h : OZ w B v l) (hu : Up B w w') : OZ w' B v l := by
  obtain ⟨a, c, e, h1, h2, h3, h4⟩ := h.is
  refine ⟨a, c, e, h1, h2, h3, ?_⟩
  rcases h4 with h4 | ⟨g, ea, hb, hr⟩
  · exact .inl h4
  · exact .inr ⟨g, ea, hb, hr.of_block (hu.2 g hb hr.lt)⟩
theorem OZ.mono {w : World} {B B' : Nat} {v : Value} {l : List Int} (h : OZ w B v l) (hB : B' ≤ B) : OZ w B' v l := by
  obtain ⟨a, c, e, h1, h2, h3, h4⟩ := h.is
  refine ⟨a, c, e, h1, h2, h3, ?_⟩
  rcases h4 with h4 | ⟨g, ea, hb, hr⟩
  · exact .inl h4
  · exact .inr ⟨g, ea, by omega, hr⟩
theorem bf_bytes {l : List Int} (h : ∀ x ∈ l, 0 ≤ x ∧ x ≤ 255) : ∀ i, i < l.length → 0 ≤ bf l i ∧ bf l i ≤ 255 := by
  intro i hi
  have : bf l i = l[i] := by simp [bf, hi]
  rw [this]
  exact h _ (List.getElem_mem hi)
theorem OZ.lv {w : World} {B : Nat} {v : Value} {l : List Int} (h : OZ w B v l) : LV w v l := by
  obtain ⟨a, c, e, h1, h2, h3, h4⟩ := h.is
  refine ⟨a, c, e, ⟨h1, bf_bytes h3, fun hn => ?_⟩, h2⟩
  rcases h4 with h4 | ⟨g, ea, hb, hr⟩
  · subst h4; simp at hn
  · exact ⟨g, 0, ea, hr.lt, fun i hi => by rw [Nat.zero_add]; exact hr.cell hi⟩
/-- What a call that answers bytes and a bool comes to. -/
def BTo (w : World) (l : List Int) (ok : Bool) (e : Ending) (w' : World) : Prop := ∃ v, e = .returned (.tuple #[v, .bool ok]) ∧ OZ w' w.heap.size v l ∧ Below w.heap.size w w'
end Go.Proofs.Ytphipmhibegbnaa

/-
  What the law's own helper eqByteS comes to on rows that are alike.
-/
namespace Go.Proofs.Ytphipmhibegbnaa
open Go.RowKit
set_option maxRecDepth 4000

/-- Two slices that read alike: true. -/
theorem eqByteS_same (a1 a2 : Option Addr) (n c1 c2 : Nat) (f g : Nat → Int) (w : World) (h1 : View w a1 n c1 f) (h2 : View w a2 n c2 g) (hn : n ≤ 281474976710656) (he : ∀ i, i < n → f i = g i) :
    Calls Try.prog 13 #[.slice a1 n c1, .slice a2 n c2] w fun e w' => e = .returned (.bool true) ∧ Below w.heap.size w w' := by
  go_enter Try.func13, Try.ntmps13
  go_wp2
  go_loopg [5] n (fun q i wr => ∃ k : Nat, k ≤ n ∧ q = n - k ∧ i = .int .i64 k ∧ Below w.heap.size w wr)
  case atStart => exact ⟨0, Nat.zero_le _, rfl, rfl, Below.refl _ _⟩
  case round =>
    obtain ⟨k, hk, rfl, rfl, hB⟩ := hrel
    by_cases hlt : k < n
    · obtain ⟨b1, o1, rfl, hb1, hc1⟩ := h1.cells (by omega)
      obtain ⟨b2, o2, rfl, hb2, hc2⟩ := h2.cells (by omega)
      have hkz : (k : Int) < (n : Int) := by omega
      have e1 : wr.cell? ⟨b1, o1 + k, none⟩ = some (.int .u8 (f k)) := by rw [hB.cell (p := ⟨b1, o1 + k, none⟩) hb1]; exact hc1 k hlt
      have e2 : wr.cell? ⟨b2, o2 + k, none⟩ = some (.int .u8 (f k)) := by rw [hB.cell (p := ⟨b2, o2 + k, none⟩) hb2, he k hlt]; exact hc2 k hlt
      clear hc1 hc2 he
      go_wp2
      go_region
      all_goals go_wp2
      all_goals
        go_roundg (n - (k + 1))
        case measure => omega
        case rel => exact ⟨k + 1, by omega, rfl, by go_num, by first | exact hB.drew | exact hB⟩
    · go_wp2
      go_ret
      exact ⟨rfl, hB⟩
end Go.Proofs.Ytphipmhibegbnaa

