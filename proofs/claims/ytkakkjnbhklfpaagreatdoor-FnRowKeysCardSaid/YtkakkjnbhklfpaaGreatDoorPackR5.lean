/-
  Together: TView, TokBox, LexRow, JoinPlain, TokJoin, LexPart, DefToks, BytesEq, OnceSpec, ReadFrom, TokAll
-/
import Derived.Test.YtkakkjnbhklfpaaGreatDoorPackR1
import Derived.Test.YtkakkjnbhklfpaaGreatDoorPackR3
import Derived.Deep.LoopGhost
import Derived.Deep.RegionHeld3
import Derived.Deep.QuietTactic
import Derived.BigQuiet
/-
  A slice of tokens that reads, by a function of the index, and how that is carried from one world to the next.
-/
namespace Go.Proofs.YtkakkjnbhklfpaaGreatDoor
open Go.RowKit
set_option maxRecDepth 4000

/-- The slice value '.slice ao n cap' reads, in the world w, as the n tokens f 0 up to f (n - 1). -/
structure TView (w : World) (ao : Option Addr) (n cap : Nat) (fk : Nat → Int) (fs : Nat → ByteArray) : Prop where
  le : n ≤ cap
  cells : 0 < n → ∃ b off, ao = some ⟨b, off, none⟩ ∧ b < w.heap.size ∧ ∀ i, i < n → w.cell? ⟨b, off + i * 2, none⟩ = some (.int .i64 (fk i)) ∧ w.cell? ⟨b, off + i * 2 + 1, none⟩ = some (.string (fs i))

theorem TView.below {w w' : World} {ao : Option Addr} {n cap : Nat} {fk : Nat → Int} {fs : Nat → ByteArray} (h : TView w ao n cap fk fs) (hb : Below w.heap.size w w') : TView w' ao n cap fk fs := by
  refine ⟨h.le, fun hn => ?_⟩
  obtain ⟨b, off, e, hlt, hc⟩ := h.cells hn
  refine ⟨b, off, e, Nat.lt_of_lt_of_le hlt hb.size, fun i hi => ?_⟩
  rw [hb.cell (p := ⟨b, off + i * 2, none⟩) hlt, hb.cell (p := ⟨b, off + i * 2 + 1, none⟩) hlt]
  exact hc i hi
theorem TView.but {w w' : World} {g : Nat} {ao : Option Addr} {n cap : Nat} {fk : Nat → Int} {fs : Nat → ByteArray} (h : TView w ao n cap fk fs) (hb : But g w w') (hne : ∀ a, ao = some a → a.block ≠ g) : TView w' ao n cap fk fs := by
  refine ⟨h.le, fun hn => ?_⟩
  obtain ⟨b, off, e, hlt, hc⟩ := h.cells hn
  refine ⟨b, off, e, Nat.lt_of_lt_of_le hlt hb.size, fun i hi => ?_⟩
  rw [World.cell?_of_block (w := w) (a := ⟨b, off + i * 2, none⟩) (hb.block b hlt (hne _ e)), World.cell?_of_block (w := w) (a := ⟨b, off + i * 2 + 1, none⟩) (hb.block b hlt (hne _ e))]
  exact hc i hi
theorem TView.congr {w : World} {ao : Option Addr} {n cap : Nat} {fk gk : Nat → Int} {fs gs : Nat → ByteArray} (h : TView w ao n cap fk fs) (e : ∀ i, i < n → fk i = gk i ∧ fs i = gs i) : TView w ao n cap gk gs := by
  refine ⟨h.le, fun hn => ?_⟩
  obtain ⟨b, off, ea, hlt, hc⟩ := h.cells hn
  exact ⟨b, off, ea, hlt, fun i hi => by rw [← (e i hi).1, ← (e i hi).2]; exact hc i hi⟩

/-- The cells of the first k tokens. -/
def rowK (gk : Nat → Int) (gs : Nat → ByteArray) : Nat → List Value
  | 0 => []
  | k + 1 => rowK gk gs k ++ [.int .i64 (gk k), .string (gs k)]
theorem rowK_len (gk : Nat → Int) (gs : Nat → ByteArray) : ∀ k, (rowK gk gs k).length = k * 2
  | 0 => rfl
  | k + 1 => by rw [rowK, List.length_append, rowK_len gk gs k]; simp; omega
theorem rowK_get (gk : Nat → Int) (gs : Nat → ByteArray) : ∀ k i, i < k → (rowK gk gs k)[i * 2]? = some (.int .i64 (gk i)) ∧ (rowK gk gs k)[i * 2 + 1]? = some (.string (gs i))
  | k + 1, i, hi => by
    have hl := rowK_len gk gs k
    by_cases e : i < k
    · obtain ⟨h1, h2⟩ := rowK_get gk gs k i e
      rw [rowK, List.getElem?_append_left (by omega), List.getElem?_append_left (by omega)]
      exact ⟨h1, h2⟩
    · obtain rfl : i = k := by omega
      rw [rowK, List.getElem?_append_right (by omega), List.getElem?_append_right (by omega), hl]
      simp [show i * 2 + 1 - i * 2 = 1 by omega]
/-- A row of tokens of the call's own reads. -/
theorem tview_of_own {w : World} {base : Nat} {v : Value} {N : Nat} {gk : Nat → Int} {gs : Nat → ByteArray} (h : w.ownsRow base 174 2 v N (rowK gk gs N)) : ∃ a c, v = .slice a N c ∧ TView w a N c gk gs ∧ (v ≠ .slice none 0 0 → ∃ g, a = some ⟨g, 0, none⟩ ∧ base ≤ g) := by
  obtain ⟨hl, h⟩ := h
  rcases h with ⟨rfl, h0⟩ | ⟨g, c, cur, rfl, hb, hg, hnc, _, hcs, ht⟩
  · have hN : N = 0 := by have := h0; have := rowK_len gk gs N; omega
    subst hN
    exact ⟨none, 0, rfl, ⟨Nat.le_refl _, fun hn => absurd hn (Nat.lt_irrefl _)⟩, fun hne => absurd rfl hne⟩
  · refine ⟨_, c, rfl, ⟨hnc, fun hn => ⟨g, 0, rfl, ?_, fun i hi => ?_⟩⟩, fun _ => ⟨g, rfl, hb⟩⟩
    · exact (Array.getElem?_eq_some_iff.1 hg).1
    · have key : ∀ j x, j < N * 2 → (rowK gk gs N)[j]? = some x → w.cell? ⟨g, 0 + j, none⟩ = some x := by
        intro j x hj hx
        rw [← ht, List.getElem?_take, if_pos hj] at hx
        simp only [World.cell?, hg, Nat.zero_add]
        simpa using hx
      obtain ⟨h1, h2⟩ := rowK_get gk gs N i hi
      have k0 := key _ _ (by omega) h1
      have k1 := key _ _ (by omega) h2
      simp only [Nat.zero_add] at k0 k1 ⊢
      exact ⟨k0, k1⟩
end Go.Proofs.YtkakkjnbhklfpaaGreatDoor

/-
  A token in a variable of the call's own; a row of tokens grows by one.
-/
namespace Go.Proofs.YtkakkjnbhklfpaaGreatDoor
open Go.RowKit
set_option maxRecDepth 4000

/-- The two cells of a token. -/
def tokC (k : Int) (s : ByteArray) : Nat → Value
  | 0 => .int .i64 k
  | _ => .string s

/-- A token in a variable of the call's own. -/
def TBox (w : World) (B : Nat) (k : Int) (s : ByteArray) : Prop := w.rowIs B 174 2 (tokC k s)
theorem TBox.new (w : World) (k : Int) (s : ByteArray) : TBox (w.alloc (.cells #[.int .i64 k, .string s] 174)) w.heap.size k s :=
  World.rowIs_alloc w _ 174 (tokC k s) (fun j hj => by match j, hj with | 0, _ => rfl | 1, _ => rfl)
theorem TBox.cells {w : World} {B : Nat} {k : Int} {s : ByteArray} (h : TBox w B k s) : w.cell? ⟨B, 0, none⟩ = some (.int .i64 k) ∧ w.cell? ⟨B, 1, none⟩ = some (.string s) :=
  ⟨h.cell (i := 0) (by decide), h.cell (i := 1) (by decide)⟩
theorem TBox.frozen {w : World} {B : Nat} {k : Int} {s : ByteArray} (h : TBox w B k s) : w.frozen? ⟨B, 0, none⟩ = false ∧ w.frozen? ⟨B, 1, none⟩ = false :=
  ⟨World.rowIs.frozen h 0, World.rowIs.frozen h 1⟩
theorem TBox.lt {w : World} {B : Nat} {k : Int} {s : ByteArray} (h : TBox w B k s) : B < w.heap.size := World.rowIs.lt h
theorem TBox.below {w w' : World} {B : Nat} {k : Int} {s : ByteArray} (h : TBox w B k s) (hb : Below w.heap.size w w') : TBox w' B k s := h.of_block (hb.block B h.lt)
theorem TBox.but {w w' : World} {B g : Nat} {k : Int} {s : ByteArray} (h : TBox w B k s) (hb : But g w w') (hne : B ≠ g) : TBox w' B k s := h.of_block (hb.block B h.lt hne)
theorem TBox.set0 {w : World} {B : Nat} {k : Int} {s : ByteArray} (h : TBox w B k s) (x : Int) : TBox (w.setCell ⟨B, 0, none⟩ (.int .i64 x)) B x s :=
  (World.rowIs.set h 0 _).congr (fun j hj => by match j, hj with | 0, _ => rfl | 1, _ => rfl)
theorem TBox.set1 {w : World} {B : Nat} {k : Int} {s : ByteArray} (h : TBox w B k s) (t : ByteArray) : TBox (w.setCell ⟨B, 1, none⟩ (.string t)) B k t :=
  (World.rowIs.set h 1 _).congr (fun j hj => by match j, hj with | 0, _ => rfl | 1, _ => rfl)
theorem TBox.other {w : World} {B D i : Nat} {k : Int} {s : ByteArray} (h : TBox w B k s) (hne : B ≠ D) (u : Value) : TBox (w.setCell ⟨D, i, none⟩ u) B k s := h.of_block (Below.heap_setCell _ _ _ _ hne)

theorem infoTok2 : ∃ i, Tryz.prog.info? 174 = some i ∧ i.zero = some (.agg #[.int .i64 0, .string ⟨#[]⟩]) ∧ i.size = 2 ∧ i.bytes = 24 := by
  have h : (Tryz.prog.info? 174).map (fun i => (i.zero, i.size, i.bytes)) = some (some (.agg #[.int .i64 0, .string ⟨#[]⟩]), 2, 24) := by kernel_rfl
  obtain ⟨i, hi, hz⟩ := Option.map_eq_some_iff.1 h
  simp only [Prod.mk.injEq] at hz
  exact ⟨i, hi, hz.1, hz.2.1, hz.2.2⟩

/-- The cells of a new row of one token. -/
theorem cells_tok (W : World) (k : Int) (s : ByteArray) : ∀ j u, [Value.int .i64 k, .string s][j]? = some u → (W.alloc (.cells #[.int .i64 k, .string s] 174)).cell? ((⟨W.heap.size, 0, none⟩ : Addr).add j) = some u := by
  intro j u h
  obtain ⟨c0, c1⟩ := (TBox.new W k s).cells
  have ea : ∀ j, (⟨W.heap.size, 0, none⟩ : Addr).add j = ⟨W.heap.size, 0 + j, none⟩ := fun j => by unfold Addr.add; split <;> simp_all
  match j, h with
  | 0, h => cases h; rw [ea]; exact c0
  | 1, h => cases h; rw [ea]; exact c1
  | j + 2, h => simp at h
theorem one_tok (k : Int) (s : ByteArray) : ∀ u ∈ [Value.int .i64 k, .string s], u.oneCell' = true := by
  intro u hu
  simp at hu
  rcases hu with rfl | rfl <;> rfl
theorem own_below2 {w w' : World} {base : Nat} {t : TypeId} {v : Value} {n : Nat} {l : List Value} (h : w.ownsRow base t 2 v n l) (hb : Below w.heap.size w w') : w'.ownsRow base t 2 v n l := by
  refine h.kept (row := none) ⟨hb.os, hb.tape, hb.output, hb.size, fun k hk _ => hb.block k hk⟩ ?_
  cases hv : v.ownBlock with
  | none => exact Or.inl rfl
  | some k => exact Or.inr (fun e => by cases e)
end Go.Proofs.YtkakkjnbhklfpaaGreatDoor

/-
  What Lex comes to: tokens in a row of the call's own, and a place.
-/
namespace Go.Proofs.YtkakkjnbhklfpaaGreatDoor
open Go.RowKit
set_option maxRecDepth 4000

def tk (l : List (Int × ByteArray)) (i : Nat) : Int := (l.getD i (0, ⟨#[]⟩)).1
def ts (l : List (Int × ByteArray)) (i : Nat) : ByteArray := (l.getD i (0, ⟨#[]⟩)).2
/-- The cells of a list of tokens. -/
def rowL (l : List (Int × ByteArray)) : List Value := l.flatMap (fun t => [.int .i64 t.1, .string t.2])
theorem rowL_snoc (l : List (Int × ByteArray)) (t : Int × ByteArray) : rowL (l ++ [t]) = rowL l ++ [.int .i64 t.1, .string t.2] := by simp [rowL]
theorem rowL_K : ∀ l : List (Int × ByteArray), rowL l = rowK (tk l) (ts l) l.length := by
  have key : ∀ (l : List (Int × ByteArray)) (k : Nat), k ≤ l.length → rowL (l.take k) = rowK (tk l) (ts l) k := by
    intro l k
    induction k with
    | zero => intro _; rfl
    | succ k ih =>
      intro hk
      have h1 : l.take (k + 1) = l.take k ++ [l[k]] := by rw [List.take_add_one, List.getElem?_eq_getElem (by omega)]; rfl
      have h2 : l.getD k (0, ⟨#[]⟩) = l[k] := by simp [List.getD, List.getElem?_eq_getElem (show k < l.length by omega)]
      rw [h1, rowL_snoc, ih (by omega), rowK]
      unfold tk ts
      rw [h2]
  intro l
  have := key l l.length (Nat.le_refl _)
  rw [List.take_length] at this
  exact this
/-- What Lex comes to. -/
def LexTo (w : World) (r : List (Int × ByteArray) × Int) (e : Ending) (w' : World) : Prop :=
  ∃ v, e = .returned (.tuple #[v, .int .i64 r.2]) ∧ v ≠ .slice none 0 0 ∧ w'.ownsRow w.heap.size 174 2 v r.1.length (rowL r.1) ∧ Below w.heap.size w w'
end Go.Proofs.YtkakkjnbhklfpaaGreatDoor

/-
  Texts joined, a blank between, plainly.
-/
namespace Go.Proofs.YtkakkjnbhklfpaaGreatDoor
open Go.RowKit
set_option maxRecDepth 4000

/-- The texts of the first k tokens, a blank between. -/
def joinT (fs : Nat → ByteArray) : Nat → ByteArray
  | 0 => ⟨#[]⟩
  | k + 1 => (if 0 < k then joinT fs k ++ (⟨#[32]⟩ : ByteArray) else joinT fs k) ++ fs k
end Go.Proofs.YtkakkjnbhklfpaaGreatDoor

/-
  Tokens that are joined come back, plainly.
-/
namespace Go.Proofs.YtkakkjnbhklfpaaGreatDoor
open Go.RowKit
set_option maxRecDepth 4000

theorem bt_left {a b : ByteArray} {i : Nat} (h : i < a.size) : bt (a ++ b) i = bt a i := by
  have h2 : i < (a ++ b).size := by rw [ByteArray.size_append]; omega
  rw [← bt_at h, ← bt_at h2, ByteArray.getElem_append_left h]
theorem bt_right (a b : ByteArray) (j : Nat) : bt (a ++ b) (a.size + j) = bt b j := by
  by_cases h : j < b.size
  · have h2 : a.size + j < (a ++ b).size := by rw [ByteArray.size_append]; omega
    rw [← bt_at h, ← bt_at h2, ByteArray.getElem_append_right (by omega)]
    congr 2
    simp
  · unfold bt
    rw [dif_neg h, dif_neg (by rw [ByteArray.size_append]; omega)]
/-- Texts of the same bytes are one. -/
theorem bt_ext {a b : ByteArray} (hs : a.size = b.size) (h : ∀ i, i < a.size → bt a i = bt b i) : a = b := by
  apply ByteArray.ext
  apply Array.ext
  · exact hs
  · intro i h1 h2
    have h1' : i < a.size := h1
    have h2' : i < b.size := h2
    have e := h i h1'
    rw [← bt_at h1', ← bt_at h2'] at e
    have e2 : a[i] = b[i] := by apply UInt8.toNat.inj; omega
    exact e2

/-- A name goes on as far as its bytes do. -/
theorem endN_run {s : ByteArray} {p m : Nat} (hle : p + m ≤ s.size) (h : ∀ j, j < m → inName (bt s (p + j)) = true) (hend : p + m = s.size ∨ inName (bt s (p + m)) = false) : ∀ j, j ≤ m → endN s (p + (m - j)) = p + m
  | 0, _ => by
    rw [Nat.sub_zero]
    refine endN_stop (fun hh => ?_)
    rcases hend with e | e
    · omega
    · rw [e] at hh; cases hh.2
  | j + 1, hj => by
    have ih := endN_run hle h hend j (by omega)
    rw [endN_step (by omega) (h (m - (j + 1)) (by omega)), show p + (m - (j + 1)) + 1 = p + (m - j) by omega]
    exact ih

theorem blank_of {c : Int} (h : inName c = true ∨ markC c = true) : blank c = false := by
  unfold inName small digit at h
  unfold markC at h
  unfold blank
  simp only [Bool.or_eq_true, decide_eq_true_eq] at h
  apply decide_eq_false
  omega
/-- A right token that stands at a place is read there. -/
theorem lex_one {s t : ByteArray} {p : Nat} {kd : Int} {l : List (Int × ByteArray)} (hk : tokOk kd t = true) (hat : ∀ j, j < t.size → bt s (p + j) = bt t j) (hle : p + t.size ≤ s.size) (hend : p + t.size = s.size ∨ bt s (p + t.size) = 32) (hl : l.length ≠ 500) :
    lexF s p l = lexF s (p + t.size) (l ++ [(kd, t)]) := by
  have hext : s.extract p (p + t.size) = t := by
    refine bt_ext (by rw [ByteArray.size_extract]; omega) (fun i hi => ?_)
    rw [ByteArray.size_extract] at hi
    rw [bt_extract hle (by omega), hat i (by omega)]
  have hend2 : p + t.size = s.size ∨ inName (bt s (p + t.size)) = false := by
    rcases hend with e | e
    · exact .inl e
    · right; rw [e]; rfl
  by_cases c1 : kd = 1
  · subst c1
    have hn : nameOk t = true := hk
    unfold nameOk at hn
    simp only [decide_eq_true_eq] at hn
    obtain ⟨h1, h8, hs0, hall⟩ := hn
    have h0 := hat 0 (by omega)
    rw [Nat.add_zero] at h0
    have hka : kindAt s p = 1 := by unfold kindAt; rw [h0, hs0]; rfl
    have hst : stopAt s p = p + t.size := by
      unfold stopAt
      rw [h0, hs0]
      show endN s (p + 1) = _
      have := endN_run (s := s) (p := p) (m := t.size) hle (fun j hj => by rw [hat j hj]; exact hall j hj) hend2 (t.size - 1) (by omega)
      rw [show p + (t.size - (t.size - 1)) = p + 1 by omega] at this
      exact this
    rw [lexF_tok (by omega) (blank_of (.inl (by rw [h0]; exact hall 0 (by omega)))) (by rw [hka, hst, hext]; exact hk) hl, hka, hst, hext]
  · have c2 : kd = 2 := by
      unfold tokOk at hk
      rw [if_neg c1] at hk
      by_cases c2 : kd = 2
      · exact c2
      · rw [if_neg c2] at hk; cases hk
    subst c2
    have hn : markOk t = true := hk
    unfold markOk at hn
    simp only [decide_eq_true_eq] at hn
    obtain ⟨h1, hm⟩ := hn
    have h0 := hat 0 (by omega)
    rw [Nat.add_zero] at h0
    have hsm : small (bt s p) = false := by
      rw [h0]
      unfold markC at hm
      unfold small
      simp only [decide_eq_true_eq] at hm
      apply decide_eq_false
      omega
    have hka : kindAt s p = 2 := by unfold kindAt; rw [hsm]; rfl
    have hst : stopAt s p = p + t.size := by unfold stopAt; rw [hsm, h1]; rfl
    rw [lexF_tok (by omega) (blank_of (.inr (by rw [h0]; exact hm))) (by rw [hka, hst, hext]; exact hk) hl, hka, hst, hext]

/-- Where the k-th token begins. -/
def beg (fs : Nat → ByteArray) (k : Nat) : Nat := (joinT fs k).size + (if 0 < k then 1 else 0)
theorem joinT_end (fs : Nat → ByteArray) (k : Nat) : (joinT fs (k + 1)).size = beg fs k + (fs k).size := by
  unfold beg
  have h2 : (⟨#[32]⟩ : ByteArray).size = 1 := rfl
  rw [joinT, ByteArray.size_append]
  split
  · rw [ByteArray.size_append]; omega
  · omega
theorem joinT_pre (fs : Nat → ByteArray) : ∀ (n m : Nat), m ≤ n → (joinT fs m).size ≤ (joinT fs n).size ∧ ∀ i, i < (joinT fs m).size → bt (joinT fs n) i = bt (joinT fs m) i
  | 0, m, h => by
    obtain rfl : m = 0 := by omega
    exact ⟨Nat.le_refl _, fun _ _ => rfl⟩
  | n + 1, m, h => by
    by_cases e : m = n + 1
    · subst e; exact ⟨Nat.le_refl _, fun _ _ => rfl⟩
    · obtain ⟨h1, h2⟩ := joinT_pre fs n m (by omega)
      have h3 := joinT_end fs n
      have h4 : (joinT fs n).size ≤ beg fs n := by unfold beg; omega
      refine ⟨by omega, fun i hi => ?_⟩
      rw [← h2 i hi, joinT]
      by_cases h0 : 0 < n
      · rw [if_pos h0, bt_left (by rw [ByteArray.size_append]; omega), bt_left (by omega)]
      · rw [if_neg h0, bt_left (by omega)]
/-- The k-th token stands in the joined text. -/
theorem join_at {fs : Nat → ByteArray} {n k : Nat} (hk : k < n) : (∀ j, j < (fs k).size → bt (joinT fs n) (beg fs k + j) = bt (fs k) j) ∧ beg fs k + (fs k).size ≤ (joinT fs n).size ∧ (beg fs k + (fs k).size = (joinT fs n).size ∨ bt (joinT fs n) (beg fs k + (fs k).size) = 32) ∧ (k + 1 < n → bt (joinT fs n) (beg fs k + (fs k).size) = 32 ∧ beg fs (k + 1) = beg fs k + (fs k).size + 1) ∧ (k + 1 = n → beg fs k + (fs k).size = (joinT fs n).size) := by
  have hE := joinT_end fs k
  obtain ⟨h1, h2⟩ := joinT_pre fs n (k + 1) (by omega)
  have ha : ∀ j, j < (fs k).size → bt (joinT fs n) (beg fs k + j) = bt (fs k) j := by
    intro j hj
    rw [h2 _ (by omega), joinT]
    unfold beg
    by_cases h0 : 0 < k
    · rw [if_pos h0, if_pos h0]
      have e : (joinT fs k).size + 1 = (joinT fs k ++ (⟨#[32]⟩ : ByteArray)).size := by rw [ByteArray.size_append]; rfl
      rw [e]
      exact bt_right _ _ _
    · rw [if_neg h0, if_neg h0, Nat.add_zero]
      exact bt_right _ _ _
  have hnx : k + 1 < n → bt (joinT fs n) (beg fs k + (fs k).size) = 32 ∧ beg fs (k + 1) = beg fs k + (fs k).size + 1 := by
    intro hlt
    obtain ⟨h3, h4⟩ := joinT_pre fs n (k + 2) (by omega)
    have hE2 := joinT_end fs (k + 1)
    have hb : beg fs (k + 1) = beg fs k + (fs k).size + 1 := by
      conv => lhs; unfold beg
      rw [if_pos (by omega), hE]
    refine ⟨?_, hb⟩
    rw [h4 _ (by rw [show k + 2 = k + 1 + 1 from rfl, hE2]; omega), show k + 2 = k + 1 + 1 from rfl, joinT, if_pos (by omega), ← hE]
    rw [bt_left (by rw [ByteArray.size_append]; show _ < _ + 1; omega)]
    have := bt_right (joinT fs (k + 1)) (⟨#[32]⟩ : ByteArray) 0
    exact this.trans rfl
  have hlast : k + 1 = n → beg fs k + (fs k).size = (joinT fs n).size := by
    rintro rfl; rw [hE]
  refine ⟨ha, by omega, ?_, hnx, hlast⟩
  by_cases e : k + 1 = n
  · exact .inl (hlast e)
  · exact .inr (hnx (by omega)).1

/-- Tokens that are joined come back. -/
theorem lex_join {l : List (Int × ByteArray)} (hl : l.length ≤ 500) (hok : ∀ i, i < l.length → tokOk (tk l i) (ts l i) = true) : lexF (joinT (ts l) l.length) 0 [] = (l, -1) := by
  have key : ∀ k, k ≤ l.length → lexF (joinT (ts l) l.length) 0 [] = lexF (joinT (ts l) l.length) (if k < l.length then beg (ts l) k else (joinT (ts l) l.length).size) (l.take k) := by
    intro k
    induction k with
    | zero =>
      intro _
      by_cases h0 : 0 < l.length
      · rw [if_pos h0]; rfl
      · have : l = [] := by cases l with
          | nil => rfl
          | cons => simp at h0
        subst this; rfl
    | succ k ih =>
      intro hk
      have hkl : k < l.length := by omega
      rw [ih (by omega), if_pos hkl]
      obtain ⟨ha, hle, hend, hnx, hlast⟩ := join_at (fs := ts l) hkl
      have hlt : (l.take k).length ≠ 500 := by rw [List.length_take]; omega
      rw [lex_one (hok k hkl) ha hle hend hlt]
      have ht : l.take k ++ [(tk l k, ts l k)] = l.take (k + 1) := by
        rw [List.take_add_one, List.getElem?_eq_getElem hkl]
        unfold tk ts
        have h2 : l.getD k (0, ⟨#[]⟩) = l[k] := by simp [List.getD, List.getElem?_eq_getElem hkl]
        rw [h2]; rfl
      rw [ht]
      by_cases e : k + 1 < l.length
      · obtain ⟨h3, h4⟩ := hnx e
        rw [if_pos e, h4]
        refine lexF_blank ?_ (by rw [h3]; rfl)
        rcases Nat.lt_or_ge (beg (ts l) k + (ts l k).size) (joinT (ts l) l.length).size with h5 | h5
        · exact h5
        · unfold bt at h3; rw [dif_neg (by omega)] at h3; cases h3
      · rw [if_neg e, hlast (by omega)]
  rw [key l.length (Nat.le_refl _), if_neg (Nat.lt_irrefl _), List.take_length]
  exact lexF_end (Nat.lt_irrefl _)
end Go.Proofs.YtkakkjnbhklfpaaGreatDoor

/-
  Pieces of a text that have their tokens wherever they stand.
-/
namespace Go.Proofs.YtkakkjnbhklfpaaGreatDoor
open Go.RowKit
set_option maxRecDepth 4000

abbrev Tok := Int × ByteArray
/-- A right token that stands at a place, with nothing behind that goes on with a name, is read there. -/
theorem lex_tok {s t : ByteArray} {p : Nat} {kd : Int} {l : List Tok} (hk : tokOk kd t = true) (hat : ∀ j, j < t.size → bt s (p + j) = bt t j) (hle : p + t.size ≤ s.size) (hend2 : kd = 1 → p + t.size = s.size ∨ inName (bt s (p + t.size)) = false) (hl : l.length ≠ 500) :
    lexF s p l = lexF s (p + t.size) (l ++ [(kd, t)]) := by
  have hext : s.extract p (p + t.size) = t := by
    refine bt_ext (by rw [ByteArray.size_extract]; omega) (fun i hi => ?_)
    rw [ByteArray.size_extract] at hi
    rw [bt_extract hle (by omega), hat i (by omega)]
  by_cases c1 : kd = 1
  · subst c1
    have hn : nameOk t = true := hk
    unfold nameOk at hn
    simp only [decide_eq_true_eq] at hn
    obtain ⟨h1, h8, hs0, hall⟩ := hn
    have h0 := hat 0 (by omega)
    rw [Nat.add_zero] at h0
    have hka : kindAt s p = 1 := by unfold kindAt; rw [h0, hs0]; rfl
    have hst : stopAt s p = p + t.size := by
      unfold stopAt
      rw [h0, hs0]
      show endN s (p + 1) = _
      have := endN_run (s := s) (p := p) (m := t.size) hle (fun j hj => by rw [hat j hj]; exact hall j hj) (hend2 rfl) (t.size - 1) (by omega)
      rw [show p + (t.size - (t.size - 1)) = p + 1 by omega] at this
      exact this
    rw [lexF_tok (by omega) (blank_of (.inl (by rw [h0]; exact hall 0 (by omega)))) (by rw [hka, hst, hext]; exact hk) hl, hka, hst, hext]
  · have c2 : kd = 2 := by
      unfold tokOk at hk
      rw [if_neg c1] at hk
      by_cases c2 : kd = 2
      · exact c2
      · rw [if_neg c2] at hk; cases hk
    subst c2
    have hn : markOk t = true := hk
    unfold markOk at hn
    simp only [decide_eq_true_eq] at hn
    obtain ⟨h1, hm⟩ := hn
    have h0 := hat 0 (by omega)
    rw [Nat.add_zero] at h0
    have hsm : small (bt s p) = false := by
      rw [h0]
      unfold markC at hm
      unfold small
      simp only [decide_eq_true_eq] at hm
      apply decide_eq_false
      omega
    have hka : kindAt s p = 2 := by unfold kindAt; rw [hsm]; rfl
    have hst : stopAt s p = p + t.size := by unfold stopAt; rw [hsm, h1]; rfl
    rw [lexF_tok (by omega) (blank_of (.inr (by rw [h0]; exact hm))) (by rw [hka, hst, hext]; exact hk) hl, hka, hst, hext]

/-- t stands in s at p. -/
structure At (s : ByteArray) (p : Nat) (t : ByteArray) : Prop where
  le : p + t.size ≤ s.size
  eq : ∀ j, j < t.size → bt s (p + j) = bt t j
theorem At.left {s a b : ByteArray} {p : Nat} (h : At s p (a ++ b)) : At s p a := by
  have hs : (a ++ b).size = a.size + b.size := ByteArray.size_append
  exact ⟨by have := h.le; omega, fun j hj => by rw [h.eq j (by omega), bt_left hj]⟩
theorem At.right {s a b : ByteArray} {p : Nat} (h : At s p (a ++ b)) : At s (p + a.size) b := by
  have hs : (a ++ b).size = a.size + b.size := ByteArray.size_append
  exact ⟨by have := h.le; omega, fun j hj => by rw [Nat.add_assoc, h.eq (a.size + j) (by omega), bt_right]⟩
theorem At.self (s : ByteArray) : At s 0 s := ⟨by omega, fun j _ => by rw [Nat.zero_add]⟩
/-- A piece whose tokens are l, whatever stands behind it. -/
def Lc (t : ByteArray) (l : List Tok) : Prop := ∀ (s : ByteArray) (p : Nat) (acc : List Tok), At s p t → acc.length + l.length ≤ 500 → lexF s p acc = lexF s (p + t.size) (acc ++ l)
theorem Lc.app {a b : ByteArray} {la lb : List Tok} (ha : Lc a la) (hb : Lc b lb) : Lc (a ++ b) (la ++ lb) := by
  intro s p acc h hl
  rw [List.length_append] at hl
  rw [ha s p acc h.left (by omega), hb s (p + a.size) (acc ++ la) h.right (by rw [List.length_append]; omega), ByteArray.size_append, Nat.add_assoc, List.append_assoc]
theorem Lc.nil : Lc ⟨#[]⟩ [] := by
  intro s p acc _ _
  rw [List.append_nil]; rfl
/-- A name, and behind it a piece that does not go on with it. -/
theorem Lc.name {n b : ByteArray} {lb : List Tok} (hn : nameOk n = true) (hb : Lc b lb) (h0 : 0 < b.size) (hin : inName (bt b 0) = false) : Lc (n ++ b) ((1, n) :: lb) := by
  intro s p acc h hl
  rw [List.length_cons] at hl
  have hr := h.right
  have hat := hr.eq 0 h0
  rw [Nat.add_zero] at hat
  rw [lex_tok (kd := 1) hn h.left.eq h.left.le (fun _ => .inr (by rw [hat]; exact hin)) (by omega), hb s (p + n.size) (acc ++ [(1, n)]) hr (by rw [List.length_append, List.length_singleton]; omega), ByteArray.size_append, Nat.add_assoc, List.append_assoc]
  rfl
/-- A text that is such a piece has its tokens. -/
theorem Lc.lex {t : ByteArray} {l : List Tok} (h : Lc t l) (hl : l.length ≤ 500) : lexF t 0 [] = (l, -1) := by
  rw [h t 0 [] (At.self t) (by simpa using hl), lexF_end (by omega), List.nil_append]
end Go.Proofs.YtkakkjnbhklfpaaGreatDoor

/-
  A table's text has its tokens.
-/
namespace Go.Proofs.YtkakkjnbhklfpaaGreatDoor
open Go.RowKit
set_option maxRecDepth 4000

/-- A piece that may end in a name: what stands behind must not go on with it. -/
def Lo (t : ByteArray) (l : List Tok) : Prop := ∀ (b : ByteArray) (lb : List Tok), Lc b lb → 0 < b.size → inName (bt b 0) = false → Lc (t ++ b) (l ++ lb)
theorem Lo.name {a n : ByteArray} {la : List Tok} (ha : Lc a la) (hn : nameOk n = true) : Lo (a ++ n) (la ++ [(1, n)]) := by
  intro b lb hb h0 hin
  rw [ByteArray.append_assoc, List.append_assoc]
  exact ha.app (Lc.name hn hb h0 hin)
end Go.Proofs.YtkakkjnbhklfpaaGreatDoor

/-
  Texts that are held against each other.
-/
namespace Go.Proofs.YtkakkjnbhklfpaaGreatDoor
open Go.RowKit
set_option maxRecDepth 4000

theorem bytes_inj {a b : ByteArray} : a.toList = b.toList ↔ a = b := by
  constructor
  · intro h
    rw [ByteArray.toList_eq, ByteArray.toList_eq] at h
    obtain ⟨⟨x⟩⟩ := a
    obtain ⟨⟨y⟩⟩ := b
    simp only at h
    rw [h]
  · rintro rfl; rfl
theorem bytes_eq {a b : ByteArray} (h : a = b) : (a.toList == b.toList) = true := by rw [h]; exact beq_self_eq_true _
theorem bytes_ne {a b : ByteArray} (h : a ≠ b) : (a.toList == b.toList) = false := by
  cases e : (a.toList == b.toList) with
  | false => rfl
  | true => exact absurd (bytes_inj.1 (eq_of_beq e)) h
end Go.Proofs.YtkakkjnbhklfpaaGreatDoor

/-
  The model's l9Col and l9Once come to the plain ones.
-/
namespace Go.Proofs.YtkakkjnbhklfpaaGreatDoor
open Go.RowKit
set_option maxRecDepth 4000

/-- The place of the first column from the k-th on, of m, that has a name; -1: there is none. -/
def colFrom (f : Nat → PCol) (s : ByteArray) : Nat → Nat → Int
  | 0, _ => -1
  | m + 1, k => if (f k).name = s then (k : Int) else colFrom f s m (k + 1)
/-- The place of the first of n columns that has a name; -1: there is none. -/
def colAt (f : Nat → PCol) (n : Nat) (s : ByteArray) : Int := colFrom f s n 0
theorem colFrom_skip (f : Nat → PCol) (s : ByteArray) : ∀ (k n : Nat), k ≤ n → (∀ j, j < k → (f j).name ≠ s) → colAt f n s = colFrom f s (n - k) k
  | 0, _, _, _ => rfl
  | k + 1, n, hk, hn => by
    rw [colFrom_skip f s k n (by omega) (fun j hj => hn j (by omega)), show n - k = (n - (k + 1)) + 1 by omega, colFrom, if_neg (hn k (by omega))]
theorem colAt_first {f : Nat → PCol} {n k : Nat} {s : ByteArray} (hk : k < n) (he : (f k).name = s) (hn : ∀ j, j < k → (f j).name ≠ s) : colAt f n s = k := by
  rw [colFrom_skip f s k n (by omega) hn, show n - k = (n - k - 1) + 1 by omega, colFrom, if_pos he]
theorem colAt_none {f : Nat → PCol} {n : Nat} {s : ByteArray} (hn : ∀ j, j < n → (f j).name ≠ s) : colAt f n s = -1 := by
  rw [colFrom_skip f s n n (Nat.le_refl _) hn, Nat.sub_self]; rfl
/-- A column is the first of its name just if none ahead has it. -/
theorem colAt_self {f : Nat → PCol} {n k : Nat} (hk : k < n) : colAt f n (f k).name = k ↔ ∀ j, j < k → (f j).name ≠ (f k).name := by
  constructor
  · intro h
    have key : ∀ m, m ≤ k → ∀ j, j < m → (f j).name ≠ (f k).name := by
      intro m
      induction m with
      | zero => intro _ j hj; exact absurd hj (Nat.not_lt_zero _)
      | succ m ih =>
        intro hm j hj
        have hi := ih (by omega)
        by_cases e : j < m
        · exact hi j e
        · obtain rfl : j = m := by omega
          intro he
          have := colAt_first (n := n) (by omega) he hi
          rw [h] at this
          omega
    exact key k (Nat.le_refl _)
  · exact fun h => colAt_first hk rfl h

set_option maxHeartbeats 1000000 in
theorem l9Col_any (v : Value) (D : PDef) (s : ByteArray) (w : World) (h : DView w v D) (hnc : D.nc ≤ 1048576) :
    Calls Tryz.prog 86 #[v, .string s] w fun e w' => e = .returned (.int .i64 (colAt D.col D.nc s)) ∧ Below w.heap.size w w' := by
  obtain ⟨ac, cc, ap, cp, ai, ci, rfl, hc, -, -⟩ := h.is
  clear h
  go_enter Tryz.func86, Tryz.ntmps86
  go_wp2
  go_loopg [5] D.nc (fun q i wr => ∃ k : Nat, k ≤ D.nc ∧ q = D.nc - k ∧ i = .int .i64 k ∧ wr = w.alloc (.cells #[.string D.name, .slice ac D.nc cc, .slice ap D.np cp, .slice ai D.ni ci] 36) ∧ Hid (∀ j, j < k → (D.col j).name ≠ s))
  case atStart => exact ⟨0, Nat.zero_le _, rfl, rfl, rfl, fun j hj => absurd hj (Nat.not_lt_zero _)⟩
  case round =>
    obtain ⟨k, hk, rfl, rfl, hW, HA⟩ := hrel
    have hB : Below (w.heap.size + 1) (w.alloc (.cells #[.string D.name, .slice ac D.nc cc, .slice ap D.np cp, .slice ai D.ni ci] 36)) wr := by rw [hW]; exact Below.refl _ _
    have HW : Hid (wr = w.alloc (.cells #[.string D.name, .slice ac D.nc cc, .slice ap D.np cp, .slice ai D.ni ci] 36)) := hW
    clear hW
    obtain ⟨x0, x1, x2, x3⟩ := box4 hB
    obtain ⟨hBw, hsz⟩ := box4_below hB
    clear hB
    by_cases hlt : k < D.nc
    · have hkz : (k : Int) < (D.nc : Int) := by omega
      obtain ⟨b1, o1, rfl, hb1, hcs⟩ := (hc.below hBw).cells (by omega)
      obtain ⟨y0, -, -⟩ := hcs k hlt
      clear hcs hc
      by_cases he : (D.col k).name = s
      · have HF : Hid (colAt D.col D.nc s = k) := colAt_first hlt he HA.out
        have hq := bytes_eq he
        obtain ⟨z, hz⟩ : ∃ z, Hid ((D.col k).name = z) := ⟨_, rfl⟩
        rw [hz.out] at y0 hq
        clear he
        go_wp2
        go_ret
        exact ⟨by rw [HF.out]; rfl, hBw⟩
      · have HN : Hid (∀ j, j < k + 1 → (D.col j).name ≠ s) := by
          intro j hj
          by_cases hj' : j < k
          · exact HA.out j hj'
          · obtain rfl : j = k := by omega
            exact he
        have hq := bytes_ne he
        obtain ⟨z, hz⟩ : ∃ z, Hid ((D.col k).name = z) := ⟨_, rfl⟩
        rw [hz.out] at y0 hq
        clear he HA
        go_wp2
        go_roundg (D.nc - (k + 1))
        case measure => omega
        case rel => exact ⟨k + 1, by omega, rfl, by go_num, HW.out, HN⟩
    · have hkz : ¬ (k : Int) < (D.nc : Int) := by omega
      obtain rfl : k = D.nc := by omega
      have HF : Hid (colAt D.col D.nc s = -1) := colAt_none HA.out
      clear hc HA
      go_wp2
      go_ret
      exact ⟨by rw [HF.out]; rfl, hBw⟩

set_option maxHeartbeats 2000000 in
theorem l9Once_any (v : Value) (D : PDef) (w : World) (h : DView w v D) (hnc : D.nc ≤ 1048576) (hni : D.ni ≤ 1048576) :
    Calls Tryz.prog 51 #[v] w fun e w' => e = .returned (.bool (onceF D)) ∧ Below w.heap.size w w' := by
  have hL := fun s W hV => l9Col_any v D s W hV hnc
  have hv := h
  obtain ⟨ac, cc, ap, cp, ai, ci, rfl, hc, -, hi⟩ := h.is
  clear h
  go_enter Tryz.func51, Tryz.ntmps51
  go_wp2
  go_loopg [3] D.nc (fun q i wr => ∃ k : Nat, k ≤ D.nc ∧ q = D.nc - k ∧ i = .int .i64 k ∧ Below (w.heap.size + 1) (w.alloc (.cells #[.string D.name, .slice ac D.nc cc, .slice ap D.np cp, .slice ai D.ni ci] 36)) wr ∧ Hid (∀ i, i < k → ∀ j, j < i → (D.col j).name ≠ (D.col i).name))
  case atStart => exact ⟨0, Nat.zero_le _, rfl, rfl, Below.refl _ _, fun j hj => absurd hj (Nat.not_lt_zero _)⟩
  case round =>
    obtain ⟨k, hk, rfl, rfl, hB, HA⟩ := hrel
    obtain ⟨x0, x1, x2, x3⟩ := box4 hB
    obtain ⟨hBw, hsz⟩ := box4_below hB
    by_cases hlt : k < D.nc
    · have hkz : (k : Int) < (D.nc : Int) := by omega
      have hLk := fun W (hb : Below w.heap.size w W) => hL (D.col k).name W (hv.below hb)
      obtain ⟨b1, o1, rfl, hb1, hcs⟩ := (hc.below hBw).cells (by omega)
      obtain ⟨y0, -, -⟩ := hcs k hlt
      have HS : Hid (∀ x, colAt D.col D.nc (D.col k).name = x → (x = (k : Int) → ∀ i, i < k + 1 → ∀ j, j < i → (D.col j).name ≠ (D.col i).name) ∧ (x ≠ (k : Int) → onceF D = false)) := by
        intro x e
        refine ⟨fun hx i hi => ?_, fun hx => ?_⟩
        · by_cases hj' : i < k
          · exact HA.out i hj'
          · obtain rfl : i = k := by omega
            exact (colAt_self hlt).1 (e.trans hx)
        · unfold onceF
          refine decide_eq_false (fun h => hx ?_)
          rw [← e]
          exact (colAt_self hlt).2 (h.1 k hlt)
      obtain ⟨x, hx⟩ : ∃ x, Hid (colAt D.col D.nc (D.col k).name = x) := ⟨_, rfl⟩
      simp only [hx.out] at hLk
      obtain ⟨z, hz⟩ : ∃ z, Hid ((D.col k).name = z) := ⟨_, rfl⟩
      rw [hz.out] at y0
      simp only [hz.out] at hLk
      have HX := HS.out x hx.out
      have HX' : Hid ((x = (k : Int) → ∀ i, i < k + 1 → ∀ j, j < i → (D.col j).name ≠ (D.col i).name) ∧ (x ≠ (k : Int) → onceF D = false)) := HX
      clear hcs hc hi hv hL HA HX HS
      have HBw : Hid (Below w.heap.size w wr) := hBw
      have HB : Hid (Below (w.heap.size + 1) (w.alloc (.cells #[.string D.name, .slice (some ⟨b1, o1, none⟩) D.nc cc, .slice ap D.np cp, .slice ai D.ni ci] 36)) wr) := hB
      clear hBw hB
      go_wp2_with fail
      go_region_held3 (fun WW => (WW.cell? ⟨w.heap.size, 0, none⟩ = some (.string D.name) ∧ WW.cell? ⟨w.heap.size, 1, none⟩ = some (.slice (some ⟨b1, o1, none⟩) D.nc cc) ∧ WW.cell? ⟨w.heap.size, 2, none⟩ = some (.slice ap D.np cp) ∧ WW.cell? ⟨w.heap.size, 3, none⟩ = some (.slice ai D.ni ci)) ∧ WW.cell? ⟨b1, o1 + k * 3, none⟩ = some (.string z)) (first | assumption | go_keep) (first | (go_at_call 86; refine (hLk _ (by repeat (first | exact HBw.out | refine Below.drew ?_))).mono ?_; rintro e w2 ⟨rfl, hB2⟩; have hcells : (w2.cell? ⟨w.heap.size, 0, none⟩ = some (.string D.name) ∧ w2.cell? ⟨w.heap.size, 1, none⟩ = some (.slice (some ⟨b1, o1, none⟩) D.nc cc) ∧ w2.cell? ⟨w.heap.size, 2, none⟩ = some (.slice ap D.np cp) ∧ w2.cell? ⟨w.heap.size, 3, none⟩ = some (.slice ai D.ni ci)) ∧ w2.cell? ⟨b1, o1 + k * 3, none⟩ = some (.string z) := (by (refine ⟨⟨?_, ?_, ?_, ?_⟩, ?_⟩ <;> (rw [hB2.cell (by first | (simp; omega) | exact hb1)]; assumption)))))
      all_goals
        have hb2 : Below wr.heap.size wr w2 := Below.trans (by repeat (first | exact Below.refl _ _ | refine Below.drew ?_)) hB2
        have HB2 : Hid (Below (w.heap.size + 1) (w.alloc (.cells #[.string D.name, .slice (some ⟨b1, o1, none⟩) D.nc cc, .slice ap D.np cp, .slice ai D.ni ci] 36)) w2) := box4_on HB.out hb2
        clear hB2 hb2 hLk HB
        by_cases hxk : x = (k : Int)
        · have hq : (x != (k : Int)) = false := by rw [hxk]; exact bne_self_eq_false _
          have HN : Hid (∀ i, i < k + 1 → ∀ j, j < i → (D.col j).name ≠ (D.col i).name) := HX'.out.1 hxk
          clear hxk HX' HBw hcells
          go_wp2
          go_roundg (D.nc - (k + 1))
          case measure => omega
          case rel => exact ⟨k + 1, by omega, rfl, by go_num, HB2.out, HN⟩
        · have hq : (x != (k : Int)) = true := by simpa using hxk
          have HF : Hid (onceF D = false) := HX'.out.2 hxk
          have HB3 : Hid (Below w.heap.size w w2) := (box4_below HB2.out).1
          clear hxk HX' HBw hcells
          go_wp2
          go_ret
          exact ⟨by rw [HF.out]; rfl, HB3.out⟩
    · have hkz : ¬ (k : Int) < (D.nc : Int) := by omega
      obtain rfl : k = D.nc := by omega
      clear hc hL hv
      go_wp2
      go_loopg [4] D.ni (fun q i wr => ∃ k : Nat, k ≤ D.ni ∧ q = D.ni - k ∧ i = .int .i64 k ∧ Below (w.heap.size + 1) (w.alloc (.cells #[.string D.name, .slice ac D.nc cc, .slice ap D.np cp, .slice ai D.ni ci] 36)) wr ∧ Hid (∀ i, i < k → ∀ j, j < i → (D.idx j).name ≠ (D.idx i).name))
      case atStart => exact ⟨0, Nat.zero_le _, rfl, rfl, hB, fun j hj => absurd hj (Nat.not_lt_zero _)⟩
      case round =>
        clear x0 x1 x2 x3 hBw hsz hB hkz hlt
        obtain ⟨k, hk, rfl, rfl, hB, HI⟩ := hrel
        obtain ⟨x0, x1, x2, x3⟩ := box4 hB
        obtain ⟨hBw, hsz⟩ := box4_below hB
        by_cases hlt : k < D.ni
        · have hkz : (k : Int) < (D.ni : Int) := by omega
          go_wp2
          go_loopg [5] k (fun q i wr => ∃ m : Nat, m ≤ k ∧ q = k - m ∧ i = .int .i64 m ∧ Below (w.heap.size + 1) (w.alloc (.cells #[.string D.name, .slice ac D.nc cc, .slice ap D.np cp, .slice ai D.ni ci] 36)) wr ∧ Hid (∀ j, j < m → (D.idx j).name ≠ (D.idx k).name))
          case atStart => exact ⟨0, Nat.zero_le _, rfl, rfl, hB, fun j hj => absurd hj (Nat.not_lt_zero _)⟩
          case round =>
            clear x0 x1 x2 x3 hBw hsz hB
            obtain ⟨m, hm, rfl, rfl, hB, HM⟩ := hrel
            obtain ⟨x0, x1, x2, x3⟩ := box4 hB
            obtain ⟨hBw, hsz⟩ := box4_below hB
            by_cases hmk : m < k
            · have hmz : (m : Int) < (k : Int) := by omega
              have hmn : (m : Int) < (D.ni : Int) := by omega
              obtain ⟨b1, o1, rfl, hb1, hcs⟩ := (hi.below hBw).cells (by omega)
              obtain ⟨y0, -, -⟩ := hcs k hlt
              obtain ⟨y1, -, -⟩ := hcs m (by omega)
              have HB2 : Hid (Below (w.heap.size + 1) (w.alloc (.cells #[.string D.name, .slice ac D.nc cc, .slice ap D.np cp, .slice (some ⟨b1, o1, none⟩) D.ni ci] 36)) wr) := hB
              have HBw : Hid (Below w.heap.size w wr) := hBw
              clear hcs hi hB hBw
              by_cases he : (D.idx m).name = (D.idx k).name
              · have hq := bytes_eq he
                have HF : Hid (onceF D = false) := by
                  show _ = _
                  unfold onceF
                  exact decide_eq_false (fun h => h.2 k hlt m hmk he)
                obtain ⟨z, hz⟩ : ∃ z, Hid ((D.idx k).name = z) := ⟨_, rfl⟩
                obtain ⟨y, hy⟩ : ∃ y, Hid ((D.idx m).name = y) := ⟨_, rfl⟩
                rw [hz.out] at y0 hq
                rw [hy.out] at y1 hq
                clear he HM HI HA
                go_wp2_with fail
                go_quiet (fail)
                go_wp2
                go_ret
                exact ⟨by rw [HF.out]; rfl, HBw.out.trans ⟨rfl, rfl, rfl, Nat.le_refl _, fun _ _ => rfl⟩⟩
              · have hq := bytes_ne he
                have HN : Hid (∀ j, j < m + 1 → (D.idx j).name ≠ (D.idx k).name) := by
                  intro j hj
                  by_cases hj' : j < m
                  · exact HM.out j hj'
                  · obtain rfl : j = m := by omega
                    exact he
                obtain ⟨z, hz⟩ : ∃ z, Hid ((D.idx k).name = z) := ⟨_, rfl⟩
                obtain ⟨y, hy⟩ : ∃ y, Hid ((D.idx m).name = y) := ⟨_, rfl⟩
                rw [hz.out] at y0 hq
                rw [hy.out] at y1 hq
                clear he HM HI HA
                go_wp2_with fail
                go_quiet (fail)
                go_wp2
                go_roundg (k - (m + 1))
                case measure => omega
                case rel => exact ⟨m + 1, by omega, rfl, by go_num, HB2.out.trans ⟨rfl, rfl, rfl, Nat.le_refl _, fun _ _ => rfl⟩, HN⟩
            · have hmz : ¬ (m : Int) < (k : Int) := by omega
              obtain rfl : m = k := by omega
              have HN : Hid (∀ i, i < m + 1 → ∀ j, j < i → (D.idx j).name ≠ (D.idx i).name) := by
                intro i hi'
                by_cases hj' : i < m
                · exact HI.out i hj'
                · obtain rfl : i = m := by omega
                  exact HM.out
              have HB2 : Hid (Below (w.heap.size + 1) (w.alloc (.cells #[.string D.name, .slice ac D.nc cc, .slice ap D.np cp, .slice ai D.ni ci] 36)) wr) := hB
              clear HM HI HA hi hB hBw
              go_wp2
              go_roundg (D.ni - (m + 1))
              case measure => omega
              case rel => exact ⟨m + 1, by omega, rfl, by go_num, HB2.out, HN⟩
        · have hkz : ¬ (k : Int) < (D.ni : Int) := by omega
          obtain rfl : k = D.ni := by omega
          have HF : Hid (onceF D = true) := decide_eq_true ⟨HA.out, HI.out⟩
          have HBw : Hid (Below w.heap.size w wr) := hBw
          clear HI HA hi hB hBw
          go_wp2
          go_ret
          exact ⟨by rw [HF.out]; rfl, HBw.out⟩
end Go.Proofs.YtkakkjnbhklfpaaGreatDoor

/-
  What is read as a table that nothing is wrong with has that table's tokens.
-/
namespace Go.Proofs.YtkakkjnbhklfpaaGreatDoor
open Go.RowKit
set_option maxRecDepth 4000

/-- All tokens are right. -/
def AllOk (l : List Tok) : Prop := ∀ t ∈ l, tokOk t.1 t.2 = true
theorem AllOk.app {a r : List Tok} (h : AllOk (a ++ r)) : AllOk r := fun x hx => h x (List.mem_append_right _ hx)
end Go.Proofs.YtkakkjnbhklfpaaGreatDoor

/-
  What Lex makes of a token's own text, plainly: the token alone, just if it is right.
-/
namespace Go.Proofs.YtkakkjnbhklfpaaGreatDoor
open Go.RowKit
set_option maxRecDepth 4000

/-- All that Lex makes is right. -/
theorem lexF_ok (s : ByteArray) (i : Nat) (l : List (Int × ByteArray)) (hl : ∀ t ∈ l, tokOk t.1 t.2 = true) : ∀ t ∈ (lexF s i l).1, tokOk t.1 t.2 = true := by
  by_cases h : i < s.size
  · cases hb : blank (bt s i) with
    | true => rw [lexF_blank h hb]; exact lexF_ok s (i + 1) l hl
    | false =>
      by_cases ht : tokOk (kindAt s i) (s.extract i (stopAt s i)) = true ∧ l.length ≠ 500
      · rw [lexF_tok h hb ht.1 ht.2]
        refine lexF_ok s (stopAt s i) _ (fun t h => ?_)
        rcases List.mem_append.1 h with h | h
        · exact hl t h
        · rw [List.mem_singleton.1 h]; exact ht.1
      · rw [lexF_no h hb ht]; intro t h; cases h
  · rw [lexF_end h]; exact hl
  termination_by s.size - i
  decreasing_by all_goals (have := stopAt_gt s i; omega)
/-- A token that is right is what Lex makes of its text. -/
theorem lex_self {k : Int} {s : ByteArray} (h : tokOk k s = true) : lexF s 0 [] = ([(k, s)], -1) := by
  have h1 := lex_join (l := [(k, s)]) (by simp) (fun i hi => by
    have : i = 0 := by simpa using hi
    subst this
    exact h)
  have h2 : joinT (ts [(k, s)]) [(k, s)].length = s := by
    show (if 0 < 0 then _ else (⟨#[]⟩ : ByteArray)) ++ s = s
    rw [if_neg (by omega)]
    have h0 : (⟨#[]⟩ : ByteArray).size = 0 := rfl
    exact bt_ext (by rw [ByteArray.size_append, h0, Nat.zero_add]) (fun i _ => by
      have := bt_right ⟨#[]⟩ s i
      rw [h0, Nat.zero_add] at this
      exact this)
  rw [h2] at h1
  exact h1
def eqT (k : Int) (s : ByteArray) (k' : Int) (s' : ByteArray) : Bool := decide (k = k') && decide (s = s')
theorem tok_self {k : Int} {s : ByteArray} (h : (lexF s 0 []).1.length = 1) : tokOk k s = eqT (tk (lexF s 0 []).1 0) (ts (lexF s 0 []).1 0) k s := by
  rw [Bool.eq_iff_iff]
  constructor
  · intro ht
    rw [lex_self ht]
    simp [eqT, tk, ts]
  · intro he
    simp only [eqT, Bool.and_eq_true, decide_eq_true_eq] at he
    obtain ⟨x, hx⟩ := List.length_eq_one_iff.1 h
    have := lexF_ok s 0 [] (by intro t h; cases h) x (by rw [hx]; simp)
    rw [hx] at he
    have e : x = (k, s) := Prod.ext (by simpa [tk] using he.1) (by simpa [ts] using he.2)
    rw [e] at this
    exact this
theorem tok_none {k : Int} {s : ByteArray} (h : (lexF s 0 []).1.length ≠ 1) : tokOk k s = false := by
  cases e : tokOk k s with
  | false => rfl
  | true => rw [lex_self e] at h; exact absurd rfl h
end Go.Proofs.YtkakkjnbhklfpaaGreatDoor

