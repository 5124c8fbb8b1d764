/-
  Together: But, TView, Info, TokBox, LexRow, TokMore
-/
import Derived.Test.YtjoimkfpenbkmaaGreatDoorPackP1
import Derived.Test.YtjoimkfpenbkmaaGreatDoorChecked
/-
  What turns but one block: how it is carried.
-/
namespace Go.Proofs.YtjoimkfpenbkmaaGreatDoor
open Go.RowKit
set_option maxRecDepth 4000

/-- Of what was there block g alone may have turned. -/
structure But (g : Nat) (w w' : World) : Prop where
  os : w'.os = w.os
  tape : w'.tape = w.tape
  output : w'.output = w.output
  size : w.heap.size ≤ w'.heap.size
  block : ∀ k, k < w.heap.size → k ≠ g → w'.heap[k]? = w.heap[k]?

theorem But.refl (g : Nat) (w : World) : But g w w := ⟨rfl, rfl, rfl, Nat.le_refl _, fun _ _ _ => rfl⟩
theorem But.trans {g : Nat} {a b c : World} (h : But g a b) (k : But g b c) : But g a c :=
  ⟨k.os.trans h.os, k.tape.trans h.tape, k.output.trans h.output, Nat.le_trans h.size k.size, fun i hi hg => (k.block i (Nat.lt_of_lt_of_le hi h.size) hg).trans (h.block i hi hg)⟩
theorem But.ofOnly {g : Nat} {w w' : World} (h : Only g w w') : But g w w' := ⟨h.os, h.tape, h.output, by rw [h.size]; exact Nat.le_refl _, fun k _ hk => h.block k hk⟩
theorem But.ofBelow {g : Nat} {w w' : World} (h : Below w.heap.size w w') : But g w w' := ⟨h.os, h.tape, h.output, h.size, fun k hk _ => h.block k hk⟩
theorem But.below {g B : Nat} {w w' : World} (h : But g w w') (hB : B ≤ g) (hs : B ≤ w.heap.size) : Below B w w' := ⟨h.os, h.tape, h.output, h.size, fun k hk => h.block k (by omega) (by omega)⟩
theorem But.row {t : TypeId} {g b n : Nat} {f : Nat → Int} {w w' : World} (h : But g w w') (hr : Row t w b n f) (hne : b ≠ g) : Row t w' b n f := hr.of_block (h.block b hr.lt hne)
theorem But.view {g : Nat} {ao : Option Addr} {n cap : Nat} {f : Nat → Int} {w w' : World} (h : But g w w') (hv : View w ao n cap f) (hne : ∀ a, ao = some a → 0 < n → a.block ≠ g) : View w' ao n cap f := by
  refine ⟨hv.le, hv.byte, fun hn => ?_⟩
  obtain ⟨b', off, e, hlt, hc⟩ := hv.cells hn
  refine ⟨b', off, e, Nat.lt_of_lt_of_le hlt h.size, fun i hi => ?_⟩
  rw [World.cell?_of_block (w := w) (h.block b' hlt (hne _ e hn))]
  exact hc i hi
theorem Only.grown {g : Nat} {w w' : World} (h : Only g w w') : w.grownBy w' (some g) :=
  ⟨h.os, h.tape, h.output, by rw [h.size]; exact Nat.le_refl _, fun k _ hk => h.block k (fun e => hk (by rw [e]))⟩
theorem But.grown {g : Nat} {w w' : World} (h : But g w w') : w.grownBy w' (some g) := ⟨h.os, h.tape, h.output, h.size, fun k hk hne => h.block k hk (fun e => hne (by rw [e]))⟩
end Go.Proofs.YtjoimkfpenbkmaaGreatDoor

/-
  A slice of tokens that reads, by a function of the index, and how that is carried from one world to the next.
-/
namespace Go.Proofs.YtjoimkfpenbkmaaGreatDoor
open Go.RowKit
set_option maxRecDepth 4000

/-- The slice value '.slice ao n cap' reads, in the world w, as the n tokens f 0 up to f (n - 1). -/
structure TView (w : World) (ao : Option Addr) (n cap : Nat) (fk : Nat → Int) (fs : Nat → ByteArray) : Prop where
  le : n ≤ cap
  cells : 0 < n → ∃ b off, ao = some ⟨b, off, none⟩ ∧ b < w.heap.size ∧ ∀ i, i < n → w.cell? ⟨b, off + i * 2, none⟩ = some (.int .i64 (fk i)) ∧ w.cell? ⟨b, off + i * 2 + 1, none⟩ = some (.string (fs i))

theorem TView.below {w w' : World} {ao : Option Addr} {n cap : Nat} {fk : Nat → Int} {fs : Nat → ByteArray} (h : TView w ao n cap fk fs) (hb : Below w.heap.size w w') : TView w' ao n cap fk fs := by
  refine ⟨h.le, fun hn => ?_⟩
  obtain ⟨b, off, e, hlt, hc⟩ := h.cells hn
  refine ⟨b, off, e, Nat.lt_of_lt_of_le hlt hb.size, fun i hi => ?_⟩
  rw [hb.cell (p := ⟨b, off + i * 2, none⟩) hlt, hb.cell (p := ⟨b, off + i * 2 + 1, none⟩) hlt]
  exact hc i hi
theorem TView.but {w w' : World} {g : Nat} {ao : Option Addr} {n cap : Nat} {fk : Nat → Int} {fs : Nat → ByteArray} (h : TView w ao n cap fk fs) (hb : But g w w') (hne : ∀ a, ao = some a → a.block ≠ g) : TView w' ao n cap fk fs := by
  refine ⟨h.le, fun hn => ?_⟩
  obtain ⟨b, off, e, hlt, hc⟩ := h.cells hn
  refine ⟨b, off, e, Nat.lt_of_lt_of_le hlt hb.size, fun i hi => ?_⟩
  rw [World.cell?_of_block (w := w) (a := ⟨b, off + i * 2, none⟩) (hb.block b hlt (hne _ e)), World.cell?_of_block (w := w) (a := ⟨b, off + i * 2 + 1, none⟩) (hb.block b hlt (hne _ e))]
  exact hc i hi
theorem TView.congr {w : World} {ao : Option Addr} {n cap : Nat} {fk gk : Nat → Int} {fs gs : Nat → ByteArray} (h : TView w ao n cap fk fs) (e : ∀ i, i < n → fk i = gk i ∧ fs i = gs i) : TView w ao n cap gk gs := by
  refine ⟨h.le, fun hn => ?_⟩
  obtain ⟨b, off, ea, hlt, hc⟩ := h.cells hn
  exact ⟨b, off, ea, hlt, fun i hi => by rw [← (e i hi).1, ← (e i hi).2]; exact hc i hi⟩

/-- The cells of the first k tokens. -/
def rowK (gk : Nat → Int) (gs : Nat → ByteArray) : Nat → List Value
  | 0 => []
  | k + 1 => rowK gk gs k ++ [.int .i64 (gk k), .string (gs k)]
theorem rowK_len (gk : Nat → Int) (gs : Nat → ByteArray) : ∀ k, (rowK gk gs k).length = k * 2
  | 0 => rfl
  | k + 1 => by rw [rowK, List.length_append, rowK_len gk gs k]; simp; omega
theorem rowK_get (gk : Nat → Int) (gs : Nat → ByteArray) : ∀ k i, i < k → (rowK gk gs k)[i * 2]? = some (.int .i64 (gk i)) ∧ (rowK gk gs k)[i * 2 + 1]? = some (.string (gs i))
  | k + 1, i, hi => by
    have hl := rowK_len gk gs k
    by_cases e : i < k
    · obtain ⟨h1, h2⟩ := rowK_get gk gs k i e
      rw [rowK, List.getElem?_append_left (by omega), List.getElem?_append_left (by omega)]
      exact ⟨h1, h2⟩
    · obtain rfl : i = k := by omega
      rw [rowK, List.getElem?_append_right (by omega), List.getElem?_append_right (by omega), hl]
      simp [show i * 2 + 1 - i * 2 = 1 by omega]
theorem rowK_congr {gk : Nat → Int} {gs : Nat → ByteArray} {hk : Nat → Int} {hs : Nat → ByteArray} : ∀ {k : Nat}, (∀ i, i < k → gk i = hk i ∧ gs i = hs i) → rowK gk gs k = rowK hk hs k
  | 0, _ => rfl
  | k + 1, e => by
    obtain ⟨h1, h3⟩ := e k (by omega)
    rw [rowK, rowK, rowK_congr (fun i hi => e i (by omega)), h1, h3]

/-- A row of tokens of the call's own reads. -/
theorem tview_of_own {w : World} {base : Nat} {v : Value} {N : Nat} {gk : Nat → Int} {gs : Nat → ByteArray} (h : w.ownsRow base 222 2 v N (rowK gk gs N)) : ∃ a c, v = .slice a N c ∧ TView w a N c gk gs ∧ (v ≠ .slice none 0 0 → ∃ g, a = some ⟨g, 0, none⟩ ∧ base ≤ g) := by
  obtain ⟨hl, h⟩ := h
  rcases h with ⟨rfl, h0⟩ | ⟨g, c, cur, rfl, hb, hg, hnc, _, hcs, ht⟩
  · have hN : N = 0 := by have := h0; have := rowK_len gk gs N; omega
    subst hN
    exact ⟨none, 0, rfl, ⟨Nat.le_refl _, fun hn => absurd hn (Nat.lt_irrefl _)⟩, fun hne => absurd rfl hne⟩
  · refine ⟨_, c, rfl, ⟨hnc, fun hn => ⟨g, 0, rfl, ?_, fun i hi => ?_⟩⟩, fun _ => ⟨g, rfl, hb⟩⟩
    · exact (Array.getElem?_eq_some_iff.1 hg).1
    · have key : ∀ j x, j < N * 2 → (rowK gk gs N)[j]? = some x → w.cell? ⟨g, 0 + j, none⟩ = some x := by
        intro j x hj hx
        rw [← ht, List.getElem?_take, if_pos hj] at hx
        simp only [World.cell?, hg, Nat.zero_add]
        simpa using hx
      obtain ⟨h1, h2⟩ := rowK_get gk gs N i hi
      have k0 := key _ _ (by omega) h1
      have k1 := key _ _ (by omega) h2
      simp only [Nat.zero_add] at k0 k1 ⊢
      exact ⟨k0, k1⟩
end Go.Proofs.YtjoimkfpenbkmaaGreatDoor

/-
  What the table of the types says of the bytes.
-/
namespace Go.Proofs.YtjoimkfpenbkmaaGreatDoor
open Go.RowKit
set_option maxRecDepth 4000

theorem Tryz.info5 : (Tryz.prog.info? 5).map (fun i => (i.zero, i.size, i.bytes)) = some (some (.int .u8 0), 1, 1) := by kernel_rfl

end Go.Proofs.YtjoimkfpenbkmaaGreatDoor

/-
  A token in a variable of the call's own; a row of tokens grows by one.
-/
namespace Go.Proofs.YtjoimkfpenbkmaaGreatDoor
open Go.RowKit
set_option maxRecDepth 4000

/-- The two cells of a token. -/
def tokC (k : Int) (s : ByteArray) : Nat → Value
  | 0 => .int .i64 k
  | _ => .string s

/-- A token in a variable of the call's own. -/
def TBox (w : World) (B : Nat) (k : Int) (s : ByteArray) : Prop := w.rowIs B 222 2 (tokC k s)
theorem TBox.new (w : World) (k : Int) (s : ByteArray) : TBox (w.alloc (.cells #[.int .i64 k, .string s] 222)) w.heap.size k s :=
  World.rowIs_alloc w _ 222 (tokC k s) (fun j hj => by match j, hj with | 0, _ => rfl | 1, _ => rfl)
theorem TBox.cells {w : World} {B : Nat} {k : Int} {s : ByteArray} (h : TBox w B k s) : w.cell? ⟨B, 0, none⟩ = some (.int .i64 k) ∧ w.cell? ⟨B, 1, none⟩ = some (.string s) :=
  ⟨h.cell (i := 0) (by decide), h.cell (i := 1) (by decide)⟩
theorem TBox.frozen {w : World} {B : Nat} {k : Int} {s : ByteArray} (h : TBox w B k s) : w.frozen? ⟨B, 0, none⟩ = false ∧ w.frozen? ⟨B, 1, none⟩ = false :=
  ⟨World.rowIs.frozen h 0, World.rowIs.frozen h 1⟩
theorem TBox.lt {w : World} {B : Nat} {k : Int} {s : ByteArray} (h : TBox w B k s) : B < w.heap.size := World.rowIs.lt h
theorem TBox.below {w w' : World} {B : Nat} {k : Int} {s : ByteArray} (h : TBox w B k s) (hb : Below w.heap.size w w') : TBox w' B k s := h.of_block (hb.block B h.lt)
theorem TBox.but {w w' : World} {B g : Nat} {k : Int} {s : ByteArray} (h : TBox w B k s) (hb : But g w w') (hne : B ≠ g) : TBox w' B k s := h.of_block (hb.block B h.lt hne)
theorem TBox.set0 {w : World} {B : Nat} {k : Int} {s : ByteArray} (h : TBox w B k s) (x : Int) : TBox (w.setCell ⟨B, 0, none⟩ (.int .i64 x)) B x s :=
  (World.rowIs.set h 0 _).congr (fun j hj => by match j, hj with | 0, _ => rfl | 1, _ => rfl)
theorem TBox.set1 {w : World} {B : Nat} {k : Int} {s : ByteArray} (h : TBox w B k s) (t : ByteArray) : TBox (w.setCell ⟨B, 1, none⟩ (.string t)) B k t :=
  (World.rowIs.set h 1 _).congr (fun j hj => by match j, hj with | 0, _ => rfl | 1, _ => rfl)
theorem TBox.other {w : World} {B D i : Nat} {k : Int} {s : ByteArray} (h : TBox w B k s) (hne : B ≠ D) (u : Value) : TBox (w.setCell ⟨D, i, none⟩ u) B k s := h.of_block (Below.heap_setCell _ _ _ _ hne)

theorem infoTok2 : ∃ i, Tryz.prog.info? 222 = some i ∧ i.zero = some (.agg #[.int .i64 0, .string ⟨#[]⟩]) ∧ i.size = 2 ∧ i.bytes = 24 := by
  have h : (Tryz.prog.info? 222).map (fun i => (i.zero, i.size, i.bytes)) = some (some (.agg #[.int .i64 0, .string ⟨#[]⟩]), 2, 24) := by kernel_rfl
  obtain ⟨i, hi, hz⟩ := Option.map_eq_some_iff.1 h
  simp only [Prod.mk.injEq] at hz
  exact ⟨i, hi, hz.1, hz.2.1, hz.2.2⟩

/-- The cells of a new row of one token. -/
theorem cells_tok (W : World) (k : Int) (s : ByteArray) : ∀ j u, [Value.int .i64 k, .string s][j]? = some u → (W.alloc (.cells #[.int .i64 k, .string s] 222)).cell? ((⟨W.heap.size, 0, none⟩ : Addr).add j) = some u := by
  intro j u h
  obtain ⟨c0, c1⟩ := (TBox.new W k s).cells
  have ea : ∀ j, (⟨W.heap.size, 0, none⟩ : Addr).add j = ⟨W.heap.size, 0 + j, none⟩ := fun j => by unfold Addr.add; split <;> simp_all
  match j, h with
  | 0, h => cases h; rw [ea]; exact c0
  | 1, h => cases h; rw [ea]; exact c1
  | j + 2, h => simp at h
theorem one_tok (k : Int) (s : ByteArray) : ∀ u ∈ [Value.int .i64 k, .string s], u.oneCell' = true := by
  intro u hu
  simp at hu
  rcases hu with rfl | rfl <;> rfl
theorem own_below2 {w w' : World} {base : Nat} {t : TypeId} {v : Value} {n : Nat} {l : List Value} (h : w.ownsRow base t 2 v n l) (hb : Below w.heap.size w w') : w'.ownsRow base t 2 v n l := by
  refine h.kept (row := none) ⟨hb.os, hb.tape, hb.output, hb.size, fun k hk _ => hb.block k hk⟩ ?_
  cases hv : v.ownBlock with
  | none => exact Or.inl rfl
  | some k => exact Or.inr (fun e => by cases e)
end Go.Proofs.YtjoimkfpenbkmaaGreatDoor

/-
  What Lex comes to: tokens in a row of the call's own, and a place.
-/
namespace Go.Proofs.YtjoimkfpenbkmaaGreatDoor
open Go.RowKit
set_option maxRecDepth 4000

def tk (l : List (Int × ByteArray)) (i : Nat) : Int := (l.getD i (0, ⟨#[]⟩)).1
def ts (l : List (Int × ByteArray)) (i : Nat) : ByteArray := (l.getD i (0, ⟨#[]⟩)).2
/-- The cells of a list of tokens. -/
def rowL (l : List (Int × ByteArray)) : List Value := l.flatMap (fun t => [.int .i64 t.1, .string t.2])
theorem rowL_snoc (l : List (Int × ByteArray)) (t : Int × ByteArray) : rowL (l ++ [t]) = rowL l ++ [.int .i64 t.1, .string t.2] := by simp [rowL]
theorem tk_left {l m : List (Int × ByteArray)} {i : Nat} (h : i < l.length) : tk (l ++ m) i = tk l i ∧ ts (l ++ m) i = ts l i := by
  unfold tk ts; simp [List.getD, List.getElem?_append_left h]
theorem rowL_K : ∀ l : List (Int × ByteArray), rowL l = rowK (tk l) (ts l) l.length := by
  have key : ∀ (l : List (Int × ByteArray)) (k : Nat), k ≤ l.length → rowL (l.take k) = rowK (tk l) (ts l) k := by
    intro l k
    induction k with
    | zero => intro _; rfl
    | succ k ih =>
      intro hk
      have h1 : l.take (k + 1) = l.take k ++ [l[k]] := by rw [List.take_add_one, List.getElem?_eq_getElem (by omega)]; rfl
      have h2 : l.getD k (0, ⟨#[]⟩) = l[k] := by simp [List.getD, List.getElem?_eq_getElem (show k < l.length by omega)]
      rw [h1, rowL_snoc, ih (by omega), rowK]
      unfold tk ts
      rw [h2]
  intro l
  have := key l l.length (Nat.le_refl _)
  rw [List.take_length] at this
  exact this
/-- What Lex comes to. -/
def LexTo (w : World) (r : List (Int × ByteArray) × Int) (e : Ending) (w' : World) : Prop :=
  ∃ v, e = .returned (.tuple #[v, .int .i64 r.2]) ∧ v ≠ .slice none 0 0 ∧ w'.ownsRow w.heap.size 222 2 v r.1.length (rowL r.1) ∧ Below w.heap.size w w'
end Go.Proofs.YtjoimkfpenbkmaaGreatDoor

/-
  Names and marks in a text, plainly.
-/
namespace Go.Proofs.YtjoimkfpenbkmaaGreatDoor
open Go.RowKit
set_option maxRecDepth 4000

theorem endN_in {s : ByteArray} {p j : Nat} (h1 : p ≤ j) (h2 : j < endN s p) : inName (bt s j) = true := by
  by_cases h : p < s.size ∧ inName (bt s p) = true
  · by_cases e : p = j
    · subst e; exact h.2
    · rw [endN_step h.1 h.2] at h2
      exact endN_in (p := p + 1) (by omega) h2
  · rw [endN_stop h] at h2; omega
  termination_by s.size - p
  decreasing_by omega
/-- A name in a text is right just if it is not too long. -/
theorem name_ok {s : ByteArray} {i : Nat} (hi : i < s.size) (hsm : small (bt s i) = true) : nameOk (s.extract i (endN s (i + 1))) = decide (endN s (i + 1) - i ≤ 8) := by
  have hge := endN_ge s (i + 1)
  have hle := endN_le s (i + 1) (by omega)
  have hsz : (s.extract i (endN s (i + 1))).size = endN s (i + 1) - i := by rw [ByteArray.size_extract]; omega
  unfold nameOk
  rw [hsz, bt_extract hle (by omega), Nat.add_zero]
  by_cases h8 : endN s (i + 1) - i ≤ 8
  · rw [decide_eq_true h8]
    refine decide_eq_true ⟨by omega, h8, hsm, fun j hj => ?_⟩
    rw [bt_extract hle (by omega)]
    by_cases h0 : j = 0
    · subst h0; rw [Nat.add_zero]; unfold inName; rw [hsm]; rfl
    · exact endN_in (p := i + 1) (by omega) (by omega)
  · rw [decide_eq_false h8]
    exact decide_eq_false (fun h => h8 h.2.1)
theorem mark_ok {s : ByteArray} {i : Nat} (hi : i < s.size) : markOk (s.extract i (i + 1)) = markC (bt s i) := by
  have hsz : (s.extract i (i + 1)).size = 1 := by rw [ByteArray.size_extract]; omega
  unfold markOk
  rw [hsz, bt_extract (by omega) (by omega), Nat.add_zero]
  simp
theorem small_kind {s : ByteArray} {i : Nat} (h : small (bt s i) = true) : kindAt s i = 1 ∧ stopAt s i = endN s (i + 1) := by unfold kindAt stopAt; rw [h]; exact ⟨rfl, rfl⟩
theorem other_kind {s : ByteArray} {i : Nat} (h : small (bt s i) = false) : kindAt s i = 2 ∧ stopAt s i = i + 1 := by unfold kindAt stopAt; rw [h]; exact ⟨rfl, rfl⟩
theorem mark_not {c : Int} (h : markC c = true) : small c = false ∧ blank c = false := by
  unfold markC at h
  unfold small blank
  simp only [decide_eq_true_eq] at h
  exact ⟨decide_eq_false (by omega), decide_eq_false (by omega)⟩
theorem small_not {c : Int} (h : small c = true) : blank c = false := by
  unfold small at h
  unfold blank
  simp only [decide_eq_true_eq] at h
  exact decide_eq_false (by omega)
end Go.Proofs.YtjoimkfpenbkmaaGreatDoor

