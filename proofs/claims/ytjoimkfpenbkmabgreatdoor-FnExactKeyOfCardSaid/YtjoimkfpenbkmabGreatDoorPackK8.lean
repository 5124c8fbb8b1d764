/-
  Together: LexPart, DefToks, BytesEq, OnceSpec, ReadPlain
-/
import Derived.Test.YtjoimkfpenbkmabGreatDoorPackK7
import Derived.Test.YtjoimkfpenbkmabGreatDoorPackK1
import Derived.Test.YtjoimkfpenbkmabGreatDoorPackK3
import Derived.Deep.LoopGhost
import Derived.Deep.RegionHeld3
import Derived.Deep.QuietTactic
import Derived.BigQuiet
/-
  Pieces of a text that have their tokens wherever they stand.
-/
namespace Go.Proofs.YtjoimkfpenbkmabGreatDoor
open Go.RowKit
set_option maxRecDepth 4000

abbrev Tok := Int × ByteArray
/-- A right token that stands at a place, with nothing behind that goes on with a name, is read there. -/
theorem lex_tok {s t : ByteArray} {p : Nat} {kd : Int} {l : List Tok} (hk : tokOk kd t = true) (hat : ∀ j, j < t.size → bt s (p + j) = bt t j) (hle : p + t.size ≤ s.size) (hend2 : kd = 1 → p + t.size = s.size ∨ inName (bt s (p + t.size)) = false) (hl : l.length ≠ 500) :
    lexF s p l = lexF s (p + t.size) (l ++ [(kd, t)]) := by
  have hext : s.extract p (p + t.size) = t := by
    refine bt_ext (by rw [ByteArray.size_extract]; omega) (fun i hi => ?_)
    rw [ByteArray.size_extract] at hi
    rw [bt_extract hle (by omega), hat i (by omega)]
  by_cases c1 : kd = 1
  · subst c1
    have hn : nameOk t = true := hk
    unfold nameOk at hn
    simp only [decide_eq_true_eq] at hn
    obtain ⟨h1, h8, hs0, hall⟩ := hn
    have h0 := hat 0 (by omega)
    rw [Nat.add_zero] at h0
    have hka : kindAt s p = 1 := by unfold kindAt; rw [h0, hs0]; rfl
    have hst : stopAt s p = p + t.size := by
      unfold stopAt
      rw [h0, hs0]
      show endN s (p + 1) = _
      have := endN_run (s := s) (p := p) (m := t.size) hle (fun j hj => by rw [hat j hj]; exact hall j hj) (hend2 rfl) (t.size - 1) (by omega)
      rw [show p + (t.size - (t.size - 1)) = p + 1 by omega] at this
      exact this
    rw [lexF_tok (by omega) (blank_of (.inl (by rw [h0]; exact hall 0 (by omega)))) (by rw [hka, hst, hext]; exact hk) hl, hka, hst, hext]
  · have c2 : kd = 2 := by
      unfold tokOk at hk
      rw [if_neg c1] at hk
      by_cases c2 : kd = 2
      · exact c2
      · rw [if_neg c2] at hk; cases hk
    subst c2
    have hn : markOk t = true := hk
    unfold markOk at hn
    simp only [decide_eq_true_eq] at hn
    obtain ⟨h1, hm⟩ := hn
    have h0 := hat 0 (by omega)
    rw [Nat.add_zero] at h0
    have hsm : small (bt s p) = false := by
      rw [h0]
      unfold markC at hm
      unfold small
      simp only [decide_eq_true_eq] at hm
      apply decide_eq_false
      omega
    have hka : kindAt s p = 2 := by unfold kindAt; rw [hsm]; rfl
    have hst : stopAt s p = p + t.size := by unfold stopAt; rw [hsm, h1]; rfl
    rw [lexF_tok (by omega) (blank_of (.inr (by rw [h0]; exact hm))) (by rw [hka, hst, hext]; exact hk) hl, hka, hst, hext]

/-- t stands in s at p. -/
structure At (s : ByteArray) (p : Nat) (t : ByteArray) : Prop where
  le : p + t.size ≤ s.size
  eq : ∀ j, j < t.size → bt s (p + j) = bt t j
theorem At.left {s a b : ByteArray} {p : Nat} (h : At s p (a ++ b)) : At s p a := by
  have hs : (a ++ b).size = a.size + b.size := ByteArray.size_append
  exact ⟨by have := h.le; omega, fun j hj => by rw [h.eq j (by omega), bt_left hj]⟩
theorem At.right {s a b : ByteArray} {p : Nat} (h : At s p (a ++ b)) : At s (p + a.size) b := by
  have hs : (a ++ b).size = a.size + b.size := ByteArray.size_append
  exact ⟨by have := h.le; omega, fun j hj => by rw [Nat.add_assoc, h.eq (a.size + j) (by omega), bt_right]⟩
theorem At.self (s : ByteArray) : At s 0 s := ⟨by omega, fun j _ => by rw [Nat.zero_add]⟩
/-- A piece whose tokens are l, whatever stands behind it. -/
def Lc (t : ByteArray) (l : List Tok) : Prop := ∀ (s : ByteArray) (p : Nat) (acc : List Tok), At s p t → acc.length + l.length ≤ 500 → lexF s p acc = lexF s (p + t.size) (acc ++ l)
theorem Lc.app {a b : ByteArray} {la lb : List Tok} (ha : Lc a la) (hb : Lc b lb) : Lc (a ++ b) (la ++ lb) := by
  intro s p acc h hl
  rw [List.length_append] at hl
  rw [ha s p acc h.left (by omega), hb s (p + a.size) (acc ++ la) h.right (by rw [List.length_append]; omega), ByteArray.size_append, Nat.add_assoc, List.append_assoc]
theorem Lc.nil : Lc ⟨#[]⟩ [] := by
  intro s p acc _ _
  rw [List.append_nil]; rfl
theorem Lc.blank {c : UInt8} (h : blank (c.toNat : Int) = true) : Lc ⟨#[c]⟩ [] := by
  intro s p acc ha _
  have h1 : (⟨#[c]⟩ : ByteArray).size = 1 := rfl
  have h0 := ha.eq 0 (by omega)
  have hle := ha.le
  rw [Nat.add_zero] at h0
  rw [lexF_blank (by omega) (by rw [h0]; exact h), List.append_nil, h1]
theorem Lc.mark {c : UInt8} (h : tokOk 2 ⟨#[c]⟩ = true) : Lc ⟨#[c]⟩ [(2, ⟨#[c]⟩)] := by
  intro s p acc ha hl
  rw [List.length_singleton] at hl
  exact lex_tok h ha.eq ha.le (fun e => by cases e) (by omega)
/-- A name, and behind it a piece that does not go on with it. -/
theorem Lc.name {n b : ByteArray} {lb : List Tok} (hn : nameOk n = true) (hb : Lc b lb) (h0 : 0 < b.size) (hin : inName (bt b 0) = false) : Lc (n ++ b) ((1, n) :: lb) := by
  intro s p acc h hl
  rw [List.length_cons] at hl
  have hr := h.right
  have hat := hr.eq 0 h0
  rw [Nat.add_zero] at hat
  rw [lex_tok (kd := 1) hn h.left.eq h.left.le (fun _ => .inr (by rw [hat]; exact hin)) (by omega), hb s (p + n.size) (acc ++ [(1, n)]) hr (by rw [List.length_append, List.length_singleton]; omega), ByteArray.size_append, Nat.add_assoc, List.append_assoc]
  rfl
/-- A text that is such a piece has its tokens. -/
theorem Lc.lex {t : ByteArray} {l : List Tok} (h : Lc t l) (hl : l.length ≤ 500) : lexF t 0 [] = (l, -1) := by
  rw [h t 0 [] (At.self t) (by simpa using hl), lexF_end (by omega), List.nil_append]
end Go.Proofs.YtjoimkfpenbkmabGreatDoor

/-
  A table's text has its tokens.
-/
namespace Go.Proofs.YtjoimkfpenbkmabGreatDoor
open Go.RowKit
set_option maxRecDepth 4000

/-- A piece that may end in a name: what stands behind must not go on with it. -/
def Lo (t : ByteArray) (l : List Tok) : Prop := ∀ (b : ByteArray) (lb : List Tok), Lc b lb → 0 < b.size → inName (bt b 0) = false → Lc (t ++ b) (l ++ lb)
theorem Lo.name {a n : ByteArray} {la : List Tok} (ha : Lc a la) (hn : nameOk n = true) : Lo (a ++ n) (la ++ [(1, n)]) := by
  intro b lb hb h0 hin
  rw [ByteArray.append_assoc, List.append_assoc]
  exact ha.app (Lc.name hn hb h0 hin)
theorem bt_app0 {a b : ByteArray} (h : 0 < a.size) : bt (a ++ b) 0 = bt a 0 := bt_left h
theorem Lo.word {a n : ByteArray} {la : List Tok} (ha : Lo a la) (hn : nameOk n = true) : Lo (a ++ (⟨#[32]⟩ : ByteArray) ++ n) (la ++ [(1, n)]) := by
  intro b lb hb h0 hin
  rw [ByteArray.append_assoc, ByteArray.append_assoc, List.append_assoc]
  have h1 : Lc ((⟨#[32]⟩ : ByteArray) ++ (n ++ b)) ((1, n) :: lb) := (Lc.blank (c := 32) rfl).app (Lc.name hn hb h0 hin)
  have hs : 0 < (⟨#[32]⟩ : ByteArray).size := Nat.zero_lt_one
  refine ha _ _ h1 (by rw [ByteArray.size_append]; omega) ?_
  rw [bt_app0 hs]; rfl
theorem Lo.close {a b : ByteArray} {la lb : List Tok} (ha : Lo a la) (hb : Lc b lb) (h0 : 0 < b.size) (hin : inName (bt b 0) = false) : Lc (a ++ b) (la ++ lb) := ha b lb hb h0 hin

def tN (n : ByteArray) : Tok := (1, n)
def tM (c : UInt8) : Tok := (2, ⟨#[c]⟩)
def kTable : ByteArray := ⟨#[116, 97, 98, 108, 101]⟩
def kPrimary : ByteArray := ⟨#[112, 114, 105, 109, 97, 114, 121]⟩
def kUnique : ByteArray := ⟨#[117, 110, 105, 113, 117, 101]⟩
def kIndex : ByteArray := ⟨#[105, 110, 100, 101, 120]⟩
def kNull : ByteArray := ⟨#[110, 117, 108, 108]⟩
def kDesc : ByteArray := ⟨#[100, 101, 115, 99]⟩
/-- The tokens of a column, of a part, of parts, of an index, of a table. -/
def colK (c : PCol) : List Tok := [tN c.name, tN (typeW c.type)] ++ (if c.null then [tN kNull] else []) ++ [tM 59]
def partK (col : Nat → PCol) (x : PBy) : List Tok := [tN (col x.col.toNat).name] ++ (if x.desc then [tN kDesc] else [])
def partsK (col : Nat → PCol) (f : Nat → PBy) : Nat → List Tok
  | 0 => []
  | k + 1 => (if 0 < k then partsK col f k ++ [tM 44] else partsK col f k) ++ partK col (f k)
def partsEK (col : Nat → PCol) (n : Nat) (f : Nat → PBy) : List Tok := partsK col f n ++ [tM 59]
def colsK (col : Nat → PCol) : Nat → List Tok
  | 0 => []
  | k + 1 => colsK col k ++ colK (col k)
def idxK (col : Nat → PCol) (x : PIdx) : List Tok := [tN (if x.uniq then kUnique else kIndex), tN x.name] ++ partsEK col x.n x.part
def idxsK (D : PDef) : Nat → List Tok
  | 0 => []
  | k + 1 => idxsK D k ++ idxK D.col (D.idx k)
def defK (D : PDef) : List Tok := [tN kTable, tN D.name, tM 123] ++ colsK D.col D.nc ++ ([tN kPrimary] ++ partsEK D.col D.np D.pri) ++ idxsK D D.ni ++ [tM 125]

theorem lcBl : Lc ⟨#[32]⟩ [] := Lc.blank (c := 32) rfl
theorem lit2 (a b : UInt8) : (⟨#[a, b]⟩ : ByteArray) = (⟨#[a]⟩ : ByteArray) ++ (⟨#[b]⟩ : ByteArray) := by apply ByteArray.ext; simp
theorem lcSemi : Lc ⟨#[59, 32]⟩ [tM 59] := by rw [lit2]; exact (Lc.mark (c := 59) (by decide)).app lcBl
theorem lcComma : Lc ⟨#[44, 32]⟩ [tM 44] := by rw [lit2]; exact (Lc.mark (c := 44) (by decide)).app lcBl
theorem litDesc : (⟨#[32, 100, 101, 115, 99]⟩ : ByteArray) = (⟨#[32]⟩ : ByteArray) ++ kDesc := by apply ByteArray.ext; simp [kDesc]
theorem litNull : (⟨#[32, 110, 117, 108, 108]⟩ : ByteArray) = (⟨#[32]⟩ : ByteArray) ++ kNull := by apply ByteArray.ext; simp [kNull]
theorem litTable : (⟨#[116, 97, 98, 108, 101, 32]⟩ : ByteArray) = kTable ++ (⟨#[32]⟩ : ByteArray) := by apply ByteArray.ext; simp [kTable]
theorem litOpen : (⟨#[32, 123, 32]⟩ : ByteArray) = (⟨#[32]⟩ : ByteArray) ++ ((⟨#[123]⟩ : ByteArray) ++ (⟨#[32]⟩ : ByteArray)) := by apply ByteArray.ext; simp
theorem litPrimary : (⟨#[112, 114, 105, 109, 97, 114, 121, 32]⟩ : ByteArray) = kPrimary ++ (⟨#[32]⟩ : ByteArray) := by apply ByteArray.ext; simp [kPrimary]
theorem litUnique : (⟨#[117, 110, 105, 113, 117, 101, 32]⟩ : ByteArray) = kUnique ++ (⟨#[32]⟩ : ByteArray) := by apply ByteArray.ext; simp [kUnique]
theorem litIndex : (⟨#[105, 110, 100, 101, 120, 32]⟩ : ByteArray) = kIndex ++ (⟨#[32]⟩ : ByteArray) := by apply ByteArray.ext; simp [kIndex]
theorem lcWord {n : ByteArray} (h : nameOk n = true) : Lc (n ++ (⟨#[32]⟩ : ByteArray)) [tN n] := Lc.name h lcBl Nat.zero_lt_one rfl
theorem typeW_name {t : Int} (h1 : 1 ≤ t) (h4 : t ≤ 4) : nameOk (typeW t) = true := by
  have : t = 1 ∨ t = 2 ∨ t = 3 ∨ t = 4 := by omega
  rcases this with rfl | rfl | rfl | rfl <;> decide

theorem lo_parts {col : Nat → PCol} {f : Nat → PBy} {n : Nat} (h : ∀ i, i < n → nameOk (col (f i).col.toNat).name = true) : ∀ k, k < n → Lo (partsT col f (k + 1)) (partsK col f (k + 1))
  | 0, hk => by
    have h0 := h 0 hk
    rw [partsT, partsK, if_neg (Nat.lt_irrefl 0), if_neg (Nat.lt_irrefl 0)]
    show Lo (if (f 0).desc = true then (_ ++ _) ++ (⟨#[32, 100, 101, 115, 99]⟩ : ByteArray) else _) ([] ++ ([tN (col (f 0).col.toNat).name] ++ _))
    have h1 : Lo ((⟨#[]⟩ : ByteArray) ++ (col (f 0).col.toNat).name) ([] ++ [tN (col (f 0).col.toNat).name]) := Lo.name Lc.nil h0
    cases (f 0).desc with
    | false => exact h1
    | true =>
      rw [if_pos rfl, if_pos rfl, litDesc, ← ByteArray.append_assoc]
      exact h1.word (by decide)
  | k + 1, hk => by
    have ih := lo_parts h k (by omega)
    have h0 := h (k + 1) hk
    rw [partsT, partsK, if_pos (Nat.succ_pos k), if_pos (Nat.succ_pos k)]
    have hc : Lc (partsT col f (k + 1) ++ (⟨#[44, 32]⟩ : ByteArray)) (partsK col f (k + 1) ++ [tM 44]) := ih.close lcComma (by decide) rfl
    have h1 := Lo.name hc h0
    cases hd : (f (k + 1)).desc with
    | false =>
      simp only [partK, hd]
      exact h1
    | true =>
      simp only [partK, hd, if_true]
      rw [litDesc, ← ByteArray.append_assoc, ← List.append_assoc]
      exact h1.word (by decide)
theorem lc_parts {col : Nat → PCol} {f : Nat → PBy} {n : Nat} (hn : 1 ≤ n) (h : ∀ i, i < n → nameOk (col (f i).col.toNat).name = true) : Lc (partsE col n f) (partsEK col n f) := by
  obtain ⟨k, rfl⟩ : ∃ k, n = k + 1 := ⟨n - 1, by omega⟩
  exact (lo_parts h k (Nat.lt_succ_self k)).close lcSemi (by decide) rfl
theorem lc_cols {name : ByteArray} {col : Nat → PCol} {n : Nat} (hn : nameOk name = true) (h : ∀ i, i < n → nameOk (col i).name = true ∧ 1 ≤ (col i).type ∧ (col i).type ≤ 4) : ∀ k, k ≤ n → Lc (colsT name col k) ([tN kTable, tN name, tM 123] ++ colsK col k)
  | 0, _ => by
    rw [colsT, colsK, List.append_nil, litTable, litOpen]
    have h1 : Lo (kTable ++ (⟨#[32]⟩ : ByteArray) ++ name) ([tN kTable] ++ [tN name]) := Lo.name (lcWord (by decide)) hn
    exact h1.close (lcBl.app ((Lc.mark (c := 123) (by decide)).app lcBl)) (by decide) rfl
  | k + 1, hk => by
    have ih := lc_cols hn h k (by omega)
    obtain ⟨a1, a2, a3⟩ := h k (by omega)
    rw [colsT, colsK]
    have h1 := (Lo.name ih a1).word (typeW_name a2 a3)
    cases hz : (col k).null with
    | false =>
      have h2 := h1.close lcSemi (by decide) rfl
      simp only [colK, hz]
      simpa [tN, List.append_assoc] using h2
    | true =>
      have h2 := (h1.word (n := kNull) (by decide)).close lcSemi (by decide) rfl
      simp only [colK, hz, if_true]
      rw [litNull, ← ByteArray.append_assoc]
      simpa [tN, List.append_assoc] using h2
theorem word_name {s : ByteArray} (h : wordOk s = true) : nameOk s = true := by
  unfold wordOk at h
  simp only [Bool.and_eq_true] at h
  exact h.1
/-- The text of a table that nothing is wrong with. -/
theorem lc_text {D : PDef} (h : checkF D = 0) : Lc (textG D) (defK D) := by
  obtain ⟨h1, h2, -, h4, h5, -⟩ := checkF_good h
  unfold namesF at h1
  unfold typesF at h2
  unfold allPartsF at h5
  obtain ⟨hc, hi, hn⟩ := of_decide_eq_true h1
  obtain ⟨ht, -, -⟩ := of_decide_eq_true h2
  obtain ⟨hpi, hpp⟩ := of_decide_eq_true h5
  have hparts : ∀ (n : Nat) (f : Nat → PBy), partsF D.nc n f = true → Lc (partsE D.col n f) (partsEK D.col n f) := by
    intro n f hf
    refine lc_parts (partsF_two hf).1 (fun i hi => ?_)
    have := partsF_in hf hi
    exact word_name (hc _ (by omega))
  have hk : ∀ k, k ≤ D.ni → Lc (idxT D k) ([tN kTable, tN D.name, tM 123] ++ colsK D.col D.nc ++ ([tN kPrimary] ++ partsEK D.col D.np D.pri) ++ idxsK D k) := by
    intro k
    induction k with
    | zero =>
      intro _
      rw [idxT, idxsK, List.append_nil, litPrimary]
      exact (lc_cols (word_name hn) (fun i hi => ⟨word_name (hc i hi), ht i hi⟩) D.nc (Nat.le_refl _)).app ((lcWord (by decide)).app (hparts _ _ hpp))
    | succ k ih =>
      intro hk
      have h6 := ih (by omega)
      have h7 := hparts _ _ (hpi k (by omega))
      have h8 := word_name (hi k (by omega))
      rw [idxT, idxsK]
      cases hu : (D.idx k).uniq with
      | false =>
        have h9 := ((Lo.name (h6.app (lcWord (n := kIndex) (by decide))) h8).close lcBl Nat.zero_lt_one rfl).app h7
        simp only [idxK, hu]
        rw [if_neg (by simp), litIndex]
        simpa [tN, List.append_assoc] using h9
      | true =>
        have h9 := ((Lo.name (h6.app (lcWord (n := kUnique) (by decide))) h8).close lcBl Nat.zero_lt_one rfl).app h7
        simp only [idxK, hu, if_true]
        rw [litUnique]
        simpa [tN, List.append_assoc] using h9
  exact (hk D.ni (Nat.le_refl _)).app (Lc.mark (c := 125) (by decide))
end Go.Proofs.YtjoimkfpenbkmabGreatDoor

/-
  Texts that are held against each other.
-/
namespace Go.Proofs.YtjoimkfpenbkmabGreatDoor
open Go.RowKit
set_option maxRecDepth 4000

theorem bytes_inj {a b : ByteArray} : a.toList = b.toList ↔ a = b := by
  constructor
  · intro h
    rw [ByteArray.toList_eq, ByteArray.toList_eq] at h
    obtain ⟨⟨x⟩⟩ := a
    obtain ⟨⟨y⟩⟩ := b
    simp only at h
    rw [h]
  · rintro rfl; rfl
theorem bytes_eq {a b : ByteArray} (h : a = b) : (a.toList == b.toList) = true := by rw [h]; exact beq_self_eq_true _
theorem bytes_ne {a b : ByteArray} (h : a ≠ b) : (a.toList == b.toList) = false := by
  cases e : (a.toList == b.toList) with
  | false => rfl
  | true => exact absurd (bytes_inj.1 (eq_of_beq e)) h
end Go.Proofs.YtjoimkfpenbkmabGreatDoor

/-
  The model's l9Col and l9Once come to the plain ones.
-/
namespace Go.Proofs.YtjoimkfpenbkmabGreatDoor
open Go.RowKit
set_option maxRecDepth 4000

/-- The place of the first column from the k-th on, of m, that has a name; -1: there is none. -/
def colFrom (f : Nat → PCol) (s : ByteArray) : Nat → Nat → Int
  | 0, _ => -1
  | m + 1, k => if (f k).name = s then (k : Int) else colFrom f s m (k + 1)
/-- The place of the first of n columns that has a name; -1: there is none. -/
def colAt (f : Nat → PCol) (n : Nat) (s : ByteArray) : Int := colFrom f s n 0
theorem colFrom_skip (f : Nat → PCol) (s : ByteArray) : ∀ (k n : Nat), k ≤ n → (∀ j, j < k → (f j).name ≠ s) → colAt f n s = colFrom f s (n - k) k
  | 0, _, _, _ => rfl
  | k + 1, n, hk, hn => by
    rw [colFrom_skip f s k n (by omega) (fun j hj => hn j (by omega)), show n - k = (n - (k + 1)) + 1 by omega, colFrom, if_neg (hn k (by omega))]
theorem colAt_first {f : Nat → PCol} {n k : Nat} {s : ByteArray} (hk : k < n) (he : (f k).name = s) (hn : ∀ j, j < k → (f j).name ≠ s) : colAt f n s = k := by
  rw [colFrom_skip f s k n (by omega) hn, show n - k = (n - k - 1) + 1 by omega, colFrom, if_pos he]
theorem colAt_none {f : Nat → PCol} {n : Nat} {s : ByteArray} (hn : ∀ j, j < n → (f j).name ≠ s) : colAt f n s = -1 := by
  rw [colFrom_skip f s n n (Nat.le_refl _) hn, Nat.sub_self]; rfl
/-- A column is the first of its name just if none ahead has it. -/
theorem colAt_self {f : Nat → PCol} {n k : Nat} (hk : k < n) : colAt f n (f k).name = k ↔ ∀ j, j < k → (f j).name ≠ (f k).name := by
  constructor
  · intro h
    have key : ∀ m, m ≤ k → ∀ j, j < m → (f j).name ≠ (f k).name := by
      intro m
      induction m with
      | zero => intro _ j hj; exact absurd hj (Nat.not_lt_zero _)
      | succ m ih =>
        intro hm j hj
        have hi := ih (by omega)
        by_cases e : j < m
        · exact hi j e
        · obtain rfl : j = m := by omega
          intro he
          have := colAt_first (n := n) (by omega) he hi
          rw [h] at this
          omega
    exact key k (Nat.le_refl _)
  · exact fun h => colAt_first hk rfl h

set_option maxHeartbeats 1000000 in
theorem l9Col_any (v : Value) (D : PDef) (s : ByteArray) (w : World) (h : DView w v D) (hnc : D.nc ≤ 1048576) :
    Calls Tryz.prog 109 #[v, .string s] w fun e w' => e = .returned (.int .i64 (colAt D.col D.nc s)) ∧ Below w.heap.size w w' := by
  obtain ⟨ac, cc, ap, cp, ai, ci, rfl, hc, -, -⟩ := h.is
  clear h
  go_enter Tryz.func109, Tryz.ntmps109
  go_wp2
  go_loopg [5] D.nc (fun q i wr => ∃ k : Nat, k ≤ D.nc ∧ q = D.nc - k ∧ i = .int .i64 k ∧ wr = w.alloc (.cells #[.string D.name, .slice ac D.nc cc, .slice ap D.np cp, .slice ai D.ni ci] 60) ∧ Hid (∀ j, j < k → (D.col j).name ≠ s))
  case atStart => exact ⟨0, Nat.zero_le _, rfl, rfl, rfl, fun j hj => absurd hj (Nat.not_lt_zero _)⟩
  case round =>
    obtain ⟨k, hk, rfl, rfl, hW, HA⟩ := hrel
    have hB : Below (w.heap.size + 1) (w.alloc (.cells #[.string D.name, .slice ac D.nc cc, .slice ap D.np cp, .slice ai D.ni ci] 60)) wr := by rw [hW]; exact Below.refl _ _
    have HW : Hid (wr = w.alloc (.cells #[.string D.name, .slice ac D.nc cc, .slice ap D.np cp, .slice ai D.ni ci] 60)) := hW
    clear hW
    obtain ⟨x0, x1, x2, x3⟩ := box4 hB
    obtain ⟨hBw, hsz⟩ := box4_below hB
    clear hB
    by_cases hlt : k < D.nc
    · have hkz : (k : Int) < (D.nc : Int) := by omega
      obtain ⟨b1, o1, rfl, hb1, hcs⟩ := (hc.below hBw).cells (by omega)
      obtain ⟨y0, -, -⟩ := hcs k hlt
      clear hcs hc
      by_cases he : (D.col k).name = s
      · have HF : Hid (colAt D.col D.nc s = k) := colAt_first hlt he HA.out
        have hq := bytes_eq he
        obtain ⟨z, hz⟩ : ∃ z, Hid ((D.col k).name = z) := ⟨_, rfl⟩
        rw [hz.out] at y0 hq
        clear he
        go_wp2
        go_ret
        exact ⟨by rw [HF.out]; rfl, hBw⟩
      · have HN : Hid (∀ j, j < k + 1 → (D.col j).name ≠ s) := by
          intro j hj
          by_cases hj' : j < k
          · exact HA.out j hj'
          · obtain rfl : j = k := by omega
            exact he
        have hq := bytes_ne he
        obtain ⟨z, hz⟩ : ∃ z, Hid ((D.col k).name = z) := ⟨_, rfl⟩
        rw [hz.out] at y0 hq
        clear he HA
        go_wp2
        go_roundg (D.nc - (k + 1))
        case measure => omega
        case rel => exact ⟨k + 1, by omega, rfl, by go_num, HW.out, HN⟩
    · have hkz : ¬ (k : Int) < (D.nc : Int) := by omega
      obtain rfl : k = D.nc := by omega
      have HF : Hid (colAt D.col D.nc s = -1) := colAt_none HA.out
      clear hc HA
      go_wp2
      go_ret
      exact ⟨by rw [HF.out]; rfl, hBw⟩

set_option maxHeartbeats 2000000 in
theorem l9Once_any (v : Value) (D : PDef) (w : World) (h : DView w v D) (hnc : D.nc ≤ 1048576) (hni : D.ni ≤ 1048576) :
    Calls Tryz.prog 80 #[v] w fun e w' => e = .returned (.bool (onceF D)) ∧ Below w.heap.size w w' := by
  have hL := fun s W hV => l9Col_any v D s W hV hnc
  have hv := h
  obtain ⟨ac, cc, ap, cp, ai, ci, rfl, hc, -, hi⟩ := h.is
  clear h
  go_enter Tryz.func80, Tryz.ntmps80
  go_wp2
  go_loopg [3] D.nc (fun q i wr => ∃ k : Nat, k ≤ D.nc ∧ q = D.nc - k ∧ i = .int .i64 k ∧ Below (w.heap.size + 1) (w.alloc (.cells #[.string D.name, .slice ac D.nc cc, .slice ap D.np cp, .slice ai D.ni ci] 60)) wr ∧ Hid (∀ i, i < k → ∀ j, j < i → (D.col j).name ≠ (D.col i).name))
  case atStart => exact ⟨0, Nat.zero_le _, rfl, rfl, Below.refl _ _, fun j hj => absurd hj (Nat.not_lt_zero _)⟩
  case round =>
    obtain ⟨k, hk, rfl, rfl, hB, HA⟩ := hrel
    obtain ⟨x0, x1, x2, x3⟩ := box4 hB
    obtain ⟨hBw, hsz⟩ := box4_below hB
    by_cases hlt : k < D.nc
    · have hkz : (k : Int) < (D.nc : Int) := by omega
      have hLk := fun W (hb : Below w.heap.size w W) => hL (D.col k).name W (hv.below hb)
      obtain ⟨b1, o1, rfl, hb1, hcs⟩ := (hc.below hBw).cells (by omega)
      obtain ⟨y0, -, -⟩ := hcs k hlt
      have HS : Hid (∀ x, colAt D.col D.nc (D.col k).name = x → (x = (k : Int) → ∀ i, i < k + 1 → ∀ j, j < i → (D.col j).name ≠ (D.col i).name) ∧ (x ≠ (k : Int) → onceF D = false)) := by
        intro x e
        refine ⟨fun hx i hi => ?_, fun hx => ?_⟩
        · by_cases hj' : i < k
          · exact HA.out i hj'
          · obtain rfl : i = k := by omega
            exact (colAt_self hlt).1 (e.trans hx)
        · unfold onceF
          refine decide_eq_false (fun h => hx ?_)
          rw [← e]
          exact (colAt_self hlt).2 (h.1 k hlt)
      obtain ⟨x, hx⟩ : ∃ x, Hid (colAt D.col D.nc (D.col k).name = x) := ⟨_, rfl⟩
      simp only [hx.out] at hLk
      obtain ⟨z, hz⟩ : ∃ z, Hid ((D.col k).name = z) := ⟨_, rfl⟩
      rw [hz.out] at y0
      simp only [hz.out] at hLk
      have HX := HS.out x hx.out
      have HX' : Hid ((x = (k : Int) → ∀ i, i < k + 1 → ∀ j, j < i → (D.col j).name ≠ (D.col i).name) ∧ (x ≠ (k : Int) → onceF D = false)) := HX
      clear hcs hc hi hv hL HA HX HS
      have HBw : Hid (Below w.heap.size w wr) := hBw
      have HB : Hid (Below (w.heap.size + 1) (w.alloc (.cells #[.string D.name, .slice (some ⟨b1, o1, none⟩) D.nc cc, .slice ap D.np cp, .slice ai D.ni ci] 60)) wr) := hB
      clear hBw hB
      go_wp2_with fail
      go_region_held3 (fun WW => (WW.cell? ⟨w.heap.size, 0, none⟩ = some (.string D.name) ∧ WW.cell? ⟨w.heap.size, 1, none⟩ = some (.slice (some ⟨b1, o1, none⟩) D.nc cc) ∧ WW.cell? ⟨w.heap.size, 2, none⟩ = some (.slice ap D.np cp) ∧ WW.cell? ⟨w.heap.size, 3, none⟩ = some (.slice ai D.ni ci)) ∧ WW.cell? ⟨b1, o1 + k * 3, none⟩ = some (.string z)) (first | assumption | go_keep) (first | (go_at_call 109; refine (hLk _ (by repeat (first | exact HBw.out | refine Below.drew ?_))).mono ?_; rintro e w2 ⟨rfl, hB2⟩; have hcells : (w2.cell? ⟨w.heap.size, 0, none⟩ = some (.string D.name) ∧ w2.cell? ⟨w.heap.size, 1, none⟩ = some (.slice (some ⟨b1, o1, none⟩) D.nc cc) ∧ w2.cell? ⟨w.heap.size, 2, none⟩ = some (.slice ap D.np cp) ∧ w2.cell? ⟨w.heap.size, 3, none⟩ = some (.slice ai D.ni ci)) ∧ w2.cell? ⟨b1, o1 + k * 3, none⟩ = some (.string z) := (by (refine ⟨⟨?_, ?_, ?_, ?_⟩, ?_⟩ <;> (rw [hB2.cell (by first | (simp; omega) | exact hb1)]; assumption)))))
      all_goals
        have hb2 : Below wr.heap.size wr w2 := Below.trans (by repeat (first | exact Below.refl _ _ | refine Below.drew ?_)) hB2
        have HB2 : Hid (Below (w.heap.size + 1) (w.alloc (.cells #[.string D.name, .slice (some ⟨b1, o1, none⟩) D.nc cc, .slice ap D.np cp, .slice ai D.ni ci] 60)) w2) := box4_on HB.out hb2
        clear hB2 hb2 hLk HB
        by_cases hxk : x = (k : Int)
        · have hq : (x != (k : Int)) = false := by rw [hxk]; exact bne_self_eq_false _
          have HN : Hid (∀ i, i < k + 1 → ∀ j, j < i → (D.col j).name ≠ (D.col i).name) := HX'.out.1 hxk
          clear hxk HX' HBw hcells
          go_wp2
          go_roundg (D.nc - (k + 1))
          case measure => omega
          case rel => exact ⟨k + 1, by omega, rfl, by go_num, HB2.out, HN⟩
        · have hq : (x != (k : Int)) = true := by simpa using hxk
          have HF : Hid (onceF D = false) := HX'.out.2 hxk
          have HB3 : Hid (Below w.heap.size w w2) := (box4_below HB2.out).1
          clear hxk HX' HBw hcells
          go_wp2
          go_ret
          exact ⟨by rw [HF.out]; rfl, HB3.out⟩
    · have hkz : ¬ (k : Int) < (D.nc : Int) := by omega
      obtain rfl : k = D.nc := by omega
      clear hc hL hv
      go_wp2
      go_loopg [4] D.ni (fun q i wr => ∃ k : Nat, k ≤ D.ni ∧ q = D.ni - k ∧ i = .int .i64 k ∧ Below (w.heap.size + 1) (w.alloc (.cells #[.string D.name, .slice ac D.nc cc, .slice ap D.np cp, .slice ai D.ni ci] 60)) wr ∧ Hid (∀ i, i < k → ∀ j, j < i → (D.idx j).name ≠ (D.idx i).name))
      case atStart => exact ⟨0, Nat.zero_le _, rfl, rfl, hB, fun j hj => absurd hj (Nat.not_lt_zero _)⟩
      case round =>
        clear x0 x1 x2 x3 hBw hsz hB hkz hlt
        obtain ⟨k, hk, rfl, rfl, hB, HI⟩ := hrel
        obtain ⟨x0, x1, x2, x3⟩ := box4 hB
        obtain ⟨hBw, hsz⟩ := box4_below hB
        by_cases hlt : k < D.ni
        · have hkz : (k : Int) < (D.ni : Int) := by omega
          go_wp2
          go_loopg [5] k (fun q i wr => ∃ m : Nat, m ≤ k ∧ q = k - m ∧ i = .int .i64 m ∧ Below (w.heap.size + 1) (w.alloc (.cells #[.string D.name, .slice ac D.nc cc, .slice ap D.np cp, .slice ai D.ni ci] 60)) wr ∧ Hid (∀ j, j < m → (D.idx j).name ≠ (D.idx k).name))
          case atStart => exact ⟨0, Nat.zero_le _, rfl, rfl, hB, fun j hj => absurd hj (Nat.not_lt_zero _)⟩
          case round =>
            clear x0 x1 x2 x3 hBw hsz hB
            obtain ⟨m, hm, rfl, rfl, hB, HM⟩ := hrel
            obtain ⟨x0, x1, x2, x3⟩ := box4 hB
            obtain ⟨hBw, hsz⟩ := box4_below hB
            by_cases hmk : m < k
            · have hmz : (m : Int) < (k : Int) := by omega
              have hmn : (m : Int) < (D.ni : Int) := by omega
              obtain ⟨b1, o1, rfl, hb1, hcs⟩ := (hi.below hBw).cells (by omega)
              obtain ⟨y0, -, -⟩ := hcs k hlt
              obtain ⟨y1, -, -⟩ := hcs m (by omega)
              have HB2 : Hid (Below (w.heap.size + 1) (w.alloc (.cells #[.string D.name, .slice ac D.nc cc, .slice ap D.np cp, .slice (some ⟨b1, o1, none⟩) D.ni ci] 60)) wr) := hB
              have HBw : Hid (Below w.heap.size w wr) := hBw
              clear hcs hi hB hBw
              by_cases he : (D.idx m).name = (D.idx k).name
              · have hq := bytes_eq he
                have HF : Hid (onceF D = false) := by
                  show _ = _
                  unfold onceF
                  exact decide_eq_false (fun h => h.2 k hlt m hmk he)
                obtain ⟨z, hz⟩ : ∃ z, Hid ((D.idx k).name = z) := ⟨_, rfl⟩
                obtain ⟨y, hy⟩ : ∃ y, Hid ((D.idx m).name = y) := ⟨_, rfl⟩
                rw [hz.out] at y0 hq
                rw [hy.out] at y1 hq
                clear he HM HI HA
                go_wp2_with fail
                go_quiet (fail)
                go_wp2
                go_ret
                exact ⟨by rw [HF.out]; rfl, HBw.out.trans ⟨rfl, rfl, rfl, Nat.le_refl _, fun _ _ => rfl⟩⟩
              · have hq := bytes_ne he
                have HN : Hid (∀ j, j < m + 1 → (D.idx j).name ≠ (D.idx k).name) := by
                  intro j hj
                  by_cases hj' : j < m
                  · exact HM.out j hj'
                  · obtain rfl : j = m := by omega
                    exact he
                obtain ⟨z, hz⟩ : ∃ z, Hid ((D.idx k).name = z) := ⟨_, rfl⟩
                obtain ⟨y, hy⟩ : ∃ y, Hid ((D.idx m).name = y) := ⟨_, rfl⟩
                rw [hz.out] at y0 hq
                rw [hy.out] at y1 hq
                clear he HM HI HA
                go_wp2_with fail
                go_quiet (fail)
                go_wp2
                go_roundg (k - (m + 1))
                case measure => omega
                case rel => exact ⟨m + 1, by omega, rfl, by go_num, HB2.out.trans ⟨rfl, rfl, rfl, Nat.le_refl _, fun _ _ => rfl⟩, HN⟩
            · have hmz : ¬ (m : Int) < (k : Int) := by omega
              obtain rfl : m = k := by omega
              have HN : Hid (∀ i, i < m + 1 → ∀ j, j < i → (D.idx j).name ≠ (D.idx i).name) := by
                intro i hi'
                by_cases hj' : i < m
                · exact HI.out i hj'
                · obtain rfl : i = m := by omega
                  exact HM.out
              have HB2 : Hid (Below (w.heap.size + 1) (w.alloc (.cells #[.string D.name, .slice ac D.nc cc, .slice ap D.np cp, .slice ai D.ni ci] 60)) wr) := hB
              clear HM HI HA hi hB hBw
              go_wp2
              go_roundg (D.ni - (m + 1))
              case measure => omega
              case rel => exact ⟨m + 1, by omega, rfl, by go_num, HB2.out, HN⟩
        · have hkz : ¬ (k : Int) < (D.ni : Int) := by omega
          obtain rfl : k = D.ni := by omega
          have HF : Hid (onceF D = true) := decide_eq_true ⟨HA.out, HI.out⟩
          have HBw : Hid (Below w.heap.size w wr) := hBw
          clear HI HA hi hB hBw
          go_wp2
          go_ret
          exact ⟨by rw [HF.out]; rfl, HBw.out⟩
end Go.Proofs.YtjoimkfpenbkmabGreatDoor

/-
  Tables out of tokens, plainly: the model's reading.
-/
namespace Go.Proofs.YtjoimkfpenbkmabGreatDoor
open Go.RowKit
set_option maxRecDepth 4000

/-- Whether the next token is s; it is passed over then. -/
def isR (s : ByteArray) : List Tok → Bool × List Tok
  | [] => (false, [])
  | t :: r => if t.2 = s then (true, r) else (false, t :: r)
/-- The next token must be s. -/
def mustR (s : ByteArray) (l : List Tok) : Option (List Tok) := if (isR s l).1 then some (isR s l).2 else none
/-- The next token must be a name. -/
def nameR : List Tok → Option (ByteArray × List Tok)
  | [] => none
  | t :: r => if t.1 = 1 then some (t.2, r) else none
/-- The type, 0 where there is none. -/
def typeR (l : List Tok) : Int × List Tok :=
  if (isR (typeW 1) l).1 then (1, (isR (typeW 1) l).2) else if (isR (typeW 2) l).1 then (2, (isR (typeW 2) l).2) else if (isR (typeW 3) l).1 then (3, (isR (typeW 3) l).2) else if (isR (typeW 4) l).1 then (4, (isR (typeW 4) l).2) else (0, l)
def colR (l : List Tok) : Option (PCol × List Tok) := do
  let (n, l1) ← nameR l
  let (t, l2) := typeR l1
  let (z, l3) := isR kNull l2
  let l4 ← mustR ⟨#[59]⟩ l3
  return (⟨n, t, z⟩, l4)
/-- Parts of columns. -/
def partsR (cs : List PCol) : Nat → List Tok → Option (List PBy × List Tok)
  | 0, _ => none
  | q + 1, l => do
    let (n, l1) ← nameR l
    let (d, l2) := isR kDesc l1
    let x : PBy := ⟨colAt (fun i => cs.getD i ⟨⟨#[]⟩, 0, false⟩) cs.length n, d⟩
    if (isR ⟨#[44]⟩ l2).1 then
      let (r, l3) ← partsR cs q (isR ⟨#[44]⟩ l2).2
      return (x :: r, l3)
    else
      let l3 ← mustR ⟨#[59]⟩ l2
      return ([x], l3)
/-- Columns, as far as the word primary. -/
def colsR : Nat → List Tok → Option (List PCol × List Tok)
  | 0, _ => none
  | q + 1, l =>
    if (isR kPrimary l).1 then some ([], (isR kPrimary l).2)
    else do
      let (c, l1) ← colR l
      let (r, l2) ← colsR q l1
      return (c :: r, l2)
/-- The word of an index. -/
def idxW (u : Bool) (l : List Tok) : Option (List Tok) := if u then some l else mustR kIndex l
def idxsR (cs : List PCol) : Nat → List Tok → Option (List (ByteArray × Bool × List PBy) × List Tok)
  | 0, _ => none
  | q + 1, l =>
    if (isR ⟨#[125]⟩ l).1 then some ([], (isR ⟨#[125]⟩ l).2)
    else do
      let (u, l1) := isR kUnique l
      let l2 ← idxW u l1
      let (n, l3) ← nameR l2
      let (p, l4) ← partsR cs (l3.length + 1) l3
      let (r, l5) ← idxsR cs q l4
      return ((n, u, p) :: r, l5)
def mkBy (l : List PBy) (i : Nat) : PBy := l.getD i ⟨0, false⟩
def mkCol (l : List PCol) (i : Nat) : PCol := l.getD i ⟨⟨#[]⟩, 0, false⟩
def mkIdx (l : List (ByteArray × Bool × List PBy)) (i : Nat) : PIdx := ⟨(l.getD i (⟨#[]⟩, false, [])).1, (l.getD i (⟨#[]⟩, false, [])).2.1, (l.getD i (⟨#[]⟩, false, [])).2.2.length, mkBy (l.getD i (⟨#[]⟩, false, [])).2.2⟩
def mkDef (n : ByteArray) (c : List PCol) (p : List PBy) (x : List (ByteArray × Bool × List PBy)) : PDef := ⟨n, c.length, mkCol c, p.length, mkBy p, x.length, mkIdx x⟩
/-- A table. -/
def defR (l : List Tok) : Option (PDef × List Tok) := do
  let l1 ← mustR kTable l
  let (n, l2) ← nameR l1
  let l3 ← mustR ⟨#[123]⟩ l2
  let (c, l4) ← colsR (l3.length + 1) l3
  let (p, l5) ← partsR c (l4.length + 1) l4
  let (x, l6) ← idxsR c (l5.length + 1) l5
  return (mkDef n c p x, l6)
/-- Tables, to the end. -/
def defsR : Nat → List Tok → Option (List PDef)
  | _, [] => some []
  | 0, _ => none
  | q + 1, t :: r => do
    let (d, l1) ← defR (t :: r)
    let ds ← defsR q l1
    return (d :: ds)

/-- A list that is read off a function. -/
def offC (D : PDef) : List PCol := (List.range D.nc).map D.col
def offP (n : Nat) (f : Nat → PBy) : List PBy := (List.range n).map f

theorem isR_hit (k : Int) (s : ByteArray) (r : List Tok) : isR s ((k, s) :: r) = (true, r) := by simp [isR]
theorem isR_miss {t : Tok} {s : ByteArray} (h : t.2 ≠ s) (r : List Tok) : isR s (t :: r) = (false, t :: r) := by simp [isR, h]
theorem mustR_hit (k : Int) (s : ByteArray) (r : List Tok) : mustR s ((k, s) :: r) = some r := by simp [mustR, isR]
theorem nameR_hit (s : ByteArray) (r : List Tok) : nameR (tN s :: r) = some (s, r) := by simp [nameR, tN]
theorem typeR_hit {t : Int} (h1 : 1 ≤ t) (h4 : t ≤ 4) (r : List Tok) : typeR (tN (typeW t) :: r) = (t, r) := by
  have : t = 1 ∨ t = 2 ∨ t = 3 ∨ t = 4 := by omega
  rcases this with rfl | rfl | rfl | rfl <;> simp [typeR, isR, tN, typeW]
theorem null_not (r : List Tok) : isR kNull (tM 59 :: r) = (false, tM 59 :: r) := isR_miss (by decide) r
theorem colR_hit {c : PCol} (h1 : 1 ≤ c.type) (h4 : c.type ≤ 4) (r : List Tok) : colR (colK c ++ r) = some (c, r) := by
  unfold colR colK
  obtain ⟨n, t, z⟩ := c
  cases z with
  | false =>
    simp only [Bool.false_eq_true, if_false, List.append_nil, List.cons_append, List.nil_append]
    rw [nameR_hit]
    simp only [Option.bind_eq_bind, Option.bind_some]
    rw [typeR_hit h1 h4, null_not]
    rfl
  | true =>
    simp only [if_true, List.cons_append, List.nil_append]
    rw [nameR_hit]
    simp only [Option.bind_eq_bind, Option.bind_some]
    rw [typeR_hit h1 h4, show isR kNull (tN kNull :: tM 59 :: r) = (true, tM 59 :: r) from isR_hit 1 kNull _]
    rfl
end Go.Proofs.YtjoimkfpenbkmabGreatDoor

