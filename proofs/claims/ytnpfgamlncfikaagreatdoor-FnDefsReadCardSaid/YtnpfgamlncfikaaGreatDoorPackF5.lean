/-
  Together: DefText, LexPart, DefToks, BytesEq
-/
import Derived.Test.YtnpfgamlncfikaaGreatDoorPackF3
import Derived.Test.YtnpfgamlncfikaaGreatDoorPackF4
import Derived.Test.YtnpfgamlncfikaaGreatDoorPackF1
/-
  A table's text, plainly.
-/
namespace Go.Proofs.YtnpfgamlncfikaaGreatDoor
open Go.RowKit
set_option maxRecDepth 4000

def typeW (t : Int) : ByteArray := if t = 1 then ⟨#[105, 110, 116]⟩ else if t = 2 then ⟨#[110, 117, 109]⟩ else if t = 3 then ⟨#[116, 101, 120, 116]⟩ else if t = 4 then ⟨#[98, 111, 111, 108]⟩ else ⟨#[]⟩
/-- The text of the first k parts. -/
def partsT (col : Nat → PCol) (f : Nat → PBy) : Nat → ByteArray
  | 0 => ⟨#[]⟩
  | k + 1 =>
    let s := (if 0 < k then partsT col f k ++ (⟨#[44, 32]⟩ : ByteArray) else partsT col f k) ++ (col (f k).col.toNat).name
    if (f k).desc then s ++ (⟨#[32, 100, 101, 115, 99]⟩ : ByteArray) else s
/-- The text as far as the first k columns. -/
def colsT (name : ByteArray) (col : Nat → PCol) : Nat → ByteArray
  | 0 => (⟨#[116, 97, 98, 108, 101, 32]⟩ : ByteArray) ++ name ++ (⟨#[32, 123, 32]⟩ : ByteArray)
  | k + 1 =>
    let s := colsT name col k ++ (col k).name ++ (⟨#[32]⟩ : ByteArray) ++ typeW (col k).type
    (if (col k).null then s ++ (⟨#[32, 110, 117, 108, 108]⟩ : ByteArray) else s) ++ (⟨#[59, 32]⟩ : ByteArray)
def partsE (col : Nat → PCol) (n : Nat) (f : Nat → PBy) : ByteArray := partsT col f n ++ (⟨#[59, 32]⟩ : ByteArray)
/-- .. and the first k indexes. -/
def idxT (D : PDef) : Nat → ByteArray
  | 0 => colsT D.name D.col D.nc ++ ((⟨#[112, 114, 105, 109, 97, 114, 121, 32]⟩ : ByteArray) ++ partsE D.col D.np D.pri)
  | k + 1 => idxT D k ++ (if (D.idx k).uniq then (⟨#[117, 110, 105, 113, 117, 101, 32]⟩ : ByteArray) else (⟨#[105, 110, 100, 101, 120, 32]⟩ : ByteArray)) ++ (D.idx k).name ++ (⟨#[32]⟩ : ByteArray) ++ partsE D.col (D.idx k).n (D.idx k).part
/-- The text of a table that nothing is wrong with. -/
def textG (D : PDef) : ByteArray := idxT D D.ni ++ (⟨#[125]⟩ : ByteArray)
def defText (D : PDef) : ByteArray := if checkF D = 0 then textG D else ⟨#[]⟩
end Go.Proofs.YtnpfgamlncfikaaGreatDoor

/-
  Pieces of a text that have their tokens wherever they stand.
-/
namespace Go.Proofs.YtnpfgamlncfikaaGreatDoor
open Go.RowKit
set_option maxRecDepth 4000

abbrev Tok := Int × ByteArray
/-- A right token that stands at a place, with nothing behind that goes on with a name, is read there. -/
theorem lex_tok {s t : ByteArray} {p : Nat} {kd : Int} {l : List Tok} (hk : tokOk kd t = true) (hat : ∀ j, j < t.size → bt s (p + j) = bt t j) (hle : p + t.size ≤ s.size) (hend2 : kd = 1 → p + t.size = s.size ∨ inName (bt s (p + t.size)) = false) (hl : l.length ≠ 500) :
    lexF s p l = lexF s (p + t.size) (l ++ [(kd, t)]) := by
  have hext : s.extract p (p + t.size) = t := by
    refine bt_ext (by rw [ByteArray.size_extract]; omega) (fun i hi => ?_)
    rw [ByteArray.size_extract] at hi
    rw [bt_extract hle (by omega), hat i (by omega)]
  by_cases c1 : kd = 1
  · subst c1
    have hn : nameOk t = true := hk
    unfold nameOk at hn
    simp only [decide_eq_true_eq] at hn
    obtain ⟨h1, h8, hs0, hall⟩ := hn
    have h0 := hat 0 (by omega)
    rw [Nat.add_zero] at h0
    have hka : kindAt s p = 1 := by unfold kindAt; rw [h0, hs0]; rfl
    have hst : stopAt s p = p + t.size := by
      unfold stopAt
      rw [h0, hs0]
      show endN s (p + 1) = _
      have := endN_run (s := s) (p := p) (m := t.size) hle (fun j hj => by rw [hat j hj]; exact hall j hj) (hend2 rfl) (t.size - 1) (by omega)
      rw [show p + (t.size - (t.size - 1)) = p + 1 by omega] at this
      exact this
    rw [lexF_tok (by omega) (blank_of (.inl (by rw [h0]; exact hall 0 (by omega)))) (by rw [hka, hst, hext]; exact hk) hl, hka, hst, hext]
  · have c2 : kd = 2 := by
      unfold tokOk at hk
      rw [if_neg c1] at hk
      by_cases c2 : kd = 2
      · exact c2
      · rw [if_neg c2] at hk; cases hk
    subst c2
    have hn : markOk t = true := hk
    unfold markOk at hn
    simp only [decide_eq_true_eq] at hn
    obtain ⟨h1, hm⟩ := hn
    have h0 := hat 0 (by omega)
    rw [Nat.add_zero] at h0
    have hsm : small (bt s p) = false := by
      rw [h0]
      unfold markC at hm
      unfold small
      simp only [decide_eq_true_eq] at hm
      apply decide_eq_false
      omega
    have hka : kindAt s p = 2 := by unfold kindAt; rw [hsm]; rfl
    have hst : stopAt s p = p + t.size := by unfold stopAt; rw [hsm, h1]; rfl
    rw [lexF_tok (by omega) (blank_of (.inr (by rw [h0]; exact hm))) (by rw [hka, hst, hext]; exact hk) hl, hka, hst, hext]

/-- t stands in s at p. -/
structure At (s : ByteArray) (p : Nat) (t : ByteArray) : Prop where
  le : p + t.size ≤ s.size
  eq : ∀ j, j < t.size → bt s (p + j) = bt t j
theorem At.left {s a b : ByteArray} {p : Nat} (h : At s p (a ++ b)) : At s p a := by
  have hs : (a ++ b).size = a.size + b.size := ByteArray.size_append
  exact ⟨by have := h.le; omega, fun j hj => by rw [h.eq j (by omega), bt_left hj]⟩
theorem At.right {s a b : ByteArray} {p : Nat} (h : At s p (a ++ b)) : At s (p + a.size) b := by
  have hs : (a ++ b).size = a.size + b.size := ByteArray.size_append
  exact ⟨by have := h.le; omega, fun j hj => by rw [Nat.add_assoc, h.eq (a.size + j) (by omega), bt_right]⟩
theorem At.self (s : ByteArray) : At s 0 s := ⟨by omega, fun j _ => by rw [Nat.zero_add]⟩
/-- A piece whose tokens are l, whatever stands behind it. -/
def Lc (t : ByteArray) (l : List Tok) : Prop := ∀ (s : ByteArray) (p : Nat) (acc : List Tok), At s p t → acc.length + l.length ≤ 500 → lexF s p acc = lexF s (p + t.size) (acc ++ l)
theorem Lc.app {a b : ByteArray} {la lb : List Tok} (ha : Lc a la) (hb : Lc b lb) : Lc (a ++ b) (la ++ lb) := by
  intro s p acc h hl
  rw [List.length_append] at hl
  rw [ha s p acc h.left (by omega), hb s (p + a.size) (acc ++ la) h.right (by rw [List.length_append]; omega), ByteArray.size_append, Nat.add_assoc, List.append_assoc]
theorem Lc.nil : Lc ⟨#[]⟩ [] := by
  intro s p acc _ _
  rw [List.append_nil]; rfl
theorem Lc.blank {c : UInt8} (h : blank (c.toNat : Int) = true) : Lc ⟨#[c]⟩ [] := by
  intro s p acc ha _
  have h1 : (⟨#[c]⟩ : ByteArray).size = 1 := rfl
  have h0 := ha.eq 0 (by omega)
  have hle := ha.le
  rw [Nat.add_zero] at h0
  rw [lexF_blank (by omega) (by rw [h0]; exact h), List.append_nil, h1]
theorem Lc.mark {c : UInt8} (h : tokOk 2 ⟨#[c]⟩ = true) : Lc ⟨#[c]⟩ [(2, ⟨#[c]⟩)] := by
  intro s p acc ha hl
  rw [List.length_singleton] at hl
  exact lex_tok h ha.eq ha.le (fun e => by cases e) (by omega)
/-- A name, and behind it a piece that does not go on with it. -/
theorem Lc.name {n b : ByteArray} {lb : List Tok} (hn : nameOk n = true) (hb : Lc b lb) (h0 : 0 < b.size) (hin : inName (bt b 0) = false) : Lc (n ++ b) ((1, n) :: lb) := by
  intro s p acc h hl
  rw [List.length_cons] at hl
  have hr := h.right
  have hat := hr.eq 0 h0
  rw [Nat.add_zero] at hat
  rw [lex_tok (kd := 1) hn h.left.eq h.left.le (fun _ => .inr (by rw [hat]; exact hin)) (by omega), hb s (p + n.size) (acc ++ [(1, n)]) hr (by rw [List.length_append, List.length_singleton]; omega), ByteArray.size_append, Nat.add_assoc, List.append_assoc]
  rfl
/-- A text that is such a piece has its tokens. -/
theorem Lc.lex {t : ByteArray} {l : List Tok} (h : Lc t l) (hl : l.length ≤ 500) : lexF t 0 [] = (l, -1) := by
  rw [h t 0 [] (At.self t) (by simpa using hl), lexF_end (by omega), List.nil_append]
end Go.Proofs.YtnpfgamlncfikaaGreatDoor

/-
  A table's text has its tokens.
-/
namespace Go.Proofs.YtnpfgamlncfikaaGreatDoor
open Go.RowKit
set_option maxRecDepth 4000

/-- A piece that may end in a name: what stands behind must not go on with it. -/
def Lo (t : ByteArray) (l : List Tok) : Prop := ∀ (b : ByteArray) (lb : List Tok), Lc b lb → 0 < b.size → inName (bt b 0) = false → Lc (t ++ b) (l ++ lb)
theorem Lo.name {a n : ByteArray} {la : List Tok} (ha : Lc a la) (hn : nameOk n = true) : Lo (a ++ n) (la ++ [(1, n)]) := by
  intro b lb hb h0 hin
  rw [ByteArray.append_assoc, List.append_assoc]
  exact ha.app (Lc.name hn hb h0 hin)
theorem bt_app0 {a b : ByteArray} (h : 0 < a.size) : bt (a ++ b) 0 = bt a 0 := bt_left h
theorem Lo.word {a n : ByteArray} {la : List Tok} (ha : Lo a la) (hn : nameOk n = true) : Lo (a ++ (⟨#[32]⟩ : ByteArray) ++ n) (la ++ [(1, n)]) := by
  intro b lb hb h0 hin
  rw [ByteArray.append_assoc, ByteArray.append_assoc, List.append_assoc]
  have h1 : Lc ((⟨#[32]⟩ : ByteArray) ++ (n ++ b)) ((1, n) :: lb) := (Lc.blank (c := 32) rfl).app (Lc.name hn hb h0 hin)
  have hs : 0 < (⟨#[32]⟩ : ByteArray).size := Nat.zero_lt_one
  refine ha _ _ h1 (by rw [ByteArray.size_append]; omega) ?_
  rw [bt_app0 hs]; rfl
theorem Lo.close {a b : ByteArray} {la lb : List Tok} (ha : Lo a la) (hb : Lc b lb) (h0 : 0 < b.size) (hin : inName (bt b 0) = false) : Lc (a ++ b) (la ++ lb) := ha b lb hb h0 hin

def tN (n : ByteArray) : Tok := (1, n)
def tM (c : UInt8) : Tok := (2, ⟨#[c]⟩)
def kTable : ByteArray := ⟨#[116, 97, 98, 108, 101]⟩
def kPrimary : ByteArray := ⟨#[112, 114, 105, 109, 97, 114, 121]⟩
def kUnique : ByteArray := ⟨#[117, 110, 105, 113, 117, 101]⟩
def kIndex : ByteArray := ⟨#[105, 110, 100, 101, 120]⟩
def kNull : ByteArray := ⟨#[110, 117, 108, 108]⟩
def kDesc : ByteArray := ⟨#[100, 101, 115, 99]⟩
/-- The tokens of a column, of a part, of parts, of an index, of a table. -/
def colK (c : PCol) : List Tok := [tN c.name, tN (typeW c.type)] ++ (if c.null then [tN kNull] else []) ++ [tM 59]
def partK (col : Nat → PCol) (x : PBy) : List Tok := [tN (col x.col.toNat).name] ++ (if x.desc then [tN kDesc] else [])
def partsK (col : Nat → PCol) (f : Nat → PBy) : Nat → List Tok
  | 0 => []
  | k + 1 => (if 0 < k then partsK col f k ++ [tM 44] else partsK col f k) ++ partK col (f k)
def partsEK (col : Nat → PCol) (n : Nat) (f : Nat → PBy) : List Tok := partsK col f n ++ [tM 59]
def colsK (col : Nat → PCol) : Nat → List Tok
  | 0 => []
  | k + 1 => colsK col k ++ colK (col k)
def idxK (col : Nat → PCol) (x : PIdx) : List Tok := [tN (if x.uniq then kUnique else kIndex), tN x.name] ++ partsEK col x.n x.part
def idxsK (D : PDef) : Nat → List Tok
  | 0 => []
  | k + 1 => idxsK D k ++ idxK D.col (D.idx k)
def defK (D : PDef) : List Tok := [tN kTable, tN D.name, tM 123] ++ colsK D.col D.nc ++ ([tN kPrimary] ++ partsEK D.col D.np D.pri) ++ idxsK D D.ni ++ [tM 125]

theorem lcBl : Lc ⟨#[32]⟩ [] := Lc.blank (c := 32) rfl
theorem lit2 (a b : UInt8) : (⟨#[a, b]⟩ : ByteArray) = (⟨#[a]⟩ : ByteArray) ++ (⟨#[b]⟩ : ByteArray) := by apply ByteArray.ext; simp
theorem lcSemi : Lc ⟨#[59, 32]⟩ [tM 59] := by rw [lit2]; exact (Lc.mark (c := 59) (by decide)).app lcBl
theorem lcComma : Lc ⟨#[44, 32]⟩ [tM 44] := by rw [lit2]; exact (Lc.mark (c := 44) (by decide)).app lcBl
theorem litDesc : (⟨#[32, 100, 101, 115, 99]⟩ : ByteArray) = (⟨#[32]⟩ : ByteArray) ++ kDesc := by apply ByteArray.ext; simp [kDesc]
theorem litNull : (⟨#[32, 110, 117, 108, 108]⟩ : ByteArray) = (⟨#[32]⟩ : ByteArray) ++ kNull := by apply ByteArray.ext; simp [kNull]
theorem litTable : (⟨#[116, 97, 98, 108, 101, 32]⟩ : ByteArray) = kTable ++ (⟨#[32]⟩ : ByteArray) := by apply ByteArray.ext; simp [kTable]
theorem litOpen : (⟨#[32, 123, 32]⟩ : ByteArray) = (⟨#[32]⟩ : ByteArray) ++ ((⟨#[123]⟩ : ByteArray) ++ (⟨#[32]⟩ : ByteArray)) := by apply ByteArray.ext; simp
theorem litPrimary : (⟨#[112, 114, 105, 109, 97, 114, 121, 32]⟩ : ByteArray) = kPrimary ++ (⟨#[32]⟩ : ByteArray) := by apply ByteArray.ext; simp [kPrimary]
theorem litUnique : (⟨#[117, 110, 105, 113, 117, 101, 32]⟩ : ByteArray) = kUnique ++ (⟨#[32]⟩ : ByteArray) := by apply ByteArray.ext; simp [kUnique]
theorem litIndex : (⟨#[105, 110, 100, 101, 120, 32]⟩ : ByteArray) = kIndex ++ (⟨#[32]⟩ : ByteArray) := by apply ByteArray.ext; simp [kIndex]
theorem lcWord {n : ByteArray} (h : nameOk n = true) : Lc (n ++ (⟨#[32]⟩ : ByteArray)) [tN n] := Lc.name h lcBl Nat.zero_lt_one rfl
theorem typeW_name {t : Int} (h1 : 1 ≤ t) (h4 : t ≤ 4) : nameOk (typeW t) = true := by
  have : t = 1 ∨ t = 2 ∨ t = 3 ∨ t = 4 := by omega
  rcases this with rfl | rfl | rfl | rfl <;> decide

theorem lo_parts {col : Nat → PCol} {f : Nat → PBy} {n : Nat} (h : ∀ i, i < n → nameOk (col (f i).col.toNat).name = true) : ∀ k, k < n → Lo (partsT col f (k + 1)) (partsK col f (k + 1))
  | 0, hk => by
    have h0 := h 0 hk
    rw [partsT, partsK, if_neg (Nat.lt_irrefl 0), if_neg (Nat.lt_irrefl 0)]
    show Lo (if (f 0).desc = true then (_ ++ _) ++ (⟨#[32, 100, 101, 115, 99]⟩ : ByteArray) else _) ([] ++ ([tN (col (f 0).col.toNat).name] ++ _))
    have h1 : Lo ((⟨#[]⟩ : ByteArray) ++ (col (f 0).col.toNat).name) ([] ++ [tN (col (f 0).col.toNat).name]) := Lo.name Lc.nil h0
    cases (f 0).desc with
    | false => exact h1
    | true =>
      rw [if_pos rfl, if_pos rfl, litDesc, ← ByteArray.append_assoc]
      exact h1.word (by decide)
  | k + 1, hk => by
    have ih := lo_parts h k (by omega)
    have h0 := h (k + 1) hk
    rw [partsT, partsK, if_pos (Nat.succ_pos k), if_pos (Nat.succ_pos k)]
    have hc : Lc (partsT col f (k + 1) ++ (⟨#[44, 32]⟩ : ByteArray)) (partsK col f (k + 1) ++ [tM 44]) := ih.close lcComma (by decide) rfl
    have h1 := Lo.name hc h0
    cases hd : (f (k + 1)).desc with
    | false =>
      simp only [partK, hd]
      exact h1
    | true =>
      simp only [partK, hd, if_true]
      rw [litDesc, ← ByteArray.append_assoc, ← List.append_assoc]
      exact h1.word (by decide)
theorem lc_parts {col : Nat → PCol} {f : Nat → PBy} {n : Nat} (hn : 1 ≤ n) (h : ∀ i, i < n → nameOk (col (f i).col.toNat).name = true) : Lc (partsE col n f) (partsEK col n f) := by
  obtain ⟨k, rfl⟩ : ∃ k, n = k + 1 := ⟨n - 1, by omega⟩
  exact (lo_parts h k (Nat.lt_succ_self k)).close lcSemi (by decide) rfl
theorem lc_cols {name : ByteArray} {col : Nat → PCol} {n : Nat} (hn : nameOk name = true) (h : ∀ i, i < n → nameOk (col i).name = true ∧ 1 ≤ (col i).type ∧ (col i).type ≤ 4) : ∀ k, k ≤ n → Lc (colsT name col k) ([tN kTable, tN name, tM 123] ++ colsK col k)
  | 0, _ => by
    rw [colsT, colsK, List.append_nil, litTable, litOpen]
    have h1 : Lo (kTable ++ (⟨#[32]⟩ : ByteArray) ++ name) ([tN kTable] ++ [tN name]) := Lo.name (lcWord (by decide)) hn
    exact h1.close (lcBl.app ((Lc.mark (c := 123) (by decide)).app lcBl)) (by decide) rfl
  | k + 1, hk => by
    have ih := lc_cols hn h k (by omega)
    obtain ⟨a1, a2, a3⟩ := h k (by omega)
    rw [colsT, colsK]
    have h1 := (Lo.name ih a1).word (typeW_name a2 a3)
    cases hz : (col k).null with
    | false =>
      have h2 := h1.close lcSemi (by decide) rfl
      simp only [colK, hz]
      simpa [tN, List.append_assoc] using h2
    | true =>
      have h2 := (h1.word (n := kNull) (by decide)).close lcSemi (by decide) rfl
      simp only [colK, hz, if_true]
      rw [litNull, ← ByteArray.append_assoc]
      simpa [tN, List.append_assoc] using h2
theorem word_name {s : ByteArray} (h : wordOk s = true) : nameOk s = true := by
  unfold wordOk at h
  simp only [Bool.and_eq_true] at h
  exact h.1
/-- The text of a table that nothing is wrong with. -/
theorem lc_text {D : PDef} (h : checkF D = 0) : Lc (textG D) (defK D) := by
  obtain ⟨h1, h2, -, h4, h5, -⟩ := checkF_good h
  unfold namesF at h1
  unfold typesF at h2
  unfold allPartsF at h5
  obtain ⟨hc, hi, hn⟩ := of_decide_eq_true h1
  obtain ⟨ht, -, -⟩ := of_decide_eq_true h2
  obtain ⟨hpi, hpp⟩ := of_decide_eq_true h5
  have hparts : ∀ (n : Nat) (f : Nat → PBy), partsF D.nc n f = true → Lc (partsE D.col n f) (partsEK D.col n f) := by
    intro n f hf
    refine lc_parts (partsF_two hf).1 (fun i hi => ?_)
    have := partsF_in hf hi
    exact word_name (hc _ (by omega))
  have hk : ∀ k, k ≤ D.ni → Lc (idxT D k) ([tN kTable, tN D.name, tM 123] ++ colsK D.col D.nc ++ ([tN kPrimary] ++ partsEK D.col D.np D.pri) ++ idxsK D k) := by
    intro k
    induction k with
    | zero =>
      intro _
      rw [idxT, idxsK, List.append_nil, litPrimary]
      exact (lc_cols (word_name hn) (fun i hi => ⟨word_name (hc i hi), ht i hi⟩) D.nc (Nat.le_refl _)).app ((lcWord (by decide)).app (hparts _ _ hpp))
    | succ k ih =>
      intro hk
      have h6 := ih (by omega)
      have h7 := hparts _ _ (hpi k (by omega))
      have h8 := word_name (hi k (by omega))
      rw [idxT, idxsK]
      cases hu : (D.idx k).uniq with
      | false =>
        have h9 := ((Lo.name (h6.app (lcWord (n := kIndex) (by decide))) h8).close lcBl Nat.zero_lt_one rfl).app h7
        simp only [idxK, hu]
        rw [if_neg (by simp), litIndex]
        simpa [tN, List.append_assoc] using h9
      | true =>
        have h9 := ((Lo.name (h6.app (lcWord (n := kUnique) (by decide))) h8).close lcBl Nat.zero_lt_one rfl).app h7
        simp only [idxK, hu, if_true]
        rw [litUnique]
        simpa [tN, List.append_assoc] using h9
  exact (hk D.ni (Nat.le_refl _)).app (Lc.mark (c := 125) (by decide))
end Go.Proofs.YtnpfgamlncfikaaGreatDoor

/-
  Texts that are held against each other.
-/
namespace Go.Proofs.YtnpfgamlncfikaaGreatDoor
open Go.RowKit
set_option maxRecDepth 4000

theorem bytes_inj {a b : ByteArray} : a.toList = b.toList ↔ a = b := by
  constructor
  · intro h
    rw [ByteArray.toList_eq, ByteArray.toList_eq] at h
    obtain ⟨⟨x⟩⟩ := a
    obtain ⟨⟨y⟩⟩ := b
    simp only at h
    rw [h]
  · rintro rfl; rfl
theorem bytes_eq {a b : ByteArray} (h : a = b) : (a.toList == b.toList) = true := by rw [h]; exact beq_self_eq_true _
theorem bytes_ne {a b : ByteArray} (h : a ≠ b) : (a.toList == b.toList) = false := by
  cases e : (a.toList == b.toList) with
  | false => rfl
  | true => exact absurd (bytes_inj.1 (eq_of_beq e)) h
end Go.Proofs.YtnpfgamlncfikaaGreatDoor

