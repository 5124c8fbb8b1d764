/-
  Together: DefToks, ReadPlain, ReadBack
-/
import Derived.Test.YtmibpdnlphdoaaaGreatDoorPackF9
import Derived.Test.YtmibpdnlphdoaaaGreatDoorPackF8
/-
  A table's text has its tokens.
-/
namespace Go.Proofs.YtmibpdnlphdoaaaGreatDoor
open Go.RowKit
set_option maxRecDepth 4000

/-- A piece that may end in a name: what stands behind must not go on with it. -/
def Lo (t : ByteArray) (l : List Tok) : Prop := ∀ (b : ByteArray) (lb : List Tok), Lc b lb → 0 < b.size → inName (bt b 0) = false → Lc (t ++ b) (l ++ lb)
theorem Lo.name {a n : ByteArray} {la : List Tok} (ha : Lc a la) (hn : nameOk n = true) : Lo (a ++ n) (la ++ [(1, n)]) := by
  intro b lb hb h0 hin
  rw [ByteArray.append_assoc, List.append_assoc]
  exact ha.app (Lc.name hn hb h0 hin)
theorem bt_app0 {a b : ByteArray} (h : 0 < a.size) : bt (a ++ b) 0 = bt a 0 := bt_left h
theorem Lo.word {a n : ByteArray} {la : List Tok} (ha : Lo a la) (hn : nameOk n = true) : Lo (a ++ (⟨#[32]⟩ : ByteArray) ++ n) (la ++ [(1, n)]) := by
  intro b lb hb h0 hin
  rw [ByteArray.append_assoc, ByteArray.append_assoc, List.append_assoc]
  have h1 : Lc ((⟨#[32]⟩ : ByteArray) ++ (n ++ b)) ((1, n) :: lb) := (Lc.blank (c := 32) rfl).app (Lc.name hn hb h0 hin)
  have hs : 0 < (⟨#[32]⟩ : ByteArray).size := Nat.zero_lt_one
  refine ha _ _ h1 (by rw [ByteArray.size_append]; omega) ?_
  rw [bt_app0 hs]; rfl
theorem Lo.close {a b : ByteArray} {la lb : List Tok} (ha : Lo a la) (hb : Lc b lb) (h0 : 0 < b.size) (hin : inName (bt b 0) = false) : Lc (a ++ b) (la ++ lb) := ha b lb hb h0 hin

def tN (n : ByteArray) : Tok := (1, n)
def tM (c : UInt8) : Tok := (2, ⟨#[c]⟩)
def kTable : ByteArray := ⟨#[116, 97, 98, 108, 101]⟩
def kPrimary : ByteArray := ⟨#[112, 114, 105, 109, 97, 114, 121]⟩
def kUnique : ByteArray := ⟨#[117, 110, 105, 113, 117, 101]⟩
def kIndex : ByteArray := ⟨#[105, 110, 100, 101, 120]⟩
def kNull : ByteArray := ⟨#[110, 117, 108, 108]⟩
def kDesc : ByteArray := ⟨#[100, 101, 115, 99]⟩
/-- The tokens of a column, of a part, of parts, of an index, of a table. -/
def colK (c : PCol) : List Tok := [tN c.name, tN (typeW c.type)] ++ (if c.null then [tN kNull] else []) ++ [tM 59]
def partK (col : Nat → PCol) (x : PBy) : List Tok := [tN (col x.col.toNat).name] ++ (if x.desc then [tN kDesc] else [])
def partsK (col : Nat → PCol) (f : Nat → PBy) : Nat → List Tok
  | 0 => []
  | k + 1 => (if 0 < k then partsK col f k ++ [tM 44] else partsK col f k) ++ partK col (f k)
def partsEK (col : Nat → PCol) (n : Nat) (f : Nat → PBy) : List Tok := partsK col f n ++ [tM 59]
def colsK (col : Nat → PCol) : Nat → List Tok
  | 0 => []
  | k + 1 => colsK col k ++ colK (col k)
def idxK (col : Nat → PCol) (x : PIdx) : List Tok := [tN (if x.uniq then kUnique else kIndex), tN x.name] ++ partsEK col x.n x.part
def idxsK (D : PDef) : Nat → List Tok
  | 0 => []
  | k + 1 => idxsK D k ++ idxK D.col (D.idx k)
def defK (D : PDef) : List Tok := [tN kTable, tN D.name, tM 123] ++ colsK D.col D.nc ++ ([tN kPrimary] ++ partsEK D.col D.np D.pri) ++ idxsK D D.ni ++ [tM 125]

theorem lcBl : Lc ⟨#[32]⟩ [] := Lc.blank (c := 32) rfl
theorem lit2 (a b : UInt8) : (⟨#[a, b]⟩ : ByteArray) = (⟨#[a]⟩ : ByteArray) ++ (⟨#[b]⟩ : ByteArray) := by apply ByteArray.ext; simp
theorem lcSemi : Lc ⟨#[59, 32]⟩ [tM 59] := by rw [lit2]; exact (Lc.mark (c := 59) (by decide)).app lcBl
theorem lcComma : Lc ⟨#[44, 32]⟩ [tM 44] := by rw [lit2]; exact (Lc.mark (c := 44) (by decide)).app lcBl
theorem litDesc : (⟨#[32, 100, 101, 115, 99]⟩ : ByteArray) = (⟨#[32]⟩ : ByteArray) ++ kDesc := by apply ByteArray.ext; simp [kDesc]
theorem litNull : (⟨#[32, 110, 117, 108, 108]⟩ : ByteArray) = (⟨#[32]⟩ : ByteArray) ++ kNull := by apply ByteArray.ext; simp [kNull]
theorem litTable : (⟨#[116, 97, 98, 108, 101, 32]⟩ : ByteArray) = kTable ++ (⟨#[32]⟩ : ByteArray) := by apply ByteArray.ext; simp [kTable]
theorem litOpen : (⟨#[32, 123, 32]⟩ : ByteArray) = (⟨#[32]⟩ : ByteArray) ++ ((⟨#[123]⟩ : ByteArray) ++ (⟨#[32]⟩ : ByteArray)) := by apply ByteArray.ext; simp
theorem litPrimary : (⟨#[112, 114, 105, 109, 97, 114, 121, 32]⟩ : ByteArray) = kPrimary ++ (⟨#[32]⟩ : ByteArray) := by apply ByteArray.ext; simp [kPrimary]
theorem litUnique : (⟨#[117, 110, 105, 113, 117, 101, 32]⟩ : ByteArray) = kUnique ++ (⟨#[32]⟩ : ByteArray) := by apply ByteArray.ext; simp [kUnique]
theorem litIndex : (⟨#[105, 110, 100, 101, 120, 32]⟩ : ByteArray) = kIndex ++ (⟨#[32]⟩ : ByteArray) := by apply ByteArray.ext; simp [kIndex]
theorem lcWord {n : ByteArray} (h : nameOk n = true) : Lc (n ++ (⟨#[32]⟩ : ByteArray)) [tN n] := Lc.name h lcBl Nat.zero_lt_one rfl
theorem typeW_name {t : Int} (h1 : 1 ≤ t) (h4 : t ≤ 4) : nameOk (typeW t) = true := by
  have : t = 1 ∨ t = 2 ∨ t = 3 ∨ t = 4 := by omega
  rcases this with rfl | rfl | rfl | rfl <;> decide

theorem lo_parts {col : Nat → PCol} {f : Nat → PBy} {n : Nat} (h : ∀ i, i < n → nameOk (col (f i).col.toNat).name = true) : ∀ k, k < n → Lo (partsT col f (k + 1)) (partsK col f (k + 1))
  | 0, hk => by
    have h0 := h 0 hk
    rw [partsT, partsK, if_neg (Nat.lt_irrefl 0), if_neg (Nat.lt_irrefl 0)]
    show Lo (if (f 0).desc = true then (_ ++ _) ++ (⟨#[32, 100, 101, 115, 99]⟩ : ByteArray) else _) ([] ++ ([tN (col (f 0).col.toNat).name] ++ _))
    have h1 : Lo ((⟨#[]⟩ : ByteArray) ++ (col (f 0).col.toNat).name) ([] ++ [tN (col (f 0).col.toNat).name]) := Lo.name Lc.nil h0
    cases (f 0).desc with
    | false => exact h1
    | true =>
      rw [if_pos rfl, if_pos rfl, litDesc, ← ByteArray.append_assoc]
      exact h1.word (by decide)
  | k + 1, hk => by
    have ih := lo_parts h k (by omega)
    have h0 := h (k + 1) hk
    rw [partsT, partsK, if_pos (Nat.succ_pos k), if_pos (Nat.succ_pos k)]
    have hc : Lc (partsT col f (k + 1) ++ (⟨#[44, 32]⟩ : ByteArray)) (partsK col f (k + 1) ++ [tM 44]) := ih.close lcComma (by decide) rfl
    have h1 := Lo.name hc h0
    cases hd : (f (k + 1)).desc with
    | false =>
      simp only [partK, hd]
      exact h1
    | true =>
      simp only [partK, hd, if_true]
      rw [litDesc, ← ByteArray.append_assoc, ← List.append_assoc]
      exact h1.word (by decide)
theorem lc_parts {col : Nat → PCol} {f : Nat → PBy} {n : Nat} (hn : 1 ≤ n) (h : ∀ i, i < n → nameOk (col (f i).col.toNat).name = true) : Lc (partsE col n f) (partsEK col n f) := by
  obtain ⟨k, rfl⟩ : ∃ k, n = k + 1 := ⟨n - 1, by omega⟩
  exact (lo_parts h k (Nat.lt_succ_self k)).close lcSemi (by decide) rfl
theorem lc_cols {name : ByteArray} {col : Nat → PCol} {n : Nat} (hn : nameOk name = true) (h : ∀ i, i < n → nameOk (col i).name = true ∧ 1 ≤ (col i).type ∧ (col i).type ≤ 4) : ∀ k, k ≤ n → Lc (colsT name col k) ([tN kTable, tN name, tM 123] ++ colsK col k)
  | 0, _ => by
    rw [colsT, colsK, List.append_nil, litTable, litOpen]
    have h1 : Lo (kTable ++ (⟨#[32]⟩ : ByteArray) ++ name) ([tN kTable] ++ [tN name]) := Lo.name (lcWord (by decide)) hn
    exact h1.close (lcBl.app ((Lc.mark (c := 123) (by decide)).app lcBl)) (by decide) rfl
  | k + 1, hk => by
    have ih := lc_cols hn h k (by omega)
    obtain ⟨a1, a2, a3⟩ := h k (by omega)
    rw [colsT, colsK]
    have h1 := (Lo.name ih a1).word (typeW_name a2 a3)
    cases hz : (col k).null with
    | false =>
      have h2 := h1.close lcSemi (by decide) rfl
      simp only [colK, hz]
      simpa [tN, List.append_assoc] using h2
    | true =>
      have h2 := (h1.word (n := kNull) (by decide)).close lcSemi (by decide) rfl
      simp only [colK, hz, if_true]
      rw [litNull, ← ByteArray.append_assoc]
      simpa [tN, List.append_assoc] using h2
theorem word_name {s : ByteArray} (h : wordOk s = true) : nameOk s = true := by
  unfold wordOk at h
  simp only [Bool.and_eq_true] at h
  exact h.1
/-- The text of a table that nothing is wrong with. -/
theorem lc_text {D : PDef} (h : checkF D = 0) : Lc (textG D) (defK D) := by
  obtain ⟨h1, h2, -, h4, h5, -⟩ := checkF_good h
  unfold namesF at h1
  unfold typesF at h2
  unfold allPartsF at h5
  obtain ⟨hc, hi, hn⟩ := of_decide_eq_true h1
  obtain ⟨ht, -, -⟩ := of_decide_eq_true h2
  obtain ⟨hpi, hpp⟩ := of_decide_eq_true h5
  have hparts : ∀ (n : Nat) (f : Nat → PBy), partsF D.nc n f = true → Lc (partsE D.col n f) (partsEK D.col n f) := by
    intro n f hf
    refine lc_parts (partsF_two hf).1 (fun i hi => ?_)
    have := partsF_in hf hi
    exact word_name (hc _ (by omega))
  have hk : ∀ k, k ≤ D.ni → Lc (idxT D k) ([tN kTable, tN D.name, tM 123] ++ colsK D.col D.nc ++ ([tN kPrimary] ++ partsEK D.col D.np D.pri) ++ idxsK D k) := by
    intro k
    induction k with
    | zero =>
      intro _
      rw [idxT, idxsK, List.append_nil, litPrimary]
      exact (lc_cols (word_name hn) (fun i hi => ⟨word_name (hc i hi), ht i hi⟩) D.nc (Nat.le_refl _)).app ((lcWord (by decide)).app (hparts _ _ hpp))
    | succ k ih =>
      intro hk
      have h6 := ih (by omega)
      have h7 := hparts _ _ (hpi k (by omega))
      have h8 := word_name (hi k (by omega))
      rw [idxT, idxsK]
      cases hu : (D.idx k).uniq with
      | false =>
        have h9 := ((Lo.name (h6.app (lcWord (n := kIndex) (by decide))) h8).close lcBl Nat.zero_lt_one rfl).app h7
        simp only [idxK, hu]
        rw [if_neg (by simp), litIndex]
        simpa [tN, List.append_assoc] using h9
      | true =>
        have h9 := ((Lo.name (h6.app (lcWord (n := kUnique) (by decide))) h8).close lcBl Nat.zero_lt_one rfl).app h7
        simp only [idxK, hu, if_true]
        rw [litUnique]
        simpa [tN, List.append_assoc] using h9
  exact (hk D.ni (Nat.le_refl _)).app (Lc.mark (c := 125) (by decide))
end Go.Proofs.YtmibpdnlphdoaaaGreatDoor

/-
  Tables out of tokens, plainly: the model's reading.
-/
namespace Go.Proofs.YtmibpdnlphdoaaaGreatDoor
open Go.RowKit
set_option maxRecDepth 4000

/-- Whether the next token is s; it is passed over then. -/
def isR (s : ByteArray) : List Tok → Bool × List Tok
  | [] => (false, [])
  | t :: r => if t.2 = s then (true, r) else (false, t :: r)
/-- The next token must be s. -/
def mustR (s : ByteArray) (l : List Tok) : Option (List Tok) := if (isR s l).1 then some (isR s l).2 else none
/-- The next token must be a name. -/
def nameR : List Tok → Option (ByteArray × List Tok)
  | [] => none
  | t :: r => if t.1 = 1 then some (t.2, r) else none
/-- The type, 0 where there is none. -/
def typeR (l : List Tok) : Int × List Tok :=
  if (isR (typeW 1) l).1 then (1, (isR (typeW 1) l).2) else if (isR (typeW 2) l).1 then (2, (isR (typeW 2) l).2) else if (isR (typeW 3) l).1 then (3, (isR (typeW 3) l).2) else if (isR (typeW 4) l).1 then (4, (isR (typeW 4) l).2) else (0, l)
def colR (l : List Tok) : Option (PCol × List Tok) := do
  let (n, l1) ← nameR l
  let (t, l2) := typeR l1
  let (z, l3) := isR kNull l2
  let l4 ← mustR ⟨#[59]⟩ l3
  return (⟨n, t, z⟩, l4)
/-- Parts of columns. -/
def partsR (cs : List PCol) : Nat → List Tok → Option (List PBy × List Tok)
  | 0, _ => none
  | q + 1, l => do
    let (n, l1) ← nameR l
    let (d, l2) := isR kDesc l1
    let x : PBy := ⟨colAt (fun i => cs.getD i ⟨⟨#[]⟩, 0, false⟩) cs.length n, d⟩
    if (isR ⟨#[44]⟩ l2).1 then
      let (r, l3) ← partsR cs q (isR ⟨#[44]⟩ l2).2
      return (x :: r, l3)
    else
      let l3 ← mustR ⟨#[59]⟩ l2
      return ([x], l3)
/-- Columns, as far as the word primary. -/
def colsR : Nat → List Tok → Option (List PCol × List Tok)
  | 0, _ => none
  | q + 1, l =>
    if (isR kPrimary l).1 then some ([], (isR kPrimary l).2)
    else do
      let (c, l1) ← colR l
      let (r, l2) ← colsR q l1
      return (c :: r, l2)
/-- The word of an index. -/
def idxW (u : Bool) (l : List Tok) : Option (List Tok) := if u then some l else mustR kIndex l
def idxsR (cs : List PCol) : Nat → List Tok → Option (List (ByteArray × Bool × List PBy) × List Tok)
  | 0, _ => none
  | q + 1, l =>
    if (isR ⟨#[125]⟩ l).1 then some ([], (isR ⟨#[125]⟩ l).2)
    else do
      let (u, l1) := isR kUnique l
      let l2 ← idxW u l1
      let (n, l3) ← nameR l2
      let (p, l4) ← partsR cs (l3.length + 1) l3
      let (r, l5) ← idxsR cs q l4
      return ((n, u, p) :: r, l5)
def mkBy (l : List PBy) (i : Nat) : PBy := l.getD i ⟨0, false⟩
def mkCol (l : List PCol) (i : Nat) : PCol := l.getD i ⟨⟨#[]⟩, 0, false⟩
def mkIdx (l : List (ByteArray × Bool × List PBy)) (i : Nat) : PIdx := ⟨(l.getD i (⟨#[]⟩, false, [])).1, (l.getD i (⟨#[]⟩, false, [])).2.1, (l.getD i (⟨#[]⟩, false, [])).2.2.length, mkBy (l.getD i (⟨#[]⟩, false, [])).2.2⟩
def mkDef (n : ByteArray) (c : List PCol) (p : List PBy) (x : List (ByteArray × Bool × List PBy)) : PDef := ⟨n, c.length, mkCol c, p.length, mkBy p, x.length, mkIdx x⟩
/-- A table. -/
def defR (l : List Tok) : Option (PDef × List Tok) := do
  let l1 ← mustR kTable l
  let (n, l2) ← nameR l1
  let l3 ← mustR ⟨#[123]⟩ l2
  let (c, l4) ← colsR (l3.length + 1) l3
  let (p, l5) ← partsR c (l4.length + 1) l4
  let (x, l6) ← idxsR c (l5.length + 1) l5
  return (mkDef n c p x, l6)
/-- Tables, to the end. -/
def defsR : Nat → List Tok → Option (List PDef)
  | _, [] => some []
  | 0, _ => none
  | q + 1, t :: r => do
    let (d, l1) ← defR (t :: r)
    let ds ← defsR q l1
    return (d :: ds)

/-- A list that is read off a function. -/
def offC (D : PDef) : List PCol := (List.range D.nc).map D.col
def offP (n : Nat) (f : Nat → PBy) : List PBy := (List.range n).map f

theorem isR_hit (k : Int) (s : ByteArray) (r : List Tok) : isR s ((k, s) :: r) = (true, r) := by simp [isR]
theorem isR_miss {t : Tok} {s : ByteArray} (h : t.2 ≠ s) (r : List Tok) : isR s (t :: r) = (false, t :: r) := by simp [isR, h]
theorem mustR_hit (k : Int) (s : ByteArray) (r : List Tok) : mustR s ((k, s) :: r) = some r := by simp [mustR, isR]
theorem nameR_hit (s : ByteArray) (r : List Tok) : nameR (tN s :: r) = some (s, r) := by simp [nameR, tN]
theorem typeR_hit {t : Int} (h1 : 1 ≤ t) (h4 : t ≤ 4) (r : List Tok) : typeR (tN (typeW t) :: r) = (t, r) := by
  have : t = 1 ∨ t = 2 ∨ t = 3 ∨ t = 4 := by omega
  rcases this with rfl | rfl | rfl | rfl <;> simp [typeR, isR, tN, typeW]
theorem null_not (r : List Tok) : isR kNull (tM 59 :: r) = (false, tM 59 :: r) := isR_miss (by decide) r
theorem colR_hit {c : PCol} (h1 : 1 ≤ c.type) (h4 : c.type ≤ 4) (r : List Tok) : colR (colK c ++ r) = some (c, r) := by
  unfold colR colK
  obtain ⟨n, t, z⟩ := c
  cases z with
  | false =>
    simp only [Bool.false_eq_true, if_false, List.append_nil, List.cons_append, List.nil_append]
    rw [nameR_hit]
    simp only [Option.bind_eq_bind, Option.bind_some]
    rw [typeR_hit h1 h4, null_not]
    rfl
  | true =>
    simp only [if_true, List.cons_append, List.nil_append]
    rw [nameR_hit]
    simp only [Option.bind_eq_bind, Option.bind_some]
    rw [typeR_hit h1 h4, show isR kNull (tN kNull :: tM 59 :: r) = (true, tM 59 :: r) from isR_hit 1 kNull _]
    rfl
end Go.Proofs.YtmibpdnlphdoaaaGreatDoor

/-
  A table's tokens are read as that table.
-/
namespace Go.Proofs.YtmibpdnlphdoaaaGreatDoor
open Go.RowKit
set_option maxRecDepth 4000

theorem word_ne {s k : ByteArray} (h : wordOk s = true) (hk : isKw k = true) : s ≠ k := by
  rintro rfl
  unfold wordOk at h
  rw [hk] at h
  simp at h
theorem kwPrimary : isKw kPrimary = true := by unfold isKw; rw [ByteArray.toList_eq]; decide
theorem colsK_off (col : Nat → PCol) : ∀ n, colsK col n = ((List.range n).map col).flatMap colK
  | 0 => rfl
  | n + 1 => by rw [colsK, colsK_off col n, List.range_succ, List.map_append, List.flatMap_append]; simp
theorem colsR_hit : ∀ (cs : List PCol) (q : Nat) (r : List Tok), cs.length < q → (∀ c ∈ cs, wordOk c.name = true ∧ 1 ≤ c.type ∧ c.type ≤ 4) → colsR q (cs.flatMap colK ++ (tN kPrimary :: r)) = some (cs, r)
  | [], q + 1, r, _, _ => by
    rw [colsR]
    simp [isR, tN]
  | c :: cs, q + 1, r, hq, h => by
    obtain ⟨h1, h2, h3⟩ := h c (List.mem_cons_self ..)
    have ih := colsR_hit cs q r (by simp at hq; omega) (fun x hx => h x (List.mem_cons_of_mem _ hx))
    rw [colsR, List.flatMap_cons, List.append_assoc]
    have hm : isR kPrimary (colK c ++ (cs.flatMap colK ++ tN kPrimary :: r)) = (false, colK c ++ (cs.flatMap colK ++ tN kPrimary :: r)) := by
      unfold colK
      simp only [List.cons_append, List.nil_append]
      exact isR_miss (word_ne h1 kwPrimary) _
    rw [hm, colR_hit h2 h3]
    simp only [Bool.false_eq_true, if_false, Option.bind_eq_bind, Option.bind_some]
    rw [ih]
    rfl
theorem colAt_congr {f g : Nat → PCol} {s : ByteArray} : ∀ (m k : Nat), (∀ i, k ≤ i → i < k + m → (f i).name = (g i).name) → colFrom f s m k = colFrom g s m k
  | 0, _, _ => rfl
  | m + 1, k, h => by
    rw [colFrom, colFrom, h k (Nat.le_refl _) (by omega), colAt_congr m (k + 1) (fun i h1 h2 => h i (by omega) (by omega))]
/-- The columns have names that are right and differ. -/
structure Cols (cs : List PCol) (col : Nat → PCol) (nc : Nat) : Prop where
  len : cs.length = nc
  at_ : ∀ i, i < nc → cs.getD i ⟨⟨#[]⟩, 0, false⟩ = col i
  word : ∀ i, i < nc → wordOk (col i).name = true
  once : ∀ i, i < nc → ∀ j, j < i → (col j).name ≠ (col i).name
theorem Cols.place {cs : List PCol} {col : Nat → PCol} {nc : Nat} (h : Cols cs col nc) {x : Int} (h0 : 0 ≤ x) (h1 : x < nc) : colAt (fun i => cs.getD i ⟨⟨#[]⟩, 0, false⟩) cs.length (col x.toNat).name = x := by
  have e : colAt (fun i => cs.getD i ⟨⟨#[]⟩, 0, false⟩) cs.length (col x.toNat).name = colAt col nc (col x.toNat).name := by
    unfold colAt
    rw [h.len]
    exact colAt_congr nc 0 (fun i _ hi => by rw [h.at_ i (by omega)])
  rw [e, (colAt_self (by omega)).2 (h.once _ (by omega))]
  omega
theorem desc_yes (r : List Tok) : isR kDesc (tN kDesc :: r) = (true, r) := isR_hit 1 kDesc r
theorem desc_no (c : UInt8) (hc : (⟨#[c]⟩ : ByteArray) ≠ kDesc) (r : List Tok) : isR kDesc (tM c :: r) = (false, tM c :: r) := isR_miss hc r
theorem comma_yes (r : List Tok) : isR ⟨#[44]⟩ (tM 44 :: r) = (true, r) := isR_hit 2 _ r
theorem comma_no (r : List Tok) : isR ⟨#[44]⟩ (tM 59 :: r) = (false, tM 59 :: r) := isR_miss (by decide) r
theorem semi_yes (r : List Tok) : mustR ⟨#[59]⟩ (tM 59 :: r) = some r := mustR_hit 2 _ r
/-- The last part. -/
theorem part_last {cs : List PCol} {col : Nat → PCol} {nc : Nat} (hc : Cols cs col nc) {x : PBy} (h0 : 0 ≤ x.col) (h1 : x.col < nc) (q : Nat) (r : List Tok) : partsR cs (q + 1) (partK col x ++ (tM 59 :: r)) = some ([x], r) := by
  obtain ⟨c, d⟩ := x
  have hp := hc.place h0 h1
  unfold partK
  rw [partsR]
  cases d with
  | false =>
    simp only [Bool.false_eq_true, if_false, List.append_nil, List.cons_append, List.nil_append]
    rw [nameR_hit]
    simp only [Option.bind_eq_bind, Option.bind_some]
    rw [desc_no 59 (by decide), comma_no, semi_yes]
    simp only [Bool.false_eq_true, if_false, Option.bind_some]
    rw [hp]; rfl
  | true =>
    simp only [if_true, List.cons_append, List.nil_append]
    rw [nameR_hit]
    simp only [Option.bind_eq_bind, Option.bind_some]
    rw [desc_yes, comma_no, semi_yes]
    simp only [Bool.false_eq_true, if_false, Option.bind_some]
    rw [hp]; rfl
theorem part_more {cs : List PCol} {col : Nat → PCol} {nc : Nat} (hc : Cols cs col nc) {x : PBy} (h0 : 0 ≤ x.col) (h1 : x.col < nc) (q : Nat) (r r' : List Tok) {l : List PBy} (hr : partsR cs q r = some (l, r')) : partsR cs (q + 1) (partK col x ++ (tM 44 :: r)) = some (x :: l, r') := by
  obtain ⟨c, d⟩ := x
  have hp := hc.place h0 h1
  unfold partK
  rw [partsR]
  cases d with
  | false =>
    simp only [Bool.false_eq_true, if_false, List.append_nil, List.cons_append, List.nil_append]
    rw [nameR_hit]
    simp only [Option.bind_eq_bind, Option.bind_some]
    rw [desc_no 44 (by decide), comma_yes]
    simp only [if_true]
    rw [hr, hp]; rfl
  | true =>
    simp only [if_true, List.cons_append, List.nil_append]
    rw [nameR_hit]
    simp only [Option.bind_eq_bind, Option.bind_some]
    rw [desc_yes, comma_yes]
    simp only [if_true]
    rw [hr, hp]; rfl
theorem partsR_hit {cs : List PCol} {col : Nat → PCol} {nc : Nat} (hc : Cols cs col nc) {n : Nat} {f : Nat → PBy} (hf : partsF nc n f = true) (q : Nat) (r : List Tok) : partsR cs (q + 2) (partsEK col n f ++ r) = some (offP n f, r) := by
  obtain ⟨n1, n2⟩ := partsF_two hf
  have i0 := partsF_in hf (i := 0) (by omega)
  have h : n = 1 ∨ n = 2 := by omega
  rcases h with rfl | rfl
  · have := part_last hc i0.1 i0.2 (q + 1) r
    simpa [partsEK, partsK, offP, List.range_succ] using this
  · have i1 := partsF_in hf (i := 1) (by omega)
    have := part_more hc i0.1 i0.2 (q + 1) _ _ (part_last hc i1.1 i1.2 q r)
    simpa [partsEK, partsK, offP, List.range_succ, List.append_assoc] using this
def offI (D : PDef) : List (ByteArray × Bool × List PBy) := (List.range D.ni).map (fun i => ((D.idx i).name, (D.idx i).uniq, offP (D.idx i).n (D.idx i).part))
theorem idxsK_off (D : PDef) : ∀ n, idxsK D n = (List.range n).flatMap (fun i => idxK D.col (D.idx i))
  | 0 => rfl
  | n + 1 => by rw [idxsK, idxsK_off D n, List.range_succ, List.flatMap_append]; simp
theorem brace_yes (r : List Tok) : isR ⟨#[125]⟩ (tM 125 :: r) = (true, r) := isR_hit 2 _ r
theorem idxsR_hit {cs : List PCol} {D : PDef} (hc : Cols cs D.col D.nc) (r : List Tok) : ∀ (l : List Nat) (q : Nat), l.length < q → (∀ i ∈ l, nameOk (D.idx i).name = true ∧ partsF D.nc (D.idx i).n (D.idx i).part = true) →
    idxsR cs q (l.flatMap (fun i => idxK D.col (D.idx i)) ++ (tM 125 :: r)) = some (l.map (fun i => ((D.idx i).name, (D.idx i).uniq, offP (D.idx i).n (D.idx i).part)), r)
  | [], q + 1, _, _ => by
    rw [idxsR]
    show (if (isR ⟨#[125]⟩ (tM 125 :: r)).1 = true then some ([], (isR ⟨#[125]⟩ (tM 125 :: r)).2) else _) = _
    rw [brace_yes]
    rfl
  | i :: l, q + 1, hq, h => by
    obtain ⟨-, h2⟩ := h i (List.mem_cons_self ..)
    have ih := idxsR_hit hc r l q (by simp at hq; omega) (fun x hx => h x (List.mem_cons_of_mem _ hx))
    rw [idxsR, List.flatMap_cons, List.append_assoc]
    generalize hR : l.flatMap (fun i => idxK D.col (D.idx i)) ++ (tM 125 :: r) = R at ih ⊢
    unfold idxK
    simp only [List.cons_append, List.nil_append]
    have hpr := fun k => partsR_hit hc h2 k R
    cases hu : (D.idx i).uniq with
    | false =>
      simp only [Bool.false_eq_true, if_false]
      rw [isR_miss (t := tN kIndex) (s := ⟨#[125]⟩) (by decide), isR_miss (t := tN kIndex) (s := kUnique) (by decide)]
      simp only [idxW, Bool.false_eq_true, if_false, Option.bind_eq_bind]
      rw [show mustR kIndex (tN kIndex :: tN (D.idx i).name :: (partsEK D.col (D.idx i).n (D.idx i).part ++ R)) = some (tN (D.idx i).name :: (partsEK D.col (D.idx i).n (D.idx i).part ++ R)) from mustR_hit 1 kIndex _]
      simp only [Option.bind_some]
      rw [nameR_hit]
      simp only [Option.bind_some]
      obtain ⟨k, hk⟩ : ∃ k, (partsEK D.col (D.idx i).n (D.idx i).part ++ R).length + 1 = k + 2 := ⟨(partsEK D.col (D.idx i).n (D.idx i).part ++ R).length - 1, by
        have : 0 < (partsEK D.col (D.idx i).n (D.idx i).part ++ R).length := by unfold partsEK; simp; omega
        omega⟩
      rw [hk, hpr k]
      simp only [Option.bind_some]
      rw [ih]
      simp [hu]
    | true =>
      simp only [if_true]
      rw [isR_miss (t := tN kUnique) (s := ⟨#[125]⟩) (by decide), show isR kUnique (tN kUnique :: tN (D.idx i).name :: (partsEK D.col (D.idx i).n (D.idx i).part ++ R)) = (true, tN (D.idx i).name :: (partsEK D.col (D.idx i).n (D.idx i).part ++ R)) from isR_hit 1 kUnique _]
      simp only [idxW, Bool.false_eq_true, if_false, if_true, Option.bind_eq_bind, Option.bind_some]
      rw [nameR_hit]
      simp only [Option.bind_some]
      obtain ⟨k, hk⟩ : ∃ k, (partsEK D.col (D.idx i).n (D.idx i).part ++ R).length + 1 = k + 2 := ⟨(partsEK D.col (D.idx i).n (D.idx i).part ++ R).length - 1, by
        have : 0 < (partsEK D.col (D.idx i).n (D.idx i).part ++ R).length := by unfold partsEK; simp; omega
        omega⟩
      rw [hk, hpr k]
      simp only [Option.bind_some]
      rw [ih]
      simp [hu]

theorem offC_at (D : PDef) {i : Nat} (h : i < D.nc) : (offC D).getD i ⟨⟨#[]⟩, 0, false⟩ = D.col i := by
  simp [offC, List.getD, h]
theorem offP_at (n : Nat) (f : Nat → PBy) {i : Nat} (h : i < n) : (offP n f).getD i ⟨0, false⟩ = f i := by
  simp [offP, List.getD, h]
theorem offC_len (D : PDef) : (offC D).length = D.nc := by simp [offC]
theorem offP_len (n : Nat) (f : Nat → PBy) : (offP n f).length = n := by simp [offP]
theorem offI_len (D : PDef) : (offI D).length = D.ni := by simp [offI]
/-- The columns of a table that nothing is wrong with. -/
theorem cols_good {D : PDef} (h : checkF D = 0) : Cols (offC D) D.col D.nc := by
  obtain ⟨h1, -, h3, -, -, -⟩ := checkF_good h
  unfold namesF at h1
  unfold onceF at h3
  exact ⟨offC_len D, fun i hi => offC_at D hi, (of_decide_eq_true h1).1, (of_decide_eq_true h3).1⟩
/-- The table as lists. -/
def offD (D : PDef) : PDef := mkDef D.name (offC D) (offP D.np D.pri) (offI D)
/-- The tokens of a table that nothing is wrong with are read as that table. -/
theorem defR_hit {D : PDef} (h : checkF D = 0) (r : List Tok) : defR (defK D ++ r) = some (offD D, r) := by
  obtain ⟨h1, h2, -, -, h5, -⟩ := checkF_good h
  have hc := cols_good h
  unfold namesF at h1
  unfold typesF at h2
  unfold allPartsF at h5
  obtain ⟨hw, hi, -⟩ := of_decide_eq_true h1
  obtain ⟨ht, -, -⟩ := of_decide_eq_true h2
  obtain ⟨hpi, hpp⟩ := of_decide_eq_true h5
  have e : defK D ++ r = tN kTable :: tN D.name :: tM 123 :: ((offC D).flatMap colK ++ (tN kPrimary :: (partsEK D.col D.np D.pri ++ ((List.range D.ni).flatMap (fun i => idxK D.col (D.idx i)) ++ (tM 125 :: r))))) := by
    unfold defK offC
    rw [colsK_off, idxsK_off]
    simp [List.append_assoc]
  rw [e]
  unfold defR
  rw [show mustR kTable (tN kTable :: tN D.name :: tM 123 :: ((offC D).flatMap colK ++ (tN kPrimary :: (partsEK D.col D.np D.pri ++ ((List.range D.ni).flatMap (fun i => idxK D.col (D.idx i)) ++ (tM 125 :: r)))))) = some (tN D.name :: tM 123 :: ((offC D).flatMap colK ++ (tN kPrimary :: (partsEK D.col D.np D.pri ++ ((List.range D.ni).flatMap (fun i => idxK D.col (D.idx i)) ++ (tM 125 :: r)))))) from mustR_hit 1 kTable _]
  simp only [Option.bind_eq_bind, Option.bind_some]
  rw [nameR_hit]
  simp only [Option.bind_some]
  rw [show ∀ l, mustR ⟨#[123]⟩ (tM 123 :: l) = some l from fun l => mustR_hit 2 _ l]
  simp only [Option.bind_some]
  rw [colsR_hit (offC D) _ _ ?_ (fun c hcm => ?_)]
  · simp only [Option.bind_some]
    obtain ⟨k, hk⟩ : ∃ k, (partsEK D.col D.np D.pri ++ ((List.range D.ni).flatMap (fun i => idxK D.col (D.idx i)) ++ (tM 125 :: r))).length + 1 = k + 2 := ⟨(partsEK D.col D.np D.pri ++ ((List.range D.ni).flatMap (fun i => idxK D.col (D.idx i)) ++ (tM 125 :: r))).length - 1, by
      have : 0 < (partsEK D.col D.np D.pri ++ ((List.range D.ni).flatMap (fun i => idxK D.col (D.idx i)) ++ (tM 125 :: r))).length := by simp; omega
      omega⟩
    rw [hk, partsR_hit hc hpp k]
    simp only [Option.bind_some]
    rw [idxsR_hit hc r (List.range D.ni) _ ?_ (fun i him => ?_)]
    · rfl
    · have hl : ∀ l : List Nat, l.length ≤ (l.flatMap (fun i => idxK D.col (D.idx i))).length := by
        intro l
        induction l with
        | nil => exact Nat.zero_le _
        | cons a l ih =>
          have h7 : 1 ≤ (idxK D.col (D.idx a)).length := by simp [idxK]
          rw [List.flatMap_cons, List.length_append, List.length_cons]; omega
      have := hl (List.range D.ni)
      rw [List.length_append]
      omega
    · have := List.mem_range.1 him
      exact ⟨word_name (hi i this), hpi i this⟩
  · have hl : ∀ l : List PCol, l.length ≤ (l.flatMap colK).length := by
      intro l
      induction l with
      | nil => exact Nat.zero_le _
      | cons a l ih => rw [List.flatMap_cons, List.length_append, List.length_cons]; simp only [colK, List.length_append, List.length_cons]; omega
    have := hl (offC D)
    rw [List.length_append]
    omega
  · obtain ⟨i, hi2, rfl⟩ := List.mem_map.1 hcm
    have := List.mem_range.1 hi2
    exact ⟨hw i this, ht i this⟩
end Go.Proofs.YtmibpdnlphdoaaaGreatDoor

