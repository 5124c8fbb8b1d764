/-
  Together: ReadBack, ReadFrom, ReadDef, TokAll, ReadTabs, FirstPlain
-/
import Derived.Test.YtjoimkfpenbkmabGreatDoorPackK8
import Derived.Test.YtjoimkfpenbkmabGreatDoorPackK7
/-
  A table's tokens are read as that table.
-/
namespace Go.Proofs.YtjoimkfpenbkmabGreatDoor
open Go.RowKit
set_option maxRecDepth 4000

theorem word_ne {s k : ByteArray} (h : wordOk s = true) (hk : isKw k = true) : s ≠ k := by
  rintro rfl
  unfold wordOk at h
  rw [hk] at h
  simp at h
theorem kwPrimary : isKw kPrimary = true := by unfold isKw; rw [ByteArray.toList_eq]; decide
theorem colsK_off (col : Nat → PCol) : ∀ n, colsK col n = ((List.range n).map col).flatMap colK
  | 0 => rfl
  | n + 1 => by rw [colsK, colsK_off col n, List.range_succ, List.map_append, List.flatMap_append]; simp
theorem colsR_hit : ∀ (cs : List PCol) (q : Nat) (r : List Tok), cs.length < q → (∀ c ∈ cs, wordOk c.name = true ∧ 1 ≤ c.type ∧ c.type ≤ 4) → colsR q (cs.flatMap colK ++ (tN kPrimary :: r)) = some (cs, r)
  | [], q + 1, r, _, _ => by
    rw [colsR]
    simp [isR, tN]
  | c :: cs, q + 1, r, hq, h => by
    obtain ⟨h1, h2, h3⟩ := h c (List.mem_cons_self ..)
    have ih := colsR_hit cs q r (by simp at hq; omega) (fun x hx => h x (List.mem_cons_of_mem _ hx))
    rw [colsR, List.flatMap_cons, List.append_assoc]
    have hm : isR kPrimary (colK c ++ (cs.flatMap colK ++ tN kPrimary :: r)) = (false, colK c ++ (cs.flatMap colK ++ tN kPrimary :: r)) := by
      unfold colK
      simp only [List.cons_append, List.nil_append]
      exact isR_miss (word_ne h1 kwPrimary) _
    rw [hm, colR_hit h2 h3]
    simp only [Bool.false_eq_true, if_false, Option.bind_eq_bind, Option.bind_some]
    rw [ih]
    rfl
theorem colAt_congr {f g : Nat → PCol} {s : ByteArray} : ∀ (m k : Nat), (∀ i, k ≤ i → i < k + m → (f i).name = (g i).name) → colFrom f s m k = colFrom g s m k
  | 0, _, _ => rfl
  | m + 1, k, h => by
    rw [colFrom, colFrom, h k (Nat.le_refl _) (by omega), colAt_congr m (k + 1) (fun i h1 h2 => h i (by omega) (by omega))]
/-- The columns have names that are right and differ. -/
structure Cols (cs : List PCol) (col : Nat → PCol) (nc : Nat) : Prop where
  len : cs.length = nc
  at_ : ∀ i, i < nc → cs.getD i ⟨⟨#[]⟩, 0, false⟩ = col i
  word : ∀ i, i < nc → wordOk (col i).name = true
  once : ∀ i, i < nc → ∀ j, j < i → (col j).name ≠ (col i).name
theorem Cols.place {cs : List PCol} {col : Nat → PCol} {nc : Nat} (h : Cols cs col nc) {x : Int} (h0 : 0 ≤ x) (h1 : x < nc) : colAt (fun i => cs.getD i ⟨⟨#[]⟩, 0, false⟩) cs.length (col x.toNat).name = x := by
  have e : colAt (fun i => cs.getD i ⟨⟨#[]⟩, 0, false⟩) cs.length (col x.toNat).name = colAt col nc (col x.toNat).name := by
    unfold colAt
    rw [h.len]
    exact colAt_congr nc 0 (fun i _ hi => by rw [h.at_ i (by omega)])
  rw [e, (colAt_self (by omega)).2 (h.once _ (by omega))]
  omega
theorem desc_yes (r : List Tok) : isR kDesc (tN kDesc :: r) = (true, r) := isR_hit 1 kDesc r
theorem desc_no (c : UInt8) (hc : (⟨#[c]⟩ : ByteArray) ≠ kDesc) (r : List Tok) : isR kDesc (tM c :: r) = (false, tM c :: r) := isR_miss hc r
theorem comma_yes (r : List Tok) : isR ⟨#[44]⟩ (tM 44 :: r) = (true, r) := isR_hit 2 _ r
theorem comma_no (r : List Tok) : isR ⟨#[44]⟩ (tM 59 :: r) = (false, tM 59 :: r) := isR_miss (by decide) r
theorem semi_yes (r : List Tok) : mustR ⟨#[59]⟩ (tM 59 :: r) = some r := mustR_hit 2 _ r
/-- The last part. -/
theorem part_last {cs : List PCol} {col : Nat → PCol} {nc : Nat} (hc : Cols cs col nc) {x : PBy} (h0 : 0 ≤ x.col) (h1 : x.col < nc) (q : Nat) (r : List Tok) : partsR cs (q + 1) (partK col x ++ (tM 59 :: r)) = some ([x], r) := by
  obtain ⟨c, d⟩ := x
  have hp := hc.place h0 h1
  unfold partK
  rw [partsR]
  cases d with
  | false =>
    simp only [Bool.false_eq_true, if_false, List.append_nil, List.cons_append, List.nil_append]
    rw [nameR_hit]
    simp only [Option.bind_eq_bind, Option.bind_some]
    rw [desc_no 59 (by decide), comma_no, semi_yes]
    simp only [Bool.false_eq_true, if_false, Option.bind_some]
    rw [hp]; rfl
  | true =>
    simp only [if_true, List.cons_append, List.nil_append]
    rw [nameR_hit]
    simp only [Option.bind_eq_bind, Option.bind_some]
    rw [desc_yes, comma_no, semi_yes]
    simp only [Bool.false_eq_true, if_false, Option.bind_some]
    rw [hp]; rfl
theorem part_more {cs : List PCol} {col : Nat → PCol} {nc : Nat} (hc : Cols cs col nc) {x : PBy} (h0 : 0 ≤ x.col) (h1 : x.col < nc) (q : Nat) (r r' : List Tok) {l : List PBy} (hr : partsR cs q r = some (l, r')) : partsR cs (q + 1) (partK col x ++ (tM 44 :: r)) = some (x :: l, r') := by
  obtain ⟨c, d⟩ := x
  have hp := hc.place h0 h1
  unfold partK
  rw [partsR]
  cases d with
  | false =>
    simp only [Bool.false_eq_true, if_false, List.append_nil, List.cons_append, List.nil_append]
    rw [nameR_hit]
    simp only [Option.bind_eq_bind, Option.bind_some]
    rw [desc_no 44 (by decide), comma_yes]
    simp only [if_true]
    rw [hr, hp]; rfl
  | true =>
    simp only [if_true, List.cons_append, List.nil_append]
    rw [nameR_hit]
    simp only [Option.bind_eq_bind, Option.bind_some]
    rw [desc_yes, comma_yes]
    simp only [if_true]
    rw [hr, hp]; rfl
theorem partsR_hit {cs : List PCol} {col : Nat → PCol} {nc : Nat} (hc : Cols cs col nc) {n : Nat} {f : Nat → PBy} (hf : partsF nc n f = true) (q : Nat) (r : List Tok) : partsR cs (q + 2) (partsEK col n f ++ r) = some (offP n f, r) := by
  obtain ⟨n1, n2⟩ := partsF_two hf
  have i0 := partsF_in hf (i := 0) (by omega)
  have h : n = 1 ∨ n = 2 := by omega
  rcases h with rfl | rfl
  · have := part_last hc i0.1 i0.2 (q + 1) r
    simpa [partsEK, partsK, offP, List.range_succ] using this
  · have i1 := partsF_in hf (i := 1) (by omega)
    have := part_more hc i0.1 i0.2 (q + 1) _ _ (part_last hc i1.1 i1.2 q r)
    simpa [partsEK, partsK, offP, List.range_succ, List.append_assoc] using this
def offI (D : PDef) : List (ByteArray × Bool × List PBy) := (List.range D.ni).map (fun i => ((D.idx i).name, (D.idx i).uniq, offP (D.idx i).n (D.idx i).part))
theorem idxsK_off (D : PDef) : ∀ n, idxsK D n = (List.range n).flatMap (fun i => idxK D.col (D.idx i))
  | 0 => rfl
  | n + 1 => by rw [idxsK, idxsK_off D n, List.range_succ, List.flatMap_append]; simp
theorem brace_yes (r : List Tok) : isR ⟨#[125]⟩ (tM 125 :: r) = (true, r) := isR_hit 2 _ r
theorem idxsR_hit {cs : List PCol} {D : PDef} (hc : Cols cs D.col D.nc) (r : List Tok) : ∀ (l : List Nat) (q : Nat), l.length < q → (∀ i ∈ l, nameOk (D.idx i).name = true ∧ partsF D.nc (D.idx i).n (D.idx i).part = true) →
    idxsR cs q (l.flatMap (fun i => idxK D.col (D.idx i)) ++ (tM 125 :: r)) = some (l.map (fun i => ((D.idx i).name, (D.idx i).uniq, offP (D.idx i).n (D.idx i).part)), r)
  | [], q + 1, _, _ => by
    rw [idxsR]
    show (if (isR ⟨#[125]⟩ (tM 125 :: r)).1 = true then some ([], (isR ⟨#[125]⟩ (tM 125 :: r)).2) else _) = _
    rw [brace_yes]
    rfl
  | i :: l, q + 1, hq, h => by
    obtain ⟨-, h2⟩ := h i (List.mem_cons_self ..)
    have ih := idxsR_hit hc r l q (by simp at hq; omega) (fun x hx => h x (List.mem_cons_of_mem _ hx))
    rw [idxsR, List.flatMap_cons, List.append_assoc]
    generalize hR : l.flatMap (fun i => idxK D.col (D.idx i)) ++ (tM 125 :: r) = R at ih ⊢
    unfold idxK
    simp only [List.cons_append, List.nil_append]
    have hpr := fun k => partsR_hit hc h2 k R
    cases hu : (D.idx i).uniq with
    | false =>
      simp only [Bool.false_eq_true, if_false]
      rw [isR_miss (t := tN kIndex) (s := ⟨#[125]⟩) (by decide), isR_miss (t := tN kIndex) (s := kUnique) (by decide)]
      simp only [idxW, Bool.false_eq_true, if_false, Option.bind_eq_bind]
      rw [show mustR kIndex (tN kIndex :: tN (D.idx i).name :: (partsEK D.col (D.idx i).n (D.idx i).part ++ R)) = some (tN (D.idx i).name :: (partsEK D.col (D.idx i).n (D.idx i).part ++ R)) from mustR_hit 1 kIndex _]
      simp only [Option.bind_some]
      rw [nameR_hit]
      simp only [Option.bind_some]
      obtain ⟨k, hk⟩ : ∃ k, (partsEK D.col (D.idx i).n (D.idx i).part ++ R).length + 1 = k + 2 := ⟨(partsEK D.col (D.idx i).n (D.idx i).part ++ R).length - 1, by
        have : 0 < (partsEK D.col (D.idx i).n (D.idx i).part ++ R).length := by unfold partsEK; simp; omega
        omega⟩
      rw [hk, hpr k]
      simp only [Option.bind_some]
      rw [ih]
      simp [hu]
    | true =>
      simp only [if_true]
      rw [isR_miss (t := tN kUnique) (s := ⟨#[125]⟩) (by decide), show isR kUnique (tN kUnique :: tN (D.idx i).name :: (partsEK D.col (D.idx i).n (D.idx i).part ++ R)) = (true, tN (D.idx i).name :: (partsEK D.col (D.idx i).n (D.idx i).part ++ R)) from isR_hit 1 kUnique _]
      simp only [idxW, Bool.false_eq_true, if_false, if_true, Option.bind_eq_bind, Option.bind_some]
      rw [nameR_hit]
      simp only [Option.bind_some]
      obtain ⟨k, hk⟩ : ∃ k, (partsEK D.col (D.idx i).n (D.idx i).part ++ R).length + 1 = k + 2 := ⟨(partsEK D.col (D.idx i).n (D.idx i).part ++ R).length - 1, by
        have : 0 < (partsEK D.col (D.idx i).n (D.idx i).part ++ R).length := by unfold partsEK; simp; omega
        omega⟩
      rw [hk, hpr k]
      simp only [Option.bind_some]
      rw [ih]
      simp [hu]

theorem offC_at (D : PDef) {i : Nat} (h : i < D.nc) : (offC D).getD i ⟨⟨#[]⟩, 0, false⟩ = D.col i := by
  simp [offC, List.getD, h]
theorem offP_at (n : Nat) (f : Nat → PBy) {i : Nat} (h : i < n) : (offP n f).getD i ⟨0, false⟩ = f i := by
  simp [offP, List.getD, h]
theorem offC_len (D : PDef) : (offC D).length = D.nc := by simp [offC]
theorem offP_len (n : Nat) (f : Nat → PBy) : (offP n f).length = n := by simp [offP]
theorem offI_len (D : PDef) : (offI D).length = D.ni := by simp [offI]
/-- The columns of a table that nothing is wrong with. -/
theorem cols_good {D : PDef} (h : checkF D = 0) : Cols (offC D) D.col D.nc := by
  obtain ⟨h1, -, h3, -, -, -⟩ := checkF_good h
  unfold namesF at h1
  unfold onceF at h3
  exact ⟨offC_len D, fun i hi => offC_at D hi, (of_decide_eq_true h1).1, (of_decide_eq_true h3).1⟩
/-- The table as lists. -/
def offD (D : PDef) : PDef := mkDef D.name (offC D) (offP D.np D.pri) (offI D)
/-- The tokens of a table that nothing is wrong with are read as that table. -/
theorem defR_hit {D : PDef} (h : checkF D = 0) (r : List Tok) : defR (defK D ++ r) = some (offD D, r) := by
  obtain ⟨h1, h2, -, -, h5, -⟩ := checkF_good h
  have hc := cols_good h
  unfold namesF at h1
  unfold typesF at h2
  unfold allPartsF at h5
  obtain ⟨hw, hi, -⟩ := of_decide_eq_true h1
  obtain ⟨ht, -, -⟩ := of_decide_eq_true h2
  obtain ⟨hpi, hpp⟩ := of_decide_eq_true h5
  have e : defK D ++ r = tN kTable :: tN D.name :: tM 123 :: ((offC D).flatMap colK ++ (tN kPrimary :: (partsEK D.col D.np D.pri ++ ((List.range D.ni).flatMap (fun i => idxK D.col (D.idx i)) ++ (tM 125 :: r))))) := by
    unfold defK offC
    rw [colsK_off, idxsK_off]
    simp [List.append_assoc]
  rw [e]
  unfold defR
  rw [show mustR kTable (tN kTable :: tN D.name :: tM 123 :: ((offC D).flatMap colK ++ (tN kPrimary :: (partsEK D.col D.np D.pri ++ ((List.range D.ni).flatMap (fun i => idxK D.col (D.idx i)) ++ (tM 125 :: r)))))) = some (tN D.name :: tM 123 :: ((offC D).flatMap colK ++ (tN kPrimary :: (partsEK D.col D.np D.pri ++ ((List.range D.ni).flatMap (fun i => idxK D.col (D.idx i)) ++ (tM 125 :: r)))))) from mustR_hit 1 kTable _]
  simp only [Option.bind_eq_bind, Option.bind_some]
  rw [nameR_hit]
  simp only [Option.bind_some]
  rw [show ∀ l, mustR ⟨#[123]⟩ (tM 123 :: l) = some l from fun l => mustR_hit 2 _ l]
  simp only [Option.bind_some]
  rw [colsR_hit (offC D) _ _ ?_ (fun c hcm => ?_)]
  · simp only [Option.bind_some]
    obtain ⟨k, hk⟩ : ∃ k, (partsEK D.col D.np D.pri ++ ((List.range D.ni).flatMap (fun i => idxK D.col (D.idx i)) ++ (tM 125 :: r))).length + 1 = k + 2 := ⟨(partsEK D.col D.np D.pri ++ ((List.range D.ni).flatMap (fun i => idxK D.col (D.idx i)) ++ (tM 125 :: r))).length - 1, by
      have : 0 < (partsEK D.col D.np D.pri ++ ((List.range D.ni).flatMap (fun i => idxK D.col (D.idx i)) ++ (tM 125 :: r))).length := by simp; omega
      omega⟩
    rw [hk, partsR_hit hc hpp k]
    simp only [Option.bind_some]
    rw [idxsR_hit hc r (List.range D.ni) _ ?_ (fun i him => ?_)]
    · rfl
    · have hl : ∀ l : List Nat, l.length ≤ (l.flatMap (fun i => idxK D.col (D.idx i))).length := by
        intro l
        induction l with
        | nil => exact Nat.zero_le _
        | cons a l ih =>
          have h7 : 1 ≤ (idxK D.col (D.idx a)).length := by simp [idxK]
          rw [List.flatMap_cons, List.length_append, List.length_cons]; omega
      have := hl (List.range D.ni)
      rw [List.length_append]
      omega
    · have := List.mem_range.1 him
      exact ⟨word_name (hi i this), hpi i this⟩
  · have hl : ∀ l : List PCol, l.length ≤ (l.flatMap colK).length := by
      intro l
      induction l with
      | nil => exact Nat.zero_le _
      | cons a l ih => rw [List.flatMap_cons, List.length_append, List.length_cons]; simp only [colK, List.length_append, List.length_cons]; omega
    have := hl (offC D)
    rw [List.length_append]
    omega
  · obtain ⟨i, hi2, rfl⟩ := List.mem_map.1 hcm
    have := List.mem_range.1 hi2
    exact ⟨hw i this, ht i this⟩
end Go.Proofs.YtjoimkfpenbkmabGreatDoor

/-
  What is read as a table that nothing is wrong with has that table's tokens.
-/
namespace Go.Proofs.YtjoimkfpenbkmabGreatDoor
open Go.RowKit
set_option maxRecDepth 4000

/-- All tokens are right. -/
def AllOk (l : List Tok) : Prop := ∀ t ∈ l, tokOk t.1 t.2 = true
theorem AllOk.tail {t : Tok} {r : List Tok} (h : AllOk (t :: r)) : AllOk r := fun x hx => h x (List.mem_cons_of_mem _ hx)
theorem AllOk.app {a r : List Tok} (h : AllOk (a ++ r)) : AllOk r := fun x hx => h x (List.mem_append_right _ hx)
/-- A right token's kind goes by its text. -/
theorem kind_name {k : Int} {s : ByteArray} (h : tokOk k s = true) (hn : nameOk s = true) : k = 1 := by
  by_cases c : k = 1
  · exact c
  · unfold tokOk at h
    rw [if_neg c] at h
    by_cases c2 : k = 2
    · rw [if_pos c2] at h
      unfold markOk at h
      unfold nameOk at hn
      simp only [decide_eq_true_eq] at h hn
      have h1 := h.2
      have h2 := hn.2.2.1
      unfold markC at h1
      unfold small at h2
      simp only [decide_eq_true_eq] at h1 h2
      omega
    · rw [if_neg c2] at h; cases h
theorem kind_mark {k : Int} {s : ByteArray} (h : tokOk k s = true) (hn : nameOk s = false) : k = 2 := by
  by_cases c : k = 1
  · unfold tokOk at h
    rw [if_pos c, hn] at h; cases h
  · unfold tokOk at h
    rw [if_neg c] at h
    by_cases c2 : k = 2
    · exact c2
    · rw [if_neg c2] at h; cases h
theorem isR_true {s : ByteArray} {l r : List Tok} (h : isR s l = (true, r)) : ∃ k, l = (k, s) :: r := by
  cases l with
  | nil => simp [isR] at h
  | cons t l =>
    obtain ⟨k, u⟩ := t
    by_cases e : u = s
    · subst e
      rw [isR_hit] at h
      cases h
      exact ⟨k, rfl⟩
    · rw [isR_miss (t := (k, u)) e] at h
      cases h
theorem isR_false {s : ByteArray} {l r : List Tok} (h : isR s l = (false, r)) : r = l := by
  cases l with
  | nil => simp [isR] at h; exact h
  | cons t l =>
    by_cases e : t.2 = s
    · simp [isR, e] at h
    · rw [isR_miss e] at h
      cases h; rfl
theorem isN_true {s : ByteArray} {l r : List Tok} (ha : AllOk l) (hn : nameOk s = true) (h : isR s l = (true, r)) : l = tN s :: r := by
  obtain ⟨k, rfl⟩ := isR_true h
  have e := kind_name (k := k) (s := s) (ha _ (List.mem_cons_self ..)) hn
  subst e; rfl
theorem isM_true {c : UInt8} {l r : List Tok} (ha : AllOk l) (hn : nameOk ⟨#[c]⟩ = false) (h : isR ⟨#[c]⟩ l = (true, r)) : l = tM c :: r := by
  obtain ⟨k, rfl⟩ := isR_true h
  have e := kind_mark (k := k) (s := ⟨#[c]⟩) (ha _ (List.mem_cons_self ..)) hn
  subst e; rfl
theorem mustR_some {s : ByteArray} {l r : List Tok} (h : mustR s l = some r) : isR s l = (true, r) := by
  unfold mustR at h
  cases e : isR s l with
  | mk b q =>
    rw [e] at h
    cases b with
    | false => simp at h
    | true => simp at h; rw [h]
theorem nameR_some {l r : List Tok} {n : ByteArray} (h : nameR l = some (n, r)) : l = tN n :: r := by
  cases l with
  | nil => simp [nameR] at h
  | cons t l =>
    obtain ⟨k, u⟩ := t
    unfold nameR at h
    by_cases e : k = 1
    · simp only [e, if_true, Option.some.injEq, Prod.mk.injEq] at h
      obtain ⟨rfl, rfl⟩ := h
      rw [e]; rfl
    · simp [e] at h
theorem typeR_some {l r : List Tok} {t : Int} (ha : AllOk l) (h : typeR l = (t, r)) (h1 : 1 ≤ t) : l = tN (typeW t) :: r := by
  unfold typeR at h
  cases e1 : isR (typeW 1) l with
  | mk b1 q1 =>
  cases e2 : isR (typeW 2) l with
  | mk b2 q2 =>
  cases e3 : isR (typeW 3) l with
  | mk b3 q3 =>
  cases e4 : isR (typeW 4) l with
  | mk b4 q4 =>
  rw [e1, e2, e3, e4] at h
  cases b1 with
  | true => simp at h; obtain ⟨rfl, rfl⟩ := h; exact isN_true ha (by decide) e1
  | false =>
  cases b2 with
  | true => simp at h; obtain ⟨rfl, rfl⟩ := h; exact isN_true ha (by decide) e2
  | false =>
  cases b3 with
  | true => simp at h; obtain ⟨rfl, rfl⟩ := h; exact isN_true ha (by decide) e3
  | false =>
  cases b4 with
  | true => simp at h; obtain ⟨rfl, rfl⟩ := h; exact isN_true ha (by decide) e4
  | false => simp at h; omega
theorem colR_some {l r : List Tok} {c : PCol} (ha : AllOk l) (h : colR l = some (c, r)) (h1 : 1 ≤ c.type) : l = colK c ++ r := by
  unfold colR at h
  simp only [Option.bind_eq_bind, Option.bind_eq_some_iff, Prod.exists] at h
  obtain ⟨n, l1, hn, l4, h4, he⟩ := h
  cases e2 : typeR l1 with
  | mk t l2 =>
  cases e3 : isR kNull l2 with
  | mk z l3 =>
  rw [e2] at h4 he
  simp only at h4 he
  rw [e3] at h4 he
  simp only [Option.pure_def, Option.some.injEq, Prod.mk.injEq] at he
  obtain ⟨rfl, rfl⟩ := he
  have a0 := nameR_some hn
  subst a0
  have a1 := typeR_some ha.tail e2 h1
  subst a1
  have ha2 := ha.tail.tail
  cases z with
  | false =>
    obtain rfl := isR_false e3
    have a3 := isM_true ha2 (by decide) (mustR_some h4)
    rw [a3]; rfl
  | true =>
    have a2 := isN_true ha2 (by decide) e3
    subst a2
    have a3 := isM_true ha2.tail (by decide) (mustR_some h4)
    rw [a3]; rfl
theorem colsR_some : ∀ (q : Nat) (l r : List Tok) (cs : List PCol), AllOk l → colsR q l = some (cs, r) → (∀ c ∈ cs, 1 ≤ c.type) → l = cs.flatMap colK ++ (tN kPrimary :: r)
  | 0, _, _, _, _, h, _ => by simp [colsR] at h
  | q + 1, l, r, cs, ha, h, ht => by
    rw [colsR] at h
    cases e : isR kPrimary l with
    | mk b l1 =>
    rw [e] at h
    cases b with
    | true =>
      simp only [if_true, Option.some.injEq, Prod.mk.injEq] at h
      obtain ⟨rfl, rfl⟩ := h
      exact isN_true ha (by decide) e
    | false =>
      simp only [Bool.false_eq_true, if_false, Option.bind_eq_bind, Option.bind_eq_some_iff, Prod.exists] at h
      obtain ⟨c, l2, hc, rs, l3, hr, he⟩ := h
      simp only [Option.pure_def, Option.some.injEq, Prod.mk.injEq] at he
      obtain ⟨rfl, rfl⟩ := he
      have a1 := colR_some ha hc (ht c (List.mem_cons_self ..))
      subst a1
      have a2 := colsR_some q l2 l3 rs ha.app hr (fun x hx => ht x (List.mem_cons_of_mem _ hx))
      subst a2
      rw [List.flatMap_cons, List.append_assoc]
end Go.Proofs.YtjoimkfpenbkmabGreatDoor

/-
  What is read as a table that nothing is wrong with has that table's tokens: parts, indexes, the whole.
-/
namespace Go.Proofs.YtjoimkfpenbkmabGreatDoor
open Go.RowKit
set_option maxRecDepth 4000

theorem colFrom_some {f : Nat → PCol} {s : ByteArray} : ∀ (m k : Nat), 0 ≤ colFrom f s m k → (f (colFrom f s m k).toNat).name = s ∧ colFrom f s m k < (k + m : Nat)
  | 0, k, h => by rw [colFrom] at h; omega
  | m + 1, k, h => by
    rw [colFrom] at h ⊢
    by_cases e : (f k).name = s
    · rw [if_pos e]
      exact ⟨by simpa using e, by omega⟩
    · rw [if_neg e] at h ⊢
      have := colFrom_some m (k + 1) h
      exact ⟨this.1, by omega⟩
theorem colAt_some {f : Nat → PCol} {s : ByteArray} {n : Nat} (h : 0 ≤ colAt f n s) : (f (colAt f n s).toNat).name = s := (colFrom_some n 0 h).1
/-- The tokens of a list of parts. -/
def partsL (col : Nat → PCol) : List PBy → List Tok
  | [] => []
  | [x] => partK col x
  | x :: y :: r => partK col x ++ (tM 44 :: partsL col (y :: r))
theorem partsL_K {col : Nat → PCol} {ps : List PBy} (h : ps.length ≤ 2) : partsK col (mkBy ps) ps.length = partsL col ps := by
  match ps, h with
  | [], _ => rfl
  | [x], _ => simp [partsK, partsL, mkBy]
  | [x, y], _ => simp [partsK, partsL, mkBy]
theorem partsR_some (cs : List PCol) : ∀ (q : Nat) (l r : List Tok) (ps : List PBy), AllOk l → partsR cs q l = some (ps, r) → (∀ x ∈ ps, 0 ≤ x.col) → l = partsL (mkCol cs) ps ++ (tM 59 :: r)
  | 0, _, _, _, _, h, _ => by simp [partsR] at h
  | q + 1, l, r, ps, ha, h, hp => by
    rw [partsR] at h
    simp only [Option.bind_eq_bind, Option.bind_eq_some_iff, Prod.exists] at h
    obtain ⟨n, l1, hn, h⟩ := h
    have a0 := nameR_some hn
    subst a0
    cases e2 : isR kDesc l1 with
    | mk d l2 =>
    simp only [e2] at h
    have hl1 : AllOk l1 := ha.tail
    have hd : tN n :: l1 = tN n :: ((if d then [tN kDesc] else []) ++ l2) ∧ AllOk l2 := by
      cases d with
      | false => obtain rfl := isR_false e2; exact ⟨rfl, hl1⟩
      | true =>
        have a := isN_true hl1 (by decide) e2
        subst a
        exact ⟨rfl, hl1.tail⟩
    rw [hd.1]
    cases e3 : isR ⟨#[44]⟩ l2 with
    | mk b l3 =>
    rw [e3] at h
    cases b with
    | true =>
      simp only [if_true, Option.bind_eq_some_iff, Prod.exists, Option.pure_def, Option.some.injEq, Prod.mk.injEq] at h
      obtain ⟨rs, l4, hr, rfl, rfl⟩ := h
      have a2 := isM_true hd.2 (by decide) e3
      subst a2
      have h0 := hp _ (List.mem_cons_self ..)
      have hnm := colAt_some h0
      have ih := partsR_some cs q l3 l4 rs hd.2.tail hr (fun x hx => hp x (List.mem_cons_of_mem _ hx))
      cases rs with
      | nil =>
        exfalso
        cases q with
        | zero => simp [partsR] at hr
        | succ q =>
          rw [partsR] at hr
          simp only [Option.bind_eq_bind, Option.bind_eq_some_iff, Prod.exists] at hr
          obtain ⟨n', l1', -, hr⟩ := hr
          split at hr
          · simp only [Option.bind_eq_some_iff, Prod.exists, Option.pure_def, Option.some.injEq, Prod.mk.injEq] at hr
            obtain ⟨_, _, _, hx, _⟩ := hr
            cases hx
          · simp only [Option.bind_eq_some_iff, Option.pure_def, Option.some.injEq, Prod.mk.injEq] at hr
            obtain ⟨_, _, hx, _⟩ := hr
            cases hx
      | cons y rs =>
        rw [ih, partsL]
        unfold partK mkCol
        rw [hnm]
        simp [List.append_assoc]
    | false =>
      simp only [Bool.false_eq_true, if_false, Option.bind_eq_some_iff, Option.pure_def, Option.some.injEq, Prod.mk.injEq] at h
      obtain ⟨l4, h4, rfl, rfl⟩ := h
      have a2 := isM_true hd.2 (by decide) (mustR_some h4)
      subst a2
      have h0 := hp _ (List.mem_cons_self ..)
      have hnm := colAt_some h0
      rw [partsL]
      unfold partK mkCol
      rw [hnm]
      simp
def idxL (col : Nat → PCol) (x : ByteArray × Bool × List PBy) : List Tok := tN (if x.2.1 then kUnique else kIndex) :: tN x.1 :: (partsL col x.2.2 ++ [tM 59])
theorem idxsR_some (cs : List PCol) : ∀ (q : Nat) (l r : List Tok) (xs : List (ByteArray × Bool × List PBy)), AllOk l → idxsR cs q l = some (xs, r) → (∀ x ∈ xs, ∀ y ∈ x.2.2, 0 ≤ y.col) → l = xs.flatMap (idxL (mkCol cs)) ++ (tM 125 :: r)
  | 0, _, _, _, _, h, _ => by simp [idxsR] at h
  | q + 1, l, r, xs, ha, h, hp => by
    rw [idxsR] at h
    cases e : isR ⟨#[125]⟩ l with
    | mk b l1 =>
    rw [e] at h
    cases b with
    | true =>
      simp only [if_true, Option.some.injEq, Prod.mk.injEq] at h
      obtain ⟨rfl, rfl⟩ := h
      exact isM_true ha (by decide) e
    | false =>
      clear e
      cases e2 : isR kUnique l with
      | mk u l2 =>
      simp only [e2, Bool.false_eq_true, if_false, Option.bind_eq_bind, Option.bind_eq_some_iff, Prod.exists] at h
      obtain ⟨l3, h3, n, l4, hn, p, l5, hps, rs, l6, hr, he⟩ := h
      simp only [Option.pure_def, Option.some.injEq, Prod.mk.injEq] at he
      obtain ⟨rfl, rfl⟩ := he
      have hd : l = tN (if u then kUnique else kIndex) :: l3 := by
        cases u with
        | true =>
          simp only [idxW, if_true, Option.some.injEq] at h3
          subst h3
          exact isN_true ha (by decide) e2
        | false =>
          simp only [idxW, Bool.false_eq_true, if_false] at h3
          obtain rfl := isR_false e2
          exact isN_true ha (by decide) (mustR_some h3)
      subst hd
      have a1 := nameR_some hn
      subst a1
      have h1 := hp _ (List.mem_cons_self ..)
      have a2 := partsR_some cs _ l4 l5 p ha.tail.tail hps h1
      subst a2
      have ha5 : AllOk l5 := (ha.tail.tail.app).tail
      have a3 := idxsR_some cs q l5 l6 rs ha5 hr (fun x hx => hp x (List.mem_cons_of_mem _ hx))
      subst a3
      rw [List.flatMap_cons, idxL]
      simp [List.append_assoc]
theorem flat_congr {α β : Type} {f g : α → List β} : ∀ {l : List α}, (∀ x ∈ l, f x = g x) → l.flatMap f = l.flatMap g
  | [], _ => rfl
  | x :: l, h => by rw [List.flatMap_cons, List.flatMap_cons, h x (List.mem_cons_self ..), flat_congr (fun y hy => h y (List.mem_cons_of_mem _ hy))]
theorem range_getD {α β : Type} (l : List α) (d : α) (f : α → List β) : (List.range l.length).flatMap (fun i => f (l.getD i d)) = l.flatMap f := by
  have : (List.range l.length).map (fun i => l.getD i d) = l := by
    refine List.ext_getElem (by simp) (fun i h1 h2 => ?_)
    simp [List.getD, h2]
  rw [← List.flatMap_map (f := fun i => l.getD i d) (g := f), this]
/-- What is read as a table that nothing is wrong with has that table's tokens. -/
theorem defR_some {l r : List Tok} {D : PDef} (ha : AllOk l) (h : defR l = some (D, r)) (hg : checkF D = 0) : l = defK D ++ r := by
  unfold defR at h
  simp only [Option.bind_eq_bind, Option.bind_eq_some_iff, Prod.exists] at h
  obtain ⟨l1, h1, n, l2, h2, l3, h3, c, l4, h4, p, l5, h5, x, l6, h6, he⟩ := h
  simp only [Option.pure_def, Option.some.injEq, Prod.mk.injEq] at he
  obtain ⟨rfl, rfl⟩ := he
  obtain ⟨-, g2, -, -, g5, -⟩ := checkF_good hg
  unfold typesF at g2
  unfold allPartsF at g5
  obtain ⟨ht, -, -⟩ := of_decide_eq_true g2
  obtain ⟨hpi, hpp⟩ := of_decide_eq_true g5
  have a1 := isN_true ha (by decide) (mustR_some h1)
  subst a1
  have a2 := nameR_some h2
  subst a2
  have a3 := isM_true ha.tail.tail (by decide) (mustR_some h3)
  subst a3
  have ha3 := ha.tail.tail.tail
  have a4 := colsR_some _ l3 l4 c ha3 h4 (fun y hy => by
    obtain ⟨i, hi, rfl⟩ := List.getElem_of_mem hy
    have := (ht i hi).1
    simpa [mkDef, mkCol, List.getD, hi] using this)
  subst a4
  have ha4 := (ha3.app).tail
  have a5 := partsR_some c _ l4 l5 p ha4 h5 (fun y hy => by
    obtain ⟨i, hi, rfl⟩ := List.getElem_of_mem hy
    have := (partsF_in hpp (i := i) hi).1
    simpa [mkDef, mkBy, List.getD, hi] using this)
  subst a5
  have ha5 := (ha4.app).tail
  have a6 := idxsR_some c _ l5 l6 x ha5 h6 (fun y hy z hz => by
    obtain ⟨i, hi, rfl⟩ := List.getElem_of_mem hy
    have hq := hpi i hi
    obtain ⟨j, hj, rfl⟩ := List.getElem_of_mem hz
    have := (partsF_in hq (i := j) (by simpa [mkDef, mkIdx, List.getD, hi] using hj)).1
    simpa [mkDef, mkIdx, mkBy, List.getD, hi, hj] using this)
  subst a6
  have e1 : colsK (mkCol c) c.length = c.flatMap colK := by
    rw [colsK_off, List.flatMap_map]
    exact range_getD c _ colK
  have e2 : partsK (mkCol c) (mkBy p) p.length = partsL (mkCol c) p := partsL_K (partsF_two hpp).2
  have e3 : idxsK (mkDef n c p x) x.length = x.flatMap (idxL (mkCol c)) := by
    rw [idxsK_off, ← range_getD x (⟨#[]⟩, false, []) (idxL (mkCol c))]
    refine flat_congr (fun i hi => ?_)
    have hi2 := List.mem_range.1 hi
    have hq := (partsF_two (hpi i hi2)).2
    show idxK (mkCol c) (mkIdx x i) = _
    unfold idxK idxL partsEK
    show [_, _] ++ (partsK (mkCol c) (mkBy (x.getD i (⟨#[]⟩, false, [])).2.2) (x.getD i (⟨#[]⟩, false, [])).2.2.length ++ [tM 59]) = _
    rw [partsL_K hq]
    rfl
  show _ = [tN kTable, tN n, tM 123] ++ colsK (mkCol c) c.length ++ ([tN kPrimary] ++ (partsK (mkCol c) (mkBy p) p.length ++ [tM 59])) ++ idxsK (mkDef n c p x) x.length ++ [tM 125] ++ l6
  rw [e1, e2, e3]
  simp [List.append_assoc]
end Go.Proofs.YtjoimkfpenbkmabGreatDoor

/-
  What Lex makes of a token's own text, plainly: the token alone, just if it is right.
-/
namespace Go.Proofs.YtjoimkfpenbkmabGreatDoor
open Go.RowKit
set_option maxRecDepth 4000

/-- All that Lex makes is right. -/
theorem lexF_ok (s : ByteArray) (i : Nat) (l : List (Int × ByteArray)) (hl : ∀ t ∈ l, tokOk t.1 t.2 = true) : ∀ t ∈ (lexF s i l).1, tokOk t.1 t.2 = true := by
  by_cases h : i < s.size
  · cases hb : blank (bt s i) with
    | true => rw [lexF_blank h hb]; exact lexF_ok s (i + 1) l hl
    | false =>
      by_cases ht : tokOk (kindAt s i) (s.extract i (stopAt s i)) = true ∧ l.length ≠ 500
      · rw [lexF_tok h hb ht.1 ht.2]
        refine lexF_ok s (stopAt s i) _ (fun t h => ?_)
        rcases List.mem_append.1 h with h | h
        · exact hl t h
        · rw [List.mem_singleton.1 h]; exact ht.1
      · rw [lexF_no h hb ht]; intro t h; cases h
  · rw [lexF_end h]; exact hl
  termination_by s.size - i
  decreasing_by all_goals (have := stopAt_gt s i; omega)
/-- A token that is right is what Lex makes of its text. -/
theorem lex_self {k : Int} {s : ByteArray} (h : tokOk k s = true) : lexF s 0 [] = ([(k, s)], -1) := by
  have h1 := lex_join (l := [(k, s)]) (by simp) (fun i hi => by
    have : i = 0 := by simpa using hi
    subst this
    exact h)
  have h2 : joinT (ts [(k, s)]) [(k, s)].length = s := by
    show (if 0 < 0 then _ else (⟨#[]⟩ : ByteArray)) ++ s = s
    rw [if_neg (by omega)]
    have h0 : (⟨#[]⟩ : ByteArray).size = 0 := rfl
    exact bt_ext (by rw [ByteArray.size_append, h0, Nat.zero_add]) (fun i _ => by
      have := bt_right ⟨#[]⟩ s i
      rw [h0, Nat.zero_add] at this
      exact this)
  rw [h2] at h1
  exact h1
def eqT (k : Int) (s : ByteArray) (k' : Int) (s' : ByteArray) : Bool := decide (k = k') && decide (s = s')
theorem tok_self {k : Int} {s : ByteArray} (h : (lexF s 0 []).1.length = 1) : tokOk k s = eqT (tk (lexF s 0 []).1 0) (ts (lexF s 0 []).1 0) k s := by
  rw [Bool.eq_iff_iff]
  constructor
  · intro ht
    rw [lex_self ht]
    simp [eqT, tk, ts]
  · intro he
    simp only [eqT, Bool.and_eq_true, decide_eq_true_eq] at he
    obtain ⟨x, hx⟩ := List.length_eq_one_iff.1 h
    have := lexF_ok s 0 [] (by intro t h; cases h) x (by rw [hx]; simp)
    rw [hx] at he
    have e : x = (k, s) := Prod.ext (by simpa [tk] using he.1) (by simpa [ts] using he.2)
    rw [e] at this
    exact this
theorem tok_none {k : Int} {s : ByteArray} (h : (lexF s 0 []).1.length ≠ 1) : tokOk k s = false := by
  cases e : tokOk k s with
  | false => rfl
  | true => rw [lex_self e] at h; exact absurd rfl h
end Go.Proofs.YtjoimkfpenbkmabGreatDoor

/-
  Tables out of a text and back, plainly.
-/
namespace Go.Proofs.YtjoimkfpenbkmabGreatDoor
open Go.RowKit
set_option maxRecDepth 4000

/-- Whether the i-th table is not right, or its name stands ahead, or it is behind the third. -/
def badF (f : Nat → PDef) (i : Nat) : Bool := decide (checkF (f i) ≠ 0 ∨ 2 < i ∨ ∃ k, k < i ∧ (f k).name = (f i).name)
/-- The first of m tables from the k-th on that is bad; -1: there is none. -/
def badFrom (f : Nat → PDef) : Nat → Nat → Int
  | 0, _ => -1
  | m + 1, k => if badF f k then (k : Int) else badFrom f m (k + 1)
def firstF (f : Nat → PDef) (n : Nat) : Int := badFrom f n 0
theorem badFrom_none {f : Nat → PDef} : ∀ (m k : Nat), badFrom f m k = -1 → ∀ i, k ≤ i → i < k + m → badF f i = false
  | 0, _, _, i, h1, h2 => by omega
  | m + 1, k, h, i, h1, h2 => by
    rw [badFrom] at h
    cases e : badF f k with
    | true => rw [e, if_pos rfl] at h; omega
    | false =>
      rw [e, if_neg (by simp)] at h
      by_cases e2 : i = k
      · subst e2; exact e
      · exact badFrom_none m (k + 1) h i (by omega) (by omega)
theorem firstF_none {f : Nat → PDef} {n : Nat} (h : firstF f n = -1) : n ≤ 3 ∧ (∀ i, i < n → checkF (f i) = 0) ∧ ∀ i, i < n → ∀ k, k < i → (f k).name ≠ (f i).name := by
  have key : ∀ i, i < n → badF f i = false := fun i hi => badFrom_none n 0 h i (Nat.zero_le _) (by omega)
  have key2 : ∀ i, i < n → ¬ (checkF (f i) ≠ 0 ∨ 2 < i ∨ ∃ k, k < i ∧ (f k).name = (f i).name) := fun i hi => of_decide_eq_false (key i hi)
  refine ⟨?_, fun i hi => ?_, fun i hi k hk e => key2 i hi (.inr (.inr ⟨k, hk, e⟩))⟩
  · by_cases h3 : n ≤ 3
    · exact h3
    · exact absurd (.inr (.inl (by omega))) (key2 3 (by omega))
  · by_cases e : checkF (f i) = 0
    · exact e
    · exact absurd (.inl e) (key2 i hi)
/-- The text of n tables. -/
def defsT (f : Nat → PDef) : Nat → ByteArray
  | 0 => ⟨#[]⟩
  | k + 1 => defsT f k ++ defText (f k) ++ (⟨#[10]⟩ : ByteArray)
def defsK (f : Nat → PDef) : Nat → List Tok
  | 0 => []
  | k + 1 => defsK f k ++ defK (f k)
theorem lc_defs {f : Nat → PDef} {n : Nat} (h : ∀ i, i < n → checkF (f i) = 0) : ∀ k, k ≤ n → Lc (defsT f k) (defsK f k)
  | 0, _ => Lc.nil
  | k + 1, hk => by
    have ih := lc_defs h k (by omega)
    have h0 := h k (by omega)
    have e : defText (f k) = textG (f k) := if_pos h0
    rw [defsT, defsK, e]
    have := (ih.app (lc_text h0)).app (Lc.blank (c := 10) rfl)
    rwa [List.append_nil] at this
theorem partsK_few (col : Nat → PCol) (f : Nat → PBy) : ∀ n, (partsK col f n).length ≤ 3 * n
  | 0 => Nat.zero_le _
  | n + 1 => by
    have ih := partsK_few col f n
    have hp : (partK col (f n)).length ≤ 2 := by unfold partK; split <;> simp
    rw [partsK, List.length_append]
    split
    · rw [List.length_append, List.length_singleton]; omega
    · omega
theorem colsK_few (col : Nat → PCol) : ∀ n, (colsK col n).length ≤ 4 * n
  | 0 => Nat.zero_le _
  | n + 1 => by
    have ih := colsK_few col n
    have hp : (colK (col n)).length ≤ 4 := by unfold colK; split <;> simp
    rw [colsK, List.length_append]; omega
theorem idxsK_few {D : PDef} {n : Nat} (h : ∀ i, i < n → (D.idx i).n ≤ 2) : ∀ k, k ≤ n → (idxsK D k).length ≤ 9 * k
  | 0, _ => Nat.zero_le _
  | k + 1, hk => by
    have ih := idxsK_few h k (by omega)
    have h1 := partsK_few D.col (D.idx k).part (D.idx k).n
    have h2 := h k (by omega)
    have hp : (idxK D.col (D.idx k)).length ≤ 9 := by unfold idxK partsEK; simp only [List.length_append, List.length_cons, List.length_nil]; omega
    rw [idxsK, List.length_append]; omega
theorem defK_few {D : PDef} (h : checkF D = 0) : (defK D).length ≤ 60 := by
  obtain ⟨-, h2, -, h4, h5, -⟩ := checkF_good h
  unfold typesF at h2
  unfold allPartsF at h5
  obtain ⟨-, -, h6⟩ := of_decide_eq_true h2
  obtain ⟨hpi, hpp⟩ := of_decide_eq_true h5
  have a1 := colsK_few D.col D.nc
  have a2 := partsK_few D.col D.pri D.np
  have a3 := (partsF_two hpp).2
  have a4 := idxsK_few (D := D) (n := D.ni) (fun i hi => (partsF_two (hpi i hi)).2) D.ni (Nat.le_refl _)
  unfold defK partsEK
  simp only [List.length_append, List.length_cons, List.length_nil]
  omega
theorem defsK_few {f : Nat → PDef} {n : Nat} (h : ∀ i, i < n → checkF (f i) = 0) : ∀ k, k ≤ n → (defsK f k).length ≤ 60 * k
  | 0, _ => Nat.zero_le _
  | k + 1, hk => by
    have ih := defsK_few h k (by omega)
    have h1 := defK_few (h k (by omega))
    rw [defsK, List.length_append]; omega
/-- The text of tables that are right has their tokens. -/
theorem lex_defs {f : Nat → PDef} {n : Nat} (h : firstF f n = -1) : lexF (defsT f n) 0 [] = (defsK f n, -1) := by
  obtain ⟨h3, hg, -⟩ := firstF_none h
  exact (lc_defs hg n (Nat.le_refl _)).lex (by have := defsK_few hg n (Nat.le_refl _); omega)
theorem defK_cons (D : PDef) : ∃ r, defK D = tN kTable :: r := by
  unfold defK
  simp only [List.cons_append, List.nil_append, List.append_assoc]
  exact ⟨_, rfl⟩
theorem defsK_off (f : Nat → PDef) : ∀ n, defsK f n = (List.range n).flatMap (fun i => defK (f i))
  | 0 => rfl
  | n + 1 => by rw [defsK, defsK_off f n, List.range_succ, List.flatMap_append]; simp
theorem defsR_hit {f : Nat → PDef} : ∀ (l : List Nat) (q : Nat), l.length ≤ q → (∀ i ∈ l, checkF (f i) = 0) → defsR q (l.flatMap (fun i => defK (f i))) = some (l.map (fun i => offD (f i)))
  | [], q, _, _ => by cases q <;> rfl
  | i :: l, 0, hq, _ => by simp at hq
  | i :: l, q + 1, hq, h => by
    have h0 := h i (List.mem_cons_self ..)
    have ih := defsR_hit l q (by simpa using hq) (fun x hx => h x (List.mem_cons_of_mem _ hx))
    have hd := defR_hit h0 (l.flatMap (fun i => defK (f i)))
    obtain ⟨r, e⟩ := defK_cons (f i)
    rw [List.flatMap_cons]
    rw [e, List.cons_append] at hd ⊢
    rw [defsR, hd]
    simp only [Option.bind_eq_bind, Option.bind_some]
    rw [ih]
    rfl
/-- What is read as tables that are right has their tokens. -/
theorem defsR_some : ∀ (q : Nat) (l : List Tok) (ds : List PDef), AllOk l → defsR q l = some ds → (∀ d ∈ ds, checkF d = 0) → l = ds.flatMap defK
  | q, [], ds, _, h, _ => by
    have : ds = [] := by cases q <;> (simp [defsR] at h; exact h)
    subst this; rfl
  | 0, t :: r, ds, _, h, _ => by simp [defsR] at h
  | q + 1, t :: r, ds, ha, h, hg => by
    rw [defsR] at h
    simp only [Option.bind_eq_bind, Option.bind_eq_some_iff, Prod.exists] at h
    obtain ⟨d, l1, hd, rs, hr, he⟩ := h
    simp only [Option.pure_def, Option.some.injEq] at he
    subst he
    have a1 := defR_some ha hd (hg d (List.mem_cons_self ..))
    have ha1 : AllOk l1 := by rw [a1] at ha; exact ha.app
    have a2 := defsR_some q l1 rs ha1 hr (fun x hx => hg x (List.mem_cons_of_mem _ hx))
    rw [a1, a2, List.flatMap_cons]
/-- A table as lists is the same table. -/
theorem same_off (D : PDef) : sameF (offD D) D = true := by
  unfold sameF
  apply decide_eq_true
  refine ⟨rfl, offC_len D, offI_len D, ?_, fun i hi => ?_, fun i hi => ?_⟩
  · unfold sameByF
    apply decide_eq_true
    refine ⟨offP_len _ _, fun i hi => ?_⟩
    have hi2 : i < D.np := by rw [show (offD D).np = (offP D.np D.pri).length from rfl, offP_len] at hi; exact hi
    have : (offD D).pri i = D.pri i := offP_at D.np D.pri hi2
    rw [this]; exact ⟨rfl, rfl⟩
  · have hi2 : i < D.nc := by rw [show (offD D).nc = (offC D).length from rfl, offC_len] at hi; exact hi
    have : (offD D).col i = D.col i := offC_at D hi2
    rw [this]; exact ⟨rfl, rfl, rfl⟩
  · have hi2 : i < D.ni := by rw [show (offD D).ni = (offI D).length from rfl, offI_len] at hi; exact hi
    have he : (offI D).getD i (⟨#[]⟩, false, []) = ((D.idx i).name, (D.idx i).uniq, offP (D.idx i).n (D.idx i).part) := by simp [offI, List.getD, hi2]
    have e2 : (offD D).idx i = ⟨(D.idx i).name, (D.idx i).uniq, (offP (D.idx i).n (D.idx i).part).length, mkBy (offP (D.idx i).n (D.idx i).part)⟩ := by
      show mkIdx (offI D) i = _
      unfold mkIdx
      rw [he]
    rw [e2]
    refine ⟨rfl, rfl, ?_⟩
    unfold sameByF
    apply decide_eq_true
    refine ⟨offP_len _ _, fun j hj => ?_⟩
    have hj2 : j < (D.idx i).n := by rw [show (PIdx.n ⟨(D.idx i).name, (D.idx i).uniq, (offP (D.idx i).n (D.idx i).part).length, mkBy (offP (D.idx i).n (D.idx i).part)⟩) = (offP (D.idx i).n (D.idx i).part).length from rfl, offP_len] at hj; exact hj
    have : mkBy (offP (D.idx i).n (D.idx i).part) j = (D.idx i).part j := offP_at _ _ hj2
    show (mkBy _ j).col = _ ∧ (mkBy _ j).desc = _
    rw [this]; exact ⟨rfl, rfl⟩
end Go.Proofs.YtjoimkfpenbkmabGreatDoor

/-
  The first table that is not right, plainly.
-/
namespace Go.Proofs.YtjoimkfpenbkmabGreatDoor
open Go.RowKit
set_option maxRecDepth 4000

theorem badFrom_no (f : Nat → PDef) (m k : Nat) (h : ∀ i, k ≤ i → i < k + m → badF f i = false) : badFrom f m k = -1 := by
  induction m generalizing k with
  | zero => rfl
  | succ m ih => rw [badFrom, h k (Nat.le_refl _) (by omega), if_neg (by simp)]; exact ih (k + 1) (fun i h1 h2 => h i (by omega) (by omega))
theorem badFrom_hit (f : Nat → PDef) : ∀ (m k j : Nat), k ≤ j → j < k + m → (∀ i, k ≤ i → i < j → badF f i = false) → badF f j = true → badFrom f m k = j
  | 0, k, j, h1, h2, _, _ => by omega
  | m + 1, k, j, h1, h2, h, hj => by
    rw [badFrom]
    by_cases e : k = j
    · subst e; rw [hj, if_pos rfl]
    · rw [h k (Nat.le_refl _) (by omega), if_neg (by simp)]
      exact badFrom_hit f m (k + 1) j (by omega) (by omega) (fun i a b => h i (by omega) b) hj
theorem firstF_hit {f : Nat → PDef} {n j : Nat} (hj : j < n) (h : ∀ i, i < j → badF f i = false) (hb : badF f j = true) : firstF f n = j :=
  badFrom_hit f n 0 j (Nat.zero_le _) (by omega) (fun i _ hi => h i hi) hb
theorem firstF_no {f : Nat → PDef} {n : Nat} (h : ∀ i, i < n → badF f i = false) : firstF f n = -1 := badFrom_no f n 0 (fun i _ hi => h i (by omega))
theorem badF_check {f : Nat → PDef} {i : Nat} (h : checkF (f i) ≠ 0) : badF f i = true := decide_eq_true (.inl h)
theorem badF_late {f : Nat → PDef} {i : Nat} (h : 2 < i) : badF f i = true := decide_eq_true (.inr (.inl h))
theorem badF_twice {f : Nat → PDef} {i k : Nat} (h : k < i) (e : (f k).name = (f i).name) : badF f i = true := decide_eq_true (.inr (.inr ⟨k, h, e⟩))
theorem badF_no {f : Nat → PDef} {i : Nat} (h1 : checkF (f i) = 0) (h2 : i ≤ 2) (h3 : ∀ k, k < i → (f k).name ≠ (f i).name) : badF f i = false :=
  decide_eq_false (fun h => by
    rcases h with h | h | ⟨k, hk, e⟩
    · exact h h1
    · omega
    · exact h3 k hk e)
end Go.Proofs.YtjoimkfpenbkmabGreatDoor

