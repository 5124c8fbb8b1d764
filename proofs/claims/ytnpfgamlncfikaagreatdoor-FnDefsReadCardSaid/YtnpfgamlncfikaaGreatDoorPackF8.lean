/-
  Together: TokAll, ReadTabs
-/
import Derived.Test.YtnpfgamlncfikaaGreatDoorPackF4
import Derived.Test.YtnpfgamlncfikaaGreatDoorPackF7
/-
  What Lex makes of a token's own text, plainly: the token alone, just if it is right.
-/
namespace Go.Proofs.YtnpfgamlncfikaaGreatDoor
open Go.RowKit
set_option maxRecDepth 4000

/-- All that Lex makes is right. -/
theorem lexF_ok (s : ByteArray) (i : Nat) (l : List (Int × ByteArray)) (hl : ∀ t ∈ l, tokOk t.1 t.2 = true) : ∀ t ∈ (lexF s i l).1, tokOk t.1 t.2 = true := by
  by_cases h : i < s.size
  · cases hb : blank (bt s i) with
    | true => rw [lexF_blank h hb]; exact lexF_ok s (i + 1) l hl
    | false =>
      by_cases ht : tokOk (kindAt s i) (s.extract i (stopAt s i)) = true ∧ l.length ≠ 500
      · rw [lexF_tok h hb ht.1 ht.2]
        refine lexF_ok s (stopAt s i) _ (fun t h => ?_)
        rcases List.mem_append.1 h with h | h
        · exact hl t h
        · rw [List.mem_singleton.1 h]; exact ht.1
      · rw [lexF_no h hb ht]; intro t h; cases h
  · rw [lexF_end h]; exact hl
  termination_by s.size - i
  decreasing_by all_goals (have := stopAt_gt s i; omega)
/-- A token that is right is what Lex makes of its text. -/
theorem lex_self {k : Int} {s : ByteArray} (h : tokOk k s = true) : lexF s 0 [] = ([(k, s)], -1) := by
  have h1 := lex_join (l := [(k, s)]) (by simp) (fun i hi => by
    have : i = 0 := by simpa using hi
    subst this
    exact h)
  have h2 : joinT (ts [(k, s)]) [(k, s)].length = s := by
    show (if 0 < 0 then _ else (⟨#[]⟩ : ByteArray)) ++ s = s
    rw [if_neg (by omega)]
    have h0 : (⟨#[]⟩ : ByteArray).size = 0 := rfl
    exact bt_ext (by rw [ByteArray.size_append, h0, Nat.zero_add]) (fun i _ => by
      have := bt_right ⟨#[]⟩ s i
      rw [h0, Nat.zero_add] at this
      exact this)
  rw [h2] at h1
  exact h1
def eqT (k : Int) (s : ByteArray) (k' : Int) (s' : ByteArray) : Bool := decide (k = k') && decide (s = s')
theorem tok_self {k : Int} {s : ByteArray} (h : (lexF s 0 []).1.length = 1) : tokOk k s = eqT (tk (lexF s 0 []).1 0) (ts (lexF s 0 []).1 0) k s := by
  rw [Bool.eq_iff_iff]
  constructor
  · intro ht
    rw [lex_self ht]
    simp [eqT, tk, ts]
  · intro he
    simp only [eqT, Bool.and_eq_true, decide_eq_true_eq] at he
    obtain ⟨x, hx⟩ := List.length_eq_one_iff.1 h
    have := lexF_ok s 0 [] (by intro t h; cases h) x (by rw [hx]; simp)
    rw [hx] at he
    have e : x = (k, s) := Prod.ext (by simpa [tk] using he.1) (by simpa [ts] using he.2)
    rw [e] at this
    exact this
theorem tok_none {k : Int} {s : ByteArray} (h : (lexF s 0 []).1.length ≠ 1) : tokOk k s = false := by
  cases e : tokOk k s with
  | false => rfl
  | true => rw [lex_self e] at h; exact absurd rfl h
end Go.Proofs.YtnpfgamlncfikaaGreatDoor

/-
  Tables out of a text and back, plainly.
-/
namespace Go.Proofs.YtnpfgamlncfikaaGreatDoor
open Go.RowKit
set_option maxRecDepth 4000

/-- Whether the i-th table is not right, or its name stands ahead, or it is behind the third. -/
def badF (f : Nat → PDef) (i : Nat) : Bool := decide (checkF (f i) ≠ 0 ∨ 2 < i ∨ ∃ k, k < i ∧ (f k).name = (f i).name)
/-- The first of m tables from the k-th on that is bad; -1: there is none. -/
def badFrom (f : Nat → PDef) : Nat → Nat → Int
  | 0, _ => -1
  | m + 1, k => if badF f k then (k : Int) else badFrom f m (k + 1)
def firstF (f : Nat → PDef) (n : Nat) : Int := badFrom f n 0
theorem badFrom_none {f : Nat → PDef} : ∀ (m k : Nat), badFrom f m k = -1 → ∀ i, k ≤ i → i < k + m → badF f i = false
  | 0, _, _, i, h1, h2 => by omega
  | m + 1, k, h, i, h1, h2 => by
    rw [badFrom] at h
    cases e : badF f k with
    | true => rw [e, if_pos rfl] at h; omega
    | false =>
      rw [e, if_neg (by simp)] at h
      by_cases e2 : i = k
      · subst e2; exact e
      · exact badFrom_none m (k + 1) h i (by omega) (by omega)
theorem firstF_none {f : Nat → PDef} {n : Nat} (h : firstF f n = -1) : n ≤ 3 ∧ (∀ i, i < n → checkF (f i) = 0) ∧ ∀ i, i < n → ∀ k, k < i → (f k).name ≠ (f i).name := by
  have key : ∀ i, i < n → badF f i = false := fun i hi => badFrom_none n 0 h i (Nat.zero_le _) (by omega)
  have key2 : ∀ i, i < n → ¬ (checkF (f i) ≠ 0 ∨ 2 < i ∨ ∃ k, k < i ∧ (f k).name = (f i).name) := fun i hi => of_decide_eq_false (key i hi)
  refine ⟨?_, fun i hi => ?_, fun i hi k hk e => key2 i hi (.inr (.inr ⟨k, hk, e⟩))⟩
  · by_cases h3 : n ≤ 3
    · exact h3
    · exact absurd (.inr (.inl (by omega))) (key2 3 (by omega))
  · by_cases e : checkF (f i) = 0
    · exact e
    · exact absurd (.inl e) (key2 i hi)
/-- The text of n tables. -/
def defsT (f : Nat → PDef) : Nat → ByteArray
  | 0 => ⟨#[]⟩
  | k + 1 => defsT f k ++ defText (f k) ++ (⟨#[10]⟩ : ByteArray)
def defsK (f : Nat → PDef) : Nat → List Tok
  | 0 => []
  | k + 1 => defsK f k ++ defK (f k)
theorem lc_defs {f : Nat → PDef} {n : Nat} (h : ∀ i, i < n → checkF (f i) = 0) : ∀ k, k ≤ n → Lc (defsT f k) (defsK f k)
  | 0, _ => Lc.nil
  | k + 1, hk => by
    have ih := lc_defs h k (by omega)
    have h0 := h k (by omega)
    have e : defText (f k) = textG (f k) := if_pos h0
    rw [defsT, defsK, e]
    have := (ih.app (lc_text h0)).app (Lc.blank (c := 10) rfl)
    rwa [List.append_nil] at this
theorem partsK_few (col : Nat → PCol) (f : Nat → PBy) : ∀ n, (partsK col f n).length ≤ 3 * n
  | 0 => Nat.zero_le _
  | n + 1 => by
    have ih := partsK_few col f n
    have hp : (partK col (f n)).length ≤ 2 := by unfold partK; split <;> simp
    rw [partsK, List.length_append]
    split
    · rw [List.length_append, List.length_singleton]; omega
    · omega
theorem colsK_few (col : Nat → PCol) : ∀ n, (colsK col n).length ≤ 4 * n
  | 0 => Nat.zero_le _
  | n + 1 => by
    have ih := colsK_few col n
    have hp : (colK (col n)).length ≤ 4 := by unfold colK; split <;> simp
    rw [colsK, List.length_append]; omega
theorem idxsK_few {D : PDef} {n : Nat} (h : ∀ i, i < n → (D.idx i).n ≤ 2) : ∀ k, k ≤ n → (idxsK D k).length ≤ 9 * k
  | 0, _ => Nat.zero_le _
  | k + 1, hk => by
    have ih := idxsK_few h k (by omega)
    have h1 := partsK_few D.col (D.idx k).part (D.idx k).n
    have h2 := h k (by omega)
    have hp : (idxK D.col (D.idx k)).length ≤ 9 := by unfold idxK partsEK; simp only [List.length_append, List.length_cons, List.length_nil]; omega
    rw [idxsK, List.length_append]; omega
theorem defK_few {D : PDef} (h : checkF D = 0) : (defK D).length ≤ 60 := by
  obtain ⟨-, h2, -, h4, h5, -⟩ := checkF_good h
  unfold typesF at h2
  unfold allPartsF at h5
  obtain ⟨-, -, h6⟩ := of_decide_eq_true h2
  obtain ⟨hpi, hpp⟩ := of_decide_eq_true h5
  have a1 := colsK_few D.col D.nc
  have a2 := partsK_few D.col D.pri D.np
  have a3 := (partsF_two hpp).2
  have a4 := idxsK_few (D := D) (n := D.ni) (fun i hi => (partsF_two (hpi i hi)).2) D.ni (Nat.le_refl _)
  unfold defK partsEK
  simp only [List.length_append, List.length_cons, List.length_nil]
  omega
theorem defsK_few {f : Nat → PDef} {n : Nat} (h : ∀ i, i < n → checkF (f i) = 0) : ∀ k, k ≤ n → (defsK f k).length ≤ 60 * k
  | 0, _ => Nat.zero_le _
  | k + 1, hk => by
    have ih := defsK_few h k (by omega)
    have h1 := defK_few (h k (by omega))
    rw [defsK, List.length_append]; omega
/-- The text of tables that are right has their tokens. -/
theorem lex_defs {f : Nat → PDef} {n : Nat} (h : firstF f n = -1) : lexF (defsT f n) 0 [] = (defsK f n, -1) := by
  obtain ⟨h3, hg, -⟩ := firstF_none h
  exact (lc_defs hg n (Nat.le_refl _)).lex (by have := defsK_few hg n (Nat.le_refl _); omega)
theorem defK_cons (D : PDef) : ∃ r, defK D = tN kTable :: r := by
  unfold defK
  simp only [List.cons_append, List.nil_append, List.append_assoc]
  exact ⟨_, rfl⟩
theorem defsK_off (f : Nat → PDef) : ∀ n, defsK f n = (List.range n).flatMap (fun i => defK (f i))
  | 0 => rfl
  | n + 1 => by rw [defsK, defsK_off f n, List.range_succ, List.flatMap_append]; simp
theorem defsR_hit {f : Nat → PDef} : ∀ (l : List Nat) (q : Nat), l.length ≤ q → (∀ i ∈ l, checkF (f i) = 0) → defsR q (l.flatMap (fun i => defK (f i))) = some (l.map (fun i => offD (f i)))
  | [], q, _, _ => by cases q <;> rfl
  | i :: l, 0, hq, _ => by simp at hq
  | i :: l, q + 1, hq, h => by
    have h0 := h i (List.mem_cons_self ..)
    have ih := defsR_hit l q (by simpa using hq) (fun x hx => h x (List.mem_cons_of_mem _ hx))
    have hd := defR_hit h0 (l.flatMap (fun i => defK (f i)))
    obtain ⟨r, e⟩ := defK_cons (f i)
    rw [List.flatMap_cons]
    rw [e, List.cons_append] at hd ⊢
    rw [defsR, hd]
    simp only [Option.bind_eq_bind, Option.bind_some]
    rw [ih]
    rfl
/-- What is read as tables that are right has their tokens. -/
theorem defsR_some : ∀ (q : Nat) (l : List Tok) (ds : List PDef), AllOk l → defsR q l = some ds → (∀ d ∈ ds, checkF d = 0) → l = ds.flatMap defK
  | q, [], ds, _, h, _ => by
    have : ds = [] := by cases q <;> (simp [defsR] at h; exact h)
    subst this; rfl
  | 0, t :: r, ds, _, h, _ => by simp [defsR] at h
  | q + 1, t :: r, ds, ha, h, hg => by
    rw [defsR] at h
    simp only [Option.bind_eq_bind, Option.bind_eq_some_iff, Prod.exists] at h
    obtain ⟨d, l1, hd, rs, hr, he⟩ := h
    simp only [Option.pure_def, Option.some.injEq] at he
    subst he
    have a1 := defR_some ha hd (hg d (List.mem_cons_self ..))
    have ha1 : AllOk l1 := by rw [a1] at ha; exact ha.app
    have a2 := defsR_some q l1 rs ha1 hr (fun x hx => hg x (List.mem_cons_of_mem _ hx))
    rw [a1, a2, List.flatMap_cons]
/-- A table as lists is the same table. -/
theorem same_off (D : PDef) : sameF (offD D) D = true := by
  unfold sameF
  apply decide_eq_true
  refine ⟨rfl, offC_len D, offI_len D, ?_, fun i hi => ?_, fun i hi => ?_⟩
  · unfold sameByF
    apply decide_eq_true
    refine ⟨offP_len _ _, fun i hi => ?_⟩
    have hi2 : i < D.np := by rw [show (offD D).np = (offP D.np D.pri).length from rfl, offP_len] at hi; exact hi
    have : (offD D).pri i = D.pri i := offP_at D.np D.pri hi2
    rw [this]; exact ⟨rfl, rfl⟩
  · have hi2 : i < D.nc := by rw [show (offD D).nc = (offC D).length from rfl, offC_len] at hi; exact hi
    have : (offD D).col i = D.col i := offC_at D hi2
    rw [this]; exact ⟨rfl, rfl, rfl⟩
  · have hi2 : i < D.ni := by rw [show (offD D).ni = (offI D).length from rfl, offI_len] at hi; exact hi
    have he : (offI D).getD i (⟨#[]⟩, false, []) = ((D.idx i).name, (D.idx i).uniq, offP (D.idx i).n (D.idx i).part) := by simp [offI, List.getD, hi2]
    have e2 : (offD D).idx i = ⟨(D.idx i).name, (D.idx i).uniq, (offP (D.idx i).n (D.idx i).part).length, mkBy (offP (D.idx i).n (D.idx i).part)⟩ := by
      show mkIdx (offI D) i = _
      unfold mkIdx
      rw [he]
    rw [e2]
    refine ⟨rfl, rfl, ?_⟩
    unfold sameByF
    apply decide_eq_true
    refine ⟨offP_len _ _, fun j hj => ?_⟩
    have hj2 : j < (D.idx i).n := by rw [show (PIdx.n ⟨(D.idx i).name, (D.idx i).uniq, (offP (D.idx i).n (D.idx i).part).length, mkBy (offP (D.idx i).n (D.idx i).part)⟩) = (offP (D.idx i).n (D.idx i).part).length from rfl, offP_len] at hj; exact hj
    have : mkBy (offP (D.idx i).n (D.idx i).part) j = (D.idx i).part j := offP_at _ _ hj2
    show (mkBy _ j).col = _ ∧ (mkBy _ j).desc = _
    rw [this]; exact ⟨rfl, rfl⟩
end Go.Proofs.YtnpfgamlncfikaaGreatDoor

