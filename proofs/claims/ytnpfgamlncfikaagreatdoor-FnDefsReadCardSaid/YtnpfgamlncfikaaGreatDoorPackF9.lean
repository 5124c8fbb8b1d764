/-
  Together: ReadI, RowUpd
-/
import Derived.Test.YtnpfgamlncfikaaGreatDoorPackF8
import Derived.Test.YtnpfgamlncfikaaGreatDoorPackF3
/-
  Tables out of tokens, plainly: the program's reading; where what is read is right, it is the model's.
-/
namespace Go.Proofs.YtnpfgamlncfikaaGreatDoor
open Go.RowKit
set_option maxRecDepth 4000

/-- The next token, name or mark. -/
def nextI : List Tok → Option (ByteArray × List Tok)
  | [] => none
  | t :: r => some (t.2, r)
/-- The type of a word. -/
def typeI (s : ByteArray) : Option Int :=
  if s = ⟨#[]⟩ then some 0 else if s = typeW 1 then some 1 else if s = typeW 2 then some 2 else if s = typeW 3 then some 3 else if s = typeW 4 then some 4 else none
/-- The place of a column. -/
def placeI (cs : List PCol) (n : ByteArray) : Option Int :=
  if colAt (fun i => cs.getD i ⟨⟨#[]⟩, 0, false⟩) cs.length n = -1 then none else some (colAt (fun i => cs.getD i ⟨⟨#[]⟩, 0, false⟩) cs.length n)
def colI (l : List Tok) : Option (PCol × List Tok) := do
  let (n, l1) ← nextI l
  let (x, l2) ← nextI l1
  let t ← typeI x
  let l4 ← mustR ⟨#[59]⟩ (isR kNull l2).2
  return (⟨n, t, (isR kNull l2).1⟩, l4)
def partI (cs : List PCol) (l : List Tok) : Option (PBy × List Tok) := do
  let (n, l1) ← nextI l
  let k ← placeI cs n
  return (⟨k, (isR kDesc l1).1⟩, (isR kDesc l1).2)
/-- What stands behind a part. -/
def tailI (cs : List PCol) : Nat → List Tok → Option (List PBy × List Tok)
  | 0, l => if (isR ⟨#[59]⟩ l).1 then some ([], (isR ⟨#[59]⟩ l).2) else none
  | q + 1, l =>
    if (isR ⟨#[59]⟩ l).1 then some ([], (isR ⟨#[59]⟩ l).2)
    else do
      let l2 ← mustR ⟨#[44]⟩ l
      let (x, l3) ← partI cs l2
      let (r, l4) ← tailI cs q l3
      return (x :: r, l4)
def partsI (cs : List PCol) : Nat → List Tok → Option (List PBy × List Tok)
  | 0, _ => none
  | q + 1, l => do
    let (x, l1) ← partI cs l
    let (r, l2) ← tailI cs q l1
    return (x :: r, l2)
def colsI : Nat → List Tok → Option (List PCol × List Tok)
  | 0, _ => none
  | q + 1, l =>
    if (isR kPrimary l).1 then some ([], (isR kPrimary l).2)
    else do
      let (c, l1) ← colI l
      let (r, l2) ← colsI q l1
      return (c :: r, l2)
/-- An index. -/
def idxI (cs : List PCol) (l : List Tok) : Option ((ByteArray × Bool × List PBy) × List Tok) := do
  let l2 ← idxW (isR kUnique l).1 (isR kUnique l).2
  let (n, l3) ← nextI l2
  let (p, l4) ← partsI cs (l3.length + 1) l3
  return ((n, (isR kUnique l).1, p), l4)
def idxsI (cs : List PCol) : Nat → List Tok → Option (List (ByteArray × Bool × List PBy) × List Tok)
  | 0, _ => none
  | q + 1, l =>
    if (isR ⟨#[125]⟩ l).1 then some ([], (isR ⟨#[125]⟩ l).2)
    else do
      let (x, l4) ← idxI cs l
      let (r, l5) ← idxsI cs q l4
      return (x :: r, l5)
def defI (l : List Tok) : Option (PDef × List Tok) := do
  let l1 ← mustR kTable l
  let (n, l2) ← nextI l1
  let l3 ← mustR ⟨#[123]⟩ l2
  let (c, l4) ← colsI (l3.length + 1) l3
  let (p, l5) ← partsI c (l4.length + 1) l4
  let (x, l6) ← idxsI c (l5.length + 1) l5
  return (mkDef n c p x, l6)
def defsI : Nat → List Tok → Option (List PDef)
  | _, [] => some []
  | 0, _ => none
  | q + 1, t :: r => do
    let (d, l1) ← defI (t :: r)
    let ds ← defsI q l1
    return (d :: ds)

theorem AllOk.isR {l : List Tok} (h : AllOk l) (s : ByteArray) : AllOk (isR s l).2 := by
  cases l with
  | nil => exact h
  | cons t r =>
    show AllOk (if t.2 = s then (true, r) else (false, t :: r)).2
    split
    · exact h.tail
    · exact h
theorem AllOk.must {l r : List Tok} {s : ByteArray} (h : AllOk l) (e : mustR s l = some r) : AllOk r := by
  have := h.isR s
  rw [mustR_some e] at this
  exact this
theorem next_name {l l1 : List Tok} {n : ByteArray} (ha : AllOk l) (h : nextI l = some (n, l1)) (hn : nameOk n = true) : nameR l = some (n, l1) ∧ AllOk l1 := by
  cases l with
  | nil => simp [nextI] at h
  | cons t r =>
    simp only [nextI, Option.some.injEq, Prod.mk.injEq] at h
    obtain ⟨rfl, rfl⟩ := h
    have := kind_name (ha t (List.mem_cons_self ..)) hn
    exact ⟨by simp [nameR, this], ha.tail⟩
theorem name_next {l l1 : List Tok} {n : ByteArray} (h : nameR l = some (n, l1)) : nextI l = some (n, l1) := by
  rw [nameR_some h]; rfl
theorem type_r {x : ByteArray} {t : Int} {l1 l2 : List Tok} (hx : nextI l1 = some (x, l2)) (h : typeI x = some t) (h1 : 1 ≤ t) : typeR l1 = (t, l2) := by
  cases l1 with
  | nil => simp [nextI] at hx
  | cons a r =>
    simp only [nextI, Option.some.injEq, Prod.mk.injEq] at hx
    obtain ⟨rfl, rfl⟩ := hx
    unfold typeI at h
    split at h
    · cases h; omega
    split at h
    · rename_i e; cases h; simp [typeR, isR, e]
    split at h
    · rename_i e; cases h; simp [typeR, isR, e, typeW]
    split at h
    · rename_i e; cases h; simp [typeR, isR, e, typeW]
    split at h
    · rename_i e; cases h; simp [typeR, isR, e, typeW]
    · cases h
theorem r_type {t : Int} {l1 l2 : List Tok} (h : typeR l1 = (t, l2)) (h1 : 1 ≤ t) : ∃ x, nextI l1 = some (x, l2) ∧ typeI x = some t := by
  unfold typeR at h
  cases e1 : isR (typeW 1) l1 with
  | mk b1 q1 =>
  cases e2 : isR (typeW 2) l1 with
  | mk b2 q2 =>
  cases e3 : isR (typeW 3) l1 with
  | mk b3 q3 =>
  cases e4 : isR (typeW 4) l1 with
  | mk b4 q4 =>
  rw [e1, e2, e3, e4] at h
  have key : ∀ {s r}, isR s l1 = (true, r) → nextI l1 = some (s, r) := fun hs => by
    obtain ⟨k, e⟩ := isR_true hs
    rw [e]; rfl
  cases b1 with
  | true => simp at h; obtain ⟨rfl, rfl⟩ := h; exact ⟨_, key e1, by simp [typeI, typeW]⟩
  | false =>
  cases b2 with
  | true => simp at h; obtain ⟨rfl, rfl⟩ := h; exact ⟨_, key e2, by simp [typeI, typeW]⟩
  | false =>
  cases b3 with
  | true => simp at h; obtain ⟨rfl, rfl⟩ := h; exact ⟨_, key e3, by simp [typeI, typeW]⟩
  | false =>
  cases b4 with
  | true => simp at h; obtain ⟨rfl, rfl⟩ := h; exact ⟨_, key e4, by simp [typeI, typeW]⟩
  | false => simp at h; omega
theorem col_ir {l r : List Tok} {c : PCol} (ha : AllOk l) (h : colI l = some (c, r)) (hn : nameOk c.name = true) (h1 : 1 ≤ c.type) : colR l = some (c, r) ∧ AllOk r := by
  unfold colI at h
  simp only [Option.bind_eq_bind, Option.bind_eq_some_iff, Prod.exists, Option.pure_def, Option.some.injEq, Prod.mk.injEq] at h
  obtain ⟨n, l1, a1, x, l2, a2, t, a3, l4, a4, rfl, rfl⟩ := h
  obtain ⟨b1, o1⟩ := next_name ha a1 hn
  have b2 := type_r a2 a3 h1
  have o2 : AllOk l2 := by
    cases l1 with
    | nil => simp [nextI] at a2
    | cons p q => simp only [nextI, Option.some.injEq, Prod.mk.injEq] at a2; rw [← a2.2]; exact o1.tail
  refine ⟨?_, (o2.isR kNull).must a4⟩
  unfold colR
  rw [b1]
  simp only [Option.bind_eq_bind, Option.bind_some]
  rw [b2]
  simp only
  rw [a4]; rfl
theorem col_ri {l r : List Tok} {c : PCol} (h : colR l = some (c, r)) (h1 : 1 ≤ c.type) : colI l = some (c, r) := by
  unfold colR at h
  simp only [Option.bind_eq_bind, Option.bind_eq_some_iff, Prod.exists] at h
  obtain ⟨n, l1, hn, l4, h4, he⟩ := h
  cases e2 : typeR l1 with
  | mk t l2 =>
  rw [e2] at h4 he
  simp only [Option.pure_def, Option.some.injEq, Prod.mk.injEq] at h4 he
  obtain ⟨rfl, rfl⟩ := he
  obtain ⟨x, b1, b2⟩ := r_type e2 h1
  unfold colI
  rw [name_next hn]
  simp only [Option.bind_eq_bind, Option.bind_some]
  rw [b1]
  simp only [Option.bind_some]
  rw [b2]
  simp only [Option.bind_some]
  rw [h4]; rfl
theorem cols_ir : ∀ (q : Nat) (l r : List Tok) (cs : List PCol), AllOk l → colsI q l = some (cs, r) → (∀ c ∈ cs, nameOk c.name = true ∧ 1 ≤ c.type) → colsR q l = some (cs, r) ∧ AllOk r
  | 0, _, _, _, _, h, _ => by simp [colsI] at h
  | q + 1, l, r, cs, ha, h, hc => by
    rw [colsI] at h
    rw [colsR]
    split at h
    · rename_i e
      rw [if_pos e]
      simp only [Option.some.injEq, Prod.mk.injEq] at h
      obtain ⟨rfl, rfl⟩ := h
      exact ⟨rfl, ha.isR _⟩
    · rename_i e
      rw [if_neg e]
      simp only [Option.bind_eq_bind, Option.bind_eq_some_iff, Prod.exists, Option.pure_def, Option.some.injEq, Prod.mk.injEq] at h ⊢
      obtain ⟨c, l1, a1, rs, l2, a2, rfl, rfl⟩ := h
      obtain ⟨g1, g2⟩ := hc c (List.mem_cons_self ..)
      obtain ⟨b1, o1⟩ := col_ir ha a1 g1 g2
      obtain ⟨b2, o2⟩ := cols_ir q l1 l2 rs o1 a2 (fun x hx => hc x (List.mem_cons_of_mem _ hx))
      exact ⟨⟨c, l1, b1, rs, l2, b2, rfl, rfl⟩, o2⟩
theorem cols_ri : ∀ (q : Nat) (l r : List Tok) (cs : List PCol), colsR q l = some (cs, r) → (∀ c ∈ cs, 1 ≤ c.type) → colsI q l = some (cs, r)
  | 0, _, _, _, h, _ => by simp [colsR] at h
  | q + 1, l, r, cs, h, hc => by
    rw [colsR] at h
    rw [colsI]
    split at h
    · rename_i e
      rw [if_pos e]; exact h
    · rename_i e
      rw [if_neg e]
      simp only [Option.bind_eq_bind, Option.bind_eq_some_iff, Prod.exists, Option.pure_def, Option.some.injEq, Prod.mk.injEq] at h ⊢
      obtain ⟨c, l1, a1, rs, l2, a2, rfl, rfl⟩ := h
      exact ⟨c, l1, col_ri a1 (hc c (List.mem_cons_self ..)), rs, l2, cols_ri q l1 l2 rs a2 (fun x hx => hc x (List.mem_cons_of_mem _ hx)), rfl, rfl⟩
/-- All columns have names that are right. -/
def Named (cs : List PCol) : Prop := ∀ c ∈ cs, nameOk c.name = true
theorem place_named {cs : List PCol} (hN : Named cs) {n : ByteArray} {k : Int} (h : placeI cs n = some k) : nameOk n = true ∧ k = colAt (fun i => cs.getD i ⟨⟨#[]⟩, 0, false⟩) cs.length n := by
  unfold placeI at h
  split at h
  · cases h
  · rename_i e
    simp only [Option.some.injEq] at h
    refine ⟨?_, h.symm⟩
    have h0 : 0 ≤ colAt (fun i => cs.getD i ⟨⟨#[]⟩, 0, false⟩) cs.length n := by
      have key : ∀ (m k : Nat) (f : Nat → PCol), colFrom f n m k = -1 ∨ 0 ≤ colFrom f n m k := by
        intro m
        induction m with
        | zero => intro k f; left; rfl
        | succ m ih =>
          intro k f
          rw [colFrom]
          split
          · right; omega
          · exact ih _ _
      rcases key cs.length 0 (fun i => cs.getD i ⟨⟨#[]⟩, 0, false⟩) with h1 | h1
      · exact absurd h1 e
      · exact h1
    obtain ⟨a1, a2⟩ := colFrom_some (f := fun i => cs.getD i ⟨⟨#[]⟩, 0, false⟩) (s := n) cs.length 0 h0
    have hlt : (colAt (fun i => cs.getD i ⟨⟨#[]⟩, 0, false⟩) cs.length n).toNat < cs.length := by
      have h2 : colAt (fun i => cs.getD i ⟨⟨#[]⟩, 0, false⟩) cs.length n < ((0 + cs.length : Nat) : Int) := a2
      omega
    have a3 : (cs.getD (colAt (fun i => cs.getD i ⟨⟨#[]⟩, 0, false⟩) cs.length n).toNat ⟨⟨#[]⟩, 0, false⟩).name = n := a1
    rw [← a3, List.getD_eq_getElem?_getD, List.getElem?_eq_getElem hlt]
    exact hN _ (List.getElem_mem hlt)
theorem parts_ir {cs : List PCol} (hN : Named cs) : ∀ (q : Nat) (l r : List Tok) (ps : List PBy), AllOk l → partsI cs q l = some (ps, r) → partsR cs q l = some (ps, r) ∧ AllOk r
  | 0, _, _, _, _, h => by simp [partsI] at h
  | q + 1, l, r, ps, ha, h => by
    rw [partsI] at h
    simp only [Option.bind_eq_bind, Option.bind_eq_some_iff, Prod.exists, Option.pure_def, Option.some.injEq, Prod.mk.injEq] at h
    obtain ⟨x, l1, a1, rs, l2, a2, rfl, rfl⟩ := h
    unfold partI at a1
    simp only [Option.bind_eq_bind, Option.bind_eq_some_iff, Prod.exists, Option.pure_def, Option.some.injEq, Prod.mk.injEq] at a1
    obtain ⟨n, l0, b1, k, b2, rfl, rfl⟩ := a1
    obtain ⟨c1, c2⟩ := place_named hN b2
    obtain ⟨d1, o1⟩ := next_name ha b1 c1
    have o2 := o1.isR kDesc
    rw [partsR]
    simp only [Option.bind_eq_bind, Option.bind_eq_some_iff, Prod.exists, Option.pure_def]
    rw [d1]
    have key : ∀ {l : List Tok}, (isR ⟨#[59]⟩ l).1 = true → (isR ⟨#[44]⟩ l).1 = false ∧ mustR ⟨#[59]⟩ l = some (isR ⟨#[59]⟩ l).2 := by
      intro l hl
      refine ⟨?_, by unfold mustR; rw [if_pos hl]⟩
      obtain ⟨k, e⟩ := isR_true (s := ⟨#[59]⟩) (l := l) (r := (isR ⟨#[59]⟩ l).2) (by rw [← hl])
      rw [e]
      simp [isR]
    cases q with
    | zero =>
      rw [tailI] at a2
      split at a2
      · rename_i e
        simp only [Option.some.injEq, Prod.mk.injEq] at a2
        obtain ⟨rfl, rfl⟩ := a2
        obtain ⟨e1, e2⟩ := key e
        refine ⟨⟨n, l0, rfl, ?_⟩, o2.isR _⟩
        rw [e1, if_neg (by simp), e2, c2]; rfl
      · cases a2
    | succ q =>
      rw [tailI] at a2
      split at a2
      · rename_i e
        simp only [Option.some.injEq, Prod.mk.injEq] at a2
        obtain ⟨rfl, rfl⟩ := a2
        obtain ⟨e1, e2⟩ := key e
        refine ⟨⟨n, l0, rfl, ?_⟩, o2.isR _⟩
        rw [e1, if_neg (by simp), e2, c2]; rfl
      · simp only [Option.bind_eq_bind, Option.bind_eq_some_iff, Prod.exists, Option.pure_def, Option.some.injEq, Prod.mk.injEq] at a2
        obtain ⟨l2', f1, y, l3, f2, r', l4, f3, rfl, rfl⟩ := a2
        have hp : partsI cs (q + 1) l2' = some (y :: r', l4) := by
          rw [partsI, f2]; simp only [Option.bind_eq_bind, Option.bind_some]; rw [f3]; rfl
        obtain ⟨g1, g2⟩ := parts_ir hN (q + 1) l2' l4 (y :: r') (o2.must f1) hp
        have e1 := mustR_some f1
        refine ⟨⟨n, l0, rfl, ?_⟩, g2⟩
        rw [e1, if_pos rfl, g1, c2]; rfl
theorem parts_ri {cs : List PCol} : ∀ (q : Nat) (l r : List Tok) (ps : List PBy), partsR cs q l = some (ps, r) → (∀ x ∈ ps, 0 ≤ x.col) → partsI cs q l = some (ps, r)
  | 0, _, _, _, h, _ => by simp [partsR] at h
  | q + 1, l, r, ps, h, hp => by
    rw [partsR] at h
    simp only [Option.bind_eq_bind, Option.bind_eq_some_iff, Prod.exists] at h
    obtain ⟨n, l1, hn, h⟩ := h
    have hpl : ∀ {k}, 0 ≤ k → k = colAt (fun i => cs.getD i ⟨⟨#[]⟩, 0, false⟩) cs.length n → placeI cs n = some k := by
      intro k h0 e
      unfold placeI
      rw [← e, if_neg (by omega)]
    rw [partsI]
    unfold partI
    rw [name_next hn]
    simp only [Option.bind_eq_bind, Option.bind_some]
    split at h
    · rename_i e
      simp only [Option.bind_eq_some_iff, Prod.exists, Option.pure_def, Option.some.injEq, Prod.mk.injEq] at h
      obtain ⟨rs, l4, hr, rfl, rfl⟩ := h
      have ih := parts_ri q _ _ _ hr (fun x hx => hp x (List.mem_cons_of_mem _ hx))
      rw [hpl (hp _ (List.mem_cons_self ..)) rfl]
      simp only [Option.bind_some, Option.pure_def]
      cases q with
      | zero => simp [partsI] at ih
      | succ q =>
        have e2 : (isR ⟨#[59]⟩ (isR kDesc l1).2).1 = false := by
          obtain ⟨k, e'⟩ := isR_true (s := ⟨#[44]⟩) (l := (isR kDesc l1).2) (r := (isR ⟨#[44]⟩ (isR kDesc l1).2).2) (by rw [← e])
          rw [e']; simp [isR]
        have e3 : mustR ⟨#[44]⟩ (isR kDesc l1).2 = some (isR ⟨#[44]⟩ (isR kDesc l1).2).2 := by unfold mustR; rw [if_pos e]
        rw [partsI] at ih
        simp only [Option.bind_eq_bind, Option.bind_eq_some_iff, Prod.exists, Option.pure_def, Option.some.injEq, Prod.mk.injEq] at ih
        obtain ⟨y, l5, i1, r5, l6, i2, rfl, rfl⟩ := ih
        rw [tailI, e2, if_neg (by simp), e3]
        simp only [Option.bind_eq_bind, Option.bind_some]
        rw [i1]
        simp only [Option.bind_some]
        rw [i2]; rfl
    · simp only [Option.bind_eq_some_iff, Option.pure_def, Option.some.injEq, Prod.mk.injEq] at h
      obtain ⟨l4, h4, rfl, rfl⟩ := h
      rw [hpl (hp _ (List.mem_cons_self ..)) rfl]
      simp only [Option.bind_some, Option.pure_def]
      have e2 := mustR_some h4
      cases q with
      | zero => rw [tailI, e2, if_pos rfl]; rfl
      | succ q => rw [tailI, e2, if_pos rfl]; rfl
theorem idxs_ir {cs : List PCol} (hN : Named cs) : ∀ (q : Nat) (l r : List Tok) (xs : List (ByteArray × Bool × List PBy)), AllOk l → idxsI cs q l = some (xs, r) → (∀ x ∈ xs, nameOk x.1 = true) → idxsR cs q l = some (xs, r) ∧ AllOk r
  | 0, _, _, _, _, h, _ => by simp [idxsI] at h
  | q + 1, l, r, xs, ha, h, hc => by
    rw [idxsI] at h
    rw [idxsR]
    split at h
    · rename_i e
      rw [if_pos e]
      simp only [Option.some.injEq, Prod.mk.injEq] at h
      obtain ⟨rfl, rfl⟩ := h
      exact ⟨rfl, ha.isR _⟩
    · rename_i e
      rw [if_neg e]
      unfold idxI at h
      simp only [Option.bind_eq_bind, Option.bind_eq_some_iff, Prod.exists, Option.pure_def, Option.some.injEq, Prod.mk.injEq] at h ⊢
      obtain ⟨a, b, c, l4, ⟨l2, a1, n, l3, a2, p, l4', a3, ⟨rfl, rfl, rfl⟩, rfl⟩, rs, l5, a4, rfl, rfl⟩ := h
      have o1 : AllOk l2 := by
        unfold idxW at a1
        split at a1
        · simp only [Option.some.injEq] at a1
          rw [← a1]; exact ha.isR _
        · exact (ha.isR _).must a1
      obtain ⟨b1, o2⟩ := next_name o1 a2 (hc _ (List.mem_cons_self ..))
      obtain ⟨b2, o3⟩ := parts_ir hN _ _ _ _ o2 a3
      obtain ⟨b3, o4⟩ := idxs_ir hN q _ _ rs o3 a4 (fun x hx => hc x (List.mem_cons_of_mem _ hx))
      exact ⟨⟨l2, a1, n, l3, b1, p, l4', b2, rs, l5, b3, rfl, rfl⟩, o4⟩
theorem idxs_ri {cs : List PCol} : ∀ (q : Nat) (l r : List Tok) (xs : List (ByteArray × Bool × List PBy)), idxsR cs q l = some (xs, r) → (∀ x ∈ xs, ∀ y ∈ x.2.2, 0 ≤ y.col) → idxsI cs q l = some (xs, r)
  | 0, _, _, _, h, _ => by simp [idxsR] at h
  | q + 1, l, r, xs, h, hp => by
    rw [idxsR] at h
    rw [idxsI]
    split at h
    · rename_i e
      rw [if_pos e]; exact h
    · rename_i e
      rw [if_neg e]
      unfold idxI
      simp only [Option.bind_eq_bind, Option.bind_eq_some_iff, Prod.exists, Option.pure_def, Option.some.injEq, Prod.mk.injEq] at h ⊢
      obtain ⟨l2, a1, n, l3, a2, p, l4, a3, rs, l5, a4, rfl, rfl⟩ := h
      exact ⟨_, _, _, l4, ⟨l2, a1, n, l3, name_next a2, p, l4, parts_ri _ _ _ _ a3 (hp _ (List.mem_cons_self ..)), ⟨rfl, rfl, rfl⟩, rfl⟩, rs, l5, idxs_ri q l4 l5 rs a4 (fun x hx => hp x (List.mem_cons_of_mem _ hx)), rfl, rfl⟩
/-- What is right of a table out of lists. -/
theorem mk_good {n : ByteArray} {c : List PCol} {p : List PBy} {x : List (ByteArray × Bool × List PBy)} (h : checkF (mkDef n c p x) = 0) :
    nameOk n = true ∧ (∀ y ∈ c, nameOk y.name = true ∧ 1 ≤ y.type) ∧ (∀ y ∈ p, 0 ≤ y.col) ∧ (∀ y ∈ x, nameOk y.1 = true) ∧ ∀ y ∈ x, ∀ z ∈ y.2.2, 0 ≤ z.col := by
  obtain ⟨g1, g2, -, -, g5, -⟩ := checkF_good h
  unfold namesF at g1
  unfold typesF at g2
  unfold allPartsF at g5
  obtain ⟨hw, hi, hn⟩ := of_decide_eq_true g1
  obtain ⟨ht, -, -⟩ := of_decide_eq_true g2
  obtain ⟨hpi, hpp⟩ := of_decide_eq_true g5
  refine ⟨word_name hn, fun y hy => ?_, fun y hy => ?_, fun y hy => ?_, fun y hy z hz => ?_⟩
  · obtain ⟨i, hi, rfl⟩ := List.getElem_of_mem hy
    have a := hw i hi
    have b := (ht i hi).1
    have e : (mkDef n c p x).col i = c[i] := by simp [mkDef, mkCol, List.getD, hi]
    rw [e] at a b
    exact ⟨word_name a, b⟩
  · obtain ⟨i, hi, rfl⟩ := List.getElem_of_mem hy
    have := (partsF_in hpp (i := i) hi).1
    simpa [mkDef, mkBy, List.getD, hi] using this
  · obtain ⟨i, hi', rfl⟩ := List.getElem_of_mem hy
    have a := hi i hi'
    have e : ((mkDef n c p x).idx i).name = x[i].1 := by simp [mkDef, mkIdx, List.getD, hi']
    rw [e] at a
    exact word_name a
  · obtain ⟨i, hi', rfl⟩ := List.getElem_of_mem hy
    have hq := hpi i hi'
    obtain ⟨j, hj, rfl⟩ := List.getElem_of_mem hz
    have := (partsF_in hq (i := j) (by simpa [mkDef, mkIdx, List.getD, hi'] using hj)).1
    simpa [mkDef, mkIdx, mkBy, List.getD, hi', hj] using this
theorem def_ir {l r : List Tok} {D : PDef} (ha : AllOk l) (h : defI l = some (D, r)) (hg : checkF D = 0) : defR l = some (D, r) ∧ AllOk r := by
  unfold defI at h
  unfold defR
  simp only [Option.bind_eq_bind, Option.bind_eq_some_iff, Prod.exists, Option.pure_def, Option.some.injEq, Prod.mk.injEq] at h ⊢
  obtain ⟨l1, h1, n, l2, h2, l3, h3, c, l4, h4, p, l5, h5, x, l6, h6, rfl, rfl⟩ := h
  obtain ⟨g1, g2, -, g4, -⟩ := mk_good hg
  obtain ⟨b2, o2⟩ := next_name (ha.must h1) h2 g1
  obtain ⟨b4, o4⟩ := cols_ir _ _ _ _ (o2.must h3) h4 g2
  have hN : Named c := fun y hy => (g2 y hy).1
  obtain ⟨b5, o5⟩ := parts_ir hN _ _ _ _ o4 h5
  obtain ⟨b6, o6⟩ := idxs_ir hN _ _ _ _ o5 h6 g4
  exact ⟨⟨l1, h1, n, l2, b2, l3, h3, c, l4, b4, p, l5, b5, x, l6, b6, rfl, rfl⟩, o6⟩
theorem def_ri {l r : List Tok} {D : PDef} (h : defR l = some (D, r)) (hg : checkF D = 0) : defI l = some (D, r) := by
  unfold defR at h
  unfold defI
  simp only [Option.bind_eq_bind, Option.bind_eq_some_iff, Prod.exists, Option.pure_def, Option.some.injEq, Prod.mk.injEq] at h ⊢
  obtain ⟨l1, h1, n, l2, h2, l3, h3, c, l4, h4, p, l5, h5, x, l6, h6, rfl, rfl⟩ := h
  obtain ⟨-, g2, g3, -, g5⟩ := mk_good hg
  exact ⟨l1, h1, n, l2, name_next h2, l3, h3, c, l4, cols_ri _ _ _ _ h4 (fun y hy => (g2 y hy).2), p, l5, parts_ri _ _ _ _ h5 g3, x, l6, idxs_ri _ _ _ _ h6 g5, rfl, rfl⟩
theorem defs_ir : ∀ (q : Nat) (l : List Tok) (ds : List PDef), AllOk l → defsI q l = some ds → (∀ d ∈ ds, checkF d = 0) → defsR q l = some ds
  | q, [], ds, _, h, _ => by cases q <;> (rw [defsI] at h; rw [defsR]; exact h)
  | 0, t :: r, ds, _, h, _ => by simp [defsI] at h
  | q + 1, t :: r, ds, ha, h, hg => by
    rw [defsI] at h
    rw [defsR]
    simp only [Option.bind_eq_bind, Option.bind_eq_some_iff, Prod.exists, Option.pure_def, Option.some.injEq] at h ⊢
    obtain ⟨d, l1, hd, rs, hr, rfl⟩ := h
    obtain ⟨b1, o1⟩ := def_ir ha hd (hg d (List.mem_cons_self ..))
    exact ⟨d, l1, b1, rs, defs_ir q l1 rs o1 hr (fun x hx => hg x (List.mem_cons_of_mem _ hx)), rfl⟩
theorem defs_ri : ∀ (q : Nat) (l : List Tok) (ds : List PDef), defsR q l = some ds → (∀ d ∈ ds, checkF d = 0) → defsI q l = some ds
  | q, [], ds, h, _ => by cases q <;> (rw [defsR] at h; rw [defsI]; exact h)
  | 0, t :: r, ds, h, _ => by simp [defsR] at h
  | q + 1, t :: r, ds, h, hg => by
    rw [defsR] at h
    rw [defsI]
    simp only [Option.bind_eq_bind, Option.bind_eq_some_iff, Prod.exists, Option.pure_def, Option.some.injEq] at h ⊢
    obtain ⟨d, l1, hd, rs, hr, rfl⟩ := h
    exact ⟨d, l1, def_ri hd (hg d (List.mem_cons_self ..)), rs, defs_ri q l1 rs hr (fun x hx => hg x (List.mem_cons_of_mem _ hx)), rfl⟩
/-- A list by a function of the index. -/
def atD (l : List PDef) (i : Nat) : PDef := l.getD i ⟨⟨#[]⟩, 0, fun _ => ⟨⟨#[]⟩, 0, false⟩, 0, fun _ => ⟨0, false⟩, 0, fun _ => ⟨⟨#[]⟩, false, 0, fun _ => ⟨0, false⟩⟩⟩
/-- The tables of a list of tokens, where they are right. -/
def goodF (o : Option (List PDef)) : Option (List PDef) := o.bind (fun ds => if firstF (atD ds) ds.length = -1 then some ds else none)
def tabsF (l : List Tok) : Option (List PDef) := goodF (defsR (l.length + 1) l)
theorem good_all {ds : List PDef} (h : firstF (atD ds) ds.length = -1) : ∀ d ∈ ds, checkF d = 0 := by
  intro d hd
  obtain ⟨i, hi, rfl⟩ := List.getElem_of_mem hd
  have := (firstF_none h).2.1 i hi
  simpa [atD, List.getD, hi] using this
/-- The program's reading and the model's come to the same. -/
theorem tabs_same {l : List Tok} (ha : AllOk l) (q : Nat) : goodF (defsI q l) = goodF (defsR q l) := by
  have key : ∀ ds, goodF (defsI q l) = some ds ↔ goodF (defsR q l) = some ds := by
    intro ds
    unfold goodF
    simp only [Option.bind_eq_some_iff]
    constructor
    · rintro ⟨d', h1, h2⟩
      split at h2
      · rename_i e
        simp only [Option.some.injEq] at h2
        subst h2
        exact ⟨d', defs_ir _ _ _ ha h1 (good_all e), by rw [if_pos e]⟩
      · cases h2
    · rintro ⟨d', h1, h2⟩
      split at h2
      · rename_i e
        simp only [Option.some.injEq] at h2
        subst h2
        exact ⟨d', defs_ri _ _ _ h1 (good_all e), by rw [if_pos e]⟩
      · cases h2
  cases e : goodF (defsI q l) with
  | some ds => exact ((key ds).1 e).symm
  | none =>
    cases e2 : goodF (defsR q l) with
    | none => rfl
    | some ds => rw [(key ds).2 e2] at e; cases e
end Go.Proofs.YtnpfgamlncfikaaGreatDoor

/-
  A function of the index, with one value more.
-/
namespace Go.Proofs.YtnpfgamlncfikaaGreatDoor
open Go.RowKit
set_option maxRecDepth 4000

def upd {α : Type} (f : Nat → α) (k : Nat) (x : α) : Nat → α := fun i => if i = k then x else f i
theorem upd_old {α : Type} {f : Nat → α} {k i : Nat} {x : α} (h : i < k) : upd f k x i = f i := if_neg (by omega)
theorem upd_new {α : Type} {f : Nat → α} {k : Nat} {x : α} : upd f k x k = x := if_pos rfl
theorem rowG_updB (f : Nat → PBy) (k : Nat) (x : PBy) : rowG (encB (upd f k x)) (k + 1) = rowG (encB f) k ++ [.int .i64 x.col, .bool x.desc] := by
  rw [rowG, rowG_congr (enc' := encB f) (fun i hi => by simp [encB, upd_old hi])]
  simp [encB, upd_new]
theorem cells_by9 (W : World) (c : Int) (d : Bool) : ∀ j u, [Value.int .i64 c, .bool d][j]? = some u → (W.alloc (.cells #[.int .i64 c, .bool d] 70)).cell? ((⟨W.heap.size, 0, none⟩ : Addr).add j) = some u := by
  intro j u h
  have ea : ∀ j, (⟨W.heap.size, 0, none⟩ : Addr).add j = ⟨W.heap.size, 0 + j, none⟩ := fun j => by unfold Addr.add; split <;> simp_all
  match j, h with
  | 0, h => cases h; rw [ea]; simp
  | 1, h => cases h; rw [ea]; simp [go_sem]
  | j + 2, h => simp at h
theorem one_by9 (c : Int) (d : Bool) : ∀ u ∈ [Value.int .i64 c, .bool d], u.oneCell' = true := by
  intro u hu
  simp at hu
  rcases hu with rfl | rfl <;> rfl
end Go.Proofs.YtnpfgamlncfikaaGreatDoor

