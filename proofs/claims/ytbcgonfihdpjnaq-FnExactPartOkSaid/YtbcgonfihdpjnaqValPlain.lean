/-
  Values, plainly: which are sound, their texts, and that a text has one value.
-/
import Derived.Test.YtbcgonfihdpjnaqValNum
namespace Go.Proofs.Ytbcgonfihdpjnaq
open Go.Lib

/-- A value within: a type for each kind. -/
inductive V where
  | null
  | int (n : Int)
  | num (n : Int)
  | text (s : ByteArray)
  | bool (b : Bool)

def noBytes : ByteArray := ⟨#[]⟩

def V.k : V → Int
  | .null => 0 | .int _ => 1 | .num _ => 2 | .text _ => 3 | .bool _ => 4
def V.n : V → Int
  | .int n => n | .num n => n | .bool b => (if b then 1 else 0) | _ => 0
def V.s : V → ByteArray
  | .text s => s | _ => noBytes
def V.rng : V → Bool
  | .int n => decide (-2147483648 ≤ n) && decide (n ≤ 2147483647)
  | .num n => decide (-1000000000000000 ≤ n) && decide (n ≤ 1000000000000000)
  | .text s => decide (s.size ≤ 30)
  | _ => true

/-- A byte that may be seen on a line, and is no quote. -/
def seenB (c : UInt8) : Bool := decide (32 ≤ c.toNat) && decide (c.toNat ≤ 126) && decide (c.toNat ≠ 39)
def plainL (l : List UInt8) : Bool := l.all seenB

def quotedL (s : ByteArray) : List UInt8 := if plainL s.data.toList then 39 :: (s.data.toList ++ [39]) else []
def V.txt : V → List UInt8
  | .null => [110, 117, 108, 108]
  | .int n => 105 :: itoa n
  | .num n => 110 :: itoa n
  | .text s => quotedL s
  | .bool b => if b then [121, 101, 115] else [110, 111]

def bytesOf (l : List UInt8) : ByteArray := ⟨l.toArray⟩

/-- The value of three fields, by the first. -/
def ofFields (k n : Int) (s : ByteArray) : Option V :=
  if k = 0 then some .null else if k = 1 then some (.int n) else if k = 2 then some (.num n) else if k = 3 then some (.text s) else if k = 4 then some (.bool (n != 0)) else none

/-- Sound: what the kind does not name is nothing, and what it names is in its range. -/
def okF (k n : Int) (s : ByteArray) : Bool :=
  match ofFields k n s with
  | none => false
  | some v => v.rng && (decide (v.k = k) && decide (v.n = n) && decide (v.s = s))

def textF (k n : Int) (s : ByteArray) : List UInt8 :=
  if okF k n s then match ofFields k n s with
    | none => []
    | some v => v.txt
  else []

theorem ofFields_v (v : V) : ofFields v.k v.n v.s = some v := by
  cases v with
  | bool b => cases b <;> simp [ofFields, V.k, V.n]
  | _ => simp [ofFields, V.k, V.n, V.s]

theorem okF_v (v : V) : okF v.k v.n v.s = v.rng := by
  unfold okF
  rw [ofFields_v]
  simp

theorem okF_iff {k n : Int} {s : ByteArray} : okF k n s = true ↔ ∃ v : V, v.rng = true ∧ v.k = k ∧ v.n = n ∧ v.s = s := by
  constructor
  · intro h
    unfold okF at h
    split at h
    · cases h
    · rename_i v _
      simp only [Bool.and_eq_true, decide_eq_true_eq] at h
      exact ⟨v, h.1, h.2.1.1, h.2.1.2, h.2.2⟩
  · rintro ⟨v, h, rfl, rfl, rfl⟩
    rw [okF_v, h]

theorem textF_v {v : V} (h : v.rng = true) : textF v.k v.n v.s = v.txt := by
  unfold textF
  rw [okF_v, h, ofFields_v]
  rfl

theorem V.ext {v u : V} (h1 : v.k = u.k) (h2 : v.n = u.n) (h3 : v.s = u.s) : v = u := by
  have := ofFields_v v
  rw [h1, h2, h3, ofFields_v] at this
  exact (Option.some.inj this).symm

/-! A text has one value. -/

theorem itoa_head (n : Int) : ∃ c r, itoa n = c :: r ∧ (c = 45 ∨ isDig c) := by
  by_cases h : n < 0
  · exact ⟨45, _, itoa_min h, .inl rfl⟩
  · obtain ⟨c, r, e, hc⟩ := digits_head n.toNat
    exact ⟨c, r, by rw [itoa_pos (by omega), e], .inr hc⟩

theorem itoa_not {n : Int} {c : UInt8} {r : List UInt8} (h : itoa n = c :: r) (h1 : c ≠ 45) (h2 : ¬ isDig c) : False := by
  obtain ⟨c', r', e, hc⟩ := itoa_head n
  rw [e] at h
  obtain ⟨rfl, -⟩ := List.cons.inj h
  rcases hc with hc | hc
  · exact h1 hc
  · exact h2 hc

theorem txt_inj {v u : V} (h : v.txt = u.txt) (hne : v.txt ≠ []) : v = u := by
  have hq : ∀ s, quotedL s ≠ [] → plainL s.data.toList = true ∧ quotedL s = 39 :: (s.data.toList ++ [39]) := by
    intro s hs
    unfold quotedL at hs ⊢
    by_cases hp : plainL s.data.toList = true
    · rw [if_pos hp]; exact ⟨hp, rfl⟩
    · rw [if_neg hp] at hs; exact absurd rfl hs
  have hdig : ¬ isDig 117 := by unfold isDig; decide
  have hdig2 : ¬ isDig 111 := by unfold isDig; decide
  cases v <;> cases u <;> simp only [V.txt] at h hne <;> first
    | rfl
    | (rename_i a b; have := itoa_inj (List.cons.inj h).2; subst this; rfl)
    | (rename_i a b; cases a <;> cases b <;> first | rfl | (exfalso; revert h; decide))
    | (exfalso; rename_i b; cases b <;> revert h <;> decide)
    | (exfalso; exact absurd (List.cons.inj h).1 (by decide))
    | (exfalso; exact itoa_not (List.cons.inj h).2.symm (by decide) hdig)
    | (exfalso; exact itoa_not (List.cons.inj h).2 (by decide) hdig)
    | (exfalso; revert h; split
       · intro h; exact absurd (List.cons.inj h).1 (by decide)
       · intro h; first | exact absurd (List.cons.inj h).1 (by decide) | exact itoa_not (List.cons.inj h).2 (by decide) hdig2 | exact itoa_not (List.cons.inj h).2.symm (by decide) hdig2)
    | (exfalso; rw [(hq _ hne).2] at h; revert h; split <;> (intro h; exact absurd (List.cons.inj h).1 (by decide)))
    | (exfalso; rw [(hq _ (by rw [← h]; exact hne)).2] at h; revert h; split <;> (intro h; exact absurd (List.cons.inj h).1 (by decide)))
    | (exfalso; rw [(hq _ hne).2] at h; exact absurd (List.cons.inj h).1 (by decide))
    | (exfalso; rw [(hq _ (by rw [← h]; exact hne)).2] at h; exact absurd (List.cons.inj h).1 (by decide))
    | skip
  rename_i s t
  have h2 := hq _ hne
  rw [h] at hne
  have h3 := hq _ hne
  rw [h2.2, h3.2] at h
  have := List.append_cancel_right (List.cons.inj h).2
  have e : s = t := by
    obtain ⟨⟨s⟩⟩ := s
    obtain ⟨⟨t⟩⟩ := t
    simp only at this
    rw [this]
  rw [e]

theorem textF_inj {k n : Int} {s : ByteArray} {k' n' : Int} {s' : ByteArray} (h : okF k n s = true) (h' : okF k' n' s' = true) (e : textF k n s = textF k' n' s') (hne : textF k n s ≠ []) : k = k' ∧ n = n' ∧ s = s' := by
  obtain ⟨v, hv, rfl, rfl, rfl⟩ := okF_iff.1 h
  obtain ⟨u, hu, rfl, rfl, rfl⟩ := okF_iff.1 h'
  rw [textF_v hv] at e hne
  rw [textF_v hu] at e
  obtain rfl := txt_inj e hne
  exact ⟨rfl, rfl, rfl⟩

/-- What is read of a text: the one value that has it; or nothing. -/
def Parsed (l : List UInt8) (k n : Int) (s : ByteArray) (b : Bool) : Prop :=
  (b = true ∧ okF k n s = true ∧ textF k n s = l ∧ l ≠ []) ∨ (b = false ∧ k = 0 ∧ n = 0 ∧ s = noBytes ∧ ∀ v : V, v.rng = true → v.txt = l → l = [])

theorem Parsed.unique {l : List UInt8} {k n k' n' : Int} {s s' : ByteArray} {b b' : Bool} (h : Parsed l k n s b) (h' : Parsed l k' n' s' b') : k = k' ∧ n = n' ∧ s = s' ∧ b = b' := by
  rcases h with ⟨rfl, h1, h2, h3⟩ | ⟨rfl, rfl, rfl, rfl, h⟩ <;> rcases h' with ⟨rfl, g1, g2, g3⟩ | ⟨rfl, rfl, rfl, rfl, g⟩
  · obtain ⟨a, b, c⟩ := textF_inj h1 g1 (h2.trans g2.symm) (by rw [h2]; exact h3)
    exact ⟨a, b, c, rfl⟩
  · exfalso
    obtain ⟨v, hv, rfl, rfl, rfl⟩ := okF_iff.1 h1
    rw [textF_v hv] at h2
    exact h3 (g v hv h2)
  · exfalso
    obtain ⟨v, hv, rfl, rfl, rfl⟩ := okF_iff.1 g1
    rw [textF_v hv] at g2
    exact g3 (h v hv g2)
  · exact ⟨rfl, rfl, rfl, rfl⟩

theorem Parsed.some {v : V} (hv : v.rng = true) (h : v.txt ≠ []) : Parsed v.txt v.k v.n v.s true :=
  .inl ⟨rfl, by rw [okF_v, hv], textF_v hv, h⟩

theorem Parsed.none {l : List UInt8} (h : ∀ v : V, v.rng = true → v.txt = l → l = []) : Parsed l 0 0 noBytes false :=
  .inr ⟨rfl, rfl, rfl, rfl, h⟩

theorem Parsed.exists (l : List UInt8) : ∃ k n s b, Parsed l k n s b := by
  by_cases h : ∃ v : V, v.rng = true ∧ v.txt = l ∧ l ≠ []
  · obtain ⟨v, hv, rfl, hne⟩ := h
    exact ⟨_, _, _, _, Parsed.some hv hne⟩
  · refine ⟨0, 0, noBytes, false, Parsed.none fun v hv e => ?_⟩
    by_cases hl : l = []
    · exact hl
    · exact absurd ⟨v, hv, e, hl⟩ h

end Go.Proofs.Ytbcgonfihdpjnaq
