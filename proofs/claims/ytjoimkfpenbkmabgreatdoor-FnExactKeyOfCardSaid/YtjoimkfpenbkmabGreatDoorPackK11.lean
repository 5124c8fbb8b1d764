/-
  Together: VarMore, ValNum, ValPlain, EscPlain, PartPlain, KeyPlain, LofEq
-/
import Derived.Test.YtjoimkfpenbkmabGreatDoorPackK10
import Derived.Lib.ItoaNum
import Derived.Lib.ItoaMem
import Derived.Lib.AtoiTie
import Derived.Lib.AtoiAllCases
import Derived.Test.YtjoimkfpenbkmabGreatDoorPackK1
/-
  A number that was read of bytes is read of them with others behind, too.
-/
namespace Go.Proofs.YtjoimkfpenbkmabGreatDoor
open Go.RowKit
set_option maxRecDepth 4000

section
variable {N M : Nat} {F G : Nat → Int} {p : Int}
theorem getF_more {a q : Int} (hN : N ≤ M) (hFG : ∀ i, i < N → F i = G i) (h : getF N F p = (a, q, true)) : getF M G p = (a, q, true) := by
  unfold getF at h ⊢
  by_cases hp : p < 0 ∨ (N : Int) - p < 4
  · rw [if_pos hp] at h; simp at h
  · rw [if_neg hp] at h
    rw [if_neg (by omega), ← h]
    rw [valF_congr 4 (fun i => F (p.toNat + i)) (fun i => G (p.toNat + i)) (fun i hi => hFG _ (by omega))]
theorem getV_more {a q : Int} (hN : N ≤ M) (hFG : ∀ i, i < N → F i = G i) (h : getV N F p = (a, q, true)) : getV M G p = (a, q, true) := by
  unfold getV at h ⊢
  by_cases hp : p < 0 ∨ (N : Int) ≤ p
  · rw [if_pos hp] at h; simp at h
  · rw [if_neg hp] at h
    rw [if_neg (by omega)]
    have h0 : F p.toNat = G p.toNat := hFG _ (by omega)
    by_cases h1 : 7 < hcnt (F p.toNat) ∨ N < p.toNat + 1 + hcnt (F p.toNat)
    · rw [if_pos h1] at h; simp at h
    · rw [if_neg h1] at h
      have hd : ∀ j, j < hcnt (F p.toNat) → digF F p.toNat j = digF G p.toNat j := by
        intro j hj
        have e : F (p.toNat + 1 + j) = G (p.toNat + 1 + j) := hFG _ (by omega)
        unfold digF turnF
        dsimp only
        rw [h0, e]
      have hm : numV F p.toNat = numV G p.toNat := by
        unfold numV
        rw [valF_congr _ (digF F p.toNat) (digF G p.toNat) hd, h0]
      have hb : badV F p.toNat ↔ badV G p.toNat := by
        unfold badV
        rw [← hm, ← h0]
        constructor
        · rintro (⟨h2, h3⟩ | h2)
          · exact .inl ⟨h2, by rw [← hd 0 h2]; exact h3⟩
          · exact .inr h2
        · rintro (⟨h2, h3⟩ | h2)
          · exact .inl ⟨h2, by rw [hd 0 h2]; exact h3⟩
          · exact .inr h2
      by_cases h2 : badV F p.toNat
      · rw [if_pos h2] at h; simp at h
      · rw [if_neg h2] at h
        rw [← h0, if_neg (by omega), if_neg (fun e => h2 (hb.2 e)), ← hm]
        exact h
end
end Go.Proofs.YtjoimkfpenbkmabGreatDoor

/-
  A number's digits, plainly: what is read of them is the number, and only these digits are read as it (no needless nought, no sign ahead of nought).
-/
namespace Go.Proofs.YtjoimkfpenbkmabGreatDoor
open Go.Lib

theorem decFrom_snoc : ∀ (l : List UInt8) (acc n : Nat) (b : UInt8) (d : Nat), decFrom acc l = some n → digitVal b = some d → decFrom acc (l ++ [b]) = some (n * 10 + d)
  | [], acc, n, b, d, h, hd => by simp only [decFrom, Option.some.injEq] at h; subst h; simp [decFrom, hd]
  | c :: r, acc, n, b, d, h, hd => by
    simp only [decFrom, List.cons_append] at h ⊢
    split at h
    · exact decFrom_snoc r _ n b d h hd
    · cases h

theorem digitVal_of {d : Nat} (h : d < 10) : digitVal (UInt8.ofNat (48 + d)) = some d := by
  unfold digitVal
  have e : (UInt8.ofNat (48 + d)).toNat = 48 + d := by
    rw [UInt8.toNat_ofNat']
    omega
  rw [e, if_pos (by omega)]
  congr 1
  omega

theorem decDigits_ne (u : Nat) : decDigits u ≠ [] := by
  rw [decDigits]
  split <;> simp

theorem decFrom_digits : ∀ (u : Nat), decFrom 0 (decDigits u) = some u := by
  intro u
  induction u using Nat.strongRecOn with
  | _ u ih =>
    rw [decDigits]
    split
    · rename_i h
      simp only [decFrom, digitVal_of h, Nat.zero_mul, Nat.zero_add]
    · rename_i h
      rw [decFrom_snoc _ 0 (u / 10) _ (u % 10) (ih _ (by omega)) (digitVal_of (by omega))]
      congr 1
      omega

theorem decNat_digits (u : Nat) : decNat (decDigits u) = some u := by
  unfold decNat
  rw [if_neg (by simp [decDigits_ne]), decFrom_digits]

/-- A digit's byte. -/
def isDig (b : UInt8) : Prop := 48 ≤ b.toNat ∧ b.toNat ≤ 57

theorem digits_dig : ∀ (u : Nat), ∀ b ∈ decDigits u, isDig b := by
  intro u
  induction u using Nat.strongRecOn with
  | _ u ih =>
    intro b hb
    rw [decDigits] at hb
    split at hb
    · rename_i h
      simp only [List.mem_singleton] at hb
      subst hb
      unfold isDig
      rw [UInt8.toNat_ofNat']
      omega
    · rename_i h
      rw [List.mem_append] at hb
      rcases hb with hb | hb
      · exact ih _ (by omega) b hb
      · simp only [List.mem_singleton] at hb
        subst hb
        unfold isDig
        rw [UInt8.toNat_ofNat']
        omega

theorem digits_head (u : Nat) : ∃ c r, decDigits u = c :: r ∧ isDig c := by
  cases h : decDigits u with
  | nil => exact absurd h (decDigits_ne u)
  | cons c r => exact ⟨c, r, rfl, digits_dig u c (by rw [h]; simp)⟩

theorem digits_inj {u v : Nat} (h : decDigits u = decDigits v) : u = v := by
  have := decFrom_digits u
  rw [h, decFrom_digits v] at this
  exact (Option.some.inj this).symm

theorem itoa_pos {n : Int} (h : 0 ≤ n) : itoa n = decDigits n.toNat := by unfold itoa; rw [if_neg (by omega)]
theorem itoa_min {n : Int} (h : n < 0) : itoa n = 45 :: decDigits n.natAbs := by unfold itoa; rw [if_pos h]

theorem itoa_inj {m n : Int} (h : itoa m = itoa n) : m = n := by
  by_cases hm : m < 0
  · by_cases hn : n < 0
    · rw [itoa_min hm, itoa_min hn] at h
      have := digits_inj (List.cons.inj h).2
      omega
    · rw [itoa_min hm, itoa_pos (by omega)] at h
      obtain ⟨c, r, e, hc⟩ := digits_head n.toNat
      rw [e] at h
      have := (List.cons.inj h).1
      subst this
      exact absurd hc.1 (by decide)
  · by_cases hn : n < 0
    · rw [itoa_pos (by omega), itoa_min hn] at h
      obtain ⟨c, r, e, hc⟩ := digits_head m.toNat
      rw [e] at h
      have := (List.cons.inj h).1
      subst this
      exact absurd hc.1 (by decide)
    · rw [itoa_pos (by omega), itoa_pos (by omega)] at h
      have := digits_inj h
      omega

theorem nDigits_le : ∀ (k u : Nat), u < 10 ^ (k + 1) → nDigits u ≤ k + 1
  | 0, u, h => by rw [nDigits_small (by simpa using h)]; omega
  | k + 1, u, h => by
    by_cases h10 : u < 10
    · rw [nDigits_small h10]; omega
    · rw [nDigits_big h10]
      have := nDigits_le k (u / 10) (by rw [Nat.pow_succ] at h; omega)
      omega

theorem digits_len {u : Nat} (h : u < 10000000000000000) : (decDigits u).length ≤ 16 := by
  rw [decDigits_length]
  exact nDigits_le 15 u h

theorem atoi_itoa (n : Int) : atoi (itoa n) = some n := by
  by_cases hn : n < 0
  · rw [itoa_min hn]
    simp only [atoi, beq_self_eq_true, ↓reduceIte, decNat_digits, Option.map_some, Option.some.injEq]
    omega
  · rw [itoa_pos (by omega)]
    obtain ⟨c, r, e, hc⟩ := digits_head n.toNat
    have h1 : (c == 45) = false := by
      rw [beq_eq_false_iff_ne]; rintro rfl; exact absurd hc.1 (by decide)
    have h2 : (c == 43) = false := by
      rw [beq_eq_false_iff_ne]; rintro rfl; exact absurd hc.1 (by decide)
    have h3 : decNat (c :: r) = some n.toNat := by rw [← e]; exact decNat_digits _
    rw [e]
    simp only [atoi, h1, h2, Bool.false_eq_true, ↓reduceIte, h3, Option.map_some, Option.some.injEq]
    omega

/-- strconv.Atoi reads a number's own digits as the number. -/
theorem atoiAll_itoa {n : Int} (h0 : -10000000000000000 < n) (h1 : n < 10000000000000000) : atoiAll (itoa n) = .ok n := by
  rw [atoiAll_short _ (by
    by_cases hn : n < 0
    · rw [itoa_min hn, List.length_cons]
      have := digits_len (u := n.natAbs) (by omega)
      omega
    · rw [itoa_pos (by omega)]
      have := digits_len (u := n.toNat) (by omega)
      omega), atoi_itoa]
  rfl

/-! What the model reads. -/

/-- Digits without a needless nought. -/
theorem decFrom_lead : ∀ (l : List UInt8) (acc n : Nat), acc ≠ 0 → decFrom acc l = some n → decDigits n = decDigits acc ++ l ∧ acc ≤ n
  | [], acc, n, _, h => by simp only [decFrom, Option.some.injEq] at h; subst h; simp
  | b :: r, acc, n, h0, h => by
    simp only [decFrom] at h
    cases hd : digitVal b with
    | none => rw [hd] at h; cases h
    | some d =>
      rw [hd] at h
      have hb : isDig b ∧ d = b.toNat - 48 := by
        unfold digitVal at hd
        split at hd
        · rename_i h; exact ⟨h, (Option.some.inj hd).symm⟩
        · cases hd
      obtain ⟨hb, rfl⟩ := hb
      have hlt : b.toNat - 48 < 10 := by have := hb.2; omega
      obtain ⟨e, hle⟩ := decFrom_lead r _ n (by omega) h
      refine ⟨?_, by omega⟩
      rw [e]
      have e2 : decDigits (acc * 10 + (b.toNat - 48)) = decDigits acc ++ [b] := by
        rw [decDigits, dif_neg (by omega)]
        have e3 : (acc * 10 + (b.toNat - 48)) / 10 = acc := by omega
        have e4 : (acc * 10 + (b.toNat - 48)) % 10 = b.toNat - 48 := by omega
        have e5 : UInt8.ofNat (48 + (b.toNat - 48)) = b := by
          have := hb.1
          rw [show 48 + (b.toNat - 48) = b.toNat by omega]
          exact UInt8.ofNat_toNat
        rw [e3, e4, e5]
      rw [e2]
      simp

/-- A row of digits, of which the first is a nought only where it is the only one, is its number's own. -/
theorem decNat_own {c : UInt8} {r : List UInt8} {n : Nat} (h : decNat (c :: r) = some n) (h0 : c = 48 → r = []) : decDigits n = c :: r := by
  simp only [decNat, List.isEmpty_cons, Bool.false_eq_true, ↓reduceIte, decFrom] at h
  cases hd : digitVal c with
  | none => rw [hd] at h; cases h
  | some d =>
    rw [hd] at h
    simp only [Nat.zero_mul, Nat.zero_add] at h
    have hb : isDig c ∧ d = c.toNat - 48 := by
      unfold digitVal at hd
      split at hd
      · rename_i h; exact ⟨h, (Option.some.inj hd).symm⟩
      · cases hd
    obtain ⟨hb, rfl⟩ := hb
    have h5 : UInt8.ofNat (48 + (c.toNat - 48)) = c := by
      have := hb.1
      rw [show 48 + (c.toNat - 48) = c.toNat by omega]
      exact UInt8.ofNat_toNat
    by_cases hz : c.toNat - 48 = 0
    · have hc : c = 48 := by
        apply UInt8.toNat_inj.1
        have := hb.1
        show c.toNat = 48
        omega
      rw [h0 hc] at h ⊢
      simp only [decFrom, Option.some.injEq] at h
      subst h
      rw [decDigits, dif_pos (by have := hb.2; omega), h5]
    · obtain ⟨e, _⟩ := decFrom_lead r _ n hz h
      rw [e, decDigits, dif_pos (by have := hb.2; omega), h5]
      rfl

end Go.Proofs.YtjoimkfpenbkmabGreatDoor

/-
  Values, plainly: which are sound, their texts, and that a text has one value.
-/
namespace Go.Proofs.YtjoimkfpenbkmabGreatDoor
open Go.Lib

/-- A value within: a type for each kind. -/
inductive V where
  | null
  | int (n : Int)
  | num (n : Int)
  | text (s : ByteArray)
  | bool (b : Bool)

def noBytes : ByteArray := ⟨#[]⟩

def V.k : V → Int
  | .null => 0 | .int _ => 1 | .num _ => 2 | .text _ => 3 | .bool _ => 4
def V.n : V → Int
  | .int n => n | .num n => n | .bool b => (if b then 1 else 0) | _ => 0
def V.s : V → ByteArray
  | .text s => s | _ => noBytes
def V.rng : V → Bool
  | .int n => decide (-2147483648 ≤ n) && decide (n ≤ 2147483647)
  | .num n => decide (-1000000000000000 ≤ n) && decide (n ≤ 1000000000000000)
  | .text s => decide (s.size ≤ 30)
  | _ => true

/-- A byte that may be seen on a line, and is no quote. -/
def seenB (c : UInt8) : Bool := decide (32 ≤ c.toNat) && decide (c.toNat ≤ 126) && decide (c.toNat ≠ 39)
def plainL (l : List UInt8) : Bool := l.all seenB

def quotedL (s : ByteArray) : List UInt8 := if plainL s.data.toList then 39 :: (s.data.toList ++ [39]) else []
def V.txt : V → List UInt8
  | .null => [110, 117, 108, 108]
  | .int n => 105 :: itoa n
  | .num n => 110 :: itoa n
  | .text s => quotedL s
  | .bool b => if b then [121, 101, 115] else [110, 111]

def bytesOf (l : List UInt8) : ByteArray := ⟨l.toArray⟩

/-- The value of three fields, by the first. -/
def ofFields (k n : Int) (s : ByteArray) : Option V :=
  if k = 0 then some .null else if k = 1 then some (.int n) else if k = 2 then some (.num n) else if k = 3 then some (.text s) else if k = 4 then some (.bool (n != 0)) else none

/-- Sound: what the kind does not name is nothing, and what it names is in its range. -/
def okF (k n : Int) (s : ByteArray) : Bool :=
  match ofFields k n s with
  | none => false
  | some v => v.rng && (decide (v.k = k) && decide (v.n = n) && decide (v.s = s))

def textF (k n : Int) (s : ByteArray) : List UInt8 :=
  if okF k n s then match ofFields k n s with
    | none => []
    | some v => v.txt
  else []

theorem ofFields_v (v : V) : ofFields v.k v.n v.s = some v := by
  cases v with
  | bool b => cases b <;> simp [ofFields, V.k, V.n]
  | _ => simp [ofFields, V.k, V.n, V.s]

theorem okF_v (v : V) : okF v.k v.n v.s = v.rng := by
  unfold okF
  rw [ofFields_v]
  simp

theorem okF_iff {k n : Int} {s : ByteArray} : okF k n s = true ↔ ∃ v : V, v.rng = true ∧ v.k = k ∧ v.n = n ∧ v.s = s := by
  constructor
  · intro h
    unfold okF at h
    split at h
    · cases h
    · rename_i v _
      simp only [Bool.and_eq_true, decide_eq_true_eq] at h
      exact ⟨v, h.1, h.2.1.1, h.2.1.2, h.2.2⟩
  · rintro ⟨v, h, rfl, rfl, rfl⟩
    rw [okF_v, h]

theorem textF_v {v : V} (h : v.rng = true) : textF v.k v.n v.s = v.txt := by
  unfold textF
  rw [okF_v, h, ofFields_v]
  rfl

theorem V.ext {v u : V} (h1 : v.k = u.k) (h2 : v.n = u.n) (h3 : v.s = u.s) : v = u := by
  have := ofFields_v v
  rw [h1, h2, h3, ofFields_v] at this
  exact (Option.some.inj this).symm

/-! A text has one value. -/

theorem itoa_head (n : Int) : ∃ c r, itoa n = c :: r ∧ (c = 45 ∨ isDig c) := by
  by_cases h : n < 0
  · exact ⟨45, _, itoa_min h, .inl rfl⟩
  · obtain ⟨c, r, e, hc⟩ := digits_head n.toNat
    exact ⟨c, r, by rw [itoa_pos (by omega), e], .inr hc⟩

theorem itoa_not {n : Int} {c : UInt8} {r : List UInt8} (h : itoa n = c :: r) (h1 : c ≠ 45) (h2 : ¬ isDig c) : False := by
  obtain ⟨c', r', e, hc⟩ := itoa_head n
  rw [e] at h
  obtain ⟨rfl, -⟩ := List.cons.inj h
  rcases hc with hc | hc
  · exact h1 hc
  · exact h2 hc

theorem txt_inj {v u : V} (h : v.txt = u.txt) (hne : v.txt ≠ []) : v = u := by
  have hq : ∀ s, quotedL s ≠ [] → plainL s.data.toList = true ∧ quotedL s = 39 :: (s.data.toList ++ [39]) := by
    intro s hs
    unfold quotedL at hs ⊢
    by_cases hp : plainL s.data.toList = true
    · rw [if_pos hp]; exact ⟨hp, rfl⟩
    · rw [if_neg hp] at hs; exact absurd rfl hs
  have hdig : ¬ isDig 117 := by unfold isDig; decide
  have hdig2 : ¬ isDig 111 := by unfold isDig; decide
  cases v <;> cases u <;> simp only [V.txt] at h hne <;> first
    | rfl
    | (rename_i a b; have := itoa_inj (List.cons.inj h).2; subst this; rfl)
    | (rename_i a b; cases a <;> cases b <;> first | rfl | (exfalso; revert h; decide))
    | (exfalso; rename_i b; cases b <;> revert h <;> decide)
    | (exfalso; exact absurd (List.cons.inj h).1 (by decide))
    | (exfalso; exact itoa_not (List.cons.inj h).2.symm (by decide) hdig)
    | (exfalso; exact itoa_not (List.cons.inj h).2 (by decide) hdig)
    | (exfalso; revert h; split
       · intro h; exact absurd (List.cons.inj h).1 (by decide)
       · intro h; first | exact absurd (List.cons.inj h).1 (by decide) | exact itoa_not (List.cons.inj h).2 (by decide) hdig2 | exact itoa_not (List.cons.inj h).2.symm (by decide) hdig2)
    | (exfalso; rw [(hq _ hne).2] at h; revert h; split <;> (intro h; exact absurd (List.cons.inj h).1 (by decide)))
    | (exfalso; rw [(hq _ (by rw [← h]; exact hne)).2] at h; revert h; split <;> (intro h; exact absurd (List.cons.inj h).1 (by decide)))
    | (exfalso; rw [(hq _ hne).2] at h; exact absurd (List.cons.inj h).1 (by decide))
    | (exfalso; rw [(hq _ (by rw [← h]; exact hne)).2] at h; exact absurd (List.cons.inj h).1 (by decide))
    | skip
  rename_i s t
  have h2 := hq _ hne
  rw [h] at hne
  have h3 := hq _ hne
  rw [h2.2, h3.2] at h
  have := List.append_cancel_right (List.cons.inj h).2
  have e : s = t := by
    obtain ⟨⟨s⟩⟩ := s
    obtain ⟨⟨t⟩⟩ := t
    simp only at this
    rw [this]
  rw [e]

theorem textF_inj {k n : Int} {s : ByteArray} {k' n' : Int} {s' : ByteArray} (h : okF k n s = true) (h' : okF k' n' s' = true) (e : textF k n s = textF k' n' s') (hne : textF k n s ≠ []) : k = k' ∧ n = n' ∧ s = s' := by
  obtain ⟨v, hv, rfl, rfl, rfl⟩ := okF_iff.1 h
  obtain ⟨u, hu, rfl, rfl, rfl⟩ := okF_iff.1 h'
  rw [textF_v hv] at e hne
  rw [textF_v hu] at e
  obtain rfl := txt_inj e hne
  exact ⟨rfl, rfl, rfl⟩

/-- What is read of a text: the one value that has it; or nothing. -/
def Parsed (l : List UInt8) (k n : Int) (s : ByteArray) (b : Bool) : Prop :=
  (b = true ∧ okF k n s = true ∧ textF k n s = l ∧ l ≠ []) ∨ (b = false ∧ k = 0 ∧ n = 0 ∧ s = noBytes ∧ ∀ v : V, v.rng = true → v.txt = l → l = [])

theorem Parsed.unique {l : List UInt8} {k n k' n' : Int} {s s' : ByteArray} {b b' : Bool} (h : Parsed l k n s b) (h' : Parsed l k' n' s' b') : k = k' ∧ n = n' ∧ s = s' ∧ b = b' := by
  rcases h with ⟨rfl, h1, h2, h3⟩ | ⟨rfl, rfl, rfl, rfl, h⟩ <;> rcases h' with ⟨rfl, g1, g2, g3⟩ | ⟨rfl, rfl, rfl, rfl, g⟩
  · obtain ⟨a, b, c⟩ := textF_inj h1 g1 (h2.trans g2.symm) (by rw [h2]; exact h3)
    exact ⟨a, b, c, rfl⟩
  · exfalso
    obtain ⟨v, hv, rfl, rfl, rfl⟩ := okF_iff.1 h1
    rw [textF_v hv] at h2
    exact h3 (g v hv h2)
  · exfalso
    obtain ⟨v, hv, rfl, rfl, rfl⟩ := okF_iff.1 g1
    rw [textF_v hv] at g2
    exact g3 (h v hv g2)
  · exact ⟨rfl, rfl, rfl, rfl⟩

theorem Parsed.some {v : V} (hv : v.rng = true) (h : v.txt ≠ []) : Parsed v.txt v.k v.n v.s true :=
  .inl ⟨rfl, by rw [okF_v, hv], textF_v hv, h⟩

theorem Parsed.none {l : List UInt8} (h : ∀ v : V, v.rng = true → v.txt = l → l = []) : Parsed l 0 0 noBytes false :=
  .inr ⟨rfl, rfl, rfl, rfl, h⟩

theorem Parsed.exists (l : List UInt8) : ∃ k n s b, Parsed l k n s b := by
  by_cases h : ∃ v : V, v.rng = true ∧ v.txt = l ∧ l ≠ []
  · obtain ⟨v, hv, rfl, hne⟩ := h
    exact ⟨_, _, _, _, Parsed.some hv hne⟩
  · refine ⟨0, 0, noBytes, false, Parsed.none fun v hv e => ?_⟩
    by_cases hl : l = []
    · exact hl
    · exact absurd ⟨v, hv, e, hl⟩ h

end Go.Proofs.YtjoimkfpenbkmabGreatDoor

/-
  Texts in order, plainly: each 0 is followed by 255, and 0 and 1 end the text; what is read of bytes as such a text.
-/
namespace Go.Proofs.YtjoimkfpenbkmabGreatDoor
open Go.RowKit
set_option maxRecDepth 4000

/-- One byte, as it is put. -/
def esc1 (x : Int) : List Int := if x = 0 then [0, 255] else [x]
/-- The bytes of a text, each as it is put. -/
def escL : List Int → List Int
  | [] => []
  | x :: xs => esc1 x ++ escL xs

theorem escL_append (a b : List Int) : escL (a ++ b) = escL a ++ escL b := by
  induction a with
  | nil => rfl
  | cons x xs ih => simp [escL, ih]
theorem escL_one (x : Int) : escL [x] = esc1 x := by simp [escL]
theorem escL_len (a : List Int) : a.length ≤ (escL a).length ∧ (escL a).length ≤ 2 * a.length := by
  induction a with
  | nil => simp [escL]
  | cons x xs ih =>
    have : (esc1 x).length = 1 ∨ (esc1 x).length = 2 := by unfold esc1; split <;> simp
    simp only [escL, List.length_append, List.length_cons]
    omega
theorem escL_byte (a : List Int) (h : ∀ y ∈ a, 0 ≤ y ∧ y ≤ 255) : ∀ y ∈ escL a, 0 ≤ y ∧ y ≤ 255 := by
  induction a with
  | nil => intro y hy; cases hy
  | cons x xs ih =>
    intro y hy
    rcases List.mem_append.1 hy with hy | hy
    · have hx := h x (by simp)
      unfold esc1 at hy
      split at hy
      · simp at hy; omega
      · simp at hy; omega
    · exact ih (fun z hz => h z (by simp [hz])) y hy
/-- Where no byte is 0 a text is put as it is. -/
theorem escL_plain (a : List Int) (h : ∀ y ∈ a, y ≠ 0) : escL a = a := by
  induction a with
  | nil => rfl
  | cons x xs ih =>
    have hx := h x (by simp)
    simp only [escL, esc1, if_neg hx, ih (fun z hz => h z (by simp [hz]))]
    rfl

/-- What is put of a text behind n bytes. -/
def escT (n : Nat) (f : Nat → Int) (s : ByteArray) : List Int := lof n f ++ (escL (sl s) ++ [0, 1])
def escN (s : ByteArray) : Nat := (escL (sl s)).length + 2
theorem escT_len (n : Nat) (f : Nat → Int) (s : ByteArray) : (escT n f s).length = n + escN s := by simp [escT, escN, lof_len]
theorem escN_le (s : ByteArray) : escN s ≤ 2 * s.size + 2 := by unfold escN; have := (escL_len (sl s)).2; rw [sl_len] at this; omega
theorem escT_byte (n : Nat) (f : Nat → Int) (s : ByteArray) (hf : ∀ i, i < n → 0 ≤ f i ∧ f i ≤ 255) : ∀ y ∈ escT n f s, 0 ≤ y ∧ y ≤ 255 := by
  intro y hy
  rcases List.mem_append.1 hy with hy | hy
  · simp only [lof, List.mem_map, List.mem_range] at hy
    obtain ⟨j, hj, rfl⟩ := hy
    exact hf j hj
  · rcases List.mem_append.1 hy with hy | hy
    · exact escL_byte _ (sl_byte s) y hy
    · simp at hy; omega
theorem escT_at (n : Nat) (f : Nat → Int) (s : ByteArray) (hf : ∀ i, i < n → 0 ≤ f i ∧ f i ≤ 255) : ∀ i, i < n + escN s → 0 ≤ (escT n f s).getD i 0 ∧ (escT n f s).getD i 0 ≤ 255 := by
  intro i hi
  have hi' : i < (escT n f s).length := by rw [escT_len]; exact hi
  have := escT_byte n f s hf _ (List.getElem_mem hi')
  simpa [hi'] using this

/-- What is read of bytes as a text: its bytes, and how many were read. -/
def readE : List Int → Option (List Int × Nat)
  | [] => none
  | [_] => none
  | x :: y :: ys => if x ≠ 0 then (readE (y :: ys)).map (fun r => (x :: r.1, r.2 + 1)) else if y = 1 then some ([], 2) else if y = 255 then (readE ys).map (fun r => (0 :: r.1, r.2 + 2)) else none

theorem readE_put (t rest : List Int) : readE (escL t ++ 0 :: 1 :: rest) = some (t, (escL t).length + 2) := by
  induction t with
  | nil => simp [escL, readE]
  | cons x xs ih =>
    by_cases hx : x = 0
    · subst hx
      have e : escL (0 :: xs) ++ 0 :: 1 :: rest = 0 :: 255 :: (escL xs ++ 0 :: 1 :: rest) := by simp [escL, esc1]
      rw [e, readE, ih]
      simp [escL, esc1]
    · have e : escL (x :: xs) ++ 0 :: 1 :: rest = x :: (escL xs ++ 0 :: 1 :: rest) := by simp [escL, esc1, hx]
      have ne : escL xs ++ 0 :: 1 :: rest ≠ [] := by simp
      obtain ⟨y, ys, hy⟩ := List.exists_cons_of_ne_nil ne
      rw [e, hy, readE, if_pos hx, ← hy, ih]
      simp [escL, esc1, hx]

theorem readE_is : ∀ (l : List Int) (t : List Int) (k : Nat), readE l = some (t, k) → k ≤ l.length ∧ l.take k = escL t ++ [0, 1]
  | [], t, k, h => by simp [readE] at h
  | [x], t, k, h => by simp [readE] at h
  | x :: y :: ys, t, k, h => by
    rw [readE] at h
    by_cases hx : x = 0
    · rw [if_neg (by simp [hx])] at h
      by_cases h1 : y = 1
      · rw [if_pos h1] at h
        cases h
        subst hx h1
        exact ⟨by simp, by simp [escL]⟩
      · rw [if_neg h1] at h
        by_cases h2 : y = 255
        · rw [if_pos h2] at h
          cases hr : readE ys with
          | none => rw [hr] at h; cases h
          | some r =>
            obtain ⟨t', k'⟩ := r
            rw [hr] at h
            cases h
            have ih := readE_is ys t' k' hr
            subst hx h2
            refine ⟨by simp; omega, ?_⟩
            show (0 :: 255 :: ys).take (k' + 2) = _
            simp [escL, esc1, ih.2]
        · rw [if_neg h2] at h; cases h
    · rw [if_pos hx] at h
      cases hr : readE (y :: ys) with
      | none => rw [hr] at h; cases h
      | some r =>
        obtain ⟨t', k'⟩ := r
        rw [hr] at h
        cases h
        have ih := readE_is (y :: ys) t' k' hr
        refine ⟨by simpa using ih.1, ?_⟩
        show (x :: y :: ys).take (k' + 1) = _
        rw [List.take_succ_cons, ih.2]
        simp [escL, esc1, hx]

/-- The bytes from the place k on. -/
def fromL (n : Nat) (f : Nat → Int) (k : Nat) : List Int := lof (n - k) (fun i => f (k + i))
theorem fromL_end (n : Nat) (f : Nat → Int) (k : Nat) (h : n ≤ k) : fromL n f k = [] := by
  unfold fromL; rw [show n - k = 0 by omega]; rfl
theorem fromL_step (n : Nat) (f : Nat → Int) (k : Nat) (h : k < n) : fromL n f k = f k :: fromL n f (k + 1) := by
  unfold fromL lof
  obtain ⟨m, hm⟩ : ∃ m, n - k = m + 1 := ⟨n - k - 1, by omega⟩
  rw [hm, show n - (k + 1) = m by omega, List.range_succ_eq_map]
  simp only [List.map_cons, List.map_map, Nat.add_zero, List.cons.injEq, true_and]
  apply List.map_congr_left
  intro i _
  simp only [Function.comp]
  rw [show k + 1 + i = k + (i + 1) by omega]

/-- What is read from the place p on is what is read from k on, with acc ahead. -/
def Seen (n : Nat) (f : Nat → Int) (p k : Nat) (acc : List Int) : Prop :=
  p ≤ k ∧ readE (fromL n f p) = (readE (fromL n f k)).map (fun r => (acc ++ r.1, (k - p) + r.2))
theorem Seen.start (n : Nat) (f : Nat → Int) (p : Nat) : Seen n f p p [] := by
  refine ⟨Nat.le_refl _, ?_⟩
  cases readE (fromL n f p) <;> simp
theorem Seen.past {n : Nat} {f : Nat → Int} {p k : Nat} {acc : List Int} (h : Seen n f p k acc) (hk : n ≤ k + 1) : readE (fromL n f p) = none := by
  rw [h.2]
  by_cases h1 : n ≤ k
  · rw [fromL_end n f k h1]; rfl
  · rw [fromL_step n f k (by omega), fromL_end n f (k + 1) hk]; rfl
theorem Seen.plain {n : Nat} {f : Nat → Int} {p k : Nat} {acc : List Int} (h : Seen n f p k acc) (hk : k + 1 < n) (h0 : f k ≠ 0) : Seen n f p (k + 1) (acc ++ [f k]) := by
  have := h.1
  refine ⟨by omega, ?_⟩
  rw [h.2, fromL_step n f k (by omega), fromL_step n f (k + 1) hk, readE, if_pos h0]
  cases readE (f (k + 1) :: fromL n f (k + 1 + 1)) with
  | none => rfl
  | some r => simp; omega
/-- The last byte alone ends nothing. -/
theorem Seen.last {n : Nat} {f : Nat → Int} {p k : Nat} {acc : List Int} (h : Seen n f p k acc) (hk : k + 1 = n) (acc' : List Int) : Seen n f p (k + 1) acc' := by
  have := h.1
  refine ⟨by omega, ?_⟩
  rw [h.past (by omega), fromL_end n f (k + 1) (by omega)]; rfl
theorem Seen.ends {n : Nat} {f : Nat → Int} {p k : Nat} {acc : List Int} (h : Seen n f p k acc) (hk : k + 1 < n) (h0 : f k = 0) (h1 : f (k + 1) = 1) : readE (fromL n f p) = some (acc, k + 2 - p) := by
  have := h.1
  rw [h.2, fromL_step n f k (by omega), fromL_step n f (k + 1) hk, readE, if_neg (by simp [h0]), if_pos h1]
  simp; omega
theorem Seen.goes {n : Nat} {f : Nat → Int} {p k : Nat} {acc : List Int} (h : Seen n f p k acc) (hk : k + 1 < n) (h0 : f k = 0) (h1 : f (k + 1) = 255) : Seen n f p (k + 2) (acc ++ [0]) := by
  have := h.1
  refine ⟨by omega, ?_⟩
  rw [h.2, fromL_step n f k (by omega), fromL_step n f (k + 1) hk, readE, if_neg (by simp [h0]), if_neg (by omega), if_pos h1]
  cases readE (fromL n f (k + 1 + 1)) with
  | none => rfl
  | some r => simp; omega
theorem Seen.wrong {n : Nat} {f : Nat → Int} {p k : Nat} {acc : List Int} (h : Seen n f p k acc) (hk : k + 1 < n) (h0 : f k = 0) (h1 : f (k + 1) ≠ 1) (h2 : f (k + 1) ≠ 255) : readE (fromL n f p) = none := by
  rw [h.2, fromL_step n f k (by omega), fromL_step n f (k + 1) hk, readE, if_neg (by simp [h0]), if_neg h1, if_neg h2]
  rfl

/-- What is read as a text in order: the text, the place behind, whether it is one. -/
def getE (n : Nat) (f : Nat → Int) (p : Int) : ByteArray × Int × Bool :=
  if p < 0 then (strOfNums [], 0, false) else
  match readE (fromL n f p.toNat) with
  | none => (strOfNums [], 0, false)
  | some r => (strOfNums r.1, p + r.2, true)
theorem getE_neg (n : Nat) (f : Nat → Int) (p : Int) (h : p < 0) : getE n f p = (strOfNums [], 0, false) := by unfold getE; rw [if_pos h]
theorem getE_none {n : Nat} {f : Nat → Int} {p : Nat} (h : readE (fromL n f p) = none) : getE n f (p : Int) = (strOfNums [], 0, false) := by
  unfold getE; rw [if_neg (by omega), Int.toNat_natCast, h]
theorem getE_some {n : Nat} {f : Nat → Int} {p k : Nat} {t : List Int} (h : readE (fromL n f p) = some (t, k)) : getE n f (p : Int) = (strOfNums t, (p : Int) + k, true) := by
  unfold getE; rw [if_neg (by omega), Int.toNat_natCast, h]

end Go.Proofs.YtjoimkfpenbkmabGreatDoor

/-
  One value in a key, plainly: which parts are right, what fits, its bytes, and what is read of bytes.
-/
namespace Go.Proofs.YtjoimkfpenbkmabGreatDoor
open Go.RowKit
set_option maxRecDepth 4000

def partOk (c t : Int) : Bool := decide (0 ≤ c) && decide (c ≤ 9) && (decide (1 ≤ t) && decide (t ≤ 4))
def fitsP (t : Int) (nul : Bool) (k n : Int) (s : ByteArray) : Bool := okF k n s && ((decide (k = t) && decide (k ≠ 0)) || (decide (k = 0) && nul))

/-- The bytes of a value that is there. -/
def valL (k n : Int) (s : ByteArray) : List Int := if k = 1 then fixL n else if k = 2 then varL n else if k = 3 then escL (sl s) ++ [0, 1] else [n % 256]
/-- The bytes of a value that fits. -/
def partL (nul : Bool) (k n : Int) (s : ByteArray) : List Int := if k = 0 then [0] else if nul then 1 :: valL k n s else valL k n s
def turnL (d : Bool) (l : List Int) : List Int := if d then l.map (fun y => 255 - y) else l
/-- What is put. -/
def putPL (c t : Int) (nul d : Bool) (k n : Int) (s : ByteArray) : List Int := if partOk c t && fitsP t nul k n s then turnL d (partL nul k n s) else []

/-- A value, a place and whether there is one. -/
structure Got where
  k : Int
  n : Int
  s : ByteArray
  q : Int
  ok : Bool
def Got.no : Got := ⟨0, 0, noBytes, 0, false⟩
def Got.chk (g : Got) : Got := if g.ok && okF g.k g.n g.s then g else .no

/-- A value of a type, as it is read. -/
def rawT (n : Nat) (f : Nat → Int) (t : Int) (p : Int) : Got :=
  if t = 1 then ⟨1, (getF n f p).1, noBytes, (getF n f p).2.1, (getF n f p).2.2⟩
  else if t = 2 then ⟨2, (getV n f p).1, noBytes, (getV n f p).2.1, (getV n f p).2.2⟩
  else if t = 3 then ⟨3, 0, (getE n f p).1, (getE n f p).2.1, (getE n f p).2.2⟩
  else if 0 ≤ p ∧ p < n then ⟨t, f p.toNat, noBytes, p + 1, true⟩ else ⟨t, 0, noBytes, 0, false⟩
def getT (n : Nat) (f : Nat → Int) (t : Int) (p : Int) : Got := (rawT n f t p).chk
/-- Behind a byte of 0 or 1, where it may be nothing. -/
def getN (n : Nat) (f : Nat → Int) (nul : Bool) (t : Int) (p : Int) : Got :=
  if nul then (if p = n ∨ 1 < f p.toNat then .no else if f p.toNat = 0 then ⟨0, 0, noBytes, p + 1, true⟩ else getT n f t (p + 1)) else getT n f t p
def turned (d : Bool) (f : Nat → Int) : Nat → Int := if d then fun i => 255 - f i else f
def getP (n : Nat) (f : Nat → Int) (c t : Int) (nul d : Bool) (p : Int) : Got :=
  if partOk c t = false ∨ p < 0 ∨ (n : Int) < p then .no else getN n (turned d f) nul t p

theorem okF_few {k n : Int} {s : ByteArray} (h : okF k n s = true) : s.size ≤ 30 := by
  obtain ⟨v, hr, rfl, rfl, rfl⟩ := okF_iff.1 h
  cases v with
  | text s => simpa [V.rng, V.s] using hr
  | _ => exact Nat.zero_le _
theorem valL_byte (k n : Int) (s : ByteArray) : ∀ y ∈ valL k n s, 0 ≤ y ∧ y ≤ 255 := by
  intro y hy
  unfold valL at hy
  split at hy
  · exact fixL_byte n y hy
  · split at hy
    · exact varL_byte n y hy
    · split at hy
      · rcases List.mem_append.1 hy with hy | hy
        · exact escL_byte _ (sl_byte s) y hy
        · simp at hy; omega
      · simp at hy; omega
theorem partL_byte (nul : Bool) (k n : Int) (s : ByteArray) : ∀ y ∈ partL nul k n s, 0 ≤ y ∧ y ≤ 255 := by
  intro y hy
  unfold partL at hy
  split at hy
  · simp at hy; omega
  · split at hy
    · rcases List.mem_cons.1 hy with rfl | hy
      · omega
      · exact valL_byte k n s y hy
    · exact valL_byte k n s y hy
theorem turnL_byte (d : Bool) (l : List Int) (h : ∀ y ∈ l, 0 ≤ y ∧ y ≤ 255) : ∀ y ∈ turnL d l, 0 ≤ y ∧ y ≤ 255 := by
  intro y hy
  unfold turnL at hy
  split at hy
  · obtain ⟨z, hz, rfl⟩ := List.mem_map.1 hy
    have := h z hz
    omega
  · exact h y hy
theorem turnL_len (d : Bool) (l : List Int) : (turnL d l).length = l.length := by unfold turnL; split <;> simp
theorem putPL_byte (c t : Int) (nul d : Bool) (k n : Int) (s : ByteArray) : ∀ y ∈ putPL c t nul d k n s, 0 ≤ y ∧ y ≤ 255 := by
  intro y hy
  unfold putPL at hy
  split at hy
  · exact turnL_byte d _ (partL_byte nul k n s) y hy
  · cases hy
theorem valL_len (k n : Int) (s : ByteArray) : 1 ≤ (valL k n s).length ∧ (valL k n s).length ≤ 2 * s.size + 8 := by
  unfold valL
  split
  · rw [fixL_len]; omega
  · split
    · have := varL_len n; omega
    · split
      · have := (escL_len (sl s)).2
        rw [sl_len] at this
        rw [List.length_append]
        simp
        omega
      · simp
theorem partL_len (nul : Bool) (k n : Int) (s : ByteArray) : 1 ≤ (partL nul k n s).length ∧ (partL nul k n s).length ≤ 2 * s.size + 9 := by
  have := valL_len k n s
  unfold partL
  split
  · simp
  · split
    · rw [List.length_cons]; omega
    · omega
theorem putPL_len (c t : Int) (nul d : Bool) (k n : Int) (s : ByteArray) : (putPL c t nul d k n s).length ≤ 2 * s.size + 9 := by
  have := partL_len nul k n s
  unfold putPL
  split
  · rw [turnL_len]; omega
  · simp
end Go.Proofs.YtjoimkfpenbkmabGreatDoor

/-
  Keys, plainly: which plans are right, what fits, the bytes of values one behind the other, and what is read of bytes.
-/
namespace Go.Proofs.YtjoimkfpenbkmabGreatDoor
open Go.RowKit
set_option maxRecDepth 4000

/-- A plan is right. -/
def planOk (n : Nat) (fc ft : Nat → Int) : Bool := (List.range n).all (fun i => partOk (fc i) (ft i)) && decide (n ≤ 6)
/-- Values fit. -/
def fitsAll (n m : Nat) (ft : Nat → Int) (fu : Nat → Bool) (fk fn : Nat → Int) (fs : Nat → ByteArray) : Bool := decide (m ≤ n) && (List.range m).all (fun i => fitsP (ft i) (fu i) (fk i) (fn i) (fs i))
theorem planOk_iff {n : Nat} {fc ft : Nat → Int} : planOk n fc ft = true ↔ (∀ i, i < n → partOk (fc i) (ft i) = true) ∧ n ≤ 6 := by
  unfold planOk; simp
theorem fitsAll_iff {n m : Nat} {ft : Nat → Int} {fu : Nat → Bool} {fk fn : Nat → Int} {fs : Nat → ByteArray} : fitsAll n m ft fu fk fn fs = true ↔ m ≤ n ∧ ∀ i, i < m → fitsP (ft i) (fu i) (fk i) (fn i) (fs i) = true := by
  unfold fitsAll; simp
/-- The first k of the lists, one behind the other. -/
def keyT (g : Nat → List Int) : Nat → List Int
  | 0 => []
  | k + 1 => keyT g k ++ g k
/-- The bytes of the value at a place of a plan. -/
def onePL (fc ft : Nat → Int) (fu fd : Nat → Bool) (fk fn : Nat → Int) (fs : Nat → ByteArray) (i : Nat) : List Int := putPL (fc i) (ft i) (fu i) (fd i) (fk i) (fn i) (fs i)
/-- The bytes of a key. -/
def keyL (n : Nat) (fc ft : Nat → Int) (fu fd : Nat → Bool) (m : Nat) (fk fn : Nat → Int) (fs : Nat → ByteArray) : List Int :=
  if planOk n fc ft && fitsAll n m ft fu fk fn fs then keyT (onePL fc ft fu fd fk fn fs) m else []

theorem keyT_congr {g h : Nat → List Int} : ∀ {k : Nat}, (∀ i, i < k → g i = h i) → keyT g k = keyT h k
  | 0, _ => rfl
  | k + 1, e => by rw [keyT, keyT, keyT_congr (fun i hi => e i (by omega)), e k (by omega)]
/-- What stands behind the first k. -/
theorem keyT_split (g : Nat → List Int) (k : Nat) : ∀ j, keyT g (k + j) = keyT g k ++ keyT (fun i => g (k + i)) j
  | 0 => by simp [keyT]
  | j + 1 => by rw [← Nat.add_assoc, keyT, keyT_split g k j, keyT, List.append_assoc]
theorem keyT_byte {g : Nat → List Int} : ∀ {k : Nat}, (∀ i, i < k → ∀ y ∈ g i, 0 ≤ y ∧ y ≤ 255) → ∀ y ∈ keyT g k, 0 ≤ y ∧ y ≤ 255
  | 0, _, y, hy => by simp [keyT] at hy
  | k + 1, h, y, hy => by
    rw [keyT] at hy
    rcases List.mem_append.1 hy with hy | hy
    · exact keyT_byte (fun i hi => h i (by omega)) y hy
    · exact h k (by omega) y hy
theorem keyL_byte (n : Nat) (fc ft : Nat → Int) (fu fd : Nat → Bool) (m : Nat) (fk fn : Nat → Int) (fs : Nat → ByteArray) : ∀ y ∈ keyL n fc ft fu fd m fk fn fs, 0 ≤ y ∧ y ≤ 255 := by
  intro y hy
  unfold keyL at hy
  split at hy
  · exact keyT_byte (fun i _ => putPL_byte _ _ _ _ _ _ _) y hy
  · cases hy
theorem onePL_len {ft : Nat → Int} {fu : Nat → Bool} {fk fn : Nat → Int} {fs : Nat → ByteArray} {i : Nat} (fc : Nat → Int) (fd : Nat → Bool) (h : fitsP (ft i) (fu i) (fk i) (fn i) (fs i) = true) : (onePL fc ft fu fd fk fn fs i).length ≤ 69 := by
  unfold onePL
  have h1 := putPL_len (fc i) (ft i) (fu i) (fd i) (fk i) (fn i) (fs i)
  have h2 : (fs i).size ≤ 30 := by unfold fitsP at h; simp only [Bool.and_eq_true] at h; exact okF_few h.1
  omega
theorem keyT_len {g : Nat → List Int} : ∀ {k : Nat}, (∀ i, i < k → (g i).length ≤ 69) → (keyT g k).length ≤ k * 69
  | 0, _ => by simp [keyT]
  | k + 1, h => by
    rw [keyT, List.length_append]
    have h1 := keyT_len (fun i hi => h i (by omega)) (k := k)
    have h2 := h k (by omega)
    omega
theorem keyL_len (n : Nat) (fc ft : Nat → Int) (fu fd : Nat → Bool) (m : Nat) (fk fn : Nat → Int) (fs : Nat → ByteArray) : (keyL n fc ft fu fd m fk fn fs).length ≤ 414 := by
  unfold keyL
  split
  · rename_i h
    simp only [Bool.and_eq_true] at h
    obtain ⟨h1, h2⟩ := h
    have hp := planOk_iff.1 h1
    have hf := fitsAll_iff.1 h2
    have := keyT_len (g := onePL fc ft fu fd fk fn fs) (k := m) (fun i hi => onePL_len fc fd (hf.2 i hi))
    omega
  · simp

section
variable (N : Nat) (F : Nat → Int) (fc ft : Nat → Int) (fu fd : Nat → Bool)
/-- The place behind the first k values, as they are read. -/
def decQ : Nat → Option Int
  | 0 => some 0
  | k + 1 => (decQ k).bind (fun p => if (getP N F (fc k) (ft k) (fu k) (fd k) p).ok then some (getP N F (fc k) (ft k) (fu k) (fd k) p).q else none)
/-- The value that is read at a place of a plan. -/
def decG (k : Nat) : Got := getP N F (fc k) (ft k) (fu k) (fd k) ((decQ N F fc ft fu fd k).getD 0)
/-- Whether the bytes are a key of the plan. -/
def decOk (n : Nat) : Bool := planOk n fc ft && decide (decQ N F fc ft fu fd n = some (N : Int))
end
theorem decQ_succ {N : Nat} {F : Nat → Int} {fc ft : Nat → Int} {fu fd : Nat → Bool} {k : Nat} {q : Int} (h : decQ N F fc ft fu fd (k + 1) = some q) : ∃ p, decQ N F fc ft fu fd k = some p ∧ (getP N F (fc k) (ft k) (fu k) (fd k) p).ok = true ∧ (getP N F (fc k) (ft k) (fu k) (fd k) p).q = q := by
  rw [decQ] at h
  obtain ⟨p, h1, h2⟩ := Option.bind_eq_some_iff.1 h
  by_cases e : (getP N F (fc k) (ft k) (fu k) (fd k) p).ok = true
  · rw [if_pos e] at h2
    exact ⟨p, h1, e, Option.some.inj h2⟩
  · rw [if_neg e] at h2; cases h2
end Go.Proofs.YtjoimkfpenbkmabGreatDoor

/-
  Lists of a function's first values are alike just where it is.
-/
namespace Go.Proofs.YtjoimkfpenbkmabGreatDoor
open Go.RowKit
set_option maxRecDepth 4000

theorem lof_eq {n : Nat} {f g : Nat → Int} : lof n f = lof n g ↔ ∀ i, i < n → f i = g i := by
  constructor
  · intro h i hi
    rw [← lof_get n f i hi, ← lof_get n g i hi, h]
  · intro h
    unfold lof
    apply List.map_congr_left
    intro i hi
    exact h i (List.mem_range.1 hi)
end Go.Proofs.YtjoimkfpenbkmabGreatDoor

