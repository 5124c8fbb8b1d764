/-
  A number's digits, plainly: what is read of them is the number, and only these digits are read as it (no needless nought, no sign ahead of nought).
-/
import Derived.Lib.ItoaNum
import Derived.Lib.ItoaMem
import Derived.Lib.AtoiTie
import Derived.Lib.AtoiAllCases
namespace Go.Proofs.Ytbcgonfihdpjnaq
open Go.Lib

theorem decFrom_snoc : ∀ (l : List UInt8) (acc n : Nat) (b : UInt8) (d : Nat), decFrom acc l = some n → digitVal b = some d → decFrom acc (l ++ [b]) = some (n * 10 + d)
  | [], acc, n, b, d, h, hd => by simp only [decFrom, Option.some.injEq] at h; subst h; simp [decFrom, hd]
  | c :: r, acc, n, b, d, h, hd => by
    simp only [decFrom, List.cons_append] at h ⊢
    split at h
    · exact decFrom_snoc r _ n b d h hd
    · cases h

theorem digitVal_of {d : Nat} (h : d < 10) : digitVal (UInt8.ofNat (48 + d)) = some d := by
  unfold digitVal
  have e : (UInt8.ofNat (48 + d)).toNat = 48 + d := by
    rw [UInt8.toNat_ofNat']
    omega
  rw [e, if_pos (by omega)]
  congr 1
  omega

theorem decDigits_ne (u : Nat) : decDigits u ≠ [] := by
  rw [decDigits]
  split <;> simp

theorem decFrom_digits : ∀ (u : Nat), decFrom 0 (decDigits u) = some u := by
  intro u
  induction u using Nat.strongRecOn with
  | _ u ih =>
    rw [decDigits]
    split
    · rename_i h
      simp only [decFrom, digitVal_of h, Nat.zero_mul, Nat.zero_add]
    · rename_i h
      rw [decFrom_snoc _ 0 (u / 10) _ (u % 10) (ih _ (by omega)) (digitVal_of (by omega))]
      congr 1
      omega

theorem decNat_digits (u : Nat) : decNat (decDigits u) = some u := by
  unfold decNat
  rw [if_neg (by simp [decDigits_ne]), decFrom_digits]

/-- A digit's byte. -/
def isDig (b : UInt8) : Prop := 48 ≤ b.toNat ∧ b.toNat ≤ 57

theorem digits_dig : ∀ (u : Nat), ∀ b ∈ decDigits u, isDig b := by
  intro u
  induction u using Nat.strongRecOn with
  | _ u ih =>
    intro b hb
    rw [decDigits] at hb
    split at hb
    · rename_i h
      simp only [List.mem_singleton] at hb
      subst hb
      unfold isDig
      rw [UInt8.toNat_ofNat']
      omega
    · rename_i h
      rw [List.mem_append] at hb
      rcases hb with hb | hb
      · exact ih _ (by omega) b hb
      · simp only [List.mem_singleton] at hb
        subst hb
        unfold isDig
        rw [UInt8.toNat_ofNat']
        omega

theorem digits_head (u : Nat) : ∃ c r, decDigits u = c :: r ∧ isDig c := by
  cases h : decDigits u with
  | nil => exact absurd h (decDigits_ne u)
  | cons c r => exact ⟨c, r, rfl, digits_dig u c (by rw [h]; simp)⟩

theorem digits_inj {u v : Nat} (h : decDigits u = decDigits v) : u = v := by
  have := decFrom_digits u
  rw [h, decFrom_digits v] at this
  exact (Option.some.inj this).symm

theorem itoa_pos {n : Int} (h : 0 ≤ n) : itoa n = decDigits n.toNat := by unfold itoa; rw [if_neg (by omega)]
theorem itoa_min {n : Int} (h : n < 0) : itoa n = 45 :: decDigits n.natAbs := by unfold itoa; rw [if_pos h]

theorem itoa_inj {m n : Int} (h : itoa m = itoa n) : m = n := by
  by_cases hm : m < 0
  · by_cases hn : n < 0
    · rw [itoa_min hm, itoa_min hn] at h
      have := digits_inj (List.cons.inj h).2
      omega
    · rw [itoa_min hm, itoa_pos (by omega)] at h
      obtain ⟨c, r, e, hc⟩ := digits_head n.toNat
      rw [e] at h
      have := (List.cons.inj h).1
      subst this
      exact absurd hc.1 (by decide)
  · by_cases hn : n < 0
    · rw [itoa_pos (by omega), itoa_min hn] at h
      obtain ⟨c, r, e, hc⟩ := digits_head m.toNat
      rw [e] at h
      have := (List.cons.inj h).1
      subst this
      exact absurd hc.1 (by decide)
    · rw [itoa_pos (by omega), itoa_pos (by omega)] at h
      have := digits_inj h
      omega

theorem nDigits_le : ∀ (k u : Nat), u < 10 ^ (k + 1) → nDigits u ≤ k + 1
  | 0, u, h => by rw [nDigits_small (by simpa using h)]; omega
  | k + 1, u, h => by
    by_cases h10 : u < 10
    · rw [nDigits_small h10]; omega
    · rw [nDigits_big h10]
      have := nDigits_le k (u / 10) (by rw [Nat.pow_succ] at h; omega)
      omega

theorem digits_len {u : Nat} (h : u < 10000000000000000) : (decDigits u).length ≤ 16 := by
  rw [decDigits_length]
  exact nDigits_le 15 u h

theorem atoi_itoa (n : Int) : atoi (itoa n) = some n := by
  by_cases hn : n < 0
  · rw [itoa_min hn]
    simp only [atoi, beq_self_eq_true, ↓reduceIte, decNat_digits, Option.map_some, Option.some.injEq]
    omega
  · rw [itoa_pos (by omega)]
    obtain ⟨c, r, e, hc⟩ := digits_head n.toNat
    have h1 : (c == 45) = false := by
      rw [beq_eq_false_iff_ne]; rintro rfl; exact absurd hc.1 (by decide)
    have h2 : (c == 43) = false := by
      rw [beq_eq_false_iff_ne]; rintro rfl; exact absurd hc.1 (by decide)
    have h3 : decNat (c :: r) = some n.toNat := by rw [← e]; exact decNat_digits _
    rw [e]
    simp only [atoi, h1, h2, Bool.false_eq_true, ↓reduceIte, h3, Option.map_some, Option.some.injEq]
    omega

/-- strconv.Atoi reads a number's own digits as the number. -/
theorem atoiAll_itoa {n : Int} (h0 : -10000000000000000 < n) (h1 : n < 10000000000000000) : atoiAll (itoa n) = .ok n := by
  rw [atoiAll_short _ (by
    by_cases hn : n < 0
    · rw [itoa_min hn, List.length_cons]
      have := digits_len (u := n.natAbs) (by omega)
      omega
    · rw [itoa_pos (by omega)]
      have := digits_len (u := n.toNat) (by omega)
      omega), atoi_itoa]
  rfl

/-! What the model reads. -/

/-- Digits without a needless nought. -/
theorem decFrom_lead : ∀ (l : List UInt8) (acc n : Nat), acc ≠ 0 → decFrom acc l = some n → decDigits n = decDigits acc ++ l ∧ acc ≤ n
  | [], acc, n, _, h => by simp only [decFrom, Option.some.injEq] at h; subst h; simp
  | b :: r, acc, n, h0, h => by
    simp only [decFrom] at h
    cases hd : digitVal b with
    | none => rw [hd] at h; cases h
    | some d =>
      rw [hd] at h
      have hb : isDig b ∧ d = b.toNat - 48 := by
        unfold digitVal at hd
        split at hd
        · rename_i h; exact ⟨h, (Option.some.inj hd).symm⟩
        · cases hd
      obtain ⟨hb, rfl⟩ := hb
      have hlt : b.toNat - 48 < 10 := by have := hb.2; omega
      obtain ⟨e, hle⟩ := decFrom_lead r _ n (by omega) h
      refine ⟨?_, by omega⟩
      rw [e]
      have e2 : decDigits (acc * 10 + (b.toNat - 48)) = decDigits acc ++ [b] := by
        rw [decDigits, dif_neg (by omega)]
        have e3 : (acc * 10 + (b.toNat - 48)) / 10 = acc := by omega
        have e4 : (acc * 10 + (b.toNat - 48)) % 10 = b.toNat - 48 := by omega
        have e5 : UInt8.ofNat (48 + (b.toNat - 48)) = b := by
          have := hb.1
          rw [show 48 + (b.toNat - 48) = b.toNat by omega]
          exact UInt8.ofNat_toNat
        rw [e3, e4, e5]
      rw [e2]
      simp

/-- A row of digits, of which the first is a nought only where it is the only one, is its number's own. -/
theorem decNat_own {c : UInt8} {r : List UInt8} {n : Nat} (h : decNat (c :: r) = some n) (h0 : c = 48 → r = []) : decDigits n = c :: r := by
  simp only [decNat, List.isEmpty_cons, Bool.false_eq_true, ↓reduceIte, decFrom] at h
  cases hd : digitVal c with
  | none => rw [hd] at h; cases h
  | some d =>
    rw [hd] at h
    simp only [Nat.zero_mul, Nat.zero_add] at h
    have hb : isDig c ∧ d = c.toNat - 48 := by
      unfold digitVal at hd
      split at hd
      · rename_i h; exact ⟨h, (Option.some.inj hd).symm⟩
      · cases hd
    obtain ⟨hb, rfl⟩ := hb
    have h5 : UInt8.ofNat (48 + (c.toNat - 48)) = c := by
      have := hb.1
      rw [show 48 + (c.toNat - 48) = c.toNat by omega]
      exact UInt8.ofNat_toNat
    by_cases hz : c.toNat - 48 = 0
    · have hc : c = 48 := by
        apply UInt8.toNat_inj.1
        have := hb.1
        show c.toNat = 48
        omega
      rw [h0 hc] at h ⊢
      simp only [decFrom, Option.some.injEq] at h
      subst h
      rw [decDigits, dif_pos (by have := hb.2; omega), h5]
    · obtain ⟨e, _⟩ := decFrom_lead r _ n hz h
      rw [e, decDigits, dif_pos (by have := hb.2; omega), h5]
      rfl

end Go.Proofs.Ytbcgonfihdpjnaq
