/-
  What is read of bytes as a number of the kept ones, plainly.
-/
import Derived.Test.YtbcgonfihdpjnaqNumPlain
namespace Go.Proofs.Ytbcgonfihdpjnaq
open Go.RowKit
set_option maxRecDepth 4000

/-- The byte as it is, or turned. -/
def turnF (t : Bool) (f : Nat → Int) (i : Nat) : Int := if t then 255 - f i else f i
theorem turnF_bd (t : Bool) {k : Nat} {f : Nat → Int} (h : ∀ i, i < k → 0 ≤ f i ∧ f i ≤ 255) : ∀ i, i < k → 0 ≤ turnF t f i ∧ turnF t f i ≤ 255 := by
  intro i hi
  have := h i hi
  unfold turnF
  split <;> omega

/-- How many bytes a head says. -/
def hcnt (h : Int) : Nat := (if h < 128 then 127 - h else h - 128).toNat
/-- The digits behind the head at i. -/
def digF (f : Nat → Int) (i : Nat) : Nat → Int := turnF (decide (f i < 128)) (fun j => f (i + 1 + j))
/-- The number that head and digits say. -/
def numV (f : Nat → Int) (i : Nat) : Int := if f i < 128 then -1 - valF (hcnt (f i)) (digF f i) else valF (hcnt (f i)) (digF f i)
/-- What is there whole, and is not to be read. -/
def badV (f : Nat → Int) (i : Nat) : Prop := (0 < hcnt (f i) ∧ digF f i 0 = 0) ∨ numV f i < -1000000000000000 ∨ 1000000000000000 < numV f i
instance (f : Nat → Int) (i : Nat) : Decidable (badV f i) := by unfold badV; infer_instance

def getV (n : Nat) (f : Nat → Int) (p : Int) : Int × Int × Bool :=
  if p < 0 ∨ (n : Int) ≤ p then (0, 0, false)
  else if 7 < hcnt (f p.toNat) ∨ n < p.toNat + 1 + hcnt (f p.toNat) then (0, 0, false)
  else if badV f p.toNat then (0, 0, false)
  else (numV f p.toNat, p + 1 + (hcnt (f p.toNat) : Int), true)
theorem getV_out (n : Nat) (f : Nat → Int) (p : Int) (h : p < 0 ∨ (n : Int) ≤ p) : getV n f p = (0, 0, false) := by unfold getV; rw [if_pos h]
theorem getV_few (n : Nat) (f : Nat → Int) (i : Nat) (h : i < n) (h1 : 7 < hcnt (f i) ∨ n < i + 1 + hcnt (f i)) : getV n f (i : Int) = (0, 0, false) := by
  unfold getV; rw [if_neg (by omega), Int.toNat_natCast, if_pos h1]
theorem getV_bad (n : Nat) (f : Nat → Int) (i : Nat) (h : i < n) (h1 : ¬ (7 < hcnt (f i) ∨ n < i + 1 + hcnt (f i))) (h2 : badV f i) : getV n f (i : Int) = (0, 0, false) := by
  unfold getV; rw [if_neg (by omega), Int.toNat_natCast, if_neg h1, if_pos h2]
theorem getV_is (n : Nat) (f : Nat → Int) (i : Nat) (h : i < n) (h1 : ¬ (7 < hcnt (f i) ∨ n < i + 1 + hcnt (f i))) (h2 : ¬ badV f i) : getV n f (i : Int) = (numV f i, (i : Int) + 1 + (hcnt (f i) : Int), true) := by
  unfold getV; rw [if_neg (by omega), Int.toNat_natCast, if_neg h1, if_neg h2]

theorem valF7 (k : Nat) (f : Nat → Int) (hk : k ≤ 7) (h : ∀ i, i < k → 0 ≤ f i ∧ f i ≤ 255) : 0 ≤ valF k f ∧ valF k f < 72057594037927936 := by
  have h1 := valF_bd k f h
  have h2 : (256 : Int) ^ k ≤ 256 ^ 7 := pow_mono hk
  have e : (256 : Int) ^ 7 = 72057594037927936 := by decide
  omega

/-- The first byte says whether a number has as many bytes. -/
theorem valF_first : ∀ (k : Nat) (f : Nat → Int), (∀ i, i < k + 1 → 0 ≤ f i ∧ f i ≤ 255) → (256 ^ k ≤ valF (k + 1) f ↔ f 0 ≠ 0)
  | 0, f, h => by
    have := h 0 (by omega)
    simp only [valF, Int.pow_zero]
    omega
  | k + 1, f, h => by
    have ih := valF_first k f (fun i hi => h i (by omega))
    have := h (k + 1) (by omega)
    rw [← ih]
    show 256 ^ (k + 1) ≤ valF (k + 1) f * 256 + f (k + 1) ↔ _
    rw [Int.pow_succ]
    omega
theorem cnt_valF (c : Nat) (f : Nat → Int) (hc : c ≤ 7) (h : ∀ i, i < c → 0 ≤ f i ∧ f i ≤ 255) : cnt (valF c f) = c ↔ ¬ (0 < c ∧ f 0 = 0) := by
  have hb := valF_bd c f h
  constructor
  · rintro e ⟨h0, hf⟩
    obtain ⟨k, rfl⟩ : ∃ k, c = k + 1 := ⟨c - 1, by omega⟩
    have h1 := cnt_ge (valF (k + 1) f) (by omega)
    rw [e] at h1
    exact ((valF_first k f h).1 h1) hf
  · intro hn
    refine cnt_is _ c hc hb.2 (fun h0 => ?_)
    obtain ⟨k, rfl⟩ : ∃ k, c = k + 1 := ⟨c - 1, by omega⟩
    exact (valF_first k f h).2 (fun e => hn ⟨by omega, e⟩)
end Go.Proofs.Ytbcgonfihdpjnaq
