/-
  What is read of bytes as a number, plainly: of n bytes (f), from the place p on.
-/
import Derived.Test.YtjkoipdcpkkkeaaPlain
namespace Go.Proofs.Ytjkoipdcpkkkeaa

def getU (n : Nat) (f : Nat → Int) (p : Int) : Int × Int × Bool :=
  if p < 0 ∨ (n : Int) ≤ p then (0, 0, false)
  else if f p.toNat < 128 then (f p.toNat, p + 1, true)
  else if n ≤ p.toNat + 1 then (0, 0, false)
  else if f (p.toNat + 1) < 128 then (if f (p.toNat + 1) = 0 then (0, 0, false) else (f p.toNat - 128 + f (p.toNat + 1) * 128, p + 2, true))
  else if n ≤ p.toNat + 2 then (0, 0, false)
  else if f (p.toNat + 2) < 128 then
    (if f (p.toNat + 2) = 0 ∨ 1000000 < f p.toNat - 128 + (f (p.toNat + 1) - 128) * 128 + f (p.toNat + 2) * 16384 then (0, 0, false)
     else (f p.toNat - 128 + (f (p.toNat + 1) - 128) * 128 + f (p.toNat + 2) * 16384, p + 3, true))
  else (0, 0, false)

theorem getU_neg (n : Nat) (f : Nat → Int) (p : Int) (h : p < 0) : getU n f p = (0, 0, false) := by
  unfold getU; rw [if_pos (Or.inl h)]
theorem getU_past (n : Nat) (f : Nat → Int) (i : Nat) (h : n ≤ i) : getU n f (i : Int) = (0, 0, false) := by
  unfold getU; rw [if_pos (Or.inr (by omega))]
section
variable (n : Nat) (f : Nat → Int) (i : Nat)
theorem getU_in (h : i < n) : ¬ ((i : Int) < 0 ∨ (n : Int) ≤ (i : Int)) := by omega
theorem getU_1 (h : i < n) (h1 : f i < 128) : getU n f (i : Int) = (f i, (i : Int) + 1, true) := by
  unfold getU; rw [if_neg (getU_in n i h), Int.toNat_natCast, if_pos h1]
theorem getU_2end (h : i < n) (h1 : 128 ≤ f i) (h2 : n ≤ i + 1) : getU n f (i : Int) = (0, 0, false) := by
  unfold getU; rw [if_neg (getU_in n i h), Int.toNat_natCast, if_neg (by omega), if_pos h2]
theorem getU_2zero (h : i + 1 < n) (h1 : 128 ≤ f i) (h2 : f (i + 1) = 0) : getU n f (i : Int) = (0, 0, false) := by
  unfold getU; rw [if_neg (getU_in n i (by omega)), Int.toNat_natCast, if_neg (by omega), if_neg (by omega), if_pos (by omega), if_pos h2]
theorem getU_2 (h : i + 1 < n) (h1 : 128 ≤ f i) (h2 : f (i + 1) < 128) (h3 : f (i + 1) ≠ 0) : getU n f (i : Int) = (f i - 128 + f (i + 1) * 128, (i : Int) + 2, true) := by
  unfold getU; rw [if_neg (getU_in n i (by omega)), Int.toNat_natCast, if_neg (by omega), if_neg (by omega), if_pos (by omega), if_neg h3]
theorem getU_3end (h : i + 1 < n) (h1 : 128 ≤ f i) (h2 : 128 ≤ f (i + 1)) (h3 : n ≤ i + 2) : getU n f (i : Int) = (0, 0, false) := by
  unfold getU; rw [if_neg (getU_in n i (by omega)), Int.toNat_natCast, if_neg (by omega), if_neg (by omega), if_neg (by omega), if_pos h3]
theorem getU_3no (h : i + 2 < n) (h1 : 128 ≤ f i) (h2 : 128 ≤ f (i + 1)) (h3 : f (i + 2) < 128) (h4 : f (i + 2) = 0 ∨ 1000000 < f i - 128 + (f (i + 1) - 128) * 128 + f (i + 2) * 16384) : getU n f (i : Int) = (0, 0, false) := by
  unfold getU; rw [if_neg (getU_in n i (by omega)), Int.toNat_natCast, if_neg (by omega), if_neg (by omega), if_neg (by omega), if_neg (by omega), if_pos h3, if_pos h4]
theorem getU_3 (h : i + 2 < n) (h1 : 128 ≤ f i) (h2 : 128 ≤ f (i + 1)) (h3 : f (i + 2) < 128) (h4 : ¬ (f (i + 2) = 0 ∨ 1000000 < f i - 128 + (f (i + 1) - 128) * 128 + f (i + 2) * 16384)) :
    getU n f (i : Int) = (f i - 128 + (f (i + 1) - 128) * 128 + f (i + 2) * 16384, (i : Int) + 3, true) := by
  unfold getU; rw [if_neg (getU_in n i (by omega)), Int.toNat_natCast, if_neg (by omega), if_neg (by omega), if_neg (by omega), if_neg (by omega), if_pos h3, if_neg h4]
theorem getU_long (h : i + 2 < n) (h1 : 128 ≤ f i) (h2 : 128 ≤ f (i + 1)) (h3 : 128 ≤ f (i + 2)) : getU n f (i : Int) = (0, 0, false) := by
  unfold getU; rw [if_neg (getU_in n i (by omega)), Int.toNat_natCast, if_neg (by omega), if_neg (by omega), if_neg (by omega), if_neg (by omega), if_neg (by omega)]
end
end Go.Proofs.Ytjkoipdcpkkkeaa
