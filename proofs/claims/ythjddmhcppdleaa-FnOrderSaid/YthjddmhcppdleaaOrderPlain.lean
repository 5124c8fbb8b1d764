/-
  Of two unlike values one is less, plainly.
-/
import Derived.Test.YthjddmhcppdleaaLessImpl
namespace Go.Proofs.Ythjddmhcppdleaa
open Go.RowKit

theorem bl_irr : ∀ l : List UInt8, Op.bytesLess l l = false
  | [] => rfl
  | x :: xs => by simp [Op.bytesLess, bl_irr xs]
theorem bl_tri : ∀ a b : List UInt8, a ≠ b → Op.bytesLess a b = !Op.bytesLess b a
  | [], [], h => absurd rfl h
  | [], _ :: _, _ => by simp [Op.bytesLess]
  | _ :: _, [], _ => by simp [Op.bytesLess]
  | x :: xs, y :: ys, h => by
    by_cases e : x = y
    · subst e
      have hne : xs ≠ ys := fun e => h (by rw [e])
      simp [Op.bytesLess, bl_tri xs ys hne]
    · have e1 : (x == y) = false := by simpa using e
      have e2 : (y == x) = false := by simpa using fun e3 => e e3.symm
      simp only [Op.bytesLess, e1, e2, Bool.false_and, Bool.or_false]
      have hn : x.toNat ≠ y.toNat := fun e3 => e (UInt8.toNat_inj.1 e3)
      by_cases hl : x < y
      · have : ¬ y < x := by simp only [UInt8.lt_iff_toNat_lt] at hl ⊢; omega
        simp [hl, this]
      · have : y < x := by simp only [UInt8.lt_iff_toNat_lt] at hl ⊢; omega
        simp [hl, this]

theorem ltS_irr (s : ByteArray) : ltS s s = false := bl_irr _
theorem ltS_tri {s t : ByteArray} (h : s ≠ t) : ltS s t = !ltS t s := bl_tri _ _ (fun e => h (toList_inj.1 e))

theorem order3 (k n : Int) (s : ByteArray) (k' n' : Int) (s' : ByteArray) :
    (lessV k n s k' n' s' = true ∧ lessV k' n' s' k n s = false ∧ eqV k n s k' n' s' = false) ∨ (lessV k n s k' n' s' = false ∧ lessV k' n' s' k n s = true ∧ eqV k n s k' n' s' = false) ∨
    (lessV k n s k' n' s' = false ∧ lessV k' n' s' k n s = false ∧ eqV k n s k' n' s' = true) := by
  unfold lessV eqV
  by_cases h1 : k = k'
  · subst h1
    by_cases h2 : n = n'
    · subst h2
      by_cases h3 : s = s'
      · subst h3
        right; right
        simp [ltS_irr]
      · have ht := ltS_tri h3
        cases hx : ltS s' s
        · rw [hx] at ht; left; simp [ht, h3]
        · rw [hx] at ht; right; left; simp [ht, h3]
    · have h2' : ¬ n' = n := fun e => h2 e.symm
      by_cases hl : n < n'
      · left; simp [h2, h2', hl]; omega
      · right; left; simp [h2, h2']; omega
  · have h1' : ¬ k' = k := fun e => h1 e.symm
    by_cases hl : k < k'
    · left; simp [h1, h1', hl]; omega
    · right; left; simp [h1, h1']; omega
end Go.Proofs.Ythjddmhcppdleaa
