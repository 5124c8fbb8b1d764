/-
  Rows of values held against each other, plainly.
-/
import Derived.Test.YthjddmhcppdleaaValEq
namespace Go.Proofs.Ythjddmhcppdleaa
open Go.RowKit

def allEq (fk fn : Nat → Int) (fs : Nat → ByteArray) (gk gn : Nat → Int) (gs : Nat → ByteArray) : Nat → Bool
  | 0 => true
  | k + 1 => allEq fk fn fs gk gn gs k && eqV (fk k) (fn k) (fs k) (gk k) (gn k) (gs k)

theorem allEq_bad {fk fn : Nat → Int} {fs : Nat → ByteArray} {gk gn : Nat → Int} {gs : Nat → ByteArray} {k : Nat} (h : eqV (fk k) (fn k) (fs k) (gk k) (gn k) (gs k) = false) : ∀ n, k < n → allEq fk fn fs gk gn gs n = false
  | 0, hk => absurd hk (Nat.not_lt_zero _)
  | n + 1, hk => by
    simp only [allEq]
    by_cases e : k = n
    · subst e; rw [h]; simp
    · rw [allEq_bad h n (by omega)]; rfl

def rowEq (n m : Nat) (fk fn : Nat → Int) (fs : Nat → ByteArray) (gk gn : Nat → Int) (gs : Nat → ByteArray) : Bool := decide (n = m) && allEq fk fn fs gk gn gs n

end Go.Proofs.Ythjddmhcppdleaa
