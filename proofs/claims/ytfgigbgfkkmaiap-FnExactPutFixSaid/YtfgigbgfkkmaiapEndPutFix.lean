/-
  The law FnExactPutFix at every slice of bytes that reads and every number: its callees' answers are laid into its walk.
-/
import Derived.Test.YtfgigbgfkkmaiapLawPutFix
import Derived.Test.YtfgigbgfkkmaiapPutFixSpec
import Derived.Test.YtfgigbgfkkmaiapPutFixImpl
namespace Go.Proofs.Ytfgigbgfkkmaiap
open Go.RowKit

theorem makesFix_spec (n : Nat) (f : Nat → Int) (x : Int) (hn : n ≤ 1048576) (hx0 : -9223372036854775808 ≤ x) (hx1 : x ≤ 9223372036854775807) :
    MakesFnExactPutFix 19 x n f (n + 4) (fun i => (lof n f ++ fixL x).getD i 0) := by
  intro b cap w hv
  refine (putFix_own b 0 n cap f x w hv (by omega) hx0 hx1).mono ?_
  rintro e w' ⟨v, rfl, hown, hb⟩
  obtain ⟨g, c, rfl, hg, hc, hr⟩ := row_of_own hown (by omega)
  exact ⟨g, c, rfl, hg, hc, hr, hb⟩

theorem makesFix_impl (n : Nat) (f : Nat → Int) (x : Int) (hn : n ≤ 1048576) (hx0 : -9223372036854775808 ≤ x) (hx1 : x ≤ 9223372036854775807) :
    MakesFnExactPutFix 20 x n f (n + 4) (fun i => (lof n f ++ fixL x).getD i 0) := by
  intro b cap w hv
  exact putFix_impl b 0 n cap f x w hv (by omega) hx0 hx1

theorem endPutFix (ao : Option Addr) (n cap : Nat) (f : Nat → Int) (x : Int) (w : World) (hv : View w ao n cap f) (hx : -9223372036854775808 ≤ x ∧ x ≤ 9223372036854775807) :
    Calls Try.prog 6 #[.slice ao n cap, .int .i64 x] w fun e w' => e = .returned (.bool true) ∧ Below w.heap.size w w' := by
  by_cases hn : n ≤ 1048576
  · exact lawFnExactPutFix ao n cap f x _ _ w hv (fun _ => makesFix_spec n f x hn hx.1 hx.2) (fun _ => makesFix_impl n f x hn hx.1 hx.2) (by omega)
      (by have := put_byte n f (fixL x) hv.byte (fixL_byte x); rw [fixL_len] at this; exact this)
  · exact lawFnExactPutFix ao n cap f x 0 (fun _ => 0) w hv (fun h => absurd h hn) (fun h => absurd h hn) (by omega) (fun i hi => absurd hi (Nat.not_lt_zero _))
end Go.Proofs.Ytfgigbgfkkmaiap
