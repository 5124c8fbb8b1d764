/-
  The law FnExactPutVar at every slice of bytes that reads and every number: its callees' answers are laid into its walk.
-/
import Derived.Test.YtfgigbgfkkmaiapLawPutVar
import Derived.Test.YtfgigbgfkkmaiapPutVarSpec
import Derived.Test.YtfgigbgfkkmaiapPutVarImpl
namespace Go.Proofs.Ytfgigbgfkkmaiap
open Go.RowKit

theorem makesVar_spec (n : Nat) (f : Nat → Int) (x : Int) (hn : n ≤ 1048576) (hx0 : -9223372036854775808 ≤ x) (hx1 : x ≤ 9223372036854775807) :
    MakesFnExactPutVar 23 x n f (n + (varL x).length) (fun i => (lof n f ++ varL x).getD i 0) := by
  intro b cap w hv
  refine (putVar_own b 0 n cap f x w hv (by omega) hx0 hx1).mono ?_
  rintro e w' ⟨v, rfl, hown, hb⟩
  obtain ⟨g, c, rfl, hg, hc, hr⟩ := row_of_own hown (by have := (varL_len x).1; omega)
  exact ⟨g, c, rfl, hg, hc, hr, hb⟩

theorem makesVar_impl (n : Nat) (f : Nat → Int) (x : Int) (hn : n ≤ 1048576) (hx0 : -9223372036854775808 ≤ x) (hx1 : x ≤ 9223372036854775807) :
    MakesFnExactPutVar 24 x n f (n + (varL x).length) (fun i => (lof n f ++ varL x).getD i 0) := by
  intro b cap w hv
  exact putVar_impl b 0 n cap f x w hv (by omega) hx0 hx1

theorem endPutVar (ao : Option Addr) (n cap : Nat) (f : Nat → Int) (x : Int) (w : World) (hv : View w ao n cap f) (hx : -9223372036854775808 ≤ x ∧ x ≤ 9223372036854775807) :
    Calls Try.prog 8 #[.slice ao n cap, .int .i64 x] w fun e w' => e = .returned (.bool true) ∧ Below w.heap.size w w' := by
  by_cases hn : n ≤ 1048576
  · exact lawFnExactPutVar ao n cap f x _ _ w hv (fun _ => makesVar_spec n f x hn hx.1 hx.2) (fun _ => makesVar_impl n f x hn hx.1 hx.2) (by have := (varL_len x).2; omega)
      (put_byte n f (varL x) hv.byte (varL_byte x))
  · exact lawFnExactPutVar ao n cap f x 0 (fun _ => 0) w hv (fun h => absurd h hn) (fun h => absurd h hn) (by omega) (fun i hi => absurd hi (Nat.not_lt_zero _))
end Go.Proofs.Ytfgigbgfkkmaiap
