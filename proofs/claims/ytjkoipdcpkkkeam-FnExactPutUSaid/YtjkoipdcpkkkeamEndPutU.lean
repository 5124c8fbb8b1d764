/-
  The law FnExactPutU at every slice of bytes that reads and every number: its callees' answers are laid into its walk.
-/
import Derived.Test.YtjkoipdcpkkkeamLawPutU
import Derived.Test.YtjkoipdcpkkkeamPutSpec
import Derived.Test.YtjkoipdcpkkkeamPutImpl
namespace Go.Proofs.Ytjkoipdcpkkkeam
open Go.RowKit

theorem makesU_spec (n : Nat) (f : Nat → Int) (x : Int) (hn : n ≤ 1048576) (hx0 : -9223372036854775808 ≤ x) (hx1 : x ≤ 9223372036854775807) :
    MakesFnExactPutU 5 x n f (n + (groups (clampN x)).length) (fun i => (lof n f ++ groups (clampN x)).getD i 0) := by
  intro b cap w hv
  refine (putU_spec b 0 n cap f x w hv (by omega) hx0 hx1).mono ?_
  rintro e w' ⟨v, rfl, hown, hb⟩
  obtain ⟨g, c, rfl, hg, hc, hr⟩ := row_of_own hown (by have := (groups_len (clampN x)).1; omega)
  exact ⟨g, c, rfl, hg, hc, hr, hb⟩

theorem makesU_impl (n : Nat) (f : Nat → Int) (x : Int) (hn : n ≤ 1048576) (hx0 : -9223372036854775808 ≤ x) (hx1 : x ≤ 9223372036854775807) :
    MakesFnExactPutU 7 x n f (n + (groups (clampN x)).length) (fun i => (lof n f ++ groups (clampN x)).getD i 0) := by
  intro b cap w hv
  exact putU_impl b 0 n cap f x w hv (by omega) hx0 hx1

theorem endPutU (ao : Option Addr) (n cap : Nat) (f : Nat → Int) (x : Int) (w : World) (hv : View w ao n cap f) (hx : -9223372036854775808 ≤ x ∧ x ≤ 9223372036854775807) :
    Calls Try.prog 3 #[.slice ao n cap, .int .i64 x] w fun e w' => e = .returned (.bool true) ∧ Below w.heap.size w w' := by
  by_cases hn : n ≤ 1048576
  · exact lawFnExactPutU ao n cap f x _ _ w hv (fun _ => makesU_spec n f x hn hx.1 hx.2) (fun _ => makesU_impl n f x hn hx.1 hx.2) (by have := (groups_len (clampN x)).2; omega)
      (put_byte n f _ hv.byte (groups_byte _ (clampN_bd x).1 (clampN_bd x).2))
  · exact lawFnExactPutU ao n cap f x 0 (fun _ => 0) w hv (fun h => absurd h hn) (fun h => absurd h hn) (by omega) (fun i hi => absurd hi (Nat.not_lt_zero _))
end Go.Proofs.Ytjkoipdcpkkkeam
