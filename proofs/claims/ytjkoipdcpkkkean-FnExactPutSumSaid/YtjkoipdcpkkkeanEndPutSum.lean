/-
  The law FnExactPutSum at every slice of bytes that reads: its callees' answers are laid into its walk.
-/
import Derived.Test.YtjkoipdcpkkkeanLawPutSum
namespace Go.Proofs.Ytjkoipdcpkkkean
open Go.RowKit

theorem endPutSum (ao : Option Addr) (n cap : Nat) (f : Nat → Int) (w : World) (hv : View w ao n cap f) :
    Calls Try.prog 6 #[.slice ao n cap] w fun e w' => e = .returned (.bool true) ∧ Below w.heap.size w w' := by
  by_cases hn : n ≤ 1048576
  · exact lawFnExactPutSum ao n cap f (n + 4) (fun i => (lof n f ++ sumL (crc n f)).getD i 0) w hv (fun _ b cap w hv => putSum_spec b 0 n cap f w hv (by omega)) (fun _ b cap w hv => putSum_impl b 0 n cap f w hv (by omega)) (by omega)
      (put_byte n f _ hv.byte (sumL_byte _))
  · exact lawFnExactPutSum ao n cap f 0 (fun _ => 0) w hv (fun h => absurd h hn) (fun h => absurd h hn) (by omega) (fun i hi => absurd hi (Nat.not_lt_zero _))
end Go.Proofs.Ytjkoipdcpkkkean
