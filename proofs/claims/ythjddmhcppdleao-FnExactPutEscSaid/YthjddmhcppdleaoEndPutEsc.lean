/-
  The law FnExactPutEsc at every slice of bytes that reads and every text: its callees' answers are laid into its walk.
-/
import Derived.Test.YthjddmhcppdleaoLawPutEsc
namespace Go.Proofs.Ythjddmhcppdleao
open Go.RowKit

theorem endPutEsc (ao : Option Addr) (n cap : Nat) (f : Nat → Int) (s : ByteArray) (w : World) (hv : View w ao n cap f) (hs : s.size ≤ maxLen) :
    Calls Try.prog 6 #[.slice ao n cap, .string s] w fun e w' => e = .returned (.bool true) ∧ Below w.heap.size w w' := by
  unfold maxLen at hs
  by_cases hn : n ≤ 1048576
  · by_cases hs2 : s.size ≤ 1048576
    · exact lawFnExactPutEsc ao n cap f s _ _ w hv (by omega) (fun _ _ b cap w hv => putEsc_spec b 0 n cap f s w hv (by omega) (by omega)) (fun _ _ b cap w hv => putEsc_impl b 0 n cap f s w hv (by omega) (by omega))
        (by have := escN_le s; omega) (escT_at n f s hv.byte)
    · exact lawFnExactPutEsc ao n cap f s 0 (fun _ => 0) w hv (by omega) (fun _ h => absurd h hs2) (fun _ h => absurd h hs2) (by omega) (fun i hi => absurd hi (Nat.not_lt_zero _))
  · exact lawFnExactPutEsc ao n cap f s 0 (fun _ => 0) w hv (by omega) (fun h => absurd h hn) (fun h => absurd h hn) (by omega) (fun i hi => absurd hi (Nat.not_lt_zero _))
end Go.Proofs.Ythjddmhcppdleao
