/-
  The law FnExactFlip at every slice of bytes that reads and every place: its callees' answers are laid into its walk.
-/
import Derived.Test.YthjddmhcppdleapLawFlip
namespace Go.Proofs.Ythjddmhcppdleap
open Go.RowKit

theorem endFlip (ao : Option Addr) (n cap : Nat) (f : Nat → Int) (p : Int) (w : World) (hv : View w ao n cap f) (hp1 : p ≤ 9223372036854775807) :
    Calls Try.prog 4 #[.slice ao n cap, .int .i64 p] w fun e w' => e = .returned (.bool true) ∧ Below w.heap.size w w' := by
  by_cases hn : n ≤ 1048576
  · exact lawFnExactFlip ao n cap f p n (flipF f p) w hv (fun _ b cap w hv => flip_spec b 0 n cap f p w hv (by omega)) (fun _ b cap w hv => flip_impl b 0 n cap f p w hv (by omega) hp1) (by omega) (flipF_byte p hv.byte)
  · exact lawFnExactFlip ao n cap f p 0 (fun _ => 0) w hv (fun h => absurd h hn) (fun h => absurd h hn) (by omega) (fun i hi => absurd hi (Nat.not_lt_zero _))
end Go.Proofs.Ythjddmhcppdleap
