/-
  The law FnExactGetSum at every slice of bytes that reads: its callees' answers are laid into its walk.
-/
import Derived.Test.YtjkoipdcpkkkeanLawGetSum
namespace Go.Proofs.Ytjkoipdcpkkkean
open Go.RowKit

theorem endGetSum (ao : Option Addr) (n cap : Nat) (f : Nat → Int) (w : World) (hv : View w ao n cap f) :
    Calls Try.prog 7 #[.slice ao n cap] w fun e w' => e = .returned (.bool true) ∧ Below w.heap.size w w' := by
  by_cases hn : n ≤ 1048576
  · by_cases h4 : n < 4
    · exact lawFnExactGetSum ao n cap f 0 false w hv (fun _ => getSum_spec_few n f h4) (fun _ => getSum_impl_few n f h4) (by omega) (fun i hi => absurd hi (Nat.not_lt_zero _))
    · obtain ⟨m, rfl⟩ : ∃ m, n = m + 4 := ⟨n - 4, by omega⟩
      by_cases hs : last4 m f = (crc m f : Int)
      · exact lawFnExactGetSum ao (m + 4) cap f m true w hv (fun _ => getSum_spec_all m f hn hv.byte m true (Or.inl ⟨hs, rfl, rfl⟩)) (fun _ => getSum_impl_yes m f hn hv.byte hs) (by omega) (fun i hi => hv.byte i (by omega))
      · exact lawFnExactGetSum ao (m + 4) cap f 0 false w hv (fun _ => getSum_spec_all m f hn hv.byte 0 false (Or.inr ⟨hs, rfl, rfl⟩)) (fun _ => getSum_impl_no m f hn hv.byte hs) (by omega) (fun i hi => absurd hi (Nat.not_lt_zero _))
  · exact lawFnExactGetSum ao n cap f 0 false w hv (fun h => absurd h hn) (fun h => absurd h hn) (by omega) (fun i hi => absurd hi (Nat.not_lt_zero _))
end Go.Proofs.Ytjkoipdcpkkkean
