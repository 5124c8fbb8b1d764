/-
  Whether a code is too long.
-/
import Derived.Test.YtfgigbgfkkmaiabInfo
namespace Go.Proofs.Ytfgigbgfkkmaiab
open Go.RowKit

theorem big_any (ao : Option Addr) (n cap : Nat) (w : World) (_hn : n ≤ 9223372036854775807) :
    Calls Try.prog 8 #[.slice ao n cap] w fun e w' => e = .returned (.bool (decide ((1048576 : Int) < (n : Int)))) ∧ w = w' := by
  go_enter Try.func8, Try.ntmps8
  go_wp2
  go_ret
  exact ⟨rfl, rfl⟩

end Go.Proofs.Ytfgigbgfkkmaiab
