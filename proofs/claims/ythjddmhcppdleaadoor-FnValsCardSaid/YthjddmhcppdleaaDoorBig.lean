/-
  Whether a code is too long.
-/
import Derived.Test.YthjddmhcppdleaaDoorInfo
namespace Go.Proofs.YthjddmhcppdleaaDoor
open Go.RowKit

theorem big_any (ao : Option Addr) (n cap : Nat) (w : World) (_hn : n ≤ 9223372036854775807) :
    Calls Tryd.prog 4 #[.slice ao n cap] w fun e w' => e = .returned (.bool (decide ((1048576 : Int) < (n : Int)))) ∧ w = w' := by
  go_enter Tryd.func4, Tryd.ntmps4
  go_wp2
  go_ret
  exact ⟨rfl, rfl⟩

end Go.Proofs.YthjddmhcppdleaaDoor
