/-
  What the table of the types says of the bytes.
-/
import Derived.Test.YtagjgnephaaehaaChecked
import Derived.Test.YtagjgnephaaehaaPlain
namespace Go.Proofs.Ytagjgnephaaehaa
open Go.RowKit
set_option maxRecDepth 4000

theorem Try.info5 : (Try.prog.info? 5).map (fun i => (i.zero, i.size, i.bytes)) = some (some (.int .u8 0), 1, 1) := by kernel_rfl

end Go.Proofs.Ytagjgnephaaehaa
