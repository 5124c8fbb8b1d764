/-
  What the table of the types says of the bytes.
-/
import Derived.Test.YtfgigbgfkkmaiabChecked
import Derived.Test.YtfgigbgfkkmaiabPlain
namespace Go.Proofs.Ytfgigbgfkkmaiab
open Go.RowKit

theorem Try.info5 : (Try.prog.info? 5).map (fun i => (i.zero, i.size, i.bytes)) = some (some (.int .u8 0), 1, 1) := by kernel_rfl

end Go.Proofs.Ytfgigbgfkkmaiab
