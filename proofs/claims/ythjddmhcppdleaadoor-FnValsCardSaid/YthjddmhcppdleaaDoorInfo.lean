/-
  What the table of the types says of the bytes.
-/
import Derived.Test.YthjddmhcppdleaaDoorChecked
import Derived.Test.YthjddmhcppdleaaDoorPlain
namespace Go.Proofs.YthjddmhcppdleaaDoor
open Go.RowKit

theorem Tryd.info5 : (Tryd.prog.info? 5).map (fun i => (i.zero, i.size, i.bytes)) = some (some (.int .u8 0), 1, 1) := by kernel_rfl

end Go.Proofs.YthjddmhcppdleaaDoor
