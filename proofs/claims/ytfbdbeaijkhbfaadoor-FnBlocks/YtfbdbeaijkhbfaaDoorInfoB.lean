/- What the program's table says of a byte's type. -/
import Derived.Test.YtfbdbeaijkhbfaaDoorRows
import Derived.Test.YtfbdbeaijkhbfaaDoorBase
import Derived.WalkKit
namespace Go.Proofs.YtfbdbeaijkhbfaaDoor
open Go.RowKit

theorem Tryd.infoB : (Tryd.prog.info? 5).map (fun i => (i.zero, i.size, i.bytes)) = some (some (.int .u8 0), 1, 1) := by kernel_rfl

end Go.Proofs.YtfbdbeaijkhbfaaDoor
