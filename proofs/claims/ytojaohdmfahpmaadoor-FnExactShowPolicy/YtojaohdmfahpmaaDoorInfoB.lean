/- What the program's table says of a byte's type. -/
import Derived.Test.YtojaohdmfahpmaaDoorRows
import Derived.Test.YtojaohdmfahpmaaDoorBase
import Derived.WalkKit
namespace Go.Proofs.YtojaohdmfahpmaaDoor
open Go.RowKit

theorem Tryd.infoB : (Tryd.prog.info? 5).map (fun i => (i.zero, i.size, i.bytes)) = some (some (.int .u8 0), 1, 1) := by kernel_rfl

end Go.Proofs.YtojaohdmfahpmaaDoor
