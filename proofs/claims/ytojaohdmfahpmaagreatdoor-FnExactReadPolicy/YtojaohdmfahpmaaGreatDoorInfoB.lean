/- What the program's table says of a byte's type. -/
import Derived.Test.YtojaohdmfahpmaaGreatDoorRows
import Derived.Test.YtojaohdmfahpmaaGreatDoorBase
import Derived.WalkKit
namespace Go.Proofs.YtojaohdmfahpmaaGreatDoor
open Go.RowKit

theorem Tryz.infoB : (Tryz.prog.info? 5).map (fun i => (i.zero, i.size, i.bytes)) = some (some (.int .u8 0), 1, 1) := by kernel_rfl

end Go.Proofs.YtojaohdmfahpmaaGreatDoor
