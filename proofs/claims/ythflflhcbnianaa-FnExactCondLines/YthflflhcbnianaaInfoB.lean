/- What the program's table says of a byte's type. -/
import Derived.Test.YthflflhcbnianaaRows
import Derived.Test.YthflflhcbnianaaBase
import Derived.WalkKit
namespace Go.Proofs.Ythflflhcbnianaa
open Go.RowKit

theorem Try.infoB : (Try.prog.info? 5).map (fun i => (i.zero, i.size, i.bytes)) = some (some (.int .u8 0), 1, 1) := by kernel_rfl

end Go.Proofs.Ythflflhcbnianaa
