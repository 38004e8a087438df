/- What spec.l01Figure answers at 0 .. 15: the figure's byte. -/
import Derived.Test.YtfbdbeaijkhbfaaDoorRows
import Derived.Test.YtfbdbeaijkhbfaaDoorHexMath
import Derived.WalkKit
namespace Go.Proofs.YtfbdbeaijkhbfaaDoor
open Go.RowKit

end Go.Proofs.YtfbdbeaijkhbfaaDoor
