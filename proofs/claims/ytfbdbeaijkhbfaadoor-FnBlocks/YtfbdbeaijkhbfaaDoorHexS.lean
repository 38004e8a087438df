/- What spec.Hex answers at every text. -/
import Derived.Test.YtfbdbeaijkhbfaaDoorVar
import Derived.Test.YtfbdbeaijkhbfaaDoorHexMath
import Derived.Test.YtfbdbeaijkhbfaaDoorFigure
import Derived.WalkKit
import Derived.WalkSpells
import Derived.Deep.RegionHeld3
import Derived.Deep.AppendLies
namespace Go.Proofs.YtfbdbeaijkhbfaaDoor
open Go.RowKit
set_option linter.unusedVariables false
