/- What spec.Decimal answers at every number that is not below 0. -/
import Derived.Test.YthflflhcbnianaaDoorCrPack6
import Derived.Test.YthflflhcbnianaaDoorCrPack8
import Derived.WalkKit
import Derived.WalkSpells
namespace Go.Proofs.YthflflhcbnianaaDoor
open Go.RowKit
set_option linter.unusedVariables false

end Go.Proofs.YthflflhcbnianaaDoor
