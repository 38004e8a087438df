/- What the laws' own turned answers: a text with one byte another; and what the draws of texts answer. -/
import Derived.Test.YthflflhcbnianaaDoorRlPack12
import Derived.Test.YthflflhcbnianaaDoorRlPack6
import Derived.Deep.RegionHeld3
import Derived.Lib.ConvBytes
namespace Go.Proofs.YthflflhcbnianaaDoor
open Go.RowKit
set_option linter.unusedVariables false

end Go.Proofs.YthflflhcbnianaaDoor
