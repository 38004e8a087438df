/- What the laws' own turned answers: a text with one byte another; and what the draws of texts answer. -/
import Derived.Test.YtakcmiijnckaaaaLayPack8
import Derived.Test.YtakcmiijnckaaaaLayPack5
import Derived.Deep.RegionHeld3
import Derived.Lib.ConvBytes
namespace Go.Proofs.Ytakcmiijnckaaaa
open Go.RowKit
set_option linter.unusedVariables false

end Go.Proofs.Ytakcmiijnckaaaa
