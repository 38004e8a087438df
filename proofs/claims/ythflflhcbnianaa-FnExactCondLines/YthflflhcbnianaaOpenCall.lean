/- The laws' argument opened: a call, its wide numbers in memory. -/
import Derived.Test.YthflflhcbnianaaOpenWide
namespace Go.Proofs.Ythflflhcbnianaa
open Go.ChangeShapes Go.WideShapes Go.ChangeAt Go.RowKit Go.Joins Go.Deep
set_option linter.unusedVariables false

end Go.Proofs.Ythflflhcbnianaa
