/- What the laws' own toIns and eqIns answer; a law's word opened. -/
import Derived.Test.YthflflhcbnianaaDoorCrPack16
import Derived.ProofKit
import Derived.OpenShut
import Derived.Lib.SmallJoins
namespace Go.Proofs.YthflflhcbnianaaDoor
open Go.ChangeShapes Go.WideShapes Go.ChangeAt Go.RowKit Go.Joins
set_option linter.unusedVariables false

end Go.Proofs.YthflflhcbnianaaDoor
