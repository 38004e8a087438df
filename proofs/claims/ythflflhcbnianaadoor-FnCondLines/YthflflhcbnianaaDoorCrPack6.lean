/- A slice of one new byte makes the text of that byte. -/
import Derived.Test.YthflflhcbnianaaDoorRows
import Derived.Test.YthflflhcbnianaaDoorCrPack5
import Derived.WalkKit
/- What the program's table says of a byte's type. -/
namespace Go.Proofs.YthflflhcbnianaaDoor
open Go.RowKit



end Go.Proofs.YthflflhcbnianaaDoor
