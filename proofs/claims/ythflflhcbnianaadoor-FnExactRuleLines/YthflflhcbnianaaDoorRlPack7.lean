/- Plain facts on the draws' numbers: what is masked by 255 is a byte's number. -/
import Derived.Test.YthflflhcbnianaaDoorRlPack5
import Derived.Laws.BitsAllLaws
namespace Go.Proofs.YthflflhcbnianaaDoor
open Go.RowKit

end Go.Proofs.YthflflhcbnianaaDoor
