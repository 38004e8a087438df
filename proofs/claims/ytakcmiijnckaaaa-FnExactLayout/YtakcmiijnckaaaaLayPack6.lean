/- Plain facts on the draws' numbers: what is masked by 255 is a byte's number. -/
import Derived.Test.YtakcmiijnckaaaaLayPack4
import Derived.Laws.BitsAllLaws
namespace Go.Proofs.Ytakcmiijnckaaaa
open Go.RowKit

end Go.Proofs.Ytakcmiijnckaaaa
