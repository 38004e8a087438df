/- What the laws' own helper markText answers. -/
import Derived.Test.YthflflhcbnianaaDoorCtPack6
import Derived.Test.YthflflhcbnianaaDoorCtPack8
import Derived.WalkKit
import Derived.WalkSpells
import Derived.WalkSmall
import Derived.BigQuiet
import Derived.Deep.QuietTactic
import Derived.Deep.RegionHeld3
import Derived.LoopN
namespace Go.Proofs.YthflflhcbnianaaDoor
open Go.RowKit
set_option linter.unusedVariables false

def markB (k : Nat) : ByteArray := ⟨(109 :: dec k).toArray⟩

end Go.Proofs.YthflflhcbnianaaDoor
