/- What impl's InsOk answers, of any four numbers: just whether the word is right. -/
import Derived.Test.YthflflhcbnianaaDoorRows
import Derived.Test.YthflflhcbnianaaDoorRlPack5
import Derived.Test.YthflflhcbnianaaDoorRlPack1
import Derived.Test.YthflflhcbnianaaDoorRlPack3
import Derived.Test.YthflflhcbnianaaDoorRlPack4
import Derived.WalkKit
import Derived.WalkSpells
import Derived.WalkSmall
import Derived.Below
import Derived.Handy
import Derived.Laws.StructEq
import Derived.ChangeKeysEq
/- What impl's and spec's InsOk answer, of any four numbers. -/
namespace Go.Proofs.YthflflhcbnianaaDoor
open Go.RowKit
set_option linter.unusedVariables false



end Go.Proofs.YthflflhcbnianaaDoor
