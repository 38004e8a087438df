/- What spec's RuleHolds answers, of any rule and any call. -/
import Derived.Test.YtojaohdmfahpmaaDoorRuleH
namespace Go.Proofs.YtojaohdmfahpmaaDoor
open Go.RowKit
set_option linter.unusedVariables false

end Go.Proofs.YtojaohdmfahpmaaDoor
