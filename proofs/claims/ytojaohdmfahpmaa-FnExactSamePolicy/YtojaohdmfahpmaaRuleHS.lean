/- What spec's RuleHolds answers, of any rule and any call. -/
import Derived.Test.YtojaohdmfahpmaaRuleH
namespace Go.Proofs.Ytojaohdmfahpmaa
open Go.RowKit
set_option linter.unusedVariables false

end Go.Proofs.Ytojaohdmfahpmaa
