/- What impl's ruleOk and RuleHolds and spec's l09Rule and RuleHolds answer. -/
import Derived.Test.YtojaohdmfahpmaaNumsIS
import Derived.Test.YtojaohdmfahpmaaCondIS
namespace Go.Proofs.Ytojaohdmfahpmaa
open Go.RowKit
set_option linter.unusedVariables false

theorem ruleB_if (zs : List Int) (cs : List CN) (a d : Int) : ruleB ⟨zs, cs, a, d⟩ = (outB a d && numsB zs && condsB cs) := rfl

end Go.Proofs.Ytojaohdmfahpmaa
