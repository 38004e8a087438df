/- What impl's PolicyOk answers, of any policy. -/
import Derived.Test.YtojaohdmfahpmaaRulesR
namespace Go.Proofs.Ytojaohdmfahpmaa
open Go.RowKit
set_option linter.unusedVariables false

/-- The value v is the policy p. -/
def RepPol (p : PN) (v : Value) (w : World) : Prop := ∃ a cap, v = .agg #[.int .i64 p.arch, .int .i64 p.act, .int .i64 p.data, .slice a p.rules.length cap] ∧ Rules w a p.rules

theorem RepPol.step {p : PN} {v : Value} {w w' : World} (h : RepPol p v w) (hE : Ext w w') : RepPol p v w' := by
  obtain ⟨a, cap, e, hr⟩ := h
  exact ⟨a, cap, e, hr.step hE⟩

end Go.Proofs.Ytojaohdmfahpmaa
