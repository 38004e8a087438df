/- What the laws' own toIns and eqIns answer; a law's word opened. -/
import Derived.Test.YthflflhcbnianaaDoorRlPack15
import Derived.ProofKit
import Derived.OpenShut
import Derived.Lib.SmallJoins
namespace Go.Proofs.YthflflhcbnianaaDoor
open Go.ChangeShapes Go.WideShapes Go.ChangeAt Go.RowKit Go.Joins
set_option linter.unusedVariables false

theorem eqIns_same (o k y n : Int) (w : World) : Calls Tryd.prog 88 #[.agg #[.int .i64 o, .int .i64 k, .int .i64 y, .int .i64 n], .agg #[.int .i64 o, .int .i64 k, .int .i64 y, .int .i64 n]] w fun e w' => e = .returned (.bool true) ∧ Ext w w' := by
  go_enter Tryd.func88, Tryd.ntmps88
  go_wp2
  go_ret
  exact ⟨rfl, (Ext.one _ _).alloc _⟩

end Go.Proofs.YthflflhcbnianaaDoor
