/- What the laws' own toIns and eqIns answer; a law's word opened. -/
import Derived.Test.YtakcmiijnckaaaaLayPack9
import Derived.ProofKit
import Derived.OpenShut
import Derived.Lib.SmallJoins
namespace Go.Proofs.Ytakcmiijnckaaaa
open Go.ChangeShapes Go.WideShapes Go.ChangeAt Go.RowKit Go.Joins
set_option linter.unusedVariables false

set_option maxHeartbeats 800000 in
theorem toIns_any (o k y n : Int) (w : World) : Calls Try.prog 79 #[.agg #[.int .i64 o, .int .i64 k, .int .i64 y, .int .i64 n]] w fun e w' => e = .returned (.agg #[.int .i64 o, .int .i64 k, .int .i64 y, .int .i64 n]) ∧ Ext w w' := by
  go_enter Try.func79, Try.ntmps79
  go_wp2
  refine bodyPost_ret (v := .agg #[.int .i64 o, .int .i64 k, .int .i64 y, .int .i64 n]) (by simp [results, Try.results79, go_sem]) rfl ⟨rfl, ?_⟩
  exact ((Ext.one _ _).alloc _).alloc _

theorem eqIns_same (o k y n : Int) (w : World) : Calls Try.prog 60 #[.agg #[.int .i64 o, .int .i64 k, .int .i64 y, .int .i64 n], .agg #[.int .i64 o, .int .i64 k, .int .i64 y, .int .i64 n]] w fun e w' => e = .returned (.bool true) ∧ Ext w w' := by
  go_enter Try.func60, Try.ntmps60
  go_wp2
  go_ret
  exact ⟨rfl, (Ext.one _ _).alloc _⟩

theorem cellsLI : Try.prog.cellsOf 81 = 4 := by kernel_rfl

theorem cells3 : Try.prog.cellsOf 3 = 1 := by kernel_rfl

end Go.Proofs.Ytakcmiijnckaaaa
