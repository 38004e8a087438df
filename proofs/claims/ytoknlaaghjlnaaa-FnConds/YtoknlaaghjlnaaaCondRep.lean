/- CondHolds of a call as a value in memory. -/
import Derived.Test.YtoknlaaghjlnaaaCondIS
import Derived.Test.YtoknlaaghjlnaaaCallRep
import Derived.Test.YtoknlaaghjlnaaaToCond
namespace Go.Proofs.Ytoknlaaghjlnaaa
open Go.RowKit
set_option linter.unusedVariables false

theorem sCondHolds_rep (ag mh ml cm vh vl : Int) (arch num : Int) (ws : List (Int × Int)) (v : Value) (w : World) (hl : ws.length ≤ 1048576) (h : RepCall arch num ws v w) :
    Calls Try.prog 26 #[.agg #[.int .i64 ag, .int .i64 mh, .int .i64 ml, .int .i64 cm, .int .i64 vh, .int .i64 vl], v] w fun e w' => e = .returned (.bool (condH ⟨ag, mh, ml, cm, vh, vl⟩ arch num ws)) ∧ Ext w w' := by
  obtain ⟨a, cap, rfl, hw⟩ := h
  exact sCondHolds_any ag mh ml cm vh vl arch num a cap ws w hl hw

theorem iCondHolds_rep (ag mh ml cm vh vl : Int) (arch num : Int) (ws : List (Int × Int)) (v : Value) (w : World) (hl : ws.length ≤ 1048576) (h : RepCall arch num ws v w) :
    Calls Try.prog 22 #[.agg #[.int .i64 ag, .int .i64 mh, .int .i64 ml, .int .i64 cm, .int .i64 vh, .int .i64 vl], v] w fun e w' => e = .returned (.bool (condH ⟨ag, mh, ml, cm, vh, vl⟩ arch num ws)) ∧ Ext w w' := by
  obtain ⟨a, cap, rfl, hw⟩ := h
  exact iCondHolds_any ag mh ml cm vh vl arch num a cap ws w hl hw

end Go.Proofs.Ytoknlaaghjlnaaa
