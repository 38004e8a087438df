/- A call as a value in memory, whatever its address; what the laws' helpers make of it. -/
import Derived.Test.YtojaohdmfahpmaaDoorWideSl
import Derived.Test.YtojaohdmfahpmaaDoorBoxes
import Derived.Test.YtojaohdmfahpmaaDoorBoxes
namespace Go.Proofs.YtojaohdmfahpmaaDoor
open Go.RowKit
set_option linter.unusedVariables false

/-- The value v is the call of these numbers. -/
def RepCall (arch num : Int) (ws : List (Int × Int)) (v : Value) (w : World) : Prop := ∃ a cap, v = .agg #[.int .i64 arch, .int .i64 num, .slice a ws.length cap] ∧ Wides w a ws

theorem RepCall.step {arch num : Int} {ws : List (Int × Int)} {v : Value} {w w' : World} (h : RepCall arch num ws v w) (hE : Ext w w') : RepCall arch num ws v w' := by
  obtain ⟨a, cap, rfl, hw⟩ := h
  exact ⟨a, cap, rfl, hw.below hE (Nat.le_refl _)⟩

def fieldR (arch num : Int) (ws : List (Int × Int)) (t : Int) : Int := if fieldOk arch num ws t then fieldV arch num ws t else 0

end Go.Proofs.YtojaohdmfahpmaaDoor
