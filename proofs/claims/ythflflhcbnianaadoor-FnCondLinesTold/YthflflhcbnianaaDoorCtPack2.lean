/- Plain facts on halves, wide numbers and calls: what is right, what a place of a call has. -/
import Derived.WalkKit
namespace Go.Proofs.YthflflhcbnianaaDoor
open Go.RowKit

/-- A half: 0 .. 4294967295. -/
def halfB (n : Int) : Bool := decide (0 ≤ n) && decide (n ≤ 4294967295)

theorem halfB_true {n : Int} : halfB n = true ↔ 0 ≤ n ∧ n ≤ 4294967295 := by simp [halfB]

theorem halfB_false {n : Int} : halfB n = false ↔ ¬ (0 ≤ n ∧ n ≤ 4294967295) := by
  rw [← Bool.not_eq_true, halfB_true]

/-- Both halves are. -/
def wideB (p : Int × Int) : Bool := halfB p.1 && halfB p.2

end Go.Proofs.YthflflhcbnianaaDoor
