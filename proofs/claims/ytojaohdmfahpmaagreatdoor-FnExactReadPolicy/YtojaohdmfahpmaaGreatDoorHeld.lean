/- What the laws' own heldStringS answers at a list that bears its marks: the number behind the last one. -/
import Derived.Test.YtojaohdmfahpmaaGreatDoorMarks
namespace Go.Proofs.YtojaohdmfahpmaaGreatDoor
open Go.RowKit
set_option linter.unusedVariables false

theorem cell_below {w w' : World} (hb : Below w.heap.size w w') {a : Addr} {v : Value} (h : w.cell? a = some v) : w'.cell? a = some v :=
  (hb.cell (World.block_lt_of_cell? w _ h)).trans h

end Go.Proofs.YtojaohdmfahpmaaGreatDoor
