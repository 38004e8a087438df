/- What spec's l09Rule answers, of any rule. -/
import Derived.Test.YtojaohdmfahpmaaRuleIS
namespace Go.Proofs.Ytojaohdmfahpmaa
open Go.RowKit
set_option linter.unusedVariables false

/-- A number lies in a block. -/
def NumAt (w : World) (b o : Nat) (z : Int) : Prop := b < w.heap.size ∧ w.cell? ⟨b, o, none⟩ = some (.int .i64 z)

theorem NumAt.step {w w' : World} {b o : Nat} {z : Int} (h : NumAt w b o z) (hE : Ext w w') : NumAt w' b o z := ⟨Nat.lt_of_lt_of_le h.1 hE.size, (hE.cell (p := ⟨b, o, none⟩) h.1).trans h.2⟩

theorem NumAt.drew {w : World} {b o : Nat} {z : Int} (h : NumAt w b o z) : NumAt w.drew b o z := h

end Go.Proofs.Ytojaohdmfahpmaa
