/- What impl's and spec's CondOk and CondHolds answer, of any condition and any call. -/
import Derived.Test.YtojaohdmfahpmaaPolMath
import Derived.Test.YtojaohdmfahpmaaWideSl
import Derived.Test.YtojaohdmfahpmaaBoxes
import Derived.Handy
namespace Go.Proofs.Ytojaohdmfahpmaa
open Go.RowKit
set_option linter.unusedVariables false

theorem CellsAt.set {W : World} {k : Nat} {l : List Value} (h : CellsAt W k l) {g : Nat} (hg : g ≠ k) (j : Nat) (v : Value) : CellsAt (W.setCell ⟨g, j, none⟩ v) k l :=
  ⟨by rw [World.size_setCell]; exact h.1, fun i x hx => by rw [World.cell?_setCell_other _ _ _ _ (fun e => hg (by injection e))]; exact h.2 i x hx⟩

theorem condB_if (a mh ml cm vh vl : Int) : condB ⟨a, mh, ml, cm, vh, vl⟩ = (inB a 0 2 && inB cm 1 6 && wideB (mh, ml) && wideB (vh, vl)) := rfl

end Go.Proofs.Ytojaohdmfahpmaa
