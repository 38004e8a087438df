/- Slices of ints of the call's own: what the laws' own helpers eqIntS, markIntS, heldIntS answer. -/
import Derived.Test.YtakcmiijnckaaaaRows
import Derived.Test.YtakcmiijnckaaaaLtPack4
import Derived.WalkKit
import Derived.WalkSpells
import Derived.WalkSmall
import Derived.Below
import Derived.BigRegion
import Derived.BigQuiet
import Derived.Deep.QuietTactic
namespace Go.Proofs.Ytakcmiijnckaaaa
open Go.RowKit
set_option linter.unusedVariables false

/-- v is a slice that is not nil, at block g's head, of the numbers zs, which may be written. -/
def OwnI (w : World) (g : Nat) (v : Value) (zs : List Int) : Prop :=
  (∃ cap, v = .slice (some ⟨g, 0, none⟩) zs.length cap) ∧ g < w.heap.size ∧ ∀ j, j < zs.length → w.cell? ⟨g, j, none⟩ = some (.int .i64 (zs.getD j 0)) ∧ w.frozen? ⟨g, j, none⟩ = false

theorem OwnI.block {w w' : World} {g : Nat} {v : Value} {zs : List Int} (h : OwnI w g v zs) (hb : w'.heap[g]? = w.heap[g]?) (hs : w.heap.size ≤ w'.heap.size) : OwnI w' g v zs :=
  ⟨h.1, by have := h.2.1; omega, fun j hj => ⟨(World.cell?_of_block (w := w) (a := ⟨g, j, none⟩) hb).trans (h.2.2 j hj).1, (World.frozen?_of_block (w := w) (a := ⟨g, j, none⟩) hb).trans (h.2.2 j hj).2⟩⟩

theorem OwnI.below {w w' : World} {g B : Nat} {v : Value} {zs : List Int} (h : OwnI w g v zs) (hb : Below B w w') (hB : g < B) : OwnI w' g v zs :=
  h.block (hb.block g hB) hb.size

theorem OwnI.drewN {w : World} {g : Nat} {v : Value} {zs : List Int} (h : OwnI w g v zs) (n : Nat) : OwnI (w.drewN n) g v zs := h

end Go.Proofs.Ytakcmiijnckaaaa
