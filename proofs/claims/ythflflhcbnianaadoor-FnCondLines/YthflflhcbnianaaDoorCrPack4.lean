/- Cells of a block of the call's own, kept while memory grows. -/
import Derived.Test.YthflflhcbnianaaDoorCrPack3
import Derived.WalkKit
namespace Go.Proofs.YthflflhcbnianaaDoor
open Go.RowKit
set_option linter.unusedVariables false

/-- Block k holds these cells from its head on. -/
def CellsAt (W : World) (k : Nat) (l : List Value) : Prop := k < W.heap.size ∧ ∀ i v, l[i]? = some v → W.cell? ⟨k, i, none⟩ = some v

theorem CellsAt.step {W W' : World} {k : Nat} {l : List Value} (h : CellsAt W k l) (hE : Ext W W') : CellsAt W' k l :=
  ⟨Nat.lt_of_lt_of_le h.1 hE.size, fun i v hv => (hE.cell (p := ⟨k, i, none⟩) h.1).trans (h.2 i v hv)⟩

theorem CellsAt.drew {W : World} {k : Nat} {l : List Value} (h : CellsAt W k l) : CellsAt W.drew k l := h

theorem CellsAt.new (W : World) (l : List Value) (t : TypeId) : CellsAt (W.alloc (.cells l.toArray t)) W.heap.size l :=
  ⟨by simp, fun i v hv => by simp [go_sem, hv]⟩

theorem CellsAt.new' (W : World) (l : List Value) (t : TypeId) (k : Nat) (hk : k = W.heap.size) : CellsAt (W.alloc (.cells l.toArray t)) k l := by
  subst hk; exact CellsAt.new W l t

theorem Ext.alloc {W W' : World} (h : Ext W W') (o : Obj) : Ext W (W'.alloc o) := Below.alloc h h.size o

theorem Ext.drew {W W' : World} (h : Ext W W') : Ext W W'.drew := Below.drew h

theorem Ext.one (W : World) (o : Obj) : Ext W (W.alloc o) := (Ext.refl W).alloc o

end Go.Proofs.YthflflhcbnianaaDoor
