/- Rows of numbers in one block: what is read from them, what a store makes of them. -/
import Derived.Test.YtfbdbeaijkhbfaaDoorRows
import Derived.Test.YtfbdbeaijkhbfaaDoorShaMath
import Derived.WalkKit
import Derived.Below
import Derived.Laws.Rows
import Derived.Deep.WholeRow
namespace Go.Proofs.YtfbdbeaijkhbfaaDoor
open Go.RowKit
set_option linter.unusedVariables false

def kV (k : IntKind) (l : List Nat) : List Value := l.map fun (n : Nat) => .int k ((n : Nat) : Int)

/-- The block b holds the numbers l. -/
def Row (w : World) (b : Nat) (t : TypeId) (k : IntKind) (l : List Nat) : Prop := w.heap[b]? = some (.cells (kV k l).toArray t (0, 0))

theorem kV_length (k : IntKind) (l : List Nat) : (kV k l).length = l.length := by simp [kV]

theorem Row.cell {w : World} {b t : Nat} {k : IntKind} {l : List Nat} (h : Row w b t k l) (j : Nat) (hj : j < l.length) : w.cell? ⟨b, j, none⟩ = some (.int k (l.getD j 0 : Nat)) := by
  rw [cell_of_row w b j _ t _ h]
  simp [kV, hj]

theorem Row.frozen {w : World} {b t : Nat} {k : IntKind} {l : List Nat} (h : Row w b t k l) (j : Nat) : w.frozen? ⟨b, j, none⟩ = false := frozen_of_row w b j _ t h

theorem Row.lt {w : World} {b t : Nat} {k : IntKind} {l : List Nat} (h : Row w b t k l) : b < w.heap.size := (Array.getElem?_eq_some_iff.1 h).1

theorem Row.set {w : World} {b t : Nat} {k : IntKind} {l : List Nat} (h : Row w b t k l) (j x : Nat) (z : Int) (hz : z = (x : Int)) : Row (w.setCell ⟨b, j, none⟩ (.int k z)) b t k (l.set j x) := by
  subst hz
  have := heap_setCell_same w b j _ t (.int k (x : Int)) h
  unfold Row
  rw [this]
  congr 2
  apply Array.ext_getElem?
  intro i
  simp [kV]

theorem Row.other {w : World} {b c t j : Nat} {k : IntKind} {v : Value} {l : List Nat} (h : Row w b t k l) (hc : b ≠ c) : Row (w.setCell ⟨c, j, none⟩ v) b t k l :=
  (heap_setCell_other w ⟨c, j, none⟩ b v hc).trans h

theorem Row.rowOther {w : World} {b c t : Nat} {k : IntKind} {cs : Array Value} {l : List Nat} (h : Row w b t k l) (hc : b ≠ c) : Row (w.setRow c cs) b t k l :=
  (_root_.Go.setRow_other w c b cs hc).trans h

theorem Row.drew {w : World} {b t : Nat} {k : IntKind} {l : List Nat} (h : Row w b t k l) : Row w.drew b t k l := by
  unfold Row at *
  exact h

theorem Row.alloc {w : World} {b t : Nat} {k : IntKind} {l : List Nat} (h : Row w b t k l) (o : Obj) : Row (w.alloc o) b t k l :=
  (Below.heap_alloc w o b h.lt).trans h

theorem Row.below {w w' : World} {b t B : Nat} {k : IntKind} {l : List Nat} (h : Row w b t k l) (hb : Below B w w') (hB : b < B) : Row w' b t k l :=
  (hb.block b hB).trans h

theorem Row.new (w : World) (t : TypeId) (k : IntKind) (l : List Nat) : Row (w.alloc (.cells (kV k l).toArray t)) w.heap.size t k l := by unfold Row; exact _root_.Go.heap_alloc_last w _

theorem Row.load {P : Program} {w : World} {b t ty : Nat} {k : IntKind} {l : List Nat} (h : Row w b t k l) (d : TypeDesc) (hu : P.underlying ty = some d)
    (hd : (match d with | .struct _ | .array _ _ => true | _ => false) = true) (hi : (P.info? ty).map (·.size) = some l.length) :
    (loadVar ty ⟨b, 0, none⟩).run P w = .ok (.agg (kV k l).toArray) w :=
  run_loadVar_row w b t ty _ (0, 0) d h hu hd (by rw [hi]; simp [kV])

theorem kV_one (k : IntKind) (l : List Nat) : (kV k l).toArray.all (·.oneCell') = true := by
  rw [Array.all_eq_true']
  intro v hv
  simp [kV] at hv
  obtain ⟨n, _, rfl⟩ := hv
  rfl

theorem Row.store {P : Program} {w : World} {b t ty : Nat} {k k' : IntKind} {l l' : List Nat} (h : Row w b t k l) (hl : l.length = l'.length) (hi : (P.info? ty).map (·.size) = some l'.length) :
    (storeVar ty ⟨b, 0, none⟩ (.agg (kV k' l').toArray)).run P w = .ok () (w.setRow b (kV k' l').toArray) :=
  run_storeVar_row w b t ty _ _ h (by rw [hi]; simp [kV]) (by simp [kV, hl]) (kV_one _ _)

theorem Row.stored {w : World} {b t : Nat} {k k' : IntKind} {l l' : List Nat} (h : Row w b t k l) : Row (w.setRow b (kV k' l').toArray) b t k' l' :=
  setRow_heap w b _ _ t _ h

/-- l, and zeros up to n. -/
def padZ (n : Nat) (l : List Nat) : List Nat := l ++ List.replicate (n - l.length) 0

theorem padZ_length (n : Nat) (l : List Nat) (h : l.length ≤ n) : (padZ n l).length = n := by simp [padZ]; omega

theorem padZ_getD (n : Nat) (l : List Nat) (j : Nat) (h : j < l.length) : (padZ n l).getD j 0 = l.getD j 0 := by
  simp [padZ, List.getElem?_append, h]

theorem padZ_set (n : Nat) (l : List Nat) (x : Nat) (h : l.length < n) : (padZ n l).set l.length x = padZ n (l ++ [x]) := by
  unfold padZ
  rw [List.set_append_right _ _ (Nat.le_refl _)]
  obtain ⟨m, hm⟩ : ∃ m, n - l.length = m + 1 := ⟨n - l.length - 1, by omega⟩
  rw [hm, List.replicate_succ]
  simp
  congr 1
  omega

theorem padZ_full (n : Nat) (l : List Nat) (h : l.length = n) : padZ n l = l := by simp [padZ, h]

end Go.Proofs.YtfbdbeaijkhbfaaDoor
