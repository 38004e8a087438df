/- A block that is known whole, kept while memory grows; and what l01PickInt answers of a list that is laid whole: one of the list. -/
import Derived.Test.YthflflhcbnianaaDoorRlPack16
import Derived.Test.YthflflhcbnianaaDoorRlPack4
import Derived.Handy
namespace Go.Proofs.YthflflhcbnianaaDoor
open Go.RowKit
set_option linter.unusedVariables false

/-- Block k is known whole. -/
def Blk (W : World) (k : Nat) (l : List Value) (t : TypeId) : Prop := W.heap[k]? = some (.cells l.toArray t (0, 0))

theorem Blk.new (W : World) (l : List Value) (t : TypeId) : Blk (W.alloc (.cells l.toArray t)) W.heap.size l t := by
  unfold Blk World.alloc; simp

theorem Blk.lt {W : World} {k : Nat} {l : List Value} {t : TypeId} (h : Blk W k l t) : k < W.heap.size := (Array.getElem?_eq_some_iff.1 h).1

theorem Blk.cell {W : World} {k : Nat} {l : List Value} {t : TypeId} (h : Blk W k l t) (i : Nat) (v : Value) (hv : l[i]? = some v) : W.cell? ⟨k, i, none⟩ = some v := cell_in h (by simpa using hv)

theorem Blk.free {W : World} {k : Nat} {l : List Value} {t : TypeId} (h : Blk W k l t) (i : Nat) : W.frozen? ⟨k, i, none⟩ = false := free_in h

theorem Blk.grown {W W' : World} {k : Nat} {l : List Value} {t : TypeId} {row : Option Nat} (h : Blk W k l t) (hg : W.grownBy W' row) (hk : some k ≠ row) : Blk W' k l t := (hg.block k h.lt hk).trans h

theorem Blk.ext {W W' : World} {k : Nat} {l : List Value} {t : TypeId} (h : Blk W k l t) (hE : Ext W W') : Blk W' k l t := (hE.block k h.lt).trans h

theorem Blk.alloc {W : World} {k : Nat} {l : List Value} {t : TypeId} (h : Blk W k l t) (o : Obj) : Blk (W.alloc o) k l t := h.ext (Ext.one W o)

theorem Cur.alloc {W : World} {p : Nat} {a : Option Addr} {len cap : Nat} (h : Cur W p a len cap) (o : Obj) : Cur (W.alloc o) p a len cap :=
  h.kept (row := none) ⟨rfl, rfl, rfl, by simp, fun k hk _ => Below.heap_alloc _ _ _ hk⟩ (by simp) (fun _ _ _ _ => by simp)

end Go.Proofs.YthflflhcbnianaaDoor
