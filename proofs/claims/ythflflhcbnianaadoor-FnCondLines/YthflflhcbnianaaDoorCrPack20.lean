/- A block that is known whole, kept while memory grows; and what l01PickInt answers of a list that is laid whole: one of the list. -/
import Derived.Test.YthflflhcbnianaaDoorCrPack17
import Derived.Test.YthflflhcbnianaaDoorCrPack4
import Derived.Handy
namespace Go.Proofs.YthflflhcbnianaaDoor
open Go.RowKit
set_option linter.unusedVariables false

/-- Block k is known whole. -/
def Blk (W : World) (k : Nat) (l : List Value) (t : TypeId) : Prop := W.heap[k]? = some (.cells l.toArray t (0, 0))

theorem ne_some {a b : Nat} (h : a ≠ b) : some a ≠ some b := fun e => h (Option.some.inj e)

theorem Blk.new (W : World) (l : List Value) (t : TypeId) : Blk (W.alloc (.cells l.toArray t)) W.heap.size l t := by
  unfold Blk World.alloc; simp

theorem Blk.lt {W : World} {k : Nat} {l : List Value} {t : TypeId} (h : Blk W k l t) : k < W.heap.size := (Array.getElem?_eq_some_iff.1 h).1

theorem Blk.cell {W : World} {k : Nat} {l : List Value} {t : TypeId} (h : Blk W k l t) (i : Nat) (v : Value) (hv : l[i]? = some v) : W.cell? ⟨k, i, none⟩ = some v := cell_in h (by simpa using hv)

theorem Blk.free {W : World} {k : Nat} {l : List Value} {t : TypeId} (h : Blk W k l t) (i : Nat) : W.frozen? ⟨k, i, none⟩ = false := free_in h

theorem Blk.grown {W W' : World} {k : Nat} {l : List Value} {t : TypeId} {row : Option Nat} (h : Blk W k l t) (hg : W.grownBy W' row) (hk : some k ≠ row) : Blk W' k l t := (hg.block k h.lt hk).trans h

theorem Blk.ext {W W' : World} {k : Nat} {l : List Value} {t : TypeId} (h : Blk W k l t) (hE : Ext W W') : Blk W' k l t := (hE.block k h.lt).trans h

theorem Blk.alloc {W : World} {k : Nat} {l : List Value} {t : TypeId} (h : Blk W k l t) (o : Obj) : Blk (W.alloc o) k l t := h.ext (Ext.one W o)

theorem Cur.alloc {W : World} {p : Nat} {a : Option Addr} {len cap : Nat} (h : Cur W p a len cap) (o : Obj) : Cur (W.alloc o) p a len cap :=
  h.kept (row := none) ⟨rfl, rfl, rfl, by simp, fun k hk _ => Below.heap_alloc _ _ _ hk⟩ (by simp) (fun _ _ _ _ => by simp)

theorem grown_alloc {W W' : World} {row : Option Nat} (h : W.grownBy W' row) (o : Obj) : W.grownBy (W'.alloc o) row :=
  ⟨h.os, h.tape, h.output, by simp; have := h.size; omega, fun k hk hne => (Below.heap_alloc _ _ _ (by have := h.size; omega)).trans (h.block k hk hne)⟩

theorem grown_refl (W : World) (row : Option Nat) : W.grownBy W row := ⟨rfl, rfl, rfl, Nat.le_refl _, fun _ _ _ => rfl⟩

theorem grown_store {W W' : World} {row : Option Nat} (h : W.grownBy W' row) {k : Nat} (hk : W.heap.size ≤ k) (i : Nat) (v : Value) : W.grownBy (W'.setCell ⟨k, i, none⟩ v) row :=
  ⟨h.os, h.tape, h.output, by rw [World.size_setCell]; exact h.size, fun j hj hne => (Below.heap_setCell _ _ _ _ (by show j ≠ k; omega)).trans (h.block j hj hne)⟩

/-- A store into a block that was not there when the cursor was at w. -/
theorem Cur.store {w W : World} {p : Nat} {a : Option Addr} {len cap : Nat} (h : Cur W p a len cap) (h0 : Cur w p a len cap) {k : Nat} (hk : w.heap.size ≤ k) (i : Nat) (v : Value) : Cur (W.setCell ⟨k, i, none⟩ v) p a len cap :=
  h.kept grown_set (by have := h0.lt; simp; omega) (fun b off e hl => by have := h0.code b off e hl; simp; omega)

theorem pick_list (zs : List Int) (q p : Nat) (a : Option Addr) (len cap : Nat) (w : World) (hC : Cur w p a len cap) (hq : Blk w q (zs.map (Value.int .i64)) 3) (hqp : q ≠ p) (h0 : 0 < zs.length) (hn : zs.length ≤ 256) :
    Calls Tryd.prog 67 #[.pointer (some ⟨p, 0, none⟩), .slice (some ⟨q, 0, none⟩) zs.length zs.length] w fun e w' => ∃ z : Int, z ∈ zs ∧ e = .returned (.int .i64 z) ∧ Cur w' p a len cap ∧ w.grownBy w' (some p) :=
  pick_at zs.length _ q p a len cap w zs hC hq hqp h0 hn (fun j hj => ⟨zs[j], List.getElem_mem hj, by simp [hj]⟩)

end Go.Proofs.YthflflhcbnianaaDoor
