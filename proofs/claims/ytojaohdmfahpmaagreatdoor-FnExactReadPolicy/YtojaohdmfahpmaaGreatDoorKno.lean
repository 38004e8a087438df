/- Blocks that are known whole; rows that make has laid, cell by cell. -/
import Derived.Test.YtojaohdmfahpmaaGreatDoorRowz
import Derived.Handy
namespace Go.Proofs.YtojaohdmfahpmaaGreatDoor
open Go.RowKit
set_option linter.unusedVariables false

/-- Block k is known whole, and may be written. -/
def Kn (W : World) (k : Nat) (l : List Value) (t : TypeId) : Prop := W.heap[k]? = some (.cells l.toArray t (0, 0))

theorem Kn.new (W : World) (l : List Value) (t : TypeId) : Kn (W.alloc (.cells l.toArray t)) W.heap.size l t := by
  unfold Kn World.alloc; simp

theorem Kn.new' (W : World) (l : List Value) (t : TypeId) (k : Nat) (hk : k = W.heap.size) : Kn (W.alloc (.cells l.toArray t)) k l t := by
  subst hk; exact Kn.new W l t

theorem Kn.lt {W : World} {k : Nat} {l : List Value} {t : TypeId} (h : Kn W k l t) : k < W.heap.size := (Array.getElem?_eq_some_iff.1 h).1

theorem Kn.cell {W : World} {k : Nat} {l : List Value} {t : TypeId} (h : Kn W k l t) (i : Nat) (v : Value) (hv : l[i]? = some v) : W.cell? ⟨k, i, none⟩ = some v := by
  rw [cell_of_row W k i _ t (0, 0) h]; simpa using hv

theorem Kn.free {W : World} {k : Nat} {l : List Value} {t : TypeId} (h : Kn W k l t) (i : Nat) : W.frozen? ⟨k, i, none⟩ = false := frozen_of_row W k i _ t h

theorem Kn.ext {W W' : World} {k : Nat} {l : List Value} {t : TypeId} (h : Kn W k l t) (hE : Ext W W') : Kn W' k l t := (hE.block k h.lt).trans h

theorem Kn.alloc {W : World} {k : Nat} {l : List Value} {t : TypeId} (h : Kn W k l t) (o : Obj) : Kn (W.alloc o) k l t := h.ext (Ext.one W o)

theorem Kn.drew {W : World} {k : Nat} {l : List Value} {t : TypeId} (h : Kn W k l t) : Kn W.drew k l t := h

theorem Kn.set {W : World} {k : Nat} {l : List Value} {t : TypeId} (h : Kn W k l t) (i : Nat) (v : Value) : Kn (W.setCell ⟨k, i, none⟩ v) k (l.set i v) t := by
  unfold Kn World.setCell
  unfold Kn at h
  simp only [Array.getElem?_modify, if_true, h, Option.map_some]
  simp

theorem Kn.other {W : World} {k j : Nat} {l : List Value} {t : TypeId} (h : Kn W k l t) (hj : k ≠ j) (i : Nat) (v : Value) : Kn (W.setCell ⟨j, i, none⟩ v) k l t :=
  (Below.heap_setCell _ _ _ _ hj).trans h

theorem Ext.set {W W' : World} (h : Ext W W') {k : Nat} (hk : W.heap.size ≤ k) (i : Nat) (v : Value) : Ext W (W'.setCell ⟨k, i, none⟩ v) := Below.setCell (p := ⟨k, i, none⟩) h hk v

/-- What make lays may be written. -/
theorem made_free {w : World} {base e size g n c : Nat} {xs : List Value} (h : w.ownsRow base e size (.slice (some ⟨g, 0, none⟩) n c) n xs) (hx : xs.length = n * size) : FreeN w g (n * size) := by
  rcases h.2 with ⟨hn, _⟩ | ⟨g', cap, cur, hv, _, hh, _, _, hs, ht⟩
  · cases hn
  · obtain ⟨rfl, _⟩ : g = g' ∧ c = cap := by injection hv with h1 h2 h3; injection h1 with h1; injection h1 with a b c; exact ⟨a, h3⟩
    refine ⟨(Array.getElem?_eq_some_iff.1 hh).1, fun j hj => ⟨?_, frozen_of_row w g j cur e hh⟩⟩
    rw [cell_of_row w g j cur e _ hh]
    obtain ⟨u, h1⟩ : ∃ u, xs[j]? = some u := ⟨xs[j]'(by omega), List.getElem?_eq_getElem (by omega)⟩
    rw [← ht, List.getElem?_take] at h1
    by_cases hb : j < n * size
    · rw [if_pos hb] at h1
      exact ⟨u, by simpa using h1⟩
    · omega

theorem SegB.set {W : World} {b o k : Nat} {l : List Value} (h : b < W.heap.size ∧ Seg W b o l) (hk : b ≠ k) (i : Nat) (v : Value) : b < (W.setCell ⟨k, i, none⟩ v).heap.size ∧ Seg (W.setCell ⟨k, i, none⟩ v) b o l :=
  ⟨by rw [World.size_setCell]; exact h.1, fun j u hu => by rw [World.cell?_setCell_other _ _ _ _ (fun e => hk (by injection e with e1 e2; exact e1.symm))]; exact h.2 j u hu⟩

end Go.Proofs.YtojaohdmfahpmaaGreatDoor
