/- Rows of numbers that a call made itself, each number told by its place. -/
import Derived.Test.YtakcmiijnckaaaaLineSl
import Derived.Test.YtakcmiijnckaaaaPlaces
import Derived.Deep.AppendLies
namespace Go.Proofs.Ytakcmiijnckaaaa
open Go.RowKit
set_option linter.unusedVariables false

/-- Block g holds n numbers from its head on, f told, which may be written. -/
def RowF (w : World) (g n : Nat) (f : Nat → Int) : Prop := g < w.heap.size ∧ ∀ j, j < n → w.cell? ⟨g, j, none⟩ = some (.int .i64 (f j)) ∧ w.frozen? ⟨g, j, none⟩ = false

theorem RowF.below {w w' : World} {g n B : Nat} {f : Nat → Int} (h : RowF w g n f) (hb : Below B w w') (hB : g < B) : RowF w' g n f :=
  ⟨Nat.lt_of_lt_of_le h.1 hb.size, fun j hj => ⟨(hb.cell (p := ⟨g, j, none⟩) hB).trans (h.2 j hj).1, (hb.frozen (p := ⟨g, j, none⟩) hB).trans (h.2 j hj).2⟩⟩

theorem RowF.ext {w w' : World} {g n : Nat} {f : Nat → Int} (h : RowF w g n f) (hE : Ext w w') : RowF w' g n f := h.below hE h.1

theorem RowF.as {w : World} {g n : Nat} {f t : Nat → Int} (h : RowF w g n f) (he : ∀ j, j < n → f j = t j) : RowF w g n t :=
  ⟨h.1, fun j hj => ⟨by rw [← he j hj]; exact (h.2 j hj).1, (h.2 j hj).2⟩⟩

/-- One number is written. -/
def setF (f : Nat → Int) (i : Nat) (v : Int) : Nat → Int := fun j => if j = i then v else f j

theorem RowF.set {w : World} {g n : Nat} {f : Nat → Int} (h : RowF w g n f) {i : Nat} (hi : i < n) (v : Int) : RowF (w.setCell ⟨g, i, none⟩ (.int .i64 v)) g n (setF f i v) := by
  refine ⟨by rw [World.size_setCell]; exact h.1, fun j hj => ⟨?_, by rw [World.frozen?_setCell]; exact (h.2 j hj).2⟩⟩
  unfold setF
  by_cases e : j = i
  · subst e; rw [if_pos rfl]; exact set_same _ (h.2 j hj).1
  · rw [if_neg e, set_far (off_ne e)]; exact (h.2 j hj).1

theorem RowF.far {w : World} {g n : Nat} {f : Nat → Int} (h : RowF w g n f) {k i : Nat} (hk : g ≠ k) (v : Value) : RowF (w.setCell ⟨k, i, none⟩ v) g n f :=
  ⟨by rw [World.size_setCell]; exact h.1, fun j hj => ⟨by rw [set_far (fun e => hk (by injection e))]; exact (h.2 j hj).1, by rw [World.frozen?_setCell]; exact (h.2 j hj).2⟩⟩

/-- The values of the first n. -/
def valsF (f : Nat → Int) (n : Nat) : List Value := (List.range n).map fun i => .int .i64 (f i)

theorem valsF_length (f : Nat → Int) (n : Nat) : (valsF f n).length = n := by simp [valsF]

theorem valsF_succ (f : Nat → Int) (n : Nat) : valsF f n ++ [.int .i64 (f n)] = valsF f (n + 1) := by simp [valsF, List.range_succ]

theorem valsF_at (f : Nat → Int) {n j : Nat} (h : j < n) : (valsF f n)[j]? = some (.int .i64 (f j)) := by simp [valsF, h]

theorem own_rowF {w : World} {B n : Nat} {v : Value} {f : Nat → Int} (h : w.ownsRow B 3 1 v n (valsF f n)) (hn : 0 < n) : ∃ g cap, v = .slice (some ⟨g, 0, none⟩) n cap ∧ n ≤ cap ∧ B ≤ g ∧ RowF w g n f := by
  have hown := h
  rcases h.2 with ⟨rfl, h0⟩ | ⟨g, cap, cur, rfl, hg, hh, hnc, hcp, hcs, htake⟩
  · omega
  · refine ⟨g, cap, rfl, hnc, hg, (Array.getElem?_eq_some_iff.1 hh).1, fun j hj => ⟨?_, frozen_of_row w g j cur 3 hh⟩⟩
    have hc := hown.cells (g := g) rfl j _ (valsF_at f hj)
    rwa [Addr.add_lit, Nat.zero_add] at hc

theorem ext_row {w W W' : World} {row : Option Nat} (h : Ext w W) (hg : W.grownBy W' row) (hr : ∀ x, row = some x → w.heap.size ≤ x) : Ext w W' :=
  ⟨hg.os.trans h.os, hg.tape.trans h.tape, hg.output.trans h.output, Nat.le_trans h.size hg.size, fun i hi => (hg.block i (Nat.lt_of_lt_of_le hi h.size) (fun e => by have := hr i e.symm; omega)).trans (h.block i hi)⟩

theorem own_from {w : World} {base e size : Nat} {v : Value} {n : Nat} {xs : List Value} (h : w.ownsRow base e size v n xs) {x : Nat} (hx : v.ownBlock = some x) : base ≤ x := (h.lt x hx).1

end Go.Proofs.Ytakcmiijnckaaaa
