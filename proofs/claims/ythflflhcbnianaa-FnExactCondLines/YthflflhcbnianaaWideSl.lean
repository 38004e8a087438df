/- What the laws' helpers over slices of wide numbers and over calls answer: szWideS, toWideS, eqWideS, szCall, toCall, eqCall. -/
import Derived.Test.YthflflhcbnianaaToWide
import Derived.Test.YthflflhcbnianaaLoose
import Derived.Test.YthflflhcbnianaaCallIS
import Derived.Deep.RegionHeld3
import Derived.Handy
namespace Go.Proofs.Ythflflhcbnianaa
open Go.RowKit
set_option linter.unusedVariables false

theorem Try.infoW : (Try.prog.info? 28).map (fun i => (i.zero, i.size, i.bytes)) = some (some (.agg #[.int .i64 0, .int .i64 0]), 2, 16) := by kernel_rfl

/-- What make lays for a slice of wide numbers: noughts that may be written. -/
theorem made_wides {w : World} {base g n c : Nat} (h : w.ownsRow base 28 2 (.slice (some ⟨g, 0, none⟩) n c) n (madeCells (Value.agg #[.int .i64 0, .int .i64 0]).cells (n * 2)).toList) :
    g < w.heap.size ∧ ∀ j, j < n * 2 → w.cell? ⟨g, j, none⟩ = some (.int .i64 0) ∧ w.frozen? ⟨g, j, none⟩ = false := by
  rcases h.2 with ⟨hn, _⟩ | ⟨g', cap, cur, hv, _, hh, _, _, hs, ht⟩
  · cases hn
  · obtain ⟨rfl, _⟩ : g = g' ∧ c = cap := by injection hv with h1 h2 h3; injection h1 with h1; injection h1 with a b c; exact ⟨a, h3⟩
    refine ⟨(Array.getElem?_eq_some_iff.1 hh).1, fun j hj => ⟨?_, frozen_of_row w g j cur 28 hh⟩⟩
    rw [cell_of_row w g j cur 28 _ hh]
    have : (madeCells (Value.agg #[.int .i64 0, .int .i64 0]).cells (n * 2)).toList[j]? = some (.int .i64 0) := by
      have h2 : j % 2 = 0 ∨ j % 2 = 1 := by omega
      rcases h2 with h2 | h2 <;> simp [madeCells, Value.cells, hj, h2]
    rw [← ht, List.getElem?_take, if_pos hj] at this
    simpa using this

/-- Two numbers lie side by side in an old block. -/
def Pair (w : World) (b o : Nat) (x y : Int) : Prop := b < w.heap.size ∧ w.cell? ⟨b, o, none⟩ = some (.int .i64 x) ∧ w.cell? ⟨b, o + 1, none⟩ = some (.int .i64 y)

theorem Pair.step {w w' : World} {b o : Nat} {x y : Int} (h : Pair w b o x y) (hE : Ext w w') : Pair w' b o x y :=
  ⟨Nat.lt_of_lt_of_le h.1 hE.size, (hE.cell (p := ⟨b, o, none⟩) h.1).trans h.2.1, (hE.cell (p := ⟨b, o + 1, none⟩) h.1).trans h.2.2⟩

theorem Wides.pair {w : World} {a : Option Addr} {ws : List (Int × Int)} (h : Wides w a ws) {k : Nat} (hk : k < ws.length) {x y : Int} (hp : (x, y) = ws.getD k (0, 0)) : ∃ b off, a = some ⟨b, off, none⟩ ∧ Pair w b (off + k * 2) x y := by
  obtain ⟨b, off, ha, hb, hc⟩ := h (by omega)
  refine ⟨b, off, ha, hb, ?_⟩
  have := hc k hk
  rw [← hp] at this
  exact this

theorem Wides.set {w : World} {g o : Nat} {ws : List (Int × Int)} (h : Wides w (some ⟨g, o, none⟩) ws) {k : Nat} (i : Nat) (hk : k ≠ g) (v : Value) : Wides (w.setCell ⟨k, i, none⟩ v) (some ⟨g, o, none⟩) ws := fun hp => by
  obtain ⟨b, off, ha, hb, hc⟩ := h hp
  have hbg : g = b := by injection ha with ha; injection ha
  subst hbg
  refine ⟨g, off, ha, by rw [World.size_setCell]; exact hb, fun j hj => ?_⟩
  obtain ⟨e1, e2⟩ := hc j hj
  exact ⟨by rw [World.cell?_setCell_other _ _ _ _ (by simp; try omega)]; exact e1, by rw [World.cell?_setCell_other _ _ _ _ (by simp; try omega)]; exact e2⟩

end Go.Proofs.Ythflflhcbnianaa
