/- What the laws' helpers over slices of lines answer: szLineS, toLineS, eqLineS. -/
import Derived.Test.YthflflhcbnianaaDoorCrPack24
import Derived.Handy
import Derived.Deep.Cut
import Derived.Test.YthflflhcbnianaaDoorCrPack23
import Derived.Deep.RegionHeld3
/- What the laws' helpers szLine, toLine, eqLine answer; a law's slice of lines opened. -/
namespace Go.Proofs.YthflflhcbnianaaDoor
open Go.ChangeShapes Go.WideShapes Go.ChangeAt Go.RowKit Go.Joins Go.Deep
set_option linter.unusedVariables false

end Go.Proofs.YthflflhcbnianaaDoor

namespace Go.Proofs.YthflflhcbnianaaDoor
open Go.RowKit
set_option linter.unusedVariables false

theorem Tryd.infoLn : (Tryd.prog.info? 38).map (fun i => (i.zero, i.size, i.bytes)) = some (some (.agg #[.string ⟨#[]⟩, .int .i64 0, .int .i64 0, .int .i64 0, .int .i64 0, .string ⟨#[]⟩, .string ⟨#[]⟩]), 7, 80) := by kernel_rfl

/-- A line is stored into seven cells of a row. -/
def put7 (W : World) (g o : Nat) (l : Ln) : World := (((((((W.setCell ⟨g, o, none⟩ (.string l.lab)).setCell ⟨g, o + 1, none⟩ (.int .i64 l.wd.1)).setCell ⟨g, o + 2, none⟩ (.int .i64 l.wd.2.1)).setCell ⟨g, o + 3, none⟩ (.int .i64 l.wd.2.2.1)).setCell ⟨g, o + 4, none⟩ (.int .i64 l.wd.2.2.2)).setCell ⟨g, o + 5, none⟩ (.string l.yes)).setCell ⟨g, o + 6, none⟩ (.string l.no))

theorem put7_far (W : World) (g o : Nat) (l : Ln) (q : Addr) (h : ∀ i, i < 7 → q ≠ ⟨g, o + i, none⟩) : (put7 W g o l).cell? q = W.cell? q := by
  unfold put7
  rw [set_far (h 6 (by omega)), set_far (h 5 (by omega)), set_far (h 4 (by omega)), set_far (h 3 (by omega)), set_far (h 2 (by omega)), set_far (h 1 (by omega))]
  exact set_far (h 0 (by omega))

theorem cell_set (W : World) (g i j : Nat) (u v : Value) (h : W.cell? ⟨g, j, none⟩ = some u) : (W.setCell ⟨g, i, none⟩ v).cell? ⟨g, j, none⟩ = some (if j = i then v else u) := by
  by_cases e : j = i
  · subst e; rw [if_pos rfl]; exact set_same _ h
  · rw [if_neg e, set_far (off_ne e)]; exact h

theorem Hept.far {W : World} {g o o' b : Nat} {l q : Ln} (h : Hept W b o q) (hne : b ≠ g ∨ o + 7 ≤ o' ∨ o' + 7 ≤ o) : Hept (put7 W g o' l) b o q := by
  have hf : ∀ j, j < 7 → (put7 W g o' l).cell? ⟨b, o + j, none⟩ = W.cell? ⟨b, o + j, none⟩ := fun j hj => put7_far W g o' l _ fun i hi e => by
    injection e with e1 e2
    omega
  obtain ⟨h0, h1, h2, h3, h4, h5, h6⟩ := h
  exact ⟨(hf 0 (by omega)).trans h0, (hf 1 (by omega)).trans h1, (hf 2 (by omega)).trans h2, (hf 3 (by omega)).trans h3, (hf 4 (by omega)).trans h4, (hf 5 (by omega)).trans h5, (hf 6 (by omega)).trans h6⟩

end Go.Proofs.YthflflhcbnianaaDoor
