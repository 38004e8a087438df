/- From a row's list of the program's two tables to their cells. -/
import Derived.Test.YtfbdbeaijkhbfaaDoorShaTab
import Derived.Lib.LaidU8
namespace Go.Proofs.YtfbdbeaijkhbfaaDoor
open Go.RowKit
set_option linter.unusedVariables false

theorem tB : (Tryd.prog.globals[0]?).map (·.type) = some 45 := by kernel_rfl
theorem tK : (Tryd.prog.globals[1]?).map (·.type) = some 58 := by kernel_rfl
theorem cellsB : Tryd.prog.cellsOf 45 = 8 := by kernel_rfl
theorem cellsK : Tryd.prog.cellsOf 58 = 64 := by kernel_rfl
theorem cellsE : Tryd.prog.cellsOf 44 = 1 := by kernel_rfl
theorem datumB : (Rows.laid_loop_example_g00397_impl_shaBegin : DataW Unit) = Lib.tabData .u32 beginZ := by kernel_rfl
theorem datumK : (Rows.laid_loop_example_g00397_impl_shaRounds : DataW Unit) = Lib.tabData .u32 keysZ := by kernel_rfl

theorem tabB_of {W : World} {l : List (String × DataW Unit)} (h : laidMet Tryd.prog l W) (hm : ("loop.example/g00397/impl.shaBegin", Rows.laid_loop_example_g00397_impl_shaBegin) ∈ l) : TabB W := by
  obtain ⟨g, t, cs, fuel, p, h1, h2, h3, h4⟩ := Lib.laidMet.reads h hm
  obtain rfl := Option.some.inj (gBegin.symm.trans h1)
  obtain rfl := Option.some.inj (tB.symm.trans h2)
  rw [datumB] at h4
  unfold TabB Lib.TabIs
  rw [h3, ← Lib.cells_of_tab Tryd.underlying45 Tryd.underlying44 cellsE cellsB h4]

theorem tabK_of {W : World} {l : List (String × DataW Unit)} (h : laidMet Tryd.prog l W) (hm : ("loop.example/g00397/impl.shaRounds", Rows.laid_loop_example_g00397_impl_shaRounds) ∈ l) : TabK W := by
  obtain ⟨g, t, cs, fuel, p, h1, h2, h3, h4⟩ := Lib.laidMet.reads h hm
  obtain rfl := Option.some.inj (gKeys.symm.trans h1)
  obtain rfl := Option.some.inj (tK.symm.trans h2)
  rw [datumK] at h4
  unfold TabK Lib.TabIs
  rw [h3, ← Lib.cells_of_tab Tryd.underlying58 Tryd.underlying44 cellsE cellsK h4]

end Go.Proofs.YtfbdbeaijkhbfaaDoor
