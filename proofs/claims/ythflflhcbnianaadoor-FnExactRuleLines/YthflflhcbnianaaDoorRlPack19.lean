/- The laws' argument opened: a condition. -/
import Derived.Test.YthflflhcbnianaaDoorRlPack13
import Derived.ProofKit
import Derived.OpenShut
import Derived.Lib.SmallJoins
import Derived.Deep.SlicePairs
/- The laws' arguments opened: a wide number, a call. -/
namespace Go.Proofs.YthflflhcbnianaaDoor
open Go.ChangeShapes Go.WideShapes Go.ChangeAt Go.RowKit Go.Joins Go.Deep
set_option linter.unusedVariables false

theorem cellsLW : Tryd.prog.cellsOf 121 = 2 := by kernel_rfl

theorem cells34 : Tryd.prog.cellsOf 3 = 1 := by kernel_rfl

theorem cellsLCo : Tryd.prog.cellsOf 123 = 6 := by kernel_rfl

set_option maxRecDepth 100000 in
theorem trod_cond {H : Type} {enc : TypeId × Value → H} {W : World} {base n : Nat} {sp : Nat → Bool} {held : Bool} {cs : List Value} {y : DataW H × List MemPlace}
    (h : DataW.trod enc Tryd.prog W base sp held n 123 cs = some y) : ∃ c : CN, cs = c.l := by
  obtain ⟨y0, y1, y2, y3, k, _, hl, g0, g1, g2, g3⟩ := trod_struct4 Tryd.underlying123 h
  rw [cellsLCo] at hl
  match cs, hl with
  | [v0, v1, v2, v3, v4, v5], _ =>
    simp [cells34, cellsLW] at g0 g1 g2 g3
    obtain ⟨x0, e0, _, _⟩ := DataW.trod_int Tryd.underlying3 g0
    obtain ⟨x3, e3, _, _⟩ := DataW.trod_int Tryd.underlying3 g2
    obtain ⟨z0, z1, m, _, _, a0, a1⟩ := trod_struct2 Tryd.underlying121 g1
    obtain ⟨t0, t1, m', _, _, b0, b1⟩ := trod_struct2 Tryd.underlying121 g3
    simp [cells34] at a0 a1 b0 b1
    obtain ⟨x1, e1, _, _⟩ := DataW.trod_int Tryd.underlying3 a0
    obtain ⟨x2, e2, _, _⟩ := DataW.trod_int Tryd.underlying3 a1
    obtain ⟨x4, e4, _, _⟩ := DataW.trod_int Tryd.underlying3 b0
    obtain ⟨x5, e5, _, _⟩ := DataW.trod_int Tryd.underlying3 b1
    simp at e0 e1 e2 e3 e4 e5
    exact ⟨⟨x0, x1, x2, x3, x4, x5⟩, by simp [CN.l, e0, e1, e2, e3, e4, e5]⟩

end Go.Proofs.YthflflhcbnianaaDoor
