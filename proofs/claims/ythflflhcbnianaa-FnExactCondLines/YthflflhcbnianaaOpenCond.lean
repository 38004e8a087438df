/- The laws' argument opened: a condition. -/
import Derived.Test.YthflflhcbnianaaOpenCall
import Derived.Test.YthflflhcbnianaaPolMath
namespace Go.Proofs.Ythflflhcbnianaa
open Go.ChangeShapes Go.WideShapes Go.ChangeAt Go.RowKit Go.Joins Go.Deep
set_option linter.unusedVariables false

theorem cellsLCo : Try.prog.cellsOf 25 = 6 := by kernel_rfl

set_option maxRecDepth 100000 in
theorem trod_cond {H : Type} {enc : TypeId × Value → H} {W : World} {base n : Nat} {sp : Nat → Bool} {held : Bool} {cs : List Value} {y : DataW H × List MemPlace}
    (h : DataW.trod enc Try.prog W base sp held n 25 cs = some y) : ∃ c : CN, cs = c.l := by
  obtain ⟨y0, y1, y2, y3, k, _, hl, g0, g1, g2, g3⟩ := trod_struct4 Try.underlying25 h
  rw [cellsLCo] at hl
  match cs, hl with
  | [v0, v1, v2, v3, v4, v5], _ =>
    simp [cells34, cellsLW] at g0 g1 g2 g3
    obtain ⟨x0, e0, _, _⟩ := DataW.trod_int Try.underlying3 g0
    obtain ⟨x3, e3, _, _⟩ := DataW.trod_int Try.underlying3 g2
    obtain ⟨z0, z1, m, _, _, a0, a1⟩ := trod_struct2 Try.underlying23 g1
    obtain ⟨t0, t1, m', _, _, b0, b1⟩ := trod_struct2 Try.underlying23 g3
    simp [cells34] at a0 a1 b0 b1
    obtain ⟨x1, e1, _, _⟩ := DataW.trod_int Try.underlying3 a0
    obtain ⟨x2, e2, _, _⟩ := DataW.trod_int Try.underlying3 a1
    obtain ⟨x4, e4, _, _⟩ := DataW.trod_int Try.underlying3 b0
    obtain ⟨x5, e5, _, _⟩ := DataW.trod_int Try.underlying3 b1
    simp at e0 e1 e2 e3 e4 e5
    exact ⟨⟨x0, x1, x2, x3, x4, x5⟩, by simp [CN.l, e0, e1, e2, e3, e4, e5]⟩

set_option maxRecDepth 100000 in
theorem open_cond {H : Type} {enc : TypeId × Value → H} {W : World} {base b0 : Nat} {sp : Nat → Bool} {held : Bool} {r : Reach} {v : Value} {d : DataW H} {p : List MemPlace}
    (hv : Value.okWide Try.prog W r b0 25 v) (h : DataW.Trod enc Try.prog W base sp held 25 v d p) : ∃ a b c d e f : Int, v = .agg #[.int .i64 a, .int .i64 b, .int .i64 c, .int .i64 d, .int .i64 e, .int .i64 f] := by
  obtain ⟨cs, rfl, hsz⟩ := okWide_struct Try.underlying25 hv
  obtain ⟨fuel, hf⟩ := h
  obtain ⟨c, hc⟩ := trod_cond hf
  refine ⟨c.arg, c.mh, c.ml, c.cm, c.vh, c.vl, ?_⟩
  simp only [Value.cells] at hc
  congr 1
  exact Array.ext' (by simpa [CN.l] using hc)

end Go.Proofs.Ythflflhcbnianaa
