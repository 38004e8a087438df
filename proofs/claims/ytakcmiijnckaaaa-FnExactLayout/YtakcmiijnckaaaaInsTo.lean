/- What the laws' own toIns and eqIns answer; a law's word opened. -/
import Derived.Test.YtakcmiijnckaaaaInsOkA
import Derived.ProofKit
import Derived.OpenShut
import Derived.Lib.SmallJoins
namespace Go.Proofs.Ytakcmiijnckaaaa
open Go.ChangeShapes Go.WideShapes Go.ChangeAt Go.RowKit Go.Joins
set_option linter.unusedVariables false

set_option maxHeartbeats 800000 in
theorem toIns_any (o k y n : Int) (w : World) : Calls Try.prog 79 #[.agg #[.int .i64 o, .int .i64 k, .int .i64 y, .int .i64 n]] w fun e w' => e = .returned (.agg #[.int .i64 o, .int .i64 k, .int .i64 y, .int .i64 n]) ∧ Ext w w' := by
  go_enter Try.func79, Try.ntmps79
  go_wp2
  refine bodyPost_ret (v := .agg #[.int .i64 o, .int .i64 k, .int .i64 y, .int .i64 n]) (by simp [results, Try.results79, go_sem]) rfl ⟨rfl, ?_⟩
  exact ((Ext.one _ _).alloc _).alloc _

theorem eqIns_same (o k y n : Int) (w : World) : Calls Try.prog 60 #[.agg #[.int .i64 o, .int .i64 k, .int .i64 y, .int .i64 n], .agg #[.int .i64 o, .int .i64 k, .int .i64 y, .int .i64 n]] w fun e w' => e = .returned (.bool true) ∧ Ext w w' := by
  go_enter Try.func60, Try.ntmps60
  go_wp2
  go_ret
  exact ⟨rfl, (Ext.one _ _).alloc _⟩

theorem cellsLI : Try.prog.cellsOf 81 = 4 := by kernel_rfl

theorem cells3 : Try.prog.cellsOf 3 = 1 := by kernel_rfl

set_option maxRecDepth 100000 in
theorem open_ins {H : Type} {enc : TypeId × Value → H} {W : World} {base b0 : Nat} {sp : Nat → Bool} {held : Bool} {r : Reach} {v : Value} {d : DataW H} {p : List MemPlace}
    (hv : Value.okWide Try.prog W r b0 81 v) (h : DataW.Trod enc Try.prog W base sp held 81 v d p) : ∃ a b c e : Int, v = .agg #[.int .i64 a, .int .i64 b, .int .i64 c, .int .i64 e] := by
  obtain ⟨c0, c1, c2, c3, y0, y1, y2, y3, m, rfl, rfl, rfl, hy0, hy1, hy2, hy3⟩ := open_agg4 Try.underlying81 (by kernel_rfl) cellsLI hv h
  obtain ⟨a, e0, _, _⟩ := DataW.trod_int Try.underlying3 hy0
  obtain ⟨b, e1, _, _⟩ := DataW.trod_int Try.underlying3 hy1
  obtain ⟨c, e2, _, _⟩ := DataW.trod_int Try.underlying3 hy2
  obtain ⟨e, e3, _, _⟩ := DataW.trod_int Try.underlying3 hy3
  simp at e0 e1 e2 e3
  exact ⟨a, b, c, e, by rw [e0, e1, e2, e3]⟩

end Go.Proofs.Ytakcmiijnckaaaa
