/- Proved: at every laws.Cond the law FnExactCondOk answers true, so impl.CondOk answers as spec.CondOk; no condition. -/
import Derived.Test.YtoknlaaghjlnaaaToCond
import Derived.Test.YtoknlaaghjlnaaaOpenCond
import Derived.WalkKit
import Derived.ProofKit
import Derived.OpenShut
import Derived.ShutString
import Derived.ChangeOld
import Derived.Below
import Derived.Deep.RegionHeld3
import Derived.Deep.RegionWith
namespace Go.Proofs.Ytoknlaaghjlnaaa.CondOk
open Go.ChangeShapes Go.WideShapes Go.ChangeAt Go.RowKit
open Go.ChangeMaps (open_string shut_string)
set_option linter.unusedVariables false

theorem own : ownKnob Try.prog.godebug = none := by kernel_rfl
theorem laidOut : laidOutB Try.prog = true := by kernel_rfl

set_option maxRecDepth 100000 in
set_option maxHeartbeats 1600000 in
theorem walk (a mh ml cm vh vl : Int) (w : World) : Calls Try.prog 5 #[.agg #[.int .i64 a, .int .i64 mh, .int .i64 ml, .int .i64 cm, .int .i64 vh, .int .i64 vl]] w fun e w' => e = .returned (.bool true) ∧ Below w.heap.size w w' := by
  go_enter Try.func5, Try.ntmps5
  go_wp2_with fail
  refine (toCond_any a mh ml cm vh vl _).mono ?_
  rintro e w1 ⟨rfl, x1⟩
  have c1 := (CellsAt.new w [.int .i64 a, .int .i64 mh, .int .i64 ml, .int .i64 cm, .int .i64 vh, .int .i64 vl] 57).step x1
  have X1 : Hid (Ext w w1) := (Ext.one w _).trans x1
  clear x1
  go_wp2_with fail
  refine (sCondOk_any a mh ml cm vh vl _).mono ?_
  rintro e w2 ⟨rfl, x2⟩
  have c2 := c1.step x2
  have X2 : Hid (Ext w w2) := X1.out.trans x2
  clear x2 c1
  obtain ⟨q0, q1, q2, q3, q4, q5⟩ := (⟨c2.2 0 _ rfl, c2.2 1 _ rfl, c2.2 2 _ rfl, c2.2 3 _ rfl, c2.2 4 _ rfl, c2.2 5 _ rfl⟩ : _ ∧ _ ∧ _ ∧ _ ∧ _ ∧ _)
  go_wp2_with fail
  refine (toCond_any a mh ml cm vh vl _).mono ?_
  rintro e w3 ⟨rfl, x3⟩
  have X3 : Hid (Ext w w3) := X2.out.trans x3
  clear x3 c2 q0 q1 q2 q3 q4 q5
  go_wp2_with fail
  refine (iCondOk_any a mh ml cm vh vl _).mono ?_
  rintro e w4 ⟨rfl, x4⟩
  have X4 : Hid (Ext w w4) := X3.out.trans x4
  clear x4
  generalize condB ⟨a, mh, ml, cm, vh, vl⟩ = z
  cases z
  · go_wp2
    go_ret
    exact ⟨rfl, X4.out⟩
  · go_wp2
    go_ret
    exact ⟨rfl, X4.out⟩

set_option maxRecDepth 100000 in
theorem lifted (os : Os) (started : os.Started) (H : Type) (enc : TypeId × Value → H) :
    ReturnsInHanded {} Try.checked os 5 .any (Rows.fnExactCondOkSpec.pre6 enc Try.prog Try.f5 Rows.fnExactCondOkRow.domain false) (Rows.fnExactCondOkSpec.post enc Try.prog Try.f5 false true false false) := by
  refine returnsInHanded_of_change (C := Try.checked) own started (by kernel_rfl) Try.func5
    (ChangeSpec.witness6 (enc := enc) (C := Try.checked) false ⟨#[], #[.agg #[.int .i64 0, .int .i64 0, .int .i64 0, .int .i64 0, .int .i64 0, .int .i64 0]], []⟩ 8 (by kernel_rfl) (by kernel_rfl) (by kernel_rfl) (by kernel_rfl)) ?_
  intro W base args ds gs before hval0 hW hcnd _
  have hval : ∀ (j : Nat) t v, Try.f5.params[j]? = some t → args[j]? = some v → Value.okWide Try.prog W .any base t v := hval0
  have hW' := hW
  obtain ⟨p, q, hA0, hV, rfl, hfz, hnd⟩ := hW
  have hA : DataW.TrodAll enc Try.prog W 0 (fun _ => true) true Try.f5.params.toList args.toList ds p := hA0
  rw [Try.params5] at hA hval
  obtain ⟨v0, vs0, d0, ds0, p0, q0, hargs, rfl, rfl, h0, r0⟩ := trodAll_cons hA
  obtain ⟨rfl, rfl, rfl⟩ := trodAll_nil r0
  obtain rfl : args = #[v0] := by cases args; simp_all
  obtain ⟨rfl, rfl⟩ := trodVars_none hV
  have lt0 : ∀ x ∈ p0, x.block < W.heap.size := by obtain ⟨m, hm⟩ := h0; exact DataW.trod_lt m _ _ _ hm
  obtain ⟨ca0, cb0, cc0, cd0, ce0, cf0, rfl⟩ := open_cond (hval 0 57 v0 rfl rfl) h0
  clear hA0 hval0
  refine (walk ca0 cb0 cc0 cd0 ce0 cf0 W ).mono fun e W' ⟨he, bel⟩ => ?_
  subst he
  exact ⟨_, rfl, _, _, _, [], _, [], hW', trodAll_mk1 (shut_bool Try.underlying4 _), (trodAll_cons_mk (Below.trod laidOut (by kernel_rfl) (of_decide_eq_true (by kernel_rfl)) h0 bel lt0) trodAll_mk0), rfl, bel.frame _, fun h => by cases h⟩

end Go.Proofs.Ytoknlaaghjlnaaa.CondOk
namespace Go.Proofs.Ytoknlaaghjlnaaa
open Go.ChangeShapes Go.WideShapes Go.ChangeAt Go.RowKit

theorem condOk : Rows.FnExactCondOkSaid :=
  OpenClaim.holds_of_wide 5 Try.f5 rfl rfl rfl rfl rfl rfl rfl ⟨rfl, rfl, rfl, rfl, rfl⟩ rfl rfl rfl rfl rfl (by kernel_rfl) Try.func5 (by kernel_rfl)
    (of_decide_eq_true (by kernel_rfl)) (by unfold Func.isWrapper; first | (rw [if_pos (by decide +kernel)]; kernel_rfl) | (rw [if_neg (by decide +kernel)]; exact ⟨rfl, rfl⟩))
    (fun os started H enc _ => CondOk.lifted os started H enc)
#print axioms condOk
end Go.Proofs.Ytoknlaaghjlnaaa
