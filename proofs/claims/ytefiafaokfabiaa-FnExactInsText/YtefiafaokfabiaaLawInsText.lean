/- Proved: at every laws.Ins the law FnExactInsText answers true, so impl.InsText answers as spec.InsText; no condition. -/
import Derived.Test.YtefiafaokfabiaaInsTo
import Derived.WalkKit
import Derived.ProofKit
import Derived.OpenShut
import Derived.ShutString
import Derived.ChangeOld
import Derived.Below
import Derived.Deep.RegionHeld3
import Derived.Deep.RegionWith
namespace Go.Proofs.Ytefiafaokfabiaa.InsText
open Go.ChangeShapes Go.WideShapes Go.ChangeAt Go.RowKit
open Go.ChangeMaps (open_string shut_string)
set_option linter.unusedVariables false

theorem own : ownKnob Try.prog.godebug = none := by kernel_rfl
theorem laidOut : laidOutB Try.prog = true := by kernel_rfl

set_option maxHeartbeats 1600000 in
theorem walk (o k y n : Int) (w : World) : Calls Try.prog 5 #[.agg #[.int .i64 o, .int .i64 k, .int .i64 y, .int .i64 n]] w fun e w' => e = .returned (.bool true) ∧ Below w.heap.size w w' := by
  obtain ⟨t, z, SI, II⟩ : ∃ (t : ByteArray) (z : Bool), Hid (∀ w, Calls Try.prog 26 #[.agg #[.int .i64 o, .int .i64 k, .int .i64 y, .int .i64 n]] w fun e w' => e = .returned (.tuple #[.string t, .bool z]) ∧ Ext w w') ∧ Hid (∀ w, Calls Try.prog 16 #[.agg #[.int .i64 o, .int .i64 k, .int .i64 y, .int .i64 n]] w fun e w' => e = .returned (.tuple #[.string t, .bool z]) ∧ Ext w w') := by
    cases h : insB o k y n
    · exact ⟨_, _, fun w => sInsText_no o k y n w h, fun w => iInsText_no o k y n w h⟩
    · have hp := insB_true.1 h
      unfold insP at hp
      obtain ⟨o', rfl⟩ : ∃ o' : Nat, o = o' := ⟨o.toNat, by omega⟩
      obtain ⟨k', rfl⟩ : ∃ k' : Nat, k = k' := ⟨k.toNat, by omega⟩
      obtain ⟨y', rfl⟩ : ∃ y' : Nat, y = y' := ⟨y.toNat, by omega⟩
      obtain ⟨n', rfl⟩ : ∃ n' : Nat, n = n' := ⟨n.toNat, by omega⟩
      exact ⟨_, _, fun w => sInsText_yes o' k' y' n' w h, fun w => iInsText_yes o' k' y' n' w h⟩
  go_enter Try.func5, Try.ntmps5
  go_wp2_with fail
  refine (toIns_any o k y n _).mono ?_
  rintro e w1 ⟨rfl, e1⟩
  have c1 : CellsAt w1 w.heap.size [.int .i64 o, .int .i64 k, .int .i64 y, .int .i64 n] := (CellsAt.new w [.int .i64 o, .int .i64 k, .int .i64 y, .int .i64 n] 39).step e1
  have E1 : Hid (Ext w w1) := (Ext.one _ _).trans e1
  clear e1
  go_wp2_with fail
  refine (SI.out _).mono ?_
  rintro e w2 ⟨rfl, e2⟩
  have c2 := c1.step e2
  have E2 : Hid (Ext w w2) := E1.out.trans e2
  obtain ⟨q0, q1, q2, q3⟩ := (⟨c2.2 0 _ rfl, c2.2 1 _ rfl, c2.2 2 _ rfl, c2.2 3 _ rfl⟩ : _ ∧ _ ∧ _ ∧ _)
  clear e2 c1 c2 E1 SI
  go_wp2_with fail
  refine (toIns_any o k y n _).mono ?_
  rintro e w3 ⟨rfl, e3⟩
  have E3 : Hid (Ext w w3) := E2.out.trans e3
  clear e3 E2 q0 q1 q2 q3
  go_wp2_with fail
  refine (II.out _).mono ?_
  rintro e w4 ⟨rfl, e4⟩
  have E4 : Hid (Ext w w4) := E3.out.trans e4
  clear e4 E3 II
  cases z
  all_goals
    go_wp2
    go_ret
    exact ⟨rfl, E4.out⟩

set_option maxRecDepth 100000 in
theorem lifted (os : Os) (started : os.Started) (H : Type) (enc : TypeId × Value → H) :
    ReturnsInHanded {} Try.checked os 5 .any (Rows.fnExactInsTextSpec.pre6 enc Try.prog Try.f5 Rows.fnExactInsTextRow.domain false) (Rows.fnExactInsTextSpec.post enc Try.prog Try.f5 false true false false) := by
  refine returnsInHanded_of_change (C := Try.checked) own started (by kernel_rfl) Try.func5
    (ChangeSpec.witness6 (enc := enc) (C := Try.checked) false ⟨#[], #[.agg #[.int .i64 0, .int .i64 0, .int .i64 0, .int .i64 0]], []⟩ 8 (by kernel_rfl) (by kernel_rfl) (by kernel_rfl) (by kernel_rfl)) ?_
  intro W base args ds gs before hval0 hW hcnd _
  have hval : ∀ (j : Nat) t v, Try.f5.params[j]? = some t → args[j]? = some v → Value.okWide Try.prog W .any base t v := hval0
  have hW' := hW
  obtain ⟨p, q, hA0, hV, rfl, hfz, hnd⟩ := hW
  have hA : DataW.TrodAll enc Try.prog W 0 (fun _ => true) true Try.f5.params.toList args.toList ds p := hA0
  rw [Try.params5] at hA hval
  obtain ⟨v0, vs0, d0, ds0, p0, q0, hargs, rfl, rfl, h0, r0⟩ := trodAll_cons hA
  obtain ⟨rfl, rfl, rfl⟩ := trodAll_nil r0
  obtain rfl : args = #[v0] := by cases args; simp_all
  obtain ⟨rfl, rfl⟩ := trodVars_none hV
  have lt0 : ∀ x ∈ p0, x.block < W.heap.size := by obtain ⟨m, hm⟩ := h0; exact DataW.trod_lt m _ _ _ hm
  obtain ⟨a0, b0, c0, e0, rfl⟩ := open_ins (hval 0 39 v0 rfl rfl) h0
  clear hA0 hval0
  refine (walk a0 b0 c0 e0 W ).mono fun e W' ⟨he, bel⟩ => ?_
  subst he
  exact ⟨_, rfl, _, _, _, [], _, [], hW', trodAll_mk1 (shut_bool Try.underlying4 _), (trodAll_cons_mk (Below.trod laidOut (by kernel_rfl) (of_decide_eq_true (by kernel_rfl)) h0 bel lt0) trodAll_mk0), rfl, bel.frame _, fun h => by cases h⟩

end Go.Proofs.Ytefiafaokfabiaa.InsText
namespace Go.Proofs.Ytefiafaokfabiaa
open Go.ChangeShapes Go.WideShapes Go.ChangeAt Go.RowKit

theorem insText : Rows.FnExactInsTextSaid :=
  OpenClaim.holds_of_wide 5 Try.f5 rfl rfl rfl rfl rfl rfl rfl ⟨rfl, rfl, rfl, rfl, rfl⟩ rfl rfl rfl rfl rfl (by kernel_rfl) Try.func5 (by kernel_rfl)
    (of_decide_eq_true (by kernel_rfl)) (by unfold Func.isWrapper; first | (rw [if_pos (by decide +kernel)]; kernel_rfl) | (rw [if_neg (by decide +kernel)]; exact ⟨rfl, rfl⟩))
    (fun os started H enc _ => InsText.lifted os started H enc)
#print axioms insText
end Go.Proofs.Ytefiafaokfabiaa
