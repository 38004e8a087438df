/- Proved: the law FnExactCallNames answers true, so impl.CallNames answers as spec.CallNames, in memory of its own, behind another call too; no condition. -/
import Derived.Test.YtfhkafbcopolcaaNamesIS
import Derived.WalkKit
import Derived.ProofKit
import Derived.OpenShut
import Derived.ShutString
import Derived.ChangeOld
import Derived.Below
import Derived.Deep.RegionHeld3
import Derived.Deep.RegionWith
namespace Go.Proofs.Ytfhkafbcopolcaa.CallNames
open Go.ChangeShapes Go.WideShapes Go.ChangeAt Go.RowKit
open Go.ChangeMaps (open_string shut_string)
set_option linter.unusedVariables false

theorem own : ownKnob Try.prog.godebug = none := by kernel_rfl
theorem laidOut : laidOutB Try.prog = true := by kernel_rfl

set_option maxRecDepth 100000 in
set_option maxHeartbeats 1000000 in
theorem walk (w : World) :
    Calls Try.prog 4 #[] w fun e w' => e = .returned (.bool true) ∧ Below w.heap.size w w' := by
  obtain ⟨xs, hxs⟩ : ∃ xs, xs = nameB := ⟨_, rfl⟩
  have hl : Hid (xs.length = 12) := by rw [hxs]; exact nameB_length
  go_enter Try.func4, Try.ntmps4
  go_wp2_with fail
  refine (sNames_any _).mono ?_
  rintro e w1 ⟨g0, v0, rfl, hv0, own0, b0⟩
  clear hv0
  go_wp2_with fail
  refine (iNames_any _).mono ?_
  rintro e w2 ⟨g1, v1, rfl, hv1, own1, b1⟩
  clear hv1
  rw [← hxs, ← hl.out] at own0 own1
  have z1 := b0.size
  have z2 := b1.size
  have hle : xs.length ≤ 12 := Nat.le_of_eq hl.out
  go_wp2_with fail
  refine (eqS_same xs v1 v0 _ _ _ own1 (own_below own0 b1) (by omega)).mono ?_
  rintro e w3 ⟨rfl, b2⟩
  have z3 := b2.size
  go_wp2_with fail
  refine (markS_any xs.length 1 _ v1 _ _ (own_below own1 b2) (by omega) (by omega) (by omega) (by omega)).mono ?_
  rintro e w4 ⟨rfl, ownM, b3⟩
  have z4 := b3.size
  go_wp2_with fail
  refine (heldS_any xs.length 1 _ v1 _ ownM (by omega) (by omega) (by omega)).mono ?_
  rintro e w5 ⟨rfl, b4⟩
  have z5 := b4.size
  have c1 : Below w1.heap.size w1 w5 := ((b1.trans (b2.mono z2)).trans b3).trans (b4.mono (by omega))
  have c0 : Below w.heap.size w w5 := b0.trans (c1.mono z1)
  go_wp2_with fail
  refine (iNames_any _).mono ?_
  rintro e w6 ⟨g2, v2, rfl, hv2, own2, b5⟩
  clear hv2
  rw [← hxs, ← hl.out] at own2
  have z6 := b5.size
  have c6 : Below w1.heap.size w1 w6 := c1.trans (b5.mono (by omega))
  go_wp2_with fail
  refine (eqS_same xs v2 v0 _ _ _ own2 (own_below own0 c6) (by omega)).mono ?_
  rintro e w7 ⟨rfl, b6⟩
  have z7 := b6.size
  have d7 : Below w4.heap.size w4 w7 := (b4.trans (b5.mono z5)).trans (b6.mono (by omega))
  go_wp2_with fail
  refine (heldS_any xs.length 1 _ v1 _ (own_below ownM d7) (by omega) (by omega) (by omega)).mono ?_
  rintro e w8 ⟨rfl, b7⟩
  have c8 : Below w.heap.size w w8 := (c0.trans (b5.mono (by omega))).trans ((b6.mono (by omega)).trans (b7.mono (by omega)))
  clear own0 own1 own2 ownM b0 b1 b2 b3 b4 b5 b6 b7 c0 c1 c6 d7
  go_wp2
  go_ret
  exact ⟨rfl, c8⟩

set_option maxRecDepth 100000 in
theorem lifted (os : Os) (started : os.Started) (H : Type) (enc : TypeId × Value → H) :
    ReturnsInHanded {} Try.checked os 4 .any (Rows.fnExactCallNamesSpec.pre6 enc Try.prog Try.f4 Rows.fnExactCallNamesRow.domain false) (Rows.fnExactCallNamesSpec.post enc Try.prog Try.f4 false true false false) := by
  refine returnsInHanded_of_change (C := Try.checked) own started (by kernel_rfl) Try.func4
    (ChangeSpec.witness6 (enc := enc) (C := Try.checked) false ⟨#[], #[], []⟩ 8 (by kernel_rfl) (by kernel_rfl) (by kernel_rfl) (by kernel_rfl)) ?_
  intro W base args ds gs before hval0 hW hcnd _
  have hval : ∀ (j : Nat) t v, Try.f4.params[j]? = some t → args[j]? = some v → Value.okWide Try.prog W .any base t v := hval0
  have hW' := hW
  obtain ⟨p, q, hA0, hV, rfl, hfz, hnd⟩ := hW
  have hA : DataW.TrodAll enc Try.prog W 0 (fun _ => true) true Try.f4.params.toList args.toList ds p := hA0
  rw [Try.params4] at hA hval
  obtain ⟨hargs, rfl, rfl⟩ := trodAll_nil hA
  obtain rfl : args = #[] := by cases args; simp_all
  obtain ⟨rfl, rfl⟩ := trodVars_none hV
  clear hA0 hval0
  refine (walk  W ).mono fun e W' ⟨he, bel⟩ => ?_
  subst he
  exact ⟨_, rfl, _, _, _, [], _, [], hW', trodAll_mk1 (shut_bool Try.underlying4 _), trodAll_mk0, rfl, bel.frame _, fun h => by cases h⟩

end Go.Proofs.Ytfhkafbcopolcaa.CallNames
namespace Go.Proofs.Ytfhkafbcopolcaa
open Go.ChangeShapes Go.WideShapes Go.ChangeAt Go.RowKit

theorem callNames : Rows.FnExactCallNamesSaid :=
  OpenClaim.holds_of_wide 4 Try.f4 rfl rfl rfl rfl rfl rfl rfl ⟨rfl, rfl, rfl, rfl, rfl⟩ rfl rfl rfl rfl rfl (by kernel_rfl) Try.func4 (by kernel_rfl)
    (of_decide_eq_true (by kernel_rfl)) (by unfold Func.isWrapper; first | (rw [if_pos (by decide +kernel)]; kernel_rfl) | (rw [if_neg (by decide +kernel)]; exact ⟨rfl, rfl⟩))
    (fun os started H enc _ => CallNames.lifted os started H enc)
#print axioms callNames
end Go.Proofs.Ytfhkafbcopolcaa
