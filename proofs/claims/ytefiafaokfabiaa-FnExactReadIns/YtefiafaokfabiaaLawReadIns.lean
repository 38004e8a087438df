/- Proved: at every string the law FnExactReadIns answers true, so impl.ReadIns answers as spec.ReadIns (the law itself passes strings beyond 1<<20 bytes by); no condition. -/
import Derived.Test.YtefiafaokfabiaaReadInsA
import Derived.WalkKit
import Derived.ProofKit
import Derived.OpenShut
import Derived.ShutString
import Derived.ChangeOld
import Derived.Below
import Derived.Deep.RegionHeld3
import Derived.Deep.RegionWith
namespace Go.Proofs.Ytefiafaokfabiaa.ReadIns
open Go.ChangeShapes Go.WideShapes Go.ChangeAt Go.RowKit
open Go.ChangeMaps (open_string shut_string)
set_option linter.unusedVariables false

theorem own : ownKnob Try.prog.godebug = none := by kernel_rfl
theorem laidOut : laidOutB Try.prog = true := by kernel_rfl

set_option maxHeartbeats 1600000 in
theorem walk (s : ByteArray) (w : World) : Calls Try.prog 6 #[.string s] w fun e w' => e = .returned (.bool true) ∧ Below w.heap.size w w' := by
  by_cases hbig : 1048576 < s.size
  · go_enter Try.func6, Try.ntmps6
    go_wp2
    go_ret
    exact ⟨rfl, Below.refl _ _⟩
  have hs : s.size ≤ 1048576 := by omega
  clear hbig
  obtain ⟨⟨o, k, y, n⟩, hp⟩ : ∃ p : Wd, p = (readW s.data.toList).getD zeroW := ⟨_, rfl⟩
  obtain ⟨z, hz⟩ : ∃ z, z = (readW s.data.toList).isSome := ⟨_, rfl⟩
  have SI : Hid (∀ w, Calls Try.prog 19 #[.string s] w fun e w' => e = .returned (.tuple #[.agg #[.int .i64 o, .int .i64 k, .int .i64 y, .int .i64 n], .bool z]) ∧ Ext w w') := fun w => by
    have := sReadIns_any s w (by omega)
    rw [← hp, ← hz] at this
    exact this
  have II : Hid (∀ w, Calls Try.prog 17 #[.string s] w fun e w' => e = .returned (.tuple #[.agg #[.int .i64 o, .int .i64 k, .int .i64 y, .int .i64 n], .bool z]) ∧ Ext w w') := fun w => by
    have := iReadIns_any s w (by omega)
    rw [← hp, ← hz] at this
    exact this
  clear hp hz
  go_enter Try.func6, Try.ntmps6
  go_wp2_with fail
  refine (SI.out _).mono ?_
  rintro e w1 ⟨rfl, e1⟩
  have E1 : Hid (Ext w w1) := e1
  clear e1 SI
  go_wp2_with fail
  refine (II.out _).mono ?_
  rintro e w2 ⟨rfl, e2⟩
  have c2 := (CellsAt.new w1 [.int .i64 o, .int .i64 k, .int .i64 y, .int .i64 n] 32).step e2
  have E2 : Hid (Ext w w2) := (E1.out.alloc _).trans e2
  obtain ⟨q0, q1, q2, q3⟩ := (⟨c2.2 0 _ rfl, c2.2 1 _ rfl, c2.2 2 _ rfl, c2.2 3 _ rfl⟩ : _ ∧ _ ∧ _ ∧ _)
  have hlt := c2.1
  clear e2 c2 E1 II
  go_wp2_with fail
  refine (eqIns_same o k y n _).mono ?_
  rintro e w3 ⟨rfl, e3⟩
  have E3 : Hid (Ext w w3) := (E2.out.alloc _).trans e3
  clear e3 E2 q0 q1 q2 q3 hlt
  cases z
  all_goals
    go_wp2
    go_ret
    exact ⟨rfl, E3.out⟩

set_option maxRecDepth 100000 in
theorem lifted (os : Os) (started : os.Started) (H : Type) (enc : TypeId × Value → H) :
    ReturnsInHanded {} Try.checked os 6 .any (Rows.fnExactReadInsSpec.pre6 enc Try.prog Try.f6 Rows.fnExactReadInsRow.domain false) (Rows.fnExactReadInsSpec.post enc Try.prog Try.f6 false true false false) := by
  refine returnsInHanded_of_change (C := Try.checked) own started (by kernel_rfl) Try.func6
    (ChangeSpec.witness6 (enc := enc) (C := Try.checked) false ⟨#[], #[.string ⟨#[]⟩], []⟩ 8 (by kernel_rfl) (by kernel_rfl) (by kernel_rfl) (by kernel_rfl)) ?_
  intro W base args ds gs before hval0 hW hcnd _
  have hval : ∀ (j : Nat) t v, Try.f6.params[j]? = some t → args[j]? = some v → Value.okWide Try.prog W .any base t v := hval0
  have hW' := hW
  obtain ⟨p, q, hA0, hV, rfl, hfz, hnd⟩ := hW
  have hA : DataW.TrodAll enc Try.prog W 0 (fun _ => true) true Try.f6.params.toList args.toList ds p := hA0
  rw [Try.params6] at hA hval
  obtain ⟨v0, vs0, d0, ds0, p0, q0, hargs, rfl, rfl, h0, r0⟩ := trodAll_cons hA
  obtain ⟨rfl, rfl, rfl⟩ := trodAll_nil r0
  obtain rfl : args = #[v0] := by cases args; simp_all
  obtain ⟨rfl, rfl⟩ := trodVars_none hV
  obtain ⟨s0, rfl, rfl, rfl, w0⟩ := open_string Try.underlying9 (hval 0 9 v0 rfl rfl) h0
  clear hA0 hval0
  refine (walk s0 W ).mono fun e W' ⟨he, bel⟩ => ?_
  subst he
  exact ⟨_, rfl, _, _, _, [], _, [], hW', trodAll_mk1 (shut_bool Try.underlying4 _), (trodAll_cons_mk (shut_string Try.underlying9 w0) trodAll_mk0), rfl, bel.frame _, fun h => by cases h⟩

end Go.Proofs.Ytefiafaokfabiaa.ReadIns
namespace Go.Proofs.Ytefiafaokfabiaa
open Go.ChangeShapes Go.WideShapes Go.ChangeAt Go.RowKit

theorem readIns : Rows.FnExactReadInsSaid :=
  OpenClaim.holds_of_wide 6 Try.f6 rfl rfl rfl rfl rfl rfl rfl ⟨rfl, rfl, rfl, rfl, rfl⟩ rfl rfl rfl rfl rfl (by kernel_rfl) Try.func6 (by kernel_rfl)
    (of_decide_eq_true (by kernel_rfl)) (by unfold Func.isWrapper; first | (rw [if_pos (by decide +kernel)]; kernel_rfl) | (rw [if_neg (by decide +kernel)]; exact ⟨rfl, rfl⟩))
    (fun os started H enc _ => ReadIns.lifted os started H enc)
#print axioms readIns
end Go.Proofs.Ytefiafaokfabiaa
