/- Proved: at every laws.Policy the law FnExactPolicyOk answers true, so impl.PolicyOk answers as spec.PolicyOk and leaves its argument as it was (the law itself passes policies with more than 1<<20 rules, numbers and conditions together by); no condition. -/
import Derived.Test.YtoknlaaghjlnaaaToPolicy
import Derived.Test.YtoknlaaghjlnaaaOpenPol
import Derived.WalkKit
import Derived.ProofKit
import Derived.OpenShut
import Derived.ShutString
import Derived.ChangeOld
import Derived.Below
import Derived.Deep.RegionHeld3
import Derived.Deep.RegionWith
namespace Go.Proofs.Ytoknlaaghjlnaaa.PolicyOk
open Go.ChangeShapes Go.WideShapes Go.ChangeAt Go.RowKit
open Go.ChangeMaps (open_string shut_string)
set_option linter.unusedVariables false

theorem own : ownKnob Try.prog.godebug = none := by kernel_rfl
theorem laidOut : laidOutB Try.prog = true := by kernel_rfl

set_option maxRecDepth 100000 in
set_option maxHeartbeats 1600000 in
theorem walk (p : PN) (v : Value) (w : World) (hA : RepPol p v w ∧ p.rules.length ≤ 9223372036854775807 ∧ ∀ k, k < p.rules.length → Fin63 (p.rules.getD k r0)) : Calls Try.prog 6 #[v] w fun e w' => e = .returned (.bool true) ∧ Below w.heap.size w w' := by
  obtain ⟨hrep, hl63, hf63⟩ := hA
  have hfin : FinR p.rules := ⟨hl63, fun k hk => hf63 k hk⟩
  obtain ⟨a, cap, rfl, hr⟩ := hrep
  have HR : Hid (∀ W, Ext w W → RepPol p (.agg #[.int .i64 p.arch, .int .i64 p.act, .int .i64 p.data, .slice a p.rules.length cap]) W) := fun W hE => ⟨a, cap, rfl, hr.step hE⟩
  have HZ : Hid (∀ W, Ext w W → Calls Try.prog 30 #[.agg #[.int .i64 p.arch, .int .i64 p.act, .int .i64 p.data, .slice a p.rules.length cap], .int .i64 ((1048576 : Nat) : Int)] W fun e w' => ((e = .returned (.int .i64 (-1))) ∨ ∃ m : Nat, e = .returned (.int .i64 (m : Int)) ∧ m ≤ 1048576 ∧ SmallR p.rules) ∧ Ext W w') := fun W hE => szPolicy_rep (by omega) hfin (HR.out W hE)
  clear hr hl63 hf63 hfin
  generalize p.arch = ar at *
  generalize p.act = ac at *
  generalize p.data = da at *
  generalize p.rules.length = n at *
  go_enter Try.func6, Try.ntmps6
  go_wp2_with fail
  refine (HZ.out _ (Ext.one _ _)).mono ?_
  rintro e w1 ⟨hor, x1⟩
  have e1 : Hid (Ext w w1) := (Ext.one _ _).trans x1
  have c1 := (CellsAt.new w [.int .i64 ar, .int .i64 ac, .int .i64 da, .slice a n cap] 62).step x1
  clear x1 HZ
  rcases hor with rfl | ⟨m, rfl, hm, hs⟩
  · clear c1
    go_wp2
    go_ret
    exact ⟨rfl, e1.out⟩
  clear hm
  obtain ⟨q0, q1, q2, q3⟩ := (⟨c1.2 0 _ rfl, c1.2 1 _ rfl, c1.2 2 _ rfl, c1.2 3 _ rfl⟩ : _ ∧ _ ∧ _ ∧ _)
  go_wp2_with fail
  refine (toPolicy_rep hs (HR.out _ e1.out)).mono ?_
  rintro e w2 ⟨u2, rfl, r2, x2⟩
  have e2 : Hid (Ext w w2) := e1.out.trans x2
  have c2 := c1.step x2
  clear x2 q0 q1 q2 q3 c1
  go_wp2_with fail
  refine (sPolicyOk_rep hs r2).mono ?_
  rintro e w3 ⟨rfl, x3⟩
  have e3 : Hid (Ext w w3) := e2.out.trans x3
  have c3 := c2.step x3
  clear x3 c2 r2
  obtain ⟨q0, q1, q2, q3⟩ := (⟨c3.2 0 _ rfl, c3.2 1 _ rfl, c3.2 2 _ rfl, c3.2 3 _ rfl⟩ : _ ∧ _ ∧ _ ∧ _)
  go_wp2_with fail
  refine (toPolicy_rep hs (HR.out _ e3.out)).mono ?_
  rintro e w4 ⟨u4, rfl, r4, x4⟩
  have e4 : Hid (Ext w w4) := e3.out.trans x4
  have c4 := c3.step x4
  clear x4 q0 q1 q2 q3 c3
  have HR4 : Hid (∀ W, Ext w4 W → RepPol p u4 W) := fun W hE => r4.step hE
  obtain ⟨a4, cap4, rfl, hw4⟩ := r4
  clear hw4
  generalize p.arch = ar4 at *
  generalize p.act = ac4 at *
  generalize p.data = da4 at *
  generalize p.rules.length = n4 at *
  go_wp2_with fail
  have c5 := c4.step (Ext.one w4 (.cells #[.int .i64 ar4, .int .i64 ac4, .int .i64 da4, .slice a4 n4 cap4] 26))
  have x5 := CellsAt.new w4 [.int .i64 ar4, .int .i64 ac4, .int .i64 da4, .slice a4 n4 cap4] 26
  have e5 : Hid (Ext w (w4.alloc (.cells #[.int .i64 ar4, .int .i64 ac4, .int .i64 da4, .slice a4 n4 cap4] 26))) := e4.out.alloc _
  have e45 : Hid (Ext w4 (w4.alloc (.cells #[.int .i64 ar4, .int .i64 ac4, .int .i64 da4, .slice a4 n4 cap4] 26))) := Ext.one _ _
  simp only [List.toArray] at x5
  clear c4
  generalize w4.alloc (.cells #[.int .i64 ar4, .int .i64 ac4, .int .i64 da4, .slice a4 n4 cap4] 26) = W5 at *
  refine (iPolicyOk_rep hs (HR4.out _ e45.out)).mono ?_
  rintro e w6 ⟨rfl, x6⟩
  have e6 : Hid (Ext w w6) := e5.out.trans x6
  have e46 : Hid (Ext w4 w6) := e45.out.trans x6
  have c6 := c5.step x6
  have y6 := x5.step x6
  clear x6 c5 x5 e5 e45
  generalize policyB p = z
  have hzz : (z != z) = false := by cases z <;> rfl
  go_wp2_with fail
  refine' wp_region_loose (.inl _ :: .inl _ :: .inr (RepPol p) :: .inl _ :: .inl _ :: []) (fun w' => CellsAt w' w.heap.size [.int .i64 ar, .int .i64 ac, .int .i64 da, .slice a n cap] ∧ CellsAt w' w4.heap.size [.int .i64 ar4, .int .i64 ac4, .int .i64 da4, .slice a4 n4 cap4]) (by kernel_rfl) (by kernel_rfl) (⟨c6.drew, y6.drew⟩) (fun _ _ h hE => ⟨h.1.step hE, h.2.step hE⟩) ?hAc ?hlc ?hMc
  case' hMc => skip
  apply wpLoose_val rfl rfl
  case hs =>
    intro w1 hC hd Q1 hQ1
    obtain ⟨hE, hS⟩ := hC
    dsimp only [bare]
    obtain ⟨q0, q1, q2, q3, s0, s1, s2, s3⟩ := (⟨hS.1.2 0 _ rfl, hS.1.2 1 _ rfl, hS.1.2 2 _ rfl, hS.1.2 3 _ rfl, hS.2.2 0 _ rfl, hS.2.2 1 _ rfl, hS.2.2 2 _ rfl, hS.2.2 3 _ rfl⟩ : _ ∧ _ ∧ _ ∧ _ ∧ _ ∧ _ ∧ _ ∧ _)
    clear hd hE
    try clear hS
    go_wp2
    exact Ext.refl _
  case ha => rfl
  apply wpLoose_val rfl rfl
  case hs =>
    intro w1 hC hd Q1 hQ1
    obtain ⟨hE, hS⟩ := hC
    dsimp only [bare]
    obtain ⟨q0, q1, q2, q3, s0, s1, s2, s3⟩ := (⟨hS.1.2 0 _ rfl, hS.1.2 1 _ rfl, hS.1.2 2 _ rfl, hS.1.2 3 _ rfl, hS.2.2 0 _ rfl, hS.2.2 1 _ rfl, hS.2.2 2 _ rfl, hS.2.2 3 _ rfl⟩ : _ ∧ _ ∧ _ ∧ _ ∧ _ ∧ _ ∧ _ ∧ _)
    clear hd hE
    try clear hS
    go_wp2
    exact Ext.refl _
  case ha => rfl
  refine wpLoose_rel rfl rfl ?_ (fun vc_2 => ?_)
  · intro w1 hC hd Q1 hQ1
    obtain ⟨hE, hS⟩ := hC
    dsimp only [bare]
    clear hd hS
    go_wp2_with fail
    refine (toPolicy_rep hs (HR.out _ (e6.out.drew.trans hE))).mono ?_
    rintro e w2 ⟨u2, rfl, r2, x2⟩
    go_wp2_with fail
    exact hQ1 _ _ x2 r2
  apply wpLoose_val rfl rfl
  case hs =>
    intro w1 hC hd Q1 hQ1
    obtain ⟨hE, hS⟩ := hC
    dsimp only [bare]
    have h2 := hd ⟨2, .data⟩ (by simp) rfl _ rfl (by simp [Act.put])
    clear hd
    go_wp2_with fail
    refine (eqPolicy_rep hs (HR4.out _ (e46.out.drew.trans hE)) h2).mono ?_
    rintro e w2 ⟨rfl, hb⟩
    go_wp2_with fail
    exact hb
  case ha => rfl
  apply wpLoose_val rfl rfl
  case hs =>
    intro w1 hC hd Q1 hQ1
    obtain ⟨hE, hS⟩ := hC
    dsimp only [bare]
    obtain ⟨q0, q1, q2, q3, s0, s1, s2, s3⟩ := (⟨hS.1.2 0 _ rfl, hS.1.2 1 _ rfl, hS.1.2 2 _ rfl, hS.1.2 3 _ rfl, hS.2.2 0 _ rfl, hS.2.2 1 _ rfl, hS.2.2 2 _ rfl, hS.2.2 3 _ rfl⟩ : _ ∧ _ ∧ _ ∧ _ ∧ _ ∧ _ ∧ _ ∧ _)
    clear hd hE
    try clear hS
    go_wp2
    exact Ext.refl _
  case ha => rfl
  refine wpLoose_nil ?_
  intro wc hEc hSc hFc
  have e7 : Hid (Ext w wc) := e6.out.drew.trans hEc
  clear hEc hSc hFc c6 y6
  go_wp2
  go_ret
  exact ⟨rfl, e7.out⟩
  case hAc => kernel_rfl
  case hlc => exact ⟨trivial, trivial, fun _ _ _ h hE => h.step hE, trivial, trivial, trivial⟩

set_option maxRecDepth 100000 in
theorem lifted (os : Os) (started : os.Started) (H : Type) (enc : TypeId × Value → H) :
    ReturnsInHanded {} Try.checked os 6 .any (Rows.fnExactPolicyOkSpec.pre6 enc Try.prog Try.f6 Rows.fnExactPolicyOkRow.domain false) (Rows.fnExactPolicyOkSpec.post enc Try.prog Try.f6 false true false false) := by
  refine returnsInHanded_of_change (C := Try.checked) own started (by kernel_rfl) Try.func6
    (ChangeSpec.witness6 (enc := enc) (C := Try.checked) false ⟨#[], #[.agg #[.int .i64 0, .int .i64 0, .int .i64 0, .slice none 0 0]], []⟩ 8 (by kernel_rfl) (by kernel_rfl) (by kernel_rfl) (by kernel_rfl)) ?_
  intro W base args ds gs before hval0 hW hcnd _
  have hval : ∀ (j : Nat) t v, Try.f6.params[j]? = some t → args[j]? = some v → Value.okWide Try.prog W .any base t v := hval0
  have hW' := hW
  obtain ⟨p, q, hA0, hV, rfl, hfz, hnd⟩ := hW
  have hA : DataW.TrodAll enc Try.prog W 0 (fun _ => true) true Try.f6.params.toList args.toList ds p := hA0
  rw [Try.params6] at hA hval
  obtain ⟨v0, vs0, d0, ds0, p0, q0, hargs, rfl, rfl, h0, r0⟩ := trodAll_cons hA
  obtain ⟨rfl, rfl, rfl⟩ := trodAll_nil r0
  obtain rfl : args = #[v0] := by cases args; simp_all
  obtain ⟨rfl, rfl⟩ := trodVars_none hV
  have lt0 : ∀ x ∈ p0, x.block < W.heap.size := by obtain ⟨m, hm⟩ := h0; exact DataW.trod_lt m _ _ _ hm
  obtain ⟨p0x, hp0⟩ := open_policy (hval 0 62 v0 rfl rfl) h0
  clear hA0 hval0
  refine (walk p0x v0 W hp0).mono fun e W' ⟨he, bel⟩ => ?_
  subst he
  exact ⟨_, rfl, _, _, _, [], _, [], hW', trodAll_mk1 (shut_bool Try.underlying4 _), (trodAll_cons_mk (Below.trod laidOut (by kernel_rfl) (of_decide_eq_true (by kernel_rfl)) h0 bel lt0) trodAll_mk0), rfl, bel.frame _, fun h => by cases h⟩

end Go.Proofs.Ytoknlaaghjlnaaa.PolicyOk
namespace Go.Proofs.Ytoknlaaghjlnaaa
open Go.ChangeShapes Go.WideShapes Go.ChangeAt Go.RowKit

theorem policyOk : Rows.FnExactPolicyOkSaid :=
  OpenClaim.holds_of_wide 6 Try.f6 rfl rfl rfl rfl rfl rfl rfl ⟨rfl, rfl, rfl, rfl, rfl⟩ rfl rfl rfl rfl rfl (by kernel_rfl) Try.func6 (by kernel_rfl)
    (of_decide_eq_true (by kernel_rfl)) (by unfold Func.isWrapper; first | (rw [if_pos (by decide +kernel)]; kernel_rfl) | (rw [if_neg (by decide +kernel)]; exact ⟨rfl, rfl⟩))
    (fun os started H enc _ => PolicyOk.lifted os started H enc)
#print axioms policyOk
end Go.Proofs.Ytoknlaaghjlnaaa
