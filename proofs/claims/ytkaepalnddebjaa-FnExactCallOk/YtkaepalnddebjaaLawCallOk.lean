/- Proved: at every call the law FnExactCallOk answers true, so impl.CallOk answers as spec.CallOk and writes into no argument; no condition. -/
import Derived.Test.YtkaepalnddebjaaCallRep
import Derived.Test.YtkaepalnddebjaaOpenCall
import Derived.WalkKit
import Derived.ProofKit
import Derived.OpenShut
import Derived.ShutString
import Derived.ChangeOld
import Derived.Below
import Derived.Deep.RegionHeld3
import Derived.Deep.RegionWith
namespace Go.Proofs.Ytkaepalnddebjaa.CallOk
open Go.ChangeShapes Go.WideShapes Go.ChangeAt Go.RowKit
open Go.ChangeMaps (open_string shut_string)
set_option linter.unusedVariables false

theorem own : ownKnob Try.prog.godebug = none := by kernel_rfl
theorem laidOut : laidOutB Try.prog = true := by kernel_rfl

set_option maxRecDepth 100000 in
set_option maxHeartbeats 1600000 in
theorem walk (arch num : Int) (a : Option Addr) (cap : Nat) (ws : List (Int × Int)) (w : World) (hA : Wides w a ws ∧ ws.length ≤ 9223372036854775807) : Calls Try.prog 7 #[.agg #[.int .i64 arch, .int .i64 num, .slice a ws.length cap]] w fun e w' => e = .returned (.bool true) ∧ Below w.heap.size w w' := by
  have hm := hA.2
  by_cases hbig : 1048576 < ws.length
  · go_enter Try.func7, Try.ntmps7
    go_wp2_with fail
    refine (szCall_big _ _ _ _ _ _ hbig hm).mono ?_
    rintro e w1 ⟨rfl, hb⟩
    have e1 : Ext w w1 := (Ext.one w _).trans hb
    clear hb
    go_wp2
    go_ret
    exact ⟨rfl, e1⟩
  have hl : ws.length ≤ 1048576 := by omega
  have HR : Hid (∀ W, Ext w W → RepCall arch num ws (.agg #[.int .i64 arch, .int .i64 num, .slice a ws.length cap]) W) := fun W hE => ⟨a, cap, rfl, hA.1.below hE (Nat.le_refl _)⟩
  clear hA hbig
  go_enter Try.func7, Try.ntmps7
  go_wp2_with fail
  refine (szCall_any _ _ _ _ _ _ hl).mono ?_
  rintro e w1 ⟨rfl, hb⟩
  have e1 : Hid (Ext w w1) := (Ext.one w _).trans hb
  have c1 := (CellsAt.new w [.int .i64 arch, .int .i64 num, .slice a ws.length cap] 47).step hb
  obtain ⟨q1, q2, q3⟩ := (⟨c1.2 0 _ rfl, c1.2 1 _ rfl, c1.2 2 _ rfl⟩ : _ ∧ _ ∧ _)
  clear hb
  go_wp2_with fail
  refine (toCall_rep arch num ws _ _ hl (HR.out _ e1.out)).mono ?_
  rintro e w2 ⟨u2, rfl, r2, x2⟩
  have e2 : Hid (Ext w w2) := e1.out.trans x2
  have c2 := c1.step x2
  clear x2 q1 q2 q3 c1
  go_wp2_with fail
  refine (sCall_rep arch num ws _ _ hl r2).mono ?_
  rintro e w3 ⟨rfl, x3⟩
  have e3 : Hid (Ext w w3) := e2.out.trans x3
  have c3 := c2.step x3
  clear x3 r2 c2
  obtain ⟨q1, q2, q3⟩ := (⟨c3.2 0 _ rfl, c3.2 1 _ rfl, c3.2 2 _ rfl⟩ : _ ∧ _ ∧ _)
  go_wp2_with fail
  refine (toCall_rep arch num ws _ _ hl (HR.out _ e3.out)).mono ?_
  rintro e w4 ⟨u4, rfl, r4, x4⟩
  have e4 : Hid (Ext w w4) := e3.out.trans x4
  have c4 := c3.step x4
  clear x4 q1 q2 q3 c3
  have HR4 : Hid (∀ W, Ext w4 W → RepCall arch num ws u4 W) := fun W hE => r4.step hE
  obtain ⟨a4, cap4, rfl, hw4⟩ := r4
  clear hw4
  go_wp2_with fail
  refine (iCall_rep arch num ws _ _ hl (HR4.out _ (Ext.one _ _))).mono ?_
  rintro e w5 ⟨rfl, x5⟩
  have e5 : Hid (Ext w w5) := (e4.out.alloc _).trans x5
  have e45 : Hid (Ext w4 w5) := (Ext.one _ _).trans x5
  have c5 := (c4.step (Ext.one _ _)).step x5
  have d5 := (CellsAt.new w4 [.int .i64 arch, .int .i64 num, .slice a4 ws.length cap4] 26).step x5
  clear x5 c4
  go_wp2_with fail
  refine' wp_region_loose [.inl _, .inl _, .inr (RepCall arch num ws), .inl _, .inl _] (fun w' => CellsAt w' w.heap.size [.int .i64 arch, .int .i64 num, .slice a ws.length cap] ∧ CellsAt w' w4.heap.size [.int .i64 arch, .int .i64 num, .slice a4 ws.length cap4]) (by kernel_rfl) (by kernel_rfl) (⟨c5.drew, d5.drew⟩) (fun _ _ h hE => ⟨h.1.step hE, h.2.step hE⟩) ?hAa ?hla ?hMa
  case' hMa => skip
  apply wpLoose_val rfl rfl
  case hs =>
    intro w1 hC hd Q1 hQ1
    obtain ⟨hE, hS⟩ := hC
    obtain ⟨q1, q2, q3, q4, q5, q6⟩ := (⟨hS.1.2 0 _ rfl, hS.1.2 1 _ rfl, hS.1.2 2 _ rfl, hS.2.2 0 _ rfl, hS.2.2 1 _ rfl, hS.2.2 2 _ rfl⟩ : _ ∧ _ ∧ _ ∧ _ ∧ _ ∧ _)
    clear hd hE
    try clear hS
    go_wp2
    exact Ext.refl _
  case ha => rfl
  apply wpLoose_val rfl rfl
  case hs =>
    intro w1 hC hd Q1 hQ1
    obtain ⟨hE, hS⟩ := hC
    obtain ⟨q1, q2, q3, q4, q5, q6⟩ := (⟨hS.1.2 0 _ rfl, hS.1.2 1 _ rfl, hS.1.2 2 _ rfl, hS.2.2 0 _ rfl, hS.2.2 1 _ rfl, hS.2.2 2 _ rfl⟩ : _ ∧ _ ∧ _ ∧ _ ∧ _ ∧ _)
    clear hd hE
    try clear hS
    go_wp2
    exact Ext.refl _
  case ha => rfl
  refine wpLoose_rel rfl rfl ?_ (fun va_2 => ?_)
  · intro w1 hC hd Q1 hQ1
    obtain ⟨hE, hS⟩ := hC
    clear hd hS
    go_wp2_with fail
    refine (toCall_rep arch num ws _ _ hl (HR.out _ (e5.out.drew.trans hE))).mono ?_
    rintro e w2 ⟨u2, rfl, r2, x2⟩
    go_wp2_with fail
    exact hQ1 _ _ x2 r2
  apply wpLoose_val rfl rfl
  case hs =>
    intro w1 hC hd Q1 hQ1
    obtain ⟨hE, hS⟩ := hC
    have h2 := hd ⟨2, .data⟩ (by simp) rfl _ rfl (by simp [Act.put])
    clear hd
    go_wp2_with fail
    refine (eqCall_rep arch num ws _ _ _ hl (HR4.out _ (e45.out.drew.trans hE)) h2).mono ?_
    rintro e w2 ⟨rfl, hb⟩
    go_wp2_with fail
    exact hb
  case ha => rfl
  apply wpLoose_val rfl rfl
  case hs =>
    intro w1 hC hd Q1 hQ1
    obtain ⟨hE, hS⟩ := hC
    obtain ⟨q1, q2, q3, q4, q5, q6⟩ := (⟨hS.1.2 0 _ rfl, hS.1.2 1 _ rfl, hS.1.2 2 _ rfl, hS.2.2 0 _ rfl, hS.2.2 1 _ rfl, hS.2.2 2 _ rfl⟩ : _ ∧ _ ∧ _ ∧ _ ∧ _ ∧ _)
    clear hd hE
    try clear hS
    go_wp2
    exact Ext.refl _
  case ha => rfl
  refine wpLoose_nil ?_
  intro wa hEa hSa hFa
  have e6 : Hid (Ext w wa) := e5.out.drew.trans hEa
  clear hEa hSa hFa c5 d5
  go_wp2
  go_ret
  exact ⟨rfl, e6.out⟩
  case hAa => kernel_rfl
  case hla => exact ⟨trivial, trivial, fun _ _ _ h hE => h.step hE, trivial, trivial, trivial⟩

set_option maxRecDepth 100000 in
theorem lifted (os : Os) (started : os.Started) (H : Type) (enc : TypeId × Value → H) :
    ReturnsInHanded {} Try.checked os 7 .any (Rows.fnExactCallOkSpec.pre6 enc Try.prog Try.f7 Rows.fnExactCallOkRow.domain false) (Rows.fnExactCallOkSpec.post enc Try.prog Try.f7 false true false false) := by
  refine returnsInHanded_of_change (C := Try.checked) own started (by kernel_rfl) Try.func7
    (ChangeSpec.witness6 (enc := enc) (C := Try.checked) false ⟨#[], #[.agg #[.int .i64 0, .int .i64 0, .slice none 0 0]], []⟩ 8 (by kernel_rfl) (by kernel_rfl) (by kernel_rfl) (by kernel_rfl)) ?_
  intro W base args ds gs before hval0 hW hcnd _
  have hval : ∀ (j : Nat) t v, Try.f7.params[j]? = some t → args[j]? = some v → Value.okWide Try.prog W .any base t v := hval0
  have hW' := hW
  obtain ⟨p, q, hA0, hV, rfl, hfz, hnd⟩ := hW
  have hA : DataW.TrodAll enc Try.prog W 0 (fun _ => true) true Try.f7.params.toList args.toList ds p := hA0
  rw [Try.params7] at hA hval
  obtain ⟨v0, vs0, d0, ds0, p0, q0, hargs, rfl, rfl, h0, r0⟩ := trodAll_cons hA
  obtain ⟨rfl, rfl, rfl⟩ := trodAll_nil r0
  obtain rfl : args = #[v0] := by cases args; simp_all
  obtain ⟨rfl, rfl⟩ := trodVars_none hV
  have lt0 : ∀ x ∈ p0, x.block < W.heap.size := by obtain ⟨m, hm⟩ := h0; exact DataW.trod_lt m _ _ _ hm
  obtain ⟨ar0, nu0, a0, cap0, ws0, rfl, hws0⟩ := open_call (hval 0 47 v0 rfl rfl) h0
  clear hA0 hval0
  refine (walk ar0 nu0 a0 cap0 ws0 W hws0).mono fun e W' ⟨he, bel⟩ => ?_
  subst he
  exact ⟨_, rfl, _, _, _, [], _, [], hW', trodAll_mk1 (shut_bool Try.underlying4 _), (trodAll_cons_mk (Below.trod laidOut (by kernel_rfl) (of_decide_eq_true (by kernel_rfl)) h0 bel lt0) trodAll_mk0), rfl, bel.frame _, fun h => by cases h⟩

end Go.Proofs.Ytkaepalnddebjaa.CallOk
namespace Go.Proofs.Ytkaepalnddebjaa
open Go.ChangeShapes Go.WideShapes Go.ChangeAt Go.RowKit

theorem callOk : Rows.FnExactCallOkSaid :=
  OpenClaim.holds_of_wide 7 Try.f7 rfl rfl rfl rfl rfl rfl rfl ⟨rfl, rfl, rfl, rfl, rfl⟩ rfl rfl rfl rfl rfl (by kernel_rfl) Try.func7 (by kernel_rfl)
    (of_decide_eq_true (by kernel_rfl)) (by unfold Func.isWrapper; first | (rw [if_pos (by decide +kernel)]; kernel_rfl) | (rw [if_neg (by decide +kernel)]; exact ⟨rfl, rfl⟩))
    (fun os started H enc _ => CallOk.lifted os started H enc)
#print axioms callOk
end Go.Proofs.Ytkaepalnddebjaa
