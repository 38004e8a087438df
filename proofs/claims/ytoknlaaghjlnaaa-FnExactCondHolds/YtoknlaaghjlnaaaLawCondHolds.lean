/- Proved: at every laws.Cond and every laws.Call the law FnExactCondHolds answers true, so impl.CondHolds answers as spec.CondHolds and leaves its arguments as they were (the law itself passes calls beyond 1<<20 Args by); no condition. -/
import Derived.Test.YtoknlaaghjlnaaaCondRep
import Derived.Test.YtoknlaaghjlnaaaOpenCond
import Derived.WalkKit
import Derived.ProofKit
import Derived.OpenShut
import Derived.ShutString
import Derived.ChangeOld
import Derived.Below
import Derived.Deep.RegionHeld3
import Derived.Deep.RegionWith
namespace Go.Proofs.Ytoknlaaghjlnaaa.CondHolds
open Go.ChangeShapes Go.WideShapes Go.ChangeAt Go.RowKit
open Go.ChangeMaps (open_string shut_string)
set_option linter.unusedVariables false

theorem own : ownKnob Try.prog.godebug = none := by kernel_rfl
theorem laidOut : laidOutB Try.prog = true := by kernel_rfl

set_option maxRecDepth 100000 in
set_option maxHeartbeats 1600000 in
theorem walk (ag mh ml cm vh vl : Int) (arch num : Int) (a : Option Addr) (cap : Nat) (ws : List (Int × Int)) (w : World) (hA : Wides w a ws ∧ ws.length ≤ 9223372036854775807) : Calls Try.prog 7 #[.agg #[.int .i64 ag, .int .i64 mh, .int .i64 ml, .int .i64 cm, .int .i64 vh, .int .i64 vl], .agg #[.int .i64 arch, .int .i64 num, .slice a ws.length cap]] w fun e w' => e = .returned (.bool true) ∧ Below w.heap.size w w' := by
  have hm := hA.2
  by_cases hbig : 1048576 < ws.length
  · go_enter Try.func7, Try.ntmps7
    go_wp2_with fail
    refine (szCall_big _ _ _ _ _ _ hbig hm).mono ?_
    rintro e w1 ⟨rfl, hb⟩
    have e1 : Ext w w1 := ((Ext.one w _).alloc _).trans hb
    clear hb
    go_wp2
    go_ret
    exact ⟨rfl, e1⟩
  have hl : ws.length ≤ 1048576 := by omega
  have HR : Hid (∀ W, Ext w W → RepCall arch num ws (.agg #[.int .i64 arch, .int .i64 num, .slice a ws.length cap]) W) := fun W hE => ⟨a, cap, rfl, hA.1.below hE (Nat.le_refl _)⟩
  clear hA hbig
  go_enter Try.func7, Try.ntmps7
  go_wp2_with fail
  refine (szCall_any _ _ _ _ _ _ hl).mono ?_
  rintro e w1 ⟨rfl, hb⟩
  have e1 : Hid (Ext w w1) := ((Ext.one w _).alloc _).trans hb
  have c1 := ((CellsAt.new w [.int .i64 ag, .int .i64 mh, .int .i64 ml, .int .i64 cm, .int .i64 vh, .int .i64 vl] 57).step (Ext.one _ _)).step hb
  have d1 := (CellsAt.new' (w.alloc (.cells #[.int .i64 ag, .int .i64 mh, .int .i64 ml, .int .i64 cm, .int .i64 vh, .int .i64 vl] 57)) [.int .i64 arch, .int .i64 num, .slice a ws.length cap] 69 (w.heap.size + 1) (by simp)).step hb
  clear hb
  go_wp2_with fail
  refine' wp_region_loose (.inl _ :: .inl _ :: .inl _ :: .inr (RepCall arch num ws) :: .inl _ :: .inl _ :: []) (fun w' => CellsAt w' w.heap.size [.int .i64 ag, .int .i64 mh, .int .i64 ml, .int .i64 cm, .int .i64 vh, .int .i64 vl] ∧ CellsAt w' (w.heap.size + 1) [.int .i64 arch, .int .i64 num, .slice a ws.length cap]) (by kernel_rfl) (by kernel_rfl) (⟨c1.drew, d1.drew⟩) (fun _ _ h hE => ⟨h.1.step hE, h.2.step hE⟩) ?hAa ?hla ?hMa
  case' hMa => skip
  apply wpLoose_val rfl rfl
  case hs =>
    intro w1 hC hd Q1 hQ1
    obtain ⟨hE, hS⟩ := hC
    dsimp only [bare]
    obtain ⟨q0, q1, q2, q3, q4, q5, s0, s1, s2⟩ := (⟨hS.1.2 0 _ rfl, hS.1.2 1 _ rfl, hS.1.2 2 _ rfl, hS.1.2 3 _ rfl, hS.1.2 4 _ rfl, hS.1.2 5 _ rfl, hS.2.2 0 _ rfl, hS.2.2 1 _ rfl, hS.2.2 2 _ rfl⟩ : _ ∧ _ ∧ _ ∧ _ ∧ _ ∧ _ ∧ _ ∧ _ ∧ _)
    clear hd hE
    try clear hS
    go_wp2
    exact Ext.refl _
  case ha => rfl
  apply wpLoose_val rfl rfl
  case hs =>
    intro w1 hC hd Q1 hQ1
    obtain ⟨hE, hS⟩ := hC
    dsimp only [bare]
    clear hd
    go_wp2_with fail
    refine (toCond_any ag mh ml cm vh vl _).mono ?_
    rintro e w2 ⟨rfl, hb⟩
    go_wp2_with fail
    exact hb
  case ha => rfl
  apply wpLoose_val rfl rfl
  case hs =>
    intro w1 hC hd Q1 hQ1
    obtain ⟨hE, hS⟩ := hC
    dsimp only [bare]
    obtain ⟨q0, q1, q2, q3, q4, q5, s0, s1, s2⟩ := (⟨hS.1.2 0 _ rfl, hS.1.2 1 _ rfl, hS.1.2 2 _ rfl, hS.1.2 3 _ rfl, hS.1.2 4 _ rfl, hS.1.2 5 _ rfl, hS.2.2 0 _ rfl, hS.2.2 1 _ rfl, hS.2.2 2 _ rfl⟩ : _ ∧ _ ∧ _ ∧ _ ∧ _ ∧ _ ∧ _ ∧ _ ∧ _)
    clear hd hE
    try clear hS
    go_wp2
    exact Ext.refl _
  case ha => rfl
  refine wpLoose_rel rfl rfl ?_ (fun va_3 => ?_)
  · intro w1 hC hd Q1 hQ1
    obtain ⟨hE, hS⟩ := hC
    dsimp only [bare]
    clear hd hS
    go_wp2_with fail
    refine (toCall_rep arch num ws _ _ hl (HR.out _ (e1.out.drew.trans hE))).mono ?_
    rintro e w2 ⟨u2, rfl, r2, x2⟩
    go_wp2_with fail
    exact hQ1 _ _ x2 r2
  apply wpLoose_val rfl rfl
  case hs =>
    intro w1 hC hd Q1 hQ1
    obtain ⟨hE, hS⟩ := hC
    dsimp only [bare]
    have h2 := hd ⟨3, .data⟩ (by simp) rfl _ rfl (by simp [Act.put])
    clear hd
    go_wp2_with fail
    refine (sCondHolds_rep ag mh ml cm vh vl arch num ws _ _ hl h2).mono ?_
    rintro e w2 ⟨rfl, hb⟩
    go_wp2_with fail
    exact hb
  case ha => rfl
  apply wpLoose_val rfl rfl
  case hs =>
    intro w1 hC hd Q1 hQ1
    obtain ⟨hE, hS⟩ := hC
    dsimp only [bare]
    obtain ⟨q0, q1, q2, q3, q4, q5, s0, s1, s2⟩ := (⟨hS.1.2 0 _ rfl, hS.1.2 1 _ rfl, hS.1.2 2 _ rfl, hS.1.2 3 _ rfl, hS.1.2 4 _ rfl, hS.1.2 5 _ rfl, hS.2.2 0 _ rfl, hS.2.2 1 _ rfl, hS.2.2 2 _ rfl⟩ : _ ∧ _ ∧ _ ∧ _ ∧ _ ∧ _ ∧ _ ∧ _ ∧ _)
    clear hd hE
    try clear hS
    go_wp2
    exact Ext.refl _
  case ha => rfl
  refine wpLoose_nil ?_
  intro wa hEa hSa hFa
  have e2 : Hid (Ext w wa) := e1.out.drew.trans hEa
  have c2 := hSa.1
  have d2 := hSa.2
  obtain ⟨s0, s1, s2⟩ := (⟨d2.2 0 _ rfl, d2.2 1 _ rfl, d2.2 2 _ rfl⟩ : _ ∧ _ ∧ _)
  clear hFa hEa hSa c1 d1 e1
  go_wp2_with fail
  refine (toCall_rep arch num ws _ _ hl (HR.out _ e2.out)).mono ?_
  rintro e w4 ⟨u4, rfl, r4, x4⟩
  have e4 : Hid (Ext w w4) := e2.out.trans x4
  have c4 := c2.step x4
  have d4 := d2.step x4
  clear x4 s0 s1 s2 c2 d2
  have HR4 : Hid (∀ W, Ext w4 W → RepCall arch num ws u4 W) := fun W hE => r4.step hE
  obtain ⟨a4, cap4, rfl, hw4⟩ := r4
  clear hw4
  go_wp2_with fail
  have c5 := (c4.step (Ext.one w4 (.cells #[.int .i64 arch, .int .i64 num, .slice a4 ws.length cap4] 29)))
  have d5 := (d4.step (Ext.one w4 (.cells #[.int .i64 arch, .int .i64 num, .slice a4 ws.length cap4] 29)))
  have x5 := CellsAt.new w4 [.int .i64 arch, .int .i64 num, .slice a4 ws.length cap4] 29
  have e5 : Hid (Ext w (w4.alloc (.cells #[.int .i64 arch, .int .i64 num, .slice a4 ws.length cap4] 29))) := e4.out.alloc _
  have e45 : Hid (Ext w4 (w4.alloc (.cells #[.int .i64 arch, .int .i64 num, .slice a4 ws.length cap4] 29))) := Ext.one _ _
  simp only [List.toArray] at x5
  clear c4 d4
  generalize w4.alloc (.cells #[.int .i64 arch, .int .i64 num, .slice a4 ws.length cap4] 29) = W5 at *
  refine' wp_region_loose (.inl _ :: .inl _ :: .inl _ :: .inl _ :: .inl _ :: []) (fun w' => CellsAt w' w.heap.size [.int .i64 ag, .int .i64 mh, .int .i64 ml, .int .i64 cm, .int .i64 vh, .int .i64 vl] ∧ CellsAt w' (w.heap.size + 1) [.int .i64 arch, .int .i64 num, .slice a ws.length cap] ∧ CellsAt w' w4.heap.size [.int .i64 arch, .int .i64 num, .slice a4 ws.length cap4]) (by kernel_rfl) (by kernel_rfl) (⟨c5.drew, d5.drew, x5.drew⟩) (fun _ _ h hE => ⟨h.1.step hE, h.2.1.step hE, h.2.2.step hE⟩) ?hAb ?hlb ?hMb
  case' hMb => skip
  apply wpLoose_val rfl rfl
  case hs =>
    intro w1 hC hd Q1 hQ1
    obtain ⟨hE, hS⟩ := hC
    dsimp only [bare]
    obtain ⟨q0, q1, q2, q3, q4, q5, s0, s1, s2⟩ := (⟨hS.1.2 0 _ rfl, hS.1.2 1 _ rfl, hS.1.2 2 _ rfl, hS.1.2 3 _ rfl, hS.1.2 4 _ rfl, hS.1.2 5 _ rfl, hS.2.2.2 0 _ rfl, hS.2.2.2 1 _ rfl, hS.2.2.2 2 _ rfl⟩ : _ ∧ _ ∧ _ ∧ _ ∧ _ ∧ _ ∧ _ ∧ _ ∧ _)
    clear hd hE
    try clear hS
    go_wp2
    exact Ext.refl _
  case ha => rfl
  apply wpLoose_val rfl rfl
  case hs =>
    intro w1 hC hd Q1 hQ1
    obtain ⟨hE, hS⟩ := hC
    dsimp only [bare]
    clear hd
    go_wp2_with fail
    refine (toCond_any ag mh ml cm vh vl _).mono ?_
    rintro e w2 ⟨rfl, hb⟩
    go_wp2_with fail
    exact hb
  case ha => rfl
  apply wpLoose_val rfl rfl
  case hs =>
    intro w1 hC hd Q1 hQ1
    obtain ⟨hE, hS⟩ := hC
    dsimp only [bare]
    obtain ⟨q0, q1, q2, q3, q4, q5, s0, s1, s2⟩ := (⟨hS.1.2 0 _ rfl, hS.1.2 1 _ rfl, hS.1.2 2 _ rfl, hS.1.2 3 _ rfl, hS.1.2 4 _ rfl, hS.1.2 5 _ rfl, hS.2.2.2 0 _ rfl, hS.2.2.2 1 _ rfl, hS.2.2.2 2 _ rfl⟩ : _ ∧ _ ∧ _ ∧ _ ∧ _ ∧ _ ∧ _ ∧ _ ∧ _)
    clear hd hE
    try clear hS
    go_wp2
    exact Ext.refl _
  case ha => rfl
  apply wpLoose_val rfl rfl
  case hs =>
    intro w1 hC hd Q1 hQ1
    obtain ⟨hE, hS⟩ := hC
    dsimp only [bare]
    clear hd
    go_wp2_with fail
    refine (iCondHolds_rep ag mh ml cm vh vl arch num ws _ _ hl (HR4.out _ (e45.out.drew.trans hE))).mono ?_
    rintro e w2 ⟨rfl, hb⟩
    go_wp2_with fail
    exact hb
  case ha => rfl
  apply wpLoose_val rfl rfl
  case hs =>
    intro w1 hC hd Q1 hQ1
    obtain ⟨hE, hS⟩ := hC
    dsimp only [bare]
    obtain ⟨q0, q1, q2, q3, q4, q5, s0, s1, s2⟩ := (⟨hS.1.2 0 _ rfl, hS.1.2 1 _ rfl, hS.1.2 2 _ rfl, hS.1.2 3 _ rfl, hS.1.2 4 _ rfl, hS.1.2 5 _ rfl, hS.2.2.2 0 _ rfl, hS.2.2.2 1 _ rfl, hS.2.2.2 2 _ rfl⟩ : _ ∧ _ ∧ _ ∧ _ ∧ _ ∧ _ ∧ _ ∧ _ ∧ _)
    clear hd hE
    try clear hS
    go_wp2
    exact Ext.refl _
  case ha => rfl
  refine wpLoose_nil ?_
  intro wb hEb hSb hFb
  have e6 : Hid (Ext w wb) := e5.out.drew.trans hEb
  have e46 : Hid (Ext w4 wb) := e45.out.drew.trans hEb
  have d6 := hSb.2.1
  have x6 := hSb.2.2
  clear hFb hEb hSb c5 d5 x5 e5 e45
  generalize condH ⟨ag, mh, ml, cm, vh, vl⟩ arch num ws = z
  have hzz : (z != z) = false := by cases z <;> rfl
  go_wp2_with fail
  refine' wp_region_loose (.inl _ :: .inl _ :: .inr (RepCall arch num ws) :: .inl _ :: .inl _ :: []) (fun w' => CellsAt w' (w.heap.size + 1) [.int .i64 arch, .int .i64 num, .slice a ws.length cap] ∧ CellsAt w' w4.heap.size [.int .i64 arch, .int .i64 num, .slice a4 ws.length cap4]) (by kernel_rfl) (by kernel_rfl) (⟨d6.drew, x6.drew⟩) (fun _ _ h hE => ⟨h.1.step hE, h.2.step hE⟩) ?hAc ?hlc ?hMc
  case' hMc => skip
  apply wpLoose_val rfl rfl
  case hs =>
    intro w1 hC hd Q1 hQ1
    obtain ⟨hE, hS⟩ := hC
    dsimp only [bare]
    obtain ⟨q0, q1, q2, s0, s1, s2⟩ := (⟨hS.1.2 0 _ rfl, hS.1.2 1 _ rfl, hS.1.2 2 _ rfl, hS.2.2 0 _ rfl, hS.2.2 1 _ rfl, hS.2.2 2 _ rfl⟩ : _ ∧ _ ∧ _ ∧ _ ∧ _ ∧ _)
    clear hd hE
    try clear hS
    go_wp2
    exact Ext.refl _
  case ha => rfl
  apply wpLoose_val rfl rfl
  case hs =>
    intro w1 hC hd Q1 hQ1
    obtain ⟨hE, hS⟩ := hC
    dsimp only [bare]
    obtain ⟨q0, q1, q2, s0, s1, s2⟩ := (⟨hS.1.2 0 _ rfl, hS.1.2 1 _ rfl, hS.1.2 2 _ rfl, hS.2.2 0 _ rfl, hS.2.2 1 _ rfl, hS.2.2 2 _ rfl⟩ : _ ∧ _ ∧ _ ∧ _ ∧ _ ∧ _)
    clear hd hE
    try clear hS
    go_wp2
    exact Ext.refl _
  case ha => rfl
  refine wpLoose_rel rfl rfl ?_ (fun vc_2 => ?_)
  · intro w1 hC hd Q1 hQ1
    obtain ⟨hE, hS⟩ := hC
    dsimp only [bare]
    clear hd hS
    go_wp2_with fail
    refine (toCall_rep arch num ws _ _ hl (HR.out _ (e6.out.drew.trans hE))).mono ?_
    rintro e w2 ⟨u2, rfl, r2, x2⟩
    go_wp2_with fail
    exact hQ1 _ _ x2 r2
  apply wpLoose_val rfl rfl
  case hs =>
    intro w1 hC hd Q1 hQ1
    obtain ⟨hE, hS⟩ := hC
    dsimp only [bare]
    have h2 := hd ⟨2, .data⟩ (by simp) rfl _ rfl (by simp [Act.put])
    clear hd
    go_wp2_with fail
    refine (eqCall_rep arch num ws _ _ _ hl (HR4.out _ (e46.out.drew.trans hE)) h2).mono ?_
    rintro e w2 ⟨rfl, hb⟩
    go_wp2_with fail
    exact hb
  case ha => rfl
  apply wpLoose_val rfl rfl
  case hs =>
    intro w1 hC hd Q1 hQ1
    obtain ⟨hE, hS⟩ := hC
    dsimp only [bare]
    obtain ⟨q0, q1, q2, s0, s1, s2⟩ := (⟨hS.1.2 0 _ rfl, hS.1.2 1 _ rfl, hS.1.2 2 _ rfl, hS.2.2 0 _ rfl, hS.2.2 1 _ rfl, hS.2.2 2 _ rfl⟩ : _ ∧ _ ∧ _ ∧ _ ∧ _ ∧ _)
    clear hd hE
    try clear hS
    go_wp2
    exact Ext.refl _
  case ha => rfl
  refine wpLoose_nil ?_
  intro wc hEc hSc hFc
  have e7 : Hid (Ext w wc) := e6.out.drew.trans hEc
  clear hEc hSc hFc d6 x6
  go_wp2
  go_ret
  exact ⟨rfl, e7.out⟩
  case hAc => kernel_rfl
  case hlc => exact ⟨trivial, trivial, fun _ _ _ h hE => h.step hE, trivial, trivial, trivial⟩
  case hAb => kernel_rfl
  case hlb => exact ⟨trivial, trivial, trivial, trivial, trivial, trivial⟩
  case hAa => kernel_rfl
  case hla => exact ⟨trivial, trivial, trivial, fun _ _ _ h hE => h.step hE, trivial, trivial, trivial⟩

set_option maxRecDepth 100000 in
theorem lifted (os : Os) (started : os.Started) (H : Type) (enc : TypeId × Value → H) :
    ReturnsInHanded {} Try.checked os 7 .any (Rows.fnExactCondHoldsSpec.pre6 enc Try.prog Try.f7 Rows.fnExactCondHoldsRow.domain false) (Rows.fnExactCondHoldsSpec.post enc Try.prog Try.f7 false true false false) := by
  refine returnsInHanded_of_change (C := Try.checked) own started (by kernel_rfl) Try.func7
    (ChangeSpec.witness6 (enc := enc) (C := Try.checked) false ⟨#[], #[.agg #[.int .i64 0, .int .i64 0, .int .i64 0, .int .i64 0, .int .i64 0, .int .i64 0], .agg #[.int .i64 0, .int .i64 0, .slice none 0 0]], []⟩ 8 (by kernel_rfl) (by kernel_rfl) (by kernel_rfl) (by kernel_rfl)) ?_
  intro W base args ds gs before hval0 hW hcnd _
  have hval : ∀ (j : Nat) t v, Try.f7.params[j]? = some t → args[j]? = some v → Value.okWide Try.prog W .any base t v := hval0
  have hW' := hW
  obtain ⟨p, q, hA0, hV, rfl, hfz, hnd⟩ := hW
  have hA : DataW.TrodAll enc Try.prog W 0 (fun _ => true) true Try.f7.params.toList args.toList ds p := hA0
  rw [Try.params7] at hA hval
  obtain ⟨v0, vs0, d0, ds0, p0, q0, hargs, rfl, rfl, h0, r0⟩ := trodAll_cons hA
  obtain ⟨v1, vs1, d1, ds1, p1, q1, rfl, rfl, rfl, h1, r1⟩ := trodAll_cons r0
  obtain ⟨rfl, rfl, rfl⟩ := trodAll_nil r1
  obtain rfl : args = #[v0, v1] := by cases args; simp_all
  obtain ⟨rfl, rfl⟩ := trodVars_none hV
  have lt0 : ∀ x ∈ p0, x.block < W.heap.size := by obtain ⟨m, hm⟩ := h0; exact DataW.trod_lt m _ _ _ hm
  obtain ⟨ca0, cb0, cc0, cd0, ce0, cf0, rfl⟩ := open_cond (hval 0 57 v0 rfl rfl) h0
  have lt1 : ∀ x ∈ p1, x.block < W.heap.size := by obtain ⟨m, hm⟩ := h1; exact DataW.trod_lt m _ _ _ hm
  obtain ⟨ar1, nu1, a1, cap1, ws1, rfl, hws1⟩ := open_call (hval 1 69 v1 rfl rfl) h1
  clear hA0 hval0
  refine (walk ca0 cb0 cc0 cd0 ce0 cf0 ar1 nu1 a1 cap1 ws1 W hws1).mono fun e W' ⟨he, bel⟩ => ?_
  subst he
  exact ⟨_, rfl, _, _, _, [], _, [], hW', trodAll_mk1 (shut_bool Try.underlying4 _), (trodAll_cons_mk (Below.trod laidOut (by kernel_rfl) (of_decide_eq_true (by kernel_rfl)) h0 bel lt0) (trodAll_cons_mk (Below.trod laidOut (by kernel_rfl) (of_decide_eq_true (by kernel_rfl)) h1 bel lt1) trodAll_mk0)), rfl, bel.frame _, fun h => by cases h⟩

end Go.Proofs.Ytoknlaaghjlnaaa.CondHolds
namespace Go.Proofs.Ytoknlaaghjlnaaa
open Go.ChangeShapes Go.WideShapes Go.ChangeAt Go.RowKit

theorem condHolds : Rows.FnExactCondHoldsSaid :=
  OpenClaim.holds_of_wide 7 Try.f7 rfl rfl rfl rfl rfl rfl rfl ⟨rfl, rfl, rfl, rfl, rfl⟩ rfl rfl rfl rfl rfl (by kernel_rfl) Try.func7 (by kernel_rfl)
    (of_decide_eq_true (by kernel_rfl)) (by unfold Func.isWrapper; first | (rw [if_pos (by decide +kernel)]; kernel_rfl) | (rw [if_neg (by decide +kernel)]; exact ⟨rfl, rfl⟩))
    (fun os started H enc _ => CondHolds.lifted os started H enc)
#print axioms condHolds
end Go.Proofs.Ytoknlaaghjlnaaa
