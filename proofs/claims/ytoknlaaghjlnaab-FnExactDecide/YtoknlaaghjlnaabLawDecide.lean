/- Proved: at every laws.Policy and every laws.Call the law FnExactDecide answers true, so impl.Decide answers as spec.Decide and leaves its arguments as they were (the law itself passes policies and calls with more than 1<<20 rules, numbers, conditions and Args together by); no condition. -/
import Derived.Test.YtoknlaaghjlnaabDecideS
import Derived.Test.YtoknlaaghjlnaabToPolicy
import Derived.Test.YtoknlaaghjlnaabSzCall
import Derived.Test.YtoknlaaghjlnaabOpenPol
import Derived.WalkKit
import Derived.ProofKit
import Derived.OpenShut
import Derived.ShutString
import Derived.ChangeOld
import Derived.Below
import Derived.Deep.RegionHeld3
import Derived.Deep.RegionWith
namespace Go.Proofs.Ytoknlaaghjlnaab.Decide
open Go.ChangeShapes Go.WideShapes Go.ChangeAt Go.RowKit
open Go.ChangeMaps (open_string shut_string)
set_option linter.unusedVariables false

theorem own : ownKnob Try.prog.godebug = none := by kernel_rfl
theorem laidOut : laidOutB Try.prog = true := by kernel_rfl

set_option maxRecDepth 100000 in
set_option maxHeartbeats 3200000 in
theorem walk (p : PN) (v : Value) (arch num : Int) (a : Option Addr) (cap : Nat) (ws : List (Int × Int)) (w : World) (hA : RepPol p v w ∧ p.rules.length ≤ 9223372036854775807 ∧ ∀ k, k < p.rules.length → Fin63 (p.rules.getD k r0)) (hB : Wides w a ws ∧ ws.length ≤ 9223372036854775807) : Calls Try.prog 3 #[v, .agg #[.int .i64 arch, .int .i64 num, .slice a ws.length cap]] w fun e w' => e = .returned (.bool true) ∧ Below w.heap.size w w' := by
  obtain ⟨hrep, hl63, hf63⟩ := hA
  have hfin : FinR p.rules := ⟨hl63, fun k hk => hf63 k hk⟩
  obtain ⟨a1, c1, rfl, hr⟩ := hrep
  have HR : Hid (∀ W, Ext w W → RepPol p (.agg #[.int .i64 p.arch, .int .i64 p.act, .int .i64 p.data, .slice a1 p.rules.length c1]) W) := fun W hE => ⟨a1, c1, rfl, hr.step hE⟩
  have HQ : Hid (∀ W, Ext w W → RepCall arch num ws (.agg #[.int .i64 arch, .int .i64 num, .slice a ws.length cap]) W) := fun W hE => ⟨a, cap, rfl, hB.1.below hE (Nat.le_refl _)⟩
  have HZ : Hid (∀ W, Ext w W → Calls Try.prog 4 #[.agg #[.int .i64 p.arch, .int .i64 p.act, .int .i64 p.data, .slice a1 p.rules.length c1], .int .i64 ((1048576 : Nat) : Int)] W fun e w' => ((e = .returned (.int .i64 (-1))) ∨ ∃ m : Nat, e = .returned (.int .i64 (m : Int)) ∧ m ≤ 1048576 ∧ SmallR p.rules) ∧ Ext W w') := fun W hE => szPolicy_rep (by omega) hfin (HR.out W hE)
  have HY : Hid (∀ W (m : Nat), m ≤ 1048576 → Calls Try.prog 5 #[.agg #[.int .i64 arch, .int .i64 num, .slice a ws.length cap], .int .i64 (m : Int)] W fun e w' => ((e = .returned (.int .i64 (-1))) ∨ ∃ m' : Nat, e = .returned (.int .i64 (m' : Int)) ∧ m' ≤ m ∧ ws.length ≤ 1048576) ∧ Ext W w') := fun W m hm => szCall_or arch num a cap ws.length m W hm hB.2
  clear hr hl63 hf63 hfin
  generalize p.arch = pa at *
  generalize p.act = ac at *
  generalize p.data = da at *
  generalize p.rules.length = n1 at *
  have HLW : Hid (∃ n, n = ws.length) := ⟨_, rfl⟩
  clear hB
  obtain ⟨nw, hnw⟩ := HLW.out
  have HW : Hid (nw = ws.length) := hnw
  rw [← hnw] at HQ HY ⊢
  clear hnw HLW
  go_enter Try.func3, Try.ntmps3
  go_wp2_with fail
  refine (HZ.out _ ((Ext.one w _).alloc _)).mono ?_
  rintro e w1 ⟨hor, x1⟩
  have e1 : Hid (Ext w w1) := ((Ext.one w _).alloc _).trans x1
  have c1' := ((CellsAt.new w [.int .i64 pa, .int .i64 ac, .int .i64 da, .slice a1 n1 c1] 24).step (Ext.one _ _)).step x1
  have d1' := (CellsAt.new' (w.alloc (.cells #[.int .i64 pa, .int .i64 ac, .int .i64 da, .slice a1 n1 c1] 24)) [.int .i64 arch, .int .i64 num, .slice a nw cap] 27 (w.heap.size + 1) (by simp)).step x1
  clear x1 HZ
  rcases hor with rfl | ⟨m, rfl, hm, hs⟩
  · clear c1' d1' HY
    go_wp2
    go_ret
    exact ⟨rfl, e1.out⟩
  have HY1 : Hid (Calls Try.prog 5 #[.agg #[.int .i64 arch, .int .i64 num, .slice a nw cap], .int .i64 (m : Int)] w1 fun e w' => ((e = .returned (.int .i64 (-1))) ∨ ∃ m' : Nat, e = .returned (.int .i64 (m' : Int)) ∧ m' ≤ m ∧ nw ≤ 1048576) ∧ Ext w1 w') := HY.out w1 m hm
  clear hm HY
  obtain ⟨q0, q1, q2⟩ := (⟨d1'.2 0 _ rfl, d1'.2 1 _ rfl, d1'.2 2 _ rfl⟩ : _ ∧ _ ∧ _)
  go_wp2_with fail
  refine HY1.out.mono ?_
  rintro e w2 ⟨hor, x2⟩
  have e2 : Hid (Ext w w2) := e1.out.trans x2
  have c2' := c1'.step x2
  have d2' := d1'.step x2
  clear x2 HY1 q0 q1 q2 c1' d1' e1
  rcases hor with rfl | ⟨m', rfl, hm, u⟩
  · clear c2' d2'
    go_wp2
    go_ret
    exact ⟨rfl, e2.out⟩
  have hl : ws.length ≤ 1048576 := by rw [← HW.out]; exact u
  clear hm u
  go_wp2_with fail
  refine' wp_region_loose (.inl _ :: .inr (RepPol p) :: .inl _ :: .inr (RepCall arch num ws) :: .inl _ :: .inl _ :: []) (fun w' => CellsAt w' w.heap.size [.int .i64 pa, .int .i64 ac, .int .i64 da, .slice a1 n1 c1] ∧ CellsAt w' (w.heap.size + 1) [.int .i64 arch, .int .i64 num, .slice a nw cap]) (by kernel_rfl) (by kernel_rfl) (⟨c2'.drew, d2'.drew⟩) (fun _ _ h hE => ⟨h.1.step hE, h.2.step hE⟩) ?hAa ?hla ?hMa
  case' hMa => skip
  apply wpLoose_val rfl rfl
  case hs =>
    intro w1 hC hd Q1 hQ1
    obtain ⟨hE, hS⟩ := hC
    dsimp only [bare]
    obtain ⟨q0, q1, q2, q3, s0, s1, s2⟩ := (⟨hS.1.2 0 _ rfl, hS.1.2 1 _ rfl, hS.1.2 2 _ rfl, hS.1.2 3 _ rfl, hS.2.2 0 _ rfl, hS.2.2 1 _ rfl, hS.2.2 2 _ rfl⟩ : _ ∧ _ ∧ _ ∧ _ ∧ _ ∧ _ ∧ _)
    clear hd hE
    try clear hS
    go_wp2
    exact Ext.refl _
  case ha => rfl
  refine wpLoose_rel rfl rfl ?_ (fun va_1 => ?_)
  · intro w1 hC hd Q1 hQ1
    obtain ⟨hE, hS⟩ := hC
    dsimp only [bare]
    clear hd hS
    go_wp2_with fail
    refine (toPolicy_rep hs (HR.out _ (e2.out.drew.trans hE))).mono ?_
    rintro e w3 ⟨u3, rfl, r3, x3⟩
    go_wp2_with fail
    exact hQ1 _ _ x3 r3
  apply wpLoose_val rfl rfl
  case hs =>
    intro w1 hC hd Q1 hQ1
    obtain ⟨hE, hS⟩ := hC
    dsimp only [bare]
    obtain ⟨q0, q1, q2, q3, s0, s1, s2⟩ := (⟨hS.1.2 0 _ rfl, hS.1.2 1 _ rfl, hS.1.2 2 _ rfl, hS.1.2 3 _ rfl, hS.2.2 0 _ rfl, hS.2.2 1 _ rfl, hS.2.2 2 _ rfl⟩ : _ ∧ _ ∧ _ ∧ _ ∧ _ ∧ _ ∧ _)
    clear hd hE
    try clear hS
    go_wp2
    exact Ext.refl _
  case ha => rfl
  refine wpLoose_rel rfl rfl ?_ (fun va_3 => ?_)
  · intro w1 hC hd Q1 hQ1
    obtain ⟨hE, hS⟩ := hC
    dsimp only [bare]
    clear hd hS
    go_wp2_with fail
    refine (toCall_rep arch num ws _ _ hl (HQ.out _ (e2.out.drew.trans hE))).mono ?_
    rintro e w3 ⟨u3, rfl, r3, x3⟩
    go_wp2_with fail
    exact hQ1 _ _ x3 r3
  apply wpLoose_val rfl rfl
  case hs =>
    intro w1 hC hd Q1 hQ1
    obtain ⟨hE, hS⟩ := hC
    dsimp only [bare]
    have h1 := hd ⟨1, .data⟩ (by simp) rfl _ rfl (by simp [Act.put])
    have h3 := hd ⟨3, .data⟩ (by simp) rfl _ rfl (by simp [Act.put])
    clear hd
    go_wp2_with fail
    refine (sDecide_rep hs hl h1 h3).mono ?_
    rintro e w2 ⟨rfl, hb⟩
    go_wp2_with fail
    exact hb
  case ha => rfl
  apply wpLoose_val rfl rfl
  case hs =>
    intro w1 hC hd Q1 hQ1
    obtain ⟨hE, hS⟩ := hC
    dsimp only [bare]
    obtain ⟨q0, q1, q2, q3, s0, s1, s2⟩ := (⟨hS.1.2 0 _ rfl, hS.1.2 1 _ rfl, hS.1.2 2 _ rfl, hS.1.2 3 _ rfl, hS.2.2 0 _ rfl, hS.2.2 1 _ rfl, hS.2.2 2 _ rfl⟩ : _ ∧ _ ∧ _ ∧ _ ∧ _ ∧ _ ∧ _)
    clear hd hE
    try clear hS
    go_wp2
    exact Ext.refl _
  case ha => rfl
  refine wpLoose_nil ?_
  intro wa hEa hSa hFa
  have e3 : Hid (Ext w wa) := e2.out.drew.trans hEa
  have c3' := hSa.1
  have d3' := hSa.2
  clear hFa hEa hSa c2' d2' e2
  obtain ⟨q0, q1, q2, q3⟩ := (⟨c3'.2 0 _ rfl, c3'.2 1 _ rfl, c3'.2 2 _ rfl, c3'.2 3 _ rfl⟩ : _ ∧ _ ∧ _ ∧ _)
  have HT : Hid (Calls Try.prog 7 #[.agg #[.int .i64 pa, .int .i64 ac, .int .i64 da, .slice a1 n1 c1]] wa fun e w' => ∃ b1 m1 o1 b2 m2 o2, e = .returned (.agg #[.int .i64 b1, .int .i64 m1, .int .i64 o1, .slice b2 m2 o2]) ∧ RepPol p (.agg #[.int .i64 b1, .int .i64 m1, .int .i64 o1, .slice b2 m2 o2]) w' ∧ Ext wa w') := by
    refine (toPolicy_rep hs (HR.out _ e3.out)).mono ?_
    rintro e w' ⟨u, rfl, hP, x⟩
    have hP2 := hP
    obtain ⟨a9, c9, rfl, _⟩ := hP2
    exact ⟨_, _, _, _, _, _, rfl, hP, x⟩
  go_wp2_with fail
  refine HT.out.mono ?_
  rintro e w4 ⟨b1, m1, o1, b2, m2, o2, rfl, r4, x4⟩
  have HR4 : Hid (∀ W, Ext w4 W → RepPol p (.agg #[.int .i64 b1, .int .i64 m1, .int .i64 o1, .slice b2 m2 o2]) W) := fun W hE => r4.step hE
  have e4 : Hid (Ext w w4) := e3.out.trans x4
  have c4' := c3'.step x4
  have d4' := d3'.step x4
  clear x4 r4 q0 q1 q2 q3 c3' d3' e3 HT
  have c5' := c4'.step (Ext.one w4 (.cells #[.int .i64 b1, .int .i64 m1, .int .i64 o1, .slice b2 m2 o2] 33))
  have d5' := d4'.step (Ext.one w4 (.cells #[.int .i64 b1, .int .i64 m1, .int .i64 o1, .slice b2 m2 o2] 33))
  have x5' := CellsAt.new w4 [.int .i64 b1, .int .i64 m1, .int .i64 o1, .slice b2 m2 o2] 33
  have e5 : Hid (Ext w (w4.alloc (.cells #[.int .i64 b1, .int .i64 m1, .int .i64 o1, .slice b2 m2 o2] 33))) := e4.out.alloc _
  have e45 : Hid (Ext w4 (w4.alloc (.cells #[.int .i64 b1, .int .i64 m1, .int .i64 o1, .slice b2 m2 o2] 33))) := Ext.one _ _
  simp only [List.toArray] at x5'
  clear c4' d4'
  obtain ⟨s0, s1, s2⟩ := (⟨d5'.2 0 _ rfl, d5'.2 1 _ rfl, d5'.2 2 _ rfl⟩ : _ ∧ _ ∧ _)
  go_wp2_with fail
  generalize w4.alloc (.cells #[.int .i64 b1, .int .i64 m1, .int .i64 o1, .slice b2 m2 o2] 33) = W5 at *
  refine (toCall_rep arch num ws _ _ hl (HQ.out _ e5.out)).mono ?_
  rintro e w6 ⟨u6, rfl, r6, x6⟩
  have HQ6 : Hid (∀ W, Ext w6 W → RepCall arch num ws u6 W) := fun W hE => r6.step hE
  have e6 : Hid (Ext w w6) := e5.out.trans x6
  have e46 : Hid (Ext w4 w6) := e45.out.trans x6
  have c6' := c5'.step x6
  have d6' := d5'.step x6
  have x6' := x5'.step x6
  clear x6 s0 s1 s2 c5' d5' x5' e5 e45
  obtain ⟨a6, cap6, rfl, hw6⟩ := r6
  clear hw6
  obtain ⟨n6, hn6⟩ : ∃ n6, n6 = ws.length := ⟨_, rfl⟩
  rw [← hn6] at HQ6 ⊢
  clear hn6
  have c7' := c6'.step (Ext.one w6 (.cells #[.int .i64 arch, .int .i64 num, .slice a6 n6 cap6] 37))
  have d7' := d6'.step (Ext.one w6 (.cells #[.int .i64 arch, .int .i64 num, .slice a6 n6 cap6] 37))
  have x7' := x6'.step (Ext.one w6 (.cells #[.int .i64 arch, .int .i64 num, .slice a6 n6 cap6] 37))
  have y7' := CellsAt.new w6 [.int .i64 arch, .int .i64 num, .slice a6 n6 cap6] 37
  have e7 : Hid (Ext w (w6.alloc (.cells #[.int .i64 arch, .int .i64 num, .slice a6 n6 cap6] 37))) := e6.out.alloc _
  have e47 : Hid (Ext w4 (w6.alloc (.cells #[.int .i64 arch, .int .i64 num, .slice a6 n6 cap6] 37))) := e46.out.alloc _
  have e67 : Hid (Ext w6 (w6.alloc (.cells #[.int .i64 arch, .int .i64 num, .slice a6 n6 cap6] 37))) := Ext.one _ _
  simp only [List.toArray] at y7'
  obtain ⟨q0, q1, q2, q3⟩ := (⟨x7'.2 0 _ rfl, x7'.2 1 _ rfl, x7'.2 2 _ rfl, x7'.2 3 _ rfl⟩ : _ ∧ _ ∧ _ ∧ _)
  clear c6' d6' x6'
  go_wp2_with fail
  generalize w6.alloc (.cells #[.int .i64 arch, .int .i64 num, .slice a6 n6 cap6] 37) = W7 at *
  refine (iDecide_rep hs hl (HR4.out _ e47.out) (HQ6.out _ e67.out)).mono ?_
  rintro e w8 ⟨rfl, x8⟩
  have e8 : Hid (Ext w w8) := e7.out.trans x8
  have e48 : Hid (Ext w4 w8) := e47.out.trans x8
  have e68 : Hid (Ext w6 w8) := e67.out.trans x8
  have c8' := c7'.step x8
  have d8' := d7'.step x8
  have x8' := x7'.step x8
  have y8' := y7'.step x8
  clear x8 q0 q1 q2 q3 c7' d7' x7' y7' e7 e47 e67
  generalize decideV p arch num ws = z
  have hzz : (z != z) = false := by simp
  go_wp2_with fail
  refine' wp_region_loose (.inl _ :: .inl _ :: .inr (RepPol p) :: .inl _ :: .inl _ :: []) (fun w' => CellsAt w' w.heap.size [.int .i64 pa, .int .i64 ac, .int .i64 da, .slice a1 n1 c1] ∧ CellsAt w' (w.heap.size + 1) [.int .i64 arch, .int .i64 num, .slice a nw cap] ∧ CellsAt w' w4.heap.size [.int .i64 b1, .int .i64 m1, .int .i64 o1, .slice b2 m2 o2] ∧ CellsAt w' w6.heap.size [.int .i64 arch, .int .i64 num, .slice a6 n6 cap6]) (by kernel_rfl) (by kernel_rfl) (⟨c8'.drew, d8'.drew, x8'.drew, y8'.drew⟩) (fun _ _ h hE => ⟨h.1.step hE, h.2.1.step hE, h.2.2.1.step hE, h.2.2.2.step hE⟩) ?hAb ?hlb ?hMb
  case' hMb => skip
  apply wpLoose_val rfl rfl
  case hs =>
    intro w1 hC hd Q1 hQ1
    obtain ⟨hE, hS⟩ := hC
    dsimp only [bare]
    obtain ⟨q0, q1, q2, q3, s0, s1, s2, s3⟩ := (⟨hS.1.2 0 _ rfl, hS.1.2 1 _ rfl, hS.1.2 2 _ rfl, hS.1.2 3 _ rfl, hS.2.2.1.2 0 _ rfl, hS.2.2.1.2 1 _ rfl, hS.2.2.1.2 2 _ rfl, hS.2.2.1.2 3 _ rfl⟩ : _ ∧ _ ∧ _ ∧ _ ∧ _ ∧ _ ∧ _ ∧ _)
    clear hd hE
    try clear hS
    go_wp2
    exact Ext.refl _
  case ha => rfl
  apply wpLoose_val rfl rfl
  case hs =>
    intro w1 hC hd Q1 hQ1
    obtain ⟨hE, hS⟩ := hC
    dsimp only [bare]
    obtain ⟨q0, q1, q2, q3, s0, s1, s2, s3⟩ := (⟨hS.1.2 0 _ rfl, hS.1.2 1 _ rfl, hS.1.2 2 _ rfl, hS.1.2 3 _ rfl, hS.2.2.1.2 0 _ rfl, hS.2.2.1.2 1 _ rfl, hS.2.2.1.2 2 _ rfl, hS.2.2.1.2 3 _ rfl⟩ : _ ∧ _ ∧ _ ∧ _ ∧ _ ∧ _ ∧ _ ∧ _)
    clear hd hE
    try clear hS
    go_wp2
    exact Ext.refl _
  case ha => rfl
  refine wpLoose_rel rfl rfl ?_ (fun vb_2 => ?_)
  · intro w1 hC hd Q1 hQ1
    obtain ⟨hE, hS⟩ := hC
    dsimp only [bare]
    clear hd hS
    go_wp2_with fail
    refine (toPolicy_rep hs (HR.out _ (e8.out.drew.trans hE))).mono ?_
    rintro e w9 ⟨u3, rfl, r3, x3⟩
    go_wp2_with fail
    exact hQ1 _ _ x3 r3
  apply wpLoose_val rfl rfl
  case hs =>
    intro w1 hC hd Q1 hQ1
    obtain ⟨hE, hS⟩ := hC
    dsimp only [bare]
    have h2 := hd ⟨2, .data⟩ (by simp) rfl _ rfl (by simp [Act.put])
    clear hd
    go_wp2_with fail
    refine (eqPolicy_rep hs (HR4.out _ (e48.out.drew.trans hE)) h2).mono ?_
    rintro e w2 ⟨rfl, hb⟩
    go_wp2_with fail
    exact hb
  case ha => rfl
  apply wpLoose_val rfl rfl
  case hs =>
    intro w1 hC hd Q1 hQ1
    obtain ⟨hE, hS⟩ := hC
    dsimp only [bare]
    obtain ⟨q0, q1, q2, q3, s0, s1, s2, s3⟩ := (⟨hS.1.2 0 _ rfl, hS.1.2 1 _ rfl, hS.1.2 2 _ rfl, hS.1.2 3 _ rfl, hS.2.2.1.2 0 _ rfl, hS.2.2.1.2 1 _ rfl, hS.2.2.1.2 2 _ rfl, hS.2.2.1.2 3 _ rfl⟩ : _ ∧ _ ∧ _ ∧ _ ∧ _ ∧ _ ∧ _ ∧ _)
    clear hd hE
    try clear hS
    go_wp2
    exact Ext.refl _
  case ha => rfl
  refine wpLoose_nil ?_
  intro wb hEb hSb hFb
  have e9 : Hid (Ext w wb) := e8.out.drew.trans hEb
  have e69 : Hid (Ext w6 wb) := e68.out.drew.trans hEb
  have d9' := hSb.2.1
  have y9' := hSb.2.2.2
  clear hFb hSb hEb c8' d8' x8' y8' e8 e48 e68
  go_wp2_with fail
  refine' wp_region_loose (.inl _ :: .inl _ :: .inr (RepCall arch num ws) :: .inl _ :: .inl _ :: []) (fun w' => CellsAt w' (w.heap.size + 1) [.int .i64 arch, .int .i64 num, .slice a nw cap] ∧ CellsAt w' w6.heap.size [.int .i64 arch, .int .i64 num, .slice a6 n6 cap6]) (by kernel_rfl) (by kernel_rfl) (⟨d9'.drew, y9'.drew⟩) (fun _ _ h hE => ⟨h.1.step hE, h.2.step hE⟩) ?hAc ?hlc ?hMc
  case' hMc => skip
  apply wpLoose_val rfl rfl
  case hs =>
    intro w1 hC hd Q1 hQ1
    obtain ⟨hE, hS⟩ := hC
    dsimp only [bare]
    obtain ⟨q0, q1, q2, s0, s1, s2⟩ := (⟨hS.1.2 0 _ rfl, hS.1.2 1 _ rfl, hS.1.2 2 _ rfl, hS.2.2 0 _ rfl, hS.2.2 1 _ rfl, hS.2.2 2 _ rfl⟩ : _ ∧ _ ∧ _ ∧ _ ∧ _ ∧ _)
    clear hd hE
    try clear hS
    go_wp2
    exact Ext.refl _
  case ha => rfl
  apply wpLoose_val rfl rfl
  case hs =>
    intro w1 hC hd Q1 hQ1
    obtain ⟨hE, hS⟩ := hC
    dsimp only [bare]
    obtain ⟨q0, q1, q2, s0, s1, s2⟩ := (⟨hS.1.2 0 _ rfl, hS.1.2 1 _ rfl, hS.1.2 2 _ rfl, hS.2.2 0 _ rfl, hS.2.2 1 _ rfl, hS.2.2 2 _ rfl⟩ : _ ∧ _ ∧ _ ∧ _ ∧ _ ∧ _)
    clear hd hE
    try clear hS
    go_wp2
    exact Ext.refl _
  case ha => rfl
  refine wpLoose_rel rfl rfl ?_ (fun vc_2 => ?_)
  · intro w1 hC hd Q1 hQ1
    obtain ⟨hE, hS⟩ := hC
    dsimp only [bare]
    clear hd hS
    go_wp2_with fail
    refine (toCall_rep arch num ws _ _ hl (HQ.out _ (e9.out.drew.trans hE))).mono ?_
    rintro e w3 ⟨u3, rfl, r3, x3⟩
    go_wp2_with fail
    exact hQ1 _ _ x3 r3
  apply wpLoose_val rfl rfl
  case hs =>
    intro w1 hC hd Q1 hQ1
    obtain ⟨hE, hS⟩ := hC
    dsimp only [bare]
    have h2 := hd ⟨2, .data⟩ (by simp) rfl _ rfl (by simp [Act.put])
    clear hd
    go_wp2_with fail
    refine (eqCall_rep arch num ws _ _ _ hl (HQ6.out _ (e69.out.drew.trans hE)) h2).mono ?_
    rintro e w2 ⟨rfl, hb⟩
    go_wp2_with fail
    exact hb
  case ha => rfl
  apply wpLoose_val rfl rfl
  case hs =>
    intro w1 hC hd Q1 hQ1
    obtain ⟨hE, hS⟩ := hC
    dsimp only [bare]
    obtain ⟨q0, q1, q2, s0, s1, s2⟩ := (⟨hS.1.2 0 _ rfl, hS.1.2 1 _ rfl, hS.1.2 2 _ rfl, hS.2.2 0 _ rfl, hS.2.2 1 _ rfl, hS.2.2 2 _ rfl⟩ : _ ∧ _ ∧ _ ∧ _ ∧ _ ∧ _)
    clear hd hE
    try clear hS
    go_wp2
    exact Ext.refl _
  case ha => rfl
  refine wpLoose_nil ?_
  intro wc hEc hSc hFc
  have e10 : Hid (Ext w wc) := e9.out.drew.trans hEc
  clear hEc hSc hFc d9' y9'
  go_wp2
  go_ret
  exact ⟨rfl, e10.out⟩
  case hAc => kernel_rfl
  case hlc => exact ⟨trivial, trivial, fun _ _ _ h hE => h.step hE, trivial, trivial, trivial⟩
  case hAb => kernel_rfl
  case hlb => exact ⟨trivial, trivial, fun _ _ _ h hE => h.step hE, trivial, trivial, trivial⟩
  case hAa => kernel_rfl
  case hla => exact ⟨trivial, fun _ _ _ h hE => h.step hE, trivial, fun _ _ _ h hE => h.step hE, trivial, trivial, trivial⟩

set_option maxRecDepth 100000 in
theorem lifted (os : Os) (started : os.Started) (H : Type) (enc : TypeId × Value → H) :
    ReturnsInHanded {} Try.checked os 3 .any (Rows.fnExactDecideSpec.pre6 enc Try.prog Try.f3 Rows.fnExactDecideRow.domain false) (Rows.fnExactDecideSpec.post enc Try.prog Try.f3 false true false false) := by
  refine returnsInHanded_of_change (C := Try.checked) own started (by kernel_rfl) Try.func3
    (ChangeSpec.witness6 (enc := enc) (C := Try.checked) false ⟨#[], #[.agg #[.int .i64 0, .int .i64 0, .int .i64 0, .slice none 0 0], .agg #[.int .i64 0, .int .i64 0, .slice none 0 0]], []⟩ 8 (by kernel_rfl) (by kernel_rfl) (by kernel_rfl) (by kernel_rfl)) ?_
  intro W base args ds gs before hval0 hW hcnd _
  have hval : ∀ (j : Nat) t v, Try.f3.params[j]? = some t → args[j]? = some v → Value.okWide Try.prog W .any base t v := hval0
  have hW' := hW
  obtain ⟨p, q, hA0, hV, rfl, hfz, hnd⟩ := hW
  have hA : DataW.TrodAll enc Try.prog W 0 (fun _ => true) true Try.f3.params.toList args.toList ds p := hA0
  rw [Try.params3] at hA hval
  obtain ⟨v0, vs0, d0, ds0, p0, q0, hargs, rfl, rfl, h0, r0⟩ := trodAll_cons hA
  obtain ⟨v1, vs1, d1, ds1, p1, q1, rfl, rfl, rfl, h1, r1⟩ := trodAll_cons r0
  obtain ⟨rfl, rfl, rfl⟩ := trodAll_nil r1
  obtain rfl : args = #[v0, v1] := by cases args; simp_all
  obtain ⟨rfl, rfl⟩ := trodVars_none hV
  have lt0 : ∀ x ∈ p0, x.block < W.heap.size := by obtain ⟨m, hm⟩ := h0; exact DataW.trod_lt m _ _ _ hm
  obtain ⟨p0x, hp0⟩ := open_policy (hval 0 24 v0 rfl rfl) h0
  have lt1 : ∀ x ∈ p1, x.block < W.heap.size := by obtain ⟨m, hm⟩ := h1; exact DataW.trod_lt m _ _ _ hm
  obtain ⟨ar1, nu1, a1, cap1, ws1, rfl, hws1⟩ := open_call (hval 1 27 v1 rfl rfl) h1
  clear hA0 hval0
  refine (walk p0x v0 ar1 nu1 a1 cap1 ws1 W hp0 hws1).mono fun e W' ⟨he, bel⟩ => ?_
  subst he
  exact ⟨_, rfl, _, _, _, [], _, [], hW', trodAll_mk1 (shut_bool Try.underlying4 _), (trodAll_cons_mk (Below.trod laidOut (by kernel_rfl) (of_decide_eq_true (by kernel_rfl)) h0 bel lt0) (trodAll_cons_mk (Below.trod laidOut (by kernel_rfl) (of_decide_eq_true (by kernel_rfl)) h1 bel lt1) trodAll_mk0)), rfl, bel.frame _, fun h => by cases h⟩

end Go.Proofs.Ytoknlaaghjlnaab.Decide
namespace Go.Proofs.Ytoknlaaghjlnaab
open Go.ChangeShapes Go.WideShapes Go.ChangeAt Go.RowKit

theorem decide9 : Rows.FnExactDecideSaid :=
  OpenClaim.holds_of_wide 3 Try.f3 rfl rfl rfl rfl rfl rfl rfl ⟨rfl, rfl, rfl, rfl, rfl⟩ rfl rfl rfl rfl rfl (by kernel_rfl) Try.func3 (by kernel_rfl)
    (of_decide_eq_true (by kernel_rfl)) (by unfold Func.isWrapper; first | (rw [if_pos (by decide +kernel)]; kernel_rfl) | (rw [if_neg (by decide +kernel)]; exact ⟨rfl, rfl⟩))
    (fun os started H enc _ => Decide.lifted os started H enc)
#print axioms decide9
end Go.Proofs.Ytoknlaaghjlnaab
