/- Proved: at every two laws.Policy the law FnExactSamePolicy answers true, so impl.SamePolicy answers as spec.SamePolicy and leaves its arguments as they were (the law itself passes policies with more than 1<<20 rules, numbers and conditions together by); no condition. -/
import Derived.Test.YtojaohdmfahpmaaSamePol
import Derived.Test.YtojaohdmfahpmaaOpenPol
import Derived.WalkKit
import Derived.ProofKit
import Derived.OpenShut
import Derived.ShutString
import Derived.ChangeOld
import Derived.Below
import Derived.Deep.RegionHeld3
import Derived.Deep.RegionWith
namespace Go.Proofs.Ytojaohdmfahpmaa.SamePolicy
open Go.ChangeShapes Go.WideShapes Go.ChangeAt Go.RowKit
open Go.ChangeMaps (open_string shut_string)
set_option linter.unusedVariables false

theorem own : ownKnob Try.prog.godebug = none := by kernel_rfl
theorem laidOut : laidOutB Try.prog = true := by kernel_rfl

set_option maxRecDepth 100000 in
set_option maxHeartbeats 3200000 in
theorem walk (p : PN) (v : Value) (q : PN) (u : Value) (w : World) (hA : RepPol p v w ∧ p.rules.length ≤ 9223372036854775807 ∧ ∀ k, k < p.rules.length → Fin63 (p.rules.getD k r0)) (hB : RepPol q u w ∧ q.rules.length ≤ 9223372036854775807 ∧ ∀ k, k < q.rules.length → Fin63 (q.rules.getD k r0)) :
    Calls Try.prog 3 #[v, u] w fun e w' => e = .returned (.bool true) ∧ Below w.heap.size w w' := by
  obtain ⟨hrep, hl63, hf63⟩ := hA
  obtain ⟨krep, kl63, kf63⟩ := hB
  have hfin : FinR p.rules := ⟨hl63, fun k hk => hf63 k hk⟩
  have kfin : FinR q.rules := ⟨kl63, fun k hk => kf63 k hk⟩
  have HP : Hid (∀ W, Ext w W → RepPol p v W) := fun W hE => hrep.step hE
  have HQ : Hid (∀ W, Ext w W → RepPol q u W) := fun W hE => krep.step hE
  have HZ : Hid (∀ W, Ext w W → Calls Try.prog 4 #[v, .int .i64 ((1048576 : Nat) : Int)] W fun e w' => ((e = .returned (.int .i64 (-1))) ∨ ∃ m : Nat, e = .returned (.int .i64 (m : Int)) ∧ m ≤ 1048576 ∧ SmallR p.rules) ∧ Ext W w') := fun W hE => szPolicy_rep (by omega) hfin (HP.out W hE)
  have HY : Hid (∀ W, Ext w W → ∀ l : Nat, l ≤ 1048576 → Calls Try.prog 4 #[u, .int .i64 (l : Int)] W fun e w' => ((e = .returned (.int .i64 (-1))) ∨ ∃ m : Nat, e = .returned (.int .i64 (m : Int)) ∧ m ≤ l ∧ SmallR q.rules) ∧ Ext W w') := fun W hE l hl => szPolicy_rep hl kfin (HQ.out W hE)
  obtain ⟨a, cap, rfl, hx⟩ := hrep
  obtain ⟨b, dap, rfl, hy⟩ := krep
  clear hl63 hf63 hfin kl63 kf63 kfin hx hy
  generalize p.arch = ar at *
  generalize p.act = ac at *
  generalize p.data = da at *
  generalize p.rules.length = n at *
  generalize q.arch = br at *
  generalize q.act = bc at *
  generalize q.data = db at *
  generalize q.rules.length = m at *
  obtain ⟨pl, hpl⟩ : ∃ pl, pl = [Value.int .i64 ar, .int .i64 ac, .int .i64 da, .slice a n cap] := ⟨_, rfl⟩
  obtain ⟨ql, hql⟩ : ∃ ql, ql = [Value.int .i64 br, .int .i64 bc, .int .i64 db, .slice b m dap] := ⟨_, rfl⟩
  have C1 := (CellsAt.new w [.int .i64 ar, .int .i64 ac, .int .i64 da, .slice a n cap] 24).step (Ext.one _ (.cells #[.int .i64 br, .int .i64 bc, .int .i64 db, .slice b m dap] 24))
  have C2 := CellsAt.new' (w.alloc (.cells #[.int .i64 ar, .int .i64 ac, .int .i64 da, .slice a n cap] 24)) [.int .i64 br, .int .i64 bc, .int .i64 db, .slice b m dap] 24 (w.heap.size + 1) (by simp)
  have e0 : Hid (Ext w ((w.alloc (.cells #[.int .i64 ar, .int .i64 ac, .int .i64 da, .slice a n cap] 24)).alloc (.cells #[.int .i64 br, .int .i64 bc, .int .i64 db, .slice b m dap] 24))) := (Ext.one _ _).alloc _
  simp only [List.toArray] at C1 C2
  go_enter Try.func3, Try.ntmps3
  go_wp2_with fail
  generalize (w.alloc (.cells #[.int .i64 ar, .int .i64 ac, .int .i64 da, .slice a n cap] 24)).alloc (.cells #[.int .i64 br, .int .i64 bc, .int .i64 db, .slice b m dap] 24) = W0 at *
  have hc0 : Hid (CellsAt W0 w.heap.size pl ∧ CellsAt W0 (w.heap.size + 1) ql) := by rw [hpl, hql]; exact ⟨C1, C2⟩
  clear C1 C2
  refine (HZ.out _ e0.out).mono ?_
  rintro e w1 ⟨hor, x1⟩
  have e1 : Hid (Ext w w1) := e0.out.trans x1
  have c1 : Hid (CellsAt w1 w.heap.size pl ∧ CellsAt w1 (w.heap.size + 1) ql) := ⟨hc0.out.1.step x1, hc0.out.2.step x1⟩
  clear x1 HZ e0 hc0
  rcases hor with rfl | ⟨k, rfl, hm, hs⟩
  · clear c1
    go_wp2
    go_ret
    exact ⟨rfl, e1.out⟩
  have hk0 : ¬ (k : Int) < 0 := by omega
  have HK : Hid (k ≤ 1048576) := hm
  clear hm
  have d1 := c1.out
  rw [hpl, hql] at d1
  obtain ⟨q0, q1, q2, q3⟩ := (⟨d1.2.2 0 _ rfl, d1.2.2 1 _ rfl, d1.2.2 2 _ rfl, d1.2.2 3 _ rfl⟩ : _ ∧ _ ∧ _ ∧ _)
  clear d1
  go_wp2_with fail
  refine (HY.out _ e1.out k HK.out).mono ?_
  rintro e w2 ⟨hor, x2⟩
  have e2 : Hid (Ext w w2) := e1.out.trans x2
  have c2 : Hid (CellsAt w2 w.heap.size pl ∧ CellsAt w2 (w.heap.size + 1) ql) := ⟨c1.out.1.step x2, c1.out.2.step x2⟩
  clear x2 HY c1 q0 q1 q2 q3 hk0 HK
  rcases hor with rfl | ⟨k2, rfl, hm, hs2⟩
  · clear c2
    go_wp2
    go_ret
    exact ⟨rfl, e2.out⟩
  have hk0 : ¬ (k2 : Int) < 0 := by omega
  clear hm
  obtain ⟨z, hz⟩ : ∃ z, z = sameP p q := ⟨_, rfl⟩
  go_wp2_with fail
  refine' wp_region_loose (.inl _ :: .inr (RepPol p) :: .inl _ :: .inr (RepPol q) :: .inl _ :: .inl _ :: []) (fun w' => CellsAt w' w.heap.size pl ∧ CellsAt w' (w.heap.size + 1) ql) (by kernel_rfl) (by kernel_rfl) (c2.out) (fun _ _ h hE => ⟨h.1.step hE, h.2.step hE⟩) ?hAa ?hla ?hMa
  case' hMa => skip
  apply wpLoose_val rfl rfl
  case hs =>
    intro w1 hC hd Q1 hQ1
    obtain ⟨hE, hS⟩ := hC
    dsimp only [bare]
    rw [hpl, hql] at hS; obtain ⟨q0, q1, q2, q3, s0, s1, s2, s3⟩ := (⟨hS.1.2 0 _ rfl, hS.1.2 1 _ rfl, hS.1.2 2 _ rfl, hS.1.2 3 _ rfl, hS.2.2 0 _ rfl, hS.2.2 1 _ rfl, hS.2.2 2 _ rfl, hS.2.2 3 _ rfl⟩ : _ ∧ _ ∧ _ ∧ _ ∧ _ ∧ _ ∧ _ ∧ _)
    clear hd hE
    try clear hS
    go_wp2
    exact Ext.refl _
  case ha => rfl
  refine wpLoose_rel rfl rfl ?_ (fun va_1 => ?_)
  · intro w1 hC hd Q1 hQ1
    obtain ⟨hE, hS⟩ := hC
    dsimp only [bare]
    clear hd hS
    go_wp2_with fail
    refine (toPolicy_rep hs (HP.out _ (e2.out.drew.trans hE))).mono ?_
    rintro e w2 ⟨u2, rfl, r2, x2⟩
    go_wp2_with fail
    exact hQ1 _ _ x2 r2
  apply wpLoose_val rfl rfl
  case hs =>
    intro w1 hC hd Q1 hQ1
    obtain ⟨hE, hS⟩ := hC
    dsimp only [bare]
    rw [hpl, hql] at hS; obtain ⟨q0, q1, q2, q3, s0, s1, s2, s3⟩ := (⟨hS.1.2 0 _ rfl, hS.1.2 1 _ rfl, hS.1.2 2 _ rfl, hS.1.2 3 _ rfl, hS.2.2 0 _ rfl, hS.2.2 1 _ rfl, hS.2.2 2 _ rfl, hS.2.2 3 _ rfl⟩ : _ ∧ _ ∧ _ ∧ _ ∧ _ ∧ _ ∧ _ ∧ _)
    clear hd hE
    try clear hS
    go_wp2
    exact Ext.refl _
  case ha => rfl
  refine wpLoose_rel rfl rfl ?_ (fun va_3 => ?_)
  · intro w1 hC hd Q1 hQ1
    obtain ⟨hE, hS⟩ := hC
    dsimp only [bare]
    clear hd hS
    go_wp2_with fail
    refine (toPolicy_rep hs2 (HQ.out _ (e2.out.drew.trans hE))).mono ?_
    rintro e w2 ⟨u2, rfl, r2, x2⟩
    go_wp2_with fail
    exact hQ1 _ _ x2 r2
  apply wpLoose_val rfl rfl
  case hs =>
    intro w1 hC hd Q1 hQ1
    obtain ⟨hE, hS⟩ := hC
    dsimp only [bare]
    have h1 := hd ⟨1, .data⟩ (by simp) rfl _ rfl (by simp [Act.put])
    have h2 := hd ⟨3, .data⟩ (by simp) rfl _ rfl (by simp [Act.put])
    clear hd
    go_wp2_with fail
    refine (sSame_rep hs hs2 h1 h2).mono ?_
    rintro e w2 ⟨rfl, hb⟩
    go_wp2_with fail
    exact hb
  case ha => rfl
  apply wpLoose_val rfl rfl
  case hs =>
    intro w1 hC hd Q1 hQ1
    obtain ⟨hE, hS⟩ := hC
    dsimp only [bare]
    rw [hpl, hql] at hS; obtain ⟨q0, q1, q2, q3, s0, s1, s2, s3⟩ := (⟨hS.1.2 0 _ rfl, hS.1.2 1 _ rfl, hS.1.2 2 _ rfl, hS.1.2 3 _ rfl, hS.2.2 0 _ rfl, hS.2.2 1 _ rfl, hS.2.2 2 _ rfl, hS.2.2 3 _ rfl⟩ : _ ∧ _ ∧ _ ∧ _ ∧ _ ∧ _ ∧ _ ∧ _)
    clear hd hE
    try clear hS
    go_wp2
    exact Ext.refl _
  case ha => rfl
  refine wpLoose_nil ?_
  intro wa hEa hSa hFa
  · have e3 : Hid (Ext w wa) := e2.out.drew.trans hEa
    have c3 : Hid (CellsAt wa w.heap.size pl ∧ CellsAt wa (w.heap.size + 1) ql) := hSa
    clear hEa hSa hFa e2 c2 hk0
    have d3 := c3.out
    rw [hpl, hql] at d3
    obtain ⟨q0, q1, q2, q3⟩ := (⟨d3.1.2 0 _ rfl, d3.1.2 1 _ rfl, d3.1.2 2 _ rfl, d3.1.2 3 _ rfl⟩ : _ ∧ _ ∧ _ ∧ _)
    clear d3
    go_wp2_with fail
    refine (toPolicy_rep hs (HP.out _ e3.out)).mono ?_
    rintro e w4 ⟨u4, rfl, r4, x4⟩
    have e4 : Hid (Ext w w4) := e3.out.trans x4
    have c4 : Hid (CellsAt w4 w.heap.size pl ∧ CellsAt w4 (w.heap.size + 1) ql) := ⟨c3.out.1.step x4, c3.out.2.step x4⟩
    clear x4 q0 q1 q2 q3 c3 e3
    have HR4 : Hid (∀ W, Ext w4 W → RepPol p u4 W) := fun W hE => r4.step hE
    obtain ⟨a4, cap4, rfl, hw4⟩ := r4
    clear hw4
    generalize p.arch = ar4 at *
    generalize p.act = ac4 at *
    generalize p.data = da4 at *
    generalize p.rules.length = n4 at *
    have c5 : Hid (CellsAt (w4.alloc (.cells #[.int .i64 ar4, .int .i64 ac4, .int .i64 da4, .slice a4 n4 cap4] 29)) w.heap.size pl ∧ CellsAt (w4.alloc (.cells #[.int .i64 ar4, .int .i64 ac4, .int .i64 da4, .slice a4 n4 cap4] 29)) (w.heap.size + 1) ql) := ⟨c4.out.1.step (Ext.one _ _), c4.out.2.step (Ext.one _ _)⟩
    have x5 := CellsAt.new w4 [.int .i64 ar4, .int .i64 ac4, .int .i64 da4, .slice a4 n4 cap4] 29
    have e45 : Hid (Ext w4 (w4.alloc (.cells #[.int .i64 ar4, .int .i64 ac4, .int .i64 da4, .slice a4 n4 cap4] 29))) := Ext.one _ _
    simp only [List.toArray] at x5
    have d3 := c5.out
    rw [hpl, hql] at d3
    obtain ⟨q0, q1, q2, q3⟩ := (⟨d3.2.2 0 _ rfl, d3.2.2 1 _ rfl, d3.2.2 2 _ rfl, d3.2.2 3 _ rfl⟩ : _ ∧ _ ∧ _ ∧ _)
    clear d3 c4
    go_wp2_with fail
    generalize w4.alloc (.cells #[.int .i64 ar4, .int .i64 ac4, .int .i64 da4, .slice a4 n4 cap4] 29) = W5 at *
    have e5 : Hid (Ext w W5) := e4.out.trans e45.out
    refine (toPolicy_rep hs2 (HQ.out _ e5.out)).mono ?_
    rintro e w6 ⟨u6, rfl, r6, x6⟩
    have e6 : Hid (Ext w w6) := e5.out.trans x6
    have e46 : Hid (Ext w4 w6) := e45.out.trans x6
    have c6 : Hid (CellsAt w6 w.heap.size pl ∧ CellsAt w6 (w.heap.size + 1) ql) := ⟨c5.out.1.step x6, c5.out.2.step x6⟩
    have y6 := x5.step x6
    clear x6 q0 q1 q2 q3 c5 x5 e5 e45
    have HR6 : Hid (∀ W, Ext w6 W → RepPol q u6 W) := fun W hE => r6.step hE
    obtain ⟨a6, cap6, rfl, hw6⟩ := r6
    clear hw6
    generalize q.arch = ar6 at *
    generalize q.act = ac6 at *
    generalize q.data = da6 at *
    generalize q.rules.length = n6 at *
    have c7 : Hid (CellsAt (w6.alloc (.cells #[.int .i64 ar6, .int .i64 ac6, .int .i64 da6, .slice a6 n6 cap6] 29)) w.heap.size pl ∧ CellsAt (w6.alloc (.cells #[.int .i64 ar6, .int .i64 ac6, .int .i64 da6, .slice a6 n6 cap6] 29)) (w.heap.size + 1) ql) := ⟨c6.out.1.step (Ext.one _ _), c6.out.2.step (Ext.one _ _)⟩
    have y7 := y6.step (Ext.one w6 (.cells #[.int .i64 ar6, .int .i64 ac6, .int .i64 da6, .slice a6 n6 cap6] 29))
    have z7 := CellsAt.new w6 [.int .i64 ar6, .int .i64 ac6, .int .i64 da6, .slice a6 n6 cap6] 29
    have e67 : Hid (Ext w6 (w6.alloc (.cells #[.int .i64 ar6, .int .i64 ac6, .int .i64 da6, .slice a6 n6 cap6] 29))) := Ext.one _ _
    simp only [List.toArray] at z7 y7
    obtain ⟨q0, q1, q2, q3⟩ := (⟨y7.2 0 _ rfl, y7.2 1 _ rfl, y7.2 2 _ rfl, y7.2 3 _ rfl⟩ : _ ∧ _ ∧ _ ∧ _)
    clear c6 y6
    go_wp2_with fail
    generalize w6.alloc (.cells #[.int .i64 ar6, .int .i64 ac6, .int .i64 da6, .slice a6 n6 cap6] 29) = W7 at *
    have e7 : Hid (Ext w W7) := e6.out.trans e67.out
    have e47 : Hid (Ext w4 W7) := e46.out.trans e67.out
    clear q0 q1 q2 q3
    refine (iSame_rep hs hs2 (HR4.out _ e47.out) (HR6.out _ e67.out)).mono ?_
    rintro e w8 ⟨rfl, x8⟩
    have e8 : Hid (Ext w w8) := e7.out.trans x8
    have e48 : Hid (Ext w4 w8) := e47.out.trans x8
    have e68 : Hid (Ext w6 w8) := e67.out.trans x8
    have c8 : Hid ((CellsAt w8 w.heap.size pl ∧ CellsAt w8 (w.heap.size + 1) ql) ∧ (CellsAt w8 w4.heap.size [.int .i64 ar4, .int .i64 ac4, .int .i64 da4, .slice a4 n4 cap4] ∧ CellsAt w8 w6.heap.size [.int .i64 ar6, .int .i64 ac6, .int .i64 da6, .slice a6 n6 cap6])) := ⟨⟨c7.out.1.step x8, c7.out.2.step x8⟩, ⟨y7.step x8, z7.step x8⟩⟩
    clear x8 c7 y7 z7 e7 e47 e67 hz e46 e6 e4
    generalize sameP p q = Z at *
    have hzz : (Z != Z) = false := by cases Z <;> rfl
    go_wp2_with fail
    refine' wp_region_loose (.inl _ :: .inl _ :: .inr (RepPol p) :: .inl _ :: .inl _ :: []) (fun w' => (CellsAt w' w.heap.size pl ∧ CellsAt w' (w.heap.size + 1) ql) ∧ (CellsAt w' w4.heap.size [.int .i64 ar4, .int .i64 ac4, .int .i64 da4, .slice a4 n4 cap4] ∧ CellsAt w' w6.heap.size [.int .i64 ar6, .int .i64 ac6, .int .i64 da6, .slice a6 n6 cap6])) (by kernel_rfl) (by kernel_rfl) (c8.out) (fun _ _ h hE => ⟨⟨h.1.1.step hE, h.1.2.step hE⟩, ⟨h.2.1.step hE, h.2.2.step hE⟩⟩) ?hAc ?hlc ?hMc
    case' hMc => skip
    apply wpLoose_val rfl rfl
    case hs =>
      intro w1 hC hd Q1 hQ1
      obtain ⟨hE, hS⟩ := hC
      dsimp only [bare]
      rw [hpl, hql] at hS; obtain ⟨q0, q1, q2, q3, s0, s1, s2, s3⟩ := (⟨hS.1.1.2 0 _ rfl, hS.1.1.2 1 _ rfl, hS.1.1.2 2 _ rfl, hS.1.1.2 3 _ rfl, hS.2.1.2 0 _ rfl, hS.2.1.2 1 _ rfl, hS.2.1.2 2 _ rfl, hS.2.1.2 3 _ rfl⟩ : _ ∧ _ ∧ _ ∧ _ ∧ _ ∧ _ ∧ _ ∧ _)
      clear hd hE
      try clear hS
      go_wp2
      exact Ext.refl _
    case ha => rfl
    apply wpLoose_val rfl rfl
    case hs =>
      intro w1 hC hd Q1 hQ1
      obtain ⟨hE, hS⟩ := hC
      dsimp only [bare]
      rw [hpl, hql] at hS; obtain ⟨q0, q1, q2, q3, s0, s1, s2, s3⟩ := (⟨hS.1.1.2 0 _ rfl, hS.1.1.2 1 _ rfl, hS.1.1.2 2 _ rfl, hS.1.1.2 3 _ rfl, hS.2.1.2 0 _ rfl, hS.2.1.2 1 _ rfl, hS.2.1.2 2 _ rfl, hS.2.1.2 3 _ rfl⟩ : _ ∧ _ ∧ _ ∧ _ ∧ _ ∧ _ ∧ _ ∧ _)
      clear hd hE
      try clear hS
      go_wp2
      exact Ext.refl _
    case ha => rfl
    refine wpLoose_rel rfl rfl ?_ (fun vc_2 => ?_)
    · intro w1 hC hd Q1 hQ1
      obtain ⟨hE, hS⟩ := hC
      dsimp only [bare]
      clear hd hS
      go_wp2_with fail
      refine (toPolicy_rep hs (HP.out _ (e8.out.drew.trans hE))).mono ?_
      rintro e w2 ⟨u2, rfl, r2, x2⟩
      go_wp2_with fail
      exact hQ1 _ _ x2 r2
    apply wpLoose_val rfl rfl
    case hs =>
      intro w1 hC hd Q1 hQ1
      obtain ⟨hE, hS⟩ := hC
      dsimp only [bare]
      have h2 := hd ⟨2, .data⟩ (by simp) rfl _ rfl (by simp [Act.put])
      clear hd
      go_wp2_with fail
      refine (eqPolicy_rep hs (HR4.out _ (e48.out.drew.trans hE)) h2).mono ?_
      rintro e w2 ⟨rfl, hb⟩
      go_wp2_with fail
      exact hb
    case ha => rfl
    apply wpLoose_val rfl rfl
    case hs =>
      intro w1 hC hd Q1 hQ1
      obtain ⟨hE, hS⟩ := hC
      dsimp only [bare]
      rw [hpl, hql] at hS; obtain ⟨q0, q1, q2, q3, s0, s1, s2, s3⟩ := (⟨hS.1.1.2 0 _ rfl, hS.1.1.2 1 _ rfl, hS.1.1.2 2 _ rfl, hS.1.1.2 3 _ rfl, hS.2.1.2 0 _ rfl, hS.2.1.2 1 _ rfl, hS.2.1.2 2 _ rfl, hS.2.1.2 3 _ rfl⟩ : _ ∧ _ ∧ _ ∧ _ ∧ _ ∧ _ ∧ _ ∧ _)
      clear hd hE
      try clear hS
      go_wp2
      exact Ext.refl _
    case ha => rfl
    refine wpLoose_nil ?_
    intro wc hEc hSc hFc
    · have e9 : Hid (Ext w wc) := e8.out.drew.trans hEc
      have e69 : Hid (Ext w6 wc) := e68.out.drew.trans hEc
      have c9 : Hid _ := hSc
      clear hEc hSc hFc c8 e8 e68 e48
      go_wp2_with fail
      refine' wp_region_loose (.inl _ :: .inl _ :: .inr (RepPol q) :: .inl _ :: .inl _ :: []) (fun w' => (CellsAt w' w.heap.size pl ∧ CellsAt w' (w.heap.size + 1) ql) ∧ (CellsAt w' w4.heap.size [.int .i64 ar4, .int .i64 ac4, .int .i64 da4, .slice a4 n4 cap4] ∧ CellsAt w' w6.heap.size [.int .i64 ar6, .int .i64 ac6, .int .i64 da6, .slice a6 n6 cap6])) (by kernel_rfl) (by kernel_rfl) (c9.out) (fun _ _ h hE => ⟨⟨h.1.1.step hE, h.1.2.step hE⟩, ⟨h.2.1.step hE, h.2.2.step hE⟩⟩) ?hAd ?hld ?hMd
      case' hMd => skip
      apply wpLoose_val rfl rfl
      case hs =>
        intro w1 hC hd Q1 hQ1
        obtain ⟨hE, hS⟩ := hC
        dsimp only [bare]
        rw [hpl, hql] at hS; obtain ⟨q0, q1, q2, q3, s0, s1, s2, s3⟩ := (⟨hS.1.2.2 0 _ rfl, hS.1.2.2 1 _ rfl, hS.1.2.2 2 _ rfl, hS.1.2.2 3 _ rfl, hS.2.2.2 0 _ rfl, hS.2.2.2 1 _ rfl, hS.2.2.2 2 _ rfl, hS.2.2.2 3 _ rfl⟩ : _ ∧ _ ∧ _ ∧ _ ∧ _ ∧ _ ∧ _ ∧ _)
        clear hd hE
        try clear hS
        go_wp2
        exact Ext.refl _
      case ha => rfl
      apply wpLoose_val rfl rfl
      case hs =>
        intro w1 hC hd Q1 hQ1
        obtain ⟨hE, hS⟩ := hC
        dsimp only [bare]
        rw [hpl, hql] at hS; obtain ⟨q0, q1, q2, q3, s0, s1, s2, s3⟩ := (⟨hS.1.2.2 0 _ rfl, hS.1.2.2 1 _ rfl, hS.1.2.2 2 _ rfl, hS.1.2.2 3 _ rfl, hS.2.2.2 0 _ rfl, hS.2.2.2 1 _ rfl, hS.2.2.2 2 _ rfl, hS.2.2.2 3 _ rfl⟩ : _ ∧ _ ∧ _ ∧ _ ∧ _ ∧ _ ∧ _ ∧ _)
        clear hd hE
        try clear hS
        go_wp2
        exact Ext.refl _
      case ha => rfl
      refine wpLoose_rel rfl rfl ?_ (fun vd_2 => ?_)
      · intro w1 hC hd Q1 hQ1
        obtain ⟨hE, hS⟩ := hC
        dsimp only [bare]
        clear hd hS
        go_wp2_with fail
        refine (toPolicy_rep hs2 (HQ.out _ (e9.out.drew.trans hE))).mono ?_
        rintro e w2 ⟨u2, rfl, r2, x2⟩
        go_wp2_with fail
        exact hQ1 _ _ x2 r2
      apply wpLoose_val rfl rfl
      case hs =>
        intro w1 hC hd Q1 hQ1
        obtain ⟨hE, hS⟩ := hC
        dsimp only [bare]
        have h2 := hd ⟨2, .data⟩ (by simp) rfl _ rfl (by simp [Act.put])
        clear hd
        go_wp2_with fail
        refine (eqPolicy_rep hs2 (HR6.out _ (e69.out.drew.trans hE)) h2).mono ?_
        rintro e w2 ⟨rfl, hb⟩
        go_wp2_with fail
        exact hb
      case ha => rfl
      apply wpLoose_val rfl rfl
      case hs =>
        intro w1 hC hd Q1 hQ1
        obtain ⟨hE, hS⟩ := hC
        dsimp only [bare]
        rw [hpl, hql] at hS; obtain ⟨q0, q1, q2, q3, s0, s1, s2, s3⟩ := (⟨hS.1.2.2 0 _ rfl, hS.1.2.2 1 _ rfl, hS.1.2.2 2 _ rfl, hS.1.2.2 3 _ rfl, hS.2.2.2 0 _ rfl, hS.2.2.2 1 _ rfl, hS.2.2.2 2 _ rfl, hS.2.2.2 3 _ rfl⟩ : _ ∧ _ ∧ _ ∧ _ ∧ _ ∧ _ ∧ _ ∧ _)
        clear hd hE
        try clear hS
        go_wp2
        exact Ext.refl _
      case ha => rfl
      refine wpLoose_nil ?_
      intro wd hEd hSd hFd
      · have e10 : Hid (Ext w wd) := e9.out.drew.trans hEd
        clear hEd hSd hFd c9
        go_wp2
        go_ret
        exact ⟨rfl, e10.out⟩
      case hAd => kernel_rfl
      case hld => exact ⟨trivial, trivial, fun _ _ _ h hE => h.step hE, trivial, trivial, trivial⟩
    case hAc => kernel_rfl
    case hlc => exact ⟨trivial, trivial, fun _ _ _ h hE => h.step hE, trivial, trivial, trivial⟩
  case hAa => kernel_rfl
  case hla => exact ⟨trivial, fun _ _ _ h hE => h.step hE, trivial, fun _ _ _ h hE => h.step hE, trivial, trivial, trivial⟩

set_option maxRecDepth 100000 in
theorem lifted (os : Os) (started : os.Started) (H : Type) (enc : TypeId × Value → H) :
    ReturnsInHanded {} Try.checked os 3 .any (Rows.fnExactSamePolicySpec.pre6 enc Try.prog Try.f3 Rows.fnExactSamePolicyRow.domain false) (Rows.fnExactSamePolicySpec.post enc Try.prog Try.f3 false true false false) := by
  refine returnsInHanded_of_change (C := Try.checked) own started (by kernel_rfl) Try.func3
    (ChangeSpec.witness6 (enc := enc) (C := Try.checked) false ⟨#[], #[.agg #[.int .i64 0, .int .i64 0, .int .i64 0, .slice none 0 0], .agg #[.int .i64 0, .int .i64 0, .int .i64 0, .slice none 0 0]], []⟩ 8 (by kernel_rfl) (by kernel_rfl) (by kernel_rfl) (by kernel_rfl)) ?_
  intro W base args ds gs before hval0 hW hcnd _
  have hval : ∀ (j : Nat) t v, Try.f3.params[j]? = some t → args[j]? = some v → Value.okWide Try.prog W .any base t v := hval0
  have hW' := hW
  obtain ⟨p, q, hA0, hV, rfl, hfz, hnd⟩ := hW
  have hA : DataW.TrodAll enc Try.prog W 0 (fun _ => true) true Try.f3.params.toList args.toList ds p := hA0
  rw [Try.params3] at hA hval
  obtain ⟨v0, vs0, d0, ds0, p0, q0, hargs, rfl, rfl, h0, r0⟩ := trodAll_cons hA
  obtain ⟨v1, vs1, d1, ds1, p1, q1, rfl, rfl, rfl, h1, r1⟩ := trodAll_cons r0
  obtain ⟨rfl, rfl, rfl⟩ := trodAll_nil r1
  obtain rfl : args = #[v0, v1] := by cases args; simp_all
  obtain ⟨rfl, rfl⟩ := trodVars_none hV
  have lt0 : ∀ x ∈ p0, x.block < W.heap.size := by obtain ⟨m, hm⟩ := h0; exact DataW.trod_lt m _ _ _ hm
  obtain ⟨p0x, hp0⟩ := open_policy (hval 0 24 v0 rfl rfl) h0
  have lt1 : ∀ x ∈ p1, x.block < W.heap.size := by obtain ⟨m, hm⟩ := h1; exact DataW.trod_lt m _ _ _ hm
  obtain ⟨p1x, hp1⟩ := open_policy (hval 1 24 v1 rfl rfl) h1
  clear hA0 hval0
  refine (walk p0x v0 p1x v1 W hp0 hp1).mono fun e W' ⟨he, bel⟩ => ?_
  subst he
  exact ⟨_, rfl, _, _, _, [], _, [], hW', trodAll_mk1 (shut_bool Try.underlying4 _), (trodAll_cons_mk (Below.trod laidOut (by kernel_rfl) (of_decide_eq_true (by kernel_rfl)) h0 bel lt0) (trodAll_cons_mk (Below.trod laidOut (by kernel_rfl) (of_decide_eq_true (by kernel_rfl)) h1 bel lt1) trodAll_mk0)), rfl, bel.frame _, fun h => by cases h⟩

end Go.Proofs.Ytojaohdmfahpmaa.SamePolicy
namespace Go.Proofs.Ytojaohdmfahpmaa
open Go.ChangeShapes Go.WideShapes Go.ChangeAt Go.RowKit

theorem samePolicy : Rows.FnExactSamePolicySaid :=
  OpenClaim.holds_of_wide 3 Try.f3 rfl rfl rfl rfl rfl rfl rfl ⟨rfl, rfl, rfl, rfl, rfl⟩ rfl rfl rfl rfl rfl (by kernel_rfl) Try.func3 (by kernel_rfl)
    (of_decide_eq_true (by kernel_rfl)) (by unfold Func.isWrapper; first | (rw [if_pos (by decide +kernel)]; kernel_rfl) | (rw [if_neg (by decide +kernel)]; exact ⟨rfl, rfl⟩))
    (fun os started H enc _ => SamePolicy.lifted os started H enc)
#print axioms samePolicy
end Go.Proofs.Ytojaohdmfahpmaa
