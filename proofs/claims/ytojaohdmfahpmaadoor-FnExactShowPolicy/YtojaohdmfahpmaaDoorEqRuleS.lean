/- What the laws' helpers over slices of rules answer: eqRuleS. -/
import Derived.Test.YtojaohdmfahpmaaDoorToRule
import Derived.Test.YtojaohdmfahpmaaDoorPolI
namespace Go.Proofs.YtojaohdmfahpmaaDoor
open Go.RowKit
set_option linter.unusedVariables false

set_option maxRecDepth 100000 in
set_option maxHeartbeats 2000000 in
theorem eqRuleS_any (a1 a2 : Option Addr) (c1 c2 n : Nat) (rs : List RN) (w : World) (hn : n = rs.length) (hs : SmallR rs) (h1 : Rules w a1 rs) (h2 : Rules w a2 rs) :
    Calls Tryd.prog 19 #[.slice a1 n c1, .slice a2 n c2] w fun e w' => e = .returned (.bool true) ∧ Ext w w' := by
  have HN : Hid (n = rs.length ∧ ∀ k, k < rs.length → Small (rs.getD k r0)) := ⟨hn, hs.2⟩
  have H1 : Hid (∀ W, Ext w W → Rules W a1 rs ∧ Rules W a2 rs) := fun W hE => ⟨h1.step hE, h2.step hE⟩
  have hl' : n ≤ 1048576 := by have := hs.1; omega
  clear h1 h2 hn hs
  go_enter Tryd.func19, Tryd.ntmps19
  go_wp2
  go_loopw [5] (fun i wr => ∃ k : Nat, i = .int .i64 k ∧ k ≤ n ∧ Hid (Ext w wr)) (fun i _ => n - (intOf i).toNat)
  case atStart => exact ⟨0, rfl, by omega, Ext.refl _⟩
  case round =>
    obtain ⟨k, rfl, hk, hE⟩ := hrel
    by_cases hlt : k < n
    · have bk : (k : Int) < (n : Int) := by omega
      obtain ⟨b1, o1, l1, rfl, s1, hL1⟩ := (H1.out wr hE.out).1.at (k := k) (by have := HN.out.1; omega)
      obtain ⟨b2, o2, l2, rfl, s2, hL2⟩ := (H1.out wr hE.out).2.at (k := k) (by have := HN.out.1; omega)
      obtain ⟨x1, n1, d1, y1, m1, e1, xc, xd, rfl, _, _⟩ := hL1.form
      obtain ⟨x2, n2, d2, y2, m2, e2, zc, zd, rfl, _, _⟩ := hL2.form
      have HT : Hid (∀ W, Ext wr W → Calls Tryd.prog 35 #[.agg #[.slice x1 n1 d1, .slice y1 m1 e1, .int .i64 xc, .int .i64 xd], .agg #[.slice x2 n2 d2, .slice y2 m2 e2, .int .i64 zc, .int .i64 zd]] W fun e w' => e = .returned (.bool true) ∧ Ext W w') :=
        fun W hx => eqRule_rep (HN.out.2 k (by have := HN.out.1; omega)) ⟨_, rfl, hL1.step hx⟩ ⟨_, rfl, hL2.step hx⟩
      clear hL1 hL2
      go_wp2_with fail
      refine' wp_region_loose (.inl _ :: .inl _ :: .inl _ :: .inl _ :: .inl _ :: .inl _ :: .inl _ :: .inl _ :: .inl _ :: .inl _ :: []) (fun w' => SegB w' b1 (o1 + k * 4) [.slice x1 n1 d1, .slice y1 m1 e1, .int .i64 xc, .int .i64 xd] ∧ SegB w' b2 (o2 + k * 4) [.slice x2 n2 d2, .slice y2 m2 e2, .int .i64 zc, .int .i64 zd]) (by kernel_rfl) (by kernel_rfl) (⟨s1.drew, s2.drew⟩) (fun _ _ h hE => ⟨h.1.step hE, h.2.step hE⟩) ?hAa ?hla ?hMa
      case' hMa => skip
      apply wpLoose_val rfl rfl
      case hs =>
        intro w1 hC hd Q1 hQ1
        obtain ⟨hE, hS⟩ := hC
        dsimp only [bare]
        obtain ⟨⟨p0, p1, p2, p3⟩, ⟨q0, q1, q2, q3⟩⟩ := (⟨hS.1.2.four, hS.2.2.four⟩ : _ ∧ _)
        clear hd hE
        try clear hS
        go_wp2
        exact Ext.refl _
      case ha => rfl
      apply wpLoose_val rfl rfl
      case hs =>
        intro w1 hC hd Q1 hQ1
        obtain ⟨hE, hS⟩ := hC
        dsimp only [bare]
        obtain ⟨⟨p0, p1, p2, p3⟩, ⟨q0, q1, q2, q3⟩⟩ := (⟨hS.1.2.four, hS.2.2.four⟩ : _ ∧ _)
        clear hd hE
        try clear hS
        go_wp2
        exact Ext.refl _
      case ha => rfl
      apply wpLoose_val rfl rfl
      case hs =>
        intro w1 hC hd Q1 hQ1
        obtain ⟨hE, hS⟩ := hC
        dsimp only [bare]
        obtain ⟨⟨p0, p1, p2, p3⟩, ⟨q0, q1, q2, q3⟩⟩ := (⟨hS.1.2.four, hS.2.2.four⟩ : _ ∧ _)
        clear hd hE
        try clear hS
        go_wp2
        exact Ext.refl _
      case ha => rfl
      apply wpLoose_val rfl rfl
      case hs =>
        intro w1 hC hd Q1 hQ1
        obtain ⟨hE, hS⟩ := hC
        dsimp only [bare]
        obtain ⟨⟨p0, p1, p2, p3⟩, ⟨q0, q1, q2, q3⟩⟩ := (⟨hS.1.2.four, hS.2.2.four⟩ : _ ∧ _)
        clear hd hE
        try clear hS
        go_wp2
        exact Ext.refl _
      case ha => rfl
      apply wpLoose_val rfl rfl
      case hs =>
        intro w1 hC hd Q1 hQ1
        obtain ⟨hE, hS⟩ := hC
        dsimp only [bare]
        obtain ⟨⟨p0, p1, p2, p3⟩, ⟨q0, q1, q2, q3⟩⟩ := (⟨hS.1.2.four, hS.2.2.four⟩ : _ ∧ _)
        clear hd hE
        try clear hS
        go_wp2
        exact Ext.refl _
      case ha => rfl
      apply wpLoose_val rfl rfl
      case hs =>
        intro w1 hC hd Q1 hQ1
        obtain ⟨hE, hS⟩ := hC
        dsimp only [bare]
        obtain ⟨⟨p0, p1, p2, p3⟩, ⟨q0, q1, q2, q3⟩⟩ := (⟨hS.1.2.four, hS.2.2.four⟩ : _ ∧ _)
        clear hd hE
        try clear hS
        go_wp2
        exact Ext.refl _
      case ha => rfl
      apply wpLoose_val rfl rfl
      case hs =>
        intro w1 hC hd Q1 hQ1
        obtain ⟨hE, hS⟩ := hC
        dsimp only [bare]
        obtain ⟨⟨p0, p1, p2, p3⟩, ⟨q0, q1, q2, q3⟩⟩ := (⟨hS.1.2.four, hS.2.2.four⟩ : _ ∧ _)
        clear hd hE
        try clear hS
        go_wp2
        exact Ext.refl _
      case ha => rfl
      apply wpLoose_val rfl rfl
      case hs =>
        intro w1 hC hd Q1 hQ1
        obtain ⟨hE, hS⟩ := hC
        dsimp only [bare]
        obtain ⟨⟨p0, p1, p2, p3⟩, ⟨q0, q1, q2, q3⟩⟩ := (⟨hS.1.2.four, hS.2.2.four⟩ : _ ∧ _)
        clear hd hE
        try clear hS
        go_wp2
        exact Ext.refl _
      case ha => rfl
      apply wpLoose_val rfl rfl
      case hs =>
        intro w1 hC hd Q1 hQ1
        obtain ⟨hE, hS⟩ := hC
        dsimp only [bare]
        clear hd
        go_wp2_with fail
        refine (HT.out _ ((Ext.refl wr).drew.trans hE)).mono ?_
        rintro e w2 ⟨rfl, hb⟩
        go_wp2_with fail
        exact hb
      case ha => rfl
      apply wpLoose_val rfl rfl
      case hs =>
        intro w1 hC hd Q1 hQ1
        obtain ⟨hE, hS⟩ := hC
        dsimp only [bare]
        obtain ⟨⟨p0, p1, p2, p3⟩, ⟨q0, q1, q2, q3⟩⟩ := (⟨hS.1.2.four, hS.2.2.four⟩ : _ ∧ _)
        clear hd hE
        try clear hS
        go_wp2
        exact Ext.refl _
      case ha => rfl
      refine wpLoose_nil ?_
      intro wa hEa hSa hFa
      have HE2 : Hid (Ext w wa) := hE.out.drew.trans hEa
      clear hFa hSa hEa s1 s2
      go_wp2
      go_roundw
      case rel => exact ⟨k + 1, by go_num, by omega, HE2⟩
      case measure => simp [intOf]; omega
      case hAa => kernel_rfl
      case hla => exact ⟨trivial, trivial, trivial, trivial, trivial, trivial, trivial, trivial, trivial, trivial, trivial⟩
    · have bk : ¬ ((k : Int) < (n : Int)) := by omega
      go_wp2
      go_ret
      exact ⟨rfl, hE.out⟩

end Go.Proofs.YtojaohdmfahpmaaDoor
