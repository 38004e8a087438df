/- What impl's InsOk answers, of any four numbers: just whether the word is right. -/
import Derived.Test.YtakcmiijnckaaaaInsOkI
namespace Go.Proofs.Ytakcmiijnckaaaa
open Go.RowKit
set_option linter.unusedVariables false

theorem dec_eq {p : Prop} [Decidable p] {b : Bool} (h : b = true ↔ p) : decide p = b := by
  cases b
  · simp at h; simpa using h
  · simp at h; simpa using h

theorem iInsOk_any (o k y n : Int) (w : World) : Calls Try.prog 75 #[.agg #[.int .i64 o, .int .i64 k, .int .i64 y, .int .i64 n]] w fun e w' => e = .returned (.bool (insB o k y n)) ∧ Ext w w' := by
  cases h0 : inB o 1 8
  · rw [insB_false.2 (by rw [inB_false] at h0; unfold insP; omega)]
    have HN : Hid (∀ w, Calls Try.prog 82 #[.agg #[.int .i64 o, .int .i64 k, .int .i64 y, .int .i64 n]] w fun e w' => e = .returned (.tuple #[.nilIface, .bool false]) ∧ Ext w w') := fun w => wordNone_any o k y n w h0
    clear h0
    go_enter Try.func75, Try.ntmps75
    go_wp2_with fail
    refine (HN.out _).mono ?_
    rintro e w1 ⟨rfl, e1⟩
    have E1 : Hid (Ext w w1) := (Ext.one _ _).trans e1
    clear e1
    go_wp2_with fail
    refine' wp_region_loose (.inl _ :: .inl _ :: .inl undef :: .inl undef :: .inl _ :: .inl _ :: .inl undef :: .inl undef :: .inl undef :: .inl undef :: .inl _ :: .inl _ :: []) (fun w' => True) (by kernel_rfl) (by kernel_rfl) (trivial) (fun _ _ h hE => trivial) ?hAa ?hla ?hMa
    case' hMa => skip
    apply wpLoose_val rfl rfl
    case hs =>
      intro w1 hC hd Q1 hQ1
      obtain ⟨hE, hS⟩ := hC
      dsimp only [bare]
      skip
      clear hd hE
      try clear hS
      go_wp2
      exact Ext.refl _
    case ha => rfl
    apply wpLoose_val rfl rfl
    case hs =>
      intro w1 hC hd Q1 hQ1
      obtain ⟨hE, hS⟩ := hC
      dsimp only [bare]
      skip
      clear hd hE
      try clear hS
      go_wp2
      exact Ext.refl _
    case ha => rfl
    refine wpLoose_skip rfl rfl ?_
    try simp only [Act.put, List.setIfInBounds_toArray, List.set_cons_succ, List.set_cons_zero]
    refine wpLoose_skip rfl rfl ?_
    try simp only [Act.put, List.setIfInBounds_toArray, List.set_cons_succ, List.set_cons_zero]
    apply wpLoose_val rfl rfl
    case hs =>
      intro w1 hC hd Q1 hQ1
      obtain ⟨hE, hS⟩ := hC
      dsimp only [bare]
      skip
      clear hd hE
      try clear hS
      go_wp2
      exact Ext.refl _
    case ha => rfl
    apply wpLoose_val rfl rfl
    case hs =>
      intro w1 hC hd Q1 hQ1
      obtain ⟨hE, hS⟩ := hC
      dsimp only [bare]
      skip
      clear hd hE
      try clear hS
      go_wp2
      exact Ext.refl _
    case ha => rfl
    refine wpLoose_skip rfl rfl ?_
    try simp only [Act.put, List.setIfInBounds_toArray, List.set_cons_succ, List.set_cons_zero]
    refine wpLoose_skip rfl rfl ?_
    try simp only [Act.put, List.setIfInBounds_toArray, List.set_cons_succ, List.set_cons_zero]
    refine wpLoose_skip rfl rfl ?_
    try simp only [Act.put, List.setIfInBounds_toArray, List.set_cons_succ, List.set_cons_zero]
    refine wpLoose_skip rfl rfl ?_
    try simp only [Act.put, List.setIfInBounds_toArray, List.set_cons_succ, List.set_cons_zero]
    apply wpLoose_val rfl rfl
    case hs =>
      intro w1 hC hd Q1 hQ1
      obtain ⟨hE, hS⟩ := hC
      dsimp only [bare]
      skip
      clear hd hE
      try clear hS
      go_wp2
      exact Ext.refl _
    case ha => rfl
    apply wpLoose_val rfl rfl
    case hs =>
      intro w1 hC hd Q1 hQ1
      obtain ⟨hE, hS⟩ := hC
      dsimp only [bare]
      skip
      clear hd hE
      try clear hS
      go_wp2
      exact Ext.refl _
    case ha => rfl
    refine wpLoose_nil ?_
    intro wa hEa hSa hFa
    have E2 : Hid (Ext w wa) := E1.out.drew.trans hEa
    clear hFa hSa hEa E1
    go_wp2
    go_ret
    exact ⟨rfl, E2.out⟩
    case hAa => kernel_rfl
    case hla => exact ⟨trivial, trivial, trivial, trivial, trivial, trivial, trivial, trivial, trivial, trivial, trivial, trivial, trivial⟩
  · rw [inB_true] at h0
    have h8 : o = 1 ∨ o = 2 ∨ o = 3 ∨ o = 4 ∨ o = 5 ∨ o = 6 ∨ o = 7 ∨ o = 8 := by omega
    clear h0
    rcases h8 with rfl | rfl | rfl | rfl | rfl | rfl | rfl | rfl
    · cases hf : (inB k 0 7)
      · rw [insB_false.2 (by rw [inB_false] at hf; unfold insP; omega)]
        exact okLoad1_no k y n w hf
      · exact okLoad1_yes k y n (insB 1 k y n) w hf (dec_eq (by rw [insB_true]; rw [inB_true] at hf; unfold insP; exact ⟨fun h => by simp; omega, fun h => by simp at h; omega⟩))
    · cases hf : (inB k 0 4294967295)
      · rw [insB_false.2 (by rw [inB_false] at hf; unfold insP; omega)]
        exact okAnd2_no k y n w hf
      · exact okAnd2_yes k y n (insB 2 k y n) w hf (dec_eq (by rw [insB_true]; rw [inB_true] at hf; unfold insP; exact ⟨fun h => by simp; omega, fun h => by simp at h; omega⟩))
    · cases hf : ((inB k 0 4294967295 && inB y 0 15 && inB n 0 15))
      · rw [insB_false.2 (by simp only [Bool.and_eq_false_iff, inB_false] at hf; unfold insP; omega)]
        exact okAsk3_no k y n w hf
      · exact okAsk3_yes k y n (insB 3 k y n) w hf (dec_eq (by rw [insB_true]; simp only [Bool.and_eq_true, inB_true] at hf; unfold insP; exact ⟨fun _ => rfl, fun _ => by omega⟩))
    · cases hf : ((inB k 0 4294967295 && inB y 0 15 && inB n 0 15))
      · rw [insB_false.2 (by simp only [Bool.and_eq_false_iff, inB_false] at hf; unfold insP; omega)]
        exact okAsk4_no k y n w hf
      · exact okAsk4_yes k y n (insB 4 k y n) w hf (dec_eq (by rw [insB_true]; simp only [Bool.and_eq_true, inB_true] at hf; unfold insP; exact ⟨fun _ => rfl, fun _ => by omega⟩))
    · cases hf : ((inB k 0 4294967295 && inB y 0 15 && inB n 0 15))
      · rw [insB_false.2 (by simp only [Bool.and_eq_false_iff, inB_false] at hf; unfold insP; omega)]
        exact okAsk5_no k y n w hf
      · exact okAsk5_yes k y n (insB 5 k y n) w hf (dec_eq (by rw [insB_true]; simp only [Bool.and_eq_true, inB_true] at hf; unfold insP; exact ⟨fun _ => rfl, fun _ => by omega⟩))
    · cases hf : ((inB k 0 4294967295 && inB y 0 15 && inB n 0 15))
      · rw [insB_false.2 (by simp only [Bool.and_eq_false_iff, inB_false] at hf; unfold insP; omega)]
        exact okAsk6_no k y n w hf
      · exact okAsk6_yes k y n (insB 6 k y n) w hf (dec_eq (by rw [insB_true]; simp only [Bool.and_eq_true, inB_true] at hf; unfold insP; exact ⟨fun _ => rfl, fun _ => by omega⟩))
    · cases hf : (inB k 0 399)
      · rw [insB_false.2 (by rw [inB_false] at hf; unfold insP; omega)]
        exact okJump7_no k y n w hf
      · exact okJump7_yes k y n (insB 7 k y n) w hf (dec_eq (by rw [insB_true]; rw [inB_true] at hf; unfold insP; exact ⟨fun h => by simp; omega, fun h => by simp at h; omega⟩))
    · cases hf : (inB k 0 4294967295)
      · rw [insB_false.2 (by rw [inB_false] at hf; unfold insP; omega)]
        exact okRet8_no k y n w hf
      · exact okRet8_yes k y n (insB 8 k y n) w hf (dec_eq (by rw [insB_true]; rw [inB_true] at hf; unfold insP; exact ⟨fun h => by simp; omega, fun h => by simp at h; omega⟩))

end Go.Proofs.Ytakcmiijnckaaaa
