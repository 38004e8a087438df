/- What impl's InsOk answers, of any four numbers: just whether the word is right. -/
import Derived.Test.YtakcmiijnckaaaaInsI
namespace Go.Proofs.Ytakcmiijnckaaaa
open Go.RowKit
set_option linter.unusedVariables false

theorem fieldsN : ∃ f g h i : Field, Try.prog.fieldsOf 35 = #[f, g, h, i] ∧ Try.prog.underlying 35 = some (.struct #[f, g, h, i]) ∧ (f.name ≠ "_" ∧ f.type = 3 ∧ f.offset = 0) ∧ (g.name ≠ "_" ∧ g.type = 3 ∧ g.offset = 1) ∧ (h.name ≠ "_" ∧ h.type = 3 ∧ h.offset = 2) ∧ (i.name ≠ "_" ∧ i.type = 3 ∧ i.offset = 3) := by
  refine ⟨_, _, _, _, ?_, Try.underlying35, ⟨by decide, rfl, rfl⟩, ⟨by decide, rfl, rfl⟩, ⟨by decide, rfl, rfl⟩, ⟨by decide, rfl, rfl⟩⟩
  unfold Program.fieldsOf
  rw [Try.underlying35]

theorem stoodN : Try.prog.stoodInHeld 35 = false := by kernel_rfl

/-- Two words are held against each other: whether all four numbers are the same. -/
theorem eq_ins (a b c d a' b' c' d' : Int) (w : World) :
    (Op.equalIn 10000 35 (.agg #[.int .i64 a, .int .i64 b, .int .i64 c, .int .i64 d]) (.agg #[.int .i64 a', .int .i64 b', .int .i64 c', .int .i64 d'])).run Try.prog w = .ok (decide ((a, b, c, d) = (a', b', c', d'))) w := by
  obtain ⟨f, g, h, i, hf, hu, ⟨fn, ft, fo⟩, ⟨gn, gt, go⟩, ⟨hn, ht, ho⟩, ⟨iN, it, io⟩⟩ := fieldsN
  have h1 := run_equalIn_agg (P := Try.prog) w 9999 35 #[.int .i64 a, .int .i64 b, .int .i64 c, .int .i64 d] #[.int .i64 a', .int .i64 b', .int .i64 c', .int .i64 d'] (by rw [hf]; exact hu) stoodN
  have p0 : ∀ (x y z u : Value) wx, (part 3 #[x, y, z, u] 0).run Try.prog wx = .ok x wx := fun x y z u wx => by simp [part, Try.isAgg3]
  have p1 : ∀ (x y z u : Value) wx, (part 3 #[x, y, z, u] 1).run Try.prog wx = .ok y wx := fun x y z u wx => by simp [part, Try.isAgg3]
  have p2 : ∀ (x y z u : Value) wx, (part 3 #[x, y, z, u] 2).run Try.prog wx = .ok z wx := fun x y z u wx => by simp [part, Try.isAgg3]
  have p3 : ∀ (x y z u : Value) wx, (part 3 #[x, y, z, u] 3).run Try.prog wx = .ok u wx := fun x y z u wx => by simp [part, Try.isAgg3]
  have qi : ∀ (x y : Int) wx, (Op.equalIn 9999 3 (.int .i64 x) (.int .i64 y)).run Try.prog wx = .ok (x == y) wx := fun x y wx => run_equalIn_int wx 9998 3 .i64 .i64 x y Try.underlying3
  rw [show (10000 : Nat) = 9999 + 1 from rfl, h1, hf]
  simp only [Op.eqFields, fn, gn, hn, iN, ne_eq, not_false_eq_true, if_true, Sem.run_bind, ft, fo, gt, go, ht, ho, it, io, p0, Result.andThen_ok, qi]
  by_cases ha : a = a'
  · subst ha
    by_cases hb : b = b'
    · subst hb
      by_cases hc : c = c'
      · subst hc
        by_cases hd : d = d'
        · subst hd; simp [p1, p2, p3, qi]
        · simp [hd, p1, p2, p3, qi]
      · simp [hc, p1, p2, qi]
    · simp [hb, p1, qi]
  · simp [ha]

set_option maxRecDepth 100000 in
set_option maxHeartbeats 1600000 in
theorem okLoad1_no (k y n : Int) (w : World) (hf : (inB k 0 7) = false) : Calls Try.prog 75 #[.agg #[.int .i64 1, .int .i64 k, .int .i64 y, .int .i64 n]] w fun e w' => e = .returned (.bool false) ∧ Ext w w' := by
  have HF : Hid (∀ w, Calls Try.prog 83 #[.iface 115 (.agg #[.int .i64 k])] w fun e w' => e = .returned (.bool false) ∧ Ext w w') := fun w => by have h := fitLoad_any k w; rw [hf] at h; exact h
  clear hf
  go_enter Try.func75, Try.ntmps75
  go_wp2_with fail
  refine (wordLoad_any k y n _).mono ?_
  rintro e w1 ⟨rfl, e1⟩
  have c1 : CellsAt w1 w.heap.size [.int .i64 1, .int .i64 k, .int .i64 y, .int .i64 n] := (CellsAt.new w [.int .i64 1, .int .i64 k, .int .i64 y, .int .i64 n] 35).step e1
  have E1 : Hid (Ext w w1) := (Ext.one _ _).trans e1
  clear e1
  go_wp2_with fail
  refine' wp_region_loose (.inl _ :: .inl _ :: .inl _ :: .inl _ :: .inl _ :: .inl _ :: .inl undef :: .inl undef :: .inl undef :: .inl undef :: .inl _ :: .inl _ :: []) (fun w' => CellsAt w' w.heap.size [.int .i64 1, .int .i64 k, .int .i64 y, .int .i64 n]) (by kernel_rfl) (by kernel_rfl) (c1.drew) (fun _ _ h hE => h.step hE) ?hAa ?hla ?hMa
  case' hMa => skip
  apply wpLoose_val rfl rfl
  case hs =>
    intro w1 hC hd Q1 hQ1
    obtain ⟨hE, hS⟩ := hC
    dsimp only [bare]
    have q0 := hS.2 0 _ rfl; have q1 := hS.2 1 _ rfl; have q2 := hS.2 2 _ rfl; have q3 := hS.2 3 _ rfl
    clear hd hE
    try clear hS
    go_wp2
    exact Ext.refl _
  case ha => rfl
  apply wpLoose_val rfl rfl
  case hs =>
    intro w1 hC hd Q1 hQ1
    obtain ⟨hE, hS⟩ := hC
    dsimp only [bare]
    have q0 := hS.2 0 _ rfl; have q1 := hS.2 1 _ rfl; have q2 := hS.2 2 _ rfl; have q3 := hS.2 3 _ rfl
    clear hd hE
    try clear hS
    go_wp2
    exact Ext.refl _
  case ha => rfl
  apply wpLoose_val rfl rfl
  case hs =>
    intro w1 hC hd Q1 hQ1
    obtain ⟨hE, hS⟩ := hC
    dsimp only [bare]
    have q0 := hS.2 0 _ rfl; have q1 := hS.2 1 _ rfl; have q2 := hS.2 2 _ rfl; have q3 := hS.2 3 _ rfl
    clear hd hE
    try clear hS
    go_wp2
    exact Ext.refl _
  case ha => rfl
  apply wpLoose_val rfl rfl
  case hs =>
    intro w1 hC hd Q1 hQ1
    obtain ⟨hE, hS⟩ := hC
    dsimp only [bare]
    clear hd
    go_wp2_with fail
    refine (HF.out _).mono ?_
    rintro e w2 ⟨rfl, hb⟩
    go_wp2_with fail
    exact hb
  case ha => rfl
  apply wpLoose_val rfl rfl
  case hs =>
    intro w1 hC hd Q1 hQ1
    obtain ⟨hE, hS⟩ := hC
    dsimp only [bare]
    have q0 := hS.2 0 _ rfl; have q1 := hS.2 1 _ rfl; have q2 := hS.2 2 _ rfl; have q3 := hS.2 3 _ rfl
    clear hd hE
    try clear hS
    go_wp2
    exact Ext.refl _
  case ha => rfl
  apply wpLoose_val rfl rfl
  case hs =>
    intro w1 hC hd Q1 hQ1
    obtain ⟨hE, hS⟩ := hC
    dsimp only [bare]
    have q0 := hS.2 0 _ rfl; have q1 := hS.2 1 _ rfl; have q2 := hS.2 2 _ rfl; have q3 := hS.2 3 _ rfl
    clear hd hE
    try clear hS
    go_wp2
    exact Ext.refl _
  case ha => rfl
  refine wpLoose_skip rfl rfl ?_
  try simp only [Act.put, List.setIfInBounds_toArray, List.set_cons_succ, List.set_cons_zero]
  refine wpLoose_skip rfl rfl ?_
  try simp only [Act.put, List.setIfInBounds_toArray, List.set_cons_succ, List.set_cons_zero]
  refine wpLoose_skip rfl rfl ?_
  try simp only [Act.put, List.setIfInBounds_toArray, List.set_cons_succ, List.set_cons_zero]
  refine wpLoose_skip rfl rfl ?_
  try simp only [Act.put, List.setIfInBounds_toArray, List.set_cons_succ, List.set_cons_zero]
  apply wpLoose_val rfl rfl
  case hs =>
    intro w1 hC hd Q1 hQ1
    obtain ⟨hE, hS⟩ := hC
    dsimp only [bare]
    have q0 := hS.2 0 _ rfl; have q1 := hS.2 1 _ rfl; have q2 := hS.2 2 _ rfl; have q3 := hS.2 3 _ rfl
    clear hd hE
    try clear hS
    go_wp2
    exact Ext.refl _
  case ha => rfl
  apply wpLoose_val rfl rfl
  case hs =>
    intro w1 hC hd Q1 hQ1
    obtain ⟨hE, hS⟩ := hC
    dsimp only [bare]
    have q0 := hS.2 0 _ rfl; have q1 := hS.2 1 _ rfl; have q2 := hS.2 2 _ rfl; have q3 := hS.2 3 _ rfl
    clear hd hE
    try clear hS
    go_wp2
    exact Ext.refl _
  case ha => rfl
  refine wpLoose_nil ?_
  intro wa hEa hSa hFa
  have E2 : Hid (Ext w wa) := E1.out.drew.trans hEa
  clear hFa hSa hEa E1 c1
  go_wp2
  go_ret
  exact ⟨rfl, E2.out⟩
  case hAa => kernel_rfl
  case hla => exact ⟨trivial, trivial, trivial, trivial, trivial, trivial, trivial, trivial, trivial, trivial, trivial, trivial, trivial⟩

set_option maxRecDepth 100000 in
set_option maxHeartbeats 1600000 in
theorem okLoad1_yes (k y n : Int) (d : Bool) (w : World) (hf : (inB k 0 7) = true) (hdd : decide (((1 : Int), (k : Int), (0 : Int), (0 : Int)) = (1, k, y, n)) = d) : Calls Try.prog 75 #[.agg #[.int .i64 1, .int .i64 k, .int .i64 y, .int .i64 n]] w fun e w' => e = .returned (.bool d) ∧ Ext w w' := by
  have HQ : Hid (∀ w, (Op.equalIn 10000 35 (.agg #[.int .i64 1, .int .i64 k, .int .i64 0, .int .i64 0]) (.agg #[.int .i64 1, .int .i64 k, .int .i64 y, .int .i64 n])).run Try.prog w = .ok d w) := fun w => by rw [eq_ins, hdd]
  clear hdd
  have HF : Hid (∀ w, Calls Try.prog 83 #[.iface 115 (.agg #[.int .i64 k])] w fun e w' => e = .returned (.bool true) ∧ Ext w w') := fun w => by have h := fitLoad_any k w; rw [hf] at h; exact h
  clear hf
  go_enter Try.func75, Try.ntmps75
  go_wp2_with fail
  refine (wordLoad_any k y n _).mono ?_
  rintro e w1 ⟨rfl, e1⟩
  have c1 : CellsAt w1 w.heap.size [.int .i64 1, .int .i64 k, .int .i64 y, .int .i64 n] := (CellsAt.new w [.int .i64 1, .int .i64 k, .int .i64 y, .int .i64 n] 35).step e1
  have E1 : Hid (Ext w w1) := (Ext.one _ _).trans e1
  clear e1
  go_wp2_with fail
  refine' wp_region_loose (.inl _ :: .inl _ :: .inl _ :: .inl _ :: .inl _ :: .inl _ :: .inl _ :: .inl _ :: .inl _ :: .inl _ :: .inl _ :: .inl _ :: []) (fun w' => CellsAt w' w.heap.size [.int .i64 1, .int .i64 k, .int .i64 y, .int .i64 n]) (by kernel_rfl) (by kernel_rfl) (c1.drew) (fun _ _ h hE => h.step hE) ?hAa ?hla ?hMa
  case' hMa => skip
  apply wpLoose_val rfl rfl
  case hs =>
    intro w1 hC hd Q1 hQ1
    obtain ⟨hE, hS⟩ := hC
    dsimp only [bare]
    have q0 := hS.2 0 _ rfl; have q1 := hS.2 1 _ rfl; have q2 := hS.2 2 _ rfl; have q3 := hS.2 3 _ rfl
    clear hd hE
    try clear hS
    go_wp2
    exact Ext.refl _
  case ha => rfl
  apply wpLoose_val rfl rfl
  case hs =>
    intro w1 hC hd Q1 hQ1
    obtain ⟨hE, hS⟩ := hC
    dsimp only [bare]
    have q0 := hS.2 0 _ rfl; have q1 := hS.2 1 _ rfl; have q2 := hS.2 2 _ rfl; have q3 := hS.2 3 _ rfl
    clear hd hE
    try clear hS
    go_wp2
    exact Ext.refl _
  case ha => rfl
  apply wpLoose_val rfl rfl
  case hs =>
    intro w1 hC hd Q1 hQ1
    obtain ⟨hE, hS⟩ := hC
    dsimp only [bare]
    have q0 := hS.2 0 _ rfl; have q1 := hS.2 1 _ rfl; have q2 := hS.2 2 _ rfl; have q3 := hS.2 3 _ rfl
    clear hd hE
    try clear hS
    go_wp2
    exact Ext.refl _
  case ha => rfl
  apply wpLoose_val rfl rfl
  case hs =>
    intro w1 hC hd Q1 hQ1
    obtain ⟨hE, hS⟩ := hC
    dsimp only [bare]
    clear hd
    go_wp2_with fail
    refine (HF.out _).mono ?_
    rintro e w2 ⟨rfl, hb⟩
    go_wp2_with fail
    exact hb
  case ha => rfl
  apply wpLoose_val rfl rfl
  case hs =>
    intro w1 hC hd Q1 hQ1
    obtain ⟨hE, hS⟩ := hC
    dsimp only [bare]
    have q0 := hS.2 0 _ rfl; have q1 := hS.2 1 _ rfl; have q2 := hS.2 2 _ rfl; have q3 := hS.2 3 _ rfl
    clear hd hE
    try clear hS
    go_wp2
    exact Ext.refl _
  case ha => rfl
  apply wpLoose_val rfl rfl
  case hs =>
    intro w1 hC hd Q1 hQ1
    obtain ⟨hE, hS⟩ := hC
    dsimp only [bare]
    have q0 := hS.2 0 _ rfl; have q1 := hS.2 1 _ rfl; have q2 := hS.2 2 _ rfl; have q3 := hS.2 3 _ rfl
    clear hd hE
    try clear hS
    go_wp2
    exact Ext.refl _
  case ha => rfl
  apply wpLoose_val rfl rfl
  case hs =>
    intro w1 hC hd Q1 hQ1
    obtain ⟨hE, hS⟩ := hC
    dsimp only [bare]
    have q0 := hS.2 0 _ rfl; have q1 := hS.2 1 _ rfl; have q2 := hS.2 2 _ rfl; have q3 := hS.2 3 _ rfl
    clear hd hE
    try clear hS
    go_wp2
    exact Ext.refl _
  case ha => rfl
  apply wpLoose_val rfl rfl
  case hs =>
    intro w1 hC hd Q1 hQ1
    obtain ⟨hE, hS⟩ := hC
    dsimp only [bare]
    clear hd
    go_wp2_with fail
    refine (insLoad_any k _).mono ?_
    rintro e w2 ⟨rfl, hb⟩
    go_wp2_with fail
    exact hb
  case ha => rfl
  apply wpLoose_val rfl rfl
  case hs =>
    intro w1 hC hd Q1 hQ1
    obtain ⟨hE, hS⟩ := hC
    dsimp only [bare]
    have q0 := hS.2 0 _ rfl; have q1 := hS.2 1 _ rfl; have q2 := hS.2 2 _ rfl; have q3 := hS.2 3 _ rfl
    clear hd hE
    try clear hS
    go_wp2
    exact Ext.refl _
  case ha => rfl
  apply wpLoose_val rfl rfl
  case hs =>
    intro w1 hC hd Q1 hQ1
    obtain ⟨hE, hS⟩ := hC
    dsimp only [bare]
    have hEq := HQ.out
    obtain ⟨q0, q1, q2, q3⟩ := (⟨hS.2 0 _ rfl, hS.2 1 _ rfl, hS.2 2 _ rfl, hS.2 3 _ rfl⟩ : _ ∧ _ ∧ _ ∧ _)
    clear hd hE hS
    go_wp2
    exact Ext.refl _
  case ha => rfl
  apply wpLoose_val rfl rfl
  case hs =>
    intro w1 hC hd Q1 hQ1
    obtain ⟨hE, hS⟩ := hC
    dsimp only [bare]
    have q0 := hS.2 0 _ rfl; have q1 := hS.2 1 _ rfl; have q2 := hS.2 2 _ rfl; have q3 := hS.2 3 _ rfl
    clear hd hE
    try clear hS
    go_wp2
    exact Ext.refl _
  case ha => rfl
  apply wpLoose_val rfl rfl
  case hs =>
    intro w1 hC hd Q1 hQ1
    obtain ⟨hE, hS⟩ := hC
    dsimp only [bare]
    have q0 := hS.2 0 _ rfl; have q1 := hS.2 1 _ rfl; have q2 := hS.2 2 _ rfl; have q3 := hS.2 3 _ rfl
    clear hd hE
    try clear hS
    go_wp2
    exact Ext.refl _
  case ha => rfl
  refine wpLoose_nil ?_
  intro wa hEa hSa hFa
  have E2 : Hid (Ext w wa) := E1.out.drew.trans hEa
  clear hFa hSa hEa E1 c1
  go_wp2
  go_ret
  exact ⟨rfl, E2.out⟩
  case hAa => kernel_rfl
  case hla => exact ⟨trivial, trivial, trivial, trivial, trivial, trivial, trivial, trivial, trivial, trivial, trivial, trivial, trivial⟩

set_option maxRecDepth 100000 in
set_option maxHeartbeats 1600000 in
theorem okAnd2_no (k y n : Int) (w : World) (hf : (inB k 0 4294967295) = false) : Calls Try.prog 75 #[.agg #[.int .i64 2, .int .i64 k, .int .i64 y, .int .i64 n]] w fun e w' => e = .returned (.bool false) ∧ Ext w w' := by
  have HF : Hid (∀ w, Calls Try.prog 83 #[.iface 117 (.agg #[.int .i64 k])] w fun e w' => e = .returned (.bool false) ∧ Ext w w') := fun w => by have h := fitAnd_any k w; rw [hf] at h; exact h
  clear hf
  go_enter Try.func75, Try.ntmps75
  go_wp2_with fail
  refine (wordAnd_any k y n _).mono ?_
  rintro e w1 ⟨rfl, e1⟩
  have c1 : CellsAt w1 w.heap.size [.int .i64 2, .int .i64 k, .int .i64 y, .int .i64 n] := (CellsAt.new w [.int .i64 2, .int .i64 k, .int .i64 y, .int .i64 n] 35).step e1
  have E1 : Hid (Ext w w1) := (Ext.one _ _).trans e1
  clear e1
  go_wp2_with fail
  refine' wp_region_loose (.inl _ :: .inl _ :: .inl _ :: .inl _ :: .inl _ :: .inl _ :: .inl undef :: .inl undef :: .inl undef :: .inl undef :: .inl _ :: .inl _ :: []) (fun w' => CellsAt w' w.heap.size [.int .i64 2, .int .i64 k, .int .i64 y, .int .i64 n]) (by kernel_rfl) (by kernel_rfl) (c1.drew) (fun _ _ h hE => h.step hE) ?hAa ?hla ?hMa
  case' hMa => skip
  apply wpLoose_val rfl rfl
  case hs =>
    intro w1 hC hd Q1 hQ1
    obtain ⟨hE, hS⟩ := hC
    dsimp only [bare]
    have q0 := hS.2 0 _ rfl; have q1 := hS.2 1 _ rfl; have q2 := hS.2 2 _ rfl; have q3 := hS.2 3 _ rfl
    clear hd hE
    try clear hS
    go_wp2
    exact Ext.refl _
  case ha => rfl
  apply wpLoose_val rfl rfl
  case hs =>
    intro w1 hC hd Q1 hQ1
    obtain ⟨hE, hS⟩ := hC
    dsimp only [bare]
    have q0 := hS.2 0 _ rfl; have q1 := hS.2 1 _ rfl; have q2 := hS.2 2 _ rfl; have q3 := hS.2 3 _ rfl
    clear hd hE
    try clear hS
    go_wp2
    exact Ext.refl _
  case ha => rfl
  apply wpLoose_val rfl rfl
  case hs =>
    intro w1 hC hd Q1 hQ1
    obtain ⟨hE, hS⟩ := hC
    dsimp only [bare]
    have q0 := hS.2 0 _ rfl; have q1 := hS.2 1 _ rfl; have q2 := hS.2 2 _ rfl; have q3 := hS.2 3 _ rfl
    clear hd hE
    try clear hS
    go_wp2
    exact Ext.refl _
  case ha => rfl
  apply wpLoose_val rfl rfl
  case hs =>
    intro w1 hC hd Q1 hQ1
    obtain ⟨hE, hS⟩ := hC
    dsimp only [bare]
    clear hd
    go_wp2_with fail
    refine (HF.out _).mono ?_
    rintro e w2 ⟨rfl, hb⟩
    go_wp2_with fail
    exact hb
  case ha => rfl
  apply wpLoose_val rfl rfl
  case hs =>
    intro w1 hC hd Q1 hQ1
    obtain ⟨hE, hS⟩ := hC
    dsimp only [bare]
    have q0 := hS.2 0 _ rfl; have q1 := hS.2 1 _ rfl; have q2 := hS.2 2 _ rfl; have q3 := hS.2 3 _ rfl
    clear hd hE
    try clear hS
    go_wp2
    exact Ext.refl _
  case ha => rfl
  apply wpLoose_val rfl rfl
  case hs =>
    intro w1 hC hd Q1 hQ1
    obtain ⟨hE, hS⟩ := hC
    dsimp only [bare]
    have q0 := hS.2 0 _ rfl; have q1 := hS.2 1 _ rfl; have q2 := hS.2 2 _ rfl; have q3 := hS.2 3 _ rfl
    clear hd hE
    try clear hS
    go_wp2
    exact Ext.refl _
  case ha => rfl
  refine wpLoose_skip rfl rfl ?_
  try simp only [Act.put, List.setIfInBounds_toArray, List.set_cons_succ, List.set_cons_zero]
  refine wpLoose_skip rfl rfl ?_
  try simp only [Act.put, List.setIfInBounds_toArray, List.set_cons_succ, List.set_cons_zero]
  refine wpLoose_skip rfl rfl ?_
  try simp only [Act.put, List.setIfInBounds_toArray, List.set_cons_succ, List.set_cons_zero]
  refine wpLoose_skip rfl rfl ?_
  try simp only [Act.put, List.setIfInBounds_toArray, List.set_cons_succ, List.set_cons_zero]
  apply wpLoose_val rfl rfl
  case hs =>
    intro w1 hC hd Q1 hQ1
    obtain ⟨hE, hS⟩ := hC
    dsimp only [bare]
    have q0 := hS.2 0 _ rfl; have q1 := hS.2 1 _ rfl; have q2 := hS.2 2 _ rfl; have q3 := hS.2 3 _ rfl
    clear hd hE
    try clear hS
    go_wp2
    exact Ext.refl _
  case ha => rfl
  apply wpLoose_val rfl rfl
  case hs =>
    intro w1 hC hd Q1 hQ1
    obtain ⟨hE, hS⟩ := hC
    dsimp only [bare]
    have q0 := hS.2 0 _ rfl; have q1 := hS.2 1 _ rfl; have q2 := hS.2 2 _ rfl; have q3 := hS.2 3 _ rfl
    clear hd hE
    try clear hS
    go_wp2
    exact Ext.refl _
  case ha => rfl
  refine wpLoose_nil ?_
  intro wa hEa hSa hFa
  have E2 : Hid (Ext w wa) := E1.out.drew.trans hEa
  clear hFa hSa hEa E1 c1
  go_wp2
  go_ret
  exact ⟨rfl, E2.out⟩
  case hAa => kernel_rfl
  case hla => exact ⟨trivial, trivial, trivial, trivial, trivial, trivial, trivial, trivial, trivial, trivial, trivial, trivial, trivial⟩

set_option maxRecDepth 100000 in
set_option maxHeartbeats 1600000 in
theorem okAnd2_yes (k y n : Int) (d : Bool) (w : World) (hf : (inB k 0 4294967295) = true) (hdd : decide (((2 : Int), (k : Int), (0 : Int), (0 : Int)) = (2, k, y, n)) = d) : Calls Try.prog 75 #[.agg #[.int .i64 2, .int .i64 k, .int .i64 y, .int .i64 n]] w fun e w' => e = .returned (.bool d) ∧ Ext w w' := by
  have HQ : Hid (∀ w, (Op.equalIn 10000 35 (.agg #[.int .i64 2, .int .i64 k, .int .i64 0, .int .i64 0]) (.agg #[.int .i64 2, .int .i64 k, .int .i64 y, .int .i64 n])).run Try.prog w = .ok d w) := fun w => by rw [eq_ins, hdd]
  clear hdd
  have HF : Hid (∀ w, Calls Try.prog 83 #[.iface 117 (.agg #[.int .i64 k])] w fun e w' => e = .returned (.bool true) ∧ Ext w w') := fun w => by have h := fitAnd_any k w; rw [hf] at h; exact h
  clear hf
  go_enter Try.func75, Try.ntmps75
  go_wp2_with fail
  refine (wordAnd_any k y n _).mono ?_
  rintro e w1 ⟨rfl, e1⟩
  have c1 : CellsAt w1 w.heap.size [.int .i64 2, .int .i64 k, .int .i64 y, .int .i64 n] := (CellsAt.new w [.int .i64 2, .int .i64 k, .int .i64 y, .int .i64 n] 35).step e1
  have E1 : Hid (Ext w w1) := (Ext.one _ _).trans e1
  clear e1
  go_wp2_with fail
  refine' wp_region_loose (.inl _ :: .inl _ :: .inl _ :: .inl _ :: .inl _ :: .inl _ :: .inl _ :: .inl _ :: .inl _ :: .inl _ :: .inl _ :: .inl _ :: []) (fun w' => CellsAt w' w.heap.size [.int .i64 2, .int .i64 k, .int .i64 y, .int .i64 n]) (by kernel_rfl) (by kernel_rfl) (c1.drew) (fun _ _ h hE => h.step hE) ?hAa ?hla ?hMa
  case' hMa => skip
  apply wpLoose_val rfl rfl
  case hs =>
    intro w1 hC hd Q1 hQ1
    obtain ⟨hE, hS⟩ := hC
    dsimp only [bare]
    have q0 := hS.2 0 _ rfl; have q1 := hS.2 1 _ rfl; have q2 := hS.2 2 _ rfl; have q3 := hS.2 3 _ rfl
    clear hd hE
    try clear hS
    go_wp2
    exact Ext.refl _
  case ha => rfl
  apply wpLoose_val rfl rfl
  case hs =>
    intro w1 hC hd Q1 hQ1
    obtain ⟨hE, hS⟩ := hC
    dsimp only [bare]
    have q0 := hS.2 0 _ rfl; have q1 := hS.2 1 _ rfl; have q2 := hS.2 2 _ rfl; have q3 := hS.2 3 _ rfl
    clear hd hE
    try clear hS
    go_wp2
    exact Ext.refl _
  case ha => rfl
  apply wpLoose_val rfl rfl
  case hs =>
    intro w1 hC hd Q1 hQ1
    obtain ⟨hE, hS⟩ := hC
    dsimp only [bare]
    have q0 := hS.2 0 _ rfl; have q1 := hS.2 1 _ rfl; have q2 := hS.2 2 _ rfl; have q3 := hS.2 3 _ rfl
    clear hd hE
    try clear hS
    go_wp2
    exact Ext.refl _
  case ha => rfl
  apply wpLoose_val rfl rfl
  case hs =>
    intro w1 hC hd Q1 hQ1
    obtain ⟨hE, hS⟩ := hC
    dsimp only [bare]
    clear hd
    go_wp2_with fail
    refine (HF.out _).mono ?_
    rintro e w2 ⟨rfl, hb⟩
    go_wp2_with fail
    exact hb
  case ha => rfl
  apply wpLoose_val rfl rfl
  case hs =>
    intro w1 hC hd Q1 hQ1
    obtain ⟨hE, hS⟩ := hC
    dsimp only [bare]
    have q0 := hS.2 0 _ rfl; have q1 := hS.2 1 _ rfl; have q2 := hS.2 2 _ rfl; have q3 := hS.2 3 _ rfl
    clear hd hE
    try clear hS
    go_wp2
    exact Ext.refl _
  case ha => rfl
  apply wpLoose_val rfl rfl
  case hs =>
    intro w1 hC hd Q1 hQ1
    obtain ⟨hE, hS⟩ := hC
    dsimp only [bare]
    have q0 := hS.2 0 _ rfl; have q1 := hS.2 1 _ rfl; have q2 := hS.2 2 _ rfl; have q3 := hS.2 3 _ rfl
    clear hd hE
    try clear hS
    go_wp2
    exact Ext.refl _
  case ha => rfl
  apply wpLoose_val rfl rfl
  case hs =>
    intro w1 hC hd Q1 hQ1
    obtain ⟨hE, hS⟩ := hC
    dsimp only [bare]
    have q0 := hS.2 0 _ rfl; have q1 := hS.2 1 _ rfl; have q2 := hS.2 2 _ rfl; have q3 := hS.2 3 _ rfl
    clear hd hE
    try clear hS
    go_wp2
    exact Ext.refl _
  case ha => rfl
  apply wpLoose_val rfl rfl
  case hs =>
    intro w1 hC hd Q1 hQ1
    obtain ⟨hE, hS⟩ := hC
    dsimp only [bare]
    clear hd
    go_wp2_with fail
    refine (insAnd_any k _).mono ?_
    rintro e w2 ⟨rfl, hb⟩
    go_wp2_with fail
    exact hb
  case ha => rfl
  apply wpLoose_val rfl rfl
  case hs =>
    intro w1 hC hd Q1 hQ1
    obtain ⟨hE, hS⟩ := hC
    dsimp only [bare]
    have q0 := hS.2 0 _ rfl; have q1 := hS.2 1 _ rfl; have q2 := hS.2 2 _ rfl; have q3 := hS.2 3 _ rfl
    clear hd hE
    try clear hS
    go_wp2
    exact Ext.refl _
  case ha => rfl
  apply wpLoose_val rfl rfl
  case hs =>
    intro w1 hC hd Q1 hQ1
    obtain ⟨hE, hS⟩ := hC
    dsimp only [bare]
    have hEq := HQ.out
    obtain ⟨q0, q1, q2, q3⟩ := (⟨hS.2 0 _ rfl, hS.2 1 _ rfl, hS.2 2 _ rfl, hS.2 3 _ rfl⟩ : _ ∧ _ ∧ _ ∧ _)
    clear hd hE hS
    go_wp2
    exact Ext.refl _
  case ha => rfl
  apply wpLoose_val rfl rfl
  case hs =>
    intro w1 hC hd Q1 hQ1
    obtain ⟨hE, hS⟩ := hC
    dsimp only [bare]
    have q0 := hS.2 0 _ rfl; have q1 := hS.2 1 _ rfl; have q2 := hS.2 2 _ rfl; have q3 := hS.2 3 _ rfl
    clear hd hE
    try clear hS
    go_wp2
    exact Ext.refl _
  case ha => rfl
  apply wpLoose_val rfl rfl
  case hs =>
    intro w1 hC hd Q1 hQ1
    obtain ⟨hE, hS⟩ := hC
    dsimp only [bare]
    have q0 := hS.2 0 _ rfl; have q1 := hS.2 1 _ rfl; have q2 := hS.2 2 _ rfl; have q3 := hS.2 3 _ rfl
    clear hd hE
    try clear hS
    go_wp2
    exact Ext.refl _
  case ha => rfl
  refine wpLoose_nil ?_
  intro wa hEa hSa hFa
  have E2 : Hid (Ext w wa) := E1.out.drew.trans hEa
  clear hFa hSa hEa E1 c1
  go_wp2
  go_ret
  exact ⟨rfl, E2.out⟩
  case hAa => kernel_rfl
  case hla => exact ⟨trivial, trivial, trivial, trivial, trivial, trivial, trivial, trivial, trivial, trivial, trivial, trivial, trivial⟩

set_option maxRecDepth 100000 in
set_option maxHeartbeats 1600000 in
theorem okAsk3_no (k y n : Int) (w : World) (hf : ((inB k 0 4294967295 && inB y 0 15 && inB n 0 15)) = false) : Calls Try.prog 75 #[.agg #[.int .i64 3, .int .i64 k, .int .i64 y, .int .i64 n]] w fun e w' => e = .returned (.bool false) ∧ Ext w w' := by
  have HF : Hid (∀ w, Calls Try.prog 83 #[.iface 119 (.agg #[.int .i64 3, .int .i64 k, .int .i64 y, .int .i64 n])] w fun e w' => e = .returned (.bool false) ∧ Ext w w') := fun w => by have h := fitAsk_any 3 k y n w; rw [hf] at h; exact h
  clear hf
  go_enter Try.func75, Try.ntmps75
  go_wp2_with fail
  refine (wordAsk3_any k y n _).mono ?_
  rintro e w1 ⟨rfl, e1⟩
  have c1 : CellsAt w1 w.heap.size [.int .i64 3, .int .i64 k, .int .i64 y, .int .i64 n] := (CellsAt.new w [.int .i64 3, .int .i64 k, .int .i64 y, .int .i64 n] 35).step e1
  have E1 : Hid (Ext w w1) := (Ext.one _ _).trans e1
  clear e1
  go_wp2_with fail
  refine' wp_region_loose (.inl _ :: .inl _ :: .inl _ :: .inl _ :: .inl _ :: .inl _ :: .inl undef :: .inl undef :: .inl undef :: .inl undef :: .inl _ :: .inl _ :: []) (fun w' => CellsAt w' w.heap.size [.int .i64 3, .int .i64 k, .int .i64 y, .int .i64 n]) (by kernel_rfl) (by kernel_rfl) (c1.drew) (fun _ _ h hE => h.step hE) ?hAa ?hla ?hMa
  case' hMa => skip
  apply wpLoose_val rfl rfl
  case hs =>
    intro w1 hC hd Q1 hQ1
    obtain ⟨hE, hS⟩ := hC
    dsimp only [bare]
    have q0 := hS.2 0 _ rfl; have q1 := hS.2 1 _ rfl; have q2 := hS.2 2 _ rfl; have q3 := hS.2 3 _ rfl
    clear hd hE
    try clear hS
    go_wp2
    exact Ext.refl _
  case ha => rfl
  apply wpLoose_val rfl rfl
  case hs =>
    intro w1 hC hd Q1 hQ1
    obtain ⟨hE, hS⟩ := hC
    dsimp only [bare]
    have q0 := hS.2 0 _ rfl; have q1 := hS.2 1 _ rfl; have q2 := hS.2 2 _ rfl; have q3 := hS.2 3 _ rfl
    clear hd hE
    try clear hS
    go_wp2
    exact Ext.refl _
  case ha => rfl
  apply wpLoose_val rfl rfl
  case hs =>
    intro w1 hC hd Q1 hQ1
    obtain ⟨hE, hS⟩ := hC
    dsimp only [bare]
    have q0 := hS.2 0 _ rfl; have q1 := hS.2 1 _ rfl; have q2 := hS.2 2 _ rfl; have q3 := hS.2 3 _ rfl
    clear hd hE
    try clear hS
    go_wp2
    exact Ext.refl _
  case ha => rfl
  apply wpLoose_val rfl rfl
  case hs =>
    intro w1 hC hd Q1 hQ1
    obtain ⟨hE, hS⟩ := hC
    dsimp only [bare]
    clear hd
    go_wp2_with fail
    refine (HF.out _).mono ?_
    rintro e w2 ⟨rfl, hb⟩
    go_wp2_with fail
    exact hb
  case ha => rfl
  apply wpLoose_val rfl rfl
  case hs =>
    intro w1 hC hd Q1 hQ1
    obtain ⟨hE, hS⟩ := hC
    dsimp only [bare]
    have q0 := hS.2 0 _ rfl; have q1 := hS.2 1 _ rfl; have q2 := hS.2 2 _ rfl; have q3 := hS.2 3 _ rfl
    clear hd hE
    try clear hS
    go_wp2
    exact Ext.refl _
  case ha => rfl
  apply wpLoose_val rfl rfl
  case hs =>
    intro w1 hC hd Q1 hQ1
    obtain ⟨hE, hS⟩ := hC
    dsimp only [bare]
    have q0 := hS.2 0 _ rfl; have q1 := hS.2 1 _ rfl; have q2 := hS.2 2 _ rfl; have q3 := hS.2 3 _ rfl
    clear hd hE
    try clear hS
    go_wp2
    exact Ext.refl _
  case ha => rfl
  refine wpLoose_skip rfl rfl ?_
  try simp only [Act.put, List.setIfInBounds_toArray, List.set_cons_succ, List.set_cons_zero]
  refine wpLoose_skip rfl rfl ?_
  try simp only [Act.put, List.setIfInBounds_toArray, List.set_cons_succ, List.set_cons_zero]
  refine wpLoose_skip rfl rfl ?_
  try simp only [Act.put, List.setIfInBounds_toArray, List.set_cons_succ, List.set_cons_zero]
  refine wpLoose_skip rfl rfl ?_
  try simp only [Act.put, List.setIfInBounds_toArray, List.set_cons_succ, List.set_cons_zero]
  apply wpLoose_val rfl rfl
  case hs =>
    intro w1 hC hd Q1 hQ1
    obtain ⟨hE, hS⟩ := hC
    dsimp only [bare]
    have q0 := hS.2 0 _ rfl; have q1 := hS.2 1 _ rfl; have q2 := hS.2 2 _ rfl; have q3 := hS.2 3 _ rfl
    clear hd hE
    try clear hS
    go_wp2
    exact Ext.refl _
  case ha => rfl
  apply wpLoose_val rfl rfl
  case hs =>
    intro w1 hC hd Q1 hQ1
    obtain ⟨hE, hS⟩ := hC
    dsimp only [bare]
    have q0 := hS.2 0 _ rfl; have q1 := hS.2 1 _ rfl; have q2 := hS.2 2 _ rfl; have q3 := hS.2 3 _ rfl
    clear hd hE
    try clear hS
    go_wp2
    exact Ext.refl _
  case ha => rfl
  refine wpLoose_nil ?_
  intro wa hEa hSa hFa
  have E2 : Hid (Ext w wa) := E1.out.drew.trans hEa
  clear hFa hSa hEa E1 c1
  go_wp2
  go_ret
  exact ⟨rfl, E2.out⟩
  case hAa => kernel_rfl
  case hla => exact ⟨trivial, trivial, trivial, trivial, trivial, trivial, trivial, trivial, trivial, trivial, trivial, trivial, trivial⟩

set_option maxRecDepth 100000 in
set_option maxHeartbeats 1600000 in
theorem okAsk3_yes (k y n : Int) (d : Bool) (w : World) (hf : ((inB k 0 4294967295 && inB y 0 15 && inB n 0 15)) = true) (hdd : decide (((3 : Int), (k : Int), (y : Int), (n : Int)) = (3, k, y, n)) = d) : Calls Try.prog 75 #[.agg #[.int .i64 3, .int .i64 k, .int .i64 y, .int .i64 n]] w fun e w' => e = .returned (.bool d) ∧ Ext w w' := by
  have HQ : Hid (∀ w, (Op.equalIn 10000 35 (.agg #[.int .i64 3, .int .i64 k, .int .i64 y, .int .i64 n]) (.agg #[.int .i64 3, .int .i64 k, .int .i64 y, .int .i64 n])).run Try.prog w = .ok d w) := fun w => by rw [eq_ins, hdd]
  clear hdd
  have HF : Hid (∀ w, Calls Try.prog 83 #[.iface 119 (.agg #[.int .i64 3, .int .i64 k, .int .i64 y, .int .i64 n])] w fun e w' => e = .returned (.bool true) ∧ Ext w w') := fun w => by have h := fitAsk_any 3 k y n w; rw [hf] at h; exact h
  clear hf
  go_enter Try.func75, Try.ntmps75
  go_wp2_with fail
  refine (wordAsk3_any k y n _).mono ?_
  rintro e w1 ⟨rfl, e1⟩
  have c1 : CellsAt w1 w.heap.size [.int .i64 3, .int .i64 k, .int .i64 y, .int .i64 n] := (CellsAt.new w [.int .i64 3, .int .i64 k, .int .i64 y, .int .i64 n] 35).step e1
  have E1 : Hid (Ext w w1) := (Ext.one _ _).trans e1
  clear e1
  go_wp2_with fail
  refine' wp_region_loose (.inl _ :: .inl _ :: .inl _ :: .inl _ :: .inl _ :: .inl _ :: .inl _ :: .inl _ :: .inl _ :: .inl _ :: .inl _ :: .inl _ :: []) (fun w' => CellsAt w' w.heap.size [.int .i64 3, .int .i64 k, .int .i64 y, .int .i64 n]) (by kernel_rfl) (by kernel_rfl) (c1.drew) (fun _ _ h hE => h.step hE) ?hAa ?hla ?hMa
  case' hMa => skip
  apply wpLoose_val rfl rfl
  case hs =>
    intro w1 hC hd Q1 hQ1
    obtain ⟨hE, hS⟩ := hC
    dsimp only [bare]
    have q0 := hS.2 0 _ rfl; have q1 := hS.2 1 _ rfl; have q2 := hS.2 2 _ rfl; have q3 := hS.2 3 _ rfl
    clear hd hE
    try clear hS
    go_wp2
    exact Ext.refl _
  case ha => rfl
  apply wpLoose_val rfl rfl
  case hs =>
    intro w1 hC hd Q1 hQ1
    obtain ⟨hE, hS⟩ := hC
    dsimp only [bare]
    have q0 := hS.2 0 _ rfl; have q1 := hS.2 1 _ rfl; have q2 := hS.2 2 _ rfl; have q3 := hS.2 3 _ rfl
    clear hd hE
    try clear hS
    go_wp2
    exact Ext.refl _
  case ha => rfl
  apply wpLoose_val rfl rfl
  case hs =>
    intro w1 hC hd Q1 hQ1
    obtain ⟨hE, hS⟩ := hC
    dsimp only [bare]
    have q0 := hS.2 0 _ rfl; have q1 := hS.2 1 _ rfl; have q2 := hS.2 2 _ rfl; have q3 := hS.2 3 _ rfl
    clear hd hE
    try clear hS
    go_wp2
    exact Ext.refl _
  case ha => rfl
  apply wpLoose_val rfl rfl
  case hs =>
    intro w1 hC hd Q1 hQ1
    obtain ⟨hE, hS⟩ := hC
    dsimp only [bare]
    clear hd
    go_wp2_with fail
    refine (HF.out _).mono ?_
    rintro e w2 ⟨rfl, hb⟩
    go_wp2_with fail
    exact hb
  case ha => rfl
  apply wpLoose_val rfl rfl
  case hs =>
    intro w1 hC hd Q1 hQ1
    obtain ⟨hE, hS⟩ := hC
    dsimp only [bare]
    have q0 := hS.2 0 _ rfl; have q1 := hS.2 1 _ rfl; have q2 := hS.2 2 _ rfl; have q3 := hS.2 3 _ rfl
    clear hd hE
    try clear hS
    go_wp2
    exact Ext.refl _
  case ha => rfl
  apply wpLoose_val rfl rfl
  case hs =>
    intro w1 hC hd Q1 hQ1
    obtain ⟨hE, hS⟩ := hC
    dsimp only [bare]
    have q0 := hS.2 0 _ rfl; have q1 := hS.2 1 _ rfl; have q2 := hS.2 2 _ rfl; have q3 := hS.2 3 _ rfl
    clear hd hE
    try clear hS
    go_wp2
    exact Ext.refl _
  case ha => rfl
  apply wpLoose_val rfl rfl
  case hs =>
    intro w1 hC hd Q1 hQ1
    obtain ⟨hE, hS⟩ := hC
    dsimp only [bare]
    have q0 := hS.2 0 _ rfl; have q1 := hS.2 1 _ rfl; have q2 := hS.2 2 _ rfl; have q3 := hS.2 3 _ rfl
    clear hd hE
    try clear hS
    go_wp2
    exact Ext.refl _
  case ha => rfl
  apply wpLoose_val rfl rfl
  case hs =>
    intro w1 hC hd Q1 hQ1
    obtain ⟨hE, hS⟩ := hC
    dsimp only [bare]
    clear hd
    go_wp2_with fail
    refine (insAsk_any 3 k y n _).mono ?_
    rintro e w2 ⟨rfl, hb⟩
    go_wp2_with fail
    exact hb
  case ha => rfl
  apply wpLoose_val rfl rfl
  case hs =>
    intro w1 hC hd Q1 hQ1
    obtain ⟨hE, hS⟩ := hC
    dsimp only [bare]
    have q0 := hS.2 0 _ rfl; have q1 := hS.2 1 _ rfl; have q2 := hS.2 2 _ rfl; have q3 := hS.2 3 _ rfl
    clear hd hE
    try clear hS
    go_wp2
    exact Ext.refl _
  case ha => rfl
  apply wpLoose_val rfl rfl
  case hs =>
    intro w1 hC hd Q1 hQ1
    obtain ⟨hE, hS⟩ := hC
    dsimp only [bare]
    have hEq := HQ.out
    obtain ⟨q0, q1, q2, q3⟩ := (⟨hS.2 0 _ rfl, hS.2 1 _ rfl, hS.2 2 _ rfl, hS.2 3 _ rfl⟩ : _ ∧ _ ∧ _ ∧ _)
    clear hd hE hS
    go_wp2
    exact Ext.refl _
  case ha => rfl
  apply wpLoose_val rfl rfl
  case hs =>
    intro w1 hC hd Q1 hQ1
    obtain ⟨hE, hS⟩ := hC
    dsimp only [bare]
    have q0 := hS.2 0 _ rfl; have q1 := hS.2 1 _ rfl; have q2 := hS.2 2 _ rfl; have q3 := hS.2 3 _ rfl
    clear hd hE
    try clear hS
    go_wp2
    exact Ext.refl _
  case ha => rfl
  apply wpLoose_val rfl rfl
  case hs =>
    intro w1 hC hd Q1 hQ1
    obtain ⟨hE, hS⟩ := hC
    dsimp only [bare]
    have q0 := hS.2 0 _ rfl; have q1 := hS.2 1 _ rfl; have q2 := hS.2 2 _ rfl; have q3 := hS.2 3 _ rfl
    clear hd hE
    try clear hS
    go_wp2
    exact Ext.refl _
  case ha => rfl
  refine wpLoose_nil ?_
  intro wa hEa hSa hFa
  have E2 : Hid (Ext w wa) := E1.out.drew.trans hEa
  clear hFa hSa hEa E1 c1
  go_wp2
  go_ret
  exact ⟨rfl, E2.out⟩
  case hAa => kernel_rfl
  case hla => exact ⟨trivial, trivial, trivial, trivial, trivial, trivial, trivial, trivial, trivial, trivial, trivial, trivial, trivial⟩

set_option maxRecDepth 100000 in
set_option maxHeartbeats 1600000 in
theorem okAsk4_no (k y n : Int) (w : World) (hf : ((inB k 0 4294967295 && inB y 0 15 && inB n 0 15)) = false) : Calls Try.prog 75 #[.agg #[.int .i64 4, .int .i64 k, .int .i64 y, .int .i64 n]] w fun e w' => e = .returned (.bool false) ∧ Ext w w' := by
  have HF : Hid (∀ w, Calls Try.prog 83 #[.iface 119 (.agg #[.int .i64 4, .int .i64 k, .int .i64 y, .int .i64 n])] w fun e w' => e = .returned (.bool false) ∧ Ext w w') := fun w => by have h := fitAsk_any 4 k y n w; rw [hf] at h; exact h
  clear hf
  go_enter Try.func75, Try.ntmps75
  go_wp2_with fail
  refine (wordAsk4_any k y n _).mono ?_
  rintro e w1 ⟨rfl, e1⟩
  have c1 : CellsAt w1 w.heap.size [.int .i64 4, .int .i64 k, .int .i64 y, .int .i64 n] := (CellsAt.new w [.int .i64 4, .int .i64 k, .int .i64 y, .int .i64 n] 35).step e1
  have E1 : Hid (Ext w w1) := (Ext.one _ _).trans e1
  clear e1
  go_wp2_with fail
  refine' wp_region_loose (.inl _ :: .inl _ :: .inl _ :: .inl _ :: .inl _ :: .inl _ :: .inl undef :: .inl undef :: .inl undef :: .inl undef :: .inl _ :: .inl _ :: []) (fun w' => CellsAt w' w.heap.size [.int .i64 4, .int .i64 k, .int .i64 y, .int .i64 n]) (by kernel_rfl) (by kernel_rfl) (c1.drew) (fun _ _ h hE => h.step hE) ?hAa ?hla ?hMa
  case' hMa => skip
  apply wpLoose_val rfl rfl
  case hs =>
    intro w1 hC hd Q1 hQ1
    obtain ⟨hE, hS⟩ := hC
    dsimp only [bare]
    have q0 := hS.2 0 _ rfl; have q1 := hS.2 1 _ rfl; have q2 := hS.2 2 _ rfl; have q3 := hS.2 3 _ rfl
    clear hd hE
    try clear hS
    go_wp2
    exact Ext.refl _
  case ha => rfl
  apply wpLoose_val rfl rfl
  case hs =>
    intro w1 hC hd Q1 hQ1
    obtain ⟨hE, hS⟩ := hC
    dsimp only [bare]
    have q0 := hS.2 0 _ rfl; have q1 := hS.2 1 _ rfl; have q2 := hS.2 2 _ rfl; have q3 := hS.2 3 _ rfl
    clear hd hE
    try clear hS
    go_wp2
    exact Ext.refl _
  case ha => rfl
  apply wpLoose_val rfl rfl
  case hs =>
    intro w1 hC hd Q1 hQ1
    obtain ⟨hE, hS⟩ := hC
    dsimp only [bare]
    have q0 := hS.2 0 _ rfl; have q1 := hS.2 1 _ rfl; have q2 := hS.2 2 _ rfl; have q3 := hS.2 3 _ rfl
    clear hd hE
    try clear hS
    go_wp2
    exact Ext.refl _
  case ha => rfl
  apply wpLoose_val rfl rfl
  case hs =>
    intro w1 hC hd Q1 hQ1
    obtain ⟨hE, hS⟩ := hC
    dsimp only [bare]
    clear hd
    go_wp2_with fail
    refine (HF.out _).mono ?_
    rintro e w2 ⟨rfl, hb⟩
    go_wp2_with fail
    exact hb
  case ha => rfl
  apply wpLoose_val rfl rfl
  case hs =>
    intro w1 hC hd Q1 hQ1
    obtain ⟨hE, hS⟩ := hC
    dsimp only [bare]
    have q0 := hS.2 0 _ rfl; have q1 := hS.2 1 _ rfl; have q2 := hS.2 2 _ rfl; have q3 := hS.2 3 _ rfl
    clear hd hE
    try clear hS
    go_wp2
    exact Ext.refl _
  case ha => rfl
  apply wpLoose_val rfl rfl
  case hs =>
    intro w1 hC hd Q1 hQ1
    obtain ⟨hE, hS⟩ := hC
    dsimp only [bare]
    have q0 := hS.2 0 _ rfl; have q1 := hS.2 1 _ rfl; have q2 := hS.2 2 _ rfl; have q3 := hS.2 3 _ rfl
    clear hd hE
    try clear hS
    go_wp2
    exact Ext.refl _
  case ha => rfl
  refine wpLoose_skip rfl rfl ?_
  try simp only [Act.put, List.setIfInBounds_toArray, List.set_cons_succ, List.set_cons_zero]
  refine wpLoose_skip rfl rfl ?_
  try simp only [Act.put, List.setIfInBounds_toArray, List.set_cons_succ, List.set_cons_zero]
  refine wpLoose_skip rfl rfl ?_
  try simp only [Act.put, List.setIfInBounds_toArray, List.set_cons_succ, List.set_cons_zero]
  refine wpLoose_skip rfl rfl ?_
  try simp only [Act.put, List.setIfInBounds_toArray, List.set_cons_succ, List.set_cons_zero]
  apply wpLoose_val rfl rfl
  case hs =>
    intro w1 hC hd Q1 hQ1
    obtain ⟨hE, hS⟩ := hC
    dsimp only [bare]
    have q0 := hS.2 0 _ rfl; have q1 := hS.2 1 _ rfl; have q2 := hS.2 2 _ rfl; have q3 := hS.2 3 _ rfl
    clear hd hE
    try clear hS
    go_wp2
    exact Ext.refl _
  case ha => rfl
  apply wpLoose_val rfl rfl
  case hs =>
    intro w1 hC hd Q1 hQ1
    obtain ⟨hE, hS⟩ := hC
    dsimp only [bare]
    have q0 := hS.2 0 _ rfl; have q1 := hS.2 1 _ rfl; have q2 := hS.2 2 _ rfl; have q3 := hS.2 3 _ rfl
    clear hd hE
    try clear hS
    go_wp2
    exact Ext.refl _
  case ha => rfl
  refine wpLoose_nil ?_
  intro wa hEa hSa hFa
  have E2 : Hid (Ext w wa) := E1.out.drew.trans hEa
  clear hFa hSa hEa E1 c1
  go_wp2
  go_ret
  exact ⟨rfl, E2.out⟩
  case hAa => kernel_rfl
  case hla => exact ⟨trivial, trivial, trivial, trivial, trivial, trivial, trivial, trivial, trivial, trivial, trivial, trivial, trivial⟩

set_option maxRecDepth 100000 in
set_option maxHeartbeats 1600000 in
theorem okAsk4_yes (k y n : Int) (d : Bool) (w : World) (hf : ((inB k 0 4294967295 && inB y 0 15 && inB n 0 15)) = true) (hdd : decide (((4 : Int), (k : Int), (y : Int), (n : Int)) = (4, k, y, n)) = d) : Calls Try.prog 75 #[.agg #[.int .i64 4, .int .i64 k, .int .i64 y, .int .i64 n]] w fun e w' => e = .returned (.bool d) ∧ Ext w w' := by
  have HQ : Hid (∀ w, (Op.equalIn 10000 35 (.agg #[.int .i64 4, .int .i64 k, .int .i64 y, .int .i64 n]) (.agg #[.int .i64 4, .int .i64 k, .int .i64 y, .int .i64 n])).run Try.prog w = .ok d w) := fun w => by rw [eq_ins, hdd]
  clear hdd
  have HF : Hid (∀ w, Calls Try.prog 83 #[.iface 119 (.agg #[.int .i64 4, .int .i64 k, .int .i64 y, .int .i64 n])] w fun e w' => e = .returned (.bool true) ∧ Ext w w') := fun w => by have h := fitAsk_any 4 k y n w; rw [hf] at h; exact h
  clear hf
  go_enter Try.func75, Try.ntmps75
  go_wp2_with fail
  refine (wordAsk4_any k y n _).mono ?_
  rintro e w1 ⟨rfl, e1⟩
  have c1 : CellsAt w1 w.heap.size [.int .i64 4, .int .i64 k, .int .i64 y, .int .i64 n] := (CellsAt.new w [.int .i64 4, .int .i64 k, .int .i64 y, .int .i64 n] 35).step e1
  have E1 : Hid (Ext w w1) := (Ext.one _ _).trans e1
  clear e1
  go_wp2_with fail
  refine' wp_region_loose (.inl _ :: .inl _ :: .inl _ :: .inl _ :: .inl _ :: .inl _ :: .inl _ :: .inl _ :: .inl _ :: .inl _ :: .inl _ :: .inl _ :: []) (fun w' => CellsAt w' w.heap.size [.int .i64 4, .int .i64 k, .int .i64 y, .int .i64 n]) (by kernel_rfl) (by kernel_rfl) (c1.drew) (fun _ _ h hE => h.step hE) ?hAa ?hla ?hMa
  case' hMa => skip
  apply wpLoose_val rfl rfl
  case hs =>
    intro w1 hC hd Q1 hQ1
    obtain ⟨hE, hS⟩ := hC
    dsimp only [bare]
    have q0 := hS.2 0 _ rfl; have q1 := hS.2 1 _ rfl; have q2 := hS.2 2 _ rfl; have q3 := hS.2 3 _ rfl
    clear hd hE
    try clear hS
    go_wp2
    exact Ext.refl _
  case ha => rfl
  apply wpLoose_val rfl rfl
  case hs =>
    intro w1 hC hd Q1 hQ1
    obtain ⟨hE, hS⟩ := hC
    dsimp only [bare]
    have q0 := hS.2 0 _ rfl; have q1 := hS.2 1 _ rfl; have q2 := hS.2 2 _ rfl; have q3 := hS.2 3 _ rfl
    clear hd hE
    try clear hS
    go_wp2
    exact Ext.refl _
  case ha => rfl
  apply wpLoose_val rfl rfl
  case hs =>
    intro w1 hC hd Q1 hQ1
    obtain ⟨hE, hS⟩ := hC
    dsimp only [bare]
    have q0 := hS.2 0 _ rfl; have q1 := hS.2 1 _ rfl; have q2 := hS.2 2 _ rfl; have q3 := hS.2 3 _ rfl
    clear hd hE
    try clear hS
    go_wp2
    exact Ext.refl _
  case ha => rfl
  apply wpLoose_val rfl rfl
  case hs =>
    intro w1 hC hd Q1 hQ1
    obtain ⟨hE, hS⟩ := hC
    dsimp only [bare]
    clear hd
    go_wp2_with fail
    refine (HF.out _).mono ?_
    rintro e w2 ⟨rfl, hb⟩
    go_wp2_with fail
    exact hb
  case ha => rfl
  apply wpLoose_val rfl rfl
  case hs =>
    intro w1 hC hd Q1 hQ1
    obtain ⟨hE, hS⟩ := hC
    dsimp only [bare]
    have q0 := hS.2 0 _ rfl; have q1 := hS.2 1 _ rfl; have q2 := hS.2 2 _ rfl; have q3 := hS.2 3 _ rfl
    clear hd hE
    try clear hS
    go_wp2
    exact Ext.refl _
  case ha => rfl
  apply wpLoose_val rfl rfl
  case hs =>
    intro w1 hC hd Q1 hQ1
    obtain ⟨hE, hS⟩ := hC
    dsimp only [bare]
    have q0 := hS.2 0 _ rfl; have q1 := hS.2 1 _ rfl; have q2 := hS.2 2 _ rfl; have q3 := hS.2 3 _ rfl
    clear hd hE
    try clear hS
    go_wp2
    exact Ext.refl _
  case ha => rfl
  apply wpLoose_val rfl rfl
  case hs =>
    intro w1 hC hd Q1 hQ1
    obtain ⟨hE, hS⟩ := hC
    dsimp only [bare]
    have q0 := hS.2 0 _ rfl; have q1 := hS.2 1 _ rfl; have q2 := hS.2 2 _ rfl; have q3 := hS.2 3 _ rfl
    clear hd hE
    try clear hS
    go_wp2
    exact Ext.refl _
  case ha => rfl
  apply wpLoose_val rfl rfl
  case hs =>
    intro w1 hC hd Q1 hQ1
    obtain ⟨hE, hS⟩ := hC
    dsimp only [bare]
    clear hd
    go_wp2_with fail
    refine (insAsk_any 4 k y n _).mono ?_
    rintro e w2 ⟨rfl, hb⟩
    go_wp2_with fail
    exact hb
  case ha => rfl
  apply wpLoose_val rfl rfl
  case hs =>
    intro w1 hC hd Q1 hQ1
    obtain ⟨hE, hS⟩ := hC
    dsimp only [bare]
    have q0 := hS.2 0 _ rfl; have q1 := hS.2 1 _ rfl; have q2 := hS.2 2 _ rfl; have q3 := hS.2 3 _ rfl
    clear hd hE
    try clear hS
    go_wp2
    exact Ext.refl _
  case ha => rfl
  apply wpLoose_val rfl rfl
  case hs =>
    intro w1 hC hd Q1 hQ1
    obtain ⟨hE, hS⟩ := hC
    dsimp only [bare]
    have hEq := HQ.out
    obtain ⟨q0, q1, q2, q3⟩ := (⟨hS.2 0 _ rfl, hS.2 1 _ rfl, hS.2 2 _ rfl, hS.2 3 _ rfl⟩ : _ ∧ _ ∧ _ ∧ _)
    clear hd hE hS
    go_wp2
    exact Ext.refl _
  case ha => rfl
  apply wpLoose_val rfl rfl
  case hs =>
    intro w1 hC hd Q1 hQ1
    obtain ⟨hE, hS⟩ := hC
    dsimp only [bare]
    have q0 := hS.2 0 _ rfl; have q1 := hS.2 1 _ rfl; have q2 := hS.2 2 _ rfl; have q3 := hS.2 3 _ rfl
    clear hd hE
    try clear hS
    go_wp2
    exact Ext.refl _
  case ha => rfl
  apply wpLoose_val rfl rfl
  case hs =>
    intro w1 hC hd Q1 hQ1
    obtain ⟨hE, hS⟩ := hC
    dsimp only [bare]
    have q0 := hS.2 0 _ rfl; have q1 := hS.2 1 _ rfl; have q2 := hS.2 2 _ rfl; have q3 := hS.2 3 _ rfl
    clear hd hE
    try clear hS
    go_wp2
    exact Ext.refl _
  case ha => rfl
  refine wpLoose_nil ?_
  intro wa hEa hSa hFa
  have E2 : Hid (Ext w wa) := E1.out.drew.trans hEa
  clear hFa hSa hEa E1 c1
  go_wp2
  go_ret
  exact ⟨rfl, E2.out⟩
  case hAa => kernel_rfl
  case hla => exact ⟨trivial, trivial, trivial, trivial, trivial, trivial, trivial, trivial, trivial, trivial, trivial, trivial, trivial⟩

set_option maxRecDepth 100000 in
set_option maxHeartbeats 1600000 in
theorem okAsk5_no (k y n : Int) (w : World) (hf : ((inB k 0 4294967295 && inB y 0 15 && inB n 0 15)) = false) : Calls Try.prog 75 #[.agg #[.int .i64 5, .int .i64 k, .int .i64 y, .int .i64 n]] w fun e w' => e = .returned (.bool false) ∧ Ext w w' := by
  have HF : Hid (∀ w, Calls Try.prog 83 #[.iface 119 (.agg #[.int .i64 5, .int .i64 k, .int .i64 y, .int .i64 n])] w fun e w' => e = .returned (.bool false) ∧ Ext w w') := fun w => by have h := fitAsk_any 5 k y n w; rw [hf] at h; exact h
  clear hf
  go_enter Try.func75, Try.ntmps75
  go_wp2_with fail
  refine (wordAsk5_any k y n _).mono ?_
  rintro e w1 ⟨rfl, e1⟩
  have c1 : CellsAt w1 w.heap.size [.int .i64 5, .int .i64 k, .int .i64 y, .int .i64 n] := (CellsAt.new w [.int .i64 5, .int .i64 k, .int .i64 y, .int .i64 n] 35).step e1
  have E1 : Hid (Ext w w1) := (Ext.one _ _).trans e1
  clear e1
  go_wp2_with fail
  refine' wp_region_loose (.inl _ :: .inl _ :: .inl _ :: .inl _ :: .inl _ :: .inl _ :: .inl undef :: .inl undef :: .inl undef :: .inl undef :: .inl _ :: .inl _ :: []) (fun w' => CellsAt w' w.heap.size [.int .i64 5, .int .i64 k, .int .i64 y, .int .i64 n]) (by kernel_rfl) (by kernel_rfl) (c1.drew) (fun _ _ h hE => h.step hE) ?hAa ?hla ?hMa
  case' hMa => skip
  apply wpLoose_val rfl rfl
  case hs =>
    intro w1 hC hd Q1 hQ1
    obtain ⟨hE, hS⟩ := hC
    dsimp only [bare]
    have q0 := hS.2 0 _ rfl; have q1 := hS.2 1 _ rfl; have q2 := hS.2 2 _ rfl; have q3 := hS.2 3 _ rfl
    clear hd hE
    try clear hS
    go_wp2
    exact Ext.refl _
  case ha => rfl
  apply wpLoose_val rfl rfl
  case hs =>
    intro w1 hC hd Q1 hQ1
    obtain ⟨hE, hS⟩ := hC
    dsimp only [bare]
    have q0 := hS.2 0 _ rfl; have q1 := hS.2 1 _ rfl; have q2 := hS.2 2 _ rfl; have q3 := hS.2 3 _ rfl
    clear hd hE
    try clear hS
    go_wp2
    exact Ext.refl _
  case ha => rfl
  apply wpLoose_val rfl rfl
  case hs =>
    intro w1 hC hd Q1 hQ1
    obtain ⟨hE, hS⟩ := hC
    dsimp only [bare]
    have q0 := hS.2 0 _ rfl; have q1 := hS.2 1 _ rfl; have q2 := hS.2 2 _ rfl; have q3 := hS.2 3 _ rfl
    clear hd hE
    try clear hS
    go_wp2
    exact Ext.refl _
  case ha => rfl
  apply wpLoose_val rfl rfl
  case hs =>
    intro w1 hC hd Q1 hQ1
    obtain ⟨hE, hS⟩ := hC
    dsimp only [bare]
    clear hd
    go_wp2_with fail
    refine (HF.out _).mono ?_
    rintro e w2 ⟨rfl, hb⟩
    go_wp2_with fail
    exact hb
  case ha => rfl
  apply wpLoose_val rfl rfl
  case hs =>
    intro w1 hC hd Q1 hQ1
    obtain ⟨hE, hS⟩ := hC
    dsimp only [bare]
    have q0 := hS.2 0 _ rfl; have q1 := hS.2 1 _ rfl; have q2 := hS.2 2 _ rfl; have q3 := hS.2 3 _ rfl
    clear hd hE
    try clear hS
    go_wp2
    exact Ext.refl _
  case ha => rfl
  apply wpLoose_val rfl rfl
  case hs =>
    intro w1 hC hd Q1 hQ1
    obtain ⟨hE, hS⟩ := hC
    dsimp only [bare]
    have q0 := hS.2 0 _ rfl; have q1 := hS.2 1 _ rfl; have q2 := hS.2 2 _ rfl; have q3 := hS.2 3 _ rfl
    clear hd hE
    try clear hS
    go_wp2
    exact Ext.refl _
  case ha => rfl
  refine wpLoose_skip rfl rfl ?_
  try simp only [Act.put, List.setIfInBounds_toArray, List.set_cons_succ, List.set_cons_zero]
  refine wpLoose_skip rfl rfl ?_
  try simp only [Act.put, List.setIfInBounds_toArray, List.set_cons_succ, List.set_cons_zero]
  refine wpLoose_skip rfl rfl ?_
  try simp only [Act.put, List.setIfInBounds_toArray, List.set_cons_succ, List.set_cons_zero]
  refine wpLoose_skip rfl rfl ?_
  try simp only [Act.put, List.setIfInBounds_toArray, List.set_cons_succ, List.set_cons_zero]
  apply wpLoose_val rfl rfl
  case hs =>
    intro w1 hC hd Q1 hQ1
    obtain ⟨hE, hS⟩ := hC
    dsimp only [bare]
    have q0 := hS.2 0 _ rfl; have q1 := hS.2 1 _ rfl; have q2 := hS.2 2 _ rfl; have q3 := hS.2 3 _ rfl
    clear hd hE
    try clear hS
    go_wp2
    exact Ext.refl _
  case ha => rfl
  apply wpLoose_val rfl rfl
  case hs =>
    intro w1 hC hd Q1 hQ1
    obtain ⟨hE, hS⟩ := hC
    dsimp only [bare]
    have q0 := hS.2 0 _ rfl; have q1 := hS.2 1 _ rfl; have q2 := hS.2 2 _ rfl; have q3 := hS.2 3 _ rfl
    clear hd hE
    try clear hS
    go_wp2
    exact Ext.refl _
  case ha => rfl
  refine wpLoose_nil ?_
  intro wa hEa hSa hFa
  have E2 : Hid (Ext w wa) := E1.out.drew.trans hEa
  clear hFa hSa hEa E1 c1
  go_wp2
  go_ret
  exact ⟨rfl, E2.out⟩
  case hAa => kernel_rfl
  case hla => exact ⟨trivial, trivial, trivial, trivial, trivial, trivial, trivial, trivial, trivial, trivial, trivial, trivial, trivial⟩

set_option maxRecDepth 100000 in
set_option maxHeartbeats 1600000 in
theorem okAsk5_yes (k y n : Int) (d : Bool) (w : World) (hf : ((inB k 0 4294967295 && inB y 0 15 && inB n 0 15)) = true) (hdd : decide (((5 : Int), (k : Int), (y : Int), (n : Int)) = (5, k, y, n)) = d) : Calls Try.prog 75 #[.agg #[.int .i64 5, .int .i64 k, .int .i64 y, .int .i64 n]] w fun e w' => e = .returned (.bool d) ∧ Ext w w' := by
  have HQ : Hid (∀ w, (Op.equalIn 10000 35 (.agg #[.int .i64 5, .int .i64 k, .int .i64 y, .int .i64 n]) (.agg #[.int .i64 5, .int .i64 k, .int .i64 y, .int .i64 n])).run Try.prog w = .ok d w) := fun w => by rw [eq_ins, hdd]
  clear hdd
  have HF : Hid (∀ w, Calls Try.prog 83 #[.iface 119 (.agg #[.int .i64 5, .int .i64 k, .int .i64 y, .int .i64 n])] w fun e w' => e = .returned (.bool true) ∧ Ext w w') := fun w => by have h := fitAsk_any 5 k y n w; rw [hf] at h; exact h
  clear hf
  go_enter Try.func75, Try.ntmps75
  go_wp2_with fail
  refine (wordAsk5_any k y n _).mono ?_
  rintro e w1 ⟨rfl, e1⟩
  have c1 : CellsAt w1 w.heap.size [.int .i64 5, .int .i64 k, .int .i64 y, .int .i64 n] := (CellsAt.new w [.int .i64 5, .int .i64 k, .int .i64 y, .int .i64 n] 35).step e1
  have E1 : Hid (Ext w w1) := (Ext.one _ _).trans e1
  clear e1
  go_wp2_with fail
  refine' wp_region_loose (.inl _ :: .inl _ :: .inl _ :: .inl _ :: .inl _ :: .inl _ :: .inl _ :: .inl _ :: .inl _ :: .inl _ :: .inl _ :: .inl _ :: []) (fun w' => CellsAt w' w.heap.size [.int .i64 5, .int .i64 k, .int .i64 y, .int .i64 n]) (by kernel_rfl) (by kernel_rfl) (c1.drew) (fun _ _ h hE => h.step hE) ?hAa ?hla ?hMa
  case' hMa => skip
  apply wpLoose_val rfl rfl
  case hs =>
    intro w1 hC hd Q1 hQ1
    obtain ⟨hE, hS⟩ := hC
    dsimp only [bare]
    have q0 := hS.2 0 _ rfl; have q1 := hS.2 1 _ rfl; have q2 := hS.2 2 _ rfl; have q3 := hS.2 3 _ rfl
    clear hd hE
    try clear hS
    go_wp2
    exact Ext.refl _
  case ha => rfl
  apply wpLoose_val rfl rfl
  case hs =>
    intro w1 hC hd Q1 hQ1
    obtain ⟨hE, hS⟩ := hC
    dsimp only [bare]
    have q0 := hS.2 0 _ rfl; have q1 := hS.2 1 _ rfl; have q2 := hS.2 2 _ rfl; have q3 := hS.2 3 _ rfl
    clear hd hE
    try clear hS
    go_wp2
    exact Ext.refl _
  case ha => rfl
  apply wpLoose_val rfl rfl
  case hs =>
    intro w1 hC hd Q1 hQ1
    obtain ⟨hE, hS⟩ := hC
    dsimp only [bare]
    have q0 := hS.2 0 _ rfl; have q1 := hS.2 1 _ rfl; have q2 := hS.2 2 _ rfl; have q3 := hS.2 3 _ rfl
    clear hd hE
    try clear hS
    go_wp2
    exact Ext.refl _
  case ha => rfl
  apply wpLoose_val rfl rfl
  case hs =>
    intro w1 hC hd Q1 hQ1
    obtain ⟨hE, hS⟩ := hC
    dsimp only [bare]
    clear hd
    go_wp2_with fail
    refine (HF.out _).mono ?_
    rintro e w2 ⟨rfl, hb⟩
    go_wp2_with fail
    exact hb
  case ha => rfl
  apply wpLoose_val rfl rfl
  case hs =>
    intro w1 hC hd Q1 hQ1
    obtain ⟨hE, hS⟩ := hC
    dsimp only [bare]
    have q0 := hS.2 0 _ rfl; have q1 := hS.2 1 _ rfl; have q2 := hS.2 2 _ rfl; have q3 := hS.2 3 _ rfl
    clear hd hE
    try clear hS
    go_wp2
    exact Ext.refl _
  case ha => rfl
  apply wpLoose_val rfl rfl
  case hs =>
    intro w1 hC hd Q1 hQ1
    obtain ⟨hE, hS⟩ := hC
    dsimp only [bare]
    have q0 := hS.2 0 _ rfl; have q1 := hS.2 1 _ rfl; have q2 := hS.2 2 _ rfl; have q3 := hS.2 3 _ rfl
    clear hd hE
    try clear hS
    go_wp2
    exact Ext.refl _
  case ha => rfl
  apply wpLoose_val rfl rfl
  case hs =>
    intro w1 hC hd Q1 hQ1
    obtain ⟨hE, hS⟩ := hC
    dsimp only [bare]
    have q0 := hS.2 0 _ rfl; have q1 := hS.2 1 _ rfl; have q2 := hS.2 2 _ rfl; have q3 := hS.2 3 _ rfl
    clear hd hE
    try clear hS
    go_wp2
    exact Ext.refl _
  case ha => rfl
  apply wpLoose_val rfl rfl
  case hs =>
    intro w1 hC hd Q1 hQ1
    obtain ⟨hE, hS⟩ := hC
    dsimp only [bare]
    clear hd
    go_wp2_with fail
    refine (insAsk_any 5 k y n _).mono ?_
    rintro e w2 ⟨rfl, hb⟩
    go_wp2_with fail
    exact hb
  case ha => rfl
  apply wpLoose_val rfl rfl
  case hs =>
    intro w1 hC hd Q1 hQ1
    obtain ⟨hE, hS⟩ := hC
    dsimp only [bare]
    have q0 := hS.2 0 _ rfl; have q1 := hS.2 1 _ rfl; have q2 := hS.2 2 _ rfl; have q3 := hS.2 3 _ rfl
    clear hd hE
    try clear hS
    go_wp2
    exact Ext.refl _
  case ha => rfl
  apply wpLoose_val rfl rfl
  case hs =>
    intro w1 hC hd Q1 hQ1
    obtain ⟨hE, hS⟩ := hC
    dsimp only [bare]
    have hEq := HQ.out
    obtain ⟨q0, q1, q2, q3⟩ := (⟨hS.2 0 _ rfl, hS.2 1 _ rfl, hS.2 2 _ rfl, hS.2 3 _ rfl⟩ : _ ∧ _ ∧ _ ∧ _)
    clear hd hE hS
    go_wp2
    exact Ext.refl _
  case ha => rfl
  apply wpLoose_val rfl rfl
  case hs =>
    intro w1 hC hd Q1 hQ1
    obtain ⟨hE, hS⟩ := hC
    dsimp only [bare]
    have q0 := hS.2 0 _ rfl; have q1 := hS.2 1 _ rfl; have q2 := hS.2 2 _ rfl; have q3 := hS.2 3 _ rfl
    clear hd hE
    try clear hS
    go_wp2
    exact Ext.refl _
  case ha => rfl
  apply wpLoose_val rfl rfl
  case hs =>
    intro w1 hC hd Q1 hQ1
    obtain ⟨hE, hS⟩ := hC
    dsimp only [bare]
    have q0 := hS.2 0 _ rfl; have q1 := hS.2 1 _ rfl; have q2 := hS.2 2 _ rfl; have q3 := hS.2 3 _ rfl
    clear hd hE
    try clear hS
    go_wp2
    exact Ext.refl _
  case ha => rfl
  refine wpLoose_nil ?_
  intro wa hEa hSa hFa
  have E2 : Hid (Ext w wa) := E1.out.drew.trans hEa
  clear hFa hSa hEa E1 c1
  go_wp2
  go_ret
  exact ⟨rfl, E2.out⟩
  case hAa => kernel_rfl
  case hla => exact ⟨trivial, trivial, trivial, trivial, trivial, trivial, trivial, trivial, trivial, trivial, trivial, trivial, trivial⟩

set_option maxRecDepth 100000 in
set_option maxHeartbeats 1600000 in
theorem okAsk6_no (k y n : Int) (w : World) (hf : ((inB k 0 4294967295 && inB y 0 15 && inB n 0 15)) = false) : Calls Try.prog 75 #[.agg #[.int .i64 6, .int .i64 k, .int .i64 y, .int .i64 n]] w fun e w' => e = .returned (.bool false) ∧ Ext w w' := by
  have HF : Hid (∀ w, Calls Try.prog 83 #[.iface 119 (.agg #[.int .i64 6, .int .i64 k, .int .i64 y, .int .i64 n])] w fun e w' => e = .returned (.bool false) ∧ Ext w w') := fun w => by have h := fitAsk_any 6 k y n w; rw [hf] at h; exact h
  clear hf
  go_enter Try.func75, Try.ntmps75
  go_wp2_with fail
  refine (wordAsk6_any k y n _).mono ?_
  rintro e w1 ⟨rfl, e1⟩
  have c1 : CellsAt w1 w.heap.size [.int .i64 6, .int .i64 k, .int .i64 y, .int .i64 n] := (CellsAt.new w [.int .i64 6, .int .i64 k, .int .i64 y, .int .i64 n] 35).step e1
  have E1 : Hid (Ext w w1) := (Ext.one _ _).trans e1
  clear e1
  go_wp2_with fail
  refine' wp_region_loose (.inl _ :: .inl _ :: .inl _ :: .inl _ :: .inl _ :: .inl _ :: .inl undef :: .inl undef :: .inl undef :: .inl undef :: .inl _ :: .inl _ :: []) (fun w' => CellsAt w' w.heap.size [.int .i64 6, .int .i64 k, .int .i64 y, .int .i64 n]) (by kernel_rfl) (by kernel_rfl) (c1.drew) (fun _ _ h hE => h.step hE) ?hAa ?hla ?hMa
  case' hMa => skip
  apply wpLoose_val rfl rfl
  case hs =>
    intro w1 hC hd Q1 hQ1
    obtain ⟨hE, hS⟩ := hC
    dsimp only [bare]
    have q0 := hS.2 0 _ rfl; have q1 := hS.2 1 _ rfl; have q2 := hS.2 2 _ rfl; have q3 := hS.2 3 _ rfl
    clear hd hE
    try clear hS
    go_wp2
    exact Ext.refl _
  case ha => rfl
  apply wpLoose_val rfl rfl
  case hs =>
    intro w1 hC hd Q1 hQ1
    obtain ⟨hE, hS⟩ := hC
    dsimp only [bare]
    have q0 := hS.2 0 _ rfl; have q1 := hS.2 1 _ rfl; have q2 := hS.2 2 _ rfl; have q3 := hS.2 3 _ rfl
    clear hd hE
    try clear hS
    go_wp2
    exact Ext.refl _
  case ha => rfl
  apply wpLoose_val rfl rfl
  case hs =>
    intro w1 hC hd Q1 hQ1
    obtain ⟨hE, hS⟩ := hC
    dsimp only [bare]
    have q0 := hS.2 0 _ rfl; have q1 := hS.2 1 _ rfl; have q2 := hS.2 2 _ rfl; have q3 := hS.2 3 _ rfl
    clear hd hE
    try clear hS
    go_wp2
    exact Ext.refl _
  case ha => rfl
  apply wpLoose_val rfl rfl
  case hs =>
    intro w1 hC hd Q1 hQ1
    obtain ⟨hE, hS⟩ := hC
    dsimp only [bare]
    clear hd
    go_wp2_with fail
    refine (HF.out _).mono ?_
    rintro e w2 ⟨rfl, hb⟩
    go_wp2_with fail
    exact hb
  case ha => rfl
  apply wpLoose_val rfl rfl
  case hs =>
    intro w1 hC hd Q1 hQ1
    obtain ⟨hE, hS⟩ := hC
    dsimp only [bare]
    have q0 := hS.2 0 _ rfl; have q1 := hS.2 1 _ rfl; have q2 := hS.2 2 _ rfl; have q3 := hS.2 3 _ rfl
    clear hd hE
    try clear hS
    go_wp2
    exact Ext.refl _
  case ha => rfl
  apply wpLoose_val rfl rfl
  case hs =>
    intro w1 hC hd Q1 hQ1
    obtain ⟨hE, hS⟩ := hC
    dsimp only [bare]
    have q0 := hS.2 0 _ rfl; have q1 := hS.2 1 _ rfl; have q2 := hS.2 2 _ rfl; have q3 := hS.2 3 _ rfl
    clear hd hE
    try clear hS
    go_wp2
    exact Ext.refl _
  case ha => rfl
  refine wpLoose_skip rfl rfl ?_
  try simp only [Act.put, List.setIfInBounds_toArray, List.set_cons_succ, List.set_cons_zero]
  refine wpLoose_skip rfl rfl ?_
  try simp only [Act.put, List.setIfInBounds_toArray, List.set_cons_succ, List.set_cons_zero]
  refine wpLoose_skip rfl rfl ?_
  try simp only [Act.put, List.setIfInBounds_toArray, List.set_cons_succ, List.set_cons_zero]
  refine wpLoose_skip rfl rfl ?_
  try simp only [Act.put, List.setIfInBounds_toArray, List.set_cons_succ, List.set_cons_zero]
  apply wpLoose_val rfl rfl
  case hs =>
    intro w1 hC hd Q1 hQ1
    obtain ⟨hE, hS⟩ := hC
    dsimp only [bare]
    have q0 := hS.2 0 _ rfl; have q1 := hS.2 1 _ rfl; have q2 := hS.2 2 _ rfl; have q3 := hS.2 3 _ rfl
    clear hd hE
    try clear hS
    go_wp2
    exact Ext.refl _
  case ha => rfl
  apply wpLoose_val rfl rfl
  case hs =>
    intro w1 hC hd Q1 hQ1
    obtain ⟨hE, hS⟩ := hC
    dsimp only [bare]
    have q0 := hS.2 0 _ rfl; have q1 := hS.2 1 _ rfl; have q2 := hS.2 2 _ rfl; have q3 := hS.2 3 _ rfl
    clear hd hE
    try clear hS
    go_wp2
    exact Ext.refl _
  case ha => rfl
  refine wpLoose_nil ?_
  intro wa hEa hSa hFa
  have E2 : Hid (Ext w wa) := E1.out.drew.trans hEa
  clear hFa hSa hEa E1 c1
  go_wp2
  go_ret
  exact ⟨rfl, E2.out⟩
  case hAa => kernel_rfl
  case hla => exact ⟨trivial, trivial, trivial, trivial, trivial, trivial, trivial, trivial, trivial, trivial, trivial, trivial, trivial⟩

set_option maxRecDepth 100000 in
set_option maxHeartbeats 1600000 in
theorem okAsk6_yes (k y n : Int) (d : Bool) (w : World) (hf : ((inB k 0 4294967295 && inB y 0 15 && inB n 0 15)) = true) (hdd : decide (((6 : Int), (k : Int), (y : Int), (n : Int)) = (6, k, y, n)) = d) : Calls Try.prog 75 #[.agg #[.int .i64 6, .int .i64 k, .int .i64 y, .int .i64 n]] w fun e w' => e = .returned (.bool d) ∧ Ext w w' := by
  have HQ : Hid (∀ w, (Op.equalIn 10000 35 (.agg #[.int .i64 6, .int .i64 k, .int .i64 y, .int .i64 n]) (.agg #[.int .i64 6, .int .i64 k, .int .i64 y, .int .i64 n])).run Try.prog w = .ok d w) := fun w => by rw [eq_ins, hdd]
  clear hdd
  have HF : Hid (∀ w, Calls Try.prog 83 #[.iface 119 (.agg #[.int .i64 6, .int .i64 k, .int .i64 y, .int .i64 n])] w fun e w' => e = .returned (.bool true) ∧ Ext w w') := fun w => by have h := fitAsk_any 6 k y n w; rw [hf] at h; exact h
  clear hf
  go_enter Try.func75, Try.ntmps75
  go_wp2_with fail
  refine (wordAsk6_any k y n _).mono ?_
  rintro e w1 ⟨rfl, e1⟩
  have c1 : CellsAt w1 w.heap.size [.int .i64 6, .int .i64 k, .int .i64 y, .int .i64 n] := (CellsAt.new w [.int .i64 6, .int .i64 k, .int .i64 y, .int .i64 n] 35).step e1
  have E1 : Hid (Ext w w1) := (Ext.one _ _).trans e1
  clear e1
  go_wp2_with fail
  refine' wp_region_loose (.inl _ :: .inl _ :: .inl _ :: .inl _ :: .inl _ :: .inl _ :: .inl _ :: .inl _ :: .inl _ :: .inl _ :: .inl _ :: .inl _ :: []) (fun w' => CellsAt w' w.heap.size [.int .i64 6, .int .i64 k, .int .i64 y, .int .i64 n]) (by kernel_rfl) (by kernel_rfl) (c1.drew) (fun _ _ h hE => h.step hE) ?hAa ?hla ?hMa
  case' hMa => skip
  apply wpLoose_val rfl rfl
  case hs =>
    intro w1 hC hd Q1 hQ1
    obtain ⟨hE, hS⟩ := hC
    dsimp only [bare]
    have q0 := hS.2 0 _ rfl; have q1 := hS.2 1 _ rfl; have q2 := hS.2 2 _ rfl; have q3 := hS.2 3 _ rfl
    clear hd hE
    try clear hS
    go_wp2
    exact Ext.refl _
  case ha => rfl
  apply wpLoose_val rfl rfl
  case hs =>
    intro w1 hC hd Q1 hQ1
    obtain ⟨hE, hS⟩ := hC
    dsimp only [bare]
    have q0 := hS.2 0 _ rfl; have q1 := hS.2 1 _ rfl; have q2 := hS.2 2 _ rfl; have q3 := hS.2 3 _ rfl
    clear hd hE
    try clear hS
    go_wp2
    exact Ext.refl _
  case ha => rfl
  apply wpLoose_val rfl rfl
  case hs =>
    intro w1 hC hd Q1 hQ1
    obtain ⟨hE, hS⟩ := hC
    dsimp only [bare]
    have q0 := hS.2 0 _ rfl; have q1 := hS.2 1 _ rfl; have q2 := hS.2 2 _ rfl; have q3 := hS.2 3 _ rfl
    clear hd hE
    try clear hS
    go_wp2
    exact Ext.refl _
  case ha => rfl
  apply wpLoose_val rfl rfl
  case hs =>
    intro w1 hC hd Q1 hQ1
    obtain ⟨hE, hS⟩ := hC
    dsimp only [bare]
    clear hd
    go_wp2_with fail
    refine (HF.out _).mono ?_
    rintro e w2 ⟨rfl, hb⟩
    go_wp2_with fail
    exact hb
  case ha => rfl
  apply wpLoose_val rfl rfl
  case hs =>
    intro w1 hC hd Q1 hQ1
    obtain ⟨hE, hS⟩ := hC
    dsimp only [bare]
    have q0 := hS.2 0 _ rfl; have q1 := hS.2 1 _ rfl; have q2 := hS.2 2 _ rfl; have q3 := hS.2 3 _ rfl
    clear hd hE
    try clear hS
    go_wp2
    exact Ext.refl _
  case ha => rfl
  apply wpLoose_val rfl rfl
  case hs =>
    intro w1 hC hd Q1 hQ1
    obtain ⟨hE, hS⟩ := hC
    dsimp only [bare]
    have q0 := hS.2 0 _ rfl; have q1 := hS.2 1 _ rfl; have q2 := hS.2 2 _ rfl; have q3 := hS.2 3 _ rfl
    clear hd hE
    try clear hS
    go_wp2
    exact Ext.refl _
  case ha => rfl
  apply wpLoose_val rfl rfl
  case hs =>
    intro w1 hC hd Q1 hQ1
    obtain ⟨hE, hS⟩ := hC
    dsimp only [bare]
    have q0 := hS.2 0 _ rfl; have q1 := hS.2 1 _ rfl; have q2 := hS.2 2 _ rfl; have q3 := hS.2 3 _ rfl
    clear hd hE
    try clear hS
    go_wp2
    exact Ext.refl _
  case ha => rfl
  apply wpLoose_val rfl rfl
  case hs =>
    intro w1 hC hd Q1 hQ1
    obtain ⟨hE, hS⟩ := hC
    dsimp only [bare]
    clear hd
    go_wp2_with fail
    refine (insAsk_any 6 k y n _).mono ?_
    rintro e w2 ⟨rfl, hb⟩
    go_wp2_with fail
    exact hb
  case ha => rfl
  apply wpLoose_val rfl rfl
  case hs =>
    intro w1 hC hd Q1 hQ1
    obtain ⟨hE, hS⟩ := hC
    dsimp only [bare]
    have q0 := hS.2 0 _ rfl; have q1 := hS.2 1 _ rfl; have q2 := hS.2 2 _ rfl; have q3 := hS.2 3 _ rfl
    clear hd hE
    try clear hS
    go_wp2
    exact Ext.refl _
  case ha => rfl
  apply wpLoose_val rfl rfl
  case hs =>
    intro w1 hC hd Q1 hQ1
    obtain ⟨hE, hS⟩ := hC
    dsimp only [bare]
    have hEq := HQ.out
    obtain ⟨q0, q1, q2, q3⟩ := (⟨hS.2 0 _ rfl, hS.2 1 _ rfl, hS.2 2 _ rfl, hS.2 3 _ rfl⟩ : _ ∧ _ ∧ _ ∧ _)
    clear hd hE hS
    go_wp2
    exact Ext.refl _
  case ha => rfl
  apply wpLoose_val rfl rfl
  case hs =>
    intro w1 hC hd Q1 hQ1
    obtain ⟨hE, hS⟩ := hC
    dsimp only [bare]
    have q0 := hS.2 0 _ rfl; have q1 := hS.2 1 _ rfl; have q2 := hS.2 2 _ rfl; have q3 := hS.2 3 _ rfl
    clear hd hE
    try clear hS
    go_wp2
    exact Ext.refl _
  case ha => rfl
  apply wpLoose_val rfl rfl
  case hs =>
    intro w1 hC hd Q1 hQ1
    obtain ⟨hE, hS⟩ := hC
    dsimp only [bare]
    have q0 := hS.2 0 _ rfl; have q1 := hS.2 1 _ rfl; have q2 := hS.2 2 _ rfl; have q3 := hS.2 3 _ rfl
    clear hd hE
    try clear hS
    go_wp2
    exact Ext.refl _
  case ha => rfl
  refine wpLoose_nil ?_
  intro wa hEa hSa hFa
  have E2 : Hid (Ext w wa) := E1.out.drew.trans hEa
  clear hFa hSa hEa E1 c1
  go_wp2
  go_ret
  exact ⟨rfl, E2.out⟩
  case hAa => kernel_rfl
  case hla => exact ⟨trivial, trivial, trivial, trivial, trivial, trivial, trivial, trivial, trivial, trivial, trivial, trivial, trivial⟩

set_option maxRecDepth 100000 in
set_option maxHeartbeats 1600000 in
theorem okJump7_no (k y n : Int) (w : World) (hf : (inB k 0 399) = false) : Calls Try.prog 75 #[.agg #[.int .i64 7, .int .i64 k, .int .i64 y, .int .i64 n]] w fun e w' => e = .returned (.bool false) ∧ Ext w w' := by
  have HF : Hid (∀ w, Calls Try.prog 83 #[.iface 121 (.agg #[.int .i64 k])] w fun e w' => e = .returned (.bool false) ∧ Ext w w') := fun w => by have h := fitJump_any k w; rw [hf] at h; exact h
  clear hf
  go_enter Try.func75, Try.ntmps75
  go_wp2_with fail
  refine (wordJump_any k y n _).mono ?_
  rintro e w1 ⟨rfl, e1⟩
  have c1 : CellsAt w1 w.heap.size [.int .i64 7, .int .i64 k, .int .i64 y, .int .i64 n] := (CellsAt.new w [.int .i64 7, .int .i64 k, .int .i64 y, .int .i64 n] 35).step e1
  have E1 : Hid (Ext w w1) := (Ext.one _ _).trans e1
  clear e1
  go_wp2_with fail
  refine' wp_region_loose (.inl _ :: .inl _ :: .inl _ :: .inl _ :: .inl _ :: .inl _ :: .inl undef :: .inl undef :: .inl undef :: .inl undef :: .inl _ :: .inl _ :: []) (fun w' => CellsAt w' w.heap.size [.int .i64 7, .int .i64 k, .int .i64 y, .int .i64 n]) (by kernel_rfl) (by kernel_rfl) (c1.drew) (fun _ _ h hE => h.step hE) ?hAa ?hla ?hMa
  case' hMa => skip
  apply wpLoose_val rfl rfl
  case hs =>
    intro w1 hC hd Q1 hQ1
    obtain ⟨hE, hS⟩ := hC
    dsimp only [bare]
    have q0 := hS.2 0 _ rfl; have q1 := hS.2 1 _ rfl; have q2 := hS.2 2 _ rfl; have q3 := hS.2 3 _ rfl
    clear hd hE
    try clear hS
    go_wp2
    exact Ext.refl _
  case ha => rfl
  apply wpLoose_val rfl rfl
  case hs =>
    intro w1 hC hd Q1 hQ1
    obtain ⟨hE, hS⟩ := hC
    dsimp only [bare]
    have q0 := hS.2 0 _ rfl; have q1 := hS.2 1 _ rfl; have q2 := hS.2 2 _ rfl; have q3 := hS.2 3 _ rfl
    clear hd hE
    try clear hS
    go_wp2
    exact Ext.refl _
  case ha => rfl
  apply wpLoose_val rfl rfl
  case hs =>
    intro w1 hC hd Q1 hQ1
    obtain ⟨hE, hS⟩ := hC
    dsimp only [bare]
    have q0 := hS.2 0 _ rfl; have q1 := hS.2 1 _ rfl; have q2 := hS.2 2 _ rfl; have q3 := hS.2 3 _ rfl
    clear hd hE
    try clear hS
    go_wp2
    exact Ext.refl _
  case ha => rfl
  apply wpLoose_val rfl rfl
  case hs =>
    intro w1 hC hd Q1 hQ1
    obtain ⟨hE, hS⟩ := hC
    dsimp only [bare]
    clear hd
    go_wp2_with fail
    refine (HF.out _).mono ?_
    rintro e w2 ⟨rfl, hb⟩
    go_wp2_with fail
    exact hb
  case ha => rfl
  apply wpLoose_val rfl rfl
  case hs =>
    intro w1 hC hd Q1 hQ1
    obtain ⟨hE, hS⟩ := hC
    dsimp only [bare]
    have q0 := hS.2 0 _ rfl; have q1 := hS.2 1 _ rfl; have q2 := hS.2 2 _ rfl; have q3 := hS.2 3 _ rfl
    clear hd hE
    try clear hS
    go_wp2
    exact Ext.refl _
  case ha => rfl
  apply wpLoose_val rfl rfl
  case hs =>
    intro w1 hC hd Q1 hQ1
    obtain ⟨hE, hS⟩ := hC
    dsimp only [bare]
    have q0 := hS.2 0 _ rfl; have q1 := hS.2 1 _ rfl; have q2 := hS.2 2 _ rfl; have q3 := hS.2 3 _ rfl
    clear hd hE
    try clear hS
    go_wp2
    exact Ext.refl _
  case ha => rfl
  refine wpLoose_skip rfl rfl ?_
  try simp only [Act.put, List.setIfInBounds_toArray, List.set_cons_succ, List.set_cons_zero]
  refine wpLoose_skip rfl rfl ?_
  try simp only [Act.put, List.setIfInBounds_toArray, List.set_cons_succ, List.set_cons_zero]
  refine wpLoose_skip rfl rfl ?_
  try simp only [Act.put, List.setIfInBounds_toArray, List.set_cons_succ, List.set_cons_zero]
  refine wpLoose_skip rfl rfl ?_
  try simp only [Act.put, List.setIfInBounds_toArray, List.set_cons_succ, List.set_cons_zero]
  apply wpLoose_val rfl rfl
  case hs =>
    intro w1 hC hd Q1 hQ1
    obtain ⟨hE, hS⟩ := hC
    dsimp only [bare]
    have q0 := hS.2 0 _ rfl; have q1 := hS.2 1 _ rfl; have q2 := hS.2 2 _ rfl; have q3 := hS.2 3 _ rfl
    clear hd hE
    try clear hS
    go_wp2
    exact Ext.refl _
  case ha => rfl
  apply wpLoose_val rfl rfl
  case hs =>
    intro w1 hC hd Q1 hQ1
    obtain ⟨hE, hS⟩ := hC
    dsimp only [bare]
    have q0 := hS.2 0 _ rfl; have q1 := hS.2 1 _ rfl; have q2 := hS.2 2 _ rfl; have q3 := hS.2 3 _ rfl
    clear hd hE
    try clear hS
    go_wp2
    exact Ext.refl _
  case ha => rfl
  refine wpLoose_nil ?_
  intro wa hEa hSa hFa
  have E2 : Hid (Ext w wa) := E1.out.drew.trans hEa
  clear hFa hSa hEa E1 c1
  go_wp2
  go_ret
  exact ⟨rfl, E2.out⟩
  case hAa => kernel_rfl
  case hla => exact ⟨trivial, trivial, trivial, trivial, trivial, trivial, trivial, trivial, trivial, trivial, trivial, trivial, trivial⟩

set_option maxRecDepth 100000 in
set_option maxHeartbeats 1600000 in
theorem okJump7_yes (k y n : Int) (d : Bool) (w : World) (hf : (inB k 0 399) = true) (hdd : decide (((7 : Int), (k : Int), (0 : Int), (0 : Int)) = (7, k, y, n)) = d) : Calls Try.prog 75 #[.agg #[.int .i64 7, .int .i64 k, .int .i64 y, .int .i64 n]] w fun e w' => e = .returned (.bool d) ∧ Ext w w' := by
  have HQ : Hid (∀ w, (Op.equalIn 10000 35 (.agg #[.int .i64 7, .int .i64 k, .int .i64 0, .int .i64 0]) (.agg #[.int .i64 7, .int .i64 k, .int .i64 y, .int .i64 n])).run Try.prog w = .ok d w) := fun w => by rw [eq_ins, hdd]
  clear hdd
  have HF : Hid (∀ w, Calls Try.prog 83 #[.iface 121 (.agg #[.int .i64 k])] w fun e w' => e = .returned (.bool true) ∧ Ext w w') := fun w => by have h := fitJump_any k w; rw [hf] at h; exact h
  clear hf
  go_enter Try.func75, Try.ntmps75
  go_wp2_with fail
  refine (wordJump_any k y n _).mono ?_
  rintro e w1 ⟨rfl, e1⟩
  have c1 : CellsAt w1 w.heap.size [.int .i64 7, .int .i64 k, .int .i64 y, .int .i64 n] := (CellsAt.new w [.int .i64 7, .int .i64 k, .int .i64 y, .int .i64 n] 35).step e1
  have E1 : Hid (Ext w w1) := (Ext.one _ _).trans e1
  clear e1
  go_wp2_with fail
  refine' wp_region_loose (.inl _ :: .inl _ :: .inl _ :: .inl _ :: .inl _ :: .inl _ :: .inl _ :: .inl _ :: .inl _ :: .inl _ :: .inl _ :: .inl _ :: []) (fun w' => CellsAt w' w.heap.size [.int .i64 7, .int .i64 k, .int .i64 y, .int .i64 n]) (by kernel_rfl) (by kernel_rfl) (c1.drew) (fun _ _ h hE => h.step hE) ?hAa ?hla ?hMa
  case' hMa => skip
  apply wpLoose_val rfl rfl
  case hs =>
    intro w1 hC hd Q1 hQ1
    obtain ⟨hE, hS⟩ := hC
    dsimp only [bare]
    have q0 := hS.2 0 _ rfl; have q1 := hS.2 1 _ rfl; have q2 := hS.2 2 _ rfl; have q3 := hS.2 3 _ rfl
    clear hd hE
    try clear hS
    go_wp2
    exact Ext.refl _
  case ha => rfl
  apply wpLoose_val rfl rfl
  case hs =>
    intro w1 hC hd Q1 hQ1
    obtain ⟨hE, hS⟩ := hC
    dsimp only [bare]
    have q0 := hS.2 0 _ rfl; have q1 := hS.2 1 _ rfl; have q2 := hS.2 2 _ rfl; have q3 := hS.2 3 _ rfl
    clear hd hE
    try clear hS
    go_wp2
    exact Ext.refl _
  case ha => rfl
  apply wpLoose_val rfl rfl
  case hs =>
    intro w1 hC hd Q1 hQ1
    obtain ⟨hE, hS⟩ := hC
    dsimp only [bare]
    have q0 := hS.2 0 _ rfl; have q1 := hS.2 1 _ rfl; have q2 := hS.2 2 _ rfl; have q3 := hS.2 3 _ rfl
    clear hd hE
    try clear hS
    go_wp2
    exact Ext.refl _
  case ha => rfl
  apply wpLoose_val rfl rfl
  case hs =>
    intro w1 hC hd Q1 hQ1
    obtain ⟨hE, hS⟩ := hC
    dsimp only [bare]
    clear hd
    go_wp2_with fail
    refine (HF.out _).mono ?_
    rintro e w2 ⟨rfl, hb⟩
    go_wp2_with fail
    exact hb
  case ha => rfl
  apply wpLoose_val rfl rfl
  case hs =>
    intro w1 hC hd Q1 hQ1
    obtain ⟨hE, hS⟩ := hC
    dsimp only [bare]
    have q0 := hS.2 0 _ rfl; have q1 := hS.2 1 _ rfl; have q2 := hS.2 2 _ rfl; have q3 := hS.2 3 _ rfl
    clear hd hE
    try clear hS
    go_wp2
    exact Ext.refl _
  case ha => rfl
  apply wpLoose_val rfl rfl
  case hs =>
    intro w1 hC hd Q1 hQ1
    obtain ⟨hE, hS⟩ := hC
    dsimp only [bare]
    have q0 := hS.2 0 _ rfl; have q1 := hS.2 1 _ rfl; have q2 := hS.2 2 _ rfl; have q3 := hS.2 3 _ rfl
    clear hd hE
    try clear hS
    go_wp2
    exact Ext.refl _
  case ha => rfl
  apply wpLoose_val rfl rfl
  case hs =>
    intro w1 hC hd Q1 hQ1
    obtain ⟨hE, hS⟩ := hC
    dsimp only [bare]
    have q0 := hS.2 0 _ rfl; have q1 := hS.2 1 _ rfl; have q2 := hS.2 2 _ rfl; have q3 := hS.2 3 _ rfl
    clear hd hE
    try clear hS
    go_wp2
    exact Ext.refl _
  case ha => rfl
  apply wpLoose_val rfl rfl
  case hs =>
    intro w1 hC hd Q1 hQ1
    obtain ⟨hE, hS⟩ := hC
    dsimp only [bare]
    clear hd
    go_wp2_with fail
    refine (insJump_any k _).mono ?_
    rintro e w2 ⟨rfl, hb⟩
    go_wp2_with fail
    exact hb
  case ha => rfl
  apply wpLoose_val rfl rfl
  case hs =>
    intro w1 hC hd Q1 hQ1
    obtain ⟨hE, hS⟩ := hC
    dsimp only [bare]
    have q0 := hS.2 0 _ rfl; have q1 := hS.2 1 _ rfl; have q2 := hS.2 2 _ rfl; have q3 := hS.2 3 _ rfl
    clear hd hE
    try clear hS
    go_wp2
    exact Ext.refl _
  case ha => rfl
  apply wpLoose_val rfl rfl
  case hs =>
    intro w1 hC hd Q1 hQ1
    obtain ⟨hE, hS⟩ := hC
    dsimp only [bare]
    have hEq := HQ.out
    obtain ⟨q0, q1, q2, q3⟩ := (⟨hS.2 0 _ rfl, hS.2 1 _ rfl, hS.2 2 _ rfl, hS.2 3 _ rfl⟩ : _ ∧ _ ∧ _ ∧ _)
    clear hd hE hS
    go_wp2
    exact Ext.refl _
  case ha => rfl
  apply wpLoose_val rfl rfl
  case hs =>
    intro w1 hC hd Q1 hQ1
    obtain ⟨hE, hS⟩ := hC
    dsimp only [bare]
    have q0 := hS.2 0 _ rfl; have q1 := hS.2 1 _ rfl; have q2 := hS.2 2 _ rfl; have q3 := hS.2 3 _ rfl
    clear hd hE
    try clear hS
    go_wp2
    exact Ext.refl _
  case ha => rfl
  apply wpLoose_val rfl rfl
  case hs =>
    intro w1 hC hd Q1 hQ1
    obtain ⟨hE, hS⟩ := hC
    dsimp only [bare]
    have q0 := hS.2 0 _ rfl; have q1 := hS.2 1 _ rfl; have q2 := hS.2 2 _ rfl; have q3 := hS.2 3 _ rfl
    clear hd hE
    try clear hS
    go_wp2
    exact Ext.refl _
  case ha => rfl
  refine wpLoose_nil ?_
  intro wa hEa hSa hFa
  have E2 : Hid (Ext w wa) := E1.out.drew.trans hEa
  clear hFa hSa hEa E1 c1
  go_wp2
  go_ret
  exact ⟨rfl, E2.out⟩
  case hAa => kernel_rfl
  case hla => exact ⟨trivial, trivial, trivial, trivial, trivial, trivial, trivial, trivial, trivial, trivial, trivial, trivial, trivial⟩

set_option maxRecDepth 100000 in
set_option maxHeartbeats 1600000 in
theorem okRet8_no (k y n : Int) (w : World) (hf : (inB k 0 4294967295) = false) : Calls Try.prog 75 #[.agg #[.int .i64 8, .int .i64 k, .int .i64 y, .int .i64 n]] w fun e w' => e = .returned (.bool false) ∧ Ext w w' := by
  have HF : Hid (∀ w, Calls Try.prog 83 #[.iface 123 (.agg #[.int .i64 k])] w fun e w' => e = .returned (.bool false) ∧ Ext w w') := fun w => by have h := fitRet_any k w; rw [hf] at h; exact h
  clear hf
  go_enter Try.func75, Try.ntmps75
  go_wp2_with fail
  refine (wordRet_any k y n _).mono ?_
  rintro e w1 ⟨rfl, e1⟩
  have c1 : CellsAt w1 w.heap.size [.int .i64 8, .int .i64 k, .int .i64 y, .int .i64 n] := (CellsAt.new w [.int .i64 8, .int .i64 k, .int .i64 y, .int .i64 n] 35).step e1
  have E1 : Hid (Ext w w1) := (Ext.one _ _).trans e1
  clear e1
  go_wp2_with fail
  refine' wp_region_loose (.inl _ :: .inl _ :: .inl _ :: .inl _ :: .inl _ :: .inl _ :: .inl undef :: .inl undef :: .inl undef :: .inl undef :: .inl _ :: .inl _ :: []) (fun w' => CellsAt w' w.heap.size [.int .i64 8, .int .i64 k, .int .i64 y, .int .i64 n]) (by kernel_rfl) (by kernel_rfl) (c1.drew) (fun _ _ h hE => h.step hE) ?hAa ?hla ?hMa
  case' hMa => skip
  apply wpLoose_val rfl rfl
  case hs =>
    intro w1 hC hd Q1 hQ1
    obtain ⟨hE, hS⟩ := hC
    dsimp only [bare]
    have q0 := hS.2 0 _ rfl; have q1 := hS.2 1 _ rfl; have q2 := hS.2 2 _ rfl; have q3 := hS.2 3 _ rfl
    clear hd hE
    try clear hS
    go_wp2
    exact Ext.refl _
  case ha => rfl
  apply wpLoose_val rfl rfl
  case hs =>
    intro w1 hC hd Q1 hQ1
    obtain ⟨hE, hS⟩ := hC
    dsimp only [bare]
    have q0 := hS.2 0 _ rfl; have q1 := hS.2 1 _ rfl; have q2 := hS.2 2 _ rfl; have q3 := hS.2 3 _ rfl
    clear hd hE
    try clear hS
    go_wp2
    exact Ext.refl _
  case ha => rfl
  apply wpLoose_val rfl rfl
  case hs =>
    intro w1 hC hd Q1 hQ1
    obtain ⟨hE, hS⟩ := hC
    dsimp only [bare]
    have q0 := hS.2 0 _ rfl; have q1 := hS.2 1 _ rfl; have q2 := hS.2 2 _ rfl; have q3 := hS.2 3 _ rfl
    clear hd hE
    try clear hS
    go_wp2
    exact Ext.refl _
  case ha => rfl
  apply wpLoose_val rfl rfl
  case hs =>
    intro w1 hC hd Q1 hQ1
    obtain ⟨hE, hS⟩ := hC
    dsimp only [bare]
    clear hd
    go_wp2_with fail
    refine (HF.out _).mono ?_
    rintro e w2 ⟨rfl, hb⟩
    go_wp2_with fail
    exact hb
  case ha => rfl
  apply wpLoose_val rfl rfl
  case hs =>
    intro w1 hC hd Q1 hQ1
    obtain ⟨hE, hS⟩ := hC
    dsimp only [bare]
    have q0 := hS.2 0 _ rfl; have q1 := hS.2 1 _ rfl; have q2 := hS.2 2 _ rfl; have q3 := hS.2 3 _ rfl
    clear hd hE
    try clear hS
    go_wp2
    exact Ext.refl _
  case ha => rfl
  apply wpLoose_val rfl rfl
  case hs =>
    intro w1 hC hd Q1 hQ1
    obtain ⟨hE, hS⟩ := hC
    dsimp only [bare]
    have q0 := hS.2 0 _ rfl; have q1 := hS.2 1 _ rfl; have q2 := hS.2 2 _ rfl; have q3 := hS.2 3 _ rfl
    clear hd hE
    try clear hS
    go_wp2
    exact Ext.refl _
  case ha => rfl
  refine wpLoose_skip rfl rfl ?_
  try simp only [Act.put, List.setIfInBounds_toArray, List.set_cons_succ, List.set_cons_zero]
  refine wpLoose_skip rfl rfl ?_
  try simp only [Act.put, List.setIfInBounds_toArray, List.set_cons_succ, List.set_cons_zero]
  refine wpLoose_skip rfl rfl ?_
  try simp only [Act.put, List.setIfInBounds_toArray, List.set_cons_succ, List.set_cons_zero]
  refine wpLoose_skip rfl rfl ?_
  try simp only [Act.put, List.setIfInBounds_toArray, List.set_cons_succ, List.set_cons_zero]
  apply wpLoose_val rfl rfl
  case hs =>
    intro w1 hC hd Q1 hQ1
    obtain ⟨hE, hS⟩ := hC
    dsimp only [bare]
    have q0 := hS.2 0 _ rfl; have q1 := hS.2 1 _ rfl; have q2 := hS.2 2 _ rfl; have q3 := hS.2 3 _ rfl
    clear hd hE
    try clear hS
    go_wp2
    exact Ext.refl _
  case ha => rfl
  apply wpLoose_val rfl rfl
  case hs =>
    intro w1 hC hd Q1 hQ1
    obtain ⟨hE, hS⟩ := hC
    dsimp only [bare]
    have q0 := hS.2 0 _ rfl; have q1 := hS.2 1 _ rfl; have q2 := hS.2 2 _ rfl; have q3 := hS.2 3 _ rfl
    clear hd hE
    try clear hS
    go_wp2
    exact Ext.refl _
  case ha => rfl
  refine wpLoose_nil ?_
  intro wa hEa hSa hFa
  have E2 : Hid (Ext w wa) := E1.out.drew.trans hEa
  clear hFa hSa hEa E1 c1
  go_wp2
  go_ret
  exact ⟨rfl, E2.out⟩
  case hAa => kernel_rfl
  case hla => exact ⟨trivial, trivial, trivial, trivial, trivial, trivial, trivial, trivial, trivial, trivial, trivial, trivial, trivial⟩

set_option maxRecDepth 100000 in
set_option maxHeartbeats 1600000 in
theorem okRet8_yes (k y n : Int) (d : Bool) (w : World) (hf : (inB k 0 4294967295) = true) (hdd : decide (((8 : Int), (k : Int), (0 : Int), (0 : Int)) = (8, k, y, n)) = d) : Calls Try.prog 75 #[.agg #[.int .i64 8, .int .i64 k, .int .i64 y, .int .i64 n]] w fun e w' => e = .returned (.bool d) ∧ Ext w w' := by
  have HQ : Hid (∀ w, (Op.equalIn 10000 35 (.agg #[.int .i64 8, .int .i64 k, .int .i64 0, .int .i64 0]) (.agg #[.int .i64 8, .int .i64 k, .int .i64 y, .int .i64 n])).run Try.prog w = .ok d w) := fun w => by rw [eq_ins, hdd]
  clear hdd
  have HF : Hid (∀ w, Calls Try.prog 83 #[.iface 123 (.agg #[.int .i64 k])] w fun e w' => e = .returned (.bool true) ∧ Ext w w') := fun w => by have h := fitRet_any k w; rw [hf] at h; exact h
  clear hf
  go_enter Try.func75, Try.ntmps75
  go_wp2_with fail
  refine (wordRet_any k y n _).mono ?_
  rintro e w1 ⟨rfl, e1⟩
  have c1 : CellsAt w1 w.heap.size [.int .i64 8, .int .i64 k, .int .i64 y, .int .i64 n] := (CellsAt.new w [.int .i64 8, .int .i64 k, .int .i64 y, .int .i64 n] 35).step e1
  have E1 : Hid (Ext w w1) := (Ext.one _ _).trans e1
  clear e1
  go_wp2_with fail
  refine' wp_region_loose (.inl _ :: .inl _ :: .inl _ :: .inl _ :: .inl _ :: .inl _ :: .inl _ :: .inl _ :: .inl _ :: .inl _ :: .inl _ :: .inl _ :: []) (fun w' => CellsAt w' w.heap.size [.int .i64 8, .int .i64 k, .int .i64 y, .int .i64 n]) (by kernel_rfl) (by kernel_rfl) (c1.drew) (fun _ _ h hE => h.step hE) ?hAa ?hla ?hMa
  case' hMa => skip
  apply wpLoose_val rfl rfl
  case hs =>
    intro w1 hC hd Q1 hQ1
    obtain ⟨hE, hS⟩ := hC
    dsimp only [bare]
    have q0 := hS.2 0 _ rfl; have q1 := hS.2 1 _ rfl; have q2 := hS.2 2 _ rfl; have q3 := hS.2 3 _ rfl
    clear hd hE
    try clear hS
    go_wp2
    exact Ext.refl _
  case ha => rfl
  apply wpLoose_val rfl rfl
  case hs =>
    intro w1 hC hd Q1 hQ1
    obtain ⟨hE, hS⟩ := hC
    dsimp only [bare]
    have q0 := hS.2 0 _ rfl; have q1 := hS.2 1 _ rfl; have q2 := hS.2 2 _ rfl; have q3 := hS.2 3 _ rfl
    clear hd hE
    try clear hS
    go_wp2
    exact Ext.refl _
  case ha => rfl
  apply wpLoose_val rfl rfl
  case hs =>
    intro w1 hC hd Q1 hQ1
    obtain ⟨hE, hS⟩ := hC
    dsimp only [bare]
    have q0 := hS.2 0 _ rfl; have q1 := hS.2 1 _ rfl; have q2 := hS.2 2 _ rfl; have q3 := hS.2 3 _ rfl
    clear hd hE
    try clear hS
    go_wp2
    exact Ext.refl _
  case ha => rfl
  apply wpLoose_val rfl rfl
  case hs =>
    intro w1 hC hd Q1 hQ1
    obtain ⟨hE, hS⟩ := hC
    dsimp only [bare]
    clear hd
    go_wp2_with fail
    refine (HF.out _).mono ?_
    rintro e w2 ⟨rfl, hb⟩
    go_wp2_with fail
    exact hb
  case ha => rfl
  apply wpLoose_val rfl rfl
  case hs =>
    intro w1 hC hd Q1 hQ1
    obtain ⟨hE, hS⟩ := hC
    dsimp only [bare]
    have q0 := hS.2 0 _ rfl; have q1 := hS.2 1 _ rfl; have q2 := hS.2 2 _ rfl; have q3 := hS.2 3 _ rfl
    clear hd hE
    try clear hS
    go_wp2
    exact Ext.refl _
  case ha => rfl
  apply wpLoose_val rfl rfl
  case hs =>
    intro w1 hC hd Q1 hQ1
    obtain ⟨hE, hS⟩ := hC
    dsimp only [bare]
    have q0 := hS.2 0 _ rfl; have q1 := hS.2 1 _ rfl; have q2 := hS.2 2 _ rfl; have q3 := hS.2 3 _ rfl
    clear hd hE
    try clear hS
    go_wp2
    exact Ext.refl _
  case ha => rfl
  apply wpLoose_val rfl rfl
  case hs =>
    intro w1 hC hd Q1 hQ1
    obtain ⟨hE, hS⟩ := hC
    dsimp only [bare]
    have q0 := hS.2 0 _ rfl; have q1 := hS.2 1 _ rfl; have q2 := hS.2 2 _ rfl; have q3 := hS.2 3 _ rfl
    clear hd hE
    try clear hS
    go_wp2
    exact Ext.refl _
  case ha => rfl
  apply wpLoose_val rfl rfl
  case hs =>
    intro w1 hC hd Q1 hQ1
    obtain ⟨hE, hS⟩ := hC
    dsimp only [bare]
    clear hd
    go_wp2_with fail
    refine (insRet_any k _).mono ?_
    rintro e w2 ⟨rfl, hb⟩
    go_wp2_with fail
    exact hb
  case ha => rfl
  apply wpLoose_val rfl rfl
  case hs =>
    intro w1 hC hd Q1 hQ1
    obtain ⟨hE, hS⟩ := hC
    dsimp only [bare]
    have q0 := hS.2 0 _ rfl; have q1 := hS.2 1 _ rfl; have q2 := hS.2 2 _ rfl; have q3 := hS.2 3 _ rfl
    clear hd hE
    try clear hS
    go_wp2
    exact Ext.refl _
  case ha => rfl
  apply wpLoose_val rfl rfl
  case hs =>
    intro w1 hC hd Q1 hQ1
    obtain ⟨hE, hS⟩ := hC
    dsimp only [bare]
    have hEq := HQ.out
    obtain ⟨q0, q1, q2, q3⟩ := (⟨hS.2 0 _ rfl, hS.2 1 _ rfl, hS.2 2 _ rfl, hS.2 3 _ rfl⟩ : _ ∧ _ ∧ _ ∧ _)
    clear hd hE hS
    go_wp2
    exact Ext.refl _
  case ha => rfl
  apply wpLoose_val rfl rfl
  case hs =>
    intro w1 hC hd Q1 hQ1
    obtain ⟨hE, hS⟩ := hC
    dsimp only [bare]
    have q0 := hS.2 0 _ rfl; have q1 := hS.2 1 _ rfl; have q2 := hS.2 2 _ rfl; have q3 := hS.2 3 _ rfl
    clear hd hE
    try clear hS
    go_wp2
    exact Ext.refl _
  case ha => rfl
  apply wpLoose_val rfl rfl
  case hs =>
    intro w1 hC hd Q1 hQ1
    obtain ⟨hE, hS⟩ := hC
    dsimp only [bare]
    have q0 := hS.2 0 _ rfl; have q1 := hS.2 1 _ rfl; have q2 := hS.2 2 _ rfl; have q3 := hS.2 3 _ rfl
    clear hd hE
    try clear hS
    go_wp2
    exact Ext.refl _
  case ha => rfl
  refine wpLoose_nil ?_
  intro wa hEa hSa hFa
  have E2 : Hid (Ext w wa) := E1.out.drew.trans hEa
  clear hFa hSa hEa E1 c1
  go_wp2
  go_ret
  exact ⟨rfl, E2.out⟩
  case hAa => kernel_rfl
  case hla => exact ⟨trivial, trivial, trivial, trivial, trivial, trivial, trivial, trivial, trivial, trivial, trivial, trivial, trivial⟩

end Go.Proofs.Ytakcmiijnckaaaa
