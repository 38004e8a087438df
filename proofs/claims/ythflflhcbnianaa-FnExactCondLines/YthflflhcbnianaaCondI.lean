/- What impl's sameLines and moreLines answer: lines of a condition, in a row of their own. (Written by mkcond.py.) -/
import Derived.Test.YthflflhcbnianaaAppL
namespace Go.Proofs.Ythflflhcbnianaa
open Go.RowKit
set_option linter.unusedVariables false

set_option maxRecDepth 100000 in
set_option maxHeartbeats 4000000 in
theorem same_any (ag mh ml cm vh vl : Int) (base yes no : ByteArray) (b : Nat) (w : World) (h0 : 0 ≤ ag) (h1 : ag ≤ 2) (hs : base.size ≤ 1000000000) (hb : b < w.heap.size) (hc : w.cell? ⟨b, 0, none⟩ = some (.string base)) :
    Calls Try.prog 24 #[.agg #[.int .i64 ag, .int .i64 mh, .int .i64 ml, .int .i64 cm, .int .i64 vh, .int .i64 vl], .func (.func 23) #[] #[.pointer (some ⟨b, 0, none⟩)], .string yes, .string no] w fun e w' => ∃ v, e = .returned v ∧ OwnL w' w.heap.size v (sameC ⟨ag, mh, ml, cm, vh, vl⟩ (labA2 base) yes no) ∧ Ext w w' := by
  obtain ⟨aa, haa⟩ : ∃ aa, aa = labA2 base := ⟨_, rfl⟩
  have HO : Hid (∀ W, Ext w W → Calls Try.prog 23 #[.string ⟨#[97]⟩, .pointer (some ⟨b, 0, none⟩)] W fun e w' => e = .returned (.string aa) ∧ W = w') := fun W hE => by
    rw [haa]; exact ownF_any base ⟨#[97]⟩ b W (by show base.size + 1 ≤ _; omega) ((hE.cell (p := ⟨b, 0, none⟩) hb).trans hc)
  rw [← haa]
  clear haa hc
  go_enter Try.func24, Try.ntmps24
  go_wp2_with fail
  refine (halves_any ag mh ml cm vh vl _ h0 h1).mono ?_
  rintro e w1 ⟨rfl, x1⟩
  have X1 : Hid (Ext w w1) := (Ext.one w _).trans x1
  clear x1
  go_wp2_with fail
  obtain ⟨W1, hW1⟩ : ∃ W, W = (w1.alloc (.cells #[.int .i64 (3 + 2 * ag), .int .i64 mh, .int .i64 vh] 56)).alloc (.cells #[.int .i64 (2 + 2 * ag), .int .i64 ml, .int .i64 vl] 56) := ⟨_, rfl⟩
  have HX : Hid (Ext w W1) := by rw [hW1]; exact (X1.out.alloc _).alloc _
  have p1 : CellsAt W1 w1.heap.size [.int .i64 (3 + 2 * ag), .int .i64 mh, .int .i64 vh] := by rw [hW1]; exact (CellsAt.new w1 [.int .i64 (3 + 2 * ag), .int .i64 mh, .int .i64 vh] 56).step (Ext.one _ _)
  have p2 : CellsAt W1 (w1.heap.size + 1) [.int .i64 (2 + 2 * ag), .int .i64 ml, .int .i64 vl] := by rw [hW1]; exact CellsAt.new' _ [.int .i64 (2 + 2 * ag), .int .i64 ml, .int .i64 vl] 56 _ (by simp)
  rw [← hW1]
  clear hW1
  go_at_call 23
  refine (HO.out _ HX.out).mono ?_
  rintro e w2 ⟨rfl, rfl⟩
  clear HO
  go_wp2_with fail
  refine' wp_region_loose_tail 9 (.inl _ :: .inr (fun v w' => ∃ g, v = .slice (some ⟨g, 0, none⟩) 2 2 ∧ OwnL w' W1.heap.size v (loadL (3 + 2 * ag) mh)) :: .inl _ :: .inl _ :: .inl _ :: .inl _ :: .inl _ :: .inl _ :: .inr (fun v w' => ∃ g, v = .slice (some ⟨g, 0, none⟩) 2 2 ∧ CellsAt w' g (flatL [askL 3 vh aa no, placeL aa])) :: []) (fun w' => CellsAt w' w1.heap.size [.int .i64 (3 + 2 * ag), .int .i64 mh, .int .i64 vh] ∧ CellsAt w' (w1.heap.size + 1) [.int .i64 (2 + 2 * ag), .int .i64 ml, .int .i64 vl]) (by kernel_rfl) (by kernel_rfl) (⟨p1.drew, p2.drew⟩) (fun _ _ h hE => ⟨h.1.step hE, h.2.step hE⟩) ?hAa ?hla ?hMa
  case' hMa => skip
  simp only [List.take_succ_cons, List.take_zero, List.drop_succ_cons, List.drop_zero]
  apply wpLoose_val rfl rfl
  case hs =>
    intro w1 hC hd Q1 hQ1
    obtain ⟨hE, hS⟩ := hC
    dsimp only [bare]
    obtain ⟨q0, q1, q2⟩ := (⟨hS.1.2 0 _ rfl, hS.1.2 1 _ rfl, hS.1.2 2 _ rfl⟩ : _ ∧ _ ∧ _)
    clear hd hE
    try clear hS
    go_wp2
    exact Ext.refl _
  case ha => rfl
  refine wpLoose_rel rfl rfl ?_ (fun va_1 => ?_)
  · intro w1 hC hd Q1 hQ1
    obtain ⟨hE, hS⟩ := hC
    dsimp only [bare]
    clear hd hS
    go_wp2_with fail
    refine (loadH_any (3 + 2 * ag) mh vh _).mono ?_
    rintro e w2 ⟨g, rfl, r2, x2⟩
    go_wp2_with fail
    exact hQ1 _ _ x2 ⟨g, rfl, r2.mono hE.size⟩
  apply wpLoose_val rfl rfl
  case hs =>
    intro w1 hC hd Q1 hQ1
    obtain ⟨hE, hS⟩ := hC
    dsimp only [bare]
    obtain ⟨q0, q1, q2⟩ := (⟨hS.1.2 0 _ rfl, hS.1.2 1 _ rfl, hS.1.2 2 _ rfl⟩ : _ ∧ _ ∧ _)
    clear hd hE
    try clear hS
    go_wp2
    exact Ext.refl _
  case ha => rfl
  apply wpLoose_val rfl rfl
  case hs =>
    intro w1 hC hd Q1 hQ1
    obtain ⟨hE, hS⟩ := hC
    dsimp only [bare]
    obtain ⟨q0, q1, q2⟩ := (⟨hS.1.2 0 _ rfl, hS.1.2 1 _ rfl, hS.1.2 2 _ rfl⟩ : _ ∧ _ ∧ _)
    clear hd hE
    try clear hS
    go_wp2
    exact Ext.refl _
  case ha => rfl
  apply wpLoose_val rfl rfl
  case hs =>
    intro w1 hC hd Q1 hQ1
    obtain ⟨hE, hS⟩ := hC
    dsimp only [bare]
    obtain ⟨q0, q1, q2⟩ := (⟨hS.1.2 0 _ rfl, hS.1.2 1 _ rfl, hS.1.2 2 _ rfl⟩ : _ ∧ _ ∧ _)
    clear hd hE
    try clear hS
    go_wp2
    exact Ext.refl _
  case ha => rfl
  apply wpLoose_val rfl rfl
  case hs =>
    intro w1 hC hd Q1 hQ1
    obtain ⟨hE, hS⟩ := hC
    dsimp only [bare]
    clear hd
    go_wp2_with fail
    refine (askH_any (3 + 2 * ag) mh vh 3 aa no _).mono ?_
    rintro e w2 ⟨rfl, hb⟩
    go_wp2_with fail
    exact hb
  case ha => rfl
  apply wpLoose_val rfl rfl
  case hs =>
    intro w1 hC hd Q1 hQ1
    obtain ⟨hE, hS⟩ := hC
    dsimp only [bare]
    obtain ⟨q0, q1, q2⟩ := (⟨hS.1.2 0 _ rfl, hS.1.2 1 _ rfl, hS.1.2 2 _ rfl⟩ : _ ∧ _ ∧ _)
    clear hd hE
    try clear hS
    go_wp2
    exact Ext.refl _
  case ha => rfl
  apply wpLoose_val rfl rfl
  case hs =>
    intro w1 hC hd Q1 hQ1
    obtain ⟨hE, hS⟩ := hC
    dsimp only [bare]
    obtain ⟨q0, q1, q2⟩ := (⟨hS.1.2 0 _ rfl, hS.1.2 1 _ rfl, hS.1.2 2 _ rfl⟩ : _ ∧ _ ∧ _)
    clear hd hE
    try clear hS
    go_wp2
    exact Ext.refl _
  case ha => rfl
  refine wpLoose_rel rfl rfl ?_ (fun va_8 => ?_)
  · intro w1 hC hd Q1 hQ1
    obtain ⟨hE, hS⟩ := hC
    dsimp only [bare]
    clear hd hS hE
    go_wp2
    exact hQ1 _ _ ((Below.refl _ _).alloc (Nat.le_refl _) _) ⟨_, rfl, CellsAt.new _ (flatL [askL 3 vh aa no, placeL aa]) _⟩
  refine wpLoose_nil ?_
  intro wa hEa hSa hFa
  obtain ⟨g1, rfl, r1⟩ := hFa 1 _ rfl (by decide) (by simp [Act.put])
  obtain ⟨g2, rfl, r2⟩ := hFa 8 _ rfl (by decide) (by simp [Act.put])
  simp only [Act.put]
  have HX2 : Hid (Ext W1 wa) := (Ext.refl W1).drew.trans hEa
  have HQ : Hid (CellsAt wa (w1.heap.size + 1) [.int .i64 (2 + 2 * ag), .int .i64 ml, .int .i64 vl]) := hSa.2
  have HP : Hid (w1.heap.size + 1 < W1.heap.size) := p2.1
  clear hFa hSa hEa p1 p2
  refine append_lines _ rfl _ _ rfl (w0 := W1) _ (loadL (3 + 2 * ag) mh) [askL 3 vh aa no, placeL aa] rfl r1 HX2.out g2 2 2 rfl rfl r2.2 (by simp [loadL]) ?_
  intro v3 w3 own3 x3
  have HQ3 := HQ.out.of HX2.out x3 HP.out
  obtain ⟨q0, q1, q2⟩ := (⟨HQ3.2 0 _ rfl, HQ3.2 1 _ rfl, HQ3.2 2 _ rfl⟩ : _ ∧ _ ∧ _)
  clear r1 r2 HQ HX2
  go_wp2_with fail
  refine (loadH_any (2 + 2 * ag) ml vl _).mono ?_
  rintro e w4 ⟨g4, rfl, r4, x4⟩
  have own4 := own3.ext x4
  have x14 := x3.trans x4
  have HQ4 := HQ3.step x4
  clear own3 x3 x4 q0 q1 q2 HQ3
  go_wp2_with (at_builtin; refine append_lines _ rfl _ _ rfl (w0 := W1) _ _ (loadL (2 + 2 * ag) ml) rfl own4 x14 g4 2 2 rfl rfl r4.cell (by simp [loadL]) ?_)
  intro v5 w5 own5 x5
  have HQ5 := HQ4.of x14 x5 HP.out
  obtain ⟨q0, q1, q2⟩ := (⟨HQ5.2 0 _ rfl, HQ5.2 1 _ rfl, HQ5.2 2 _ rfl⟩ : _ ∧ _ ∧ _)
  clear own4 x14 HQ4 r4
  go_wp2_with fail
  refine (askH_any (2 + 2 * ag) ml vl 3 yes no _).mono ?_
  rintro e w6 ⟨rfl, x6⟩
  have own6 := own5.ext x6
  have x16 := x5.trans x6
  clear own5 x5 x6 q0 q1 q2 HQ5
  go_wp2_with (at_builtin; refine append_lines _ rfl _ _ rfl (w0 := W1) _ _ [askL 3 vl yes no] rfl (own6.ext (Ext.one _ _)) (x16.alloc _) w6.heap.size 1 1 rfl rfl (CellsAt.new w6 (flatL [askL 3 vl yes no]) 43).2 (by simp [loadL]) ?_)
  intro v7 w7 own7 x7
  clear own6 x16
  have O7 : Hid (OwnL w7 w.heap.size v7 (sameC ⟨ag, mh, ml, cm, vh, vl⟩ aa yes no)) := own7.mono HX.out.size
  have X7 : Hid (Ext w w7) := HX.out.trans x7
  clear own7 x7
  go_wp2
  go_ret
  exact ⟨_, rfl, O7.out, X7.out⟩
  case hAa => kernel_rfl
  case hla => exact ⟨trivial, fun _ _ _ ⟨g, hv, h⟩ hE => ⟨g, hv, h.ext hE⟩, trivial, trivial, trivial, trivial, trivial, trivial, fun _ _ _ ⟨g, hv, h⟩ hE => ⟨g, hv, h.step hE⟩, trivial⟩

set_option maxRecDepth 100000 in
set_option maxHeartbeats 4000000 in
theorem more_any (ag mh ml cm vh vl o : Int) (base yes no : ByteArray) (b : Nat) (w : World) (h0 : 0 ≤ ag) (h1 : ag ≤ 2) (hs : base.size ≤ 1000000000) (hb : b < w.heap.size) (hc : w.cell? ⟨b, 0, none⟩ = some (.string base)) :
    Calls Try.prog 25 #[.agg #[.int .i64 ag, .int .i64 mh, .int .i64 ml, .int .i64 cm, .int .i64 vh, .int .i64 vl], .int .i64 o, .func (.func 23) #[] #[.pointer (some ⟨b, 0, none⟩)], .string yes, .string no] w fun e w' => ∃ v, e = .returned v ∧ OwnL w' w.heap.size v (moreC ⟨ag, mh, ml, cm, vh, vl⟩ o (labA2 base) (labB2 base) yes no) ∧ Ext w w' := by
  obtain ⟨aa, haa⟩ : ∃ aa, aa = labA2 base := ⟨_, rfl⟩
  obtain ⟨bb, hbb⟩ : ∃ aa, aa = labB2 base := ⟨_, rfl⟩
  have HO : Hid (∀ W, Ext w W → Calls Try.prog 23 #[.string ⟨#[97]⟩, .pointer (some ⟨b, 0, none⟩)] W fun e w' => e = .returned (.string aa) ∧ W = w') := fun W hE => by
    rw [haa]; exact ownF_any base ⟨#[97]⟩ b W (by show base.size + 1 ≤ _; omega) ((hE.cell (p := ⟨b, 0, none⟩) hb).trans hc)
  have HO2 : Hid (∀ W, Ext w W → Calls Try.prog 23 #[.string ⟨#[98]⟩, .pointer (some ⟨b, 0, none⟩)] W fun e w' => e = .returned (.string bb) ∧ W = w') := fun W hE => by
    rw [hbb]; exact ownF_any base ⟨#[98]⟩ b W (by show base.size + 1 ≤ _; omega) ((hE.cell (p := ⟨b, 0, none⟩) hb).trans hc)
  rw [← haa, ← hbb]
  clear haa hbb hc
  go_enter Try.func25, Try.ntmps25
  go_wp2_with fail
  refine (halves_any ag mh ml cm vh vl _ h0 h1).mono ?_
  rintro e w1 ⟨rfl, x1⟩
  have X1 : Hid (Ext w w1) := (Ext.one w _).trans x1
  clear x1
  go_wp2_with fail
  obtain ⟨W1, hW1⟩ : ∃ W, W = (w1.alloc (.cells #[.int .i64 (3 + 2 * ag), .int .i64 mh, .int .i64 vh] 56)).alloc (.cells #[.int .i64 (2 + 2 * ag), .int .i64 ml, .int .i64 vl] 56) := ⟨_, rfl⟩
  have HX : Hid (Ext w W1) := by rw [hW1]; exact (X1.out.alloc _).alloc _
  have p1 : CellsAt W1 w1.heap.size [.int .i64 (3 + 2 * ag), .int .i64 mh, .int .i64 vh] := by rw [hW1]; exact (CellsAt.new w1 [.int .i64 (3 + 2 * ag), .int .i64 mh, .int .i64 vh] 56).step (Ext.one _ _)
  have p2 : CellsAt W1 (w1.heap.size + 1) [.int .i64 (2 + 2 * ag), .int .i64 ml, .int .i64 vl] := by rw [hW1]; exact CellsAt.new' _ [.int .i64 (2 + 2 * ag), .int .i64 ml, .int .i64 vl] 56 _ (by simp)
  rw [← hW1]
  clear hW1
  go_at_call 23
  refine (HO.out _ HX.out).mono ?_
  rintro e w2 ⟨rfl, rfl⟩
  clear HO
  go_wp2_with fail
  go_at_call 23
  refine (HO2.out _ HX.out).mono ?_
  rintro e w2 ⟨rfl, rfl⟩
  clear HO2
  go_wp2_with fail
  refine' wp_region_loose_tail 15 (.inl _ :: .inr (fun v w' => ∃ g, v = .slice (some ⟨g, 0, none⟩) 2 2 ∧ OwnL w' W1.heap.size v (loadL (3 + 2 * ag) mh)) :: .inl _ :: .inl _ :: .inl _ :: .inl _ :: .inl _ :: .inl _ :: .inl _ :: .inl _ :: .inl _ :: .inl _ :: .inl _ :: .inl _ :: .inr (fun v w' => ∃ g, v = .slice (some ⟨g, 0, none⟩) 4 4 ∧ CellsAt w' g (flatL [askL 4 vh yes aa, placeL aa, askL 3 vh bb no, placeL bb])) :: []) (fun w' => CellsAt w' w1.heap.size [.int .i64 (3 + 2 * ag), .int .i64 mh, .int .i64 vh] ∧ CellsAt w' (w1.heap.size + 1) [.int .i64 (2 + 2 * ag), .int .i64 ml, .int .i64 vl]) (by kernel_rfl) (by kernel_rfl) (⟨p1.drew, p2.drew⟩) (fun _ _ h hE => ⟨h.1.step hE, h.2.step hE⟩) ?hAa ?hla ?hMa
  case' hMa => skip
  simp only [List.take_succ_cons, List.take_zero, List.drop_succ_cons, List.drop_zero]
  apply wpLoose_val rfl rfl
  case hs =>
    intro w1 hC hd Q1 hQ1
    obtain ⟨hE, hS⟩ := hC
    dsimp only [bare]
    obtain ⟨q0, q1, q2⟩ := (⟨hS.1.2 0 _ rfl, hS.1.2 1 _ rfl, hS.1.2 2 _ rfl⟩ : _ ∧ _ ∧ _)
    clear hd hE
    try clear hS
    go_wp2
    exact Ext.refl _
  case ha => rfl
  refine wpLoose_rel rfl rfl ?_ (fun va_1 => ?_)
  · intro w1 hC hd Q1 hQ1
    obtain ⟨hE, hS⟩ := hC
    dsimp only [bare]
    clear hd hS
    go_wp2_with fail
    refine (loadH_any (3 + 2 * ag) mh vh _).mono ?_
    rintro e w2 ⟨g, rfl, r2, x2⟩
    go_wp2_with fail
    exact hQ1 _ _ x2 ⟨g, rfl, r2.mono hE.size⟩
  apply wpLoose_val rfl rfl
  case hs =>
    intro w1 hC hd Q1 hQ1
    obtain ⟨hE, hS⟩ := hC
    dsimp only [bare]
    obtain ⟨q0, q1, q2⟩ := (⟨hS.1.2 0 _ rfl, hS.1.2 1 _ rfl, hS.1.2 2 _ rfl⟩ : _ ∧ _ ∧ _)
    clear hd hE
    try clear hS
    go_wp2
    exact Ext.refl _
  case ha => rfl
  apply wpLoose_val rfl rfl
  case hs =>
    intro w1 hC hd Q1 hQ1
    obtain ⟨hE, hS⟩ := hC
    dsimp only [bare]
    obtain ⟨q0, q1, q2⟩ := (⟨hS.1.2 0 _ rfl, hS.1.2 1 _ rfl, hS.1.2 2 _ rfl⟩ : _ ∧ _ ∧ _)
    clear hd hE
    try clear hS
    go_wp2
    exact Ext.refl _
  case ha => rfl
  apply wpLoose_val rfl rfl
  case hs =>
    intro w1 hC hd Q1 hQ1
    obtain ⟨hE, hS⟩ := hC
    dsimp only [bare]
    obtain ⟨q0, q1, q2⟩ := (⟨hS.1.2 0 _ rfl, hS.1.2 1 _ rfl, hS.1.2 2 _ rfl⟩ : _ ∧ _ ∧ _)
    clear hd hE
    try clear hS
    go_wp2
    exact Ext.refl _
  case ha => rfl
  apply wpLoose_val rfl rfl
  case hs =>
    intro w1 hC hd Q1 hQ1
    obtain ⟨hE, hS⟩ := hC
    dsimp only [bare]
    clear hd
    go_wp2_with fail
    refine (askH_any (3 + 2 * ag) mh vh 4 yes aa _).mono ?_
    rintro e w2 ⟨rfl, hb⟩
    go_wp2_with fail
    exact hb
  case ha => rfl
  apply wpLoose_val rfl rfl
  case hs =>
    intro w1 hC hd Q1 hQ1
    obtain ⟨hE, hS⟩ := hC
    dsimp only [bare]
    obtain ⟨q0, q1, q2⟩ := (⟨hS.1.2 0 _ rfl, hS.1.2 1 _ rfl, hS.1.2 2 _ rfl⟩ : _ ∧ _ ∧ _)
    clear hd hE
    try clear hS
    go_wp2
    exact Ext.refl _
  case ha => rfl
  apply wpLoose_val rfl rfl
  case hs =>
    intro w1 hC hd Q1 hQ1
    obtain ⟨hE, hS⟩ := hC
    dsimp only [bare]
    obtain ⟨q0, q1, q2⟩ := (⟨hS.1.2 0 _ rfl, hS.1.2 1 _ rfl, hS.1.2 2 _ rfl⟩ : _ ∧ _ ∧ _)
    clear hd hE
    try clear hS
    go_wp2
    exact Ext.refl _
  case ha => rfl
  apply wpLoose_val rfl rfl
  case hs =>
    intro w1 hC hd Q1 hQ1
    obtain ⟨hE, hS⟩ := hC
    dsimp only [bare]
    obtain ⟨q0, q1, q2⟩ := (⟨hS.1.2 0 _ rfl, hS.1.2 1 _ rfl, hS.1.2 2 _ rfl⟩ : _ ∧ _ ∧ _)
    clear hd hE
    try clear hS
    go_wp2
    exact Ext.refl _
  case ha => rfl
  apply wpLoose_val rfl rfl
  case hs =>
    intro w1 hC hd Q1 hQ1
    obtain ⟨hE, hS⟩ := hC
    dsimp only [bare]
    obtain ⟨q0, q1, q2⟩ := (⟨hS.1.2 0 _ rfl, hS.1.2 1 _ rfl, hS.1.2 2 _ rfl⟩ : _ ∧ _ ∧ _)
    clear hd hE
    try clear hS
    go_wp2
    exact Ext.refl _
  case ha => rfl
  apply wpLoose_val rfl rfl
  case hs =>
    intro w1 hC hd Q1 hQ1
    obtain ⟨hE, hS⟩ := hC
    dsimp only [bare]
    obtain ⟨q0, q1, q2⟩ := (⟨hS.1.2 0 _ rfl, hS.1.2 1 _ rfl, hS.1.2 2 _ rfl⟩ : _ ∧ _ ∧ _)
    clear hd hE
    try clear hS
    go_wp2
    exact Ext.refl _
  case ha => rfl
  apply wpLoose_val rfl rfl
  case hs =>
    intro w1 hC hd Q1 hQ1
    obtain ⟨hE, hS⟩ := hC
    dsimp only [bare]
    clear hd
    go_wp2_with fail
    refine (askH_any (3 + 2 * ag) mh vh 3 bb no _).mono ?_
    rintro e w2 ⟨rfl, hb⟩
    go_wp2_with fail
    exact hb
  case ha => rfl
  apply wpLoose_val rfl rfl
  case hs =>
    intro w1 hC hd Q1 hQ1
    obtain ⟨hE, hS⟩ := hC
    dsimp only [bare]
    obtain ⟨q0, q1, q2⟩ := (⟨hS.1.2 0 _ rfl, hS.1.2 1 _ rfl, hS.1.2 2 _ rfl⟩ : _ ∧ _ ∧ _)
    clear hd hE
    try clear hS
    go_wp2
    exact Ext.refl _
  case ha => rfl
  apply wpLoose_val rfl rfl
  case hs =>
    intro w1 hC hd Q1 hQ1
    obtain ⟨hE, hS⟩ := hC
    dsimp only [bare]
    obtain ⟨q0, q1, q2⟩ := (⟨hS.1.2 0 _ rfl, hS.1.2 1 _ rfl, hS.1.2 2 _ rfl⟩ : _ ∧ _ ∧ _)
    clear hd hE
    try clear hS
    go_wp2
    exact Ext.refl _
  case ha => rfl
  refine wpLoose_rel rfl rfl ?_ (fun va_14 => ?_)
  · intro w1 hC hd Q1 hQ1
    obtain ⟨hE, hS⟩ := hC
    dsimp only [bare]
    clear hd hS hE
    go_wp2
    exact hQ1 _ _ ((Below.refl _ _).alloc (Nat.le_refl _) _) ⟨_, rfl, CellsAt.new _ (flatL [askL 4 vh yes aa, placeL aa, askL 3 vh bb no, placeL bb]) _⟩
  refine wpLoose_nil ?_
  intro wa hEa hSa hFa
  obtain ⟨g1, rfl, r1⟩ := hFa 1 _ rfl (by decide) (by simp [Act.put])
  obtain ⟨g2, rfl, r2⟩ := hFa 14 _ rfl (by decide) (by simp [Act.put])
  simp only [Act.put]
  have HX2 : Hid (Ext W1 wa) := (Ext.refl W1).drew.trans hEa
  have HQ : Hid (CellsAt wa (w1.heap.size + 1) [.int .i64 (2 + 2 * ag), .int .i64 ml, .int .i64 vl]) := hSa.2
  have HP : Hid (w1.heap.size + 1 < W1.heap.size) := p2.1
  clear hFa hSa hEa p1 p2
  refine append_lines _ rfl _ _ rfl (w0 := W1) _ (loadL (3 + 2 * ag) mh) [askL 4 vh yes aa, placeL aa, askL 3 vh bb no, placeL bb] rfl r1 HX2.out g2 4 4 rfl rfl r2.2 (by simp [loadL]) ?_
  intro v3 w3 own3 x3
  have HQ3 := HQ.out.of HX2.out x3 HP.out
  obtain ⟨q0, q1, q2⟩ := (⟨HQ3.2 0 _ rfl, HQ3.2 1 _ rfl, HQ3.2 2 _ rfl⟩ : _ ∧ _ ∧ _)
  clear r1 r2 HQ HX2
  go_wp2_with fail
  refine (loadH_any (2 + 2 * ag) ml vl _).mono ?_
  rintro e w4 ⟨g4, rfl, r4, x4⟩
  have own4 := own3.ext x4
  have x14 := x3.trans x4
  have HQ4 := HQ3.step x4
  clear own3 x3 x4 q0 q1 q2 HQ3
  go_wp2_with (at_builtin; refine append_lines _ rfl _ _ rfl (w0 := W1) _ _ (loadL (2 + 2 * ag) ml) rfl own4 x14 g4 2 2 rfl rfl r4.cell (by simp [loadL]) ?_)
  intro v5 w5 own5 x5
  have HQ5 := HQ4.of x14 x5 HP.out
  obtain ⟨q0, q1, q2⟩ := (⟨HQ5.2 0 _ rfl, HQ5.2 1 _ rfl, HQ5.2 2 _ rfl⟩ : _ ∧ _ ∧ _)
  clear own4 x14 HQ4 r4
  go_wp2_with fail
  refine (askH_any (2 + 2 * ag) ml vl o yes no _).mono ?_
  rintro e w6 ⟨rfl, x6⟩
  have own6 := own5.ext x6
  have x16 := x5.trans x6
  clear own5 x5 x6 q0 q1 q2 HQ5
  go_wp2_with (at_builtin; refine append_lines _ rfl _ _ rfl (w0 := W1) _ _ [askL o vl yes no] rfl (own6.ext (Ext.one _ _)) (x16.alloc _) w6.heap.size 1 1 rfl rfl (CellsAt.new w6 (flatL [askL o vl yes no]) 43).2 (by simp [loadL]) ?_)
  intro v7 w7 own7 x7
  clear own6 x16
  have O7 : Hid (OwnL w7 w.heap.size v7 (moreC ⟨ag, mh, ml, cm, vh, vl⟩ o aa bb yes no)) := own7.mono HX.out.size
  have X7 : Hid (Ext w w7) := HX.out.trans x7
  clear own7 x7
  go_wp2
  go_ret
  exact ⟨_, rfl, O7.out, X7.out⟩
  case hAa => kernel_rfl
  case hla => exact ⟨trivial, fun _ _ _ ⟨g, hv, h⟩ hE => ⟨g, hv, h.ext hE⟩, trivial, trivial, trivial, trivial, trivial, trivial, trivial, trivial, trivial, trivial, trivial, trivial, fun _ _ _ ⟨g, hv, h⟩ hE => ⟨g, hv, h.step hE⟩, trivial⟩

end Go.Proofs.Ythflflhcbnianaa
