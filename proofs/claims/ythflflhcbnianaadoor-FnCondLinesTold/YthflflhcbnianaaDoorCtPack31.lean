/- What spec's l12Half, l12Same, l12Above and CondLines answer. (Written by mkcond2.py.) -/
import Derived.Test.YthflflhcbnianaaDoorCtPack29
import Derived.Test.YthflflhcbnianaaDoorCtPack9
/- What impl's CondLines answers: lines of a condition, right or not. (Written by mkcond.py.) -/
namespace Go.Proofs.YthflflhcbnianaaDoor
open Go.RowKit
set_option linter.unusedVariables false

theorem OwnL.nil (w : World) (B : Nat) : OwnL w B (.slice none 0 0) [] := World.ownsRow_nil _ _ _ _

theorem cm_six {ag mh ml cm vh vl : Int} (h : condB ⟨ag, mh, ml, cm, vh, vl⟩ = true) : 0 ≤ ag ∧ ag ≤ 2 ∧ (cm = 1 ∨ cm = 2 ∨ cm = 5 ∨ cm = 4 ∨ cm = 6 ∨ cm = 3) := by
  rw [condB_if] at h
  simp only [Bool.and_eq_true] at h
  obtain ⟨⟨⟨h1, h2⟩, _⟩, _⟩ := h
  rw [inB_true4] at h1 h2
  omega

theorem condL_bad {ag mh ml cm vh vl : Int} {base yes no : ByteArray} (h : condB ⟨ag, mh, ml, cm, vh, vl⟩ = false) : condL ⟨ag, mh, ml, cm, vh, vl⟩ base yes no = [] := by
  unfold condL
  rw [if_neg (by rw [h]; decide)]

set_option maxRecDepth 100000 in
set_option maxHeartbeats 4000000 in
theorem condLines_any (ag mh ml cm vh vl : Int) (base yes no : ByteArray) (w : World) (hs : base.size ≤ 1000000000) :
    Calls Tryd.prog 33 #[.agg #[.int .i64 ag, .int .i64 mh, .int .i64 ml, .int .i64 cm, .int .i64 vh, .int .i64 vl], .string base, .string yes, .string no] w fun e w' => ∃ v, e = .returned v ∧ OwnL w' w.heap.size v (condL ⟨ag, mh, ml, cm, vh, vl⟩ base yes no) ∧ Ext w w' := by
  have HA : Hid (∀ (yes no : ByteArray) W (b : Nat), 0 ≤ ag → ag ≤ 2 → b < W.heap.size → W.cell? ⟨b, 0, none⟩ = some (.string base) → Calls Tryd.prog 71 #[.agg #[.int .i64 ag, .int .i64 mh, .int .i64 ml, .int .i64 cm, .int .i64 vh, .int .i64 vl], .func (.func 70) #[] #[.pointer (some ⟨b, 0, none⟩)], .string yes, .string no] W fun e w' => ∃ v, e = .returned v ∧ OwnL w' W.heap.size v (sameC ⟨ag, mh, ml, cm, vh, vl⟩ (labA2 base) yes no) ∧ Ext W w') := fun yes no W b h0 h1 hb hc => same_any ag mh ml cm vh vl base yes no b W h0 h1 hs hb hc
  have HM : Hid (∀ (o : Int) (yes no : ByteArray) W (b : Nat), 0 ≤ ag → ag ≤ 2 → b < W.heap.size → W.cell? ⟨b, 0, none⟩ = some (.string base) → Calls Tryd.prog 72 #[.agg #[.int .i64 ag, .int .i64 mh, .int .i64 ml, .int .i64 cm, .int .i64 vh, .int .i64 vl], .int .i64 o, .func (.func 70) #[] #[.pointer (some ⟨b, 0, none⟩)], .string yes, .string no] W fun e w' => ∃ v, e = .returned v ∧ OwnL w' W.heap.size v (moreC ⟨ag, mh, ml, cm, vh, vl⟩ o (labA2 base) (labB2 base) yes no) ∧ Ext W w') := fun o yes no W b h0 h1 hb hc => more_any ag mh ml cm vh vl o base yes no b W h0 h1 hs hb hc
  obtain ⟨z, hz⟩ : ∃ z, z = condB ⟨ag, mh, ml, cm, vh, vl⟩ := ⟨_, rfl⟩
  obtain ⟨L, hL⟩ : ∃ L, L = condL ⟨ag, mh, ml, cm, vh, vl⟩ base yes no := ⟨_, rfl⟩
  have HC : Hid (∀ w, Calls Tryd.prog 69 #[.agg #[.int .i64 ag, .int .i64 mh, .int .i64 ml, .int .i64 cm, .int .i64 vh, .int .i64 vl]] w fun e w' => e = .returned (.bool z) ∧ Ext w w') := fun w => by rw [hz]; exact iCondOk_any ag mh ml cm vh vl w
  have HZ : Hid (z = condB ⟨ag, mh, ml, cm, vh, vl⟩) := hz
  have HL : Hid (L = condL ⟨ag, mh, ml, cm, vh, vl⟩ base yes no) := hL
  rw [← hL]
  clear hs hz hL
  go_enter Tryd.func33, Tryd.ntmps33
  go_wp2_with fail
  refine (HC.out _).mono ?_
  rintro e w1 ⟨rfl, x1⟩
  have X1 : Hid (Ext w w1) := ((Ext.one w _).alloc _).trans x1
  have p1 : CellsAt w1 w.heap.size [.int .i64 ag, .int .i64 mh, .int .i64 ml, .int .i64 cm, .int .i64 vh, .int .i64 vl] := ((CellsAt.new w [.int .i64 ag, .int .i64 mh, .int .i64 ml, .int .i64 cm, .int .i64 vh, .int .i64 vl] 27).step (Ext.one _ _)).step x1
  have p2 : CellsAt w1 (w.heap.size + 1) [.string base] := (CellsAt.new' _ [.string base] 9 _ (by simp)).step x1
  have HP : Hid (w.heap.size + 1 < w1.heap.size ∧ w1.cell? ⟨w.heap.size + 1, 0, none⟩ = some (.string base)) := ⟨p2.1, p2.2 0 _ rfl⟩
  obtain ⟨q0, q1, q2, q3, q4, q5⟩ := (⟨p1.2 0 _ rfl, p1.2 1 _ rfl, p1.2 2 _ rfl, p1.2 3 _ rfl, p1.2 4 _ rfl, p1.2 5 _ rfl⟩ : _ ∧ _ ∧ _ ∧ _ ∧ _ ∧ _)
  have hmf : ∀ (fn : Fn) (first cap : Array Value) (w : World), (Instr.makeFunc fn first cap).run Tryd.prog w = .ok (.func fn first cap) w := fun _ _ _ _ => rfl
  clear x1 p1 p2 HC
  cases z with
  | false =>
    obtain rfl : L = [] := by rw [HL.out]; exact condL_bad HZ.out.symm
    go_wp2
    go_ret
    exact ⟨_, rfl, OwnL.nil _ _, X1.out⟩
  | true =>
    obtain ⟨h0, h1, h6⟩ := cm_six HZ.out.symm
    have HI : Hid (0 ≤ ag ∧ ag ≤ 2) := ⟨h0, h1⟩
    clear h0 h1
    have HB : Hid (condB ⟨ag, mh, ml, cm, vh, vl⟩ = true) := HZ.out.symm
    clear HZ
    rcases h6 with rfl | rfl | rfl | rfl | rfl | rfl
    · obtain rfl : L = sameC ⟨ag, mh, ml, 1, vh, vl⟩ (labA2 base) yes no := by rw [HL.out]; unfold condL; rw [if_pos HB.out]; rfl
      go_wp2_with fail
      refine (HA.out yes no _ _ HI.out.1 HI.out.2 HP.out.1 HP.out.2).mono ?_
      rintro e w2 ⟨v, rfl, own2, x2⟩
      have O2 : Hid (OwnL w2 w.heap.size v (sameC ⟨ag, mh, ml, 1, vh, vl⟩ (labA2 base) yes no)) := own2.mono X1.out.size
      have X2 : Hid (Ext w w2) := X1.out.trans x2
      clear own2 x2 q0 q1 q2 q3 q4 q5 HA HM
      go_wp2
      go_ret
      exact ⟨_, rfl, O2.out, X2.out⟩
    · obtain rfl : L = sameC ⟨ag, mh, ml, 2, vh, vl⟩ (labA2 base) no yes := by rw [HL.out]; unfold condL; rw [if_pos HB.out]; rfl
      go_wp2_with fail
      refine (HA.out no yes _ _ HI.out.1 HI.out.2 HP.out.1 HP.out.2).mono ?_
      rintro e w2 ⟨v, rfl, own2, x2⟩
      have O2 : Hid (OwnL w2 w.heap.size v (sameC ⟨ag, mh, ml, 2, vh, vl⟩ (labA2 base) no yes)) := own2.mono X1.out.size
      have X2 : Hid (Ext w w2) := X1.out.trans x2
      clear own2 x2 q0 q1 q2 q3 q4 q5 HA HM
      go_wp2
      go_ret
      exact ⟨_, rfl, O2.out, X2.out⟩
    · obtain rfl : L = moreC ⟨ag, mh, ml, 5, vh, vl⟩ 4 (labA2 base) (labB2 base) yes no := by rw [HL.out]; unfold condL; rw [if_pos HB.out]; rfl
      go_wp2_with fail
      refine (HM.out 4 yes no _ _ HI.out.1 HI.out.2 HP.out.1 HP.out.2).mono ?_
      rintro e w2 ⟨v, rfl, own2, x2⟩
      have O2 : Hid (OwnL w2 w.heap.size v (moreC ⟨ag, mh, ml, 5, vh, vl⟩ 4 (labA2 base) (labB2 base) yes no)) := own2.mono X1.out.size
      have X2 : Hid (Ext w w2) := X1.out.trans x2
      clear own2 x2 q0 q1 q2 q3 q4 q5 HA HM
      go_wp2
      go_ret
      exact ⟨_, rfl, O2.out, X2.out⟩
    · obtain rfl : L = moreC ⟨ag, mh, ml, 4, vh, vl⟩ 4 (labA2 base) (labB2 base) no yes := by rw [HL.out]; unfold condL; rw [if_pos HB.out]; rfl
      go_wp2_with fail
      refine (HM.out 4 no yes _ _ HI.out.1 HI.out.2 HP.out.1 HP.out.2).mono ?_
      rintro e w2 ⟨v, rfl, own2, x2⟩
      have O2 : Hid (OwnL w2 w.heap.size v (moreC ⟨ag, mh, ml, 4, vh, vl⟩ 4 (labA2 base) (labB2 base) no yes)) := own2.mono X1.out.size
      have X2 : Hid (Ext w w2) := X1.out.trans x2
      clear own2 x2 q0 q1 q2 q3 q4 q5 HA HM
      go_wp2
      go_ret
      exact ⟨_, rfl, O2.out, X2.out⟩
    · obtain rfl : L = moreC ⟨ag, mh, ml, 6, vh, vl⟩ 5 (labA2 base) (labB2 base) yes no := by rw [HL.out]; unfold condL; rw [if_pos HB.out]; rfl
      go_wp2_with fail
      refine (HM.out 5 yes no _ _ HI.out.1 HI.out.2 HP.out.1 HP.out.2).mono ?_
      rintro e w2 ⟨v, rfl, own2, x2⟩
      have O2 : Hid (OwnL w2 w.heap.size v (moreC ⟨ag, mh, ml, 6, vh, vl⟩ 5 (labA2 base) (labB2 base) yes no)) := own2.mono X1.out.size
      have X2 : Hid (Ext w w2) := X1.out.trans x2
      clear own2 x2 q0 q1 q2 q3 q4 q5 HA HM
      go_wp2
      go_ret
      exact ⟨_, rfl, O2.out, X2.out⟩
    · obtain rfl : L = moreC ⟨ag, mh, ml, 3, vh, vl⟩ 5 (labA2 base) (labB2 base) no yes := by rw [HL.out]; unfold condL; rw [if_pos HB.out]; rfl
      go_wp2_with fail
      refine (HM.out 5 no yes _ _ HI.out.1 HI.out.2 HP.out.1 HP.out.2).mono ?_
      rintro e w2 ⟨v, rfl, own2, x2⟩
      have O2 : Hid (OwnL w2 w.heap.size v (moreC ⟨ag, mh, ml, 3, vh, vl⟩ 5 (labA2 base) (labB2 base) no yes)) := own2.mono X1.out.size
      have X2 : Hid (Ext w w2) := X1.out.trans x2
      clear own2 x2 q0 q1 q2 q3 q4 q5 HA HM
      go_wp2
      go_ret
      exact ⟨_, rfl, O2.out, X2.out⟩

theorem clone_any (s : ByteArray) (w : World) (hlim : s.size ≤ 281474976710656) :
    Calls Tryd.prog 34 #[.string s] w fun e w' => e = .returned (.string s) ∧ Below w.heap.size w w' := by
  go_enter Tryd.func34, Tryd.ntmps34
  go_wp2_with fail
  refine (Tryd.stringslite_Clone _ _ hlim).mono ?_
  rintro e w' ⟨rfl, hb⟩
  go_wp2
  go_ret
  exact ⟨rfl, hb⟩

set_option maxRecDepth 100000 in
set_option maxHeartbeats 4000000 in
theorem iCondLines_any (ag mh ml cm vh vl : Int) (base yes no : ByteArray) (w : World) (hs : base.size ≤ 1000000000) (hy : yes.size ≤ 1000000000) (hn : no.size ≤ 1000000000) :
    Calls Tryd.prog 8 #[.agg #[.int .i64 ag, .int .i64 mh, .int .i64 ml, .int .i64 cm, .int .i64 vh, .int .i64 vl], .string base, .string yes, .string no] w fun e w' => ∃ v, e = .returned v ∧ OwnL w' w.heap.size v (condL ⟨ag, mh, ml, cm, vh, vl⟩ base yes no) ∧ Ext w w' := by
  have HC : Hid (∀ W, Calls Tryd.prog 33 #[.agg #[.int .i64 ag, .int .i64 mh, .int .i64 ml, .int .i64 cm, .int .i64 vh, .int .i64 vl], .string base, .string yes, .string no] W fun e w' => ∃ v, e = .returned v ∧ OwnL w' W.heap.size v (condL ⟨ag, mh, ml, cm, vh, vl⟩ base yes no) ∧ Ext W w') := fun W => condLines_any ag mh ml cm vh vl base yes no W hs
  have HY : Hid (∀ W, Calls Tryd.prog 34 #[.string yes] W fun e w' => e = .returned (.string yes) ∧ Ext W w') := fun W => clone_any yes W (by omega)
  have HN : Hid (∀ W, Calls Tryd.prog 34 #[.string no] W fun e w' => e = .returned (.string no) ∧ Ext W w') := fun W => clone_any no W (by omega)
  obtain ⟨L, hL⟩ : ∃ L, L = condL ⟨ag, mh, ml, cm, vh, vl⟩ base yes no := ⟨_, rfl⟩
  rw [← hL] at HC ⊢
  clear hs hy hn hL
  go_enter Tryd.func8, Tryd.ntmps8
  go_wp2_with fail
  have p1 := CellsAt.new w [.int .i64 ag, .int .i64 mh, .int .i64 ml, .int .i64 cm, .int .i64 vh, .int .i64 vl] 27
  refine' wp_region_loose_tail 7 (.inl _ :: .inl _ :: .inl _ :: .inl _ :: .inl _ :: .inl _ :: .inr (fun v w' => OwnL w' w.heap.size v L) :: []) (fun w' => CellsAt w' w.heap.size [.int .i64 ag, .int .i64 mh, .int .i64 ml, .int .i64 cm, .int .i64 vh, .int .i64 vl]) (by kernel_rfl) (by kernel_rfl) (p1.drew) (fun _ _ h hE => h.step hE) ?hAa ?hla ?hMa
  case' hMa => skip
  simp only [List.take_succ_cons, List.take_zero, List.drop_succ_cons, List.drop_zero]
  apply wpLoose_val rfl rfl
  case hs =>
    intro w1 hC hd Q1 hQ1
    obtain ⟨hE, hS⟩ := hC
    dsimp only [bare]
    obtain ⟨q0, q1, q2, q3, q4, q5⟩ := (⟨hS.2 0 _ rfl, hS.2 1 _ rfl, hS.2 2 _ rfl, hS.2 3 _ rfl, hS.2 4 _ rfl, hS.2 5 _ rfl⟩ : _ ∧ _ ∧ _ ∧ _ ∧ _ ∧ _)
    clear hd hE
    try clear hS
    go_wp2
    exact Ext.refl _
  case ha => rfl
  apply wpLoose_val rfl rfl
  case hs =>
    intro w1 hC hd Q1 hQ1
    obtain ⟨hE, hS⟩ := hC
    dsimp only [bare]
    obtain ⟨q0, q1, q2, q3, q4, q5⟩ := (⟨hS.2 0 _ rfl, hS.2 1 _ rfl, hS.2 2 _ rfl, hS.2 3 _ rfl, hS.2 4 _ rfl, hS.2 5 _ rfl⟩ : _ ∧ _ ∧ _ ∧ _ ∧ _ ∧ _)
    clear hd hE
    try clear hS
    go_wp2
    exact Ext.refl _
  case ha => rfl
  apply wpLoose_val rfl rfl
  case hs =>
    intro w1 hC hd Q1 hQ1
    obtain ⟨hE, hS⟩ := hC
    dsimp only [bare]
    obtain ⟨q0, q1, q2, q3, q4, q5⟩ := (⟨hS.2 0 _ rfl, hS.2 1 _ rfl, hS.2 2 _ rfl, hS.2 3 _ rfl, hS.2 4 _ rfl, hS.2 5 _ rfl⟩ : _ ∧ _ ∧ _ ∧ _ ∧ _ ∧ _)
    clear hd hE
    try clear hS
    go_wp2
    exact Ext.refl _
  case ha => rfl
  apply wpLoose_val rfl rfl
  case hs =>
    intro w1 hC hd Q1 hQ1
    obtain ⟨hE, hS⟩ := hC
    dsimp only [bare]
    clear hd
    go_wp2_with fail
    refine (HY.out _).mono ?_
    rintro e w2 ⟨rfl, hb⟩
    go_wp2_with fail
    exact hb
  case ha => rfl
  apply wpLoose_val rfl rfl
  case hs =>
    intro w1 hC hd Q1 hQ1
    obtain ⟨hE, hS⟩ := hC
    dsimp only [bare]
    obtain ⟨q0, q1, q2, q3, q4, q5⟩ := (⟨hS.2 0 _ rfl, hS.2 1 _ rfl, hS.2 2 _ rfl, hS.2 3 _ rfl, hS.2 4 _ rfl, hS.2 5 _ rfl⟩ : _ ∧ _ ∧ _ ∧ _ ∧ _ ∧ _)
    clear hd hE
    try clear hS
    go_wp2
    exact Ext.refl _
  case ha => rfl
  apply wpLoose_val rfl rfl
  case hs =>
    intro w1 hC hd Q1 hQ1
    obtain ⟨hE, hS⟩ := hC
    dsimp only [bare]
    clear hd
    go_wp2_with fail
    refine (HN.out _).mono ?_
    rintro e w2 ⟨rfl, hb⟩
    go_wp2_with fail
    exact hb
  case ha => rfl
  refine wpLoose_rel rfl rfl ?_ (fun va_6 => ?_)
  · intro w1 hC hd Q1 hQ1
    obtain ⟨hE, hS⟩ := hC
    dsimp only [bare]
    clear hd hS
    go_wp2_with fail
    refine (HC.out _).mono ?_
    rintro e w2 ⟨v, rfl, r2, x2⟩
    go_wp2_with fail
    exact hQ1 _ _ x2 (r2.mono (Nat.le_trans (Ext.one w _).size hE.size))
  refine wpLoose_nil ?_
  intro wa hEa hSa hFa
  have r1 := hFa 6 _ rfl (by decide) (by simp [Act.put])
  simp only [Act.put]
  have O1 : Hid (OwnL wa w.heap.size va_6 L) := r1
  have X1 : Hid (Ext w wa) := (Ext.one w _).drew.trans hEa
  clear hFa hSa hEa p1 r1
  go_wp2
  go_ret
  exact ⟨_, rfl, O1.out, X1.out⟩
  case hAa => kernel_rfl
  case hla => exact ⟨trivial, trivial, trivial, trivial, trivial, trivial, fun _ _ _ h hE => h.ext hE, trivial⟩

set_option maxRecDepth 100000 in
set_option maxHeartbeats 4000000 in
theorem halfT_any (ag mh ml cm vh vl : Int) (w : World) (h0 : 0 ≤ ag) (h1 : ag ≤ 2) :
    Calls Tryd.prog 84 #[.agg #[.int .i64 ag, .int .i64 mh, .int .i64 ml, .int .i64 cm, .int .i64 vh, .int .i64 vl], .bool true] w fun e w' => ∃ g, e = .returned (.slice (some ⟨g, 0, none⟩) 2 2) ∧ OwnL w' w.heap.size (.slice (some ⟨g, 0, none⟩) 2 2) (loadL (3 + 2 * ag) mh) ∧ Ext w w' := by
  go_enter Tryd.func84, Tryd.ntmps84
  go_wp2_with fail
  have p1 := CellsAt.new w [.int .i64 ag, .int .i64 mh, .int .i64 ml, .int .i64 cm, .int .i64 vh, .int .i64 vl] 27
  refine' wp_region_loose_tail 10 (.inl _ :: .inl _ :: .inl _ :: .inl _ :: .inl _ :: .inl _ :: .inl _ :: .inl _ :: .inl _ :: .inr (fun v w' => ∃ g, v = .slice (some ⟨g, 0, none⟩) 2 2 ∧ OwnL w' w.heap.size v (loadL (3 + 2 * ag) mh)) :: []) (fun w' => CellsAt w' w.heap.size [.int .i64 ag, .int .i64 mh, .int .i64 ml, .int .i64 cm, .int .i64 vh, .int .i64 vl]) (by kernel_rfl) (by kernel_rfl) (p1.drew) (fun _ _ h hE => h.step hE) ?hAa ?hla ?hMa
  case' hMa => skip
  simp only [List.take_succ_cons, List.take_zero, List.drop_succ_cons, List.drop_zero]
  apply wpLoose_val rfl rfl
  case hs =>
    intro w1 hC hd Q1 hQ1
    obtain ⟨hE, hS⟩ := hC
    dsimp only [bare]
    obtain ⟨q0, q1, q2⟩ := (⟨hS.2 0 _ rfl, hS.2 1 _ rfl, hS.2 2 _ rfl⟩ : _ ∧ _ ∧ _)
    clear hd hE
    try clear hS
    go_wp2
    exact Ext.refl _
  case ha => rfl
  apply wpLoose_val rfl rfl
  case hs =>
    intro w1 hC hd Q1 hQ1
    obtain ⟨hE, hS⟩ := hC
    dsimp only [bare]
    obtain ⟨q0, q1, q2⟩ := (⟨hS.2 0 _ rfl, hS.2 1 _ rfl, hS.2 2 _ rfl⟩ : _ ∧ _ ∧ _)
    clear hd hE
    try clear hS
    go_wp2
    exact Ext.refl _
  case ha => rfl
  apply wpLoose_val rfl rfl
  case hs =>
    intro w1 hC hd Q1 hQ1
    obtain ⟨hE, hS⟩ := hC
    dsimp only [bare]
    obtain ⟨q0, q1, q2⟩ := (⟨hS.2 0 _ rfl, hS.2 1 _ rfl, hS.2 2 _ rfl⟩ : _ ∧ _ ∧ _)
    clear hd hE
    try clear hS
    go_wp2
    exact Ext.refl _
  case ha => rfl
  apply wpLoose_val rfl rfl
  case hs =>
    intro w1 hC hd Q1 hQ1
    obtain ⟨hE, hS⟩ := hC
    dsimp only [bare]
    obtain ⟨q0, q1, q2⟩ := (⟨hS.2 0 _ rfl, hS.2 1 _ rfl, hS.2 2 _ rfl⟩ : _ ∧ _ ∧ _)
    clear hd hE
    try clear hS
    go_wp2
    exact Ext.refl _
  case ha => rfl
  apply wpLoose_val rfl rfl
  case hs =>
    intro w1 hC hd Q1 hQ1
    obtain ⟨hE, hS⟩ := hC
    dsimp only [bare]
    clear hd
    go_wp2_with fail
    refine (word_any 1 (3 + 2 * ag) _).mono ?_
    rintro e w2 ⟨rfl, hb⟩
    go_wp2_with fail
    exact hb
  case ha => rfl
  apply wpLoose_val rfl rfl
  case hs =>
    intro w1 hC hd Q1 hQ1
    obtain ⟨hE, hS⟩ := hC
    dsimp only [bare]
    obtain ⟨q0, q1, q2⟩ := (⟨hS.2 0 _ rfl, hS.2 1 _ rfl, hS.2 2 _ rfl⟩ : _ ∧ _ ∧ _)
    clear hd hE
    try clear hS
    go_wp2
    exact Ext.refl _
  case ha => rfl
  apply wpLoose_val rfl rfl
  case hs =>
    intro w1 hC hd Q1 hQ1
    obtain ⟨hE, hS⟩ := hC
    dsimp only [bare]
    obtain ⟨q0, q1, q2⟩ := (⟨hS.2 0 _ rfl, hS.2 1 _ rfl, hS.2 2 _ rfl⟩ : _ ∧ _ ∧ _)
    clear hd hE
    try clear hS
    go_wp2
    exact Ext.refl _
  case ha => rfl
  apply wpLoose_val rfl rfl
  case hs =>
    intro w1 hC hd Q1 hQ1
    obtain ⟨hE, hS⟩ := hC
    dsimp only [bare]
    obtain ⟨q0, q1, q2⟩ := (⟨hS.2 0 _ rfl, hS.2 1 _ rfl, hS.2 2 _ rfl⟩ : _ ∧ _ ∧ _)
    clear hd hE
    try clear hS
    go_wp2
    exact Ext.refl _
  case ha => rfl
  apply wpLoose_val rfl rfl
  case hs =>
    intro w1 hC hd Q1 hQ1
    obtain ⟨hE, hS⟩ := hC
    dsimp only [bare]
    clear hd
    go_wp2_with fail
    refine (word_any 2 mh _).mono ?_
    rintro e w2 ⟨rfl, hb⟩
    go_wp2_with fail
    exact hb
  case ha => rfl
  refine wpLoose_rel rfl rfl ?_ (fun va_9 => ?_)
  · intro w1 hC hd Q1 hQ1
    obtain ⟨hE, hS⟩ := hC
    dsimp only [bare]
    clear hd hS
    have hsz : w.heap.size ≤ w1.heap.size := Nat.le_trans (Ext.one w _).size hE.size
    clear hE
    go_wp2
    exact hQ1 _ _ ((Below.refl _ _).alloc (Nat.le_refl _) _) ⟨_, rfl, OwnL.lit (loadL (3 + 2 * ag) mh) hsz _ 2 _ rfl rfl rfl (by simp [loadL, maxLen])⟩
  refine wpLoose_nil ?_
  intro wa hEa hSa hFa
  obtain ⟨g1, rfl, r1⟩ := hFa 9 _ rfl (by decide) (by simp [Act.put])
  simp only [Act.put]
  have O1 : Hid (OwnL wa w.heap.size (.slice (some ⟨g1, 0, none⟩) 2 2) (loadL (3 + 2 * ag) mh)) := r1
  have X1 : Hid (Ext w wa) := (Ext.one w _).drew.trans hEa
  clear hFa hSa hEa p1 r1
  go_wp2
  go_ret
  exact ⟨_, rfl, O1.out, X1.out⟩
  case hAa => kernel_rfl
  case hla => exact ⟨trivial, trivial, trivial, trivial, trivial, trivial, trivial, trivial, trivial, fun _ _ _ ⟨g, hv, h⟩ hE => ⟨g, hv, h.ext hE⟩, trivial⟩

set_option maxRecDepth 100000 in
set_option maxHeartbeats 4000000 in
theorem halfF_any (ag mh ml cm vh vl : Int) (w : World) (h0 : 0 ≤ ag) (h1 : ag ≤ 2) :
    Calls Tryd.prog 84 #[.agg #[.int .i64 ag, .int .i64 mh, .int .i64 ml, .int .i64 cm, .int .i64 vh, .int .i64 vl], .bool false] w fun e w' => ∃ g, e = .returned (.slice (some ⟨g, 0, none⟩) 2 2) ∧ OwnL w' w.heap.size (.slice (some ⟨g, 0, none⟩) 2 2) (loadL (2 + 2 * ag) ml) ∧ Ext w w' := by
  go_enter Tryd.func84, Tryd.ntmps84
  go_wp2_with fail
  have p1 := CellsAt.new w [.int .i64 ag, .int .i64 mh, .int .i64 ml, .int .i64 cm, .int .i64 vh, .int .i64 vl] 27
  refine' wp_region_loose_tail 10 (.inl _ :: .inl _ :: .inl _ :: .inl _ :: .inl _ :: .inl _ :: .inl _ :: .inl _ :: .inl _ :: .inr (fun v w' => ∃ g, v = .slice (some ⟨g, 0, none⟩) 2 2 ∧ OwnL w' w.heap.size v (loadL (2 + 2 * ag) ml)) :: []) (fun w' => CellsAt w' w.heap.size [.int .i64 ag, .int .i64 mh, .int .i64 ml, .int .i64 cm, .int .i64 vh, .int .i64 vl]) (by kernel_rfl) (by kernel_rfl) (p1.drew) (fun _ _ h hE => h.step hE) ?hAa ?hla ?hMa
  case' hMa => skip
  simp only [List.take_succ_cons, List.take_zero, List.drop_succ_cons, List.drop_zero]
  apply wpLoose_val rfl rfl
  case hs =>
    intro w1 hC hd Q1 hQ1
    obtain ⟨hE, hS⟩ := hC
    dsimp only [bare]
    obtain ⟨q0, q1, q2⟩ := (⟨hS.2 0 _ rfl, hS.2 1 _ rfl, hS.2 2 _ rfl⟩ : _ ∧ _ ∧ _)
    clear hd hE
    try clear hS
    go_wp2
    exact Ext.refl _
  case ha => rfl
  apply wpLoose_val rfl rfl
  case hs =>
    intro w1 hC hd Q1 hQ1
    obtain ⟨hE, hS⟩ := hC
    dsimp only [bare]
    obtain ⟨q0, q1, q2⟩ := (⟨hS.2 0 _ rfl, hS.2 1 _ rfl, hS.2 2 _ rfl⟩ : _ ∧ _ ∧ _)
    clear hd hE
    try clear hS
    go_wp2
    exact Ext.refl _
  case ha => rfl
  apply wpLoose_val rfl rfl
  case hs =>
    intro w1 hC hd Q1 hQ1
    obtain ⟨hE, hS⟩ := hC
    dsimp only [bare]
    obtain ⟨q0, q1, q2⟩ := (⟨hS.2 0 _ rfl, hS.2 1 _ rfl, hS.2 2 _ rfl⟩ : _ ∧ _ ∧ _)
    clear hd hE
    try clear hS
    go_wp2
    exact Ext.refl _
  case ha => rfl
  apply wpLoose_val rfl rfl
  case hs =>
    intro w1 hC hd Q1 hQ1
    obtain ⟨hE, hS⟩ := hC
    dsimp only [bare]
    obtain ⟨q0, q1, q2⟩ := (⟨hS.2 0 _ rfl, hS.2 1 _ rfl, hS.2 2 _ rfl⟩ : _ ∧ _ ∧ _)
    clear hd hE
    try clear hS
    go_wp2
    exact Ext.refl _
  case ha => rfl
  apply wpLoose_val rfl rfl
  case hs =>
    intro w1 hC hd Q1 hQ1
    obtain ⟨hE, hS⟩ := hC
    dsimp only [bare]
    clear hd
    go_wp2_with fail
    refine (word_any 1 (2 + 2 * ag) _).mono ?_
    rintro e w2 ⟨rfl, hb⟩
    go_wp2_with fail
    exact hb
  case ha => rfl
  apply wpLoose_val rfl rfl
  case hs =>
    intro w1 hC hd Q1 hQ1
    obtain ⟨hE, hS⟩ := hC
    dsimp only [bare]
    obtain ⟨q0, q1, q2⟩ := (⟨hS.2 0 _ rfl, hS.2 1 _ rfl, hS.2 2 _ rfl⟩ : _ ∧ _ ∧ _)
    clear hd hE
    try clear hS
    go_wp2
    exact Ext.refl _
  case ha => rfl
  apply wpLoose_val rfl rfl
  case hs =>
    intro w1 hC hd Q1 hQ1
    obtain ⟨hE, hS⟩ := hC
    dsimp only [bare]
    obtain ⟨q0, q1, q2⟩ := (⟨hS.2 0 _ rfl, hS.2 1 _ rfl, hS.2 2 _ rfl⟩ : _ ∧ _ ∧ _)
    clear hd hE
    try clear hS
    go_wp2
    exact Ext.refl _
  case ha => rfl
  apply wpLoose_val rfl rfl
  case hs =>
    intro w1 hC hd Q1 hQ1
    obtain ⟨hE, hS⟩ := hC
    dsimp only [bare]
    obtain ⟨q0, q1, q2⟩ := (⟨hS.2 0 _ rfl, hS.2 1 _ rfl, hS.2 2 _ rfl⟩ : _ ∧ _ ∧ _)
    clear hd hE
    try clear hS
    go_wp2
    exact Ext.refl _
  case ha => rfl
  apply wpLoose_val rfl rfl
  case hs =>
    intro w1 hC hd Q1 hQ1
    obtain ⟨hE, hS⟩ := hC
    dsimp only [bare]
    clear hd
    go_wp2_with fail
    refine (word_any 2 ml _).mono ?_
    rintro e w2 ⟨rfl, hb⟩
    go_wp2_with fail
    exact hb
  case ha => rfl
  refine wpLoose_rel rfl rfl ?_ (fun va_9 => ?_)
  · intro w1 hC hd Q1 hQ1
    obtain ⟨hE, hS⟩ := hC
    dsimp only [bare]
    clear hd hS
    have hsz : w.heap.size ≤ w1.heap.size := Nat.le_trans (Ext.one w _).size hE.size
    clear hE
    go_wp2
    exact hQ1 _ _ ((Below.refl _ _).alloc (Nat.le_refl _) _) ⟨_, rfl, OwnL.lit (loadL (2 + 2 * ag) ml) hsz _ 2 _ rfl rfl rfl (by simp [loadL, maxLen])⟩
  refine wpLoose_nil ?_
  intro wa hEa hSa hFa
  obtain ⟨g1, rfl, r1⟩ := hFa 9 _ rfl (by decide) (by simp [Act.put])
  simp only [Act.put]
  have O1 : Hid (OwnL wa w.heap.size (.slice (some ⟨g1, 0, none⟩) 2 2) (loadL (2 + 2 * ag) ml)) := r1
  have X1 : Hid (Ext w wa) := (Ext.one w _).drew.trans hEa
  clear hFa hSa hEa p1 r1
  go_wp2
  go_ret
  exact ⟨_, rfl, O1.out, X1.out⟩
  case hAa => kernel_rfl
  case hla => exact ⟨trivial, trivial, trivial, trivial, trivial, trivial, trivial, trivial, trivial, fun _ _ _ ⟨g, hv, h⟩ hE => ⟨g, hv, h.ext hE⟩, trivial⟩

set_option maxRecDepth 100000 in
set_option maxHeartbeats 4000000 in
theorem sSame_any (ag mh ml cm vh vl : Int) (base yes no : ByteArray) (w : World) (h0 : 0 ≤ ag) (h1 : ag ≤ 2) (hs : base.size ≤ 1000000000) :
    Calls Tryd.prog 51 #[.agg #[.int .i64 ag, .int .i64 mh, .int .i64 ml, .int .i64 cm, .int .i64 vh, .int .i64 vl], .string base, .string yes, .string no] w fun e w' => ∃ v, e = .returned v ∧ OwnL w' w.heap.size v (sameC ⟨ag, mh, ml, cm, vh, vl⟩ (labA2 base) yes no) ∧ Ext w w' := by
  have HL : Hid (∀ W, Calls Tryd.prog 84 #[.agg #[.int .i64 ag, .int .i64 mh, .int .i64 ml, .int .i64 cm, .int .i64 vh, .int .i64 vl], .bool false] W fun e w' => ∃ g, e = .returned (.slice (some ⟨g, 0, none⟩) 2 2) ∧ OwnL w' W.heap.size (.slice (some ⟨g, 0, none⟩) 2 2) (loadL (2 + 2 * ag) ml) ∧ Ext W w') := fun W => halfF_any ag mh ml cm vh vl W h0 h1
  have HH : Hid (∀ W, Calls Tryd.prog 84 #[.agg #[.int .i64 ag, .int .i64 mh, .int .i64 ml, .int .i64 cm, .int .i64 vh, .int .i64 vl], .bool true] W fun e w' => ∃ g, e = .returned (.slice (some ⟨g, 0, none⟩) 2 2) ∧ OwnL w' W.heap.size (.slice (some ⟨g, 0, none⟩) 2 2) (loadL (3 + 2 * ag) mh) ∧ Ext W w') := fun W => halfT_any ag mh ml cm vh vl W h0 h1
  obtain ⟨aa, haa⟩ : ∃ aa, aa = labA2 base := ⟨_, rfl⟩
  have had : ∀ wx, (Op.stringOp .add base ⟨#[97]⟩).run Tryd.prog wx = .ok (.string aa) wx := fun wx => by
    rw [haa]; exact run_string_add_sum (P := Tryd.prog) wx base ⟨#[97]⟩ (by show base.size + 1 ≤ _; omega)
  rw [← haa]
  clear haa
  go_enter Tryd.func51, Tryd.ntmps51
  go_wp2_with fail
  obtain ⟨W1, hW1⟩ : ∃ W, W = w.alloc (.cells #[.int .i64 ag, .int .i64 mh, .int .i64 ml, .int .i64 cm, .int .i64 vh, .int .i64 vl] 27) := ⟨_, rfl⟩
  have HX : Hid (Ext w W1) := by rw [hW1]; exact Ext.one w _
  have p1 : CellsAt W1 w.heap.size [.int .i64 ag, .int .i64 mh, .int .i64 ml, .int .i64 cm, .int .i64 vh, .int .i64 vl] := by rw [hW1]; exact CellsAt.new w [.int .i64 ag, .int .i64 mh, .int .i64 ml, .int .i64 cm, .int .i64 vh, .int .i64 vl] 27
  have HP : Hid (w.heap.size < W1.heap.size) := p1.1
  rw [← hW1]
  clear hW1
  refine' wp_region_loose_tail 13 (.inl _ :: .inr (fun v w' => ∃ g, v = .slice (some ⟨g, 0, none⟩) 2 2 ∧ OwnL w' W1.heap.size v (loadL (3 + 2 * ag) mh)) :: .inl _ :: .inl _ :: .inl _ :: .inl _ :: .inl _ :: .inl _ :: .inl _ :: .inl _ :: .inl _ :: .inl _ :: .inr (fun v w' => ∃ g, v = .slice (some ⟨g, 0, none⟩) 2 2 ∧ CellsAt w' g (flatL [askL 3 vh aa no, placeL aa])) :: []) (fun w' => CellsAt w' w.heap.size [.int .i64 ag, .int .i64 mh, .int .i64 ml, .int .i64 cm, .int .i64 vh, .int .i64 vl]) (by kernel_rfl) (by kernel_rfl) (p1.drew) (fun _ _ h hE => h.step hE) ?hAa ?hla ?hMa
  case' hMa => skip
  simp only [List.take_succ_cons, List.take_zero, List.drop_succ_cons, List.drop_zero]
  apply wpLoose_val rfl rfl
  case hs =>
    intro w1 hC hd Q1 hQ1
    obtain ⟨hE, hS⟩ := hC
    dsimp only [bare]
    obtain ⟨q0, q1, q2, q3, q4, q5⟩ := (⟨hS.2 0 _ rfl, hS.2 1 _ rfl, hS.2 2 _ rfl, hS.2 3 _ rfl, hS.2 4 _ rfl, hS.2 5 _ rfl⟩ : _ ∧ _ ∧ _ ∧ _ ∧ _ ∧ _)
    clear hd hE
    try clear hS
    go_wp2
    exact Ext.refl _
  case ha => rfl
  refine wpLoose_rel rfl rfl ?_ (fun va_1 => ?_)
  · intro w1 hC hd Q1 hQ1
    obtain ⟨hE, hS⟩ := hC
    dsimp only [bare]
    clear hd hS
    go_wp2_with fail
    refine (HH.out _).mono ?_
    rintro e w2 ⟨g, rfl, r2, x2⟩
    go_wp2_with fail
    exact hQ1 _ _ x2 ⟨g, rfl, r2.mono hE.size⟩
  apply wpLoose_val rfl rfl
  case hs =>
    intro w1 hC hd Q1 hQ1
    obtain ⟨hE, hS⟩ := hC
    dsimp only [bare]
    obtain ⟨q0, q1, q2, q3, q4, q5⟩ := (⟨hS.2 0 _ rfl, hS.2 1 _ rfl, hS.2 2 _ rfl, hS.2 3 _ rfl, hS.2 4 _ rfl, hS.2 5 _ rfl⟩ : _ ∧ _ ∧ _ ∧ _ ∧ _ ∧ _)
    clear hd hE
    try clear hS
    go_wp2
    exact Ext.refl _
  case ha => rfl
  apply wpLoose_val rfl rfl
  case hs =>
    intro w1 hC hd Q1 hQ1
    obtain ⟨hE, hS⟩ := hC
    dsimp only [bare]
    obtain ⟨q0, q1, q2, q3, q4, q5⟩ := (⟨hS.2 0 _ rfl, hS.2 1 _ rfl, hS.2 2 _ rfl, hS.2 3 _ rfl, hS.2 4 _ rfl, hS.2 5 _ rfl⟩ : _ ∧ _ ∧ _ ∧ _ ∧ _ ∧ _)
    clear hd hE
    try clear hS
    go_wp2
    exact Ext.refl _
  case ha => rfl
  apply wpLoose_val rfl rfl
  case hs =>
    intro w1 hC hd Q1 hQ1
    obtain ⟨hE, hS⟩ := hC
    dsimp only [bare]
    obtain ⟨q0, q1, q2, q3, q4, q5⟩ := (⟨hS.2 0 _ rfl, hS.2 1 _ rfl, hS.2 2 _ rfl, hS.2 3 _ rfl, hS.2 4 _ rfl, hS.2 5 _ rfl⟩ : _ ∧ _ ∧ _ ∧ _ ∧ _ ∧ _)
    clear hd hE
    try clear hS
    go_wp2
    exact Ext.refl _
  case ha => rfl
  apply wpLoose_val rfl rfl
  case hs =>
    intro w1 hC hd Q1 hQ1
    obtain ⟨hE, hS⟩ := hC
    dsimp only [bare]
    obtain ⟨q0, q1, q2, q3, q4, q5⟩ := (⟨hS.2 0 _ rfl, hS.2 1 _ rfl, hS.2 2 _ rfl, hS.2 3 _ rfl, hS.2 4 _ rfl, hS.2 5 _ rfl⟩ : _ ∧ _ ∧ _ ∧ _ ∧ _ ∧ _)
    clear hd hE
    try clear hS
    go_wp2
    exact Ext.refl _
  case ha => rfl
  apply wpLoose_val rfl rfl
  case hs =>
    intro w1 hC hd Q1 hQ1
    obtain ⟨hE, hS⟩ := hC
    dsimp only [bare]
    obtain ⟨q0, q1, q2, q3, q4, q5⟩ := (⟨hS.2 0 _ rfl, hS.2 1 _ rfl, hS.2 2 _ rfl, hS.2 3 _ rfl, hS.2 4 _ rfl, hS.2 5 _ rfl⟩ : _ ∧ _ ∧ _ ∧ _ ∧ _ ∧ _)
    clear hd hE
    try clear hS
    go_wp2
    exact Ext.refl _
  case ha => rfl
  apply wpLoose_val rfl rfl
  case hs =>
    intro w1 hC hd Q1 hQ1
    obtain ⟨hE, hS⟩ := hC
    dsimp only [bare]
    obtain ⟨q0, q1, q2, q3, q4, q5⟩ := (⟨hS.2 0 _ rfl, hS.2 1 _ rfl, hS.2 2 _ rfl, hS.2 3 _ rfl, hS.2 4 _ rfl, hS.2 5 _ rfl⟩ : _ ∧ _ ∧ _ ∧ _ ∧ _ ∧ _)
    clear hd hE
    try clear hS
    go_wp2
    exact Ext.refl _
  case ha => rfl
  apply wpLoose_val rfl rfl
  case hs =>
    intro w1 hC hd Q1 hQ1
    obtain ⟨hE, hS⟩ := hC
    dsimp only [bare]
    clear hd
    go_wp2_with fail
    refine (asks_any 3 vh aa no _).mono ?_
    rintro e w2 ⟨rfl, hb⟩
    go_wp2_with fail
    exact hb
  case ha => rfl
  apply wpLoose_val rfl rfl
  case hs =>
    intro w1 hC hd Q1 hQ1
    obtain ⟨hE, hS⟩ := hC
    dsimp only [bare]
    obtain ⟨q0, q1, q2, q3, q4, q5⟩ := (⟨hS.2 0 _ rfl, hS.2 1 _ rfl, hS.2 2 _ rfl, hS.2 3 _ rfl, hS.2 4 _ rfl, hS.2 5 _ rfl⟩ : _ ∧ _ ∧ _ ∧ _ ∧ _ ∧ _)
    clear hd hE
    try clear hS
    go_wp2
    exact Ext.refl _
  case ha => rfl
  apply wpLoose_val rfl rfl
  case hs =>
    intro w1 hC hd Q1 hQ1
    obtain ⟨hE, hS⟩ := hC
    dsimp only [bare]
    obtain ⟨q0, q1, q2, q3, q4, q5⟩ := (⟨hS.2 0 _ rfl, hS.2 1 _ rfl, hS.2 2 _ rfl, hS.2 3 _ rfl, hS.2 4 _ rfl, hS.2 5 _ rfl⟩ : _ ∧ _ ∧ _ ∧ _ ∧ _ ∧ _)
    clear hd hE
    try clear hS
    go_wp2
    exact Ext.refl _
  case ha => rfl
  apply wpLoose_val rfl rfl
  case hs =>
    intro w1 hC hd Q1 hQ1
    obtain ⟨hE, hS⟩ := hC
    dsimp only [bare]
    obtain ⟨q0, q1, q2, q3, q4, q5⟩ := (⟨hS.2 0 _ rfl, hS.2 1 _ rfl, hS.2 2 _ rfl, hS.2 3 _ rfl, hS.2 4 _ rfl, hS.2 5 _ rfl⟩ : _ ∧ _ ∧ _ ∧ _ ∧ _ ∧ _)
    clear hd hE
    try clear hS
    go_wp2
    exact Ext.refl _
  case ha => rfl
  refine wpLoose_rel rfl rfl ?_ (fun va_12 => ?_)
  · intro w1 hC hd Q1 hQ1
    obtain ⟨hE, hS⟩ := hC
    dsimp only [bare]
    clear hd hS hE
    go_wp2
    exact hQ1 _ _ ((Below.refl _ _).alloc (Nat.le_refl _) _) ⟨_, rfl, CellsAt.new _ (flatL [askL 3 vh aa no, placeL aa]) _⟩
  refine wpLoose_nil ?_
  intro wa hEa hSa hFa
  obtain ⟨g1, rfl, r1⟩ := hFa 1 _ rfl (by decide) (by simp [Act.put])
  obtain ⟨g2, rfl, r2⟩ := hFa 12 _ rfl (by decide) (by simp [Act.put])
  simp only [Act.put]
  have HX2 : Hid (Ext W1 wa) := (Ext.refl W1).drew.trans hEa
  have HQ : Hid (CellsAt wa w.heap.size [.int .i64 ag, .int .i64 mh, .int .i64 ml, .int .i64 cm, .int .i64 vh, .int .i64 vl]) := hSa
  clear hFa hSa hEa p1 HH
  refine append_lines _ rfl _ _ rfl (w0 := W1) _ (loadL (3 + 2 * ag) mh) [askL 3 vh aa no, placeL aa] rfl r1 HX2.out g2 2 2 rfl rfl r2.2 (by simp [loadL]) ?_
  intro v3 w3 own3 x3
  have HQ3 := HQ.out.of HX2.out x3 HP.out
  obtain ⟨q0, q1, q2, q3, q4, q5⟩ := (⟨HQ3.2 0 _ rfl, HQ3.2 1 _ rfl, HQ3.2 2 _ rfl, HQ3.2 3 _ rfl, HQ3.2 4 _ rfl, HQ3.2 5 _ rfl⟩ : _ ∧ _ ∧ _ ∧ _ ∧ _ ∧ _)
  clear r1 r2 HQ HX2
  go_wp2_with fail
  refine (HL.out _).mono ?_
  rintro e w4 ⟨g4, rfl, r4, x4⟩
  have own4 := own3.ext x4
  have x14 := x3.trans x4
  have HQ4 := HQ3.step x4
  clear own3 x3 x4 q0 q1 q2 q3 q4 q5 HQ3 HL
  go_wp2_with (at_builtin; refine append_lines _ rfl _ _ rfl (w0 := W1) _ _ (loadL (2 + 2 * ag) ml) rfl own4 x14 g4 2 2 rfl rfl r4.cell (by simp [loadL]) ?_)
  intro v5 w5 own5 x5
  have HQ5 := HQ4.of x14 x5 HP.out
  obtain ⟨q0, q1, q2, q3, q4, q5⟩ := (⟨HQ5.2 0 _ rfl, HQ5.2 1 _ rfl, HQ5.2 2 _ rfl, HQ5.2 3 _ rfl, HQ5.2 4 _ rfl, HQ5.2 5 _ rfl⟩ : _ ∧ _ ∧ _ ∧ _ ∧ _ ∧ _)
  clear own4 x14 HQ4 r4
  go_wp2_with fail
  refine (asks_any 3 vl yes no _).mono ?_
  rintro e w6 ⟨rfl, x6⟩
  have own6 := own5.ext x6
  have x16 := x5.trans x6
  clear own5 x5 x6 q0 q1 q2 q3 q4 q5 HQ5
  go_wp2_with (at_builtin; refine append_lines _ rfl _ _ rfl (w0 := W1) _ _ [askL 3 vl yes no] rfl (own6.ext (Ext.one _ _)) (x16.alloc _) w6.heap.size 1 1 rfl rfl (CellsAt.new w6 (flatL [askL 3 vl yes no]) 38).2 (by simp [loadL]) ?_)
  intro v7 w7 own7 x7
  clear own6 x16
  have O7 : Hid (OwnL w7 w.heap.size v7 (sameC ⟨ag, mh, ml, cm, vh, vl⟩ aa yes no)) := own7.mono HX.out.size
  have X7 : Hid (Ext w w7) := HX.out.trans x7
  clear own7 x7
  go_wp2
  go_ret
  exact ⟨_, rfl, O7.out, X7.out⟩
  case hAa => kernel_rfl
  case hla => exact ⟨trivial, fun _ _ _ ⟨g, hv, h⟩ hE => ⟨g, hv, h.ext hE⟩, trivial, trivial, trivial, trivial, trivial, trivial, trivial, trivial, trivial, trivial, fun _ _ _ ⟨g, hv, h⟩ hE => ⟨g, hv, h.step hE⟩, trivial⟩

set_option maxRecDepth 100000 in
set_option maxHeartbeats 4000000 in
theorem sAbove_any (ag mh ml cm vh vl o : Int) (base yes no : ByteArray) (w : World) (h0 : 0 ≤ ag) (h1 : ag ≤ 2) (hs : base.size ≤ 1000000000) :
    Calls Tryd.prog 52 #[.agg #[.int .i64 ag, .int .i64 mh, .int .i64 ml, .int .i64 cm, .int .i64 vh, .int .i64 vl], .int .i64 o, .string base, .string yes, .string no] w fun e w' => ∃ v, e = .returned v ∧ OwnL w' w.heap.size v (moreC ⟨ag, mh, ml, cm, vh, vl⟩ o (labA2 base) (labB2 base) yes no) ∧ Ext w w' := by
  have HL : Hid (∀ W, Calls Tryd.prog 84 #[.agg #[.int .i64 ag, .int .i64 mh, .int .i64 ml, .int .i64 cm, .int .i64 vh, .int .i64 vl], .bool false] W fun e w' => ∃ g, e = .returned (.slice (some ⟨g, 0, none⟩) 2 2) ∧ OwnL w' W.heap.size (.slice (some ⟨g, 0, none⟩) 2 2) (loadL (2 + 2 * ag) ml) ∧ Ext W w') := fun W => halfF_any ag mh ml cm vh vl W h0 h1
  have HH : Hid (∀ W, Calls Tryd.prog 84 #[.agg #[.int .i64 ag, .int .i64 mh, .int .i64 ml, .int .i64 cm, .int .i64 vh, .int .i64 vl], .bool true] W fun e w' => ∃ g, e = .returned (.slice (some ⟨g, 0, none⟩) 2 2) ∧ OwnL w' W.heap.size (.slice (some ⟨g, 0, none⟩) 2 2) (loadL (3 + 2 * ag) mh) ∧ Ext W w') := fun W => halfT_any ag mh ml cm vh vl W h0 h1
  obtain ⟨aa, haa⟩ : ∃ aa, aa = labA2 base := ⟨_, rfl⟩
  have had : ∀ wx, (Op.stringOp .add base ⟨#[97]⟩).run Tryd.prog wx = .ok (.string aa) wx := fun wx => by
    rw [haa]; exact run_string_add_sum (P := Tryd.prog) wx base ⟨#[97]⟩ (by show base.size + 1 ≤ _; omega)
  rw [← haa]
  obtain ⟨bb, hbb⟩ : ∃ aa, aa = labB2 base := ⟨_, rfl⟩
  have hadb : ∀ wx, (Op.stringOp .add base ⟨#[98]⟩).run Tryd.prog wx = .ok (.string bb) wx := fun wx => by
    rw [hbb]; exact run_string_add_sum (P := Tryd.prog) wx base ⟨#[98]⟩ (by show base.size + 1 ≤ _; omega)
  rw [← hbb]
  clear hbb
  clear haa
  go_enter Tryd.func52, Tryd.ntmps52
  go_wp2_with fail
  obtain ⟨W1, hW1⟩ : ∃ W, W = w.alloc (.cells #[.int .i64 ag, .int .i64 mh, .int .i64 ml, .int .i64 cm, .int .i64 vh, .int .i64 vl] 27) := ⟨_, rfl⟩
  have HX : Hid (Ext w W1) := by rw [hW1]; exact Ext.one w _
  have p1 : CellsAt W1 w.heap.size [.int .i64 ag, .int .i64 mh, .int .i64 ml, .int .i64 cm, .int .i64 vh, .int .i64 vl] := by rw [hW1]; exact CellsAt.new w [.int .i64 ag, .int .i64 mh, .int .i64 ml, .int .i64 cm, .int .i64 vh, .int .i64 vl] 27
  have HP : Hid (w.heap.size < W1.heap.size) := p1.1
  rw [← hW1]
  clear hW1
  refine' wp_region_loose_tail 13 (.inl _ :: .inr (fun v w' => ∃ g, v = .slice (some ⟨g, 0, none⟩) 2 2 ∧ OwnL w' W1.heap.size v (loadL (3 + 2 * ag) mh)) :: .inl _ :: .inl _ :: .inl _ :: .inl _ :: .inl _ :: .inl _ :: .inl _ :: .inl _ :: .inl _ :: .inl _ :: .inr (fun v w' => ∃ g, v = .slice (some ⟨g, 0, none⟩) 2 2 ∧ CellsAt w' g (flatL [askL 4 vh yes aa, placeL aa])) :: []) (fun w' => CellsAt w' w.heap.size [.int .i64 ag, .int .i64 mh, .int .i64 ml, .int .i64 cm, .int .i64 vh, .int .i64 vl]) (by kernel_rfl) (by kernel_rfl) (p1.drew) (fun _ _ h hE => h.step hE) ?hAa ?hla ?hMa
  case' hMa => skip
  simp only [List.take_succ_cons, List.take_zero, List.drop_succ_cons, List.drop_zero]
  apply wpLoose_val rfl rfl
  case hs =>
    intro w1 hC hd Q1 hQ1
    obtain ⟨hE, hS⟩ := hC
    dsimp only [bare]
    obtain ⟨q0, q1, q2, q3, q4, q5⟩ := (⟨hS.2 0 _ rfl, hS.2 1 _ rfl, hS.2 2 _ rfl, hS.2 3 _ rfl, hS.2 4 _ rfl, hS.2 5 _ rfl⟩ : _ ∧ _ ∧ _ ∧ _ ∧ _ ∧ _)
    clear hd hE
    try clear hS
    go_wp2
    exact Ext.refl _
  case ha => rfl
  refine wpLoose_rel rfl rfl ?_ (fun va_1 => ?_)
  · intro w1 hC hd Q1 hQ1
    obtain ⟨hE, hS⟩ := hC
    dsimp only [bare]
    clear hd hS
    go_wp2_with fail
    refine (HH.out _).mono ?_
    rintro e w2 ⟨g, rfl, r2, x2⟩
    go_wp2_with fail
    exact hQ1 _ _ x2 ⟨g, rfl, r2.mono hE.size⟩
  apply wpLoose_val rfl rfl
  case hs =>
    intro w1 hC hd Q1 hQ1
    obtain ⟨hE, hS⟩ := hC
    dsimp only [bare]
    obtain ⟨q0, q1, q2, q3, q4, q5⟩ := (⟨hS.2 0 _ rfl, hS.2 1 _ rfl, hS.2 2 _ rfl, hS.2 3 _ rfl, hS.2 4 _ rfl, hS.2 5 _ rfl⟩ : _ ∧ _ ∧ _ ∧ _ ∧ _ ∧ _)
    clear hd hE
    try clear hS
    go_wp2
    exact Ext.refl _
  case ha => rfl
  apply wpLoose_val rfl rfl
  case hs =>
    intro w1 hC hd Q1 hQ1
    obtain ⟨hE, hS⟩ := hC
    dsimp only [bare]
    obtain ⟨q0, q1, q2, q3, q4, q5⟩ := (⟨hS.2 0 _ rfl, hS.2 1 _ rfl, hS.2 2 _ rfl, hS.2 3 _ rfl, hS.2 4 _ rfl, hS.2 5 _ rfl⟩ : _ ∧ _ ∧ _ ∧ _ ∧ _ ∧ _)
    clear hd hE
    try clear hS
    go_wp2
    exact Ext.refl _
  case ha => rfl
  apply wpLoose_val rfl rfl
  case hs =>
    intro w1 hC hd Q1 hQ1
    obtain ⟨hE, hS⟩ := hC
    dsimp only [bare]
    obtain ⟨q0, q1, q2, q3, q4, q5⟩ := (⟨hS.2 0 _ rfl, hS.2 1 _ rfl, hS.2 2 _ rfl, hS.2 3 _ rfl, hS.2 4 _ rfl, hS.2 5 _ rfl⟩ : _ ∧ _ ∧ _ ∧ _ ∧ _ ∧ _)
    clear hd hE
    try clear hS
    go_wp2
    exact Ext.refl _
  case ha => rfl
  apply wpLoose_val rfl rfl
  case hs =>
    intro w1 hC hd Q1 hQ1
    obtain ⟨hE, hS⟩ := hC
    dsimp only [bare]
    obtain ⟨q0, q1, q2, q3, q4, q5⟩ := (⟨hS.2 0 _ rfl, hS.2 1 _ rfl, hS.2 2 _ rfl, hS.2 3 _ rfl, hS.2 4 _ rfl, hS.2 5 _ rfl⟩ : _ ∧ _ ∧ _ ∧ _ ∧ _ ∧ _)
    clear hd hE
    try clear hS
    go_wp2
    exact Ext.refl _
  case ha => rfl
  apply wpLoose_val rfl rfl
  case hs =>
    intro w1 hC hd Q1 hQ1
    obtain ⟨hE, hS⟩ := hC
    dsimp only [bare]
    obtain ⟨q0, q1, q2, q3, q4, q5⟩ := (⟨hS.2 0 _ rfl, hS.2 1 _ rfl, hS.2 2 _ rfl, hS.2 3 _ rfl, hS.2 4 _ rfl, hS.2 5 _ rfl⟩ : _ ∧ _ ∧ _ ∧ _ ∧ _ ∧ _)
    clear hd hE
    try clear hS
    go_wp2
    exact Ext.refl _
  case ha => rfl
  apply wpLoose_val rfl rfl
  case hs =>
    intro w1 hC hd Q1 hQ1
    obtain ⟨hE, hS⟩ := hC
    dsimp only [bare]
    obtain ⟨q0, q1, q2, q3, q4, q5⟩ := (⟨hS.2 0 _ rfl, hS.2 1 _ rfl, hS.2 2 _ rfl, hS.2 3 _ rfl, hS.2 4 _ rfl, hS.2 5 _ rfl⟩ : _ ∧ _ ∧ _ ∧ _ ∧ _ ∧ _)
    clear hd hE
    try clear hS
    go_wp2
    exact Ext.refl _
  case ha => rfl
  apply wpLoose_val rfl rfl
  case hs =>
    intro w1 hC hd Q1 hQ1
    obtain ⟨hE, hS⟩ := hC
    dsimp only [bare]
    clear hd
    go_wp2_with fail
    refine (asks_any 4 vh yes aa _).mono ?_
    rintro e w2 ⟨rfl, hb⟩
    go_wp2_with fail
    exact hb
  case ha => rfl
  apply wpLoose_val rfl rfl
  case hs =>
    intro w1 hC hd Q1 hQ1
    obtain ⟨hE, hS⟩ := hC
    dsimp only [bare]
    obtain ⟨q0, q1, q2, q3, q4, q5⟩ := (⟨hS.2 0 _ rfl, hS.2 1 _ rfl, hS.2 2 _ rfl, hS.2 3 _ rfl, hS.2 4 _ rfl, hS.2 5 _ rfl⟩ : _ ∧ _ ∧ _ ∧ _ ∧ _ ∧ _)
    clear hd hE
    try clear hS
    go_wp2
    exact Ext.refl _
  case ha => rfl
  apply wpLoose_val rfl rfl
  case hs =>
    intro w1 hC hd Q1 hQ1
    obtain ⟨hE, hS⟩ := hC
    dsimp only [bare]
    obtain ⟨q0, q1, q2, q3, q4, q5⟩ := (⟨hS.2 0 _ rfl, hS.2 1 _ rfl, hS.2 2 _ rfl, hS.2 3 _ rfl, hS.2 4 _ rfl, hS.2 5 _ rfl⟩ : _ ∧ _ ∧ _ ∧ _ ∧ _ ∧ _)
    clear hd hE
    try clear hS
    go_wp2
    exact Ext.refl _
  case ha => rfl
  apply wpLoose_val rfl rfl
  case hs =>
    intro w1 hC hd Q1 hQ1
    obtain ⟨hE, hS⟩ := hC
    dsimp only [bare]
    obtain ⟨q0, q1, q2, q3, q4, q5⟩ := (⟨hS.2 0 _ rfl, hS.2 1 _ rfl, hS.2 2 _ rfl, hS.2 3 _ rfl, hS.2 4 _ rfl, hS.2 5 _ rfl⟩ : _ ∧ _ ∧ _ ∧ _ ∧ _ ∧ _)
    clear hd hE
    try clear hS
    go_wp2
    exact Ext.refl _
  case ha => rfl
  refine wpLoose_rel rfl rfl ?_ (fun va_12 => ?_)
  · intro w1 hC hd Q1 hQ1
    obtain ⟨hE, hS⟩ := hC
    dsimp only [bare]
    clear hd hS hE
    go_wp2
    exact hQ1 _ _ ((Below.refl _ _).alloc (Nat.le_refl _) _) ⟨_, rfl, CellsAt.new _ (flatL [askL 4 vh yes aa, placeL aa]) _⟩
  refine wpLoose_nil ?_
  intro wa hEa hSa hFa
  obtain ⟨g1, rfl, r1⟩ := hFa 1 _ rfl (by decide) (by simp [Act.put])
  obtain ⟨g2, rfl, r2⟩ := hFa 12 _ rfl (by decide) (by simp [Act.put])
  simp only [Act.put]
  have HX2 : Hid (Ext W1 wa) := (Ext.refl W1).drew.trans hEa
  have HQ : Hid (CellsAt wa w.heap.size [.int .i64 ag, .int .i64 mh, .int .i64 ml, .int .i64 cm, .int .i64 vh, .int .i64 vl]) := hSa
  clear hFa hSa hEa p1 HH
  refine append_lines _ rfl _ _ rfl (w0 := W1) _ (loadL (3 + 2 * ag) mh) [askL 4 vh yes aa, placeL aa] rfl r1 HX2.out g2 2 2 rfl rfl r2.2 (by simp [loadL]) ?_
  intro v3 w3 own3 x3
  have HQ3 := HQ.out.of HX2.out x3 HP.out
  obtain ⟨q0, q1, q2, q3, q4, q5⟩ := (⟨HQ3.2 0 _ rfl, HQ3.2 1 _ rfl, HQ3.2 2 _ rfl, HQ3.2 3 _ rfl, HQ3.2 4 _ rfl, HQ3.2 5 _ rfl⟩ : _ ∧ _ ∧ _ ∧ _ ∧ _ ∧ _)
  clear r1 r2 HQ HX2
  go_wp2_with fail
  refine (asks_any 3 vh bb no _).mono ?_
  rintro e w8 ⟨rfl, x8⟩
  have own8 := own3.ext x8
  have x18 := x3.trans x8
  have HQ8 := HQ3.step x8
  clear own3 x3 x8 q0 q1 q2 q3 q4 q5 HQ3
  go_wp2_with (at_builtin; refine append_lines _ rfl _ _ rfl (w0 := W1) _ _ [askL 3 vh bb no, placeL bb] rfl (own8.ext (Ext.one _ _)) (x18.alloc _) w8.heap.size 2 2 rfl rfl (CellsAt.new w8 (flatL [askL 3 vh bb no, placeL bb]) 38).2 (by simp [loadL]) ?_)
  intro v9 w9 own9 x9
  have HQ9 := HQ8.of x18 x9 HP.out
  obtain ⟨q0, q1, q2, q3, q4, q5⟩ := (⟨HQ9.2 0 _ rfl, HQ9.2 1 _ rfl, HQ9.2 2 _ rfl, HQ9.2 3 _ rfl, HQ9.2 4 _ rfl, HQ9.2 5 _ rfl⟩ : _ ∧ _ ∧ _ ∧ _ ∧ _ ∧ _)
  clear own8 x18 HQ8
  go_wp2_with fail
  refine (HL.out _).mono ?_
  rintro e w4 ⟨g4, rfl, r4, x4⟩
  have own4 := own9.ext x4
  have x14 := x9.trans x4
  have HQ4 := HQ9.step x4
  clear own9 x9 x4 q0 q1 q2 q3 q4 q5 HQ9 HL
  go_wp2_with (at_builtin; refine append_lines _ rfl _ _ rfl (w0 := W1) _ _ (loadL (2 + 2 * ag) ml) rfl own4 x14 g4 2 2 rfl rfl r4.cell (by simp [loadL]) ?_)
  intro v5 w5 own5 x5
  have HQ5 := HQ4.of x14 x5 HP.out
  obtain ⟨q0, q1, q2, q3, q4, q5⟩ := (⟨HQ5.2 0 _ rfl, HQ5.2 1 _ rfl, HQ5.2 2 _ rfl, HQ5.2 3 _ rfl, HQ5.2 4 _ rfl, HQ5.2 5 _ rfl⟩ : _ ∧ _ ∧ _ ∧ _ ∧ _ ∧ _)
  clear own4 x14 HQ4 r4
  go_wp2_with fail
  refine (asks_any o vl yes no _).mono ?_
  rintro e w6 ⟨rfl, x6⟩
  have own6 := own5.ext x6
  have x16 := x5.trans x6
  clear own5 x5 x6 q0 q1 q2 q3 q4 q5 HQ5
  go_wp2_with (at_builtin; refine append_lines _ rfl _ _ rfl (w0 := W1) _ _ [askL o vl yes no] rfl (own6.ext (Ext.one _ _)) (x16.alloc _) w6.heap.size 1 1 rfl rfl (CellsAt.new w6 (flatL [askL o vl yes no]) 38).2 (by simp [loadL]) ?_)
  intro v7 w7 own7 x7
  clear own6 x16
  have O7 : Hid (OwnL w7 w.heap.size v7 (moreC ⟨ag, mh, ml, cm, vh, vl⟩ o aa bb yes no)) := own7.mono HX.out.size
  have X7 : Hid (Ext w w7) := HX.out.trans x7
  clear own7 x7
  go_wp2
  go_ret
  exact ⟨_, rfl, O7.out, X7.out⟩
  case hAa => kernel_rfl
  case hla => exact ⟨trivial, fun _ _ _ ⟨g, hv, h⟩ hE => ⟨g, hv, h.ext hE⟩, trivial, trivial, trivial, trivial, trivial, trivial, trivial, trivial, trivial, trivial, fun _ _ _ ⟨g, hv, h⟩ hE => ⟨g, hv, h.step hE⟩, trivial⟩

set_option maxRecDepth 100000 in
set_option maxHeartbeats 4000000 in
theorem sCondLines_any (ag mh ml cm vh vl : Int) (base yes no : ByteArray) (w : World) (hs : base.size ≤ 1000000000) :
    Calls Tryd.prog 19 #[.agg #[.int .i64 ag, .int .i64 mh, .int .i64 ml, .int .i64 cm, .int .i64 vh, .int .i64 vl], .string base, .string yes, .string no] w fun e w' => ∃ a cap, e = .returned (.slice (some a) (condL ⟨ag, mh, ml, cm, vh, vl⟩ base yes no).length cap) ∧ OwnL w' w.heap.size (.slice (some a) (condL ⟨ag, mh, ml, cm, vh, vl⟩ base yes no).length cap) (condL ⟨ag, mh, ml, cm, vh, vl⟩ base yes no) ∧ Ext w w' := by
  have HA : Hid (∀ (yes no : ByteArray) W, 0 ≤ ag → ag ≤ 2 → Calls Tryd.prog 51 #[.agg #[.int .i64 ag, .int .i64 mh, .int .i64 ml, .int .i64 cm, .int .i64 vh, .int .i64 vl], .string base, .string yes, .string no] W fun e w' => ∃ v, e = .returned v ∧ OwnL w' W.heap.size v (sameC ⟨ag, mh, ml, cm, vh, vl⟩ (labA2 base) yes no) ∧ Ext W w') := fun yes no W h0 h1 => sSame_any ag mh ml cm vh vl base yes no W h0 h1 hs
  have HM : Hid (∀ (o : Int) (yes no : ByteArray) W, 0 ≤ ag → ag ≤ 2 → Calls Tryd.prog 52 #[.agg #[.int .i64 ag, .int .i64 mh, .int .i64 ml, .int .i64 cm, .int .i64 vh, .int .i64 vl], .int .i64 o, .string base, .string yes, .string no] W fun e w' => ∃ v, e = .returned v ∧ OwnL w' W.heap.size v (moreC ⟨ag, mh, ml, cm, vh, vl⟩ o (labA2 base) (labB2 base) yes no) ∧ Ext W w') := fun o yes no W h0 h1 => sAbove_any ag mh ml cm vh vl o base yes no W h0 h1 hs
  obtain ⟨z, hz⟩ : ∃ z, z = condB ⟨ag, mh, ml, cm, vh, vl⟩ := ⟨_, rfl⟩
  obtain ⟨L, hL⟩ : ∃ L, L = condL ⟨ag, mh, ml, cm, vh, vl⟩ base yes no := ⟨_, rfl⟩
  have HC : Hid (∀ w, Calls Tryd.prog 48 #[.agg #[.int .i64 ag, .int .i64 mh, .int .i64 ml, .int .i64 cm, .int .i64 vh, .int .i64 vl]] w fun e w' => e = .returned (.bool z) ∧ Ext w w') := fun w => by rw [hz]; exact sCondOk_any ag mh ml cm vh vl w
  have HZ : Hid (z = condB ⟨ag, mh, ml, cm, vh, vl⟩) := hz
  have HL : Hid (L = condL ⟨ag, mh, ml, cm, vh, vl⟩ base yes no) := hL
  rw [← hL]
  clear hs hz hL
  go_enter Tryd.func19, Tryd.ntmps19
  go_wp2_with fail
  refine (HC.out _).mono ?_
  rintro e w1 ⟨rfl, x1⟩
  have X1 : Hid (Ext w w1) := (Ext.one w _).trans x1
  have p1 : CellsAt w1 w.heap.size [.int .i64 ag, .int .i64 mh, .int .i64 ml, .int .i64 cm, .int .i64 vh, .int .i64 vl] := (CellsAt.new w [.int .i64 ag, .int .i64 mh, .int .i64 ml, .int .i64 cm, .int .i64 vh, .int .i64 vl] 27).step x1
  obtain ⟨q0, q1, q2, q3, q4, q5⟩ := (⟨p1.2 0 _ rfl, p1.2 1 _ rfl, p1.2 2 _ rfl, p1.2 3 _ rfl, p1.2 4 _ rfl, p1.2 5 _ rfl⟩ : _ ∧ _ ∧ _ ∧ _ ∧ _ ∧ _)
  clear x1 p1 HC
  cases z with
  | false =>
    obtain rfl : L = [] := by rw [HL.out]; exact condL_bad HZ.out.symm
    go_wp2
    go_ret
    exact ⟨_, _, rfl, OwnL.lit [] X1.out.size _ 0 _ rfl rfl rfl (by decide), X1.out.alloc _⟩
  | true =>
    obtain ⟨h0, h1, h6⟩ := cm_six HZ.out.symm
    have HI : Hid (0 ≤ ag ∧ ag ≤ 2) := ⟨h0, h1⟩
    clear h0 h1
    have HB : Hid (condB ⟨ag, mh, ml, cm, vh, vl⟩ = true) := HZ.out.symm
    clear HZ
    rcases h6 with rfl | rfl | rfl | rfl | rfl | rfl
    · obtain rfl : L = sameC ⟨ag, mh, ml, 1, vh, vl⟩ (labA2 base) yes no := by rw [HL.out]; unfold condL; rw [if_pos HB.out]; rfl
      go_wp2_with fail
      refine (HA.out yes no _ HI.out.1 HI.out.2).mono ?_
      rintro e w2 ⟨v, rfl, own2, x2⟩
      obtain ⟨a2, c2, rfl, _, _, h2⟩ := own2.lns
      obtain ⟨g2, rfl, _⟩ := h2 (by simp [sameC])
      have O2 : Hid (OwnL w2 w.heap.size (.slice (some ⟨g2, 0, none⟩) (sameC ⟨ag, mh, ml, 1, vh, vl⟩ (labA2 base) yes no).length c2) (sameC ⟨ag, mh, ml, 1, vh, vl⟩ (labA2 base) yes no)) := own2.mono X1.out.size
      have X2 : Hid (Ext w w2) := X1.out.trans x2
      clear own2 x2 q0 q1 q2 q3 q4 q5 HA HM
      go_wp2
      go_ret
      exact ⟨_, _, rfl, O2.out, X2.out⟩
    · obtain rfl : L = sameC ⟨ag, mh, ml, 2, vh, vl⟩ (labA2 base) no yes := by rw [HL.out]; unfold condL; rw [if_pos HB.out]; rfl
      go_wp2_with fail
      refine (HA.out no yes _ HI.out.1 HI.out.2).mono ?_
      rintro e w2 ⟨v, rfl, own2, x2⟩
      obtain ⟨a2, c2, rfl, _, _, h2⟩ := own2.lns
      obtain ⟨g2, rfl, _⟩ := h2 (by simp [sameC])
      have O2 : Hid (OwnL w2 w.heap.size (.slice (some ⟨g2, 0, none⟩) (sameC ⟨ag, mh, ml, 2, vh, vl⟩ (labA2 base) no yes).length c2) (sameC ⟨ag, mh, ml, 2, vh, vl⟩ (labA2 base) no yes)) := own2.mono X1.out.size
      have X2 : Hid (Ext w w2) := X1.out.trans x2
      clear own2 x2 q0 q1 q2 q3 q4 q5 HA HM
      go_wp2
      go_ret
      exact ⟨_, _, rfl, O2.out, X2.out⟩
    · obtain rfl : L = moreC ⟨ag, mh, ml, 5, vh, vl⟩ 4 (labA2 base) (labB2 base) yes no := by rw [HL.out]; unfold condL; rw [if_pos HB.out]; rfl
      go_wp2_with fail
      refine (HM.out 4 yes no _ HI.out.1 HI.out.2).mono ?_
      rintro e w2 ⟨v, rfl, own2, x2⟩
      obtain ⟨a2, c2, rfl, _, _, h2⟩ := own2.lns
      obtain ⟨g2, rfl, _⟩ := h2 (by simp [moreC])
      have O2 : Hid (OwnL w2 w.heap.size (.slice (some ⟨g2, 0, none⟩) (moreC ⟨ag, mh, ml, 5, vh, vl⟩ 4 (labA2 base) (labB2 base) yes no).length c2) (moreC ⟨ag, mh, ml, 5, vh, vl⟩ 4 (labA2 base) (labB2 base) yes no)) := own2.mono X1.out.size
      have X2 : Hid (Ext w w2) := X1.out.trans x2
      clear own2 x2 q0 q1 q2 q3 q4 q5 HA HM
      go_wp2
      go_ret
      exact ⟨_, _, rfl, O2.out, X2.out⟩
    · obtain rfl : L = moreC ⟨ag, mh, ml, 4, vh, vl⟩ 4 (labA2 base) (labB2 base) no yes := by rw [HL.out]; unfold condL; rw [if_pos HB.out]; rfl
      go_wp2_with fail
      refine (HM.out 4 no yes _ HI.out.1 HI.out.2).mono ?_
      rintro e w2 ⟨v, rfl, own2, x2⟩
      obtain ⟨a2, c2, rfl, _, _, h2⟩ := own2.lns
      obtain ⟨g2, rfl, _⟩ := h2 (by simp [moreC])
      have O2 : Hid (OwnL w2 w.heap.size (.slice (some ⟨g2, 0, none⟩) (moreC ⟨ag, mh, ml, 4, vh, vl⟩ 4 (labA2 base) (labB2 base) no yes).length c2) (moreC ⟨ag, mh, ml, 4, vh, vl⟩ 4 (labA2 base) (labB2 base) no yes)) := own2.mono X1.out.size
      have X2 : Hid (Ext w w2) := X1.out.trans x2
      clear own2 x2 q0 q1 q2 q3 q4 q5 HA HM
      go_wp2
      go_ret
      exact ⟨_, _, rfl, O2.out, X2.out⟩
    · obtain rfl : L = moreC ⟨ag, mh, ml, 6, vh, vl⟩ 5 (labA2 base) (labB2 base) yes no := by rw [HL.out]; unfold condL; rw [if_pos HB.out]; rfl
      go_wp2_with fail
      refine (HM.out 5 yes no _ HI.out.1 HI.out.2).mono ?_
      rintro e w2 ⟨v, rfl, own2, x2⟩
      obtain ⟨a2, c2, rfl, _, _, h2⟩ := own2.lns
      obtain ⟨g2, rfl, _⟩ := h2 (by simp [moreC])
      have O2 : Hid (OwnL w2 w.heap.size (.slice (some ⟨g2, 0, none⟩) (moreC ⟨ag, mh, ml, 6, vh, vl⟩ 5 (labA2 base) (labB2 base) yes no).length c2) (moreC ⟨ag, mh, ml, 6, vh, vl⟩ 5 (labA2 base) (labB2 base) yes no)) := own2.mono X1.out.size
      have X2 : Hid (Ext w w2) := X1.out.trans x2
      clear own2 x2 q0 q1 q2 q3 q4 q5 HA HM
      go_wp2
      go_ret
      exact ⟨_, _, rfl, O2.out, X2.out⟩
    · obtain rfl : L = moreC ⟨ag, mh, ml, 3, vh, vl⟩ 5 (labA2 base) (labB2 base) no yes := by rw [HL.out]; unfold condL; rw [if_pos HB.out]; rfl
      go_wp2_with fail
      refine (HM.out 5 no yes _ HI.out.1 HI.out.2).mono ?_
      rintro e w2 ⟨v, rfl, own2, x2⟩
      obtain ⟨a2, c2, rfl, _, _, h2⟩ := own2.lns
      obtain ⟨g2, rfl, _⟩ := h2 (by simp [moreC])
      have O2 : Hid (OwnL w2 w.heap.size (.slice (some ⟨g2, 0, none⟩) (moreC ⟨ag, mh, ml, 3, vh, vl⟩ 5 (labA2 base) (labB2 base) no yes).length c2) (moreC ⟨ag, mh, ml, 3, vh, vl⟩ 5 (labA2 base) (labB2 base) no yes)) := own2.mono X1.out.size
      have X2 : Hid (Ext w w2) := X1.out.trans x2
      clear own2 x2 q0 q1 q2 q3 q4 q5 HA HM
      go_wp2
      go_ret
      exact ⟨_, _, rfl, O2.out, X2.out⟩

end Go.Proofs.YthflflhcbnianaaDoor
