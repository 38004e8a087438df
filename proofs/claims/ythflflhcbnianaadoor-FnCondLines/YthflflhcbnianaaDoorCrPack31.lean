/- What spec's l12Half, l12Same, l12Above and CondLines answer. (Written by mkcond2.py.) -/
import Derived.Test.YthflflhcbnianaaDoorCrPack28
import Derived.Test.YthflflhcbnianaaDoorCrPack9
/- What impl's CondLines answers: lines of a condition, right or not. (Written by mkcond.py.) -/
namespace Go.Proofs.YthflflhcbnianaaDoor
open Go.RowKit
set_option linter.unusedVariables false

theorem OwnL.nil (w : World) (B : Nat) : OwnL w B (.slice none 0 0) [] := World.ownsRow_nil _ _ _ _

theorem cm_six {ag mh ml cm vh vl : Int} (h : condB ⟨ag, mh, ml, cm, vh, vl⟩ = true) : 0 ≤ ag ∧ ag ≤ 2 ∧ (cm = 1 ∨ cm = 2 ∨ cm = 5 ∨ cm = 4 ∨ cm = 6 ∨ cm = 3) := by
  rw [condB_if] at h
  simp only [Bool.and_eq_true] at h
  obtain ⟨⟨⟨h1, h2⟩, _⟩, _⟩ := h
  rw [inB_true4] at h1 h2
  omega

theorem condL_bad {ag mh ml cm vh vl : Int} {base yes no : ByteArray} (h : condB ⟨ag, mh, ml, cm, vh, vl⟩ = false) : condL ⟨ag, mh, ml, cm, vh, vl⟩ base yes no = [] := by
  unfold condL
  rw [if_neg (by rw [h]; decide)]

set_option maxRecDepth 100000 in
set_option maxHeartbeats 4000000 in
theorem condLines_any (ag mh ml cm vh vl : Int) (base yes no : ByteArray) (w : World) (hs : base.size ≤ 1000000000) :
    Calls Tryd.prog 33 #[.agg #[.int .i64 ag, .int .i64 mh, .int .i64 ml, .int .i64 cm, .int .i64 vh, .int .i64 vl], .string base, .string yes, .string no] w fun e w' => ∃ v, e = .returned v ∧ OwnL w' w.heap.size v (condL ⟨ag, mh, ml, cm, vh, vl⟩ base yes no) ∧ Ext w w' := by
  have HA : Hid (∀ (yes no : ByteArray) W (b : Nat), 0 ≤ ag → ag ≤ 2 → b < W.heap.size → W.cell? ⟨b, 0, none⟩ = some (.string base) → Calls Tryd.prog 71 #[.agg #[.int .i64 ag, .int .i64 mh, .int .i64 ml, .int .i64 cm, .int .i64 vh, .int .i64 vl], .func (.func 70) #[] #[.pointer (some ⟨b, 0, none⟩)], .string yes, .string no] W fun e w' => ∃ v, e = .returned v ∧ OwnL w' W.heap.size v (sameC ⟨ag, mh, ml, cm, vh, vl⟩ (labA2 base) yes no) ∧ Ext W w') := fun yes no W b h0 h1 hb hc => same_any ag mh ml cm vh vl base yes no b W h0 h1 hs hb hc
  have HM : Hid (∀ (o : Int) (yes no : ByteArray) W (b : Nat), 0 ≤ ag → ag ≤ 2 → b < W.heap.size → W.cell? ⟨b, 0, none⟩ = some (.string base) → Calls Tryd.prog 72 #[.agg #[.int .i64 ag, .int .i64 mh, .int .i64 ml, .int .i64 cm, .int .i64 vh, .int .i64 vl], .int .i64 o, .func (.func 70) #[] #[.pointer (some ⟨b, 0, none⟩)], .string yes, .string no] W fun e w' => ∃ v, e = .returned v ∧ OwnL w' W.heap.size v (moreC ⟨ag, mh, ml, cm, vh, vl⟩ o (labA2 base) (labB2 base) yes no) ∧ Ext W w') := fun o yes no W b h0 h1 hb hc => more_any ag mh ml cm vh vl o base yes no b W h0 h1 hs hb hc
  obtain ⟨z, hz⟩ : ∃ z, z = condB ⟨ag, mh, ml, cm, vh, vl⟩ := ⟨_, rfl⟩
  obtain ⟨L, hL⟩ : ∃ L, L = condL ⟨ag, mh, ml, cm, vh, vl⟩ base yes no := ⟨_, rfl⟩
  have HC : Hid (∀ w, Calls Tryd.prog 69 #[.agg #[.int .i64 ag, .int .i64 mh, .int .i64 ml, .int .i64 cm, .int .i64 vh, .int .i64 vl]] w fun e w' => e = .returned (.bool z) ∧ Ext w w') := fun w => by rw [hz]; exact iCondOk_any ag mh ml cm vh vl w
  have HZ : Hid (z = condB ⟨ag, mh, ml, cm, vh, vl⟩) := hz
  have HL : Hid (L = condL ⟨ag, mh, ml, cm, vh, vl⟩ base yes no) := hL
  rw [← hL]
  clear hs hz hL
  go_enter Tryd.func33, Tryd.ntmps33
  go_wp2_with fail
  refine (HC.out _).mono ?_
  rintro e w1 ⟨rfl, x1⟩
  have X1 : Hid (Ext w w1) := ((Ext.one w _).alloc _).trans x1
  have p1 : CellsAt w1 w.heap.size [.int .i64 ag, .int .i64 mh, .int .i64 ml, .int .i64 cm, .int .i64 vh, .int .i64 vl] := ((CellsAt.new w [.int .i64 ag, .int .i64 mh, .int .i64 ml, .int .i64 cm, .int .i64 vh, .int .i64 vl] 27).step (Ext.one _ _)).step x1
  have p2 : CellsAt w1 (w.heap.size + 1) [.string base] := (CellsAt.new' _ [.string base] 9 _ (by simp)).step x1
  have HP : Hid (w.heap.size + 1 < w1.heap.size ∧ w1.cell? ⟨w.heap.size + 1, 0, none⟩ = some (.string base)) := ⟨p2.1, p2.2 0 _ rfl⟩
  obtain ⟨q0, q1, q2, q3, q4, q5⟩ := (⟨p1.2 0 _ rfl, p1.2 1 _ rfl, p1.2 2 _ rfl, p1.2 3 _ rfl, p1.2 4 _ rfl, p1.2 5 _ rfl⟩ : _ ∧ _ ∧ _ ∧ _ ∧ _ ∧ _)
  have hmf : ∀ (fn : Fn) (first cap : Array Value) (w : World), (Instr.makeFunc fn first cap).run Tryd.prog w = .ok (.func fn first cap) w := fun _ _ _ _ => rfl
  clear x1 p1 p2 HC
  cases z with
  | false =>
    obtain rfl : L = [] := by rw [HL.out]; exact condL_bad HZ.out.symm
    go_wp2
    go_ret
    exact ⟨_, rfl, OwnL.nil _ _, X1.out⟩
  | true =>
    obtain ⟨h0, h1, h6⟩ := cm_six HZ.out.symm
    have HI : Hid (0 ≤ ag ∧ ag ≤ 2) := ⟨h0, h1⟩
    clear h0 h1
    have HB : Hid (condB ⟨ag, mh, ml, cm, vh, vl⟩ = true) := HZ.out.symm
    clear HZ
    rcases h6 with rfl | rfl | rfl | rfl | rfl | rfl
    · obtain rfl : L = sameC ⟨ag, mh, ml, 1, vh, vl⟩ (labA2 base) yes no := by rw [HL.out]; unfold condL; rw [if_pos HB.out]; rfl
      go_wp2_with fail
      refine (HA.out yes no _ _ HI.out.1 HI.out.2 HP.out.1 HP.out.2).mono ?_
      rintro e w2 ⟨v, rfl, own2, x2⟩
      have O2 : Hid (OwnL w2 w.heap.size v (sameC ⟨ag, mh, ml, 1, vh, vl⟩ (labA2 base) yes no)) := own2.mono X1.out.size
      have X2 : Hid (Ext w w2) := X1.out.trans x2
      clear own2 x2 q0 q1 q2 q3 q4 q5 HA HM
      go_wp2
      go_ret
      exact ⟨_, rfl, O2.out, X2.out⟩
    · obtain rfl : L = sameC ⟨ag, mh, ml, 2, vh, vl⟩ (labA2 base) no yes := by rw [HL.out]; unfold condL; rw [if_pos HB.out]; rfl
      go_wp2_with fail
      refine (HA.out no yes _ _ HI.out.1 HI.out.2 HP.out.1 HP.out.2).mono ?_
      rintro e w2 ⟨v, rfl, own2, x2⟩
      have O2 : Hid (OwnL w2 w.heap.size v (sameC ⟨ag, mh, ml, 2, vh, vl⟩ (labA2 base) no yes)) := own2.mono X1.out.size
      have X2 : Hid (Ext w w2) := X1.out.trans x2
      clear own2 x2 q0 q1 q2 q3 q4 q5 HA HM
      go_wp2
      go_ret
      exact ⟨_, rfl, O2.out, X2.out⟩
    · obtain rfl : L = moreC ⟨ag, mh, ml, 5, vh, vl⟩ 4 (labA2 base) (labB2 base) yes no := by rw [HL.out]; unfold condL; rw [if_pos HB.out]; rfl
      go_wp2_with fail
      refine (HM.out 4 yes no _ _ HI.out.1 HI.out.2 HP.out.1 HP.out.2).mono ?_
      rintro e w2 ⟨v, rfl, own2, x2⟩
      have O2 : Hid (OwnL w2 w.heap.size v (moreC ⟨ag, mh, ml, 5, vh, vl⟩ 4 (labA2 base) (labB2 base) yes no)) := own2.mono X1.out.size
      have X2 : Hid (Ext w w2) := X1.out.trans x2
      clear own2 x2 q0 q1 q2 q3 q4 q5 HA HM
      go_wp2
      go_ret
      exact ⟨_, rfl, O2.out, X2.out⟩
    · obtain rfl : L = moreC ⟨ag, mh, ml, 4, vh, vl⟩ 4 (labA2 base) (labB2 base) no yes := by rw [HL.out]; unfold condL; rw [if_pos HB.out]; rfl
      go_wp2_with fail
      refine (HM.out 4 no yes _ _ HI.out.1 HI.out.2 HP.out.1 HP.out.2).mono ?_
      rintro e w2 ⟨v, rfl, own2, x2⟩
      have O2 : Hid (OwnL w2 w.heap.size v (moreC ⟨ag, mh, ml, 4, vh, vl⟩ 4 (labA2 base) (labB2 base) no yes)) := own2.mono X1.out.size
      have X2 : Hid (Ext w w2) := X1.out.trans x2
      clear own2 x2 q0 q1 q2 q3 q4 q5 HA HM
      go_wp2
      go_ret
      exact ⟨_, rfl, O2.out, X2.out⟩
    · obtain rfl : L = moreC ⟨ag, mh, ml, 6, vh, vl⟩ 5 (labA2 base) (labB2 base) yes no := by rw [HL.out]; unfold condL; rw [if_pos HB.out]; rfl
      go_wp2_with fail
      refine (HM.out 5 yes no _ _ HI.out.1 HI.out.2 HP.out.1 HP.out.2).mono ?_
      rintro e w2 ⟨v, rfl, own2, x2⟩
      have O2 : Hid (OwnL w2 w.heap.size v (moreC ⟨ag, mh, ml, 6, vh, vl⟩ 5 (labA2 base) (labB2 base) yes no)) := own2.mono X1.out.size
      have X2 : Hid (Ext w w2) := X1.out.trans x2
      clear own2 x2 q0 q1 q2 q3 q4 q5 HA HM
      go_wp2
      go_ret
      exact ⟨_, rfl, O2.out, X2.out⟩
    · obtain rfl : L = moreC ⟨ag, mh, ml, 3, vh, vl⟩ 5 (labA2 base) (labB2 base) no yes := by rw [HL.out]; unfold condL; rw [if_pos HB.out]; rfl
      go_wp2_with fail
      refine (HM.out 5 no yes _ _ HI.out.1 HI.out.2 HP.out.1 HP.out.2).mono ?_
      rintro e w2 ⟨v, rfl, own2, x2⟩
      have O2 : Hid (OwnL w2 w.heap.size v (moreC ⟨ag, mh, ml, 3, vh, vl⟩ 5 (labA2 base) (labB2 base) no yes)) := own2.mono X1.out.size
      have X2 : Hid (Ext w w2) := X1.out.trans x2
      clear own2 x2 q0 q1 q2 q3 q4 q5 HA HM
      go_wp2
      go_ret
      exact ⟨_, rfl, O2.out, X2.out⟩

theorem clone_any (s : ByteArray) (w : World) (hlim : s.size ≤ 281474976710656) :
    Calls Tryd.prog 34 #[.string s] w fun e w' => e = .returned (.string s) ∧ Below w.heap.size w w' := by
  go_enter Tryd.func34, Tryd.ntmps34
  go_wp2_with fail
  refine (Tryd.stringslite_Clone _ _ hlim).mono ?_
  rintro e w' ⟨rfl, hb⟩
  go_wp2
  go_ret
  exact ⟨rfl, hb⟩

set_option maxRecDepth 100000 in
set_option maxHeartbeats 4000000 in
theorem iCondLines_any (ag mh ml cm vh vl : Int) (base yes no : ByteArray) (w : World) (hs : base.size ≤ 1000000000) (hy : yes.size ≤ 1000000000) (hn : no.size ≤ 1000000000) :
    Calls Tryd.prog 8 #[.agg #[.int .i64 ag, .int .i64 mh, .int .i64 ml, .int .i64 cm, .int .i64 vh, .int .i64 vl], .string base, .string yes, .string no] w fun e w' => ∃ v, e = .returned v ∧ OwnL w' w.heap.size v (condL ⟨ag, mh, ml, cm, vh, vl⟩ base yes no) ∧ Ext w w' := by
  have HC : Hid (∀ W, Calls Tryd.prog 33 #[.agg #[.int .i64 ag, .int .i64 mh, .int .i64 ml, .int .i64 cm, .int .i64 vh, .int .i64 vl], .string base, .string yes, .string no] W fun e w' => ∃ v, e = .returned v ∧ OwnL w' W.heap.size v (condL ⟨ag, mh, ml, cm, vh, vl⟩ base yes no) ∧ Ext W w') := fun W => condLines_any ag mh ml cm vh vl base yes no W hs
  have HY : Hid (∀ W, Calls Tryd.prog 34 #[.string yes] W fun e w' => e = .returned (.string yes) ∧ Ext W w') := fun W => clone_any yes W (by omega)
  have HN : Hid (∀ W, Calls Tryd.prog 34 #[.string no] W fun e w' => e = .returned (.string no) ∧ Ext W w') := fun W => clone_any no W (by omega)
  obtain ⟨L, hL⟩ : ∃ L, L = condL ⟨ag, mh, ml, cm, vh, vl⟩ base yes no := ⟨_, rfl⟩
  rw [← hL] at HC ⊢
  clear hs hy hn hL
  go_enter Tryd.func8, Tryd.ntmps8
  go_wp2_with fail
  have p1 := CellsAt.new w [.int .i64 ag, .int .i64 mh, .int .i64 ml, .int .i64 cm, .int .i64 vh, .int .i64 vl] 27
  refine' wp_region_loose_tail 7 (.inl _ :: .inl _ :: .inl _ :: .inl _ :: .inl _ :: .inl _ :: .inr (fun v w' => OwnL w' w.heap.size v L) :: []) (fun w' => CellsAt w' w.heap.size [.int .i64 ag, .int .i64 mh, .int .i64 ml, .int .i64 cm, .int .i64 vh, .int .i64 vl]) (by kernel_rfl) (by kernel_rfl) (p1.drew) (fun _ _ h hE => h.step hE) ?hAa ?hla ?hMa
  case' hMa => skip
  simp only [List.take_succ_cons, List.take_zero, List.drop_succ_cons, List.drop_zero]
  apply wpLoose_val rfl rfl
  case hs =>
    intro w1 hC hd Q1 hQ1
    obtain ⟨hE, hS⟩ := hC
    dsimp only [bare]
    obtain ⟨q0, q1, q2, q3, q4, q5⟩ := (⟨hS.2 0 _ rfl, hS.2 1 _ rfl, hS.2 2 _ rfl, hS.2 3 _ rfl, hS.2 4 _ rfl, hS.2 5 _ rfl⟩ : _ ∧ _ ∧ _ ∧ _ ∧ _ ∧ _)
    clear hd hE
    try clear hS
    go_wp2
    exact Ext.refl _
  case ha => rfl
  apply wpLoose_val rfl rfl
  case hs =>
    intro w1 hC hd Q1 hQ1
    obtain ⟨hE, hS⟩ := hC
    dsimp only [bare]
    obtain ⟨q0, q1, q2, q3, q4, q5⟩ := (⟨hS.2 0 _ rfl, hS.2 1 _ rfl, hS.2 2 _ rfl, hS.2 3 _ rfl, hS.2 4 _ rfl, hS.2 5 _ rfl⟩ : _ ∧ _ ∧ _ ∧ _ ∧ _ ∧ _)
    clear hd hE
    try clear hS
    go_wp2
    exact Ext.refl _
  case ha => rfl
  apply wpLoose_val rfl rfl
  case hs =>
    intro w1 hC hd Q1 hQ1
    obtain ⟨hE, hS⟩ := hC
    dsimp only [bare]
    obtain ⟨q0, q1, q2, q3, q4, q5⟩ := (⟨hS.2 0 _ rfl, hS.2 1 _ rfl, hS.2 2 _ rfl, hS.2 3 _ rfl, hS.2 4 _ rfl, hS.2 5 _ rfl⟩ : _ ∧ _ ∧ _ ∧ _ ∧ _ ∧ _)
    clear hd hE
    try clear hS
    go_wp2
    exact Ext.refl _
  case ha => rfl
  apply wpLoose_val rfl rfl
  case hs =>
    intro w1 hC hd Q1 hQ1
    obtain ⟨hE, hS⟩ := hC
    dsimp only [bare]
    clear hd
    go_wp2_with fail
    refine (HY.out _).mono ?_
    rintro e w2 ⟨rfl, hb⟩
    go_wp2_with fail
    exact hb
  case ha => rfl
  apply wpLoose_val rfl rfl
  case hs =>
    intro w1 hC hd Q1 hQ1
    obtain ⟨hE, hS⟩ := hC
    dsimp only [bare]
    obtain ⟨q0, q1, q2, q3, q4, q5⟩ := (⟨hS.2 0 _ rfl, hS.2 1 _ rfl, hS.2 2 _ rfl, hS.2 3 _ rfl, hS.2 4 _ rfl, hS.2 5 _ rfl⟩ : _ ∧ _ ∧ _ ∧ _ ∧ _ ∧ _)
    clear hd hE
    try clear hS
    go_wp2
    exact Ext.refl _
  case ha => rfl
  apply wpLoose_val rfl rfl
  case hs =>
    intro w1 hC hd Q1 hQ1
    obtain ⟨hE, hS⟩ := hC
    dsimp only [bare]
    clear hd
    go_wp2_with fail
    refine (HN.out _).mono ?_
    rintro e w2 ⟨rfl, hb⟩
    go_wp2_with fail
    exact hb
  case ha => rfl
  refine wpLoose_rel rfl rfl ?_ (fun va_6 => ?_)
  · intro w1 hC hd Q1 hQ1
    obtain ⟨hE, hS⟩ := hC
    dsimp only [bare]
    clear hd hS
    go_wp2_with fail
    refine (HC.out _).mono ?_
    rintro e w2 ⟨v, rfl, r2, x2⟩
    go_wp2_with fail
    exact hQ1 _ _ x2 (r2.mono (Nat.le_trans (Ext.one w _).size hE.size))
  refine wpLoose_nil ?_
  intro wa hEa hSa hFa
  have r1 := hFa 6 _ rfl (by decide) (by simp [Act.put])
  simp only [Act.put]
  have O1 : Hid (OwnL wa w.heap.size va_6 L) := r1
  have X1 : Hid (Ext w wa) := (Ext.one w _).drew.trans hEa
  clear hFa hSa hEa p1 r1
  go_wp2
  go_ret
  exact ⟨_, rfl, O1.out, X1.out⟩
  case hAa => kernel_rfl
  case hla => exact ⟨trivial, trivial, trivial, trivial, trivial, trivial, fun _ _ _ h hE => h.ext hE, trivial⟩



end Go.Proofs.YthflflhcbnianaaDoor
