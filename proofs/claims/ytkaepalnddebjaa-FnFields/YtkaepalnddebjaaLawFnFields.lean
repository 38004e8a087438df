/- Proved: at every code the law FnFields answers true: of drawn calls impl's FieldAt tells at each place what the call has, at no other place anything, and agrees with spec's; CallOk and HalfOk likewise; no condition. -/
import Derived.Test.YtkaepalnddebjaaFieldFacts
import Derived.Test.YtkaepalnddebjaaDraw6
import Derived.WalkKit
import Derived.ProofKit
import Derived.OpenShut
import Derived.ShutString
import Derived.ChangeOld
import Derived.Below
import Derived.Deep.RegionHeld3
import Derived.Deep.RegionWith
namespace Go.Proofs.Ytkaepalnddebjaa.FnFields
open Go.ChangeShapes Go.WideShapes Go.ChangeAt Go.RowKit
open Go.ChangeMaps (open_string shut_string)
set_option linter.unusedVariables false

theorem own : ownKnob Try.prog.godebug = none := by kernel_rfl
theorem laidOut : laidOutB Try.prog = true := by kernel_rfl

set_option maxRecDepth 100000 in
set_option maxHeartbeats 6400000 in
theorem walk (a : Option Addr) (len cap : Nat) (w : World) (raw : Raw w a len) : Calls Try.prog 4 #[.slice a len cap] w fun e w' => e = .returned (.bool true) ∧ Below w.heap.size w w' := by
  by_cases hbig : 1048576 < len
  · go_enter Try.func4, Try.ntmps4
    go_wp2_with (go_at_call 9; refine (big_yes _ _ _ _ hbig).mono ?_; rintro e w' ⟨rfl, rfl⟩)
    go_ret
    exact ⟨rfl, Below.refl _ _⟩
  have HC : Hid (Came w a len) := ⟨by omega, raw⟩
  have hl : len ≤ 1048576 := by omega
  clear raw hbig
  go_enter Try.func4, Try.ntmps4
  go_wp2_with fail
  refine (big_no a len cap _ hl).mono ?_
  rintro e w' ⟨rfl, rfl⟩
  go_wp2_with fail
  refine (drawCall_any a len cap _ HC.out).mono ?_
  rintro e w1 ⟨arch, num, ws, v, hcb, rfl, ⟨av, cv, rfl, _, hw, hf, hz⟩, x1⟩
  have h3 := callB_three hcb
  obtain ⟨bk, off, rfl, hblt, hcs⟩ := hw (by omega)
  have HR : Hid (∀ W, Ext w1 W → RepCall arch num ws (.agg #[.int .i64 arch, .int .i64 num, .slice (some ⟨bk, off, none⟩) 3 cv]) W) := fun W hE => ⟨_, cv, by rw [h3], hw.below hE (Nat.le_refl _)⟩
  have HWS : Hid (∀ W, Ext w1 W → Wides W (some ⟨bk, off, none⟩) ws) := fun W hE => hw.below hE (Nat.le_refl _)
  have hl3 : ws.length ≤ 1048576 := by omega
  have FF : Hid (∀ (t : Int) (W : World), Ext w1 W → Calls Try.prog 18 #[.agg #[.int .i64 arch, .int .i64 num, .slice (some ⟨bk, off, none⟩) 3 cv], .int .i64 t] W fun e w' => e = .returned (.tuple #[.int .i64 (fieldR arch num ws t), .bool (fieldOk arch num ws t)]) ∧ Ext W w') := fun t W hE => iField_rep arch num ws t _ W hl3 (HR.out W hE)
  have CC : Hid (∀ (W : World), Ext w1 W → Calls Try.prog 19 #[.agg #[.int .i64 arch, .int .i64 num, .slice (some ⟨bk, off, none⟩) 3 cv]] W fun e w' => e = .returned (.bool true) ∧ Ext W w') := fun W hE => by rw [← hcb]; exact iCall_rep arch num ws _ W hl3 (HR.out W hE)
  have HCB : Hid (callB arch num ws = true) := hcb
  have HX1 : Hid (Ext w w1) := x1
  rw [h3]
  have H3 : Hid (ws.length = 3) := h3
  clear hw hf hz hcs hcb x1 h3 hl3 hblt
  go_wp2_with fail
  refine (FF.out 0 _ (Ext.one _ _)).mono ?_
  rintro e w2 ⟨rfl, x2⟩
  rw [fieldR_num HCB.out, fieldOk_in HCB.out (by omega) (by omega)]
  have c2 := (CellsAt.new w1 [.int .i64 arch, .int .i64 num, .slice (some ⟨bk, off, none⟩) 3 cv] 26).step x2
  have e2 : Hid (Ext w1 w2) := (Ext.one _ _).trans x2
  clear x2
  obtain ⟨q1, q2, q3⟩ := (⟨c2.2 0 _ rfl, c2.2 1 _ rfl, c2.2 2 _ rfl⟩ : _ ∧ _ ∧ _)
  go_wp2_with fail
  refine (FF.out 1 _ e2.out).mono ?_
  rintro e w3 ⟨rfl, x3⟩
  rw [fieldR_arch HCB.out, fieldOk_in HCB.out (by omega) (by omega)]
  have c3 := c2.step x3
  have e3 : Hid (Ext w1 w3) := e2.out.trans x3
  clear x3 q1 q2 q3 c2 e2
  obtain ⟨q1, q2, q3⟩ := (⟨c3.2 0 _ rfl, c3.2 1 _ rfl, c3.2 2 _ rfl⟩ : _ ∧ _ ∧ _)
  go_wp2_with fail
  refine (CC.out _ e3.out).mono ?_
  rintro e w4 ⟨rfl, x4⟩
  have c4 := c3.step x4
  have e4 : Hid (Ext w1 w4) := e3.out.trans x4
  clear x4 q1 q2 q3 c3 e3
  go_wp2_with fail
  go_loopw [8] (fun i wr => ∃ k : Nat, i = .int .i64 k ∧ k ≤ 3 ∧ Ext w1 wr ∧ CellsAt wr w1.heap.size [.int .i64 arch, .int .i64 num, .slice (some ⟨bk, off, none⟩) 3 cv]) (fun i _ => 3 - (intOf i).toNat)
  case atStart => exact ⟨0, rfl, by omega, e4.out, c4⟩
  case round =>
    obtain ⟨k, rfl, hk, er, cr⟩ := hrel
    clear e4 c4
    by_cases hlt : k < 3
    · have bk3 : (k : Int) < 3 := by omega
      have ER : Hid (Ext w1 wr) := er
      obtain ⟨q1, q2, q3⟩ := (⟨cr.2 0 _ rfl, cr.2 1 _ rfl, cr.2 2 _ rfl⟩ : _ ∧ _ ∧ _)
      clear er
      obtain ⟨p, hp⟩ : ∃ p, p = ws.getD k (0, 0) := ⟨_, rfl⟩
      obtain ⟨x, y⟩ := p
      have HLO : Hid (fieldR arch num ws (2 + 2 * (k : Int)) = y) := by unfold Hid; rw [fieldR_lo HCB.out k hlt, ← hp]
      have HHI : Hid (fieldR arch num ws (3 + 2 * (k : Int)) = x) := by unfold Hid; rw [fieldR_hi HCB.out k hlt, ← hp]
      have HP : Hid ((x, y) = ws.getD k (0, 0)) := hp
      clear hp
      go_wp2_with fail
      refine (FF.out (2 + 2 * (k : Int)) _ ER.out).mono ?_
      rintro e w5 ⟨rfl, x5⟩
      rw [HLO.out, fieldOk_in HCB.out (by omega) (by omega)]
      have c5 := cr.step x5
      have e5 : Hid (Ext w1 w5) := ER.out.trans x5
      clear x5 q1 q2 q3 cr ER
      obtain ⟨q1, q2, q3⟩ := (⟨c5.2 0 _ rfl, c5.2 1 _ rfl, c5.2 2 _ rfl⟩ : _ ∧ _ ∧ _)
      go_wp2_with fail
      refine (FF.out (3 + 2 * (k : Int)) _ e5.out).mono ?_
      rintro e w6 ⟨rfl, x6⟩
      rw [HHI.out, fieldOk_in HCB.out (by omega) (by omega)]
      have c6 := c5.step x6
      have e6 : Hid (Ext w1 w6) := e5.out.trans x6
      clear x6 q1 q2 q3 c5 e5
      obtain ⟨q1, q2, q3⟩ := (⟨c6.2 0 _ rfl, c6.2 1 _ rfl, c6.2 2 _ rfl⟩ : _ ∧ _ ∧ _)
      obtain ⟨b', off', ha', _, d1, d2⟩ := (HWS.out w6 e6.out).pair (k := k) (by have := H3.out; omega) HP.out
      injection ha' with ha'
      injection ha' with hb1 hb2
      subst hb1 hb2
      have HC6 : Hid (CellsAt w6 w1.heap.size [.int .i64 arch, .int .i64 num, .slice (some ⟨bk, off, none⟩) 3 cv]) := c6
      clear c6
      go_wp2
      go_roundw
      case rel => exact ⟨k + 1, by go_num, by omega, e6.out, HC6.out⟩
      case measure => simp [intOf]; omega
    · have bk3 : ¬ ((k : Int) < 3) := by omega
      have ER : Hid (Ext w1 wr) := er
      clear er hk hlt
      go_wp2_with fail
      refine (drawField_any a len cap _ (HC.out.below (HX1.out.trans ER.out))).mono ?_
      rintro e w5 ⟨arch2, num2, ws2, v2, t2, hlen2, rfl, ⟨av2, cv2, rfl, hw2⟩, x5⟩
      have R2 : Hid (∀ W, Ext w5 W → RepCall arch2 num2 ws2 (.agg #[.int .i64 arch2, .int .i64 num2, .slice av2 ws2.length cv2]) W) := fun W hE => ⟨_, cv2, rfl, hw2.below hE (Nat.le_refl _)⟩
      have l2 : ws2.length ≤ 1048576 := by omega
      have c5 := cr.step x5
      have e5 : Hid (Ext w1 w5) := ER.out.trans x5
      clear x5 cr ER hw2
      go_wp2_with fail
      refine (iField_rep arch2 num2 ws2 t2 _ _ l2 (R2.out _ (Ext.one _ _))).mono ?_
      rintro e w6 ⟨rfl, x6⟩
      have c6 := (c5.step (Ext.one _ _)).step x6
      have y6 := (CellsAt.new w5 [.int .i64 arch2, .int .i64 num2, .slice av2 ws2.length cv2] 26).step x6
      have e6 : Hid (Ext w5 w6) := (Ext.one _ _).trans x6
      clear x6 c5
      obtain ⟨q1, q2, q3⟩ := (⟨y6.2 0 _ rfl, y6.2 1 _ rfl, y6.2 2 _ rfl⟩ : _ ∧ _ ∧ _)
      go_wp2_with fail
      refine (sField_rep arch2 num2 ws2 t2 _ _ l2 (R2.out _ e6.out)).mono ?_
      rintro e w7 ⟨rfl, x7⟩
      have c7 := c6.step x7
      have e7 : Hid (Ext w1 w7) := (e5.out.trans e6.out).trans x7
      clear x7 c6 q1 q2 q3 y6 R2 e6 e5
      go_wp2_with fail
      refine (drawCallOk_any a len cap _ (HC.out.below (HX1.out.trans e7.out))).mono ?_
      rintro e w8 ⟨arch3, num3, ws3, v3, hlen3, rfl, ⟨av3, cv3, rfl, hw3⟩, x8⟩
      have R3 : Hid (∀ W, Ext w8 W → RepCall arch3 num3 ws3 (.agg #[.int .i64 arch3, .int .i64 num3, .slice av3 ws3.length cv3]) W) := fun W hE => ⟨_, cv3, rfl, hw3.below hE (Nat.le_refl _)⟩
      have l3 : ws3.length ≤ 1048576 := by omega
      have c8 := c7.step x8
      have e8 : Hid (Ext w1 w8) := e7.out.trans x8
      clear x8 c7 hw3 e7
      go_wp2_with fail
      refine (drawHalf_any a len cap _ (HC.out.below (HX1.out.trans (e8.out.alloc _)))).mono ?_
      rintro e w9 ⟨h, rfl, x9⟩
      have c9 := (c8.step (Ext.one _ _)).step x9
      have z9 := (CellsAt.new w8 [.int .i64 arch3, .int .i64 num3, .slice av3 ws3.length cv3] 26).step x9
      have e9 : Hid (Ext w1 w9) := (e8.out.alloc _).trans x9
      have f9 : Hid (Ext w8 w9) := (Ext.one _ _).trans x9
      clear x9 c8 e8
      obtain ⟨q1, q2, q3⟩ := (⟨c9.2 0 _ rfl, c9.2 1 _ rfl, c9.2 2 _ rfl⟩ : _ ∧ _ ∧ _)
      go_wp2_with fail
      refine (FF.out 8 _ e9.out).mono ?_
      rintro e wt ⟨rfl, xt⟩
      rw [fieldR_none, fieldOk_out]
      have zt := z9.step xt
      have et : Hid (Ext w1 wt) := e9.out.trans xt
      have ft : Hid (Ext w8 wt) := f9.out.trans xt
      clear xt c9 z9 e9 f9 q1 q2 q3
      generalize fieldR arch2 num2 ws2 t2 = f2
      generalize fieldOk arch2 num2 ws2 t2 = o2
      go_wp2_with fail
      refine' wp_region_loose (.inl _ :: .inl _ :: .inl _ :: .inl _ :: .inl _ :: .inl _ :: .inl _ :: .inl _ :: .inl _ :: .inl _ :: .inl _ :: .inl _ :: .inl _ :: .inl _ :: .inl _ :: .inl _ :: .inl _ :: .inl _ :: .inl _ :: .inl _ :: .inl _ :: .inl _ :: .inl _ :: .inl _ :: .inl _ :: .inl _ :: .inl _ :: []) (fun w' => CellsAt w' w8.heap.size [.int .i64 arch3, .int .i64 num3, .slice av3 ws3.length cv3]) (by kernel_rfl) (by kernel_rfl) (zt.drew) (fun _ _ h hE => h.step hE) ?hAa ?hla ?hMa
      case' hMa => skip
      apply wpLoose_val rfl rfl
      case hs =>
        intro w1 hC hd Q1 hQ1
        obtain ⟨hE, hS⟩ := hC
        dsimp only [bare]
        obtain ⟨q1, q2, q3⟩ := (⟨hS.2 0 _ rfl, hS.2 1 _ rfl, hS.2 2 _ rfl⟩ : _ ∧ _ ∧ _)
        clear hd hE
        try clear hS
        go_wp2
        exact Ext.refl _
      case ha => rfl
      apply wpLoose_val rfl rfl
      case hs =>
        intro w1 hC hd Q1 hQ1
        obtain ⟨hE, hS⟩ := hC
        dsimp only [bare]
        obtain ⟨q1, q2, q3⟩ := (⟨hS.2 0 _ rfl, hS.2 1 _ rfl, hS.2 2 _ rfl⟩ : _ ∧ _ ∧ _)
        clear hd hE
        try clear hS
        go_wp2
        exact Ext.refl _
      case ha => rfl
      apply wpLoose_val rfl rfl
      case hs =>
        intro w1 hC hd Q1 hQ1
        obtain ⟨hE, hS⟩ := hC
        dsimp only [bare]
        obtain ⟨q1, q2, q3⟩ := (⟨hS.2 0 _ rfl, hS.2 1 _ rfl, hS.2 2 _ rfl⟩ : _ ∧ _ ∧ _)
        clear hd hE
        try clear hS
        go_wp2
        exact Ext.refl _
      case ha => rfl
      apply wpLoose_val rfl rfl
      case hs =>
        intro w1 hC hd Q1 hQ1
        obtain ⟨hE, hS⟩ := hC
        dsimp only [bare]
        obtain ⟨q1, q2, q3⟩ := (⟨hS.2 0 _ rfl, hS.2 1 _ rfl, hS.2 2 _ rfl⟩ : _ ∧ _ ∧ _)
        clear hd hE
        try clear hS
        go_wp2
        exact Ext.refl _
      case ha => rfl
      apply wpLoose_val rfl rfl
      case hs =>
        intro w1 hC hd Q1 hQ1
        obtain ⟨hE, hS⟩ := hC
        dsimp only [bare]
        obtain ⟨q1, q2, q3⟩ := (⟨hS.2 0 _ rfl, hS.2 1 _ rfl, hS.2 2 _ rfl⟩ : _ ∧ _ ∧ _)
        clear hd hE
        try clear hS
        go_wp2
        exact Ext.refl _
      case ha => rfl
      apply wpLoose_val rfl rfl
      case hs =>
        intro w1 hC hd Q1 hQ1
        obtain ⟨hE, hS⟩ := hC
        dsimp only [bare]
        obtain ⟨q1, q2, q3⟩ := (⟨hS.2 0 _ rfl, hS.2 1 _ rfl, hS.2 2 _ rfl⟩ : _ ∧ _ ∧ _)
        clear hd hE
        try clear hS
        go_wp2
        exact Ext.refl _
      case ha => rfl
      apply wpLoose_val rfl rfl
      case hs =>
        intro w1 hC hd Q1 hQ1
        obtain ⟨hE, hS⟩ := hC
        dsimp only [bare]
        obtain ⟨q1, q2, q3⟩ := (⟨hS.2 0 _ rfl, hS.2 1 _ rfl, hS.2 2 _ rfl⟩ : _ ∧ _ ∧ _)
        clear hd hE
        try clear hS
        go_wp2
        exact Ext.refl _
      case ha => rfl
      apply wpLoose_val rfl rfl
      case hs =>
        intro w1 hC hd Q1 hQ1
        obtain ⟨hE, hS⟩ := hC
        dsimp only [bare]
        obtain ⟨q1, q2, q3⟩ := (⟨hS.2 0 _ rfl, hS.2 1 _ rfl, hS.2 2 _ rfl⟩ : _ ∧ _ ∧ _)
        clear hd hE
        try clear hS
        go_wp2
        exact Ext.refl _
      case ha => rfl
      apply wpLoose_val rfl rfl
      case hs =>
        intro w1 hC hd Q1 hQ1
        obtain ⟨hE, hS⟩ := hC
        dsimp only [bare]
        obtain ⟨q1, q2, q3⟩ := (⟨hS.2 0 _ rfl, hS.2 1 _ rfl, hS.2 2 _ rfl⟩ : _ ∧ _ ∧ _)
        clear hd hE
        try clear hS
        go_wp2
        exact Ext.refl _
      case ha => rfl
      apply wpLoose_val rfl rfl
      case hs =>
        intro w1 hC hd Q1 hQ1
        obtain ⟨hE, hS⟩ := hC
        dsimp only [bare]
        obtain ⟨q1, q2, q3⟩ := (⟨hS.2 0 _ rfl, hS.2 1 _ rfl, hS.2 2 _ rfl⟩ : _ ∧ _ ∧ _)
        clear hd hE
        try clear hS
        go_wp2
        exact Ext.refl _
      case ha => rfl
      apply wpLoose_val rfl rfl
      case hs =>
        intro w1 hC hd Q1 hQ1
        obtain ⟨hE, hS⟩ := hC
        dsimp only [bare]
        clear hd
        go_wp2_with fail
        refine (iCall_rep arch3 num3 ws3 _ _ l3 (R3.out _ (ft.out.drew.trans hE))).mono ?_
        rintro e w2 ⟨rfl, hb⟩
        go_wp2_with fail
        exact hb
      case ha => rfl
      apply wpLoose_val rfl rfl
      case hs =>
        intro w1 hC hd Q1 hQ1
        obtain ⟨hE, hS⟩ := hC
        dsimp only [bare]
        obtain ⟨q1, q2, q3⟩ := (⟨hS.2 0 _ rfl, hS.2 1 _ rfl, hS.2 2 _ rfl⟩ : _ ∧ _ ∧ _)
        clear hd hE
        try clear hS
        go_wp2
        exact Ext.refl _
      case ha => rfl
      apply wpLoose_val rfl rfl
      case hs =>
        intro w1 hC hd Q1 hQ1
        obtain ⟨hE, hS⟩ := hC
        dsimp only [bare]
        clear hd
        go_wp2_with fail
        refine (sCall_rep arch3 num3 ws3 _ _ l3 (R3.out _ (ft.out.drew.trans hE))).mono ?_
        rintro e w2 ⟨rfl, hb⟩
        go_wp2_with fail
        exact hb
      case ha => rfl
      apply wpLoose_val rfl rfl
      case hs =>
        intro w1 hC hd Q1 hQ1
        obtain ⟨hE, hS⟩ := hC
        dsimp only [bare]
        obtain ⟨q1, q2, q3⟩ := (⟨hS.2 0 _ rfl, hS.2 1 _ rfl, hS.2 2 _ rfl⟩ : _ ∧ _ ∧ _)
        clear hd hE
        try clear hS
        go_wp2
        exact Ext.refl _
      case ha => rfl
      apply wpLoose_val rfl rfl
      case hs =>
        intro w1 hC hd Q1 hQ1
        obtain ⟨hE, hS⟩ := hC
        dsimp only [bare]
        obtain ⟨q1, q2, q3⟩ := (⟨hS.2 0 _ rfl, hS.2 1 _ rfl, hS.2 2 _ rfl⟩ : _ ∧ _ ∧ _)
        clear hd hE
        try clear hS
        go_wp2
        exact Ext.refl _
      case ha => rfl
      apply wpLoose_val rfl rfl
      case hs =>
        intro w1 hC hd Q1 hQ1
        obtain ⟨hE, hS⟩ := hC
        dsimp only [bare]
        obtain ⟨q1, q2, q3⟩ := (⟨hS.2 0 _ rfl, hS.2 1 _ rfl, hS.2 2 _ rfl⟩ : _ ∧ _ ∧ _)
        clear hd hE
        try clear hS
        go_wp2
        exact Ext.refl _
      case ha => rfl
      apply wpLoose_val rfl rfl
      case hs =>
        intro w1 hC hd Q1 hQ1
        obtain ⟨hE, hS⟩ := hC
        dsimp only [bare]
        obtain ⟨q1, q2, q3⟩ := (⟨hS.2 0 _ rfl, hS.2 1 _ rfl, hS.2 2 _ rfl⟩ : _ ∧ _ ∧ _)
        clear hd hE
        try clear hS
        go_wp2
        exact Ext.refl _
      case ha => rfl
      apply wpLoose_val rfl rfl
      case hs =>
        intro w1 hC hd Q1 hQ1
        obtain ⟨hE, hS⟩ := hC
        dsimp only [bare]
        clear hd
        go_wp2_with fail
        refine (iHalf_any h _).mono ?_
        rintro e w2 ⟨rfl, rfl⟩
        go_wp2_with fail
        exact Ext.refl _
      case ha => rfl
      apply wpLoose_val rfl rfl
      case hs =>
        intro w1 hC hd Q1 hQ1
        obtain ⟨hE, hS⟩ := hC
        dsimp only [bare]
        obtain ⟨q1, q2, q3⟩ := (⟨hS.2 0 _ rfl, hS.2 1 _ rfl, hS.2 2 _ rfl⟩ : _ ∧ _ ∧ _)
        clear hd hE
        try clear hS
        go_wp2
        exact Ext.refl _
      case ha => rfl
      apply wpLoose_val rfl rfl
      case hs =>
        intro w1 hC hd Q1 hQ1
        obtain ⟨hE, hS⟩ := hC
        dsimp only [bare]
        clear hd
        go_wp2_with fail
        refine (sHalf_any h _).mono ?_
        rintro e w2 ⟨rfl, rfl⟩
        go_wp2_with fail
        exact Ext.refl _
      case ha => rfl
      apply wpLoose_val rfl rfl
      case hs =>
        intro w1 hC hd Q1 hQ1
        obtain ⟨hE, hS⟩ := hC
        dsimp only [bare]
        obtain ⟨q1, q2, q3⟩ := (⟨hS.2 0 _ rfl, hS.2 1 _ rfl, hS.2 2 _ rfl⟩ : _ ∧ _ ∧ _)
        clear hd hE
        try clear hS
        go_wp2
        exact Ext.refl _
      case ha => rfl
      apply wpLoose_val rfl rfl
      case hs =>
        intro w1 hC hd Q1 hQ1
        obtain ⟨hE, hS⟩ := hC
        dsimp only [bare]
        obtain ⟨q1, q2, q3⟩ := (⟨hS.2 0 _ rfl, hS.2 1 _ rfl, hS.2 2 _ rfl⟩ : _ ∧ _ ∧ _)
        clear hd hE
        try clear hS
        go_wp2
        exact Ext.refl _
      case ha => rfl
      apply wpLoose_val rfl rfl
      case hs =>
        intro w1 hC hd Q1 hQ1
        obtain ⟨hE, hS⟩ := hC
        dsimp only [bare]
        obtain ⟨q1, q2, q3⟩ := (⟨hS.2 0 _ rfl, hS.2 1 _ rfl, hS.2 2 _ rfl⟩ : _ ∧ _ ∧ _)
        clear hd hE
        try clear hS
        go_wp2
        exact Ext.refl _
      case ha => rfl
      apply wpLoose_val rfl rfl
      case hs =>
        intro w1 hC hd Q1 hQ1
        obtain ⟨hE, hS⟩ := hC
        dsimp only [bare]
        obtain ⟨q1, q2, q3⟩ := (⟨hS.2 0 _ rfl, hS.2 1 _ rfl, hS.2 2 _ rfl⟩ : _ ∧ _ ∧ _)
        clear hd hE
        try clear hS
        go_wp2
        exact Ext.refl _
      case ha => rfl
      apply wpLoose_val rfl rfl
      case hs =>
        intro w1 hC hd Q1 hQ1
        obtain ⟨hE, hS⟩ := hC
        dsimp only [bare]
        obtain ⟨q1, q2, q3⟩ := (⟨hS.2 0 _ rfl, hS.2 1 _ rfl, hS.2 2 _ rfl⟩ : _ ∧ _ ∧ _)
        clear hd hE
        try clear hS
        go_wp2
        exact Ext.refl _
      case ha => rfl
      apply wpLoose_val rfl rfl
      case hs =>
        intro w1 hC hd Q1 hQ1
        obtain ⟨hE, hS⟩ := hC
        dsimp only [bare]
        obtain ⟨q1, q2, q3⟩ := (⟨hS.2 0 _ rfl, hS.2 1 _ rfl, hS.2 2 _ rfl⟩ : _ ∧ _ ∧ _)
        clear hd hE
        try clear hS
        go_wp2
        exact Ext.refl _
      case ha => rfl
      apply wpLoose_val rfl rfl
      case hs =>
        intro w1 hC hd Q1 hQ1
        obtain ⟨hE, hS⟩ := hC
        dsimp only [bare]
        obtain ⟨q1, q2, q3⟩ := (⟨hS.2 0 _ rfl, hS.2 1 _ rfl, hS.2 2 _ rfl⟩ : _ ∧ _ ∧ _)
        clear hd hE
        try clear hS
        go_wp2
        exact Ext.refl _
      case ha => rfl
      refine wpLoose_nil ?_
      intro wa hEa hSa hFa
      have eF : Hid (Ext w wa) := (HX1.out.trans et.out.drew).trans hEa
      clear hEa hSa hFa zt
      go_wp2
      go_ret
      exact ⟨rfl, eF.out⟩
      case hAa => kernel_rfl
      case hla => exact ⟨trivial, trivial, trivial, trivial, trivial, trivial, trivial, trivial, trivial, trivial, trivial, trivial, trivial, trivial, trivial, trivial, trivial, trivial, trivial, trivial, trivial, trivial, trivial, trivial, trivial, trivial, trivial, trivial⟩

set_option maxRecDepth 100000 in
theorem lifted (os : Os) (started : os.Started) (H : Type) (enc : TypeId × Value → H) :
    ReturnsInHanded {} Try.checked os 4 .any (Rows.fnFieldsSpec.pre6 enc Try.prog Try.f4 Rows.fnFieldsRow.domain false) (Rows.fnFieldsSpec.post enc Try.prog Try.f4 false true false false) := by
  refine returnsInHanded_of_change (C := Try.checked) own started (by kernel_rfl) Try.func4
    (ChangeSpec.witness6 (enc := enc) (C := Try.checked) false ⟨#[], #[.slice none 0 0], []⟩ 8 (by kernel_rfl) (by kernel_rfl) (by kernel_rfl) (by kernel_rfl)) ?_
  intro W base args ds gs before hval0 hW hcnd _
  have hval : ∀ (j : Nat) t v, Try.f4.params[j]? = some t → args[j]? = some v → Value.okWide Try.prog W .any base t v := hval0
  have hW' := hW
  obtain ⟨p, q, hA0, hV, rfl, hfz, hnd⟩ := hW
  have hA : DataW.TrodAll enc Try.prog W 0 (fun _ => true) true Try.f4.params.toList args.toList ds p := hA0
  rw [Try.params4] at hA hval
  obtain ⟨v0, vs0, d0, ds0, p0, q0, hargs, rfl, rfl, h0, r0⟩ := trodAll_cons hA
  obtain ⟨rfl, rfl, rfl⟩ := trodAll_nil r0
  obtain rfl : args = #[v0] := by cases args; simp_all
  obtain ⟨rfl, rfl⟩ := trodVars_none hV
  have lt0 : ∀ x ∈ p0, x.block < W.heap.size := by obtain ⟨m, hm⟩ := h0; exact DataW.trod_lt m _ _ _ hm
  obtain ⟨a0, len0, cap0, rfl⟩ := okWide_slice Try.underlying22 (hval 0 22 v0 rfl rfl)
  have raw0 : Raw W a0 len0 := by
    obtain ⟨fuel, hf⟩ := h0
    rcases open_ints Try.underlying22 Try.underlying5 (by kernel_rfl) hf with ⟨hcs, _⟩ | ⟨x, l, c, zs, hcs, _, hl, hm, hz, _, hcell, hwz⟩
    · simp [Value.cells] at hcs
      obtain ⟨rfl, rfl, rfl⟩ := hcs
      intro h; omega
    · simp [Value.cells] at hcs
      obtain ⟨rfl, rfl, rfl⟩ := hcs
      have hz' : zs.length = cap0 := by simpa using hz
      intro hpos
      obtain ⟨b, off, spot⟩ := x
      have hspot : spot = none := by simpa [Addr.add] using World.cell?_spot (hcell 0 (by omega))
      subst hspot
      refine ⟨b, off, rfl, fun j hj => ?_⟩
      have hj' : j < zs.length := by omega
      have hw := hwz _ (List.getElem_mem hj')
      have hb := bounds_u8 hw
      refine ⟨(zs[j]).toNat, by omega, ?_⟩
      have := hcell j hj'
      rw [Addr.add_lit] at this
      rw [this, List.getD_eq_getElem?_getD, List.getElem?_eq_getElem hj']
      simp only [Option.getD_some]
      congr 2
      omega
  clear hA0 hval0
  refine (walk a0 len0 cap0 W raw0).mono fun e W' ⟨he, bel⟩ => ?_
  subst he
  exact ⟨_, rfl, _, _, _, [], _, [], hW', trodAll_mk1 (shut_bool Try.underlying4 _), (trodAll_cons_mk (Below.trod laidOut (by kernel_rfl) (of_decide_eq_true (by kernel_rfl)) h0 bel lt0) trodAll_mk0), rfl, bel.frame _, fun h => by cases h⟩

end Go.Proofs.Ytkaepalnddebjaa.FnFields
namespace Go.Proofs.Ytkaepalnddebjaa
open Go.ChangeShapes Go.WideShapes Go.ChangeAt Go.RowKit

theorem fnFields : Rows.FnFieldsSaid :=
  OpenClaim.holds_of_wide 4 Try.f4 rfl rfl rfl rfl rfl rfl rfl ⟨rfl, rfl, rfl, rfl, rfl⟩ rfl rfl rfl rfl rfl (by kernel_rfl) Try.func4 (by kernel_rfl)
    (of_decide_eq_true (by kernel_rfl)) (by unfold Func.isWrapper; first | (rw [if_pos (by decide +kernel)]; kernel_rfl) | (rw [if_neg (by decide +kernel)]; exact ⟨rfl, rfl⟩))
    (fun os started H enc _ => FnFields.lifted os started H enc)
#print axioms fnFields
end Go.Proofs.Ytkaepalnddebjaa
