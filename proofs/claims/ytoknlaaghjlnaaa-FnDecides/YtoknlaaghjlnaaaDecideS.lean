/- What spec's Decide answers, of any policy and any call. -/
import Derived.Test.YtoknlaaghjlnaaaDecideI
namespace Go.Proofs.Ytoknlaaghjlnaaa
open Go.RowKit
set_option linter.unusedVariables false

set_option maxRecDepth 100000 in
set_option maxHeartbeats 3200000 in
theorem sDecide_any (ar ac da : Int) (a : Option Addr) (cap : Nat) (rs : List RN) (arch num : Int) (b : Option Addr) (dap : Nat) (ws : List (Int × Int)) (w : World) (hs : SmallR rs) (hl : ws.length ≤ 1048576) (h : Rules w a rs) (hc : Wides w b ws) :
    Calls Try.prog 16 #[.agg #[.int .i64 ar, .int .i64 ac, .int .i64 da, .slice a rs.length cap], .agg #[.int .i64 arch, .int .i64 num, .slice b ws.length dap]] w fun e w' => e = .returned (.int .i64 (decideV ⟨ar, ac, da, rs⟩ arch num ws)) ∧ Ext w w' := by
  have HP : Hid (∀ W, Ext w W → RepPol ⟨ar, ac, da, rs⟩ (.agg #[.int .i64 ar, .int .i64 ac, .int .i64 da, .slice a rs.length cap]) W) := fun W hE => ⟨a, cap, rfl, h.step hE⟩
  have HQ : Hid (∀ W, Ext w W → RepCall arch num ws (.agg #[.int .i64 arch, .int .i64 num, .slice b ws.length dap]) W) := fun W hE => ⟨b, dap, rfl, hc.below hE (Nat.le_refl _)⟩
  have HR : Hid (∀ W, Ext w W → Rules W a rs) := fun W hE => h.step hE
  have HS : Hid (SmallR rs) := hs
  obtain ⟨z1, hz1⟩ : ∃ z1, z1 = policyB ⟨ar, ac, da, rs⟩ := ⟨_, rfl⟩
  obtain ⟨z2, hz2⟩ : ∃ z2, z2 = callB arch num ws := ⟨_, rfl⟩
  obtain ⟨n, hn⟩ : ∃ n, n = rs.length := ⟨_, rfl⟩
  obtain ⟨m, hm⟩ : ∃ m, m = ws.length := ⟨_, rfl⟩
  have H1 : Hid (∀ W, Ext w W → Calls Try.prog 18 #[.agg #[.int .i64 ar, .int .i64 ac, .int .i64 da, .slice a rs.length cap]] W fun e w' => e = .returned (.bool z1) ∧ Ext W w') := fun W hE => by rw [hz1]; exact sPolicyOk_rep hs (HP.out W hE)
  have H2 : Hid (∀ W, Ext w W → Calls Try.prog 49 #[.agg #[.int .i64 arch, .int .i64 num, .slice b ws.length dap]] W fun e w' => e = .returned (.bool z2) ∧ Ext W w') := fun W hE => by rw [hz2]; exact sCall_rep arch num ws _ W hl (HQ.out W hE)
  have H3 : Hid (∀ W, Ext w W → ∀ k, k < rs.length → ∀ v, RepRule (rs.getD k r0) v W → Calls Try.prog 37 #[v, .agg #[.int .i64 arch, .int .i64 num, .slice b ws.length dap]] W fun e w' => e = .returned (.bool (ruleH (rs.getD k r0) arch num ws)) ∧ Ext W w') := fun W hE k hk v hv => sRuleHolds_rep (hs.2 k hk) hl hv (HQ.out W hE)
  rw [← hn] at HP H1 ⊢
  rw [← hm] at HQ H2 H3 ⊢
  have HN : Hid (n = rs.length ∧ n ≤ 1048576) := ⟨hn, by rw [hn]; exact hs.1⟩
  have hl' : n ≤ 1048576 := HN.out.2
  obtain ⟨x, hx⟩ : ∃ x, x = decideV ⟨ar, ac, da, rs⟩ arch num ws := ⟨_, rfl⟩
  rw [← hx]
  have HXV : Hid (x = decideV ⟨ar, ac, da, rs⟩ arch num ws) := hx
  have HZ1 : Hid (z1 = policyB ⟨ar, ac, da, rs⟩) := hz1
  have HZ2 : Hid (z2 = callB arch num ws) := hz2
  clear h hc hs hn hm hx hz1 hz2 hl
  obtain ⟨W, hW⟩ : ∃ W, W = (w.alloc (.cells #[.int .i64 ar, .int .i64 ac, .int .i64 da, .slice a n cap] 26)).alloc (.cells #[.int .i64 arch, .int .i64 num, .slice b m dap] 29) := ⟨_, rfl⟩
  have HX : Hid (CellsAt W w.heap.size [.int .i64 ar, .int .i64 ac, .int .i64 da, .slice a n cap] ∧ CellsAt W (w.heap.size + 1) [.int .i64 arch, .int .i64 num, .slice b m dap] ∧ Ext w W) := by
    rw [hW]
    exact ⟨(CellsAt.new w _ _).step (Ext.one _ _), CellsAt.new' _ _ _ _ (by simp), (Ext.one w _).alloc _⟩
  have HW : Hid (W = (w.alloc (.cells #[.int .i64 ar, .int .i64 ac, .int .i64 da, .slice a n cap] 26)).alloc (.cells #[.int .i64 arch, .int .i64 num, .slice b m dap] 29)) := hW
  clear hW
  go_enter Try.func16, Try.ntmps16
  go_wp2_with fail
  rw [← HW.out]
  refine (H1.out _ HX.out.2.2).mono ?_
  rintro e w1 ⟨rfl, x1⟩
  have X1 : Hid (Ext W w1) := x1
  have c1 := HX.out.1.step x1
  have d1 := HX.out.2.1.step x1
  clear x1
  cases z1
  · have HF : Hid (x = 0) := by rw [HXV.out]; exact decideV_no1 HZ1.out.symm
    clear c1 d1 HXV
    go_wp2
    go_ret
    exact ⟨by rw [HF.out]; rfl, HX.out.2.2.trans X1.out⟩
  obtain ⟨q0, q1, q2⟩ := (⟨d1.2 0 _ rfl, d1.2 1 _ rfl, d1.2 2 _ rfl⟩ : _ ∧ _ ∧ _)
  go_wp2_with fail
  refine (H2.out _ (HX.out.2.2.trans X1.out)).mono ?_
  rintro e w2 ⟨rfl, x2⟩
  have X2 : Hid (Ext W w2) := X1.out.trans x2
  have c2 := c1.step x2
  have d2 := d1.step x2
  clear x2 q0 q1 q2 c1 d1 X1
  cases z2
  · have HF : Hid (x = 0) := by rw [HXV.out]; exact decideV_no2 HZ2.out.symm
    clear c2 d2 HXV
    go_wp2
    go_ret
    exact ⟨by rw [HF.out]; rfl, HX.out.2.2.trans X2.out⟩
  obtain ⟨q0, s0, s3⟩ := (⟨d2.2 0 _ rfl, c2.2 0 _ rfl, c2.2 3 _ rfl⟩ : _ ∧ _ ∧ _)
  by_cases har : arch = ar
  case neg =>
    have HF : Hid (x = 0) := by rw [HXV.out]; exact decideV_no3 har
    have hne : (arch != ar) = true := by simpa using har
    clear c2 d2 HXV s3 har
    go_wp2
    go_ret
    exact ⟨by rw [HF.out]; rfl, HX.out.2.2.trans X2.out⟩
  have hne : (arch != ar) = false := by simpa using har
  have HY : Hid (firstV (rs.drop 0) arch num ws (resV ac da) = x) := by rw [HXV.out, decideV_yes HZ1.out.symm HZ2.out.symm har]; rfl
  have HC2 : Hid (CellsAt w2 w.heap.size [.int .i64 ar, .int .i64 ac, .int .i64 da, .slice a n cap] ∧ CellsAt w2 (w.heap.size + 1) [.int .i64 arch, .int .i64 num, .slice b m dap] ∧ Ext w w2) := ⟨c2, d2, HX.out.2.2.trans X2.out⟩
  clear c2 d2 HXV har HX X2 HW H1 H2
  go_wp2_with fail
  clear q0 s0 s3
  go_loopw [5] (fun i wr => ∃ k : Nat, i = .int .i64 k ∧ k ≤ n ∧ Hid (Ext w2 wr) ∧ Hid (firstV (rs.drop k) arch num ws (resV ac da) = x)) (fun i _ => n - (intOf i).toNat)
  case atStart => exact ⟨0, rfl, by omega, Ext.refl _, HY⟩
  case round =>
    obtain ⟨k, rfl, hk, hE, hall⟩ := hrel
    have cx := HC2.out.1.step hE.out
    have dx := HC2.out.2.1.step hE.out
    have s3 := cx.2 3 _ rfl
    by_cases hlt : k < n
    · have bk : (k : Int) < (n : Int) := by omega
      obtain ⟨bb, off, l, rfl, hseg, hL⟩ := (HR.out wr (HC2.out.2.2.trans hE.out)).at (k := k) (by have := HN.out.1; omega)
      obtain ⟨a1, n1, c1, a2, n2, c2, xc, xd, rfl, exc, exd⟩ := hL.form
      obtain ⟨z, hz⟩ : ∃ z, z = ruleH (rs.getD k r0) arch num ws := ⟨_, rfl⟩
      have HZ : Hid (firstV (rs.drop k) arch num ws (resV ac da) = if z then resV xc xd else firstV (rs.drop (k + 1)) arch num ws (resV ac da)) := by
        unfold Hid
        rw [firstV_at (by have := HN.out.1; omega), hz, exc, exd]
      have HD : Hid (∀ W', Ext wr W' → Calls Try.prog 37 #[.agg #[.slice a1 n1 c1, .slice a2 n2 c2, .int .i64 xc, .int .i64 xd], .agg #[.int .i64 arch, .int .i64 num, .slice b m dap]] W' fun e w' => e = .returned (.bool z) ∧ Ext W' w') := fun W' hx => by
        rw [hz]
        exact H3.out W' ((HC2.out.2.2.trans hE.out).trans hx) k (by have := HN.out.1; omega) _ ⟨_, rfl, hL.step hx⟩
      clear hz hL exc exd
      go_wp2_with fail
      clear s3
      refine' wp_region_loose (.inl _ :: .inl _ :: .inl _ :: .inl _ :: .inl _ :: .inl _ :: .inl _ :: []) (fun w' => CellsAt w' w.heap.size [.int .i64 ar, .int .i64 ac, .int .i64 da, .slice (some ⟨bb, off, none⟩) n cap] ∧ CellsAt w' (w.heap.size + 1) [.int .i64 arch, .int .i64 num, .slice b m dap] ∧ SegB w' bb (off + k * 4) [.slice a1 n1 c1, .slice a2 n2 c2, .int .i64 xc, .int .i64 xd]) (by kernel_rfl) (by kernel_rfl) (⟨cx.drew, dx.drew, hseg.drew⟩) (fun _ _ h hE => ⟨h.1.step hE, h.2.1.step hE, h.2.2.step hE⟩) ?hAx ?hlx ?hMx
      case' hMx => skip
      apply wpLoose_val rfl rfl
      case hs =>
        intro w1 hC hd Q1 hQ1
        obtain ⟨hE, hS⟩ := hC
        dsimp only [bare]
        obtain ⟨q3, t0, t1, t2, ⟨p0, p1, p2, p3⟩⟩ := (⟨hS.1.2 3 _ rfl, hS.2.1.2 0 _ rfl, hS.2.1.2 1 _ rfl, hS.2.1.2 2 _ rfl, hS.2.2.2.four⟩ : _ ∧ _ ∧ _ ∧ _ ∧ _)
        clear hd hE
        try clear hS
        go_wp2
        exact Ext.refl _
      case ha => rfl
      apply wpLoose_val rfl rfl
      case hs =>
        intro w1 hC hd Q1 hQ1
        obtain ⟨hE, hS⟩ := hC
        dsimp only [bare]
        obtain ⟨q3, t0, t1, t2, ⟨p0, p1, p2, p3⟩⟩ := (⟨hS.1.2 3 _ rfl, hS.2.1.2 0 _ rfl, hS.2.1.2 1 _ rfl, hS.2.1.2 2 _ rfl, hS.2.2.2.four⟩ : _ ∧ _ ∧ _ ∧ _ ∧ _)
        clear hd hE
        try clear hS
        go_wp2
        exact Ext.refl _
      case ha => rfl
      apply wpLoose_val rfl rfl
      case hs =>
        intro w1 hC hd Q1 hQ1
        obtain ⟨hE, hS⟩ := hC
        dsimp only [bare]
        obtain ⟨q3, t0, t1, t2, ⟨p0, p1, p2, p3⟩⟩ := (⟨hS.1.2 3 _ rfl, hS.2.1.2 0 _ rfl, hS.2.1.2 1 _ rfl, hS.2.1.2 2 _ rfl, hS.2.2.2.four⟩ : _ ∧ _ ∧ _ ∧ _ ∧ _)
        clear hd hE
        try clear hS
        go_wp2
        exact Ext.refl _
      case ha => rfl
      apply wpLoose_val rfl rfl
      case hs =>
        intro w1 hC hd Q1 hQ1
        obtain ⟨hE, hS⟩ := hC
        dsimp only [bare]
        obtain ⟨q3, t0, t1, t2, ⟨p0, p1, p2, p3⟩⟩ := (⟨hS.1.2 3 _ rfl, hS.2.1.2 0 _ rfl, hS.2.1.2 1 _ rfl, hS.2.1.2 2 _ rfl, hS.2.2.2.four⟩ : _ ∧ _ ∧ _ ∧ _ ∧ _)
        clear hd hE
        try clear hS
        go_wp2
        exact Ext.refl _
      case ha => rfl
      apply wpLoose_val rfl rfl
      case hs =>
        intro w1 hC hd Q1 hQ1
        obtain ⟨hE, hS⟩ := hC
        dsimp only [bare]
        obtain ⟨q3, t0, t1, t2, ⟨p0, p1, p2, p3⟩⟩ := (⟨hS.1.2 3 _ rfl, hS.2.1.2 0 _ rfl, hS.2.1.2 1 _ rfl, hS.2.1.2 2 _ rfl, hS.2.2.2.four⟩ : _ ∧ _ ∧ _ ∧ _ ∧ _)
        clear hd hE
        try clear hS
        go_wp2
        exact Ext.refl _
      case ha => rfl
      apply wpLoose_val rfl rfl
      case hs =>
        intro w1 hC hd Q1 hQ1
        obtain ⟨hE, hS⟩ := hC
        dsimp only [bare]
        obtain ⟨q3, t0, t1, t2, ⟨p0, p1, p2, p3⟩⟩ := (⟨hS.1.2 3 _ rfl, hS.2.1.2 0 _ rfl, hS.2.1.2 1 _ rfl, hS.2.1.2 2 _ rfl, hS.2.2.2.four⟩ : _ ∧ _ ∧ _ ∧ _ ∧ _)
        clear hd hE
        try clear hS
        go_wp2
        exact Ext.refl _
      case ha => rfl
      apply wpLoose_val rfl rfl
      case hs =>
        intro w1 hC hd Q1 hQ1
        obtain ⟨hE, hS⟩ := hC
        dsimp only [bare]
        clear hd
        go_wp2_with fail
        refine (HD.out _ ((Ext.refl wr).drew.trans hE)).mono ?_
        rintro e w2 ⟨rfl, hb⟩
        go_wp2_with fail
        exact hb
      case ha => rfl
      refine wpLoose_nil ?_
      intro wx hEx hSx hFx
      have X3 : Hid (Ext w2 wx) := hE.out.drew.trans hEx
      have c3 := hSx.1
      have g3 := hSx.2.2
      clear hFx hSx hEx cx dx hseg HD
      cases z
      · have HT : Hid (firstV (rs.drop (k + 1)) arch num ws (resV ac da) = x) := by
          have := HZ.out
          simp only [Bool.false_eq_true, if_false] at this
          exact this.symm.trans hall.out
        clear hall HZ c3 g3
        go_wp2
        go_roundw
        case rel => exact ⟨k + 1, by go_num, by omega, X3, HT⟩
        case measure => simp [intOf]; omega
      · have HT : Hid (x = resV xc xd) := by
          have := HZ.out
          simp only [if_true] at this
          exact hall.out.symm.trans this
        clear hall HZ
        go_wp2_with fail
        refine' wp_region_loose (.inl _ :: .inl _ :: .inl _ :: .inl _ :: .inl _ :: .inl _ :: .inl _ :: .inl _ :: .inl _ :: .inl _ :: .inl _ :: .inl _ :: .inl _ :: .inl _ :: []) (fun w' => CellsAt w' w.heap.size [.int .i64 ar, .int .i64 ac, .int .i64 da, .slice (some ⟨bb, off, none⟩) n cap] ∧ SegB w' bb (off + k * 4) [.slice a1 n1 c1, .slice a2 n2 c2, .int .i64 xc, .int .i64 xd]) (by kernel_rfl) (by kernel_rfl) (⟨c3.drew, g3.drew⟩) (fun _ _ h hE => ⟨h.1.step hE, h.2.step hE⟩) ?hAy ?hly ?hMy
        case' hMy => skip
        apply wpLoose_val rfl rfl
        case hs =>
          intro w1 hC hd Q1 hQ1
          obtain ⟨hE, hS⟩ := hC
          dsimp only [bare]
          obtain ⟨q3, ⟨p0, p1, p2, p3⟩⟩ := (⟨hS.1.2 3 _ rfl, hS.2.2.four⟩ : _ ∧ _)
          clear hd hE
          try clear hS
          go_wp2
          exact Ext.refl _
        case ha => rfl
        apply wpLoose_val rfl rfl
        case hs =>
          intro w1 hC hd Q1 hQ1
          obtain ⟨hE, hS⟩ := hC
          dsimp only [bare]
          obtain ⟨q3, ⟨p0, p1, p2, p3⟩⟩ := (⟨hS.1.2 3 _ rfl, hS.2.2.four⟩ : _ ∧ _)
          clear hd hE
          try clear hS
          go_wp2
          exact Ext.refl _
        case ha => rfl
        apply wpLoose_val rfl rfl
        case hs =>
          intro w1 hC hd Q1 hQ1
          obtain ⟨hE, hS⟩ := hC
          dsimp only [bare]
          obtain ⟨q3, ⟨p0, p1, p2, p3⟩⟩ := (⟨hS.1.2 3 _ rfl, hS.2.2.four⟩ : _ ∧ _)
          clear hd hE
          try clear hS
          go_wp2
          exact Ext.refl _
        case ha => rfl
        apply wpLoose_val rfl rfl
        case hs =>
          intro w1 hC hd Q1 hQ1
          obtain ⟨hE, hS⟩ := hC
          dsimp only [bare]
          obtain ⟨q3, ⟨p0, p1, p2, p3⟩⟩ := (⟨hS.1.2 3 _ rfl, hS.2.2.four⟩ : _ ∧ _)
          clear hd hE
          try clear hS
          go_wp2
          exact Ext.refl _
        case ha => rfl
        apply wpLoose_val rfl rfl
        case hs =>
          intro w1 hC hd Q1 hQ1
          obtain ⟨hE, hS⟩ := hC
          dsimp only [bare]
          obtain ⟨q3, ⟨p0, p1, p2, p3⟩⟩ := (⟨hS.1.2 3 _ rfl, hS.2.2.four⟩ : _ ∧ _)
          clear hd hE
          try clear hS
          go_wp2
          exact Ext.refl _
        case ha => rfl
        apply wpLoose_val rfl rfl
        case hs =>
          intro w1 hC hd Q1 hQ1
          obtain ⟨hE, hS⟩ := hC
          dsimp only [bare]
          obtain ⟨q3, ⟨p0, p1, p2, p3⟩⟩ := (⟨hS.1.2 3 _ rfl, hS.2.2.four⟩ : _ ∧ _)
          clear hd hE
          try clear hS
          go_wp2
          exact Ext.refl _
        case ha => rfl
        apply wpLoose_val rfl rfl
        case hs =>
          intro w1 hC hd Q1 hQ1
          obtain ⟨hE, hS⟩ := hC
          dsimp only [bare]
          obtain ⟨q3, ⟨p0, p1, p2, p3⟩⟩ := (⟨hS.1.2 3 _ rfl, hS.2.2.four⟩ : _ ∧ _)
          clear hd hE
          try clear hS
          go_wp2
          exact Ext.refl _
        case ha => rfl
        apply wpLoose_val rfl rfl
        case hs =>
          intro w1 hC hd Q1 hQ1
          obtain ⟨hE, hS⟩ := hC
          dsimp only [bare]
          obtain ⟨q3, ⟨p0, p1, p2, p3⟩⟩ := (⟨hS.1.2 3 _ rfl, hS.2.2.four⟩ : _ ∧ _)
          clear hd hE
          try clear hS
          go_wp2
          exact Ext.refl _
        case ha => rfl
        apply wpLoose_val rfl rfl
        case hs =>
          intro w1 hC hd Q1 hQ1
          obtain ⟨hE, hS⟩ := hC
          dsimp only [bare]
          obtain ⟨q3, ⟨p0, p1, p2, p3⟩⟩ := (⟨hS.1.2 3 _ rfl, hS.2.2.four⟩ : _ ∧ _)
          clear hd hE
          try clear hS
          go_wp2
          exact Ext.refl _
        case ha => rfl
        apply wpLoose_val rfl rfl
        case hs =>
          intro w1 hC hd Q1 hQ1
          obtain ⟨hE, hS⟩ := hC
          dsimp only [bare]
          obtain ⟨q3, ⟨p0, p1, p2, p3⟩⟩ := (⟨hS.1.2 3 _ rfl, hS.2.2.four⟩ : _ ∧ _)
          clear hd hE
          try clear hS
          go_wp2
          exact Ext.refl _
        case ha => rfl
        apply wpLoose_val rfl rfl
        case hs =>
          intro w1 hC hd Q1 hQ1
          obtain ⟨hE, hS⟩ := hC
          dsimp only [bare]
          obtain ⟨q3, ⟨p0, p1, p2, p3⟩⟩ := (⟨hS.1.2 3 _ rfl, hS.2.2.four⟩ : _ ∧ _)
          clear hd hE
          try clear hS
          go_wp2
          exact Ext.refl _
        case ha => rfl
        apply wpLoose_val rfl rfl
        case hs =>
          intro w1 hC hd Q1 hQ1
          obtain ⟨hE, hS⟩ := hC
          dsimp only [bare]
          obtain ⟨q3, ⟨p0, p1, p2, p3⟩⟩ := (⟨hS.1.2 3 _ rfl, hS.2.2.four⟩ : _ ∧ _)
          clear hd hE
          try clear hS
          go_wp2
          exact Ext.refl _
        case ha => rfl
        apply wpLoose_val rfl rfl
        case hs =>
          intro w1 hC hd Q1 hQ1
          obtain ⟨hE, hS⟩ := hC
          dsimp only [bare]
          clear hd
          go_wp2_with fail
          refine (sResultOf_any _ _ _).mono ?_
          rintro e w2 ⟨rfl, rfl⟩
          go_wp2_with fail
          exact Ext.refl _
        case ha => rfl
        apply wpLoose_val rfl rfl
        case hs =>
          intro w1 hC hd Q1 hQ1
          obtain ⟨hE, hS⟩ := hC
          dsimp only [bare]
          obtain ⟨q3, ⟨p0, p1, p2, p3⟩⟩ := (⟨hS.1.2 3 _ rfl, hS.2.2.four⟩ : _ ∧ _)
          clear hd hE
          try clear hS
          go_wp2
          exact Ext.refl _
        case ha => rfl
        refine wpLoose_nil ?_
        intro wy hEy hSy hFy
        have X4 : Hid (Ext w2 wy) := X3.out.drew.trans hEy
        clear hFy hSy hEy c3 g3
        go_wp2
        go_ret
        exact ⟨by rw [HT.out]; rfl, HC2.out.2.2.trans X4.out⟩
        case hAy => kernel_rfl
        case hly => exact ⟨trivial, trivial, trivial, trivial, trivial, trivial, trivial, trivial, trivial, trivial, trivial, trivial, trivial, trivial, trivial⟩
      case hAx => kernel_rfl
      case hlx => exact ⟨trivial, trivial, trivial, trivial, trivial, trivial, trivial, trivial⟩
    · have hkn : k = n := by omega
      have HT : Hid (x = resV ac da) := by
        have := hall.out
        rw [List.drop_eq_nil_of_le (by have := HN.out.1; omega)] at this
        exact this.symm
      obtain ⟨s1, s2⟩ := (⟨cx.2 1 _ rfl, cx.2 2 _ rfl⟩ : _ ∧ _)
      have bk : ¬ ((k : Int) < (n : Int)) := by omega
      clear hall hkn cx dx
      go_wp2_with (go_at_call 50; refine (sResultOf_any _ _ _).mono ?_; rintro e w' ⟨rfl, rfl⟩)
      go_ret
      exact ⟨by rw [HT.out]; rfl, HC2.out.2.2.trans hE.out⟩

theorem iDecide_rep {p : PN} {v u : Value} {arch num : Int} {ws : List (Int × Int)} {w : World} (hs : SmallR p.rules) (hl : ws.length ≤ 1048576) (h : RepPol p v w) (hc : RepCall arch num ws u w) :
    Calls Try.prog 15 #[v, u] w fun e w' => e = .returned (.int .i64 (decideV p arch num ws)) ∧ Ext w w' := by
  obtain ⟨a, cap, rfl, hr⟩ := h
  obtain ⟨b, dap, rfl, hw⟩ := hc
  exact iDecide_any p.arch p.act p.data a cap p.rules arch num b dap ws w hs hl hr hw

theorem sDecide_rep {p : PN} {v u : Value} {arch num : Int} {ws : List (Int × Int)} {w : World} (hs : SmallR p.rules) (hl : ws.length ≤ 1048576) (h : RepPol p v w) (hc : RepCall arch num ws u w) :
    Calls Try.prog 16 #[v, u] w fun e w' => e = .returned (.int .i64 (decideV p arch num ws)) ∧ Ext w w' := by
  obtain ⟨a, cap, rfl, hr⟩ := h
  obtain ⟨b, dap, rfl, hw⟩ := hc
  exact sDecide_any p.arch p.act p.data a cap p.rules arch num b dap ws w hs hl hr hw

end Go.Proofs.Ytoknlaaghjlnaaa
