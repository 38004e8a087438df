/- What spec's RuleHolds answers, of any rule and any call. -/
import Derived.Test.YtoknlaaghjlnaaaRuleH
namespace Go.Proofs.Ytoknlaaghjlnaaa
open Go.RowKit
set_option linter.unusedVariables false

set_option maxRecDepth 100000 in
set_option maxHeartbeats 3200000 in
theorem sRuleHolds_any (zs : List Int) (cs : List CN) (act data : Int) (a1 a2 : Option Addr) (c1 c2 : Nat) (arch num : Int) (a : Option Addr) (cap : Nat) (ws : List (Int × Int)) (w : World)
    (l1 : zs.length ≤ 1048576) (l2 : cs.length ≤ 1048576) (hl : ws.length ≤ 1048576) (h1 : Nums w a1 zs) (h2 : Conds w a2 cs) (h : Wides w a ws) :
    Calls Try.prog 37 #[.agg #[.slice a1 zs.length c1, .slice a2 cs.length c2, .int .i64 act, .int .i64 data], .agg #[.int .i64 arch, .int .i64 num, .slice a ws.length cap]] w fun e w' => e = .returned (.bool (ruleH ⟨zs, cs, act, data⟩ arch num ws)) ∧ Ext w w' := by
  obtain ⟨n1, hn1⟩ : ∃ n1, n1 = zs.length := ⟨_, rfl⟩
  obtain ⟨n2, hn2⟩ : ∃ n2, n2 = cs.length := ⟨_, rfl⟩
  have HB : Hid (ruleH ⟨zs, cs, act, data⟩ arch num ws = (numH zs num && cs.all fun c => condH c arch num ws)) := rfl
  have HN : Hid (n1 = zs.length ∧ n2 = cs.length) := ⟨hn1, hn2⟩
  have H2 : Hid (∀ W, Ext w W → Conds W a2 cs) := fun W hE => h2.step hE
  have HI : Hid (∀ W, Ext w W → Calls Try.prog 77 #[.slice a1 n1 c1, .int .i64 num] W fun e w' => e = .returned (.bool (zs.contains num)) ∧ W = w') := fun W hE => by rw [hn1]; exact l09In_any a1 c1 zs num W l1 (h1.step hE)
  have HC : Hid (∀ W, Ext w W → ∀ ag mh ml cm vh vl, Calls Try.prog 26 #[.agg #[.int .i64 ag, .int .i64 mh, .int .i64 ml, .int .i64 cm, .int .i64 vh, .int .i64 vl], .agg #[.int .i64 arch, .int .i64 num, .slice a ws.length cap]] W fun e w' => e = .returned (.bool (condH ⟨ag, mh, ml, cm, vh, vl⟩ arch num ws)) ∧ Ext W w') := fun W hE ag mh ml cm vh vl => sCondHolds_any ag mh ml cm vh vl arch num a cap ws W hl (h.below hE (Nat.le_refl _))
  rw [← hn1] at l1 ⊢
  rw [← hn2] at l2 ⊢
  clear h1 h2 h hn1 hn2
  obtain ⟨nw, hnw⟩ : ∃ nw, nw = ws.length := ⟨_, rfl⟩
  rw [← hnw] at HC ⊢
  clear hnw hl
  obtain ⟨W, hW⟩ : ∃ W, W = (w.alloc (.cells #[.slice a1 n1 c1, .slice a2 n2 c2, .int .i64 act, .int .i64 data] 37)).alloc (.cells #[.int .i64 arch, .int .i64 num, .slice a nw cap] 29) := ⟨_, rfl⟩
  have HX : Hid (CellsAt W w.heap.size [.slice a1 n1 c1, .slice a2 n2 c2, .int .i64 act, .int .i64 data] ∧ CellsAt W (w.heap.size + 1) [.int .i64 arch, .int .i64 num, .slice a nw cap] ∧ Ext w W) := by
    rw [hW]
    exact ⟨(CellsAt.new w _ _).step (Ext.one _ _), CellsAt.new' _ _ _ _ (by simp), (Ext.one w _).alloc _⟩
  have HW : Hid (W = (w.alloc (.cells #[.slice a1 n1 c1, .slice a2 n2 c2, .int .i64 act, .int .i64 data] 37)).alloc (.cells #[.int .i64 arch, .int .i64 num, .slice a nw cap] 29)) := hW
  have hsz : W.heap.size = w.heap.size + 1 + 1 := by rw [hW]; simp
  obtain ⟨q0, q1, s1⟩ := (⟨HX.out.1.2 0 _ rfl, HX.out.1.2 1 _ rfl, HX.out.2.1.2 1 _ rfl⟩ : _ ∧ _ ∧ _)
  clear hW
  by_cases hn : numH zs num = true
  · have HY : Hid (ruleH ⟨zs, cs, act, data⟩ arch num ws = cs.all fun c => condH c arch num ws) := by rw [HB.out, hn]; rfl
    have hw : n1 = 0 ∨ (0 < n1 ∧ zs.contains num = true) := by
      by_cases h0 : zs.length = 0
      · exact .inl (by rw [HN.out.1]; exact h0)
      · exact .inr ⟨by have := HN.out.1; omega, by rw [← numH_some h0]; exact hn⟩
    clear hn HB
    rcases hw with h0 | ⟨h0, hcn⟩
    · have h0' : ¬ (0 : Int) < (n1 : Int) := by omega
      clear h0 HI
      go_enter Try.func37, Try.ntmps37
      go_wp2_with fail
      try rw [← HW.out]
      go_loopw [5] (fun i wr => ∃ k : Nat, i = .int .i64 k ∧ k ≤ n2 ∧ Hid (Ext W wr) ∧ Hid ((cs.take k).all (fun c => condH c arch num ws) = true)) (fun i _ => n2 - (intOf i).toNat)
      case atStart => exact ⟨0, rfl, by omega, Ext.refl _, by simp [Hid]⟩
      case round =>
        obtain ⟨k, rfl, hk, hE, hall⟩ := hrel
        have cx := HX.out.1.step hE.out
        have dx := HX.out.2.1.step hE.out
        have s1 := cx.2 1 _ rfl
        by_cases hlt : k < n2
        · have bk : (k : Int) < (n2 : Int) := by omega
          obtain ⟨c, hc⟩ : ∃ c, c = cs.getD k c0 := ⟨_, rfl⟩
          obtain ⟨b, off, rfl, hbl, hs⟩ := (H2.out wr (HX.out.2.2.trans hE.out)).at (k := k) (by have := HN.out.2; omega) hc
          obtain ⟨ag, mh, ml, cm, vh, vl⟩ := c
          have HCC : Hid (⟨ag, mh, ml, cm, vh, vl⟩ = cs.getD k c0) := hc
          have sx : SegB wr b (off + k * 6) [.int .i64 ag, .int .i64 mh, .int .i64 ml, .int .i64 cm, .int .i64 vh, .int .i64 vl] := ⟨hbl, hs⟩
          have HD : Hid (∀ W', Ext wr W' → Calls Try.prog 26 #[.agg #[.int .i64 ag, .int .i64 mh, .int .i64 ml, .int .i64 cm, .int .i64 vh, .int .i64 vl], .agg #[.int .i64 arch, .int .i64 num, .slice a nw cap]] W' fun e w' => e = .returned (.bool (condH ⟨ag, mh, ml, cm, vh, vl⟩ arch num ws)) ∧ Ext W' w') := fun W' hx => HC.out W' ((HX.out.2.2.trans hE.out).trans hx) ag mh ml cm vh vl
          clear hc hs hbl
          obtain ⟨cv, hcv⟩ : ∃ cv, cv = condH ⟨ag, mh, ml, cm, vh, vl⟩ arch num ws := ⟨_, rfl⟩
          rw [← hcv] at HD
          have HCV : Hid (cv = condH ⟨ag, mh, ml, cm, vh, vl⟩ arch num ws) := hcv
          clear hcv
          go_wp2_with fail
          clear s1
          refine' wp_region_loose (.inl _ :: .inl _ :: .inl _ :: .inl _ :: .inl _ :: .inl _ :: .inl _ :: .inl _ :: []) (fun w' => CellsAt w' w.heap.size [.slice a1 n1 c1, .slice (some ⟨b, off, none⟩) n2 c2, .int .i64 act, .int .i64 data] ∧ CellsAt w' (w.heap.size + 1) [.int .i64 arch, .int .i64 num, .slice a nw cap] ∧ SegB w' b (off + k * 6) [.int .i64 ag, .int .i64 mh, .int .i64 ml, .int .i64 cm, .int .i64 vh, .int .i64 vl]) (by kernel_rfl) (by kernel_rfl) (⟨cx.drew, dx.drew, sx.drew⟩) (fun _ _ h hE => ⟨h.1.step hE, h.2.1.step hE, h.2.2.step hE⟩) ?hAx ?hlx ?hMx
          case' hMx => skip
          apply wpLoose_val rfl rfl
          case hs =>
            intro w1 hC hd Q1 hQ1
            obtain ⟨hE, hS⟩ := hC
            dsimp only [bare]
            obtain ⟨q1, r0, r1, r2, ⟨p0, p1, p2, p3, p4, p5⟩⟩ := (⟨hS.1.2 1 _ rfl, hS.2.1.2 0 _ rfl, hS.2.1.2 1 _ rfl, hS.2.1.2 2 _ rfl, hS.2.2.2.six⟩ : _ ∧ _ ∧ _ ∧ _ ∧ _)
            clear hd hE
            try clear hS
            go_wp2
            exact Ext.refl _
          case ha => rfl
          apply wpLoose_val rfl rfl
          case hs =>
            intro w1 hC hd Q1 hQ1
            obtain ⟨hE, hS⟩ := hC
            dsimp only [bare]
            obtain ⟨q1, r0, r1, r2, ⟨p0, p1, p2, p3, p4, p5⟩⟩ := (⟨hS.1.2 1 _ rfl, hS.2.1.2 0 _ rfl, hS.2.1.2 1 _ rfl, hS.2.1.2 2 _ rfl, hS.2.2.2.six⟩ : _ ∧ _ ∧ _ ∧ _ ∧ _)
            clear hd hE
            try clear hS
            go_wp2
            exact Ext.refl _
          case ha => rfl
          apply wpLoose_val rfl rfl
          case hs =>
            intro w1 hC hd Q1 hQ1
            obtain ⟨hE, hS⟩ := hC
            dsimp only [bare]
            obtain ⟨q1, r0, r1, r2, ⟨p0, p1, p2, p3, p4, p5⟩⟩ := (⟨hS.1.2 1 _ rfl, hS.2.1.2 0 _ rfl, hS.2.1.2 1 _ rfl, hS.2.1.2 2 _ rfl, hS.2.2.2.six⟩ : _ ∧ _ ∧ _ ∧ _ ∧ _)
            clear hd hE
            try clear hS
            go_wp2
            exact Ext.refl _
          case ha => rfl
          apply wpLoose_val rfl rfl
          case hs =>
            intro w1 hC hd Q1 hQ1
            obtain ⟨hE, hS⟩ := hC
            dsimp only [bare]
            obtain ⟨q1, r0, r1, r2, ⟨p0, p1, p2, p3, p4, p5⟩⟩ := (⟨hS.1.2 1 _ rfl, hS.2.1.2 0 _ rfl, hS.2.1.2 1 _ rfl, hS.2.1.2 2 _ rfl, hS.2.2.2.six⟩ : _ ∧ _ ∧ _ ∧ _ ∧ _)
            clear hd hE
            try clear hS
            go_wp2
            exact Ext.refl _
          case ha => rfl
          apply wpLoose_val rfl rfl
          case hs =>
            intro w1 hC hd Q1 hQ1
            obtain ⟨hE, hS⟩ := hC
            dsimp only [bare]
            obtain ⟨q1, r0, r1, r2, ⟨p0, p1, p2, p3, p4, p5⟩⟩ := (⟨hS.1.2 1 _ rfl, hS.2.1.2 0 _ rfl, hS.2.1.2 1 _ rfl, hS.2.1.2 2 _ rfl, hS.2.2.2.six⟩ : _ ∧ _ ∧ _ ∧ _ ∧ _)
            clear hd hE
            try clear hS
            go_wp2
            exact Ext.refl _
          case ha => rfl
          apply wpLoose_val rfl rfl
          case hs =>
            intro w1 hC hd Q1 hQ1
            obtain ⟨hE, hS⟩ := hC
            dsimp only [bare]
            obtain ⟨q1, r0, r1, r2, ⟨p0, p1, p2, p3, p4, p5⟩⟩ := (⟨hS.1.2 1 _ rfl, hS.2.1.2 0 _ rfl, hS.2.1.2 1 _ rfl, hS.2.1.2 2 _ rfl, hS.2.2.2.six⟩ : _ ∧ _ ∧ _ ∧ _ ∧ _)
            clear hd hE
            try clear hS
            go_wp2
            exact Ext.refl _
          case ha => rfl
          apply wpLoose_val rfl rfl
          case hs =>
            intro w1 hC hd Q1 hQ1
            obtain ⟨hE, hS⟩ := hC
            dsimp only [bare]
            clear hd
            go_wp2_with fail
            refine (HD.out _ ((Ext.refl wr).drew.trans hE)).mono ?_
            rintro e w2 ⟨rfl, hb⟩
            go_wp2_with fail
            exact hb
          case ha => rfl
          apply wpLoose_val rfl rfl
          case hs =>
            intro w1 hC hd Q1 hQ1
            obtain ⟨hE, hS⟩ := hC
            dsimp only [bare]
            obtain ⟨q1, r0, r1, r2, ⟨p0, p1, p2, p3, p4, p5⟩⟩ := (⟨hS.1.2 1 _ rfl, hS.2.1.2 0 _ rfl, hS.2.1.2 1 _ rfl, hS.2.1.2 2 _ rfl, hS.2.2.2.six⟩ : _ ∧ _ ∧ _ ∧ _ ∧ _)
            clear hd hE
            try clear hS
            go_wp2
            exact Ext.refl _
          case ha => rfl
          refine wpLoose_nil ?_
          intro wx hEx hSx hFx
          have X2 : Hid (Ext W wx) := hE.out.drew.trans hEx
          clear hFx hSx hEx cx dx sx
          cases cv
          · have HF : Hid ((cs.all fun c => condH c arch num ws) = false) := all_bad (p := fun c => condH c arch num ws) (k := k) (d := c0) (by have := HN.out.2; omega) (by rw [← HCC.out]; exact HCV.out.symm)
            clear hall
            go_wp2
            go_ret
            exact ⟨by rw [HY.out, HF.out]; rfl, HX.out.2.2.trans X2.out⟩
          · have HT : Hid ((cs.take (k + 1)).all (fun c => condH c arch num ws) = true) := by
              unfold Hid
              rw [all_get cs (fun c => condH c arch num ws) c0 k (by have := HN.out.2; omega), hall.out, ← HCC.out, ← HCV.out]
              rfl
            clear hall
            go_wp2
            go_roundw
            case rel => exact ⟨k + 1, by go_num, by omega, X2, HT⟩
            case measure => simp [intOf]; omega
          case hAx => kernel_rfl
          case hlx => exact ⟨trivial, trivial, trivial, trivial, trivial, trivial, trivial, trivial, trivial⟩
        · have hkn : k = n2 := by omega
          have HT : Hid ((cs.all fun c => condH c arch num ws) = true) := all_end (k := k) (by have := HN.out.2; omega) hall.out
          have bk : ¬ ((k : Int) < (n2 : Int)) := by omega
          clear hall hkn cx dx
          go_wp2
          go_ret
          exact ⟨by rw [HY.out, HT.out]; rfl, HX.out.2.2.trans hE.out⟩
    · have h0' : (0 : Int) < (n1 : Int) := by omega
      rw [hcn] at HI
      clear h0
      go_enter Try.func37, Try.ntmps37
      go_wp2_with fail
      rw [← HW.out]
      refine (HI.out _ HX.out.2.2).mono ?_
      rintro e w1 ⟨rfl, rfl⟩
      go_wp2_with fail
      try rw [← HW.out]
      go_loopw [5] (fun i wr => ∃ k : Nat, i = .int .i64 k ∧ k ≤ n2 ∧ Hid (Ext W wr) ∧ Hid ((cs.take k).all (fun c => condH c arch num ws) = true)) (fun i _ => n2 - (intOf i).toNat)
      case atStart => exact ⟨0, rfl, by omega, Ext.refl _, by simp [Hid]⟩
      case round =>
        obtain ⟨k, rfl, hk, hE, hall⟩ := hrel
        have cx := HX.out.1.step hE.out
        have dx := HX.out.2.1.step hE.out
        have s1 := cx.2 1 _ rfl
        by_cases hlt : k < n2
        · have bk : (k : Int) < (n2 : Int) := by omega
          obtain ⟨c, hc⟩ : ∃ c, c = cs.getD k c0 := ⟨_, rfl⟩
          obtain ⟨b, off, rfl, hbl, hs⟩ := (H2.out wr (HX.out.2.2.trans hE.out)).at (k := k) (by have := HN.out.2; omega) hc
          obtain ⟨ag, mh, ml, cm, vh, vl⟩ := c
          have HCC : Hid (⟨ag, mh, ml, cm, vh, vl⟩ = cs.getD k c0) := hc
          have sx : SegB wr b (off + k * 6) [.int .i64 ag, .int .i64 mh, .int .i64 ml, .int .i64 cm, .int .i64 vh, .int .i64 vl] := ⟨hbl, hs⟩
          have HD : Hid (∀ W', Ext wr W' → Calls Try.prog 26 #[.agg #[.int .i64 ag, .int .i64 mh, .int .i64 ml, .int .i64 cm, .int .i64 vh, .int .i64 vl], .agg #[.int .i64 arch, .int .i64 num, .slice a nw cap]] W' fun e w' => e = .returned (.bool (condH ⟨ag, mh, ml, cm, vh, vl⟩ arch num ws)) ∧ Ext W' w') := fun W' hx => HC.out W' ((HX.out.2.2.trans hE.out).trans hx) ag mh ml cm vh vl
          clear hc hs hbl
          obtain ⟨cv, hcv⟩ : ∃ cv, cv = condH ⟨ag, mh, ml, cm, vh, vl⟩ arch num ws := ⟨_, rfl⟩
          rw [← hcv] at HD
          have HCV : Hid (cv = condH ⟨ag, mh, ml, cm, vh, vl⟩ arch num ws) := hcv
          clear hcv
          go_wp2_with fail
          clear s1
          refine' wp_region_loose (.inl _ :: .inl _ :: .inl _ :: .inl _ :: .inl _ :: .inl _ :: .inl _ :: .inl _ :: []) (fun w' => CellsAt w' w.heap.size [.slice a1 n1 c1, .slice (some ⟨b, off, none⟩) n2 c2, .int .i64 act, .int .i64 data] ∧ CellsAt w' (w.heap.size + 1) [.int .i64 arch, .int .i64 num, .slice a nw cap] ∧ SegB w' b (off + k * 6) [.int .i64 ag, .int .i64 mh, .int .i64 ml, .int .i64 cm, .int .i64 vh, .int .i64 vl]) (by kernel_rfl) (by kernel_rfl) (⟨cx.drew, dx.drew, sx.drew⟩) (fun _ _ h hE => ⟨h.1.step hE, h.2.1.step hE, h.2.2.step hE⟩) ?hAy ?hly ?hMy
          case' hMy => skip
          apply wpLoose_val rfl rfl
          case hs =>
            intro w1 hC hd Q1 hQ1
            obtain ⟨hE, hS⟩ := hC
            dsimp only [bare]
            obtain ⟨q1, r0, r1, r2, ⟨p0, p1, p2, p3, p4, p5⟩⟩ := (⟨hS.1.2 1 _ rfl, hS.2.1.2 0 _ rfl, hS.2.1.2 1 _ rfl, hS.2.1.2 2 _ rfl, hS.2.2.2.six⟩ : _ ∧ _ ∧ _ ∧ _ ∧ _)
            clear hd hE
            try clear hS
            go_wp2
            exact Ext.refl _
          case ha => rfl
          apply wpLoose_val rfl rfl
          case hs =>
            intro w1 hC hd Q1 hQ1
            obtain ⟨hE, hS⟩ := hC
            dsimp only [bare]
            obtain ⟨q1, r0, r1, r2, ⟨p0, p1, p2, p3, p4, p5⟩⟩ := (⟨hS.1.2 1 _ rfl, hS.2.1.2 0 _ rfl, hS.2.1.2 1 _ rfl, hS.2.1.2 2 _ rfl, hS.2.2.2.six⟩ : _ ∧ _ ∧ _ ∧ _ ∧ _)
            clear hd hE
            try clear hS
            go_wp2
            exact Ext.refl _
          case ha => rfl
          apply wpLoose_val rfl rfl
          case hs =>
            intro w1 hC hd Q1 hQ1
            obtain ⟨hE, hS⟩ := hC
            dsimp only [bare]
            obtain ⟨q1, r0, r1, r2, ⟨p0, p1, p2, p3, p4, p5⟩⟩ := (⟨hS.1.2 1 _ rfl, hS.2.1.2 0 _ rfl, hS.2.1.2 1 _ rfl, hS.2.1.2 2 _ rfl, hS.2.2.2.six⟩ : _ ∧ _ ∧ _ ∧ _ ∧ _)
            clear hd hE
            try clear hS
            go_wp2
            exact Ext.refl _
          case ha => rfl
          apply wpLoose_val rfl rfl
          case hs =>
            intro w1 hC hd Q1 hQ1
            obtain ⟨hE, hS⟩ := hC
            dsimp only [bare]
            obtain ⟨q1, r0, r1, r2, ⟨p0, p1, p2, p3, p4, p5⟩⟩ := (⟨hS.1.2 1 _ rfl, hS.2.1.2 0 _ rfl, hS.2.1.2 1 _ rfl, hS.2.1.2 2 _ rfl, hS.2.2.2.six⟩ : _ ∧ _ ∧ _ ∧ _ ∧ _)
            clear hd hE
            try clear hS
            go_wp2
            exact Ext.refl _
          case ha => rfl
          apply wpLoose_val rfl rfl
          case hs =>
            intro w1 hC hd Q1 hQ1
            obtain ⟨hE, hS⟩ := hC
            dsimp only [bare]
            obtain ⟨q1, r0, r1, r2, ⟨p0, p1, p2, p3, p4, p5⟩⟩ := (⟨hS.1.2 1 _ rfl, hS.2.1.2 0 _ rfl, hS.2.1.2 1 _ rfl, hS.2.1.2 2 _ rfl, hS.2.2.2.six⟩ : _ ∧ _ ∧ _ ∧ _ ∧ _)
            clear hd hE
            try clear hS
            go_wp2
            exact Ext.refl _
          case ha => rfl
          apply wpLoose_val rfl rfl
          case hs =>
            intro w1 hC hd Q1 hQ1
            obtain ⟨hE, hS⟩ := hC
            dsimp only [bare]
            obtain ⟨q1, r0, r1, r2, ⟨p0, p1, p2, p3, p4, p5⟩⟩ := (⟨hS.1.2 1 _ rfl, hS.2.1.2 0 _ rfl, hS.2.1.2 1 _ rfl, hS.2.1.2 2 _ rfl, hS.2.2.2.six⟩ : _ ∧ _ ∧ _ ∧ _ ∧ _)
            clear hd hE
            try clear hS
            go_wp2
            exact Ext.refl _
          case ha => rfl
          apply wpLoose_val rfl rfl
          case hs =>
            intro w1 hC hd Q1 hQ1
            obtain ⟨hE, hS⟩ := hC
            dsimp only [bare]
            clear hd
            go_wp2_with fail
            refine (HD.out _ ((Ext.refl wr).drew.trans hE)).mono ?_
            rintro e w2 ⟨rfl, hb⟩
            go_wp2_with fail
            exact hb
          case ha => rfl
          apply wpLoose_val rfl rfl
          case hs =>
            intro w1 hC hd Q1 hQ1
            obtain ⟨hE, hS⟩ := hC
            dsimp only [bare]
            obtain ⟨q1, r0, r1, r2, ⟨p0, p1, p2, p3, p4, p5⟩⟩ := (⟨hS.1.2 1 _ rfl, hS.2.1.2 0 _ rfl, hS.2.1.2 1 _ rfl, hS.2.1.2 2 _ rfl, hS.2.2.2.six⟩ : _ ∧ _ ∧ _ ∧ _ ∧ _)
            clear hd hE
            try clear hS
            go_wp2
            exact Ext.refl _
          case ha => rfl
          refine wpLoose_nil ?_
          intro wy hEy hSy hFy
          have X2 : Hid (Ext W wy) := hE.out.drew.trans hEy
          clear hFy hSy hEy cx dx sx
          cases cv
          · have HF : Hid ((cs.all fun c => condH c arch num ws) = false) := all_bad (p := fun c => condH c arch num ws) (k := k) (d := c0) (by have := HN.out.2; omega) (by rw [← HCC.out]; exact HCV.out.symm)
            clear hall
            go_wp2
            go_ret
            exact ⟨by rw [HY.out, HF.out]; rfl, HX.out.2.2.trans X2.out⟩
          · have HT : Hid ((cs.take (k + 1)).all (fun c => condH c arch num ws) = true) := by
              unfold Hid
              rw [all_get cs (fun c => condH c arch num ws) c0 k (by have := HN.out.2; omega), hall.out, ← HCC.out, ← HCV.out]
              rfl
            clear hall
            go_wp2
            go_roundw
            case rel => exact ⟨k + 1, by go_num, by omega, X2, HT⟩
            case measure => simp [intOf]; omega
          case hAy => kernel_rfl
          case hly => exact ⟨trivial, trivial, trivial, trivial, trivial, trivial, trivial, trivial, trivial⟩
        · have hkn : k = n2 := by omega
          have HT : Hid ((cs.all fun c => condH c arch num ws) = true) := all_end (k := k) (by have := HN.out.2; omega) hall.out
          have bk : ¬ ((k : Int) < (n2 : Int)) := by omega
          clear hall hkn cx dx
          go_wp2
          go_ret
          exact ⟨by rw [HY.out, HT.out]; rfl, HX.out.2.2.trans hE.out⟩
  · have hw : 0 < n1 ∧ zs.contains num = false := by
      have h0 : zs.length ≠ 0 := fun h0 => hn (numH_nil h0)
      exact ⟨by have := HN.out.1; omega, by rw [← numH_some h0]; simpa using hn⟩
    have HY : Hid (ruleH ⟨zs, cs, act, data⟩ arch num ws = false) := by
      rw [Bool.not_eq_true] at hn
      rw [HB.out, hn]; rfl
    obtain ⟨h0, hcn⟩ := hw
    have h0' : (0 : Int) < (n1 : Int) := by omega
    rw [hcn] at HI
    clear h0 hn
    go_enter Try.func37, Try.ntmps37
    go_wp2_with fail
    rw [← HW.out]
    refine (HI.out _ HX.out.2.2).mono ?_
    rintro e w1 ⟨rfl, rfl⟩
    go_wp2
    go_ret
    exact ⟨by rw [HY.out]; rfl, HX.out.2.2⟩

end Go.Proofs.Ytoknlaaghjlnaaa
