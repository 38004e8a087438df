/- Proved: at every code the law FnDecides answers true: a drawn right policy decides of a drawn right call by the first rule that holds, else by itself, and kills where the arch is another; impl.Decide and impl.PolicyOk answer as the specification's of drawn policies and calls, right or not; no condition. -/
import Derived.Test.YtoknlaaghjlnaaaDrawPols
import Derived.Test.YtoknlaaghjlnaaaDecideS
import Derived.WalkKit
import Derived.ProofKit
import Derived.OpenShut
import Derived.ShutString
import Derived.ChangeOld
import Derived.Below
import Derived.Deep.RegionHeld3
import Derived.Deep.RegionWith
namespace Go.Proofs.Ytoknlaaghjlnaaa.FnDecides
open Go.ChangeShapes Go.WideShapes Go.ChangeAt Go.RowKit
open Go.ChangeMaps (open_string shut_string)
set_option linter.unusedVariables false

theorem own : ownKnob Try.prog.godebug = none := by kernel_rfl
theorem laidOut : laidOutB Try.prog = true := by kernel_rfl

set_option maxRecDepth 100000 in
set_option maxHeartbeats 6400000 in
theorem walk (a : Option Addr) (len cap : Nat) (w : World) (raw : Raw w a len) : Calls Try.prog 3 #[.slice a len cap] w fun e w' => e = .returned (.bool true) ∧ Below w.heap.size w w' := by
  by_cases hbig : 1048576 < len
  · go_enter Try.func3, Try.ntmps3
    go_wp2_with (go_at_call 9; refine (big_yes _ _ _ _ hbig).mono ?_; rintro e w' ⟨rfl, rfl⟩)
    go_ret
    exact ⟨rfl, Below.refl _ _⟩
  have HC : Hid (Came w a len) := ⟨by omega, raw⟩
  have hl : len ≤ 1048576 := by omega
  clear raw hbig
  go_enter Try.func3, Try.ntmps3
  go_wp2_with fail
  refine (big_no a len cap _ hl).mono ?_
  rintro e w' ⟨rfl, rfl⟩
  go_wp2_with fail
  refine (drawPolicy_any a len cap _ HC.out).mono ?_
  rintro e w1 ⟨a1, n1, c1, ac, da, arch, num, ca, m1, cc, rfl, ⟨pol, hpb, hps, pa, pc, pd, pn, hr⟩, ⟨ws, hcb, hm, hw⟩, e1⟩
  obtain ⟨par, pac, pda, rs⟩ := pol
  simp only at hps pa pc pd pn hr
  subst pa pc pd
  have hl3 : ws.length ≤ 1048576 := by have := callB_three hcb; omega
  have RP1 : Hid (∀ W, Ext w1 W → RepPol ⟨62, pac, pda, rs⟩ (.agg #[.int .i64 62, .int .i64 pac, .int .i64 pda, .slice a1 n1 c1]) W) := fun W hE => ⟨a1, c1, by rw [pn], hr.step hE⟩
  have RC1 : Hid (∀ W, Ext w1 W → RepCall arch num ws (.agg #[.int .i64 arch, .int .i64 num, .slice ca m1 cc]) W) := fun W hE => ⟨ca, cc, by rw [hm], hw.below hE (Nat.le_refl _)⟩
  have HS1 : Hid (SmallR rs ∧ ws.length ≤ 1048576) := ⟨hps, hl3⟩
  have HR : Hid (∀ W, Ext w1 W → Rules W a1 rs) := fun W hE => hr.step hE
  have HN : Hid (n1 = rs.length ∧ n1 ≤ 1048576) := ⟨pn, by rw [pn]; exact hps.1⟩
  have HPB : Hid (policyB ⟨62, pac, pda, rs⟩ = true) := hpb
  have HCB : Hid (callB arch num ws = true) := hcb
  have hn1 : n1 ≤ 1048576 := HN.out.2
  have E1 : Hid (Ext w w1) := e1
  clear hpb hps pn hr hcb hm hw e1 hl3
  obtain ⟨W2, hW2⟩ : ∃ W2, W2 = (w1.alloc (.cells #[.int .i64 62, .int .i64 pac, .int .i64 pda, .slice a1 n1 c1] 26)).alloc (.cells #[.int .i64 arch, .int .i64 num, .slice ca m1 cc] 29) := ⟨_, rfl⟩
  have HX : Hid (CellsAt W2 w1.heap.size [.int .i64 62, .int .i64 pac, .int .i64 pda, .slice a1 n1 c1] ∧ CellsAt W2 (w1.heap.size + 1) [.int .i64 arch, .int .i64 num, .slice ca m1 cc] ∧ Ext w1 W2) := by
    rw [hW2]
    exact ⟨(CellsAt.new w1 _ _).step (Ext.one _ _), CellsAt.new' _ _ _ _ (by simp), (Ext.one w1 _).alloc _⟩
  have HW2 : Hid (W2 = (w1.alloc (.cells #[.int .i64 62, .int .i64 pac, .int .i64 pda, .slice a1 n1 c1] 26)).alloc (.cells #[.int .i64 arch, .int .i64 num, .slice ca m1 cc] 29)) := hW2
  clear hW2
  go_wp2_with (go_at_call 11; refine (iResultOf_any _ _ _).mono ?_; rintro e w' ⟨rfl, rfl⟩)
  rw [← HW2.out]
  go_loopw [5, 6] (fun wv i wr => ∃ k : Nat, wv = .int .i64 (firstV (rs.drop k) arch num ws (resV pac pda)) ∧ i = .int .i64 ((k : Int) - 1) ∧ k ≤ n1 ∧ Hid (Ext W2 wr)) (fun _ i _ => (intOf i + 1).toNat)
  case atStart => exact ⟨n1, by rw [List.drop_eq_nil_of_le (by have := HN.out.1; omega)]; rfl, rfl, by omega, Ext.refl _⟩
  case round =>
    obtain ⟨k, rfl, rfl, hk, hE⟩ := hrel
    have cx := HX.out.1.step hE.out
    have dx := HX.out.2.1.step hE.out
    by_cases hlt : 0 < k
    · obtain ⟨j, rfl⟩ : ∃ j, k = j + 1 := ⟨k - 1, by omega⟩
      have ej : ((j + 1 : Nat) : Int) - 1 = (j : Int) := by omega
      rw [ej]
      obtain ⟨fv, hfv⟩ : ∃ fv, fv = firstV (rs.drop (j + 1)) arch num ws (resV pac pda) := ⟨_, rfl⟩
      rw [← hfv]
      obtain ⟨b, off, l, rfl, hseg, hL⟩ := (HR.out wr (HX.out.2.2.trans hE.out)).at (k := j) (by have := HN.out.1; omega)
      obtain ⟨x1, y1, z1, x2, y2, z2, xc, xd, rfl, exc, exd⟩ := hL.form
      obtain ⟨z, hz⟩ : ∃ z, z = ruleH (rs.getD j r0) arch num ws := ⟨_, rfl⟩
      have HZ : Hid (firstV (rs.drop j) arch num ws (resV pac pda) = if z then resV xc xd else fv) := by
        unfold Hid
        rw [firstV_at (by have := HN.out.1; omega), hz, exc, exd, hfv]
      have HD : Hid (∀ W', Ext wr W' → Calls Try.prog 12 #[.agg #[.slice x1 y1 z1, .slice x2 y2 z2, .int .i64 xc, .int .i64 xd], .agg #[.int .i64 arch, .int .i64 num, .slice ca m1 cc]] W' fun e w' => e = .returned (.bool z) ∧ Ext W' w') := fun W' hx => by
        rw [hz]
        exact iRuleHolds_rep (HS1.out.1.2 j (by have := HN.out.1; omega)) HS1.out.2 ⟨_, rfl, hL.step hx⟩ (RC1.out W' ((HX.out.2.2.trans hE.out).trans hx))
      have bj : (j : Int) < (n1 : Int) := by omega
      have bj0 : (0 : Int) ≤ (j : Int) := by omega
      clear hz hL exc exd hfv ej
      go_wp2_with fail
      refine' wp_region_loose (.inl _ :: .inl _ :: .inl _ :: .inl _ :: .inl _ :: .inl _ :: .inl _ :: []) (fun w' => CellsAt w' w1.heap.size [.int .i64 62, .int .i64 pac, .int .i64 pda, .slice (some ⟨b, off, none⟩) n1 c1] ∧ CellsAt w' (w1.heap.size + 1) [.int .i64 arch, .int .i64 num, .slice ca m1 cc] ∧ SegB w' b (off + j * 4) [.slice x1 y1 z1, .slice x2 y2 z2, .int .i64 xc, .int .i64 xd]) (by kernel_rfl) (by kernel_rfl) (⟨cx.drew, dx.drew, hseg.drew⟩) (fun _ _ h hE => ⟨h.1.step hE, h.2.1.step hE, h.2.2.step hE⟩) ?hAx ?hlx ?hMx
      case' hMx => skip
      apply wpLoose_val rfl rfl
      case hs =>
        intro w1 hC hd Q1 hQ1
        obtain ⟨hE, hS⟩ := hC
        dsimp only [bare]
        obtain ⟨q3, t0, t1, t2, ⟨p0, p1, p2, p3⟩⟩ := (⟨hS.1.2 3 _ rfl, hS.2.1.2 0 _ rfl, hS.2.1.2 1 _ rfl, hS.2.1.2 2 _ rfl, hS.2.2.2.four⟩ : _ ∧ _ ∧ _ ∧ _ ∧ _)
        clear hd hE
        try clear hS
        go_wp2
        exact Ext.refl _
      case ha => rfl
      apply wpLoose_val rfl rfl
      case hs =>
        intro w1 hC hd Q1 hQ1
        obtain ⟨hE, hS⟩ := hC
        dsimp only [bare]
        obtain ⟨q3, t0, t1, t2, ⟨p0, p1, p2, p3⟩⟩ := (⟨hS.1.2 3 _ rfl, hS.2.1.2 0 _ rfl, hS.2.1.2 1 _ rfl, hS.2.1.2 2 _ rfl, hS.2.2.2.four⟩ : _ ∧ _ ∧ _ ∧ _ ∧ _)
        clear hd hE
        try clear hS
        go_wp2
        exact Ext.refl _
      case ha => rfl
      apply wpLoose_val rfl rfl
      case hs =>
        intro w1 hC hd Q1 hQ1
        obtain ⟨hE, hS⟩ := hC
        dsimp only [bare]
        obtain ⟨q3, t0, t1, t2, ⟨p0, p1, p2, p3⟩⟩ := (⟨hS.1.2 3 _ rfl, hS.2.1.2 0 _ rfl, hS.2.1.2 1 _ rfl, hS.2.1.2 2 _ rfl, hS.2.2.2.four⟩ : _ ∧ _ ∧ _ ∧ _ ∧ _)
        clear hd hE
        try clear hS
        go_wp2
        exact Ext.refl _
      case ha => rfl
      apply wpLoose_val rfl rfl
      case hs =>
        intro w1 hC hd Q1 hQ1
        obtain ⟨hE, hS⟩ := hC
        dsimp only [bare]
        obtain ⟨q3, t0, t1, t2, ⟨p0, p1, p2, p3⟩⟩ := (⟨hS.1.2 3 _ rfl, hS.2.1.2 0 _ rfl, hS.2.1.2 1 _ rfl, hS.2.1.2 2 _ rfl, hS.2.2.2.four⟩ : _ ∧ _ ∧ _ ∧ _ ∧ _)
        clear hd hE
        try clear hS
        go_wp2
        exact Ext.refl _
      case ha => rfl
      apply wpLoose_val rfl rfl
      case hs =>
        intro w1 hC hd Q1 hQ1
        obtain ⟨hE, hS⟩ := hC
        dsimp only [bare]
        obtain ⟨q3, t0, t1, t2, ⟨p0, p1, p2, p3⟩⟩ := (⟨hS.1.2 3 _ rfl, hS.2.1.2 0 _ rfl, hS.2.1.2 1 _ rfl, hS.2.1.2 2 _ rfl, hS.2.2.2.four⟩ : _ ∧ _ ∧ _ ∧ _ ∧ _)
        clear hd hE
        try clear hS
        go_wp2
        exact Ext.refl _
      case ha => rfl
      apply wpLoose_val rfl rfl
      case hs =>
        intro w1 hC hd Q1 hQ1
        obtain ⟨hE, hS⟩ := hC
        dsimp only [bare]
        obtain ⟨q3, t0, t1, t2, ⟨p0, p1, p2, p3⟩⟩ := (⟨hS.1.2 3 _ rfl, hS.2.1.2 0 _ rfl, hS.2.1.2 1 _ rfl, hS.2.1.2 2 _ rfl, hS.2.2.2.four⟩ : _ ∧ _ ∧ _ ∧ _ ∧ _)
        clear hd hE
        try clear hS
        go_wp2
        exact Ext.refl _
      case ha => rfl
      apply wpLoose_val rfl rfl
      case hs =>
        intro w1 hC hd Q1 hQ1
        obtain ⟨hE, hS⟩ := hC
        dsimp only [bare]
        clear hd
        go_wp2_with fail
        refine (HD.out _ ((Ext.refl wr).drew.trans hE)).mono ?_
        rintro e w2 ⟨rfl, hb⟩
        go_wp2_with fail
        exact hb
      case ha => rfl
      refine wpLoose_nil ?_
      intro wx hEx hSx hFx
      have X3 : Hid (Ext W2 wx) := hE.out.drew.trans hEx
      have c3 := hSx.1
      have g3 := hSx.2.2
      clear hFx hSx hEx cx dx hseg HD
      cases z
      · have HT : Hid (fv = firstV (rs.drop j) arch num ws (resV pac pda)) := by
          have := HZ.out
          simp only [Bool.false_eq_true, if_false] at this
          exact this.symm
        clear HZ c3 g3
        go_wp2
        go_roundw
        case rel => exact ⟨j, by rw [HT.out], rfl, by omega, X3⟩
        case measure => simp [intOf]
      · have HT : Hid (resV xc xd = firstV (rs.drop j) arch num ws (resV pac pda)) := by
          have := HZ.out
          simp only [if_true] at this
          exact this.symm
        clear HZ
        go_wp2_with fail
        refine' wp_region_loose (.inl _ :: .inl _ :: .inl _ :: .inl _ :: .inl _ :: .inl _ :: .inl _ :: .inl _ :: .inl _ :: .inl _ :: .inl _ :: .inl _ :: .inl _ :: .inl _ :: []) (fun w' => CellsAt w' w1.heap.size [.int .i64 62, .int .i64 pac, .int .i64 pda, .slice (some ⟨b, off, none⟩) n1 c1] ∧ SegB w' b (off + j * 4) [.slice x1 y1 z1, .slice x2 y2 z2, .int .i64 xc, .int .i64 xd]) (by kernel_rfl) (by kernel_rfl) (⟨c3.drew, g3.drew⟩) (fun _ _ h hE => ⟨h.1.step hE, h.2.step hE⟩) ?hAy ?hly ?hMy
        case' hMy => skip
        apply wpLoose_val rfl rfl
        case hs =>
          intro w1 hC hd Q1 hQ1
          obtain ⟨hE, hS⟩ := hC
          dsimp only [bare]
          obtain ⟨q3, ⟨p0, p1, p2, p3⟩⟩ := (⟨hS.1.2 3 _ rfl, hS.2.2.four⟩ : _ ∧ _)
          clear hd hE
          try clear hS
          go_wp2
          exact Ext.refl _
        case ha => rfl
        apply wpLoose_val rfl rfl
        case hs =>
          intro w1 hC hd Q1 hQ1
          obtain ⟨hE, hS⟩ := hC
          dsimp only [bare]
          obtain ⟨q3, ⟨p0, p1, p2, p3⟩⟩ := (⟨hS.1.2 3 _ rfl, hS.2.2.four⟩ : _ ∧ _)
          clear hd hE
          try clear hS
          go_wp2
          exact Ext.refl _
        case ha => rfl
        apply wpLoose_val rfl rfl
        case hs =>
          intro w1 hC hd Q1 hQ1
          obtain ⟨hE, hS⟩ := hC
          dsimp only [bare]
          obtain ⟨q3, ⟨p0, p1, p2, p3⟩⟩ := (⟨hS.1.2 3 _ rfl, hS.2.2.four⟩ : _ ∧ _)
          clear hd hE
          try clear hS
          go_wp2
          exact Ext.refl _
        case ha => rfl
        apply wpLoose_val rfl rfl
        case hs =>
          intro w1 hC hd Q1 hQ1
          obtain ⟨hE, hS⟩ := hC
          dsimp only [bare]
          obtain ⟨q3, ⟨p0, p1, p2, p3⟩⟩ := (⟨hS.1.2 3 _ rfl, hS.2.2.four⟩ : _ ∧ _)
          clear hd hE
          try clear hS
          go_wp2
          exact Ext.refl _
        case ha => rfl
        apply wpLoose_val rfl rfl
        case hs =>
          intro w1 hC hd Q1 hQ1
          obtain ⟨hE, hS⟩ := hC
          dsimp only [bare]
          obtain ⟨q3, ⟨p0, p1, p2, p3⟩⟩ := (⟨hS.1.2 3 _ rfl, hS.2.2.four⟩ : _ ∧ _)
          clear hd hE
          try clear hS
          go_wp2
          exact Ext.refl _
        case ha => rfl
        apply wpLoose_val rfl rfl
        case hs =>
          intro w1 hC hd Q1 hQ1
          obtain ⟨hE, hS⟩ := hC
          dsimp only [bare]
          obtain ⟨q3, ⟨p0, p1, p2, p3⟩⟩ := (⟨hS.1.2 3 _ rfl, hS.2.2.four⟩ : _ ∧ _)
          clear hd hE
          try clear hS
          go_wp2
          exact Ext.refl _
        case ha => rfl
        apply wpLoose_val rfl rfl
        case hs =>
          intro w1 hC hd Q1 hQ1
          obtain ⟨hE, hS⟩ := hC
          dsimp only [bare]
          obtain ⟨q3, ⟨p0, p1, p2, p3⟩⟩ := (⟨hS.1.2 3 _ rfl, hS.2.2.four⟩ : _ ∧ _)
          clear hd hE
          try clear hS
          go_wp2
          exact Ext.refl _
        case ha => rfl
        apply wpLoose_val rfl rfl
        case hs =>
          intro w1 hC hd Q1 hQ1
          obtain ⟨hE, hS⟩ := hC
          dsimp only [bare]
          obtain ⟨q3, ⟨p0, p1, p2, p3⟩⟩ := (⟨hS.1.2 3 _ rfl, hS.2.2.four⟩ : _ ∧ _)
          clear hd hE
          try clear hS
          go_wp2
          exact Ext.refl _
        case ha => rfl
        apply wpLoose_val rfl rfl
        case hs =>
          intro w1 hC hd Q1 hQ1
          obtain ⟨hE, hS⟩ := hC
          dsimp only [bare]
          obtain ⟨q3, ⟨p0, p1, p2, p3⟩⟩ := (⟨hS.1.2 3 _ rfl, hS.2.2.four⟩ : _ ∧ _)
          clear hd hE
          try clear hS
          go_wp2
          exact Ext.refl _
        case ha => rfl
        apply wpLoose_val rfl rfl
        case hs =>
          intro w1 hC hd Q1 hQ1
          obtain ⟨hE, hS⟩ := hC
          dsimp only [bare]
          obtain ⟨q3, ⟨p0, p1, p2, p3⟩⟩ := (⟨hS.1.2 3 _ rfl, hS.2.2.four⟩ : _ ∧ _)
          clear hd hE
          try clear hS
          go_wp2
          exact Ext.refl _
        case ha => rfl
        apply wpLoose_val rfl rfl
        case hs =>
          intro w1 hC hd Q1 hQ1
          obtain ⟨hE, hS⟩ := hC
          dsimp only [bare]
          obtain ⟨q3, ⟨p0, p1, p2, p3⟩⟩ := (⟨hS.1.2 3 _ rfl, hS.2.2.four⟩ : _ ∧ _)
          clear hd hE
          try clear hS
          go_wp2
          exact Ext.refl _
        case ha => rfl
        apply wpLoose_val rfl rfl
        case hs =>
          intro w1 hC hd Q1 hQ1
          obtain ⟨hE, hS⟩ := hC
          dsimp only [bare]
          obtain ⟨q3, ⟨p0, p1, p2, p3⟩⟩ := (⟨hS.1.2 3 _ rfl, hS.2.2.four⟩ : _ ∧ _)
          clear hd hE
          try clear hS
          go_wp2
          exact Ext.refl _
        case ha => rfl
        apply wpLoose_val rfl rfl
        case hs =>
          intro w1 hC hd Q1 hQ1
          obtain ⟨hE, hS⟩ := hC
          dsimp only [bare]
          clear hd
          go_wp2_with fail
          refine (iResultOf_any _ _ _).mono ?_
          rintro e w2 ⟨rfl, rfl⟩
          go_wp2_with fail
          exact Ext.refl _
        case ha => rfl
        apply wpLoose_val rfl rfl
        case hs =>
          intro w1 hC hd Q1 hQ1
          obtain ⟨hE, hS⟩ := hC
          dsimp only [bare]
          obtain ⟨q3, ⟨p0, p1, p2, p3⟩⟩ := (⟨hS.1.2 3 _ rfl, hS.2.2.four⟩ : _ ∧ _)
          clear hd hE
          try clear hS
          go_wp2
          exact Ext.refl _
        case ha => rfl
        refine wpLoose_nil ?_
        intro wy hEy hSy hFy
        have X4 : Hid (Ext W2 wy) := X3.out.drew.trans hEy
        clear hFy hSy hEy c3 g3
        go_wp2
        go_roundw
        case rel => exact ⟨j, by rw [HT.out], rfl, by omega, X4⟩
        case measure => simp [intOf]
        case hAy => kernel_rfl
        case hly => exact ⟨trivial, trivial, trivial, trivial, trivial, trivial, trivial, trivial, trivial, trivial, trivial, trivial, trivial, trivial, trivial⟩
      case hAx => kernel_rfl
      case hlx => exact ⟨trivial, trivial, trivial, trivial, trivial, trivial, trivial, trivial⟩
    · obtain rfl : k = 0 := by omega
      have E8 : Hid (Ext w wr) := E1.out.trans (HX.out.2.2.trans hE.out)
      have E81 : Hid (Ext w1 wr) := HX.out.2.2.trans hE.out
      obtain ⟨want, hwant⟩ : ∃ want, want = firstV (rs.drop 0) arch num ws (resV pac pda) := ⟨_, rfl⟩
      rw [← hwant]
      have c8 := cx
      have d8 := dx
      obtain ⟨q0, t0⟩ := (⟨cx.2 0 _ rfl, dx.2 0 _ rfl⟩ : _ ∧ _)
      clear cx dx hE hlt hk HR HW2 HX E1
      by_cases har : arch = 62
      · have hne : (arch != 62) = false := by simpa using har
        have HWANT : Hid (want = decideV ⟨62, pac, pda, rs⟩ arch num ws) := by rw [hwant, decideV_yes HPB.out HCB.out har]; rfl
        clear hwant har
        go_wp2_with fail
        refine (drawDecide_any a len cap _ (HC.out.below E8.out)).mono ?_
        rintro e w9 ⟨ar2, ac2, da2, a2, n2, c2, arch2, num2, ca2, m2, cc2, rfl, ⟨rs2, hn2, hsr2, hrp2⟩, ⟨ws2, hl2, hm2, hw2⟩, e9⟩
        have E9 : Hid (Ext w w9 ∧ Ext w1 w9) := ⟨E8.out.trans e9, E81.out.trans e9⟩
        have RP2 : Hid (∀ W, Ext w9 W → RepPol ⟨ar2, ac2, da2, rs2⟩ (.agg #[.int .i64 ar2, .int .i64 ac2, .int .i64 da2, .slice a2 n2 c2]) W) := fun W hE => ⟨a2, c2, by rw [hn2], hrp2.rules.step hE⟩
        have RC2 : Hid (∀ W, Ext w9 W → RepCall arch2 num2 ws2 (.agg #[.int .i64 arch2, .int .i64 num2, .slice ca2 m2 cc2]) W) := fun W hE => ⟨ca2, cc2, by rw [hm2], hw2.below hE (Nat.le_refl _)⟩
        have HS2 : Hid (SmallR rs2 ∧ ws2.length ≤ 1048576) := ⟨hsr2, by omega⟩
        have c9 := c8.step e9
        have d9 := d8.step e9
        clear hn2 hsr2 hrp2 hl2 hm2 hw2 e9 E8 E81 c8 d8
        have x9 := ((CellsAt.new w9 [.int .i64 ar2, .int .i64 ac2, .int .i64 da2, .slice a2 n2 c2] 26).step (Ext.one _ (.cells #[.int .i64 arch2, .int .i64 num2, .slice ca2 m2 cc2] 29)))
        have y9 := CellsAt.new' (w9.alloc (.cells #[.int .i64 ar2, .int .i64 ac2, .int .i64 da2, .slice a2 n2 c2] 26)) [.int .i64 arch2, .int .i64 num2, .slice ca2 m2 cc2] 29 (w9.heap.size + 1) (by simp)
        go_wp2_with fail
        refine (drawPolicyOk_any a len cap _ (HC.out.below ((E9.out.1.alloc _).alloc _))).mono ?_
        rintro e w10 ⟨ar3, ac3, da3, a3, n3, c3, rfl, ⟨rs3, hn3, hsr3, hrp3⟩, e10⟩
        have e9x : Ext w9 w10 := ((Ext.one w9 _).alloc _).trans e10
        have RP3 : Hid (∀ W, Ext w10 W → RepPol ⟨ar3, ac3, da3, rs3⟩ (.agg #[.int .i64 ar3, .int .i64 ac3, .int .i64 da3, .slice a3 n3 c3]) W) := fun W hE => ⟨a3, c3, by rw [hn3], hrp3.rules.step hE⟩
        have HS3 : Hid (SmallR rs3) := hsr3
        have E10 : Hid (Ext w w10 ∧ Ext w1 w10 ∧ Ext w9 w10) := ⟨E9.out.1.trans e9x, E9.out.2.trans e9x, e9x⟩
        have c10 := c9.step e9x
        have d10 := d9.step e9x
        have x10 := x9.step e10
        have y10 := y9.step e10
        clear hn3 hsr3 hrp3 e10 e9x E9 c9 d9 x9 y9
        have c11 := c10.step (Ext.one w10 (.cells #[.int .i64 ar3, .int .i64 ac3, .int .i64 da3, .slice a3 n3 c3] 26))
        have d11 := d10.step (Ext.one w10 (.cells #[.int .i64 ar3, .int .i64 ac3, .int .i64 da3, .slice a3 n3 c3] 26))
        have x11 := x10.step (Ext.one w10 (.cells #[.int .i64 ar3, .int .i64 ac3, .int .i64 da3, .slice a3 n3 c3] 26))
        have y11 := y10.step (Ext.one w10 (.cells #[.int .i64 ar3, .int .i64 ac3, .int .i64 da3, .slice a3 n3 c3] 26))
        have z11 := CellsAt.new w10 [.int .i64 ar3, .int .i64 ac3, .int .i64 da3, .slice a3 n3 c3] 26
        have E11 : Hid (Ext w (w10.alloc (.cells #[.int .i64 ar3, .int .i64 ac3, .int .i64 da3, .slice a3 n3 c3] 26)) ∧ Ext w1 (w10.alloc (.cells #[.int .i64 ar3, .int .i64 ac3, .int .i64 da3, .slice a3 n3 c3] 26)) ∧ Ext w9 (w10.alloc (.cells #[.int .i64 ar3, .int .i64 ac3, .int .i64 da3, .slice a3 n3 c3] 26)) ∧ Ext w10 (w10.alloc (.cells #[.int .i64 ar3, .int .i64 ac3, .int .i64 da3, .slice a3 n3 c3] 26))) := ⟨E10.out.1.alloc _, E10.out.2.1.alloc _, E10.out.2.2.alloc _, Ext.one _ _⟩
        simp only [List.toArray] at z11
        clear c10 d10 x10 y10 E10
        obtain ⟨u2, hu2⟩ : ∃ u2, u2 = decideV ⟨ar2, ac2, da2, rs2⟩ arch2 num2 ws2 := ⟨_, rfl⟩
        obtain ⟨u3, hu3⟩ : ∃ u3, u3 = policyB ⟨ar3, ac3, da3, rs3⟩ := ⟨_, rfl⟩
        have D1 : Hid (∀ W, Ext w1 W → Calls Try.prog 15 #[.agg #[.int .i64 62, .int .i64 pac, .int .i64 pda, .slice a1 n1 c1], .agg #[.int .i64 arch, .int .i64 num, .slice ca m1 cc]] W fun e w' => e = .returned (.int .i64 want) ∧ Ext W w') := fun W hE => by rw [HWANT.out]; exact iDecide_rep HS1.out.1 HS1.out.2 (RP1.out W hE) (RC1.out W hE)
        have D2 : Hid (∀ W, Ext w9 W → Calls Try.prog 15 #[.agg #[.int .i64 ar2, .int .i64 ac2, .int .i64 da2, .slice a2 n2 c2], .agg #[.int .i64 arch2, .int .i64 num2, .slice ca2 m2 cc2]] W fun e w' => e = .returned (.int .i64 u2) ∧ Ext W w') := fun W hE => by rw [hu2]; exact iDecide_rep HS2.out.1 HS2.out.2 (RP2.out W hE) (RC2.out W hE)
        have D3 : Hid (∀ W, Ext w9 W → Calls Try.prog 16 #[.agg #[.int .i64 ar2, .int .i64 ac2, .int .i64 da2, .slice a2 n2 c2], .agg #[.int .i64 arch2, .int .i64 num2, .slice ca2 m2 cc2]] W fun e w' => e = .returned (.int .i64 u2) ∧ Ext W w') := fun W hE => by rw [hu2]; exact sDecide_rep HS2.out.1 HS2.out.2 (RP2.out W hE) (RC2.out W hE)
        have K1 : Hid (∀ W, Ext w1 W → Calls Try.prog 17 #[.agg #[.int .i64 62, .int .i64 pac, .int .i64 pda, .slice a1 n1 c1]] W fun e w' => e = .returned (.bool true) ∧ Ext W w') := fun W hE => by
          have := iPolicyOk_rep HS1.out.1 (RP1.out W hE)
          rw [HPB.out] at this
          exact this
        have K2 : Hid (∀ W, Ext w10 W → Calls Try.prog 17 #[.agg #[.int .i64 ar3, .int .i64 ac3, .int .i64 da3, .slice a3 n3 c3]] W fun e w' => e = .returned (.bool u3) ∧ Ext W w') := fun W hE => by rw [hu3]; exact iPolicyOk_rep HS3.out (RP3.out W hE)
        have K3 : Hid (∀ W, Ext w10 W → Calls Try.prog 18 #[.agg #[.int .i64 ar3, .int .i64 ac3, .int .i64 da3, .slice a3 n3 c3]] W fun e w' => e = .returned (.bool u3) ∧ Ext W w') := fun W hE => by rw [hu3]; exact sPolicyOk_rep HS3.out (RP3.out W hE)
        have hzz : (u3 == u3) = true := by cases u3 <;> rfl
        clear hu2 hu3 RP1 RC1 RP2 RC2 RP3 HS1 HS2 HS3 HPB
        go_wp2_with fail
        generalize w10.alloc (.cells #[.int .i64 ar3, .int .i64 ac3, .int .i64 da3, .slice a3 n3 c3] 26) = W11 at *
        refine' wp_region_loose (.inl _ :: .inl _ :: .inl _ :: .inl _ :: .inl _ :: .inl _ :: .inl _ :: .inl _ :: .inl _ :: .inl _ :: .inl _ :: .inl _ :: .inl _ :: .inl _ :: .inl _ :: .inl _ :: .inl _ :: .inl _ :: .inl _ :: .inl _ :: .inl _ :: .inl _ :: .inl _ :: .inl _ :: .inl _ :: .inl _ :: []) (fun w' => CellsAt w' w1.heap.size [.int .i64 62, .int .i64 pac, .int .i64 pda, .slice a1 n1 c1] ∧ CellsAt w' (w1.heap.size + 1) [.int .i64 arch, .int .i64 num, .slice ca m1 cc] ∧ CellsAt w' w9.heap.size [.int .i64 ar2, .int .i64 ac2, .int .i64 da2, .slice a2 n2 c2] ∧ CellsAt w' (w9.heap.size + 1) [.int .i64 arch2, .int .i64 num2, .slice ca2 m2 cc2] ∧ CellsAt w' w10.heap.size [.int .i64 ar3, .int .i64 ac3, .int .i64 da3, .slice a3 n3 c3]) (by kernel_rfl) (by kernel_rfl) (⟨c11.drew, d11.drew, x11.drew, y11.drew, z11.drew⟩) (fun _ _ h hE => ⟨h.1.step hE, h.2.1.step hE, h.2.2.1.step hE, h.2.2.2.1.step hE, h.2.2.2.2.step hE⟩) ?hAp ?hlp ?hMp
        case' hMp => skip
        apply wpLoose_val rfl rfl
        case hs =>
          intro w1 hC hd Q1 hQ1
          obtain ⟨hE, hS⟩ := hC
          dsimp only [bare]
          obtain ⟨p0, p1, p2, p3, p4, p5, p6⟩ := (⟨hS.1.2 0 _ rfl, hS.1.2 1 _ rfl, hS.1.2 2 _ rfl, hS.1.2 3 _ rfl, hS.2.1.2 0 _ rfl, hS.2.1.2 1 _ rfl, hS.2.1.2 2 _ rfl⟩ : _ ∧ _ ∧ _ ∧ _ ∧ _ ∧ _ ∧ _); obtain ⟨q0, q1, q2, q3, q4, q5, q6⟩ := (⟨hS.2.2.1.2 0 _ rfl, hS.2.2.1.2 1 _ rfl, hS.2.2.1.2 2 _ rfl, hS.2.2.1.2 3 _ rfl, hS.2.2.2.1.2 0 _ rfl, hS.2.2.2.1.2 1 _ rfl, hS.2.2.2.1.2 2 _ rfl⟩ : _ ∧ _ ∧ _ ∧ _ ∧ _ ∧ _ ∧ _); obtain ⟨s0, s1, s2, s3⟩ := (⟨hS.2.2.2.2.2 0 _ rfl, hS.2.2.2.2.2 1 _ rfl, hS.2.2.2.2.2 2 _ rfl, hS.2.2.2.2.2 3 _ rfl⟩ : _ ∧ _ ∧ _ ∧ _)
          clear hd hE
          try clear hS
          go_wp2
          exact Ext.refl _
        case ha => rfl
        apply wpLoose_val rfl rfl
        case hs =>
          intro w1 hC hd Q1 hQ1
          obtain ⟨hE, hS⟩ := hC
          dsimp only [bare]
          obtain ⟨p0, p1, p2, p3, p4, p5, p6⟩ := (⟨hS.1.2 0 _ rfl, hS.1.2 1 _ rfl, hS.1.2 2 _ rfl, hS.1.2 3 _ rfl, hS.2.1.2 0 _ rfl, hS.2.1.2 1 _ rfl, hS.2.1.2 2 _ rfl⟩ : _ ∧ _ ∧ _ ∧ _ ∧ _ ∧ _ ∧ _); obtain ⟨q0, q1, q2, q3, q4, q5, q6⟩ := (⟨hS.2.2.1.2 0 _ rfl, hS.2.2.1.2 1 _ rfl, hS.2.2.1.2 2 _ rfl, hS.2.2.1.2 3 _ rfl, hS.2.2.2.1.2 0 _ rfl, hS.2.2.2.1.2 1 _ rfl, hS.2.2.2.1.2 2 _ rfl⟩ : _ ∧ _ ∧ _ ∧ _ ∧ _ ∧ _ ∧ _); obtain ⟨s0, s1, s2, s3⟩ := (⟨hS.2.2.2.2.2 0 _ rfl, hS.2.2.2.2.2 1 _ rfl, hS.2.2.2.2.2 2 _ rfl, hS.2.2.2.2.2 3 _ rfl⟩ : _ ∧ _ ∧ _ ∧ _)
          clear hd hE
          try clear hS
          go_wp2
          exact Ext.refl _
        case ha => rfl
        apply wpLoose_val rfl rfl
        case hs =>
          intro w1 hC hd Q1 hQ1
          obtain ⟨hE, hS⟩ := hC
          dsimp only [bare]
          clear hd
          go_wp2_with fail
          refine (D1.out _ (E11.out.2.1.drew.trans hE)).mono ?_
          rintro e w2 ⟨rfl, hb⟩
          go_wp2_with fail
          exact hb
        case ha => rfl
        apply wpLoose_val rfl rfl
        case hs =>
          intro w1 hC hd Q1 hQ1
          obtain ⟨hE, hS⟩ := hC
          dsimp only [bare]
          obtain ⟨p0, p1, p2, p3, p4, p5, p6⟩ := (⟨hS.1.2 0 _ rfl, hS.1.2 1 _ rfl, hS.1.2 2 _ rfl, hS.1.2 3 _ rfl, hS.2.1.2 0 _ rfl, hS.2.1.2 1 _ rfl, hS.2.1.2 2 _ rfl⟩ : _ ∧ _ ∧ _ ∧ _ ∧ _ ∧ _ ∧ _); obtain ⟨q0, q1, q2, q3, q4, q5, q6⟩ := (⟨hS.2.2.1.2 0 _ rfl, hS.2.2.1.2 1 _ rfl, hS.2.2.1.2 2 _ rfl, hS.2.2.1.2 3 _ rfl, hS.2.2.2.1.2 0 _ rfl, hS.2.2.2.1.2 1 _ rfl, hS.2.2.2.1.2 2 _ rfl⟩ : _ ∧ _ ∧ _ ∧ _ ∧ _ ∧ _ ∧ _); obtain ⟨s0, s1, s2, s3⟩ := (⟨hS.2.2.2.2.2 0 _ rfl, hS.2.2.2.2.2 1 _ rfl, hS.2.2.2.2.2 2 _ rfl, hS.2.2.2.2.2 3 _ rfl⟩ : _ ∧ _ ∧ _ ∧ _)
          clear hd hE
          try clear hS
          go_wp2
          exact Ext.refl _
        case ha => rfl
        apply wpLoose_val rfl rfl
        case hs =>
          intro w1 hC hd Q1 hQ1
          obtain ⟨hE, hS⟩ := hC
          dsimp only [bare]
          obtain ⟨p0, p1, p2, p3, p4, p5, p6⟩ := (⟨hS.1.2 0 _ rfl, hS.1.2 1 _ rfl, hS.1.2 2 _ rfl, hS.1.2 3 _ rfl, hS.2.1.2 0 _ rfl, hS.2.1.2 1 _ rfl, hS.2.1.2 2 _ rfl⟩ : _ ∧ _ ∧ _ ∧ _ ∧ _ ∧ _ ∧ _); obtain ⟨q0, q1, q2, q3, q4, q5, q6⟩ := (⟨hS.2.2.1.2 0 _ rfl, hS.2.2.1.2 1 _ rfl, hS.2.2.1.2 2 _ rfl, hS.2.2.1.2 3 _ rfl, hS.2.2.2.1.2 0 _ rfl, hS.2.2.2.1.2 1 _ rfl, hS.2.2.2.1.2 2 _ rfl⟩ : _ ∧ _ ∧ _ ∧ _ ∧ _ ∧ _ ∧ _); obtain ⟨s0, s1, s2, s3⟩ := (⟨hS.2.2.2.2.2 0 _ rfl, hS.2.2.2.2.2 1 _ rfl, hS.2.2.2.2.2 2 _ rfl, hS.2.2.2.2.2 3 _ rfl⟩ : _ ∧ _ ∧ _ ∧ _)
          clear hd hE
          try clear hS
          go_wp2
          exact Ext.refl _
        case ha => rfl
        apply wpLoose_val rfl rfl
        case hs =>
          intro w1 hC hd Q1 hQ1
          obtain ⟨hE, hS⟩ := hC
          dsimp only [bare]
          obtain ⟨p0, p1, p2, p3, p4, p5, p6⟩ := (⟨hS.1.2 0 _ rfl, hS.1.2 1 _ rfl, hS.1.2 2 _ rfl, hS.1.2 3 _ rfl, hS.2.1.2 0 _ rfl, hS.2.1.2 1 _ rfl, hS.2.1.2 2 _ rfl⟩ : _ ∧ _ ∧ _ ∧ _ ∧ _ ∧ _ ∧ _); obtain ⟨q0, q1, q2, q3, q4, q5, q6⟩ := (⟨hS.2.2.1.2 0 _ rfl, hS.2.2.1.2 1 _ rfl, hS.2.2.1.2 2 _ rfl, hS.2.2.1.2 3 _ rfl, hS.2.2.2.1.2 0 _ rfl, hS.2.2.2.1.2 1 _ rfl, hS.2.2.2.1.2 2 _ rfl⟩ : _ ∧ _ ∧ _ ∧ _ ∧ _ ∧ _ ∧ _); obtain ⟨s0, s1, s2, s3⟩ := (⟨hS.2.2.2.2.2 0 _ rfl, hS.2.2.2.2.2 1 _ rfl, hS.2.2.2.2.2 2 _ rfl, hS.2.2.2.2.2 3 _ rfl⟩ : _ ∧ _ ∧ _ ∧ _)
          clear hd hE
          try clear hS
          go_wp2
          exact Ext.refl _
        case ha => rfl
        apply wpLoose_val rfl rfl
        case hs =>
          intro w1 hC hd Q1 hQ1
          obtain ⟨hE, hS⟩ := hC
          dsimp only [bare]
          obtain ⟨p0, p1, p2, p3, p4, p5, p6⟩ := (⟨hS.1.2 0 _ rfl, hS.1.2 1 _ rfl, hS.1.2 2 _ rfl, hS.1.2 3 _ rfl, hS.2.1.2 0 _ rfl, hS.2.1.2 1 _ rfl, hS.2.1.2 2 _ rfl⟩ : _ ∧ _ ∧ _ ∧ _ ∧ _ ∧ _ ∧ _); obtain ⟨q0, q1, q2, q3, q4, q5, q6⟩ := (⟨hS.2.2.1.2 0 _ rfl, hS.2.2.1.2 1 _ rfl, hS.2.2.1.2 2 _ rfl, hS.2.2.1.2 3 _ rfl, hS.2.2.2.1.2 0 _ rfl, hS.2.2.2.1.2 1 _ rfl, hS.2.2.2.1.2 2 _ rfl⟩ : _ ∧ _ ∧ _ ∧ _ ∧ _ ∧ _ ∧ _); obtain ⟨s0, s1, s2, s3⟩ := (⟨hS.2.2.2.2.2 0 _ rfl, hS.2.2.2.2.2 1 _ rfl, hS.2.2.2.2.2 2 _ rfl, hS.2.2.2.2.2 3 _ rfl⟩ : _ ∧ _ ∧ _ ∧ _)
          clear hd hE
          try clear hS
          go_wp2
          exact Ext.refl _
        case ha => rfl
        apply wpLoose_val rfl rfl
        case hs =>
          intro w1 hC hd Q1 hQ1
          obtain ⟨hE, hS⟩ := hC
          dsimp only [bare]
          obtain ⟨p0, p1, p2, p3, p4, p5, p6⟩ := (⟨hS.1.2 0 _ rfl, hS.1.2 1 _ rfl, hS.1.2 2 _ rfl, hS.1.2 3 _ rfl, hS.2.1.2 0 _ rfl, hS.2.1.2 1 _ rfl, hS.2.1.2 2 _ rfl⟩ : _ ∧ _ ∧ _ ∧ _ ∧ _ ∧ _ ∧ _); obtain ⟨q0, q1, q2, q3, q4, q5, q6⟩ := (⟨hS.2.2.1.2 0 _ rfl, hS.2.2.1.2 1 _ rfl, hS.2.2.1.2 2 _ rfl, hS.2.2.1.2 3 _ rfl, hS.2.2.2.1.2 0 _ rfl, hS.2.2.2.1.2 1 _ rfl, hS.2.2.2.1.2 2 _ rfl⟩ : _ ∧ _ ∧ _ ∧ _ ∧ _ ∧ _ ∧ _); obtain ⟨s0, s1, s2, s3⟩ := (⟨hS.2.2.2.2.2 0 _ rfl, hS.2.2.2.2.2 1 _ rfl, hS.2.2.2.2.2 2 _ rfl, hS.2.2.2.2.2 3 _ rfl⟩ : _ ∧ _ ∧ _ ∧ _)
          clear hd hE
          try clear hS
          go_wp2
          exact Ext.refl _
        case ha => rfl
        apply wpLoose_val rfl rfl
        case hs =>
          intro w1 hC hd Q1 hQ1
          obtain ⟨hE, hS⟩ := hC
          dsimp only [bare]
          clear hd
          go_wp2_with fail
          refine (D2.out _ (E11.out.2.2.1.drew.trans hE)).mono ?_
          rintro e w2 ⟨rfl, hb⟩
          go_wp2_with fail
          exact hb
        case ha => rfl
        apply wpLoose_val rfl rfl
        case hs =>
          intro w1 hC hd Q1 hQ1
          obtain ⟨hE, hS⟩ := hC
          dsimp only [bare]
          obtain ⟨p0, p1, p2, p3, p4, p5, p6⟩ := (⟨hS.1.2 0 _ rfl, hS.1.2 1 _ rfl, hS.1.2 2 _ rfl, hS.1.2 3 _ rfl, hS.2.1.2 0 _ rfl, hS.2.1.2 1 _ rfl, hS.2.1.2 2 _ rfl⟩ : _ ∧ _ ∧ _ ∧ _ ∧ _ ∧ _ ∧ _); obtain ⟨q0, q1, q2, q3, q4, q5, q6⟩ := (⟨hS.2.2.1.2 0 _ rfl, hS.2.2.1.2 1 _ rfl, hS.2.2.1.2 2 _ rfl, hS.2.2.1.2 3 _ rfl, hS.2.2.2.1.2 0 _ rfl, hS.2.2.2.1.2 1 _ rfl, hS.2.2.2.1.2 2 _ rfl⟩ : _ ∧ _ ∧ _ ∧ _ ∧ _ ∧ _ ∧ _); obtain ⟨s0, s1, s2, s3⟩ := (⟨hS.2.2.2.2.2 0 _ rfl, hS.2.2.2.2.2 1 _ rfl, hS.2.2.2.2.2 2 _ rfl, hS.2.2.2.2.2 3 _ rfl⟩ : _ ∧ _ ∧ _ ∧ _)
          clear hd hE
          try clear hS
          go_wp2
          exact Ext.refl _
        case ha => rfl
        apply wpLoose_val rfl rfl
        case hs =>
          intro w1 hC hd Q1 hQ1
          obtain ⟨hE, hS⟩ := hC
          dsimp only [bare]
          obtain ⟨p0, p1, p2, p3, p4, p5, p6⟩ := (⟨hS.1.2 0 _ rfl, hS.1.2 1 _ rfl, hS.1.2 2 _ rfl, hS.1.2 3 _ rfl, hS.2.1.2 0 _ rfl, hS.2.1.2 1 _ rfl, hS.2.1.2 2 _ rfl⟩ : _ ∧ _ ∧ _ ∧ _ ∧ _ ∧ _ ∧ _); obtain ⟨q0, q1, q2, q3, q4, q5, q6⟩ := (⟨hS.2.2.1.2 0 _ rfl, hS.2.2.1.2 1 _ rfl, hS.2.2.1.2 2 _ rfl, hS.2.2.1.2 3 _ rfl, hS.2.2.2.1.2 0 _ rfl, hS.2.2.2.1.2 1 _ rfl, hS.2.2.2.1.2 2 _ rfl⟩ : _ ∧ _ ∧ _ ∧ _ ∧ _ ∧ _ ∧ _); obtain ⟨s0, s1, s2, s3⟩ := (⟨hS.2.2.2.2.2 0 _ rfl, hS.2.2.2.2.2 1 _ rfl, hS.2.2.2.2.2 2 _ rfl, hS.2.2.2.2.2 3 _ rfl⟩ : _ ∧ _ ∧ _ ∧ _)
          clear hd hE
          try clear hS
          go_wp2
          exact Ext.refl _
        case ha => rfl
        apply wpLoose_val rfl rfl
        case hs =>
          intro w1 hC hd Q1 hQ1
          obtain ⟨hE, hS⟩ := hC
          dsimp only [bare]
          clear hd
          go_wp2_with fail
          refine (D3.out _ (E11.out.2.2.1.drew.trans hE)).mono ?_
          rintro e w2 ⟨rfl, hb⟩
          go_wp2_with fail
          exact hb
        case ha => rfl
        apply wpLoose_val rfl rfl
        case hs =>
          intro w1 hC hd Q1 hQ1
          obtain ⟨hE, hS⟩ := hC
          dsimp only [bare]
          obtain ⟨p0, p1, p2, p3, p4, p5, p6⟩ := (⟨hS.1.2 0 _ rfl, hS.1.2 1 _ rfl, hS.1.2 2 _ rfl, hS.1.2 3 _ rfl, hS.2.1.2 0 _ rfl, hS.2.1.2 1 _ rfl, hS.2.1.2 2 _ rfl⟩ : _ ∧ _ ∧ _ ∧ _ ∧ _ ∧ _ ∧ _); obtain ⟨q0, q1, q2, q3, q4, q5, q6⟩ := (⟨hS.2.2.1.2 0 _ rfl, hS.2.2.1.2 1 _ rfl, hS.2.2.1.2 2 _ rfl, hS.2.2.1.2 3 _ rfl, hS.2.2.2.1.2 0 _ rfl, hS.2.2.2.1.2 1 _ rfl, hS.2.2.2.1.2 2 _ rfl⟩ : _ ∧ _ ∧ _ ∧ _ ∧ _ ∧ _ ∧ _); obtain ⟨s0, s1, s2, s3⟩ := (⟨hS.2.2.2.2.2 0 _ rfl, hS.2.2.2.2.2 1 _ rfl, hS.2.2.2.2.2 2 _ rfl, hS.2.2.2.2.2 3 _ rfl⟩ : _ ∧ _ ∧ _ ∧ _)
          clear hd hE
          try clear hS
          go_wp2
          exact Ext.refl _
        case ha => rfl
        apply wpLoose_val rfl rfl
        case hs =>
          intro w1 hC hd Q1 hQ1
          obtain ⟨hE, hS⟩ := hC
          dsimp only [bare]
          obtain ⟨p0, p1, p2, p3, p4, p5, p6⟩ := (⟨hS.1.2 0 _ rfl, hS.1.2 1 _ rfl, hS.1.2 2 _ rfl, hS.1.2 3 _ rfl, hS.2.1.2 0 _ rfl, hS.2.1.2 1 _ rfl, hS.2.1.2 2 _ rfl⟩ : _ ∧ _ ∧ _ ∧ _ ∧ _ ∧ _ ∧ _); obtain ⟨q0, q1, q2, q3, q4, q5, q6⟩ := (⟨hS.2.2.1.2 0 _ rfl, hS.2.2.1.2 1 _ rfl, hS.2.2.1.2 2 _ rfl, hS.2.2.1.2 3 _ rfl, hS.2.2.2.1.2 0 _ rfl, hS.2.2.2.1.2 1 _ rfl, hS.2.2.2.1.2 2 _ rfl⟩ : _ ∧ _ ∧ _ ∧ _ ∧ _ ∧ _ ∧ _); obtain ⟨s0, s1, s2, s3⟩ := (⟨hS.2.2.2.2.2 0 _ rfl, hS.2.2.2.2.2 1 _ rfl, hS.2.2.2.2.2 2 _ rfl, hS.2.2.2.2.2 3 _ rfl⟩ : _ ∧ _ ∧ _ ∧ _)
          clear hd hE
          try clear hS
          go_wp2
          exact Ext.refl _
        case ha => rfl
        apply wpLoose_val rfl rfl
        case hs =>
          intro w1 hC hd Q1 hQ1
          obtain ⟨hE, hS⟩ := hC
          dsimp only [bare]
          obtain ⟨p0, p1, p2, p3, p4, p5, p6⟩ := (⟨hS.1.2 0 _ rfl, hS.1.2 1 _ rfl, hS.1.2 2 _ rfl, hS.1.2 3 _ rfl, hS.2.1.2 0 _ rfl, hS.2.1.2 1 _ rfl, hS.2.1.2 2 _ rfl⟩ : _ ∧ _ ∧ _ ∧ _ ∧ _ ∧ _ ∧ _); obtain ⟨q0, q1, q2, q3, q4, q5, q6⟩ := (⟨hS.2.2.1.2 0 _ rfl, hS.2.2.1.2 1 _ rfl, hS.2.2.1.2 2 _ rfl, hS.2.2.1.2 3 _ rfl, hS.2.2.2.1.2 0 _ rfl, hS.2.2.2.1.2 1 _ rfl, hS.2.2.2.1.2 2 _ rfl⟩ : _ ∧ _ ∧ _ ∧ _ ∧ _ ∧ _ ∧ _); obtain ⟨s0, s1, s2, s3⟩ := (⟨hS.2.2.2.2.2 0 _ rfl, hS.2.2.2.2.2 1 _ rfl, hS.2.2.2.2.2 2 _ rfl, hS.2.2.2.2.2 3 _ rfl⟩ : _ ∧ _ ∧ _ ∧ _)
          clear hd hE
          try clear hS
          go_wp2
          exact Ext.refl _
        case ha => rfl
        apply wpLoose_val rfl rfl
        case hs =>
          intro w1 hC hd Q1 hQ1
          obtain ⟨hE, hS⟩ := hC
          dsimp only [bare]
          obtain ⟨p0, p1, p2, p3, p4, p5, p6⟩ := (⟨hS.1.2 0 _ rfl, hS.1.2 1 _ rfl, hS.1.2 2 _ rfl, hS.1.2 3 _ rfl, hS.2.1.2 0 _ rfl, hS.2.1.2 1 _ rfl, hS.2.1.2 2 _ rfl⟩ : _ ∧ _ ∧ _ ∧ _ ∧ _ ∧ _ ∧ _); obtain ⟨q0, q1, q2, q3, q4, q5, q6⟩ := (⟨hS.2.2.1.2 0 _ rfl, hS.2.2.1.2 1 _ rfl, hS.2.2.1.2 2 _ rfl, hS.2.2.1.2 3 _ rfl, hS.2.2.2.1.2 0 _ rfl, hS.2.2.2.1.2 1 _ rfl, hS.2.2.2.1.2 2 _ rfl⟩ : _ ∧ _ ∧ _ ∧ _ ∧ _ ∧ _ ∧ _); obtain ⟨s0, s1, s2, s3⟩ := (⟨hS.2.2.2.2.2 0 _ rfl, hS.2.2.2.2.2 1 _ rfl, hS.2.2.2.2.2 2 _ rfl, hS.2.2.2.2.2 3 _ rfl⟩ : _ ∧ _ ∧ _ ∧ _)
          clear hd hE
          try clear hS
          go_wp2
          exact Ext.refl _
        case ha => rfl
        apply wpLoose_val rfl rfl
        case hs =>
          intro w1 hC hd Q1 hQ1
          obtain ⟨hE, hS⟩ := hC
          dsimp only [bare]
          clear hd
          go_wp2_with fail
          refine (K1.out _ (E11.out.2.1.drew.trans hE)).mono ?_
          rintro e w2 ⟨rfl, hb⟩
          go_wp2_with fail
          exact hb
        case ha => rfl
        apply wpLoose_val rfl rfl
        case hs =>
          intro w1 hC hd Q1 hQ1
          obtain ⟨hE, hS⟩ := hC
          dsimp only [bare]
          obtain ⟨p0, p1, p2, p3, p4, p5, p6⟩ := (⟨hS.1.2 0 _ rfl, hS.1.2 1 _ rfl, hS.1.2 2 _ rfl, hS.1.2 3 _ rfl, hS.2.1.2 0 _ rfl, hS.2.1.2 1 _ rfl, hS.2.1.2 2 _ rfl⟩ : _ ∧ _ ∧ _ ∧ _ ∧ _ ∧ _ ∧ _); obtain ⟨q0, q1, q2, q3, q4, q5, q6⟩ := (⟨hS.2.2.1.2 0 _ rfl, hS.2.2.1.2 1 _ rfl, hS.2.2.1.2 2 _ rfl, hS.2.2.1.2 3 _ rfl, hS.2.2.2.1.2 0 _ rfl, hS.2.2.2.1.2 1 _ rfl, hS.2.2.2.1.2 2 _ rfl⟩ : _ ∧ _ ∧ _ ∧ _ ∧ _ ∧ _ ∧ _); obtain ⟨s0, s1, s2, s3⟩ := (⟨hS.2.2.2.2.2 0 _ rfl, hS.2.2.2.2.2 1 _ rfl, hS.2.2.2.2.2 2 _ rfl, hS.2.2.2.2.2 3 _ rfl⟩ : _ ∧ _ ∧ _ ∧ _)
          clear hd hE
          try clear hS
          go_wp2
          exact Ext.refl _
        case ha => rfl
        apply wpLoose_val rfl rfl
        case hs =>
          intro w1 hC hd Q1 hQ1
          obtain ⟨hE, hS⟩ := hC
          dsimp only [bare]
          obtain ⟨p0, p1, p2, p3, p4, p5, p6⟩ := (⟨hS.1.2 0 _ rfl, hS.1.2 1 _ rfl, hS.1.2 2 _ rfl, hS.1.2 3 _ rfl, hS.2.1.2 0 _ rfl, hS.2.1.2 1 _ rfl, hS.2.1.2 2 _ rfl⟩ : _ ∧ _ ∧ _ ∧ _ ∧ _ ∧ _ ∧ _); obtain ⟨q0, q1, q2, q3, q4, q5, q6⟩ := (⟨hS.2.2.1.2 0 _ rfl, hS.2.2.1.2 1 _ rfl, hS.2.2.1.2 2 _ rfl, hS.2.2.1.2 3 _ rfl, hS.2.2.2.1.2 0 _ rfl, hS.2.2.2.1.2 1 _ rfl, hS.2.2.2.1.2 2 _ rfl⟩ : _ ∧ _ ∧ _ ∧ _ ∧ _ ∧ _ ∧ _); obtain ⟨s0, s1, s2, s3⟩ := (⟨hS.2.2.2.2.2 0 _ rfl, hS.2.2.2.2.2 1 _ rfl, hS.2.2.2.2.2 2 _ rfl, hS.2.2.2.2.2 3 _ rfl⟩ : _ ∧ _ ∧ _ ∧ _)
          clear hd hE
          try clear hS
          go_wp2
          exact Ext.refl _
        case ha => rfl
        apply wpLoose_val rfl rfl
        case hs =>
          intro w1 hC hd Q1 hQ1
          obtain ⟨hE, hS⟩ := hC
          dsimp only [bare]
          obtain ⟨p0, p1, p2, p3, p4, p5, p6⟩ := (⟨hS.1.2 0 _ rfl, hS.1.2 1 _ rfl, hS.1.2 2 _ rfl, hS.1.2 3 _ rfl, hS.2.1.2 0 _ rfl, hS.2.1.2 1 _ rfl, hS.2.1.2 2 _ rfl⟩ : _ ∧ _ ∧ _ ∧ _ ∧ _ ∧ _ ∧ _); obtain ⟨q0, q1, q2, q3, q4, q5, q6⟩ := (⟨hS.2.2.1.2 0 _ rfl, hS.2.2.1.2 1 _ rfl, hS.2.2.1.2 2 _ rfl, hS.2.2.1.2 3 _ rfl, hS.2.2.2.1.2 0 _ rfl, hS.2.2.2.1.2 1 _ rfl, hS.2.2.2.1.2 2 _ rfl⟩ : _ ∧ _ ∧ _ ∧ _ ∧ _ ∧ _ ∧ _); obtain ⟨s0, s1, s2, s3⟩ := (⟨hS.2.2.2.2.2 0 _ rfl, hS.2.2.2.2.2 1 _ rfl, hS.2.2.2.2.2 2 _ rfl, hS.2.2.2.2.2 3 _ rfl⟩ : _ ∧ _ ∧ _ ∧ _)
          clear hd hE
          try clear hS
          go_wp2
          exact Ext.refl _
        case ha => rfl
        apply wpLoose_val rfl rfl
        case hs =>
          intro w1 hC hd Q1 hQ1
          obtain ⟨hE, hS⟩ := hC
          dsimp only [bare]
          clear hd
          go_wp2_with fail
          refine (K2.out _ (E11.out.2.2.2.drew.trans hE)).mono ?_
          rintro e w2 ⟨rfl, hb⟩
          go_wp2_with fail
          exact hb
        case ha => rfl
        apply wpLoose_val rfl rfl
        case hs =>
          intro w1 hC hd Q1 hQ1
          obtain ⟨hE, hS⟩ := hC
          dsimp only [bare]
          obtain ⟨p0, p1, p2, p3, p4, p5, p6⟩ := (⟨hS.1.2 0 _ rfl, hS.1.2 1 _ rfl, hS.1.2 2 _ rfl, hS.1.2 3 _ rfl, hS.2.1.2 0 _ rfl, hS.2.1.2 1 _ rfl, hS.2.1.2 2 _ rfl⟩ : _ ∧ _ ∧ _ ∧ _ ∧ _ ∧ _ ∧ _); obtain ⟨q0, q1, q2, q3, q4, q5, q6⟩ := (⟨hS.2.2.1.2 0 _ rfl, hS.2.2.1.2 1 _ rfl, hS.2.2.1.2 2 _ rfl, hS.2.2.1.2 3 _ rfl, hS.2.2.2.1.2 0 _ rfl, hS.2.2.2.1.2 1 _ rfl, hS.2.2.2.1.2 2 _ rfl⟩ : _ ∧ _ ∧ _ ∧ _ ∧ _ ∧ _ ∧ _); obtain ⟨s0, s1, s2, s3⟩ := (⟨hS.2.2.2.2.2 0 _ rfl, hS.2.2.2.2.2 1 _ rfl, hS.2.2.2.2.2 2 _ rfl, hS.2.2.2.2.2 3 _ rfl⟩ : _ ∧ _ ∧ _ ∧ _)
          clear hd hE
          try clear hS
          go_wp2
          exact Ext.refl _
        case ha => rfl
        apply wpLoose_val rfl rfl
        case hs =>
          intro w1 hC hd Q1 hQ1
          obtain ⟨hE, hS⟩ := hC
          dsimp only [bare]
          clear hd
          go_wp2_with fail
          refine (K3.out _ (E11.out.2.2.2.drew.trans hE)).mono ?_
          rintro e w2 ⟨rfl, hb⟩
          go_wp2_with fail
          exact hb
        case ha => rfl
        apply wpLoose_val rfl rfl
        case hs =>
          intro w1 hC hd Q1 hQ1
          obtain ⟨hE, hS⟩ := hC
          dsimp only [bare]
          obtain ⟨p0, p1, p2, p3, p4, p5, p6⟩ := (⟨hS.1.2 0 _ rfl, hS.1.2 1 _ rfl, hS.1.2 2 _ rfl, hS.1.2 3 _ rfl, hS.2.1.2 0 _ rfl, hS.2.1.2 1 _ rfl, hS.2.1.2 2 _ rfl⟩ : _ ∧ _ ∧ _ ∧ _ ∧ _ ∧ _ ∧ _); obtain ⟨q0, q1, q2, q3, q4, q5, q6⟩ := (⟨hS.2.2.1.2 0 _ rfl, hS.2.2.1.2 1 _ rfl, hS.2.2.1.2 2 _ rfl, hS.2.2.1.2 3 _ rfl, hS.2.2.2.1.2 0 _ rfl, hS.2.2.2.1.2 1 _ rfl, hS.2.2.2.1.2 2 _ rfl⟩ : _ ∧ _ ∧ _ ∧ _ ∧ _ ∧ _ ∧ _); obtain ⟨s0, s1, s2, s3⟩ := (⟨hS.2.2.2.2.2 0 _ rfl, hS.2.2.2.2.2 1 _ rfl, hS.2.2.2.2.2 2 _ rfl, hS.2.2.2.2.2 3 _ rfl⟩ : _ ∧ _ ∧ _ ∧ _)
          clear hd hE
          try clear hS
          go_wp2
          exact Ext.refl _
        case ha => rfl
        apply wpLoose_val rfl rfl
        case hs =>
          intro w1 hC hd Q1 hQ1
          obtain ⟨hE, hS⟩ := hC
          dsimp only [bare]
          obtain ⟨p0, p1, p2, p3, p4, p5, p6⟩ := (⟨hS.1.2 0 _ rfl, hS.1.2 1 _ rfl, hS.1.2 2 _ rfl, hS.1.2 3 _ rfl, hS.2.1.2 0 _ rfl, hS.2.1.2 1 _ rfl, hS.2.1.2 2 _ rfl⟩ : _ ∧ _ ∧ _ ∧ _ ∧ _ ∧ _ ∧ _); obtain ⟨q0, q1, q2, q3, q4, q5, q6⟩ := (⟨hS.2.2.1.2 0 _ rfl, hS.2.2.1.2 1 _ rfl, hS.2.2.1.2 2 _ rfl, hS.2.2.1.2 3 _ rfl, hS.2.2.2.1.2 0 _ rfl, hS.2.2.2.1.2 1 _ rfl, hS.2.2.2.1.2 2 _ rfl⟩ : _ ∧ _ ∧ _ ∧ _ ∧ _ ∧ _ ∧ _); obtain ⟨s0, s1, s2, s3⟩ := (⟨hS.2.2.2.2.2 0 _ rfl, hS.2.2.2.2.2 1 _ rfl, hS.2.2.2.2.2 2 _ rfl, hS.2.2.2.2.2 3 _ rfl⟩ : _ ∧ _ ∧ _ ∧ _)
          clear hd hE
          try clear hS
          go_wp2
          exact Ext.refl _
        case ha => rfl
        apply wpLoose_val rfl rfl
        case hs =>
          intro w1 hC hd Q1 hQ1
          obtain ⟨hE, hS⟩ := hC
          dsimp only [bare]
          obtain ⟨p0, p1, p2, p3, p4, p5, p6⟩ := (⟨hS.1.2 0 _ rfl, hS.1.2 1 _ rfl, hS.1.2 2 _ rfl, hS.1.2 3 _ rfl, hS.2.1.2 0 _ rfl, hS.2.1.2 1 _ rfl, hS.2.1.2 2 _ rfl⟩ : _ ∧ _ ∧ _ ∧ _ ∧ _ ∧ _ ∧ _); obtain ⟨q0, q1, q2, q3, q4, q5, q6⟩ := (⟨hS.2.2.1.2 0 _ rfl, hS.2.2.1.2 1 _ rfl, hS.2.2.1.2 2 _ rfl, hS.2.2.1.2 3 _ rfl, hS.2.2.2.1.2 0 _ rfl, hS.2.2.2.1.2 1 _ rfl, hS.2.2.2.1.2 2 _ rfl⟩ : _ ∧ _ ∧ _ ∧ _ ∧ _ ∧ _ ∧ _); obtain ⟨s0, s1, s2, s3⟩ := (⟨hS.2.2.2.2.2 0 _ rfl, hS.2.2.2.2.2 1 _ rfl, hS.2.2.2.2.2 2 _ rfl, hS.2.2.2.2.2 3 _ rfl⟩ : _ ∧ _ ∧ _ ∧ _)
          clear hd hE
          try clear hS
          go_wp2
          exact Ext.refl _
        case ha => rfl
        refine wpLoose_nil ?_
        intro wp hEp hSp hFp
        have E12 : Hid (Ext w wp) := E11.out.1.drew.trans hEp
        clear hEp hSp hFp c11 d11 x11 y11 z11 E11
        go_wp2
        go_ret
        exact ⟨rfl, E12.out⟩
        case hAp => kernel_rfl
        case hlp => exact ⟨trivial, trivial, trivial, trivial, trivial, trivial, trivial, trivial, trivial, trivial, trivial, trivial, trivial, trivial, trivial, trivial, trivial, trivial, trivial, trivial, trivial, trivial, trivial, trivial, trivial, trivial, trivial⟩
      · have hne : (arch != 62) = true := by simpa using har
        have HWANT : Hid (decideV ⟨62, pac, pda, rs⟩ arch num ws = 0) := decideV_no3 har
        clear hwant har
        go_wp2_with fail
        refine (drawDecide_any a len cap _ (HC.out.below E8.out)).mono ?_
        rintro e w9 ⟨ar2, ac2, da2, a2, n2, c2, arch2, num2, ca2, m2, cc2, rfl, ⟨rs2, hn2, hsr2, hrp2⟩, ⟨ws2, hl2, hm2, hw2⟩, e9⟩
        have E9 : Hid (Ext w w9 ∧ Ext w1 w9) := ⟨E8.out.trans e9, E81.out.trans e9⟩
        have RP2 : Hid (∀ W, Ext w9 W → RepPol ⟨ar2, ac2, da2, rs2⟩ (.agg #[.int .i64 ar2, .int .i64 ac2, .int .i64 da2, .slice a2 n2 c2]) W) := fun W hE => ⟨a2, c2, by rw [hn2], hrp2.rules.step hE⟩
        have RC2 : Hid (∀ W, Ext w9 W → RepCall arch2 num2 ws2 (.agg #[.int .i64 arch2, .int .i64 num2, .slice ca2 m2 cc2]) W) := fun W hE => ⟨ca2, cc2, by rw [hm2], hw2.below hE (Nat.le_refl _)⟩
        have HS2 : Hid (SmallR rs2 ∧ ws2.length ≤ 1048576) := ⟨hsr2, by omega⟩
        have c9 := c8.step e9
        have d9 := d8.step e9
        clear hn2 hsr2 hrp2 hl2 hm2 hw2 e9 E8 E81 c8 d8
        have x9 := ((CellsAt.new w9 [.int .i64 ar2, .int .i64 ac2, .int .i64 da2, .slice a2 n2 c2] 26).step (Ext.one _ (.cells #[.int .i64 arch2, .int .i64 num2, .slice ca2 m2 cc2] 29)))
        have y9 := CellsAt.new' (w9.alloc (.cells #[.int .i64 ar2, .int .i64 ac2, .int .i64 da2, .slice a2 n2 c2] 26)) [.int .i64 arch2, .int .i64 num2, .slice ca2 m2 cc2] 29 (w9.heap.size + 1) (by simp)
        go_wp2_with fail
        refine (drawPolicyOk_any a len cap _ (HC.out.below ((E9.out.1.alloc _).alloc _))).mono ?_
        rintro e w10 ⟨ar3, ac3, da3, a3, n3, c3, rfl, ⟨rs3, hn3, hsr3, hrp3⟩, e10⟩
        have e9x : Ext w9 w10 := ((Ext.one w9 _).alloc _).trans e10
        have RP3 : Hid (∀ W, Ext w10 W → RepPol ⟨ar3, ac3, da3, rs3⟩ (.agg #[.int .i64 ar3, .int .i64 ac3, .int .i64 da3, .slice a3 n3 c3]) W) := fun W hE => ⟨a3, c3, by rw [hn3], hrp3.rules.step hE⟩
        have HS3 : Hid (SmallR rs3) := hsr3
        have E10 : Hid (Ext w w10 ∧ Ext w1 w10 ∧ Ext w9 w10) := ⟨E9.out.1.trans e9x, E9.out.2.trans e9x, e9x⟩
        have c10 := c9.step e9x
        have d10 := d9.step e9x
        have x10 := x9.step e10
        have y10 := y9.step e10
        clear hn3 hsr3 hrp3 e10 e9x E9 c9 d9 x9 y9
        have c11 := c10.step (Ext.one w10 (.cells #[.int .i64 ar3, .int .i64 ac3, .int .i64 da3, .slice a3 n3 c3] 26))
        have d11 := d10.step (Ext.one w10 (.cells #[.int .i64 ar3, .int .i64 ac3, .int .i64 da3, .slice a3 n3 c3] 26))
        have x11 := x10.step (Ext.one w10 (.cells #[.int .i64 ar3, .int .i64 ac3, .int .i64 da3, .slice a3 n3 c3] 26))
        have y11 := y10.step (Ext.one w10 (.cells #[.int .i64 ar3, .int .i64 ac3, .int .i64 da3, .slice a3 n3 c3] 26))
        have z11 := CellsAt.new w10 [.int .i64 ar3, .int .i64 ac3, .int .i64 da3, .slice a3 n3 c3] 26
        have E11 : Hid (Ext w (w10.alloc (.cells #[.int .i64 ar3, .int .i64 ac3, .int .i64 da3, .slice a3 n3 c3] 26)) ∧ Ext w1 (w10.alloc (.cells #[.int .i64 ar3, .int .i64 ac3, .int .i64 da3, .slice a3 n3 c3] 26)) ∧ Ext w9 (w10.alloc (.cells #[.int .i64 ar3, .int .i64 ac3, .int .i64 da3, .slice a3 n3 c3] 26)) ∧ Ext w10 (w10.alloc (.cells #[.int .i64 ar3, .int .i64 ac3, .int .i64 da3, .slice a3 n3 c3] 26))) := ⟨E10.out.1.alloc _, E10.out.2.1.alloc _, E10.out.2.2.alloc _, Ext.one _ _⟩
        simp only [List.toArray] at z11
        clear c10 d10 x10 y10 E10
        obtain ⟨u2, hu2⟩ : ∃ u2, u2 = decideV ⟨ar2, ac2, da2, rs2⟩ arch2 num2 ws2 := ⟨_, rfl⟩
        obtain ⟨u3, hu3⟩ : ∃ u3, u3 = policyB ⟨ar3, ac3, da3, rs3⟩ := ⟨_, rfl⟩
        have D1 : Hid (∀ W, Ext w1 W → Calls Try.prog 15 #[.agg #[.int .i64 62, .int .i64 pac, .int .i64 pda, .slice a1 n1 c1], .agg #[.int .i64 arch, .int .i64 num, .slice ca m1 cc]] W fun e w' => e = .returned (.int .i64 0) ∧ Ext W w') := fun W hE => by
          have := iDecide_rep HS1.out.1 HS1.out.2 (RP1.out W hE) (RC1.out W hE)
          rw [HWANT.out] at this
          exact this
        have D2 : Hid (∀ W, Ext w9 W → Calls Try.prog 15 #[.agg #[.int .i64 ar2, .int .i64 ac2, .int .i64 da2, .slice a2 n2 c2], .agg #[.int .i64 arch2, .int .i64 num2, .slice ca2 m2 cc2]] W fun e w' => e = .returned (.int .i64 u2) ∧ Ext W w') := fun W hE => by rw [hu2]; exact iDecide_rep HS2.out.1 HS2.out.2 (RP2.out W hE) (RC2.out W hE)
        have D3 : Hid (∀ W, Ext w9 W → Calls Try.prog 16 #[.agg #[.int .i64 ar2, .int .i64 ac2, .int .i64 da2, .slice a2 n2 c2], .agg #[.int .i64 arch2, .int .i64 num2, .slice ca2 m2 cc2]] W fun e w' => e = .returned (.int .i64 u2) ∧ Ext W w') := fun W hE => by rw [hu2]; exact sDecide_rep HS2.out.1 HS2.out.2 (RP2.out W hE) (RC2.out W hE)
        have K1 : Hid (∀ W, Ext w1 W → Calls Try.prog 17 #[.agg #[.int .i64 62, .int .i64 pac, .int .i64 pda, .slice a1 n1 c1]] W fun e w' => e = .returned (.bool true) ∧ Ext W w') := fun W hE => by
          have := iPolicyOk_rep HS1.out.1 (RP1.out W hE)
          rw [HPB.out] at this
          exact this
        have K2 : Hid (∀ W, Ext w10 W → Calls Try.prog 17 #[.agg #[.int .i64 ar3, .int .i64 ac3, .int .i64 da3, .slice a3 n3 c3]] W fun e w' => e = .returned (.bool u3) ∧ Ext W w') := fun W hE => by rw [hu3]; exact iPolicyOk_rep HS3.out (RP3.out W hE)
        have K3 : Hid (∀ W, Ext w10 W → Calls Try.prog 18 #[.agg #[.int .i64 ar3, .int .i64 ac3, .int .i64 da3, .slice a3 n3 c3]] W fun e w' => e = .returned (.bool u3) ∧ Ext W w') := fun W hE => by rw [hu3]; exact sPolicyOk_rep HS3.out (RP3.out W hE)
        have hzz : (u3 == u3) = true := by cases u3 <;> rfl
        clear hu2 hu3 RP1 RC1 RP2 RC2 RP3 HS1 HS2 HS3 HPB
        go_wp2_with fail
        generalize w10.alloc (.cells #[.int .i64 ar3, .int .i64 ac3, .int .i64 da3, .slice a3 n3 c3] 26) = W11 at *
        refine' wp_region_loose (.inl _ :: .inl _ :: .inl _ :: .inl _ :: .inl _ :: .inl _ :: .inl _ :: .inl _ :: .inl _ :: .inl _ :: .inl _ :: .inl _ :: .inl _ :: .inl _ :: .inl _ :: .inl _ :: .inl _ :: .inl _ :: .inl _ :: .inl _ :: .inl _ :: .inl _ :: .inl _ :: .inl _ :: .inl _ :: .inl _ :: []) (fun w' => CellsAt w' w1.heap.size [.int .i64 62, .int .i64 pac, .int .i64 pda, .slice a1 n1 c1] ∧ CellsAt w' (w1.heap.size + 1) [.int .i64 arch, .int .i64 num, .slice ca m1 cc] ∧ CellsAt w' w9.heap.size [.int .i64 ar2, .int .i64 ac2, .int .i64 da2, .slice a2 n2 c2] ∧ CellsAt w' (w9.heap.size + 1) [.int .i64 arch2, .int .i64 num2, .slice ca2 m2 cc2] ∧ CellsAt w' w10.heap.size [.int .i64 ar3, .int .i64 ac3, .int .i64 da3, .slice a3 n3 c3]) (by kernel_rfl) (by kernel_rfl) (⟨c11.drew, d11.drew, x11.drew, y11.drew, z11.drew⟩) (fun _ _ h hE => ⟨h.1.step hE, h.2.1.step hE, h.2.2.1.step hE, h.2.2.2.1.step hE, h.2.2.2.2.step hE⟩) ?hAq ?hlq ?hMq
        case' hMq => skip
        apply wpLoose_val rfl rfl
        case hs =>
          intro w1 hC hd Q1 hQ1
          obtain ⟨hE, hS⟩ := hC
          dsimp only [bare]
          obtain ⟨p0, p1, p2, p3, p4, p5, p6⟩ := (⟨hS.1.2 0 _ rfl, hS.1.2 1 _ rfl, hS.1.2 2 _ rfl, hS.1.2 3 _ rfl, hS.2.1.2 0 _ rfl, hS.2.1.2 1 _ rfl, hS.2.1.2 2 _ rfl⟩ : _ ∧ _ ∧ _ ∧ _ ∧ _ ∧ _ ∧ _); obtain ⟨q0, q1, q2, q3, q4, q5, q6⟩ := (⟨hS.2.2.1.2 0 _ rfl, hS.2.2.1.2 1 _ rfl, hS.2.2.1.2 2 _ rfl, hS.2.2.1.2 3 _ rfl, hS.2.2.2.1.2 0 _ rfl, hS.2.2.2.1.2 1 _ rfl, hS.2.2.2.1.2 2 _ rfl⟩ : _ ∧ _ ∧ _ ∧ _ ∧ _ ∧ _ ∧ _); obtain ⟨s0, s1, s2, s3⟩ := (⟨hS.2.2.2.2.2 0 _ rfl, hS.2.2.2.2.2 1 _ rfl, hS.2.2.2.2.2 2 _ rfl, hS.2.2.2.2.2 3 _ rfl⟩ : _ ∧ _ ∧ _ ∧ _)
          clear hd hE
          try clear hS
          go_wp2
          exact Ext.refl _
        case ha => rfl
        apply wpLoose_val rfl rfl
        case hs =>
          intro w1 hC hd Q1 hQ1
          obtain ⟨hE, hS⟩ := hC
          dsimp only [bare]
          obtain ⟨p0, p1, p2, p3, p4, p5, p6⟩ := (⟨hS.1.2 0 _ rfl, hS.1.2 1 _ rfl, hS.1.2 2 _ rfl, hS.1.2 3 _ rfl, hS.2.1.2 0 _ rfl, hS.2.1.2 1 _ rfl, hS.2.1.2 2 _ rfl⟩ : _ ∧ _ ∧ _ ∧ _ ∧ _ ∧ _ ∧ _); obtain ⟨q0, q1, q2, q3, q4, q5, q6⟩ := (⟨hS.2.2.1.2 0 _ rfl, hS.2.2.1.2 1 _ rfl, hS.2.2.1.2 2 _ rfl, hS.2.2.1.2 3 _ rfl, hS.2.2.2.1.2 0 _ rfl, hS.2.2.2.1.2 1 _ rfl, hS.2.2.2.1.2 2 _ rfl⟩ : _ ∧ _ ∧ _ ∧ _ ∧ _ ∧ _ ∧ _); obtain ⟨s0, s1, s2, s3⟩ := (⟨hS.2.2.2.2.2 0 _ rfl, hS.2.2.2.2.2 1 _ rfl, hS.2.2.2.2.2 2 _ rfl, hS.2.2.2.2.2 3 _ rfl⟩ : _ ∧ _ ∧ _ ∧ _)
          clear hd hE
          try clear hS
          go_wp2
          exact Ext.refl _
        case ha => rfl
        apply wpLoose_val rfl rfl
        case hs =>
          intro w1 hC hd Q1 hQ1
          obtain ⟨hE, hS⟩ := hC
          dsimp only [bare]
          clear hd
          go_wp2_with fail
          refine (D1.out _ (E11.out.2.1.drew.trans hE)).mono ?_
          rintro e w2 ⟨rfl, hb⟩
          go_wp2_with fail
          exact hb
        case ha => rfl
        apply wpLoose_val rfl rfl
        case hs =>
          intro w1 hC hd Q1 hQ1
          obtain ⟨hE, hS⟩ := hC
          dsimp only [bare]
          obtain ⟨p0, p1, p2, p3, p4, p5, p6⟩ := (⟨hS.1.2 0 _ rfl, hS.1.2 1 _ rfl, hS.1.2 2 _ rfl, hS.1.2 3 _ rfl, hS.2.1.2 0 _ rfl, hS.2.1.2 1 _ rfl, hS.2.1.2 2 _ rfl⟩ : _ ∧ _ ∧ _ ∧ _ ∧ _ ∧ _ ∧ _); obtain ⟨q0, q1, q2, q3, q4, q5, q6⟩ := (⟨hS.2.2.1.2 0 _ rfl, hS.2.2.1.2 1 _ rfl, hS.2.2.1.2 2 _ rfl, hS.2.2.1.2 3 _ rfl, hS.2.2.2.1.2 0 _ rfl, hS.2.2.2.1.2 1 _ rfl, hS.2.2.2.1.2 2 _ rfl⟩ : _ ∧ _ ∧ _ ∧ _ ∧ _ ∧ _ ∧ _); obtain ⟨s0, s1, s2, s3⟩ := (⟨hS.2.2.2.2.2 0 _ rfl, hS.2.2.2.2.2 1 _ rfl, hS.2.2.2.2.2 2 _ rfl, hS.2.2.2.2.2 3 _ rfl⟩ : _ ∧ _ ∧ _ ∧ _)
          clear hd hE
          try clear hS
          go_wp2
          exact Ext.refl _
        case ha => rfl
        apply wpLoose_val rfl rfl
        case hs =>
          intro w1 hC hd Q1 hQ1
          obtain ⟨hE, hS⟩ := hC
          dsimp only [bare]
          obtain ⟨p0, p1, p2, p3, p4, p5, p6⟩ := (⟨hS.1.2 0 _ rfl, hS.1.2 1 _ rfl, hS.1.2 2 _ rfl, hS.1.2 3 _ rfl, hS.2.1.2 0 _ rfl, hS.2.1.2 1 _ rfl, hS.2.1.2 2 _ rfl⟩ : _ ∧ _ ∧ _ ∧ _ ∧ _ ∧ _ ∧ _); obtain ⟨q0, q1, q2, q3, q4, q5, q6⟩ := (⟨hS.2.2.1.2 0 _ rfl, hS.2.2.1.2 1 _ rfl, hS.2.2.1.2 2 _ rfl, hS.2.2.1.2 3 _ rfl, hS.2.2.2.1.2 0 _ rfl, hS.2.2.2.1.2 1 _ rfl, hS.2.2.2.1.2 2 _ rfl⟩ : _ ∧ _ ∧ _ ∧ _ ∧ _ ∧ _ ∧ _); obtain ⟨s0, s1, s2, s3⟩ := (⟨hS.2.2.2.2.2 0 _ rfl, hS.2.2.2.2.2 1 _ rfl, hS.2.2.2.2.2 2 _ rfl, hS.2.2.2.2.2 3 _ rfl⟩ : _ ∧ _ ∧ _ ∧ _)
          clear hd hE
          try clear hS
          go_wp2
          exact Ext.refl _
        case ha => rfl
        apply wpLoose_val rfl rfl
        case hs =>
          intro w1 hC hd Q1 hQ1
          obtain ⟨hE, hS⟩ := hC
          dsimp only [bare]
          obtain ⟨p0, p1, p2, p3, p4, p5, p6⟩ := (⟨hS.1.2 0 _ rfl, hS.1.2 1 _ rfl, hS.1.2 2 _ rfl, hS.1.2 3 _ rfl, hS.2.1.2 0 _ rfl, hS.2.1.2 1 _ rfl, hS.2.1.2 2 _ rfl⟩ : _ ∧ _ ∧ _ ∧ _ ∧ _ ∧ _ ∧ _); obtain ⟨q0, q1, q2, q3, q4, q5, q6⟩ := (⟨hS.2.2.1.2 0 _ rfl, hS.2.2.1.2 1 _ rfl, hS.2.2.1.2 2 _ rfl, hS.2.2.1.2 3 _ rfl, hS.2.2.2.1.2 0 _ rfl, hS.2.2.2.1.2 1 _ rfl, hS.2.2.2.1.2 2 _ rfl⟩ : _ ∧ _ ∧ _ ∧ _ ∧ _ ∧ _ ∧ _); obtain ⟨s0, s1, s2, s3⟩ := (⟨hS.2.2.2.2.2 0 _ rfl, hS.2.2.2.2.2 1 _ rfl, hS.2.2.2.2.2 2 _ rfl, hS.2.2.2.2.2 3 _ rfl⟩ : _ ∧ _ ∧ _ ∧ _)
          clear hd hE
          try clear hS
          go_wp2
          exact Ext.refl _
        case ha => rfl
        apply wpLoose_val rfl rfl
        case hs =>
          intro w1 hC hd Q1 hQ1
          obtain ⟨hE, hS⟩ := hC
          dsimp only [bare]
          obtain ⟨p0, p1, p2, p3, p4, p5, p6⟩ := (⟨hS.1.2 0 _ rfl, hS.1.2 1 _ rfl, hS.1.2 2 _ rfl, hS.1.2 3 _ rfl, hS.2.1.2 0 _ rfl, hS.2.1.2 1 _ rfl, hS.2.1.2 2 _ rfl⟩ : _ ∧ _ ∧ _ ∧ _ ∧ _ ∧ _ ∧ _); obtain ⟨q0, q1, q2, q3, q4, q5, q6⟩ := (⟨hS.2.2.1.2 0 _ rfl, hS.2.2.1.2 1 _ rfl, hS.2.2.1.2 2 _ rfl, hS.2.2.1.2 3 _ rfl, hS.2.2.2.1.2 0 _ rfl, hS.2.2.2.1.2 1 _ rfl, hS.2.2.2.1.2 2 _ rfl⟩ : _ ∧ _ ∧ _ ∧ _ ∧ _ ∧ _ ∧ _); obtain ⟨s0, s1, s2, s3⟩ := (⟨hS.2.2.2.2.2 0 _ rfl, hS.2.2.2.2.2 1 _ rfl, hS.2.2.2.2.2 2 _ rfl, hS.2.2.2.2.2 3 _ rfl⟩ : _ ∧ _ ∧ _ ∧ _)
          clear hd hE
          try clear hS
          go_wp2
          exact Ext.refl _
        case ha => rfl
        apply wpLoose_val rfl rfl
        case hs =>
          intro w1 hC hd Q1 hQ1
          obtain ⟨hE, hS⟩ := hC
          dsimp only [bare]
          obtain ⟨p0, p1, p2, p3, p4, p5, p6⟩ := (⟨hS.1.2 0 _ rfl, hS.1.2 1 _ rfl, hS.1.2 2 _ rfl, hS.1.2 3 _ rfl, hS.2.1.2 0 _ rfl, hS.2.1.2 1 _ rfl, hS.2.1.2 2 _ rfl⟩ : _ ∧ _ ∧ _ ∧ _ ∧ _ ∧ _ ∧ _); obtain ⟨q0, q1, q2, q3, q4, q5, q6⟩ := (⟨hS.2.2.1.2 0 _ rfl, hS.2.2.1.2 1 _ rfl, hS.2.2.1.2 2 _ rfl, hS.2.2.1.2 3 _ rfl, hS.2.2.2.1.2 0 _ rfl, hS.2.2.2.1.2 1 _ rfl, hS.2.2.2.1.2 2 _ rfl⟩ : _ ∧ _ ∧ _ ∧ _ ∧ _ ∧ _ ∧ _); obtain ⟨s0, s1, s2, s3⟩ := (⟨hS.2.2.2.2.2 0 _ rfl, hS.2.2.2.2.2 1 _ rfl, hS.2.2.2.2.2 2 _ rfl, hS.2.2.2.2.2 3 _ rfl⟩ : _ ∧ _ ∧ _ ∧ _)
          clear hd hE
          try clear hS
          go_wp2
          exact Ext.refl _
        case ha => rfl
        apply wpLoose_val rfl rfl
        case hs =>
          intro w1 hC hd Q1 hQ1
          obtain ⟨hE, hS⟩ := hC
          dsimp only [bare]
          clear hd
          go_wp2_with fail
          refine (D2.out _ (E11.out.2.2.1.drew.trans hE)).mono ?_
          rintro e w2 ⟨rfl, hb⟩
          go_wp2_with fail
          exact hb
        case ha => rfl
        apply wpLoose_val rfl rfl
        case hs =>
          intro w1 hC hd Q1 hQ1
          obtain ⟨hE, hS⟩ := hC
          dsimp only [bare]
          obtain ⟨p0, p1, p2, p3, p4, p5, p6⟩ := (⟨hS.1.2 0 _ rfl, hS.1.2 1 _ rfl, hS.1.2 2 _ rfl, hS.1.2 3 _ rfl, hS.2.1.2 0 _ rfl, hS.2.1.2 1 _ rfl, hS.2.1.2 2 _ rfl⟩ : _ ∧ _ ∧ _ ∧ _ ∧ _ ∧ _ ∧ _); obtain ⟨q0, q1, q2, q3, q4, q5, q6⟩ := (⟨hS.2.2.1.2 0 _ rfl, hS.2.2.1.2 1 _ rfl, hS.2.2.1.2 2 _ rfl, hS.2.2.1.2 3 _ rfl, hS.2.2.2.1.2 0 _ rfl, hS.2.2.2.1.2 1 _ rfl, hS.2.2.2.1.2 2 _ rfl⟩ : _ ∧ _ ∧ _ ∧ _ ∧ _ ∧ _ ∧ _); obtain ⟨s0, s1, s2, s3⟩ := (⟨hS.2.2.2.2.2 0 _ rfl, hS.2.2.2.2.2 1 _ rfl, hS.2.2.2.2.2 2 _ rfl, hS.2.2.2.2.2 3 _ rfl⟩ : _ ∧ _ ∧ _ ∧ _)
          clear hd hE
          try clear hS
          go_wp2
          exact Ext.refl _
        case ha => rfl
        apply wpLoose_val rfl rfl
        case hs =>
          intro w1 hC hd Q1 hQ1
          obtain ⟨hE, hS⟩ := hC
          dsimp only [bare]
          obtain ⟨p0, p1, p2, p3, p4, p5, p6⟩ := (⟨hS.1.2 0 _ rfl, hS.1.2 1 _ rfl, hS.1.2 2 _ rfl, hS.1.2 3 _ rfl, hS.2.1.2 0 _ rfl, hS.2.1.2 1 _ rfl, hS.2.1.2 2 _ rfl⟩ : _ ∧ _ ∧ _ ∧ _ ∧ _ ∧ _ ∧ _); obtain ⟨q0, q1, q2, q3, q4, q5, q6⟩ := (⟨hS.2.2.1.2 0 _ rfl, hS.2.2.1.2 1 _ rfl, hS.2.2.1.2 2 _ rfl, hS.2.2.1.2 3 _ rfl, hS.2.2.2.1.2 0 _ rfl, hS.2.2.2.1.2 1 _ rfl, hS.2.2.2.1.2 2 _ rfl⟩ : _ ∧ _ ∧ _ ∧ _ ∧ _ ∧ _ ∧ _); obtain ⟨s0, s1, s2, s3⟩ := (⟨hS.2.2.2.2.2 0 _ rfl, hS.2.2.2.2.2 1 _ rfl, hS.2.2.2.2.2 2 _ rfl, hS.2.2.2.2.2 3 _ rfl⟩ : _ ∧ _ ∧ _ ∧ _)
          clear hd hE
          try clear hS
          go_wp2
          exact Ext.refl _
        case ha => rfl
        apply wpLoose_val rfl rfl
        case hs =>
          intro w1 hC hd Q1 hQ1
          obtain ⟨hE, hS⟩ := hC
          dsimp only [bare]
          clear hd
          go_wp2_with fail
          refine (D3.out _ (E11.out.2.2.1.drew.trans hE)).mono ?_
          rintro e w2 ⟨rfl, hb⟩
          go_wp2_with fail
          exact hb
        case ha => rfl
        apply wpLoose_val rfl rfl
        case hs =>
          intro w1 hC hd Q1 hQ1
          obtain ⟨hE, hS⟩ := hC
          dsimp only [bare]
          obtain ⟨p0, p1, p2, p3, p4, p5, p6⟩ := (⟨hS.1.2 0 _ rfl, hS.1.2 1 _ rfl, hS.1.2 2 _ rfl, hS.1.2 3 _ rfl, hS.2.1.2 0 _ rfl, hS.2.1.2 1 _ rfl, hS.2.1.2 2 _ rfl⟩ : _ ∧ _ ∧ _ ∧ _ ∧ _ ∧ _ ∧ _); obtain ⟨q0, q1, q2, q3, q4, q5, q6⟩ := (⟨hS.2.2.1.2 0 _ rfl, hS.2.2.1.2 1 _ rfl, hS.2.2.1.2 2 _ rfl, hS.2.2.1.2 3 _ rfl, hS.2.2.2.1.2 0 _ rfl, hS.2.2.2.1.2 1 _ rfl, hS.2.2.2.1.2 2 _ rfl⟩ : _ ∧ _ ∧ _ ∧ _ ∧ _ ∧ _ ∧ _); obtain ⟨s0, s1, s2, s3⟩ := (⟨hS.2.2.2.2.2 0 _ rfl, hS.2.2.2.2.2 1 _ rfl, hS.2.2.2.2.2 2 _ rfl, hS.2.2.2.2.2 3 _ rfl⟩ : _ ∧ _ ∧ _ ∧ _)
          clear hd hE
          try clear hS
          go_wp2
          exact Ext.refl _
        case ha => rfl
        apply wpLoose_val rfl rfl
        case hs =>
          intro w1 hC hd Q1 hQ1
          obtain ⟨hE, hS⟩ := hC
          dsimp only [bare]
          obtain ⟨p0, p1, p2, p3, p4, p5, p6⟩ := (⟨hS.1.2 0 _ rfl, hS.1.2 1 _ rfl, hS.1.2 2 _ rfl, hS.1.2 3 _ rfl, hS.2.1.2 0 _ rfl, hS.2.1.2 1 _ rfl, hS.2.1.2 2 _ rfl⟩ : _ ∧ _ ∧ _ ∧ _ ∧ _ ∧ _ ∧ _); obtain ⟨q0, q1, q2, q3, q4, q5, q6⟩ := (⟨hS.2.2.1.2 0 _ rfl, hS.2.2.1.2 1 _ rfl, hS.2.2.1.2 2 _ rfl, hS.2.2.1.2 3 _ rfl, hS.2.2.2.1.2 0 _ rfl, hS.2.2.2.1.2 1 _ rfl, hS.2.2.2.1.2 2 _ rfl⟩ : _ ∧ _ ∧ _ ∧ _ ∧ _ ∧ _ ∧ _); obtain ⟨s0, s1, s2, s3⟩ := (⟨hS.2.2.2.2.2 0 _ rfl, hS.2.2.2.2.2 1 _ rfl, hS.2.2.2.2.2 2 _ rfl, hS.2.2.2.2.2 3 _ rfl⟩ : _ ∧ _ ∧ _ ∧ _)
          clear hd hE
          try clear hS
          go_wp2
          exact Ext.refl _
        case ha => rfl
        apply wpLoose_val rfl rfl
        case hs =>
          intro w1 hC hd Q1 hQ1
          obtain ⟨hE, hS⟩ := hC
          dsimp only [bare]
          obtain ⟨p0, p1, p2, p3, p4, p5, p6⟩ := (⟨hS.1.2 0 _ rfl, hS.1.2 1 _ rfl, hS.1.2 2 _ rfl, hS.1.2 3 _ rfl, hS.2.1.2 0 _ rfl, hS.2.1.2 1 _ rfl, hS.2.1.2 2 _ rfl⟩ : _ ∧ _ ∧ _ ∧ _ ∧ _ ∧ _ ∧ _); obtain ⟨q0, q1, q2, q3, q4, q5, q6⟩ := (⟨hS.2.2.1.2 0 _ rfl, hS.2.2.1.2 1 _ rfl, hS.2.2.1.2 2 _ rfl, hS.2.2.1.2 3 _ rfl, hS.2.2.2.1.2 0 _ rfl, hS.2.2.2.1.2 1 _ rfl, hS.2.2.2.1.2 2 _ rfl⟩ : _ ∧ _ ∧ _ ∧ _ ∧ _ ∧ _ ∧ _); obtain ⟨s0, s1, s2, s3⟩ := (⟨hS.2.2.2.2.2 0 _ rfl, hS.2.2.2.2.2 1 _ rfl, hS.2.2.2.2.2 2 _ rfl, hS.2.2.2.2.2 3 _ rfl⟩ : _ ∧ _ ∧ _ ∧ _)
          clear hd hE
          try clear hS
          go_wp2
          exact Ext.refl _
        case ha => rfl
        apply wpLoose_val rfl rfl
        case hs =>
          intro w1 hC hd Q1 hQ1
          obtain ⟨hE, hS⟩ := hC
          dsimp only [bare]
          obtain ⟨p0, p1, p2, p3, p4, p5, p6⟩ := (⟨hS.1.2 0 _ rfl, hS.1.2 1 _ rfl, hS.1.2 2 _ rfl, hS.1.2 3 _ rfl, hS.2.1.2 0 _ rfl, hS.2.1.2 1 _ rfl, hS.2.1.2 2 _ rfl⟩ : _ ∧ _ ∧ _ ∧ _ ∧ _ ∧ _ ∧ _); obtain ⟨q0, q1, q2, q3, q4, q5, q6⟩ := (⟨hS.2.2.1.2 0 _ rfl, hS.2.2.1.2 1 _ rfl, hS.2.2.1.2 2 _ rfl, hS.2.2.1.2 3 _ rfl, hS.2.2.2.1.2 0 _ rfl, hS.2.2.2.1.2 1 _ rfl, hS.2.2.2.1.2 2 _ rfl⟩ : _ ∧ _ ∧ _ ∧ _ ∧ _ ∧ _ ∧ _); obtain ⟨s0, s1, s2, s3⟩ := (⟨hS.2.2.2.2.2 0 _ rfl, hS.2.2.2.2.2 1 _ rfl, hS.2.2.2.2.2 2 _ rfl, hS.2.2.2.2.2 3 _ rfl⟩ : _ ∧ _ ∧ _ ∧ _)
          clear hd hE
          try clear hS
          go_wp2
          exact Ext.refl _
        case ha => rfl
        apply wpLoose_val rfl rfl
        case hs =>
          intro w1 hC hd Q1 hQ1
          obtain ⟨hE, hS⟩ := hC
          dsimp only [bare]
          clear hd
          go_wp2_with fail
          refine (K1.out _ (E11.out.2.1.drew.trans hE)).mono ?_
          rintro e w2 ⟨rfl, hb⟩
          go_wp2_with fail
          exact hb
        case ha => rfl
        apply wpLoose_val rfl rfl
        case hs =>
          intro w1 hC hd Q1 hQ1
          obtain ⟨hE, hS⟩ := hC
          dsimp only [bare]
          obtain ⟨p0, p1, p2, p3, p4, p5, p6⟩ := (⟨hS.1.2 0 _ rfl, hS.1.2 1 _ rfl, hS.1.2 2 _ rfl, hS.1.2 3 _ rfl, hS.2.1.2 0 _ rfl, hS.2.1.2 1 _ rfl, hS.2.1.2 2 _ rfl⟩ : _ ∧ _ ∧ _ ∧ _ ∧ _ ∧ _ ∧ _); obtain ⟨q0, q1, q2, q3, q4, q5, q6⟩ := (⟨hS.2.2.1.2 0 _ rfl, hS.2.2.1.2 1 _ rfl, hS.2.2.1.2 2 _ rfl, hS.2.2.1.2 3 _ rfl, hS.2.2.2.1.2 0 _ rfl, hS.2.2.2.1.2 1 _ rfl, hS.2.2.2.1.2 2 _ rfl⟩ : _ ∧ _ ∧ _ ∧ _ ∧ _ ∧ _ ∧ _); obtain ⟨s0, s1, s2, s3⟩ := (⟨hS.2.2.2.2.2 0 _ rfl, hS.2.2.2.2.2 1 _ rfl, hS.2.2.2.2.2 2 _ rfl, hS.2.2.2.2.2 3 _ rfl⟩ : _ ∧ _ ∧ _ ∧ _)
          clear hd hE
          try clear hS
          go_wp2
          exact Ext.refl _
        case ha => rfl
        apply wpLoose_val rfl rfl
        case hs =>
          intro w1 hC hd Q1 hQ1
          obtain ⟨hE, hS⟩ := hC
          dsimp only [bare]
          obtain ⟨p0, p1, p2, p3, p4, p5, p6⟩ := (⟨hS.1.2 0 _ rfl, hS.1.2 1 _ rfl, hS.1.2 2 _ rfl, hS.1.2 3 _ rfl, hS.2.1.2 0 _ rfl, hS.2.1.2 1 _ rfl, hS.2.1.2 2 _ rfl⟩ : _ ∧ _ ∧ _ ∧ _ ∧ _ ∧ _ ∧ _); obtain ⟨q0, q1, q2, q3, q4, q5, q6⟩ := (⟨hS.2.2.1.2 0 _ rfl, hS.2.2.1.2 1 _ rfl, hS.2.2.1.2 2 _ rfl, hS.2.2.1.2 3 _ rfl, hS.2.2.2.1.2 0 _ rfl, hS.2.2.2.1.2 1 _ rfl, hS.2.2.2.1.2 2 _ rfl⟩ : _ ∧ _ ∧ _ ∧ _ ∧ _ ∧ _ ∧ _); obtain ⟨s0, s1, s2, s3⟩ := (⟨hS.2.2.2.2.2 0 _ rfl, hS.2.2.2.2.2 1 _ rfl, hS.2.2.2.2.2 2 _ rfl, hS.2.2.2.2.2 3 _ rfl⟩ : _ ∧ _ ∧ _ ∧ _)
          clear hd hE
          try clear hS
          go_wp2
          exact Ext.refl _
        case ha => rfl
        apply wpLoose_val rfl rfl
        case hs =>
          intro w1 hC hd Q1 hQ1
          obtain ⟨hE, hS⟩ := hC
          dsimp only [bare]
          obtain ⟨p0, p1, p2, p3, p4, p5, p6⟩ := (⟨hS.1.2 0 _ rfl, hS.1.2 1 _ rfl, hS.1.2 2 _ rfl, hS.1.2 3 _ rfl, hS.2.1.2 0 _ rfl, hS.2.1.2 1 _ rfl, hS.2.1.2 2 _ rfl⟩ : _ ∧ _ ∧ _ ∧ _ ∧ _ ∧ _ ∧ _); obtain ⟨q0, q1, q2, q3, q4, q5, q6⟩ := (⟨hS.2.2.1.2 0 _ rfl, hS.2.2.1.2 1 _ rfl, hS.2.2.1.2 2 _ rfl, hS.2.2.1.2 3 _ rfl, hS.2.2.2.1.2 0 _ rfl, hS.2.2.2.1.2 1 _ rfl, hS.2.2.2.1.2 2 _ rfl⟩ : _ ∧ _ ∧ _ ∧ _ ∧ _ ∧ _ ∧ _); obtain ⟨s0, s1, s2, s3⟩ := (⟨hS.2.2.2.2.2 0 _ rfl, hS.2.2.2.2.2 1 _ rfl, hS.2.2.2.2.2 2 _ rfl, hS.2.2.2.2.2 3 _ rfl⟩ : _ ∧ _ ∧ _ ∧ _)
          clear hd hE
          try clear hS
          go_wp2
          exact Ext.refl _
        case ha => rfl
        apply wpLoose_val rfl rfl
        case hs =>
          intro w1 hC hd Q1 hQ1
          obtain ⟨hE, hS⟩ := hC
          dsimp only [bare]
          clear hd
          go_wp2_with fail
          refine (K2.out _ (E11.out.2.2.2.drew.trans hE)).mono ?_
          rintro e w2 ⟨rfl, hb⟩
          go_wp2_with fail
          exact hb
        case ha => rfl
        apply wpLoose_val rfl rfl
        case hs =>
          intro w1 hC hd Q1 hQ1
          obtain ⟨hE, hS⟩ := hC
          dsimp only [bare]
          obtain ⟨p0, p1, p2, p3, p4, p5, p6⟩ := (⟨hS.1.2 0 _ rfl, hS.1.2 1 _ rfl, hS.1.2 2 _ rfl, hS.1.2 3 _ rfl, hS.2.1.2 0 _ rfl, hS.2.1.2 1 _ rfl, hS.2.1.2 2 _ rfl⟩ : _ ∧ _ ∧ _ ∧ _ ∧ _ ∧ _ ∧ _); obtain ⟨q0, q1, q2, q3, q4, q5, q6⟩ := (⟨hS.2.2.1.2 0 _ rfl, hS.2.2.1.2 1 _ rfl, hS.2.2.1.2 2 _ rfl, hS.2.2.1.2 3 _ rfl, hS.2.2.2.1.2 0 _ rfl, hS.2.2.2.1.2 1 _ rfl, hS.2.2.2.1.2 2 _ rfl⟩ : _ ∧ _ ∧ _ ∧ _ ∧ _ ∧ _ ∧ _); obtain ⟨s0, s1, s2, s3⟩ := (⟨hS.2.2.2.2.2 0 _ rfl, hS.2.2.2.2.2 1 _ rfl, hS.2.2.2.2.2 2 _ rfl, hS.2.2.2.2.2 3 _ rfl⟩ : _ ∧ _ ∧ _ ∧ _)
          clear hd hE
          try clear hS
          go_wp2
          exact Ext.refl _
        case ha => rfl
        apply wpLoose_val rfl rfl
        case hs =>
          intro w1 hC hd Q1 hQ1
          obtain ⟨hE, hS⟩ := hC
          dsimp only [bare]
          clear hd
          go_wp2_with fail
          refine (K3.out _ (E11.out.2.2.2.drew.trans hE)).mono ?_
          rintro e w2 ⟨rfl, hb⟩
          go_wp2_with fail
          exact hb
        case ha => rfl
        apply wpLoose_val rfl rfl
        case hs =>
          intro w1 hC hd Q1 hQ1
          obtain ⟨hE, hS⟩ := hC
          dsimp only [bare]
          obtain ⟨p0, p1, p2, p3, p4, p5, p6⟩ := (⟨hS.1.2 0 _ rfl, hS.1.2 1 _ rfl, hS.1.2 2 _ rfl, hS.1.2 3 _ rfl, hS.2.1.2 0 _ rfl, hS.2.1.2 1 _ rfl, hS.2.1.2 2 _ rfl⟩ : _ ∧ _ ∧ _ ∧ _ ∧ _ ∧ _ ∧ _); obtain ⟨q0, q1, q2, q3, q4, q5, q6⟩ := (⟨hS.2.2.1.2 0 _ rfl, hS.2.2.1.2 1 _ rfl, hS.2.2.1.2 2 _ rfl, hS.2.2.1.2 3 _ rfl, hS.2.2.2.1.2 0 _ rfl, hS.2.2.2.1.2 1 _ rfl, hS.2.2.2.1.2 2 _ rfl⟩ : _ ∧ _ ∧ _ ∧ _ ∧ _ ∧ _ ∧ _); obtain ⟨s0, s1, s2, s3⟩ := (⟨hS.2.2.2.2.2 0 _ rfl, hS.2.2.2.2.2 1 _ rfl, hS.2.2.2.2.2 2 _ rfl, hS.2.2.2.2.2 3 _ rfl⟩ : _ ∧ _ ∧ _ ∧ _)
          clear hd hE
          try clear hS
          go_wp2
          exact Ext.refl _
        case ha => rfl
        apply wpLoose_val rfl rfl
        case hs =>
          intro w1 hC hd Q1 hQ1
          obtain ⟨hE, hS⟩ := hC
          dsimp only [bare]
          obtain ⟨p0, p1, p2, p3, p4, p5, p6⟩ := (⟨hS.1.2 0 _ rfl, hS.1.2 1 _ rfl, hS.1.2 2 _ rfl, hS.1.2 3 _ rfl, hS.2.1.2 0 _ rfl, hS.2.1.2 1 _ rfl, hS.2.1.2 2 _ rfl⟩ : _ ∧ _ ∧ _ ∧ _ ∧ _ ∧ _ ∧ _); obtain ⟨q0, q1, q2, q3, q4, q5, q6⟩ := (⟨hS.2.2.1.2 0 _ rfl, hS.2.2.1.2 1 _ rfl, hS.2.2.1.2 2 _ rfl, hS.2.2.1.2 3 _ rfl, hS.2.2.2.1.2 0 _ rfl, hS.2.2.2.1.2 1 _ rfl, hS.2.2.2.1.2 2 _ rfl⟩ : _ ∧ _ ∧ _ ∧ _ ∧ _ ∧ _ ∧ _); obtain ⟨s0, s1, s2, s3⟩ := (⟨hS.2.2.2.2.2 0 _ rfl, hS.2.2.2.2.2 1 _ rfl, hS.2.2.2.2.2 2 _ rfl, hS.2.2.2.2.2 3 _ rfl⟩ : _ ∧ _ ∧ _ ∧ _)
          clear hd hE
          try clear hS
          go_wp2
          exact Ext.refl _
        case ha => rfl
        apply wpLoose_val rfl rfl
        case hs =>
          intro w1 hC hd Q1 hQ1
          obtain ⟨hE, hS⟩ := hC
          dsimp only [bare]
          obtain ⟨p0, p1, p2, p3, p4, p5, p6⟩ := (⟨hS.1.2 0 _ rfl, hS.1.2 1 _ rfl, hS.1.2 2 _ rfl, hS.1.2 3 _ rfl, hS.2.1.2 0 _ rfl, hS.2.1.2 1 _ rfl, hS.2.1.2 2 _ rfl⟩ : _ ∧ _ ∧ _ ∧ _ ∧ _ ∧ _ ∧ _); obtain ⟨q0, q1, q2, q3, q4, q5, q6⟩ := (⟨hS.2.2.1.2 0 _ rfl, hS.2.2.1.2 1 _ rfl, hS.2.2.1.2 2 _ rfl, hS.2.2.1.2 3 _ rfl, hS.2.2.2.1.2 0 _ rfl, hS.2.2.2.1.2 1 _ rfl, hS.2.2.2.1.2 2 _ rfl⟩ : _ ∧ _ ∧ _ ∧ _ ∧ _ ∧ _ ∧ _); obtain ⟨s0, s1, s2, s3⟩ := (⟨hS.2.2.2.2.2 0 _ rfl, hS.2.2.2.2.2 1 _ rfl, hS.2.2.2.2.2 2 _ rfl, hS.2.2.2.2.2 3 _ rfl⟩ : _ ∧ _ ∧ _ ∧ _)
          clear hd hE
          try clear hS
          go_wp2
          exact Ext.refl _
        case ha => rfl
        refine wpLoose_nil ?_
        intro wq hEq hSq hFq
        have E12 : Hid (Ext w wq) := E11.out.1.drew.trans hEq
        clear hEq hSq hFq c11 d11 x11 y11 z11 E11
        go_wp2
        go_ret
        exact ⟨rfl, E12.out⟩
        case hAq => kernel_rfl
        case hlq => exact ⟨trivial, trivial, trivial, trivial, trivial, trivial, trivial, trivial, trivial, trivial, trivial, trivial, trivial, trivial, trivial, trivial, trivial, trivial, trivial, trivial, trivial, trivial, trivial, trivial, trivial, trivial, trivial⟩

set_option maxRecDepth 100000 in
theorem lifted (os : Os) (started : os.Started) (H : Type) (enc : TypeId × Value → H) :
    ReturnsInHanded {} Try.checked os 3 .any (Rows.fnDecidesSpec.pre6 enc Try.prog Try.f3 Rows.fnDecidesRow.domain false) (Rows.fnDecidesSpec.post enc Try.prog Try.f3 false true false false) := by
  refine returnsInHanded_of_change (C := Try.checked) own started (by kernel_rfl) Try.func3
    (ChangeSpec.witness6 (enc := enc) (C := Try.checked) false ⟨#[], #[.slice none 0 0], []⟩ 8 (by kernel_rfl) (by kernel_rfl) (by kernel_rfl) (by kernel_rfl)) ?_
  intro W base args ds gs before hval0 hW hcnd _
  have hval : ∀ (j : Nat) t v, Try.f3.params[j]? = some t → args[j]? = some v → Value.okWide Try.prog W .any base t v := hval0
  have hW' := hW
  obtain ⟨p, q, hA0, hV, rfl, hfz, hnd⟩ := hW
  have hA : DataW.TrodAll enc Try.prog W 0 (fun _ => true) true Try.f3.params.toList args.toList ds p := hA0
  rw [Try.params3] at hA hval
  obtain ⟨v0, vs0, d0, ds0, p0, q0, hargs, rfl, rfl, h0, r0⟩ := trodAll_cons hA
  obtain ⟨rfl, rfl, rfl⟩ := trodAll_nil r0
  obtain rfl : args = #[v0] := by cases args; simp_all
  obtain ⟨rfl, rfl⟩ := trodVars_none hV
  have lt0 : ∀ x ∈ p0, x.block < W.heap.size := by obtain ⟨m, hm⟩ := h0; exact DataW.trod_lt m _ _ _ hm
  obtain ⟨a0, len0, cap0, rfl⟩ := okWide_slice Try.underlying22 (hval 0 22 v0 rfl rfl)
  have raw0 : Raw W a0 len0 := by
    obtain ⟨fuel, hf⟩ := h0
    rcases open_ints Try.underlying22 Try.underlying5 (by kernel_rfl) hf with ⟨hcs, _⟩ | ⟨x, l, c, zs, hcs, _, hl, hm, hz, _, hcell, hwz⟩
    · simp [Value.cells] at hcs
      obtain ⟨rfl, rfl, rfl⟩ := hcs
      intro h; omega
    · simp [Value.cells] at hcs
      obtain ⟨rfl, rfl, rfl⟩ := hcs
      have hz' : zs.length = cap0 := by simpa using hz
      intro hpos
      obtain ⟨b, off, spot⟩ := x
      have hspot : spot = none := by simpa [Addr.add] using World.cell?_spot (hcell 0 (by omega))
      subst hspot
      refine ⟨b, off, rfl, fun j hj => ?_⟩
      have hj' : j < zs.length := by omega
      have hw := hwz _ (List.getElem_mem hj')
      have hb := bounds_u8 hw
      refine ⟨(zs[j]).toNat, by omega, ?_⟩
      have := hcell j hj'
      rw [Addr.add_lit] at this
      rw [this, List.getD_eq_getElem?_getD, List.getElem?_eq_getElem hj']
      simp only [Option.getD_some]
      congr 2
      omega
  clear hA0 hval0
  refine (walk a0 len0 cap0 W raw0).mono fun e W' ⟨he, bel⟩ => ?_
  subst he
  exact ⟨_, rfl, _, _, _, [], _, [], hW', trodAll_mk1 (shut_bool Try.underlying4 _), (trodAll_cons_mk (Below.trod laidOut (by kernel_rfl) (of_decide_eq_true (by kernel_rfl)) h0 bel lt0) trodAll_mk0), rfl, bel.frame _, fun h => by cases h⟩

end Go.Proofs.Ytoknlaaghjlnaaa.FnDecides
namespace Go.Proofs.Ytoknlaaghjlnaaa
open Go.ChangeShapes Go.WideShapes Go.ChangeAt Go.RowKit

theorem fnDecides : Rows.FnDecidesSaid :=
  OpenClaim.holds_of_wide 3 Try.f3 rfl rfl rfl rfl rfl rfl rfl ⟨rfl, rfl, rfl, rfl, rfl⟩ rfl rfl rfl rfl rfl (by kernel_rfl) Try.func3 (by kernel_rfl)
    (of_decide_eq_true (by kernel_rfl)) (by unfold Func.isWrapper; first | (rw [if_pos (by decide +kernel)]; kernel_rfl) | (rw [if_neg (by decide +kernel)]; exact ⟨rfl, rfl⟩))
    (fun os started H enc _ => FnDecides.lifted os started H enc)
#print axioms fnDecides
end Go.Proofs.Ytoknlaaghjlnaaa
