/- Proved: at every code the law FnLayouts answers true: of drawn lines impl's Layout is right and CheckProgram lets it by, what spec's Run says of it at a drawn call is what the lines say, read in order, and the Sizes together are as many as its words; no condition. -/
import Derived.Test.YtakcmiijnckaaaaLlPack25
import Derived.Test.YtakcmiijnckaaaaLlPack18
import Derived.Test.YtakcmiijnckaaaaLlPack11
import Derived.Test.YtakcmiijnckaaaaLlPack19
import Derived.Test.YtakcmiijnckaaaaLlPack23
import Derived.WalkKit
import Derived.ProofKit
import Derived.OpenShut
import Derived.ShutString
import Derived.ChangeOld
import Derived.Below
import Derived.Deep.RegionHeld3
import Derived.Deep.RegionWith
namespace Go.Proofs.Ytakcmiijnckaaaa.FnLayouts
open Go.ChangeShapes Go.WideShapes Go.ChangeAt Go.RowKit
open Go.ChangeMaps (open_string shut_string)
set_option linter.unusedVariables false

theorem own : ownKnob Try.prog.godebug = none := by kernel_rfl
theorem laidOut : laidOutB Try.prog = true := by kernel_rfl

theorem call_three {arch num : Int} {ws : List (Int × Int)} (h : callB arch num ws = true) : ws.length = 3 := by
  simp only [callB, Bool.and_eq_true, decide_eq_true_eq] at h
  exact h.1.2

set_option maxRecDepth 100000 in
set_option maxHeartbeats 6400000 in
theorem walk (a : Option Addr) (len cap : Nat) (w : World) (raw : Raw w a len) : Calls Try.prog 3 #[.slice a len cap] w fun e w' => e = .returned (.bool true) ∧ Below w.heap.size w w' := by
  by_cases hbig : 1048576 < len
  · go_enter Try.func3, Try.ntmps3
    go_wp2_with (go_at_call 8; refine (big_yes _ _ _ _ hbig).mono ?_; rintro e w' ⟨rfl, rfl⟩)
    go_ret
    exact ⟨rfl, Below.refl _ _⟩
  have HC : Hid (Came w a len) := ⟨by omega, raw⟩
  have hl : len ≤ 1048576 := by omega
  clear raw hbig
  go_enter Try.func3, Try.ntmps3
  go_wp2_with fail
  refine (big_no a len cap _ hl).mono ?_
  rintro e w' ⟨rfl, rfl⟩
  go_wp2_with fail
  refine (drawLines_any a len cap _ HC.out).mono ?_
  rintro e w1 ⟨q, ls, c, rfl, hlns, hlp, hl106, hsh, e1⟩
  obtain ⟨s, hs⟩ := sizes_some hlp
  have ht : TextsP ls := short_texts hsh
  have hm3 := cnt_le3 hs (Nat.le_refl ls.length)
  have hm1 := cnt_pos hlp hs
  have hfew : fewP ls s = true := by unfold fewP; rw [inB_true]; omega
  have hck := check_lay hlp hs (by omega)
  have hlen := layL_length hs (Nat.le_refl ls.length)
  obtain ⟨b, off, rfl, hh⟩ := hlns (by have := hlp.1; omega)
  obtain ⟨P, hP⟩ : ∃ P, P = layL ls s ls.length := ⟨_, rfl⟩
  rw [← hP] at hck hlen
  have HPP : Hid (P = layL ls s ls.length) := hP
  have HL : Hid (linesP ls ∧ sizesP ls s ∧ checkP P = true) := ⟨hlp, hs, hck⟩
  have HSH : Hid (∀ j, j < ls.length → shortL (ls.getD j zeroL)) := hsh
  have HHP : Hid (∀ W, Ext w1 W → ∀ j, j < ls.length → Hept W b (off + j * 7) (ls.getD j zeroL)) := fun W hE j hj => (hh j hj).below hE (hh j hj).lt
  have HIL : Hid (∀ W, Ext w1 W → Calls Try.prog 11 #[.slice (some ⟨b, off, none⟩) ls.length c] W fun e w' => ∃ v, e = .returned (.tuple #[v, .bool true]) ∧ Own4 w' W.heap.size v P ∧ Ext W w') := fun W hE => by
    have := iLayout_yes (some ⟨b, off, none⟩) c ls s W hlp hs ht (hlns.ext hE)
    rw [hfew, if_pos rfl, ← hP] at this
    exact this
  have HIS : Hid (∀ W, Ext w1 W → Calls Try.prog 15 #[.slice (some ⟨b, off, none⟩) ls.length c] W fun e w' => ∃ g, e = .returned (.slice (some ⟨g, 0, none⟩) ls.length ls.length) ∧ W.heap.size ≤ g ∧ RowF w' g ls.length (fun i => (s i : Int)) ∧ Ext W w') := fun W hE => iSizes_yes _ c ls s W hlp hs ht (hlns.ext hE)
  have HIO : Hid (∀ W, Ext w1 W → Calls Try.prog 16 #[.slice (some ⟨b, off, none⟩) ls.length c] W fun e w' => e = .returned (.bool true) ∧ Ext W w') := fun W hE => iLines_any _ c ls true W (by omega) ht (hlns.ext hE) (by simp [hlp])
  have HE1 : Hid (Ext w w1) := e1
  obtain ⟨n, hn⟩ : ∃ n, n = ls.length := ⟨_, rfl⟩
  obtain ⟨M, hM⟩ : ∃ M, M = cnt s n := ⟨_, rfl⟩
  have hlen' : P.length = M := by rw [hlen, hM, hn]
  have HN : Hid (n = ls.length ∧ M = cnt s n ∧ P.length = M) := ⟨hn, hM, hlen'⟩
  have hn1 : 1 ≤ n := by have := hlp.1; omega
  have hM3 : M ≤ 318 := by rw [hM, hn]; omega
  rw [← hn] at HIL HIS HIO HSH HHP hl106 ⊢
  clear hlns hlp hsh e1 hs ht hm3 hm1 hfew hck hlen hh hn hM hlen' hP
  go_wp2_with fail
  refine (drawCall_any a len cap _ (HC.out.below HE1.out)).mono ?_
  rintro e w2 ⟨arch, num, cs, v, hcb, rfl, hrep, e2⟩
  obtain ⟨ca, cc, rfl, hcw⟩ := hrep.rep
  have h3 := call_three hcb
  have B2 : Hid (Blk (w2.alloc (.cells #[.int .i64 arch, .int .i64 num, .slice ca cs.length cc] 28)) w2.heap.size [.int .i64 arch, .int .i64 num, .slice ca cs.length cc] 28) := Blk.new _ _ _
  have HCA : Hid (∀ W, Ext w2 W → RepCall arch num cs (.agg #[.int .i64 arch, .int .i64 num, .slice ca cs.length cc]) W) := fun W hE => RepCall.step ⟨ca, cc, rfl, hcw⟩ hE
  have HX2 : Hid (Ext w1 w2) := e2
  obtain ⟨F, hF⟩ : ∃ F, F = fieldR arch num cs := ⟨_, rfl⟩
  have HFI : Hid (∀ k W, Ext w2 W → Calls Try.prog 13 #[.agg #[.int .i64 arch, .int .i64 num, .slice ca cs.length cc], .int .i64 k] W fun e w' => e = .returned (.tuple #[.int .i64 (F k), .bool (fieldOk arch num cs k)]) ∧ Ext W w') := fun k W hE => by rw [hF]; exact sField_rep arch num cs k _ W (by omega) (HCA.out W hE)
  obtain ⟨res, mm, hRR⟩ := runR_some P arch num cs
  have HLR : Hid (∃ f, LRuns ls F f 0 0 res) := by
    rcases hRR with ⟨_, _, f, hf⟩ | ⟨h, _⟩
    · rw [hF]; exact lay_runs HL.out.1 HL.out.2.1 ls.length 0 f 0 0 res mm (by omega) (by have := HN.out.1; omega) (by rw [← HPP.out]; exact hf)
    · rcases h with h | h
      · rw [HL.out.2.2] at h; cases h
      · rw [hcb] at h; cases h
  have HRR : Hid (RunR P arch num cs res mm) := hRR
  have HSR : Hid (∀ a4 cap4 W, Ext w2 W → Words W a4 P → Calls Try.prog 14 #[.slice a4 M cap4, .agg #[.int .i64 arch, .int .i64 num, .slice ca cs.length cc]] W fun e w' => e = .returned (.tuple #[.int .i64 res, .int .i64 (mm : Int)]) ∧ Ext W w') := fun a4 cap4 W hE hW => by
    rw [← HN.out.2.2]
    exact sRun_any a4 cap4 _ arch num cs _ res mm W (by have := HN.out.2.2; omega) hW (by omega) (HCA.out W hE) HRR.out
  generalize cs.length = cl at *
  clear hcb hrep e2 hcw h3 hF hRR HRR HCA
  go_wp2_with fail
  refine (HIL.out _ (HX2.out.trans (Ext.one _ _))).mono ?_
  rintro e w3 ⟨v4, rfl, hown, e3⟩
  obtain ⟨a4, c4, rfl, hc4, hwd, _⟩ := hown.words
  rw [HN.out.2.2] at hc4 ⊢
  have B3 : Hid (Blk w3 w2.heap.size [.int .i64 arch, .int .i64 num, .slice ca cl cc] 28) := B2.out.ext e3
  have HX3 : Hid (Ext w2 w3 ∧ Words w3 a4 P) := ⟨(Ext.one _ _).trans e3, hwd⟩
  have HCK : Hid (∀ W, Ext w3 W → Calls Try.prog 12 #[.slice a4 M c4] W fun e w' => e = .returned (.bool true) ∧ Ext W w') := fun W hE => by
    have := sCheck_any a4 c4 P W (by have := HN.out.2.2; omega) (hwd.ext hE)
    rw [HL.out.2.2, HN.out.2.2] at this
    exact this
  clear hown e3 hwd B2 HIL
  go_wp2_with fail
  refine (HCK.out _ (Ext.refl _)).mono ?_
  rintro e w4 ⟨rfl, e4⟩
  have B4 : Hid (Blk w4 w2.heap.size [.int .i64 arch, .int .i64 num, .slice ca cl cc] 28) := B3.out.ext e4
  have HX4 : Hid (Ext w2 w4 ∧ Words w4 a4 P) := ⟨HX3.out.1.trans e4, HX3.out.2.ext e4⟩
  clear e4 B3 HX3 HCK
  go_wp2_with fail
  go_loopw [7, 8, 9, 10] (fun v7 v8 v9 v10 wr => ∃ (R Wt : Int) (A S : Nat), v7 = .int .i64 R ∧ v8 = .int .i64 Wt ∧ v9 = .int .i64 A ∧ v10 = .int .i64 S ∧ S ≤ n ∧ A ≤ n ∧ Hid (Ext w4 wr) ∧ Hid ((Wt = -1 ∧ A < n ∧ S ≤ A ∧ ∃ f, LRuns ls F f A R res) ∨ (Wt = res ∧ 0 ≤ res))) (fun _ _ _ v10 _ => n + 1 - (intOf v10).toNat)
  case atStart => exact ⟨0, -1, 0, 0, rfl, rfl, rfl, rfl, by omega, by omega, Ext.refl _, .inl ⟨rfl, by omega, by omega, HLR.out⟩⟩
  case round =>
    obtain ⟨R, Wt, A, S, rfl, rfl, rfl, rfl, hS, hA, HE, HW⟩ := hrel
    have bS : (S : Int) ≤ (n : Int) := by omega
    by_cases hw0 : Wt < 0
    · have HI : Hid (∃ f, LRuns ls F f A R res) := by
        rcases HW.out with ⟨_, _, _, h⟩ | ⟨h1, h2⟩
        · exact h
        · omega
      have hAS : A < n ∧ S ≤ A ∧ Wt = -1 := by
        rcases HW.out with ⟨h1, h2, h3, h⟩ | ⟨h1, h2⟩
        · exact ⟨h2, h3, h1⟩
        · omega
      obtain ⟨hAn, hSA, rfl⟩ := hAS
      clear HW HLR
      obtain ⟨⟨lab, ⟨o, k, y, nn⟩, yes, no⟩, hp⟩ : ∃ p, p = ls.getD A zeroL := ⟨_, rfl⟩
      have HP : Hid (⟨lab, ⟨o, k, y, nn⟩, yes, no⟩ = ls.getD A zeroL) := hp
      have hhp := HHP.out wr ((HX2.out.trans HX4.out.1).trans HE.out) A hAn
      rw [← hp] at hhp
      obtain ⟨d0, d1, d2, d3, d4, d5, d6⟩ := hhp
      simp only at d0 d1 d2 d3 d4 d5 d6
      clear hp
      have hll := HL.out.1
      have hAl : A < ls.length := by have := HN.out.1; omega
      have ho : 0 ≤ o ∧ o ≤ 8 ∧ (o = 8 → 0 ≤ k) := by
        rcases hll.2.2 A hAl with ⟨h, _⟩ | ⟨_, _, _, _, _, h, _⟩
        · rw [← HP.out] at h
          have : o = 0 := congrArg Prod.fst h
          omega
        · rw [← HP.out, okW_P] at h
          have h : insP o k y nn := h
          unfold insP at h
          omega
      clear hll
      obtain ⟨rg, hrg⟩ : ∃ rg, rg = regW F (o, k, y, nn) R := ⟨_, rfl⟩
      have HRG : Hid (rg = regW F (o, k, y, nn) R) := hrg
      obtain ⟨wt, hwt⟩ : ∃ wt : Int, wt = if o = 8 then k else -1 := ⟨_, rfl⟩
      have HWT : Hid (wt = if o = 8 then k else -1) := hwt
      obtain ⟨wy, hwy⟩ : ∃ wy, wy = wayL ls A R := ⟨_, rfl⟩
      have HWY : Hid (wy = wayL ls A R) := hwy
      have hway : wy = if 3 ≤ o ∧ o ≤ 6 then (if asksW (o, k, y, nn) R = true then yes else no) else if o = 7 then yes else noText := by
        rw [hwy]
        unfold wayL
        rw [← HP.out]
      have HWC : Hid _ := hway
      have B5 := B4.out.ext HE.out
      have HEW : Hid (Ext w4 wr) := HE.out
      clear hrg hwt hwy hway hAl
      go_upto_block 2 with fail
      go_cut [7, 8, 12] from 36 to 159 (fun rv wv yv W => rv = .int .i64 rg ∧ wv = .int .i64 wt ∧ yv = .string wy ∧ Hid (Ext w4 W))
      case first =>
        have b1 := B5.alloc (.cells #[.string lab, .int .i64 o, .int .i64 k, .int .i64 y, .int .i64 nn, .string yes, .string no] 37)
        obtain ⟨q0, q1, q2⟩ := (⟨b1.cell 0 _ rfl, b1.cell 1 _ rfl, b1.cell 2 _ rfl⟩ : _ ∧ _ ∧ _)
        have hzz := B5.lt
        have ho9 : o = 0 ∨ o = 1 ∨ o = 2 ∨ o = 3 ∨ o = 4 ∨ o = 5 ∨ o = 6 ∨ o = 7 ∨ o = 8 := by omega
        clear b1 ho d0 d1 d2 d3 d4 d5 d6
        rcases ho9 with rfl | rfl | rfl | rfl | rfl | rfl | rfl | rfl | rfl
        · obtain rfl : wy = noText := HWC.out
          obtain rfl : rg = R := HRG.out
          obtain rfl : wt = -1 := HWT.out
          go_wp2_with fail
          go_meet
          exact ⟨rfl, rfl, rfl, HEW.out.alloc _⟩
        · obtain rfl : wy = noText := HWC.out
          have hr : rg = F k := HRG.out
          obtain rfl : wt = -1 := HWT.out
          go_wp2_with fail
          refine (HFI.out k _ ((HX4.out.1.trans HEW.out).alloc _)).mono ?_
          rintro e wx ⟨rfl, ex⟩
          rw [← hr]
          have HXX : Hid (Ext w4 wx) := (HEW.out.alloc _).trans ex
          clear ex hr
          go_wp2_with fail
          go_meet
          exact ⟨rfl, rfl, rfl, HXX.out⟩
        · obtain rfl : wy = noText := HWC.out
          have hr : rg = bits .and .i64 R k := HRG.out
          obtain rfl : wt = -1 := HWT.out
          go_wp2_with fail
          go_meet
          exact ⟨by rw [hr], rfl, rfl, HEW.out.alloc _⟩
        · obtain rfl : rg = R := HRG.out
          obtain rfl : wt = -1 := HWT.out
          by_cases hb : rg = k
          · have b1 : (rg == k) = true := by simp [hb]
            have hy : wy = yes := by
              rw [HWC.out, if_pos (by omega), if_pos]
              show (rg == k) = true
              exact b1
            go_wp2_with fail
            go_meet
            exact ⟨rfl, rfl, by rw [hy], HEW.out.alloc _⟩
          · have b1 : (rg == k) = false := by simp [hb]
            have hy : wy = no := by
              rw [HWC.out, if_pos (by omega), if_neg]
              show ¬ (rg == k) = true
              rw [b1]; decide
            go_wp2_with fail
            go_meet
            exact ⟨rfl, rfl, by rw [hy], HEW.out.alloc _⟩
        · obtain rfl : rg = R := HRG.out
          obtain rfl : wt = -1 := HWT.out
          by_cases hb : k < rg
          · have b1 : decide (k < rg) = true := by simp [hb]
            have hy : wy = yes := by
              rw [HWC.out, if_pos (by omega), if_pos]
              show decide (k < rg) = true
              exact b1
            go_wp2_with fail
            go_meet
            exact ⟨rfl, rfl, by rw [hy], HEW.out.alloc _⟩
          · have b1 : decide (k < rg) = false := by simp [hb]
            have hy : wy = no := by
              rw [HWC.out, if_pos (by omega), if_neg]
              show ¬ decide (k < rg) = true
              rw [b1]; decide
            go_wp2_with fail
            go_meet
            exact ⟨rfl, rfl, by rw [hy], HEW.out.alloc _⟩
        · obtain rfl : rg = R := HRG.out
          obtain rfl : wt = -1 := HWT.out
          by_cases hb : k ≤ rg
          · have b1 : decide (k ≤ rg) = true := by simp [hb]
            have hy : wy = yes := by
              rw [HWC.out, if_pos (by omega), if_pos]
              show decide (k ≤ rg) = true
              exact b1
            go_wp2_with fail
            go_meet
            exact ⟨rfl, rfl, by rw [hy], HEW.out.alloc _⟩
          · have b1 : decide (k ≤ rg) = false := by simp [hb]
            have hy : wy = no := by
              rw [HWC.out, if_pos (by omega), if_neg]
              show ¬ decide (k ≤ rg) = true
              rw [b1]; decide
            go_wp2_with fail
            go_meet
            exact ⟨rfl, rfl, by rw [hy], HEW.out.alloc _⟩
        · obtain rfl : rg = R := HRG.out
          obtain rfl : wt = -1 := HWT.out
          by_cases hb : bits .and .i64 rg k = 0
          · have b1 : (bits .and .i64 rg k != 0) = false := by simp [hb]
            have hy : wy = no := by
              rw [HWC.out, if_pos (by omega), if_neg]
              show ¬ (bits .and .i64 rg k != 0) = true
              rw [b1]; decide
            go_wp2_with fail
            go_meet
            exact ⟨rfl, rfl, by rw [hy], HEW.out.alloc _⟩
          · have b1 : (bits .and .i64 rg k != 0) = true := by simp [hb]
            have hy : wy = yes := by
              rw [HWC.out, if_pos (by omega), if_pos]
              show (bits .and .i64 rg k != 0) = true
              exact b1
            go_wp2_with fail
            go_meet
            exact ⟨rfl, rfl, by rw [hy], HEW.out.alloc _⟩
        · obtain rfl : wy = yes := HWC.out
          obtain rfl : rg = R := HRG.out
          obtain rfl : wt = -1 := HWT.out
          go_wp2_with fail
          go_meet
          exact ⟨rfl, rfl, rfl, HEW.out.alloc _⟩
        · obtain rfl : wy = noText := HWC.out
          obtain rfl : rg = R := HRG.out
          obtain rfl : wt = k := HWT.out
          go_wp2_with fail
          go_meet
          exact ⟨rfl, rfl, rfl, HEW.out.alloc _⟩
      case rest =>
        obtain ⟨rfl, rfl, rfl, HEC⟩ := hcut
        clear B5 d0 d1 d2 d3 d4 d5 d6
        have HJ : ∃ j, ((wy = noText ∧ j = A + 1) ∨ (onP ls A wy ∧ j = pos ls wy)) ∧ A + 1 ≤ j ∧ j ≤ n ∧ Hid ((wt = -1 ∧ j < n ∧ S + 1 ≤ j ∧ ∃ f, LRuns ls F f j rg res) ∨ (wt = res ∧ 0 ≤ res)) := by
          have hll := HL.out.1
          have hAl : A < ls.length := by have := HN.out.1; omega
          obtain ⟨f, hf⟩ := HI.out
          by_cases h8 : o = 8
          · have hr := lruns_ret hf (by rw [← HP.out]; exact h8)
            rw [← HP.out] at hr
            refine ⟨A + 1, .inl ⟨?_, rfl⟩, by omega, by omega, .inr ⟨?_, ?_⟩⟩
            · rw [HWC.out, if_neg (by omega), if_neg (by omega)]
            · rw [HWT.out, if_pos h8]; exact hr.symm
            · rw [hr]; exact ho.2.2 h8
          · have h8' : (ls.getD A zeroL).wd.1 ≠ 8 := by rw [← HP.out]; exact h8
            obtain ⟨f', hf'⟩ := lruns_next hf h8'
            have hnx := next_len hll hAl h8' R
            have hrg : regW F (ls.getD A zeroL).wd R = rg := by rw [← HP.out, HRG.out]
            rw [hrg] at hf'
            refine ⟨nextL ls A R, ?_, by omega, by have := HN.out.1; omega, .inl ⟨by rw [HWT.out, if_neg h8], by have := HN.out.1; omega, by omega, f', hf'⟩⟩
            rw [HWY.out]
            exact next_way hll hAl R
        obtain ⟨j, hj, hAj, hjn, HNX⟩ := HJ
        have hn106 : n ≤ 106 := hl106
        clear HI HP HWC HWY HWT HRG HEW ho HFI
        rcases hj with ⟨rfl, rfl⟩ | ⟨hon, hjp⟩
        · unfold noText at *
          go_wp2_with fail
          go_loopw [9] (fun v9 W => v9 = .int .i64 ((A : Int) + 1) ∧ Hid (Ext w4 W)) (fun _ _ => 0)
          case atStart => exact ⟨by go_num, HEC.out⟩
          case round =>
            obtain ⟨rfl, HEB⟩ := hrel
            go_wp2_with fail
            go_roundw
            case rel => exact ⟨rg, wt, A + 1, S + 1, rfl, rfl, by go_num, by go_num, by omega, by omega, HEB.out, HNX.out⟩
            case measure => simp [intOf]; omega
        · have HON : Hid (onP ls A wy ∧ j = pos ls wy) := ⟨hon, hjp⟩
          have hsz := lab_some HL.out.1 hon
          have bw1 : ¬ wy.toList = [] := by
            rw [none_iff]
            intro he
            rw [he] at hsz
            exact absurd hsz (by decide)
          have bw : wy.toList.isEmpty = false := by simpa using bw1
          have hjn' : j < n := by have := hon.2; have := HN.out.1; omega
          clear hon hjp hsz
          go_wp2_with fail
          go_loopw [9] (fun v9 W => ∃ B : Nat, v9 = .int .i64 B ∧ A + 1 ≤ B ∧ B ≤ j ∧ Hid (Ext w4 W)) (fun v9 _ => j + 1 - (intOf v9).toNat)
          case atStart => exact ⟨A + 1, by go_num, by omega, by omega, HEC.out⟩
          case round =>
            obtain ⟨B, rfl, hB1, hB2, HEB⟩ := hrel
            have hBn : B < n := by omega
            have bn : (B : Int) < (n : Int) := by omega
            have d0 := (HHP.out _ ((HX2.out.trans HX4.out.1).trans HEB.out) B hBn).1
            obtain ⟨lb, hlb⟩ : ∃ lb, lb = (ls.getD B zeroL).lab := ⟨_, rfl⟩
            rw [← hlb] at d0
            by_cases hBj : B < j
            · have bl : (lb.toList == wy.toList) = false := by
                rw [eqText, hlb]
                exact decide_eq_false (lab_not HL.out.1 HON.out.1 (by rw [← HON.out.2]; exact hBj))
              clear hlb
              go_wp2_with fail
              go_roundw
              case rel => exact ⟨B + 1, by go_num, by omega, by omega, HEB.out⟩
              case measure => simp [intOf]; omega
            · obtain rfl : B = j := by omega
              have bl : (lb.toList == wy.toList) = true := by
                rw [eqText, hlb, HON.out.2, lab_at HON.out.1]
                simp
              clear hlb
              go_wp2_with fail
              go_roundw
              case rel => exact ⟨rg, wt, B, S + 1, rfl, rfl, rfl, by go_num, by omega, by omega, HEB.out, HNX.out⟩
              case measure => simp [intOf]; omega
    · have hwr : Wt = res ∧ 0 ≤ res := by
        rcases HW.out with ⟨h1, _⟩ | h
        · omega
        · exact h
      obtain ⟨rfl, hr0⟩ := hwr
      clear HW HLR HFI
      have B5 := B4.out.ext HE.out
      obtain ⟨q0, q1, q2⟩ := (⟨B5.cell 0 _ rfl, B5.cell 1 _ rfl, B5.cell 2 _ rfl⟩ : _ ∧ _ ∧ _)
      clear B5
      go_wp2_with fail
      refine (HSR.out a4 c4 _ (HX4.out.1.trans HE.out) (HX4.out.2.ext HE.out)).mono ?_
      rintro e w5 ⟨rfl, e5⟩
      have HX5 : Hid (Ext w1 w5) := ((HX2.out.trans HX4.out.1).trans HE.out).trans e5
      clear e5 q0 q1 q2 HSR HX4 B4 HE
      go_wp2_with fail
      refine (HIS.out _ HX5.out).mono ?_
      rintro e w6 ⟨g6, rfl, _, hrow, e6⟩
      have HX6 : Hid (Ext w1 w6 ∧ RowF w6 g6 n (fun i => (s i : Int))) := ⟨HX5.out.trans e6, hrow⟩
      clear e6 hrow HIS HX5
      go_wp2_with fail
      go_loopw [16, 17] (fun v16 v17 W => ∃ kk : Nat, v16 = .int .i64 ((cnt s kk : Nat) : Int) ∧ v17 = .int .i64 kk ∧ kk ≤ n ∧ Hid (Ext w6 W)) (fun _ v17 _ => n - (intOf v17).toNat)
      case atStart => exact ⟨0, rfl, rfl, by omega, Ext.refl _⟩
      case round =>
        obtain ⟨kk, rfl, rfl, hkn, HK⟩ := hrel
        by_cases hlt : kk < n
        · have bk : (kk : Int) < (n : Int) := by omega
          have dk := (HX6.out.2.2 kk hlt).1
          have dk' := (HK.out.cell (p := ⟨g6, kk, none⟩) HX6.out.2.1).trans dk
          have hc1 : cnt s (kk + 1) = cnt s kk + s kk := rfl
          have hmm := cnt_mono s (a := kk + 1) (b := n) (by omega)
          have hMM := HN.out.2.1
          obtain ⟨z, hz⟩ : ∃ z, z = s kk := ⟨_, rfl⟩
          obtain ⟨ck, hck⟩ : ∃ ck, ck = cnt s kk := ⟨_, rfl⟩
          simp only at dk'
          rw [← hz] at dk' hc1
          rw [← hck] at hc1 ⊢
          have HC1 : Hid (cnt s (kk + 1) = ck + z) := hc1
          have hcz : ck + z ≤ 318 := by omega
          clear dk hc1 hmm hMM hz hck
          go_wp2_with fail
          go_roundw
          case rel => exact ⟨kk + 1, by rw [HC1.out]; go_num, by go_num, by omega, HK.out⟩
          case measure => simp [intOf]; omega
        · obtain rfl : kk = n := by omega
          have bk : ¬ ((kk : Int) < (kk : Int)) := by omega
          rw [← HN.out.2.1]
          have br : (Wt == Wt) = true := by simp
          have bm : ((M : Int) == (M : Int)) = true := by simp
          clear hlt
          go_wp2_with fail
          refine (HIO.out _ (HX6.out.1.trans HK.out)).mono ?_
          rintro e w7 ⟨rfl, e7⟩
          have HX7 : Hid (Ext w w7) := (HE1.out.trans (HX6.out.1.trans HK.out)).trans e7
          clear e7
          go_wp2
          go_ret
          exact ⟨rfl, HX7.out⟩

set_option maxRecDepth 100000 in
theorem lifted (os : Os) (started : os.Started) (H : Type) (enc : TypeId × Value → H) :
    ReturnsInHanded {} Try.checked os 3 .any (Rows.fnLayoutsSpec.pre6 enc Try.prog Try.f3 Rows.fnLayoutsRow.domain false) (Rows.fnLayoutsSpec.post enc Try.prog Try.f3 false true false false) := by
  refine returnsInHanded_of_change (C := Try.checked) own started (by kernel_rfl) Try.func3
    (ChangeSpec.witness6 (enc := enc) (C := Try.checked) false ⟨#[], #[.slice none 0 0], []⟩ 8 (by kernel_rfl) (by kernel_rfl) (by kernel_rfl) (by kernel_rfl)) ?_
  intro W base args ds gs before hval0 hW hcnd _
  have hval : ∀ (j : Nat) t v, Try.f3.params[j]? = some t → args[j]? = some v → Value.okWide Try.prog W .any base t v := hval0
  have hW' := hW
  obtain ⟨p, q, hA0, hV, rfl, hfz, hnd⟩ := hW
  have hA : DataW.TrodAll enc Try.prog W 0 (fun _ => true) true Try.f3.params.toList args.toList ds p := hA0
  rw [Try.params3] at hA hval
  obtain ⟨v0, vs0, d0, ds0, p0, q0, hargs, rfl, rfl, h0, r0⟩ := trodAll_cons hA
  obtain ⟨rfl, rfl, rfl⟩ := trodAll_nil r0
  obtain rfl : args = #[v0] := by cases args; simp_all
  obtain ⟨rfl, rfl⟩ := trodVars_none hV
  have lt0 : ∀ x ∈ p0, x.block < W.heap.size := by obtain ⟨m, hm⟩ := h0; exact DataW.trod_lt m _ _ _ hm
  obtain ⟨a0, len0, cap0, rfl⟩ := okWide_slice Try.underlying22 (hval 0 22 v0 rfl rfl)
  have raw0 : Raw W a0 len0 := by
    obtain ⟨fuel, hf⟩ := h0
    rcases open_ints Try.underlying22 Try.underlying5 (by kernel_rfl) hf with ⟨hcs, _⟩ | ⟨x, l, c, zs, hcs, _, hl, hm, hz, _, hcell, hwz⟩
    · simp [Value.cells] at hcs
      obtain ⟨rfl, rfl, rfl⟩ := hcs
      intro h; omega
    · simp [Value.cells] at hcs
      obtain ⟨rfl, rfl, rfl⟩ := hcs
      have hz' : zs.length = cap0 := by simpa using hz
      intro hpos
      obtain ⟨b, off, spot⟩ := x
      have hspot : spot = none := by simpa [Addr.add] using World.cell?_spot (hcell 0 (by omega))
      subst hspot
      refine ⟨b, off, rfl, fun j hj => ?_⟩
      have hj' : j < zs.length := by omega
      have hw := hwz _ (List.getElem_mem hj')
      have hb := bounds_u8 hw
      refine ⟨(zs[j]).toNat, by omega, ?_⟩
      have := hcell j hj'
      rw [Addr.add_lit] at this
      rw [this, List.getD_eq_getElem?_getD, List.getElem?_eq_getElem hj']
      simp only [Option.getD_some]
      congr 2
      omega
  clear hA0 hval0
  refine (walk a0 len0 cap0 W raw0).mono fun e W' ⟨he, bel⟩ => ?_
  subst he
  exact ⟨_, rfl, _, _, _, [], _, [], hW', trodAll_mk1 (shut_bool Try.underlying4 _), (trodAll_cons_mk (Below.trod laidOut (by kernel_rfl) (of_decide_eq_true (by kernel_rfl)) h0 bel lt0) trodAll_mk0), rfl, bel.frame _, fun h => by cases h⟩

end Go.Proofs.Ytakcmiijnckaaaa.FnLayouts
namespace Go.Proofs.Ytakcmiijnckaaaa
open Go.ChangeShapes Go.WideShapes Go.ChangeAt Go.RowKit

theorem fnLayouts : Rows.FnLayoutsSaid :=
  OpenClaim.holds_of_wide 3 Try.f3 rfl rfl rfl rfl rfl rfl rfl ⟨rfl, rfl, rfl, rfl, rfl⟩ rfl rfl rfl rfl rfl (by kernel_rfl) Try.func3 (by kernel_rfl)
    (of_decide_eq_true (by kernel_rfl)) (by unfold Func.isWrapper; first | (rw [if_pos (by decide +kernel)]; kernel_rfl) | (rw [if_neg (by decide +kernel)]; exact ⟨rfl, rfl⟩))
    (fun os started H enc _ => FnLayouts.lifted os started H enc)
#print axioms fnLayouts
end Go.Proofs.Ytakcmiijnckaaaa
