/- Proved: at every row of bytes the law FnCondLines answers true, so a drawn right condition's lines, laid out by spec's Layout and run by spec's Run on the drawn call, answer yes just when CondHolds says so, and a drawn right rule's lines (its numbers left out) answer its own result just when RuleHolds says so (the law itself passes more than 1<<20 bytes by); the card ties the library's three tables, which the row lists, to the program's text; no other condition. -/
import Derived.Test.YthflflhcbnianaaDoorCards
import Derived.Test.YthflflhcbnianaaDoorTie
import Derived.Test.YthflflhcbnianaaDoorCrPack26
import Derived.Test.YthflflhcbnianaaDoorCrPack31
import Derived.Test.YthflflhcbnianaaDoorCrPack32
import Derived.Test.YthflflhcbnianaaDoorCrPack18
import Derived.Test.YthflflhcbnianaaDoorCrPack33
import Derived.WalkKit
import Derived.WalkSmall
import Derived.ProofKit
import Derived.OpenShut
import Derived.ShutString
import Derived.ChangeOld
import Derived.Deep.Cut
import Derived.Deep.CutRange
import Derived.Deep.CutBlock
import Derived.Below
import Derived.Deep.DeepHandedRow
import Derived.Lib.LaidTab
import Derived.Sort.Grow
namespace Go.Proofs.YthflflhcbnianaaDoor.CondRun
open Go.ChangeShapes Go.WideShapes Go.ChangeAt Go.RowKit
open Go.ChangeMaps (open_string shut_string)
set_option linter.unusedVariables false

theorem own : ownKnob Tryd.prog.godebug = none := by kernel_rfl
theorem gTab : Tryd.prog.globalNamed "internal/strconv.uint64pow10" = some 0 := by kernel_rfl
theorem gTabType : (Tryd.prog.globals[0]?).map (·.type) = some 146 := by kernel_rfl
theorem cellsP : Tryd.prog.cellsOf 146 = 20 := by kernel_rfl
theorem cellsE : Tryd.prog.cellsOf 140 = 1 := by kernel_rfl
theorem datum : (Rows.laid_internal_strconv_uint64pow10 : DataW Unit) = Lib.tabData .u64 Lib.pow10Tab := by kernel_rfl

/-- The row's list gives the third table's cells. -/
theorem table {W : World} (h : laidMetH Tryd.prog Rows.fnCondLinesRow.laid W) : Lib.TabIs Tryd.prog W "internal/strconv.uint64pow10" .u64 Lib.pow10Tab := by
  have h' : laidMet Tryd.prog [("math/bits.deBruijn32tab", Rows.laid_math_bits_deBruijn32tab), ("math/bits.deBruijn64tab", Rows.laid_math_bits_deBruijn64tab), ("internal/strconv.uint64pow10", Rows.laid_internal_strconv_uint64pow10)] W := h
  obtain ⟨ps, ⟨g1, t1, cs1, f1, p1, q1, _, _, _, _, ⟨g2, t2, cs2, f2, p2, q2, _, _, _, _, ⟨g3, t3, cs3, f3, p3, q3, hg, ht, hv, hd, _, _⟩, _⟩, _⟩, _⟩ := h'
  obtain rfl := Option.some.inj (gTab.symm.trans hg)
  obtain rfl := Option.some.inj (gTabType.symm.trans ht)
  rw [datum] at hd
  unfold Lib.TabIs
  rw [hv, ← Lib.cells_of_tab Tryd.underlying146 Tryd.underlying140 cellsE cellsP hd]

theorem laidOut : laidOutB Tryd.prog = true := by kernel_rfl

theorem call_agg {arch num : Int} {ws : List (Int × Int)} {ca : Option Addr} {cc : Nat} {w1 W : World} (h3 : ws.length = 3) (hw : Wides w1 ca ws) (hE : Ext w1 W) : RepCall arch num ws (.agg #[.int .i64 arch, .int .i64 num, .slice ca 3 cc]) W := ⟨ca, cc, by rw [h3], hw.below hE (Nat.le_refl _)⟩

theorem cond_flags {r : Int} {b : Bool} (h : r = if b = true then 1 else 2) : (b = true ∧ r = 1) ∨ (b = false ∧ r = 2) := by
  cases b
  · exact .inr ⟨rfl, h⟩
  · exact .inl ⟨rfl, h⟩

set_option maxRecDepth 100000 in
set_option maxHeartbeats 8000000 in
theorem walk (a : Option Addr) (len cap : Nat) (w : World) (raw : Raw w a len) (hP : Pow12 w) : Calls Tryd.prog 3 #[.slice a len cap] w fun e w' => e = .returned (.bool true) ∧ Below w.heap.size w w' := by
  by_cases hbig : 1048576 < len
  · go_enter Tryd.func3, Tryd.ntmps3
    go_wp2_with (go_at_call 6; refine (big_yes _ _ _ _ hbig).mono ?_; rintro e w' ⟨rfl, rfl⟩)
    go_ret
    exact ⟨rfl, Below.refl _ _⟩
  have HC : Hid (Came w a len) := ⟨by omega, raw⟩
  have hl : len ≤ 1048576 := by omega
  have HP : Hid (∀ W, Ext w W → Pow12 W) := fun W hE => hP.ext hE
  clear raw hbig hP
  go_enter Tryd.func3, Tryd.ntmps3
  go_wp2_with fail
  refine (big_no a len cap _ hl).mono ?_
  rintro e w' ⟨rfl, rfl⟩
  go_wp2_with fail
  refine (drawCond_any a len cap _ HC.out).mono ?_
  rintro e w1 ⟨ag, mh, ml, cm, vh, vl, arch, num, ca, m1, cc, rfl, hcb, ⟨ws, hkb, hm, hw⟩, e1⟩
  have h3 : ws.length = 3 := callB_three hkb
  obtain rfl : m1 = 3 := by omega
  obtain ⟨P, ⟨hP4, hLay⟩, res, mm, hRR, hres⟩ := cond_end hcb hkb
  obtain ⟨LC, hLC⟩ : ∃ L, L = condL ⟨ag, mh, ml, cm, vh, vl⟩ ⟨#[120]⟩ ⟨#[121, 101, 115]⟩ ⟨#[110, 111]⟩ := ⟨_, rfl⟩
  obtain ⟨bc, hbc⟩ : ∃ b, b = condH ⟨ag, mh, ml, cm, vh, vl⟩ arch num ws := ⟨_, rfl⟩
  have hF : condF ⟨ag, mh, ml, cm, vh, vl⟩ = LC ++ endsL := by rw [hLC]; rfl
  rw [hF] at hLay
  rw [← hbc] at hres
  have HRES : Hid ((bc = true ∧ res = 1) ∨ (bc = false ∧ res = 2)) := cond_flags hres
  have HLN : Hid (LC.length ≤ 9) := by rw [hLC]; exact condL_len _ _ _ _
  obtain ⟨n4, hn4⟩ : ∃ n, n = (LC ++ endsL).length := ⟨_, rfl⟩
  have HN4 : Hid (n4 = (LC ++ endsL).length) := hn4
  rw [← hn4] at hLay
  obtain ⟨np, hnp⟩ : ∃ n, n = P.length := ⟨_, rfl⟩
  have HNP : Hid (np = P.length) := hnp
  have HIC : Hid (∀ W, Calls Tryd.prog 8 #[.agg #[.int .i64 ag, .int .i64 mh, .int .i64 ml, .int .i64 cm, .int .i64 vh, .int .i64 vl], .string ⟨#[120]⟩, .string ⟨#[121, 101, 115]⟩, .string ⟨#[110, 111]⟩] W fun e w' => ∃ v, e = .returned v ∧ OwnL w' W.heap.size v LC ∧ Ext W w') := fun W => by
    rw [hLC]; exact iCondLines_any ag mh ml cm vh vl _ _ _ W (by decide) (by decide) (by decide)
  have HLY : Hid (∀ (a : Option Addr) (cap : Nat) (W : World), Lns W a (LC ++ endsL) → Calls Tryd.prog 9 #[.slice a n4 cap] W fun e w' => ∃ v, e = .returned (.tuple #[v, .bool true]) ∧ Own4 w' W.heap.size v P ∧ Ext W w') := hLay
  have HSR : Hid (∀ a4 cap4 W, Ext w1 W → Words W a4 P → Calls Tryd.prog 10 #[.slice a4 np cap4, .agg #[.int .i64 arch, .int .i64 num, .slice ca 3 cc]] W fun e w' => e = .returned (.tuple #[.int .i64 res, .int .i64 (mm : Int)]) ∧ Ext W w') := fun a4 cap4 W hE hW => by
    rw [hnp]
    exact sRun_any a4 cap4 _ arch num ws _ res mm W (by omega) hW (by omega) (call_agg h3 hw hE) hRR
  have HCH : Hid (∀ W, Ext w1 W → Calls Tryd.prog 15 #[.agg #[.int .i64 ag, .int .i64 mh, .int .i64 ml, .int .i64 cm, .int .i64 vh, .int .i64 vl], .agg #[.int .i64 arch, .int .i64 num, .slice ca 3 cc]] W fun e w' => e = .returned (.bool bc) ∧ Ext W w') := fun W hE => by
    rw [hbc, ← h3]
    exact sCondHolds_any ag mh ml cm vh vl arch num ca cc ws W (by omega) (hw.below hE (Nat.le_refl _))
  have E1 : Hid (Ext w w1) := e1
  have X2 : Hid (CellsAt ((w1.alloc (.cells #[.int .i64 ag, .int .i64 mh, .int .i64 ml, .int .i64 cm, .int .i64 vh, .int .i64 vl] 27)).alloc (.cells #[.int .i64 arch, .int .i64 num, .slice ca 3 cc] 30)) w1.heap.size [.int .i64 ag, .int .i64 mh, .int .i64 ml, .int .i64 cm, .int .i64 vh, .int .i64 vl] ∧ CellsAt ((w1.alloc (.cells #[.int .i64 ag, .int .i64 mh, .int .i64 ml, .int .i64 cm, .int .i64 vh, .int .i64 vl] 27)).alloc (.cells #[.int .i64 arch, .int .i64 num, .slice ca 3 cc] 30)) (w1.heap.size + 1) [.int .i64 arch, .int .i64 num, .slice ca 3 cc] ∧ Ext w1 ((w1.alloc (.cells #[.int .i64 ag, .int .i64 mh, .int .i64 ml, .int .i64 cm, .int .i64 vh, .int .i64 vl] 27)).alloc (.cells #[.int .i64 arch, .int .i64 num, .slice ca 3 cc] 30))) :=
    ⟨(CellsAt.new w1 [.int .i64 ag, .int .i64 mh, .int .i64 ml, .int .i64 cm, .int .i64 vh, .int .i64 vl] 27).step (Ext.one _ _), CellsAt.new' _ [.int .i64 arch, .int .i64 num, .slice ca 3 cc] 30 _ (by simp), (Ext.one w1 _).alloc _⟩
  clear hcb hkb hm hw h3 hP4 hLay hRR hres hLC hbc hF hn4 hnp e1
  go_upto_region 4 with fail
  generalize (w1.alloc (.cells #[.int .i64 ag, .int .i64 mh, .int .i64 ml, .int .i64 cm, .int .i64 vh, .int .i64 vl] 27)).alloc (.cells #[.int .i64 arch, .int .i64 num, .slice ca 3 cc] 30) = W2 at *
  obtain ⟨q0, q1, q2, q3, q4, q5⟩ := (⟨X2.out.1.2 0 _ rfl, X2.out.1.2 1 _ rfl, X2.out.1.2 2 _ rfl, X2.out.1.2 3 _ rfl, X2.out.1.2 4 _ rfl, X2.out.1.2 5 _ rfl⟩ : _ ∧ _ ∧ _ ∧ _ ∧ _ ∧ _)
  go_wp2_with fail
  refine (HIC.out _).mono ?_
  rintro e w3 ⟨v, rfl, o3, e3⟩
  have G3 : Hid (OwnL w3 W2.heap.size v LC ∧ Ext W2 w3) := ⟨o3, e3⟩
  clear o3 e3 q0 q1 q2 q3 q4 q5 HIC
  go_wp2_with (at_builtin; refine append_lines _ rfl _ _ rfl (w0 := W2) _ _ endsL rfl (G3.out.1.ext (Ext.one _ _)) (G3.out.2.alloc _) w3.heap.size 4 4 rfl rfl (CellsAt.new w3 (flatL endsL) 38).2 (by have := HLN.out; simp only [endsL, List.length_cons, List.length_nil]; omega) ?_)
  intro v4 w4 o4 x4
  obtain ⟨a4, c4, rfl, _, hln, _⟩ := o4.lns
  rw [← HN4.out]
  have G4 : Hid (Ext W2 w4 ∧ Lns w4 a4 (LC ++ endsL)) := ⟨x4, hln⟩
  clear o4 x4 hln G3 HLN
  go_wp2_with fail
  refine (HLY.out _ _ _ G4.out.2).mono ?_
  rintro e w5 ⟨v5, rfl, o5, e5⟩
  obtain ⟨a5, c5, rfl, _, hwd, _⟩ := o5.words
  rw [← HNP.out]
  have G5 : Hid (Ext w1 w5 ∧ Words w5 a5 P ∧ CellsAt w5 w1.heap.size [.int .i64 ag, .int .i64 mh, .int .i64 ml, .int .i64 cm, .int .i64 vh, .int .i64 vl] ∧ CellsAt w5 (w1.heap.size + 1) [.int .i64 arch, .int .i64 num, .slice ca 3 cc]) := ⟨X2.out.2.2.trans (G4.out.1.trans e5), hwd, X2.out.1.step (G4.out.1.trans e5), X2.out.2.1.step (G4.out.1.trans e5)⟩
  clear o5 e5 hwd G4 X2 HLY HN4
  obtain ⟨q0, q1, q2⟩ := (⟨G5.out.2.2.2.2 0 _ rfl, G5.out.2.2.2.2 1 _ rfl, G5.out.2.2.2.2 2 _ rfl⟩ : _ ∧ _ ∧ _)
  go_wp2_with fail
  refine (HSR.out _ _ _ G5.out.1 G5.out.2.1).mono ?_
  rintro e w6 ⟨rfl, e6⟩
  have G6 : Hid (Ext w w6 ∧ Ext w1 w6 ∧ CellsAt w6 w1.heap.size [.int .i64 ag, .int .i64 mh, .int .i64 ml, .int .i64 cm, .int .i64 vh, .int .i64 vl] ∧ CellsAt w6 (w1.heap.size + 1) [.int .i64 arch, .int .i64 num, .slice ca 3 cc]) := ⟨E1.out.trans (G5.out.1.trans e6), G5.out.1.trans e6, G5.out.2.2.1.step e6, G5.out.2.2.2.step e6⟩
  clear e6 q0 q1 q2 G5 HSR HNP
  go_wp2_with fail
  refine (drawRule_any a len cap _ (HC.out.below G6.out.1)).mono ?_
  rintro e w7 ⟨a1, n1, c1, a2, n2, c2, ac, da, ar2, nu2, ca2, m2, cc2, rfl, ⟨⟨zs, cs, ac', da'⟩, hrb, hsm, hac, hda, hn1, hn2, hnz, hcs⟩, ⟨ws2, hkb, hm, hw⟩, e7⟩
  simp only at hac hda hn1 hn2 hnz hcs
  subst hac hda
  have h3 : ws2.length = 3 := callB_three hkb
  obtain rfl : m2 = 3 := by omega
  obtain ⟨hc3, hall⟩ := ruleB_conds3 hrb
  simp only at hc3 hall
  obtain ⟨P2, ⟨hP4, hLay⟩, res2, mm2, hRR, hres⟩ := rule_end (r := ⟨[], cs, ac', da'⟩) hc3 hall rfl hkb
  simp only at hres
  obtain ⟨bb, hbb⟩ : ∃ b, b = ruleH ⟨[], cs, ac', da'⟩ ar2 nu2 ws2 := ⟨_, rfl⟩
  obtain ⟨R, hR⟩ : ∃ r, r = resV ac' da' := ⟨_, rfl⟩
  have HRV : Hid (∀ W, Calls Tryd.prog 14 #[.int .i64 ac', .int .i64 da'] W fun e w' => e = .returned (.int .i64 R) ∧ W = w') := fun W => by rw [hR]; exact sResultOf_any ac' da' W
  have hbr : (res2 == R) = bb := by rw [hbb, hres, hR]
  obtain ⟨LR, hLR⟩ : ∃ L, L = ruleL ⟨[], cs, ac', da'⟩ ⟨#[114]⟩ ⟨#[110, 111]⟩ := ⟨_, rfl⟩
  have hF : ruleF ⟨[], cs, ac', da'⟩ = LR ++ restL := by rw [hLR]; rfl
  rw [hF] at hLay
  have HLN : Hid (LR.length ≤ 31) := by rw [hLR]; have := ruleL_len ⟨[], cs, ac', da'⟩ ⟨#[114]⟩ ⟨#[110, 111]⟩; simp only at this; unfold Hid; omega
  obtain ⟨n5, hn5⟩ : ∃ n, n = (LR ++ restL).length := ⟨_, rfl⟩
  have HN5 : Hid (n5 = (LR ++ restL).length) := hn5
  rw [← hn5] at hLay
  obtain ⟨nq, hnq⟩ : ∃ n, n = P2.length := ⟨_, rfl⟩
  have HNQ : Hid (nq = P2.length) := hnq
  have HIR : Hid (∀ (a0 : Option Addr) W, Ext w7 W → Pow12 W → Calls Tryd.prog 12 #[.agg #[.slice a0 0 0, .slice a2 n2 c2, .int .i64 ac', .int .i64 da'], .string ⟨#[114]⟩, .string ⟨#[110, 111]⟩] W fun e w' => ∃ v, e = .returned v ∧ OwnL w' W.heap.size v LR ∧ Ext W w') := fun a0 W h1 h2 => by
    rw [hLR]; exact iRuleLines_any [] cs ac' da' a0 a2 0 n2 0 c2 _ _ W hn2 (by omega) (hcs.step h1) (by decide) (by decide) h2
  have HLY : Hid (∀ (a : Option Addr) (cap : Nat) (W : World), Lns W a (LR ++ restL) → Calls Tryd.prog 9 #[.slice a n5 cap] W fun e w' => ∃ v, e = .returned (.tuple #[v, .bool true]) ∧ Own4 w' W.heap.size v P2 ∧ Ext W w') := hLay
  have HSR : Hid (∀ a4 cap4 W, Ext w7 W → Words W a4 P2 → Calls Tryd.prog 10 #[.slice a4 nq cap4, .agg #[.int .i64 ar2, .int .i64 nu2, .slice ca2 3 cc2]] W fun e w' => e = .returned (.tuple #[.int .i64 res2, .int .i64 (mm2 : Int)]) ∧ Ext W w') := fun a4 cap4 W hE hW => by
    rw [hnq]
    exact sRun_any a4 cap4 _ ar2 nu2 ws2 _ res2 mm2 W (by omega) hW (by omega) (call_agg h3 hw hE) hRR
  have HRH : Hid (∀ (a0 : Option Addr) W, Ext w7 W → Calls Tryd.prog 13 #[.agg #[.slice a0 0 0, .slice a2 n2 c2, .int .i64 ac', .int .i64 da'], .agg #[.int .i64 ar2, .int .i64 nu2, .slice ca2 3 cc2]] W fun e w' => e = .returned (.bool bb) ∧ Ext W w') := fun a0 W hE => by
    rw [hbb, hn2, ← h3]
    exact sRuleHolds_any [] cs ac' da' a0 a2 0 c2 ar2 nu2 ca2 cc2 ws2 W (by simp) (by omega) (by omega) (fun h => absurd h (by simp)) (hcs.step hE) (hw.below hE (Nat.le_refl _))
  have B8 : Hid (Blk ((w7.alloc (.cells #[.slice a1 n1 c1, .slice a2 n2 c2, .int .i64 ac', .int .i64 da'] 47)).alloc (.cells #[.int .i64 ar2, .int .i64 nu2, .slice ca2 3 cc2] 30)) w7.heap.size [.slice a1 n1 c1, .slice a2 n2 c2, .int .i64 ac', .int .i64 da'] 47 ∧ CellsAt ((w7.alloc (.cells #[.slice a1 n1 c1, .slice a2 n2 c2, .int .i64 ac', .int .i64 da'] 47)).alloc (.cells #[.int .i64 ar2, .int .i64 nu2, .slice ca2 3 cc2] 30)) (w7.heap.size + 1) [.int .i64 ar2, .int .i64 nu2, .slice ca2 3 cc2] ∧ Ext w7 ((w7.alloc (.cells #[.slice a1 n1 c1, .slice a2 n2 c2, .int .i64 ac', .int .i64 da'] 47)).alloc (.cells #[.int .i64 ar2, .int .i64 nu2, .slice ca2 3 cc2] 30))) :=
    ⟨(Blk.new w7 [.slice a1 n1 c1, .slice a2 n2 c2, .int .i64 ac', .int .i64 da'] 47).alloc _, CellsAt.new' _ [.int .i64 ar2, .int .i64 nu2, .slice ca2 3 cc2] 30 _ (by simp), (Ext.one w7 _).alloc _⟩
  have G7 : Hid (Ext w w7 ∧ Ext w1 w7 ∧ CellsAt w7 w1.heap.size [.int .i64 ag, .int .i64 mh, .int .i64 ml, .int .i64 cm, .int .i64 vh, .int .i64 vl] ∧ CellsAt w7 (w1.heap.size + 1) [.int .i64 arch, .int .i64 num, .slice ca 3 cc]) := ⟨G6.out.1.trans e7, G6.out.2.1.trans e7, G6.out.2.2.1.step e7, G6.out.2.2.2.step e7⟩
  clear hrb hsm hn1 hn2 hnz hcs hkb hm hw h3 hc3 hall hP4 hLay hRR hres hbb hR hLR hF hn5 hnq e7 G6 E1 HC
  go_upto_region 9 with fail
  generalize (w7.alloc (.cells #[.slice a1 n1 c1, .slice a2 n2 c2, .int .i64 ac', .int .i64 da'] 47)).alloc (.cells #[.int .i64 ar2, .int .i64 nu2, .slice ca2 3 cc2] 30) = W8 at *
  have hB9 := (B8.out.1.set 0 (.slice (some ⟨W8.heap.size, 0, none⟩) 0 0)).alloc (.cells #[] 3)
  obtain ⟨q0, f0, hlt⟩ := (⟨B8.out.1.cell 0 _ rfl, B8.out.1.free, B8.out.1.lt⟩ : _ ∧ _ ∧ _)
  have B9 : Hid (CellsAt ((W8.setCell ⟨w7.heap.size, 0, none⟩ (.slice (some ⟨W8.heap.size, 0, none⟩) 0 0)).alloc (.cells #[] 3)) w7.heap.size [.slice (some ⟨W8.heap.size, 0, none⟩) 0 0, .slice a2 n2 c2, .int .i64 ac', .int .i64 da'] ∧ CellsAt ((W8.setCell ⟨w7.heap.size, 0, none⟩ (.slice (some ⟨W8.heap.size, 0, none⟩) 0 0)).alloc (.cells #[] 3)) (w7.heap.size + 1) [.int .i64 ar2, .int .i64 nu2, .slice ca2 3 cc2] ∧ Ext w7 ((W8.setCell ⟨w7.heap.size, 0, none⟩ (.slice (some ⟨W8.heap.size, 0, none⟩) 0 0)).alloc (.cells #[] 3))) :=
    ⟨⟨hB9.lt, fun i v hv => hB9.cell i v hv⟩, (B8.out.2.1.set (by omega) _ _).step (Ext.one _ _), Ext.alloc (Below.setCell B8.out.2.2 (by show w7.heap.size ≤ w7.heap.size; omega) _) _⟩
  clear hB9 B8
  go_upto_region 10 with fail
  generalize (W8.setCell ⟨w7.heap.size, 0, none⟩ (.slice (some ⟨W8.heap.size, 0, none⟩) 0 0)).alloc (.cells #[] 3) = W9 at *
  clear q0 f0 hlt
  obtain ⟨q0, q1, q2, q3⟩ := (⟨B9.out.1.2 0 _ rfl, B9.out.1.2 1 _ rfl, B9.out.1.2 2 _ rfl, B9.out.1.2 3 _ rfl⟩ : _ ∧ _ ∧ _ ∧ _)
  go_wp2_with fail
  refine (HIR.out _ _ B9.out.2.2 (HP.out _ (G7.out.1.trans B9.out.2.2))).mono ?_
  rintro e wa ⟨v, rfl, o3, e3⟩
  have G3 : Hid (OwnL wa W9.heap.size v LR ∧ Ext W9 wa) := ⟨o3, e3⟩
  clear o3 e3 q0 q1 q2 q3 HIR HP
  go_wp2_with (at_builtin; refine append_lines _ rfl _ _ rfl (w0 := W9) _ _ restL rfl (G3.out.1.ext (Ext.one _ _)) (G3.out.2.alloc _) wa.heap.size 2 2 rfl rfl (CellsAt.new wa (flatL restL) 38).2 (by have := HLN.out; simp only [restL, List.length_cons, List.length_nil]; omega) ?_)
  intro vb wb o4 x4
  obtain ⟨ab, cb, rfl, _, hln, _⟩ := o4.lns
  rw [← HN5.out]
  have G4 : Hid (Ext W9 wb ∧ Lns wb ab (LR ++ restL)) := ⟨x4, hln⟩
  clear o4 x4 hln G3 HLN
  go_wp2_with fail
  refine (HLY.out _ _ _ G4.out.2).mono ?_
  rintro e wc ⟨v5, rfl, o5, e5⟩
  obtain ⟨ac5, c5, rfl, _, hwd, _⟩ := o5.words
  rw [← HNQ.out]
  have G5 : Hid (Ext w7 wc ∧ Words wc ac5 P2 ∧ CellsAt wc w7.heap.size [.slice (some ⟨W8.heap.size, 0, none⟩) 0 0, .slice a2 n2 c2, .int .i64 ac', .int .i64 da'] ∧ CellsAt wc (w7.heap.size + 1) [.int .i64 ar2, .int .i64 nu2, .slice ca2 3 cc2]) := ⟨B9.out.2.2.trans (G4.out.1.trans e5), hwd, B9.out.1.step (G4.out.1.trans e5), B9.out.2.1.step (G4.out.1.trans e5)⟩
  clear o5 e5 hwd G4 B9 HLY HN5
  obtain ⟨q0, q1, q2⟩ := (⟨G5.out.2.2.2.2 0 _ rfl, G5.out.2.2.2.2 1 _ rfl, G5.out.2.2.2.2 2 _ rfl⟩ : _ ∧ _ ∧ _)
  go_wp2_with fail
  refine (HSR.out _ _ _ G5.out.1 G5.out.2.1).mono ?_
  rintro e wd ⟨rfl, e6⟩
  have G8 : Hid (CellsAt wd w7.heap.size [.slice (some ⟨W8.heap.size, 0, none⟩) 0 0, .slice a2 n2 c2, .int .i64 ac', .int .i64 da'] ∧ CellsAt wd (w7.heap.size + 1) [.int .i64 ar2, .int .i64 nu2, .slice ca2 3 cc2] ∧ Ext w7 wd) := ⟨G5.out.2.2.1.step e6, G5.out.2.2.2.step e6, G5.out.1.trans e6⟩
  clear e6 q0 q1 q2 G5 HSR HNQ
  go_wp2_with fail
  refine' wp_region_loose (.inl _ :: .inl _ :: .inl _ :: .inl _ :: .inl _ :: .inl _ :: .inl _ :: .inl _ :: .inl _ :: .inl _ :: .inl _ :: []) (fun w' => CellsAt w' w7.heap.size [.slice (some ⟨W8.heap.size, 0, none⟩) 0 0, .slice a2 n2 c2, .int .i64 ac', .int .i64 da'] ∧ CellsAt w' (w7.heap.size + 1) [.int .i64 ar2, .int .i64 nu2, .slice ca2 3 cc2] ∧ Ext w7 w') (by kernel_rfl) (by kernel_rfl) (⟨G8.out.1.drew, G8.out.2.1.drew, G8.out.2.2.drew⟩) (fun _ _ h hE => ⟨h.1.step hE, h.2.1.step hE, h.2.2.trans hE⟩) ?hAx ?hlx ?hMx
  case' hMx => skip
  apply wpLoose_val rfl rfl
  case hs =>
    intro w1 hC hd Q1 hQ1
    obtain ⟨hE, hS⟩ := hC
    dsimp only [bare]
    obtain ⟨t0, t1, t2, t3, q0, q1, q2⟩ := (⟨hS.1.2 0 _ rfl, hS.1.2 1 _ rfl, hS.1.2 2 _ rfl, hS.1.2 3 _ rfl, hS.2.1.2 0 _ rfl, hS.2.1.2 1 _ rfl, hS.2.1.2 2 _ rfl⟩ : _ ∧ _ ∧ _ ∧ _ ∧ _ ∧ _ ∧ _)
    clear hd hE
    try clear hS
    go_wp2
    exact Ext.refl _
  case ha => rfl
  apply wpLoose_val rfl rfl
  case hs =>
    intro w1 hC hd Q1 hQ1
    obtain ⟨hE, hS⟩ := hC
    dsimp only [bare]
    obtain ⟨t0, t1, t2, t3, q0, q1, q2⟩ := (⟨hS.1.2 0 _ rfl, hS.1.2 1 _ rfl, hS.1.2 2 _ rfl, hS.1.2 3 _ rfl, hS.2.1.2 0 _ rfl, hS.2.1.2 1 _ rfl, hS.2.1.2 2 _ rfl⟩ : _ ∧ _ ∧ _ ∧ _ ∧ _ ∧ _ ∧ _)
    clear hd hE
    try clear hS
    go_wp2
    exact Ext.refl _
  case ha => rfl
  apply wpLoose_val rfl rfl
  case hs =>
    intro w1 hC hd Q1 hQ1
    obtain ⟨hE, hS⟩ := hC
    dsimp only [bare]
    clear hd
    go_wp2_with fail
    refine (HRH.out _ _ hS.2.2).mono ?_
    rintro e w2 ⟨rfl, hb⟩
    go_wp2_with fail
    exact hb
  case ha => rfl
  apply wpLoose_val rfl rfl
  case hs =>
    intro w1 hC hd Q1 hQ1
    obtain ⟨hE, hS⟩ := hC
    dsimp only [bare]
    obtain ⟨t0, t1, t2, t3, q0, q1, q2⟩ := (⟨hS.1.2 0 _ rfl, hS.1.2 1 _ rfl, hS.1.2 2 _ rfl, hS.1.2 3 _ rfl, hS.2.1.2 0 _ rfl, hS.2.1.2 1 _ rfl, hS.2.1.2 2 _ rfl⟩ : _ ∧ _ ∧ _ ∧ _ ∧ _ ∧ _ ∧ _)
    clear hd hE
    try clear hS
    go_wp2
    exact Ext.refl _
  case ha => rfl
  apply wpLoose_val rfl rfl
  case hs =>
    intro w1 hC hd Q1 hQ1
    obtain ⟨hE, hS⟩ := hC
    dsimp only [bare]
    obtain ⟨t0, t1, t2, t3, q0, q1, q2⟩ := (⟨hS.1.2 0 _ rfl, hS.1.2 1 _ rfl, hS.1.2 2 _ rfl, hS.1.2 3 _ rfl, hS.2.1.2 0 _ rfl, hS.2.1.2 1 _ rfl, hS.2.1.2 2 _ rfl⟩ : _ ∧ _ ∧ _ ∧ _ ∧ _ ∧ _ ∧ _)
    clear hd hE
    try clear hS
    go_wp2
    exact Ext.refl _
  case ha => rfl
  apply wpLoose_val rfl rfl
  case hs =>
    intro w1 hC hd Q1 hQ1
    obtain ⟨hE, hS⟩ := hC
    dsimp only [bare]
    obtain ⟨t0, t1, t2, t3, q0, q1, q2⟩ := (⟨hS.1.2 0 _ rfl, hS.1.2 1 _ rfl, hS.1.2 2 _ rfl, hS.1.2 3 _ rfl, hS.2.1.2 0 _ rfl, hS.2.1.2 1 _ rfl, hS.2.1.2 2 _ rfl⟩ : _ ∧ _ ∧ _ ∧ _ ∧ _ ∧ _ ∧ _)
    clear hd hE
    try clear hS
    go_wp2
    exact Ext.refl _
  case ha => rfl
  apply wpLoose_val rfl rfl
  case hs =>
    intro w1 hC hd Q1 hQ1
    obtain ⟨hE, hS⟩ := hC
    dsimp only [bare]
    obtain ⟨t0, t1, t2, t3, q0, q1, q2⟩ := (⟨hS.1.2 0 _ rfl, hS.1.2 1 _ rfl, hS.1.2 2 _ rfl, hS.1.2 3 _ rfl, hS.2.1.2 0 _ rfl, hS.2.1.2 1 _ rfl, hS.2.1.2 2 _ rfl⟩ : _ ∧ _ ∧ _ ∧ _ ∧ _ ∧ _ ∧ _)
    clear hd hE
    try clear hS
    go_wp2
    exact Ext.refl _
  case ha => rfl
  apply wpLoose_val rfl rfl
  case hs =>
    intro w1 hC hd Q1 hQ1
    obtain ⟨hE, hS⟩ := hC
    dsimp only [bare]
    obtain ⟨t0, t1, t2, t3, q0, q1, q2⟩ := (⟨hS.1.2 0 _ rfl, hS.1.2 1 _ rfl, hS.1.2 2 _ rfl, hS.1.2 3 _ rfl, hS.2.1.2 0 _ rfl, hS.2.1.2 1 _ rfl, hS.2.1.2 2 _ rfl⟩ : _ ∧ _ ∧ _ ∧ _ ∧ _ ∧ _ ∧ _)
    clear hd hE
    try clear hS
    go_wp2
    exact Ext.refl _
  case ha => rfl
  apply wpLoose_val rfl rfl
  case hs =>
    intro w1 hC hd Q1 hQ1
    obtain ⟨hE, hS⟩ := hC
    dsimp only [bare]
    clear hd
    go_wp2_with fail
    refine (HRV.out _).mono ?_
    rintro e w2 ⟨rfl, rfl⟩
    go_wp2_with fail
    exact Ext.refl _
  case ha => rfl
  apply wpLoose_val rfl rfl
  case hs =>
    intro w1 hC hd Q1 hQ1
    obtain ⟨hE, hS⟩ := hC
    dsimp only [bare]
    obtain ⟨t0, t1, t2, t3, q0, q1, q2⟩ := (⟨hS.1.2 0 _ rfl, hS.1.2 1 _ rfl, hS.1.2 2 _ rfl, hS.1.2 3 _ rfl, hS.2.1.2 0 _ rfl, hS.2.1.2 1 _ rfl, hS.2.1.2 2 _ rfl⟩ : _ ∧ _ ∧ _ ∧ _ ∧ _ ∧ _ ∧ _)
    clear hd hE
    try clear hS
    go_wp2
    exact Ext.refl _
  case ha => rfl
  apply wpLoose_val rfl rfl
  case hs =>
    intro w1 hC hd Q1 hQ1
    obtain ⟨hE, hS⟩ := hC
    dsimp only [bare]
    obtain ⟨t0, t1, t2, t3, q0, q1, q2⟩ := (⟨hS.1.2 0 _ rfl, hS.1.2 1 _ rfl, hS.1.2 2 _ rfl, hS.1.2 3 _ rfl, hS.2.1.2 0 _ rfl, hS.2.1.2 1 _ rfl, hS.2.1.2 2 _ rfl⟩ : _ ∧ _ ∧ _ ∧ _ ∧ _ ∧ _ ∧ _)
    clear hd hE
    try clear hS
    go_wp2
    exact Ext.refl _
  case ha => rfl
  refine wpLoose_nil ?_
  intro wx hEx hSx hFx
  · have G9 : Hid (Ext w7 wx) := hSx.2.2
    clear hFx hEx hSx G8 HRH HRV
    have hne : (bb != bb) = false := by simp
    have GA : Hid (CellsAt wx w1.heap.size [.int .i64 ag, .int .i64 mh, .int .i64 ml, .int .i64 cm, .int .i64 vh, .int .i64 vl] ∧ CellsAt wx (w1.heap.size + 1) [.int .i64 arch, .int .i64 num, .slice ca 3 cc] ∧ Ext w1 wx ∧ Ext w wx) := ⟨G7.out.2.2.1.step G9.out, G7.out.2.2.2.step G9.out, G7.out.2.1.trans G9.out, G7.out.1.trans G9.out⟩
    clear G7 G9
    obtain ⟨q0, q1, q2, q3, q4, q5, t0, t1, t2⟩ := (⟨GA.out.1.2 0 _ rfl, GA.out.1.2 1 _ rfl, GA.out.1.2 2 _ rfl, GA.out.1.2 3 _ rfl, GA.out.1.2 4 _ rfl, GA.out.1.2 5 _ rfl, GA.out.2.1.2 0 _ rfl, GA.out.2.1.2 1 _ rfl, GA.out.2.1.2 2 _ rfl⟩ : _ ∧ _ ∧ _ ∧ _ ∧ _ ∧ _ ∧ _ ∧ _ ∧ _)
    have HR2 := HRES.out
    clear HRES
    rcases HR2 with ⟨rfl, rfl⟩ | ⟨rfl, rfl⟩
    all_goals
      go_wp2_with fail
      refine (HCH.out _ GA.out.2.2.1).mono ?_
      rintro e wy ⟨rfl, ey⟩
      have GZ : Hid (Ext w wy) := GA.out.2.2.2.trans ey
      clear ey q0 q1 q2 q3 q4 q5 t0 t1 t2
      go_wp2
      go_ret
      exact ⟨rfl, GZ.out⟩
  case hAx => kernel_rfl
  case hlx => exact ⟨trivial, trivial, trivial, trivial, trivial, trivial, trivial, trivial, trivial, trivial, trivial, trivial⟩

set_option maxRecDepth 100000 in
theorem contract (H : Type) (enc : TypeId × Value → H) (W : World) (base : Nat) (args : Array Value) (ds gs : List (DataW H)) (before : List MemPlace)
    (hval : ∀ (j : Nat) t v, Tryd.f3.params[j]? = some t → args[j]? = some v → Value.okWide Tryd.prog W .any base t v)
    (hW : DataW.Whole enc Tryd.prog Tryd.f3.params.toList Rows.fnCondLinesSpec.vars false W args.toList ds gs before) (hL : laidMetH Tryd.prog Rows.fnCondLinesRow.laid W) :
    Calls Tryd.prog 3 args W fun e W' => ∃ v, e = .returned v ∧ Rows.fnCondLinesSpec.post enc Tryd.prog Tryd.f3 false true false false W args v W' := by
  have hW' := hW
  obtain ⟨p, q, hA0, hV, rfl, hfz, hnd⟩ := hW
  have hA : DataW.TrodAll enc Tryd.prog W 0 (fun _ => true) true Tryd.f3.params.toList args.toList ds p := hA0
  rw [Tryd.params3] at hA hval
  obtain ⟨v0, vs0, d0, ds0, p0, q0, hargs, rfl, rfl, h0, r0⟩ := trodAll_cons hA
  obtain ⟨rfl, rfl, rfl⟩ := trodAll_nil r0
  obtain rfl : args = #[v0] := by cases args; simp_all
  obtain ⟨rfl, rfl⟩ := trodVars_none hV
  have lt0 : ∀ x ∈ p0, x.block < W.heap.size := by obtain ⟨m, hm⟩ := h0; exact DataW.trod_lt m _ _ _ hm
  have k0 := h0
  obtain ⟨a0, len0, cap0, rfl⟩ := okWide_slice Tryd.underlying22 (hval 0 22 v0 rfl rfl)
  have raw0 : Raw W a0 len0 := by
    obtain ⟨fuel, hf⟩ := h0
    rcases open_ints Tryd.underlying22 Tryd.underlying5 (by kernel_rfl) hf with ⟨hcs, _⟩ | ⟨x, l, c, zs, hcs, _, hl, hm, hz, _, hcell, hwz⟩
    · simp [Value.cells] at hcs
      obtain ⟨rfl, rfl, rfl⟩ := hcs
      intro h; omega
    · simp [Value.cells] at hcs
      obtain ⟨rfl, rfl, rfl⟩ := hcs
      have hz' : zs.length = cap0 := by simpa using hz
      intro hpos
      obtain ⟨b, off, spot⟩ := x
      have hspot : spot = none := by simpa [Addr.add] using World.cell?_spot (hcell 0 (by omega))
      subst hspot
      refine ⟨b, off, rfl, fun j hj => ?_⟩
      have hj' : j < zs.length := by omega
      have hw := hwz _ (List.getElem_mem hj')
      have hb := bounds_u8 hw
      refine ⟨(zs[j]).toNat, by omega, ?_⟩
      have := hcell j hj'
      rw [Addr.add_lit] at this
      rw [this, List.getD_eq_getElem?_getD, List.getElem?_eq_getElem hj']
      simp only [Option.getD_some]
      congr 2
      omega
  clear hA0
  have ht := table hL
  have hz : 0 < W.heap.size := World.block_lt_of_cell? W _ (ht.cell gTab 0 (by decide))
  refine (walk a0 len0 cap0 W raw0 ⟨ht, hz⟩).mono fun e W' ⟨he, bel⟩ => ?_
  subst he
  exact ⟨_, rfl, _, _, _, [], _, [], hW', trodAll_mk1 (shut_bool Tryd.underlying4 _), (trodAll_cons_mk (Below.trod laidOut (by kernel_rfl) (of_decide_eq_true (by kernel_rfl)) k0 bel lt0) trodAll_mk0), rfl, bel.frame _, fun h => by cases h⟩

/-- A listed table's cells. -/
def tabCells : DataW Unit → Array Value
  | .agg l => (l.map fun | .lit (.int k n) => Value.int k n | _ => Value.int .i64 0).toArray
  | _ => #[]
def setCells (cs : Array Value) : Obj → Obj
  | .cells _ t fr => .cells cs t fr
  | o => o
/-- A world in which the three tables hold what their initialisers lay. -/
def withTabs (w : World) : World := { w with heap := ((w.heap.modify 0 (setCells (tabCells Rows.laid_internal_strconv_uint64pow10))).modify 1 (setCells (tabCells Rows.laid_math_bits_deBruijn32tab))).modify 2 (setCells (tabCells Rows.laid_math_bits_deBruijn64tab)) }

theorem laid_met (os : Os) : laidMet Tryd.prog Rows.fnCondLinesRow.laid ((withTabs (World.holding Tryd.prog os ⟨#[], #[], []⟩)).forCall (fun _ _ => 0) ⟨#[], #[.slice none 0 0], []⟩).memory :=
  laidMet_of_run' 8 (by kernel_rfl) (by kernel_rfl)
theorem reads (os : Os) {H : Type} (enc : TypeId × Value → H) : ∃ places, DataW.whole enc Tryd.prog ((withTabs (World.holding Tryd.prog os ⟨#[], #[], []⟩)).forCall (fun _ _ => 0) ⟨#[], #[.slice none 0 0], []⟩).memory Tryd.f3.params.toList Rows.fnCondLinesSpec.vars false #[Value.slice none 0 0].toList 8 = some ([.nil], [], places) :=
  ⟨[], by kernel_rfl⟩

set_option maxRecDepth 100000 in
theorem lifted (os : Os) (started : os.Started) (H : Type) (enc : TypeId × Value → H) (F : Stop.Interp) :
    ReturnsInHanded {} Tryd.checked os 3 .any ((OpenSpec.ofChange Rows.fnCondLinesSpec).preRow enc Tryd.prog Tryd.f3 Rows.fnCondLinesRow.domain false Rows.fnCondLinesRow.laid) (((OpenSpec.ofChange Rows.fnCondLinesSpec).at F).post enc Tryd.prog Tryd.f3 false true false false) := by
  obtain ⟨places, hx⟩ := reads os enc
  refine returnsInHanded_of_row (C := Tryd.checked) (s := OpenSpec.ofChange Rows.fnCondLinesSpec) own started (by kernel_rfl) Tryd.func3
    (witness_row_at (enc := enc) (C := Tryd.checked) false (withTabs (World.holding Tryd.prog os ⟨#[], #[], []⟩)) #[.slice none 0 0] rfl (by kernel_rfl) (by kernel_rfl) (by kernel_rfl)
      (OpenSpec.preRow_of_cond 8 hx (by kernel_rfl) (fun k hk => by cases hk) (by kernel_rfl) (laid_met os))) ?_
  intro W base args ds gs before hval hW _ _ _ hL _ _
  exact contract H enc W base args ds gs before hval hW hL

theorem said : Rows.FnCondLinesSaid :=
  OpenClaim.holds_of_cond 3 Tryd.f3 rfl rfl rfl rfl rfl rfl rfl ⟨rfl, rfl, rfl, rfl, rfl⟩ rfl rfl rfl rfl rfl (by kernel_rfl) Tryd.func3 (by kernel_rfl)
    (of_decide_eq_true (by kernel_rfl)) (by unfold Func.isWrapper; first | (rw [if_pos (by decide +kernel)]; kernel_rfl) | (rw [if_neg (by decide +kernel)]; exact ⟨rfl, rfl⟩))
    (fun os started H enc _ F => by rw [OpenClaim.pre_eq_preRow]; exact lifted os started H enc F)

theorem plain (f : FuncId) (fn : Func) (hf : Tryd.pinned.checked.prog.funcNamed "loop.example/g00397/laws.FnCondLines" = some f) (hfn : Tryd.pinned.checked.prog.funcs[f]? = some fn) :
    false = Tryd.pinned.checked.prog.looks [] ∧ ∀ (j : Nat) t, fn.params[j]? = some t → Tryd.pinned.checked.prog.wantsStandIn t = false := by
  obtain rfl : f = 3 := Option.some.inj ((show Tryd.prog.funcNamed "loop.example/g00397/laws.FnCondLines" = some 3 by kernel_rfl).symm.trans hf) |>.symm
  obtain rfl : fn = Tryd.f3 := (Option.some.inj (Tryd.func3.symm.trans hfn)).symm
  refine ⟨by kernel_rfl, fun j t ht => ?_⟩
  rw [Tryd.params3] at ht
  obtain rfl : t = 22 := by simpa using Array.mem_of_getElem? ht
  exact (show Tryd.prog.wantsStandIn 22 = false by kernel_rfl)

end Go.Proofs.YthflflhcbnianaaDoor.CondRun
namespace Go.Proofs.YthflflhcbnianaaDoor
open Go.ChangeShapes Go.WideShapes Go.ChangeAt Go.RowKit

theorem condRun_card : Rows.FnCondLinesCardSaid :=
  Claim7.holds_tied_plain_at .later [] _ _ _ _ CondRun.said (fun _ h => by cases h) (by kernel_rfl) (fun _ h => by cases h) fnCondLines_row_tie rfl ⟨rfl, rfl⟩ (by kernel_rfl) rfl CondRun.plain (by kernel_rfl)
#print axioms condRun_card
end Go.Proofs.YthflflhcbnianaaDoor
