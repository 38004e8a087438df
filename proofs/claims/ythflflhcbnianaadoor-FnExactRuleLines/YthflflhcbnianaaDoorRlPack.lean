/- Proved: at every laws.Rule and every two texts the law FnExactRuleLines answers true, so impl.RuleLines answers as spec.RuleLines, in memory of its own, and leaves its argument as it was (the law itself passes texts beyond 1<<20 bytes, and rules with more than 1<<20 numbers and conditions together, by); the card ties the library's three tables, which the row lists, to the program's text; no other condition. -/
import Derived.Test.YthflflhcbnianaaDoorCards
import Derived.Test.YthflflhcbnianaaDoorTie
import Derived.Test.YthflflhcbnianaaDoorRlPack31
import Derived.Test.YthflflhcbnianaaDoorRlPack29
import Derived.Test.YthflflhcbnianaaDoorRlPack18
import Derived.Test.YthflflhcbnianaaDoorRlPack22
import Derived.WalkKit
import Derived.WalkSmall
import Derived.ProofKit
import Derived.OpenShut
import Derived.ShutString
import Derived.ChangeOld
import Derived.Below
import Derived.Deep.DeepHandedRow
import Derived.Lib.LaidTab
import Derived.Sort.Grow
namespace Go.Proofs.YthflflhcbnianaaDoor.RuleLines
open Go.ChangeShapes Go.WideShapes Go.ChangeAt Go.RowKit
open Go.ChangeMaps (open_string shut_string)
set_option linter.unusedVariables false

theorem own : ownKnob Tryd.prog.godebug = none := by kernel_rfl
theorem gTab : Tryd.prog.globalNamed "internal/strconv.uint64pow10" = some 0 := by kernel_rfl
theorem gTabType : (Tryd.prog.globals[0]?).map (·.type) = some 146 := by kernel_rfl
theorem cellsP : Tryd.prog.cellsOf 146 = 20 := by kernel_rfl
theorem cellsE : Tryd.prog.cellsOf 140 = 1 := by kernel_rfl
theorem datum : (Rows.laid_internal_strconv_uint64pow10 : DataW Unit) = Lib.tabData .u64 Lib.pow10Tab := by kernel_rfl

/-- The row's list gives the third table's cells. -/
theorem table {W : World} (h : laidMetH Tryd.prog Rows.fnExactRuleLinesRow.laid W) : Lib.TabIs Tryd.prog W "internal/strconv.uint64pow10" .u64 Lib.pow10Tab := by
  have h' : laidMet Tryd.prog [("math/bits.deBruijn32tab", Rows.laid_math_bits_deBruijn32tab), ("math/bits.deBruijn64tab", Rows.laid_math_bits_deBruijn64tab), ("internal/strconv.uint64pow10", Rows.laid_internal_strconv_uint64pow10)] W := h
  obtain ⟨ps, ⟨g1, t1, cs1, f1, p1, q1, _, _, _, _, ⟨g2, t2, cs2, f2, p2, q2, _, _, _, _, ⟨g3, t3, cs3, f3, p3, q3, hg, ht, hv, hd, _, _⟩, _⟩, _⟩, _⟩ := h'
  obtain rfl := Option.some.inj (gTab.symm.trans hg)
  obtain rfl := Option.some.inj (gTabType.symm.trans ht)
  rw [datum] at hd
  unfold Lib.TabIs
  rw [hv, ← Lib.cells_of_tab Tryd.underlying146 Tryd.underlying140 cellsE cellsP hd]

theorem laidOut : laidOutB Tryd.prog = true := by kernel_rfl

theorem OwnL.two {w w' : World} {B g1 g2 : Nat} {v : Value} {ls : List Ln} (h : OwnL w B v ls) (ht : TwoMk w w' g1 g2) (hv : ∀ x, v.ownBlock = some x → x ≠ g1 ∧ x ≠ g2) : OwnL w' B v ls := by
  have hown : w.ownsRow B 38 7 v ls.length (flatL ls) := h
  refine ⟨hown.1, ?_⟩
  rcases hown.2 with hn | ⟨g, cap, cur, rfl, hg2, hh, rest⟩
  · exact .inl hn
  · have h2 := hv g rfl
    exact .inr ⟨g, cap, cur, rfl, hg2, (ht.block g (Array.getElem?_eq_some_iff.1 hh).1 h2.1 h2.2).trans hh, rest⟩

theorem Ext.two {w W W' : World} {g1 g2 : Nat} (h : Ext w W) (ht : TwoMk W W' g1 g2) (h1 : w.heap.size ≤ g1) (h2 : w.heap.size ≤ g2) : Ext w W' :=
  ⟨ht.os.trans h.os, ht.tape.trans h.tape, ht.output.trans h.output, Nat.le_trans h.size ht.size, fun i hi => (ht.block i (Nat.lt_of_lt_of_le hi h.size) (by omega) (by omega)).trans (h.block i hi)⟩

set_option maxRecDepth 100000 in
set_option maxHeartbeats 8000000 in
theorem walk (r : RN) (v0 : Value) (s1 s2 : ByteArray) (w : World) (hA : RepRule r v0 w ∧ Fin63 r) (hP : Pow12 w) : Calls Tryd.prog 5 #[v0, .string s1, .string s2] w fun e w' => e = .returned (.bool true) ∧ Below w.heap.size w w' := by
  obtain ⟨⟨l0, rfl, hL⟩, hf⟩ := hA
  obtain ⟨zs, cs, act, data⟩ := r
  obtain ⟨a1, n1, c1, a2, n2, c2, rfl, e1, e2, hz, hc⟩ := hL
  replace e1 : n1 = zs.length := e1
  replace e2 : n2 = cs.length := e2
  obtain ⟨L, hL⟩ : ∃ L, L = ruleL ⟨zs, cs, act, data⟩ s1 s2 := ⟨_, rfl⟩
  have HL : Hid (n2 ≤ 1048576 → L.length ≤ 10485761) := fun h => by rw [hL]; have := ruleL_len ⟨zs, cs, act, data⟩ s1 s2; simp only at this e2; omega
  have HP : Hid (∀ W, Ext w W → Pow12 W) := fun W hE => hP.ext hE
  have HQ : Hid (∀ W, Ext w W → Nums W a1 zs ∧ Conds W a2 cs) := fun W hE => ⟨hz.step hE, hc.step hE⟩
  have HNN : Hid (n1 = zs.length ∧ n2 = cs.length) := ⟨e1, e2⟩
  have HZ : Hid (∀ W, Calls Tryd.prog 21 #[.agg #[.slice a1 n1 c1, .slice a2 n2 c2, .int .i64 act, .int .i64 data], .int .i64 ((1048576 : Nat) : Int)] W fun e w' => ((e = .returned (.int .i64 (-1))) ∨ ∃ m : Nat, e = .returned (.int .i64 (m : Int)) ∧ m ≤ 1048576 ∧ n1 ≤ 1048576 ∧ n2 ≤ 1048576) ∧ Ext W w') := fun W => szRule_any act data a1 a2 n1 n2 c1 c2 1048576 W (by omega) (by rw [e1]; exact hf.1) (by rw [e2]; exact hf.2)
  have HT : Hid (n1 ≤ 1048576 → n2 ≤ 1048576 → ∀ W, Ext w W → Calls Tryd.prog 22 #[.agg #[.slice a1 n1 c1, .slice a2 n2 c2, .int .i64 act, .int .i64 data]] W fun e w' => ∃ g1 g2, e = .returned (.agg #[.slice (some ⟨g1, 0, none⟩) n1 n1, .slice (some ⟨g2, 0, none⟩) n2 n2, .int .i64 act, .int .i64 data]) ∧ W.heap.size ≤ g1 ∧ W.heap.size ≤ g2 ∧ Nums w' (some ⟨g1, 0, none⟩) zs ∧ Conds w' (some ⟨g2, 0, none⟩) cs ∧ Ext W w' ∧ FreeN w' g1 n1 ∧ FreeN w' g2 (n2 * 6)) := fun h1 h2 W hE => toRule_free zs cs act data a1 a2 n1 n2 c1 c2 W e1 e2 (by omega) (by omega) (hz.step hE) (hc.step hE)
  have HTR : Hid (n1 ≤ 1048576 → n2 ≤ 1048576 → ∀ W, Ext w W → Calls Tryd.prog 22 #[.agg #[.slice a1 n1 c1, .slice a2 n2 c2, .int .i64 act, .int .i64 data]] W fun e w' => ∃ u, e = .returned u ∧ RepRule ⟨zs, cs, act, data⟩ u w' ∧ Ext W w') := fun h1 h2 W hE => by
    refine (toRule_free zs cs act data a1 a2 n1 n2 c1 c2 W e1 e2 (by omega) (by omega) (hz.step hE) (hc.step hE)).mono ?_
    rintro e w' ⟨g1, g2, rfl, _, _, k1, k2, k3, _⟩
    exact ⟨_, rfl, ⟨_, rfl, _, _, _, _, _, _, rfl, e1, e2, k1, k2⟩, k3⟩
  have HS : Hid (s1.size ≤ 1048576 → s2.size ≤ 1048576 → n2 ≤ 1048576 → ∀ W g1 g2, Conds W (some ⟨g2, 0, none⟩) cs → Calls Tryd.prog 20 #[.agg #[.slice (some ⟨g1, 0, none⟩) n1 n1, .slice (some ⟨g2, 0, none⟩) n2 n2, .int .i64 act, .int .i64 data], .string s1, .string s2] W fun e w' => ∃ v, e = .returned v ∧ OwnL w' W.heap.size v L ∧ Ext W w') := fun h1 h2 h3 W g1 g2 hc' => by
    rw [hL]; exact sRuleLines_any zs cs act data (some ⟨g1, 0, none⟩) (some ⟨g2, 0, none⟩) n1 n2 n1 n2 s1 s2 W e2 h3 hc' h1 h2
  have HI : Hid (s1.size ≤ 1048576 → s2.size ≤ 1048576 → n2 ≤ 1048576 → ∀ W g1 g2, Conds W (some ⟨g2, 0, none⟩) cs → Pow12 W → Calls Tryd.prog 12 #[.agg #[.slice (some ⟨g1, 0, none⟩) n1 n1, .slice (some ⟨g2, 0, none⟩) n2 n2, .int .i64 act, .int .i64 data], .string s1, .string s2] W fun e w' => ∃ v, e = .returned v ∧ OwnL w' W.heap.size v L ∧ Ext W w') := fun h1 h2 h3 W g1 g2 hc' hp => by
    rw [hL]; exact iRuleLines_any zs cs act data (some ⟨g1, 0, none⟩) (some ⟨g2, 0, none⟩) n1 n2 n1 n2 s1 s2 W e2 h3 hc' h1 h2 hp
  clear hL hz hc hf hP e1 e2
  by_cases k1 : 1048576 < s1.size
  · have k1' : (s1.size : Int) > 1048576 := by omega
    clear HS HI HL HZ HT HTR HQ HNN HP
    go_enter Tryd.func5, Tryd.ntmps5
    go_wp2
    go_ret
    exact ⟨rfl, Ext.one _ _⟩
  by_cases k2 : 1048576 < s2.size
  · have k2' : (s2.size : Int) > 1048576 := by omega
    clear HS HI HL HZ HT HTR HQ HNN HP
    go_enter Tryd.func5, Tryd.ntmps5
    go_wp2
    go_ret
    exact ⟨rfl, Ext.one _ _⟩
  have k1' : ¬ ((s1.size : Int) > 1048576) := by omega
  have k2' : ¬ ((s2.size : Int) > 1048576) := by omega
  have HK12 : Hid (s1.size ≤ 1048576 ∧ s2.size ≤ 1048576) := ⟨by omega, by omega⟩
  clear k1 k2
  go_enter Tryd.func5, Tryd.ntmps5
  go_wp2_with fail
  refine (HZ.out _).mono ?_
  rintro e w1 ⟨hor, x1⟩
  have X1 : Hid (Ext (w.alloc (.cells #[.slice a1 n1 c1, .slice a2 n2 c2, .int .i64 act, .int .i64 data] 61)) w1) := x1
  have c1' := (CellsAt.new w [.slice a1 n1 c1, .slice a2 n2 c2, .int .i64 act, .int .i64 data] 61).step x1
  clear x1 HZ k1' k2'
  rcases hor with rfl | ⟨m, rfl, hm, u1, u2⟩
  · have X : Hid (Ext w w1) := (Ext.one w _).trans X1.out
    clear c1' HS HI HL HT HTR HQ HNN HP
    go_wp2
    go_ret
    exact ⟨rfl, X.out⟩
  have HW : Hid (Ext w (w.alloc (.cells #[.slice a1 n1 c1, .slice a2 n2 c2, .int .i64 act, .int .i64 data] 61)) ∧ (w.alloc (.cells #[.slice a1 n1 c1, .slice a2 n2 c2, .int .i64 act, .int .i64 data] 61)).heap.size = w.heap.size + 1) := ⟨Ext.one w _, by simp⟩
  have HL2 := HL.out u2
  have HT2 : Hid (∀ W, Ext w W → Calls Tryd.prog 22 #[.agg #[.slice a1 n1 c1, .slice a2 n2 c2, .int .i64 act, .int .i64 data]] W fun e w' => ∃ g1 g2, e = .returned (.agg #[.slice (some ⟨g1, 0, none⟩) n1 n1, .slice (some ⟨g2, 0, none⟩) n2 n2, .int .i64 act, .int .i64 data]) ∧ W.heap.size ≤ g1 ∧ W.heap.size ≤ g2 ∧ Nums w' (some ⟨g1, 0, none⟩) zs ∧ Conds w' (some ⟨g2, 0, none⟩) cs ∧ Ext W w' ∧ FreeN w' g1 n1 ∧ FreeN w' g2 (n2 * 6)) := HT.out u1 u2
  have HTR2 : Hid (∀ W, Ext w W → Calls Tryd.prog 22 #[.agg #[.slice a1 n1 c1, .slice a2 n2 c2, .int .i64 act, .int .i64 data]] W fun e w' => ∃ u, e = .returned u ∧ RepRule ⟨zs, cs, act, data⟩ u w' ∧ Ext W w') := HTR.out u1 u2
  have HS2 : Hid (∀ W g1 g2, Conds W (some ⟨g2, 0, none⟩) cs → Calls Tryd.prog 20 #[.agg #[.slice (some ⟨g1, 0, none⟩) n1 n1, .slice (some ⟨g2, 0, none⟩) n2 n2, .int .i64 act, .int .i64 data], .string s1, .string s2] W fun e w' => ∃ v, e = .returned v ∧ OwnL w' W.heap.size v L ∧ Ext W w') := HS.out HK12.out.1 HK12.out.2 u2
  have HI2 : Hid (∀ W g1 g2, Conds W (some ⟨g2, 0, none⟩) cs → Pow12 W → Calls Tryd.prog 12 #[.agg #[.slice (some ⟨g1, 0, none⟩) n1 n1, .slice (some ⟨g2, 0, none⟩) n2 n2, .int .i64 act, .int .i64 data], .string s1, .string s2] W fun e w' => ∃ v, e = .returned v ∧ OwnL w' W.heap.size v L ∧ Ext W w') := HI.out HK12.out.1 HK12.out.2 u2
  have HU : Hid (n1 ≤ 1048576 ∧ n2 ≤ 1048576) := ⟨u1, u2⟩
  have HSM : Hid (Small ⟨zs, cs, act, data⟩) := ⟨by have := HNN.out; simp only; omega, by have := HNN.out; simp only; omega⟩
  have HLL : Hid (L.length ≤ 10485761) := HL2
  have hm0 : ¬ (m : Int) < 0 := by omega
  clear HL HL2 HT HTR HS HI hm u1 u2
  obtain ⟨q0, q1, q2, q3⟩ := (⟨c1'.2 0 _ rfl, c1'.2 1 _ rfl, c1'.2 2 _ rfl, c1'.2 3 _ rfl⟩ : _ ∧ _ ∧ _ ∧ _)
  go_wp2_with fail
  refine (HT2.out _ (HW.out.1.trans X1.out)).mono ?_
  rintro e w2 ⟨g1, g2, rfl, _, _, _, hcc, x2, _⟩
  have X2 : Hid (Ext (w.alloc (.cells #[.slice a1 n1 c1, .slice a2 n2 c2, .int .i64 act, .int .i64 data] 61)) w2) := X1.out.trans x2
  have HC2 : Hid (Conds w2 (some ⟨g2, 0, none⟩) cs) := hcc
  clear x2 hcc q0 q1 q2 q3 c1' X1 hm0
  go_wp2_with fail
  refine (HS2.out _ g1 g2 HC2.out).mono ?_
  rintro e w3 ⟨u, rfl, o3, x3⟩
  have X3 : Hid (Ext (w.alloc (.cells #[.slice a1 n1 c1, .slice a2 n2 c2, .int .i64 act, .int .i64 data] 61)) w3) := X2.out.trans x3
  have OU : Hid (OwnL w3 w2.heap.size u L) := o3
  have HUB : Hid (∀ x, u.ownBlock = some x → x < w3.heap.size) := fun x hx => OU.out.lt hx
  have c3' := (CellsAt.new w [.slice a1 n1 c1, .slice a2 n2 c2, .int .i64 act, .int .i64 data] 61).step X3.out
  obtain ⟨q0, q1, q2, q3⟩ := (⟨c3'.2 0 _ rfl, c3'.2 1 _ rfl, c3'.2 2 _ rfl, c3'.2 3 _ rfl⟩ : _ ∧ _ ∧ _ ∧ _)
  clear x3 o3 X2 HC2 c3' HS2
  go_wp2_with fail
  refine (HT2.out _ (HW.out.1.trans X3.out)).mono ?_
  rintro e w4 ⟨g3, g4, rfl, hg3, hg4, hzz, hcc, x4, fr3, fr4⟩
  have X4 : Hid (Ext (w.alloc (.cells #[.slice a1 n1 c1, .slice a2 n2 c2, .int .i64 act, .int .i64 data] 61)) (w4.alloc (.cells #[.slice (some ⟨g3, 0, none⟩) n1 n1, .slice (some ⟨g4, 0, none⟩) n2 n2, .int .i64 act, .int .i64 data] 47))) := (X3.out.trans x4).alloc _
  have OU4 : Hid (OwnL (w4.alloc (.cells #[.slice (some ⟨g3, 0, none⟩) n1 n1, .slice (some ⟨g4, 0, none⟩) n2 n2, .int .i64 act, .int .i64 data] 47)) w2.heap.size u L) := (OU.out.ext x4).ext (Ext.one _ _)
  have HG : Hid (w3.heap.size ≤ g3 ∧ w3.heap.size ≤ g4 ∧ g3 < w4.heap.size ∧ g4 < w4.heap.size ∧ (w.alloc (.cells #[.slice a1 n1 c1, .slice a2 n2 c2, .int .i64 act, .int .i64 data] 61)).heap.size ≤ w3.heap.size ∧ (w4.alloc (.cells #[.slice (some ⟨g3, 0, none⟩) n1 n1, .slice (some ⟨g4, 0, none⟩) n2 n2, .int .i64 act, .int .i64 data] 47)).heap.size = w4.heap.size + 1) := ⟨hg3, hg4, fr3.1, fr4.1, X3.out.size, by simp⟩
  have F4 : Hid (FreeN (w4.alloc (.cells #[.slice (some ⟨g3, 0, none⟩) n1 n1, .slice (some ⟨g4, 0, none⟩) n2 n2, .int .i64 act, .int .i64 data] 47)) g3 n1 ∧ FreeN (w4.alloc (.cells #[.slice (some ⟨g3, 0, none⟩) n1 n1, .slice (some ⟨g4, 0, none⟩) n2 n2, .int .i64 act, .int .i64 data] 47)) g4 (n2 * 6)) := ⟨fr3.step (Ext.one _ _), fr4.step (Ext.one _ _)⟩
  have R4 : Hid (Nums (w4.alloc (.cells #[.slice (some ⟨g3, 0, none⟩) n1 n1, .slice (some ⟨g4, 0, none⟩) n2 n2, .int .i64 act, .int .i64 data] 47)) (some ⟨g3, 0, none⟩) zs ∧ Conds (w4.alloc (.cells #[.slice (some ⟨g3, 0, none⟩) n1 n1, .slice (some ⟨g4, 0, none⟩) n2 n2, .int .i64 act, .int .i64 data] 47)) (some ⟨g4, 0, none⟩) cs) := ⟨hzz.step (Ext.one _ _), hcc.step (Ext.one _ _)⟩
  have D4 : Hid (CellsAt (w4.alloc (.cells #[.slice (some ⟨g3, 0, none⟩) n1 n1, .slice (some ⟨g4, 0, none⟩) n2 n2, .int .i64 act, .int .i64 data] 47)) w4.heap.size [.slice (some ⟨g3, 0, none⟩) n1 n1, .slice (some ⟨g4, 0, none⟩) n2 n2, .int .i64 act, .int .i64 data]) := CellsAt.new w4 [.slice (some ⟨g3, 0, none⟩) n1 n1, .slice (some ⟨g4, 0, none⟩) n2 n2, .int .i64 act, .int .i64 data] 47
  clear x4 hzz hcc fr3 fr4 hg3 hg4 q0 q1 q2 q3 OU X3
  go_wp2_with fail
  generalize w4.alloc (.cells #[.slice (some ⟨g3, 0, none⟩) n1 n1, .slice (some ⟨g4, 0, none⟩) n2 n2, .int .i64 act, .int .i64 data] 47) = W4 at *
  refine (HI2.out _ g3 g4 R4.out.2 (HP.out _ (HW.out.1.trans X4.out))).mono ?_
  rintro e w5 ⟨v, rfl, o5, x5⟩
  have X5 : Hid (Ext (w.alloc (.cells #[.slice a1 n1 c1, .slice a2 n2 c2, .int .i64 act, .int .i64 data] 61)) w5) := X4.out.trans x5
  have OU5 : Hid (OwnL w5 w2.heap.size u L) := OU4.out.ext x5
  have OV5 : Hid (OwnL w5 W4.heap.size v L) := o5
  have HVB : Hid (∀ x, v.ownBlock = some x → W4.heap.size ≤ x) := fun x hx => ownL_from o5 hx
  have F5 : Hid (FreeN w5 g3 n1 ∧ FreeN w5 g4 (n2 * 6)) := ⟨F4.out.1.step x5, F4.out.2.step x5⟩
  have R5 : Hid (Nums w5 (some ⟨g3, 0, none⟩) zs ∧ Conds w5 (some ⟨g4, 0, none⟩) cs) := ⟨R4.out.1.step x5, R4.out.2.step x5⟩
  have D5 : Hid (CellsAt w5 w4.heap.size [.slice (some ⟨g3, 0, none⟩) n1 n1, .slice (some ⟨g4, 0, none⟩) n2 n2, .int .i64 act, .int .i64 data]) := D4.out.step x5
  clear x5 o5 X4 OU4 F4 R4 D4
  go_wp2_with fail
  refine (eq_own OV5.out OU5.out (by have := HLL.out; omega)).mono ?_
  rintro e w6 ⟨rfl, x6⟩
  have X6 : Hid (Ext (w.alloc (.cells #[.slice a1 n1 c1, .slice a2 n2 c2, .int .i64 act, .int .i64 data] 61)) w6) := X5.out.trans x6
  have OU6 : Hid (OwnL w6 w2.heap.size u L) := OU5.out.ext x6
  have OV6 : Hid (OwnL w6 W4.heap.size v L) := OV5.out.ext x6
  have F6 : Hid (FreeN w6 g3 n1 ∧ FreeN w6 g4 (n2 * 6)) := ⟨F5.out.1.step x6, F5.out.2.step x6⟩
  have R6 : Hid (RepRule ⟨zs, cs, act, data⟩ (.agg #[.slice (some ⟨g3, 0, none⟩) n1 n1, .slice (some ⟨g4, 0, none⟩) n2 n2, .int .i64 act, .int .i64 data]) w6) := ⟨_, rfl, _, _, _, _, _, _, rfl, HNN.out.1, HNN.out.2, R5.out.1.step x6, R5.out.2.step x6⟩
  have D6 := D5.out.step x6
  have c6' := (CellsAt.new w [.slice a1 n1 c1, .slice a2 n2 c2, .int .i64 act, .int .i64 data] 61).step X6.out
  clear x6 X5 OU5 OV5 F5 R5 D5
  go_wp2_with fail
  refine' wp_region_loose (.inl _ :: .inl _ :: .inr (RepRule ⟨zs, cs, act, data⟩) :: .inl _ :: .inl _ :: []) (fun w' => CellsAt w' w4.heap.size [.slice (some ⟨g3, 0, none⟩) n1 n1, .slice (some ⟨g4, 0, none⟩) n2 n2, .int .i64 act, .int .i64 data] ∧ CellsAt w' w.heap.size [.slice a1 n1 c1, .slice a2 n2 c2, .int .i64 act, .int .i64 data] ∧ RepRule ⟨zs, cs, act, data⟩ (.agg #[.slice (some ⟨g3, 0, none⟩) n1 n1, .slice (some ⟨g4, 0, none⟩) n2 n2, .int .i64 act, .int .i64 data]) w') (by kernel_rfl) (by kernel_rfl) (⟨D6.drew, c6'.drew, R6.out.step (Ext.refl w6).drew⟩) (fun _ _ h hE => ⟨h.1.step hE, h.2.1.step hE, h.2.2.step hE⟩) ?hAa ?hla ?hMa
  case' hMa => skip
  apply wpLoose_val rfl rfl
  case hs =>
    intro w1 hC hd Q1 hQ1
    obtain ⟨hE, hS⟩ := hC
    dsimp only [bare]
    obtain ⟨t0, t1, t2, t3, q0, q1, q2, q3⟩ := (⟨hS.1.2 0 _ rfl, hS.1.2 1 _ rfl, hS.1.2 2 _ rfl, hS.1.2 3 _ rfl, hS.2.1.2 0 _ rfl, hS.2.1.2 1 _ rfl, hS.2.1.2 2 _ rfl, hS.2.1.2 3 _ rfl⟩ : _ ∧ _ ∧ _ ∧ _ ∧ _ ∧ _ ∧ _ ∧ _)
    clear hd hE
    try clear hS
    go_wp2
    exact Ext.refl _
  case ha => rfl
  apply wpLoose_val rfl rfl
  case hs =>
    intro w1 hC hd Q1 hQ1
    obtain ⟨hE, hS⟩ := hC
    dsimp only [bare]
    obtain ⟨t0, t1, t2, t3, q0, q1, q2, q3⟩ := (⟨hS.1.2 0 _ rfl, hS.1.2 1 _ rfl, hS.1.2 2 _ rfl, hS.1.2 3 _ rfl, hS.2.1.2 0 _ rfl, hS.2.1.2 1 _ rfl, hS.2.1.2 2 _ rfl, hS.2.1.2 3 _ rfl⟩ : _ ∧ _ ∧ _ ∧ _ ∧ _ ∧ _ ∧ _ ∧ _)
    clear hd hE
    try clear hS
    go_wp2
    exact Ext.refl _
  case ha => rfl
  refine wpLoose_rel rfl rfl ?_ (fun va_2 => ?_)
  · intro w1 hC hd Q1 hQ1
    obtain ⟨hE, hS⟩ := hC
    dsimp only [bare]
    clear hd hS
    go_wp2_with fail
    refine (HTR2.out _ ((HW.out.1.trans X6.out).drew.trans hE)).mono ?_
    rintro e w3 ⟨u3, rfl, r3, x3⟩
    go_wp2_with fail
    exact hQ1 _ _ x3 r3
  apply wpLoose_val rfl rfl
  case hs =>
    intro w1 hC hd Q1 hQ1
    obtain ⟨hE, hS⟩ := hC
    dsimp only [bare]
    have h0 := hS.2.2
    have h2 := hd ⟨2, .data⟩ (by simp) rfl _ rfl (by simp [Act.put])
    clear hd
    go_wp2_with fail
    refine (eqRule_rep HSM.out h0 h2).mono ?_
    rintro e w2 ⟨rfl, hb⟩
    go_wp2_with fail
    exact hb
  case ha => rfl
  apply wpLoose_val rfl rfl
  case hs =>
    intro w1 hC hd Q1 hQ1
    obtain ⟨hE, hS⟩ := hC
    dsimp only [bare]
    obtain ⟨t0, t1, t2, t3, q0, q1, q2, q3⟩ := (⟨hS.1.2 0 _ rfl, hS.1.2 1 _ rfl, hS.1.2 2 _ rfl, hS.1.2 3 _ rfl, hS.2.1.2 0 _ rfl, hS.2.1.2 1 _ rfl, hS.2.1.2 2 _ rfl, hS.2.1.2 3 _ rfl⟩ : _ ∧ _ ∧ _ ∧ _ ∧ _ ∧ _ ∧ _ ∧ _)
    clear hd hE
    try clear hS
    go_wp2
    exact Ext.refl _
  case ha => rfl
  refine wpLoose_nil ?_
  intro wa hEa hSa hFa
  have x6 : Ext w6 wa := (Ext.refl w6).drew.trans hEa
  have X7 : Hid (Ext (w.alloc (.cells #[.slice a1 n1 c1, .slice a2 n2 c2, .int .i64 act, .int .i64 data] 61)) wa) := X6.out.trans x6
  have OU7 : Hid (OwnL wa w2.heap.size u L) := OU6.out.ext x6
  have OV7 : Hid (OwnL wa W4.heap.size v L) := OV6.out.ext x6
  have F7 : Hid (FreeN wa g3 n1 ∧ FreeN wa g4 (n2 * 6)) := ⟨F6.out.1.step x6, F6.out.2.step x6⟩
  have D7 := D6.step x6
  obtain ⟨t0, t1, t2, t3⟩ := (⟨D7.2 0 _ rfl, D7.2 1 _ rfl, D7.2 2 _ rfl, D7.2 3 _ rfl⟩ : _ ∧ _ ∧ _ ∧ _)
  clear hFa hSa hEa x6 X6 OU6 OV6 F6 R6 D6 c6' D7
  go_wp2_with fail
  refine (markRule_any act data g3 g4 n1 n2 n1 n2 _ HU.out.1 HU.out.2 F7.out.1 F7.out.2).mono ?_
  rintro e w8 ⟨⟨K, rfl, hK⟩, tw⟩
  have X8 : Hid (Ext (w.alloc (.cells #[.slice a1 n1 c1, .slice a2 n2 c2, .int .i64 act, .int .i64 data] 61)) w8) := Ext.two X7.out tw (Nat.le_trans HG.out.2.2.2.2.1 HG.out.1) (Nat.le_trans HG.out.2.2.2.2.1 HG.out.2.1)
  have OU8 : Hid (OwnL w8 w2.heap.size u L) := OwnL.two OU7.out tw (fun x hx => by have h1 := HUB.out x hx; have h2 := HG.out; omega)
  have OV8 : Hid (OwnL w8 W4.heap.size v L) := OwnL.two OV7.out tw (fun x hx => by have h1 := HVB.out x hx; have h2 := HG.out; omega)
  clear tw X7 OU7 OV7 F7 t0 t1 t2 t3
  have bk : ¬ (K : Int) < 0 := by omega
  go_wp2_with fail
  refine (eq_own OV8.out OU8.out (by have := HLL.out; omega)).mono ?_
  rintro e w9 ⟨rfl, x9⟩
  have X9 : Hid (Ext (w.alloc (.cells #[.slice a1 n1 c1, .slice a2 n2 c2, .int .i64 act, .int .i64 data] 61)) w9) := X8.out.trans x9
  have OU9 : Hid (OwnL w9 w2.heap.size u L) := OU8.out.ext x9
  have OV9 : Hid (OwnL w9 W4.heap.size v L) := OV8.out.ext x9
  clear x9 X8 OU8 OV8 bk hK
  go_wp2_with fail
  obtain ⟨M, hM⟩ : ∃ M, M = L.length * 7 + 1 := ⟨_, rfl⟩
  have HM : Hid (∀ W, OwnL W W4.heap.size v L → Calls Tryd.prog 26 #[v, .int .i64 1] W fun e w' => e = .returned (.int .i64 (M : Int)) ∧ W.grownBy w' v.ownBlock ∧ Marked w' v L.length) := fun W h => by rw [hM]; exact mark_own h (by have := HLL.out; omega)
  have HH : Hid (∀ W, Marked W v L.length → Calls Tryd.prog 27 #[v, .int .i64 1] W fun e w' => e = .returned (.int .i64 (M : Int)) ∧ Ext W w') := fun W h => by rw [hM]; exact held_own h (by have := HLL.out; omega)
  have hM1 : 1 ≤ M ∧ M ≤ 100000000 := by have := HLL.out; omega
  clear hM
  refine (HM.out _ OV9.out).mono ?_
  rintro e w10 ⟨rfl, gr, mk⟩
  have X10 : Hid (Ext (w.alloc (.cells #[.slice a1 n1 c1, .slice a2 n2 c2, .int .i64 act, .int .i64 data] 61)) w10) := X9.out.grown gr (fun x hx => by have h1 := HVB.out x hx; have h2 := HG.out; omega)
  have OU10 : Hid (OwnL w10 w2.heap.size u L) := OU9.out.far gr HVB.out (fun x hx => by have h1 := HUB.out x hx; have h2 := HG.out; omega)
  have M10 : Hid (Marked w10 v L.length) := mk
  clear gr mk X9 OU9 OV9 HM
  go_wp2_with fail
  refine (HH.out _ M10.out).mono ?_
  rintro e w11 ⟨rfl, x11⟩
  have X11 : Hid (Ext (w.alloc (.cells #[.slice a1 n1 c1, .slice a2 n2 c2, .int .i64 act, .int .i64 data] 61)) w11) := X10.out.trans x11
  have OU11 : Hid (OwnL w11 w2.heap.size u L) := OU10.out.ext x11
  have M11 : Hid (Marked w11 v L.length) := M10.out.ext x11
  have c11' := (CellsAt.new w [.slice a1 n1 c1, .slice a2 n2 c2, .int .i64 act, .int .i64 data] 61).step X11.out
  obtain ⟨q0, q1, q2, q3⟩ := (⟨c11'.2 0 _ rfl, c11'.2 1 _ rfl, c11'.2 2 _ rfl, c11'.2 3 _ rfl⟩ : _ ∧ _ ∧ _ ∧ _)
  clear x11 X10 OU10 M10 c11'
  have b1 : ¬ (M : Int) < 0 := by omega
  have b2 : ((M : Int) == (M : Int)) = true := by simp
  go_wp2_with fail
  refine (HT2.out _ (HW.out.1.trans X11.out)).mono ?_
  rintro e w12 ⟨g5, g6, rfl, _, _, _, hcc, x12, _⟩
  have X12 : Hid (Ext (w.alloc (.cells #[.slice a1 n1 c1, .slice a2 n2 c2, .int .i64 act, .int .i64 data] 61)) w12) := X11.out.trans x12
  have OU12 : Hid (OwnL w12 w2.heap.size u L) := OU11.out.ext x12
  have M12 : Hid (Marked w12 v L.length) := M11.out.ext x12
  have C12 : Hid (Conds w12 (some ⟨g6, 0, none⟩) cs) := hcc
  clear x12 hcc q0 q1 q2 q3 X11 OU11 M11 HT2
  go_wp2_with fail
  refine (HI2.out _ g5 g6 C12.out (HP.out _ (HW.out.1.trans X12.out))).mono ?_
  rintro e w13 ⟨z, rfl, o13, x13⟩
  have X13 : Hid (Ext (w.alloc (.cells #[.slice a1 n1 c1, .slice a2 n2 c2, .int .i64 act, .int .i64 data] 61)) w13) := X12.out.trans x13
  have OU13 : Hid (OwnL w13 w2.heap.size u L) := OU12.out.ext x13
  have M13 : Hid (Marked w13 v L.length) := M12.out.ext x13
  have OZ13 : Hid (OwnL w13 w12.heap.size z L) := o13
  clear x13 o13 X12 OU12 M12 C12 HI2
  go_wp2_with fail
  refine (eq_own OZ13.out OU13.out (by have := HLL.out; omega)).mono ?_
  rintro e w14 ⟨rfl, x14⟩
  have X14 : Hid (Ext (w.alloc (.cells #[.slice a1 n1 c1, .slice a2 n2 c2, .int .i64 act, .int .i64 data] 61)) w14) := X13.out.trans x14
  have M14 : Hid (Marked w14 v L.length) := M13.out.ext x14
  clear x14 X13 OU13 M13 OZ13
  go_wp2_with fail
  refine (HH.out _ M14.out).mono ?_
  rintro e w15 ⟨rfl, x15⟩
  have X15 : Hid (Ext w w15) := HW.out.1.trans (X14.out.trans x15)
  clear x15 X14 M14
  go_wp2
  go_ret
  exact ⟨rfl, X15.out⟩
  case hAa => kernel_rfl
  case hla => exact ⟨trivial, trivial, fun _ _ _ h hE => h.step hE, trivial, trivial, trivial⟩

set_option maxRecDepth 100000 in
theorem contract (H : Type) (enc : TypeId × Value → H) (W : World) (base : Nat) (args : Array Value) (ds gs : List (DataW H)) (before : List MemPlace)
    (hval : ∀ (j : Nat) t v, Tryd.f5.params[j]? = some t → args[j]? = some v → Value.okWide Tryd.prog W .any base t v)
    (hW : DataW.Whole enc Tryd.prog Tryd.f5.params.toList Rows.fnExactRuleLinesSpec.vars false W args.toList ds gs before) (hL : laidMetH Tryd.prog Rows.fnExactRuleLinesRow.laid W) :
    Calls Tryd.prog 5 args W fun e W' => ∃ v, e = .returned v ∧ Rows.fnExactRuleLinesSpec.post enc Tryd.prog Tryd.f5 false true false false W args v W' := by
  have hW' := hW
  obtain ⟨p, q, hA0, hV, rfl, hfz, hnd⟩ := hW
  have hA : DataW.TrodAll enc Tryd.prog W 0 (fun _ => true) true Tryd.f5.params.toList args.toList ds p := hA0
  rw [Tryd.params5] at hA hval
  obtain ⟨v0, vs0, d0, ds0, p0, q0, hargs, rfl, rfl, h0, r0⟩ := trodAll_cons hA
  obtain ⟨v1, vs1, d1, ds1, p1, q1, rfl, rfl, rfl, h1, r1⟩ := trodAll_cons r0
  obtain ⟨v2, vs2, d2, ds2, p2, q2, rfl, rfl, rfl, h2, r2⟩ := trodAll_cons r1
  obtain ⟨rfl, rfl, rfl⟩ := trodAll_nil r2
  obtain rfl : args = #[v0, v1, v2] := by cases args; simp_all
  obtain ⟨rfl, rfl⟩ := trodVars_none hV
  have lt0 : ∀ x ∈ p0, x.block < W.heap.size := by obtain ⟨m, hm⟩ := h0; exact DataW.trod_lt m _ _ _ hm
  have k0 := h0
  obtain ⟨r0x, hr0⟩ := open_rule (hval 0 61 v0 rfl rfl) h0
  obtain ⟨s1, rfl, rfl, rfl, w1⟩ := open_string Tryd.underlying9 (hval 1 9 v1 rfl rfl) h1
  obtain ⟨s2, rfl, rfl, rfl, w2⟩ := open_string Tryd.underlying9 (hval 2 9 v2 rfl rfl) h2
  clear hA0
  have ht := table hL
  have hz : 0 < W.heap.size := World.block_lt_of_cell? W _ (ht.cell gTab 0 (by decide))
  refine (walk r0x v0 s1 s2 W hr0 ⟨ht, hz⟩).mono fun e W' ⟨he, bel⟩ => ?_
  subst he
  exact ⟨_, rfl, _, _, _, [], _, [], hW', trodAll_mk1 (shut_bool Tryd.underlying4 _), (trodAll_cons_mk (Below.trod laidOut (by kernel_rfl) (of_decide_eq_true (by kernel_rfl)) k0 bel lt0) (trodAll_cons_mk (shut_string Tryd.underlying9 w1) (trodAll_cons_mk (shut_string Tryd.underlying9 w2) trodAll_mk0))), rfl, bel.frame _, fun h => by cases h⟩

/-- A listed table's cells. -/
def tabCells : DataW Unit → Array Value
  | .agg l => (l.map fun | .lit (.int k n) => Value.int k n | _ => Value.int .i64 0).toArray
  | _ => #[]
def setCells (cs : Array Value) : Obj → Obj
  | .cells _ t fr => .cells cs t fr
  | o => o
/-- A world in which the three tables hold what their initialisers lay. -/
def withTabs (w : World) : World := { w with heap := ((w.heap.modify 0 (setCells (tabCells Rows.laid_internal_strconv_uint64pow10))).modify 1 (setCells (tabCells Rows.laid_math_bits_deBruijn32tab))).modify 2 (setCells (tabCells Rows.laid_math_bits_deBruijn64tab)) }

theorem laid_met (os : Os) : laidMet Tryd.prog Rows.fnExactRuleLinesRow.laid ((withTabs (World.holding Tryd.prog os ⟨#[], #[], []⟩)).forCall (fun _ _ => 0) ⟨#[], #[.agg #[.slice none 0 0, .slice none 0 0, .int .i64 0, .int .i64 0], .string ⟨#[]⟩, .string ⟨#[]⟩], []⟩).memory :=
  laidMet_of_run' 8 (by kernel_rfl) (by kernel_rfl)
theorem reads (os : Os) {H : Type} (enc : TypeId × Value → H) : ∃ places, DataW.whole enc Tryd.prog ((withTabs (World.holding Tryd.prog os ⟨#[], #[], []⟩)).forCall (fun _ _ => 0) ⟨#[], #[.agg #[.slice none 0 0, .slice none 0 0, .int .i64 0, .int .i64 0], .string ⟨#[]⟩, .string ⟨#[]⟩], []⟩).memory Tryd.f5.params.toList Rows.fnExactRuleLinesSpec.vars false #[Value.agg #[.slice none 0 0, .slice none 0 0, .int .i64 0, .int .i64 0], .string ⟨#[]⟩, .string ⟨#[]⟩].toList 8 = some ([.agg [.nil, .nil, .lit (.int .i64 0), .lit (.int .i64 0)], .lit (.string []), .lit (.string [])], [], places) :=
  ⟨[], by kernel_rfl⟩

set_option maxRecDepth 100000 in
theorem lifted (os : Os) (started : os.Started) (H : Type) (enc : TypeId × Value → H) (F : Stop.Interp) :
    ReturnsInHanded {} Tryd.checked os 5 .any ((OpenSpec.ofChange Rows.fnExactRuleLinesSpec).preRow enc Tryd.prog Tryd.f5 Rows.fnExactRuleLinesRow.domain false Rows.fnExactRuleLinesRow.laid) (((OpenSpec.ofChange Rows.fnExactRuleLinesSpec).at F).post enc Tryd.prog Tryd.f5 false true false false) := by
  obtain ⟨places, hx⟩ := reads os enc
  refine returnsInHanded_of_row (C := Tryd.checked) (s := OpenSpec.ofChange Rows.fnExactRuleLinesSpec) own started (by kernel_rfl) Tryd.func5
    (witness_row_at (enc := enc) (C := Tryd.checked) false (withTabs (World.holding Tryd.prog os ⟨#[], #[], []⟩)) #[.agg #[.slice none 0 0, .slice none 0 0, .int .i64 0, .int .i64 0], .string ⟨#[]⟩, .string ⟨#[]⟩] rfl (by kernel_rfl) (by kernel_rfl) (by kernel_rfl)
      (OpenSpec.preRow_of_cond 8 hx (by kernel_rfl) (fun k hk => by cases hk) (by kernel_rfl) (laid_met os))) ?_
  intro W base args ds gs before hval hW _ _ _ hL _ _
  exact contract H enc W base args ds gs before hval hW hL

theorem said : Rows.FnExactRuleLinesSaid :=
  OpenClaim.holds_of_cond 5 Tryd.f5 rfl rfl rfl rfl rfl rfl rfl ⟨rfl, rfl, rfl, rfl, rfl⟩ rfl rfl rfl rfl rfl (by kernel_rfl) Tryd.func5 (by kernel_rfl)
    (of_decide_eq_true (by kernel_rfl)) (by unfold Func.isWrapper; first | (rw [if_pos (by decide +kernel)]; kernel_rfl) | (rw [if_neg (by decide +kernel)]; exact ⟨rfl, rfl⟩))
    (fun os started H enc _ F => by rw [OpenClaim.pre_eq_preRow]; exact lifted os started H enc F)

theorem plain (f : FuncId) (fn : Func) (hf : Tryd.pinned.checked.prog.funcNamed "loop.example/g00397/laws.FnExactRuleLines" = some f) (hfn : Tryd.pinned.checked.prog.funcs[f]? = some fn) :
    false = Tryd.pinned.checked.prog.looks [] ∧ ∀ (j : Nat) t, fn.params[j]? = some t → Tryd.pinned.checked.prog.wantsStandIn t = false := by
  obtain rfl : f = 5 := Option.some.inj ((show Tryd.prog.funcNamed "loop.example/g00397/laws.FnExactRuleLines" = some 5 by kernel_rfl).symm.trans hf) |>.symm
  obtain rfl : fn = Tryd.f5 := (Option.some.inj (Tryd.func5.symm.trans hfn)).symm
  refine ⟨by kernel_rfl, fun j t ht => ?_⟩
  rw [Tryd.params5] at ht
  have hm := Array.mem_of_getElem? ht
  simp at hm
  rcases hm with rfl | rfl
  · exact (show Tryd.prog.wantsStandIn 61 = false by kernel_rfl)
  · exact (show Tryd.prog.wantsStandIn 9 = false by kernel_rfl)

end Go.Proofs.YthflflhcbnianaaDoor.RuleLines
namespace Go.Proofs.YthflflhcbnianaaDoor
open Go.ChangeShapes Go.WideShapes Go.ChangeAt Go.RowKit

theorem ruleLines_card : Rows.FnExactRuleLinesCardSaid :=
  Claim7.holds_tied_plain_at .later [] _ _ _ _ RuleLines.said (fun _ h => by cases h) (by kernel_rfl) (fun _ h => by cases h) fnExactRuleLines_row_tie rfl ⟨rfl, rfl⟩ (by kernel_rfl) rfl RuleLines.plain (by kernel_rfl)
#print axioms ruleLines_card
end Go.Proofs.YthflflhcbnianaaDoor
