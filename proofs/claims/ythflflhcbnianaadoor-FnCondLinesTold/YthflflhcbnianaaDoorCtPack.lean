/- Proved: at every row of bytes the law FnCondLinesTold answers true, so impl.CondLines and impl.RuleLines answer as spec's, line by line, on the drawn conditions and rules, right or not (the law itself passes more than 1<<20 bytes by); the card ties the library's three tables, which the row lists, to the program's text; no other condition. -/
import Derived.Test.YthflflhcbnianaaDoorCards
import Derived.Test.YthflflhcbnianaaDoorTie
import Derived.Test.YthflflhcbnianaaDoorCtPack27
import Derived.Test.YthflflhcbnianaaDoorCtPack31
import Derived.Test.YthflflhcbnianaaDoorCtPack32
import Derived.Test.YthflflhcbnianaaDoorCtPack30
import Derived.WalkKit
import Derived.WalkSmall
import Derived.ProofKit
import Derived.OpenShut
import Derived.ShutString
import Derived.ChangeOld
import Derived.Below
import Derived.Deep.DeepHandedRow
import Derived.Lib.LaidTab
import Derived.Sort.Grow
namespace Go.Proofs.YthflflhcbnianaaDoor.CondTold
open Go.ChangeShapes Go.WideShapes Go.ChangeAt Go.RowKit
open Go.ChangeMaps (open_string shut_string)
set_option linter.unusedVariables false

theorem own : ownKnob Tryd.prog.godebug = none := by kernel_rfl
theorem gTab : Tryd.prog.globalNamed "internal/strconv.uint64pow10" = some 0 := by kernel_rfl
theorem gTabType : (Tryd.prog.globals[0]?).map (·.type) = some 146 := by kernel_rfl
theorem cellsP : Tryd.prog.cellsOf 146 = 20 := by kernel_rfl
theorem cellsE : Tryd.prog.cellsOf 140 = 1 := by kernel_rfl
theorem datum : (Rows.laid_internal_strconv_uint64pow10 : DataW Unit) = Lib.tabData .u64 Lib.pow10Tab := by kernel_rfl

/-- The row's list gives the third table's cells. -/
theorem table {W : World} (h : laidMetH Tryd.prog Rows.fnCondLinesToldRow.laid W) : Lib.TabIs Tryd.prog W "internal/strconv.uint64pow10" .u64 Lib.pow10Tab := by
  have h' : laidMet Tryd.prog [("math/bits.deBruijn32tab", Rows.laid_math_bits_deBruijn32tab), ("math/bits.deBruijn64tab", Rows.laid_math_bits_deBruijn64tab), ("internal/strconv.uint64pow10", Rows.laid_internal_strconv_uint64pow10)] W := h
  obtain ⟨ps, ⟨g1, t1, cs1, f1, p1, q1, _, _, _, _, ⟨g2, t2, cs2, f2, p2, q2, _, _, _, _, ⟨g3, t3, cs3, f3, p3, q3, hg, ht, hv, hd, _, _⟩, _⟩, _⟩, _⟩ := h'
  obtain rfl := Option.some.inj (gTab.symm.trans hg)
  obtain rfl := Option.some.inj (gTabType.symm.trans ht)
  rw [datum] at hd
  unfold Lib.TabIs
  rw [hv, ← Lib.cells_of_tab Tryd.underlying146 Tryd.underlying140 cellsE cellsP hd]

theorem laidOut : laidOutB Tryd.prog = true := by kernel_rfl

set_option maxRecDepth 100000 in
set_option maxHeartbeats 8000000 in
theorem walk (a : Option Addr) (len cap : Nat) (w : World) (raw : Raw w a len) (hP : Pow12 w) : Calls Tryd.prog 4 #[.slice a len cap] w fun e w' => e = .returned (.bool true) ∧ Below w.heap.size w w' := by
  by_cases hbig : 1048576 < len
  · go_enter Tryd.func4, Tryd.ntmps4
    go_wp2_with (go_at_call 6; refine (big_yes _ _ _ _ hbig).mono ?_; rintro e w' ⟨rfl, rfl⟩)
    go_ret
    exact ⟨rfl, Below.refl _ _⟩
  have HC : Hid (Came w a len) := ⟨by omega, raw⟩
  have hl : len ≤ 1048576 := by omega
  have HP : Hid (∀ W, Ext w W → Pow12 W) := fun W hE => hP.ext hE
  clear raw hbig hP
  go_enter Tryd.func4, Tryd.ntmps4
  go_wp2_with fail
  refine (big_no a len cap _ hl).mono ?_
  rintro e w' ⟨rfl, rfl⟩
  go_wp2_with fail
  refine (drawCondLines_any a len cap _ HC.out).mono ?_
  rintro e w1 ⟨ag, mh, ml, cm, vh, vl, rfl, e1⟩
  have X1 : Hid (Ext w (w1.alloc (.cells #[.int .i64 ag, .int .i64 mh, .int .i64 ml, .int .i64 cm, .int .i64 vh, .int .i64 vl] 27))) := e1.alloc _
  have D1 : Hid (CellsAt (w1.alloc (.cells #[.int .i64 ag, .int .i64 mh, .int .i64 ml, .int .i64 cm, .int .i64 vh, .int .i64 vl] 27)) w1.heap.size [.int .i64 ag, .int .i64 mh, .int .i64 ml, .int .i64 cm, .int .i64 vh, .int .i64 vl]) := CellsAt.new w1 [.int .i64 ag, .int .i64 mh, .int .i64 ml, .int .i64 cm, .int .i64 vh, .int .i64 vl] 27
  clear e1
  go_wp2_with fail
  generalize w1.alloc (.cells #[.int .i64 ag, .int .i64 mh, .int .i64 ml, .int .i64 cm, .int .i64 vh, .int .i64 vl] 27) = W2 at *
  refine (drawRuleLines_any a len cap _ (HC.out.below X1.out)).mono ?_
  rintro e w3 ⟨cs, a1, n1, c1, a2, n2, c2, ac, da, rfl, ⟨hn, hcl, hcc⟩, e3⟩
  have X3 : Hid (Ext w (w3.alloc (.cells #[.slice a1 n1 c1, .slice a2 n2 c2, .int .i64 ac, .int .i64 da] 47))) := (X1.out.trans e3).alloc _
  have D3 : Hid (CellsAt (w3.alloc (.cells #[.slice a1 n1 c1, .slice a2 n2 c2, .int .i64 ac, .int .i64 da] 47)) w1.heap.size [.int .i64 ag, .int .i64 mh, .int .i64 ml, .int .i64 cm, .int .i64 vh, .int .i64 vl]) := (D1.out.step e3).step (Ext.one _ _)
  have F3 : Hid (CellsAt (w3.alloc (.cells #[.slice a1 n1 c1, .slice a2 n2 c2, .int .i64 ac, .int .i64 da] 47)) w3.heap.size [.slice a1 n1 c1, .slice a2 n2 c2, .int .i64 ac, .int .i64 da]) := CellsAt.new w3 [.slice a1 n1 c1, .slice a2 n2 c2, .int .i64 ac, .int .i64 da] 47
  have C3 : Hid (Conds (w3.alloc (.cells #[.slice a1 n1 c1, .slice a2 n2 c2, .int .i64 ac, .int .i64 da] 47)) a2 cs) := hcc.step (Ext.one _ _)
  obtain ⟨LC, hLC⟩ : ∃ L, L = condL ⟨ag, mh, ml, cm, vh, vl⟩ ⟨#[120]⟩ ⟨#[121, 101, 115]⟩ ⟨#[110, 111]⟩ := ⟨_, rfl⟩
  obtain ⟨LR, hLR⟩ : ∃ L, L = ruleL ⟨[], cs, ac, da⟩ ⟨#[114]⟩ ⟨#[110, 111]⟩ := ⟨_, rfl⟩
  have HLL : Hid (LC.length ≤ 9 ∧ LR.length ≤ 10485761 ∧ 0 < LR.length) := ⟨by rw [hLC]; exact condL_len _ _ _ _, by rw [hLR]; have := ruleL_len ⟨[], cs, ac, da⟩ ⟨#[114]⟩ ⟨#[110, 111]⟩; simp only at this; omega, by rw [hLR]; simp [ruleL]⟩
  have HIC : Hid (∀ W, Calls Tryd.prog 8 #[.agg #[.int .i64 ag, .int .i64 mh, .int .i64 ml, .int .i64 cm, .int .i64 vh, .int .i64 vl], .string ⟨#[120]⟩, .string ⟨#[121, 101, 115]⟩, .string ⟨#[110, 111]⟩] W fun e w' => ∃ v, e = .returned v ∧ OwnL w' W.heap.size v LC ∧ Ext W w') := fun W => by
    rw [hLC]; exact iCondLines_any ag mh ml cm vh vl _ _ _ W (by decide) (by decide) (by decide)
  have HSC : Hid (∀ W, Calls Tryd.prog 19 #[.agg #[.int .i64 ag, .int .i64 mh, .int .i64 ml, .int .i64 cm, .int .i64 vh, .int .i64 vl], .string ⟨#[120]⟩, .string ⟨#[121, 101, 115]⟩, .string ⟨#[110, 111]⟩] W fun e w' => ∃ v, e = .returned v ∧ OwnL w' W.heap.size v LC ∧ Ext W w') := fun W => by
    rw [hLC]
    refine (sCondLines_any ag mh ml cm vh vl _ _ _ W (by decide)).mono ?_
    rintro e w' ⟨a, cap, rfl, h1, h2⟩
    exact ⟨_, rfl, h1, h2⟩
  have HIR : Hid (∀ W, Conds W a2 cs → Pow12 W → Calls Tryd.prog 12 #[.agg #[.slice a1 n1 c1, .slice a2 n2 c2, .int .i64 ac, .int .i64 da], .string ⟨#[114]⟩, .string ⟨#[110, 111]⟩] W fun e w' => ∃ v, e = .returned v ∧ OwnL w' W.heap.size v LR ∧ Ext W w') := fun W h1 h2 => by
    rw [hLR]; exact iRuleLines_any [] cs ac da a1 a2 n1 n2 c1 c2 _ _ W hn (by omega) h1 (by decide) (by decide) h2
  have HSR : Hid (∀ W, Conds W a2 cs → Calls Tryd.prog 20 #[.agg #[.slice a1 n1 c1, .slice a2 n2 c2, .int .i64 ac, .int .i64 da], .string ⟨#[114]⟩, .string ⟨#[110, 111]⟩] W fun e w' => ∃ v, e = .returned v ∧ OwnL w' W.heap.size v LR ∧ Ext W w') := fun W h1 => by
    rw [hLR]; exact sRuleLines_any [] cs ac da a1 a2 n1 n2 c1 c2 _ _ W hn (by omega) h1 (by decide) (by decide)
  clear e3 hcc hn hcl hLC hLR X1 D1 HC
  go_wp2_with fail
  generalize w3.alloc (.cells #[.slice a1 n1 c1, .slice a2 n2 c2, .int .i64 ac, .int .i64 da] 47) = W4 at *
  refine (HIR.out _ C3.out (HP.out _ X3.out)).mono ?_
  rintro e w5 ⟨v, rfl, o5, e5⟩
  obtain ⟨av, cv, rfl, _⟩ := o5.lns
  have X5 : Hid (Ext w w5) := X3.out.trans e5
  have G5 : Hid (CellsAt w5 w1.heap.size [.int .i64 ag, .int .i64 mh, .int .i64 ml, .int .i64 cm, .int .i64 vh, .int .i64 vl] ∧ CellsAt w5 w3.heap.size [.slice a1 n1 c1, .slice a2 n2 c2, .int .i64 ac, .int .i64 da] ∧ Conds w5 a2 cs ∧ OwnL w5 W4.heap.size (.slice av LR.length cv) LR) := ⟨D3.out.step e5, F3.out.step e5, C3.out.step e5, o5⟩
  have HSA : Hid (∀ (B C : Nat) (u v : Value) W, OwnL W B u LC → OwnL W C v LC → Calls Tryd.prog 18 #[u, v] W fun e w' => e = .returned (.bool true) ∧ Ext W w') := fun B C u v W h1 h2 => same_own h1 h2 (by have := HLL.out; omega)
  have HSB : Hid (∀ (B C : Nat) (u v : Value) W, OwnL W B u LR → OwnL W C v LR → Calls Tryd.prog 18 #[u, v] W fun e w' => e = .returned (.bool true) ∧ Ext W w') := fun B C u v W h1 h2 => same_own h1 h2 (by have := HLL.out; omega)
  have hpos : (LR.length : Int) > 0 := by have := HLL.out; omega
  clear e5 o5 X3 D3 F3 C3 HIR HP HLL
  generalize hnR : LR.length = nR at *
  go_wp2_with fail
  refine' wp_region_loose (.inl _ :: .inl _ :: .inl _ :: .inl _ :: .inr (fun u w' => ∃ B, OwnL w' B u LC) :: .inl _ :: .inl _ :: .inl _ :: .inl _ :: .inr (fun u w' => ∃ B, OwnL w' B u LC) :: .inl _ :: .inl _ :: .inl _ :: .inl _ :: .inl _ :: .inl _ :: .inr (fun u w' => ∃ B, OwnL w' B u LR) :: .inl _ :: .inl _ :: .inl _ :: .inl _ :: .inl _ :: .inl _ :: .inl _ :: .inl _ :: []) (fun w' => CellsAt w' w1.heap.size [.int .i64 ag, .int .i64 mh, .int .i64 ml, .int .i64 cm, .int .i64 vh, .int .i64 vl] ∧ CellsAt w' w3.heap.size [.slice a1 n1 c1, .slice a2 n2 c2, .int .i64 ac, .int .i64 da] ∧ Conds w' a2 cs ∧ OwnL w' W4.heap.size (.slice av nR cv) LR) (by kernel_rfl) (by kernel_rfl) (⟨G5.out.1.drew, G5.out.2.1.drew, G5.out.2.2.1.step (Ext.refl w5).drew, G5.out.2.2.2.ext (Ext.refl w5).drew⟩) (fun _ _ h hE => ⟨h.1.step hE, h.2.1.step hE, h.2.2.1.step hE, h.2.2.2.ext hE⟩) ?hAa ?hla ?hMa
  case' hMa => skip
  apply wpLoose_val rfl rfl
  case hs =>
    intro w1 hC hd Q1 hQ1
    obtain ⟨hE, hS⟩ := hC
    dsimp only [bare]
    obtain ⟨t0, t1, t2, t3, q0, q1, q2, q3, q4, q5⟩ := (⟨hS.2.1.2 0 _ rfl, hS.2.1.2 1 _ rfl, hS.2.1.2 2 _ rfl, hS.2.1.2 3 _ rfl, hS.1.2 0 _ rfl, hS.1.2 1 _ rfl, hS.1.2 2 _ rfl, hS.1.2 3 _ rfl, hS.1.2 4 _ rfl, hS.1.2 5 _ rfl⟩ : _ ∧ _ ∧ _ ∧ _ ∧ _ ∧ _ ∧ _ ∧ _ ∧ _ ∧ _)
    clear hd hE
    try clear hS
    go_wp2
    exact Ext.refl _
  case ha => rfl
  apply wpLoose_val rfl rfl
  case hs =>
    intro w1 hC hd Q1 hQ1
    obtain ⟨hE, hS⟩ := hC
    dsimp only [bare]
    obtain ⟨t0, t1, t2, t3, q0, q1, q2, q3, q4, q5⟩ := (⟨hS.2.1.2 0 _ rfl, hS.2.1.2 1 _ rfl, hS.2.1.2 2 _ rfl, hS.2.1.2 3 _ rfl, hS.1.2 0 _ rfl, hS.1.2 1 _ rfl, hS.1.2 2 _ rfl, hS.1.2 3 _ rfl, hS.1.2 4 _ rfl, hS.1.2 5 _ rfl⟩ : _ ∧ _ ∧ _ ∧ _ ∧ _ ∧ _ ∧ _ ∧ _ ∧ _ ∧ _)
    clear hd hE
    try clear hS
    go_wp2
    exact Ext.refl _
  case ha => rfl
  apply wpLoose_val rfl rfl
  case hs =>
    intro w1 hC hd Q1 hQ1
    obtain ⟨hE, hS⟩ := hC
    dsimp only [bare]
    obtain ⟨t0, t1, t2, t3, q0, q1, q2, q3, q4, q5⟩ := (⟨hS.2.1.2 0 _ rfl, hS.2.1.2 1 _ rfl, hS.2.1.2 2 _ rfl, hS.2.1.2 3 _ rfl, hS.1.2 0 _ rfl, hS.1.2 1 _ rfl, hS.1.2 2 _ rfl, hS.1.2 3 _ rfl, hS.1.2 4 _ rfl, hS.1.2 5 _ rfl⟩ : _ ∧ _ ∧ _ ∧ _ ∧ _ ∧ _ ∧ _ ∧ _ ∧ _ ∧ _)
    clear hd hE
    try clear hS
    go_wp2
    exact Ext.refl _
  case ha => rfl
  apply wpLoose_val rfl rfl
  case hs =>
    intro w1 hC hd Q1 hQ1
    obtain ⟨hE, hS⟩ := hC
    dsimp only [bare]
    obtain ⟨t0, t1, t2, t3, q0, q1, q2, q3, q4, q5⟩ := (⟨hS.2.1.2 0 _ rfl, hS.2.1.2 1 _ rfl, hS.2.1.2 2 _ rfl, hS.2.1.2 3 _ rfl, hS.1.2 0 _ rfl, hS.1.2 1 _ rfl, hS.1.2 2 _ rfl, hS.1.2 3 _ rfl, hS.1.2 4 _ rfl, hS.1.2 5 _ rfl⟩ : _ ∧ _ ∧ _ ∧ _ ∧ _ ∧ _ ∧ _ ∧ _ ∧ _ ∧ _)
    clear hd hE
    try clear hS
    go_wp2
    exact Ext.refl _
  case ha => rfl
  refine wpLoose_rel rfl rfl ?_ (fun va_4 => ?_)
  · intro w1 hC hd Q1 hQ1
    obtain ⟨hE, hS⟩ := hC
    dsimp only [bare]
    clear hd hS
    go_wp2_with fail
    refine (HIC.out _).mono ?_
    rintro e w6 ⟨u3, rfl, r3, x3⟩
    go_wp2_with fail
    exact hQ1 _ _ x3 ⟨_, r3⟩
  apply wpLoose_val rfl rfl
  case hs =>
    intro w1 hC hd Q1 hQ1
    obtain ⟨hE, hS⟩ := hC
    dsimp only [bare]
    obtain ⟨t0, t1, t2, t3, q0, q1, q2, q3, q4, q5⟩ := (⟨hS.2.1.2 0 _ rfl, hS.2.1.2 1 _ rfl, hS.2.1.2 2 _ rfl, hS.2.1.2 3 _ rfl, hS.1.2 0 _ rfl, hS.1.2 1 _ rfl, hS.1.2 2 _ rfl, hS.1.2 3 _ rfl, hS.1.2 4 _ rfl, hS.1.2 5 _ rfl⟩ : _ ∧ _ ∧ _ ∧ _ ∧ _ ∧ _ ∧ _ ∧ _ ∧ _ ∧ _)
    clear hd hE
    try clear hS
    go_wp2
    exact Ext.refl _
  case ha => rfl
  apply wpLoose_val rfl rfl
  case hs =>
    intro w1 hC hd Q1 hQ1
    obtain ⟨hE, hS⟩ := hC
    dsimp only [bare]
    obtain ⟨t0, t1, t2, t3, q0, q1, q2, q3, q4, q5⟩ := (⟨hS.2.1.2 0 _ rfl, hS.2.1.2 1 _ rfl, hS.2.1.2 2 _ rfl, hS.2.1.2 3 _ rfl, hS.1.2 0 _ rfl, hS.1.2 1 _ rfl, hS.1.2 2 _ rfl, hS.1.2 3 _ rfl, hS.1.2 4 _ rfl, hS.1.2 5 _ rfl⟩ : _ ∧ _ ∧ _ ∧ _ ∧ _ ∧ _ ∧ _ ∧ _ ∧ _ ∧ _)
    clear hd hE
    try clear hS
    go_wp2
    exact Ext.refl _
  case ha => rfl
  apply wpLoose_val rfl rfl
  case hs =>
    intro w1 hC hd Q1 hQ1
    obtain ⟨hE, hS⟩ := hC
    dsimp only [bare]
    obtain ⟨t0, t1, t2, t3, q0, q1, q2, q3, q4, q5⟩ := (⟨hS.2.1.2 0 _ rfl, hS.2.1.2 1 _ rfl, hS.2.1.2 2 _ rfl, hS.2.1.2 3 _ rfl, hS.1.2 0 _ rfl, hS.1.2 1 _ rfl, hS.1.2 2 _ rfl, hS.1.2 3 _ rfl, hS.1.2 4 _ rfl, hS.1.2 5 _ rfl⟩ : _ ∧ _ ∧ _ ∧ _ ∧ _ ∧ _ ∧ _ ∧ _ ∧ _ ∧ _)
    clear hd hE
    try clear hS
    go_wp2
    exact Ext.refl _
  case ha => rfl
  apply wpLoose_val rfl rfl
  case hs =>
    intro w1 hC hd Q1 hQ1
    obtain ⟨hE, hS⟩ := hC
    dsimp only [bare]
    obtain ⟨t0, t1, t2, t3, q0, q1, q2, q3, q4, q5⟩ := (⟨hS.2.1.2 0 _ rfl, hS.2.1.2 1 _ rfl, hS.2.1.2 2 _ rfl, hS.2.1.2 3 _ rfl, hS.1.2 0 _ rfl, hS.1.2 1 _ rfl, hS.1.2 2 _ rfl, hS.1.2 3 _ rfl, hS.1.2 4 _ rfl, hS.1.2 5 _ rfl⟩ : _ ∧ _ ∧ _ ∧ _ ∧ _ ∧ _ ∧ _ ∧ _ ∧ _ ∧ _)
    clear hd hE
    try clear hS
    go_wp2
    exact Ext.refl _
  case ha => rfl
  refine wpLoose_rel rfl rfl ?_ (fun va_9 => ?_)
  · intro w1 hC hd Q1 hQ1
    obtain ⟨hE, hS⟩ := hC
    dsimp only [bare]
    clear hd hS
    go_wp2_with fail
    refine (HSC.out _).mono ?_
    rintro e w6 ⟨u3, rfl, r3, x3⟩
    go_wp2_with fail
    exact hQ1 _ _ x3 ⟨_, r3⟩
  apply wpLoose_val rfl rfl
  case hs =>
    intro w1 hC hd Q1 hQ1
    obtain ⟨hE, hS⟩ := hC
    dsimp only [bare]
    obtain ⟨B1, h1⟩ := (hd ⟨4, .data⟩ (by simp) rfl _ rfl (by simp [Act.put]) : ∃ B, OwnL _ B va_4 LC)
    obtain ⟨B2, h2⟩ := (hd ⟨9, .data⟩ (by simp) rfl _ rfl (by simp [Act.put]) : ∃ B, OwnL _ B va_9 LC)
    clear hd
    go_wp2_with fail
    refine (HSA.out B1 B2 _ _ _ h1 h2).mono ?_
    rintro e w2 ⟨rfl, hb⟩
    go_wp2_with fail
    exact hb
  case ha => rfl
  apply wpLoose_val rfl rfl
  case hs =>
    intro w1 hC hd Q1 hQ1
    obtain ⟨hE, hS⟩ := hC
    dsimp only [bare]
    obtain ⟨t0, t1, t2, t3, q0, q1, q2, q3, q4, q5⟩ := (⟨hS.2.1.2 0 _ rfl, hS.2.1.2 1 _ rfl, hS.2.1.2 2 _ rfl, hS.2.1.2 3 _ rfl, hS.1.2 0 _ rfl, hS.1.2 1 _ rfl, hS.1.2 2 _ rfl, hS.1.2 3 _ rfl, hS.1.2 4 _ rfl, hS.1.2 5 _ rfl⟩ : _ ∧ _ ∧ _ ∧ _ ∧ _ ∧ _ ∧ _ ∧ _ ∧ _ ∧ _)
    clear hd hE
    try clear hS
    go_wp2
    exact Ext.refl _
  case ha => rfl
  apply wpLoose_val rfl rfl
  case hs =>
    intro w1 hC hd Q1 hQ1
    obtain ⟨hE, hS⟩ := hC
    dsimp only [bare]
    obtain ⟨t0, t1, t2, t3, q0, q1, q2, q3, q4, q5⟩ := (⟨hS.2.1.2 0 _ rfl, hS.2.1.2 1 _ rfl, hS.2.1.2 2 _ rfl, hS.2.1.2 3 _ rfl, hS.1.2 0 _ rfl, hS.1.2 1 _ rfl, hS.1.2 2 _ rfl, hS.1.2 3 _ rfl, hS.1.2 4 _ rfl, hS.1.2 5 _ rfl⟩ : _ ∧ _ ∧ _ ∧ _ ∧ _ ∧ _ ∧ _ ∧ _ ∧ _ ∧ _)
    clear hd hE
    try clear hS
    go_wp2
    exact Ext.refl _
  case ha => rfl
  apply wpLoose_val rfl rfl
  case hs =>
    intro w1 hC hd Q1 hQ1
    obtain ⟨hE, hS⟩ := hC
    dsimp only [bare]
    obtain ⟨t0, t1, t2, t3, q0, q1, q2, q3, q4, q5⟩ := (⟨hS.2.1.2 0 _ rfl, hS.2.1.2 1 _ rfl, hS.2.1.2 2 _ rfl, hS.2.1.2 3 _ rfl, hS.1.2 0 _ rfl, hS.1.2 1 _ rfl, hS.1.2 2 _ rfl, hS.1.2 3 _ rfl, hS.1.2 4 _ rfl, hS.1.2 5 _ rfl⟩ : _ ∧ _ ∧ _ ∧ _ ∧ _ ∧ _ ∧ _ ∧ _ ∧ _ ∧ _)
    clear hd hE
    try clear hS
    go_wp2
    exact Ext.refl _
  case ha => rfl
  apply wpLoose_val rfl rfl
  case hs =>
    intro w1 hC hd Q1 hQ1
    obtain ⟨hE, hS⟩ := hC
    dsimp only [bare]
    obtain ⟨t0, t1, t2, t3, q0, q1, q2, q3, q4, q5⟩ := (⟨hS.2.1.2 0 _ rfl, hS.2.1.2 1 _ rfl, hS.2.1.2 2 _ rfl, hS.2.1.2 3 _ rfl, hS.1.2 0 _ rfl, hS.1.2 1 _ rfl, hS.1.2 2 _ rfl, hS.1.2 3 _ rfl, hS.1.2 4 _ rfl, hS.1.2 5 _ rfl⟩ : _ ∧ _ ∧ _ ∧ _ ∧ _ ∧ _ ∧ _ ∧ _ ∧ _ ∧ _)
    clear hd hE
    try clear hS
    go_wp2
    exact Ext.refl _
  case ha => rfl
  apply wpLoose_val rfl rfl
  case hs =>
    intro w1 hC hd Q1 hQ1
    obtain ⟨hE, hS⟩ := hC
    dsimp only [bare]
    obtain ⟨t0, t1, t2, t3, q0, q1, q2, q3, q4, q5⟩ := (⟨hS.2.1.2 0 _ rfl, hS.2.1.2 1 _ rfl, hS.2.1.2 2 _ rfl, hS.2.1.2 3 _ rfl, hS.1.2 0 _ rfl, hS.1.2 1 _ rfl, hS.1.2 2 _ rfl, hS.1.2 3 _ rfl, hS.1.2 4 _ rfl, hS.1.2 5 _ rfl⟩ : _ ∧ _ ∧ _ ∧ _ ∧ _ ∧ _ ∧ _ ∧ _ ∧ _ ∧ _)
    clear hd hE
    try clear hS
    go_wp2
    exact Ext.refl _
  case ha => rfl
  refine wpLoose_rel rfl rfl ?_ (fun va_16 => ?_)
  · intro w1 hC hd Q1 hQ1
    obtain ⟨hE, hS⟩ := hC
    dsimp only [bare]
    have hcc := hS.2.2.1
    clear hd hS
    go_wp2_with fail
    refine (HSR.out _ hcc).mono ?_
    rintro e w6 ⟨u3, rfl, r3, x3⟩
    go_wp2_with fail
    exact hQ1 _ _ x3 ⟨_, r3⟩
  apply wpLoose_val rfl rfl
  case hs =>
    intro w1 hC hd Q1 hQ1
    obtain ⟨hE, hS⟩ := hC
    dsimp only [bare]
    have h1 := hS.2.2.2
    obtain ⟨B2, h2⟩ := (hd ⟨16, .data⟩ (by simp) rfl _ rfl (by simp [Act.put]) : ∃ B, OwnL _ B va_16 LR)
    clear hd
    go_wp2_with fail
    refine (HSB.out _ B2 _ _ _ h1 h2).mono ?_
    rintro e w2 ⟨rfl, hb⟩
    go_wp2_with fail
    exact hb
  case ha => rfl
  apply wpLoose_val rfl rfl
  case hs =>
    intro w1 hC hd Q1 hQ1
    obtain ⟨hE, hS⟩ := hC
    dsimp only [bare]
    obtain ⟨t0, t1, t2, t3, q0, q1, q2, q3, q4, q5⟩ := (⟨hS.2.1.2 0 _ rfl, hS.2.1.2 1 _ rfl, hS.2.1.2 2 _ rfl, hS.2.1.2 3 _ rfl, hS.1.2 0 _ rfl, hS.1.2 1 _ rfl, hS.1.2 2 _ rfl, hS.1.2 3 _ rfl, hS.1.2 4 _ rfl, hS.1.2 5 _ rfl⟩ : _ ∧ _ ∧ _ ∧ _ ∧ _ ∧ _ ∧ _ ∧ _ ∧ _ ∧ _)
    clear hd hE
    try clear hS
    go_wp2
    exact Ext.refl _
  case ha => rfl
  apply wpLoose_val rfl rfl
  case hs =>
    intro w1 hC hd Q1 hQ1
    obtain ⟨hE, hS⟩ := hC
    dsimp only [bare]
    obtain ⟨t0, t1, t2, t3, q0, q1, q2, q3, q4, q5⟩ := (⟨hS.2.1.2 0 _ rfl, hS.2.1.2 1 _ rfl, hS.2.1.2 2 _ rfl, hS.2.1.2 3 _ rfl, hS.1.2 0 _ rfl, hS.1.2 1 _ rfl, hS.1.2 2 _ rfl, hS.1.2 3 _ rfl, hS.1.2 4 _ rfl, hS.1.2 5 _ rfl⟩ : _ ∧ _ ∧ _ ∧ _ ∧ _ ∧ _ ∧ _ ∧ _ ∧ _ ∧ _)
    clear hd hE
    try clear hS
    go_wp2
    exact Ext.refl _
  case ha => rfl
  apply wpLoose_val rfl rfl
  case hs =>
    intro w1 hC hd Q1 hQ1
    obtain ⟨hE, hS⟩ := hC
    dsimp only [bare]
    obtain ⟨t0, t1, t2, t3, q0, q1, q2, q3, q4, q5⟩ := (⟨hS.2.1.2 0 _ rfl, hS.2.1.2 1 _ rfl, hS.2.1.2 2 _ rfl, hS.2.1.2 3 _ rfl, hS.1.2 0 _ rfl, hS.1.2 1 _ rfl, hS.1.2 2 _ rfl, hS.1.2 3 _ rfl, hS.1.2 4 _ rfl, hS.1.2 5 _ rfl⟩ : _ ∧ _ ∧ _ ∧ _ ∧ _ ∧ _ ∧ _ ∧ _ ∧ _ ∧ _)
    clear hd hE
    try clear hS
    go_wp2
    exact Ext.refl _
  case ha => rfl
  apply wpLoose_val rfl rfl
  case hs =>
    intro w1 hC hd Q1 hQ1
    obtain ⟨hE, hS⟩ := hC
    dsimp only [bare]
    obtain ⟨t0, t1, t2, t3, q0, q1, q2, q3, q4, q5⟩ := (⟨hS.2.1.2 0 _ rfl, hS.2.1.2 1 _ rfl, hS.2.1.2 2 _ rfl, hS.2.1.2 3 _ rfl, hS.1.2 0 _ rfl, hS.1.2 1 _ rfl, hS.1.2 2 _ rfl, hS.1.2 3 _ rfl, hS.1.2 4 _ rfl, hS.1.2 5 _ rfl⟩ : _ ∧ _ ∧ _ ∧ _ ∧ _ ∧ _ ∧ _ ∧ _ ∧ _ ∧ _)
    clear hd hE
    try clear hS
    go_wp2
    exact Ext.refl _
  case ha => rfl
  apply wpLoose_val rfl rfl
  case hs =>
    intro w1 hC hd Q1 hQ1
    obtain ⟨hE, hS⟩ := hC
    dsimp only [bare]
    obtain ⟨t0, t1, t2, t3, q0, q1, q2, q3, q4, q5⟩ := (⟨hS.2.1.2 0 _ rfl, hS.2.1.2 1 _ rfl, hS.2.1.2 2 _ rfl, hS.2.1.2 3 _ rfl, hS.1.2 0 _ rfl, hS.1.2 1 _ rfl, hS.1.2 2 _ rfl, hS.1.2 3 _ rfl, hS.1.2 4 _ rfl, hS.1.2 5 _ rfl⟩ : _ ∧ _ ∧ _ ∧ _ ∧ _ ∧ _ ∧ _ ∧ _ ∧ _ ∧ _)
    clear hd hE
    try clear hS
    go_wp2
    exact Ext.refl _
  case ha => rfl
  apply wpLoose_val rfl rfl
  case hs =>
    intro w1 hC hd Q1 hQ1
    obtain ⟨hE, hS⟩ := hC
    dsimp only [bare]
    obtain ⟨t0, t1, t2, t3, q0, q1, q2, q3, q4, q5⟩ := (⟨hS.2.1.2 0 _ rfl, hS.2.1.2 1 _ rfl, hS.2.1.2 2 _ rfl, hS.2.1.2 3 _ rfl, hS.1.2 0 _ rfl, hS.1.2 1 _ rfl, hS.1.2 2 _ rfl, hS.1.2 3 _ rfl, hS.1.2 4 _ rfl, hS.1.2 5 _ rfl⟩ : _ ∧ _ ∧ _ ∧ _ ∧ _ ∧ _ ∧ _ ∧ _ ∧ _ ∧ _)
    clear hd hE
    try clear hS
    go_wp2
    exact Ext.refl _
  case ha => rfl
  apply wpLoose_val rfl rfl
  case hs =>
    intro w1 hC hd Q1 hQ1
    obtain ⟨hE, hS⟩ := hC
    dsimp only [bare]
    obtain ⟨t0, t1, t2, t3, q0, q1, q2, q3, q4, q5⟩ := (⟨hS.2.1.2 0 _ rfl, hS.2.1.2 1 _ rfl, hS.2.1.2 2 _ rfl, hS.2.1.2 3 _ rfl, hS.1.2 0 _ rfl, hS.1.2 1 _ rfl, hS.1.2 2 _ rfl, hS.1.2 3 _ rfl, hS.1.2 4 _ rfl, hS.1.2 5 _ rfl⟩ : _ ∧ _ ∧ _ ∧ _ ∧ _ ∧ _ ∧ _ ∧ _ ∧ _ ∧ _)
    clear hd hE
    try clear hS
    go_wp2
    exact Ext.refl _
  case ha => rfl
  refine wpLoose_nil ?_
  intro wa hEa hSa hFa
  have X6 : Hid (Ext w wa) := X5.out.trans ((Ext.refl w5).drew.trans hEa)
  clear hFa hSa hEa
  go_wp2
  go_ret
  have h0 : 0 < nR := by omega
  refine ⟨?_, X6.out⟩
  show Ending.returned (Value.bool (decide (0 < nR))) = _
  rw [decide_eq_true h0]
  case hAa => kernel_rfl
  case hla => exact ⟨trivial, trivial, trivial, trivial, fun _ _ _ ⟨B, h⟩ hE => ⟨B, h.ext hE⟩, trivial, trivial, trivial, trivial, fun _ _ _ ⟨B, h⟩ hE => ⟨B, h.ext hE⟩, trivial, trivial, trivial, trivial, trivial, trivial, fun _ _ _ ⟨B, h⟩ hE => ⟨B, h.ext hE⟩, trivial, trivial, trivial, trivial, trivial, trivial, trivial, trivial, trivial⟩

set_option maxRecDepth 100000 in
theorem contract (H : Type) (enc : TypeId × Value → H) (W : World) (base : Nat) (args : Array Value) (ds gs : List (DataW H)) (before : List MemPlace)
    (hval : ∀ (j : Nat) t v, Tryd.f4.params[j]? = some t → args[j]? = some v → Value.okWide Tryd.prog W .any base t v)
    (hW : DataW.Whole enc Tryd.prog Tryd.f4.params.toList Rows.fnCondLinesToldSpec.vars false W args.toList ds gs before) (hL : laidMetH Tryd.prog Rows.fnCondLinesToldRow.laid W) :
    Calls Tryd.prog 4 args W fun e W' => ∃ v, e = .returned v ∧ Rows.fnCondLinesToldSpec.post enc Tryd.prog Tryd.f4 false true false false W args v W' := by
  have hW' := hW
  obtain ⟨p, q, hA0, hV, rfl, hfz, hnd⟩ := hW
  have hA : DataW.TrodAll enc Tryd.prog W 0 (fun _ => true) true Tryd.f4.params.toList args.toList ds p := hA0
  rw [Tryd.params4] at hA hval
  obtain ⟨v0, vs0, d0, ds0, p0, q0, hargs, rfl, rfl, h0, r0⟩ := trodAll_cons hA
  obtain ⟨rfl, rfl, rfl⟩ := trodAll_nil r0
  obtain rfl : args = #[v0] := by cases args; simp_all
  obtain ⟨rfl, rfl⟩ := trodVars_none hV
  have lt0 : ∀ x ∈ p0, x.block < W.heap.size := by obtain ⟨m, hm⟩ := h0; exact DataW.trod_lt m _ _ _ hm
  have k0 := h0
  obtain ⟨a0, len0, cap0, rfl⟩ := okWide_slice Tryd.underlying22 (hval 0 22 v0 rfl rfl)
  have raw0 : Raw W a0 len0 := by
    obtain ⟨fuel, hf⟩ := h0
    rcases open_ints Tryd.underlying22 Tryd.underlying5 (by kernel_rfl) hf with ⟨hcs, _⟩ | ⟨x, l, c, zs, hcs, _, hl, hm, hz, _, hcell, hwz⟩
    · simp [Value.cells] at hcs
      obtain ⟨rfl, rfl, rfl⟩ := hcs
      intro h; omega
    · simp [Value.cells] at hcs
      obtain ⟨rfl, rfl, rfl⟩ := hcs
      have hz' : zs.length = cap0 := by simpa using hz
      intro hpos
      obtain ⟨b, off, spot⟩ := x
      have hspot : spot = none := by simpa [Addr.add] using World.cell?_spot (hcell 0 (by omega))
      subst hspot
      refine ⟨b, off, rfl, fun j hj => ?_⟩
      have hj' : j < zs.length := by omega
      have hw := hwz _ (List.getElem_mem hj')
      have hb := bounds_u8 hw
      refine ⟨(zs[j]).toNat, by omega, ?_⟩
      have := hcell j hj'
      rw [Addr.add_lit] at this
      rw [this, List.getD_eq_getElem?_getD, List.getElem?_eq_getElem hj']
      simp only [Option.getD_some]
      congr 2
      omega
  clear hA0
  have ht := table hL
  have hz : 0 < W.heap.size := World.block_lt_of_cell? W _ (ht.cell gTab 0 (by decide))
  refine (walk a0 len0 cap0 W raw0 ⟨ht, hz⟩).mono fun e W' ⟨he, bel⟩ => ?_
  subst he
  exact ⟨_, rfl, _, _, _, [], _, [], hW', trodAll_mk1 (shut_bool Tryd.underlying4 _), (trodAll_cons_mk (Below.trod laidOut (by kernel_rfl) (of_decide_eq_true (by kernel_rfl)) k0 bel lt0) trodAll_mk0), rfl, bel.frame _, fun h => by cases h⟩

/-- A listed table's cells. -/
def tabCells : DataW Unit → Array Value
  | .agg l => (l.map fun | .lit (.int k n) => Value.int k n | _ => Value.int .i64 0).toArray
  | _ => #[]
def setCells (cs : Array Value) : Obj → Obj
  | .cells _ t fr => .cells cs t fr
  | o => o
/-- A world in which the three tables hold what their initialisers lay. -/
def withTabs (w : World) : World := { w with heap := ((w.heap.modify 0 (setCells (tabCells Rows.laid_internal_strconv_uint64pow10))).modify 1 (setCells (tabCells Rows.laid_math_bits_deBruijn32tab))).modify 2 (setCells (tabCells Rows.laid_math_bits_deBruijn64tab)) }

theorem laid_met (os : Os) : laidMet Tryd.prog Rows.fnCondLinesToldRow.laid ((withTabs (World.holding Tryd.prog os ⟨#[], #[], []⟩)).forCall (fun _ _ => 0) ⟨#[], #[.slice none 0 0], []⟩).memory :=
  laidMet_of_run' 8 (by kernel_rfl) (by kernel_rfl)
theorem reads (os : Os) {H : Type} (enc : TypeId × Value → H) : ∃ places, DataW.whole enc Tryd.prog ((withTabs (World.holding Tryd.prog os ⟨#[], #[], []⟩)).forCall (fun _ _ => 0) ⟨#[], #[.slice none 0 0], []⟩).memory Tryd.f4.params.toList Rows.fnCondLinesToldSpec.vars false #[Value.slice none 0 0].toList 8 = some ([.nil], [], places) :=
  ⟨[], by kernel_rfl⟩

set_option maxRecDepth 100000 in
theorem lifted (os : Os) (started : os.Started) (H : Type) (enc : TypeId × Value → H) (F : Stop.Interp) :
    ReturnsInHanded {} Tryd.checked os 4 .any ((OpenSpec.ofChange Rows.fnCondLinesToldSpec).preRow enc Tryd.prog Tryd.f4 Rows.fnCondLinesToldRow.domain false Rows.fnCondLinesToldRow.laid) (((OpenSpec.ofChange Rows.fnCondLinesToldSpec).at F).post enc Tryd.prog Tryd.f4 false true false false) := by
  obtain ⟨places, hx⟩ := reads os enc
  refine returnsInHanded_of_row (C := Tryd.checked) (s := OpenSpec.ofChange Rows.fnCondLinesToldSpec) own started (by kernel_rfl) Tryd.func4
    (witness_row_at (enc := enc) (C := Tryd.checked) false (withTabs (World.holding Tryd.prog os ⟨#[], #[], []⟩)) #[.slice none 0 0] rfl (by kernel_rfl) (by kernel_rfl) (by kernel_rfl)
      (OpenSpec.preRow_of_cond 8 hx (by kernel_rfl) (fun k hk => by cases hk) (by kernel_rfl) (laid_met os))) ?_
  intro W base args ds gs before hval hW _ _ _ hL _ _
  exact contract H enc W base args ds gs before hval hW hL

theorem said : Rows.FnCondLinesToldSaid :=
  OpenClaim.holds_of_cond 4 Tryd.f4 rfl rfl rfl rfl rfl rfl rfl ⟨rfl, rfl, rfl, rfl, rfl⟩ rfl rfl rfl rfl rfl (by kernel_rfl) Tryd.func4 (by kernel_rfl)
    (of_decide_eq_true (by kernel_rfl)) (by unfold Func.isWrapper; first | (rw [if_pos (by decide +kernel)]; kernel_rfl) | (rw [if_neg (by decide +kernel)]; exact ⟨rfl, rfl⟩))
    (fun os started H enc _ F => by rw [OpenClaim.pre_eq_preRow]; exact lifted os started H enc F)

theorem plain (f : FuncId) (fn : Func) (hf : Tryd.pinned.checked.prog.funcNamed "loop.example/g00397/laws.FnCondLinesTold" = some f) (hfn : Tryd.pinned.checked.prog.funcs[f]? = some fn) :
    false = Tryd.pinned.checked.prog.looks [] ∧ ∀ (j : Nat) t, fn.params[j]? = some t → Tryd.pinned.checked.prog.wantsStandIn t = false := by
  obtain rfl : f = 4 := Option.some.inj ((show Tryd.prog.funcNamed "loop.example/g00397/laws.FnCondLinesTold" = some 4 by kernel_rfl).symm.trans hf) |>.symm
  obtain rfl : fn = Tryd.f4 := (Option.some.inj (Tryd.func4.symm.trans hfn)).symm
  refine ⟨by kernel_rfl, fun j t ht => ?_⟩
  rw [Tryd.params4] at ht
  obtain rfl : t = 22 := by simpa using Array.mem_of_getElem? ht
  exact (show Tryd.prog.wantsStandIn 22 = false by kernel_rfl)

end Go.Proofs.YthflflhcbnianaaDoor.CondTold
namespace Go.Proofs.YthflflhcbnianaaDoor
open Go.ChangeShapes Go.WideShapes Go.ChangeAt Go.RowKit

theorem condTold_card : Rows.FnCondLinesToldCardSaid :=
  Claim7.holds_tied_plain_at .later [] _ _ _ _ CondTold.said (fun _ h => by cases h) (by kernel_rfl) (fun _ h => by cases h) fnCondLinesTold_row_tie rfl ⟨rfl, rfl⟩ (by kernel_rfl) rfl CondTold.plain (by kernel_rfl)
#print axioms condTold_card
end Go.Proofs.YthflflhcbnianaaDoor
