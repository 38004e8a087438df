/- Impl's reader of signs: rows of conditions and of numbers. -/
import Derived.Test.YtojaohdmfahpmaaGreatDoorPackReadPolicy46
import Derived.Test.YtojaohdmfahpmaaGreatDoorWideSl
import Derived.Test.YtojaohdmfahpmaaGreatDoorBoxes
import Derived.Test.YtojaohdmfahpmaaGreatDoorKno
import Derived.Test.YtojaohdmfahpmaaGreatDoorPackReadPolicy45
import Derived.Sort.OwnSortedInts
/- What impl's and spec's RuleHolds answer, of any rule and any call. -/
namespace Go.Proofs.YtojaohdmfahpmaaGreatDoor
open Go.RowKit
set_option linter.unusedVariables false

/-- The cells l lie in an old block. -/
def SegB (W : World) (b o : Nat) (l : List Value) : Prop := b < W.heap.size ∧ Seg W b o l

theorem SegB.step {W W' : World} {b o : Nat} {l : List Value} (h : SegB W b o l) (hE : Ext W W') : SegB W' b o l := ⟨Nat.lt_of_lt_of_le h.1 hE.size, h.2.below hE h.1⟩

theorem SegB.drew {W : World} {b o : Nat} {l : List Value} (h : SegB W b o l) : SegB W.drew b o l := h

theorem ruleH_if (zs : List Int) (cs : List CN) (a d arch num : Int) (ws : List (Int × Int)) : ruleH ⟨zs, cs, a, d⟩ arch num ws = (numH zs num && cs.all fun c => condH c arch num ws) := rfl

theorem numH_nil {zs : List Int} {num : Int} (h : zs.length = 0) : numH zs num = true := by simp [numH, h]

theorem numH_some {zs : List Int} {num : Int} (h : zs.length ≠ 0) : numH zs num = zs.contains num := by simp only [numH, decide_eq_false h, Bool.false_or]

end Go.Proofs.YtojaohdmfahpmaaGreatDoor

/- What spec's RuleHolds answers, of any rule and any call. -/
namespace Go.Proofs.YtojaohdmfahpmaaGreatDoor
open Go.RowKit
set_option linter.unusedVariables false

end Go.Proofs.YtojaohdmfahpmaaGreatDoor

/- A call as a value in memory, whatever its address; what the laws' helpers make of it. -/
namespace Go.Proofs.YtojaohdmfahpmaaGreatDoor
open Go.RowKit
set_option linter.unusedVariables false

/-- The value v is the call of these numbers. -/
def RepCall (arch num : Int) (ws : List (Int × Int)) (v : Value) (w : World) : Prop := ∃ a cap, v = .agg #[.int .i64 arch, .int .i64 num, .slice a ws.length cap] ∧ Wides w a ws

theorem RepCall.step {arch num : Int} {ws : List (Int × Int)} {v : Value} {w w' : World} (h : RepCall arch num ws v w) (hE : Ext w w') : RepCall arch num ws v w' := by
  obtain ⟨a, cap, rfl, hw⟩ := h
  exact ⟨a, cap, rfl, hw.below hE (Nat.le_refl _)⟩

def fieldR (arch num : Int) (ws : List (Int × Int)) (t : Int) : Int := if fieldOk arch num ws t then fieldV arch num ws t else 0

end Go.Proofs.YtojaohdmfahpmaaGreatDoor

/- Rules in memory; what impl's and spec's ruleOk, l09Rule and RuleHolds answer of one of them. -/
namespace Go.Proofs.YtojaohdmfahpmaaGreatDoor
open Go.RowKit
set_option linter.unusedVariables false

/-- The four cells of a rule. -/
def RuleL (w : World) (r : RN) (l : List Value) : Prop :=
  ∃ a1 n1 c1 a2 n2 c2, l = [.slice a1 n1 c1, .slice a2 n2 c2, .int .i64 r.act, .int .i64 r.data] ∧ n1 = r.nums.length ∧ n2 = r.conds.length ∧ Nums w a1 r.nums ∧ Conds w a2 r.conds

theorem RuleL.step {w w' : World} {r : RN} {l : List Value} (h : RuleL w r l) (hE : Ext w w') : RuleL w' r l := by
  obtain ⟨a1, n1, c1, a2, n2, c2, e, e1, e2, h1, h2⟩ := h
  exact ⟨a1, n1, c1, a2, n2, c2, e, e1, e2, h1.step hE, h2.step hE⟩

theorem RuleL.form {w : World} {r : RN} {l : List Value} (h : RuleL w r l) : ∃ a1 n1 c1 a2 n2 c2 ac da, l = [.slice a1 n1 c1, .slice a2 n2 c2, .int .i64 ac, .int .i64 da] ∧ r.act = ac ∧ r.data = da := by
  obtain ⟨a1, n1, c1, a2, n2, c2, e, _⟩ := h
  exact ⟨a1, n1, c1, a2, n2, c2, _, _, e, rfl, rfl⟩

/-- The value v is the rule r. -/
def RepRule (r : RN) (v : Value) (w : World) : Prop := ∃ l, v = .agg l.toArray ∧ RuleL w r l

theorem RepRule.step {r : RN} {v : Value} {w w' : World} (h : RepRule r v w) (hE : Ext w w') : RepRule r v w' := by
  obtain ⟨l, e, hl⟩ := h
  exact ⟨l, e, hl.step hE⟩

/-- No more numbers or conditions than the laws look at. -/
def Small (r : RN) : Prop := r.nums.length ≤ 1048576 ∧ r.conds.length ≤ 1048576

theorem ruleOk_rep {r : RN} {v : Value} {w : World} (hs : Small r) (h : RepRule r v w) : Calls Tryz.prog 54 #[v] w fun e w' => e = .returned (.bool (ruleB r)) ∧ Ext w w' := by
  obtain ⟨l, rfl, a1, n1, c1, a2, n2, c2, rfl, rfl, rfl, h1, h2⟩ := h
  exact ruleOk_any r.nums r.conds r.act r.data a1 a2 c1 c2 w hs.1 hs.2 h1 h2

theorem l09Rule_rep {r : RN} {v : Value} {w : World} (hs : Small r) (h : RepRule r v w) : Calls Tryz.prog 79 #[v] w fun e w' => e = .returned (.bool (ruleB r)) ∧ Ext w w' := by
  obtain ⟨l, rfl, a1, n1, c1, a2, n2, c2, rfl, rfl, rfl, h1, h2⟩ := h
  exact l09Rule_any r.nums r.conds r.act r.data a1 a2 c1 c2 w hs.1 hs.2 h1 h2

/-- A slice of rules in memory, four cells each. -/
def Rules (w : World) (a : Option Addr) (rs : List RN) : Prop :=
  0 < rs.length → ∃ b off, a = some ⟨b, off, none⟩ ∧ b < w.heap.size ∧ ∀ j, j < rs.length → ∃ l, Seg w b (off + j * 4) l ∧ RuleL w (rs.getD j r0) l

theorem Rules.step {w w' : World} {a : Option Addr} {rs : List RN} (h : Rules w a rs) (hE : Ext w w') : Rules w' a rs := fun hp => by
  obtain ⟨b, off, ha, hb, hc⟩ := h hp
  refine ⟨b, off, ha, Nat.lt_of_lt_of_le hb hE.size, fun j hj => ?_⟩
  obtain ⟨l, h1, h2⟩ := hc j hj
  exact ⟨l, h1.below hE hb, h2.step hE⟩

theorem Rules.at {w : World} {a : Option Addr} {rs : List RN} (h : Rules w a rs) {k : Nat} (hk : k < rs.length) : ∃ b off l, a = some ⟨b, off, none⟩ ∧ SegB w b (off + k * 4) l ∧ RuleL w (rs.getD k r0) l := by
  obtain ⟨b, off, ha, hb, hx⟩ := h (by omega)
  obtain ⟨l, h1, h2⟩ := hx k hk
  exact ⟨b, off, l, ha, ⟨hb, h1⟩, h2⟩

def SmallR (rs : List RN) : Prop := rs.length ≤ 1048576 ∧ ∀ k, k < rs.length → Small (rs.getD k r0)

theorem policyB_if (ar ac da : Int) (rs : List RN) : policyB ⟨ar, ac, da, rs⟩ = (halfB ar && outB ac da && decide (rs.length ≤ 10) && rs.all ruleB) := rfl

end Go.Proofs.YtojaohdmfahpmaaGreatDoor

/- What the laws' helpers over slices of ints, of conditions, and over rules answer: toIntS, toCondS, toRule, eqIntS, eqCondS, eqRule. -/
namespace Go.Proofs.YtojaohdmfahpmaaGreatDoor
open Go.RowKit
set_option linter.unusedVariables false

theorem Tryz.info9 : (Tryz.prog.info? 3).map (fun i => (i.zero, i.size, i.bytes)) = some (some (.int .i64 0), 1, 8) := by kernel_rfl

theorem Tryz.infoCo : (Tryz.prog.info? 78).map (fun i => (i.zero, i.size, i.bytes)) = some (some (.agg #[.int .i64 0, .int .i64 0, .int .i64 0, .int .i64 0, .int .i64 0, .int .i64 0]), 6, 48) := by kernel_rfl

set_option maxHeartbeats 800000 in
theorem eqIntS_nums (a1 a2 : Option Addr) (c1 c2 n : Nat) (zs : List Int) (w : World) (hn : n = zs.length) (hl : zs.length ≤ 1048576) (h1 : Nums w a1 zs) (h2 : Nums w a2 zs) :
    Calls Tryz.prog 118 #[.slice a1 n c1, .slice a2 n c2] w fun e w' => e = .returned (.bool true) ∧ Ext w w' := by
  have HN : Hid (n = zs.length) := hn
  have H1 : Hid (∀ W, Ext w W → Nums W a1 zs ∧ Nums W a2 zs) := fun W hE => ⟨h1.step hE, h2.step hE⟩
  have hl' : n ≤ 1048576 := by omega
  clear h1 h2 hn hl
  go_enter Tryz.func118, Tryz.ntmps118
  go_wp2
  go_loopw [5] (fun i wr => ∃ k : Nat, i = .int .i64 k ∧ k ≤ n ∧ Hid (Ext w wr)) (fun i _ => n - (intOf i).toNat)
  case atStart => exact ⟨0, rfl, by omega, Ext.refl _⟩
  case round =>
    obtain ⟨k, rfl, hk, hE⟩ := hrel
    by_cases hlt : k < n
    · have bk : (k : Int) < (n : Int) := by omega
      obtain ⟨z, hz⟩ : ∃ z, z = zs.getD k 0 := ⟨_, rfl⟩
      obtain ⟨b1, o1, rfl, l1, d1⟩ := (H1.out wr hE.out).1.at (k := k) (by have := HN.out; omega)
      obtain ⟨b2, o2, rfl, l2, d2⟩ := (H1.out wr hE.out).2.at (k := k) (by have := HN.out; omega)
      rw [← hz] at d1 d2
      have s1 : SegB wr b1 (o1 + k) [.int .i64 z] := ⟨l1, fun i v hv => by
        match i with
        | 0 => simp at hv; subst hv; exact d1
        | i + 1 => simp at hv⟩
      have s2 : SegB wr b2 (o2 + k) [.int .i64 z] := ⟨l2, fun i v hv => by
        match i with
        | 0 => simp at hv; subst hv; exact d2
        | i + 1 => simp at hv⟩
      clear hz d1 d2 l1 l2
      go_wp2_with fail
      refine' wp_region_loose (.inl _ :: .inl _ :: .inl _ :: .inl _ :: .inl _ :: .inl _ :: .inl _ :: .inl _ :: .inl _ :: []) (fun w' => SegB w' b1 (o1 + k) [.int .i64 z] ∧ SegB w' b2 (o2 + k) [.int .i64 z]) (by kernel_rfl) (by kernel_rfl) (⟨s1.drew, s2.drew⟩) (fun _ _ h hE => ⟨h.1.step hE, h.2.step hE⟩) ?hAa ?hla ?hMa
      case' hMa => skip
      apply wpLoose_val rfl rfl
      case hs =>
        intro w1 hC hd Q1 hQ1
        obtain ⟨hE, hS⟩ := hC
        dsimp only [bare]
        obtain ⟨q1, q2⟩ := (⟨hS.1.2.one, hS.2.2.one⟩ : _ ∧ _)
        clear hd hE
        try clear hS
        go_wp2
        exact Ext.refl _
      case ha => rfl
      apply wpLoose_val rfl rfl
      case hs =>
        intro w1 hC hd Q1 hQ1
        obtain ⟨hE, hS⟩ := hC
        dsimp only [bare]
        obtain ⟨q1, q2⟩ := (⟨hS.1.2.one, hS.2.2.one⟩ : _ ∧ _)
        clear hd hE
        try clear hS
        go_wp2
        exact Ext.refl _
      case ha => rfl
      apply wpLoose_val rfl rfl
      case hs =>
        intro w1 hC hd Q1 hQ1
        obtain ⟨hE, hS⟩ := hC
        dsimp only [bare]
        obtain ⟨q1, q2⟩ := (⟨hS.1.2.one, hS.2.2.one⟩ : _ ∧ _)
        clear hd hE
        try clear hS
        go_wp2
        exact Ext.refl _
      case ha => rfl
      apply wpLoose_val rfl rfl
      case hs =>
        intro w1 hC hd Q1 hQ1
        obtain ⟨hE, hS⟩ := hC
        dsimp only [bare]
        obtain ⟨q1, q2⟩ := (⟨hS.1.2.one, hS.2.2.one⟩ : _ ∧ _)
        clear hd hE
        try clear hS
        go_wp2
        exact Ext.refl _
      case ha => rfl
      apply wpLoose_val rfl rfl
      case hs =>
        intro w1 hC hd Q1 hQ1
        obtain ⟨hE, hS⟩ := hC
        dsimp only [bare]
        obtain ⟨q1, q2⟩ := (⟨hS.1.2.one, hS.2.2.one⟩ : _ ∧ _)
        clear hd hE
        try clear hS
        go_wp2
        exact Ext.refl _
      case ha => rfl
      apply wpLoose_val rfl rfl
      case hs =>
        intro w1 hC hd Q1 hQ1
        obtain ⟨hE, hS⟩ := hC
        dsimp only [bare]
        obtain ⟨q1, q2⟩ := (⟨hS.1.2.one, hS.2.2.one⟩ : _ ∧ _)
        clear hd hE
        try clear hS
        go_wp2
        exact Ext.refl _
      case ha => rfl
      apply wpLoose_val rfl rfl
      case hs =>
        intro w1 hC hd Q1 hQ1
        obtain ⟨hE, hS⟩ := hC
        dsimp only [bare]
        obtain ⟨q1, q2⟩ := (⟨hS.1.2.one, hS.2.2.one⟩ : _ ∧ _)
        clear hd hE
        try clear hS
        go_wp2
        exact Ext.refl _
      case ha => rfl
      apply wpLoose_val rfl rfl
      case hs =>
        intro w1 hC hd Q1 hQ1
        obtain ⟨hE, hS⟩ := hC
        dsimp only [bare]
        obtain ⟨q1, q2⟩ := (⟨hS.1.2.one, hS.2.2.one⟩ : _ ∧ _)
        clear hd hE
        try clear hS
        go_wp2
        exact Ext.refl _
      case ha => rfl
      apply wpLoose_val rfl rfl
      case hs =>
        intro w1 hC hd Q1 hQ1
        obtain ⟨hE, hS⟩ := hC
        dsimp only [bare]
        obtain ⟨q1, q2⟩ := (⟨hS.1.2.one, hS.2.2.one⟩ : _ ∧ _)
        clear hd hE
        try clear hS
        go_wp2
        exact Ext.refl _
      case ha => rfl
      refine wpLoose_nil ?_
      intro wa hEa hSa hFa
      have HE2 : Hid (Ext w wa) := hE.out.drew.trans hEa
      clear hFa hSa hEa s1 s2
      go_wp2
      go_roundw
      case rel => exact ⟨k + 1, by go_num, by omega, HE2⟩
      case measure => simp [intOf]; omega
      case hAa => kernel_rfl
      case hla => exact ⟨trivial, trivial, trivial, trivial, trivial, trivial, trivial, trivial, trivial, trivial⟩
    · have bk : ¬ ((k : Int) < (n : Int)) := by omega
      go_wp2
      go_ret
      exact ⟨rfl, hE.out⟩

theorem putL6 (W : World) (g o : Nat) (v0 v1 v2 v3 v4 v5 : Value) : putL W g o [v0, v1, v2, v3, v4, v5] = (((((W.setCell ⟨g, o, none⟩ v0).setCell ⟨g, o + 1, none⟩ v1).setCell ⟨g, o + 2, none⟩ v2).setCell ⟨g, o + 3, none⟩ v3).setCell ⟨g, o + 4, none⟩ v4).setCell ⟨g, o + 5, none⟩ v5 := rfl

theorem putL4 (W : World) (g o : Nat) (v0 v1 v2 v3 : Value) : putL W g o [v0, v1, v2, v3] = (((W.setCell ⟨g, o, none⟩ v0).setCell ⟨g, o + 1, none⟩ v1).setCell ⟨g, o + 2, none⟩ v2).setCell ⟨g, o + 3, none⟩ v3 := rfl

set_option maxRecDepth 100000 in
set_option maxHeartbeats 2000000 in
theorem eqCondS_conds (a1 a2 : Option Addr) (c1 c2 n : Nat) (cs : List CN) (w : World) (hn : n = cs.length) (hl : cs.length ≤ 1048576) (h1 : Conds w a1 cs) (h2 : Conds w a2 cs) :
    Calls Tryz.prog 119 #[.slice a1 n c1, .slice a2 n c2] w fun e w' => e = .returned (.bool true) ∧ Ext w w' := by
  have HN : Hid (n = cs.length) := hn
  have H1 : Hid (∀ W, Ext w W → Conds W a1 cs ∧ Conds W a2 cs) := fun W hE => ⟨h1.step hE, h2.step hE⟩
  have hl' : n ≤ 1048576 := by omega
  clear h1 h2 hn hl
  go_enter Tryz.func119, Tryz.ntmps119
  go_wp2
  go_loopw [5] (fun i wr => ∃ k : Nat, i = .int .i64 k ∧ k ≤ n ∧ Hid (Ext w wr)) (fun i _ => n - (intOf i).toNat)
  case atStart => exact ⟨0, rfl, by omega, Ext.refl _⟩
  case round =>
    obtain ⟨k, rfl, hk, hE⟩ := hrel
    by_cases hlt : k < n
    · have bk : (k : Int) < (n : Int) := by omega
      obtain ⟨c, hc⟩ : ∃ c, c = cs.getD k c0 := ⟨_, rfl⟩
      obtain ⟨b1, o1, rfl, l1, d1⟩ := (H1.out wr hE.out).1.at (k := k) (by have := HN.out; omega) hc
      obtain ⟨b2, o2, rfl, l2, d2⟩ := (H1.out wr hE.out).2.at (k := k) (by have := HN.out; omega) hc
      obtain ⟨ag, mh, ml, cm, vh, vl⟩ := c
      have s1 : SegB wr b1 (o1 + k * 6) [.int .i64 ag, .int .i64 mh, .int .i64 ml, .int .i64 cm, .int .i64 vh, .int .i64 vl] := ⟨l1, d1⟩
      have s2 : SegB wr b2 (o2 + k * 6) [.int .i64 ag, .int .i64 mh, .int .i64 ml, .int .i64 cm, .int .i64 vh, .int .i64 vl] := ⟨l2, d2⟩
      clear hc d1 d2 l1 l2
      go_wp2_with fail
      refine' wp_region_loose (.inl _ :: .inl _ :: .inl _ :: .inl _ :: .inl _ :: .inl _ :: .inl _ :: .inl _ :: .inl _ :: .inl _ :: []) (fun w' => SegB w' b1 (o1 + k * 6) [.int .i64 ag, .int .i64 mh, .int .i64 ml, .int .i64 cm, .int .i64 vh, .int .i64 vl] ∧ SegB w' b2 (o2 + k * 6) [.int .i64 ag, .int .i64 mh, .int .i64 ml, .int .i64 cm, .int .i64 vh, .int .i64 vl]) (by kernel_rfl) (by kernel_rfl) (⟨s1.drew, s2.drew⟩) (fun _ _ h hE => ⟨h.1.step hE, h.2.step hE⟩) ?hAa ?hla ?hMa
      case' hMa => skip
      apply wpLoose_val rfl rfl
      case hs =>
        intro w1 hC hd Q1 hQ1
        obtain ⟨hE, hS⟩ := hC
        dsimp only [bare]
        obtain ⟨⟨p0, p1, p2, p3, p4, p5⟩, ⟨q0, q1, q2, q3, q4, q5⟩⟩ := (⟨hS.1.2.six, hS.2.2.six⟩ : _ ∧ _)
        clear hd hE
        try clear hS
        go_wp2
        exact Ext.refl _
      case ha => rfl
      apply wpLoose_val rfl rfl
      case hs =>
        intro w1 hC hd Q1 hQ1
        obtain ⟨hE, hS⟩ := hC
        dsimp only [bare]
        obtain ⟨⟨p0, p1, p2, p3, p4, p5⟩, ⟨q0, q1, q2, q3, q4, q5⟩⟩ := (⟨hS.1.2.six, hS.2.2.six⟩ : _ ∧ _)
        clear hd hE
        try clear hS
        go_wp2
        exact Ext.refl _
      case ha => rfl
      apply wpLoose_val rfl rfl
      case hs =>
        intro w1 hC hd Q1 hQ1
        obtain ⟨hE, hS⟩ := hC
        dsimp only [bare]
        obtain ⟨⟨p0, p1, p2, p3, p4, p5⟩, ⟨q0, q1, q2, q3, q4, q5⟩⟩ := (⟨hS.1.2.six, hS.2.2.six⟩ : _ ∧ _)
        clear hd hE
        try clear hS
        go_wp2
        exact Ext.refl _
      case ha => rfl
      apply wpLoose_val rfl rfl
      case hs =>
        intro w1 hC hd Q1 hQ1
        obtain ⟨hE, hS⟩ := hC
        dsimp only [bare]
        obtain ⟨⟨p0, p1, p2, p3, p4, p5⟩, ⟨q0, q1, q2, q3, q4, q5⟩⟩ := (⟨hS.1.2.six, hS.2.2.six⟩ : _ ∧ _)
        clear hd hE
        try clear hS
        go_wp2
        exact Ext.refl _
      case ha => rfl
      apply wpLoose_val rfl rfl
      case hs =>
        intro w1 hC hd Q1 hQ1
        obtain ⟨hE, hS⟩ := hC
        dsimp only [bare]
        obtain ⟨⟨p0, p1, p2, p3, p4, p5⟩, ⟨q0, q1, q2, q3, q4, q5⟩⟩ := (⟨hS.1.2.six, hS.2.2.six⟩ : _ ∧ _)
        clear hd hE
        try clear hS
        go_wp2
        exact Ext.refl _
      case ha => rfl
      apply wpLoose_val rfl rfl
      case hs =>
        intro w1 hC hd Q1 hQ1
        obtain ⟨hE, hS⟩ := hC
        dsimp only [bare]
        obtain ⟨⟨p0, p1, p2, p3, p4, p5⟩, ⟨q0, q1, q2, q3, q4, q5⟩⟩ := (⟨hS.1.2.six, hS.2.2.six⟩ : _ ∧ _)
        clear hd hE
        try clear hS
        go_wp2
        exact Ext.refl _
      case ha => rfl
      apply wpLoose_val rfl rfl
      case hs =>
        intro w1 hC hd Q1 hQ1
        obtain ⟨hE, hS⟩ := hC
        dsimp only [bare]
        obtain ⟨⟨p0, p1, p2, p3, p4, p5⟩, ⟨q0, q1, q2, q3, q4, q5⟩⟩ := (⟨hS.1.2.six, hS.2.2.six⟩ : _ ∧ _)
        clear hd hE
        try clear hS
        go_wp2
        exact Ext.refl _
      case ha => rfl
      apply wpLoose_val rfl rfl
      case hs =>
        intro w1 hC hd Q1 hQ1
        obtain ⟨hE, hS⟩ := hC
        dsimp only [bare]
        obtain ⟨⟨p0, p1, p2, p3, p4, p5⟩, ⟨q0, q1, q2, q3, q4, q5⟩⟩ := (⟨hS.1.2.six, hS.2.2.six⟩ : _ ∧ _)
        clear hd hE
        try clear hS
        go_wp2
        exact Ext.refl _
      case ha => rfl
      apply wpLoose_val rfl rfl
      case hs =>
        intro w1 hC hd Q1 hQ1
        obtain ⟨hE, hS⟩ := hC
        dsimp only [bare]
        clear hd
        go_wp2_with fail
        refine (eqCond_same ag mh ml cm vh vl _).mono ?_
        rintro e w2 ⟨rfl, hb⟩
        go_wp2_with fail
        exact hb
      case ha => rfl
      apply wpLoose_val rfl rfl
      case hs =>
        intro w1 hC hd Q1 hQ1
        obtain ⟨hE, hS⟩ := hC
        dsimp only [bare]
        obtain ⟨⟨p0, p1, p2, p3, p4, p5⟩, ⟨q0, q1, q2, q3, q4, q5⟩⟩ := (⟨hS.1.2.six, hS.2.2.six⟩ : _ ∧ _)
        clear hd hE
        try clear hS
        go_wp2
        exact Ext.refl _
      case ha => rfl
      refine wpLoose_nil ?_
      intro wa hEa hSa hFa
      have HE2 : Hid (Ext w wa) := hE.out.drew.trans hEa
      clear hFa hSa hEa s1 s2
      go_wp2
      go_roundw
      case rel => exact ⟨k + 1, by go_num, by omega, HE2⟩
      case measure => simp [intOf]; omega
      case hAa => kernel_rfl
      case hla => exact ⟨trivial, trivial, trivial, trivial, trivial, trivial, trivial, trivial, trivial, trivial, trivial⟩
    · have bk : ¬ ((k : Int) < (n : Int)) := by omega
      go_wp2
      go_ret
      exact ⟨rfl, hE.out⟩

end Go.Proofs.YtojaohdmfahpmaaGreatDoor

/- What the laws' helpers over rules answer: toRule, eqRule, szRule. -/
namespace Go.Proofs.YtojaohdmfahpmaaGreatDoor
open Go.RowKit
set_option linter.unusedVariables false

theorem Nums.far {w : World} {b o : Nat} {zs : List Int} (h : Nums w (some ⟨b, o, none⟩) zs) {k : Nat} (i : Nat) (hk : b ≠ k) (v : Value) : Nums (w.setCell ⟨k, i, none⟩ v) (some ⟨b, o, none⟩) zs := h.put (p := i) hk [v]

theorem Conds.far {w : World} {b o : Nat} {cs : List CN} (h : Conds w (some ⟨b, o, none⟩) cs) {k : Nat} (i : Nat) (hk : b ≠ k) (v : Value) : Conds (w.setCell ⟨k, i, none⟩ v) (some ⟨b, o, none⟩) cs := h.put (p := i) hk [v]

/-- The four cells of a rule whose memory lies from block B on. -/
def RuleG (B : Nat) (w : World) (r : RN) (l : List Value) : Prop :=
  ∃ g1 n1 c1 g2 n2 c2, l = [.slice (some ⟨g1, 0, none⟩) n1 c1, .slice (some ⟨g2, 0, none⟩) n2 c2, .int .i64 r.act, .int .i64 r.data] ∧ n1 = r.nums.length ∧ n2 = r.conds.length ∧ B ≤ g1 ∧ B ≤ g2 ∧ Nums w (some ⟨g1, 0, none⟩) r.nums ∧ Conds w (some ⟨g2, 0, none⟩) r.conds ∧ n1 ≤ c1

theorem RuleG.rule {B : Nat} {w : World} {r : RN} {l : List Value} (h : RuleG B w r l) : RuleL w r l := by
  obtain ⟨g1, n1, c1, g2, n2, c2, e, e1, e2, _, _, h1, h2, _⟩ := h
  exact ⟨_, n1, c1, _, n2, c2, e, e1, e2, h1, h2⟩

theorem RuleG.step {B : Nat} {w w' : World} {r : RN} {l : List Value} (h : RuleG B w r l) (hE : Ext w w') : RuleG B w' r l := by
  obtain ⟨g1, n1, c1, g2, n2, c2, e, e1, e2, b1, b2, h1, h2, h3⟩ := h
  exact ⟨g1, n1, c1, g2, n2, c2, e, e1, e2, b1, b2, h1.step hE, h2.step hE, h3⟩

theorem RuleG.mono {B C : Nat} {w : World} {r : RN} {l : List Value} (h : RuleG B w r l) (hC : C ≤ B) : RuleG C w r l := by
  obtain ⟨g1, n1, c1, g2, n2, c2, e, e1, e2, b1, b2, h1, h2, h3⟩ := h
  exact ⟨g1, n1, c1, g2, n2, c2, e, e1, e2, by omega, by omega, h1, h2, h3⟩

theorem RuleG.put {B : Nat} {w : World} {r : RN} {l : List Value} (h : RuleG B w r l) {k : Nat} (hk : k < B) (o : Nat) (vs : List Value) : RuleG B (putL w k o vs) r l := by
  obtain ⟨g1, n1, c1, g2, n2, c2, e, e1, e2, b1, b2, h1, h2, h3⟩ := h
  exact ⟨g1, n1, c1, g2, n2, c2, e, e1, e2, b1, b2, h1.put (by omega) vs, h2.put (by omega) vs, h3⟩

set_option maxHeartbeats 1000000 in
theorem eqRule_any (zs : List Int) (cs : List CN) (act data : Int) (a1 a2 b1 b2 : Option Addr) (n1 n2 c1 c2 d1 d2 : Nat) (w : World) (e1 : n1 = zs.length) (e2 : n2 = cs.length) (l1 : zs.length ≤ 1048576) (l2 : cs.length ≤ 1048576) (h1 : Nums w a1 zs) (h2 : Conds w a2 cs) (k1 : Nums w b1 zs) (k2 : Conds w b2 cs) :
    Calls Tryz.prog 86 #[.agg #[.slice a1 n1 c1, .slice a2 n2 c2, .int .i64 act, .int .i64 data], .agg #[.slice b1 n1 d1, .slice b2 n2 d2, .int .i64 act, .int .i64 data]] w fun e w' => e = .returned (.bool true) ∧ Ext w w' := by
  have H1 : Hid (∀ W, Ext w W → Calls Tryz.prog 118 #[.slice a1 n1 c1, .slice b1 n1 d1] W fun e w' => e = .returned (.bool true) ∧ Ext W w') := fun W hE => eqIntS_nums a1 b1 c1 d1 n1 zs W e1 l1 (h1.step hE) (k1.step hE)
  have H2 : Hid (∀ W, Ext w W → Calls Tryz.prog 119 #[.slice a2 n2 c2, .slice b2 n2 d2] W fun e w' => e = .returned (.bool true) ∧ Ext W w') := fun W hE => eqCondS_conds a2 b2 c2 d2 n2 cs W e2 l2 (h2.step hE) (k2.step hE)
  clear h1 h2 k1 k2 l1 l2 e1 e2
  go_enter Tryz.func86, Tryz.ntmps86
  go_wp2_with fail
  refine (H1.out _ ((Ext.one w _).alloc _)).mono ?_
  rintro e w1 ⟨rfl, x1⟩
  have X1 : Hid (Ext w w1) := ((Ext.one w _).alloc _).trans x1
  have p1 : Kn w1 w.heap.size [.slice a1 n1 c1, .slice a2 n2 c2, .int .i64 act, .int .i64 data] 53 := ((Kn.new w _ _).alloc _).ext x1
  have p2 : Kn w1 (w.heap.size + 1) [.slice b1 n1 d1, .slice b2 n2 d2, .int .i64 act, .int .i64 data] 53 := (Kn.new' _ _ _ _ (by simp)).ext x1
  obtain ⟨q1, q2⟩ := (⟨p1.cell 1 _ rfl, p2.cell 1 _ rfl⟩ : _ ∧ _)
  clear x1
  go_wp2_with fail
  refine (H2.out _ X1.out).mono ?_
  rintro e w2 ⟨rfl, x2⟩
  have X2 : Hid (Ext w w2) := X1.out.trans x2
  have p3 := p1.ext x2
  have p4 := p2.ext x2
  clear q1 q2 x2 p1 p2
  obtain ⟨q1, q2, q3, q4⟩ := (⟨p3.cell 2 _ rfl, p3.cell 3 _ rfl, p4.cell 2 _ rfl, p4.cell 3 _ rfl⟩ : _ ∧ _ ∧ _ ∧ _)
  clear p3 p4
  go_wp2
  go_ret
  exact ⟨rfl, X2.out⟩

theorem eqRule_rep {r : RN} {v u : Value} {w : World} (hs : Small r) (h : RepRule r v w) (k : RepRule r u w) : Calls Tryz.prog 86 #[v, u] w fun e w' => e = .returned (.bool true) ∧ Ext w w' := by
  obtain ⟨l, rfl, a1, n1, c1, a2, n2, c2, rfl, e1, e2, h1, h2⟩ := h
  obtain ⟨m, rfl, b1, m1, d1, b2, m2, d2, rfl, f1, f2, k1, k2⟩ := k
  obtain rfl : m1 = n1 := by omega
  obtain rfl : m2 = n2 := by omega
  exact eqRule_any r.nums r.conds r.act r.data a1 a2 b1 b2 m1 m2 c1 c2 d1 d2 w e1 e2 hs.1 hs.2 h1 h2 k1 k2

end Go.Proofs.YtojaohdmfahpmaaGreatDoor

/- What impl's PolicyOk answers, of any policy. -/
namespace Go.Proofs.YtojaohdmfahpmaaGreatDoor
open Go.RowKit
set_option linter.unusedVariables false

set_option maxRecDepth 100000 in
set_option maxHeartbeats 3200000 in
theorem iPolicyOk_any (ar ac da : Int) (a : Option Addr) (cap : Nat) (rs : List RN) (w : World) (hs : SmallR rs) (h : Rules w a rs) :
    Calls Tryz.prog 22 #[.agg #[.int .i64 ar, .int .i64 ac, .int .i64 da, .slice a rs.length cap]] w fun e w' => e = .returned (.bool (policyB ⟨ar, ac, da, rs⟩)) ∧ Ext w w' := by
  obtain ⟨n, hn⟩ : ∃ n, n = rs.length := ⟨_, rfl⟩
  have HB : Hid (policyB ⟨ar, ac, da, rs⟩ = (halfB ar && outB ac da && decide (n ≤ 10) && rs.all ruleB)) := by rw [hn]; rfl
  have HN : Hid (n = rs.length ∧ ∀ k, k < rs.length → Small (rs.getD k r0)) := ⟨hn, hs.2⟩
  have HR : Hid (∀ W, Ext w W → Rules W a rs) := fun W hE => h.step hE
  have hl := hs.1
  rw [← hn] at hl ⊢
  clear h hn hs
  obtain ⟨z1, hz1⟩ : ∃ z1, z1 = halfB ar := ⟨_, rfl⟩
  obtain ⟨z2, hz2⟩ : ∃ z2, z2 = outB ac da := ⟨_, rfl⟩
  have H1 : Hid (∀ W, Calls Tryz.prog 52 #[.int .i64 ar] W fun e w' => e = .returned (.bool z1) ∧ W = w') := fun W => by rw [hz1]; exact iHalf_any ar W
  have H2 : Hid (∀ W, Calls Tryz.prog 53 #[.int .i64 ac, .int .i64 da] W fun e w' => e = .returned (.bool z2) ∧ W = w') := fun W => by rw [hz2]; exact outcomeOk_any ac da W
  rw [← hz1, ← hz2] at HB
  clear hz1 hz2
  obtain ⟨W, hW⟩ : ∃ W, W = w.alloc (.cells #[.int .i64 ar, .int .i64 ac, .int .i64 da, .slice a n cap] 26) := ⟨_, rfl⟩
  have HX : Hid (CellsAt W w.heap.size [.int .i64 ar, .int .i64 ac, .int .i64 da, .slice a n cap] ∧ Ext w W) := by
    rw [hW]
    exact ⟨CellsAt.new w _ _, Ext.one w _⟩
  have HW : Hid (W = w.alloc (.cells #[.int .i64 ar, .int .i64 ac, .int .i64 da, .slice a n cap] 26)) := hW
  clear hW
  cases z1
  · go_enter Tryz.func22, Tryz.ntmps22
    go_wp2_with (go_at_call 52; refine (H1.out _).mono ?_; rintro e w' ⟨rfl, rfl⟩)
    go_ret
    exact ⟨by rw [HB.out]; rfl, Ext.one _ _⟩
  cases z2
  · go_enter Tryz.func22, Tryz.ntmps22
    go_wp2_with (first | (go_at_call 52; refine (H1.out _).mono ?_; rintro e w' ⟨rfl, rfl⟩) | (go_at_call 53; refine (H2.out _).mono ?_; rintro e w' ⟨rfl, rfl⟩))
    go_ret
    exact ⟨by rw [HB.out]; rfl, Ext.one _ _⟩
  by_cases h10 : n ≤ 10
  · have h10' : ¬ (10 : Int) < (n : Int) := by omega
    have HY : Hid (policyB ⟨ar, ac, da, rs⟩ = rs.all ruleB) := by rw [HB.out, decide_eq_true h10]; rfl
    clear HB h10
    go_enter Tryz.func22, Tryz.ntmps22
    go_wp2_with (first | (go_at_call 52; refine (H1.out _).mono ?_; rintro e w' ⟨rfl, rfl⟩) | (go_at_call 53; refine (H2.out _).mono ?_; rintro e w' ⟨rfl, rfl⟩))
    rw [← HW.out]
    go_loopw [26] (fun i wr => ∃ k : Nat, i = .int .i64 k ∧ k ≤ n ∧ Hid (Ext W wr) ∧ Hid ((rs.take k).all ruleB = true)) (fun i _ => n - (intOf i).toNat)
    case atStart => exact ⟨0, rfl, by omega, Ext.refl _, by simp [Hid]⟩
    case round =>
      obtain ⟨k, rfl, hk, hE, hall⟩ := hrel
      by_cases hlt : k < n
      · have bk : (k : Int) < (n : Int) := by omega
        obtain ⟨b, off, l, rfl, ⟨hbl, hseg⟩, hL⟩ := (HR.out wr (HX.out.2.trans hE.out)).at (k := k) (by have := HN.out.1; omega)
        obtain ⟨a1, n1, c1, a2, n2, c2, xc, xd, rfl, _, _⟩ := hL.form
        obtain ⟨p0, p1, p2, p3⟩ := hseg.four
        obtain ⟨z, hz⟩ : ∃ z, z = ruleB (rs.getD k r0) := ⟨_, rfl⟩
        have HZ : Hid (z = ruleB (rs.getD k r0)) := hz
        have HD : Hid (∀ W', Ext wr W' → Calls Tryz.prog 54 #[.agg #[.slice a1 n1 c1, .slice a2 n2 c2, .int .i64 xc, .int .i64 xd]] W' fun e w' => e = .returned (.bool z) ∧ Ext W' w') := fun W' hx => by
          rw [hz]
          exact ruleOk_rep (HN.out.2 k (by have := HN.out.1; omega)) ⟨_, rfl, hL.step hx⟩
        clear hz hL hseg hbl
        go_wp2_with fail
        refine (HD.out _ (Ext.one _ _)).mono ?_
        rintro e w2 ⟨rfl, x2⟩
        have X2 : Hid (Ext W w2) := (hE.out.alloc _).trans x2
        clear x2 p0 p1 p2 p3
        cases z
        · have HF : Hid (rs.all ruleB = false) := all_bad (k := k) (d := r0) (by have := HN.out.1; omega) HZ.out.symm
          clear hall
          go_wp2
          go_ret
          exact ⟨by rw [HY.out, HF.out]; rfl, HX.out.2.trans X2.out⟩
        · have HT : Hid ((rs.take (k + 1)).all ruleB = true) := by
            unfold Hid
            rw [all_get rs ruleB r0 k (by have := HN.out.1; omega), hall.out, ← HZ.out]
            rfl
          clear hall
          go_wp2
          go_roundw
          case rel => exact ⟨k + 1, by go_num, by omega, X2, HT⟩
          case measure => simp [intOf]; omega
      · have hkn : k = n := by omega
        have HT : Hid (rs.all ruleB = true) := all_end (k := k) (by have := HN.out.1; omega) hall.out
        have bk : ¬ ((k : Int) < (n : Int)) := by omega
        clear hall hkn
        go_wp2
        go_ret
        exact ⟨by rw [HY.out, HT.out]; rfl, HX.out.2.trans hE.out⟩
  · have h10' : (10 : Int) < (n : Int) := by omega
    have HY : Hid (policyB ⟨ar, ac, da, rs⟩ = false) := by rw [HB.out, decide_eq_false h10]; rfl
    clear HB h10
    go_enter Tryz.func22, Tryz.ntmps22
    go_wp2_with (first | (go_at_call 52; refine (H1.out _).mono ?_; rintro e w' ⟨rfl, rfl⟩) | (go_at_call 53; refine (H2.out _).mono ?_; rintro e w' ⟨rfl, rfl⟩))
    go_ret
    exact ⟨by rw [HY.out]; rfl, Ext.one _ _⟩

set_option maxRecDepth 100000 in
set_option maxHeartbeats 3200000 in
theorem sPolicyOk_any (ar ac da : Int) (a : Option Addr) (cap : Nat) (rs : List RN) (w : World) (hs : SmallR rs) (h : Rules w a rs) :
    Calls Tryz.prog 36 #[.agg #[.int .i64 ar, .int .i64 ac, .int .i64 da, .slice a rs.length cap]] w fun e w' => e = .returned (.bool (policyB ⟨ar, ac, da, rs⟩)) ∧ Ext w w' := by
  obtain ⟨n, hn⟩ : ∃ n, n = rs.length := ⟨_, rfl⟩
  have HB : Hid (policyB ⟨ar, ac, da, rs⟩ = (halfB ar && outB ac da && decide (n ≤ 10) && rs.all ruleB)) := by rw [hn]; rfl
  have HN : Hid (n = rs.length ∧ ∀ k, k < rs.length → Small (rs.getD k r0)) := ⟨hn, hs.2⟩
  have HR : Hid (∀ W, Ext w W → Rules W a rs) := fun W hE => h.step hE
  have hl := hs.1
  rw [← hn] at hl ⊢
  clear h hn hs
  obtain ⟨z1, hz1⟩ : ∃ z1, z1 = halfB ar := ⟨_, rfl⟩
  obtain ⟨z2, hz2⟩ : ∃ z2, z2 = outB ac da := ⟨_, rfl⟩
  have H1 : Hid (∀ W, Calls Tryz.prog 71 #[.int .i64 ar] W fun e w' => e = .returned (.bool z1) ∧ W = w') := fun W => by rw [hz1]; exact sHalf_any ar W
  have H2 : Hid (∀ W, Calls Tryz.prog 80 #[.int .i64 ac, .int .i64 da] W fun e w' => e = .returned (.bool z2) ∧ W = w') := fun W => by rw [hz2]; exact l09Act_any ac da W
  rw [← hz1, ← hz2] at HB
  clear hz1 hz2
  obtain ⟨W, hW⟩ : ∃ W, W = w.alloc (.cells #[.int .i64 ar, .int .i64 ac, .int .i64 da, .slice a n cap] 26) := ⟨_, rfl⟩
  have HX : Hid (CellsAt W w.heap.size [.int .i64 ar, .int .i64 ac, .int .i64 da, .slice a n cap] ∧ Ext w W) := by
    rw [hW]
    exact ⟨CellsAt.new w _ _, Ext.one w _⟩
  have HW : Hid (W = w.alloc (.cells #[.int .i64 ar, .int .i64 ac, .int .i64 da, .slice a n cap] 26)) := hW
  clear hW
  go_enter Tryz.func36, Tryz.ntmps36
  go_wp2_with fail
  rw [← HW.out]
  go_loopw [3] (fun i wr => ∃ k : Nat, i = .int .i64 k ∧ k ≤ n ∧ Hid (Ext W wr) ∧ Hid ((rs.take k).all ruleB = true)) (fun i _ => n - (intOf i).toNat)
  case atStart => exact ⟨0, rfl, by omega, Ext.refl _, by simp [Hid]⟩
  case round =>
    obtain ⟨k, rfl, hk, hE, hall⟩ := hrel
    have cx := HX.out.1.step hE.out
    have s3 := cx.2 3 _ rfl
    by_cases hlt : k < n
    · have bk : (k : Int) < (n : Int) := by omega
      obtain ⟨b, off, l, rfl, ⟨hbl, hseg⟩, hL⟩ := (HR.out wr (HX.out.2.trans hE.out)).at (k := k) (by have := HN.out.1; omega)
      obtain ⟨a1, n1, c1, a2, n2, c2, xc, xd, rfl, _, _⟩ := hL.form
      obtain ⟨p0, p1, p2, p3⟩ := hseg.four
      obtain ⟨z, hz⟩ : ∃ z, z = ruleB (rs.getD k r0) := ⟨_, rfl⟩
      have HZ : Hid (z = ruleB (rs.getD k r0)) := hz
      have HD : Hid (Calls Tryz.prog 79 #[.agg #[.slice a1 n1 c1, .slice a2 n2 c2, .int .i64 xc, .int .i64 xd]] wr fun e w' => e = .returned (.bool z) ∧ Ext wr w') := by
        rw [hz]
        exact l09Rule_rep (HN.out.2 k (by have := HN.out.1; omega)) ⟨_, rfl, hL⟩
      clear hz hL hseg hbl cx
      go_wp2_with fail
      refine HD.out.mono ?_
      rintro e w2 ⟨rfl, x2⟩
      have X2 : Hid (Ext W w2) := hE.out.trans x2
      clear x2 p0 p1 p2 p3 s3 HD
      cases z
      · have HF : Hid (rs.all ruleB = false) := all_bad (k := k) (d := r0) (by have := HN.out.1; omega) HZ.out.symm
        clear hall
        go_wp2
        go_ret
        exact ⟨by rw [HB.out, HF.out]; simp, HX.out.2.trans X2.out⟩
      · have HT : Hid ((rs.take (k + 1)).all ruleB = true) := by
          unfold Hid
          rw [all_get rs ruleB r0 k (by have := HN.out.1; omega), hall.out, ← HZ.out]
          rfl
        clear hall
        go_wp2
        go_roundw
        case rel => exact ⟨k + 1, by go_num, by omega, X2, HT⟩
        case measure => simp [intOf]; omega
    · have hkn : k = n := by omega
      have HT : Hid (rs.all ruleB = true) := all_end (k := k) (by have := HN.out.1; omega) hall.out
      have bk : ¬ ((k : Int) < (n : Int)) := by omega
      have s0 := cx.2 0 _ rfl
      have s1 := cx.2 1 _ rfl
      have s2 := cx.2 2 _ rfl
      clear hall hkn cx
      cases z1
      · go_wp2_with (go_at_call 71; refine (H1.out _).mono ?_; rintro e w' ⟨rfl, rfl⟩)
        go_ret
        exact ⟨by rw [HB.out]; rfl, HX.out.2.trans hE.out⟩
      cases z2
      · go_wp2_with (first | (go_at_call 71; refine (H1.out _).mono ?_; rintro e w' ⟨rfl, rfl⟩) | (go_at_call 80; refine (H2.out _).mono ?_; rintro e w' ⟨rfl, rfl⟩))
        go_ret
        exact ⟨by rw [HB.out]; rfl, HX.out.2.trans hE.out⟩
      by_cases h10 : n ≤ 10
      · have h10' : (n : Int) ≤ 10 := by omega
        have HD10 : Hid (decide (n ≤ 10) = true) := decide_eq_true h10
        clear h10
        go_wp2_with (first | (go_at_call 71; refine (H1.out _).mono ?_; rintro e w' ⟨rfl, rfl⟩) | (go_at_call 80; refine (H2.out _).mono ?_; rintro e w' ⟨rfl, rfl⟩))
        go_ret
        exact ⟨by rw [HB.out, HT.out, HD10.out]; rfl, HX.out.2.trans hE.out⟩
      · have h10' : ¬ (n : Int) ≤ 10 := by omega
        have HD10 : Hid (decide (n ≤ 10) = false) := decide_eq_false h10
        clear h10
        go_wp2_with (first | (go_at_call 71; refine (H1.out _).mono ?_; rintro e w' ⟨rfl, rfl⟩) | (go_at_call 80; refine (H2.out _).mono ?_; rintro e w' ⟨rfl, rfl⟩))
        go_ret
        exact ⟨by rw [HB.out, HD10.out]; simp; omega, HX.out.2.trans hE.out⟩

/-- The value v is the policy p. -/
def RepPol (p : PN) (v : Value) (w : World) : Prop := ∃ a cap, v = .agg #[.int .i64 p.arch, .int .i64 p.act, .int .i64 p.data, .slice a p.rules.length cap] ∧ Rules w a p.rules

theorem RepPol.step {p : PN} {v : Value} {w w' : World} (h : RepPol p v w) (hE : Ext w w') : RepPol p v w' := by
  obtain ⟨a, cap, e, hr⟩ := h
  exact ⟨a, cap, e, hr.step hE⟩

theorem iPolicyOk_rep {p : PN} {v : Value} {w : World} (hs : SmallR p.rules) (h : RepPol p v w) : Calls Tryz.prog 22 #[v] w fun e w' => e = .returned (.bool (policyB p)) ∧ Ext w w' := by
  obtain ⟨a, cap, rfl, hr⟩ := h
  exact iPolicyOk_any p.arch p.act p.data a cap p.rules w hs hr

theorem sPolicyOk_rep {p : PN} {v : Value} {w : World} (hs : SmallR p.rules) (h : RepPol p v w) : Calls Tryz.prog 36 #[v] w fun e w' => e = .returned (.bool (policyB p)) ∧ Ext w w' := by
  obtain ⟨a, cap, rfl, hr⟩ := h
  exact sPolicyOk_any p.arch p.act p.data a cap p.rules w hs hr

end Go.Proofs.YtojaohdmfahpmaaGreatDoor

/- What the laws' helpers over slices of rules answer: toRuleS. -/
namespace Go.Proofs.YtojaohdmfahpmaaGreatDoor
open Go.RowKit
set_option linter.unusedVariables false

theorem Tryz.infoRu : (Tryz.prog.info? 53).map (fun i => (i.zero, i.size, i.bytes)) = some (some (.agg #[.slice none 0 0, .slice none 0 0, .int .i64 0, .int .i64 0]), 4, 64) := by kernel_rfl

/-- Rules at block g's head, all their memory from block B on. -/
def RulesG (B g : Nat) (w : World) (rs : List RN) : Prop :=
  B ≤ g ∧ (0 < rs.length → g < w.heap.size) ∧ ∀ j, j < rs.length → ∃ l, Seg w g (j * 4) l ∧ RuleG B w (rs.getD j r0) l

theorem RulesG.mono {B C g : Nat} {w : World} {rs : List RN} (h : RulesG B g w rs) (hC : C ≤ B) : RulesG C g w rs :=
  ⟨by have := h.1; omega, h.2.1, fun j hj => by
    obtain ⟨l, s1, s2⟩ := h.2.2 j hj
    exact ⟨l, s1, s2.mono hC⟩⟩

theorem RulesG.rules {B g : Nat} {w : World} {rs : List RN} (h : RulesG B g w rs) : Rules w (some ⟨g, 0, none⟩) rs := fun hp =>
  ⟨g, 0, rfl, h.2.1 hp, fun j hj => by
    obtain ⟨l, s1, s2⟩ := h.2.2 j hj
    exact ⟨l, by rw [Nat.zero_add]; exact s1, s2.rule⟩⟩

/-- Rules in memory, each slice of numbers being no longer than it may grow. -/
def RulesC (w : World) (a : Option Addr) (rs : List RN) : Prop :=
  Rules w a rs ∧ ∀ b off j x n c, a = some ⟨b, off, none⟩ → j < rs.length → w.cell? ⟨b, off + j * 4, none⟩ = some (.slice x n c) → n ≤ c

theorem RulesC.step {w w' : World} {a : Option Addr} {rs : List RN} (h : RulesC w a rs) (hE : Ext w w') : RulesC w' a rs := by
  refine ⟨h.1.step hE, fun b off j x n c ha hj hc => h.2 b off j x n c ha hj ?_⟩
  obtain ⟨b', off', ha', hb, _⟩ := h.1 (by omega)
  rw [ha] at ha'
  obtain rfl : b = b' := by injection ha' with ha'; injection ha'
  rw [← hc]
  exact (hE.cell (p := ⟨b, off + j * 4, none⟩) hb).symm

theorem RulesG.rulesC {B g : Nat} {w : World} {rs : List RN} (h : RulesG B g w rs) : RulesC w (some ⟨g, 0, none⟩) rs := by
  refine ⟨h.rules, fun b off j x n c ha hj hc => ?_⟩
  obtain ⟨rfl, rfl⟩ : g = b ∧ 0 = off := by injection ha with ha; injection ha with h1 h2; exact ⟨h1, h2⟩
  obtain ⟨l, s1, g1, n1, c1, g2, n2, c2, rfl, _, _, _, _, _, _, h3⟩ := h.2.2 j hj
  have := s1 0 _ rfl
  rw [Nat.add_zero] at this
  rw [Nat.zero_add, this] at hc
  injection hc with hc
  injection hc with _ e1 e2
  omega

theorem RulesG.set {B g : Nat} {w : World} {rs : List RN} (h : RulesG B g w rs) {k : Nat} (i : Nat) (hk : k < B) (v : Value) : RulesG B g (w.setCell ⟨k, i, none⟩ v) rs :=
  ⟨h.1, fun hp => by rw [World.size_setCell]; exact h.2.1 hp, fun j hj => by
    obtain ⟨l, s1, s2⟩ := h.2.2 j hj
    exact ⟨l, s1.putFar (vs := [v]) (.inl (by have := h.1; omega)), s2.put hk i [v]⟩⟩

end Go.Proofs.YtojaohdmfahpmaaGreatDoor

/- What the laws' helpers over slices of rules answer: eqRuleS. -/
namespace Go.Proofs.YtojaohdmfahpmaaGreatDoor
open Go.RowKit
set_option linter.unusedVariables false

set_option maxRecDepth 100000 in
set_option maxHeartbeats 2000000 in
theorem eqRuleS_any (a1 a2 : Option Addr) (c1 c2 n : Nat) (rs : List RN) (w : World) (hn : n = rs.length) (hs : SmallR rs) (h1 : Rules w a1 rs) (h2 : Rules w a2 rs) :
    Calls Tryz.prog 46 #[.slice a1 n c1, .slice a2 n c2] w fun e w' => e = .returned (.bool true) ∧ Ext w w' := by
  have HN : Hid (n = rs.length ∧ ∀ k, k < rs.length → Small (rs.getD k r0)) := ⟨hn, hs.2⟩
  have H1 : Hid (∀ W, Ext w W → Rules W a1 rs ∧ Rules W a2 rs) := fun W hE => ⟨h1.step hE, h2.step hE⟩
  have hl' : n ≤ 1048576 := by have := hs.1; omega
  clear h1 h2 hn hs
  go_enter Tryz.func46, Tryz.ntmps46
  go_wp2
  go_loopw [5] (fun i wr => ∃ k : Nat, i = .int .i64 k ∧ k ≤ n ∧ Hid (Ext w wr)) (fun i _ => n - (intOf i).toNat)
  case atStart => exact ⟨0, rfl, by omega, Ext.refl _⟩
  case round =>
    obtain ⟨k, rfl, hk, hE⟩ := hrel
    by_cases hlt : k < n
    · have bk : (k : Int) < (n : Int) := by omega
      obtain ⟨b1, o1, l1, rfl, s1, hL1⟩ := (H1.out wr hE.out).1.at (k := k) (by have := HN.out.1; omega)
      obtain ⟨b2, o2, l2, rfl, s2, hL2⟩ := (H1.out wr hE.out).2.at (k := k) (by have := HN.out.1; omega)
      obtain ⟨x1, n1, d1, y1, m1, e1, xc, xd, rfl, _, _⟩ := hL1.form
      obtain ⟨x2, n2, d2, y2, m2, e2, zc, zd, rfl, _, _⟩ := hL2.form
      have HT : Hid (∀ W, Ext wr W → Calls Tryz.prog 86 #[.agg #[.slice x1 n1 d1, .slice y1 m1 e1, .int .i64 xc, .int .i64 xd], .agg #[.slice x2 n2 d2, .slice y2 m2 e2, .int .i64 zc, .int .i64 zd]] W fun e w' => e = .returned (.bool true) ∧ Ext W w') :=
        fun W hx => eqRule_rep (HN.out.2 k (by have := HN.out.1; omega)) ⟨_, rfl, hL1.step hx⟩ ⟨_, rfl, hL2.step hx⟩
      clear hL1 hL2
      go_wp2_with fail
      refine' wp_region_loose (.inl _ :: .inl _ :: .inl _ :: .inl _ :: .inl _ :: .inl _ :: .inl _ :: .inl _ :: .inl _ :: .inl _ :: []) (fun w' => SegB w' b1 (o1 + k * 4) [.slice x1 n1 d1, .slice y1 m1 e1, .int .i64 xc, .int .i64 xd] ∧ SegB w' b2 (o2 + k * 4) [.slice x2 n2 d2, .slice y2 m2 e2, .int .i64 zc, .int .i64 zd]) (by kernel_rfl) (by kernel_rfl) (⟨s1.drew, s2.drew⟩) (fun _ _ h hE => ⟨h.1.step hE, h.2.step hE⟩) ?hAa ?hla ?hMa
      case' hMa => skip
      apply wpLoose_val rfl rfl
      case hs =>
        intro w1 hC hd Q1 hQ1
        obtain ⟨hE, hS⟩ := hC
        dsimp only [bare]
        obtain ⟨⟨p0, p1, p2, p3⟩, ⟨q0, q1, q2, q3⟩⟩ := (⟨hS.1.2.four, hS.2.2.four⟩ : _ ∧ _)
        clear hd hE
        try clear hS
        go_wp2
        exact Ext.refl _
      case ha => rfl
      apply wpLoose_val rfl rfl
      case hs =>
        intro w1 hC hd Q1 hQ1
        obtain ⟨hE, hS⟩ := hC
        dsimp only [bare]
        obtain ⟨⟨p0, p1, p2, p3⟩, ⟨q0, q1, q2, q3⟩⟩ := (⟨hS.1.2.four, hS.2.2.four⟩ : _ ∧ _)
        clear hd hE
        try clear hS
        go_wp2
        exact Ext.refl _
      case ha => rfl
      apply wpLoose_val rfl rfl
      case hs =>
        intro w1 hC hd Q1 hQ1
        obtain ⟨hE, hS⟩ := hC
        dsimp only [bare]
        obtain ⟨⟨p0, p1, p2, p3⟩, ⟨q0, q1, q2, q3⟩⟩ := (⟨hS.1.2.four, hS.2.2.four⟩ : _ ∧ _)
        clear hd hE
        try clear hS
        go_wp2
        exact Ext.refl _
      case ha => rfl
      apply wpLoose_val rfl rfl
      case hs =>
        intro w1 hC hd Q1 hQ1
        obtain ⟨hE, hS⟩ := hC
        dsimp only [bare]
        obtain ⟨⟨p0, p1, p2, p3⟩, ⟨q0, q1, q2, q3⟩⟩ := (⟨hS.1.2.four, hS.2.2.four⟩ : _ ∧ _)
        clear hd hE
        try clear hS
        go_wp2
        exact Ext.refl _
      case ha => rfl
      apply wpLoose_val rfl rfl
      case hs =>
        intro w1 hC hd Q1 hQ1
        obtain ⟨hE, hS⟩ := hC
        dsimp only [bare]
        obtain ⟨⟨p0, p1, p2, p3⟩, ⟨q0, q1, q2, q3⟩⟩ := (⟨hS.1.2.four, hS.2.2.four⟩ : _ ∧ _)
        clear hd hE
        try clear hS
        go_wp2
        exact Ext.refl _
      case ha => rfl
      apply wpLoose_val rfl rfl
      case hs =>
        intro w1 hC hd Q1 hQ1
        obtain ⟨hE, hS⟩ := hC
        dsimp only [bare]
        obtain ⟨⟨p0, p1, p2, p3⟩, ⟨q0, q1, q2, q3⟩⟩ := (⟨hS.1.2.four, hS.2.2.four⟩ : _ ∧ _)
        clear hd hE
        try clear hS
        go_wp2
        exact Ext.refl _
      case ha => rfl
      apply wpLoose_val rfl rfl
      case hs =>
        intro w1 hC hd Q1 hQ1
        obtain ⟨hE, hS⟩ := hC
        dsimp only [bare]
        obtain ⟨⟨p0, p1, p2, p3⟩, ⟨q0, q1, q2, q3⟩⟩ := (⟨hS.1.2.four, hS.2.2.four⟩ : _ ∧ _)
        clear hd hE
        try clear hS
        go_wp2
        exact Ext.refl _
      case ha => rfl
      apply wpLoose_val rfl rfl
      case hs =>
        intro w1 hC hd Q1 hQ1
        obtain ⟨hE, hS⟩ := hC
        dsimp only [bare]
        obtain ⟨⟨p0, p1, p2, p3⟩, ⟨q0, q1, q2, q3⟩⟩ := (⟨hS.1.2.four, hS.2.2.four⟩ : _ ∧ _)
        clear hd hE
        try clear hS
        go_wp2
        exact Ext.refl _
      case ha => rfl
      apply wpLoose_val rfl rfl
      case hs =>
        intro w1 hC hd Q1 hQ1
        obtain ⟨hE, hS⟩ := hC
        dsimp only [bare]
        clear hd
        go_wp2_with fail
        refine (HT.out _ ((Ext.refl wr).drew.trans hE)).mono ?_
        rintro e w2 ⟨rfl, hb⟩
        go_wp2_with fail
        exact hb
      case ha => rfl
      apply wpLoose_val rfl rfl
      case hs =>
        intro w1 hC hd Q1 hQ1
        obtain ⟨hE, hS⟩ := hC
        dsimp only [bare]
        obtain ⟨⟨p0, p1, p2, p3⟩, ⟨q0, q1, q2, q3⟩⟩ := (⟨hS.1.2.four, hS.2.2.four⟩ : _ ∧ _)
        clear hd hE
        try clear hS
        go_wp2
        exact Ext.refl _
      case ha => rfl
      refine wpLoose_nil ?_
      intro wa hEa hSa hFa
      have HE2 : Hid (Ext w wa) := hE.out.drew.trans hEa
      clear hFa hSa hEa s1 s2
      go_wp2
      go_roundw
      case rel => exact ⟨k + 1, by go_num, by omega, HE2⟩
      case measure => simp [intOf]; omega
      case hAa => kernel_rfl
      case hla => exact ⟨trivial, trivial, trivial, trivial, trivial, trivial, trivial, trivial, trivial, trivial, trivial⟩
    · have bk : ¬ ((k : Int) < (n : Int)) := by omega
      go_wp2
      go_ret
      exact ⟨rfl, hE.out⟩

end Go.Proofs.YtojaohdmfahpmaaGreatDoor

/- What the laws' helpers over slices of rules answer: szRuleS. -/
namespace Go.Proofs.YtojaohdmfahpmaaGreatDoor
open Go.RowKit
set_option linter.unusedVariables false

def FinR (rs : List RN) : Prop := rs.length ≤ 9223372036854775807 ∧ ∀ k, k < rs.length → (rs.getD k r0).nums.length ≤ 9223372036854775807 ∧ (rs.getD k r0).conds.length ≤ 9223372036854775807

end Go.Proofs.YtojaohdmfahpmaaGreatDoor

/- What the laws' helpers over policies answer: szPolicy, toPolicy, eqPolicy. -/
namespace Go.Proofs.YtojaohdmfahpmaaGreatDoor
open Go.RowKit
set_option linter.unusedVariables false

set_option maxHeartbeats 1000000 in
theorem eqPolicy_rep {p : PN} {v u : Value} {w : World} (hs : SmallR p.rules) (h : RepPol p v w) (k : RepPol p u w) : Calls Tryz.prog 16 #[v, u] w fun e w' => e = .returned (.bool true) ∧ Ext w w' := by
  obtain ⟨a, cap, rfl, hr⟩ := h
  obtain ⟨b, dap, rfl, kr⟩ := k
  have HT : Hid (∀ W, Ext w W → Calls Tryz.prog 46 #[.slice a p.rules.length cap, .slice b p.rules.length dap] W fun e w' => e = .returned (.bool true) ∧ Ext W w') := fun W hE => eqRuleS_any a b cap dap _ p.rules W rfl hs (hr.step hE) (kr.step hE)
  clear hr kr hs
  obtain ⟨ar, ac, da, rs⟩ := p
  simp only at HT ⊢
  generalize rs.length = n at *
  go_enter Tryz.func16, Tryz.ntmps16
  go_wp2_with fail
  refine (HT.out _ ((Ext.one _ _).alloc _)).mono ?_
  rintro e w1 ⟨rfl, x1⟩
  have X1 : Hid (Ext w w1) := ((Ext.one _ _).alloc _).trans x1
  clear x1 HT
  go_wp2
  go_ret
  exact ⟨rfl, X1.out⟩

/-- A policy as a value, its rules so in memory. -/
def RepPolC (p : PN) (v : Value) (w : World) : Prop := ∃ a cap, v = .agg #[.int .i64 p.arch, .int .i64 p.act, .int .i64 p.data, .slice a p.rules.length cap] ∧ RulesC w a p.rules

theorem RepPolC.step {p : PN} {v : Value} {w w' : World} (h : RepPolC p v w) (hE : Ext w w') : RepPolC p v w' := by
  obtain ⟨a, cap, e, hr⟩ := h
  exact ⟨a, cap, e, hr.step hE⟩

theorem RepPolC.pol {p : PN} {v : Value} {w : World} (h : RepPolC p v w) : RepPol p v w := by
  obtain ⟨a, cap, e, hr⟩ := h
  exact ⟨a, cap, e, hr.1⟩

end Go.Proofs.YtojaohdmfahpmaaGreatDoor

/- Rules whose memory lies from a block on; rows of numbers and of conditions as append leaves them. -/
namespace Go.Proofs.YtojaohdmfahpmaaGreatDoor
open Go.RowKit
set_option linter.unusedVariables false

/-- A slice's address, where it has one, lies from block B on. -/
def From (B : Nat) (w : World) (a : Option Addr) : Prop := ∀ b o s, a = some ⟨b, o, s⟩ → B ≤ b ∧ b < w.heap.size

theorem From.size {B : Nat} {w w' : World} {a : Option Addr} (h : From B w a) (hs : w.heap.size ≤ w'.heap.size) : From B w' a := fun b o s e => ⟨(h b o s e).1, by have := (h b o s e).2; omega⟩

theorem Nums.kept {w w' : World} {a : Option Addr} {zs : List Int} (h : Nums w a zs) (hb : ∀ b o, a = some ⟨b, o, none⟩ → w'.heap[b]? = w.heap[b]?) (hs : w.heap.size ≤ w'.heap.size) : Nums w' a zs := fun hp => by
  obtain ⟨b, off, ha, hbl, hc⟩ := h hp
  exact ⟨b, off, ha, by omega, fun j hj => (World.cell?_of_block (w := w) (a := ⟨b, off + j, none⟩) (hb b off ha)).trans (hc j hj)⟩

theorem Conds.kept {w w' : World} {a : Option Addr} {cs : List CN} (h : Conds w a cs) (hb : ∀ b o, a = some ⟨b, o, none⟩ → w'.heap[b]? = w.heap[b]?) (hs : w.heap.size ≤ w'.heap.size) : Conds w' a cs := fun hp => by
  obtain ⟨b, off, ha, hbl, hc⟩ := h hp
  exact ⟨b, off, ha, by omega, fun j hj i v hv => (World.cell?_of_block (w := w) (a := ⟨b, off + j * 6 + i, none⟩) (hb b off ha)).trans (hc j hj i v hv)⟩

/-- The four cells of a rule whose memory, where it has any, lies from block B on. -/
def RuleN (B : Nat) (w : World) (r : RN) (l : List Value) : Prop :=
  ∃ a1 n1 c1 a2 n2 c2, l = [.slice a1 n1 c1, .slice a2 n2 c2, .int .i64 r.act, .int .i64 r.data] ∧ n1 = r.nums.length ∧ n2 = r.conds.length ∧ Nums w a1 r.nums ∧ Conds w a2 r.conds ∧ From B w a1 ∧ From B w a2

theorem RuleN.rule {B : Nat} {w : World} {r : RN} {l : List Value} (h : RuleN B w r l) : RuleL w r l := by
  obtain ⟨a1, n1, c1, a2, n2, c2, e, e1, e2, h1, h2, _⟩ := h
  exact ⟨a1, n1, c1, a2, n2, c2, e, e1, e2, h1, h2⟩

theorem RuleN.mono {B C : Nat} {w : World} {r : RN} {l : List Value} (h : RuleN B w r l) (hC : C ≤ B) : RuleN C w r l := by
  obtain ⟨a1, n1, c1, a2, n2, c2, e, e1, e2, h1, h2, f1, f2⟩ := h
  exact ⟨a1, n1, c1, a2, n2, c2, e, e1, e2, h1, h2, fun b o s he => ⟨by have := (f1 b o s he).1; omega, (f1 b o s he).2⟩, fun b o s he => ⟨by have := (f2 b o s he).1; omega, (f2 b o s he).2⟩⟩

/-- All blocks from B on that were there are as they were. -/
theorem RuleN.kept {B : Nat} {w w' : World} {r : RN} {l : List Value} (h : RuleN B w r l) (hb : ∀ b, B ≤ b → b < w.heap.size → w'.heap[b]? = w.heap[b]?) (hs : w.heap.size ≤ w'.heap.size) : RuleN B w' r l := by
  obtain ⟨a1, n1, c1, a2, n2, c2, e, e1, e2, h1, h2, f1, f2⟩ := h
  exact ⟨a1, n1, c1, a2, n2, c2, e, e1, e2, h1.kept (fun b o he => hb b (f1 b o none he).1 (f1 b o none he).2) hs, h2.kept (fun b o he => hb b (f2 b o none he).1 (f2 b o none he).2) hs, f1.size hs, f2.size hs⟩

theorem RuleN.grown {B : Nat} {w w' : World} {r : RN} {l : List Value} {row : Option Nat} (h : RuleN B w r l) (hg : w.grownBy w' row) (hr : ∀ b, B ≤ b → b < w.heap.size → some b ≠ row) : RuleN B w' r l :=
  h.kept (fun b h1 h2 => hg.block b h2 (hr b h1 h2)) hg.size

theorem RuleN.set {B : Nat} {w : World} {r : RN} {l : List Value} (h : RuleN B w r l) {k : Nat} (hk : k < B) (i : Nat) (v : Value) : RuleN B (w.setCell ⟨k, i, none⟩ v) r l :=
  h.kept (fun b h1 _ => Below.heap_setCell _ _ _ _ (by show b ≠ k; omega)) (by rw [World.size_setCell]; exact Nat.le_refl _)

/-- The cells of conditions in a row. -/
def flatC (cs : List CN) : List Value := cs.flatMap CN.l

theorem flatC_push (cs : List CN) (c : CN) : flatC cs ++ c.l = flatC (cs ++ [c]) := by simp [flatC]

theorem flatC_at : ∀ (cs : List CN) (j i : Nat) (v : Value), j < cs.length → (cs.getD j c0).l[i]? = some v → (flatC cs)[j * 6 + i]? = some v
  | [], j, _, _, h, _ => by simp at h
  | c :: cs, 0, i, v, _, hv => by
    have hi : i < c.l.length := (List.getElem?_eq_some_iff.1 hv).1
    simp only [flatC, List.flatMap_cons]
    rw [Nat.zero_mul, Nat.zero_add, List.getElem?_append_left hi]
    exact hv
  | c :: cs, j + 1, i, v, h, hv => by
    have := flatC_at cs j i v (by simpa using h) (by simpa using hv)
    simp only [flatC, List.flatMap_cons]
    rw [List.getElem?_append_right (by simp [CN.l]; omega)]
    have e : (j + 1) * 6 + i - c.l.length = j * 6 + i := by simp [CN.l]; omega
    rw [e]
    exact this

theorem own_nums {w : World} {base n : Nat} {v : Value} {zs : List Int} (h : w.ownsRow base 3 1 v n (zs.map (Value.int .i64))) (hn : zs.length = n) : ∃ a cap, v = .slice a n cap ∧ Nums w a zs ∧ From base w a := by
  rcases h.2 with ⟨rfl, h0⟩ | ⟨g, cap, cur, rfl, hg, hh, hnc, hcp, hcs, htake⟩
  · subst h0
    exact ⟨none, 0, rfl, fun hp => by omega, fun b o s e => by cases e⟩
  · have hlt := (Array.getElem?_eq_some_iff.1 hh).1
    refine ⟨some ⟨g, 0, none⟩, cap, rfl, fun hp => ⟨g, 0, rfl, hlt, fun j hj => ?_⟩, fun b o s e => by injection e with e; injection e with e1 e2 e3; subst e1; exact ⟨hg, hlt⟩⟩
    have e1 : (zs.map (Value.int .i64))[j]? = some (.int .i64 (zs.getD j 0)) := by simp [List.getD_eq_getElem?_getD, hj]
    rw [← htake, List.getElem?_take, if_pos (by omega)] at e1
    rw [Nat.zero_add, cell_of_row w g _ cur 3 _ hh]
    simpa using e1

theorem own_conds {w : World} {base n : Nat} {v : Value} {cs : List CN} (h : w.ownsRow base 78 6 v n (flatC cs)) (hn : cs.length = n) : ∃ a cap, v = .slice a n cap ∧ Conds w a cs ∧ From base w a := by
  rcases h.2 with ⟨rfl, h0⟩ | ⟨g, cap, cur, rfl, hg, hh, hnc, hcp, hcs, htake⟩
  · subst h0
    exact ⟨none, 0, rfl, fun hp => by omega, fun b o s e => by cases e⟩
  · have hlt := (Array.getElem?_eq_some_iff.1 hh).1
    refine ⟨some ⟨g, 0, none⟩, cap, rfl, fun hp => ⟨g, 0, rfl, hlt, fun j hj i u hu => ?_⟩, fun b o s e => by injection e with e; injection e with e1 e2 e3; subst e1; exact ⟨hg, hlt⟩⟩
    have hi : i < 6 := by have h3 := (List.getElem?_eq_some_iff.1 hu).1; simpa [CN.l] using h3
    have e1 := flatC_at cs j i u hj hu
    rw [← htake, List.getElem?_take, if_pos (by omega)] at e1
    rw [Nat.zero_add, cell_of_row w g _ cur 78 _ hh]
    simpa using e1

theorem own_lt9 {w : World} {base e size : Nat} {v : Value} {n : Nat} {xs : List Value} (h : w.ownsRow base e size v n xs) {x : Nat} (hx : v.ownBlock = some x) : base ≤ x ∧ x < w.heap.size := by
  rcases h.2 with ⟨rfl, _⟩ | ⟨g, cap, cur, rfl, hgb, hh, _⟩
  · simp [Value.ownBlock] at hx
  · simp [Value.ownBlock] at hx; subst hx; exact ⟨hgb, (Array.getElem?_eq_some_iff.1 hh).1⟩

end Go.Proofs.YtojaohdmfahpmaaGreatDoor

namespace Go.Proofs.YtojaohdmfahpmaaGreatDoor
open Go.RowKit
set_option linter.unusedVariables false

theorem Tryz.infoCd : (Tryz.prog.info? 78).map (fun i => (i.zero, i.size, i.bytes)) = some (some (.agg #[.int .i64 0, .int .i64 0, .int .i64 0, .int .i64 0, .int .i64 0, .int .i64 0]), 6, 48) := by kernel_rfl
theorem Tryz.infoIn : (Tryz.prog.info? 3).map (fun i => (i.zero, i.size, i.bytes)) = some (some (.int .i64 0), 1, 8) := by kernel_rfl

/-- The reader stays where only a fresh block is written. -/
theorem RdI.row {w0 w w' : World} {p : Nat} {a : Option Addr} {cap : Nat} {G : List Sg} {i0 i : Nat} {row : Option Nat} (h0 : RdI w0 p a cap G i0) (h : RdI w p a cap G i) (hg : w.grownBy w' row) (hr : ∀ x, row = some x → w0.heap.size ≤ x) : RdI w' p a cap G i := by
  have hp := h0.lt
  refine ⟨(hg.block p h.lt (fun e => by have := hr p e.symm; omega)).trans h.1, h.2.1, h.2.2.1, fun hl => ?_, h.2.2.2.2⟩
  obtain ⟨b, off, e, hc⟩ := h.2.2.2.1 hl
  obtain ⟨b0, off0, e0, hc0⟩ := h0.2.2.2.1 hl
  have hb : b = b0 := by rw [e] at e0; injection e0 with e0; injection e0
  have hlt := (hc0 0 hl).lt
  refine ⟨b, off, e, fun j hj => ?_⟩
  obtain ⟨c1, c2, c3⟩ := hc j hj
  have far : some b ≠ row := fun e => by have := hr b e.symm; omega
  exact ⟨hg.cell c1 far, hg.cell c2 far, hg.cell c3 far⟩

theorem gb_row {p : Nat} {w W W' : World} {row : Option Nat} (h : GB p w W) (hg : W.grownBy W' row) (hr : ∀ x, row = some x → w.heap.size ≤ x) : GB p w W' :=
  ⟨hg.os.trans h.os, hg.tape.trans h.tape, hg.output.trans h.output, Nat.le_trans h.size hg.size, fun i hi hne => (hg.block i (Nat.lt_of_lt_of_le hi h.size) (fun e => by have := hr i e.symm; omega)).trans (h.block i hi hne)⟩

theorem own_gb {w w' : World} {B e size n p : Nat} {v : Value} {xs : List Value} (h : w.ownsRow B e size v n xs) (hp : p < B) (hG : GB p w w') : w'.ownsRow B e size v n xs :=
  h.kept hG (by
    cases hv : v.ownBlock with
    | none => exact .inl rfl
    | some x => exact .inr (fun e => by have := (own_lt9 h hv).1; have := Option.some.inj e; omega))

/-- A row of conditions, or of numbers, that the call has made. -/
def OwnC (w : World) (B : Nat) (v : Value) (cs : List CN) : Prop := w.ownsRow B 78 6 v cs.length (flatC cs)
def OwnZ (w : World) (B : Nat) (v : Value) (zs : List Int) : Prop := w.ownsRow B 3 1 v zs.length (zs.map (Value.int .i64))

/-- What a reader's function leaves that makes a row. -/
def GotR {α : Type} (own : World → Value → List α → Prop) (o : Option (List α × Nat)) (p : Nat) (a : Option Addr) (cap : Nat) (G : List Sg) (e : Ending) (w' : World) : Prop :=
  match o with
  | some (l, j) => ∃ v, e = .returned v ∧ own w' v l ∧ RdI w' p a cap G j
  | none => e = Bad

theorem gotR_some {α : Type} {own : World → Value → List α → Prop} {o : Option (List α × Nat)} {l : List α} {j p : Nat} {a : Option Addr} {cap : Nat} {G : List Sg} {e : Ending} {w' : World} {v : Value} (h : o = some (l, j)) (he : e = .returned v) (ho : own w' v l) (hr : RdI w' p a cap G j) : GotR own o p a cap G e w' := by
  subst h; exact ⟨v, he, ho, hr⟩
theorem gotR_none {α : Type} {own : World → Value → List α → Prop} {o : Option (List α × Nat)} {p : Nat} {a : Option Addr} {cap : Nat} {G : List Sg} {e : Ending} {w' : World} (h : o = none) (he : e = Bad) : GotR own o p a cap G e w' := by
  subst h; exact he

/-- The reader's place, off the memory. -/
def rdAt (W : World) (p : Nat) : Nat := match W.cell? ⟨p, 1, none⟩ with
  | some (.int _ n) => n.toNat
  | _ => 0

theorem RdI.place {w : World} {p : Nat} {a : Option Addr} {cap : Nat} {G : List Sg} {i : Nat} (h : RdI w p a cap G i) : rdAt w p = i := by
  unfold rdAt
  rw [h.1.cell 1 _ rfl]
  simp

theorem and_more (f : Nat) (G : List Sg) (j : Nat) (hf : G.length ≤ j + f) :
    (isT G j tAnd = false → rAndF f G j = some ([], j)) ∧ (isT G j tAnd = true → ∃ f', f = f' + 1 ∧ G.length ≤ j + 1 + f' ∧ rAndF f G j = (match rCond G (j + 1) with
      | none => none
      | some (c, k) => (rAndF f' G k).map fun q => (c :: q.1, q.2))) := by
  refine ⟨fun h => ?_, fun h => ?_⟩
  · cases f with
    | zero => rfl
    | succ f => rw [rAndF, h]; rfl
  · have := isT_lt (by decide) h
    obtain ⟨f', rfl⟩ : ∃ f', f = f' + 1 := ⟨f - 1, by omega⟩
    exact ⟨f', rfl, by omega, by rw [rAndF, h]; rfl⟩

set_option maxRecDepth 100000 in
set_option maxHeartbeats 1600000 in
theorem rconds_any {w : World} {p : Nat} {a : Option Addr} {cap : Nat} {G : List Sg} {i : Nat} (h : RdI w p a cap G i) (hp0 : p ≠ 0) (hC : Cms w) :
    Calls Tryz.prog 109 #[.pointer (some ⟨p, 0, none⟩)] w fun e w' => GotR (fun W v l => OwnC W w.heap.size v l) (rConds G i) p a cap G e w' ∧ GB p w w' := by
  obtain ⟨i0, hi, hz0, hz1, hz2⟩ := info_parts Tryz.infoCd
  have HP := passes_any tIf (by decide) h
  have H0 : Hid (RdI w p a cap G i ∧ p < w.heap.size ∧ (∀ W, GB p w W → Cms W) ∧ p ≠ 0) := ⟨h, h.lt, fun W hG => hC.gb hp0 hG, hp0⟩
  have HM : Hid (rConds G i = if isT G i tIf then (match rCond G (i + 1) with
    | none => none
    | some (c, j) => (rAndF G.length G j).map fun q => (c :: q.1, q.2)) else some ([], i)) := rfl
  clear h hp0 hC
  obtain ⟨z, hz⟩ : ∃ z, z = isT G i tIf := ⟨_, rfl⟩
  rw [← hz] at HP HM
  have H1 : Hid (Calls Tryz.prog 104 #[.pointer (some ⟨p, 0, none⟩), .string ⟨#[105, 102]⟩] w fun e w' => e = .returned (.bool z) ∧ RdI w' p a cap G (if z then i + 1 else i) ∧ GB p w w') := HP
  clear HP hz
  cases z
  · go_enter Tryz.func109, Tryz.ntmps109
    go_wp2_with fail
    refine H1.out.mono ?_
    rintro e w1 ⟨rfl, r1, g1⟩
    have X1 : Hid (RdI w1 p a cap G i ∧ GB p w w1) := ⟨r1, g1⟩
    clear r1 g1 H1
    go_wp2
    go_ret
    exact ⟨gotR_some HM.out rfl (World.ownsRow_nil _ _ _ _) X1.out.1, X1.out.2⟩
  · have HM1 : Hid (rConds G i = (match rCond G (i + 1) with
      | none => none
      | some (c, j) => (rAndF G.length G j).map fun q => (c :: q.1, q.2))) := HM.out
    clear HM
    go_enter Tryz.func109, Tryz.ntmps109
    go_wp2_with fail
    refine H1.out.mono ?_
    rintro e w1 ⟨rfl, r1, g1⟩
    have X1 : Hid (RdI w1 p a cap G (i + 1) ∧ GB p w w1) := ⟨r1, g1⟩
    clear r1 g1 H1
    go_wp2_with fail
    cases e0 : rCond G (i + 1) with
    | none =>
      refine (show Calls Tryz.prog 127 _ _ _ from fails_of (val := CN.v) e0 (rcond_any X1.out.1 H0.out.2.2.2 (H0.out.2.2.1 _ X1.out.2))).mono ?_
      rintro e w2 ⟨rfl, g2⟩
      have F2 : Hid (GB p w w2) := gb_trans X1.out.2 g2
      have HN : Hid (rConds G i = none) := by unfold Hid; rw [HM1.out, e0]
      clear g2 e0
      go_wp2
      exact bad_panic rfl ⟨gotR_none HN.out rfl, F2.out⟩
    | some x =>
      obtain ⟨c, j⟩ := x
      have HJ : Hid (rConds G i = (rAndF G.length G j).map fun q => ([c] ++ q.1, q.2)) := by unfold Hid; rw [HM1.out, e0]; rfl
      have HL : Hid (j ≤ G.length ∧ 1 ≤ j) := by have := rCond_lt e0; exact ⟨by omega, by omega⟩
      refine (show Calls Tryz.prog 127 _ _ _ from gives_of (val := CN.v) e0 (rcond_any X1.out.1 H0.out.2.2.2 (H0.out.2.2.1 _ X1.out.2))).mono ?_
      rintro e w2 ⟨⟨rfl, r2⟩, g2⟩
      have X2 : Hid (RdI (w2.alloc (.cells c.l.toArray 78)) p a cap G j ∧ GB p w (w2.alloc (.cells c.l.toArray 78)) ∧ OwnC (w2.alloc (.cells c.l.toArray 78)) w.heap.size (.slice (some ⟨w2.heap.size, 0, none⟩) 1 1) [c]) :=
        ⟨r2.step (Ext.one _ _), gb_alloc (gb_trans X1.out.2 g2) _, World.ownsRow_lit (e := 78) (size := 6) w2 c.l.toArray 1 (Nat.le_trans X1.out.2.size g2.size) (by decide) (by simp [CN.l])⟩
      clear r2 g2 X1 HM1 e0
      obtain ⟨ag, mh, ml, cm, vh, vl⟩ := c
      unfold CN.v
      simp only [CN.l] at X2
      simp only
      go_wp2_with fail
      generalize w2.alloc (.cells #[.int .i64 ag, .int .i64 mh, .int .i64 ml, .int .i64 cm, .int .i64 vh, .int .i64 vl] 78) = W2 at *
      go_loopw [3] (fun v wr => ∃ (l : List CN) (j f : Nat), Hid ((rConds G i = (rAndF f G j).map fun q => (l ++ q.1, q.2)) ∧ G.length ≤ j + f ∧ l.length ≤ j ∧ RdI wr p a cap G j ∧ GB p w wr ∧ OwnC wr w.heap.size v l)) (fun _ W => G.length - rdAt W p)
      case atStart => exact ⟨_, j, G.length, HJ.out, by omega, by have := HL.out.2; simpa using this, X2.out⟩
      case round =>
        obtain ⟨l, j, f, HI⟩ := hrel
        have HP := passes_any tAnd (by decide) HI.out.2.2.2.1
        obtain ⟨m1, m2⟩ := and_more f G j HI.out.2.1
        obtain ⟨z, hz⟩ : ∃ z, z = isT G j tAnd := ⟨_, rfl⟩
        rw [← hz] at HP m1 m2
        have H1 : Hid (Calls Tryz.prog 104 #[.pointer (some ⟨p, 0, none⟩), .string ⟨#[97, 110, 100]⟩] wr fun e w' => e = .returned (.bool z) ∧ RdI w' p a cap G (if z then j + 1 else j) ∧ GB p wr w') := HP
        have M1 : Hid (z = false → rAndF f G j = some ([], j)) := m1
        have M2 : Hid (z = true → ∃ f', f = f' + 1 ∧ G.length ≤ j + 1 + f' ∧ rAndF f G j = (match rCond G (j + 1) with
          | none => none
          | some (c, k) => (rAndF f' G k).map fun q => (c :: q.1, q.2))) := m2
        clear HP m1 m2 hz X2 HJ HL
        cases z
        · go_wp2_with fail
          refine H1.out.mono ?_
          rintro e w3 ⟨rfl, r3, g3⟩
          have X3 : Hid (RdI w3 p a cap G j ∧ GB p w w3 ∧ OwnC w3 w.heap.size u3 l) := ⟨r3, gb_trans HI.out.2.2.2.2.1 g3, own_gb HI.out.2.2.2.2.2 H0.out.2.1 g3⟩
          have HN : Hid (rConds G i = some (l, j)) := by unfold Hid; rw [HI.out.1, M1.out (by first | rfl | trivial)]; simp
          clear r3 g3 H1 M1 M2 HI
          go_wp2
          go_ret
          exact ⟨gotR_some HN.out rfl X3.out.2.2 X3.out.1, X3.out.2.1⟩
        · go_wp2_with fail
          refine H1.out.mono ?_
          rintro e w3 ⟨rfl, r3, g3⟩
          have X3 : Hid (RdI w3 p a cap G (j + 1) ∧ GB p w w3 ∧ OwnC w3 w.heap.size u3 l) := ⟨r3, gb_trans HI.out.2.2.2.2.1 g3, own_gb HI.out.2.2.2.2.2 H0.out.2.1 g3⟩
          obtain ⟨f', hf, hf2, hf3⟩ := M2.out (by first | rfl | trivial)
          have HF : Hid (f = f' + 1 ∧ G.length ≤ j + 1 + f' ∧ rAndF f G j = (match rCond G (j + 1) with
            | none => none
            | some (c, k) => (rAndF f' G k).map fun q => (c :: q.1, q.2))) := ⟨hf, hf2, hf3⟩
          clear r3 g3 H1 M1 M2 hf hf2 hf3
          go_wp2_with fail
          cases e0 : rCond G (j + 1) with
          | none =>
            refine (show Calls Tryz.prog 127 _ _ _ from fails_of (val := CN.v) e0 (rcond_any X3.out.1 H0.out.2.2.2 (H0.out.2.2.1 _ X3.out.2.1))).mono ?_
            rintro e w4 ⟨rfl, g4⟩
            have F4 : Hid (GB p w w4) := gb_trans X3.out.2.1 g4
            have HN : Hid (rConds G i = none) := by unfold Hid; rw [HI.out.1, HF.out.2.2, e0]; rfl
            clear g4 e0
            go_wp2
            exact bad_panic rfl ⟨gotR_none HN.out rfl, F4.out⟩
          | some x =>
            obtain ⟨c, k⟩ := x
            have hlt := rCond_lt e0
            have HJ : Hid ((rConds G i = (rAndF f' G k).map fun q => ((l ++ [c]) ++ q.1, q.2)) ∧ G.length ≤ k + f' ∧ (l ++ [c]).length ≤ k ∧ j < k ∧ k ≤ G.length) := by
              refine ⟨?_, by have := HF.out.2.1; omega, by have := HI.out.2.2.1; simp; omega, by omega, hlt.2⟩
              rw [HI.out.1, HF.out.2.2, e0]
              simp only
              cases rAndF f' G k <;> simp
            have hlen : l.length ≤ 1200 := by have := HI.out.2.2.1; have := HI.out.2.2.2.1.2.1; have := HI.out.2.2.2.1.2.2.1; omega
            refine (show Calls Tryz.prog 127 _ _ _ from gives_of (val := CN.v) e0 (rcond_any X3.out.1 H0.out.2.2.2 (H0.out.2.2.1 _ X3.out.2.1))).mono ?_
            rintro e w4 ⟨⟨rfl, r4⟩, g4⟩
            have hown : w4.ownsRow w.heap.size 78 6 u3 l.length (flatC l) := own_gb X3.out.2.2 H0.out.2.1 g4
            have X4 : Hid (RdI w4 p a cap G k ∧ GB p w w4) := ⟨r4, gb_trans X3.out.2.1 g4⟩
            have hz4 : w.heap.size ≤ w4.heap.size := X4.out.2.size
            have HML : Hid (rdAt wr p = j) := HI.out.2.2.2.1.place
            clear r4 g4 X3 HI HF e0 hlt
            obtain ⟨ag, mh, ml, cm, vh, vl⟩ := c
            unfold CN.v
            simp only
            go_wp2_with (at_builtin; refine wpList_append_own _ rfl _ _ 51 rfl w.heap.size 78 i0 (.agg #[.int .i64 0, .int .i64 0, .int .i64 0, .int .i64 0, .int .i64 0, .int .i64 0]) 6 48 Tryz.underlying51 hi hz0 hz1 hz2 rfl (by decide) _ l.length _ rfl (hown.alloc _) ⟨w4.heap.size, 0, none⟩ 1 1 [.int .i64 ag, .int .i64 mh, .int .i64 ml, .int .i64 cm, .int .i64 vh, .int .i64 vl] rfl rfl ?c1 ?c2 ?c3 ?c4 ?c5 ?_)
            case c1 =>
              intro j u hu
              have := (CellsAt.new w4 [.int .i64 ag, .int .i64 mh, .int .i64 ml, .int .i64 cm, .int .i64 vh, .int .i64 vl] 78).2 j u hu
              rw [Addr.add_lit, Nat.zero_add]
              exact this
            case c2 => intro u hu; simp at hu; rcases hu with rfl | rfl | rfl | rfl | rfl | rfl <;> rfl
            case c3 => unfold maxLen; omega
            case c4 => omega
            case c5 => simp; omega
            · intro v' w5 hown5 hgrow5 _
              have hrow : ∀ x, Value.ownBlock u3 = some x → w.heap.size ≤ x := fun x hx => (own_lt9 hown hx).1
              have X5 : Hid (RdI w5 p a cap G k ∧ GB p w w5 ∧ OwnC w5 w.heap.size v' (l ++ [⟨ag, mh, ml, cm, vh, vl⟩])) := by
                refine ⟨H0.out.1.row (X4.out.1.step (Ext.one _ _)) hgrow5 hrow, gb_row (gb_alloc X4.out.2 _) hgrow5 hrow, ?_⟩
                have e := flatC_push l ⟨ag, mh, ml, cm, vh, vl⟩
                simp only [CN.l] at e
                rw [e] at hown5
                unfold OwnC
                rw [List.length_append]
                exact hown5
              clear hgrow5 hown5 hown X4
              go_wp2
              go_roundw
              case rel => exact ⟨_, k, f', HJ.out.1, HJ.out.2.1, HJ.out.2.2.1, X5.out⟩
              case measure =>
                have h1 := X5.out.1.place
                have h2 := HML.out
                have h3 := HJ.out.2.2.2
                rw [h1, h2]
                omega

theorem comma_more (f : Nat) (G : List Sg) (j : Nat) (hf : G.length ≤ j + f) :
    (isT G j tComma = false → rCommaF f G j = some ([], j)) ∧ (isT G j tComma = true → ∃ f', f = f' + 1 ∧ G.length ≤ j + 1 + f' ∧ rCommaF f G j = (match rCall G (j + 1) with
      | none => none
      | some (c, k) => (rCommaF f' G k).map fun q => (c :: q.1, q.2))) := by
  refine ⟨fun h => ?_, fun h => ?_⟩
  · cases f with
    | zero => rfl
    | succ f => rw [rCommaF, h]; rfl
  · have := isT_lt (by decide) h
    obtain ⟨f', rfl⟩ : ∃ f', f = f' + 1 := ⟨f - 1, by omega⟩
    exact ⟨f', rfl, by omega, by rw [rCommaF, h]; rfl⟩

set_option maxRecDepth 100000 in
set_option maxHeartbeats 1600000 in
theorem rnums_any {w : World} {p : Nat} {a : Option Addr} {cap : Nat} {G : List Sg} {i : Nat} (h : RdI w p a cap G i) (hG : Good G) :
    Calls Tryz.prog 108 #[.pointer (some ⟨p, 0, none⟩)] w fun e w' => GotR (fun W v l => OwnZ W w.heap.size v l) (rNums G i) p a cap G e w' ∧ GB p w w' := by
  obtain ⟨i0, hi, hz0, hz1, hz2⟩ := info_parts Tryz.infoIn
  have HP := passes_any tAny (by decide) h
  have H0 : Hid (RdI w p a cap G i ∧ p < w.heap.size ∧ Good G) := ⟨h, h.lt, hG⟩
  have HM : Hid (rNums G i = if isT G i tAny then some ([], i + 1) else (match rCall G i with
    | none => none
    | some (c, j) => (rCommaF G.length G j).map fun q => (sortZ (c :: q.1), q.2))) := rfl
  clear h hG
  obtain ⟨z, hz⟩ : ∃ z, z = isT G i tAny := ⟨_, rfl⟩
  rw [← hz] at HP HM
  have H1 : Hid (Calls Tryz.prog 104 #[.pointer (some ⟨p, 0, none⟩), .string ⟨#[97, 110, 121]⟩] w fun e w' => e = .returned (.bool z) ∧ RdI w' p a cap G (if z then i + 1 else i) ∧ GB p w w') := HP
  clear HP hz
  cases z
  case true =>
    go_enter Tryz.func108, Tryz.ntmps108
    go_wp2_with fail
    refine H1.out.mono ?_
    rintro e w1 ⟨rfl, r1, g1⟩
    have X1 : Hid (RdI w1 p a cap G (i + 1) ∧ GB p w w1) := ⟨r1, g1⟩
    clear r1 g1 H1
    go_wp2
    go_ret
    exact ⟨gotR_some HM.out rfl (World.ownsRow_nil _ _ _ _) X1.out.1, X1.out.2⟩
  case false =>
    have HM1 : Hid (rNums G i = (match rCall G i with
      | none => none
      | some (c, j) => (rCommaF G.length G j).map fun q => (sortZ (c :: q.1), q.2))) := HM.out
    clear HM
    go_enter Tryz.func108, Tryz.ntmps108
    go_wp2_with fail
    refine H1.out.mono ?_
    rintro e w1 ⟨rfl, r1, g1⟩
    have X1 : Hid (RdI w1 p a cap G i ∧ GB p w w1) := ⟨r1, g1⟩
    clear r1 g1 H1
    go_wp2_with fail
    cases e0 : rCall G i with
    | none =>
      refine (show Calls Tryz.prog 125 _ _ _ from fails_of (val := intV) e0 (callNum_any X1.out.1 H0.out.2.2)).mono ?_
      rintro e w2 ⟨rfl, g2⟩
      have F2 : Hid (GB p w w2) := gb_trans X1.out.2 g2
      have HN : Hid (rNums G i = none) := by unfold Hid; rw [HM1.out, e0]
      clear g2 e0
      go_wp2
      exact bad_panic rfl ⟨gotR_none HN.out rfl, F2.out⟩
    | some x =>
      obtain ⟨c, j⟩ := x
      have HJ : Hid (rNums G i = (rCommaF G.length G j).map fun q => (sortZ ([c] ++ q.1), q.2)) := by unfold Hid; rw [HM1.out, e0]; rfl
      have HL : Hid (j ≤ G.length ∧ 1 ≤ j) := by have := ((sCall_rel H0.out.2.2 i).1 c j e0).2.2; exact ⟨by omega, by omega⟩
      refine (show Calls Tryz.prog 125 _ _ _ from gives_of (val := intV) e0 (callNum_any X1.out.1 H0.out.2.2)).mono ?_
      rintro e w2 ⟨⟨rfl, r2⟩, g2⟩
      have X2 : Hid (RdI (w2.alloc (.cells #[.int .i64 c] 3)) p a cap G j ∧ GB p w (w2.alloc (.cells #[.int .i64 c] 3)) ∧ OwnZ (w2.alloc (.cells #[.int .i64 c] 3)) w.heap.size (.slice (some ⟨w2.heap.size, 0, none⟩) 1 1) [c]) :=
        ⟨r2.step (Ext.one _ _), gb_alloc (gb_trans X1.out.2 g2) _, World.ownsRow_lit (e := 3) (size := 1) w2 #[.int .i64 c] 1 (Nat.le_trans X1.out.2.size g2.size) (by decide) rfl⟩
      clear r2 g2 X1 HM1 e0
      unfold intV
      go_wp2_with fail
      generalize w2.alloc (.cells #[.int .i64 c] 3) = W2 at *
      go_loopw [3] (fun v wr => ∃ (l : List Int) (j f : Nat), Hid ((rNums G i = (rCommaF f G j).map fun q => (sortZ (l ++ q.1), q.2)) ∧ G.length ≤ j + f ∧ l.length ≤ j ∧ RdI wr p a cap G j ∧ GB p w wr ∧ OwnZ wr w.heap.size v l ∧ 1 ≤ l.length)) (fun _ W => G.length - rdAt W p)
      case atStart => exact ⟨_, j, G.length, HJ.out, by omega, by have := HL.out.2; simpa using this, X2.out.1, X2.out.2.1, X2.out.2.2, by simp⟩
      case round =>
        obtain ⟨l, j, f, HI⟩ := hrel
        have HP := passes_any tComma (by decide) HI.out.2.2.2.1
        obtain ⟨m1, m2⟩ := comma_more f G j HI.out.2.1
        obtain ⟨z, hz⟩ : ∃ z, z = isT G j tComma := ⟨_, rfl⟩
        rw [← hz] at HP m1 m2
        have H1 : Hid (Calls Tryz.prog 104 #[.pointer (some ⟨p, 0, none⟩), .string ⟨#[44]⟩] wr fun e w' => e = .returned (.bool z) ∧ RdI w' p a cap G (if z then j + 1 else j) ∧ GB p wr w') := HP
        have M1 : Hid (z = false → rCommaF f G j = some ([], j)) := m1
        have M2 : Hid (z = true → ∃ f', f = f' + 1 ∧ G.length ≤ j + 1 + f' ∧ rCommaF f G j = (match rCall G (j + 1) with
          | none => none
          | some (c, k) => (rCommaF f' G k).map fun q => (c :: q.1, q.2))) := m2
        clear HP m1 m2 hz X2 HJ HL
        have hlen : l.length ≤ 1200 := by have := HI.out.2.2.1; have := HI.out.2.2.2.1.2.1; have := HI.out.2.2.2.1.2.2.1; omega
        cases z
        · go_wp2_with fail
          refine H1.out.mono ?_
          rintro e w3 ⟨rfl, r3, g3⟩
          have hown : OwnZ w3 w.heap.size u3 l := own_gb HI.out.2.2.2.2.2.1 H0.out.2.1 g3
          have X3 : Hid (RdI w3 p a cap G j ∧ GB p w w3) := ⟨r3, gb_trans HI.out.2.2.2.2.1 g3⟩
          have HN : Hid (rNums G i = some (sortZ l, j)) := by unfold Hid; rw [HI.out.1, M1.out (by first | rfl | trivial)]; simp
          obtain ⟨g, cp, cur, rfl, hgb, hh, hnc, hcp, hcs, htake⟩ : ∃ g cp cur, u3 = .slice (some ⟨g, 0, none⟩) l.length cp ∧ w.heap.size ≤ g ∧ w3.heap[g]? = some (.cells cur 3 (0, 0)) ∧ l.length ≤ cp ∧ cp ≤ maxLen ∧ cur.size = cp * 1 ∧ cur.toList.take (l.length * 1) = l.map (Value.int .i64) := by
            rcases hown.2 with ⟨rfl, h0⟩ | ⟨g, cp, cur, h1, h2, h3, h4, h5, h6, h7⟩
            · have := HI.out.2.2.2.2.2.2; omega
            · exact ⟨g, cp, cur, h1, h2, h3, h4, h5, h6, h7⟩
          have HS : Hid (Calls Tryz.prog 126 #[.slice (some ⟨g, 0, none⟩) l.length cp] w3 fun e w' => e = .returned (.tuple #[]) ∧ OwnZ w' w.heap.size (.slice (some ⟨g, 0, none⟩) l.length cp) (sortZ l) ∧ w3.grownBy w' (some g)) := by
            refine (Tryz.slices_Sort_int g 0 cp l w3 (holds_of_blockI hh (by simpa using htake)) (Array.getElem?_eq_some_iff.1 hh).1 (by omega)).mono ?_
            rintro e w' ⟨rfl, n, os, rfl⟩
            refine ⟨rfl, ?_, grownBy_sortedI _⟩
            have hl : (sortZ l).length = l.length := by simp [sortZ]
            have := ownsRow_sortedI (w := w3) (base := w.heap.size) (n := n) (os := os) (ts := sortZ l) hl hgb hh hnc hcp hcs
            unfold OwnZ
            rw [hl]
            exact this
          have HG : Hid (w.heap.size ≤ g) := hgb
          clear r3 g3 H1 M1 M2 HI hown hh hnc hcp hcs htake hgb
          go_wp2_with fail
          refine HS.out.mono ?_
          rintro e w4 ⟨rfl, o4, g4⟩
          have hrow : ∀ x, some g = some x → w.heap.size ≤ x := fun x hx => by injection hx with hx; subst hx; exact HG.out
          have X4 : Hid (RdI w4 p a cap G j ∧ GB p w w4 ∧ OwnZ w4 w.heap.size (.slice (some ⟨g, 0, none⟩) l.length cp) (sortZ l)) := ⟨H0.out.1.row X3.out.1 g4 hrow, gb_row X3.out.2 g4 hrow, o4⟩
          clear o4 g4 HS hrow
          go_wp2
          go_ret
          exact ⟨gotR_some HN.out rfl X4.out.2.2 X4.out.1, X4.out.2.1⟩
        · go_wp2_with fail
          refine H1.out.mono ?_
          rintro e w3 ⟨rfl, r3, g3⟩
          have X3 : Hid (RdI w3 p a cap G (j + 1) ∧ GB p w w3 ∧ OwnZ w3 w.heap.size u3 l) := ⟨r3, gb_trans HI.out.2.2.2.2.1 g3, own_gb HI.out.2.2.2.2.2.1 H0.out.2.1 g3⟩
          obtain ⟨f', hf, hf2, hf3⟩ := M2.out (by first | rfl | trivial)
          have HF : Hid (f = f' + 1 ∧ G.length ≤ j + 1 + f' ∧ rCommaF f G j = (match rCall G (j + 1) with
            | none => none
            | some (c, k) => (rCommaF f' G k).map fun q => (c :: q.1, q.2))) := ⟨hf, hf2, hf3⟩
          clear r3 g3 H1 M1 M2 hf hf2 hf3
          go_wp2_with fail
          cases e0 : rCall G (j + 1) with
          | none =>
            refine (show Calls Tryz.prog 125 _ _ _ from fails_of (val := intV) e0 (callNum_any X3.out.1 H0.out.2.2)).mono ?_
            rintro e w4 ⟨rfl, g4⟩
            have F4 : Hid (GB p w w4) := gb_trans X3.out.2.1 g4
            have HN : Hid (rNums G i = none) := by unfold Hid; rw [HI.out.1, HF.out.2.2, e0]; rfl
            clear g4 e0
            go_wp2
            exact bad_panic rfl ⟨gotR_none HN.out rfl, F4.out⟩
          | some x =>
            obtain ⟨c, k⟩ := x
            have hlt := ((sCall_rel H0.out.2.2 (j + 1)).1 c k e0).2.2
            have HJ : Hid ((rNums G i = (rCommaF f' G k).map fun q => (sortZ ((l ++ [c]) ++ q.1), q.2)) ∧ G.length ≤ k + f' ∧ (l ++ [c]).length ≤ k ∧ j < k ∧ k ≤ G.length) := by
              refine ⟨?_, by have := HF.out.2.1; omega, by have := HI.out.2.2.1; simp; omega, by omega, by omega⟩
              rw [HI.out.1, HF.out.2.2, e0]
              simp only
              cases rCommaF f' G k <;> simp
            refine (show Calls Tryz.prog 125 _ _ _ from gives_of (val := intV) e0 (callNum_any X3.out.1 H0.out.2.2)).mono ?_
            rintro e w4 ⟨⟨rfl, r4⟩, g4⟩
            have hown : w4.ownsRow w.heap.size 3 1 u3 l.length (l.map (Value.int .i64)) := own_gb X3.out.2.2 H0.out.2.1 g4
            have X4 : Hid (RdI w4 p a cap G k ∧ GB p w w4) := ⟨r4, gb_trans X3.out.2.1 g4⟩
            have hz4 : w.heap.size ≤ w4.heap.size := X4.out.2.size
            have HML : Hid (rdAt wr p = j) := HI.out.2.2.2.1.place
            clear r4 g4 X3 HI HF e0 hlt
            unfold intV
            go_wp2_with (at_builtin; refine wpList_append_own _ rfl _ _ 50 rfl w.heap.size 3 i0 (.int .i64 0) 1 8 Tryz.underlying50 hi hz0 hz1 hz2 rfl (by decide) _ l.length _ rfl (hown.alloc _) ⟨w4.heap.size, 0, none⟩ 1 1 [.int .i64 c] rfl rfl ?c1 ?c2 ?c3 ?c4 ?c5 ?_)
            case c1 =>
              intro j u hu
              have := (CellsAt.new w4 [.int .i64 c] 3).2 j u hu
              rw [Addr.add_lit, Nat.zero_add]
              exact this
            case c2 => intro u hu; simp at hu; rcases hu with rfl; rfl
            case c3 => unfold maxLen; omega
            case c4 => omega
            case c5 => simp; omega
            · intro v' w5 hown5 hgrow5 _
              have hrow : ∀ x, Value.ownBlock u3 = some x → w.heap.size ≤ x := fun x hx => (own_lt9 hown hx).1
              have X5 : Hid (RdI w5 p a cap G k ∧ GB p w w5 ∧ OwnZ w5 w.heap.size v' (l ++ [c]) ∧ 1 ≤ (l ++ [c]).length) := by
                refine ⟨H0.out.1.row (X4.out.1.step (Ext.one _ _)) hgrow5 hrow, gb_row (gb_alloc X4.out.2 _) hgrow5 hrow, ?_, by simp⟩
                rw [show l.map (Value.int .i64) ++ [.int .i64 c] = (l ++ [c]).map (Value.int .i64) by simp] at hown5
                unfold OwnZ
                rw [List.length_append]
                exact hown5
              clear hgrow5 hown5 hown X4
              go_wp2
              go_roundw
              case rel => exact ⟨_, k, f', HJ.out.1, HJ.out.2.1, HJ.out.2.2.1, X5.out.1, X5.out.2.1, X5.out.2.2.1, X5.out.2.2.2⟩
              case measure =>
                have h1 := X5.out.1.place
                have h2 := HML.out
                have h3 := HJ.out.2.2.2
                rw [h1, h2]
                omega

end Go.Proofs.YtojaohdmfahpmaaGreatDoor
