/- Rules in memory; what impl's and spec's ruleOk, l09Rule and RuleHolds answer of one of them. -/
import Derived.Test.YtojaohdmfahpmaaDoorRuleIS
import Derived.Test.YtojaohdmfahpmaaDoorRuleS
import Derived.Test.YtojaohdmfahpmaaDoorRuleHS
import Derived.Test.YtojaohdmfahpmaaDoorCallRep
namespace Go.Proofs.YtojaohdmfahpmaaDoor
open Go.RowKit
set_option linter.unusedVariables false

/-- The four cells of a rule. -/
def RuleL (w : World) (r : RN) (l : List Value) : Prop :=
  ∃ a1 n1 c1 a2 n2 c2, l = [.slice a1 n1 c1, .slice a2 n2 c2, .int .i64 r.act, .int .i64 r.data] ∧ n1 = r.nums.length ∧ n2 = r.conds.length ∧ Nums w a1 r.nums ∧ Conds w a2 r.conds

theorem RuleL.step {w w' : World} {r : RN} {l : List Value} (h : RuleL w r l) (hE : Ext w w') : RuleL w' r l := by
  obtain ⟨a1, n1, c1, a2, n2, c2, e, e1, e2, h1, h2⟩ := h
  exact ⟨a1, n1, c1, a2, n2, c2, e, e1, e2, h1.step hE, h2.step hE⟩

theorem RuleL.form {w : World} {r : RN} {l : List Value} (h : RuleL w r l) : ∃ a1 n1 c1 a2 n2 c2 ac da, l = [.slice a1 n1 c1, .slice a2 n2 c2, .int .i64 ac, .int .i64 da] ∧ r.act = ac ∧ r.data = da := by
  obtain ⟨a1, n1, c1, a2, n2, c2, e, _⟩ := h
  exact ⟨a1, n1, c1, a2, n2, c2, _, _, e, rfl, rfl⟩

/-- The value v is the rule r. -/
def RepRule (r : RN) (v : Value) (w : World) : Prop := ∃ l, v = .agg l.toArray ∧ RuleL w r l

theorem RepRule.step {r : RN} {v : Value} {w w' : World} (h : RepRule r v w) (hE : Ext w w') : RepRule r v w' := by
  obtain ⟨l, e, hl⟩ := h
  exact ⟨l, e, hl.step hE⟩

/-- No more numbers or conditions than the laws look at. -/
def Small (r : RN) : Prop := r.nums.length ≤ 1048576 ∧ r.conds.length ≤ 1048576

theorem ruleOk_rep {r : RN} {v : Value} {w : World} (hs : Small r) (h : RepRule r v w) : Calls Tryd.prog 30 #[v] w fun e w' => e = .returned (.bool (ruleB r)) ∧ Ext w w' := by
  obtain ⟨l, rfl, a1, n1, c1, a2, n2, c2, rfl, rfl, rfl, h1, h2⟩ := h
  exact ruleOk_any r.nums r.conds r.act r.data a1 a2 c1 c2 w hs.1 hs.2 h1 h2

theorem l09Rule_rep {r : RN} {v : Value} {w : World} (hs : Small r) (h : RepRule r v w) : Calls Tryd.prog 21 #[v] w fun e w' => e = .returned (.bool (ruleB r)) ∧ Ext w w' := by
  obtain ⟨l, rfl, a1, n1, c1, a2, n2, c2, rfl, rfl, rfl, h1, h2⟩ := h
  exact l09Rule_any r.nums r.conds r.act r.data a1 a2 c1 c2 w hs.1 hs.2 h1 h2

/-- A slice of rules in memory, four cells each. -/
def Rules (w : World) (a : Option Addr) (rs : List RN) : Prop :=
  0 < rs.length → ∃ b off, a = some ⟨b, off, none⟩ ∧ b < w.heap.size ∧ ∀ j, j < rs.length → ∃ l, Seg w b (off + j * 4) l ∧ RuleL w (rs.getD j r0) l

theorem Rules.step {w w' : World} {a : Option Addr} {rs : List RN} (h : Rules w a rs) (hE : Ext w w') : Rules w' a rs := fun hp => by
  obtain ⟨b, off, ha, hb, hc⟩ := h hp
  refine ⟨b, off, ha, Nat.lt_of_lt_of_le hb hE.size, fun j hj => ?_⟩
  obtain ⟨l, h1, h2⟩ := hc j hj
  exact ⟨l, h1.below hE hb, h2.step hE⟩

theorem Rules.at {w : World} {a : Option Addr} {rs : List RN} (h : Rules w a rs) {k : Nat} (hk : k < rs.length) : ∃ b off l, a = some ⟨b, off, none⟩ ∧ SegB w b (off + k * 4) l ∧ RuleL w (rs.getD k r0) l := by
  obtain ⟨b, off, ha, hb, hx⟩ := h (by omega)
  obtain ⟨l, h1, h2⟩ := hx k hk
  exact ⟨b, off, l, ha, ⟨hb, h1⟩, h2⟩

def SmallR (rs : List RN) : Prop := rs.length ≤ 1048576 ∧ ∀ k, k < rs.length → Small (rs.getD k r0)

theorem policyB_if (ar ac da : Int) (rs : List RN) : policyB ⟨ar, ac, da, rs⟩ = (halfB ar && outB ac da && decide (rs.length ≤ 10) && rs.all ruleB) := rfl

end Go.Proofs.YtojaohdmfahpmaaDoor
