/- What impl's and spec's RuleHolds answer, of any rule and any call. -/
import Derived.Test.YtojaohdmfahpmaaDoorNumsIS
import Derived.Test.YtojaohdmfahpmaaDoorCondIS
namespace Go.Proofs.YtojaohdmfahpmaaDoor
open Go.RowKit
set_option linter.unusedVariables false

/-- The cells l lie in an old block. -/
def SegB (W : World) (b o : Nat) (l : List Value) : Prop := b < W.heap.size ∧ Seg W b o l

theorem SegB.step {W W' : World} {b o : Nat} {l : List Value} (h : SegB W b o l) (hE : Ext W W') : SegB W' b o l := ⟨Nat.lt_of_lt_of_le h.1 hE.size, h.2.below hE h.1⟩

theorem SegB.drew {W : World} {b o : Nat} {l : List Value} (h : SegB W b o l) : SegB W.drew b o l := h

theorem ruleH_if (zs : List Int) (cs : List CN) (a d arch num : Int) (ws : List (Int × Int)) : ruleH ⟨zs, cs, a, d⟩ arch num ws = (numH zs num && cs.all fun c => condH c arch num ws) := rfl

theorem numH_nil {zs : List Int} {num : Int} (h : zs.length = 0) : numH zs num = true := by simp [numH, h]

theorem numH_some {zs : List Int} {num : Int} (h : zs.length ≠ 0) : numH zs num = zs.contains num := by simp only [numH, decide_eq_false h, Bool.false_or]

end Go.Proofs.YtojaohdmfahpmaaDoor
