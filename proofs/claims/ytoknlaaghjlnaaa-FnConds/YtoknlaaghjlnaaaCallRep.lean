/- A call as a value in memory, whatever its address; what the laws' helpers make of it. -/
import Derived.Test.YtoknlaaghjlnaaaWideSl
import Derived.Test.YtoknlaaghjlnaaaBoxes
import Derived.Test.YtoknlaaghjlnaaaBoxes
namespace Go.Proofs.Ytoknlaaghjlnaaa
open Go.RowKit
set_option linter.unusedVariables false

/-- The value v is the call of these numbers. -/
def RepCall (arch num : Int) (ws : List (Int × Int)) (v : Value) (w : World) : Prop := ∃ a cap, v = .agg #[.int .i64 arch, .int .i64 num, .slice a ws.length cap] ∧ Wides w a ws

theorem RepCall.step {arch num : Int} {ws : List (Int × Int)} {v : Value} {w w' : World} (h : RepCall arch num ws v w) (hE : Ext w w') : RepCall arch num ws v w' := by
  obtain ⟨a, cap, rfl, hw⟩ := h
  exact ⟨a, cap, rfl, hw.below hE (Nat.le_refl _)⟩

theorem toCall_rep (arch num : Int) (ws : List (Int × Int)) (v : Value) (w : World) (hl : ws.length ≤ 1048576) (h : RepCall arch num ws v w) :
    Calls Try.prog 34 #[v] w fun e w' => ∃ u, e = .returned u ∧ RepCall arch num ws u w' ∧ Ext w w' := by
  obtain ⟨a, cap, rfl, hw⟩ := h
  refine (toCall_any arch num a cap ws w hl hw).mono ?_
  rintro e w' ⟨g, rfl, hg, hw', hb⟩
  exact ⟨_, rfl, ⟨_, _, rfl, hw'⟩, hb⟩

theorem eqCall_rep (arch num : Int) (ws : List (Int × Int)) (v1 v2 : Value) (w : World) (hl : ws.length ≤ 1048576) (h1 : RepCall arch num ws v1 w) (h2 : RepCall arch num ws v2 w) :
    Calls Try.prog 35 #[v1, v2] w fun e w' => e = .returned (.bool true) ∧ Ext w w' := by
  obtain ⟨a1, c1, rfl, hw1⟩ := h1
  obtain ⟨a2, c2, rfl, hw2⟩ := h2
  exact eqCall_same arch num a1 a2 c1 c2 ws w hl hw1 hw2

theorem sCall_rep (arch num : Int) (ws : List (Int × Int)) (v : Value) (w : World) (hl : ws.length ≤ 1048576) (h : RepCall arch num ws v w) :
    Calls Try.prog 49 #[v] w fun e w' => e = .returned (.bool (callB arch num ws)) ∧ Ext w w' := by
  obtain ⟨a, cap, rfl, hw⟩ := h
  exact sCall_any arch num a cap ws w hl hw

theorem iCall_rep (arch num : Int) (ws : List (Int × Int)) (v : Value) (w : World) (hl : ws.length ≤ 1048576) (h : RepCall arch num ws v w) :
    Calls Try.prog 48 #[v] w fun e w' => e = .returned (.bool (callB arch num ws)) ∧ Ext w w' := by
  obtain ⟨a, cap, rfl, hw⟩ := h
  exact iCall_any arch num a cap ws w hl hw

def fieldR (arch num : Int) (ws : List (Int × Int)) (t : Int) : Int := if fieldOk arch num ws t then fieldV arch num ws t else 0

end Go.Proofs.Ytoknlaaghjlnaaa
