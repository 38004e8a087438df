/- What impl's and spec's CondHolds answer, of any condition and any call. -/
import Derived.Test.YtojaohdmfahpmaaDoorCondOkIS
namespace Go.Proofs.YtojaohdmfahpmaaDoor
open Go.RowKit
set_option linter.unusedVariables false

theorem condH_no1 {c : CN} {arch num : Int} {ws : List (Int × Int)} (h : condB c = false) : condH c arch num ws = false := by simp [condH, h]

theorem condH_no2 {c : CN} {arch num : Int} {ws : List (Int × Int)} (h : callB arch num ws = false) : condH c arch num ws = false := by simp [condH, h]

theorem condH_yes {c : CN} {arch num : Int} {ws : List (Int × Int)} (h : condB c = true) (k : callB arch num ws = true) : condH c arch num ws = asB (cmpC c ws) c.cm := by simp [condH, h, k]

theorem condB_parts {c : CN} (h : condB c = true) : 0 ≤ c.arg ∧ c.arg ≤ 2 ∧ 1 ≤ c.cm ∧ c.cm ≤ 6 := by
  simp only [condB, Bool.and_eq_true, inB_true] at h
  exact ⟨h.1.1.1.1, h.1.1.1.2, h.1.1.2.1, h.1.1.2.2⟩

theorem callB_three {arch num : Int} {ws : List (Int × Int)} (h : callB arch num ws = true) : ws.length = 3 := by
  simp only [callB, Bool.and_eq_true, decide_eq_true_eq] at h
  exact h.1.2

end Go.Proofs.YtojaohdmfahpmaaDoor
