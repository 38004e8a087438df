/- What spec.l01Var and impl.VarText answer at every number: the bytes V of the number where it is in 0 .. MaxNumber, else nothing and false. -/
import Derived.Test.YtfbdbeaijkhbfaaDoorInfoB
import Derived.Test.YtfbdbeaijkhbfaaDoorRows
import Derived.Test.YtfbdbeaijkhbfaaDoorBase
import Derived.WalkKit
import Derived.WalkSpells
namespace Go.Proofs.YtfbdbeaijkhbfaaDoor
open Go.RowKit

theorem l01In_yes (x a b : Int) (w : World) (h1 : a ≤ x) (h2 : x ≤ b) :
    Calls Tryd.prog 35 #[.int .i64 x, .int .i64 a, .int .i64 b] w fun e w' => e = .returned (.bool true) ∧ w = w' := by
  have d1 : decide (a ≤ x) = true := by simpa using h1
  have d2 : decide (x ≤ b) = true := by simpa using h2
  go_enter Tryd.func35, Tryd.ntmps35
  go_wp2
  go_ret
  exact ⟨by simp, rfl⟩

theorem l01In_no (x a b : Int) (w : World) (h : x < a ∨ b < x) :
    Calls Tryd.prog 35 #[.int .i64 x, .int .i64 a, .int .i64 b] w fun e w' => e = .returned (.bool false) ∧ w = w' := by
  by_cases h0 : x < a
  · have d1 : decide (a ≤ x) = false := by simpa using h0
    go_enter Tryd.func35, Tryd.ntmps35
    go_wp2
    go_ret
    exact ⟨by simp, rfl⟩
  · have h1 : a ≤ x := by omega
    have h2 : b < x := by omega
    have d1 : decide (a ≤ x) = true := by simpa using h1
    have d2 : decide (x ≤ b) = false := by simpa using h2
    go_enter Tryd.func35, Tryd.ntmps35
    go_wp2
    go_ret
    exact ⟨by simp, rfl⟩

end Go.Proofs.YtfbdbeaijkhbfaaDoor
