/- What spec.l01Figure answers at 0 .. 15: the figure's byte. -/
import Derived.Test.YteokhcaanakcaaaDoorRows
import Derived.Test.YteokhcaanakcaaaDoorHexMath
import Derived.WalkKit
namespace Go.Proofs.YteokhcaanakcaaaDoor
open Go.RowKit

theorem figure_any (p : Nat) (w : World) (hp : p < 16) :
    Calls Tryd.prog 43 #[.int .i64 (p : Int)] w fun e w' => e = .returned (.int .u8 (hexN p : Nat)) ∧ w = w' := by
  by_cases h : p < 10
  · go_enter Tryd.func43, Tryd.ntmps43
    go_wp2
    go_ret
    exact ⟨by unfold hexN; rw [if_pos h]; simp, rfl⟩
  · go_enter Tryd.func43, Tryd.ntmps43
    go_wp2
    go_ret
    exact ⟨ret_int (a := 97 + (p : Int) - 10) (by unfold hexN; rw [if_neg h]; omega), rfl⟩

theorem figure_at (x : Int) (p : Nat) (w : World) (hx : x = (p : Int)) (hp : p < 16) :
    Calls Tryd.prog 43 #[.int .i64 x] w fun e w' => e = .returned (.int .u8 (hexN p : Nat)) ∧ w = w' := by
  subst hx; exact figure_any p w hp

end Go.Proofs.YteokhcaanakcaaaDoor
