/- What spec.VarText answers at every number: the bytes V of it and true where it is in 0 .. MaxNumber, else nothing and false. -/
import Derived.Test.YtedpihiobgdofajVar
import Derived.WalkKit
namespace Go.Proofs.Ytedpihiobgdofaj
open Go.RowKit

theorem sVarText_in (n0 : Nat) (w : World) (hn : n0 ≤ 1000000000) :
    Calls Try.prog 4 #[.int .i64 n0] w fun e w' => e = .returned (.tuple #[.string ⟨(V n0).toArray⟩, .bool true]) ∧ Below w.heap.size w w' := by
  go_enter Try.func4, Try.ntmps4
  go_wp2_with fail
  refine (l01In_yes _ _ _ _ (by omega) (by omega)).mono ?_
  rintro e w' ⟨rfl, rfl⟩
  go_wp2_with fail
  refine (l01Var_any _ _ hn).mono ?_
  rintro e w' ⟨rfl, hb⟩
  go_wp2
  go_ret2
  exact ⟨rfl, hb⟩

theorem sVarText_out (n : Int) (w : World) (hn : n < 0 ∨ 1000000000 < n) :
    Calls Try.prog 4 #[.int .i64 n] w fun e w' => e = .returned (.tuple #[.string ⟨#[]⟩, .bool false]) ∧ Below w.heap.size w w' := by
  go_enter Try.func4, Try.ntmps4
  go_wp2_with fail
  refine (l01In_no _ _ _ _ hn).mono ?_
  rintro e w' ⟨rfl, rfl⟩
  go_wp2
  go_ret2
  exact ⟨rfl, Below.refl _ _⟩

end Go.Proofs.Ytedpihiobgdofaj
