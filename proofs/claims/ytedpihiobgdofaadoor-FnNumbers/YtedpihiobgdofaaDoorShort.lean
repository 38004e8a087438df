/- What spec.ShortText and impl.ShortText answer at every text. -/
import Derived.Test.YtedpihiobgdofaaDoorVar
import Derived.WalkKit
import Derived.Laws.Concat
namespace Go.Proofs.YtedpihiobgdofaaDoor
open Go.RowKit

theorem add_short (s : ByteArray) (wx : World) (hn : s.size ≤ 20000) : (Op.stringOp .add ⟨(V s.size).toArray⟩ s).run Tryd.prog wx = .ok (.string (⟨(V s.size).toArray⟩ ++ s)) wx :=
  run_string_add_sum wx _ _ (by have := V_len s.size s.size; simp only [ByteArray.size, List.size_toArray, V] at *; omega)

theorem iShort_in (s : ByteArray) (w : World) (hn : s.size ≤ 20000) :
    Calls Tryd.prog 11 #[.string s] w fun e w' => e = .returned (.tuple #[.string (⟨(V s.size).toArray⟩ ++ s), .bool true]) ∧ Below w.heap.size w w' := by
  have hadd := fun wx => add_short s wx hn
  go_enter Tryd.func11, Tryd.ntmps11
  go_wp2_with fail
  refine (iVarText_in _ _ (by omega)).mono ?_
  rintro e w' ⟨rfl, hb⟩
  go_wp2
  go_ret2
  exact ⟨rfl, hb⟩

theorem iShort_out (s : ByteArray) (w : World) (hn : 20000 < s.size) :
    Calls Tryd.prog 11 #[.string s] w fun e w' => e = .returned (.tuple #[.string ⟨#[]⟩, .bool false]) ∧ Below w.heap.size w w' := by
  go_enter Tryd.func11, Tryd.ntmps11
  go_wp2
  go_ret2
  exact ⟨rfl, Below.refl _ _⟩

end Go.Proofs.YtedpihiobgdofaaDoor
