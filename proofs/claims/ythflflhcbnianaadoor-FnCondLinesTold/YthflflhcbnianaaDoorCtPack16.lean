/- What impl's InsOk answers, of any four numbers: just whether the word is right. -/
import Derived.Test.YthflflhcbnianaaDoorRows
import Derived.Test.YthflflhcbnianaaDoorCtPack5
import Derived.Test.YthflflhcbnianaaDoorCtPack1
import Derived.Test.YthflflhcbnianaaDoorCtPack3
import Derived.Test.YthflflhcbnianaaDoorCtPack4
import Derived.WalkKit
import Derived.WalkSpells
import Derived.WalkSmall
import Derived.Below
import Derived.Handy
import Derived.Laws.StructEq
import Derived.ChangeKeysEq
/- What impl's and spec's InsOk answer, of any four numbers. -/
namespace Go.Proofs.YthflflhcbnianaaDoor
open Go.RowKit
set_option linter.unusedVariables false

theorem fieldsN : ∃ f g h i : Field, Tryd.prog.fieldsOf 36 = #[f, g, h, i] ∧ Tryd.prog.underlying 36 = some (.struct #[f, g, h, i]) ∧ (f.name ≠ "_" ∧ f.type = 3 ∧ f.offset = 0) ∧ (g.name ≠ "_" ∧ g.type = 3 ∧ g.offset = 1) ∧ (h.name ≠ "_" ∧ h.type = 3 ∧ h.offset = 2) ∧ (i.name ≠ "_" ∧ i.type = 3 ∧ i.offset = 3) := by
  refine ⟨_, _, _, _, ?_, Tryd.underlying36, ⟨by decide, rfl, rfl⟩, ⟨by decide, rfl, rfl⟩, ⟨by decide, rfl, rfl⟩, ⟨by decide, rfl, rfl⟩⟩
  unfold Program.fieldsOf
  rw [Tryd.underlying36]

theorem stoodN : Tryd.prog.stoodInHeld 36 = false := by kernel_rfl



end Go.Proofs.YthflflhcbnianaaDoor
