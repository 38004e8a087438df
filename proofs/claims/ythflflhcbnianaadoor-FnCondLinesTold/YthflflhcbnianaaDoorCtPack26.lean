/- What the laws' helpers over slices of lines answer: szLineS, toLineS, eqLineS. -/
import Derived.Test.YthflflhcbnianaaDoorCtPack25
import Derived.Handy
import Derived.Deep.Cut
import Derived.Test.YthflflhcbnianaaDoorCtPack24
import Derived.Deep.RegionHeld3
/- What the laws' helpers szLine, toLine, eqLine answer; a law's slice of lines opened. -/
namespace Go.Proofs.YthflflhcbnianaaDoor
open Go.ChangeShapes Go.WideShapes Go.ChangeAt Go.RowKit Go.Joins Go.Deep
set_option linter.unusedVariables false

end Go.Proofs.YthflflhcbnianaaDoor

namespace Go.Proofs.YthflflhcbnianaaDoor
open Go.RowKit
set_option linter.unusedVariables false

theorem Tryd.infoLn : (Tryd.prog.info? 38).map (fun i => (i.zero, i.size, i.bytes)) = some (some (.agg #[.string ⟨#[]⟩, .int .i64 0, .int .i64 0, .int .i64 0, .int .i64 0, .string ⟨#[]⟩, .string ⟨#[]⟩]), 7, 80) := by kernel_rfl

end Go.Proofs.YthflflhcbnianaaDoor
