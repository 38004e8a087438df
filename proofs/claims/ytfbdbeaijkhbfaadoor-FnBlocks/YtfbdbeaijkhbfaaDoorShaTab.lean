/- The program's two tables, as its text lays them, and what is read from them. -/
import Derived.Test.YtfbdbeaijkhbfaaDoorShaRow
import Derived.Lib.LaidTab
import Derived.WalkSmall
namespace Go.Proofs.YtfbdbeaijkhbfaaDoor
open Go.RowKit
set_option linter.unusedVariables false

def keysZ : List Int := keysN.map fun (n : Nat) => ((n : Nat) : Int)
def beginZ : List Int := begin8.list.map fun (n : Nat) => ((n : Nat) : Int)

theorem gBegin : Tryd.prog.globalNamed "loop.example/g00397/impl.shaBegin" = some 0 := by kernel_rfl

theorem gKeys : Tryd.prog.globalNamed "loop.example/g00397/impl.shaRounds" = some 1 := by kernel_rfl

def TabB (w : World) : Prop := Lib.TabIs Tryd.prog w "loop.example/g00397/impl.shaBegin" .u32 beginZ

def TabK (w : World) : Prop := Lib.TabIs Tryd.prog w "loop.example/g00397/impl.shaRounds" .u32 keysZ

theorem keysN_length : keysN.length = 64 := rfl

theorem TabK.at {w : World} (h : TabK w) (r : Nat) (hr : r < 64) : w.cell? ⟨1, r, none⟩ = some (.int .u32 ((keysN.getD r 0 : Nat) : Int)) := by
  have := Lib.TabIs.cell h gKeys r (by simp [keysZ, keysN_length, hr])
  rw [this]
  have hr' : r < keysN.length := by rw [keysN_length]; exact hr
  simp [keysZ, List.getElem?_eq_getElem hr']

theorem TabB.at {w : World} (h : TabB w) (r : Nat) (hr : r < 8) : w.cell? ⟨0, r, none⟩ = some (.int .u32 ((begin8.list.getD r 0 : Nat) : Int)) := by
  have hl : begin8.list.length = 8 := rfl
  have := Lib.TabIs.cell h gBegin r (by simp [beginZ, hl, hr])
  rw [this]
  have hr' : r < begin8.list.length := by rw [hl]; exact hr
  simp [beginZ, List.getElem?_eq_getElem hr']

theorem TabK.pos {w : World} (h : TabK w) : 1 < w.heap.size := World.block_lt_of_cell? w _ (h.at 0 (by omega))

theorem TabB.pos {w : World} (h : TabB w) : 0 < w.heap.size := World.block_lt_of_cell? w _ (h.at 0 (by omega))

theorem TabK.below {w w' : World} {B : Nat} (h : TabK w) (hb : Below B w w') (hB : 1 < B) : TabK w' := var?_below hb gKeys hB h

theorem TabB.below {w w' : World} {B : Nat} (h : TabB w) (hb : Below B w w') (hB : 0 < B) : TabB w' := var?_below hb gBegin hB h

end Go.Proofs.YtfbdbeaijkhbfaaDoor
