/- What the laws' own heldStringS answers at a list that bears its marks: the number behind the last one. -/
import Derived.Test.YtojaohdmfahpmaaGreatDoorPolPack5
import Derived.Test.YtojaohdmfahpmaaGreatDoorPolPack7
import Derived.WalkKit
import Derived.WalkSpells
import Derived.WalkSmall
import Derived.BigQuiet
import Derived.Deep.QuietTactic
import Derived.Deep.RegionHeld3
import Derived.LoopN
/- What the laws' own helpers over lists of texts answer: markText, eqStringS at like lists, markStringS, heldStringS behind it. -/
namespace Go.Proofs.YtojaohdmfahpmaaGreatDoor
open Go.RowKit
set_option linter.unusedVariables false

def markB (k : Nat) : ByteArray := ⟨(109 :: dec k).toArray⟩

def rowS (xs : List ByteArray) : List Value := xs.map Value.string

theorem rowS_at (xs : List ByteArray) (k : Nat) (h : k < xs.length) : (rowS xs)[k]? = some (.string xs[k]) := by simp [rowS, h]

def marks (k0 n : Nat) : List ByteArray := (List.range n).map fun j => markB (k0 + j)



end Go.Proofs.YtojaohdmfahpmaaGreatDoor
