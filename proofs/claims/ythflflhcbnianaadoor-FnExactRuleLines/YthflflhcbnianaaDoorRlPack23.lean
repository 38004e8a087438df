/- Lines with labels in plain numbers: which are right, how many words each becomes, and what those words are. -/
import Derived.Test.YthflflhcbnianaaDoorRlPack20
import Derived.Test.YthflflhcbnianaaDoorRlPack21
/- Words as four numbers; blocks that hold one. (What the texts of chapter 6 have of it, without their texts.) -/
namespace Go.Proofs.YthflflhcbnianaaDoor
open Go.RowKit
set_option linter.unusedVariables false

/-- A word: Op, K, Yes, No. -/
abbrev Wd := Int × Int × Int × Int

def zeroW : Wd := (0, 0, 0, 0)

/-- Four numbers in a row. -/
def ints4 (a b c d : Int) : List Value := [.int .i64 a, .int .i64 b, .int .i64 c, .int .i64 d]

theorem Blk.other {W : World} {k j : Nat} {l : List Value} {t : TypeId} (h : Blk W k l t) (hj : k ≠ j) (i : Nat) (v : Value) : Blk (W.setCell ⟨j, i, none⟩ v) k l t :=
  (Below.heap_setCell _ _ _ _ hj).trans h

theorem Blk.set {W : World} {k : Nat} {l : List Value} {t : TypeId} (h : Blk W k l t) (i : Nat) (v : Value) : Blk (W.setCell ⟨k, i, none⟩ v) k (l.set i v) t := by
  have := set_in h (j := i) v
  unfold Blk
  rw [this]
  simp

/-- A line. -/
structure Ln where
  lab : ByteArray
  wd : Wd
  yes : ByteArray
  no : ByteArray

def noText : ByteArray := ⟨#[]⟩

def zeroL : Ln := ⟨noText, zeroW, noText, noText⟩

/-- A place of that label. -/
def isAt (l : Ln) (lab : ByteArray) : Bool := decide (l.wd = zeroW) && decide (l.lab = lab)

/-- Where the first place of a label stands; behind them all without one. -/
def pos : List Ln → ByteArray → Nat
  | [], _ => 0
  | l :: ls, lab => if isAt l lab = true then 0 else pos ls lab + 1

/-! What the one that goes through them once holds them against: that no label stands twice, each line by itself, and that the ways lead to places that are behind. -/

/-! Sizes. -/

/-- How many words the first n lines become. -/
def cnt (s : Nat → Nat) : Nat → Nat
  | 0 => 0
  | n + 1 => cnt s n + s n

/-! Sizes found by trying again until nothing grows. -/

end Go.Proofs.YthflflhcbnianaaDoor
