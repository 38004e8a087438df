/- Lines with labels in plain numbers: which are right, how many words each becomes, and what those words are. -/
import Derived.Test.YthflflhcbnianaaDoorCtPack20
import Derived.Test.YthflflhcbnianaaDoorCtPack21
/- Words as four numbers; blocks that hold one. (What the texts of chapter 6 have of it, without their texts.) -/
namespace Go.Proofs.YthflflhcbnianaaDoor
open Go.RowKit
set_option linter.unusedVariables false

/-- A word: Op, K, Yes, No. -/
abbrev Wd := Int × Int × Int × Int

def zeroW : Wd := (0, 0, 0, 0)

def okW (p : Wd) : Bool := insB p.1 p.2.1 p.2.2.1 p.2.2.2

/-- Four numbers in a row. -/
def ints4 (a b c d : Int) : List Value := [.int .i64 a, .int .i64 b, .int .i64 c, .int .i64 d]

theorem Blk.other {W : World} {k j : Nat} {l : List Value} {t : TypeId} (h : Blk W k l t) (hj : k ≠ j) (i : Nat) (v : Value) : Blk (W.setCell ⟨j, i, none⟩ v) k l t :=
  (Below.heap_setCell _ _ _ _ hj).trans h

theorem Blk.set {W : World} {k : Nat} {l : List Value} {t : TypeId} (h : Blk W k l t) (i : Nat) (v : Value) : Blk (W.setCell ⟨k, i, none⟩ v) k (l.set i v) t := by
  have := set_in h (j := i) v
  unfold Blk
  rw [this]
  simp

/-- Its two ways, one but at a question. -/
def yesW (p : Wd) : Int := if 3 ≤ p.1 ∧ p.1 ≤ 6 then p.2.2.1 else if p.1 = 7 then p.2.1 else 0

def noW (p : Wd) : Int := if 3 ≤ p.1 ∧ p.1 ≤ 6 then p.2.2.2 else if p.1 = 7 then p.2.1 else 0

/-- A line. -/
structure Ln where
  lab : ByteArray
  wd : Wd
  yes : ByteArray
  no : ByteArray

def noText : ByteArray := ⟨#[]⟩

def zeroL : Ln := ⟨noText, zeroW, noText, noText⟩

/-- A place of that label. -/
def isAt (l : Ln) (lab : ByteArray) : Bool := decide (l.wd = zeroW) && decide (l.lab = lab)

/-- Where the first place of a label stands; behind them all without one. -/
def pos : List Ln → ByteArray → Nat
  | [], _ => 0
  | l :: ls, lab => if isAt l lab = true then 0 else pos ls lab + 1

/-- A question, by its Op. -/
def askP (o : Int) : Prop := 3 ≤ o ∧ o ≤ 6

/-! What the one that goes through them once holds them against: that no label stands twice, each line by itself, and that the ways lead to places that are behind. -/

/-- A place, by its Op alone. -/
def opAt (l : Ln) (lab : ByteArray) : Prop := l.wd.1 = 0 ∧ l.lab = lab

/-- No label twice among the first n. -/
def oncePto (ls : List Ln) (n : Nat) : Prop := ∀ i j, i < j → j < n → (ls.getD i zeroL).wd.1 = 0 → (ls.getD j zeroL).wd.1 = 0 → (ls.getD i zeroL).lab ≠ (ls.getD j zeroL).lab

/-- A line by itself. -/
def fitsP (l : Ln) : Prop :=
  (l.wd.1 = 0 ∧ (1 ≤ l.lab.size ∧ l.lab.size ≤ 12) ∧ l.wd = zeroW ∧ l.yes = noText ∧ l.no = noText) ∨
  (l.wd.1 ≠ 0 ∧ l.lab = noText ∧ okW l.wd = true ∧ yesW l.wd = 0 ∧ noW l.wd = 0)

/-- From i on there is a place of that label. -/
def behP (ls : List Ln) (i : Nat) (lab : ByteArray) : Prop := ∃ j, i ≤ j ∧ j < ls.length ∧ opAt (ls.getD j zeroL) lab

/-- The ways of its kind, to places from i on. -/
def leadP (ls : List Ln) (i : Nat) (l : Ln) : Prop :=
  (askP l.wd.1 ∧ behP ls i l.yes ∧ behP ls i l.no) ∨ (¬ askP l.wd.1 ∧ l.wd.1 = 7 ∧ behP ls i l.yes ∧ l.no = noText) ∨ (¬ askP l.wd.1 ∧ l.wd.1 ≠ 7 ∧ l.yes = noText ∧ l.no = noText)

/-! Sizes. -/

/-- How many words the first n lines become. -/
def cnt (s : Nat → Nat) : Nat → Nat
  | 0 => 0
  | n + 1 => cnt s n + s n

/-! Sizes found by trying again until nothing grows. -/

end Go.Proofs.YthflflhcbnianaaDoor
