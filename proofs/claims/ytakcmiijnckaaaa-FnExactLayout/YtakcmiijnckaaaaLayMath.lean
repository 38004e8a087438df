/- The words that lines become, in plain numbers. -/
import Derived.Test.YtakcmiijnckaaaaSizesI
namespace Go.Proofs.Ytakcmiijnckaaaa
open Go.RowKit
set_option linter.unusedVariables false

/-- The words of the line at i. -/
def wordsL (ls : List Ln) (s : Nat → Nat) (i : Nat) : List Wd :=
  if s i = 0 then []
  else if s i = 3 then [((ls.getD i zeroL).wd.1, (ls.getD i zeroL).wd.2.1, 0, 1), (7, 1 + (overL ls s i (ls.getD i zeroL).yes : Int), 0, 0), (7, (overL ls s i (ls.getD i zeroL).no : Int), 0, 0)]
  else if askB (ls.getD i zeroL).wd.1 = true then [((ls.getD i zeroL).wd.1, (ls.getD i zeroL).wd.2.1, (overL ls s i (ls.getD i zeroL).yes : Int), (overL ls s i (ls.getD i zeroL).no : Int))]
  else if (ls.getD i zeroL).wd.1 = 7 then [((ls.getD i zeroL).wd.1, (overL ls s i (ls.getD i zeroL).yes : Int), (ls.getD i zeroL).wd.2.2.1, (ls.getD i zeroL).wd.2.2.2)]
  else [(ls.getD i zeroL).wd]

/-- The words of the first n lines. -/
def layL (ls : List Ln) (s : Nat → Nat) : Nat → List Wd
  | 0 => []
  | n + 1 => layL ls s n ++ wordsL ls s n

theorem size_cases {ls : List Ln} {s : Nat → Nat} (hs : sizesP ls s) {i : Nat} (hi : i < ls.length) : s i = 0 ∨ s i = 1 ∨ s i = 3 := by
  rcases hs i hi with h | h | h | h <;> omega

theorem wordsL_length {ls : List Ln} {s : Nat → Nat} (hs : sizesP ls s) {i : Nat} (hi : i < ls.length) : (wordsL ls s i).length = s i := by
  unfold wordsL
  rcases size_cases hs hi with h | h | h <;> rw [h]
  · rfl
  · rw [if_neg (by decide), if_neg (by decide)]
    split
    · rfl
    · split <;> rfl
  · rfl

theorem layL_length {ls : List Ln} {s : Nat → Nat} (hs : sizesP ls s) : ∀ {n : Nat}, n ≤ ls.length → (layL ls s n).length = cnt s n
  | 0, _ => rfl
  | n + 1, h => by
    show (layL ls s n ++ wordsL ls s n).length = cnt s n + s n
    rw [List.length_append, layL_length hs (by omega), wordsL_length hs (by omega)]

theorem over_le {ls : List Ln} {s : Nat → Nat} (hs : sizesP ls s) (hl : linesP ls) (i : Nat) (lab : ByteArray) : overL ls s i lab ≤ 1800 := by
  have := cnt_le hs (n := pos ls lab) (pos_le ls lab)
  have := pos_le ls lab
  have := hl.1.2
  unfold overL
  omega

end Go.Proofs.Ytakcmiijnckaaaa
