/- Which words one can come to, in plain lists. -/
import Derived.Test.YtaigoggoibdgbaaCheckMath
namespace Go.Proofs.Ytaigoggoibdgbaa
open Go.RowKit
set_option linter.unusedVariables false

/-- What the word at i adds to what was come to before. -/
def markR (ws : List Wd) (bs : List Bool) (i : Nat) : List Bool :=
  if bs.getD i false = true ∧ (ws.getD i zeroW).1 ≠ 8 then (bs.set (i + 1 + (yesW (ws.getD i zeroW)).toNat) true).set (i + 1 + (noW (ws.getD i zeroW)).toNat) true else bs

def reachAt (ws : List Wd) : Nat → List Bool
  | 0 => (List.replicate ws.length false).set 0 true
  | k + 1 => markR ws (reachAt ws k) k

def reachP (ws : List Wd) : List Bool := if checkP ws = true then reachAt ws ws.length else []

theorem markR_length (ws : List Wd) (bs : List Bool) (i : Nat) : (markR ws bs i).length = bs.length := by
  unfold markR
  split <;> simp

theorem reachAt_length (ws : List Wd) : ∀ k, (reachAt ws k).length = ws.length
  | 0 => by simp [reachAt]
  | k + 1 => by rw [reachAt, markR_length]; exact reachAt_length ws k

theorem reachP_yes {ws : List Wd} (h : checkP ws = true) : reachP ws = reachAt ws ws.length := by unfold reachP; rw [if_pos h]

theorem reachP_no {ws : List Wd} (h : checkP ws = false) : reachP ws = [] := by unfold reachP; rw [if_neg (by rw [h]; simp)]

theorem markR_not {ws : List Wd} {bs : List Bool} {i : Nat} (h : bs.getD i false = false) : markR ws bs i = bs := by unfold markR; rw [if_neg (by rw [h]; simp)]

theorem markR_ret {ws : List Wd} {bs : List Bool} {i : Nat} (h : (ws.getD i zeroW).1 = 8) : markR ws bs i = bs := by unfold markR; rw [if_neg (fun x => x.2 h)]

theorem markR_go {ws : List Wd} {bs : List Bool} {i : Nat} (h : bs.getD i false = true) (h8 : (ws.getD i zeroW).1 ≠ 8) : markR ws bs i = (bs.set (i + 1 + (yesW (ws.getD i zeroW)).toNat) true).set (i + 1 + (noW (ws.getD i zeroW)).toNat) true := by unfold markR; rw [if_pos ⟨h, h8⟩]

theorem set_head {bs : List Bool} {j : Nat} (h : bs.getD 0 false = true) : (bs.set j true).getD 0 false = true := by
  cases bs with
  | nil => simp at h
  | cons b bs =>
    cases j with
    | zero => simp
    | succ j => simpa using h

/-- The first word is always come to. -/
theorem reachAt_head {ws : List Wd} (h : 0 < ws.length) : ∀ k, (reachAt ws k).getD 0 false = true
  | 0 => by
    unfold reachAt
    cases hn : ws.length with
    | zero => omega
    | succ m => simp [List.replicate_succ]
  | k + 1 => by
    have ih := reachAt_head h k
    rw [reachAt]
    unfold markR
    split
    · exact set_head (set_head ih)
    · exact ih

end Go.Proofs.Ytaigoggoibdgbaa
