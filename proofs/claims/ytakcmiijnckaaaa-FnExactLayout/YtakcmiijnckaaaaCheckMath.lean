/- Programs looked over, in plain numbers: ways, what is let by. -/
import Derived.Test.YtakcmiijnckaaaaWdBase
namespace Go.Proofs.Ytakcmiijnckaaaa
open Go.RowKit
set_option linter.unusedVariables false

/-- How many words a word passes over at most. -/
def farW (p : Wd) : Int := if p.1 = 7 then p.2.1 else if p.2.2.2 < p.2.2.1 then p.2.2.1 else p.2.2.2

/-- Its two ways, one but at a question. -/
def yesW (p : Wd) : Int := if 3 ≤ p.1 ∧ p.1 ≤ 6 then p.2.2.1 else if p.1 = 7 then p.2.1 else 0

def noW (p : Wd) : Int := if 3 ≤ p.1 ∧ p.1 ≤ 6 then p.2.2.2 else if p.1 = 7 then p.2.1 else 0

/-- The word at j of n is right, and leads no further than to the last one. -/
def goodP (n j : Nat) (p : Wd) : Prop := okW p = true ∧ (p.1 = 8 ∨ (j : Int) + 1 + farW p < (n : Int))

/-- What is let by: 1 to 400 words, all right, the last one 8, none passes over it. -/
def checkQ (ws : List Wd) : Prop := (1 ≤ ws.length ∧ ws.length ≤ 400) ∧ (∀ j, j < ws.length → goodP ws.length j (ws.getD j zeroW)) ∧ (ws.getD (ws.length - 1) zeroW).1 = 8

def checkP (ws : List Wd) : Bool := decide ((1 ≤ ws.length ∧ ws.length ≤ 400) ∧ (∀ j, j < ws.length → okW (ws.getD j zeroW) = true ∧ ((ws.getD j zeroW).1 = 8 ∨ (j : Int) + 1 + farW (ws.getD j zeroW) < (ws.length : Int))) ∧ (ws.getD (ws.length - 1) zeroW).1 = 8)

theorem checkP_true {ws : List Wd} : checkP ws = true ↔ checkQ ws := decide_eq_true_iff

theorem checkP_false {ws : List Wd} : checkP ws = false ↔ ¬ checkQ ws := decide_eq_false_iff_not

theorem checkP_eq {ws : List Wd} {b : Bool} (h : b = true ↔ checkQ ws) : checkP ws = b := by
  cases b
  · rw [checkP_false]; intro k; simpa using h.2 k
  · rw [checkP_true]; exact h.1 rfl

theorem okW_P {p : Wd} : okW p = true ↔ insP p.1 p.2.1 p.2.2.1 p.2.2.2 := insB_true

/-- The greater of a right word's ways is what it passes over at most; the last word's are none. -/
theorem ways_far {p : Wd} (h : okW p = true) (h8 : p.1 ≠ 8) : 0 ≤ yesW p ∧ 0 ≤ noW p ∧ yesW p ≤ farW p ∧ noW p ≤ farW p ∧ (farW p = yesW p ∨ farW p = noW p) ∧ farW p ≤ 400 := by
  rw [okW_P] at h
  obtain ⟨o, k, y, n⟩ := p
  unfold insP at h
  unfold yesW noW farW
  simp only at *
  split <;> split <;> (try split) <;> (try split) <;> omega

theorem ways_ret {p : Wd} (h : okW p = true) (h8 : p.1 = 8) : yesW p = 0 ∧ noW p = 0 := by
  rw [okW_P] at h
  obtain ⟨o, k, y, n⟩ := p
  unfold insP at h
  unfold yesW noW
  simp only at *
  subst h8
  exact ⟨by simp, by simp⟩

theorem checkQ_long {ws : List Wd} (h : inB ws.length 1 400 = false) : checkP ws = false := by
  rw [checkP_false]
  rw [inB_false] at h
  rintro ⟨h1, _⟩
  omega

theorem checkQ_bad {ws : List Wd} {j : Nat} (hj : j < ws.length) (h : ¬ goodP ws.length j (ws.getD j zeroW)) : checkP ws = false := by
  rw [checkP_false]
  rintro ⟨_, h2, _⟩
  exact h (h2 j hj)

theorem checkQ_notok {ws : List Wd} {j : Nat} (hj : j < ws.length) (h : okW (ws.getD j zeroW) = false) : checkP ws = false :=
  checkQ_bad hj fun hg => by rw [hg.1] at h; cases h

theorem checkQ_last {ws : List Wd} (h : (ws.getD (ws.length - 1) zeroW).1 ≠ 8) : checkP ws = false := by
  rw [checkP_false]
  rintro ⟨_, _, h3⟩
  exact h h3

/-- Both ways of the word at j lead to the last place at most. -/
theorem within_good {n j : Nat} {p : Wd} (hj : j + 1 < n) (h : okW p = true) : goodP n j p ↔ ¬ ((n : Int) - 1 < (j : Int) + 1 + max (yesW p) (noW p)) := by
  by_cases h8 : p.1 = 8
  · obtain ⟨e1, e2⟩ := ways_ret h h8
    rw [e1, e2]
    refine ⟨fun _ => ?_, fun _ => ⟨h, .inl h8⟩⟩
    simp
    omega
  · obtain ⟨_, _, h1, h2, h3, _⟩ := ways_far h h8
    have hm : max (yesW p) (noW p) = farW p := by omega
    rw [hm]
    unfold goodP
    refine ⟨fun hg => ?_, fun hg => ⟨h, .inr (by omega)⟩⟩
    rcases hg.2 with hg | hg
    · exact absurd hg h8
    · omega

/-- What is let by: where a word that is not the last leads to. -/
theorem check_ways {ws : List Wd} (h : checkP ws = true) {j : Nat} (hj : j < ws.length) (h8 : (ws.getD j zeroW).1 ≠ 8) :
    okW (ws.getD j zeroW) = true ∧ 0 ≤ yesW (ws.getD j zeroW) ∧ 0 ≤ noW (ws.getD j zeroW) ∧ (j : Int) + 1 + yesW (ws.getD j zeroW) < ws.length ∧ (j : Int) + 1 + noW (ws.getD j zeroW) < ws.length := by
  rw [checkP_true] at h
  have hg := h.2.1 j hj
  obtain ⟨h1, h2, h3, h4, _, _⟩ := ways_far hg.1 h8
  have := hg.2.resolve_left h8
  exact ⟨hg.1, h1, h2, by omega, by omega⟩

end Go.Proofs.Ytakcmiijnckaaaa
