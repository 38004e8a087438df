/- A program that was looked over, run, in plain numbers: it ends, in no more steps than it has words, by one of its results. -/
import Derived.Test.YtaigoggoibdgbaaCheckMath
namespace Go.Proofs.Ytaigoggoibdgbaa
open Go.RowKit
set_option linter.unusedVariables false

/-- The answer to a question, the register being r. -/
def asksW (p : Wd) (r : Int) : Bool := if p.1 = 3 then r == p.2.1 else if p.1 = 4 then decide (p.2.1 < r) else if p.1 = 5 then decide (p.2.1 ≤ r) else bits .and .i64 r p.2.1 != 0

/-- How many words are passed over. -/
def overW (p : Wd) (r : Int) : Int := if 3 ≤ p.1 ∧ p.1 ≤ 6 then (if asksW p r = true then p.2.2.1 else p.2.2.2) else if p.1 = 7 then p.2.1 else 0

/-- The register behind a word; F tells the fields. -/
def regW (F : Int → Int) (p : Wd) (r : Int) : Int := if p.1 = 1 then F p.2.1 else if p.1 = 2 then bits .and .i64 r p.2.1 else r

theorem over_ways (p : Wd) (r : Int) : overW p r = yesW p ∨ overW p r = noW p := by
  unfold overW yesW noW
  split
  · split
    · exact .inl rfl
    · exact .inr rfl
  · exact .inl rfl

/-- From place i on, the register being r, s words done: the result and how many words are done then (within f steps). -/
def Runs (ws : List Wd) (F : Int → Int) : Nat → Nat → Int → Nat → Int → Nat → Prop
  | 0, _, _, _, _, _ => False
  | f + 1, i, r, s, res, m => ((ws.getD i zeroW).1 = 8 ∧ res = (ws.getD i zeroW).2.1 ∧ m = s + 1) ∨ ((ws.getD i zeroW).1 ≠ 8 ∧ Runs ws F f (i + 1 + (overW (ws.getD i zeroW) r).toNat) (regW F (ws.getD i zeroW) r) (s + 1) res m)

theorem next_lt {ws : List Wd} (hc : checkP ws = true) {i : Nat} (hi : i < ws.length) (h8 : (ws.getD i zeroW).1 ≠ 8) (r : Int) : i + 1 + (overW (ws.getD i zeroW) r).toNat < ws.length ∧ 0 ≤ overW (ws.getD i zeroW) r := by
  obtain ⟨_, h0, h1, h2, h3⟩ := check_ways hc hi h8
  rcases over_ways (ws.getD i zeroW) r with h | h <;> rw [h] <;> omega

theorem runs_some {ws : List Wd} (F : Int → Int) (hc : checkP ws = true) : ∀ (f i : Nat) (r : Int) (s : Nat), i < ws.length → ws.length ≤ f + i → ∃ res m, Runs ws F f i r s res m
  | 0, i, r, s, hi, hf => by omega
  | f + 1, i, r, s, hi, hf => by
    by_cases h8 : (ws.getD i zeroW).1 = 8
    · exact ⟨_, _, .inl ⟨h8, rfl, rfl⟩⟩
    · have hn := next_lt hc hi h8 r
      obtain ⟨res, m, h⟩ := runs_some F hc f (i + 1 + (overW (ws.getD i zeroW) r).toNat) (regW F (ws.getD i zeroW) r) (s + 1) hn.1 (by omega)
      exact ⟨res, m, .inr ⟨h8, h⟩⟩

theorem runs_bound {ws : List Wd} (F : Int → Int) (hc : checkP ws = true) : ∀ (f i : Nat) (r : Int) (s : Nat) (res : Int) (m : Nat), i < ws.length → Runs ws F f i r s res m → s + 1 ≤ m ∧ m + i ≤ s + ws.length ∧ ∃ j, j < ws.length ∧ (ws.getD j zeroW).1 = 8 ∧ res = (ws.getD j zeroW).2.1
  | 0, i, r, s, res, m, hi, h => by cases h
  | f + 1, i, r, s, res, m, hi, h => by
    rcases h with ⟨h8, hr, hm⟩ | ⟨h8, h⟩
    · exact ⟨by omega, by omega, i, hi, h8, hr⟩
    · have hn := next_lt hc hi h8 r
      obtain ⟨h1, h2, h3⟩ := runs_bound F hc f _ _ _ res m hn.1 h
      exact ⟨by omega, by omega, h3⟩

theorem runs_ret {ws : List Wd} {F : Int → Int} {f i : Nat} {r : Int} {s : Nat} {res : Int} {m : Nat} (h : Runs ws F f i r s res m) (h8 : (ws.getD i zeroW).1 = 8) : res = (ws.getD i zeroW).2.1 ∧ m = s + 1 := by
  cases f with
  | zero => cases h
  | succ f =>
    rcases h with ⟨_, hr, hm⟩ | ⟨h, _⟩
    · exact ⟨hr, hm⟩
    · exact absurd h8 h

theorem runs_next {ws : List Wd} {F : Int → Int} {f i : Nat} {r : Int} {s : Nat} {res : Int} {m : Nat} (h : Runs ws F f i r s res m) (h8 : (ws.getD i zeroW).1 ≠ 8) : ∃ f', Runs ws F f' (i + 1 + (overW (ws.getD i zeroW) r).toNat) (regW F (ws.getD i zeroW) r) (s + 1) res m := by
  cases f with
  | zero => cases h
  | succ f =>
    rcases h with ⟨h, _⟩ | ⟨_, h⟩
    · exact absurd h h8
    · exact ⟨f, h⟩

end Go.Proofs.Ytaigoggoibdgbaa
