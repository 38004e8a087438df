/- Plain facts on conditions, rules and policies: what is right, what holds of a call, what is decided. -/
import Derived.Test.YthflflhcbnianaaAct9
import Derived.Test.YthflflhcbnianaaAndIS
namespace Go.Proofs.Ythflflhcbnianaa
open Go.RowKit

/-- A condition in plain numbers. -/
structure CN where
  arg : Int
  mh : Int
  ml : Int
  cm : Int
  vh : Int
  vl : Int

def CN.l (c : CN) : List Value := [.int .i64 c.arg, .int .i64 c.mh, .int .i64 c.ml, .int .i64 c.cm, .int .i64 c.vh, .int .i64 c.vl]

def CN.v (c : CN) : Value := .agg #[.int .i64 c.arg, .int .i64 c.mh, .int .i64 c.ml, .int .i64 c.cm, .int .i64 c.vh, .int .i64 c.vl]

def c0 : CN := ⟨0, 0, 0, 0, 0, 0⟩

def condB (c : CN) : Bool := inB4 c.arg 0 2 && inB4 c.cm 1 6 && wideB (c.mh, c.ml) && wideB (c.vh, c.vl)

/-- How n stands beside 0, as cm (1 .. 6) asks. -/
def asB (n cm : Int) : Bool :=
  if cm = 1 then n == 0 else if cm = 2 then n != 0 else if cm = 3 then decide (n < 0) else if cm = 4 then decide (n ≤ 0) else if cm = 5 then decide (0 < n) else decide (0 ≤ n)

def cmpC (c : CN) (ws : List (Int × Int)) : Int := cmpW (andW (ws.getD c.arg.toNat (0, 0)) (c.mh, c.ml)) (c.vh, c.vl)

def condH (c : CN) (arch num : Int) (ws : List (Int × Int)) : Bool := condB c && callB arch num ws && asB (cmpC c ws) c.cm

/-- Ascending halves, the one ahead being p. -/
def upB : List Int → Bool
  | [] => true
  | [n] => halfB n
  | n :: m :: l => halfB n && decide (n < m) && upB (m :: l)

structure RN where
  nums : List Int
  conds : List CN
  act : Int
  data : Int

def r0 : RN := ⟨[], [], 0, 0⟩

def outB (a d : Int) : Bool := inB4 a 0 5 && inB4 d 0 65535

def numsB (l : List Int) : Bool := decide (l.length ≤ 4) && (List.range l.length).all fun i => halfB (l.getD i 0) && (decide (i = 0) || decide (l.getD (i - 1) 0 < l.getD i 0))

def condsB (l : List CN) : Bool := decide (l.length ≤ 3) && l.all condB

def ruleB (r : RN) : Bool := outB r.act r.data && numsB r.nums && condsB r.conds

structure PN where
  arch : Int
  act : Int
  data : Int
  rules : List RN

def policyB (p : PN) : Bool := halfB p.arch && outB p.act p.data && decide (p.rules.length ≤ 10) && p.rules.all ruleB

def numH (l : List Int) (n : Int) : Bool := decide (l.length = 0) || l.contains n

def ruleH (r : RN) (arch num : Int) (ws : List (Int × Int)) : Bool := numH r.nums num && r.conds.all fun c => condH c arch num ws

/-- The first of the rules that holds, else what is handed in. -/
def firstV (rs : List RN) (arch num : Int) (ws : List (Int × Int)) (e : Int) : Int :=
  match rs with
  | [] => e
  | r :: rs => if ruleH r arch num ws then resV r.act r.data else firstV rs arch num ws e

def decideV (p : PN) (arch num : Int) (ws : List (Int × Int)) : Int :=
  if policyB p && callB arch num ws && decide (arch = p.arch) then firstV p.rules arch num ws (resV p.act p.data) else 0

theorem all_get {α : Type} (l : List α) (p : α → Bool) (d : α) (k : Nat) (h : k < l.length) : (l.take (k + 1)).all p = ((l.take k).all p && p (l.getD k d)) := by
  rw [List.take_succ_eq_append_getElem h, List.all_append]
  simp [List.getD_eq_getElem?_getD, h]

theorem all_bad {α : Type} {l : List α} {p : α → Bool} {d : α} {k : Nat} (hk : k < l.length) (h : p (l.getD k d) = false) : l.all p = false := by
  rw [Bool.eq_false_iff]
  intro ha
  have := List.all_eq_true.1 ha (l.getD k d) (by rw [List.getD_eq_getElem?_getD, List.getElem?_eq_getElem hk]; exact List.getElem_mem hk)
  rw [h] at this
  exact Bool.noConfusion this

theorem all_end {α : Type} {l : List α} {p : α → Bool} {k : Nat} (hk : k = l.length) (h : (l.take k).all p = true) : l.all p = true := by
  rw [hk, List.take_of_length_le (Nat.le_refl _)] at h
  exact h

end Go.Proofs.Ythflflhcbnianaa
