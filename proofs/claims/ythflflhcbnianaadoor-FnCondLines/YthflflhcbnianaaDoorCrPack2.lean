/- Plain facts on halves, wide numbers and calls: what is right, what a place of a call has. -/
import Derived.WalkKit
namespace Go.Proofs.YthflflhcbnianaaDoor
open Go.RowKit

/-- A half: 0 .. 4294967295. -/
def halfB (n : Int) : Bool := decide (0 ≤ n) && decide (n ≤ 4294967295)

theorem halfB_true {n : Int} : halfB n = true ↔ 0 ≤ n ∧ n ≤ 4294967295 := by simp [halfB]

theorem halfB_false {n : Int} : halfB n = false ↔ ¬ (0 ≤ n ∧ n ≤ 4294967295) := by
  rw [← Bool.not_eq_true, halfB_true]

/-- Both halves are. -/
def wideB (p : Int × Int) : Bool := halfB p.1 && halfB p.2

/-- A call's numbers are halves, and its three wide numbers are right. -/
def callB (arch num : Int) (ws : List (Int × Int)) : Bool := halfB arch && halfB num && decide (ws.length = 3) && ws.all wideB

/-- -1, 0, 1. -/
def cmpI (a b : Int) : Int := if a < b then -1 else if b < a then 1 else 0

def cmpW (a b : Int × Int) : Int := if a.1 < b.1 then -1 else if b.1 < a.1 then 1 else cmpI a.2 b.2

/-- What a right call has at a place of 0 .. 7. -/
def fieldV (arch num : Int) (ws : List (Int × Int)) (at_ : Int) : Int :=
  if at_ = 0 then num else if at_ = 1 then arch
  else if at_ % 2 = 0 then (ws.getD (at_ / 2 - 1).toNat (0, 0)).2 else (ws.getD (at_ / 2 - 1).toNat (0, 0)).1

def fieldOk (arch num : Int) (ws : List (Int × Int)) (at_ : Int) : Bool := decide (0 ≤ at_) && decide (at_ ≤ 7) && callB arch num ws

theorem all_take (ws : List (Int × Int)) (k : Nat) (h : k < ws.length) : (ws.take (k + 1)).all wideB = ((ws.take k).all wideB && wideB (ws.getD k (0, 0))) := by
  rw [List.take_succ_eq_append_getElem h, List.all_append]
  simp [List.getD_eq_getElem?_getD, h]

end Go.Proofs.YthflflhcbnianaaDoor
