/- Plain facts on decimal figures: the figures of a number, and that figures without a needless nought come back. -/
import Derived.Test.YthflflhcbnianaaDoorCrPack5
import Derived.Laws.Concat
namespace Go.Proofs.YthflflhcbnianaaDoor
open Go.RowKit

def decG : Nat → Nat → List UInt8
  | 0, _ => []
  | f + 1, n => if n = 0 then [] else decG f (n / 10) ++ [hexD (n % 10)]

theorem decG_fuel : ∀ f g n : Nat, n ≤ f → n ≤ g → decG f n = decG g n
  | 0, 0, _, _, _ => rfl
  | 0, g + 1, n, h, _ => by simp [decG]; omega
  | f + 1, 0, n, _, h => by simp [decG]; omega
  | f + 1, g + 1, n, h, k => by
    simp only [decG]
    by_cases hn : n = 0
    · rw [if_pos hn, if_pos hn]
    · rw [if_neg hn, if_neg hn, decG_fuel f g (n / 10) (by omega) (by omega)]

def dec (n : Nat) : List UInt8 := decG n n

theorem dec_zero : dec 0 = [] := rfl

theorem dec_pos (n : Nat) (h : 0 < n) : dec n = dec (n / 10) ++ [hexD (n % 10)] := by
  unfold dec
  match n, h with
  | n + 1, h => simp only [decG]; rw [if_neg (by omega), decG_fuel n ((n + 1) / 10) ((n + 1) / 10) (by omega) (by omega)]

def decS (n : Nat) : List UInt8 := if n = 0 then [48] else dec n

end Go.Proofs.YthflflhcbnianaaDoor
