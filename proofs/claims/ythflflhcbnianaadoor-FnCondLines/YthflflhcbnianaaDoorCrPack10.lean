/- The figures of a number are the library's decimal digits. -/
import Derived.Test.YthflflhcbnianaaDoorCrPack8
import Derived.Lib.ItoaNum
namespace Go.Proofs.YthflflhcbnianaaDoor
open Go.RowKit

theorem decS_digits : ∀ k n : Nat, n ≤ k → decS n = Lib.decDigits n := by
  intro k
  induction k with
  | zero =>
    intro n h
    obtain rfl : n = 0 := by omega
    rw [Lib.decDigits_one (by omega)]
    rfl
  | succ k ih =>
    intro n h
    by_cases h10 : n < 10
    · rw [Lib.decDigits_one h10]
      unfold decS
      by_cases h0 : n = 0
      · subst h0; rfl
      · rw [if_neg h0, dec_pos n (by omega), show n / 10 = 0 by omega, dec_zero, show n % 10 = n by omega]
        unfold hexD hexN
        rw [if_pos h10]
        rfl
    · have := ih (n / 10) (by omega)
      unfold decS at this ⊢
      rw [if_neg (by omega)] at this
      rw [if_neg (by omega), dec_pos n (by omega), this]
      conv => rhs; rw [Lib.decDigits, dif_neg h10]
      unfold hexD hexN
      rw [if_pos (by omega)]

end Go.Proofs.YthflflhcbnianaaDoor
