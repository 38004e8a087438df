/- Plain facts: wide numbers are in one order; what is masked has no bit that the mask has not. -/
import Derived.Test.YthflflhcbnianaaDoorCrPack13
import Derived.Laws.BitsAllLaws
namespace Go.Proofs.YthflflhcbnianaaDoor
open Go.RowKit

theorem and_nat (x y : Int) (hx : halfB x = true) (hy : halfB y = true) : bits .and .i64 x y = ((x.toNat &&& y.toNat : Nat) : Int) := by
  rw [halfB_true] at hx hy
  have e1 : (BitVec.ofInt 64 x).toNat = x.toNat := by rw [BitVec.toNat_ofInt]; omega
  have e2 : (BitVec.ofInt 64 y).toNat = y.toNat := by rw [BitVec.toNat_ofInt]; omega
  have k : (BitVec.ofInt 64 x &&& BitVec.ofInt 64 y).toNat = x.toNat &&& y.toNat := by rw [BitVec.toNat_and, e1, e2]
  have hle : x.toNat &&& y.toNat ≤ x.toNat := Nat.and_le_left
  have : bits .and .i64 x y = IntKind.i64.wrap ((BitVec.ofInt 64 x &&& BitVec.ofInt 64 y).toNat : Int) := rfl
  rw [this, k]
  simp only [IntKind.wrap_i64]
  omega

theorem and_half {x y : Int} (hx : halfB x = true) (hy : halfB y = true) : halfB (bits .and .i64 x y) = true := by
  rw [and_nat x y hx hy]
  rw [halfB_true] at *
  have hle : x.toNat &&& y.toNat ≤ x.toNat := Nat.and_le_left
  omega

theorem wideB_halves {x y : Int} (h : wideB (x, y) = true) : halfB x = true ∧ halfB y = true := by simpa [wideB] using h

theorem andW_wide {a b c d : Int} (h : wideB (a, b) = true) (k : wideB (c, d) = true) : wideB (andW (a, b) (c, d)) = true := by
  rw [andW_yes h k]
  simp [wideB, and_half (wideB_halves h).1 (wideB_halves k).1, and_half (wideB_halves h).2 (wideB_halves k).2]

end Go.Proofs.YthflflhcbnianaaDoor
