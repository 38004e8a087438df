/- Plain facts: wide numbers are in one order; what is masked has no bit that the mask has not. -/
import Derived.Test.YtoknlaaghjlnaaaAndIS
import Derived.Laws.BitsAllLaws
namespace Go.Proofs.Ytoknlaaghjlnaaa
open Go.RowKit

theorem and_nat (x y : Int) (hx : halfB x = true) (hy : halfB y = true) : bits .and .i64 x y = ((x.toNat &&& y.toNat : Nat) : Int) := by
  rw [halfB_true] at hx hy
  have e1 : (BitVec.ofInt 64 x).toNat = x.toNat := by rw [BitVec.toNat_ofInt]; omega
  have e2 : (BitVec.ofInt 64 y).toNat = y.toNat := by rw [BitVec.toNat_ofInt]; omega
  have k : (BitVec.ofInt 64 x &&& BitVec.ofInt 64 y).toNat = x.toNat &&& y.toNat := by rw [BitVec.toNat_and, e1, e2]
  have hle : x.toNat &&& y.toNat ≤ x.toNat := Nat.and_le_left
  have : bits .and .i64 x y = IntKind.i64.wrap ((BitVec.ofInt 64 x &&& BitVec.ofInt 64 y).toNat : Int) := rfl
  rw [this, k]
  simp only [IntKind.wrap_i64]
  omega

theorem and_half {x y : Int} (hx : halfB x = true) (hy : halfB y = true) : halfB (bits .and .i64 x y) = true := by
  rw [and_nat x y hx hy]
  rw [halfB_true] at *
  have hle : x.toNat &&& y.toNat ≤ x.toNat := Nat.and_le_left
  omega

theorem and_comm' {x y : Int} (hx : halfB x = true) (hy : halfB y = true) : bits .and .i64 x y = bits .and .i64 y x := by
  rw [and_nat x y hx hy, and_nat y x hy hx, Nat.and_comm]

theorem and_again {x y : Int} (hx : halfB x = true) (hy : halfB y = true) : bits .and .i64 (bits .and .i64 x y) x = bits .and .i64 x y := by
  rw [and_nat _ x (and_half hx hy) hx, and_nat x y hx hy]
  have e : ((x.toNat &&& y.toNat : Nat) : Int).toNat = x.toNat &&& y.toNat := by omega
  rw [e, Nat.and_assoc, Nat.and_comm y.toNat, ← Nat.and_assoc, Nat.and_self]

theorem and_le {x y : Int} (hx : halfB x = true) (hy : halfB y = true) : bits .and .i64 x y ≤ x := by
  rw [and_nat x y hx hy]
  rw [halfB_true] at hx
  have hle : x.toNat &&& y.toNat ≤ x.toNat := Nat.and_le_left
  omega

theorem wideB_halves {x y : Int} (h : wideB (x, y) = true) : halfB x = true ∧ halfB y = true := by simpa [wideB] using h

theorem cmpI_anti (a b : Int) : cmpI b a = -cmpI a b := by
  unfold cmpI
  repeat' split
  all_goals omega

theorem cmpW_anti (a b c d : Int) : cmpW (c, d) (a, b) = -cmpW (a, b) (c, d) := by
  simp only [cmpW, cmpI]
  repeat' split
  all_goals omega

theorem cmpW_bound (a b c d : Int) : -1 ≤ cmpW (a, b) (c, d) ∧ cmpW (a, b) (c, d) ≤ 1 := by
  simp only [cmpW, cmpI]
  repeat' split
  all_goals omega

theorem cmpW_zero (a b c d : Int) : (cmpW (a, b) (c, d) == 0) = decide ((a, b) = (c, d)) := by
  have : cmpW (a, b) (c, d) = 0 ↔ (a, b) = (c, d) := by
    simp only [cmpW, cmpI, Prod.mk.injEq]
    repeat' split
    all_goals (simp; try omega)
  by_cases h : (a, b) = (c, d)
  · rw [this.2 h]; simp [h]
  · rw [decide_eq_false h]
    have := mt this.1 h
    simpa using this

theorem cmpW_trans {a b c d e f : Int} (h1 : cmpW (a, b) (c, d) < 0) (h2 : cmpW (c, d) (e, f) < 0) : cmpW (a, b) (e, f) < 0 := by
  simp only [cmpW, cmpI] at *
  repeat' split at h1
  all_goals first | omega | skip
  all_goals repeat' split at h2
  all_goals first | omega | skip
  all_goals repeat' split
  all_goals omega

theorem cmpW_and {a b c d : Int} (h : wideB (a, b) = true) (k : wideB (c, d) = true) : cmpW (andW (a, b) (c, d)) (a, b) ≤ 0 := by
  rw [andW_yes h k]
  have h1 := and_le (wideB_halves h).1 (wideB_halves k).1
  have h2 := and_le (wideB_halves h).2 (wideB_halves k).2
  simp only [cmpW, cmpI]
  repeat' split
  all_goals omega

theorem andW_comm {a b c d : Int} (h : wideB (a, b) = true) (k : wideB (c, d) = true) : andW (c, d) (a, b) = andW (a, b) (c, d) := by
  rw [andW_yes h k, andW_yes k h, and_comm' (wideB_halves k).1 (wideB_halves h).1, and_comm' (wideB_halves k).2 (wideB_halves h).2]

theorem andW_wide {a b c d : Int} (h : wideB (a, b) = true) (k : wideB (c, d) = true) : wideB (andW (a, b) (c, d)) = true := by
  rw [andW_yes h k]
  simp [wideB, and_half (wideB_halves h).1 (wideB_halves k).1, and_half (wideB_halves h).2 (wideB_halves k).2]

theorem andW_again {a b c d : Int} (h : wideB (a, b) = true) (k : wideB (c, d) = true) : andW (andW (a, b) (c, d)) (a, b) = andW (a, b) (c, d) := by
  have hm := andW_wide h k
  rw [andW_yes h k] at hm ⊢
  rw [andW_yes hm h, and_again (wideB_halves h).1 (wideB_halves k).1, and_again (wideB_halves h).2 (wideB_halves k).2]

end Go.Proofs.Ytoknlaaghjlnaaa
