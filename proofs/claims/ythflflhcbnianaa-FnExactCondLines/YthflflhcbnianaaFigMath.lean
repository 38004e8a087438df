/- Plain facts on figures read back: what a figure is worth below a base, and the number that figures tell. -/
import Derived.Test.YthflflhcbnianaaHexMath
namespace Go.Proofs.Ythflflhcbnianaa
open Go.RowKit

def fig (base : Nat) (b : UInt8) : Option Nat :=
  if 48 ≤ b.toNat ∧ b.toNat ≤ 57 ∧ b.toNat - 48 < base then some (b.toNat - 48)
  else if 97 ≤ b.toNat ∧ b.toNat ≤ 102 ∧ b.toNat - 87 < base then some (b.toNat - 87)
  else none

def numF (base : Nat) : List UInt8 → Nat → Option Nat
  | [], n => some n
  | b :: r, n => match fig base b with
    | none => none
    | some d => numF base r (n * base + d)

theorem hexD_nat (d : Nat) (h : d < 16) : (hexD d).toNat = hexN d := by
  have := hexD_toNat d h; omega

theorem fig_some (base d : Nat) (b : UInt8) (h16 : base ≤ 16) (hd : d < base) (h : b.toNat = (hexD d).toNat) : fig base b = some d := by
  rw [hexD_nat d (by omega)] at h
  unfold hexN at h
  unfold fig
  by_cases h10 : d < 10
  · rw [if_pos h10] at h
    rw [if_pos (by omega)]
    congr 1
    omega
  · rw [if_neg h10] at h
    rw [if_neg (by omega), if_pos (by omega)]
    congr 1
    omega

theorem fig_none (base : Nat) (b : UInt8) (h16 : base ≤ 16) (h : ∀ d, d < base → ¬ b.toNat = (hexD d).toNat) : fig base b = none := by
  unfold fig
  by_cases h1 : 48 ≤ b.toNat ∧ b.toNat ≤ 57 ∧ b.toNat - 48 < base
  · exfalso
    refine h (b.toNat - 48) h1.2.2 ?_
    rw [hexD_nat _ (by omega)]
    unfold hexN
    rw [if_pos (by omega)]
    omega
  · rw [if_neg h1]
    by_cases h2 : 97 ≤ b.toNat ∧ b.toNat ≤ 102 ∧ b.toNat - 87 < base
    · exfalso
      refine h (b.toNat - 87) h2.2.2 ?_
      rw [hexD_nat _ (by omega)]
      unfold hexN
      rw [if_neg (by omega)]
      omega
    · rw [if_neg h2]

def numV : Option Nat → Value
  | none => .tuple #[.int .i64 0, .bool false]
  | some n => .tuple #[.int .i64 (n : Int), .bool true]

/-- The outer loop's state: i figures are read, they tell n. -/
def NS (base : Nat) (t : List UInt8) (i n : Nat) : Prop := numF base t 0 = numF base (t.drop i) n ∧ n < 16 ^ i

theorem NS.start (base : Nat) (t : List UInt8) : NS base t 0 0 := ⟨by simp, by simp⟩

theorem NS.next {base : Nat} {t : List UInt8} {i n d : Nat} (h : NS base t i n) (hi : i < t.length) (h16 : base ≤ 16) (hd : d < base) (hb : t[i].toNat = (hexD d).toNat) : NS base t (i + 1) (n * base + d) := by
  refine ⟨?_, ?_⟩
  · rw [h.1, List.drop_eq_getElem_cons hi]
    simp only [numF]
    rw [fig_some base d _ h16 hd hb]
  · rw [Nat.pow_succ]
    have h2 := h.2
    have : n * base ≤ n * 16 := Nat.mul_le_mul_left _ h16
    omega

theorem NS.none {base : Nat} {t : List UInt8} {i n : Nat} (h : NS base t i n) (hi : i < t.length) (h16 : base ≤ 16) (hb : ∀ d, d < base → ¬ t[i].toNat = (hexD d).toNat) : numF base t 0 = none := by
  rw [h.1, List.drop_eq_getElem_cons hi]
  simp only [numF]
  rw [fig_none base _ h16 hb]

theorem NS.done {base : Nat} {t : List UInt8} {i n : Nat} (h : NS base t i n) (hi : ¬ i < t.length) : numF base t 0 = some n := by
  rw [h.1, List.drop_eq_nil_of_le (by omega)]
  rfl

theorem NS.bound {base : Nat} {t : List UInt8} {i n : Nat} (h : NS base t i n) (hi : i ≤ 14) (h16 : base ≤ 16) : n < 72057594037927936 ∧ (0 : Int) ≤ (n : Int) * (base : Int) ∧ (n : Int) * (base : Int) ≤ 1152921504606846976 := by
  have h2 := h.2
  have h3 : 16 ^ i ≤ 16 ^ 14 := Nat.pow_le_pow_right (by omega) hi
  have h4 : (16 : Nat) ^ 14 = 72057594037927936 := by decide
  have hn : n < 72057594037927936 := by omega
  have h5 : n * base ≤ 72057594037927936 * 16 := Nat.mul_le_mul (by omega) h16
  have e : (n : Int) * (base : Int) = ((n * base : Nat) : Int) := by push_cast; rfl
  omega

end Go.Proofs.Ythflflhcbnianaa
