/- Plain facts on figures read back in pairs. -/
import Derived.Test.YtedpihiobgdofaaDoorFigMath
import Derived.Lib.Strings
namespace Go.Proofs.YtedpihiobgdofaaDoor
open Go.RowKit

def unhexA : List UInt8 → List UInt8 → Option (List UInt8)
  | [], acc => some acc
  | [_], _ => none
  | x :: y :: r, acc => match fig 16 x with
    | none => none
    | some h => match fig 16 y with
      | none => none
      | some l => unhexA r (acc ++ [UInt8.ofNat (16 * h + l)])

theorem fig_lt (b : UInt8) (d : Nat) (h : fig 16 b = some d) : d < 16 := by
  unfold fig at h
  by_cases h1 : 48 ≤ b.toNat ∧ b.toNat ≤ 57 ∧ b.toNat - 48 < 16
  · rw [if_pos h1] at h; have := Option.some.inj h; omega
  · rw [if_neg h1] at h
    by_cases h2 : 97 ≤ b.toNat ∧ b.toNat ≤ 102 ∧ b.toNat - 87 < 16
    · rw [if_pos h2] at h; have := Option.some.inj h; omega
    · rw [if_neg h2] at h; cases h

def US (s : List UInt8) (k : Nat) (l : List UInt8) : Prop := unhexA s [] = unhexA (s.drop k) l

theorem US.start (s : List UInt8) : US s 0 [] := by unfold US; simp

theorem drop_two (s : List UInt8) (k : Nat) (h : k + 1 < s.length) : s.drop k = s[k] :: s[k + 1] :: s.drop (k + 2) := by
  rw [List.drop_eq_getElem_cons (by omega), List.drop_eq_getElem_cons h]

theorem US.next {s : List UInt8} {k : Nat} {l : List UInt8} (h : US s k l) (hk : k + 1 < s.length) {a b : Nat} (ha : fig 16 s[k] = some a) (hb : fig 16 s[k + 1] = some b) : US s (k + 2) (l ++ [UInt8.ofNat (16 * a + b)]) := by
  unfold US at *
  rw [h, drop_two s k hk]
  simp only [unhexA, ha, hb]

theorem US.none1 {s : List UInt8} {k : Nat} {l : List UInt8} (h : US s k l) (hk : k + 1 < s.length) (ha : fig 16 s[k] = none) : unhexA s [] = none := by
  unfold US at h
  rw [h, drop_two s k hk]
  simp only [unhexA, ha]

theorem US.none2 {s : List UInt8} {k : Nat} {l : List UInt8} (h : US s k l) (hk : k + 1 < s.length) {a : Nat} (ha : fig 16 s[k] = some a) (hb : fig 16 s[k + 1] = none) : unhexA s [] = none := by
  unfold US at h
  rw [h, drop_two s k hk]
  simp only [unhexA, ha, hb]

theorem US.done {s : List UInt8} {k : Nat} {l : List UInt8} (h : US s k l) (hk : s.length ≤ k) : unhexA s [] = some l := by
  unfold US at h
  rw [h, List.drop_eq_nil_of_le hk]
  rfl

def unV : Option (List UInt8) → Value
  | none => .tuple #[.string ⟨#[]⟩, .bool false]
  | some l => .tuple #[.string ⟨l.toArray⟩, .bool true]

theorem extract_two (s : ByteArray) (k : Nat) (h : k + 1 < s.size) : (s.extract k (k + 2)).data.toList = [s[k], s[k + 1]] := by
  rw [Lib.extract_data, drop_two _ _ (by simpa using h), show k + 2 - k = 2 by omega]
  rfl

theorem num_two (x y : UInt8) : numF 16 [x, y] 0 = match fig 16 x with
    | none => none
    | some a => match fig 16 y with
      | none => none
      | some b => some (16 * a + b) := by
  simp only [numF]
  cases fig 16 x with
  | none => rfl
  | some a =>
    simp only []
    cases fig 16 y with
    | none => rfl
    | some b => simp; omega

end Go.Proofs.YtedpihiobgdofaaDoor
