/- What impl's and spec's functions of chapter 5 answer: ResultOf, ActionIn, Stricter, ActionName, of any numbers of 64 bits. -/
import Derived.Test.YthflflhcbnianaaRows
import Derived.Test.YthflflhcbnianaaWideIS
import Derived.WalkKit
import Derived.WalkSpells
import Derived.WalkSmall
import Derived.Below
namespace Go.Proofs.Ythflflhcbnianaa
open Go.RowKit
set_option linter.unusedVariables false

/-- A number of 64 bits. -/
structure I64 (n : Int) : Prop where
  lo : -9223372036854775808 ≤ n
  hi : n ≤ 9223372036854775807

theorem inB_true4 {n lo hi : Int} : inB4 n lo hi = true ↔ lo ≤ n ∧ n ≤ hi := by simp [inB4]

theorem inB_false4 {n lo hi : Int} : inB4 n lo hi = false ↔ n < lo ∨ hi < n := by
  cases h : inB4 n lo hi
  · simp [inB4] at h
    simp; omega
  · rw [inB_true4] at h
    simp; omega

def resV (a d : Int) : Int := if inB4 a 0 5 && inB4 d 0 65535 then 65536 * a + d else 0

def actV (r : Int) : Int := if inB4 r 0 393215 then r / 65536 else 0

def strV (a b : Int) : Int := if actV b < actV a then b else a

def nameV (a : Int) : ByteArray :=
  if a = 0 then ⟨#[107, 105, 108, 108]⟩ else if a = 1 then ⟨#[116, 114, 97, 112]⟩ else if a = 2 then ⟨#[101, 114, 114]⟩
  else if a = 3 then ⟨#[116, 114, 97, 99, 101]⟩ else if a = 4 then ⟨#[108, 111, 103]⟩ else if a = 5 then ⟨#[97, 108, 108, 111, 119]⟩ else ⟨#[]⟩

theorem actV_range (r : Int) : 0 ≤ actV r ∧ actV r ≤ 5 := by
  unfold actV
  cases h : inB4 r 0 393215
  · simp
  · rw [inB_true4] at h
    simp only [if_true]; omega

theorem strV_less {a b : Int} (h : decide (actV b < actV a) = true) : strV a b = b := by simp only [decide_eq_true_eq] at h; simp [strV, h]

theorem strV_not {a b : Int} (h : decide (actV b < actV a) = false) : strV a b = a := by simp only [decide_eq_false_iff_not] at h; simp [strV, h]

end Go.Proofs.Ythflflhcbnianaa
