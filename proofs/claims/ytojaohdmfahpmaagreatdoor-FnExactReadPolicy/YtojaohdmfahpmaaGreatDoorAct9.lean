/- What impl's and spec's functions of chapter 5 answer: ResultOf, ActionIn, Stricter, ActionName, of any numbers of 64 bits. -/
import Derived.Test.YtojaohdmfahpmaaGreatDoorRows
import Derived.Test.YtojaohdmfahpmaaGreatDoorWideIS
import Derived.WalkKit
import Derived.WalkSpells
import Derived.WalkSmall
import Derived.Below
namespace Go.Proofs.YtojaohdmfahpmaaGreatDoor
open Go.RowKit
set_option linter.unusedVariables false

/-- A number of 64 bits. -/
structure I64 (n : Int) : Prop where
  lo : -9223372036854775808 ≤ n
  hi : n ≤ 9223372036854775807

theorem inB_true {n lo hi : Int} : inB n lo hi = true ↔ lo ≤ n ∧ n ≤ hi := by simp [inB]

theorem inB_false {n lo hi : Int} : inB n lo hi = false ↔ n < lo ∨ hi < n := by
  cases h : inB n lo hi
  · simp [inB] at h
    simp; omega
  · rw [inB_true] at h
    simp; omega

def resV (a d : Int) : Int := if inB a 0 5 && inB d 0 65535 then 65536 * a + d else 0

def actV (r : Int) : Int := if inB r 0 393215 then r / 65536 else 0

def strV (a b : Int) : Int := if actV b < actV a then b else a

def nameV (a : Int) : ByteArray :=
  if a = 0 then ⟨#[107, 105, 108, 108]⟩ else if a = 1 then ⟨#[116, 114, 97, 112]⟩ else if a = 2 then ⟨#[101, 114, 114]⟩
  else if a = 3 then ⟨#[116, 114, 97, 99, 101]⟩ else if a = 4 then ⟨#[108, 111, 103]⟩ else if a = 5 then ⟨#[97, 108, 108, 111, 119]⟩ else ⟨#[]⟩

theorem actV_range (r : Int) : 0 ≤ actV r ∧ actV r ≤ 5 := by
  unfold actV
  cases h : inB r 0 393215
  · simp
  · rw [inB_true] at h
    simp only [if_true]; omega

theorem known_any (n : Int) (w : World) : Calls Tryz.prog 93 #[.int .i64 n] w fun e w' => e = .returned (.bool (inB n 0 5)) ∧ w = w' := by
  have HB : Hid (inB n 0 5 = (decide (0 ≤ n) && decide (n ≤ 5))) := rfl
  by_cases h0 : 0 ≤ n
  · by_cases h1 : n ≤ 5
    · go_enter Tryz.func93, Tryz.ntmps93
      go_wp2
      go_ret
      exact ⟨by rw [HB.out]; simp [h0, h1], rfl⟩
    · go_enter Tryz.func93, Tryz.ntmps93
      go_wp2
      go_ret
      exact ⟨by rw [HB.out]; simp [h0, h1], rfl⟩
  · go_enter Tryz.func93, Tryz.ntmps93
    go_wp2
    go_ret
    exact ⟨by rw [HB.out, decide_eq_false (show ¬ 0 ≤ n by omega)]; simp, rfl⟩

theorem strV_less {a b : Int} (h : decide (actV b < actV a) = true) : strV a b = b := by simp only [decide_eq_true_eq] at h; simp [strV, h]

theorem strV_not {a b : Int} (h : decide (actV b < actV a) = false) : strV a b = a := by simp only [decide_eq_false_iff_not] at h; simp [strV, h]

end Go.Proofs.YtojaohdmfahpmaaGreatDoor
