/- What impl's and spec's functions of one chapter answer: HalfOk, WideOk, WideCmp, WideAnd, of any numbers. -/
import Derived.Test.YtojaohdmfahpmaaRows
import Derived.Test.YtojaohdmfahpmaaWideMath
import Derived.Test.YtojaohdmfahpmaaBase
import Derived.WalkKit
import Derived.WalkSpells
import Derived.WalkSmall
import Derived.Below
import Derived.Laws.StructEq
import Derived.ChangeKeysEq
namespace Go.Proofs.Ytojaohdmfahpmaa
open Go.RowKit
set_option linter.unusedVariables false

/-- In lo .. hi. -/
def inB (n lo hi : Int) : Bool := decide (lo ≤ n) && decide (n ≤ hi)

theorem fieldsW : ∃ f g : Field, Try.prog.fieldsOf 39 = #[f, g] ∧ Try.prog.underlying 39 = some (.struct #[f, g]) ∧ f.name ≠ "_" ∧ f.type = 3 ∧ f.offset = 0 ∧ g.name ≠ "_" ∧ g.type = 3 ∧ g.offset = 1 := by
  refine ⟨_, _, ?_, Try.underlying39, by decide, rfl, rfl, by decide, rfl, rfl⟩
  unfold Program.fieldsOf
  rw [Try.underlying39]

theorem stoodW : Try.prog.stoodInHeld 39 = false := by kernel_rfl

/-- Two wide numbers are held against each other: whether both halves are the same. -/
theorem eq_wide (a b c d : Int) (w : World) :
    (Op.equalIn 10000 39 (.agg #[.int .i64 a, .int .i64 b]) (.agg #[.int .i64 c, .int .i64 d])).run Try.prog w = .ok (decide ((a, b) = (c, d))) w := by
  obtain ⟨f, g, hf, hu, fn, ft, fo, gn, gt, go⟩ := fieldsW
  have h1 := run_equalIn_agg (P := Try.prog) w 9999 39 #[.int .i64 a, .int .i64 b] #[.int .i64 c, .int .i64 d] (by rw [hf]; exact hu) stoodW
  have pa : ∀ (x y : Value) wx, (part 3 #[x, y] 0).run Try.prog wx = .ok x wx := fun x y wx => by simp [part, Try.isAgg3]
  have pb : ∀ (x y : Value) wx, (part 3 #[x, y] 1).run Try.prog wx = .ok y wx := fun x y wx => by simp [part, Try.isAgg3]
  have qi : ∀ (x y : Int) wx, (Op.equalIn 9999 3 (.int .i64 x) (.int .i64 y)).run Try.prog wx = .ok (x == y) wx := fun x y wx => run_equalIn_int wx 9998 3 .i64 .i64 x y Try.underlying3
  rw [show (10000 : Nat) = 9999 + 1 from rfl, h1, hf]
  simp only [Op.eqFields, fn, gn, ne_eq, not_false_eq_true, if_true, Sem.run_bind, ft, fo, gt, go, pa, Result.andThen_ok, qi]
  by_cases h : a = c
  · subst h
    by_cases k : b = d
    · subst k; simp [pb, qi]
    · simp [k, pb, qi]
  · simp [h]

theorem cmpW_eq (a b c d : Int) (h : (a, b) = (c, d)) : cmpW (a, b) (c, d) = 0 := by
  simp only [Prod.mk.injEq] at h
  obtain ⟨rfl, rfl⟩ := h
  simp [cmpW, cmpI]

theorem cmpI_zero {a b : Int} : cmpI a b = 0 ↔ a = b := by
  unfold cmpI
  split
  · simp; omega
  · split
    · simp; omega
    · simp; omega

theorem cmpW_if (a b c d : Int) : cmpW (a, b) (c, d) = if cmpI a c = 0 then cmpI b d else cmpI a c := by
  simp only [cmpW]
  by_cases h1 : a < c
  · have : cmpI a c = -1 := by simp [cmpI, h1]
    simp [h1, this]
  · by_cases h2 : c < a
    · have : cmpI a c = 1 := by simp [cmpI, h1, h2]
      simp [h1, h2, this]
    · have : cmpI a c = 0 := by simp [cmpI, h1, h2]
      simp [h1, h2, this]

end Go.Proofs.Ytojaohdmfahpmaa
