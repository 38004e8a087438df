/- What impl's and spec's functions of one chapter answer: HalfOk, WideOk, WideCmp, WideAnd, of any numbers. -/
import Derived.Test.YthflflhcbnianaaRows
import Derived.Test.YthflflhcbnianaaWideMath
import Derived.Test.YthflflhcbnianaaBase
import Derived.WalkKit
import Derived.WalkSpells
import Derived.WalkSmall
import Derived.Below
import Derived.Laws.StructEq
import Derived.ChangeKeysEq
namespace Go.Proofs.Ythflflhcbnianaa
open Go.RowKit
set_option linter.unusedVariables false

theorem iHalf4_any (n : Int) (w : World) : Calls Try.prog 34 #[.int .i64 n] w fun e w' => e = .returned (.bool (halfB n)) ∧ w = w' := by
  obtain ⟨b, hb⟩ : ∃ b, b = halfB n := ⟨_, rfl⟩
  rw [← hb]
  have HB : Hid (b = halfB n) := hb
  clear hb
  by_cases h0 : 0 ≤ n
  · by_cases h1 : n ≤ 4294967295
    · go_enter Try.func34, Try.ntmps34
      go_wp2
      go_ret
      exact ⟨by rw [HB.out, halfB_true.2 ⟨h0, h1⟩]; simp, rfl⟩
    · go_enter Try.func34, Try.ntmps34
      go_wp2
      go_ret
      exact ⟨by rw [HB.out, halfB_false.2 (by omega)]; simp, rfl⟩
  · go_enter Try.func34, Try.ntmps34
    go_wp2
    go_ret
    exact ⟨by rw [HB.out, halfB_false.2 (by omega)]; simp, rfl⟩

/-- In lo .. hi. -/
def inB4 (n lo hi : Int) : Bool := decide (lo ≤ n) && decide (n ≤ hi)

theorem in4_any (n lo hi : Int) (w : World) : Calls Try.prog 18 #[.int .i64 n, .int .i64 lo, .int .i64 hi] w fun e w' => e = .returned (.bool (inB4 n lo hi)) ∧ w = w' := by
  have HB : Hid (inB4 n lo hi = (decide (lo ≤ n) && decide (n ≤ hi))) := rfl
  by_cases h0 : lo ≤ n
  · by_cases h1 : n ≤ hi
    · go_enter Try.func18, Try.ntmps18
      go_wp2
      go_ret
      exact ⟨by rw [HB.out]; simp [h0, h1], rfl⟩
    · go_enter Try.func18, Try.ntmps18
      go_wp2
      go_ret
      exact ⟨by rw [HB.out]; simp [h0, h1], rfl⟩
  · go_enter Try.func18, Try.ntmps18
    go_wp2
    go_ret
    exact ⟨by rw [HB.out, decide_eq_false (show ¬ lo ≤ n by omega)]; simp, rfl⟩

theorem sHalf4_any (n : Int) (w : World) : Calls Try.prog 28 #[.int .i64 n] w fun e w' => e = .returned (.bool (halfB n)) ∧ w = w' := by
  go_enter Try.func28, Try.ntmps28
  go_wp2_with (go_at_call 18; refine (in4_any _ _ _ _).mono ?_; rintro e w' ⟨rfl, rfl⟩)
  go_ret
  exact ⟨rfl, rfl⟩

theorem iWide_any (a b : Int) (w : World) : Calls Try.prog 30 #[.agg #[.int .i64 a, .int .i64 b]] w fun e w' => e = .returned (.bool (wideB (a, b))) ∧ Below w.heap.size w w' := by
  have HB : Hid (wideB (a, b) = (halfB a && halfB b)) := rfl
  cases h0 : halfB a
  · go_enter Try.func30, Try.ntmps30
    go_wp2_with (go_at_call 34; refine (iHalf4_any _ _).mono ?_; rintro e w' ⟨rfl, rfl⟩)
    go_ret
    exact ⟨by rw [HB.out, h0]; simp, (Below.refl _ _).alloc (Nat.le_refl _) _⟩
  · go_enter Try.func30, Try.ntmps30
    go_wp2_with (go_at_call 34; refine (iHalf4_any _ _).mono ?_; rintro e w' ⟨rfl, rfl⟩)
    go_ret
    exact ⟨by rw [HB.out, h0]; simp, (Below.refl _ _).alloc (Nat.le_refl _) _⟩

theorem sWide_any (a b : Int) (w : World) : Calls Try.prog 19 #[.agg #[.int .i64 a, .int .i64 b]] w fun e w' => e = .returned (.bool (wideB (a, b))) ∧ Below w.heap.size w w' := by
  have HB : Hid (wideB (a, b) = (halfB a && halfB b)) := rfl
  cases h0 : halfB a
  · go_enter Try.func19, Try.ntmps19
    go_wp2_with (go_at_call 28; refine (sHalf4_any _ _).mono ?_; rintro e w' ⟨rfl, rfl⟩)
    go_ret
    exact ⟨by rw [HB.out, h0]; simp, (Below.refl _ _).alloc (Nat.le_refl _) _⟩
  · go_enter Try.func19, Try.ntmps19
    go_wp2_with (go_at_call 28; refine (sHalf4_any _ _).mono ?_; rintro e w' ⟨rfl, rfl⟩)
    go_ret
    exact ⟨by rw [HB.out, h0]; simp, (Below.refl _ _).alloc (Nat.le_refl _) _⟩

theorem fieldsW : ∃ f g : Field, Try.prog.fieldsOf 28 = #[f, g] ∧ Try.prog.underlying 28 = some (.struct #[f, g]) ∧ f.name ≠ "_" ∧ f.type = 3 ∧ f.offset = 0 ∧ g.name ≠ "_" ∧ g.type = 3 ∧ g.offset = 1 := by
  refine ⟨_, _, ?_, Try.underlying28, by decide, rfl, rfl, by decide, rfl, rfl⟩
  unfold Program.fieldsOf
  rw [Try.underlying28]

theorem stoodW : Try.prog.stoodInHeld 28 = false := by kernel_rfl

/-- Two wide numbers are held against each other: whether both halves are the same. -/
theorem eq_wide (a b c d : Int) (w : World) :
    (Op.equalIn 10000 28 (.agg #[.int .i64 a, .int .i64 b]) (.agg #[.int .i64 c, .int .i64 d])).run Try.prog w = .ok (decide ((a, b) = (c, d))) w := by
  obtain ⟨f, g, hf, hu, fn, ft, fo, gn, gt, go⟩ := fieldsW
  have h1 := run_equalIn_agg (P := Try.prog) w 9999 28 #[.int .i64 a, .int .i64 b] #[.int .i64 c, .int .i64 d] (by rw [hf]; exact hu) stoodW
  have pa : ∀ (x y : Value) wx, (part 3 #[x, y] 0).run Try.prog wx = .ok x wx := fun x y wx => by simp [part, Try.isAgg3]
  have pb : ∀ (x y : Value) wx, (part 3 #[x, y] 1).run Try.prog wx = .ok y wx := fun x y wx => by simp [part, Try.isAgg3]
  have qi : ∀ (x y : Int) wx, (Op.equalIn 9999 3 (.int .i64 x) (.int .i64 y)).run Try.prog wx = .ok (x == y) wx := fun x y wx => run_equalIn_int wx 9998 3 .i64 .i64 x y Try.underlying3
  rw [show (10000 : Nat) = 9999 + 1 from rfl, h1, hf]
  simp only [Op.eqFields, fn, gn, ne_eq, not_false_eq_true, if_true, Sem.run_bind, ft, fo, gt, go, pa, Result.andThen_ok, qi]
  by_cases h : a = c
  · subst h
    by_cases k : b = d
    · subst k; simp [pb, qi]
    · simp [k, pb, qi]
  · simp [h]

theorem cmpW_eq (a b c d : Int) (h : (a, b) = (c, d)) : cmpW (a, b) (c, d) = 0 := by
  simp only [Prod.mk.injEq] at h
  obtain ⟨rfl, rfl⟩ := h
  simp [cmpW, cmpI]

theorem cmpI_zero {a b : Int} : cmpI a b = 0 ↔ a = b := by
  unfold cmpI
  split
  · simp; omega
  · split
    · simp; omega
    · simp; omega

theorem cmpW_if (a b c d : Int) : cmpW (a, b) (c, d) = if cmpI a c = 0 then cmpI b d else cmpI a c := by
  simp only [cmpW]
  by_cases h1 : a < c
  · have : cmpI a c = -1 := by simp [cmpI, h1]
    simp [h1, this]
  · by_cases h2 : c < a
    · have : cmpI a c = 1 := by simp [cmpI, h1, h2]
      simp [h1, h2, this]
    · have : cmpI a c = 0 := by simp [cmpI, h1, h2]
      simp [h1, h2, this]

end Go.Proofs.Ythflflhcbnianaa
