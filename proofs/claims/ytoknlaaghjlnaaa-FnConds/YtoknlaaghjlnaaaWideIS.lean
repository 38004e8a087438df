/- What impl's and spec's functions of one chapter answer: HalfOk, WideOk, WideCmp, WideAnd, of any numbers. -/
import Derived.Test.YtoknlaaghjlnaaaRows
import Derived.Test.YtoknlaaghjlnaaaWideMath
import Derived.Test.YtoknlaaghjlnaaaBase
import Derived.WalkKit
import Derived.WalkSpells
import Derived.WalkSmall
import Derived.Below
import Derived.Laws.StructEq
import Derived.ChangeKeysEq
namespace Go.Proofs.Ytoknlaaghjlnaaa
open Go.RowKit
set_option linter.unusedVariables false

theorem iHalf_any (n : Int) (w : World) : Calls Try.prog 51 #[.int .i64 n] w fun e w' => e = .returned (.bool (halfB n)) ∧ w = w' := by
  obtain ⟨b, hb⟩ : ∃ b, b = halfB n := ⟨_, rfl⟩
  rw [← hb]
  have HB : Hid (b = halfB n) := hb
  clear hb
  by_cases h0 : 0 ≤ n
  · by_cases h1 : n ≤ 4294967295
    · go_enter Try.func51, Try.ntmps51
      go_wp2
      go_ret
      exact ⟨by rw [HB.out, halfB_true.2 ⟨h0, h1⟩]; simp, rfl⟩
    · go_enter Try.func51, Try.ntmps51
      go_wp2
      go_ret
      exact ⟨by rw [HB.out, halfB_false.2 (by omega)]; simp, rfl⟩
  · go_enter Try.func51, Try.ntmps51
    go_wp2
    go_ret
    exact ⟨by rw [HB.out, halfB_false.2 (by omega)]; simp, rfl⟩

/-- In lo .. hi. -/
def inB (n lo hi : Int) : Bool := decide (lo ≤ n) && decide (n ≤ hi)

theorem in_any (n lo hi : Int) (w : World) : Calls Try.prog 67 #[.int .i64 n, .int .i64 lo, .int .i64 hi] w fun e w' => e = .returned (.bool (inB n lo hi)) ∧ w = w' := by
  have HB : Hid (inB n lo hi = (decide (lo ≤ n) && decide (n ≤ hi))) := rfl
  by_cases h0 : lo ≤ n
  · by_cases h1 : n ≤ hi
    · go_enter Try.func67, Try.ntmps67
      go_wp2
      go_ret
      exact ⟨by rw [HB.out]; simp [h0, h1], rfl⟩
    · go_enter Try.func67, Try.ntmps67
      go_wp2
      go_ret
      exact ⟨by rw [HB.out]; simp [h0, h1], rfl⟩
  · go_enter Try.func67, Try.ntmps67
    go_wp2
    go_ret
    exact ⟨by rw [HB.out, decide_eq_false (show ¬ lo ≤ n by omega)]; simp, rfl⟩

theorem sHalf_any (n : Int) (w : World) : Calls Try.prog 55 #[.int .i64 n] w fun e w' => e = .returned (.bool (halfB n)) ∧ w = w' := by
  go_enter Try.func55, Try.ntmps55
  go_wp2_with (go_at_call 67; refine (in_any _ _ _ _).mono ?_; rintro e w' ⟨rfl, rfl⟩)
  go_ret
  exact ⟨rfl, rfl⟩

theorem iWide_any (a b : Int) (w : World) : Calls Try.prog 66 #[.agg #[.int .i64 a, .int .i64 b]] w fun e w' => e = .returned (.bool (wideB (a, b))) ∧ Below w.heap.size w w' := by
  have HB : Hid (wideB (a, b) = (halfB a && halfB b)) := rfl
  cases h0 : halfB a
  · go_enter Try.func66, Try.ntmps66
    go_wp2_with (go_at_call 51; refine (iHalf_any _ _).mono ?_; rintro e w' ⟨rfl, rfl⟩)
    go_ret
    exact ⟨by rw [HB.out, h0]; simp, (Below.refl _ _).alloc (Nat.le_refl _) _⟩
  · go_enter Try.func66, Try.ntmps66
    go_wp2_with (go_at_call 51; refine (iHalf_any _ _).mono ?_; rintro e w' ⟨rfl, rfl⟩)
    go_ret
    exact ⟨by rw [HB.out, h0]; simp, (Below.refl _ _).alloc (Nat.le_refl _) _⟩

theorem sWide_any (a b : Int) (w : World) : Calls Try.prog 59 #[.agg #[.int .i64 a, .int .i64 b]] w fun e w' => e = .returned (.bool (wideB (a, b))) ∧ Below w.heap.size w w' := by
  have HB : Hid (wideB (a, b) = (halfB a && halfB b)) := rfl
  cases h0 : halfB a
  · go_enter Try.func59, Try.ntmps59
    go_wp2_with (go_at_call 55; refine (sHalf_any _ _).mono ?_; rintro e w' ⟨rfl, rfl⟩)
    go_ret
    exact ⟨by rw [HB.out, h0]; simp, (Below.refl _ _).alloc (Nat.le_refl _) _⟩
  · go_enter Try.func59, Try.ntmps59
    go_wp2_with (go_at_call 55; refine (sHalf_any _ _).mono ?_; rintro e w' ⟨rfl, rfl⟩)
    go_ret
    exact ⟨by rw [HB.out, h0]; simp, (Below.refl _ _).alloc (Nat.le_refl _) _⟩

theorem fieldsW : ∃ f g : Field, Try.prog.fieldsOf 42 = #[f, g] ∧ Try.prog.underlying 42 = some (.struct #[f, g]) ∧ f.name ≠ "_" ∧ f.type = 3 ∧ f.offset = 0 ∧ g.name ≠ "_" ∧ g.type = 3 ∧ g.offset = 1 := by
  refine ⟨_, _, ?_, Try.underlying42, by decide, rfl, rfl, by decide, rfl, rfl⟩
  unfold Program.fieldsOf
  rw [Try.underlying42]

theorem stoodW : Try.prog.stoodInHeld 42 = false := by kernel_rfl

/-- Two wide numbers are held against each other: whether both halves are the same. -/
theorem eq_wide (a b c d : Int) (w : World) :
    (Op.equalIn 10000 42 (.agg #[.int .i64 a, .int .i64 b]) (.agg #[.int .i64 c, .int .i64 d])).run Try.prog w = .ok (decide ((a, b) = (c, d))) w := by
  obtain ⟨f, g, hf, hu, fn, ft, fo, gn, gt, go⟩ := fieldsW
  have h1 := run_equalIn_agg (P := Try.prog) w 9999 42 #[.int .i64 a, .int .i64 b] #[.int .i64 c, .int .i64 d] (by rw [hf]; exact hu) stoodW
  have pa : ∀ (x y : Value) wx, (part 3 #[x, y] 0).run Try.prog wx = .ok x wx := fun x y wx => by simp [part, Try.isAgg3]
  have pb : ∀ (x y : Value) wx, (part 3 #[x, y] 1).run Try.prog wx = .ok y wx := fun x y wx => by simp [part, Try.isAgg3]
  have qi : ∀ (x y : Int) wx, (Op.equalIn 9999 3 (.int .i64 x) (.int .i64 y)).run Try.prog wx = .ok (x == y) wx := fun x y wx => run_equalIn_int wx 9998 3 .i64 .i64 x y Try.underlying3
  rw [show (10000 : Nat) = 9999 + 1 from rfl, h1, hf]
  simp only [Op.eqFields, fn, gn, ne_eq, not_false_eq_true, if_true, Sem.run_bind, ft, fo, gt, go, pa, Result.andThen_ok, qi]
  by_cases h : a = c
  · subst h
    by_cases k : b = d
    · subst k; simp [pb, qi]
    · simp [k, pb, qi]
  · simp [h]

theorem cmpW_eq (a b c d : Int) (h : (a, b) = (c, d)) : cmpW (a, b) (c, d) = 0 := by
  simp only [Prod.mk.injEq] at h
  obtain ⟨rfl, rfl⟩ := h
  simp [cmpW, cmpI]

set_option maxHeartbeats 800000 in
theorem iCmp_any (a b c d : Int) (w : World) : Calls Try.prog 62 #[.agg #[.int .i64 a, .int .i64 b], .agg #[.int .i64 c, .int .i64 d]] w fun e w' => e = .returned (.int .i64 (cmpW (a, b) (c, d))) ∧ Below w.heap.size w w' := by
  have hEq := eq_wide a b c d
  obtain ⟨z, hz⟩ : ∃ z, z = cmpW (a, b) (c, d) := ⟨_, rfl⟩
  rw [← hz]
  have bel : Hid (Below w.heap.size w ((w.alloc (.cells #[.int .i64 a, .int .i64 b] 42)).alloc (.cells #[.int .i64 c, .int .i64 d] 42))) := ((Below.refl _ _).alloc (Nat.le_refl _) _).alloc (by simp) _
  by_cases h : (a, b) = (c, d)
  · have HZ : Hid (z = 0) := by rw [hz]; exact cmpW_eq a b c d h
    have hd : decide ((a, b) = (c, d)) = true := by simpa using h
    rw [hd] at hEq
    clear hz h hd
    go_enter Try.func62, Try.ntmps62
    go_wp2
    go_ret
    exact ⟨by rw [HZ.out]; rfl, bel.out⟩
  · have hd : decide ((a, b) = (c, d)) = false := by simpa using h
    rw [hd] at hEq
    have hne : ¬ (a = c ∧ b = d) := by simpa using h
    clear hd h
    by_cases h1 : a < c
    · have HZ : Hid (z = -1) := by unfold Hid; rw [hz]; simp [cmpW, h1]
      clear hz hne
      go_enter Try.func62, Try.ntmps62
      go_wp2
      go_ret
      exact ⟨by rw [HZ.out]; rfl, bel.out⟩
    · by_cases h2 : a = c
      · subst h2
        by_cases h3 : b < d
        · have HZ : Hid (z = -1) := by unfold Hid; rw [hz]; simp [cmpW, cmpI, h3]
          clear hz hne
          go_enter Try.func62, Try.ntmps62
          go_wp2
          go_ret
          exact ⟨by rw [HZ.out]; rfl, bel.out⟩
        · have HZ : Hid (z = 1) := by unfold Hid; rw [hz]; have k : d < b := (by omega); simp [cmpW, cmpI, h3, k]
          clear hz hne
          go_enter Try.func62, Try.ntmps62
          go_wp2
          go_ret
          exact ⟨by rw [HZ.out]; rfl, bel.out⟩
      · have HZ : Hid (z = 1) := by unfold Hid; rw [hz]; have k : c < a := (by omega); simp [cmpW, h1, k]
        have hq : (a == c) = false := by simpa using h2
        clear hz hne h2
        go_enter Try.func62, Try.ntmps62
        go_wp2
        go_ret
        exact ⟨by rw [HZ.out]; rfl, bel.out⟩

theorem cmp_any (a b : Int) (w : World) : Calls Try.prog 60 #[.int .i64 a, .int .i64 b] w fun e w' => e = .returned (.int .i64 (cmpI a b)) ∧ w = w' := by
  obtain ⟨z, hz⟩ : ∃ z, z = cmpI a b := ⟨_, rfl⟩
  rw [← hz]
  have HZ : Hid (z = cmpI a b) := hz
  clear hz
  by_cases h1 : a < b
  · go_enter Try.func60, Try.ntmps60
    go_wp2
    go_ret
    exact ⟨by rw [HZ.out, cmpI, if_pos (by omega)]; rfl, rfl⟩
  · by_cases h2 : b < a
    · go_enter Try.func60, Try.ntmps60
      go_wp2
      go_ret
      exact ⟨by rw [HZ.out, cmpI, if_neg (by omega), if_pos (by omega)]; rfl, rfl⟩
    · go_enter Try.func60, Try.ntmps60
      go_wp2
      go_ret
      exact ⟨by rw [HZ.out, cmpI, if_neg (by omega), if_neg (by omega)]; rfl, rfl⟩

theorem cmpI_zero {a b : Int} : cmpI a b = 0 ↔ a = b := by
  unfold cmpI
  split
  · simp; omega
  · split
    · simp; omega
    · simp; omega

theorem cmpW_if (a b c d : Int) : cmpW (a, b) (c, d) = if cmpI a c = 0 then cmpI b d else cmpI a c := by
  simp only [cmpW]
  by_cases h1 : a < c
  · have : cmpI a c = -1 := by simp [cmpI, h1]
    simp [h1, this]
  · by_cases h2 : c < a
    · have : cmpI a c = 1 := by simp [cmpI, h1, h2]
      simp [h1, h2, this]
    · have : cmpI a c = 0 := by simp [cmpI, h1, h2]
      simp [h1, h2, this]

set_option maxHeartbeats 800000 in
theorem sCmp_any (a b c d : Int) (w : World) : Calls Try.prog 21 #[.agg #[.int .i64 a, .int .i64 b], .agg #[.int .i64 c, .int .i64 d]] w fun e w' => e = .returned (.int .i64 (cmpW (a, b) (c, d))) ∧ Below w.heap.size w w' := by
  have bel : Hid (Below w.heap.size w ((w.alloc (.cells #[.int .i64 a, .int .i64 b] 42)).alloc (.cells #[.int .i64 c, .int .i64 d] 42))) := ((Below.refl _ _).alloc (Nat.le_refl _) _).alloc (by simp) _
  have HZ : Hid (cmpW (a, b) (c, d) = if cmpI a c = 0 then cmpI b d else cmpI a c) := cmpW_if a b c d
  by_cases h : cmpI a c = 0
  · have HH : Hid (cmpI a c = 0) := h
    have hq : (cmpI a c == 0) = true := by simpa using h
    clear h
    go_enter Try.func21, Try.ntmps21
    go_wp2_with (go_at_call 60; refine (cmp_any _ _ _).mono ?_; rintro e w' ⟨rfl, rfl⟩)
    go_ret
    exact ⟨by rw [HZ.out, if_pos HH.out]; rfl, bel.out⟩
  · have HH : Hid (¬ cmpI a c = 0) := h
    have hq : (cmpI a c == 0) = false := by simpa using h
    clear h
    go_enter Try.func21, Try.ntmps21
    go_wp2_with (go_at_call 60; refine (cmp_any _ _ _).mono ?_; rintro e w' ⟨rfl, rfl⟩)
    go_ret
    exact ⟨by rw [HZ.out, if_neg HH.out]; rfl, bel.out⟩

end Go.Proofs.Ytoknlaaghjlnaaa
