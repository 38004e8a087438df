/- What impl's and spec's functions of one chapter answer: HalfOk, WideOk, WideCmp, WideAnd, of any numbers. -/
import Derived.Test.YtfhkafbcopolcaaDoorRows
import Derived.Test.YtfhkafbcopolcaaDoorWideMath
import Derived.Test.YtfhkafbcopolcaaDoorBase
import Derived.WalkKit
import Derived.WalkSpells
import Derived.WalkSmall
import Derived.Below
import Derived.Laws.StructEq
import Derived.ChangeKeysEq
namespace Go.Proofs.YtfhkafbcopolcaaDoor
open Go.RowKit
set_option linter.unusedVariables false

theorem iHalf_any (n : Int) (w : World) : Calls Tryd.prog 52 #[.int .i64 n] w fun e w' => e = .returned (.bool (halfB n)) ∧ w = w' := by
  obtain ⟨b, hb⟩ : ∃ b, b = halfB n := ⟨_, rfl⟩
  rw [← hb]
  have HB : Hid (b = halfB n) := hb
  clear hb
  by_cases h0 : 0 ≤ n
  · by_cases h1 : n ≤ 4294967295
    · go_enter Tryd.func52, Tryd.ntmps52
      go_wp2
      go_ret
      exact ⟨by rw [HB.out, halfB_true.2 ⟨h0, h1⟩]; simp, rfl⟩
    · go_enter Tryd.func52, Tryd.ntmps52
      go_wp2
      go_ret
      exact ⟨by rw [HB.out, halfB_false.2 (by omega)]; simp, rfl⟩
  · go_enter Tryd.func52, Tryd.ntmps52
    go_wp2
    go_ret
    exact ⟨by rw [HB.out, halfB_false.2 (by omega)]; simp, rfl⟩

/-- In lo .. hi. -/
def inB (n lo hi : Int) : Bool := decide (lo ≤ n) && decide (n ≤ hi)

theorem in_any (n lo hi : Int) (w : World) : Calls Tryd.prog 46 #[.int .i64 n, .int .i64 lo, .int .i64 hi] w fun e w' => e = .returned (.bool (inB n lo hi)) ∧ w = w' := by
  have HB : Hid (inB n lo hi = (decide (lo ≤ n) && decide (n ≤ hi))) := rfl
  by_cases h0 : lo ≤ n
  · by_cases h1 : n ≤ hi
    · go_enter Tryd.func46, Tryd.ntmps46
      go_wp2
      go_ret
      exact ⟨by rw [HB.out]; simp [h0, h1], rfl⟩
    · go_enter Tryd.func46, Tryd.ntmps46
      go_wp2
      go_ret
      exact ⟨by rw [HB.out]; simp [h0, h1], rfl⟩
  · go_enter Tryd.func46, Tryd.ntmps46
    go_wp2
    go_ret
    exact ⟨by rw [HB.out, decide_eq_false (show ¬ lo ≤ n by omega)]; simp, rfl⟩

theorem sHalf_any (n : Int) (w : World) : Calls Tryd.prog 30 #[.int .i64 n] w fun e w' => e = .returned (.bool (halfB n)) ∧ w = w' := by
  go_enter Tryd.func30, Tryd.ntmps30
  go_wp2_with (go_at_call 46; refine (in_any _ _ _ _).mono ?_; rintro e w' ⟨rfl, rfl⟩)
  go_ret
  exact ⟨rfl, rfl⟩

theorem cmpW_eq (a b c d : Int) (h : (a, b) = (c, d)) : cmpW (a, b) (c, d) = 0 := by
  simp only [Prod.mk.injEq] at h
  obtain ⟨rfl, rfl⟩ := h
  simp [cmpW, cmpI]

theorem cmpI_zero {a b : Int} : cmpI a b = 0 ↔ a = b := by
  unfold cmpI
  split
  · simp; omega
  · split
    · simp; omega
    · simp; omega

theorem cmpW_if (a b c d : Int) : cmpW (a, b) (c, d) = if cmpI a c = 0 then cmpI b d else cmpI a c := by
  simp only [cmpW]
  by_cases h1 : a < c
  · have : cmpI a c = -1 := by simp [cmpI, h1]
    simp [h1, this]
  · by_cases h2 : c < a
    · have : cmpI a c = 1 := by simp [cmpI, h1, h2]
      simp [h1, h2, this]
    · have : cmpI a c = 0 := by simp [cmpI, h1, h2]
      simp [h1, h2, this]

end Go.Proofs.YtfhkafbcopolcaaDoor
