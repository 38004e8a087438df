/- What is asked of one line by itself: a place, a question, no number where a label tells the way. -/
import Derived.Test.YtakcmiijnckaaaaLineMath
import Derived.Test.YtakcmiijnckaaaaCheckIS
namespace Go.Proofs.Ytakcmiijnckaaaa
open Go.RowKit
set_option linter.unusedVariables false

theorem none_iff {s : ByteArray} : s.toList = [] ↔ s = noText := by
  rw [ByteArray.toList_eq]
  constructor
  · intro h
    exact ByteArray.ext (Array.toList_inj.1 h)
  · intro h
    rw [h]
    rfl

theorem eqText (a b : ByteArray) : (a.toList == b.toList) = decide (a = b) := by
  by_cases h : a = b
  · subst h; simp
  · rw [decide_eq_false h, beq_eq_false_iff_ne, ByteArray.toList_eq, ByteArray.toList_eq]
    exact fun e => h (ByteArray.ext (Array.toList_inj.1 e))

def askB (o : Int) : Bool := decide (3 ≤ o) && decide (o ≤ 6)

theorem askB_true {o : Int} : askB o = true ↔ askP o := by unfold askB askP; simp

theorem askB_false {o : Int} : askB o = false ↔ ¬ askP o := by rw [← askB_true]; simp

theorem iPlace_any (l : Ln) (w : World) : Calls Try.prog 49 #[l.val] w fun e w' => e = .returned (.bool (l.wd.1 == 0)) ∧ Ext w w' := by
  obtain ⟨lab, ⟨o, k, y, n⟩, yes, no⟩ := l
  show Calls Try.prog 49 #[.agg #[.string lab, .int .i64 o, .int .i64 k, .int .i64 y, .int .i64 n, .string yes, .string no]] w fun e w' => e = .returned (.bool (o == 0)) ∧ Ext w w'
  go_enter Try.func49, Try.ntmps49
  go_wp2
  go_ret
  exact ⟨rfl, Ext.one _ _⟩

theorem iAsk_any (l : Ln) (w : World) : Calls Try.prog 72 #[l.val] w fun e w' => e = .returned (.bool (askB l.wd.1)) ∧ Ext w w' := by
  obtain ⟨lab, ⟨o, k, y, n⟩, yes, no⟩ := l
  show Calls Try.prog 72 #[.agg #[.string lab, .int .i64 o, .int .i64 k, .int .i64 y, .int .i64 n, .string yes, .string no]] w fun e w' => e = .returned (.bool (askB o)) ∧ Ext w w'
  have HB : Hid (askB o = (decide (3 ≤ o) && decide (o ≤ 6))) := rfl
  by_cases h0 : 3 ≤ o
  · by_cases h1 : o ≤ 6
    · go_enter Try.func72, Try.ntmps72
      go_wp2
      go_ret
      exact ⟨by rw [HB.out]; simp [h0, h1], Ext.one _ _⟩
    · go_enter Try.func72, Try.ntmps72
      go_wp2
      go_ret
      exact ⟨by rw [HB.out]; simp [h0, h1], Ext.one _ _⟩
  · go_enter Try.func72, Try.ntmps72
    go_wp2
    go_ret
    exact ⟨by rw [HB.out, decide_eq_false (show ¬ 3 ≤ o by omega)]; simp, Ext.one _ _⟩

theorem bare_any (o k y n : Int) (z : Bool) (w : World) (hz : z = true ↔ yesW (o, k, y, n) = 0 ∧ noW (o, k, y, n) = 0) : Calls Try.prog 76 #[.agg #[.int .i64 o, .int .i64 k, .int .i64 y, .int .i64 n]] w fun e w' => e = .returned (.bool z) ∧ Ext w w' := by
  obtain ⟨a, ha⟩ : ∃ a, a = yesW (o, k, y, n) := ⟨_, rfl⟩
  obtain ⟨b, hb⟩ : ∃ b, b = noW (o, k, y, n) := ⟨_, rfl⟩
  rw [← ha, ← hb] at hz
  have HW : Hid (∀ w, Calls Try.prog 84 #[.agg #[.int .i64 o, .int .i64 k, .int .i64 y, .int .i64 n]] w fun e w' => e = .returned (.tuple #[.int .i64 a, .int .i64 b]) ∧ Ext w w') := fun w => by rw [ha, hb]; exact ways_any o k y n w
  have HZ : Hid (z = true ↔ a = 0 ∧ b = 0) := hz
  clear ha hb hz
  by_cases h0 : a = 0
  · by_cases h1 : b = 0
    · obtain rfl : z = true := HZ.out.2 ⟨h0, h1⟩
      subst h0
      subst h1
      go_enter Try.func76, Try.ntmps76
      go_wp2_with fail
      refine (HW.out _).mono ?_
      rintro e w1 ⟨rfl, e1⟩
      go_wp2
      go_ret
      exact ⟨rfl, (Ext.one _ _).trans e1⟩
    · obtain rfl : z = false := by cases z with | false => rfl | true => exact absurd (HZ.out.1 rfl).2 h1
      subst h0
      have q1 : (b == 0) = false := by simpa using h1
      go_enter Try.func76, Try.ntmps76
      go_wp2_with fail
      refine (HW.out _).mono ?_
      rintro e w1 ⟨rfl, e1⟩
      go_wp2
      go_ret
      exact ⟨by simp, (Ext.one _ _).trans e1⟩
  · obtain rfl : z = false := by cases z with | false => rfl | true => exact absurd (HZ.out.1 rfl).1 h0
    have q0 : (a == 0) = false := by simpa using h0
    go_enter Try.func76, Try.ntmps76
    go_wp2_with fail
    refine (HW.out _).mono ?_
    rintro e w1 ⟨rfl, e1⟩
    go_wp2
    go_ret
    exact ⟨by simp, (Ext.one _ _).trans e1⟩

theorem sPlace_any (l : Ln) (w : World) : Calls Try.prog 55 #[l.val] w fun e w' => e = .returned (.bool (decide (l.wd = zeroW))) ∧ Ext w w' := by
  obtain ⟨lab, ⟨o, k, y, n⟩, yes, no⟩ := l
  show Calls Try.prog 55 #[.agg #[.string lab, .int .i64 o, .int .i64 k, .int .i64 y, .int .i64 n, .string yes, .string no]] w fun e w' => e = .returned (.bool (decide ((o, k, y, n) = zeroW))) ∧ Ext w w'
  obtain ⟨z, hz⟩ : ∃ z, z = decide ((o, k, y, n) = zeroW) := ⟨_, rfl⟩
  rw [← hz]
  have HZ : Hid (z = true ↔ o = 0 ∧ k = 0 ∧ y = 0 ∧ n = 0) := by
    show _ ↔ _
    rw [hz]
    unfold zeroW
    simp [Prod.mk.injEq]
  clear hz
  by_cases h0 : o = 0 ∧ k = 0 ∧ y = 0 ∧ n = 0
  · obtain rfl : z = true := HZ.out.2 h0
    obtain ⟨rfl, rfl, rfl, rfl⟩ := h0
    go_enter Try.func55, Try.ntmps55
    go_wp2
    go_ret
    exact ⟨rfl, Ext.one _ _⟩
  · obtain rfl : z = false := by cases z with | false => rfl | true => exact absurd (HZ.out.1 rfl) h0
    have H0 : Hid (¬ (o = 0 ∧ k = 0 ∧ y = 0 ∧ n = 0)) := h0
    clear h0 HZ
    go_enter Try.func55, Try.ntmps55
    go_wp2
    all_goals first
      | exact absurd ⟨by assumption, by assumption, by assumption, by assumption⟩ H0.out
      | (go_ret; exact ⟨rfl, Ext.one _ _⟩)

end Go.Proofs.Ytakcmiijnckaaaa
