/- What impl's lineFits answers: whether a line is right by itself. -/
import Derived.Test.YtakcmiijnckaaaaPlacesI
namespace Go.Proofs.Ytakcmiijnckaaaa
open Go.RowKit
set_option linter.unusedVariables false

theorem bool_of {z : Bool} {P : Prop} (h : z = true ↔ P) (hp : P) : z = true := h.2 hp

theorem bool_not {z : Bool} {P : Prop} (h : z = true ↔ P) (hp : ¬ P) : z = false := by
  cases z with
  | false => rfl
  | true => exact absurd (h.1 rfl) hp

theorem bool_some (P : Prop) : ∃ z : Bool, z = true ↔ P := by
  by_cases h : P
  · exact ⟨true, by simp [h]⟩
  · exact ⟨false, by simp [h]⟩

set_option maxRecDepth 100000 in
set_option maxHeartbeats 2000000 in
theorem fits0_any (lab yes no : ByteArray) (k y n : Int) (z : Bool) (w : World) (hz : z = true ↔ fitsP ⟨lab, (0, k, y, n), yes, no⟩) : Calls Try.prog 47 #[.agg #[.string lab, .int .i64 0, .int .i64 k, .int .i64 y, .int .i64 n, .string yes, .string no]] w fun e w' => e = .returned (.bool z) ∧ Ext w w' := by
  have HZ : Hid (z = true ↔ (1 ≤ lab.size ∧ lab.size ≤ 12) ∧ k = 0 ∧ y = 0 ∧ n = 0 ∧ yes = noText ∧ no = noText) := by
    show _ ↔ _
    rw [hz]
    unfold fitsP zeroW
    simp only [Prod.mk.injEq]
    constructor
    · rintro (⟨_, h1, ⟨_, h2, h3, h4⟩, h5, h6⟩ | ⟨h0, _⟩)
      · exact ⟨h1, h2, h3, h4, h5, h6⟩
      · exact absurd rfl h0
    · rintro ⟨h1, h2, h3, h4, h5, h6⟩
      exact .inl ⟨trivial, h1, ⟨trivial, h2, h3, h4⟩, h5, h6⟩
  clear hz
  by_cases h1 : 1 ≤ (lab.size : Int)
  · by_cases h2 : (lab.size : Int) ≤ 12
    · by_cases h3 : k = 0 ∧ y = 0 ∧ n = 0 ∧ yes = noText ∧ no = noText
      · obtain rfl : z = true := HZ.out.2 ⟨by omega, h3⟩
        obtain ⟨rfl, rfl, rfl, rfl, rfl⟩ := h3
        clear HZ
        unfold noText at *
        go_enter Try.func47, Try.ntmps47
        go_wp2_with fail
        refine (iPlace_any ⟨lab, (0, 0, 0, 0), ⟨#[]⟩, ⟨#[]⟩⟩ _).mono ?_
        rintro e w2 ⟨rfl, e2⟩
        obtain ⟨d0, d1, d2, d3, d4, d5, d6⟩ := (hept_box w ⟨lab, (0, 0, 0, 0), ⟨#[]⟩, ⟨#[]⟩⟩ 37).ext e2
        simp only [Nat.zero_add] at d0 d1 d2 d3 d4 d5 d6
        go_wp2
        go_ret
        exact ⟨rfl, (Ext.one _ _).trans e2⟩
      · obtain rfl : z = false := bool_not HZ.out fun h => h3 h.2
        have H3 : Hid (¬ (k = 0 ∧ y = 0 ∧ n = 0 ∧ yes.toList = [] ∧ no.toList = [])) := by show ¬ _; rw [none_iff, none_iff]; exact h3
        clear HZ h3
        go_enter Try.func47, Try.ntmps47
        go_wp2_with fail
        refine (iPlace_any ⟨lab, (0, k, y, n), yes, no⟩ _).mono ?_
        rintro e w2 ⟨rfl, e2⟩
        obtain ⟨d0, d1, d2, d3, d4, d5, d6⟩ := (hept_box w ⟨lab, (0, k, y, n), yes, no⟩ 37).ext e2
        simp only [Nat.zero_add] at d0 d1 d2 d3 d4 d5 d6
        go_wp2
        all_goals first
          | exact absurd ⟨by assumption, by assumption, by assumption, by assumption, by assumption⟩ H3.out
          | (go_ret; exact ⟨rfl, (Ext.one _ _).trans e2⟩)
    · obtain rfl : z = false := bool_not HZ.out fun h => by omega
      clear HZ
      go_enter Try.func47, Try.ntmps47
      go_wp2_with fail
      refine (iPlace_any ⟨lab, (0, k, y, n), yes, no⟩ _).mono ?_
      rintro e w2 ⟨rfl, e2⟩
      obtain ⟨d0, d1, d2, d3, d4, d5, d6⟩ := (hept_box w ⟨lab, (0, k, y, n), yes, no⟩ 37).ext e2
      simp only [Nat.zero_add] at d0 d1 d2 d3 d4 d5 d6
      go_wp2
      go_ret
      exact ⟨rfl, (Ext.one _ _).trans e2⟩
  · obtain rfl : z = false := bool_not HZ.out fun h => by omega
    clear HZ
    go_enter Try.func47, Try.ntmps47
    go_wp2_with fail
    refine (iPlace_any ⟨lab, (0, k, y, n), yes, no⟩ _).mono ?_
    rintro e w2 ⟨rfl, e2⟩
    obtain ⟨d0, d1, d2, d3, d4, d5, d6⟩ := (hept_box w ⟨lab, (0, k, y, n), yes, no⟩ 37).ext e2
    simp only [Nat.zero_add] at d0 d1 d2 d3 d4 d5 d6
    go_wp2
    go_ret
    exact ⟨rfl, (Ext.one _ _).trans e2⟩

set_option maxRecDepth 100000 in
set_option maxHeartbeats 2000000 in
theorem fits_any' (lab yes no : ByteArray) (o k y n : Int) (z : Bool) (w : World) (h0 : o ≠ 0) (hz : z = true ↔ fitsP ⟨lab, (o, k, y, n), yes, no⟩) : Calls Try.prog 47 #[.agg #[.string lab, .int .i64 o, .int .i64 k, .int .i64 y, .int .i64 n, .string yes, .string no]] w fun e w' => e = .returned (.bool z) ∧ Ext w w' := by
  have q0 : (o == 0) = false := by simpa using h0
  obtain ⟨c, hc⟩ : ∃ c, c = insB o k y n := ⟨_, rfl⟩
  obtain ⟨v, hv⟩ := bool_some (yesW (o, k, y, n) = 0 ∧ noW (o, k, y, n) = 0)
  have HZ : Hid (z = true ↔ lab = noText ∧ c = true ∧ v = true) := by
    show _ ↔ _
    rw [hz, hv, hc]
    unfold fitsP okW
    constructor
    · rintro (⟨h, _⟩ | ⟨_, h1, h2, h3⟩)
      · exact absurd h h0
      · exact ⟨h1, h2, h3⟩
    · rintro ⟨h1, h2, h3⟩
      exact .inr ⟨h0, h1, h2, h3⟩
  have HI : Hid (∀ w, Calls Try.prog 75 #[.agg #[.int .i64 o, .int .i64 k, .int .i64 y, .int .i64 n]] w fun e w' => e = .returned (.bool c) ∧ Ext w w') := fun w => by rw [hc]; exact iInsOk_any o k y n w
  have HW : Hid (∀ w, Calls Try.prog 76 #[.agg #[.int .i64 o, .int .i64 k, .int .i64 y, .int .i64 n]] w fun e w' => e = .returned (.bool v) ∧ Ext w w') := fun w => bare_any o k y n v w hv
  have H0 : Hid (o ≠ 0) := h0
  clear hz hc hv h0
  have hd : ∀ {w2 : World}, Ext (w.alloc (.cells #[.string lab, .int .i64 o, .int .i64 k, .int .i64 y, .int .i64 n, .string yes, .string no] 37)) w2 → Hept w2 w.heap.size 0 ⟨lab, (o, k, y, n), yes, no⟩ := fun e => (hept_box w ⟨lab, (o, k, y, n), yes, no⟩ 37).ext e
  have HD : Hid _ := @hd
  clear hd
  by_cases h1 : lab = noText
  · subst h1
    unfold noText at HD ⊢
    cases c with
    | true =>
      go_enter Try.func47, Try.ntmps47
      go_wp2_with fail
      refine (iPlace_any ⟨⟨#[]⟩, (o, k, y, n), yes, no⟩ _).mono ?_
      rintro e w2 ⟨rfl, e2⟩
      obtain ⟨d0, d1, d2, d3, d4, d5, d6⟩ := HD.out e2
      simp only [Nat.zero_add] at d0 d1 d2 d3 d4 d5 d6
      go_wp2_with fail
      refine (HI.out _).mono ?_
      rintro e w3 ⟨rfl, e3⟩
      have e23 := e2.trans e3
      obtain ⟨f0, f1, f2, f3, f4, f5, f6⟩ := HD.out e23
      simp only [Nat.zero_add] at f0 f1 f2 f3 f4 f5 f6
      clear d0 d1 d2 d3 d4 d5 d6 e2 e3
      go_wp2_with fail
      refine (HW.out _).mono ?_
      rintro e w4 ⟨rfl, e4⟩
      go_wp2
      go_ret
      refine ⟨?_, (Ext.one _ _).trans (e23.trans e4)⟩
      cases v
      · obtain rfl : z = false := bool_not HZ.out fun h => by cases h.2.2
        rfl
      · obtain rfl : z = true := HZ.out.2 (by simp)
        rfl
    | false =>
      obtain rfl : z = false := bool_not HZ.out fun h => by cases h.2.1
      go_enter Try.func47, Try.ntmps47
      go_wp2_with fail
      refine (iPlace_any ⟨⟨#[]⟩, (o, k, y, n), yes, no⟩ _).mono ?_
      rintro e w2 ⟨rfl, e2⟩
      obtain ⟨d0, d1, d2, d3, d4, d5, d6⟩ := HD.out e2
      simp only [Nat.zero_add] at d0 d1 d2 d3 d4 d5 d6
      go_wp2_with fail
      refine (HI.out _).mono ?_
      rintro e w3 ⟨rfl, e3⟩
      go_wp2
      go_ret
      exact ⟨rfl, (Ext.one _ _).trans (e2.trans e3)⟩
  · obtain rfl : z = false := bool_not HZ.out fun h => h1 h.1
    have q1 : ¬ lab.toList = [] := fun h => h1 (none_iff.1 h)
    clear HZ h1
    go_enter Try.func47, Try.ntmps47
    go_wp2_with fail
    refine (iPlace_any ⟨lab, (o, k, y, n), yes, no⟩ _).mono ?_
    rintro e w2 ⟨rfl, e2⟩
    obtain ⟨d0, d1, d2, d3, d4, d5, d6⟩ := HD.out e2
    simp only [Nat.zero_add] at d0 d1 d2 d3 d4 d5 d6
    go_wp2
    go_ret
    exact ⟨rfl, (Ext.one _ _).trans e2⟩

theorem fits_line (l : Ln) (z : Bool) (w : World) (hz : z = true ↔ fitsP l) : Calls Try.prog 47 #[l.val] w fun e w' => e = .returned (.bool z) ∧ Ext w w' := by
  obtain ⟨lab, ⟨o, k, y, n⟩, yes, no⟩ := l
  by_cases h0 : o = 0
  · subst h0
    exact fits0_any lab yes no k y n z w hz
  · exact fits_any' lab yes no o k y n z w h0 hz

end Go.Proofs.Ytakcmiijnckaaaa
