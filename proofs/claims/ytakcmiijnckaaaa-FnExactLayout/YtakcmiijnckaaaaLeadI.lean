/- What impl's waysLead answers: whether a line has the ways of its kind, to labels that the map has. -/
import Derived.Test.YtakcmiijnckaaaaFitsI
namespace Go.Proofs.Ytakcmiijnckaaaa
open Go.RowKit
set_option linter.unusedVariables false

/-- The ways of its kind, to labels that M has. -/
def leadM (M : ByteArray → Option Nat) (l : Ln) : Prop :=
  (askP l.wd.1 ∧ (M l.yes).isSome = true ∧ (M l.no).isSome = true) ∨ (¬ askP l.wd.1 ∧ l.wd.1 = 7 ∧ (M l.yes).isSome = true ∧ l.no = noText) ∨ (¬ askP l.wd.1 ∧ l.wd.1 ≠ 7 ∧ l.yes = noText ∧ l.no = noText)

theorem leadM_beh {ls : List Ln} {i : Nat} {M : ByteArray → Option Nat} (h : BehM ls i M) (l : Ln) : leadM M l ↔ leadP ls i l := by
  unfold leadM leadP
  rw [h l.yes, h l.no]

set_option maxRecDepth 100000 in
set_option maxHeartbeats 2000000 in
theorem leads_any (lab yes no : ByteArray) (o k y n : Int) (B m : Nat) (M : ByteArray → Option Nat) (z : Bool) (w : World) (hm : MapOf w B m M) (hy : yes.size ≤ maxLen) (hn : no.size ≤ maxLen) (hz : z = true ↔ leadM M ⟨lab, (o, k, y, n), yes, no⟩) :
    Calls Try.prog 48 #[.agg #[.string lab, .int .i64 o, .int .i64 k, .int .i64 y, .int .i64 n, .string yes, .string no], .map (some B)] w fun e w' => e = .returned (.bool z) ∧ Ext w w' := by
  obtain ⟨W, hW⟩ : ∃ W, W = w.alloc (.cells #[.string lab, .int .i64 o, .int .i64 k, .int .i64 y, .int .i64 n, .string yes, .string no] 37) := ⟨_, rfl⟩
  have m1 : MapOf W B m M := by rw [hW]; exact hm.below (Below.alloc (Below.refl _ w) (Nat.le_refl _) _) hm.lt
  obtain ⟨p, hp⟩ : ∃ p, p = (M yes).isSome := ⟨_, rfl⟩
  obtain ⟨q, hq⟩ : ∃ q, q = (M no).isSome := ⟨_, rfl⟩
  have l1 := m1.lookOk hy
  have l2 := m1.lookOk hn
  rw [← hp] at l1
  rw [← hq] at l2
  generalize ((M yes).getD 0 : Nat) = c1 at l1
  generalize ((M no).getD 0 : Nat) = c2 at l2
  rw [hW] at l1 l2
  have HZ : Hid (z = true ↔ (askB o = true ∧ p = true ∧ q = true) ∨ (askB o = false ∧ o = 7 ∧ p = true ∧ no.toList = []) ∨ (askB o = false ∧ o ≠ 7 ∧ yes.toList = [] ∧ no.toList = [])) := by
    show _ ↔ _
    rw [hz, askB_true, askB_false, none_iff, none_iff, hp, hq]
    rfl
  clear hz hp hq m1 hm hW
  have HD : Hid (∀ {w2 : World}, Ext (w.alloc (.cells #[.string lab, .int .i64 o, .int .i64 k, .int .i64 y, .int .i64 n, .string yes, .string no] 37)) w2 → Hept w2 w.heap.size 0 ⟨lab, (o, k, y, n), yes, no⟩) := fun e => (hept_box w ⟨lab, (o, k, y, n), yes, no⟩ 37).ext e
  obtain ⟨a, ha⟩ : ∃ a, a = askB o := ⟨_, rfl⟩
  have HQ : Hid (∀ w, Calls Try.prog 72 #[.agg #[.string lab, .int .i64 o, .int .i64 k, .int .i64 y, .int .i64 n, .string yes, .string no]] w fun e w' => e = .returned (.bool a) ∧ Ext w w') := fun w => by rw [ha]; exact iAsk_any ⟨lab, (o, k, y, n), yes, no⟩ w
  rw [← ha] at HZ
  clear ha
  go_enter Try.func48, Try.ntmps48
  go_wp2_with fail
  refine (HQ.out _).mono ?_
  rintro e w2 ⟨rfl, e2⟩
  obtain ⟨d0, d1, d2, d3, d4, d5, d6⟩ := HD.out e2
  simp only [Nat.zero_add] at d0 d1 d2 d3 d4 d5 d6
  have E2 : Hid (Ext w w2) := (Ext.one _ _).trans e2
  clear e2 l1 l2 HQ HD
  cases a with
  | true =>
    have HZ' : Hid (z = (p && q)) := by
      show _ = _
      cases z <;> cases p <;> cases q <;> simp_all [Hid]
    clear HZ
    cases p
    · go_wp2
      go_ret
      exact ⟨by rw [HZ'.out]; rfl, E2.out⟩
    · go_wp2
      go_ret
      exact ⟨by rw [HZ'.out]; rfl, E2.out⟩
  | false =>
    by_cases h7 : o = 7
    · subst h7
      cases p with
      | false =>
        obtain rfl : z = false := bool_not HZ.out fun h => by rcases h with ⟨h, _⟩ | ⟨_, _, h, _⟩ | ⟨_, h, _⟩ <;> simp at h
        go_wp2
        go_ret
        exact ⟨rfl, E2.out⟩
      | true =>
        by_cases hno : no.toList = []
        · obtain rfl : z = true := HZ.out.2 (.inr (.inl ⟨rfl, rfl, rfl, hno⟩))
          go_wp2
          go_ret
          exact ⟨rfl, E2.out⟩
        · obtain rfl : z = false := bool_not HZ.out fun h => by rcases h with ⟨h, _⟩ | ⟨_, _, _, h⟩ | ⟨_, h, _⟩ <;> simp_all
          go_wp2
          go_ret
          exact ⟨by simp [hno], E2.out⟩
    · have q7 : (o == 7) = false := by simpa using h7
      by_cases hyes : yes.toList = []
      · by_cases hno : no.toList = []
        · obtain rfl : z = true := HZ.out.2 (.inr (.inr ⟨rfl, h7, hyes, hno⟩))
          clear h7
          go_wp2
          go_ret
          exact ⟨rfl, E2.out⟩
        · obtain rfl : z = false := bool_not HZ.out fun h => by rcases h with ⟨h, _⟩ | ⟨_, h, _⟩ | ⟨_, _, _, h⟩ <;> simp_all
          clear h7
          go_wp2
          go_ret
          exact ⟨by simp [hno], E2.out⟩
      · obtain rfl : z = false := bool_not HZ.out fun h => by rcases h with ⟨h, _⟩ | ⟨_, h, _⟩ | ⟨_, _, h, _⟩ <;> simp_all
        clear h7
        go_wp2
        go_ret
        exact ⟨rfl, E2.out⟩

theorem lead_line (l : Ln) (B m : Nat) (M : ByteArray → Option Nat) (z : Bool) (w : World) (hm : MapOf w B m M) (hy : l.yes.size ≤ 1048576) (hn : l.no.size ≤ 1048576) (hz : z = true ↔ leadM M l) :
    Calls Try.prog 48 #[l.val, .map (some B)] w fun e w' => e = .returned (.bool z) ∧ Ext w w' := by
  obtain ⟨lab, ⟨o, k, y, n⟩, yes, no⟩ := l
  simp only at hy hn
  exact leads_any lab yes no o k y n B m M z w hm (by unfold maxLen; omega) (by unfold maxLen; omega) hz

end Go.Proofs.Ytakcmiijnckaaaa
