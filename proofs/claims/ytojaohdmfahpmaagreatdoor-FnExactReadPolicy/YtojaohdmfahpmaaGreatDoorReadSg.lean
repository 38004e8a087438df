/- Signs that a text tells are right signs. -/
import Derived.Test.YtojaohdmfahpmaaGreatDoorReadMath
import Derived.Test.YtojaohdmfahpmaaGreatDoorSignsS2
namespace Go.Proofs.YtojaohdmfahpmaaGreatDoor
open Go.RowKit
set_option linter.unusedVariables false

theorem signOf_right {b : UInt8} {r : List UInt8} {s : Sg} (h0 : ¬ kindB b = 0) (h : signOf (kindB b) ((b :: r).take (wideL b r)) = some s) : SgR s := by
  unfold signOf at h
  by_cases h1 : kindB b = 1
  · have hw : wideL b r = runL 1 (b :: r) := by unfold wideL; rw [h1]; simp
    rw [if_pos h1, hw] at h
    by_cases hl : ((b :: r).take (runL 1 (b :: r))).length ≤ 12
    · rw [if_pos hl] at h
      simp only [Option.some.injEq] at h
      subst h
      refine .inl ⟨rfl, rfl, ?_, hl, fun x hx => runL_all hx⟩
      have := runL_pos (r := r) h1
      simp
      omega
    · rw [if_neg hl] at h; cases h
  · rw [if_neg h1] at h
    by_cases h2 : kindB b = 2
    · rw [if_pos h2] at h
      cases e : numF 10 ((b :: r).take (wideL b r)) 0 with
      | none => rw [e] at h; cases h
      | some n =>
        rw [e] at h
        simp only at h
        split at h
        · rename_i hn
          simp only [Option.some.injEq] at h
          subst h
          exact .inr (.inl ⟨rfl, rfl, by simp, by have := hn.2; simp; omega⟩)
        · cases h
    · rw [if_neg h2] at h
      split at h
      · rename_i hm
        simp only [Option.some.injEq] at h
        subst h
        exact .inr (.inr ⟨rfl, rfl, hm⟩)
      · cases h

theorem SGf_good : ∀ (f : Nat) (l : List UInt8) (G : List Sg), SGf f l = some G → Good G
  | 0, l, G, h => by
    simp only [SGf, Option.some.injEq] at h
    subst h
    intro p hp; cases hp
  | f + 1, [], G, h => by
    simp only [SGf, Option.some.injEq] at h
    subst h
    intro p hp; cases hp
  | f + 1, b :: r, G, h => by
    simp only [SGf] at h
    by_cases h0 : kindB b = 0
    · rw [if_pos h0] at h
      exact SGf_good f r G h
    · rw [if_neg h0] at h
      cases e : signOf (kindB b) ((b :: r).take (wideL b r)) with
      | none => rw [e] at h; cases h
      | some s =>
        rw [e] at h
        simp only at h
        cases e2 : SGf f ((b :: r).drop (wideL b r)) with
        | none => rw [e2] at h; cases h
        | some H =>
          rw [e2] at h
          simp only [Option.map_some, Option.some.injEq] at h
          subst h
          intro p hp
          rcases List.mem_cons.1 hp with rfl | hp
          · exact signOf_right h0 e
          · exact SGf_good f _ H e2 p hp

theorem signsR_good {l : List UInt8} {G : List Sg} (h : signsR l = some G) : Good G := by
  unfold signsR at h
  split at h
  · cases h
  · exact SGf_good _ _ _ h

end Go.Proofs.YtojaohdmfahpmaaGreatDoor
