/- What is shown of a right policy is read again; what is read is right. -/
import Derived.Test.YtojaohdmfahpmaaGreatDoorShowMath
import Derived.Test.YtojaohdmfahpmaaGreatDoorSignsI
namespace Go.Proofs.YtojaohdmfahpmaaGreatDoor
open Go.RowKit
set_option linter.unusedVariables false

/-- What is read of a text: a right policy, or nothing. -/
def readL (l : List UInt8) : Option PN := match signsR l with
  | none => none
  | some G => readG G

/-- What is shown is read. -/
theorem show_read {p : PN} (h : policyB p = true) (hl : (showL p).length ≤ 1200) : readL (showL p) = some p := by
  have := SG_back (polG p) (pol_ok h) [] [] (by simp) (by simp)
  rw [text_pol, List.nil_append, List.append_nil] at this
  unfold readL signsR
  rw [if_neg (by omega), this]
  exact pol_read h

theorem readL_right {l : List UInt8} {p : PN} (h : readL l = some p) : policyB p = true := by
  unfold readL at h
  cases e : signsR l with
  | none => rw [e] at h; simp at h
  | some G =>
    rw [e] at h
    simp only [readG] at h
    cases e2 : rPolicy G with
    | none => rw [e2] at h; simp at h
    | some q =>
      rw [e2] at h
      simp only at h
      cases e3 : policyB q
      · rw [e3] at h; simp at h
      · rw [e3] at h
        simp at h
        subst h
        exact e3

end Go.Proofs.YtojaohdmfahpmaaGreatDoor
