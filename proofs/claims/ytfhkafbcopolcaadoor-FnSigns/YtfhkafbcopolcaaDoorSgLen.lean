/- How many signs a text has: no more than it has bytes. -/
import Derived.Test.YtfhkafbcopolcaaDoorSignsI
namespace Go.Proofs.YtfhkafbcopolcaaDoor
open Go.RowKit
set_option linter.unusedVariables false

theorem SGf_length : ∀ f l o, SGf f l = some o → o.length ≤ f
  | 0, _, o, h => by simp only [SGf, Option.some.injEq] at h; subst h; simp
  | f + 1, [], o, h => by simp only [SGf, Option.some.injEq] at h; subst h; simp
  | f + 1, b :: r, o, h => by
    simp only [SGf] at h
    split at h
    · have := SGf_length f _ o h; omega
    · split at h
      · cases h
      · cases hx : SGf f ((b :: r).drop (wideL b r)) with
        | none => rw [hx] at h; cases h
        | some x =>
          rw [hx] at h
          simp only [Option.map_some, Option.some.injEq] at h
          subst h
          have := SGf_length f _ x hx
          simp
          omega

theorem signsR_length (l : List UInt8) : ((signsR l).getD []).length ≤ 1200 := by
  unfold signsR
  split
  · simp
  · rename_i hl
    cases h : SG l with
    | none => simp
    | some o =>
      have := SGf_length _ _ o h
      simp only [Option.getD_some]
      omega

end Go.Proofs.YtfhkafbcopolcaaDoor
