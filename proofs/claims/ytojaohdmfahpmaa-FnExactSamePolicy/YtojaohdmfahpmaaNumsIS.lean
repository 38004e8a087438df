/- What impl's and spec's small functions over a rule's numbers and conditions answer. -/
import Derived.Test.YtojaohdmfahpmaaRowz
namespace Go.Proofs.Ytojaohdmfahpmaa
open Go.RowKit
set_option linter.unusedVariables false

def okAt (zs : List Int) (i : Nat) : Bool := halfB (zs.getD i 0) && (decide (i = 0) || decide (zs.getD (i - 1) 0 < zs.getD i 0))

theorem numsB_okAt (zs : List Int) : numsB zs = (decide (zs.length ≤ 4) && (List.range zs.length).all (okAt zs)) := rfl

theorem okAll_more {zs : List Int} {k : Nat} (h : (List.range k).all (okAt zs) = true) (hk : okAt zs k = true) : (List.range (k + 1)).all (okAt zs) = true := by
  rw [List.range_succ, List.all_append, h]
  simp [hk]

theorem okAll_bad {zs : List Int} {k : Nat} (hk : k < zs.length) (h : okAt zs k = false) : (List.range zs.length).all (okAt zs) = false := by
  rw [Bool.eq_false_iff]
  intro ha
  have := List.all_eq_true.1 ha k (List.mem_range.2 hk)
  rw [h] at this
  exact Bool.noConfusion this

/-- The place of the first v, or -1. -/
def idxV : List Int → Int → Int → Int
  | [], _, _ => -1
  | z :: zs, v, k => if v = z then k else idxV zs v (k + 1)

theorem idxV_has : ∀ (zs : List Int) (v k : Int), 0 ≤ k → decide (0 ≤ idxV zs v k) = zs.contains v
  | [], v, k, h => by simp [idxV]
  | z :: zs, v, k, h => by
    unfold idxV
    by_cases hz : v = z
    · subst hz; simp [h]
    · rw [if_neg hz, idxV_has zs v (k + 1) (by omega)]
      simp [hz]

theorem drop_cons {zs : List Int} {k : Nat} (h : k < zs.length) : zs.drop k = zs.getD k 0 :: zs.drop (k + 1) := by
  rw [List.drop_eq_getElem_cons h]
  simp [List.getD_eq_getElem?_getD, h]

end Go.Proofs.Ytojaohdmfahpmaa
