/- What a right call has at its places. -/
import Derived.Test.YtkaepalnddebjaaCallRep
namespace Go.Proofs.Ytkaepalnddebjaa
open Go.RowKit
set_option linter.unusedVariables false

theorem fieldOk_in {arch num : Int} {ws : List (Int × Int)} (h : callB arch num ws = true) {t : Int} (h0 : 0 ≤ t) (h7 : t ≤ 7) : fieldOk arch num ws t = true := by
  unfold fieldOk; simp [h, h0, h7]

theorem fieldOk_out {arch num : Int} {ws : List (Int × Int)} : fieldOk arch num ws 8 = false := by
  unfold fieldOk; simp

theorem fieldR_num {arch num : Int} {ws : List (Int × Int)} (h : callB arch num ws = true) : fieldR arch num ws 0 = num := by
  unfold fieldR; rw [if_pos (fieldOk_in h (by omega) (by omega))]; rfl

theorem fieldR_arch {arch num : Int} {ws : List (Int × Int)} (h : callB arch num ws = true) : fieldR arch num ws 1 = arch := by
  unfold fieldR; rw [if_pos (fieldOk_in h (by omega) (by omega))]; rfl

theorem fieldR_lo {arch num : Int} {ws : List (Int × Int)} (h : callB arch num ws = true) (k : Nat) (hk : k < 3) : fieldR arch num ws (2 + 2 * (k : Int)) = (ws.getD k (0, 0)).2 := by
  unfold fieldR
  rw [if_pos (fieldOk_in h (by omega) (by omega))]
  unfold fieldV
  have e : ((2 + 2 * (k : Int)) / 2 - 1).toNat = k := by omega
  rw [if_neg (by omega), if_neg (by omega), if_pos (by omega), e]

theorem fieldR_hi {arch num : Int} {ws : List (Int × Int)} (h : callB arch num ws = true) (k : Nat) (hk : k < 3) : fieldR arch num ws (3 + 2 * (k : Int)) = (ws.getD k (0, 0)).1 := by
  unfold fieldR
  rw [if_pos (fieldOk_in h (by omega) (by omega))]
  unfold fieldV
  have e : ((3 + 2 * (k : Int)) / 2 - 1).toNat = k := by omega
  rw [if_neg (by omega), if_neg (by omega), if_neg (by omega), e]

theorem fieldR_none {arch num : Int} {ws : List (Int × Int)} : fieldR arch num ws 8 = 0 := by
  unfold fieldR; rw [fieldOk_out]; rfl

theorem callB_three {arch num : Int} {ws : List (Int × Int)} (h : callB arch num ws = true) : ws.length = 3 := by
  simp only [callB, Bool.and_eq_true, decide_eq_true_eq] at h
  exact h.1.2

end Go.Proofs.Ytkaepalnddebjaa
