/- What impl's and spec's CallOk answer, of any call. -/
import Derived.Test.YthflflhcbnianaaAndIS
namespace Go.Proofs.Ythflflhcbnianaa
open Go.RowKit
set_option linter.unusedVariables false

/-- The wide numbers ws lie in memory behind the address a, two cells each. -/
def Wides (w : World) (a : Option Addr) (ws : List (Int × Int)) : Prop :=
  0 < ws.length → ∃ b off, a = some ⟨b, off, none⟩ ∧ b < w.heap.size ∧ ∀ j, j < ws.length →
    w.cell? ⟨b, off + j * 2, none⟩ = some (.int .i64 (ws.getD j (0, 0)).1) ∧ w.cell? ⟨b, off + j * 2 + 1, none⟩ = some (.int .i64 (ws.getD j (0, 0)).2)

theorem Wides.below {w w' : World} {a : Option Addr} {ws : List (Int × Int)} {B : Nat} (h : Wides w a ws) (hb : Below B w w') (hB : w.heap.size ≤ B) : Wides w' a ws := by
  intro hp
  obtain ⟨b, off, rfl, hlt, hc⟩ := h hp
  refine ⟨b, off, rfl, by have := hb.size; omega, fun j hj => ?_⟩
  obtain ⟨c0, c1⟩ := hc j hj
  exact ⟨(hb.cell (p := ⟨b, off + j * 2, none⟩) (show b < B by omega)).trans c0, (hb.cell (p := ⟨b, off + j * 2 + 1, none⟩) (show b < B by omega)).trans c1⟩

theorem callB_arch {arch num : Int} {ws : List (Int × Int)} (h : halfB arch = false) : callB arch num ws = false := by simp [callB, h]

theorem callB_num {arch num : Int} {ws : List (Int × Int)} (h : halfB num = false) : callB arch num ws = false := by simp [callB, h]

theorem callB_len {arch num : Int} {ws : List (Int × Int)} (h : ws.length ≠ 3) : callB arch num ws = false := by simp [callB, h]

theorem callB_all {arch num : Int} {ws : List (Int × Int)} (h0 : halfB arch = true) (h1 : halfB num = true) (h : ws.length = 3) : callB arch num ws = ws.all wideB := by simp [callB, h0, h1, h]

theorem all_no {ws : List (Int × Int)} {k : Nat} (hk : k < ws.length) (h : wideB (ws.getD k (0, 0)) = false) : ws.all wideB = false := by
  rw [Bool.eq_false_iff]
  intro ha
  have := List.all_eq_true.1 ha (ws.getD k (0, 0)) (by rw [List.getD_eq_getElem?_getD, List.getElem?_eq_getElem hk]; exact List.getElem_mem hk)
  rw [h] at this
  exact Bool.noConfusion this

end Go.Proofs.Ythflflhcbnianaa
