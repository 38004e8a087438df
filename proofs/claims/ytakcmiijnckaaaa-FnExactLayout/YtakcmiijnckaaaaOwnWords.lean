/- Rows of words that a call made itself: their cells, what may be written. -/
import Derived.Test.YtakcmiijnckaaaaInsSl
namespace Go.Proofs.Ytakcmiijnckaaaa
open Go.RowKit
set_option linter.unusedVariables false

/-- The cells of words in a row. -/
def flatI (ws : List Wd) : List Value := ws.flatMap fun p => ints4 p.1 p.2.1 p.2.2.1 p.2.2.2

theorem flatI_push (ws : List Wd) (p : Wd) : flatI ws ++ ints4 p.1 p.2.1 p.2.2.1 p.2.2.2 = flatI (ws ++ [p]) := by simp [flatI]

theorem flatI_length : ∀ ws : List Wd, (flatI ws).length = ws.length * 4
  | [] => rfl
  | p :: ws => by
    have := flatI_length ws
    simp only [flatI, List.flatMap_cons, List.length_append, List.length_cons] at *
    rw [this]
    simp [ints4]
    omega

theorem flatI_at : ∀ (ws : List Wd) (j : Nat), j < ws.length → (flatI ws)[j * 4]? = some (.int .i64 (ws.getD j zeroW).1) ∧ (flatI ws)[j * 4 + 1]? = some (.int .i64 (ws.getD j zeroW).2.1) ∧ (flatI ws)[j * 4 + 2]? = some (.int .i64 (ws.getD j zeroW).2.2.1) ∧ (flatI ws)[j * 4 + 3]? = some (.int .i64 (ws.getD j zeroW).2.2.2)
  | p :: ws, 0, _ => by simp [flatI, ints4]
  | p :: ws, j + 1, h => by
    have ih := flatI_at ws j (by simpa using h)
    have e : ∀ i, (flatI (p :: ws))[(j + 1) * 4 + i]? = (flatI ws)[j * 4 + i]? := fun i => by
      have hf : flatI (p :: ws) = ints4 p.1 p.2.1 p.2.2.1 p.2.2.2 ++ flatI ws := by simp [flatI]
      rw [hf, List.getElem?_append_right (by simp [ints4]; omega)]
      congr 1
      simp [ints4]
      omega
    rw [e 1, e 2, e 3, ← Nat.add_zero ((j + 1) * 4), e 0]
    exact ih

/-- These words lie in a row of their own, not below B, which may be written. -/
def Own4 (w : World) (B : Nat) (v : Value) (ws : List Wd) : Prop := w.ownsRow B 35 4 v ws.length (flatI ws)

theorem Own4.words {w : World} {B : Nat} {v : Value} {ws : List Wd} (h : Own4 w B v ws) : ∃ a cap, v = .slice a ws.length cap ∧ ws.length ≤ cap ∧ Words w a ws ∧ (0 < ws.length → ∃ g, a = some ⟨g, 0, none⟩ ∧ B ≤ g ∧ ∀ j, w.frozen? ⟨g, j, none⟩ = false) := by
  have hown : w.ownsRow B 35 4 v ws.length (flatI ws) := h
  rcases h.2 with ⟨rfl, h0⟩ | ⟨g, cap, cur, rfl, hg, hh, hnc, hcp, hcs, htake⟩
  · exact ⟨none, 0, by rw [h0], by omega, fun hp => by omega, fun hp => by omega⟩
  · refine ⟨_, cap, rfl, hnc, fun hp => ⟨g, 0, rfl, fun j hj => ?_⟩, fun hp => ⟨g, rfl, hg, fun j => frozen_of_row w g j cur 35 hh⟩⟩
    obtain ⟨e0, e1, e2, e3⟩ := flatI_at ws j hj
    have cell : ∀ i v, (flatI ws)[i]? = some v → w.cell? ⟨g, i, none⟩ = some v := fun i v hv => by
      have hc := hown.cells (g := g) rfl i v hv
      rwa [Addr.add_lit, Nat.zero_add] at hc
    rw [Nat.zero_add]
    exact ⟨cell _ _ e0, cell _ _ e1, cell _ _ e2, cell _ _ e3⟩

theorem Own4.nil (w : World) (B : Nat) : Own4 w B (.slice none 0 0) [] := World.ownsRow_nil _ _ _ _

theorem Own4.lit (w : World) (B : Nat) (hB : B ≤ w.heap.size) : Own4 (w.alloc (.cells #[] 35)) B (.slice (some ⟨w.heap.size, 0, none⟩) 0 0) [] := World.ownsRow_lit (e := 35) (size := 4) w #[] 0 hB (by decide) rfl

theorem Own4.ext {w w' : World} {B : Nat} {v : Value} {ws : List Wd} (h : Own4 w B v ws) (hE : Ext w w') : Own4 w' B v ws := own_below h hE

theorem Own4.alloc {w : World} {B : Nat} {v : Value} {ws : List Wd} (h : Own4 w B v ws) (o : Obj) : Own4 (w.alloc o) B v ws := World.ownsRow.alloc h o

/-- The bytes cut out of a text. -/
theorem cut_list (s : ByteArray) (a b : Nat) : (s.extract a b).data.toList = (s.data.toList.drop a).take (b - a) := by
  simp [ByteArray.data_extract]

end Go.Proofs.Ytakcmiijnckaaaa
