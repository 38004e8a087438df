/- The laws' argument opened: a call, its wide numbers in memory. -/
import Derived.Test.YtoknlaaghjlnaabOpenWide
namespace Go.Proofs.Ytoknlaaghjlnaab
open Go.ChangeShapes Go.WideShapes Go.ChangeAt Go.RowKit Go.Joins Go.Deep
set_option linter.unusedVariables false

theorem cellsLC : Try.prog.cellsOf 27 = 3 := by kernel_rfl

set_option maxRecDepth 100000 in
theorem open_wides {H : Type} {enc : TypeId × Value → H} {W : World} {base n : Nat} {sp : Nat → Bool} {held : Bool} {v : Value} {y : DataW H × List MemPlace}
    (h : DataW.trod enc Try.prog W base sp held n 25 [v] = some y) : ∃ (a : Option Addr) (cap : Nat) (ws : List (Int × Int)), v = .slice a ws.length cap ∧ Wides W a ws ∧ ws.length ≤ 9223372036854775807 := by
  rcases open_slice_pairs Try.underlying25 Try.underlying73 cellsLW rfl rfl cells3 cells3 h with ⟨hcs, _⟩ | ⟨a, len, cap, m, n', V0, V1, D0, D1, P0, P1, hcs, _, hl, hm, hmm, _, hx⟩
  · simp at hcs
    exact ⟨none, 0, [], hcs, fun hp => by simp at hp, by simp⟩
  · simp at hcs
    have hlm : len ≤ m := by rw [hmm]; split <;> omega
    refine ⟨some a, cap, (List.range len).map fun i => (intOf (V0 i), intOf (V1 i)), by simpa using hcs, fun hp => ?_, by unfold maxLen at hm; simp; omega⟩
    simp only [List.length_map, List.length_range] at hp
    obtain ⟨b, off, spot⟩ := a
    have hspot : spot = none := by simpa [Addr.add] using World.cell?_spot (hx 0 (by omega)).1
    subst hspot
    have hc0 := (hx 0 (by omega)).1
    rw [Addr.add_lit] at hc0
    refine ⟨b, off, rfl, World.block_lt_of_cell? W _ hc0, fun j hj => ?_⟩
    simp only [List.length_map, List.length_range] at hj
    obtain ⟨g0, g1, r0, r1⟩ := hx j (by omega)
    obtain ⟨x, e0, _, _⟩ := DataW.trod_int Try.underlying3 r0
    obtain ⟨z, e1, _, _⟩ := DataW.trod_int Try.underlying3 r1
    simp at e0 e1
    rw [Addr.add_lit] at g0 g1
    rw [Nat.add_assoc, g0, g1]
    simp [List.getD_eq_getElem?_getD, hj, e0, e1, intOf]

set_option maxRecDepth 100000 in
theorem open_call {H : Type} {enc : TypeId × Value → H} {W : World} {base b0 : Nat} {sp : Nat → Bool} {held : Bool} {r : Reach} {v : Value} {d : DataW H} {p : List MemPlace}
    (hv : Value.okWide Try.prog W r b0 27 v) (h : DataW.Trod enc Try.prog W base sp held 27 v d p) :
    ∃ (arch num : Int) (a : Option Addr) (cap : Nat) (ws : List (Int × Int)), v = .agg #[.int .i64 arch, .int .i64 num, .slice a ws.length cap] ∧ Wides W a ws ∧ ws.length ≤ 9223372036854775807 := by
  obtain ⟨c0, c1, c2, y0, y1, y2, m, rfl, rfl, rfl, hy0, hy1, hy2⟩ := open_agg3 Try.underlying27 (by kernel_rfl) cellsLC hv h
  obtain ⟨x, e0, _, _⟩ := DataW.trod_int Try.underlying3 hy0
  obtain ⟨y, e1, _, _⟩ := DataW.trod_int Try.underlying3 hy1
  obtain ⟨a, cap, ws, e2, hw⟩ := open_wides hy2
  simp at e0 e1
  exact ⟨x, y, a, cap, ws, by rw [e0, e1, e2], hw⟩

end Go.Proofs.Ytoknlaaghjlnaab
