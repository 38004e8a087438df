/- Programs in memory: rows of words; a law's program opened. -/
import Derived.Test.YtaigoggoibdgbaaWdBase
import Derived.Deep.SlicePairs
namespace Go.Proofs.Ytaigoggoibdgbaa
open Go.ChangeShapes Go.WideShapes Go.ChangeAt Go.RowKit Go.Joins Go.Deep
set_option linter.unusedVariables false

/-- A word's four cells. -/
def Quad (w : World) (b o : Nat) (p : Wd) : Prop := w.cell? ⟨b, o, none⟩ = some (.int .i64 p.1) ∧ w.cell? ⟨b, o + 1, none⟩ = some (.int .i64 p.2.1) ∧ w.cell? ⟨b, o + 2, none⟩ = some (.int .i64 p.2.2.1) ∧ w.cell? ⟨b, o + 3, none⟩ = some (.int .i64 p.2.2.2)

theorem Quad.below {w w' : World} {b o B : Nat} {p : Wd} (h : Quad w b o p) (hb : Below B w w') (hB : b < B) : Quad w' b o p :=
  ⟨(hb.cell (p := ⟨b, o, none⟩) hB).trans h.1, (hb.cell (p := ⟨b, o + 1, none⟩) hB).trans h.2.1, (hb.cell (p := ⟨b, o + 2, none⟩) hB).trans h.2.2.1, (hb.cell (p := ⟨b, o + 3, none⟩) hB).trans h.2.2.2⟩

theorem Quad.lt {w : World} {b o : Nat} {p : Wd} (h : Quad w b o p) : b < w.heap.size := World.block_lt_of_cell? w _ h.1

/-- These words lie in a row from there on. -/
def Words (w : World) (a : Option Addr) (ws : List Wd) : Prop := 0 < ws.length → ∃ b off, a = some ⟨b, off, none⟩ ∧ ∀ j, j < ws.length → Quad w b (off + j * 4) (ws.getD j zeroW)

theorem Words.below {w w' : World} {a : Option Addr} {ws : List Wd} {B : Nat} (h : Words w a ws) (hb : Below B w w') (hB : w.heap.size ≤ B) : Words w' a ws := fun hp => by
  obtain ⟨b, off, ha, hc⟩ := h hp
  exact ⟨b, off, ha, fun j hj => (hc j hj).below hb (Nat.lt_of_lt_of_le (hc j hj).lt hB)⟩

theorem Words.ext {w w' : World} {a : Option Addr} {ws : List Wd} (h : Words w a ws) (hE : Ext w w') : Words w' a ws := h.below hE (Nat.le_refl _)

theorem Words.quad {w : World} {a : Option Addr} {ws : List Wd} (h : Words w a ws) {k : Nat} (hk : k < ws.length) {p : Wd} (hp : p = ws.getD k zeroW) : ∃ b off, a = some ⟨b, off, none⟩ ∧ Quad w b (off + k * 4) p := by
  obtain ⟨b, off, ha, hc⟩ := h (by omega)
  exact ⟨b, off, ha, by rw [hp]; exact hc k hk⟩

set_option maxRecDepth 100000 in
theorem open_words {H : Type} {enc : TypeId × Value → H} {W : World} {base b0 : Nat} {sp : Nat → Bool} {held : Bool} {r : Reach} {v : Value} {d : DataW H} {p : List MemPlace}
    (hv : Value.okWide Try.prog W r b0 40 v) (h : DataW.Trod enc Try.prog W base sp held 40 v d p) : ∃ (a : Option Addr) (cap : Nat) (ws : List Wd), v = .slice a ws.length cap ∧ Words W a ws ∧ ws.length ≤ 9223372036854775807 := by
  obtain ⟨a, len, cap, rfl⟩ := okWide_slice Try.underlying40 hv
  obtain ⟨fuel, hf⟩ := h
  rcases open_slice Try.underlying40 hf with ⟨hcs, _⟩ | ⟨a', len', cap', m, n, D, Pl, hcs, _, hl, hm, hmm, _, hx⟩
  · simp [Value.cells] at hcs
    obtain ⟨rfl, rfl, rfl⟩ := hcs
    exact ⟨none, 0, [], rfl, fun hp => by simp at hp, by simp⟩
  · simp [Value.cells] at hcs
    obtain ⟨rfl, rfl, rfl⟩ := hcs
    have hlm : len ≤ m := by rw [hmm]; split <;> omega
    obtain ⟨b, off, spot⟩ := a'
    by_cases hm0 : m = 0
    · have h0 : len = 0 := by omega
      rw [h0]
      exact ⟨some ⟨b, off, spot⟩, cap, [], rfl, fun hp => by simp at hp, by simp⟩
    have hspot : spot = none := by
      obtain ⟨cs', h1, _⟩ := hx 0 (by omega)
      rw [cellsLI] at h1
      obtain ⟨_, hlen, hcell⟩ := World.cells?_some h1
      match cs', hlen with
      | [v0, v1, v2, v3], _ =>
        have c0 := hcell 0 (by omega)
        simp at c0
        simpa [Addr.add] using World.cell?_spot c0
    subst hspot
    have each : ∀ i, i < m → ∃ q : Wd, Quad W b (off + i * 4) q := by
      intro i hi
      obtain ⟨cs', h1, h2⟩ := hx i hi
      rw [cellsLI] at h1
      obtain ⟨_, hlen, hcell⟩ := World.cells?_some h1
      obtain ⟨y0, y1, y2, y3, k, _, _, g0, g1, g2, g3⟩ := trod_struct4 Try.underlying72 h2
      match cs', hlen with
      | [v0, v1, v2, v3], _ =>
        simp [cells3] at g0 g1 g2 g3
        obtain ⟨x0, e0, _, _⟩ := DataW.trod_int Try.underlying3 g0
        obtain ⟨x1, e1, _, _⟩ := DataW.trod_int Try.underlying3 g1
        obtain ⟨x2, e2, _, _⟩ := DataW.trod_int Try.underlying3 g2
        obtain ⟨x3, e3, _, _⟩ := DataW.trod_int Try.underlying3 g3
        simp at e0 e1 e2 e3
        have c0 := hcell 0 (by omega)
        have c1 := hcell 1 (by omega)
        have c2 := hcell 2 (by omega)
        have c3 := hcell 3 (by omega)
        simp [e0, e1, e2, e3] at c0 c1 c2 c3
        rw [Addr.add_lit, Addr.add_lit] at c0 c1 c2 c3
        exact ⟨(x0, x1, x2, x3), c0, c1, c2, c3⟩
    obtain ⟨q, hq⟩ := Go.Deep.choose_lt each
    refine ⟨some ⟨b, off, none⟩, cap, (List.range len).map q, by simp, fun hp => ?_, by unfold maxLen at hm; simp; omega⟩
    simp only [List.length_map, List.length_range] at hp
    refine ⟨b, off, rfl, fun j hj => ?_⟩
    simp only [List.length_map, List.length_range] at hj
    have := hq j (by omega)
    simpa [List.getD_eq_getElem?_getD, hj] using this

end Go.Proofs.Ytaigoggoibdgbaa
