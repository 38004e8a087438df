/- Programs in memory: rows of words; a law's program opened. -/
import Derived.Test.YtakcmiijnckaaaaWdBase
import Derived.Deep.SlicePairs
namespace Go.Proofs.Ytakcmiijnckaaaa
open Go.ChangeShapes Go.WideShapes Go.ChangeAt Go.RowKit Go.Joins Go.Deep
set_option linter.unusedVariables false

/-- A word's four cells. -/
def Quad (w : World) (b o : Nat) (p : Wd) : Prop := w.cell? ⟨b, o, none⟩ = some (.int .i64 p.1) ∧ w.cell? ⟨b, o + 1, none⟩ = some (.int .i64 p.2.1) ∧ w.cell? ⟨b, o + 2, none⟩ = some (.int .i64 p.2.2.1) ∧ w.cell? ⟨b, o + 3, none⟩ = some (.int .i64 p.2.2.2)

theorem Quad.below {w w' : World} {b o B : Nat} {p : Wd} (h : Quad w b o p) (hb : Below B w w') (hB : b < B) : Quad w' b o p :=
  ⟨(hb.cell (p := ⟨b, o, none⟩) hB).trans h.1, (hb.cell (p := ⟨b, o + 1, none⟩) hB).trans h.2.1, (hb.cell (p := ⟨b, o + 2, none⟩) hB).trans h.2.2.1, (hb.cell (p := ⟨b, o + 3, none⟩) hB).trans h.2.2.2⟩

theorem Quad.lt {w : World} {b o : Nat} {p : Wd} (h : Quad w b o p) : b < w.heap.size := World.block_lt_of_cell? w _ h.1

/-- These words lie in a row from there on. -/
def Words (w : World) (a : Option Addr) (ws : List Wd) : Prop := 0 < ws.length → ∃ b off, a = some ⟨b, off, none⟩ ∧ ∀ j, j < ws.length → Quad w b (off + j * 4) (ws.getD j zeroW)

theorem Words.below {w w' : World} {a : Option Addr} {ws : List Wd} {B : Nat} (h : Words w a ws) (hb : Below B w w') (hB : w.heap.size ≤ B) : Words w' a ws := fun hp => by
  obtain ⟨b, off, ha, hc⟩ := h hp
  exact ⟨b, off, ha, fun j hj => (hc j hj).below hb (Nat.lt_of_lt_of_le (hc j hj).lt hB)⟩

theorem Words.ext {w w' : World} {a : Option Addr} {ws : List Wd} (h : Words w a ws) (hE : Ext w w') : Words w' a ws := h.below hE (Nat.le_refl _)

theorem Words.quad {w : World} {a : Option Addr} {ws : List Wd} (h : Words w a ws) {k : Nat} (hk : k < ws.length) {p : Wd} (hp : p = ws.getD k zeroW) : ∃ b off, a = some ⟨b, off, none⟩ ∧ Quad w b (off + k * 4) p := by
  obtain ⟨b, off, ha, hc⟩ := h (by omega)
  exact ⟨b, off, ha, by rw [hp]; exact hc k hk⟩

end Go.Proofs.Ytakcmiijnckaaaa
