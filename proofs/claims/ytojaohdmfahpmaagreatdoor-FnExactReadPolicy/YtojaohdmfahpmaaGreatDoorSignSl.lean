/- What the laws' eqSign, eqSignS, markSignS and heldSignS do to a row of signs. -/
import Derived.Test.YtojaohdmfahpmaaGreatDoorSignsI
import Derived.Deep.RegionHeld3
namespace Go.Proofs.YtojaohdmfahpmaaGreatDoor
open Go.RowKit
set_option linter.unusedVariables false

/-- A sign lies at o of block g. -/
def Tri (W : World) (g o : Nat) (k : Int) (t : ByteArray) (n : Int) : Prop := W.cell? ⟨g, o, none⟩ = some (.int .i64 k) ∧ W.cell? ⟨g, o + 1, none⟩ = some (.string t) ∧ W.cell? ⟨g, o + 2, none⟩ = some (.int .i64 n)

theorem Tri.lt {W : World} {g o : Nat} {k : Int} {t : ByteArray} {n : Int} (h : Tri W g o k t n) : g < W.heap.size := World.block_lt_of_cell? W _ h.1

theorem Tri.below {W W' : World} {B g o : Nat} {k : Int} {t : ByteArray} {n : Int} (h : Tri W g o k t n) (hb : Below B W W') (hg : g < B) : Tri W' g o k t n :=
  ⟨(hb.cell (p := ⟨g, o, none⟩) hg).trans h.1, (hb.cell (p := ⟨g, o + 1, none⟩) hg).trans h.2.1, (hb.cell (p := ⟨g, o + 2, none⟩) hg).trans h.2.2⟩

theorem Tri.ext {W W' : World} {g o : Nat} {k : Int} {t : ByteArray} {n : Int} (h : Tri W g o k t n) (hE : Ext W W') : Tri W' g o k t n := h.below hE h.lt

/-- These signs lie in a row. -/
def Signs (W : World) (a : Option Addr) (ps : List Sg) : Prop := 0 < ps.length → ∃ b off, a = some ⟨b, off, none⟩ ∧ ∀ j, j < ps.length → Tri W b (off + j * 3) (ps.getD j zeroG).1 (txt (ps.getD j zeroG).2.1) (ps.getD j zeroG).2.2

theorem Signs.ext {W W' : World} {a : Option Addr} {ps : List Sg} (h : Signs W a ps) (hE : Ext W W') : Signs W' a ps := fun hp => by
  obtain ⟨b, off, hb, hq⟩ := h hp
  exact ⟨b, off, hb, fun j hj => (hq j hj).ext hE⟩

theorem Signs.tri {W : World} {a : Option Addr} {ps : List Sg} (h : Signs W a ps) {k : Nat} (hk : k < ps.length) : ∃ b off, a = some ⟨b, off, none⟩ ∧ Tri W b (off + k * 3) (ps.getD k zeroG).1 (txt (ps.getD k zeroG).2.1) (ps.getD k zeroG).2.2 := by
  obtain ⟨b, off, hb, hq⟩ := h (by omega)
  exact ⟨b, off, hb, hq k hk⟩

theorem Own3.signs {w : World} {B : Nat} {v : Value} {ps : List Sg} (h : Own3 w B v ps) : ∃ a cap, v = .slice a ps.length cap ∧ Signs w a ps ∧ (0 < ps.length → ∃ g, a = some ⟨g, 0, none⟩ ∧ B ≤ g ∧ ∀ j, w.frozen? ⟨g, j, none⟩ = false) := by
  have hown : w.ownsRow B 98 3 v ps.length (flatG ps) := h
  rcases h.2 with ⟨rfl, h0⟩ | ⟨g, cap, cur, rfl, hg, hh, hnc, hcp, hcs, htake⟩
  · exact ⟨none, 0, by rw [h0], fun hp => by omega, fun hp => by omega⟩
  · refine ⟨_, cap, rfl, fun hp => ⟨g, 0, rfl, fun j hj => ?_⟩, fun hp => ⟨g, rfl, hg, fun j => frozen_of_row w g j cur 98 hh⟩⟩
    obtain ⟨e0, e1, e2⟩ := flatG_at ps j hj
    have cell : ∀ i v, (flatG ps)[i]? = some v → w.cell? ⟨g, i, none⟩ = some v := fun i v hv => by
      have hc := hown.cells (g := g) rfl i v hv
      rwa [Addr.add_lit, Nat.zero_add] at hc
    rw [Nat.zero_add]
    exact ⟨cell _ _ e0, cell _ _ e1, cell _ _ e2⟩

end Go.Proofs.YtojaohdmfahpmaaGreatDoor
