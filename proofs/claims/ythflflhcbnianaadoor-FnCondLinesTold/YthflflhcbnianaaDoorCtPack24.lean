/- What spec's l06Ins draws: a word that is right. -/
import Derived.Test.YthflflhcbnianaaDoorCtPack22
import Derived.Deep.SlicePairs
import Derived.BigQuiet
import Derived.Deep.QuietTactic
import Derived.Deep.RegionHeld3
import Derived.Handy
/- Programs in memory: rows of words; a law's program opened. -/
namespace Go.Proofs.YthflflhcbnianaaDoor
open Go.ChangeShapes Go.WideShapes Go.ChangeAt Go.RowKit Go.Joins Go.Deep
set_option linter.unusedVariables false

/-- A word's four cells. -/
def Quad (w : World) (b o : Nat) (p : Wd) : Prop := w.cell? ⟨b, o, none⟩ = some (.int .i64 p.1) ∧ w.cell? ⟨b, o + 1, none⟩ = some (.int .i64 p.2.1) ∧ w.cell? ⟨b, o + 2, none⟩ = some (.int .i64 p.2.2.1) ∧ w.cell? ⟨b, o + 3, none⟩ = some (.int .i64 p.2.2.2)

theorem Quad.below {w w' : World} {b o B : Nat} {p : Wd} (h : Quad w b o p) (hb : Below B w w') (hB : b < B) : Quad w' b o p :=
  ⟨(hb.cell (p := ⟨b, o, none⟩) hB).trans h.1, (hb.cell (p := ⟨b, o + 1, none⟩) hB).trans h.2.1, (hb.cell (p := ⟨b, o + 2, none⟩) hB).trans h.2.2.1, (hb.cell (p := ⟨b, o + 3, none⟩) hB).trans h.2.2.2⟩

theorem Quad.lt {w : World} {b o : Nat} {p : Wd} (h : Quad w b o p) : b < w.heap.size := World.block_lt_of_cell? w _ h.1

/-- These words lie in a row from there on. -/
def Words (w : World) (a : Option Addr) (ws : List Wd) : Prop := 0 < ws.length → ∃ b off, a = some ⟨b, off, none⟩ ∧ ∀ j, j < ws.length → Quad w b (off + j * 4) (ws.getD j zeroW)

theorem Words.below {w w' : World} {a : Option Addr} {ws : List Wd} {B : Nat} (h : Words w a ws) (hb : Below B w w') (hB : w.heap.size ≤ B) : Words w' a ws := fun hp => by
  obtain ⟨b, off, ha, hc⟩ := h hp
  exact ⟨b, off, ha, fun j hj => (hc j hj).below hb (Nat.lt_of_lt_of_le (hc j hj).lt hB)⟩

theorem Words.ext {w w' : World} {a : Option Addr} {ws : List Wd} (h : Words w a ws) (hE : Ext w w') : Words w' a ws := h.below hE (Nat.le_refl _)

end Go.Proofs.YthflflhcbnianaaDoor

/- What impl's and spec's CheckProgram answer, of every program: the same plain test. -/
namespace Go.Proofs.YthflflhcbnianaaDoor
open Go.RowKit
set_option linter.unusedVariables false

theorem Ext.drewN {W W' : World} (h : Ext W W') (n : Nat) : Ext W (W'.drewN n) := Below.grown h (grown_drewN W' n none) h.size (fun k hk => by cases hk)

theorem set_same {W : World} {a : Addr} {u : Value} (v : Value) (h : W.cell? a = some u) : (W.setCell a v).cell? a = some v := World.cell?_setCell_same _ _ _ h

theorem set_far {W : World} {a q : Addr} {v : Value} (h : q ≠ a) : (W.setCell a v).cell? q = W.cell? q := World.cell?_setCell_other _ _ _ _ (Ne.symm h)

theorem off_ne {g i j : Nat} (h : i ≠ j) : (⟨g, i, none⟩ : Addr) ≠ ⟨g, j, none⟩ := fun e => h (by injection e)

/-- The cells of words in a row. -/
def flatI (ws : List Wd) : List Value := ws.flatMap fun p => ints4 p.1 p.2.1 p.2.2.1 p.2.2.2

/-- These words lie in a row of their own, not below B, which may be written. -/
def Own4 (w : World) (B : Nat) (v : Value) (ws : List Wd) : Prop := w.ownsRow B 36 4 v ws.length (flatI ws)

theorem Own4.nil (w : World) (B : Nat) : Own4 w B (.slice none 0 0) [] := World.ownsRow_nil _ _ _ _

theorem Own4.lit (w : World) (B : Nat) (hB : B ≤ w.heap.size) : Own4 (w.alloc (.cells #[] 36)) B (.slice (some ⟨w.heap.size, 0, none⟩) 0 0) [] := World.ownsRow_lit (e := 36) (size := 4) w #[] 0 hB (by decide) rfl

theorem Own4.ext {w w' : World} {B : Nat} {v : Value} {ws : List Wd} (h : Own4 w B v ws) (hE : Ext w w') : Own4 w' B v ws := own_below h hE

theorem Own4.alloc {w : World} {B : Nat} {v : Value} {ws : List Wd} (h : Own4 w B v ws) (o : Obj) : Own4 (w.alloc o) B v ws := World.ownsRow.alloc h o



end Go.Proofs.YthflflhcbnianaaDoor
