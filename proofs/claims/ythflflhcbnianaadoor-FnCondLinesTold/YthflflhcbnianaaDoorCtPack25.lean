/- What spec's LinesOk answers: whether lines are right. -/
import Derived.Test.YthflflhcbnianaaDoorCtPack24
import Derived.Maps.OwnSet
import Derived.Deep.SlicePairs
/- A map from texts to numbers, known as a function: what is found, put and struck. -/
namespace Go.Proofs.YthflflhcbnianaaDoor
open Go.RowKit Go.Maps
set_option linter.unusedVariables false

def keyS (s : ByteArray) : Lit := .string s.data.toList

/-- Block B is a map of at most n entries that has M. -/
def MapOf (W : World) (B n : Nat) (M : ByteArray → Option Nat) : Prop :=
  ∃ D : DataW Unit, W.ownsMap Tryd.prog 9 (plainElem Tryd.prog 3) B n D ∧ ∀ s, Maps.has D (keyS s) = (M s).isSome ∧ D.atKey (keyS s) (.lit (.int .i64 0)) = .lit (.int .i64 (((M s).getD 0 : Nat) : Int))

theorem MapOf.lt {W : World} {B n : Nat} {M : ByteArray → Option Nat} (h : MapOf W B n M) : B < W.heap.size := by
  obtain ⟨D, h1, _⟩ := h
  exact h1.lt

theorem MapOf.mono {W : World} {B n m : Nat} {M : ByteArray → Option Nat} (h : MapOf W B n M) (hm : n ≤ m) : MapOf W B m M := by
  obtain ⟨D, h1, h2⟩ := h
  exact ⟨D, h1.mono hm, h2⟩

theorem MapOf.kept {w w' : World} {B n : Nat} {M : ByteArray → Option Nat} {row : Option Nat} (h : MapOf w B n M) (hg : w.grownBy w' row) (hne : some B ≠ row) : MapOf w' B n M := by
  obtain ⟨D, h1, h2⟩ := h
  exact ⟨D, h1.kept hg hne, h2⟩

theorem MapOf.below {w w' : World} {B n C : Nat} {M : ByteArray → Option Nat} (h : MapOf w B n M) (hb : Below C w w') (hB : B < C) : MapOf w' B n M := by
  obtain ⟨D, ⟨es, clock, e1, e2⟩, h2⟩ := h
  exact ⟨D, ⟨es, clock, (hb.block B hB).trans e1, e2⟩, h2⟩

theorem MapOf.ext {w w' : World} {B n : Nat} {M : ByteArray → Option Nat} (h : MapOf w B n M) (hE : Ext w w') : MapOf w' B n M := h.below hE h.lt

/-- What is put. -/
def putM (M : ByteArray → Option Nat) (s : ByteArray) (v : Nat) : ByteArray → Option Nat := fun t => if t = s then some v else M t

/-! At the operation. -/
section
variable {P : Program} (w : World) {ops : Array Oper} {rest : List Oper} {o : Oper} {a : Act} {Q : Exit → Act → World → Prop}

end

end Go.Proofs.YthflflhcbnianaaDoor

/- Lines in memory: rows of them. -/
namespace Go.Proofs.YthflflhcbnianaaDoor
open Go.ChangeShapes Go.WideShapes Go.ChangeAt Go.RowKit Go.Joins Go.Deep
set_option linter.unusedVariables false

/-- A line's seven cells. -/
def Hept (w : World) (b o : Nat) (l : Ln) : Prop :=
  w.cell? ⟨b, o, none⟩ = some (.string l.lab) ∧ w.cell? ⟨b, o + 1, none⟩ = some (.int .i64 l.wd.1) ∧ w.cell? ⟨b, o + 2, none⟩ = some (.int .i64 l.wd.2.1) ∧ w.cell? ⟨b, o + 3, none⟩ = some (.int .i64 l.wd.2.2.1) ∧ w.cell? ⟨b, o + 4, none⟩ = some (.int .i64 l.wd.2.2.2) ∧ w.cell? ⟨b, o + 5, none⟩ = some (.string l.yes) ∧ w.cell? ⟨b, o + 6, none⟩ = some (.string l.no)

theorem Hept.below {w w' : World} {b o B : Nat} {l : Ln} (h : Hept w b o l) (hb : Below B w w') (hB : b < B) : Hept w' b o l :=
  ⟨(hb.cell (p := ⟨b, o, none⟩) hB).trans h.1, (hb.cell (p := ⟨b, o + 1, none⟩) hB).trans h.2.1, (hb.cell (p := ⟨b, o + 2, none⟩) hB).trans h.2.2.1, (hb.cell (p := ⟨b, o + 3, none⟩) hB).trans h.2.2.2.1, (hb.cell (p := ⟨b, o + 4, none⟩) hB).trans h.2.2.2.2.1, (hb.cell (p := ⟨b, o + 5, none⟩) hB).trans h.2.2.2.2.2.1, (hb.cell (p := ⟨b, o + 6, none⟩) hB).trans h.2.2.2.2.2.2⟩

theorem Hept.lt {w : World} {b o : Nat} {l : Ln} (h : Hept w b o l) : b < w.heap.size := World.block_lt_of_cell? w _ h.1

theorem Hept.ext {w w' : World} {b o : Nat} {l : Ln} (h : Hept w b o l) (hE : Ext w w') : Hept w' b o l := h.below hE h.lt

/-- These lines lie in a row from there on. -/
def Lns (w : World) (a : Option Addr) (ls : List Ln) : Prop := 0 < ls.length → ∃ b off, a = some ⟨b, off, none⟩ ∧ ∀ j, j < ls.length → Hept w b (off + j * 7) (ls.getD j zeroL)

theorem Lns.below {w w' : World} {a : Option Addr} {ls : List Ln} {B : Nat} (h : Lns w a ls) (hb : Below B w w') (hB : w.heap.size ≤ B) : Lns w' a ls := fun hp => by
  obtain ⟨b, off, ha, hc⟩ := h hp
  exact ⟨b, off, ha, fun j hj => (hc j hj).below hb (Nat.lt_of_lt_of_le (hc j hj).lt hB)⟩

theorem Lns.ext {w w' : World} {a : Option Addr} {ls : List Ln} (h : Lns w a ls) (hE : Ext w w') : Lns w' a ls := h.below hE (Nat.le_refl _)

theorem Lns.hept {w : World} {a : Option Addr} {ls : List Ln} (h : Lns w a ls) {k : Nat} (hk : k < ls.length) {l : Ln} (hl : l = ls.getD k zeroL) : ∃ b off, a = some ⟨b, off, none⟩ ∧ Hept w b (off + k * 7) l := by
  obtain ⟨b, off, ha, hc⟩ := h (by omega)
  exact ⟨b, off, ha, by rw [hl]; exact hc k hk⟩

/-- The map of the first n lines' places. -/
def upTo (ls : List Ln) : Nat → ByteArray → Option Nat
  | 0 => fun _ => none
  | n + 1 => if (ls.getD n zeroL).wd.1 = 0 then putM (upTo ls n) (ls.getD n zeroL).lab n else upTo ls n

end Go.Proofs.YthflflhcbnianaaDoor

/- What impl's placesOf answers: the map of all places, or that a label stands twice. -/
namespace Go.Proofs.YthflflhcbnianaaDoor
open Go.RowKit Go.Maps
set_option linter.unusedVariables false

end Go.Proofs.YthflflhcbnianaaDoor

/- What impl's lineFits answers: whether a line is right by itself. -/
namespace Go.Proofs.YthflflhcbnianaaDoor
open Go.RowKit
set_option linter.unusedVariables false

/-- The place of a label; -1 without it. -/
def atV (ls : List Ln) (s : ByteArray) : Int := if pos ls s < ls.length then (pos ls s : Int) else -1



end Go.Proofs.YthflflhcbnianaaDoor
