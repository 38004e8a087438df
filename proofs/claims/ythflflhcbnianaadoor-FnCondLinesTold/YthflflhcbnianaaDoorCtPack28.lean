/- Lines as they are drawn, block by block: each is right. -/
import Derived.Test.YthflflhcbnianaaDoorCtPack26
import Derived.Test.YthflflhcbnianaaDoorCtPack12
import Derived.Deep.AppendLies
import Derived.Deep.RegionHeld3
/- Rows of numbers that a call made itself, each number told by its place. -/
namespace Go.Proofs.YthflflhcbnianaaDoor
open Go.RowKit
set_option linter.unusedVariables false

/-- Block g holds n numbers from its head on, f told, which may be written. -/
def RowF (w : World) (g n : Nat) (f : Nat → Int) : Prop := g < w.heap.size ∧ ∀ j, j < n → w.cell? ⟨g, j, none⟩ = some (.int .i64 (f j)) ∧ w.frozen? ⟨g, j, none⟩ = false

theorem RowF.below {w w' : World} {g n B : Nat} {f : Nat → Int} (h : RowF w g n f) (hb : Below B w w') (hB : g < B) : RowF w' g n f :=
  ⟨Nat.lt_of_lt_of_le h.1 hb.size, fun j hj => ⟨(hb.cell (p := ⟨g, j, none⟩) hB).trans (h.2 j hj).1, (hb.frozen (p := ⟨g, j, none⟩) hB).trans (h.2 j hj).2⟩⟩

theorem RowF.ext {w w' : World} {g n : Nat} {f : Nat → Int} (h : RowF w g n f) (hE : Ext w w') : RowF w' g n f := h.below hE h.1

/-- One number is written. -/
def setF (f : Nat → Int) (i : Nat) (v : Int) : Nat → Int := fun j => if j = i then v else f j

theorem RowF.set {w : World} {g n : Nat} {f : Nat → Int} (h : RowF w g n f) {i : Nat} (hi : i < n) (v : Int) : RowF (w.setCell ⟨g, i, none⟩ (.int .i64 v)) g n (setF f i v) := by
  refine ⟨by rw [World.size_setCell]; exact h.1, fun j hj => ⟨?_, by rw [World.frozen?_setCell]; exact (h.2 j hj).2⟩⟩
  unfold setF
  by_cases e : j = i
  · subst e; rw [if_pos rfl]; exact set_same _ (h.2 j hj).1
  · rw [if_neg e, set_far (off_ne e)]; exact (h.2 j hj).1

/-- The values of the first n. -/
def valsF (f : Nat → Int) (n : Nat) : List Value := (List.range n).map fun i => .int .i64 (f i)

/-- Where a way leads: -1 without one. -/
def wayV (ls : List Ln) (s : ByteArray) : Int := if s = noText then -1 else atV ls s

/-- Two rows of their own, of k numbers each: where the ways of the first k lines lead. -/
def TwoF (ls : List Ln) (w W : World) (k g1 c1 g2 c2 : Nat) : Prop :=
  W.ownsRow w.heap.size 3 1 (.slice (some ⟨g1, 0, none⟩) k c1) k (valsF (fun i => wayV ls (ls.getD i zeroL).yes) k) ∧ W.ownsRow w.heap.size 3 1 (.slice (some ⟨g2, 0, none⟩) k c2) k (valsF (fun i => wayV ls (ls.getD i zeroL).no) k) ∧ g1 ≠ g2 ∧ Ext w W

theorem TwoF.ext {ls : List Ln} {w W W' : World} {k g1 c1 g2 c2 : Nat} (h : TwoF ls w W k g1 c1 g2 c2) (hE : Ext W W') : TwoF ls w W' k g1 c1 g2 c2 :=
  ⟨own_below h.1 hE, own_below h.2.1 hE, h.2.2.1, h.2.2.2.trans hE⟩

/-- A plan of these lines, known from line k on: the map in block B, in block g how many words a line and all behind it become. -/
def PlanP (W : World) (ls : List Ln) (s : Nat → Nat) (B g k : Nat) : Prop :=
  MapOf W B ls.length (upTo ls ls.length) ∧ ∃ f : Nat → Int, RowF W g (ls.length + 1) f ∧ ∀ j, k ≤ j → j ≤ ls.length → f j = (cnt s ls.length : Int) - (cnt s j : Int)

theorem PlanP.ext {W W' : World} {ls : List Ln} {s : Nat → Nat} {B g k : Nat} (h : PlanP W ls s B g k) (hE : Ext W W') : PlanP W' ls s B g k := by
  obtain ⟨h1, f, h2, h3⟩ := h
  exact ⟨h1.ext hE, f, h2.ext hE, h3⟩

theorem PlanP.step {W : World} {ls : List Ln} {s : Nat → Nat} {B g j : Nat} (h : PlanP W ls s B g (j + 1)) (hj : j < ls.length) (hne : B ≠ g) : PlanP (W.setCell ⟨g, j, none⟩ (.int .i64 ((cnt s ls.length : Int) - (cnt s (j + 1) : Int) + (s j : Int)))) ls s B g j := by
  obtain ⟨hm, f, hr, hf⟩ := h
  refine ⟨?_, _, hr.set (by omega) _, fun i hi hin => ?_⟩
  · obtain ⟨D, h1, h2⟩ := hm
    exact ⟨D, h1.setCell (a := ⟨g, j, none⟩) hne _, h2⟩
  · unfold setF
    by_cases e : i = j
    · subst e
      rw [if_pos rfl]
      show (cnt s ls.length : Int) - ((cnt s i + s i : Nat) : Int) + (s i : Int) = _
      omega
    · rw [if_neg e]
      exact hf i (by omega) hin

/-- A block of two cells that may be written. -/
def Two (W : World) (b : Nat) (v0 v1 : Value) : Prop := b < W.heap.size ∧ W.cell? ⟨b, 0, none⟩ = some v0 ∧ W.cell? ⟨b, 1, none⟩ = some v1 ∧ W.frozen? ⟨b, 0, none⟩ = false ∧ W.frozen? ⟨b, 1, none⟩ = false

theorem Two.ext {W W' : World} {b : Nat} {v0 v1 : Value} (h : Two W b v0 v1) (hE : Ext W W') : Two W' b v0 v1 :=
  ⟨Nat.lt_of_lt_of_le h.1 hE.size, (hE.cell (p := ⟨b, 0, none⟩) h.1).trans h.2.1, (hE.cell (p := ⟨b, 1, none⟩) h.1).trans h.2.2.1, (hE.frozen (p := ⟨b, 0, none⟩) h.1).trans h.2.2.2.1, (hE.frozen (p := ⟨b, 1, none⟩) h.1).trans h.2.2.2.2⟩

def labA (i : Nat) : ByteArray := ⟨#[97, UInt8.ofNat (48 + i)]⟩
def labB (i : Nat) : ByteArray := ⟨#[98, UInt8.ofNat (48 + i)]⟩

/-- Short texts. -/
def shortL (x : Ln) : Prop := x.lab.size ≤ 12 ∧ x.yes.size ≤ 12 ∧ x.no.size ≤ 12

/-- What is drawn after i blocks. -/
structure PreP (i : Nat) (l : List Ln) : Prop where
  len : l.length ≤ 1 + 26 * i
  pos : 1 ≤ l.length
  fits : ∀ j, j < l.length → fitsP (l.getD j zeroL) ∧ leadP l j (l.getD j zeroL) ∧ shortL (l.getD j zeroL)
  once : oncePto l l.length
  labs : ∀ j, j < l.length → (l.getD j zeroL).wd.1 = 0 → ∃ q, q < i ∧ ((l.getD j zeroL).lab = labA q ∨ (l.getD j zeroL).lab = labB q)

/-- A word that is no place and leads to the two places of its block at most. -/
def midL (a b : ByteArray) (x : Ln) : Prop :=
  x.wd.1 ≠ 0 ∧ fitsP x ∧ shortL x ∧ ((askP x.wd.1 ∧ x.yes = a ∧ x.no = b) ∨ (¬ askP x.wd.1 ∧ x.wd.1 = 7 ∧ x.yes = b ∧ x.no = noText) ∨ (¬ askP x.wd.1 ∧ x.wd.1 ≠ 7 ∧ x.yes = noText ∧ x.no = noText))

/-- Within block i: what was ahead, and k words. -/
def MidP (i k : Nat) (l : List Ln) : Prop := ∃ l0 m, l = l0 ++ m ∧ PreP i l0 ∧ m.length = k ∧ ∀ x ∈ m, midL (labA i) (labB i) x

theorem MidP.push {i k : Nat} {l : List Ln} (h : MidP i k l) {x : Ln} (hx : midL (labA i) (labB i) x) : MidP i (k + 1) (l ++ [x]) := by
  obtain ⟨l0, m, rfl, h1, h2, h3⟩ := h
  exact ⟨l0, m ++ [x], by simp, h1, by simp [h2], fun y hy => by
    rcases List.mem_append.1 hy with hy | hy
    · exact h3 y hy
    · rw [List.mem_singleton.1 hy]; exact hx⟩

def plainL (o k : Int) : Ln := ⟨noText, (o, k, 0, 0), noText, noText⟩
def placeL (s : ByteArray) : Ln := ⟨s, zeroW, noText, noText⟩

end Go.Proofs.YthflflhcbnianaaDoor
