/- What the laws' own toWide and eqWide answer. -/
import Derived.Test.YthflflhcbnianaaAndIS
namespace Go.Proofs.Ythflflhcbnianaa
open Go.RowKit
set_option linter.unusedVariables false

set_option maxHeartbeats 800000 in
theorem toWide_any (a b : Int) (w : World) : Calls Try.prog 13 #[.agg #[.int .i64 a, .int .i64 b]] w fun e w' => e = .returned (.agg #[.int .i64 a, .int .i64 b]) ∧ Below w.heap.size w w' := by
  go_enter Try.func13, Try.ntmps13
  go_wp2
  refine bodyPost_ret (v := .agg #[.int .i64 a, .int .i64 b]) (by simp [results, Try.results13, go_sem]) rfl ⟨rfl, ?_⟩
  exact (((Below.refl _ _).alloc (Nat.le_refl _) _).alloc (by simp) _).alloc (by simp; omega) _

theorem two_below {w w' : World} {B g : Nat} {a b c d : Int} (h : (w.cell? ⟨g, 0, none⟩ = some (.int .i64 a) ∧ w.cell? ⟨g, 1, none⟩ = some (.int .i64 b) ∧ w.cell? ⟨g + 1, 0, none⟩ = some (.int .i64 c) ∧ w.cell? ⟨g + 1, 1, none⟩ = some (.int .i64 d))) (hb : Below B w w') (hB : g + 1 < B) : (w'.cell? ⟨g, 0, none⟩ = some (.int .i64 a) ∧ w'.cell? ⟨g, 1, none⟩ = some (.int .i64 b) ∧ w'.cell? ⟨g + 1, 0, none⟩ = some (.int .i64 c) ∧ w'.cell? ⟨g + 1, 1, none⟩ = some (.int .i64 d)) :=
  ⟨(hb.cell (p := ⟨g, 0, none⟩) (show g < B by omega)).trans h.1, (hb.cell (p := ⟨g, 1, none⟩) (show g < B by omega)).trans h.2.1, (hb.cell (p := ⟨g + 1, 0, none⟩) hB).trans h.2.2.1, (hb.cell (p := ⟨g + 1, 1, none⟩) hB).trans h.2.2.2⟩

theorem two_new (w : World) (a b c d : Int) (g : Nat) (hg : g = w.heap.size) (t : TypeId) : (((w.alloc (.cells #[.int .i64 a, .int .i64 b] t)).alloc (.cells #[.int .i64 c, .int .i64 d] t)).cell? ⟨g, 0, none⟩ = some (.int .i64 a) ∧ ((w.alloc (.cells #[.int .i64 a, .int .i64 b] t)).alloc (.cells #[.int .i64 c, .int .i64 d] t)).cell? ⟨g, 1, none⟩ = some (.int .i64 b) ∧ ((w.alloc (.cells #[.int .i64 a, .int .i64 b] t)).alloc (.cells #[.int .i64 c, .int .i64 d] t)).cell? ⟨g + 1, 0, none⟩ = some (.int .i64 c) ∧ ((w.alloc (.cells #[.int .i64 a, .int .i64 b] t)).alloc (.cells #[.int .i64 c, .int .i64 d] t)).cell? ⟨g + 1, 1, none⟩ = some (.int .i64 d)) := by
  subst hg; simp [go_sem]

/-- Behind w two wide numbers were boxed; nothing below has turned since. -/
def Inv (w : World) (a b c d : Int) (W : World) : Prop := Below w.heap.size w W ∧ w.heap.size + 1 < W.heap.size ∧ (W.cell? ⟨w.heap.size, 0, none⟩ = some (.int .i64 a) ∧ W.cell? ⟨w.heap.size, 1, none⟩ = some (.int .i64 b) ∧ W.cell? ⟨w.heap.size + 1, 0, none⟩ = some (.int .i64 c) ∧ W.cell? ⟨w.heap.size + 1, 1, none⟩ = some (.int .i64 d))

theorem Inv.s {w W : World} {a b c d : Int} (h : Inv w a b c d W) : (W.cell? ⟨w.heap.size, 0, none⟩ = some (.int .i64 a) ∧ W.cell? ⟨w.heap.size, 1, none⟩ = some (.int .i64 b) ∧ W.cell? ⟨w.heap.size + 1, 0, none⟩ = some (.int .i64 c) ∧ W.cell? ⟨w.heap.size + 1, 1, none⟩ = some (.int .i64 d)) := h.2.2

theorem Inv.step {w W W' : World} {a b c d : Int} (h : Inv w a b c d W) (hb : Below W.heap.size W W') : Inv w a b c d W' :=
  ⟨h.1.trans (hb.mono h.1.size), Nat.lt_of_lt_of_le h.2.1 hb.size, two_below h.2.2 hb h.2.1⟩

theorem Inv.alloc {w W : World} {a b c d : Int} (h : Inv w a b c d W) (o : Obj) : Inv w a b c d (W.alloc o) := h.step ((Below.refl W.heap.size W).alloc (Nat.le_refl _) o)

theorem Inv.drew {w W : World} {a b c d : Int} (h : Inv w a b c d W) : Inv w a b c d W.drew := ⟨h.1.drew, h.2.1, h.2.2⟩

theorem Inv.new (w : World) (a b c d : Int) (t : TypeId) : Inv w a b c d ((w.alloc (.cells #[.int .i64 a, .int .i64 b] t)).alloc (.cells #[.int .i64 c, .int .i64 d] t)) :=
  ⟨((Below.refl _ _).alloc (Nat.le_refl _) _).alloc (by simp) _, by simp, two_new w a b c d w.heap.size rfl t⟩

theorem Inv.set {w W : World} {a b c d : Int} (h : Inv w a b c d W) {g : Nat} (hg : w.heap.size + 1 < g) (j : Nat) (v : Value) : Inv w a b c d (W.setCell ⟨g, j, none⟩ v) := by
  have hb : Below g W (W.setCell ⟨g, j, none⟩ v) := (Below.refl g W).setCell (Nat.le_refl _) _
  exact ⟨h.1.setCell (show w.heap.size ≤ g by omega) _, by rw [World.size_setCell]; exact h.2.1, two_below h.2.2 hb hg⟩

/-- Block g is a box of two numbers, which may be written. -/
def Box (W : World) (g : Nat) (x y : Int) : Prop := g < W.heap.size ∧ (W.cell? ⟨g, 0, none⟩ = some (.int .i64 x) ∧ W.cell? ⟨g, 1, none⟩ = some (.int .i64 y)) ∧ (W.frozen? ⟨g, 0, none⟩ = false ∧ W.frozen? ⟨g, 1, none⟩ = false)

theorem Box.new (W : World) (x y : Int) (t : TypeId) : Box (W.alloc (.cells #[.int .i64 x, .int .i64 y] t)) W.heap.size x y := ⟨by simp, by simp [go_sem], by simp [go_sem]⟩

theorem Box.step {W W' : World} {g : Nat} {x y : Int} (h : Box W g x y) (hb : Below W.heap.size W W') : Box W' g x y :=
  ⟨Nat.lt_of_lt_of_le h.1 hb.size, ⟨(hb.cell (p := ⟨g, 0, none⟩) h.1).trans h.2.1.1, (hb.cell (p := ⟨g, 1, none⟩) h.1).trans h.2.1.2⟩, ⟨(hb.frozen (p := ⟨g, 0, none⟩) h.1).trans h.2.2.1, (hb.frozen (p := ⟨g, 1, none⟩) h.1).trans h.2.2.2⟩⟩

theorem Box.stored {W : World} {g : Nat} {x y : Int} (h : Box W g x y) (x' y' : Int) : Box ((W.setCell ⟨g, 0, none⟩ (.int .i64 x')).setCell ⟨g, 1, none⟩ (.int .i64 y')) g x' y' := by
  refine ⟨by simp [World.size_setCell]; exact h.1, ⟨?_, ?_⟩, ?_, ?_⟩
  · rw [World.cell?_setCell_other _ _ _ _ (by simp)]; exact World.cell?_setCell_same _ _ _ h.2.1.1
  · have e : (W.setCell ⟨g, 0, none⟩ (.int .i64 x')).cell? ⟨g, 1, none⟩ = some (.int .i64 y) := by rw [World.cell?_setCell_other _ _ _ _ (by simp)]; exact h.2.1.2
    exact World.cell?_setCell_same _ _ _ e
  · rw [World.frozen?_setCell, World.frozen?_setCell]; exact h.2.2.1
  · rw [World.frozen?_setCell, World.frozen?_setCell]; exact h.2.2.2

theorem Box.drew {W : World} {g : Nat} {x y : Int} (h : Box W g x y) : Box W.drew g x y := h

theorem Box.alloc {W : World} {g : Nat} {x y : Int} (h : Box W g x y) (o : Obj) : Box (W.alloc o) g x y := h.step ((Below.refl W.heap.size W).alloc (Nat.le_refl _) o)

end Go.Proofs.Ythflflhcbnianaa
