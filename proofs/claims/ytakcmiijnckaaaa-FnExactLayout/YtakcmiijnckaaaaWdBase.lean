/- Words as four numbers; blocks that hold one. (What the texts of chapter 6 have of it, without their texts.) -/
import Derived.Test.YtakcmiijnckaaaaInsTo
import Derived.Test.YtakcmiijnckaaaaBlks
namespace Go.Proofs.Ytakcmiijnckaaaa
open Go.RowKit
set_option linter.unusedVariables false

/-- A word: Op, K, Yes, No. -/
abbrev Wd := Int × Int × Int × Int

def Wd.val (p : Wd) : Value := .agg #[.int .i64 p.1, .int .i64 p.2.1, .int .i64 p.2.2.1, .int .i64 p.2.2.2]

def zeroW : Wd := (0, 0, 0, 0)

def okW (p : Wd) : Bool := insB p.1 p.2.1 p.2.2.1 p.2.2.2

/-- Four numbers in a row. -/
def ints4 (a b c d : Int) : List Value := [.int .i64 a, .int .i64 b, .int .i64 c, .int .i64 d]

theorem Blk.other {W : World} {k j : Nat} {l : List Value} {t : TypeId} (h : Blk W k l t) (hj : k ≠ j) (i : Nat) (v : Value) : Blk (W.setCell ⟨j, i, none⟩ v) k l t :=
  (Below.heap_setCell _ _ _ _ hj).trans h

theorem Blk.set {W : World} {k : Nat} {l : List Value} {t : TypeId} (h : Blk W k l t) (i : Nat) (v : Value) : Blk (W.setCell ⟨k, i, none⟩ v) k (l.set i v) t := by
  have := set_in h (j := i) v
  unfold Blk
  rw [this]
  simp

/-- A word is stored into a block of four numbers. -/
def set4 (W : World) (g : Nat) (a b c d : Int) : World := (((W.setCell ⟨g, 0, none⟩ (.int .i64 a)).setCell ⟨g, 1, none⟩ (.int .i64 b)).setCell ⟨g, 2, none⟩ (.int .i64 c)).setCell ⟨g, 3, none⟩ (.int .i64 d)

theorem Blk.set4 {W : World} {g : Nat} {a b c d : Int} {t : TypeId} (h : Blk W g (ints4 a b c d) t) (a' b' c' d' : Int) : Blk (set4 W g a' b' c' d') g (ints4 a' b' c' d') t :=
  (((h.set 0 (.int .i64 a')).set 1 (.int .i64 b')).set 2 (.int .i64 c')).set 3 (.int .i64 d')

theorem Blk.far4 {W : World} {k g : Nat} {l : List Value} {t : TypeId} (h : Blk W k l t) (hk : k ≠ g) (a b c d : Int) : Blk (Go.Proofs.Ytakcmiijnckaaaa.set4 W g a b c d) k l t :=
  (((h.other hk 0 (.int .i64 a)).other hk 1 (.int .i64 b)).other hk 2 (.int .i64 c)).other hk 3 (.int .i64 d)

theorem Ext.set4 {w W : World} (h : Ext w W) {g : Nat} (hg : w.heap.size ≤ g) (a b c d : Int) : Ext w (Go.Proofs.Ytakcmiijnckaaaa.set4 W g a b c d) :=
  (((Below.setCell h (show w.heap.size ≤ g from hg) _).setCell (show w.heap.size ≤ g from hg) _).setCell (show w.heap.size ≤ g from hg) _).setCell (show w.heap.size ≤ g from hg) _

theorem nat_word {p : Wd} (h : okW p = true) : ∃ o k y n : Nat, p = ((o : Int), (k : Int), (y : Int), (n : Int)) := by
  obtain ⟨o, k, y, n⟩ := p
  unfold okW at h
  rw [insB_true] at h
  unfold insP at h
  simp only at h
  exact ⟨o.toNat, k.toNat, y.toNat, n.toNat, by simp only [Prod.mk.injEq]; omega⟩

theorem own_slice {w : World} {base e size : Nat} {v : Value} {n : Nat} {xs : List Value} (h : w.ownsRow base e size v n xs) : ∃ ao cap, v = .slice ao n cap := by
  rcases h.2 with ⟨rfl, h0⟩ | ⟨g, cap, cur, rfl, _⟩
  · exact ⟨none, 0, by rw [h0]⟩
  · exact ⟨_, _, rfl⟩

end Go.Proofs.Ytakcmiijnckaaaa
