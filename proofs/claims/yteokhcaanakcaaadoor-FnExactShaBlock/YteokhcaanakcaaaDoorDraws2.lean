/- What the draws of texts and numbers answer: l01Text a text of n bytes, l01Long one of n bytes, l01PickInt one of a list, l01Number an int. -/
import Derived.Test.YteokhcaanakcaaaDoorInfoB
import Derived.Test.YteokhcaanakcaaaDoorDraws
namespace Go.Proofs.YteokhcaanakcaaaDoor
open Go.RowKit
set_option linter.unusedVariables false

theorem grown_own {a b c : World} {r row : Option Nat} (h : a.grownBy b r) (k : b.grownBy c row) (hr : ∀ x, row = some x → a.heap.size ≤ x) : a.grownBy c r :=
  ⟨k.os.trans h.os, k.tape.trans h.tape, k.output.trans h.output, Nat.le_trans h.size k.size, fun i hi hne => (k.block i (Nat.lt_of_lt_of_le hi h.size) (fun e => by have := hr i e.symm; omega)).trans (h.block i hi hne)⟩

theorem Cur.lt {w : World} {p : Nat} {a : Option Addr} {len cap : Nat} (h : Cur w p a len cap) : p < w.heap.size := by
  obtain ⟨_, _, _, hc, _⟩ := h
  exact (Array.getElem?_eq_some_iff.1 hc).1

/-- A cursor is kept where nothing below B turns. -/
theorem Cur.grown {w w' : World} {p B : Nat} {a : Option Addr} {len cap : Nat} {row : Option Nat} (h : Cur w p a len cap) (hg : w.grownBy w' row) (hp : p < B) (hb : ∀ b off, a = some ⟨b, off, none⟩ → 0 < len → b < B) (hr : ∀ x, row = some x → B ≤ x) : Cur w' p a len cap :=
  h.kept hg (fun e => by have := hr p e; omega) (fun b off e hl e2 => by have := hr b e2; have := hb b off e hl; omega)

theorem Cur.code {w : World} {p : Nat} {a : Option Addr} {len cap : Nat} (h : Cur w p a len cap) : ∀ b off, a = some ⟨b, off, none⟩ → 0 < len → b < w.heap.size := by
  intro b off e hl
  obtain ⟨_, _, _, _, _, hB⟩ := h
  obtain ⟨b', off', e', _, hx⟩ := hB hl
  rw [e] at e'
  have := Option.some.inj e'
  obtain ⟨x, _, h2⟩ := hx 0 hl
  have hb := World.block_lt_of_cell? w _ h2
  simp at this
  rw [this.1]
  exact hb

/-- What grows from a new cursor's block on turns nothing that was there. -/
theorem below_new {w w1 w2 : World} (h : Below w.heap.size w w1) (hg : w1.grownBy w2 (some w.heap.size)) : Below w.heap.size w w2 :=
  h.grown hg h.size (fun k hk => by have := Option.some.inj hk; omega)

end Go.Proofs.YteokhcaanakcaaaDoor
