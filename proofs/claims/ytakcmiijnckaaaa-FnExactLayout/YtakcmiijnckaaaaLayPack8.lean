/- What the laws' own first steps answer: big, and the places that are drawn. -/
import Derived.Test.YtakcmiijnckaaaaRows
import Derived.Test.YtakcmiijnckaaaaLayPack6
import Derived.WalkKit
import Derived.WalkSpells
import Derived.WalkSmall
import Derived.BigQuiet
import Derived.Deep.QuietTactic
import Derived.Test.YtakcmiijnckaaaaLayPack5
/- The draws' cursor: what it needs to be read, and that l01Byte answers a byte's number and leaves a cursor behind. -/
namespace Go.Proofs.Ytakcmiijnckaaaa
open Go.RowKit
set_option linter.unusedVariables false

/-- The drawn bytes can be read: len of them, apart from block p. -/
def Bytes (w : World) (p : Nat) (a : Option Addr) (len : Nat) : Prop :=
  len ≤ 1048576 ∧ (0 < len → ∃ b off, a = some ⟨b, off, none⟩ ∧ b ≠ p ∧ ∀ j, j < len → ∃ x : Nat, x ≤ 255 ∧ w.cell? ⟨b, off + j, none⟩ = some (.int .u8 (x : Int)))

/-- A cursor lies at block p: the bytes, the place, the number. -/
def Cur (w : World) (p : Nat) (a : Option Addr) (len cap : Nat) : Prop :=
  ∃ (i : Nat) (h : Int), i ≤ len ∧ w.heap[p]? = some (.cells #[.slice a len cap, .int .i64 (i : Int), .int .i64 h] 96 (0, 0)) ∧ Bytes w p a len

theorem Cur.kept {w w' : World} {p : Nat} {a : Option Addr} {len cap : Nat} {row : Option Nat} (h : Cur w p a len cap) (hg : w.grownBy w' row) (hp : row ≠ some p) (hb : ∀ b off, a = some ⟨b, off, none⟩ → 0 < len → row ≠ some b) : Cur w' p a len cap := by
  obtain ⟨i, h, hi, hc, hl, hB⟩ := h
  refine ⟨i, h, hi, ?_, hl, fun hpos => ?_⟩
  · rw [hg.block p (Array.getElem?_eq_some_iff.1 hc).1 (fun e => hp e.symm)]; exact hc
  · obtain ⟨b, off, e, hne, hx⟩ := hB hpos
    refine ⟨b, off, e, hne, fun j hj => ?_⟩
    obtain ⟨x, hx1, hx2⟩ := hx j hj
    exact ⟨x, hx1, hg.cell hx2 (fun e2 => hb b off e hpos e2.symm)⟩

theorem cell_in {w : World} {p j : Nat} {cs : Array Value} {t : TypeId} {v : Value} (h : w.heap[p]? = some (.cells cs t (0, 0))) (hj : cs[j]? = some v) : w.cell? ⟨p, j, none⟩ = some v := by
  rw [cell_of_row w p j cs t (0, 0) h]; exact hj

theorem set_in {w : World} {p j : Nat} {cs : Array Value} {t : TypeId} (h : w.heap[p]? = some (.cells cs t (0, 0))) (v : Value) : (w.setCell ⟨p, j, none⟩ v).heap[p]? = some (.cells (cs.setIfInBounds j v) t (0, 0)) := by
  unfold World.setCell
  simp only [Array.getElem?_modify, if_true, h, Option.map_some]
  simp

theorem grown_set {w : World} {p j : Nat} {v : Value} : w.grownBy (w.setCell ⟨p, j, none⟩ v) (some p) :=
  ⟨rfl, rfl, rfl, by simp [World.setCell], fun k _ hk => Below.heap_setCell _ _ _ _ (fun e => hk (by rw [e]))⟩

theorem grown_drewN (w : World) (n : Nat) (row : Option Nat) : w.grownBy (w.drewN n) row := ⟨rfl, rfl, rfl, Nat.le_refl _, fun _ _ _ => rfl⟩

theorem Bytes.kept {w w' : World} {p : Nat} {a : Option Addr} {len : Nat} (h : Bytes w p a len) (hg : w.grownBy w' (some p)) : Bytes w' p a len := by
  refine ⟨h.1, fun hpos => ?_⟩
  obtain ⟨b, off, e, hne, hx⟩ := h.2 hpos
  refine ⟨b, off, e, hne, fun j hj => ?_⟩
  obtain ⟨x, h1, h2⟩ := hx j hj
  exact ⟨x, h1, hg.cell h2 (fun e => hne (Option.some.inj e))⟩

/-- The drawn bytes as they came in. -/
def Came (w : World) (a : Option Addr) (len : Nat) : Prop :=
  len ≤ 1048576 ∧ (0 < len → ∃ b off, a = some ⟨b, off, none⟩ ∧ ∀ j, j < len → ∃ x : Nat, x ≤ 255 ∧ w.cell? ⟨b, off + j, none⟩ = some (.int .u8 (x : Int)))

theorem Came.below {w w' : World} {a : Option Addr} {len : Nat} (h : Came w a len) (hb : Below w.heap.size w w') : Came w' a len := by
  refine ⟨h.1, fun hp => ?_⟩
  obtain ⟨b, off, e, hx⟩ := h.2 hp
  refine ⟨b, off, e, fun j hj => ?_⟩
  obtain ⟨x, h1, h2⟩ := hx j hj
  exact ⟨x, h1, (hb.cell (World.block_lt_of_cell? w _ h2)).trans h2⟩

theorem Cur.lt {w : World} {p : Nat} {a : Option Addr} {len cap : Nat} (h : Cur w p a len cap) : p < w.heap.size := by
  obtain ⟨_, _, _, hc, _⟩ := h
  exact (Array.getElem?_eq_some_iff.1 hc).1

/-- A cursor is kept where nothing below B turns. -/
theorem Cur.grown {w w' : World} {p B : Nat} {a : Option Addr} {len cap : Nat} {row : Option Nat} (h : Cur w p a len cap) (hg : w.grownBy w' row) (hp : p < B) (hb : ∀ b off, a = some ⟨b, off, none⟩ → 0 < len → b < B) (hr : ∀ x, row = some x → B ≤ x) : Cur w' p a len cap :=
  h.kept hg (fun e => by have := hr p e; omega) (fun b off e hl e2 => by have := hr b e2; have := hb b off e hl; omega)

theorem Cur.code {w : World} {p : Nat} {a : Option Addr} {len cap : Nat} (h : Cur w p a len cap) : ∀ b off, a = some ⟨b, off, none⟩ → 0 < len → b < w.heap.size := by
  intro b off e hl
  obtain ⟨_, _, _, _, _, hB⟩ := h
  obtain ⟨b', off', e', _, hx⟩ := hB hl
  rw [e] at e'
  have := Option.some.inj e'
  obtain ⟨x, _, h2⟩ := hx 0 hl
  have hb := World.block_lt_of_cell? w _ h2
  simp at this
  rw [this.1]
  exact hb

theorem Try.infoI : (Try.prog.info? 3).map (fun i => (i.zero, i.size, i.bytes)) = some (some (.int .i64 0), 1, 8) := by kernel_rfl

theorem own_lower {w : World} {base base' e size : Nat} {v : Value} {n : Nat} {xs : List Value} (h : w.ownsRow base e size v n xs) (hb : base' ≤ base) : w.ownsRow base' e size v n xs := by
  refine ⟨h.1, ?_⟩
  rcases h.2 with hn | ⟨g, cap, cur, rfl, hg, rest⟩
  · exact .inl hn
  · exact .inr ⟨g, cap, cur, rfl, Nat.le_trans hb hg, rest⟩



end Go.Proofs.Ytakcmiijnckaaaa
