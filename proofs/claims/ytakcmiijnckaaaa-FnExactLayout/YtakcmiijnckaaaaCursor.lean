/- The draws' cursor: what it needs to be read, and that l01Byte answers a byte's number and leaves a cursor behind. -/
import Derived.Test.YtakcmiijnckaaaaRows
import Derived.Test.YtakcmiijnckaaaaCurMath
import Derived.WalkKit
import Derived.WalkSpells
import Derived.WalkSmall
import Derived.BigQuiet
import Derived.Deep.QuietTactic
namespace Go.Proofs.Ytakcmiijnckaaaa
open Go.RowKit
set_option linter.unusedVariables false

/-- The drawn bytes can be read: len of them, apart from block p. -/
def Bytes (w : World) (p : Nat) (a : Option Addr) (len : Nat) : Prop :=
  len ≤ 1048576 ∧ (0 < len → ∃ b off, a = some ⟨b, off, none⟩ ∧ b ≠ p ∧ ∀ j, j < len → ∃ x : Nat, x ≤ 255 ∧ w.cell? ⟨b, off + j, none⟩ = some (.int .u8 (x : Int)))

/-- A cursor lies at block p: the bytes, the place, the number. -/
def Cur (w : World) (p : Nat) (a : Option Addr) (len cap : Nat) : Prop :=
  ∃ (i : Nat) (h : Int), i ≤ len ∧ w.heap[p]? = some (.cells #[.slice a len cap, .int .i64 (i : Int), .int .i64 h] 96 (0, 0)) ∧ Bytes w p a len

theorem Cur.kept {w w' : World} {p : Nat} {a : Option Addr} {len cap : Nat} {row : Option Nat} (h : Cur w p a len cap) (hg : w.grownBy w' row) (hp : row ≠ some p) (hb : ∀ b off, a = some ⟨b, off, none⟩ → 0 < len → row ≠ some b) : Cur w' p a len cap := by
  obtain ⟨i, h, hi, hc, hl, hB⟩ := h
  refine ⟨i, h, hi, ?_, hl, fun hpos => ?_⟩
  · rw [hg.block p (Array.getElem?_eq_some_iff.1 hc).1 (fun e => hp e.symm)]; exact hc
  · obtain ⟨b, off, e, hne, hx⟩ := hB hpos
    refine ⟨b, off, e, hne, fun j hj => ?_⟩
    obtain ⟨x, hx1, hx2⟩ := hx j hj
    exact ⟨x, hx1, hg.cell hx2 (fun e2 => hb b off e hpos e2.symm)⟩

theorem cell_in {w : World} {p j : Nat} {cs : Array Value} {t : TypeId} {v : Value} (h : w.heap[p]? = some (.cells cs t (0, 0))) (hj : cs[j]? = some v) : w.cell? ⟨p, j, none⟩ = some v := by
  rw [cell_of_row w p j cs t (0, 0) h]; exact hj

theorem free_in {w : World} {p j : Nat} {cs : Array Value} {t : TypeId} (h : w.heap[p]? = some (.cells cs t (0, 0))) : w.frozen? ⟨p, j, none⟩ = false := by
  unfold World.frozen?
  rw [h]
  simp

theorem set_in {w : World} {p j : Nat} {cs : Array Value} {t : TypeId} (h : w.heap[p]? = some (.cells cs t (0, 0))) (v : Value) : (w.setCell ⟨p, j, none⟩ v).heap[p]? = some (.cells (cs.setIfInBounds j v) t (0, 0)) := by
  unfold World.setCell
  simp only [Array.getElem?_modify, if_true, h, Option.map_some]
  simp

theorem grown_set {w : World} {p j : Nat} {v : Value} : w.grownBy (w.setCell ⟨p, j, none⟩ v) (some p) :=
  ⟨rfl, rfl, rfl, by simp [World.setCell], fun k _ hk => Below.heap_setCell _ _ _ _ (fun e => hk (by rw [e]))⟩

theorem grown_trans {a b c : World} {row : Option Nat} (h : a.grownBy b row) (k : b.grownBy c row) : a.grownBy c row :=
  ⟨k.os.trans h.os, k.tape.trans h.tape, k.output.trans h.output, Nat.le_trans h.size k.size, fun i hi hne => (k.block i (Nat.lt_of_lt_of_le hi h.size) hne).trans (h.block i hi hne)⟩

theorem grown_drewN (w : World) (n : Nat) (row : Option Nat) : w.grownBy (w.drewN n) row := ⟨rfl, rfl, rfl, Nat.le_refl _, fun _ _ _ => rfl⟩

theorem Bytes.kept {w w' : World} {p : Nat} {a : Option Addr} {len : Nat} (h : Bytes w p a len) (hg : w.grownBy w' (some p)) : Bytes w' p a len := by
  refine ⟨h.1, fun hpos => ?_⟩
  obtain ⟨b, off, e, hne, hx⟩ := h.2 hpos
  refine ⟨b, off, e, hne, fun j hj => ?_⟩
  obtain ⟨x, h1, h2⟩ := hx j hj
  exact ⟨x, h1, hg.cell h2 (fun e => hne (Option.some.inj e))⟩

theorem byte_close {E : Int} {C : Prop} (hC : C) : ∃ x : Nat, x ≤ 255 ∧ Ending.returned (.int .i64 (bits .and .i64 E 255)) = .returned (.int .i64 (x : Int)) ∧ C := by
  obtain ⟨x, h1, h2⟩ := and255_byte E
  exact ⟨x, h1, by rw [h2], hC⟩

set_option maxRecDepth 100000 in
set_option maxHeartbeats 2000000 in
theorem byte_any (p : Nat) (a : Option Addr) (len cap : Nat) (w : World) (hC : Cur w p a len cap) :
    Calls Try.prog 80 #[.pointer (some ⟨p, 0, none⟩)] w fun e w' => ∃ x : Nat, x ≤ 255 ∧ e = .returned (.int .i64 (x : Int)) ∧ Cur w' p a len cap ∧ w.grownBy w' (some p) := by
  obtain ⟨i, h, hi, hc, hl, hB⟩ := hC
  have HB : Hid (Bytes w p a len) := ⟨hl, hB⟩
  have c0 := cell_in (j := 0) hc rfl
  have c1 := cell_in (j := 1) hc rfl
  have c2 := cell_in (j := 2) hc rfl
  have f1 := free_in (j := 1) hc
  have f2 := free_in (j := 2) hc
  by_cases hlt : i < len
  · obtain ⟨b, off, rfl, hne, hx⟩ := hB (by omega)
    obtain ⟨x, hx1, hx2⟩ := hx i hlt
    have hii : (i : Int) < (len : Int) := by omega
    have hi0 : (0 : Int) ≤ (i : Int) := by omega
    have hbp : b ≠ p := hne
    go_enter Try.func80, Try.ntmps80
    go_wp2
    go_quiet (fail)
    go_wp2
    go_quiet (fail)
    go_wp2
    go_quiet (fail)
    go_wp2
    go_ret
    apply byte_close
    refine And.intro ⟨i + 1, (wrap64 (wrap64 (h * 6364136223846793005) + 1442695040888963407)), by omega, ?_, ?_⟩ ?_
    · exact (set_in (j := 1) (set_in (j := 2) hc _) _)
    · exact Bytes.kept (Bytes.kept HB.out grown_set) (grown_trans (grown_drewN _ _ _) grown_set)
    · exact grown_trans (grown_trans grown_set (grown_drewN _ _ _)) grown_set
  · go_enter Try.func80, Try.ntmps80
    go_wp2
    go_quiet (fail)
    go_wp2
    go_quiet (fail)
    go_wp2
    go_ret
    apply byte_close
    refine And.intro ⟨i, (wrap64 (wrap64 (h * 6364136223846793005) + 1442695040888963407)), hi, ?_, ?_⟩ ?_
    · exact set_in (j := 2) hc _
    · exact Bytes.kept (Bytes.kept (Bytes.kept HB.out grown_set) (grown_drewN _ _ _)) (grown_drewN _ _ _)
    · exact grown_trans (grown_trans grown_set (grown_drewN _ _ _)) (grown_drewN _ _ _)

end Go.Proofs.Ytakcmiijnckaaaa
