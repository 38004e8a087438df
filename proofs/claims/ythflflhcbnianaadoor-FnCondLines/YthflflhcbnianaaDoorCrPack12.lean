/- What the laws' own first steps answer: big, and the places that are drawn. -/
import Derived.Test.YthflflhcbnianaaDoorRows
import Derived.Test.YthflflhcbnianaaDoorCrPack7
import Derived.WalkKit
import Derived.WalkSpells
import Derived.WalkSmall
import Derived.BigQuiet
import Derived.Deep.QuietTactic
import Derived.Test.YthflflhcbnianaaDoorCrPack6
/- The draws' cursor: what it needs to be read, and that l01Byte answers a byte's number and leaves a cursor behind. -/
namespace Go.Proofs.YthflflhcbnianaaDoor
open Go.RowKit
set_option linter.unusedVariables false

/-- The drawn bytes can be read: len of them, apart from block p. -/
def Bytes (w : World) (p : Nat) (a : Option Addr) (len : Nat) : Prop :=
  len ≤ 1048576 ∧ (0 < len → ∃ b off, a = some ⟨b, off, none⟩ ∧ b ≠ p ∧ ∀ j, j < len → ∃ x : Nat, x ≤ 255 ∧ w.cell? ⟨b, off + j, none⟩ = some (.int .u8 (x : Int)))

/-- A cursor lies at block p: the bytes, the place, the number. -/
def Cur (w : World) (p : Nat) (a : Option Addr) (len cap : Nat) : Prop :=
  ∃ (i : Nat) (h : Int), i ≤ len ∧ w.heap[p]? = some (.cells #[.slice a len cap, .int .i64 (i : Int), .int .i64 h] 102 (0, 0)) ∧ Bytes w p a len

theorem Cur.kept {w w' : World} {p : Nat} {a : Option Addr} {len cap : Nat} {row : Option Nat} (h : Cur w p a len cap) (hg : w.grownBy w' row) (hp : row ≠ some p) (hb : ∀ b off, a = some ⟨b, off, none⟩ → 0 < len → row ≠ some b) : Cur w' p a len cap := by
  obtain ⟨i, h, hi, hc, hl, hB⟩ := h
  refine ⟨i, h, hi, ?_, hl, fun hpos => ?_⟩
  · rw [hg.block p (Array.getElem?_eq_some_iff.1 hc).1 (fun e => hp e.symm)]; exact hc
  · obtain ⟨b, off, e, hne, hx⟩ := hB hpos
    refine ⟨b, off, e, hne, fun j hj => ?_⟩
    obtain ⟨x, hx1, hx2⟩ := hx j hj
    exact ⟨x, hx1, hg.cell hx2 (fun e2 => hb b off e hpos e2.symm)⟩

theorem cell_in {w : World} {p j : Nat} {cs : Array Value} {t : TypeId} {v : Value} (h : w.heap[p]? = some (.cells cs t (0, 0))) (hj : cs[j]? = some v) : w.cell? ⟨p, j, none⟩ = some v := by
  rw [cell_of_row w p j cs t (0, 0) h]; exact hj

theorem free_in {w : World} {p j : Nat} {cs : Array Value} {t : TypeId} (h : w.heap[p]? = some (.cells cs t (0, 0))) : w.frozen? ⟨p, j, none⟩ = false := by
  unfold World.frozen?
  rw [h]
  simp

theorem set_in {w : World} {p j : Nat} {cs : Array Value} {t : TypeId} (h : w.heap[p]? = some (.cells cs t (0, 0))) (v : Value) : (w.setCell ⟨p, j, none⟩ v).heap[p]? = some (.cells (cs.setIfInBounds j v) t (0, 0)) := by
  unfold World.setCell
  simp only [Array.getElem?_modify, if_true, h, Option.map_some]
  simp

theorem grown_set {w : World} {p j : Nat} {v : Value} : w.grownBy (w.setCell ⟨p, j, none⟩ v) (some p) :=
  ⟨rfl, rfl, rfl, by simp [World.setCell], fun k _ hk => Below.heap_setCell _ _ _ _ (fun e => hk (by rw [e]))⟩

theorem grown_trans {a b c : World} {row : Option Nat} (h : a.grownBy b row) (k : b.grownBy c row) : a.grownBy c row :=
  ⟨k.os.trans h.os, k.tape.trans h.tape, k.output.trans h.output, Nat.le_trans h.size k.size, fun i hi hne => (k.block i (Nat.lt_of_lt_of_le hi h.size) hne).trans (h.block i hi hne)⟩

theorem grown_drewN (w : World) (n : Nat) (row : Option Nat) : w.grownBy (w.drewN n) row := ⟨rfl, rfl, rfl, Nat.le_refl _, fun _ _ _ => rfl⟩

theorem Bytes.kept {w w' : World} {p : Nat} {a : Option Addr} {len : Nat} (h : Bytes w p a len) (hg : w.grownBy w' (some p)) : Bytes w' p a len := by
  refine ⟨h.1, fun hpos => ?_⟩
  obtain ⟨b, off, e, hne, hx⟩ := h.2 hpos
  refine ⟨b, off, e, hne, fun j hj => ?_⟩
  obtain ⟨x, h1, h2⟩ := hx j hj
  exact ⟨x, h1, hg.cell h2 (fun e => hne (Option.some.inj e))⟩

theorem byte_close {E : Int} {C : Prop} (hC : C) : ∃ x : Nat, x ≤ 255 ∧ Ending.returned (.int .i64 (bits .and .i64 E 255)) = .returned (.int .i64 (x : Int)) ∧ C := by
  obtain ⟨x, h1, h2⟩ := and255_byte E
  exact ⟨x, h1, by rw [h2], hC⟩

set_option maxRecDepth 100000 in
set_option maxHeartbeats 2000000 in
theorem byte_any (p : Nat) (a : Option Addr) (len cap : Nat) (w : World) (hC : Cur w p a len cap) :
    Calls Tryd.prog 90 #[.pointer (some ⟨p, 0, none⟩)] w fun e w' => ∃ x : Nat, x ≤ 255 ∧ e = .returned (.int .i64 (x : Int)) ∧ Cur w' p a len cap ∧ w.grownBy w' (some p) := by
  obtain ⟨i, h, hi, hc, hl, hB⟩ := hC
  have HB : Hid (Bytes w p a len) := ⟨hl, hB⟩
  have c0 := cell_in (j := 0) hc rfl
  have c1 := cell_in (j := 1) hc rfl
  have c2 := cell_in (j := 2) hc rfl
  have f1 := free_in (j := 1) hc
  have f2 := free_in (j := 2) hc
  by_cases hlt : i < len
  · obtain ⟨b, off, rfl, hne, hx⟩ := hB (by omega)
    obtain ⟨x, hx1, hx2⟩ := hx i hlt
    have hii : (i : Int) < (len : Int) := by omega
    have hi0 : (0 : Int) ≤ (i : Int) := by omega
    have hbp : b ≠ p := hne
    go_enter Tryd.func90, Tryd.ntmps90
    go_wp2
    go_quiet (fail)
    go_wp2
    go_quiet (fail)
    go_wp2
    go_quiet (fail)
    go_wp2
    go_ret
    apply byte_close
    refine And.intro ⟨i + 1, (wrap64 (wrap64 (h * 6364136223846793005) + 1442695040888963407)), by omega, ?_, ?_⟩ ?_
    · exact (set_in (j := 1) (set_in (j := 2) hc _) _)
    · exact Bytes.kept (Bytes.kept HB.out grown_set) (grown_trans (grown_drewN _ _ _) grown_set)
    · exact grown_trans (grown_trans grown_set (grown_drewN _ _ _)) grown_set
  · go_enter Tryd.func90, Tryd.ntmps90
    go_wp2
    go_quiet (fail)
    go_wp2
    go_quiet (fail)
    go_wp2
    go_ret
    apply byte_close
    refine And.intro ⟨i, (wrap64 (wrap64 (h * 6364136223846793005) + 1442695040888963407)), hi, ?_, ?_⟩ ?_
    · exact set_in (j := 2) hc _
    · exact Bytes.kept (Bytes.kept (Bytes.kept HB.out grown_set) (grown_drewN _ _ _)) (grown_drewN _ _ _)
    · exact grown_trans (grown_trans grown_set (grown_drewN _ _ _)) (grown_drewN _ _ _)

set_option maxRecDepth 100000 in
set_option maxHeartbeats 2000000 in
theorem below_any (n : Nat) (p : Nat) (a : Option Addr) (len cap : Nat) (w : World) (hC : Cur w p a len cap) (hn : n ≤ 4294967296) :
    Calls Tryd.prog 65 #[.pointer (some ⟨p, 0, none⟩), .int .i64 (n : Int)] w fun e w' => ∃ x : Nat, (0 < n → x < n) ∧ x < 4294967296 ∧ (n ≤ 256 → x ≤ 256) ∧ e = .returned (.int .i64 (x : Int)) ∧ Cur w' p a len cap ∧ w.grownBy w' (some p) := by
  have HC : Hid (Cur w p a len cap) := hC
  clear hC
  by_cases h0 : n = 0
  · subst h0
    go_enter Tryd.func65, Tryd.ntmps65
    go_wp2
    go_ret
    exact ⟨0, by omega, by omega, by omega, rfl, HC.out, World.grownBy.refl _ _⟩
  · by_cases h256 : n ≤ 256
    · go_enter Tryd.func65, Tryd.ntmps65
      go_wp2_with fail
      refine (byte_any p a len cap _ HC.out).mono ?_
      rintro e w1 ⟨x, hx, rfl, hc1, hg1⟩
      go_wp2
      go_ret
      refine ⟨x % n, fun h => Nat.mod_lt _ h, by have := Nat.mod_le x n; omega, by have := Nat.mod_le x n; omega, ?_, hc1, hg1⟩
      exact ret_int (a := (x : Int) % (n : Int)) (by simp)
    · have HN : (256 : Int) < (n : Int) := by omega
      go_enter Tryd.func65, Tryd.ntmps65
      go_wp2_with fail
      refine (byte_any p a len cap _ HC.out).mono ?_
      rintro e w1 ⟨x, hx, rfl, hc1, hg1⟩
      go_wp2_with fail
      refine (byte_any p a len cap _ hc1).mono ?_
      rintro e w2 ⟨y, hy, rfl, hc2, hg2⟩
      go_wp2_with fail
      refine (byte_any p a len cap _ hc2).mono ?_
      rintro e w3 ⟨z, hz, rfl, hc3, hg3⟩
      go_wp2_with fail
      refine (byte_any p a len cap _ hc3).mono ?_
      rintro e w4 ⟨v, hv, rfl, hc4, hg4⟩
      clear hc1 hc2 hc3
      go_wp2
      go_ret
      refine ⟨(x * 16777216 + y * 65536 + z * 256 + v) % n, fun h => Nat.mod_lt _ h, ?_, by omega, ?_, hc4, grown_trans (grown_trans (grown_trans hg1 hg2) hg3) hg4⟩
      · have := Nat.mod_lt (x * 16777216 + y * 65536 + z * 256 + v) (show 0 < n by omega)
        omega
      · exact ret_int (a := ((x : Int) * 16777216 + (y : Int) * 65536 + (z : Int) * 256 + (v : Int)) % (n : Int)) (by simp)

theorem once_any (n : Nat) (p : Nat) (a : Option Addr) (len cap : Nat) (w : World) (hC : Cur w p a len cap) (hn : n ≤ 256) :
    Calls Tryd.prog 31 #[.pointer (some ⟨p, 0, none⟩), .int .i64 (n : Int)] w fun e w' => ∃ b : Bool, e = .returned (.bool b) ∧ Cur w' p a len cap ∧ w.grownBy w' (some p) := by
  have HC : Hid (Cur w p a len cap) := hC
  clear hC
  go_enter Tryd.func31, Tryd.ntmps31
  go_wp2_with fail
  refine (below_any n p a len cap _ HC.out (by omega)).mono ?_
  rintro e w1 ⟨x, _, _, _, rfl, hc1, hg1⟩
  go_wp2
  go_ret
  exact ⟨_, rfl, hc1, hg1⟩

/-- The drawn bytes as they came in. -/
def Came (w : World) (a : Option Addr) (len : Nat) : Prop :=
  len ≤ 1048576 ∧ (0 < len → ∃ b off, a = some ⟨b, off, none⟩ ∧ ∀ j, j < len → ∃ x : Nat, x ≤ 255 ∧ w.cell? ⟨b, off + j, none⟩ = some (.int .u8 (x : Int)))

theorem Came.below {w w' : World} {a : Option Addr} {len : Nat} (h : Came w a len) (hb : Below w.heap.size w w') : Came w' a len := by
  refine ⟨h.1, fun hp => ?_⟩
  obtain ⟨b, off, e, hx⟩ := h.2 hp
  refine ⟨b, off, e, fun j hj => ?_⟩
  obtain ⟨x, h1, h2⟩ := hx j hj
  exact ⟨x, h1, (hb.cell (World.block_lt_of_cell? w _ h2)).trans h2⟩

set_option maxRecDepth 100000 in
set_option maxHeartbeats 1000000 in
theorem new_any (a : Option Addr) (len cap : Nat) (w : World) (hC : Came w a len) :
    Calls Tryd.prog 28 #[.slice a len cap] w fun e w' => e = .returned (.pointer (some ⟨w.heap.size, 0, none⟩)) ∧ Cur w' w.heap.size a len cap ∧ Below w.heap.size w w' := by
  have HC : Hid (Came w a len) := hC
  have hlen := hC.1
  clear hC
  go_enter Tryd.func28, Tryd.ntmps28
  go_wp2
  go_loop [3, 4] (fun h i => ∃ (k : Nat) (z : Int), i = .int .i64 k ∧ h = .int .i64 z ∧ k ≤ len) (fun _ i => len - (intOf i).toNat)
  case atStart => exact ⟨0, _, rfl, rfl, by omega⟩
  case round =>
    obtain ⟨k, z, rfl, rfl, hk⟩ := hrel
    have fin : ∀ w', w' = w.alloc (.cells #[.slice a len cap, .int .i64 0, .int .i64 z] 102) → Cur w' w.heap.size a len cap ∧ Below w.heap.size w w' := by
      rintro w' rfl
      refine ⟨⟨0, z, by omega, heap_alloc_new w _, HC.out.1, fun hp => ?_⟩, (Below.refl _ _).alloc (Nat.le_refl _) _⟩
      obtain ⟨b, off, e, hx⟩ := HC.out.2 hp
      have hb : b < w.heap.size := by obtain ⟨x, _, h2⟩ := hx 0 hp; exact World.block_lt_of_cell? w _ h2
      refine ⟨b, off, e, by omega, fun j hj => ?_⟩
      obtain ⟨x, h1, h2⟩ := hx j hj
      exact ⟨x, h1, (((Below.refl w.heap.size w).alloc (Nat.le_refl _) _).cell hb).trans h2⟩
    have FIN : Hid (∀ w', w' = w.alloc (.cells #[.slice a len cap, .int .i64 0, .int .i64 z] 102) → Cur w' w.heap.size a len cap ∧ Below w.heap.size w w') := fin
    clear fin
    by_cases hlt : k < len
    · by_cases h4 : k < 4000
      · obtain ⟨b, off, rfl, hx⟩ := HC.out.2 (by omega)
        obtain ⟨x, hx1, hx2⟩ := hx k hlt
        have hki : (k : Int) < (len : Int) := by omega
        go_wp2
        go_round
        case rel => exact ⟨k + 1, _, by go_num, rfl, by omega⟩
        case measure => simp [intOf]; omega
      · go_wp2
        go_ret
        exact ⟨rfl, FIN.out _ rfl⟩
    · go_wp2
      go_ret
      exact ⟨rfl, FIN.out _ rfl⟩

theorem grown_own {a b c : World} {r row : Option Nat} (h : a.grownBy b r) (k : b.grownBy c row) (hr : ∀ x, row = some x → a.heap.size ≤ x) : a.grownBy c r :=
  ⟨k.os.trans h.os, k.tape.trans h.tape, k.output.trans h.output, Nat.le_trans h.size k.size, fun i hi hne => (k.block i (Nat.lt_of_lt_of_le hi h.size) (fun e => by have := hr i e.symm; omega)).trans (h.block i hi hne)⟩

theorem Cur.lt {w : World} {p : Nat} {a : Option Addr} {len cap : Nat} (h : Cur w p a len cap) : p < w.heap.size := by
  obtain ⟨_, _, _, hc, _⟩ := h
  exact (Array.getElem?_eq_some_iff.1 hc).1

/-- A cursor is kept where nothing below B turns. -/
theorem Cur.grown {w w' : World} {p B : Nat} {a : Option Addr} {len cap : Nat} {row : Option Nat} (h : Cur w p a len cap) (hg : w.grownBy w' row) (hp : p < B) (hb : ∀ b off, a = some ⟨b, off, none⟩ → 0 < len → b < B) (hr : ∀ x, row = some x → B ≤ x) : Cur w' p a len cap :=
  h.kept hg (fun e => by have := hr p e; omega) (fun b off e hl e2 => by have := hr b e2; have := hb b off e hl; omega)

theorem Cur.code {w : World} {p : Nat} {a : Option Addr} {len cap : Nat} (h : Cur w p a len cap) : ∀ b off, a = some ⟨b, off, none⟩ → 0 < len → b < w.heap.size := by
  intro b off e hl
  obtain ⟨_, _, _, _, _, hB⟩ := h
  obtain ⟨b', off', e', _, hx⟩ := hB hl
  rw [e] at e'
  have := Option.some.inj e'
  obtain ⟨x, _, h2⟩ := hx 0 hl
  have hb := World.block_lt_of_cell? w _ h2
  simp at this
  rw [this.1]
  exact hb

theorem Tryd.infoI : (Tryd.prog.info? 3).map (fun i => (i.zero, i.size, i.bytes)) = some (some (.int .i64 0), 1, 8) := by kernel_rfl

theorem own_lower {w : World} {base base' e size : Nat} {v : Value} {n : Nat} {xs : List Value} (h : w.ownsRow base e size v n xs) (hb : base' ≤ base) : w.ownsRow base' e size v n xs := by
  refine ⟨h.1, ?_⟩
  rcases h.2 with hn | ⟨g, cap, cur, rfl, hg, rest⟩
  · exact .inl hn
  · exact .inr ⟨g, cap, cur, rfl, Nat.le_trans hb hg, rest⟩

def Raw (w : World) (a : Option Addr) (len : Nat) : Prop :=
  0 < len → ∃ b off, a = some ⟨b, off, none⟩ ∧ ∀ j, j < len → ∃ x : Nat, x ≤ 255 ∧ w.cell? ⟨b, off + j, none⟩ = some (.int .u8 (x : Int))

theorem big_no (a : Option Addr) (len cap : Nat) (w : World) (h : len ≤ 1048576) :
    Calls Tryd.prog 6 #[.slice a len cap] w fun e w' => e = .returned (.bool false) ∧ w = w' := by
  have d : decide ((1048576 : Int) < (len : Int)) = false := by simp; omega
  go_enter Tryd.func6, Tryd.ntmps6
  go_wp2
  go_ret
  exact ⟨rfl, rfl⟩

theorem big_yes (a : Option Addr) (len cap : Nat) (w : World) (h : 1048576 < len) :
    Calls Tryd.prog 6 #[.slice a len cap] w fun e w' => e = .returned (.bool true) ∧ w = w' := by
  have d : decide ((1048576 : Int) < (len : Int)) = true := by simp; omega
  go_enter Tryd.func6, Tryd.ntmps6
  go_wp2
  go_ret
  exact ⟨rfl, rfl⟩

end Go.Proofs.YthflflhcbnianaaDoor
