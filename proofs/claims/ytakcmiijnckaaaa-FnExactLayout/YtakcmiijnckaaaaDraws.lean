/- What the draws' small helpers answer: l01Below a number below n, l01Once a bool, l01New a cursor. -/
import Derived.Test.YtakcmiijnckaaaaCursor
namespace Go.Proofs.Ytakcmiijnckaaaa
open Go.RowKit
set_option linter.unusedVariables false

set_option maxRecDepth 100000 in
set_option maxHeartbeats 2000000 in
theorem below_any (n : Nat) (p : Nat) (a : Option Addr) (len cap : Nat) (w : World) (hC : Cur w p a len cap) (hn : n ≤ 4294967296) :
    Calls Try.prog 62 #[.pointer (some ⟨p, 0, none⟩), .int .i64 (n : Int)] w fun e w' => ∃ x : Nat, (0 < n → x < n) ∧ x < 4294967296 ∧ (n ≤ 256 → x ≤ 256) ∧ e = .returned (.int .i64 (x : Int)) ∧ Cur w' p a len cap ∧ w.grownBy w' (some p) := by
  have HC : Hid (Cur w p a len cap) := hC
  clear hC
  by_cases h0 : n = 0
  · subst h0
    go_enter Try.func62, Try.ntmps62
    go_wp2
    go_ret
    exact ⟨0, by omega, by omega, by omega, rfl, HC.out, World.grownBy.refl _ _⟩
  · by_cases h256 : n ≤ 256
    · go_enter Try.func62, Try.ntmps62
      go_wp2_with fail
      refine (byte_any p a len cap _ HC.out).mono ?_
      rintro e w1 ⟨x, hx, rfl, hc1, hg1⟩
      go_wp2
      go_ret
      refine ⟨x % n, fun h => Nat.mod_lt _ h, by have := Nat.mod_le x n; omega, by have := Nat.mod_le x n; omega, ?_, hc1, hg1⟩
      exact ret_int (a := (x : Int) % (n : Int)) (by simp)
    · have HN : (256 : Int) < (n : Int) := by omega
      go_enter Try.func62, Try.ntmps62
      go_wp2_with fail
      refine (byte_any p a len cap _ HC.out).mono ?_
      rintro e w1 ⟨x, hx, rfl, hc1, hg1⟩
      go_wp2_with fail
      refine (byte_any p a len cap _ hc1).mono ?_
      rintro e w2 ⟨y, hy, rfl, hc2, hg2⟩
      go_wp2_with fail
      refine (byte_any p a len cap _ hc2).mono ?_
      rintro e w3 ⟨z, hz, rfl, hc3, hg3⟩
      go_wp2_with fail
      refine (byte_any p a len cap _ hc3).mono ?_
      rintro e w4 ⟨v, hv, rfl, hc4, hg4⟩
      clear hc1 hc2 hc3
      go_wp2
      go_ret
      refine ⟨(x * 16777216 + y * 65536 + z * 256 + v) % n, fun h => Nat.mod_lt _ h, ?_, by omega, ?_, hc4, grown_trans (grown_trans (grown_trans hg1 hg2) hg3) hg4⟩
      · have := Nat.mod_lt (x * 16777216 + y * 65536 + z * 256 + v) (show 0 < n by omega)
        omega
      · exact ret_int (a := ((x : Int) * 16777216 + (y : Int) * 65536 + (z : Int) * 256 + (v : Int)) % (n : Int)) (by simp)

theorem once_any (n : Nat) (p : Nat) (a : Option Addr) (len cap : Nat) (w : World) (hC : Cur w p a len cap) (hn : n ≤ 256) :
    Calls Try.prog 67 #[.pointer (some ⟨p, 0, none⟩), .int .i64 (n : Int)] w fun e w' => ∃ b : Bool, e = .returned (.bool b) ∧ Cur w' p a len cap ∧ w.grownBy w' (some p) := by
  have HC : Hid (Cur w p a len cap) := hC
  clear hC
  go_enter Try.func67, Try.ntmps67
  go_wp2_with fail
  refine (below_any n p a len cap _ HC.out (by omega)).mono ?_
  rintro e w1 ⟨x, _, _, _, rfl, hc1, hg1⟩
  go_wp2
  go_ret
  exact ⟨_, rfl, hc1, hg1⟩

/-- The drawn bytes as they came in. -/
def Came (w : World) (a : Option Addr) (len : Nat) : Prop :=
  len ≤ 1048576 ∧ (0 < len → ∃ b off, a = some ⟨b, off, none⟩ ∧ ∀ j, j < len → ∃ x : Nat, x ≤ 255 ∧ w.cell? ⟨b, off + j, none⟩ = some (.int .u8 (x : Int)))

theorem Came.below {w w' : World} {a : Option Addr} {len : Nat} (h : Came w a len) (hb : Below w.heap.size w w') : Came w' a len := by
  refine ⟨h.1, fun hp => ?_⟩
  obtain ⟨b, off, e, hx⟩ := h.2 hp
  refine ⟨b, off, e, fun j hj => ?_⟩
  obtain ⟨x, h1, h2⟩ := hx j hj
  exact ⟨x, h1, (hb.cell (World.block_lt_of_cell? w _ h2)).trans h2⟩

set_option maxRecDepth 100000 in
set_option maxHeartbeats 1000000 in
theorem new_any (a : Option Addr) (len cap : Nat) (w : World) (hC : Came w a len) :
    Calls Try.prog 36 #[.slice a len cap] w fun e w' => e = .returned (.pointer (some ⟨w.heap.size, 0, none⟩)) ∧ Cur w' w.heap.size a len cap ∧ Below w.heap.size w w' := by
  have HC : Hid (Came w a len) := hC
  have hlen := hC.1
  clear hC
  go_enter Try.func36, Try.ntmps36
  go_wp2
  go_loop [3, 4] (fun h i => ∃ (k : Nat) (z : Int), i = .int .i64 k ∧ h = .int .i64 z ∧ k ≤ len) (fun _ i => len - (intOf i).toNat)
  case atStart => exact ⟨0, _, rfl, rfl, by omega⟩
  case round =>
    obtain ⟨k, z, rfl, rfl, hk⟩ := hrel
    have fin : ∀ w', w' = w.alloc (.cells #[.slice a len cap, .int .i64 0, .int .i64 z] 96) → Cur w' w.heap.size a len cap ∧ Below w.heap.size w w' := by
      rintro w' rfl
      refine ⟨⟨0, z, by omega, heap_alloc_new w _, HC.out.1, fun hp => ?_⟩, (Below.refl _ _).alloc (Nat.le_refl _) _⟩
      obtain ⟨b, off, e, hx⟩ := HC.out.2 hp
      have hb : b < w.heap.size := by obtain ⟨x, _, h2⟩ := hx 0 hp; exact World.block_lt_of_cell? w _ h2
      refine ⟨b, off, e, by omega, fun j hj => ?_⟩
      obtain ⟨x, h1, h2⟩ := hx j hj
      exact ⟨x, h1, (((Below.refl w.heap.size w).alloc (Nat.le_refl _) _).cell hb).trans h2⟩
    have FIN : Hid (∀ w', w' = w.alloc (.cells #[.slice a len cap, .int .i64 0, .int .i64 z] 96) → Cur w' w.heap.size a len cap ∧ Below w.heap.size w w') := fin
    clear fin
    by_cases hlt : k < len
    · by_cases h4 : k < 4000
      · obtain ⟨b, off, rfl, hx⟩ := HC.out.2 (by omega)
        obtain ⟨x, hx1, hx2⟩ := hx k hlt
        have hki : (k : Int) < (len : Int) := by omega
        go_wp2
        go_round
        case rel => exact ⟨k + 1, _, by go_num, rfl, by omega⟩
        case measure => simp [intOf]; omega
      · go_wp2
        go_ret
        exact ⟨rfl, FIN.out _ rfl⟩
    · go_wp2
      go_ret
      exact ⟨rfl, FIN.out _ rfl⟩

end Go.Proofs.Ytakcmiijnckaaaa
