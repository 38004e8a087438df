/- What the laws' own turned answers: a text with one byte another; and what the draws of texts answer. -/
import Derived.Test.YtakcmiijnckaaaaCodeIn
import Derived.Test.YtakcmiijnckaaaaInfoB
import Derived.Deep.RegionHeld3
import Derived.Lib.ConvBytes
namespace Go.Proofs.Ytakcmiijnckaaaa
open Go.RowKit
set_option linter.unusedVariables false

theorem xorRight (a b c : Nat) (h : a ^^^ c = b ^^^ c) : a = b := by
  have h2 := congrArg (· ^^^ c) h
  simpa [Nat.xor_assoc] using h2

theorem xorNe (a d : Nat) (hd : 0 < d) (hd2 : d < 256) (ha : a < 256) : UInt8.ofNat (a ^^^ d) ≠ UInt8.ofNat a := by
  intro h
  have hx : a ^^^ d < 256 := by
    have h1 : a < 2 ^ 8 := by omega
    have h2 : d < 2 ^ 8 := by omega
    have := Nat.xor_lt_two_pow h1 h2
    omega
  have k1 := byte_of _ hx
  have k2 := byte_of _ ha
  rw [h] at k1
  have h0 : d ^^^ a = 0 ^^^ a := by rw [Nat.xor_comm d a]; simp; omega
  have := xorRight d 0 a h0
  omega

/-- '[]byte(s)': the bytes in a new row that may be written. -/
theorem conv_bytes (L : List UInt8) (m : Nat) (hm : L.length = m) (w : World) : ∃ w5 c, (convert 9 22 (.string ⟨L.toArray⟩)).run Try.prog w = .ok (.slice (some ⟨w.heap.size, 0, none⟩) m c) w5 ∧ Below w.heap.size w w5 ∧ w5.heap.size = w.heap.size + 1 ∧
    ∀ j, j < m → ∃ b : UInt8, L[j]? = some b ∧ w5.cell? ⟨w.heap.size, j, none⟩ = some (.int .u8 (b.toNat : Int)) ∧ w5.frozen? ⟨w.heap.size, j, none⟩ = false := by
  have hs : (⟨L.toArray⟩ : ByteArray).size = m := by show L.toArray.size = _; rw [List.size_toArray, hm]
  refine ⟨Lib.bytesWorld w 5 ⟨L.toArray⟩, grownCap w m 0 5, ?_, ⟨rfl, rfl, rfl, ?_, fun j hj => Lib.bytesWorld_at_old w 5 _ j hj⟩, Lib.bytesWorld_size _ _ _, fun j hj => ?_⟩
  · rw [Lib.run_convert_string_bytes w 9 22 5 ⟨L.toArray⟩ Try.underlying9 Try.underlying22 Try.underlying5, hs]
  · rw [Lib.bytesWorld_size]; omega
  · have hj' : j < L.length := by omega
    refine ⟨L[j], List.getElem?_eq_getElem hj', ?_, ?_⟩
    · rw [Lib.bytesWorld_cell w 5 ⟨L.toArray⟩ j (by omega)]
      simp [List.getD, hj']
    · unfold World.frozen?
      simp only [Lib.bytesWorld_at_new]
      simp [Lib.bytesCells]
      omega

set_option maxRecDepth 100000 in
set_option maxHeartbeats 1000000 in
theorem pick_at (n : Nat) (cs : Array Value) (q : Nat) (p : Nat) (a : Option Addr) (len cap : Nat) (w : World) (zs : List Int) (hC : Cur w p a len cap) (hq : w.heap[q]? = some (.cells cs 3 (0, 0))) (hqp : q ≠ p) (h0 : 0 < n) (hn : n ≤ 256)
    (hall : ∀ j, j < n → ∃ z : Int, z ∈ zs ∧ cs[j]? = some (.int .i64 z)) :
    Calls Try.prog 66 #[.pointer (some ⟨p, 0, none⟩), .slice (some ⟨q, 0, none⟩) n n] w fun e w' => ∃ z : Int, z ∈ zs ∧ e = .returned (.int .i64 z) ∧ Cur w' p a len cap ∧ w.grownBy w' (some p) := by
  have HC : Hid (Cur w p a len cap) := hC
  have HA : Hid (∀ j, j < n → ∃ z : Int, z ∈ zs ∧ cs[j]? = some (.int .i64 z)) := hall
  have HQ : Hid (w.heap[q]? = some (.cells cs 3 (0, 0))) := hq
  clear hC hall hq
  go_enter Try.func66, Try.ntmps66
  go_wp2_with fail
  refine (below_any n p a len cap _ HC.out (by omega)).mono ?_
  rintro e w1 ⟨x, hx, _, _, rfl, hc1, hg1⟩
  have hxn := hx h0
  obtain ⟨z, z1, hz⟩ := HA.out x hxn
  have hq1 : w1.heap[q]? = some (.cells cs 3 (0, 0)) := (hg1.block q (Array.getElem?_eq_some_iff.1 HQ.out).1 (by simpa using hqp)).trans HQ.out
  have hcell : w1.cell? ⟨q, x, none⟩ = some (.int .i64 z) := cell_in hq1 hz
  have hxi : (x : Int) < (n : Int) := by omega
  clear hq1 hx hz
  go_wp2
  go_ret
  exact ⟨z, z1, rfl, hc1, hg1⟩

end Go.Proofs.Ytakcmiijnckaaaa
