/- What spec.l03Turn and math/bits.RotateLeft32 answer: the word turned right. -/
import Derived.Test.YtfbdbeaijkhbfaaDoorRows
import Derived.Test.YtfbdbeaijkhbfaaDoorShaMath
import Derived.WalkKit
import Derived.WalkSmall
namespace Go.Proofs.YtfbdbeaijkhbfaaDoor
open Go.RowKit
set_option linter.unusedVariables false

theorem rot_or (k x : Nat) (hx : x < 4294967296) : bits .or .u32 ((x : Int) / 2 ^ k) ((x : Int) * 2 ^ (32 - k) % 4294967296) = (rot k x : Nat) := by
  have e1 : ((x : Int) / 2 ^ k) = ((x / 2 ^ k : Nat) : Int) := by simp
  have e2 : ((x : Int) * 2 ^ (32 - k) % 4294967296) = ((x * 2 ^ (32 - k) % 4294967296 : Nat) : Int) := by simp
  rw [e1, e2, u32_or_nat _ _ (Nat.lt_of_le_of_lt (Nat.div_le_self _ _) hx) (Nat.mod_lt _ (by omega))]
  rfl

theorem rot_or' (k x : Nat) (hx : x < 4294967296) : bits .or .u32 ((x : Int) * 2 ^ (32 - k) % 4294967296) ((x : Int) / 2 ^ k) = (rot k x : Nat) := by
  have e1 : ((x : Int) / 2 ^ k) = ((x / 2 ^ k : Nat) : Int) := by simp
  have e2 : ((x : Int) * 2 ^ (32 - k) % 4294967296) = ((x * 2 ^ (32 - k) % 4294967296 : Nat) : Int) := by simp
  rw [e1, e2, u32_or_nat _ _ (Nat.mod_lt _ (by omega)) (Nat.lt_of_le_of_lt (Nat.div_le_self _ _) hx), Nat.or_comm]
  rfl

theorem turn_any (k x : Nat) (w : World) (hk : 0 < k) (hk2 : k < 32) (hx : x < 4294967296) :
    Calls Tryd.prog 41 #[.int .u32 (x : Int), .int .u64 (k : Int)] w fun e w' => e = .returned (.int .u32 (rot k x : Nat)) ∧ w = w' := by
  go_enter Tryd.func41, Tryd.ntmps41
  go_wp2
  go_ret
  exact ⟨ret_int (rot_or k x hx), rfl⟩

theorem rotl_any (k m x : Nat) (z : Int) (w : World) (hz : z = -(k : Int)) (hm : k + m = 32) (hk : 0 < k) (hk2 : k < 32) (hx : x < 4294967296) :
    Calls Tryd.prog 40 #[.int .u32 (x : Int), .int .i64 z] w fun e w' => e = .returned (.int .u32 (rot k x : Nat)) ∧ w = w' := by
  have e1 : bits .and .u64 (IntKind.u64.wrap z) 31 = (m : Int) := by
    rw [show IntKind.u64.wrap z = z % 18446744073709551616 by simp [IntKind.wrap, IntKind.bits, IntKind.signed]]
    have : z % 18446744073709551616 = ((18446744073709551616 - k : Nat) : Int) := by omega
    rw [this, show (31 : Int) = ((31 : Nat) : Int) from rfl, u64_and_nat _ _ (by omega) (by omega), nat_mask5]
    omega
  have hm' : m < 32 := by omega
  have hm0 : 0 < m := by omega
  clear hz
  have HH : Hid (bits .or .u32 ((x : Int) * 2 ^ m % 4294967296) ((x : Int) / 2 ^ (32 - m)) = (rot k x : Nat)) := by
    have := rot_or' k x hx
    rw [show 32 - k = m by omega] at this
    rw [show 32 - m = k by omega]
    exact this
  clear hm hk hk2
  go_enter Tryd.func40, Tryd.ntmps40
  go_wp2
  go_ret
  exact ⟨ret_int HH.out, rfl⟩

theorem rotl_at (k m x r : Nat) (z : Int) (w : World) (hz : z = -(k : Int)) (hm : k + m = 32) (hk : 0 < k) (hk2 : k < 32) (hx : x < 4294967296) (hr : r = rot k x) :
    Calls Tryd.prog 40 #[.int .u32 (x : Int), .int .i64 z] w fun e w' => e = .returned (.int .u32 (r : Int)) ∧ w = w' := by
  subst hr; exact rotl_any k m x z w hz hm hk hk2 hx

theorem turn_at (k x r : Nat) (z : Int) (w : World) (hz : z = (k : Int)) (hk : 0 < k) (hk2 : k < 32) (hx : x < 4294967296) (hr : r = rot k x) :
    Calls Tryd.prog 41 #[.int .u32 (x : Int), .int .u64 z] w fun e w' => e = .returned (.int .u32 (r : Int)) ∧ w = w' := by
  subst hr; subst hz; exact turn_any k x w hk hk2 hx

theorem turn_q (k x r : Nat) (z : Int) (w : World) (hz : z = (k : Int)) (hk : 0 < k) (hk2 : k < 32) (hx : x < 4294967296) (hr : r = rot k x) :
    Calls Tryd.prog 41 #[.int .u32 (x : Int), .int .u64 z] w fun e w' => e = .returned (.int .u32 (r : Int)) ∧ w' = w :=
  (turn_at k x r z w hz hk hk2 hx hr).mono fun e w' ⟨h1, h2⟩ => ⟨h1, h2.symm⟩

theorem be_bits (a b c d : Nat) (ha : a < 256) (hb : b < 256) (hc : c < 256) (hd : d < 256) :
    bits .or .u32 (bits .or .u32 (bits .or .u32 ((a : Int) % 4294967296 * 16777216 % 4294967296) ((b : Int) % 4294967296 * 65536 % 4294967296)) ((c : Int) % 4294967296 * 256 % 4294967296)) ((d : Int) % 4294967296) = (be a b c d : Nat) := by
  have e1 : (a : Int) % 4294967296 * 16777216 % 4294967296 = ((a * 16777216 : Nat) : Int) := by omega
  have e2 : (b : Int) % 4294967296 * 65536 % 4294967296 = ((b * 65536 : Nat) : Int) := by omega
  have e3 : (c : Int) % 4294967296 * 256 % 4294967296 = ((c * 256 : Nat) : Int) := by omega
  have e4 : (d : Int) % 4294967296 = ((d : Nat) : Int) := by omega
  rw [e1, e2, e3, e4, u32_or_nat _ _ (by omega) (by omega), u32_or_nat _ _ (or_lt32 _ _ (by omega) (by omega)) (by omega),
    u32_or_nat _ _ (or_lt32 _ _ (or_lt32 _ _ (by omega) (by omega)) (by omega)) (by omega)]
  rfl

theorem byteD_at (s : ByteArray) (j : Nat) (h : j < s.size) : byteD s.data.toList j = (s[j]'h).toNat := by
  unfold byteD
  have h2 : j < s.data.toList.length := h
  rw [List.getD_eq_getElem?_getD, List.getElem?_eq_getElem h2]
  rfl

end Go.Proofs.YtfbdbeaijkhbfaaDoor
