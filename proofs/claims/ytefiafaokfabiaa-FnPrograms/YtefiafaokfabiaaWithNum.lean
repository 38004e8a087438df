/- What impl.withNumber appends: a number's bytes, the highest first. -/
import Derived.Test.YtefiafaokfabiaaShaMath
import Derived.Test.YtefiafaokfabiaaInfoB
import Derived.WalkKit
import Derived.WalkSpells
import Derived.Below
namespace Go.Proofs.Ytefiafaokfabiaa
open Go.RowKit
set_option linter.unusedVariables false

/-- The k lowest bytes of a number, the highest first. -/
def beN : Nat → Nat → List UInt8
  | 0, _ => []
  | k + 1, n => UInt8.ofNat (n / 2 ^ (8 * k)) :: beN k n

theorem beN_length (k n : Nat) : (beN k n).length = k := by
  induction k with
  | zero => rfl
  | succ k ih => simp [beN, ih]

theorem beN_8 (n : Nat) : beN 8 n = be8 n := by simp [beN, be8]

theorem beN_4 (n : Nat) : beN 4 n = be4 n := by simp [beN, be4]

theorem u8_of_div (n d : Nat) : (n : Int) / 2 ^ d % 256 = ((UInt8.ofNat (n / 2 ^ d)).toNat : Int) := by
  rw [show (n : Int) / 2 ^ d = ((n / 2 ^ d : Nat) : Int) by simp]
  simp

set_option maxHeartbeats 800000 in
theorem withNumber_any (base n k : Nat) (l : List UInt8) (v : Value) (w : World) (hn : n < 18446744073709551616) (hk : k ≤ 8) (hl : l.length ≤ 50000000) (hb : base ≤ w.heap.size) (hown : w.ownsRow base 5 1 v l.length (bytesV l)) :
    Calls Try.prog 40 #[v, .int .u64 (n : Int), .int .i64 (k : Int)] w fun e w' => ∃ v', e = .returned v' ∧ w'.ownsRow base 5 1 v' (l.length + k) (bytesV (l ++ beN k n)) ∧ Below base w w' := by
  obtain ⟨i0, hi, hz0, hz1, hz2⟩ := info_parts Try.infoB
  go_enter Try.func40, Try.ntmps40
  go_wp2
  go_loopw [0, 7] (fun v0 v7 wr => ∃ (r : Nat) (l' : List UInt8), v7 = .int .i64 (8 * ((r : Int) - 1)) ∧ r ≤ k ∧ l'.length + r = l.length + k ∧ Hid (l ++ beN k n = l' ++ beN r n) ∧ wr.ownsRow base 5 1 v0 l'.length (bytesV l') ∧ Below base w wr)
    (fun _ v _ => (intOf v + 8).toNat)
  case atStart => exact ⟨k, l, rfl, by omega, rfl, rfl, hown, Below.refl _ _⟩
  case round =>
    obtain ⟨r, l', rfl, hr, hlen, hE, hown', hb'⟩ := hrel
    have hbs := hb'.size
    by_cases h0 : r = 0
    · subst h0
      have hd : ¬ ((0 : Int) ≤ 8 * (((0 : Nat) : Int) - 1)) := by omega
      go_wp2
      go_ret
      refine ⟨_, rfl, ?_, hb'⟩
      have h1 : l.length + k = l'.length := by omega
      have h2 : l ++ beN k n = l' := by rw [hE.out]; simp [beN]
      rw [h1, h2]
      exact hown'
    · obtain ⟨q, rfl⟩ : ∃ q, r = q + 1 := ⟨r - 1, by omega⟩
      obtain ⟨d, hd⟩ : ∃ d, d = 8 * q := ⟨_, rfl⟩
      have e1 : 8 * (((q + 1 : Nat) : Int) - 1) = (d : Int) := by omega
      have hd64 : (d : Int) < 64 := by omega
      rw [e1]
      have HD : Hid (d = 8 * q) := hd
      clear hd e1
      go_wp2_with (at_builtin; refine wpList_append_own _ rfl _ _ 22 rfl base 5 i0 (.int .u8 0) 1 1 Try.underlying22 hi hz0 hz1 hz2 rfl (by decide) _ _ _ rfl (hown'.alloc _) ⟨wr.heap.size, 0, none⟩ 1 1 [.int .u8 ((n : Int) / 2 ^ d % 256)] rfl rfl ?c1 ?c2 ?c3 ?c4 ?c5 ?_)
      case c1 => exact cell_one_new _ _ _
      case c2 => intro u hu; simp at hu; subst hu; rfl
      case c3 => unfold maxLen; omega
      case c4 => omega
      case c5 => simp; omega
      · intro v' w1 hown1 hgrow _
        rw [bytesV_push l' (UInt8.ofNat (n / 2 ^ d)) _ (u8_of_div n d)] at hown1
        have hb1 : Below base w w1 := (hb'.alloc (by omega) _).grown hgrow (by simp; omega) (fun k hk => (hown'.lt k hk).1)
        clear hgrow hown' hb'
        go_wp2
        go_roundw
        case rel => exact ⟨q, l' ++ [UInt8.ofNat (n / 2 ^ d)], by rw [HD.out]; congr 1; omega, by omega, by simp; omega, by unfold Hid; rw [hE.out, beN, HD.out]; simp, by simpa using hown1, hb1⟩
        case measure => have := HD.out; simp [intOf]; omega

end Go.Proofs.Ytefiafaokfabiaa
