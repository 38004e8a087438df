/- What spec.SumMore, spec.SumOf and l02Four answer: the sum of the bytes, step by step; a sum's four bytes. -/
import Derived.Test.YtjanhiaadjbleaaDoorRows
import Derived.Test.YtjanhiaadjbleaaDoorInfoB
import Derived.Test.YtjanhiaadjbleaaDoorSumMath
import Derived.WalkKit
import Derived.WalkSpells
namespace Go.Proofs.YtjanhiaadjbleaaDoor
open Go.RowKit
set_option linter.unusedVariables false

theorem ret_u32 {a b : Nat} (h : a = b) : Ending.returned (.int .u32 (a : Int)) = .returned (.int .u32 (b : Int)) := by rw [h]

theorem half1_odd (x : Nat) (h : x % 2 = 1) : half1 x = x / 2 ^^^ 3558460437 := by unfold half1; rw [h]; rfl

theorem half1_even (x : Nat) (h : x % 2 = 0) : half1 x = x / 2 := by unfold half1; rw [h]; show x / 2 ^^^ 0 = _; simp

set_option maxRecDepth 100000 in
set_option maxHeartbeats 1000000 in
theorem sSumMore_any (s : Nat) (t : ByteArray) (w : World) (hs : s < 4294967296) (ht : t.size ≤ 1048576) :
    Calls Tryd.prog 15 #[.int .u32 (s : Int), .string t] w fun e w' => e = .returned (.int .u32 (sumL s t.data.toList : Nat)) ∧ w = w' := by
  go_enter Tryd.func15, Tryd.ntmps15
  go_wp2
  go_loop [0, 5] (fun x i => ∃ (k y : Nat), i = .int .i64 k ∧ x = .int .u32 y ∧ k ≤ t.size ∧ y < 4294967296 ∧ Hid (y = sumL s (t.data.toList.take k))) (fun _ i => t.size - (intOf i).toNat)
  case atStart => exact ⟨0, s, rfl, rfl, by omega, hs, by unfold Hid; rfl⟩
  case round =>
    obtain ⟨k, y, rfl, rfl, hk, hy, hY⟩ := hrel
    by_cases hlt : k < t.size
    · have hx : t[k].toNat < 256 := t[k].toNat_lt
      have k1 : (k : Int) < (t.size : Int) := by omega
      obtain ⟨z, hz⟩ : ∃ z, z = y ^^^ t[k].toNat := ⟨_, rfl⟩
      have hzl : z < 4294967296 := by rw [hz]; exact xor_byte_lt y _ hy
      have hxor : bits .xor .u32 (y : Int) (t[k].toNat : Int) = (z : Int) := by rw [hz]; exact u32_xor_nat y _ hy (by omega)
      have hZ : Hid (sumB y t[k] = halfN 8 z) := by unfold Hid sumB; rw [hz]
      clear hz
      go_wp2
      go_loop [0, 6] (fun x i => ∃ (j u : Nat), i = .int .i64 j ∧ x = .int .u32 u ∧ j ≤ 8 ∧ u < 4294967296 ∧ Hid (u = halfN j z)) (fun _ i => 8 - (intOf i).toNat)
      case atStart => exact ⟨0, z, rfl, rfl, by omega, hzl, by unfold Hid; rfl⟩
      case round =>
        obtain ⟨j, u, rfl, rfl, hj, hu, hU⟩ := hrel
        by_cases hj8 : j < 8
        · obtain ⟨q, hq⟩ : ∃ q, q = u / 2 := ⟨_, rfl⟩
          have hql : q < 4294967296 := by omega
          rcases Nat.mod_two_eq_zero_or_one u with hm | hm
          · have d1 : ((u : Int) % 2 == 1) = false := by simp; omega
            have hN : Hid (u / 2 = halfN (j + 1) z) := by
              unfold Hid; show _ = half1 (halfN j z); rw [← hU.out, half1_even u hm]
            go_wp2
            go_round
            case rel => exact ⟨j + 1, u / 2, by go_num, by go_num, by omega, by omega, hN⟩
            case measure => simp [intOf]; omega
          · have d1 : ((u : Int) % 2 == 1) = true := by simp; omega
            have hxp : bits .xor .u32 ((u : Int) / 2) 3558460437 = ((u / 2 ^^^ 3558460437 : Nat) : Int) := by
              have := u32_xor_nat (u / 2) 3558460437 (by omega) (by omega)
              rw [← this]; simp
            have hN : Hid (u / 2 ^^^ 3558460437 = halfN (j + 1) z) := by
              unfold Hid; show _ = half1 (halfN j z); rw [← hU.out, half1_odd u hm]
            have hNl : u / 2 ^^^ 3558460437 < 4294967296 := by rw [hN.out]; exact halfN_lt z hzl _
            go_wp2
            go_round
            case rel => exact ⟨j + 1, u / 2 ^^^ 3558460437, by go_num, rfl, by omega, hNl, hN⟩
            case measure => simp [intOf]; omega
        · have h8 : j = 8 := by omega
          subst h8
          go_wp2
          go_round
          case rel => exact ⟨k + 1, u, by go_num, rfl, by omega, hu, by unfold Hid; rw [sumL_take s t k hlt, ← hY.out, hZ.out, hU.out]⟩
          case measure => simp [intOf]; omega
    · have hkk : k = t.size := by omega
      have hE : Hid (y = sumL s t.data.toList) := by unfold Hid; rw [hY.out, hkk, List.take_of_length_le (by simp)]
      clear hkk
      go_wp2
      go_ret
      exact ⟨by rw [hE.out]; rfl, rfl⟩

theorem sSumOf_any (t : ByteArray) (w : World) (ht : t.size ≤ 1048576) :
    Calls Tryd.prog 16 #[.string t] w fun e w' => e = .returned (.int .u32 (sumL 4294967295 t.data.toList : Nat)) ∧ w = w' := by
  go_enter Tryd.func16, Tryd.ntmps16
  go_wp2_with fail
  refine (sSumMore_any 4294967295 t _ (by omega) ht).mono ?_
  rintro e w' ⟨rfl, rfl⟩
  go_wp2
  go_ret
  exact ⟨rfl, rfl⟩

end Go.Proofs.YtjanhiaadjbleaaDoor
