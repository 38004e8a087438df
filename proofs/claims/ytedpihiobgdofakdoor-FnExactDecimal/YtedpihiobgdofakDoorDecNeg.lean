/- What spec.Decimal answers at every number below 0, and at every int: the library's numeral. -/
import Derived.Test.YtedpihiobgdofakDoorDecS
import Derived.Lib.ItoaNum
import Derived.WalkKit
import Derived.WalkSpells
namespace Go.Proofs.YtedpihiobgdofakDoor
open Go.RowKit
set_option linter.unusedVariables false

theorem decS_digits : ∀ k n : Nat, n ≤ k → decS n = Lib.decDigits n := by
  intro k
  induction k with
  | zero =>
    intro n h
    obtain rfl : n = 0 := by omega
    rw [Lib.decDigits_one (by omega)]
    rfl
  | succ k ih =>
    intro n h
    by_cases h10 : n < 10
    · rw [Lib.decDigits_one h10]
      unfold decS
      by_cases h0 : n = 0
      · subst h0; rfl
      · rw [if_neg h0, dec_pos n (by omega), show n / 10 = 0 by omega, dec_zero, show n % 10 = n by omega]
        unfold hexD hexN
        rw [if_pos h10]
        rfl
    · have := ih (n / 10) (by omega)
      unfold decS at this ⊢
      rw [if_neg (by omega)] at this
      rw [if_neg (by omega), dec_pos n (by omega), this]
      conv => rhs; rw [Lib.decDigits, dif_neg h10]
      unfold hexD hexN
      rw [if_pos (by omega)]

theorem dec_len : ∀ k n : Nat, n < 10 ^ k → (dec n).length ≤ k := by
  intro k
  induction k with
  | zero => intro n h; obtain rfl : n = 0 := by simpa using h
            simp [dec_zero]
  | succ k ih =>
    intro n h
    by_cases h0 : n = 0
    · subst h0; simp [dec_zero]
    · rw [dec_pos n (by omega)]
      have := ih (n / 10) (by rw [Nat.pow_succ] at h; omega)
      simp
      omega

theorem neg_tmod (m d : Nat) (h : d = m % 10) : (-(m : Int)).tmod 10 = -(d : Int) := by
  rw [Int.neg_tmod]; exact congrArg Neg.neg (tmod_in m 10 d h)

theorem neg_tdiv (m q : Nat) (h : q = m / 10) : (-(m : Int)).tdiv 10 = -(q : Int) := by
  rw [Int.neg_tdiv]; exact congrArg Neg.neg (tdiv_in m 10 q h)

set_option maxRecDepth 100000 in
set_option maxHeartbeats 1000000 in
theorem sDec_neg (n0 : Nat) (w : World) (h0 : 0 < n0) (hn : n0 ≤ 9223372036854775808) :
    Calls Tryd.prog 4 #[.int .i64 (-(n0 : Int))] w fun e w' => e = .returned (.string ⟨(45 :: dec n0).toArray⟩) ∧ Below w.heap.size w w' := by
  have hq0 : ((-(n0 : Int)) == 0) = false := by simp; omega
  have hq1 : decide ((-(n0 : Int)) < 0) = true := by simp; omega
  go_enter Tryd.func4, Tryd.ntmps4
  go_wp2
  go_loopw [0, 4] (fun n s wr => ∃ (m : Nat) (l : List UInt8), n = .int .i64 (-(m : Int)) ∧ s = .string ⟨l.toArray⟩ ∧ m ≤ n0 ∧ Hid (dec n0 = dec m ++ l) ∧ Below w.heap.size w wr)
    (fun n _ _ => (-(intOf n)).toNat)
  case atStart => exact ⟨n0, [], rfl, rfl, by simp, by simp [Hid], Below.refl _ _⟩
  case round =>
    obtain ⟨m, l, rfl, rfl, hm, hD, hb⟩ := hrel
    have hbs := hb.size
    have hl20 : l.length ≤ 20 := by
      have h1 := congrArg List.length hD.out
      have h2 := dec_len 20 n0 (by have : (10 : Nat) ^ 20 = 100000000000000000000 := by decide
                                   omega)
      simp at h1
      omega
    by_cases h : m = 0
    · subst h
      have e : Hid (dec n0 = l) := by unfold Hid; rw [hD.out, dec_zero]; rfl
      have hadd := fun wx => add_cons (P := Tryd.prog) wx 45 l (by omega)
      go_wp2
      go_ret
      exact ⟨by rw [e.out]; rfl, hb⟩
    · have hmq : ((-(m : Int)) == 0) = false := by simp; omega
      obtain ⟨d, hd⟩ : ∃ d, d = m % 10 := ⟨_, rfl⟩
      obtain ⟨q, hq⟩ : ∃ q, q = m / 10 := ⟨_, rfl⟩
      have hd10 : d < 10 := by omega
      have hqm : q < m := by omega
      have hD' : Hid (dec n0 = dec q ++ (hexD d :: l)) := by unfold Hid; rw [hD.out, dec_pos m (by omega), hd, hq]; simp
      have hx := neg_tmod m d hd
      have hy := neg_tdiv m q hq
      have hx' := tmod_in m 10 d hd
      have hy' := tdiv_in m 10 q hq
      obtain ⟨x, hxx⟩ : ∃ x : Int, x = ((hexN d : Nat) : Int) := ⟨_, rfl⟩
      obtain ⟨b, hbb⟩ : ∃ b, b = hexD d := ⟨_, rfl⟩
      have hcv := conv_one wr x b (by rw [hxx, hbb, hexD_toNat d (by omega)])
      have hadd := fun wx => add_cons (P := Tryd.prog) wx b l (by omega)
      rw [← hbb] at hD'
      have HX : Hid (x = ((hexN d : Nat) : Int)) := hxx
      clear hxx hbb hd hq hD
      by_cases hdz : d = 0
      · subst hdz
        go_wp2_with fail
        refine (figure_any 0 _ (by omega)).mono ?_
        rintro e w1 ⟨rfl, rfl⟩
        rw [← HX.out]
        go_wp2
        go_roundw
        case rel => exact ⟨q, b :: l, by go_num, rfl, by omega, hD', hb.alloc hbs _⟩
        case measure => simp [intOf]; omega
      · go_wp2_with fail
        refine (figure_any d _ (by omega)).mono ?_
        rintro e w1 ⟨rfl, rfl⟩
        rw [← HX.out]
        go_wp2
        go_roundw
        case rel => exact ⟨q, b :: l, by go_num, rfl, by omega, hD', hb.alloc hbs _⟩
        case measure => simp [intOf]; omega

theorem sDec_int (n : Int) (w : World) (h0 : -9223372036854775808 ≤ n) (h1 : n ≤ 9223372036854775807) :
    Calls Tryd.prog 4 #[.int .i64 n] w fun e w' => e = .returned (.string ⟨(Lib.itoa n).toArray⟩) ∧ Below w.heap.size w w' := by
  unfold Lib.itoa
  by_cases hneg : n < 0
  · rw [if_pos hneg]
    obtain ⟨k, hk⟩ : ∃ k : Nat, n = -(k : Int) := ⟨n.natAbs, by omega⟩
    subst hk
    have e : (-(k : Int)).natAbs = k := by omega
    rw [e, ← decS_digits k k (Nat.le_refl _)]
    unfold decS
    rw [if_neg (by omega)]
    exact sDec_neg k w (by omega) (by omega)
  · rw [if_neg hneg]
    obtain ⟨k, rfl⟩ := Int.eq_ofNat_of_zero_le (show 0 ≤ n by omega)
    rw [show ((k : Int)).toNat = k by omega, ← decS_digits k k (Nat.le_refl _)]
    exact sDec_nat k _ w rfl (by omega)

end Go.Proofs.YtedpihiobgdofakDoor
