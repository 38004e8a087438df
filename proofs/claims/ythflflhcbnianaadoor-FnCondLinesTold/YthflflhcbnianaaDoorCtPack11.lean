/- What spec.Decimal answers at every number that is not below 0. -/
import Derived.Test.YthflflhcbnianaaDoorCtPack6
import Derived.Test.YthflflhcbnianaaDoorCtPack8
import Derived.WalkKit
import Derived.WalkSpells
namespace Go.Proofs.YthflflhcbnianaaDoor
open Go.RowKit
set_option linter.unusedVariables false

theorem sDec_zero (w : World) : Calls Tryd.prog 53 #[.int .i64 0] w fun e w' => e = .returned (.string ⟨#[48]⟩) ∧ Below w.heap.size w w' := by
  go_enter Tryd.func53, Tryd.ntmps53
  go_wp2
  go_ret
  exact ⟨rfl, Below.refl _ _⟩

set_option maxRecDepth 100000 in
set_option maxHeartbeats 1000000 in
theorem sDec_pos (n0 : Nat) (w : World) (h0 : 0 < n0) (hn : n0 ≤ 9223372036854775807) :
    Calls Tryd.prog 53 #[.int .i64 n0] w fun e w' => e = .returned (.string ⟨(dec n0).toArray⟩) ∧ Below w.heap.size w w' := by
  have hq0 : ((n0 : Int) == 0) = false := by simp; omega
  have hq1 : decide ((n0 : Int) < 0) = false := by simp
  go_enter Tryd.func53, Tryd.ntmps53
  go_wp2
  go_loopw [0, 4] (fun n s wr => ∃ (m : Nat) (l : List UInt8), n = .int .i64 m ∧ s = .string ⟨l.toArray⟩ ∧ l.length + m ≤ n0 ∧ Hid (dec n0 = dec m ++ l) ∧ Below w.heap.size w wr)
    (fun n _ _ => (intOf n).toNat)
  case atStart => exact ⟨n0, [], rfl, rfl, by simp, by simp [Hid], Below.refl _ _⟩
  case round =>
    obtain ⟨m, l, rfl, rfl, hm, hD, hb⟩ := hrel
    have hbs := hb.size
    by_cases h : m = 0
    · subst h
      have e : Hid (dec n0 = l) := by unfold Hid; rw [hD.out, dec_zero]; rfl
      go_wp2
      go_ret
      exact ⟨by rw [e.out]; rfl, hb⟩
    · have hmq : ((m : Int) == 0) = false := by simp; omega
      obtain ⟨d, hd⟩ : ∃ d, d = m % 10 := ⟨_, rfl⟩
      have hd10 : d < 10 := by omega
      have hD' : Hid (dec n0 = dec (m / 10) ++ (hexD d :: l)) := by unfold Hid; rw [hD.out, dec_pos m (by omega), hd]; simp
      have hx : (m : Int) % 10 = (d : Int) := by omega
      obtain ⟨x, hxx⟩ : ∃ x : Int, x = ((hexN d : Nat) : Int) := ⟨_, rfl⟩
      obtain ⟨b, hbb⟩ : ∃ b, b = hexD d := ⟨_, rfl⟩
      have hcv := conv_one wr x b (by rw [hxx, hbb, hexD_toNat d (by omega)])
      have hadd := fun wx => add_cons (P := Tryd.prog) wx b l (by omega)
      rw [← hbb] at hD'
      have HX : Hid (x = ((hexN d : Nat) : Int)) := hxx
      clear hxx hbb hd hD
      go_wp2_with fail
      refine (figure_any d _ (by omega)).mono ?_
      rintro e w1 ⟨rfl, rfl⟩
      rw [← HX.out]
      go_wp2
      go_roundw
      case rel => exact ⟨m / 10, b :: l, by go_num, rfl, by simp; omega, hD', hb.alloc hbs _⟩
      case measure => simp [intOf]; omega

theorem sDec_nat (n0 : Nat) (x : Int) (w : World) (hx : x = (n0 : Int)) (hn : n0 ≤ 9223372036854775807) :
    Calls Tryd.prog 53 #[.int .i64 x] w fun e w' => e = .returned (.string ⟨(decS n0).toArray⟩) ∧ Below w.heap.size w w' := by
  subst hx
  unfold decS
  by_cases h : n0 = 0
  · subst h; exact sDec_zero w
  · rw [if_neg h]; exact sDec_pos n0 w (by omega) hn

end Go.Proofs.YthflflhcbnianaaDoor
