/- What spec.ReadVar answers at every text and place within it: the number whose shortest form stands there and the place behind it, else nothing and false. -/
import Derived.Test.YtedpihiobgdofakRVar
import Derived.Deep.RegionHeld3
import Derived.Lib.Strings
namespace Go.Proofs.Ytedpihiobgdofak
open Go.RowKit

set_option maxRecDepth 100000 in
set_option maxHeartbeats 1000000 in
theorem sRV_in (s : ByteArray) (a : Nat) (w : World) (hs : s.size ≤ 1048576) (ha : a ≤ s.size) :
    Calls Try.prog 8 #[.string s, .int .i64 a] w fun e w' => e = .returned (RVv (s.data.toList.drop a) a) ∧ Below w.heap.size w w' := by
  have hle : s.data.toList.length = s.size := by simp
  go_enter Try.func8, Try.ntmps8
  go_wp2_with fail
  refine (l01In_yes _ _ _ _ (by omega) (by omega)).mono ?_
  rintro e w' ⟨rfl, rfl⟩
  go_wp2
  go_loop [7, 8, 9] (fun n sc i => ∃ (j : Nat) (l : List UInt8) (c : Nat), i = .int .i64 j ∧ n = .int .i64 (D l : Nat) ∧ sc = .int .i64 (c : Nat) ∧ j ≤ s.size ∧ Hid (RS s.data.toList a j l c)) (fun _ _ i => s.size - (intOf i).toNat)
  case atStart => exact ⟨a, [], 1, rfl, rfl, rfl, ha, RS.start _ _⟩
  case round =>
    obtain ⟨j, l, c, rfl, rfl, rfl, hj, hR⟩ := hrel
    have hA1 := hR.out.1
    by_cases hlt : j < s.size
    · by_cases h5 : j < a + 5
      · obtain ⟨hb1, hb2, hb3, hb4⟩ := hR.out.bounds h5
        have hx : s[j].toNat < 256 := s[j].toNat_lt
        have hp := prod_bd s[j].toNat c hb3
        have HV : Hid ((D (l ++ [s[j]]) : Int) = (D l : Int) + (s[j].toNat : Int) % 128 * (c : Int)) := by unfold Hid; rw [hR.out.value]; exact prod_cast _ _ _
        have HL : Hid (((a + (l ++ [s[j]]).length : Nat) : Int) = (j : Int) + 1) := by unfold Hid; have := hR.out.2.2.1; simp; omega
        by_cases h128 : (s[j].toNat : Int) < 128
        · have hb : s[j].toNat < 128 := by omega
          have HF : Hid (rv 5 (s.data.toList.drop a) [] = some (l ++ [s[j]])) := hR.out.found (by omega) h5 hb
          by_cases hm : 1000000000 < (D l : Int) + (s[j].toNat : Int) % 128 * (c : Int)
          · have e : Hid (RVv (s.data.toList.drop a) a = no3) := RVv_bad HF.out (hR.out.badm s[j] hb hm)
            clear hR HF HV HL hb
            have hd : decide (1000000000 < (D l : Int) + (s[j].toNat : Int) % 128 * (c : Int)) = true := by simpa using hm
            go_wp2
            go_quiet (fail)
            go_wp2
            go_ret3
            exact ⟨by rw [e.out]; rfl, below_drewN (Below.refl _ _) _⟩
          · have hd : decide (1000000000 < (D l : Int) + (s[j].toNat : Int) % 128 * (c : Int)) = false := by simpa using hm
            have HN : Hid (((D l : Int) + (s[j].toNat : Int) % 128 * (c : Int)) = ((D (l ++ [s[j]]) : Nat) : Int)) := HV.out.symm
            have HB : D (l ++ [s[j]]) ≤ 1000000000 := by have := HV.out; omega
            have HE : Hid ((s.extract a (j + 1)).toList = l ++ [s[j]]) := by
              unfold Hid; rw [ByteArray.toList_eq, Lib.extract_data]; exact (hR.out.take (by omega)).symm
            have k1 : (0 : Int) ≤ (j : Int) + 1 := by omega
            have k2 : (j : Int) + 1 ≤ (s.size : Int) := by omega
            have k3 : (a : Int) ≤ (j : Int) + 1 := by omega
            have k4 : IntKind.i64.wrap ((j : Int) + 1) = (j : Int) + 1 := IntWalk.i64_in _ (by omega)
            go_wp2
            go_region_held3 (fun _ => True) (trivial) ((go_at_call 19; refine (l01Var_at (D (l ++ [s[j]])) _ _ HN.out HB).mono ?_; rintro e w' ⟨rfl, hb'⟩))
            go_wp2
            · have hne : (!V (D (l ++ [s[j]])) == (s.extract a (j + 1)).toList) = true := by assumption
              have hg : good (l ++ [s[j]]) = false := by
                unfold good; rw [HE.out] at hne; simp at hne; simp [hne]
              go_ret3
              exact ⟨by rw [RVv_bad HF.out hg]; rfl, (Below.drew (Below.refl _ _)).trans hb'⟩
            · have hne : (!V (D (l ++ [s[j]])) == (s.extract a (j + 1)).toList) = false := by assumption
              have hg : good (l ++ [s[j]]) = true := by
                unfold good; rw [HE.out] at hne; simp at hne; simp [hne, HB]
              go_ret3
              exact ⟨by rw [RVv_good HF.out hg HV.out HL.out]; rfl, (Below.drew (Below.refl _ _)).trans hb'⟩
        · have hN : Hid (RS s.data.toList a (j + 1) (l ++ [s[j]]) (c * 128)) := hR.out.next (by omega) h5 (by show 128 ≤ s[j].toNat; omega)
          clear hR
          go_wp2
          go_round
          case rel => exact ⟨j + 1, l ++ [s[j]], c * 128, by go_num, by rw [HV.out], by go_num, by omega, hN⟩
          case measure => simp [intOf]; omega
      · have e : Hid (RVv (s.data.toList.drop a) a = no3) := RVv_none (hR.out.none (by omega))
        clear hR
        go_wp2
        go_ret3
        exact ⟨by rw [e.out]; rfl, Below.refl _ _⟩
    · have e : Hid (RVv (s.data.toList.drop a) a = no3) := RVv_none (hR.out.none (by omega))
      clear hR
      go_wp2
      go_ret3
      exact ⟨by rw [e.out]; rfl, Below.refl _ _⟩

end Go.Proofs.Ytedpihiobgdofak
