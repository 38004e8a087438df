/- What spec.ReadVar and impl.ReadVar answer at every text and place: the number whose shortest form stands there and the place behind it, else nothing and false. -/
import Derived.Test.YtedpihiobgdofaaDoorVar
import Derived.Test.YtedpihiobgdofaaDoorRVMath
import Derived.WalkKit
import Derived.WalkSpells
import Derived.BigQuiet
import Derived.WalkSmall
import Derived.Deep.RegionWith
import Derived.Deep.QuietTactic
namespace Go.Proofs.YtedpihiobgdofaaDoor
open Go.RowKit

theorem iRV_out (s : ByteArray) (a : Int) (w : World) (ha : a < 0 ∨ (s.size : Int) < a) :
    Calls Tryd.prog 7 #[.string s, .int .i64 a] w fun e w' => e = .returned no3 ∧ Below w.heap.size w w' := by
  by_cases h0 : a < 0
  · go_enter Tryd.func7, Tryd.ntmps7
    go_wp2
    go_ret3
    exact ⟨rfl, Below.refl _ _⟩
  · have h1 : (s.size : Int) < a := by omega
    go_enter Tryd.func7, Tryd.ntmps7
    go_wp2
    go_ret3
    exact ⟨rfl, Below.refl _ _⟩

set_option maxRecDepth 100000 in
set_option maxHeartbeats 1000000 in
theorem iRV_in (s : ByteArray) (a : Nat) (w : World) (hs : s.size ≤ 1048576) (ha : a ≤ s.size) :
    Calls Tryd.prog 7 #[.string s, .int .i64 a] w fun e w' => e = .returned (RVv (s.data.toList.drop a) a) ∧ Below w.heap.size w w' := by
  have hle : s.data.toList.length = s.size := by simp
  go_enter Tryd.func7, Tryd.ntmps7
  go_wp2
  go_loop [7, 8, 9] (fun n sc i => ∃ (j : Nat) (l : List UInt8) (c : Nat), i = .int .i64 j ∧ n = .int .i64 (D l : Nat) ∧ sc = .int .i64 (c : Nat) ∧ j ≤ s.size ∧ Hid (RS s.data.toList a j l c)) (fun _ _ i => s.size - (intOf i).toNat)
  case atStart => exact ⟨a, [], 1, rfl, rfl, rfl, ha, RS.start _ _⟩
  case round =>
    obtain ⟨j, l, c, rfl, rfl, rfl, hj, hR⟩ := hrel
    have hA1 := hR.out.1
    by_cases hlt : j < s.size
    · by_cases h5 : j < a + 5
      · obtain ⟨hb1, hb2, hb3, hb4⟩ := hR.out.bounds h5
        have hx : s[j].toNat < 256 := s[j].toNat_lt
        have hp := prod_bd s[j].toNat c hb3
        have HV : Hid ((D (l ++ [s[j]]) : Int) = (D l : Int) + (s[j].toNat : Int) % 128 * (c : Int)) := by unfold Hid; rw [hR.out.value]; exact prod_cast _ _ _
        have HL : Hid (((a + (l ++ [s[j]]).length : Nat) : Int) = (j : Int) + 1) := by unfold Hid; have := hR.out.2.2.1; simp; omega
        by_cases h128 : (s[j].toNat : Int) < 128
        · have hb : s[j].toNat < 128 := by omega
          have HF : Hid (rv 5 (s.data.toList.drop a) [] = some (l ++ [s[j]])) := hR.out.found (by omega) h5 hb
          by_cases hm : 1000000000 < (D l : Int) + (s[j].toNat : Int) % 128 * (c : Int)
          · have e : Hid (RVv (s.data.toList.drop a) a = no3) := RVv_bad HF.out (hR.out.badm s[j] hb hm)
            clear hR HF HV HL hb
            cases hq : ((s[j].toNat : Int) == 0)
            all_goals
              go_wp2
              all_goals (go_ret3; exact ⟨by rw [e.out]; rfl, Below.refl _ _⟩)
          · by_cases hz : s[j].toNat = 0 ∧ a < j
            · have e : Hid (RVv (s.data.toList.drop a) a = no3) := RVv_bad HF.out (hR.out.badz s[j] hb hz.1 hz.2)
              have hq : ((s[j].toNat : Int) == 0) = true := by simp [hz.1]
              have haj := hz.2
              clear hR HF HV HL hb hz
              go_wp2
              all_goals (go_ret3; exact ⟨by rw [e.out]; rfl, Below.refl _ _⟩)
            · have e : Hid (RVv (s.data.toList.drop a) a = .tuple #[.int .i64 ((D l : Int) + (s[j].toNat : Int) % 128 * (c : Int)), .int .i64 ((j : Int) + 1), .bool true]) :=
                RVv_good HF.out (hR.out.okay s[j] hb (by omega) (by omega)) HV.out HL.out
              clear hR HF HV HL hb
              by_cases h0 : s[j].toNat = 0
              · have hq : ((s[j].toNat : Int) == 0) = true := by simp [h0]
                have haj : ¬ a < j := by omega
                clear h0 hz
                go_wp2
                go_ret3
                exact ⟨by rw [e.out]; rfl, Below.refl _ _⟩
              · have hq : ((s[j].toNat : Int) == 0) = false := by simp; omega
                clear h0 hz
                go_wp2
                go_ret3
                exact ⟨by rw [e.out]; rfl, Below.refl _ _⟩
        · have hN : Hid (RS s.data.toList a (j + 1) (l ++ [s[j]]) (c * 128)) := hR.out.next (by omega) h5 (by show 128 ≤ s[j].toNat; omega)
          clear hR
          go_wp2
          go_round
          case rel => exact ⟨j + 1, l ++ [s[j]], c * 128, by go_num, by rw [HV.out], by go_num, by omega, hN⟩
          case measure => simp [intOf]; omega
      · have e : Hid (RVv (s.data.toList.drop a) a = no3) := RVv_none (hR.out.none (by omega))
        clear hR
        go_wp2
        go_ret3
        exact ⟨by rw [e.out]; rfl, Below.refl _ _⟩
    · have e : Hid (RVv (s.data.toList.drop a) a = no3) := RVv_none (hR.out.none (by omega))
      clear hR
      go_wp2
      go_ret3
      exact ⟨by rw [e.out]; rfl, Below.refl _ _⟩

end Go.Proofs.YtedpihiobgdofaaDoor
