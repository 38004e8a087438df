/- What impl.ActionName and spec.ActionName answer, of any number. -/
import Derived.Test.YtojaohdmfahpmaaGreatDoorAct9
namespace Go.Proofs.YtojaohdmfahpmaaGreatDoor
open Go.RowKit
set_option linter.unusedVariables false

theorem name_any (n : Int) (w : World) : Calls Tryz.prog 97 #[.int .i64 n] w fun e w' => e = .returned (.string (nameV n)) ∧ w = w' := by
  obtain ⟨v, hv⟩ : ∃ v, v = nameV n := ⟨_, rfl⟩
  rw [← hv]
  by_cases h0 : n = 0
  · subst h0
    have HV : Hid (v = ⟨#[107, 105, 108, 108]⟩) := hv
    clear hv
    go_enter Tryz.func97, Tryz.ntmps97
    go_wp2
    go_ret
    exact ⟨by rw [HV.out]; rfl, rfl⟩
  by_cases h1 : n = 1
  · subst h1
    have HV : Hid (v = ⟨#[116, 114, 97, 112]⟩) := hv
    clear hv
    go_enter Tryz.func97, Tryz.ntmps97
    go_wp2
    go_ret
    exact ⟨by rw [HV.out]; rfl, rfl⟩
  by_cases h2 : n = 2
  · subst h2
    have HV : Hid (v = ⟨#[101, 114, 114]⟩) := hv
    clear hv
    go_enter Tryz.func97, Tryz.ntmps97
    go_wp2
    go_ret
    exact ⟨by rw [HV.out]; rfl, rfl⟩
  by_cases h3 : n = 3
  · subst h3
    have HV : Hid (v = ⟨#[116, 114, 97, 99, 101]⟩) := hv
    clear hv
    go_enter Tryz.func97, Tryz.ntmps97
    go_wp2
    go_ret
    exact ⟨by rw [HV.out]; rfl, rfl⟩
  by_cases h4 : n = 4
  · subst h4
    have HV : Hid (v = ⟨#[108, 111, 103]⟩) := hv
    clear hv
    go_enter Tryz.func97, Tryz.ntmps97
    go_wp2
    go_ret
    exact ⟨by rw [HV.out]; rfl, rfl⟩
  by_cases h5 : n = 5
  · subst h5
    have HV : Hid (v = ⟨#[97, 108, 108, 111, 119]⟩) := hv
    clear hv
    go_enter Tryz.func97, Tryz.ntmps97
    go_wp2
    go_ret
    exact ⟨by rw [HV.out]; rfl, rfl⟩
  have HV : Hid (v = ⟨#[]⟩) := by rw [hv]; unfold Hid nameV; simp [h0, h1, h2, h3, h4, h5]
  have q0 : (n == 0) = false := by simpa using h0
  have q1 : (n == 1) = false := by simpa using h1
  have q2 : (n == 2) = false := by simpa using h2
  have q3 : (n == 3) = false := by simpa using h3
  have q4 : (n == 4) = false := by simpa using h4
  have q5 : (n == 5) = false := by simpa using h5
  clear hv h0 h1 h2 h3 h4 h5
  go_enter Tryz.func97, Tryz.ntmps97
  go_wp2
  go_ret
  exact ⟨by rw [HV.out]; rfl, rfl⟩

theorem iName_any (n : Int) (w : World) : Calls Tryz.prog 56 #[.int .i64 n] w fun e w' => e = .returned (.string (nameV n)) ∧ w = w' := by
  go_enter Tryz.func56, Tryz.ntmps56
  go_wp2_with (go_at_call 97; refine (name_any _ _).mono ?_; rintro e w' ⟨rfl, rfl⟩)
  go_ret
  exact ⟨rfl, rfl⟩

def namesV : List Value := [.string ⟨#[107, 105, 108, 108]⟩, .string ⟨#[116, 114, 97, 112]⟩, .string ⟨#[101, 114, 114]⟩, .string ⟨#[116, 114, 97, 99, 101]⟩, .string ⟨#[108, 111, 103]⟩, .string ⟨#[97, 108, 108, 111, 119]⟩]

theorem names_any (w : World) : Calls Tryz.prog 76 #[] w fun e w' => e = .returned (.slice (some ⟨w.heap.size, 0, none⟩) 6 6) ∧ w' = w.alloc (.cells namesV.toArray 9) := by
  go_enter Tryz.func76, Tryz.ntmps76
  go_wp2
  go_ret
  exact ⟨rfl, rfl⟩

theorem sName_any (n : Int) (w : World) : Calls Tryz.prog 81 #[.int .i64 n] w fun e w' => e = .returned (.string (nameV n)) ∧ Below w.heap.size w w' := by
  obtain ⟨v, hv⟩ : ∃ v, v = nameV n := ⟨_, rfl⟩
  rw [← hv]
  cases hk : inB n 0 5
  · have HV : Hid (v = ⟨#[]⟩) := by
      rw [inB_false] at hk
      rw [hv]; unfold Hid nameV
      rw [if_neg (by omega), if_neg (by omega), if_neg (by omega), if_neg (by omega), if_neg (by omega), if_neg (by omega)]
    clear hv
    go_enter Tryz.func81, Tryz.ntmps81
    go_wp2_with (go_at_call 110; refine (in_any _ _ _ _).mono ?_; rintro e w' ⟨rfl, rfl⟩)
    go_ret
    exact ⟨by rw [HV.out]; rfl, Below.refl _ _⟩
  · obtain ⟨m, rfl⟩ : ∃ m : Nat, n = (m : Int) := ⟨n.toNat, by have := inB_true.1 hk; omega⟩
    have hm : m < 6 := by have := inB_true.1 hk; omega
    have hmi : (m : Int) < 6 := by omega
    have HN : Hid (namesV[m]? = some (.string v)) := by
      rw [hv]
      have : m = 0 ∨ m = 1 ∨ m = 2 ∨ m = 3 ∨ m = 4 ∨ m = 5 := by omega
      rcases this with rfl | rfl | rfl | rfl | rfl | rfl <;> rfl
    clear hv
    go_enter Tryz.func81, Tryz.ntmps81
    go_wp2_with (first | (go_at_call 110; refine (in_any _ _ _ _).mono ?_; rintro e w' ⟨rfl, rfl⟩) | fail)
    refine (names_any _).mono ?_
    rintro e w1 ⟨rfl, hw1⟩
    have hc : w1.cell? ⟨w.heap.size, m, none⟩ = some (.string v) := by
      rw [hw1, cell_of_row _ _ m namesV.toArray 9 (0, 0) (heap_alloc_new w _)]
      simpa using HN.out
    have HB : Hid (Below w.heap.size w w1) := by rw [hw1]; exact (Below.refl _ _).alloc (Nat.le_refl _) _
    clear hw1
    go_wp2
    go_ret
    exact ⟨rfl, HB.out⟩

end Go.Proofs.YtojaohdmfahpmaaGreatDoor
