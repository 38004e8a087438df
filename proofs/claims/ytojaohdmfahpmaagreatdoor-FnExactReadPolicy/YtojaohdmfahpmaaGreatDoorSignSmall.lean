/- What impl's small functions of signs answer: runeKind, isMark, goesOn, halfIn, worded, sign. -/
import Derived.Test.YtojaohdmfahpmaaGreatDoorNamesIS
import Derived.Test.YtojaohdmfahpmaaGreatDoorSignMath
import Derived.Test.YtojaohdmfahpmaaGreatDoorNumIn
import Derived.Test.YtojaohdmfahpmaaGreatDoorWideIS
import Derived.Test.YtojaohdmfahpmaaGreatDoorShelf
import Derived.Test.YtojaohdmfahpmaaGreatDoorBoxes
import Derived.Laws.RangeAny
import Derived.Laws.Runes
import Derived.Handy
namespace Go.Proofs.YtojaohdmfahpmaaGreatDoor
open Go.RowKit
set_option linter.unusedVariables false

/-- The kind of a rune. -/
def kindR (r : Int) : Nat := if r = 32 ∨ r = 10 then 0 else if 97 ≤ r ∧ r ≤ 122 then 1 else if 48 ≤ r ∧ r ≤ 57 then 2 else 3

theorem kindR_byte (b : UInt8) : kindR (b.toNat : Int) = kindB b := by
  unfold kindR kindB
  have e1 : ((b.toNat : Int) = 32 ∨ (b.toNat : Int) = 10) ↔ (b.toNat = 32 ∨ b.toNat = 10) := by omega
  have e2 : (97 ≤ (b.toNat : Int) ∧ (b.toNat : Int) ≤ 122) ↔ (97 ≤ b.toNat ∧ b.toNat ≤ 122) := by omega
  have e3 : (48 ≤ (b.toNat : Int) ∧ (b.toNat : Int) ≤ 57) ↔ (48 ≤ b.toNat ∧ b.toNat ≤ 57) := by omega
  simp only [e1, e2, e3]

theorem kindR_high {r : Int} (h : 128 ≤ r) : kindR r = 3 := by
  unfold kindR
  rw [if_neg (by omega), if_neg (by omega), if_neg (by omega)]

theorem kindR_le (r : Int) : kindR r ≤ 3 := by unfold kindR; split <;> (try split) <;> (try split) <;> omega

theorem runeKind_any (r : Int) (w : World) : Calls Tryz.prog 100 #[.int .i32 r] w fun e w' => e = .returned (.int .i64 ((kindR r : Nat) : Int)) ∧ w = w' := by
  by_cases h0 : r = 32
  · subst h0
    go_enter Tryz.func100, Tryz.ntmps100
    go_wp2
    go_ret
    exact ⟨rfl, rfl⟩
  by_cases h1 : r = 10
  · subst h1
    go_enter Tryz.func100, Tryz.ntmps100
    go_wp2
    go_ret
    exact ⟨rfl, rfl⟩
  have d0 : (r == 32) = false := by simpa using h0
  have d1 : (r == 10) = false := by simpa using h1
  obtain ⟨z, hz⟩ : ∃ z, z = kindR r := ⟨_, rfl⟩
  rw [← hz]
  by_cases h2 : 97 ≤ r ∧ r ≤ 122
  · have HZ : Hid (z = 1) := by rw [hz]; unfold kindR; rw [if_neg (by omega), if_pos h2]; rfl
    obtain ⟨ha, hb⟩ := h2
    clear hz
    go_enter Tryz.func100, Tryz.ntmps100
    go_wp2
    go_ret
    exact ⟨by rw [HZ.out]; rfl, rfl⟩
  by_cases h3 : 48 ≤ r ∧ r ≤ 57
  · have HZ : Hid (z = 2) := by rw [hz]; unfold kindR; rw [if_neg (by omega), if_neg h2, if_pos h3]; rfl
    obtain ⟨ha, hb⟩ := h3
    have hc : ¬ 97 ≤ r := by omega
    clear hz h2
    go_enter Tryz.func100, Tryz.ntmps100
    go_wp2
    go_ret
    exact ⟨by rw [HZ.out]; rfl, rfl⟩
  have HZ : Hid (z = 3) := by rw [hz]; unfold kindR; rw [if_neg (by omega), if_neg h2, if_neg h3]; rfl
  have H2 : Hid (¬ (97 ≤ r ∧ r ≤ 122)) := h2
  have H3 : Hid (¬ (48 ≤ r ∧ r ≤ 57)) := h3
  clear hz h2 h3
  by_cases k1 : 97 ≤ r
  · have k2 : ¬ r ≤ 122 := by have := H2.out; omega
    have k3 : ¬ r ≤ 57 := by omega
    have k4 : 48 ≤ r := by omega
    go_enter Tryz.func100, Tryz.ntmps100
    go_wp2
    go_ret
    exact ⟨by rw [HZ.out]; rfl, rfl⟩
  · by_cases k3 : 48 ≤ r
    · have k4 : ¬ r ≤ 57 := by have := H3.out; omega
      go_enter Tryz.func100, Tryz.ntmps100
      go_wp2
      go_ret
      exact ⟨by rw [HZ.out]; rfl, rfl⟩
    · go_enter Tryz.func100, Tryz.ntmps100
      go_wp2
      go_ret
      exact ⟨by rw [HZ.out]; rfl, rfl⟩

theorem isMark_yes {l : List UInt8} (h : l ∈ markL) (w : World) : Calls Tryz.prog 103 #[.string (txt l)] w fun e w' => e = .returned (.bool true) ∧ w = w' := by
  unfold markL at h
  simp only [List.mem_cons, List.not_mem_nil, or_false] at h
  rcases h with rfl | rfl | rfl | rfl | rfl | rfl | rfl | rfl | rfl | rfl
  all_goals
    unfold txt
    go_enter Tryz.func103, Tryz.ntmps103
    go_wp2
    go_ret
    exact ⟨rfl, rfl⟩

theorem isMark_no (t : ByteArray) (h : isMarkL t.data.toList = false) (w : World) : Calls Tryz.prog 103 #[.string t] w fun e w' => e = .returned (.bool false) ∧ w = w' := by
  have hne : ∀ m ∈ markL, (t.toList == m) = false := fun m hm => by
    rw [beq_eq_false_iff_ne]
    intro e
    rw [ByteArray.toList_eq] at e
    rw [e, isMark_of hm] at h
    cases h
  have m0 := hne [61, 61] (by decide)
  have m1 := hne [33, 61] (by decide)
  have m2 := hne [60, 61] (by decide)
  have m3 := hne [62, 61] (by decide)
  have m4 := hne [60] (by decide)
  have m5 := hne [62] (by decide)
  have m6 := hne [38] (by decide)
  have m7 := hne [58] (by decide)
  have m8 := hne [59] (by decide)
  have m9 := hne [44] (by decide)
  clear hne h
  go_enter Tryz.func103, Tryz.ntmps103
  go_wp2
  go_ret
  exact ⟨rfl, rfl⟩

end Go.Proofs.YtojaohdmfahpmaaGreatDoor
