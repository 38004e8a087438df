/- What impl's InsOk answers, of any four numbers: just whether the word is right. -/
import Derived.Test.YthflflhcbnianaaDoorRows
import Derived.Test.YthflflhcbnianaaDoorCrPack5
import Derived.Test.YthflflhcbnianaaDoorCrPack1
import Derived.Test.YthflflhcbnianaaDoorCrPack3
import Derived.Test.YthflflhcbnianaaDoorCrPack4
import Derived.WalkKit
import Derived.WalkSpells
import Derived.WalkSmall
import Derived.Below
import Derived.Handy
import Derived.Laws.StructEq
import Derived.ChangeKeysEq
/- What impl's and spec's InsOk answer, of any four numbers. -/
namespace Go.Proofs.YthflflhcbnianaaDoor
open Go.RowKit
set_option linter.unusedVariables false

theorem in_any (n lo hi : Int) (w : World) : Calls Tryd.prog 47 #[.int .i64 n, .int .i64 lo, .int .i64 hi] w fun e w' => e = .returned (.bool (inB n lo hi)) ∧ w = w' := by
  have HB : Hid (inB n lo hi = (decide (lo ≤ n) && decide (n ≤ hi))) := rfl
  by_cases h0 : lo ≤ n
  · by_cases h1 : n ≤ hi
    · go_enter Tryd.func47, Tryd.ntmps47
      go_wp2
      go_ret
      exact ⟨by rw [HB.out]; simp [h0, h1], rfl⟩
    · go_enter Tryd.func47, Tryd.ntmps47
      go_wp2
      go_ret
      exact ⟨by rw [HB.out]; simp [h0, h1], rfl⟩
  · go_enter Tryd.func47, Tryd.ntmps47
    go_wp2
    go_ret
    exact ⟨by rw [HB.out, decide_eq_false (show ¬ lo ≤ n by omega)]; simp, rfl⟩

theorem sHalf_any (n : Int) (w : World) : Calls Tryd.prog 79 #[.int .i64 n] w fun e w' => e = .returned (.bool (inB n 0 4294967295)) ∧ w = w' := by
  go_enter Tryd.func79, Tryd.ntmps79
  go_wp2_with (go_at_call 47; refine (in_any _ _ _ _).mono ?_; rintro e w' ⟨rfl, rfl⟩)
  go_ret
  exact ⟨rfl, rfl⟩

theorem ask_any (n : Int) (w : World) : Calls Tryd.prog 38 #[.int .i64 n] w fun e w' => e = .returned (.bool (inB n 3 6)) ∧ w = w' := by
  go_enter Tryd.func38, Tryd.ntmps38
  go_wp2_with (go_at_call 47; refine (in_any _ _ _ _).mono ?_; rintro e w' ⟨rfl, rfl⟩)
  go_ret
  exact ⟨rfl, rfl⟩

set_option maxRecDepth 100000 in
set_option maxHeartbeats 2000000 in
theorem sInsOk_any (o k y n : Int) (w : World) : Calls Tryd.prog 77 #[.agg #[.int .i64 o, .int .i64 k, .int .i64 y, .int .i64 n]] w fun e w' => e = .returned (.bool (insB o k y n)) ∧ Ext w w' := by
  obtain ⟨z, hz⟩ : ∃ z, z = insB o k y n := ⟨_, rfl⟩
  rw [← hz]
  have HZ : Hid (insB o k y n = z) := hz.symm
  clear hz
  have bel : Hid (Ext w (w.alloc (.cells #[.int .i64 o, .int .i64 k, .int .i64 y, .int .i64 n] 36))) := Ext.one _ _
  cases h0 : inB o 1 8
  · go_enter Tryd.func77, Tryd.ntmps77
    go_wp2_with (first | (go_at_call 47; refine (in_any _ _ _ _).mono ?_; rintro e w' ⟨rfl, rfl⟩) | (go_at_call 79; refine (sHalf_any _ _).mono ?_; rintro e w' ⟨rfl, rfl⟩))
    go_ret
    exact ⟨by rw [← HZ.out, insB_false.2 (by rw [inB_false] at h0; unfold insP; omega)]; rfl, bel.out⟩
  cases h1 : inB k 0 4294967295
  · go_enter Tryd.func77, Tryd.ntmps77
    go_wp2_with (first | (go_at_call 47; refine (in_any _ _ _ _).mono ?_; rintro e w' ⟨rfl, rfl⟩) | (go_at_call 79; refine (sHalf_any _ _).mono ?_; rintro e w' ⟨rfl, rfl⟩))
    go_ret
    exact ⟨by rw [← HZ.out, insB_false.2 (by rw [inB_false] at h1; unfold insP; omega)]; rfl, bel.out⟩
  cases h2 : inB y 0 15
  · go_enter Tryd.func77, Tryd.ntmps77
    go_wp2_with (first | (go_at_call 47; refine (in_any _ _ _ _).mono ?_; rintro e w' ⟨rfl, rfl⟩) | (go_at_call 79; refine (sHalf_any _ _).mono ?_; rintro e w' ⟨rfl, rfl⟩))
    go_ret
    exact ⟨by rw [← HZ.out, insB_false.2 (by rw [inB_false] at h2; unfold insP; omega)]; rfl, bel.out⟩
  cases h3 : inB n 0 15
  · go_enter Tryd.func77, Tryd.ntmps77
    go_wp2_with (first | (go_at_call 47; refine (in_any _ _ _ _).mono ?_; rintro e w' ⟨rfl, rfl⟩) | (go_at_call 79; refine (sHalf_any _ _).mono ?_; rintro e w' ⟨rfl, rfl⟩))
    go_ret
    exact ⟨by rw [← HZ.out, insB_false.2 (by rw [inB_false] at h3; unfold insP; omega)]; rfl, bel.out⟩
  cases h4 : inB o 3 6
  · by_cases hy : y = 0
    · by_cases hn : n = 0
      · subst hy hn
        by_cases ho : o = 1
        · subst ho
          by_cases hk : k < 8
          all_goals
            go_enter Tryd.func77, Tryd.ntmps77
            go_wp2_with (first | (go_at_call 47; refine (in_any _ _ _ _).mono ?_; rintro e w' ⟨rfl, rfl⟩) | (go_at_call 79; refine (sHalf_any _ _).mono ?_; rintro e w' ⟨rfl, rfl⟩) | (go_at_call 38; refine (ask_any _ _).mono ?_; rintro e w' ⟨rfl, rfl⟩))
            go_ret
            exact ⟨by rw [← HZ.out]; first | (rw [insB_true.2 (by rw [inB_true] at h1; unfold insP; omega)]; simp; done) | (rw [insB_false.2 (by unfold insP; omega)]; simp; omega), bel.out⟩
        · by_cases ho7 : o = 7
          · subst ho7
            by_cases hk : k < 400
            all_goals
              go_enter Tryd.func77, Tryd.ntmps77
              go_wp2_with (first | (go_at_call 47; refine (in_any _ _ _ _).mono ?_; rintro e w' ⟨rfl, rfl⟩) | (go_at_call 79; refine (sHalf_any _ _).mono ?_; rintro e w' ⟨rfl, rfl⟩) | (go_at_call 38; refine (ask_any _ _).mono ?_; rintro e w' ⟨rfl, rfl⟩))
              go_ret
              exact ⟨by rw [← HZ.out]; first | (rw [insB_true.2 (by rw [inB_true] at h1; unfold insP; omega)]; simp; done) | (rw [insB_false.2 (by unfold insP; omega)]; simp; omega), bel.out⟩
          · have q1 : (o == 1) = false := by simpa using ho
            have q7 : (o == 7) = false := by simpa using ho7
            have HO : Hid (o ≠ 1 ∧ o ≠ 7) := ⟨ho, ho7⟩
            clear ho ho7
            go_enter Tryd.func77, Tryd.ntmps77
            go_wp2_with (first | (go_at_call 47; refine (in_any _ _ _ _).mono ?_; rintro e w' ⟨rfl, rfl⟩) | (go_at_call 79; refine (sHalf_any _ _).mono ?_; rintro e w' ⟨rfl, rfl⟩) | (go_at_call 38; refine (ask_any _ _).mono ?_; rintro e w' ⟨rfl, rfl⟩))
            go_ret
            exact ⟨by rw [← HZ.out, insB_true.2 (by rw [inB_true] at h0 h1 h2 h3; have := HO.out; unfold insP; omega)]; rfl, bel.out⟩
      · have q1 : (n != 0) = true := by simpa using hn
        subst hy
        have HN : Hid (n ≠ 0) := hn
        clear hn
        go_enter Tryd.func77, Tryd.ntmps77
        go_wp2_with (first | (go_at_call 47; refine (in_any _ _ _ _).mono ?_; rintro e w' ⟨rfl, rfl⟩) | (go_at_call 79; refine (sHalf_any _ _).mono ?_; rintro e w' ⟨rfl, rfl⟩) | (go_at_call 38; refine (ask_any _ _).mono ?_; rintro e w' ⟨rfl, rfl⟩))
        go_ret
        exact ⟨by rw [← HZ.out, insB_false.2 (by rw [inB_false] at h4; have := HN.out; unfold insP; omega)]; rfl, bel.out⟩
    · have q1 : (y != 0) = true := by simpa using hy
      have HN : Hid (y ≠ 0) := hy
      clear hy
      go_enter Tryd.func77, Tryd.ntmps77
      go_wp2_with (first | (go_at_call 47; refine (in_any _ _ _ _).mono ?_; rintro e w' ⟨rfl, rfl⟩) | (go_at_call 79; refine (sHalf_any _ _).mono ?_; rintro e w' ⟨rfl, rfl⟩) | (go_at_call 38; refine (ask_any _ _).mono ?_; rintro e w' ⟨rfl, rfl⟩))
      go_ret
      exact ⟨by rw [← HZ.out, insB_false.2 (by rw [inB_false] at h4; have := HN.out; unfold insP; omega)]; rfl, bel.out⟩
  · have q1 : (o == 1) = false := by rw [inB_true] at h4; simp; omega
    have q7 : (o == 7) = false := by rw [inB_true] at h4; simp; omega
    go_enter Tryd.func77, Tryd.ntmps77
    go_wp2_with (first | (go_at_call 47; refine (in_any _ _ _ _).mono ?_; rintro e w' ⟨rfl, rfl⟩) | (go_at_call 79; refine (sHalf_any _ _).mono ?_; rintro e w' ⟨rfl, rfl⟩) | (go_at_call 38; refine (ask_any _ _).mono ?_; rintro e w' ⟨rfl, rfl⟩))
    go_ret
    exact ⟨by rw [← HZ.out, insB_true.2 (by rw [inB_true] at h0 h1 h2 h3 h4; unfold insP; omega)]; rfl, bel.out⟩



end Go.Proofs.YthflflhcbnianaaDoor
