/- What impl's InsOk answers, of any four numbers: just whether the word is right. -/
import Derived.Test.YtakcmiijnckaaaaRows
import Derived.Test.YtakcmiijnckaaaaLlPack5
import Derived.Test.YtakcmiijnckaaaaLlPack1
import Derived.Test.YtakcmiijnckaaaaLlPack3
import Derived.Test.YtakcmiijnckaaaaLlPack4
import Derived.WalkKit
import Derived.WalkSpells
import Derived.WalkSmall
import Derived.Below
import Derived.Handy
import Derived.Laws.StructEq
import Derived.ChangeKeysEq
/- What impl's and spec's InsOk answer, of any four numbers. -/
namespace Go.Proofs.Ytakcmiijnckaaaa
open Go.RowKit
set_option linter.unusedVariables false

theorem in_any (n lo hi : Int) (w : World) : Calls Try.prog 41 #[.int .i64 n, .int .i64 lo, .int .i64 hi] w fun e w' => e = .returned (.bool (inB n lo hi)) ∧ w = w' := by
  have HB : Hid (inB n lo hi = (decide (lo ≤ n) && decide (n ≤ hi))) := rfl
  by_cases h0 : lo ≤ n
  · by_cases h1 : n ≤ hi
    · go_enter Try.func41, Try.ntmps41
      go_wp2
      go_ret
      exact ⟨by rw [HB.out]; simp [h0, h1], rfl⟩
    · go_enter Try.func41, Try.ntmps41
      go_wp2
      go_ret
      exact ⟨by rw [HB.out]; simp [h0, h1], rfl⟩
  · go_enter Try.func41, Try.ntmps41
    go_wp2
    go_ret
    exact ⟨by rw [HB.out, decide_eq_false (show ¬ lo ≤ n by omega)]; simp, rfl⟩

theorem iHalf_any (n : Int) (w : World) : Calls Try.prog 85 #[.int .i64 n] w fun e w' => e = .returned (.bool (inB n 0 4294967295)) ∧ w = w' := by
  have HB : Hid (inB n 0 4294967295 = (decide (0 ≤ n) && decide (n ≤ 4294967295))) := rfl
  by_cases h0 : 0 ≤ n
  · by_cases h1 : n ≤ 4294967295
    · go_enter Try.func85, Try.ntmps85
      go_wp2
      go_ret
      exact ⟨by rw [HB.out]; simp [h0, h1], rfl⟩
    · go_enter Try.func85, Try.ntmps85
      go_wp2
      go_ret
      exact ⟨by rw [HB.out]; simp [h0, h1], rfl⟩
  · go_enter Try.func85, Try.ntmps85
    go_wp2
    go_ret
    exact ⟨by rw [HB.out, decide_eq_false (show ¬ 0 ≤ n by omega)]; simp, rfl⟩

theorem way_any (n : Int) (w : World) : Calls Try.prog 86 #[.int .i64 n] w fun e w' => e = .returned (.bool (inB n 0 15)) ∧ w = w' := by
  have HB : Hid (inB n 0 15 = (decide (0 ≤ n) && decide (n ≤ 15))) := rfl
  by_cases h0 : 0 ≤ n
  · by_cases h1 : n ≤ 15
    · go_enter Try.func86, Try.ntmps86
      go_wp2
      go_ret
      exact ⟨by rw [HB.out]; simp [h0, h1], rfl⟩
    · go_enter Try.func86, Try.ntmps86
      go_wp2
      go_ret
      exact ⟨by rw [HB.out]; simp [h0, h1], rfl⟩
  · go_enter Try.func86, Try.ntmps86
    go_wp2
    go_ret
    exact ⟨by rw [HB.out, decide_eq_false (show ¬ 0 ≤ n by omega)]; simp, rfl⟩

theorem fits_any (n : Int) (w : World) : Calls Try.prog 39 #[.int .i64 n] w fun e w' => e = .returned (.bool (inB n 1 400)) ∧ w = w' := by
  have HB : Hid (inB n 1 400 = (decide (1 ≤ n) && decide (n ≤ 400))) := rfl
  by_cases h0 : 1 ≤ n
  · by_cases h1 : n ≤ 400
    · go_enter Try.func39, Try.ntmps39
      go_wp2
      go_ret
      exact ⟨by rw [HB.out]; simp [h0, h1], rfl⟩
    · go_enter Try.func39, Try.ntmps39
      go_wp2
      go_ret
      exact ⟨by rw [HB.out]; simp [h0, h1], rfl⟩
  · go_enter Try.func39, Try.ntmps39
    go_wp2
    go_ret
    exact ⟨by rw [HB.out, decide_eq_false (show ¬ 1 ≤ n by omega)]; simp, rfl⟩

theorem sHalf_any (n : Int) (w : World) : Calls Try.prog 73 #[.int .i64 n] w fun e w' => e = .returned (.bool (inB n 0 4294967295)) ∧ w = w' := by
  go_enter Try.func73, Try.ntmps73
  go_wp2_with (go_at_call 41; refine (in_any _ _ _ _).mono ?_; rintro e w' ⟨rfl, rfl⟩)
  go_ret
  exact ⟨rfl, rfl⟩

theorem ask_any (n : Int) (w : World) : Calls Try.prog 53 #[.int .i64 n] w fun e w' => e = .returned (.bool (inB n 3 6)) ∧ w = w' := by
  go_enter Try.func53, Try.ntmps53
  go_wp2_with (go_at_call 41; refine (in_any _ _ _ _).mono ?_; rintro e w' ⟨rfl, rfl⟩)
  go_ret
  exact ⟨rfl, rfl⟩

set_option maxRecDepth 100000 in
set_option maxHeartbeats 2000000 in
theorem sInsOk_any (o k y n : Int) (w : World) : Calls Try.prog 42 #[.agg #[.int .i64 o, .int .i64 k, .int .i64 y, .int .i64 n]] w fun e w' => e = .returned (.bool (insB o k y n)) ∧ Ext w w' := by
  obtain ⟨z, hz⟩ : ∃ z, z = insB o k y n := ⟨_, rfl⟩
  rw [← hz]
  have HZ : Hid (insB o k y n = z) := hz.symm
  clear hz
  have bel : Hid (Ext w (w.alloc (.cells #[.int .i64 o, .int .i64 k, .int .i64 y, .int .i64 n] 35))) := Ext.one _ _
  cases h0 : inB o 1 8
  · go_enter Try.func42, Try.ntmps42
    go_wp2_with (first | (go_at_call 41; refine (in_any _ _ _ _).mono ?_; rintro e w' ⟨rfl, rfl⟩) | (go_at_call 73; refine (sHalf_any _ _).mono ?_; rintro e w' ⟨rfl, rfl⟩))
    go_ret
    exact ⟨by rw [← HZ.out, insB_false.2 (by rw [inB_false] at h0; unfold insP; omega)]; rfl, bel.out⟩
  cases h1 : inB k 0 4294967295
  · go_enter Try.func42, Try.ntmps42
    go_wp2_with (first | (go_at_call 41; refine (in_any _ _ _ _).mono ?_; rintro e w' ⟨rfl, rfl⟩) | (go_at_call 73; refine (sHalf_any _ _).mono ?_; rintro e w' ⟨rfl, rfl⟩))
    go_ret
    exact ⟨by rw [← HZ.out, insB_false.2 (by rw [inB_false] at h1; unfold insP; omega)]; rfl, bel.out⟩
  cases h2 : inB y 0 15
  · go_enter Try.func42, Try.ntmps42
    go_wp2_with (first | (go_at_call 41; refine (in_any _ _ _ _).mono ?_; rintro e w' ⟨rfl, rfl⟩) | (go_at_call 73; refine (sHalf_any _ _).mono ?_; rintro e w' ⟨rfl, rfl⟩))
    go_ret
    exact ⟨by rw [← HZ.out, insB_false.2 (by rw [inB_false] at h2; unfold insP; omega)]; rfl, bel.out⟩
  cases h3 : inB n 0 15
  · go_enter Try.func42, Try.ntmps42
    go_wp2_with (first | (go_at_call 41; refine (in_any _ _ _ _).mono ?_; rintro e w' ⟨rfl, rfl⟩) | (go_at_call 73; refine (sHalf_any _ _).mono ?_; rintro e w' ⟨rfl, rfl⟩))
    go_ret
    exact ⟨by rw [← HZ.out, insB_false.2 (by rw [inB_false] at h3; unfold insP; omega)]; rfl, bel.out⟩
  cases h4 : inB o 3 6
  · by_cases hy : y = 0
    · by_cases hn : n = 0
      · subst hy hn
        by_cases ho : o = 1
        · subst ho
          by_cases hk : k < 8
          all_goals
            go_enter Try.func42, Try.ntmps42
            go_wp2_with (first | (go_at_call 41; refine (in_any _ _ _ _).mono ?_; rintro e w' ⟨rfl, rfl⟩) | (go_at_call 73; refine (sHalf_any _ _).mono ?_; rintro e w' ⟨rfl, rfl⟩) | (go_at_call 53; refine (ask_any _ _).mono ?_; rintro e w' ⟨rfl, rfl⟩))
            go_ret
            exact ⟨by rw [← HZ.out]; first | (rw [insB_true.2 (by rw [inB_true] at h1; unfold insP; omega)]; simp; done) | (rw [insB_false.2 (by unfold insP; omega)]; simp; omega), bel.out⟩
        · by_cases ho7 : o = 7
          · subst ho7
            by_cases hk : k < 400
            all_goals
              go_enter Try.func42, Try.ntmps42
              go_wp2_with (first | (go_at_call 41; refine (in_any _ _ _ _).mono ?_; rintro e w' ⟨rfl, rfl⟩) | (go_at_call 73; refine (sHalf_any _ _).mono ?_; rintro e w' ⟨rfl, rfl⟩) | (go_at_call 53; refine (ask_any _ _).mono ?_; rintro e w' ⟨rfl, rfl⟩))
              go_ret
              exact ⟨by rw [← HZ.out]; first | (rw [insB_true.2 (by rw [inB_true] at h1; unfold insP; omega)]; simp; done) | (rw [insB_false.2 (by unfold insP; omega)]; simp; omega), bel.out⟩
          · have q1 : (o == 1) = false := by simpa using ho
            have q7 : (o == 7) = false := by simpa using ho7
            have HO : Hid (o ≠ 1 ∧ o ≠ 7) := ⟨ho, ho7⟩
            clear ho ho7
            go_enter Try.func42, Try.ntmps42
            go_wp2_with (first | (go_at_call 41; refine (in_any _ _ _ _).mono ?_; rintro e w' ⟨rfl, rfl⟩) | (go_at_call 73; refine (sHalf_any _ _).mono ?_; rintro e w' ⟨rfl, rfl⟩) | (go_at_call 53; refine (ask_any _ _).mono ?_; rintro e w' ⟨rfl, rfl⟩))
            go_ret
            exact ⟨by rw [← HZ.out, insB_true.2 (by rw [inB_true] at h0 h1 h2 h3; have := HO.out; unfold insP; omega)]; rfl, bel.out⟩
      · have q1 : (n != 0) = true := by simpa using hn
        subst hy
        have HN : Hid (n ≠ 0) := hn
        clear hn
        go_enter Try.func42, Try.ntmps42
        go_wp2_with (first | (go_at_call 41; refine (in_any _ _ _ _).mono ?_; rintro e w' ⟨rfl, rfl⟩) | (go_at_call 73; refine (sHalf_any _ _).mono ?_; rintro e w' ⟨rfl, rfl⟩) | (go_at_call 53; refine (ask_any _ _).mono ?_; rintro e w' ⟨rfl, rfl⟩))
        go_ret
        exact ⟨by rw [← HZ.out, insB_false.2 (by rw [inB_false] at h4; have := HN.out; unfold insP; omega)]; rfl, bel.out⟩
    · have q1 : (y != 0) = true := by simpa using hy
      have HN : Hid (y ≠ 0) := hy
      clear hy
      go_enter Try.func42, Try.ntmps42
      go_wp2_with (first | (go_at_call 41; refine (in_any _ _ _ _).mono ?_; rintro e w' ⟨rfl, rfl⟩) | (go_at_call 73; refine (sHalf_any _ _).mono ?_; rintro e w' ⟨rfl, rfl⟩) | (go_at_call 53; refine (ask_any _ _).mono ?_; rintro e w' ⟨rfl, rfl⟩))
      go_ret
      exact ⟨by rw [← HZ.out, insB_false.2 (by rw [inB_false] at h4; have := HN.out; unfold insP; omega)]; rfl, bel.out⟩
  · have q1 : (o == 1) = false := by rw [inB_true] at h4; simp; omega
    have q7 : (o == 7) = false := by rw [inB_true] at h4; simp; omega
    go_enter Try.func42, Try.ntmps42
    go_wp2_with (first | (go_at_call 41; refine (in_any _ _ _ _).mono ?_; rintro e w' ⟨rfl, rfl⟩) | (go_at_call 73; refine (sHalf_any _ _).mono ?_; rintro e w' ⟨rfl, rfl⟩) | (go_at_call 53; refine (ask_any _ _).mono ?_; rintro e w' ⟨rfl, rfl⟩))
    go_ret
    exact ⟨by rw [← HZ.out, insB_true.2 (by rw [inB_true] at h0 h1 h2 h3 h4; unfold insP; omega)]; rfl, bel.out⟩

theorem asLoadLoad (v : Value) (w : World) : (Instr.typeAssert (.iface 115 v) 107 115 true).run Try.prog w = .ok (.tuple #[v, .bool true]) w := by kernel_rfl

theorem asLoadAnd (v : Value) (w : World) : (Instr.typeAssert (.iface 115 v) 107 117 true).run Try.prog w = .ok (.tuple #[.agg #[.int .i64 0], .bool false]) w := by kernel_rfl

theorem asLoadAsk (v : Value) (w : World) : (Instr.typeAssert (.iface 115 v) 107 119 true).run Try.prog w = .ok (.tuple #[.agg #[.int .i64 0, .int .i64 0, .int .i64 0, .int .i64 0], .bool false]) w := by kernel_rfl

theorem asLoadJump (v : Value) (w : World) : (Instr.typeAssert (.iface 115 v) 107 121 true).run Try.prog w = .ok (.tuple #[.agg #[.int .i64 0], .bool false]) w := by kernel_rfl

theorem asLoadRet (v : Value) (w : World) : (Instr.typeAssert (.iface 115 v) 107 123 true).run Try.prog w = .ok (.tuple #[.agg #[.int .i64 0], .bool false]) w := by kernel_rfl

theorem asAndLoad (v : Value) (w : World) : (Instr.typeAssert (.iface 117 v) 107 115 true).run Try.prog w = .ok (.tuple #[.agg #[.int .i64 0], .bool false]) w := by kernel_rfl

theorem asAndAnd (v : Value) (w : World) : (Instr.typeAssert (.iface 117 v) 107 117 true).run Try.prog w = .ok (.tuple #[v, .bool true]) w := by kernel_rfl

theorem asAndAsk (v : Value) (w : World) : (Instr.typeAssert (.iface 117 v) 107 119 true).run Try.prog w = .ok (.tuple #[.agg #[.int .i64 0, .int .i64 0, .int .i64 0, .int .i64 0], .bool false]) w := by kernel_rfl

theorem asAndJump (v : Value) (w : World) : (Instr.typeAssert (.iface 117 v) 107 121 true).run Try.prog w = .ok (.tuple #[.agg #[.int .i64 0], .bool false]) w := by kernel_rfl

theorem asAndRet (v : Value) (w : World) : (Instr.typeAssert (.iface 117 v) 107 123 true).run Try.prog w = .ok (.tuple #[.agg #[.int .i64 0], .bool false]) w := by kernel_rfl

theorem asAskLoad (v : Value) (w : World) : (Instr.typeAssert (.iface 119 v) 107 115 true).run Try.prog w = .ok (.tuple #[.agg #[.int .i64 0], .bool false]) w := by kernel_rfl

theorem asAskAnd (v : Value) (w : World) : (Instr.typeAssert (.iface 119 v) 107 117 true).run Try.prog w = .ok (.tuple #[.agg #[.int .i64 0], .bool false]) w := by kernel_rfl

theorem asAskAsk (v : Value) (w : World) : (Instr.typeAssert (.iface 119 v) 107 119 true).run Try.prog w = .ok (.tuple #[v, .bool true]) w := by kernel_rfl

theorem asAskJump (v : Value) (w : World) : (Instr.typeAssert (.iface 119 v) 107 121 true).run Try.prog w = .ok (.tuple #[.agg #[.int .i64 0], .bool false]) w := by kernel_rfl

theorem asAskRet (v : Value) (w : World) : (Instr.typeAssert (.iface 119 v) 107 123 true).run Try.prog w = .ok (.tuple #[.agg #[.int .i64 0], .bool false]) w := by kernel_rfl

theorem asJumpLoad (v : Value) (w : World) : (Instr.typeAssert (.iface 121 v) 107 115 true).run Try.prog w = .ok (.tuple #[.agg #[.int .i64 0], .bool false]) w := by kernel_rfl

theorem asJumpAnd (v : Value) (w : World) : (Instr.typeAssert (.iface 121 v) 107 117 true).run Try.prog w = .ok (.tuple #[.agg #[.int .i64 0], .bool false]) w := by kernel_rfl

theorem asJumpAsk (v : Value) (w : World) : (Instr.typeAssert (.iface 121 v) 107 119 true).run Try.prog w = .ok (.tuple #[.agg #[.int .i64 0, .int .i64 0, .int .i64 0, .int .i64 0], .bool false]) w := by kernel_rfl

theorem asJumpJump (v : Value) (w : World) : (Instr.typeAssert (.iface 121 v) 107 121 true).run Try.prog w = .ok (.tuple #[v, .bool true]) w := by kernel_rfl

theorem asJumpRet (v : Value) (w : World) : (Instr.typeAssert (.iface 121 v) 107 123 true).run Try.prog w = .ok (.tuple #[.agg #[.int .i64 0], .bool false]) w := by kernel_rfl

theorem asRetLoad (v : Value) (w : World) : (Instr.typeAssert (.iface 123 v) 107 115 true).run Try.prog w = .ok (.tuple #[.agg #[.int .i64 0], .bool false]) w := by kernel_rfl

theorem asRetAnd (v : Value) (w : World) : (Instr.typeAssert (.iface 123 v) 107 117 true).run Try.prog w = .ok (.tuple #[.agg #[.int .i64 0], .bool false]) w := by kernel_rfl

theorem asRetAsk (v : Value) (w : World) : (Instr.typeAssert (.iface 123 v) 107 119 true).run Try.prog w = .ok (.tuple #[.agg #[.int .i64 0, .int .i64 0, .int .i64 0, .int .i64 0], .bool false]) w := by kernel_rfl

theorem asRetJump (v : Value) (w : World) : (Instr.typeAssert (.iface 123 v) 107 121 true).run Try.prog w = .ok (.tuple #[.agg #[.int .i64 0], .bool false]) w := by kernel_rfl

theorem asRetRet (v : Value) (w : World) : (Instr.typeAssert (.iface 123 v) 107 123 true).run Try.prog w = .ok (.tuple #[v, .bool true]) w := by kernel_rfl

theorem insLoad_any (k : Int) (w : World) : Calls Try.prog 102 #[.agg #[.int .i64 k]] w fun e w' => e = .returned (.agg #[.int .i64 1, .int .i64 k, .int .i64 0, .int .i64 0]) ∧ Ext w w' := by
  go_enter Try.func102, Try.ntmps102
  go_wp2
  refine bodyPost_ret (v := .agg #[.int .i64 1, .int .i64 k, .int .i64 0, .int .i64 0]) (by simp [results, Try.results102, go_sem]) rfl ⟨rfl, ?_⟩
  exact ((Ext.one _ _).alloc _)

theorem insAnd_any (k : Int) (w : World) : Calls Try.prog 103 #[.agg #[.int .i64 k]] w fun e w' => e = .returned (.agg #[.int .i64 2, .int .i64 k, .int .i64 0, .int .i64 0]) ∧ Ext w w' := by
  go_enter Try.func103, Try.ntmps103
  go_wp2
  refine bodyPost_ret (v := .agg #[.int .i64 2, .int .i64 k, .int .i64 0, .int .i64 0]) (by simp [results, Try.results103, go_sem]) rfl ⟨rfl, ?_⟩
  exact ((Ext.one _ _).alloc _)

theorem insAsk_any (o k y n : Int) (w : World) : Calls Try.prog 104 #[.agg #[.int .i64 o, .int .i64 k, .int .i64 y, .int .i64 n]] w fun e w' => e = .returned (.agg #[.int .i64 o, .int .i64 k, .int .i64 y, .int .i64 n]) ∧ Ext w w' := by
  go_enter Try.func104, Try.ntmps104
  go_wp2
  refine bodyPost_ret (v := .agg #[.int .i64 o, .int .i64 k, .int .i64 y, .int .i64 n]) (by simp [results, Try.results104, go_sem]) rfl ⟨rfl, ?_⟩
  exact ((Ext.one _ _).alloc _)

theorem insJump_any (k : Int) (w : World) : Calls Try.prog 105 #[.agg #[.int .i64 k]] w fun e w' => e = .returned (.agg #[.int .i64 7, .int .i64 k, .int .i64 0, .int .i64 0]) ∧ Ext w w' := by
  go_enter Try.func105, Try.ntmps105
  go_wp2
  refine bodyPost_ret (v := .agg #[.int .i64 7, .int .i64 k, .int .i64 0, .int .i64 0]) (by simp [results, Try.results105, go_sem]) rfl ⟨rfl, ?_⟩
  exact ((Ext.one _ _).alloc _)

theorem insRet_any (k : Int) (w : World) : Calls Try.prog 106 #[.agg #[.int .i64 k]] w fun e w' => e = .returned (.agg #[.int .i64 8, .int .i64 k, .int .i64 0, .int .i64 0]) ∧ Ext w w' := by
  go_enter Try.func106, Try.ntmps106
  go_wp2
  refine bodyPost_ret (v := .agg #[.int .i64 8, .int .i64 k, .int .i64 0, .int .i64 0]) (by simp [results, Try.results106, go_sem]) rfl ⟨rfl, ?_⟩
  exact ((Ext.one _ _).alloc _)

theorem wordLoad_any (k y n : Int) (w : World) : Calls Try.prog 82 #[.agg #[.int .i64 1, .int .i64 k, .int .i64 y, .int .i64 n]] w fun e w' => e = .returned (.tuple #[.iface 115 (.agg #[.int .i64 k]), .bool true]) ∧ Ext w w' := by
  go_enter Try.func82, Try.ntmps82
  go_wp2
  refine bodyPost_ret (v := .tuple #[.iface 115 (.agg #[.int .i64 k]), .bool true]) (by simp [results, Try.results82, go_sem]) rfl ⟨rfl, ?_⟩
  exact Ext.one _ _

theorem wordAnd_any (k y n : Int) (w : World) : Calls Try.prog 82 #[.agg #[.int .i64 2, .int .i64 k, .int .i64 y, .int .i64 n]] w fun e w' => e = .returned (.tuple #[.iface 117 (.agg #[.int .i64 k]), .bool true]) ∧ Ext w w' := by
  go_enter Try.func82, Try.ntmps82
  go_wp2
  refine bodyPost_ret (v := .tuple #[.iface 117 (.agg #[.int .i64 k]), .bool true]) (by simp [results, Try.results82, go_sem]) rfl ⟨rfl, ?_⟩
  exact Ext.one _ _

theorem wordAsk3_any (k y n : Int) (w : World) : Calls Try.prog 82 #[.agg #[.int .i64 3, .int .i64 k, .int .i64 y, .int .i64 n]] w fun e w' => e = .returned (.tuple #[.iface 119 (.agg #[.int .i64 3, .int .i64 k, .int .i64 y, .int .i64 n]), .bool true]) ∧ Ext w w' := by
  go_enter Try.func82, Try.ntmps82
  go_wp2
  refine bodyPost_ret (v := .tuple #[.iface 119 (.agg #[.int .i64 3, .int .i64 k, .int .i64 y, .int .i64 n]), .bool true]) (by simp [results, Try.results82, go_sem]) rfl ⟨rfl, ?_⟩
  exact Ext.one _ _

theorem wordAsk4_any (k y n : Int) (w : World) : Calls Try.prog 82 #[.agg #[.int .i64 4, .int .i64 k, .int .i64 y, .int .i64 n]] w fun e w' => e = .returned (.tuple #[.iface 119 (.agg #[.int .i64 4, .int .i64 k, .int .i64 y, .int .i64 n]), .bool true]) ∧ Ext w w' := by
  go_enter Try.func82, Try.ntmps82
  go_wp2
  refine bodyPost_ret (v := .tuple #[.iface 119 (.agg #[.int .i64 4, .int .i64 k, .int .i64 y, .int .i64 n]), .bool true]) (by simp [results, Try.results82, go_sem]) rfl ⟨rfl, ?_⟩
  exact Ext.one _ _

theorem wordAsk5_any (k y n : Int) (w : World) : Calls Try.prog 82 #[.agg #[.int .i64 5, .int .i64 k, .int .i64 y, .int .i64 n]] w fun e w' => e = .returned (.tuple #[.iface 119 (.agg #[.int .i64 5, .int .i64 k, .int .i64 y, .int .i64 n]), .bool true]) ∧ Ext w w' := by
  go_enter Try.func82, Try.ntmps82
  go_wp2
  refine bodyPost_ret (v := .tuple #[.iface 119 (.agg #[.int .i64 5, .int .i64 k, .int .i64 y, .int .i64 n]), .bool true]) (by simp [results, Try.results82, go_sem]) rfl ⟨rfl, ?_⟩
  exact Ext.one _ _

theorem wordAsk6_any (k y n : Int) (w : World) : Calls Try.prog 82 #[.agg #[.int .i64 6, .int .i64 k, .int .i64 y, .int .i64 n]] w fun e w' => e = .returned (.tuple #[.iface 119 (.agg #[.int .i64 6, .int .i64 k, .int .i64 y, .int .i64 n]), .bool true]) ∧ Ext w w' := by
  go_enter Try.func82, Try.ntmps82
  go_wp2
  refine bodyPost_ret (v := .tuple #[.iface 119 (.agg #[.int .i64 6, .int .i64 k, .int .i64 y, .int .i64 n]), .bool true]) (by simp [results, Try.results82, go_sem]) rfl ⟨rfl, ?_⟩
  exact Ext.one _ _

theorem wordJump_any (k y n : Int) (w : World) : Calls Try.prog 82 #[.agg #[.int .i64 7, .int .i64 k, .int .i64 y, .int .i64 n]] w fun e w' => e = .returned (.tuple #[.iface 121 (.agg #[.int .i64 k]), .bool true]) ∧ Ext w w' := by
  go_enter Try.func82, Try.ntmps82
  go_wp2
  refine bodyPost_ret (v := .tuple #[.iface 121 (.agg #[.int .i64 k]), .bool true]) (by simp [results, Try.results82, go_sem]) rfl ⟨rfl, ?_⟩
  exact Ext.one _ _

theorem wordRet_any (k y n : Int) (w : World) : Calls Try.prog 82 #[.agg #[.int .i64 8, .int .i64 k, .int .i64 y, .int .i64 n]] w fun e w' => e = .returned (.tuple #[.iface 123 (.agg #[.int .i64 k]), .bool true]) ∧ Ext w w' := by
  go_enter Try.func82, Try.ntmps82
  go_wp2
  refine bodyPost_ret (v := .tuple #[.iface 123 (.agg #[.int .i64 k]), .bool true]) (by simp [results, Try.results82, go_sem]) rfl ⟨rfl, ?_⟩
  exact Ext.one _ _

theorem wordNone_any (o k y n : Int) (w : World) (h : inB o 1 8 = false) : Calls Try.prog 82 #[.agg #[.int .i64 o, .int .i64 k, .int .i64 y, .int .i64 n]] w fun e w' => e = .returned (.tuple #[.nilIface, .bool false]) ∧ Ext w w' := by
  rw [inB_false] at h
  have q1 : (o == 1) = false := by simp; omega
  have q2 : (o == 2) = false := by simp; omega
  have q3 : (o == 3) = false := by simp; omega
  have q4 : (o == 4) = false := by simp; omega
  have q5 : (o == 5) = false := by simp; omega
  have q6 : (o == 6) = false := by simp; omega
  have q7 : (o == 7) = false := by simp; omega
  have q8 : (o == 8) = false := by simp; omega
  clear h
  go_enter Try.func82, Try.ntmps82
  go_wp2
  refine bodyPost_ret (v := .tuple #[.nilIface, .bool false]) (by simp [results, Try.results82, go_sem]) rfl ⟨rfl, ?_⟩
  exact Ext.one _ _

set_option maxHeartbeats 800000 in
theorem fitLoad_any (k : Int) (w : World) : Calls Try.prog 83 #[.iface 115 (.agg #[.int .i64 k])] w fun e w' => e = .returned (.bool (inB k 0 7)) ∧ Ext w w' := by
  have aLoad := asLoadLoad
  have aAnd := asLoadAnd
  have aAsk := asLoadAsk
  have aJump := asLoadJump
  have aRet := asLoadRet
  have HB : Hid (inB k 0 7 = (decide (0 ≤ k) && decide (k ≤ 7))) := rfl
  by_cases h0 : 0 ≤ k
  · by_cases h1 : k < 8
    · go_enter Try.func83, Try.ntmps83
      go_wp2
      go_ret
      exact ⟨by rw [HB.out, decide_eq_true (show 0 ≤ k by omega), decide_eq_true (show k ≤ 7 by omega)]; simp; try omega, Ext.one _ _⟩
    · go_enter Try.func83, Try.ntmps83
      go_wp2
      go_ret
      exact ⟨by rw [HB.out, decide_eq_true (show 0 ≤ k by omega), decide_eq_false (show ¬ k ≤ 7 by omega)]; simp; try omega, Ext.one _ _⟩
  · go_enter Try.func83, Try.ntmps83
    go_wp2
    go_ret
    exact ⟨by rw [HB.out, decide_eq_false (show ¬ 0 ≤ k by omega)]; simp, Ext.one _ _⟩

set_option maxHeartbeats 800000 in
theorem fitAnd_any (k : Int) (w : World) : Calls Try.prog 83 #[.iface 117 (.agg #[.int .i64 k])] w fun e w' => e = .returned (.bool (inB k 0 4294967295)) ∧ Ext w w' := by
  have aLoad := asAndLoad
  have aAnd := asAndAnd
  have aAsk := asAndAsk
  have aJump := asAndJump
  have aRet := asAndRet
  go_enter Try.func83, Try.ntmps83
  go_wp2_with (go_at_call 85; refine (iHalf_any _ _).mono ?_; rintro e w' ⟨rfl, rfl⟩)
  go_ret
  exact ⟨rfl, Ext.one _ _⟩

set_option maxHeartbeats 800000 in
theorem fitAsk_any (o k y n : Int) (w : World) : Calls Try.prog 83 #[.iface 119 (.agg #[.int .i64 o, .int .i64 k, .int .i64 y, .int .i64 n])] w fun e w' => e = .returned (.bool (inB k 0 4294967295 && inB y 0 15 && inB n 0 15)) ∧ Ext w w' := by
  have aLoad := asAskLoad
  have aAnd := asAskAnd
  have aAsk := asAskAsk
  have aJump := asAskJump
  have aRet := asAskRet
  cases h0 : inB k 0 4294967295
  · go_enter Try.func83, Try.ntmps83
    go_wp2_with (first | (go_at_call 85; refine (iHalf_any _ _).mono ?_; rintro e w' ⟨rfl, rfl⟩) | (go_at_call 86; refine (way_any _ _).mono ?_; rintro e w' ⟨rfl, rfl⟩))
    go_ret
    exact ⟨by simp, Ext.one _ _⟩
  · cases h1 : inB y 0 15
    · go_enter Try.func83, Try.ntmps83
      go_wp2_with (first | (go_at_call 85; refine (iHalf_any _ _).mono ?_; rintro e w' ⟨rfl, rfl⟩) | (go_at_call 86; refine (way_any _ _).mono ?_; rintro e w' ⟨rfl, rfl⟩))
      go_ret
      exact ⟨by simp, Ext.one _ _⟩
    · go_enter Try.func83, Try.ntmps83
      go_wp2_with (first | (go_at_call 85; refine (iHalf_any _ _).mono ?_; rintro e w' ⟨rfl, rfl⟩) | (go_at_call 86; refine (way_any _ _).mono ?_; rintro e w' ⟨rfl, rfl⟩))
      go_ret
      exact ⟨by simp, Ext.one _ _⟩

set_option maxHeartbeats 800000 in
theorem fitJump_any (k : Int) (w : World) : Calls Try.prog 83 #[.iface 121 (.agg #[.int .i64 k])] w fun e w' => e = .returned (.bool (inB k 0 399)) ∧ Ext w w' := by
  have aLoad := asJumpLoad
  have aAnd := asJumpAnd
  have aAsk := asJumpAsk
  have aJump := asJumpJump
  have aRet := asJumpRet
  have HB : Hid (inB k 0 399 = (decide (0 ≤ k) && decide (k ≤ 399))) := rfl
  by_cases h0 : 0 ≤ k
  · by_cases h1 : k < 400
    · go_enter Try.func83, Try.ntmps83
      go_wp2
      go_ret
      exact ⟨by rw [HB.out, decide_eq_true (show 0 ≤ k by omega), decide_eq_true (show k ≤ 399 by omega)]; simp; try omega, Ext.one _ _⟩
    · go_enter Try.func83, Try.ntmps83
      go_wp2
      go_ret
      exact ⟨by rw [HB.out, decide_eq_true (show 0 ≤ k by omega), decide_eq_false (show ¬ k ≤ 399 by omega)]; simp; try omega, Ext.one _ _⟩
  · go_enter Try.func83, Try.ntmps83
    go_wp2
    go_ret
    exact ⟨by rw [HB.out, decide_eq_false (show ¬ 0 ≤ k by omega)]; simp, Ext.one _ _⟩

set_option maxHeartbeats 800000 in
theorem fitRet_any (k : Int) (w : World) : Calls Try.prog 83 #[.iface 123 (.agg #[.int .i64 k])] w fun e w' => e = .returned (.bool (inB k 0 4294967295)) ∧ Ext w w' := by
  have aLoad := asRetLoad
  have aAnd := asRetAnd
  have aAsk := asRetAsk
  have aJump := asRetJump
  have aRet := asRetRet
  go_enter Try.func83, Try.ntmps83
  go_wp2_with (go_at_call 85; refine (iHalf_any _ _).mono ?_; rintro e w' ⟨rfl, rfl⟩)
  go_ret
  exact ⟨rfl, Ext.one _ _⟩

theorem fieldsN : ∃ f g h i : Field, Try.prog.fieldsOf 35 = #[f, g, h, i] ∧ Try.prog.underlying 35 = some (.struct #[f, g, h, i]) ∧ (f.name ≠ "_" ∧ f.type = 3 ∧ f.offset = 0) ∧ (g.name ≠ "_" ∧ g.type = 3 ∧ g.offset = 1) ∧ (h.name ≠ "_" ∧ h.type = 3 ∧ h.offset = 2) ∧ (i.name ≠ "_" ∧ i.type = 3 ∧ i.offset = 3) := by
  refine ⟨_, _, _, _, ?_, Try.underlying35, ⟨by decide, rfl, rfl⟩, ⟨by decide, rfl, rfl⟩, ⟨by decide, rfl, rfl⟩, ⟨by decide, rfl, rfl⟩⟩
  unfold Program.fieldsOf
  rw [Try.underlying35]

theorem stoodN : Try.prog.stoodInHeld 35 = false := by kernel_rfl

/-- Two words are held against each other: whether all four numbers are the same. -/
theorem eq_ins (a b c d a' b' c' d' : Int) (w : World) :
    (Op.equalIn 10000 35 (.agg #[.int .i64 a, .int .i64 b, .int .i64 c, .int .i64 d]) (.agg #[.int .i64 a', .int .i64 b', .int .i64 c', .int .i64 d'])).run Try.prog w = .ok (decide ((a, b, c, d) = (a', b', c', d'))) w := by
  obtain ⟨f, g, h, i, hf, hu, ⟨fn, ft, fo⟩, ⟨gn, gt, go⟩, ⟨hn, ht, ho⟩, ⟨iN, it, io⟩⟩ := fieldsN
  have h1 := run_equalIn_agg (P := Try.prog) w 9999 35 #[.int .i64 a, .int .i64 b, .int .i64 c, .int .i64 d] #[.int .i64 a', .int .i64 b', .int .i64 c', .int .i64 d'] (by rw [hf]; exact hu) stoodN
  have p0 : ∀ (x y z u : Value) wx, (part 3 #[x, y, z, u] 0).run Try.prog wx = .ok x wx := fun x y z u wx => by simp [part, Try.isAgg3]
  have p1 : ∀ (x y z u : Value) wx, (part 3 #[x, y, z, u] 1).run Try.prog wx = .ok y wx := fun x y z u wx => by simp [part, Try.isAgg3]
  have p2 : ∀ (x y z u : Value) wx, (part 3 #[x, y, z, u] 2).run Try.prog wx = .ok z wx := fun x y z u wx => by simp [part, Try.isAgg3]
  have p3 : ∀ (x y z u : Value) wx, (part 3 #[x, y, z, u] 3).run Try.prog wx = .ok u wx := fun x y z u wx => by simp [part, Try.isAgg3]
  have qi : ∀ (x y : Int) wx, (Op.equalIn 9999 3 (.int .i64 x) (.int .i64 y)).run Try.prog wx = .ok (x == y) wx := fun x y wx => run_equalIn_int wx 9998 3 .i64 .i64 x y Try.underlying3
  rw [show (10000 : Nat) = 9999 + 1 from rfl, h1, hf]
  simp only [Op.eqFields, fn, gn, hn, iN, ne_eq, not_false_eq_true, if_true, Sem.run_bind, ft, fo, gt, go, ht, ho, it, io, p0, Result.andThen_ok, qi]
  by_cases ha : a = a'
  · subst ha
    by_cases hb : b = b'
    · subst hb
      by_cases hc : c = c'
      · subst hc
        by_cases hd : d = d'
        · subst hd; simp [p1, p2, p3, qi]
        · simp [hd, p1, p2, p3, qi]
      · simp [hc, p1, p2, qi]
    · simp [hb, p1, qi]
  · simp [ha]

set_option maxRecDepth 100000 in
set_option maxHeartbeats 1600000 in
theorem okLoad1_no (k y n : Int) (w : World) (hf : (inB k 0 7) = false) : Calls Try.prog 75 #[.agg #[.int .i64 1, .int .i64 k, .int .i64 y, .int .i64 n]] w fun e w' => e = .returned (.bool false) ∧ Ext w w' := by
  have HF : Hid (∀ w, Calls Try.prog 83 #[.iface 115 (.agg #[.int .i64 k])] w fun e w' => e = .returned (.bool false) ∧ Ext w w') := fun w => by have h := fitLoad_any k w; rw [hf] at h; exact h
  clear hf
  go_enter Try.func75, Try.ntmps75
  go_wp2_with fail
  refine (wordLoad_any k y n _).mono ?_
  rintro e w1 ⟨rfl, e1⟩
  have c1 : CellsAt w1 w.heap.size [.int .i64 1, .int .i64 k, .int .i64 y, .int .i64 n] := (CellsAt.new w [.int .i64 1, .int .i64 k, .int .i64 y, .int .i64 n] 35).step e1
  have E1 : Hid (Ext w w1) := (Ext.one _ _).trans e1
  clear e1
  go_wp2_with fail
  refine' wp_region_loose (.inl _ :: .inl _ :: .inl _ :: .inl _ :: .inl _ :: .inl _ :: .inl undef :: .inl undef :: .inl undef :: .inl undef :: .inl _ :: .inl _ :: []) (fun w' => CellsAt w' w.heap.size [.int .i64 1, .int .i64 k, .int .i64 y, .int .i64 n]) (by kernel_rfl) (by kernel_rfl) (c1.drew) (fun _ _ h hE => h.step hE) ?hAa ?hla ?hMa
  case' hMa => skip
  apply wpLoose_val rfl rfl
  case hs =>
    intro w1 hC hd Q1 hQ1
    obtain ⟨hE, hS⟩ := hC
    dsimp only [bare]
    have q0 := hS.2 0 _ rfl; have q1 := hS.2 1 _ rfl; have q2 := hS.2 2 _ rfl; have q3 := hS.2 3 _ rfl
    clear hd hE
    try clear hS
    go_wp2
    exact Ext.refl _
  case ha => rfl
  apply wpLoose_val rfl rfl
  case hs =>
    intro w1 hC hd Q1 hQ1
    obtain ⟨hE, hS⟩ := hC
    dsimp only [bare]
    have q0 := hS.2 0 _ rfl; have q1 := hS.2 1 _ rfl; have q2 := hS.2 2 _ rfl; have q3 := hS.2 3 _ rfl
    clear hd hE
    try clear hS
    go_wp2
    exact Ext.refl _
  case ha => rfl
  apply wpLoose_val rfl rfl
  case hs =>
    intro w1 hC hd Q1 hQ1
    obtain ⟨hE, hS⟩ := hC
    dsimp only [bare]
    have q0 := hS.2 0 _ rfl; have q1 := hS.2 1 _ rfl; have q2 := hS.2 2 _ rfl; have q3 := hS.2 3 _ rfl
    clear hd hE
    try clear hS
    go_wp2
    exact Ext.refl _
  case ha => rfl
  apply wpLoose_val rfl rfl
  case hs =>
    intro w1 hC hd Q1 hQ1
    obtain ⟨hE, hS⟩ := hC
    dsimp only [bare]
    clear hd
    go_wp2_with fail
    refine (HF.out _).mono ?_
    rintro e w2 ⟨rfl, hb⟩
    go_wp2_with fail
    exact hb
  case ha => rfl
  apply wpLoose_val rfl rfl
  case hs =>
    intro w1 hC hd Q1 hQ1
    obtain ⟨hE, hS⟩ := hC
    dsimp only [bare]
    have q0 := hS.2 0 _ rfl; have q1 := hS.2 1 _ rfl; have q2 := hS.2 2 _ rfl; have q3 := hS.2 3 _ rfl
    clear hd hE
    try clear hS
    go_wp2
    exact Ext.refl _
  case ha => rfl
  apply wpLoose_val rfl rfl
  case hs =>
    intro w1 hC hd Q1 hQ1
    obtain ⟨hE, hS⟩ := hC
    dsimp only [bare]
    have q0 := hS.2 0 _ rfl; have q1 := hS.2 1 _ rfl; have q2 := hS.2 2 _ rfl; have q3 := hS.2 3 _ rfl
    clear hd hE
    try clear hS
    go_wp2
    exact Ext.refl _
  case ha => rfl
  refine wpLoose_skip rfl rfl ?_
  try simp only [Act.put, List.setIfInBounds_toArray, List.set_cons_succ, List.set_cons_zero]
  refine wpLoose_skip rfl rfl ?_
  try simp only [Act.put, List.setIfInBounds_toArray, List.set_cons_succ, List.set_cons_zero]
  refine wpLoose_skip rfl rfl ?_
  try simp only [Act.put, List.setIfInBounds_toArray, List.set_cons_succ, List.set_cons_zero]
  refine wpLoose_skip rfl rfl ?_
  try simp only [Act.put, List.setIfInBounds_toArray, List.set_cons_succ, List.set_cons_zero]
  apply wpLoose_val rfl rfl
  case hs =>
    intro w1 hC hd Q1 hQ1
    obtain ⟨hE, hS⟩ := hC
    dsimp only [bare]
    have q0 := hS.2 0 _ rfl; have q1 := hS.2 1 _ rfl; have q2 := hS.2 2 _ rfl; have q3 := hS.2 3 _ rfl
    clear hd hE
    try clear hS
    go_wp2
    exact Ext.refl _
  case ha => rfl
  apply wpLoose_val rfl rfl
  case hs =>
    intro w1 hC hd Q1 hQ1
    obtain ⟨hE, hS⟩ := hC
    dsimp only [bare]
    have q0 := hS.2 0 _ rfl; have q1 := hS.2 1 _ rfl; have q2 := hS.2 2 _ rfl; have q3 := hS.2 3 _ rfl
    clear hd hE
    try clear hS
    go_wp2
    exact Ext.refl _
  case ha => rfl
  refine wpLoose_nil ?_
  intro wa hEa hSa hFa
  have E2 : Hid (Ext w wa) := E1.out.drew.trans hEa
  clear hFa hSa hEa E1 c1
  go_wp2
  go_ret
  exact ⟨rfl, E2.out⟩
  case hAa => kernel_rfl
  case hla => exact ⟨trivial, trivial, trivial, trivial, trivial, trivial, trivial, trivial, trivial, trivial, trivial, trivial, trivial⟩

set_option maxRecDepth 100000 in
set_option maxHeartbeats 1600000 in
theorem okLoad1_yes (k y n : Int) (d : Bool) (w : World) (hf : (inB k 0 7) = true) (hdd : decide (((1 : Int), (k : Int), (0 : Int), (0 : Int)) = (1, k, y, n)) = d) : Calls Try.prog 75 #[.agg #[.int .i64 1, .int .i64 k, .int .i64 y, .int .i64 n]] w fun e w' => e = .returned (.bool d) ∧ Ext w w' := by
  have HQ : Hid (∀ w, (Op.equalIn 10000 35 (.agg #[.int .i64 1, .int .i64 k, .int .i64 0, .int .i64 0]) (.agg #[.int .i64 1, .int .i64 k, .int .i64 y, .int .i64 n])).run Try.prog w = .ok d w) := fun w => by rw [eq_ins, hdd]
  clear hdd
  have HF : Hid (∀ w, Calls Try.prog 83 #[.iface 115 (.agg #[.int .i64 k])] w fun e w' => e = .returned (.bool true) ∧ Ext w w') := fun w => by have h := fitLoad_any k w; rw [hf] at h; exact h
  clear hf
  go_enter Try.func75, Try.ntmps75
  go_wp2_with fail
  refine (wordLoad_any k y n _).mono ?_
  rintro e w1 ⟨rfl, e1⟩
  have c1 : CellsAt w1 w.heap.size [.int .i64 1, .int .i64 k, .int .i64 y, .int .i64 n] := (CellsAt.new w [.int .i64 1, .int .i64 k, .int .i64 y, .int .i64 n] 35).step e1
  have E1 : Hid (Ext w w1) := (Ext.one _ _).trans e1
  clear e1
  go_wp2_with fail
  refine' wp_region_loose (.inl _ :: .inl _ :: .inl _ :: .inl _ :: .inl _ :: .inl _ :: .inl _ :: .inl _ :: .inl _ :: .inl _ :: .inl _ :: .inl _ :: []) (fun w' => CellsAt w' w.heap.size [.int .i64 1, .int .i64 k, .int .i64 y, .int .i64 n]) (by kernel_rfl) (by kernel_rfl) (c1.drew) (fun _ _ h hE => h.step hE) ?hAa ?hla ?hMa
  case' hMa => skip
  apply wpLoose_val rfl rfl
  case hs =>
    intro w1 hC hd Q1 hQ1
    obtain ⟨hE, hS⟩ := hC
    dsimp only [bare]
    have q0 := hS.2 0 _ rfl; have q1 := hS.2 1 _ rfl; have q2 := hS.2 2 _ rfl; have q3 := hS.2 3 _ rfl
    clear hd hE
    try clear hS
    go_wp2
    exact Ext.refl _
  case ha => rfl
  apply wpLoose_val rfl rfl
  case hs =>
    intro w1 hC hd Q1 hQ1
    obtain ⟨hE, hS⟩ := hC
    dsimp only [bare]
    have q0 := hS.2 0 _ rfl; have q1 := hS.2 1 _ rfl; have q2 := hS.2 2 _ rfl; have q3 := hS.2 3 _ rfl
    clear hd hE
    try clear hS
    go_wp2
    exact Ext.refl _
  case ha => rfl
  apply wpLoose_val rfl rfl
  case hs =>
    intro w1 hC hd Q1 hQ1
    obtain ⟨hE, hS⟩ := hC
    dsimp only [bare]
    have q0 := hS.2 0 _ rfl; have q1 := hS.2 1 _ rfl; have q2 := hS.2 2 _ rfl; have q3 := hS.2 3 _ rfl
    clear hd hE
    try clear hS
    go_wp2
    exact Ext.refl _
  case ha => rfl
  apply wpLoose_val rfl rfl
  case hs =>
    intro w1 hC hd Q1 hQ1
    obtain ⟨hE, hS⟩ := hC
    dsimp only [bare]
    clear hd
    go_wp2_with fail
    refine (HF.out _).mono ?_
    rintro e w2 ⟨rfl, hb⟩
    go_wp2_with fail
    exact hb
  case ha => rfl
  apply wpLoose_val rfl rfl
  case hs =>
    intro w1 hC hd Q1 hQ1
    obtain ⟨hE, hS⟩ := hC
    dsimp only [bare]
    have q0 := hS.2 0 _ rfl; have q1 := hS.2 1 _ rfl; have q2 := hS.2 2 _ rfl; have q3 := hS.2 3 _ rfl
    clear hd hE
    try clear hS
    go_wp2
    exact Ext.refl _
  case ha => rfl
  apply wpLoose_val rfl rfl
  case hs =>
    intro w1 hC hd Q1 hQ1
    obtain ⟨hE, hS⟩ := hC
    dsimp only [bare]
    have q0 := hS.2 0 _ rfl; have q1 := hS.2 1 _ rfl; have q2 := hS.2 2 _ rfl; have q3 := hS.2 3 _ rfl
    clear hd hE
    try clear hS
    go_wp2
    exact Ext.refl _
  case ha => rfl
  apply wpLoose_val rfl rfl
  case hs =>
    intro w1 hC hd Q1 hQ1
    obtain ⟨hE, hS⟩ := hC
    dsimp only [bare]
    have q0 := hS.2 0 _ rfl; have q1 := hS.2 1 _ rfl; have q2 := hS.2 2 _ rfl; have q3 := hS.2 3 _ rfl
    clear hd hE
    try clear hS
    go_wp2
    exact Ext.refl _
  case ha => rfl
  apply wpLoose_val rfl rfl
  case hs =>
    intro w1 hC hd Q1 hQ1
    obtain ⟨hE, hS⟩ := hC
    dsimp only [bare]
    clear hd
    go_wp2_with fail
    refine (insLoad_any k _).mono ?_
    rintro e w2 ⟨rfl, hb⟩
    go_wp2_with fail
    exact hb
  case ha => rfl
  apply wpLoose_val rfl rfl
  case hs =>
    intro w1 hC hd Q1 hQ1
    obtain ⟨hE, hS⟩ := hC
    dsimp only [bare]
    have q0 := hS.2 0 _ rfl; have q1 := hS.2 1 _ rfl; have q2 := hS.2 2 _ rfl; have q3 := hS.2 3 _ rfl
    clear hd hE
    try clear hS
    go_wp2
    exact Ext.refl _
  case ha => rfl
  apply wpLoose_val rfl rfl
  case hs =>
    intro w1 hC hd Q1 hQ1
    obtain ⟨hE, hS⟩ := hC
    dsimp only [bare]
    have hEq := HQ.out
    obtain ⟨q0, q1, q2, q3⟩ := (⟨hS.2 0 _ rfl, hS.2 1 _ rfl, hS.2 2 _ rfl, hS.2 3 _ rfl⟩ : _ ∧ _ ∧ _ ∧ _)
    clear hd hE hS
    go_wp2
    exact Ext.refl _
  case ha => rfl
  apply wpLoose_val rfl rfl
  case hs =>
    intro w1 hC hd Q1 hQ1
    obtain ⟨hE, hS⟩ := hC
    dsimp only [bare]
    have q0 := hS.2 0 _ rfl; have q1 := hS.2 1 _ rfl; have q2 := hS.2 2 _ rfl; have q3 := hS.2 3 _ rfl
    clear hd hE
    try clear hS
    go_wp2
    exact Ext.refl _
  case ha => rfl
  apply wpLoose_val rfl rfl
  case hs =>
    intro w1 hC hd Q1 hQ1
    obtain ⟨hE, hS⟩ := hC
    dsimp only [bare]
    have q0 := hS.2 0 _ rfl; have q1 := hS.2 1 _ rfl; have q2 := hS.2 2 _ rfl; have q3 := hS.2 3 _ rfl
    clear hd hE
    try clear hS
    go_wp2
    exact Ext.refl _
  case ha => rfl
  refine wpLoose_nil ?_
  intro wa hEa hSa hFa
  have E2 : Hid (Ext w wa) := E1.out.drew.trans hEa
  clear hFa hSa hEa E1 c1
  go_wp2
  go_ret
  exact ⟨rfl, E2.out⟩
  case hAa => kernel_rfl
  case hla => exact ⟨trivial, trivial, trivial, trivial, trivial, trivial, trivial, trivial, trivial, trivial, trivial, trivial, trivial⟩

set_option maxRecDepth 100000 in
set_option maxHeartbeats 1600000 in
theorem okAnd2_no (k y n : Int) (w : World) (hf : (inB k 0 4294967295) = false) : Calls Try.prog 75 #[.agg #[.int .i64 2, .int .i64 k, .int .i64 y, .int .i64 n]] w fun e w' => e = .returned (.bool false) ∧ Ext w w' := by
  have HF : Hid (∀ w, Calls Try.prog 83 #[.iface 117 (.agg #[.int .i64 k])] w fun e w' => e = .returned (.bool false) ∧ Ext w w') := fun w => by have h := fitAnd_any k w; rw [hf] at h; exact h
  clear hf
  go_enter Try.func75, Try.ntmps75
  go_wp2_with fail
  refine (wordAnd_any k y n _).mono ?_
  rintro e w1 ⟨rfl, e1⟩
  have c1 : CellsAt w1 w.heap.size [.int .i64 2, .int .i64 k, .int .i64 y, .int .i64 n] := (CellsAt.new w [.int .i64 2, .int .i64 k, .int .i64 y, .int .i64 n] 35).step e1
  have E1 : Hid (Ext w w1) := (Ext.one _ _).trans e1
  clear e1
  go_wp2_with fail
  refine' wp_region_loose (.inl _ :: .inl _ :: .inl _ :: .inl _ :: .inl _ :: .inl _ :: .inl undef :: .inl undef :: .inl undef :: .inl undef :: .inl _ :: .inl _ :: []) (fun w' => CellsAt w' w.heap.size [.int .i64 2, .int .i64 k, .int .i64 y, .int .i64 n]) (by kernel_rfl) (by kernel_rfl) (c1.drew) (fun _ _ h hE => h.step hE) ?hAa ?hla ?hMa
  case' hMa => skip
  apply wpLoose_val rfl rfl
  case hs =>
    intro w1 hC hd Q1 hQ1
    obtain ⟨hE, hS⟩ := hC
    dsimp only [bare]
    have q0 := hS.2 0 _ rfl; have q1 := hS.2 1 _ rfl; have q2 := hS.2 2 _ rfl; have q3 := hS.2 3 _ rfl
    clear hd hE
    try clear hS
    go_wp2
    exact Ext.refl _
  case ha => rfl
  apply wpLoose_val rfl rfl
  case hs =>
    intro w1 hC hd Q1 hQ1
    obtain ⟨hE, hS⟩ := hC
    dsimp only [bare]
    have q0 := hS.2 0 _ rfl; have q1 := hS.2 1 _ rfl; have q2 := hS.2 2 _ rfl; have q3 := hS.2 3 _ rfl
    clear hd hE
    try clear hS
    go_wp2
    exact Ext.refl _
  case ha => rfl
  apply wpLoose_val rfl rfl
  case hs =>
    intro w1 hC hd Q1 hQ1
    obtain ⟨hE, hS⟩ := hC
    dsimp only [bare]
    have q0 := hS.2 0 _ rfl; have q1 := hS.2 1 _ rfl; have q2 := hS.2 2 _ rfl; have q3 := hS.2 3 _ rfl
    clear hd hE
    try clear hS
    go_wp2
    exact Ext.refl _
  case ha => rfl
  apply wpLoose_val rfl rfl
  case hs =>
    intro w1 hC hd Q1 hQ1
    obtain ⟨hE, hS⟩ := hC
    dsimp only [bare]
    clear hd
    go_wp2_with fail
    refine (HF.out _).mono ?_
    rintro e w2 ⟨rfl, hb⟩
    go_wp2_with fail
    exact hb
  case ha => rfl
  apply wpLoose_val rfl rfl
  case hs =>
    intro w1 hC hd Q1 hQ1
    obtain ⟨hE, hS⟩ := hC
    dsimp only [bare]
    have q0 := hS.2 0 _ rfl; have q1 := hS.2 1 _ rfl; have q2 := hS.2 2 _ rfl; have q3 := hS.2 3 _ rfl
    clear hd hE
    try clear hS
    go_wp2
    exact Ext.refl _
  case ha => rfl
  apply wpLoose_val rfl rfl
  case hs =>
    intro w1 hC hd Q1 hQ1
    obtain ⟨hE, hS⟩ := hC
    dsimp only [bare]
    have q0 := hS.2 0 _ rfl; have q1 := hS.2 1 _ rfl; have q2 := hS.2 2 _ rfl; have q3 := hS.2 3 _ rfl
    clear hd hE
    try clear hS
    go_wp2
    exact Ext.refl _
  case ha => rfl
  refine wpLoose_skip rfl rfl ?_
  try simp only [Act.put, List.setIfInBounds_toArray, List.set_cons_succ, List.set_cons_zero]
  refine wpLoose_skip rfl rfl ?_
  try simp only [Act.put, List.setIfInBounds_toArray, List.set_cons_succ, List.set_cons_zero]
  refine wpLoose_skip rfl rfl ?_
  try simp only [Act.put, List.setIfInBounds_toArray, List.set_cons_succ, List.set_cons_zero]
  refine wpLoose_skip rfl rfl ?_
  try simp only [Act.put, List.setIfInBounds_toArray, List.set_cons_succ, List.set_cons_zero]
  apply wpLoose_val rfl rfl
  case hs =>
    intro w1 hC hd Q1 hQ1
    obtain ⟨hE, hS⟩ := hC
    dsimp only [bare]
    have q0 := hS.2 0 _ rfl; have q1 := hS.2 1 _ rfl; have q2 := hS.2 2 _ rfl; have q3 := hS.2 3 _ rfl
    clear hd hE
    try clear hS
    go_wp2
    exact Ext.refl _
  case ha => rfl
  apply wpLoose_val rfl rfl
  case hs =>
    intro w1 hC hd Q1 hQ1
    obtain ⟨hE, hS⟩ := hC
    dsimp only [bare]
    have q0 := hS.2 0 _ rfl; have q1 := hS.2 1 _ rfl; have q2 := hS.2 2 _ rfl; have q3 := hS.2 3 _ rfl
    clear hd hE
    try clear hS
    go_wp2
    exact Ext.refl _
  case ha => rfl
  refine wpLoose_nil ?_
  intro wa hEa hSa hFa
  have E2 : Hid (Ext w wa) := E1.out.drew.trans hEa
  clear hFa hSa hEa E1 c1
  go_wp2
  go_ret
  exact ⟨rfl, E2.out⟩
  case hAa => kernel_rfl
  case hla => exact ⟨trivial, trivial, trivial, trivial, trivial, trivial, trivial, trivial, trivial, trivial, trivial, trivial, trivial⟩

set_option maxRecDepth 100000 in
set_option maxHeartbeats 1600000 in
theorem okAnd2_yes (k y n : Int) (d : Bool) (w : World) (hf : (inB k 0 4294967295) = true) (hdd : decide (((2 : Int), (k : Int), (0 : Int), (0 : Int)) = (2, k, y, n)) = d) : Calls Try.prog 75 #[.agg #[.int .i64 2, .int .i64 k, .int .i64 y, .int .i64 n]] w fun e w' => e = .returned (.bool d) ∧ Ext w w' := by
  have HQ : Hid (∀ w, (Op.equalIn 10000 35 (.agg #[.int .i64 2, .int .i64 k, .int .i64 0, .int .i64 0]) (.agg #[.int .i64 2, .int .i64 k, .int .i64 y, .int .i64 n])).run Try.prog w = .ok d w) := fun w => by rw [eq_ins, hdd]
  clear hdd
  have HF : Hid (∀ w, Calls Try.prog 83 #[.iface 117 (.agg #[.int .i64 k])] w fun e w' => e = .returned (.bool true) ∧ Ext w w') := fun w => by have h := fitAnd_any k w; rw [hf] at h; exact h
  clear hf
  go_enter Try.func75, Try.ntmps75
  go_wp2_with fail
  refine (wordAnd_any k y n _).mono ?_
  rintro e w1 ⟨rfl, e1⟩
  have c1 : CellsAt w1 w.heap.size [.int .i64 2, .int .i64 k, .int .i64 y, .int .i64 n] := (CellsAt.new w [.int .i64 2, .int .i64 k, .int .i64 y, .int .i64 n] 35).step e1
  have E1 : Hid (Ext w w1) := (Ext.one _ _).trans e1
  clear e1
  go_wp2_with fail
  refine' wp_region_loose (.inl _ :: .inl _ :: .inl _ :: .inl _ :: .inl _ :: .inl _ :: .inl _ :: .inl _ :: .inl _ :: .inl _ :: .inl _ :: .inl _ :: []) (fun w' => CellsAt w' w.heap.size [.int .i64 2, .int .i64 k, .int .i64 y, .int .i64 n]) (by kernel_rfl) (by kernel_rfl) (c1.drew) (fun _ _ h hE => h.step hE) ?hAa ?hla ?hMa
  case' hMa => skip
  apply wpLoose_val rfl rfl
  case hs =>
    intro w1 hC hd Q1 hQ1
    obtain ⟨hE, hS⟩ := hC
    dsimp only [bare]
    have q0 := hS.2 0 _ rfl; have q1 := hS.2 1 _ rfl; have q2 := hS.2 2 _ rfl; have q3 := hS.2 3 _ rfl
    clear hd hE
    try clear hS
    go_wp2
    exact Ext.refl _
  case ha => rfl
  apply wpLoose_val rfl rfl
  case hs =>
    intro w1 hC hd Q1 hQ1
    obtain ⟨hE, hS⟩ := hC
    dsimp only [bare]
    have q0 := hS.2 0 _ rfl; have q1 := hS.2 1 _ rfl; have q2 := hS.2 2 _ rfl; have q3 := hS.2 3 _ rfl
    clear hd hE
    try clear hS
    go_wp2
    exact Ext.refl _
  case ha => rfl
  apply wpLoose_val rfl rfl
  case hs =>
    intro w1 hC hd Q1 hQ1
    obtain ⟨hE, hS⟩ := hC
    dsimp only [bare]
    have q0 := hS.2 0 _ rfl; have q1 := hS.2 1 _ rfl; have q2 := hS.2 2 _ rfl; have q3 := hS.2 3 _ rfl
    clear hd hE
    try clear hS
    go_wp2
    exact Ext.refl _
  case ha => rfl
  apply wpLoose_val rfl rfl
  case hs =>
    intro w1 hC hd Q1 hQ1
    obtain ⟨hE, hS⟩ := hC
    dsimp only [bare]
    clear hd
    go_wp2_with fail
    refine (HF.out _).mono ?_
    rintro e w2 ⟨rfl, hb⟩
    go_wp2_with fail
    exact hb
  case ha => rfl
  apply wpLoose_val rfl rfl
  case hs =>
    intro w1 hC hd Q1 hQ1
    obtain ⟨hE, hS⟩ := hC
    dsimp only [bare]
    have q0 := hS.2 0 _ rfl; have q1 := hS.2 1 _ rfl; have q2 := hS.2 2 _ rfl; have q3 := hS.2 3 _ rfl
    clear hd hE
    try clear hS
    go_wp2
    exact Ext.refl _
  case ha => rfl
  apply wpLoose_val rfl rfl
  case hs =>
    intro w1 hC hd Q1 hQ1
    obtain ⟨hE, hS⟩ := hC
    dsimp only [bare]
    have q0 := hS.2 0 _ rfl; have q1 := hS.2 1 _ rfl; have q2 := hS.2 2 _ rfl; have q3 := hS.2 3 _ rfl
    clear hd hE
    try clear hS
    go_wp2
    exact Ext.refl _
  case ha => rfl
  apply wpLoose_val rfl rfl
  case hs =>
    intro w1 hC hd Q1 hQ1
    obtain ⟨hE, hS⟩ := hC
    dsimp only [bare]
    have q0 := hS.2 0 _ rfl; have q1 := hS.2 1 _ rfl; have q2 := hS.2 2 _ rfl; have q3 := hS.2 3 _ rfl
    clear hd hE
    try clear hS
    go_wp2
    exact Ext.refl _
  case ha => rfl
  apply wpLoose_val rfl rfl
  case hs =>
    intro w1 hC hd Q1 hQ1
    obtain ⟨hE, hS⟩ := hC
    dsimp only [bare]
    clear hd
    go_wp2_with fail
    refine (insAnd_any k _).mono ?_
    rintro e w2 ⟨rfl, hb⟩
    go_wp2_with fail
    exact hb
  case ha => rfl
  apply wpLoose_val rfl rfl
  case hs =>
    intro w1 hC hd Q1 hQ1
    obtain ⟨hE, hS⟩ := hC
    dsimp only [bare]
    have q0 := hS.2 0 _ rfl; have q1 := hS.2 1 _ rfl; have q2 := hS.2 2 _ rfl; have q3 := hS.2 3 _ rfl
    clear hd hE
    try clear hS
    go_wp2
    exact Ext.refl _
  case ha => rfl
  apply wpLoose_val rfl rfl
  case hs =>
    intro w1 hC hd Q1 hQ1
    obtain ⟨hE, hS⟩ := hC
    dsimp only [bare]
    have hEq := HQ.out
    obtain ⟨q0, q1, q2, q3⟩ := (⟨hS.2 0 _ rfl, hS.2 1 _ rfl, hS.2 2 _ rfl, hS.2 3 _ rfl⟩ : _ ∧ _ ∧ _ ∧ _)
    clear hd hE hS
    go_wp2
    exact Ext.refl _
  case ha => rfl
  apply wpLoose_val rfl rfl
  case hs =>
    intro w1 hC hd Q1 hQ1
    obtain ⟨hE, hS⟩ := hC
    dsimp only [bare]
    have q0 := hS.2 0 _ rfl; have q1 := hS.2 1 _ rfl; have q2 := hS.2 2 _ rfl; have q3 := hS.2 3 _ rfl
    clear hd hE
    try clear hS
    go_wp2
    exact Ext.refl _
  case ha => rfl
  apply wpLoose_val rfl rfl
  case hs =>
    intro w1 hC hd Q1 hQ1
    obtain ⟨hE, hS⟩ := hC
    dsimp only [bare]
    have q0 := hS.2 0 _ rfl; have q1 := hS.2 1 _ rfl; have q2 := hS.2 2 _ rfl; have q3 := hS.2 3 _ rfl
    clear hd hE
    try clear hS
    go_wp2
    exact Ext.refl _
  case ha => rfl
  refine wpLoose_nil ?_
  intro wa hEa hSa hFa
  have E2 : Hid (Ext w wa) := E1.out.drew.trans hEa
  clear hFa hSa hEa E1 c1
  go_wp2
  go_ret
  exact ⟨rfl, E2.out⟩
  case hAa => kernel_rfl
  case hla => exact ⟨trivial, trivial, trivial, trivial, trivial, trivial, trivial, trivial, trivial, trivial, trivial, trivial, trivial⟩

set_option maxRecDepth 100000 in
set_option maxHeartbeats 1600000 in
theorem okAsk3_no (k y n : Int) (w : World) (hf : ((inB k 0 4294967295 && inB y 0 15 && inB n 0 15)) = false) : Calls Try.prog 75 #[.agg #[.int .i64 3, .int .i64 k, .int .i64 y, .int .i64 n]] w fun e w' => e = .returned (.bool false) ∧ Ext w w' := by
  have HF : Hid (∀ w, Calls Try.prog 83 #[.iface 119 (.agg #[.int .i64 3, .int .i64 k, .int .i64 y, .int .i64 n])] w fun e w' => e = .returned (.bool false) ∧ Ext w w') := fun w => by have h := fitAsk_any 3 k y n w; rw [hf] at h; exact h
  clear hf
  go_enter Try.func75, Try.ntmps75
  go_wp2_with fail
  refine (wordAsk3_any k y n _).mono ?_
  rintro e w1 ⟨rfl, e1⟩
  have c1 : CellsAt w1 w.heap.size [.int .i64 3, .int .i64 k, .int .i64 y, .int .i64 n] := (CellsAt.new w [.int .i64 3, .int .i64 k, .int .i64 y, .int .i64 n] 35).step e1
  have E1 : Hid (Ext w w1) := (Ext.one _ _).trans e1
  clear e1
  go_wp2_with fail
  refine' wp_region_loose (.inl _ :: .inl _ :: .inl _ :: .inl _ :: .inl _ :: .inl _ :: .inl undef :: .inl undef :: .inl undef :: .inl undef :: .inl _ :: .inl _ :: []) (fun w' => CellsAt w' w.heap.size [.int .i64 3, .int .i64 k, .int .i64 y, .int .i64 n]) (by kernel_rfl) (by kernel_rfl) (c1.drew) (fun _ _ h hE => h.step hE) ?hAa ?hla ?hMa
  case' hMa => skip
  apply wpLoose_val rfl rfl
  case hs =>
    intro w1 hC hd Q1 hQ1
    obtain ⟨hE, hS⟩ := hC
    dsimp only [bare]
    have q0 := hS.2 0 _ rfl; have q1 := hS.2 1 _ rfl; have q2 := hS.2 2 _ rfl; have q3 := hS.2 3 _ rfl
    clear hd hE
    try clear hS
    go_wp2
    exact Ext.refl _
  case ha => rfl
  apply wpLoose_val rfl rfl
  case hs =>
    intro w1 hC hd Q1 hQ1
    obtain ⟨hE, hS⟩ := hC
    dsimp only [bare]
    have q0 := hS.2 0 _ rfl; have q1 := hS.2 1 _ rfl; have q2 := hS.2 2 _ rfl; have q3 := hS.2 3 _ rfl
    clear hd hE
    try clear hS
    go_wp2
    exact Ext.refl _
  case ha => rfl
  apply wpLoose_val rfl rfl
  case hs =>
    intro w1 hC hd Q1 hQ1
    obtain ⟨hE, hS⟩ := hC
    dsimp only [bare]
    have q0 := hS.2 0 _ rfl; have q1 := hS.2 1 _ rfl; have q2 := hS.2 2 _ rfl; have q3 := hS.2 3 _ rfl
    clear hd hE
    try clear hS
    go_wp2
    exact Ext.refl _
  case ha => rfl
  apply wpLoose_val rfl rfl
  case hs =>
    intro w1 hC hd Q1 hQ1
    obtain ⟨hE, hS⟩ := hC
    dsimp only [bare]
    clear hd
    go_wp2_with fail
    refine (HF.out _).mono ?_
    rintro e w2 ⟨rfl, hb⟩
    go_wp2_with fail
    exact hb
  case ha => rfl
  apply wpLoose_val rfl rfl
  case hs =>
    intro w1 hC hd Q1 hQ1
    obtain ⟨hE, hS⟩ := hC
    dsimp only [bare]
    have q0 := hS.2 0 _ rfl; have q1 := hS.2 1 _ rfl; have q2 := hS.2 2 _ rfl; have q3 := hS.2 3 _ rfl
    clear hd hE
    try clear hS
    go_wp2
    exact Ext.refl _
  case ha => rfl
  apply wpLoose_val rfl rfl
  case hs =>
    intro w1 hC hd Q1 hQ1
    obtain ⟨hE, hS⟩ := hC
    dsimp only [bare]
    have q0 := hS.2 0 _ rfl; have q1 := hS.2 1 _ rfl; have q2 := hS.2 2 _ rfl; have q3 := hS.2 3 _ rfl
    clear hd hE
    try clear hS
    go_wp2
    exact Ext.refl _
  case ha => rfl
  refine wpLoose_skip rfl rfl ?_
  try simp only [Act.put, List.setIfInBounds_toArray, List.set_cons_succ, List.set_cons_zero]
  refine wpLoose_skip rfl rfl ?_
  try simp only [Act.put, List.setIfInBounds_toArray, List.set_cons_succ, List.set_cons_zero]
  refine wpLoose_skip rfl rfl ?_
  try simp only [Act.put, List.setIfInBounds_toArray, List.set_cons_succ, List.set_cons_zero]
  refine wpLoose_skip rfl rfl ?_
  try simp only [Act.put, List.setIfInBounds_toArray, List.set_cons_succ, List.set_cons_zero]
  apply wpLoose_val rfl rfl
  case hs =>
    intro w1 hC hd Q1 hQ1
    obtain ⟨hE, hS⟩ := hC
    dsimp only [bare]
    have q0 := hS.2 0 _ rfl; have q1 := hS.2 1 _ rfl; have q2 := hS.2 2 _ rfl; have q3 := hS.2 3 _ rfl
    clear hd hE
    try clear hS
    go_wp2
    exact Ext.refl _
  case ha => rfl
  apply wpLoose_val rfl rfl
  case hs =>
    intro w1 hC hd Q1 hQ1
    obtain ⟨hE, hS⟩ := hC
    dsimp only [bare]
    have q0 := hS.2 0 _ rfl; have q1 := hS.2 1 _ rfl; have q2 := hS.2 2 _ rfl; have q3 := hS.2 3 _ rfl
    clear hd hE
    try clear hS
    go_wp2
    exact Ext.refl _
  case ha => rfl
  refine wpLoose_nil ?_
  intro wa hEa hSa hFa
  have E2 : Hid (Ext w wa) := E1.out.drew.trans hEa
  clear hFa hSa hEa E1 c1
  go_wp2
  go_ret
  exact ⟨rfl, E2.out⟩
  case hAa => kernel_rfl
  case hla => exact ⟨trivial, trivial, trivial, trivial, trivial, trivial, trivial, trivial, trivial, trivial, trivial, trivial, trivial⟩

set_option maxRecDepth 100000 in
set_option maxHeartbeats 1600000 in
theorem okAsk3_yes (k y n : Int) (d : Bool) (w : World) (hf : ((inB k 0 4294967295 && inB y 0 15 && inB n 0 15)) = true) (hdd : decide (((3 : Int), (k : Int), (y : Int), (n : Int)) = (3, k, y, n)) = d) : Calls Try.prog 75 #[.agg #[.int .i64 3, .int .i64 k, .int .i64 y, .int .i64 n]] w fun e w' => e = .returned (.bool d) ∧ Ext w w' := by
  have HQ : Hid (∀ w, (Op.equalIn 10000 35 (.agg #[.int .i64 3, .int .i64 k, .int .i64 y, .int .i64 n]) (.agg #[.int .i64 3, .int .i64 k, .int .i64 y, .int .i64 n])).run Try.prog w = .ok d w) := fun w => by rw [eq_ins, hdd]
  clear hdd
  have HF : Hid (∀ w, Calls Try.prog 83 #[.iface 119 (.agg #[.int .i64 3, .int .i64 k, .int .i64 y, .int .i64 n])] w fun e w' => e = .returned (.bool true) ∧ Ext w w') := fun w => by have h := fitAsk_any 3 k y n w; rw [hf] at h; exact h
  clear hf
  go_enter Try.func75, Try.ntmps75
  go_wp2_with fail
  refine (wordAsk3_any k y n _).mono ?_
  rintro e w1 ⟨rfl, e1⟩
  have c1 : CellsAt w1 w.heap.size [.int .i64 3, .int .i64 k, .int .i64 y, .int .i64 n] := (CellsAt.new w [.int .i64 3, .int .i64 k, .int .i64 y, .int .i64 n] 35).step e1
  have E1 : Hid (Ext w w1) := (Ext.one _ _).trans e1
  clear e1
  go_wp2_with fail
  refine' wp_region_loose (.inl _ :: .inl _ :: .inl _ :: .inl _ :: .inl _ :: .inl _ :: .inl _ :: .inl _ :: .inl _ :: .inl _ :: .inl _ :: .inl _ :: []) (fun w' => CellsAt w' w.heap.size [.int .i64 3, .int .i64 k, .int .i64 y, .int .i64 n]) (by kernel_rfl) (by kernel_rfl) (c1.drew) (fun _ _ h hE => h.step hE) ?hAa ?hla ?hMa
  case' hMa => skip
  apply wpLoose_val rfl rfl
  case hs =>
    intro w1 hC hd Q1 hQ1
    obtain ⟨hE, hS⟩ := hC
    dsimp only [bare]
    have q0 := hS.2 0 _ rfl; have q1 := hS.2 1 _ rfl; have q2 := hS.2 2 _ rfl; have q3 := hS.2 3 _ rfl
    clear hd hE
    try clear hS
    go_wp2
    exact Ext.refl _
  case ha => rfl
  apply wpLoose_val rfl rfl
  case hs =>
    intro w1 hC hd Q1 hQ1
    obtain ⟨hE, hS⟩ := hC
    dsimp only [bare]
    have q0 := hS.2 0 _ rfl; have q1 := hS.2 1 _ rfl; have q2 := hS.2 2 _ rfl; have q3 := hS.2 3 _ rfl
    clear hd hE
    try clear hS
    go_wp2
    exact Ext.refl _
  case ha => rfl
  apply wpLoose_val rfl rfl
  case hs =>
    intro w1 hC hd Q1 hQ1
    obtain ⟨hE, hS⟩ := hC
    dsimp only [bare]
    have q0 := hS.2 0 _ rfl; have q1 := hS.2 1 _ rfl; have q2 := hS.2 2 _ rfl; have q3 := hS.2 3 _ rfl
    clear hd hE
    try clear hS
    go_wp2
    exact Ext.refl _
  case ha => rfl
  apply wpLoose_val rfl rfl
  case hs =>
    intro w1 hC hd Q1 hQ1
    obtain ⟨hE, hS⟩ := hC
    dsimp only [bare]
    clear hd
    go_wp2_with fail
    refine (HF.out _).mono ?_
    rintro e w2 ⟨rfl, hb⟩
    go_wp2_with fail
    exact hb
  case ha => rfl
  apply wpLoose_val rfl rfl
  case hs =>
    intro w1 hC hd Q1 hQ1
    obtain ⟨hE, hS⟩ := hC
    dsimp only [bare]
    have q0 := hS.2 0 _ rfl; have q1 := hS.2 1 _ rfl; have q2 := hS.2 2 _ rfl; have q3 := hS.2 3 _ rfl
    clear hd hE
    try clear hS
    go_wp2
    exact Ext.refl _
  case ha => rfl
  apply wpLoose_val rfl rfl
  case hs =>
    intro w1 hC hd Q1 hQ1
    obtain ⟨hE, hS⟩ := hC
    dsimp only [bare]
    have q0 := hS.2 0 _ rfl; have q1 := hS.2 1 _ rfl; have q2 := hS.2 2 _ rfl; have q3 := hS.2 3 _ rfl
    clear hd hE
    try clear hS
    go_wp2
    exact Ext.refl _
  case ha => rfl
  apply wpLoose_val rfl rfl
  case hs =>
    intro w1 hC hd Q1 hQ1
    obtain ⟨hE, hS⟩ := hC
    dsimp only [bare]
    have q0 := hS.2 0 _ rfl; have q1 := hS.2 1 _ rfl; have q2 := hS.2 2 _ rfl; have q3 := hS.2 3 _ rfl
    clear hd hE
    try clear hS
    go_wp2
    exact Ext.refl _
  case ha => rfl
  apply wpLoose_val rfl rfl
  case hs =>
    intro w1 hC hd Q1 hQ1
    obtain ⟨hE, hS⟩ := hC
    dsimp only [bare]
    clear hd
    go_wp2_with fail
    refine (insAsk_any 3 k y n _).mono ?_
    rintro e w2 ⟨rfl, hb⟩
    go_wp2_with fail
    exact hb
  case ha => rfl
  apply wpLoose_val rfl rfl
  case hs =>
    intro w1 hC hd Q1 hQ1
    obtain ⟨hE, hS⟩ := hC
    dsimp only [bare]
    have q0 := hS.2 0 _ rfl; have q1 := hS.2 1 _ rfl; have q2 := hS.2 2 _ rfl; have q3 := hS.2 3 _ rfl
    clear hd hE
    try clear hS
    go_wp2
    exact Ext.refl _
  case ha => rfl
  apply wpLoose_val rfl rfl
  case hs =>
    intro w1 hC hd Q1 hQ1
    obtain ⟨hE, hS⟩ := hC
    dsimp only [bare]
    have hEq := HQ.out
    obtain ⟨q0, q1, q2, q3⟩ := (⟨hS.2 0 _ rfl, hS.2 1 _ rfl, hS.2 2 _ rfl, hS.2 3 _ rfl⟩ : _ ∧ _ ∧ _ ∧ _)
    clear hd hE hS
    go_wp2
    exact Ext.refl _
  case ha => rfl
  apply wpLoose_val rfl rfl
  case hs =>
    intro w1 hC hd Q1 hQ1
    obtain ⟨hE, hS⟩ := hC
    dsimp only [bare]
    have q0 := hS.2 0 _ rfl; have q1 := hS.2 1 _ rfl; have q2 := hS.2 2 _ rfl; have q3 := hS.2 3 _ rfl
    clear hd hE
    try clear hS
    go_wp2
    exact Ext.refl _
  case ha => rfl
  apply wpLoose_val rfl rfl
  case hs =>
    intro w1 hC hd Q1 hQ1
    obtain ⟨hE, hS⟩ := hC
    dsimp only [bare]
    have q0 := hS.2 0 _ rfl; have q1 := hS.2 1 _ rfl; have q2 := hS.2 2 _ rfl; have q3 := hS.2 3 _ rfl
    clear hd hE
    try clear hS
    go_wp2
    exact Ext.refl _
  case ha => rfl
  refine wpLoose_nil ?_
  intro wa hEa hSa hFa
  have E2 : Hid (Ext w wa) := E1.out.drew.trans hEa
  clear hFa hSa hEa E1 c1
  go_wp2
  go_ret
  exact ⟨rfl, E2.out⟩
  case hAa => kernel_rfl
  case hla => exact ⟨trivial, trivial, trivial, trivial, trivial, trivial, trivial, trivial, trivial, trivial, trivial, trivial, trivial⟩

set_option maxRecDepth 100000 in
set_option maxHeartbeats 1600000 in
theorem okAsk4_no (k y n : Int) (w : World) (hf : ((inB k 0 4294967295 && inB y 0 15 && inB n 0 15)) = false) : Calls Try.prog 75 #[.agg #[.int .i64 4, .int .i64 k, .int .i64 y, .int .i64 n]] w fun e w' => e = .returned (.bool false) ∧ Ext w w' := by
  have HF : Hid (∀ w, Calls Try.prog 83 #[.iface 119 (.agg #[.int .i64 4, .int .i64 k, .int .i64 y, .int .i64 n])] w fun e w' => e = .returned (.bool false) ∧ Ext w w') := fun w => by have h := fitAsk_any 4 k y n w; rw [hf] at h; exact h
  clear hf
  go_enter Try.func75, Try.ntmps75
  go_wp2_with fail
  refine (wordAsk4_any k y n _).mono ?_
  rintro e w1 ⟨rfl, e1⟩
  have c1 : CellsAt w1 w.heap.size [.int .i64 4, .int .i64 k, .int .i64 y, .int .i64 n] := (CellsAt.new w [.int .i64 4, .int .i64 k, .int .i64 y, .int .i64 n] 35).step e1
  have E1 : Hid (Ext w w1) := (Ext.one _ _).trans e1
  clear e1
  go_wp2_with fail
  refine' wp_region_loose (.inl _ :: .inl _ :: .inl _ :: .inl _ :: .inl _ :: .inl _ :: .inl undef :: .inl undef :: .inl undef :: .inl undef :: .inl _ :: .inl _ :: []) (fun w' => CellsAt w' w.heap.size [.int .i64 4, .int .i64 k, .int .i64 y, .int .i64 n]) (by kernel_rfl) (by kernel_rfl) (c1.drew) (fun _ _ h hE => h.step hE) ?hAa ?hla ?hMa
  case' hMa => skip
  apply wpLoose_val rfl rfl
  case hs =>
    intro w1 hC hd Q1 hQ1
    obtain ⟨hE, hS⟩ := hC
    dsimp only [bare]
    have q0 := hS.2 0 _ rfl; have q1 := hS.2 1 _ rfl; have q2 := hS.2 2 _ rfl; have q3 := hS.2 3 _ rfl
    clear hd hE
    try clear hS
    go_wp2
    exact Ext.refl _
  case ha => rfl
  apply wpLoose_val rfl rfl
  case hs =>
    intro w1 hC hd Q1 hQ1
    obtain ⟨hE, hS⟩ := hC
    dsimp only [bare]
    have q0 := hS.2 0 _ rfl; have q1 := hS.2 1 _ rfl; have q2 := hS.2 2 _ rfl; have q3 := hS.2 3 _ rfl
    clear hd hE
    try clear hS
    go_wp2
    exact Ext.refl _
  case ha => rfl
  apply wpLoose_val rfl rfl
  case hs =>
    intro w1 hC hd Q1 hQ1
    obtain ⟨hE, hS⟩ := hC
    dsimp only [bare]
    have q0 := hS.2 0 _ rfl; have q1 := hS.2 1 _ rfl; have q2 := hS.2 2 _ rfl; have q3 := hS.2 3 _ rfl
    clear hd hE
    try clear hS
    go_wp2
    exact Ext.refl _
  case ha => rfl
  apply wpLoose_val rfl rfl
  case hs =>
    intro w1 hC hd Q1 hQ1
    obtain ⟨hE, hS⟩ := hC
    dsimp only [bare]
    clear hd
    go_wp2_with fail
    refine (HF.out _).mono ?_
    rintro e w2 ⟨rfl, hb⟩
    go_wp2_with fail
    exact hb
  case ha => rfl
  apply wpLoose_val rfl rfl
  case hs =>
    intro w1 hC hd Q1 hQ1
    obtain ⟨hE, hS⟩ := hC
    dsimp only [bare]
    have q0 := hS.2 0 _ rfl; have q1 := hS.2 1 _ rfl; have q2 := hS.2 2 _ rfl; have q3 := hS.2 3 _ rfl
    clear hd hE
    try clear hS
    go_wp2
    exact Ext.refl _
  case ha => rfl
  apply wpLoose_val rfl rfl
  case hs =>
    intro w1 hC hd Q1 hQ1
    obtain ⟨hE, hS⟩ := hC
    dsimp only [bare]
    have q0 := hS.2 0 _ rfl; have q1 := hS.2 1 _ rfl; have q2 := hS.2 2 _ rfl; have q3 := hS.2 3 _ rfl
    clear hd hE
    try clear hS
    go_wp2
    exact Ext.refl _
  case ha => rfl
  refine wpLoose_skip rfl rfl ?_
  try simp only [Act.put, List.setIfInBounds_toArray, List.set_cons_succ, List.set_cons_zero]
  refine wpLoose_skip rfl rfl ?_
  try simp only [Act.put, List.setIfInBounds_toArray, List.set_cons_succ, List.set_cons_zero]
  refine wpLoose_skip rfl rfl ?_
  try simp only [Act.put, List.setIfInBounds_toArray, List.set_cons_succ, List.set_cons_zero]
  refine wpLoose_skip rfl rfl ?_
  try simp only [Act.put, List.setIfInBounds_toArray, List.set_cons_succ, List.set_cons_zero]
  apply wpLoose_val rfl rfl
  case hs =>
    intro w1 hC hd Q1 hQ1
    obtain ⟨hE, hS⟩ := hC
    dsimp only [bare]
    have q0 := hS.2 0 _ rfl; have q1 := hS.2 1 _ rfl; have q2 := hS.2 2 _ rfl; have q3 := hS.2 3 _ rfl
    clear hd hE
    try clear hS
    go_wp2
    exact Ext.refl _
  case ha => rfl
  apply wpLoose_val rfl rfl
  case hs =>
    intro w1 hC hd Q1 hQ1
    obtain ⟨hE, hS⟩ := hC
    dsimp only [bare]
    have q0 := hS.2 0 _ rfl; have q1 := hS.2 1 _ rfl; have q2 := hS.2 2 _ rfl; have q3 := hS.2 3 _ rfl
    clear hd hE
    try clear hS
    go_wp2
    exact Ext.refl _
  case ha => rfl
  refine wpLoose_nil ?_
  intro wa hEa hSa hFa
  have E2 : Hid (Ext w wa) := E1.out.drew.trans hEa
  clear hFa hSa hEa E1 c1
  go_wp2
  go_ret
  exact ⟨rfl, E2.out⟩
  case hAa => kernel_rfl
  case hla => exact ⟨trivial, trivial, trivial, trivial, trivial, trivial, trivial, trivial, trivial, trivial, trivial, trivial, trivial⟩

set_option maxRecDepth 100000 in
set_option maxHeartbeats 1600000 in
theorem okAsk4_yes (k y n : Int) (d : Bool) (w : World) (hf : ((inB k 0 4294967295 && inB y 0 15 && inB n 0 15)) = true) (hdd : decide (((4 : Int), (k : Int), (y : Int), (n : Int)) = (4, k, y, n)) = d) : Calls Try.prog 75 #[.agg #[.int .i64 4, .int .i64 k, .int .i64 y, .int .i64 n]] w fun e w' => e = .returned (.bool d) ∧ Ext w w' := by
  have HQ : Hid (∀ w, (Op.equalIn 10000 35 (.agg #[.int .i64 4, .int .i64 k, .int .i64 y, .int .i64 n]) (.agg #[.int .i64 4, .int .i64 k, .int .i64 y, .int .i64 n])).run Try.prog w = .ok d w) := fun w => by rw [eq_ins, hdd]
  clear hdd
  have HF : Hid (∀ w, Calls Try.prog 83 #[.iface 119 (.agg #[.int .i64 4, .int .i64 k, .int .i64 y, .int .i64 n])] w fun e w' => e = .returned (.bool true) ∧ Ext w w') := fun w => by have h := fitAsk_any 4 k y n w; rw [hf] at h; exact h
  clear hf
  go_enter Try.func75, Try.ntmps75
  go_wp2_with fail
  refine (wordAsk4_any k y n _).mono ?_
  rintro e w1 ⟨rfl, e1⟩
  have c1 : CellsAt w1 w.heap.size [.int .i64 4, .int .i64 k, .int .i64 y, .int .i64 n] := (CellsAt.new w [.int .i64 4, .int .i64 k, .int .i64 y, .int .i64 n] 35).step e1
  have E1 : Hid (Ext w w1) := (Ext.one _ _).trans e1
  clear e1
  go_wp2_with fail
  refine' wp_region_loose (.inl _ :: .inl _ :: .inl _ :: .inl _ :: .inl _ :: .inl _ :: .inl _ :: .inl _ :: .inl _ :: .inl _ :: .inl _ :: .inl _ :: []) (fun w' => CellsAt w' w.heap.size [.int .i64 4, .int .i64 k, .int .i64 y, .int .i64 n]) (by kernel_rfl) (by kernel_rfl) (c1.drew) (fun _ _ h hE => h.step hE) ?hAa ?hla ?hMa
  case' hMa => skip
  apply wpLoose_val rfl rfl
  case hs =>
    intro w1 hC hd Q1 hQ1
    obtain ⟨hE, hS⟩ := hC
    dsimp only [bare]
    have q0 := hS.2 0 _ rfl; have q1 := hS.2 1 _ rfl; have q2 := hS.2 2 _ rfl; have q3 := hS.2 3 _ rfl
    clear hd hE
    try clear hS
    go_wp2
    exact Ext.refl _
  case ha => rfl
  apply wpLoose_val rfl rfl
  case hs =>
    intro w1 hC hd Q1 hQ1
    obtain ⟨hE, hS⟩ := hC
    dsimp only [bare]
    have q0 := hS.2 0 _ rfl; have q1 := hS.2 1 _ rfl; have q2 := hS.2 2 _ rfl; have q3 := hS.2 3 _ rfl
    clear hd hE
    try clear hS
    go_wp2
    exact Ext.refl _
  case ha => rfl
  apply wpLoose_val rfl rfl
  case hs =>
    intro w1 hC hd Q1 hQ1
    obtain ⟨hE, hS⟩ := hC
    dsimp only [bare]
    have q0 := hS.2 0 _ rfl; have q1 := hS.2 1 _ rfl; have q2 := hS.2 2 _ rfl; have q3 := hS.2 3 _ rfl
    clear hd hE
    try clear hS
    go_wp2
    exact Ext.refl _
  case ha => rfl
  apply wpLoose_val rfl rfl
  case hs =>
    intro w1 hC hd Q1 hQ1
    obtain ⟨hE, hS⟩ := hC
    dsimp only [bare]
    clear hd
    go_wp2_with fail
    refine (HF.out _).mono ?_
    rintro e w2 ⟨rfl, hb⟩
    go_wp2_with fail
    exact hb
  case ha => rfl
  apply wpLoose_val rfl rfl
  case hs =>
    intro w1 hC hd Q1 hQ1
    obtain ⟨hE, hS⟩ := hC
    dsimp only [bare]
    have q0 := hS.2 0 _ rfl; have q1 := hS.2 1 _ rfl; have q2 := hS.2 2 _ rfl; have q3 := hS.2 3 _ rfl
    clear hd hE
    try clear hS
    go_wp2
    exact Ext.refl _
  case ha => rfl
  apply wpLoose_val rfl rfl
  case hs =>
    intro w1 hC hd Q1 hQ1
    obtain ⟨hE, hS⟩ := hC
    dsimp only [bare]
    have q0 := hS.2 0 _ rfl; have q1 := hS.2 1 _ rfl; have q2 := hS.2 2 _ rfl; have q3 := hS.2 3 _ rfl
    clear hd hE
    try clear hS
    go_wp2
    exact Ext.refl _
  case ha => rfl
  apply wpLoose_val rfl rfl
  case hs =>
    intro w1 hC hd Q1 hQ1
    obtain ⟨hE, hS⟩ := hC
    dsimp only [bare]
    have q0 := hS.2 0 _ rfl; have q1 := hS.2 1 _ rfl; have q2 := hS.2 2 _ rfl; have q3 := hS.2 3 _ rfl
    clear hd hE
    try clear hS
    go_wp2
    exact Ext.refl _
  case ha => rfl
  apply wpLoose_val rfl rfl
  case hs =>
    intro w1 hC hd Q1 hQ1
    obtain ⟨hE, hS⟩ := hC
    dsimp only [bare]
    clear hd
    go_wp2_with fail
    refine (insAsk_any 4 k y n _).mono ?_
    rintro e w2 ⟨rfl, hb⟩
    go_wp2_with fail
    exact hb
  case ha => rfl
  apply wpLoose_val rfl rfl
  case hs =>
    intro w1 hC hd Q1 hQ1
    obtain ⟨hE, hS⟩ := hC
    dsimp only [bare]
    have q0 := hS.2 0 _ rfl; have q1 := hS.2 1 _ rfl; have q2 := hS.2 2 _ rfl; have q3 := hS.2 3 _ rfl
    clear hd hE
    try clear hS
    go_wp2
    exact Ext.refl _
  case ha => rfl
  apply wpLoose_val rfl rfl
  case hs =>
    intro w1 hC hd Q1 hQ1
    obtain ⟨hE, hS⟩ := hC
    dsimp only [bare]
    have hEq := HQ.out
    obtain ⟨q0, q1, q2, q3⟩ := (⟨hS.2 0 _ rfl, hS.2 1 _ rfl, hS.2 2 _ rfl, hS.2 3 _ rfl⟩ : _ ∧ _ ∧ _ ∧ _)
    clear hd hE hS
    go_wp2
    exact Ext.refl _
  case ha => rfl
  apply wpLoose_val rfl rfl
  case hs =>
    intro w1 hC hd Q1 hQ1
    obtain ⟨hE, hS⟩ := hC
    dsimp only [bare]
    have q0 := hS.2 0 _ rfl; have q1 := hS.2 1 _ rfl; have q2 := hS.2 2 _ rfl; have q3 := hS.2 3 _ rfl
    clear hd hE
    try clear hS
    go_wp2
    exact Ext.refl _
  case ha => rfl
  apply wpLoose_val rfl rfl
  case hs =>
    intro w1 hC hd Q1 hQ1
    obtain ⟨hE, hS⟩ := hC
    dsimp only [bare]
    have q0 := hS.2 0 _ rfl; have q1 := hS.2 1 _ rfl; have q2 := hS.2 2 _ rfl; have q3 := hS.2 3 _ rfl
    clear hd hE
    try clear hS
    go_wp2
    exact Ext.refl _
  case ha => rfl
  refine wpLoose_nil ?_
  intro wa hEa hSa hFa
  have E2 : Hid (Ext w wa) := E1.out.drew.trans hEa
  clear hFa hSa hEa E1 c1
  go_wp2
  go_ret
  exact ⟨rfl, E2.out⟩
  case hAa => kernel_rfl
  case hla => exact ⟨trivial, trivial, trivial, trivial, trivial, trivial, trivial, trivial, trivial, trivial, trivial, trivial, trivial⟩

set_option maxRecDepth 100000 in
set_option maxHeartbeats 1600000 in
theorem okAsk5_no (k y n : Int) (w : World) (hf : ((inB k 0 4294967295 && inB y 0 15 && inB n 0 15)) = false) : Calls Try.prog 75 #[.agg #[.int .i64 5, .int .i64 k, .int .i64 y, .int .i64 n]] w fun e w' => e = .returned (.bool false) ∧ Ext w w' := by
  have HF : Hid (∀ w, Calls Try.prog 83 #[.iface 119 (.agg #[.int .i64 5, .int .i64 k, .int .i64 y, .int .i64 n])] w fun e w' => e = .returned (.bool false) ∧ Ext w w') := fun w => by have h := fitAsk_any 5 k y n w; rw [hf] at h; exact h
  clear hf
  go_enter Try.func75, Try.ntmps75
  go_wp2_with fail
  refine (wordAsk5_any k y n _).mono ?_
  rintro e w1 ⟨rfl, e1⟩
  have c1 : CellsAt w1 w.heap.size [.int .i64 5, .int .i64 k, .int .i64 y, .int .i64 n] := (CellsAt.new w [.int .i64 5, .int .i64 k, .int .i64 y, .int .i64 n] 35).step e1
  have E1 : Hid (Ext w w1) := (Ext.one _ _).trans e1
  clear e1
  go_wp2_with fail
  refine' wp_region_loose (.inl _ :: .inl _ :: .inl _ :: .inl _ :: .inl _ :: .inl _ :: .inl undef :: .inl undef :: .inl undef :: .inl undef :: .inl _ :: .inl _ :: []) (fun w' => CellsAt w' w.heap.size [.int .i64 5, .int .i64 k, .int .i64 y, .int .i64 n]) (by kernel_rfl) (by kernel_rfl) (c1.drew) (fun _ _ h hE => h.step hE) ?hAa ?hla ?hMa
  case' hMa => skip
  apply wpLoose_val rfl rfl
  case hs =>
    intro w1 hC hd Q1 hQ1
    obtain ⟨hE, hS⟩ := hC
    dsimp only [bare]
    have q0 := hS.2 0 _ rfl; have q1 := hS.2 1 _ rfl; have q2 := hS.2 2 _ rfl; have q3 := hS.2 3 _ rfl
    clear hd hE
    try clear hS
    go_wp2
    exact Ext.refl _
  case ha => rfl
  apply wpLoose_val rfl rfl
  case hs =>
    intro w1 hC hd Q1 hQ1
    obtain ⟨hE, hS⟩ := hC
    dsimp only [bare]
    have q0 := hS.2 0 _ rfl; have q1 := hS.2 1 _ rfl; have q2 := hS.2 2 _ rfl; have q3 := hS.2 3 _ rfl
    clear hd hE
    try clear hS
    go_wp2
    exact Ext.refl _
  case ha => rfl
  apply wpLoose_val rfl rfl
  case hs =>
    intro w1 hC hd Q1 hQ1
    obtain ⟨hE, hS⟩ := hC
    dsimp only [bare]
    have q0 := hS.2 0 _ rfl; have q1 := hS.2 1 _ rfl; have q2 := hS.2 2 _ rfl; have q3 := hS.2 3 _ rfl
    clear hd hE
    try clear hS
    go_wp2
    exact Ext.refl _
  case ha => rfl
  apply wpLoose_val rfl rfl
  case hs =>
    intro w1 hC hd Q1 hQ1
    obtain ⟨hE, hS⟩ := hC
    dsimp only [bare]
    clear hd
    go_wp2_with fail
    refine (HF.out _).mono ?_
    rintro e w2 ⟨rfl, hb⟩
    go_wp2_with fail
    exact hb
  case ha => rfl
  apply wpLoose_val rfl rfl
  case hs =>
    intro w1 hC hd Q1 hQ1
    obtain ⟨hE, hS⟩ := hC
    dsimp only [bare]
    have q0 := hS.2 0 _ rfl; have q1 := hS.2 1 _ rfl; have q2 := hS.2 2 _ rfl; have q3 := hS.2 3 _ rfl
    clear hd hE
    try clear hS
    go_wp2
    exact Ext.refl _
  case ha => rfl
  apply wpLoose_val rfl rfl
  case hs =>
    intro w1 hC hd Q1 hQ1
    obtain ⟨hE, hS⟩ := hC
    dsimp only [bare]
    have q0 := hS.2 0 _ rfl; have q1 := hS.2 1 _ rfl; have q2 := hS.2 2 _ rfl; have q3 := hS.2 3 _ rfl
    clear hd hE
    try clear hS
    go_wp2
    exact Ext.refl _
  case ha => rfl
  refine wpLoose_skip rfl rfl ?_
  try simp only [Act.put, List.setIfInBounds_toArray, List.set_cons_succ, List.set_cons_zero]
  refine wpLoose_skip rfl rfl ?_
  try simp only [Act.put, List.setIfInBounds_toArray, List.set_cons_succ, List.set_cons_zero]
  refine wpLoose_skip rfl rfl ?_
  try simp only [Act.put, List.setIfInBounds_toArray, List.set_cons_succ, List.set_cons_zero]
  refine wpLoose_skip rfl rfl ?_
  try simp only [Act.put, List.setIfInBounds_toArray, List.set_cons_succ, List.set_cons_zero]
  apply wpLoose_val rfl rfl
  case hs =>
    intro w1 hC hd Q1 hQ1
    obtain ⟨hE, hS⟩ := hC
    dsimp only [bare]
    have q0 := hS.2 0 _ rfl; have q1 := hS.2 1 _ rfl; have q2 := hS.2 2 _ rfl; have q3 := hS.2 3 _ rfl
    clear hd hE
    try clear hS
    go_wp2
    exact Ext.refl _
  case ha => rfl
  apply wpLoose_val rfl rfl
  case hs =>
    intro w1 hC hd Q1 hQ1
    obtain ⟨hE, hS⟩ := hC
    dsimp only [bare]
    have q0 := hS.2 0 _ rfl; have q1 := hS.2 1 _ rfl; have q2 := hS.2 2 _ rfl; have q3 := hS.2 3 _ rfl
    clear hd hE
    try clear hS
    go_wp2
    exact Ext.refl _
  case ha => rfl
  refine wpLoose_nil ?_
  intro wa hEa hSa hFa
  have E2 : Hid (Ext w wa) := E1.out.drew.trans hEa
  clear hFa hSa hEa E1 c1
  go_wp2
  go_ret
  exact ⟨rfl, E2.out⟩
  case hAa => kernel_rfl
  case hla => exact ⟨trivial, trivial, trivial, trivial, trivial, trivial, trivial, trivial, trivial, trivial, trivial, trivial, trivial⟩

set_option maxRecDepth 100000 in
set_option maxHeartbeats 1600000 in
theorem okAsk5_yes (k y n : Int) (d : Bool) (w : World) (hf : ((inB k 0 4294967295 && inB y 0 15 && inB n 0 15)) = true) (hdd : decide (((5 : Int), (k : Int), (y : Int), (n : Int)) = (5, k, y, n)) = d) : Calls Try.prog 75 #[.agg #[.int .i64 5, .int .i64 k, .int .i64 y, .int .i64 n]] w fun e w' => e = .returned (.bool d) ∧ Ext w w' := by
  have HQ : Hid (∀ w, (Op.equalIn 10000 35 (.agg #[.int .i64 5, .int .i64 k, .int .i64 y, .int .i64 n]) (.agg #[.int .i64 5, .int .i64 k, .int .i64 y, .int .i64 n])).run Try.prog w = .ok d w) := fun w => by rw [eq_ins, hdd]
  clear hdd
  have HF : Hid (∀ w, Calls Try.prog 83 #[.iface 119 (.agg #[.int .i64 5, .int .i64 k, .int .i64 y, .int .i64 n])] w fun e w' => e = .returned (.bool true) ∧ Ext w w') := fun w => by have h := fitAsk_any 5 k y n w; rw [hf] at h; exact h
  clear hf
  go_enter Try.func75, Try.ntmps75
  go_wp2_with fail
  refine (wordAsk5_any k y n _).mono ?_
  rintro e w1 ⟨rfl, e1⟩
  have c1 : CellsAt w1 w.heap.size [.int .i64 5, .int .i64 k, .int .i64 y, .int .i64 n] := (CellsAt.new w [.int .i64 5, .int .i64 k, .int .i64 y, .int .i64 n] 35).step e1
  have E1 : Hid (Ext w w1) := (Ext.one _ _).trans e1
  clear e1
  go_wp2_with fail
  refine' wp_region_loose (.inl _ :: .inl _ :: .inl _ :: .inl _ :: .inl _ :: .inl _ :: .inl _ :: .inl _ :: .inl _ :: .inl _ :: .inl _ :: .inl _ :: []) (fun w' => CellsAt w' w.heap.size [.int .i64 5, .int .i64 k, .int .i64 y, .int .i64 n]) (by kernel_rfl) (by kernel_rfl) (c1.drew) (fun _ _ h hE => h.step hE) ?hAa ?hla ?hMa
  case' hMa => skip
  apply wpLoose_val rfl rfl
  case hs =>
    intro w1 hC hd Q1 hQ1
    obtain ⟨hE, hS⟩ := hC
    dsimp only [bare]
    have q0 := hS.2 0 _ rfl; have q1 := hS.2 1 _ rfl; have q2 := hS.2 2 _ rfl; have q3 := hS.2 3 _ rfl
    clear hd hE
    try clear hS
    go_wp2
    exact Ext.refl _
  case ha => rfl
  apply wpLoose_val rfl rfl
  case hs =>
    intro w1 hC hd Q1 hQ1
    obtain ⟨hE, hS⟩ := hC
    dsimp only [bare]
    have q0 := hS.2 0 _ rfl; have q1 := hS.2 1 _ rfl; have q2 := hS.2 2 _ rfl; have q3 := hS.2 3 _ rfl
    clear hd hE
    try clear hS
    go_wp2
    exact Ext.refl _
  case ha => rfl
  apply wpLoose_val rfl rfl
  case hs =>
    intro w1 hC hd Q1 hQ1
    obtain ⟨hE, hS⟩ := hC
    dsimp only [bare]
    have q0 := hS.2 0 _ rfl; have q1 := hS.2 1 _ rfl; have q2 := hS.2 2 _ rfl; have q3 := hS.2 3 _ rfl
    clear hd hE
    try clear hS
    go_wp2
    exact Ext.refl _
  case ha => rfl
  apply wpLoose_val rfl rfl
  case hs =>
    intro w1 hC hd Q1 hQ1
    obtain ⟨hE, hS⟩ := hC
    dsimp only [bare]
    clear hd
    go_wp2_with fail
    refine (HF.out _).mono ?_
    rintro e w2 ⟨rfl, hb⟩
    go_wp2_with fail
    exact hb
  case ha => rfl
  apply wpLoose_val rfl rfl
  case hs =>
    intro w1 hC hd Q1 hQ1
    obtain ⟨hE, hS⟩ := hC
    dsimp only [bare]
    have q0 := hS.2 0 _ rfl; have q1 := hS.2 1 _ rfl; have q2 := hS.2 2 _ rfl; have q3 := hS.2 3 _ rfl
    clear hd hE
    try clear hS
    go_wp2
    exact Ext.refl _
  case ha => rfl
  apply wpLoose_val rfl rfl
  case hs =>
    intro w1 hC hd Q1 hQ1
    obtain ⟨hE, hS⟩ := hC
    dsimp only [bare]
    have q0 := hS.2 0 _ rfl; have q1 := hS.2 1 _ rfl; have q2 := hS.2 2 _ rfl; have q3 := hS.2 3 _ rfl
    clear hd hE
    try clear hS
    go_wp2
    exact Ext.refl _
  case ha => rfl
  apply wpLoose_val rfl rfl
  case hs =>
    intro w1 hC hd Q1 hQ1
    obtain ⟨hE, hS⟩ := hC
    dsimp only [bare]
    have q0 := hS.2 0 _ rfl; have q1 := hS.2 1 _ rfl; have q2 := hS.2 2 _ rfl; have q3 := hS.2 3 _ rfl
    clear hd hE
    try clear hS
    go_wp2
    exact Ext.refl _
  case ha => rfl
  apply wpLoose_val rfl rfl
  case hs =>
    intro w1 hC hd Q1 hQ1
    obtain ⟨hE, hS⟩ := hC
    dsimp only [bare]
    clear hd
    go_wp2_with fail
    refine (insAsk_any 5 k y n _).mono ?_
    rintro e w2 ⟨rfl, hb⟩
    go_wp2_with fail
    exact hb
  case ha => rfl
  apply wpLoose_val rfl rfl
  case hs =>
    intro w1 hC hd Q1 hQ1
    obtain ⟨hE, hS⟩ := hC
    dsimp only [bare]
    have q0 := hS.2 0 _ rfl; have q1 := hS.2 1 _ rfl; have q2 := hS.2 2 _ rfl; have q3 := hS.2 3 _ rfl
    clear hd hE
    try clear hS
    go_wp2
    exact Ext.refl _
  case ha => rfl
  apply wpLoose_val rfl rfl
  case hs =>
    intro w1 hC hd Q1 hQ1
    obtain ⟨hE, hS⟩ := hC
    dsimp only [bare]
    have hEq := HQ.out
    obtain ⟨q0, q1, q2, q3⟩ := (⟨hS.2 0 _ rfl, hS.2 1 _ rfl, hS.2 2 _ rfl, hS.2 3 _ rfl⟩ : _ ∧ _ ∧ _ ∧ _)
    clear hd hE hS
    go_wp2
    exact Ext.refl _
  case ha => rfl
  apply wpLoose_val rfl rfl
  case hs =>
    intro w1 hC hd Q1 hQ1
    obtain ⟨hE, hS⟩ := hC
    dsimp only [bare]
    have q0 := hS.2 0 _ rfl; have q1 := hS.2 1 _ rfl; have q2 := hS.2 2 _ rfl; have q3 := hS.2 3 _ rfl
    clear hd hE
    try clear hS
    go_wp2
    exact Ext.refl _
  case ha => rfl
  apply wpLoose_val rfl rfl
  case hs =>
    intro w1 hC hd Q1 hQ1
    obtain ⟨hE, hS⟩ := hC
    dsimp only [bare]
    have q0 := hS.2 0 _ rfl; have q1 := hS.2 1 _ rfl; have q2 := hS.2 2 _ rfl; have q3 := hS.2 3 _ rfl
    clear hd hE
    try clear hS
    go_wp2
    exact Ext.refl _
  case ha => rfl
  refine wpLoose_nil ?_
  intro wa hEa hSa hFa
  have E2 : Hid (Ext w wa) := E1.out.drew.trans hEa
  clear hFa hSa hEa E1 c1
  go_wp2
  go_ret
  exact ⟨rfl, E2.out⟩
  case hAa => kernel_rfl
  case hla => exact ⟨trivial, trivial, trivial, trivial, trivial, trivial, trivial, trivial, trivial, trivial, trivial, trivial, trivial⟩

set_option maxRecDepth 100000 in
set_option maxHeartbeats 1600000 in
theorem okAsk6_no (k y n : Int) (w : World) (hf : ((inB k 0 4294967295 && inB y 0 15 && inB n 0 15)) = false) : Calls Try.prog 75 #[.agg #[.int .i64 6, .int .i64 k, .int .i64 y, .int .i64 n]] w fun e w' => e = .returned (.bool false) ∧ Ext w w' := by
  have HF : Hid (∀ w, Calls Try.prog 83 #[.iface 119 (.agg #[.int .i64 6, .int .i64 k, .int .i64 y, .int .i64 n])] w fun e w' => e = .returned (.bool false) ∧ Ext w w') := fun w => by have h := fitAsk_any 6 k y n w; rw [hf] at h; exact h
  clear hf
  go_enter Try.func75, Try.ntmps75
  go_wp2_with fail
  refine (wordAsk6_any k y n _).mono ?_
  rintro e w1 ⟨rfl, e1⟩
  have c1 : CellsAt w1 w.heap.size [.int .i64 6, .int .i64 k, .int .i64 y, .int .i64 n] := (CellsAt.new w [.int .i64 6, .int .i64 k, .int .i64 y, .int .i64 n] 35).step e1
  have E1 : Hid (Ext w w1) := (Ext.one _ _).trans e1
  clear e1
  go_wp2_with fail
  refine' wp_region_loose (.inl _ :: .inl _ :: .inl _ :: .inl _ :: .inl _ :: .inl _ :: .inl undef :: .inl undef :: .inl undef :: .inl undef :: .inl _ :: .inl _ :: []) (fun w' => CellsAt w' w.heap.size [.int .i64 6, .int .i64 k, .int .i64 y, .int .i64 n]) (by kernel_rfl) (by kernel_rfl) (c1.drew) (fun _ _ h hE => h.step hE) ?hAa ?hla ?hMa
  case' hMa => skip
  apply wpLoose_val rfl rfl
  case hs =>
    intro w1 hC hd Q1 hQ1
    obtain ⟨hE, hS⟩ := hC
    dsimp only [bare]
    have q0 := hS.2 0 _ rfl; have q1 := hS.2 1 _ rfl; have q2 := hS.2 2 _ rfl; have q3 := hS.2 3 _ rfl
    clear hd hE
    try clear hS
    go_wp2
    exact Ext.refl _
  case ha => rfl
  apply wpLoose_val rfl rfl
  case hs =>
    intro w1 hC hd Q1 hQ1
    obtain ⟨hE, hS⟩ := hC
    dsimp only [bare]
    have q0 := hS.2 0 _ rfl; have q1 := hS.2 1 _ rfl; have q2 := hS.2 2 _ rfl; have q3 := hS.2 3 _ rfl
    clear hd hE
    try clear hS
    go_wp2
    exact Ext.refl _
  case ha => rfl
  apply wpLoose_val rfl rfl
  case hs =>
    intro w1 hC hd Q1 hQ1
    obtain ⟨hE, hS⟩ := hC
    dsimp only [bare]
    have q0 := hS.2 0 _ rfl; have q1 := hS.2 1 _ rfl; have q2 := hS.2 2 _ rfl; have q3 := hS.2 3 _ rfl
    clear hd hE
    try clear hS
    go_wp2
    exact Ext.refl _
  case ha => rfl
  apply wpLoose_val rfl rfl
  case hs =>
    intro w1 hC hd Q1 hQ1
    obtain ⟨hE, hS⟩ := hC
    dsimp only [bare]
    clear hd
    go_wp2_with fail
    refine (HF.out _).mono ?_
    rintro e w2 ⟨rfl, hb⟩
    go_wp2_with fail
    exact hb
  case ha => rfl
  apply wpLoose_val rfl rfl
  case hs =>
    intro w1 hC hd Q1 hQ1
    obtain ⟨hE, hS⟩ := hC
    dsimp only [bare]
    have q0 := hS.2 0 _ rfl; have q1 := hS.2 1 _ rfl; have q2 := hS.2 2 _ rfl; have q3 := hS.2 3 _ rfl
    clear hd hE
    try clear hS
    go_wp2
    exact Ext.refl _
  case ha => rfl
  apply wpLoose_val rfl rfl
  case hs =>
    intro w1 hC hd Q1 hQ1
    obtain ⟨hE, hS⟩ := hC
    dsimp only [bare]
    have q0 := hS.2 0 _ rfl; have q1 := hS.2 1 _ rfl; have q2 := hS.2 2 _ rfl; have q3 := hS.2 3 _ rfl
    clear hd hE
    try clear hS
    go_wp2
    exact Ext.refl _
  case ha => rfl
  refine wpLoose_skip rfl rfl ?_
  try simp only [Act.put, List.setIfInBounds_toArray, List.set_cons_succ, List.set_cons_zero]
  refine wpLoose_skip rfl rfl ?_
  try simp only [Act.put, List.setIfInBounds_toArray, List.set_cons_succ, List.set_cons_zero]
  refine wpLoose_skip rfl rfl ?_
  try simp only [Act.put, List.setIfInBounds_toArray, List.set_cons_succ, List.set_cons_zero]
  refine wpLoose_skip rfl rfl ?_
  try simp only [Act.put, List.setIfInBounds_toArray, List.set_cons_succ, List.set_cons_zero]
  apply wpLoose_val rfl rfl
  case hs =>
    intro w1 hC hd Q1 hQ1
    obtain ⟨hE, hS⟩ := hC
    dsimp only [bare]
    have q0 := hS.2 0 _ rfl; have q1 := hS.2 1 _ rfl; have q2 := hS.2 2 _ rfl; have q3 := hS.2 3 _ rfl
    clear hd hE
    try clear hS
    go_wp2
    exact Ext.refl _
  case ha => rfl
  apply wpLoose_val rfl rfl
  case hs =>
    intro w1 hC hd Q1 hQ1
    obtain ⟨hE, hS⟩ := hC
    dsimp only [bare]
    have q0 := hS.2 0 _ rfl; have q1 := hS.2 1 _ rfl; have q2 := hS.2 2 _ rfl; have q3 := hS.2 3 _ rfl
    clear hd hE
    try clear hS
    go_wp2
    exact Ext.refl _
  case ha => rfl
  refine wpLoose_nil ?_
  intro wa hEa hSa hFa
  have E2 : Hid (Ext w wa) := E1.out.drew.trans hEa
  clear hFa hSa hEa E1 c1
  go_wp2
  go_ret
  exact ⟨rfl, E2.out⟩
  case hAa => kernel_rfl
  case hla => exact ⟨trivial, trivial, trivial, trivial, trivial, trivial, trivial, trivial, trivial, trivial, trivial, trivial, trivial⟩

set_option maxRecDepth 100000 in
set_option maxHeartbeats 1600000 in
theorem okAsk6_yes (k y n : Int) (d : Bool) (w : World) (hf : ((inB k 0 4294967295 && inB y 0 15 && inB n 0 15)) = true) (hdd : decide (((6 : Int), (k : Int), (y : Int), (n : Int)) = (6, k, y, n)) = d) : Calls Try.prog 75 #[.agg #[.int .i64 6, .int .i64 k, .int .i64 y, .int .i64 n]] w fun e w' => e = .returned (.bool d) ∧ Ext w w' := by
  have HQ : Hid (∀ w, (Op.equalIn 10000 35 (.agg #[.int .i64 6, .int .i64 k, .int .i64 y, .int .i64 n]) (.agg #[.int .i64 6, .int .i64 k, .int .i64 y, .int .i64 n])).run Try.prog w = .ok d w) := fun w => by rw [eq_ins, hdd]
  clear hdd
  have HF : Hid (∀ w, Calls Try.prog 83 #[.iface 119 (.agg #[.int .i64 6, .int .i64 k, .int .i64 y, .int .i64 n])] w fun e w' => e = .returned (.bool true) ∧ Ext w w') := fun w => by have h := fitAsk_any 6 k y n w; rw [hf] at h; exact h
  clear hf
  go_enter Try.func75, Try.ntmps75
  go_wp2_with fail
  refine (wordAsk6_any k y n _).mono ?_
  rintro e w1 ⟨rfl, e1⟩
  have c1 : CellsAt w1 w.heap.size [.int .i64 6, .int .i64 k, .int .i64 y, .int .i64 n] := (CellsAt.new w [.int .i64 6, .int .i64 k, .int .i64 y, .int .i64 n] 35).step e1
  have E1 : Hid (Ext w w1) := (Ext.one _ _).trans e1
  clear e1
  go_wp2_with fail
  refine' wp_region_loose (.inl _ :: .inl _ :: .inl _ :: .inl _ :: .inl _ :: .inl _ :: .inl _ :: .inl _ :: .inl _ :: .inl _ :: .inl _ :: .inl _ :: []) (fun w' => CellsAt w' w.heap.size [.int .i64 6, .int .i64 k, .int .i64 y, .int .i64 n]) (by kernel_rfl) (by kernel_rfl) (c1.drew) (fun _ _ h hE => h.step hE) ?hAa ?hla ?hMa
  case' hMa => skip
  apply wpLoose_val rfl rfl
  case hs =>
    intro w1 hC hd Q1 hQ1
    obtain ⟨hE, hS⟩ := hC
    dsimp only [bare]
    have q0 := hS.2 0 _ rfl; have q1 := hS.2 1 _ rfl; have q2 := hS.2 2 _ rfl; have q3 := hS.2 3 _ rfl
    clear hd hE
    try clear hS
    go_wp2
    exact Ext.refl _
  case ha => rfl
  apply wpLoose_val rfl rfl
  case hs =>
    intro w1 hC hd Q1 hQ1
    obtain ⟨hE, hS⟩ := hC
    dsimp only [bare]
    have q0 := hS.2 0 _ rfl; have q1 := hS.2 1 _ rfl; have q2 := hS.2 2 _ rfl; have q3 := hS.2 3 _ rfl
    clear hd hE
    try clear hS
    go_wp2
    exact Ext.refl _
  case ha => rfl
  apply wpLoose_val rfl rfl
  case hs =>
    intro w1 hC hd Q1 hQ1
    obtain ⟨hE, hS⟩ := hC
    dsimp only [bare]
    have q0 := hS.2 0 _ rfl; have q1 := hS.2 1 _ rfl; have q2 := hS.2 2 _ rfl; have q3 := hS.2 3 _ rfl
    clear hd hE
    try clear hS
    go_wp2
    exact Ext.refl _
  case ha => rfl
  apply wpLoose_val rfl rfl
  case hs =>
    intro w1 hC hd Q1 hQ1
    obtain ⟨hE, hS⟩ := hC
    dsimp only [bare]
    clear hd
    go_wp2_with fail
    refine (HF.out _).mono ?_
    rintro e w2 ⟨rfl, hb⟩
    go_wp2_with fail
    exact hb
  case ha => rfl
  apply wpLoose_val rfl rfl
  case hs =>
    intro w1 hC hd Q1 hQ1
    obtain ⟨hE, hS⟩ := hC
    dsimp only [bare]
    have q0 := hS.2 0 _ rfl; have q1 := hS.2 1 _ rfl; have q2 := hS.2 2 _ rfl; have q3 := hS.2 3 _ rfl
    clear hd hE
    try clear hS
    go_wp2
    exact Ext.refl _
  case ha => rfl
  apply wpLoose_val rfl rfl
  case hs =>
    intro w1 hC hd Q1 hQ1
    obtain ⟨hE, hS⟩ := hC
    dsimp only [bare]
    have q0 := hS.2 0 _ rfl; have q1 := hS.2 1 _ rfl; have q2 := hS.2 2 _ rfl; have q3 := hS.2 3 _ rfl
    clear hd hE
    try clear hS
    go_wp2
    exact Ext.refl _
  case ha => rfl
  apply wpLoose_val rfl rfl
  case hs =>
    intro w1 hC hd Q1 hQ1
    obtain ⟨hE, hS⟩ := hC
    dsimp only [bare]
    have q0 := hS.2 0 _ rfl; have q1 := hS.2 1 _ rfl; have q2 := hS.2 2 _ rfl; have q3 := hS.2 3 _ rfl
    clear hd hE
    try clear hS
    go_wp2
    exact Ext.refl _
  case ha => rfl
  apply wpLoose_val rfl rfl
  case hs =>
    intro w1 hC hd Q1 hQ1
    obtain ⟨hE, hS⟩ := hC
    dsimp only [bare]
    clear hd
    go_wp2_with fail
    refine (insAsk_any 6 k y n _).mono ?_
    rintro e w2 ⟨rfl, hb⟩
    go_wp2_with fail
    exact hb
  case ha => rfl
  apply wpLoose_val rfl rfl
  case hs =>
    intro w1 hC hd Q1 hQ1
    obtain ⟨hE, hS⟩ := hC
    dsimp only [bare]
    have q0 := hS.2 0 _ rfl; have q1 := hS.2 1 _ rfl; have q2 := hS.2 2 _ rfl; have q3 := hS.2 3 _ rfl
    clear hd hE
    try clear hS
    go_wp2
    exact Ext.refl _
  case ha => rfl
  apply wpLoose_val rfl rfl
  case hs =>
    intro w1 hC hd Q1 hQ1
    obtain ⟨hE, hS⟩ := hC
    dsimp only [bare]
    have hEq := HQ.out
    obtain ⟨q0, q1, q2, q3⟩ := (⟨hS.2 0 _ rfl, hS.2 1 _ rfl, hS.2 2 _ rfl, hS.2 3 _ rfl⟩ : _ ∧ _ ∧ _ ∧ _)
    clear hd hE hS
    go_wp2
    exact Ext.refl _
  case ha => rfl
  apply wpLoose_val rfl rfl
  case hs =>
    intro w1 hC hd Q1 hQ1
    obtain ⟨hE, hS⟩ := hC
    dsimp only [bare]
    have q0 := hS.2 0 _ rfl; have q1 := hS.2 1 _ rfl; have q2 := hS.2 2 _ rfl; have q3 := hS.2 3 _ rfl
    clear hd hE
    try clear hS
    go_wp2
    exact Ext.refl _
  case ha => rfl
  apply wpLoose_val rfl rfl
  case hs =>
    intro w1 hC hd Q1 hQ1
    obtain ⟨hE, hS⟩ := hC
    dsimp only [bare]
    have q0 := hS.2 0 _ rfl; have q1 := hS.2 1 _ rfl; have q2 := hS.2 2 _ rfl; have q3 := hS.2 3 _ rfl
    clear hd hE
    try clear hS
    go_wp2
    exact Ext.refl _
  case ha => rfl
  refine wpLoose_nil ?_
  intro wa hEa hSa hFa
  have E2 : Hid (Ext w wa) := E1.out.drew.trans hEa
  clear hFa hSa hEa E1 c1
  go_wp2
  go_ret
  exact ⟨rfl, E2.out⟩
  case hAa => kernel_rfl
  case hla => exact ⟨trivial, trivial, trivial, trivial, trivial, trivial, trivial, trivial, trivial, trivial, trivial, trivial, trivial⟩

set_option maxRecDepth 100000 in
set_option maxHeartbeats 1600000 in
theorem okJump7_no (k y n : Int) (w : World) (hf : (inB k 0 399) = false) : Calls Try.prog 75 #[.agg #[.int .i64 7, .int .i64 k, .int .i64 y, .int .i64 n]] w fun e w' => e = .returned (.bool false) ∧ Ext w w' := by
  have HF : Hid (∀ w, Calls Try.prog 83 #[.iface 121 (.agg #[.int .i64 k])] w fun e w' => e = .returned (.bool false) ∧ Ext w w') := fun w => by have h := fitJump_any k w; rw [hf] at h; exact h
  clear hf
  go_enter Try.func75, Try.ntmps75
  go_wp2_with fail
  refine (wordJump_any k y n _).mono ?_
  rintro e w1 ⟨rfl, e1⟩
  have c1 : CellsAt w1 w.heap.size [.int .i64 7, .int .i64 k, .int .i64 y, .int .i64 n] := (CellsAt.new w [.int .i64 7, .int .i64 k, .int .i64 y, .int .i64 n] 35).step e1
  have E1 : Hid (Ext w w1) := (Ext.one _ _).trans e1
  clear e1
  go_wp2_with fail
  refine' wp_region_loose (.inl _ :: .inl _ :: .inl _ :: .inl _ :: .inl _ :: .inl _ :: .inl undef :: .inl undef :: .inl undef :: .inl undef :: .inl _ :: .inl _ :: []) (fun w' => CellsAt w' w.heap.size [.int .i64 7, .int .i64 k, .int .i64 y, .int .i64 n]) (by kernel_rfl) (by kernel_rfl) (c1.drew) (fun _ _ h hE => h.step hE) ?hAa ?hla ?hMa
  case' hMa => skip
  apply wpLoose_val rfl rfl
  case hs =>
    intro w1 hC hd Q1 hQ1
    obtain ⟨hE, hS⟩ := hC
    dsimp only [bare]
    have q0 := hS.2 0 _ rfl; have q1 := hS.2 1 _ rfl; have q2 := hS.2 2 _ rfl; have q3 := hS.2 3 _ rfl
    clear hd hE
    try clear hS
    go_wp2
    exact Ext.refl _
  case ha => rfl
  apply wpLoose_val rfl rfl
  case hs =>
    intro w1 hC hd Q1 hQ1
    obtain ⟨hE, hS⟩ := hC
    dsimp only [bare]
    have q0 := hS.2 0 _ rfl; have q1 := hS.2 1 _ rfl; have q2 := hS.2 2 _ rfl; have q3 := hS.2 3 _ rfl
    clear hd hE
    try clear hS
    go_wp2
    exact Ext.refl _
  case ha => rfl
  apply wpLoose_val rfl rfl
  case hs =>
    intro w1 hC hd Q1 hQ1
    obtain ⟨hE, hS⟩ := hC
    dsimp only [bare]
    have q0 := hS.2 0 _ rfl; have q1 := hS.2 1 _ rfl; have q2 := hS.2 2 _ rfl; have q3 := hS.2 3 _ rfl
    clear hd hE
    try clear hS
    go_wp2
    exact Ext.refl _
  case ha => rfl
  apply wpLoose_val rfl rfl
  case hs =>
    intro w1 hC hd Q1 hQ1
    obtain ⟨hE, hS⟩ := hC
    dsimp only [bare]
    clear hd
    go_wp2_with fail
    refine (HF.out _).mono ?_
    rintro e w2 ⟨rfl, hb⟩
    go_wp2_with fail
    exact hb
  case ha => rfl
  apply wpLoose_val rfl rfl
  case hs =>
    intro w1 hC hd Q1 hQ1
    obtain ⟨hE, hS⟩ := hC
    dsimp only [bare]
    have q0 := hS.2 0 _ rfl; have q1 := hS.2 1 _ rfl; have q2 := hS.2 2 _ rfl; have q3 := hS.2 3 _ rfl
    clear hd hE
    try clear hS
    go_wp2
    exact Ext.refl _
  case ha => rfl
  apply wpLoose_val rfl rfl
  case hs =>
    intro w1 hC hd Q1 hQ1
    obtain ⟨hE, hS⟩ := hC
    dsimp only [bare]
    have q0 := hS.2 0 _ rfl; have q1 := hS.2 1 _ rfl; have q2 := hS.2 2 _ rfl; have q3 := hS.2 3 _ rfl
    clear hd hE
    try clear hS
    go_wp2
    exact Ext.refl _
  case ha => rfl
  refine wpLoose_skip rfl rfl ?_
  try simp only [Act.put, List.setIfInBounds_toArray, List.set_cons_succ, List.set_cons_zero]
  refine wpLoose_skip rfl rfl ?_
  try simp only [Act.put, List.setIfInBounds_toArray, List.set_cons_succ, List.set_cons_zero]
  refine wpLoose_skip rfl rfl ?_
  try simp only [Act.put, List.setIfInBounds_toArray, List.set_cons_succ, List.set_cons_zero]
  refine wpLoose_skip rfl rfl ?_
  try simp only [Act.put, List.setIfInBounds_toArray, List.set_cons_succ, List.set_cons_zero]
  apply wpLoose_val rfl rfl
  case hs =>
    intro w1 hC hd Q1 hQ1
    obtain ⟨hE, hS⟩ := hC
    dsimp only [bare]
    have q0 := hS.2 0 _ rfl; have q1 := hS.2 1 _ rfl; have q2 := hS.2 2 _ rfl; have q3 := hS.2 3 _ rfl
    clear hd hE
    try clear hS
    go_wp2
    exact Ext.refl _
  case ha => rfl
  apply wpLoose_val rfl rfl
  case hs =>
    intro w1 hC hd Q1 hQ1
    obtain ⟨hE, hS⟩ := hC
    dsimp only [bare]
    have q0 := hS.2 0 _ rfl; have q1 := hS.2 1 _ rfl; have q2 := hS.2 2 _ rfl; have q3 := hS.2 3 _ rfl
    clear hd hE
    try clear hS
    go_wp2
    exact Ext.refl _
  case ha => rfl
  refine wpLoose_nil ?_
  intro wa hEa hSa hFa
  have E2 : Hid (Ext w wa) := E1.out.drew.trans hEa
  clear hFa hSa hEa E1 c1
  go_wp2
  go_ret
  exact ⟨rfl, E2.out⟩
  case hAa => kernel_rfl
  case hla => exact ⟨trivial, trivial, trivial, trivial, trivial, trivial, trivial, trivial, trivial, trivial, trivial, trivial, trivial⟩

set_option maxRecDepth 100000 in
set_option maxHeartbeats 1600000 in
theorem okJump7_yes (k y n : Int) (d : Bool) (w : World) (hf : (inB k 0 399) = true) (hdd : decide (((7 : Int), (k : Int), (0 : Int), (0 : Int)) = (7, k, y, n)) = d) : Calls Try.prog 75 #[.agg #[.int .i64 7, .int .i64 k, .int .i64 y, .int .i64 n]] w fun e w' => e = .returned (.bool d) ∧ Ext w w' := by
  have HQ : Hid (∀ w, (Op.equalIn 10000 35 (.agg #[.int .i64 7, .int .i64 k, .int .i64 0, .int .i64 0]) (.agg #[.int .i64 7, .int .i64 k, .int .i64 y, .int .i64 n])).run Try.prog w = .ok d w) := fun w => by rw [eq_ins, hdd]
  clear hdd
  have HF : Hid (∀ w, Calls Try.prog 83 #[.iface 121 (.agg #[.int .i64 k])] w fun e w' => e = .returned (.bool true) ∧ Ext w w') := fun w => by have h := fitJump_any k w; rw [hf] at h; exact h
  clear hf
  go_enter Try.func75, Try.ntmps75
  go_wp2_with fail
  refine (wordJump_any k y n _).mono ?_
  rintro e w1 ⟨rfl, e1⟩
  have c1 : CellsAt w1 w.heap.size [.int .i64 7, .int .i64 k, .int .i64 y, .int .i64 n] := (CellsAt.new w [.int .i64 7, .int .i64 k, .int .i64 y, .int .i64 n] 35).step e1
  have E1 : Hid (Ext w w1) := (Ext.one _ _).trans e1
  clear e1
  go_wp2_with fail
  refine' wp_region_loose (.inl _ :: .inl _ :: .inl _ :: .inl _ :: .inl _ :: .inl _ :: .inl _ :: .inl _ :: .inl _ :: .inl _ :: .inl _ :: .inl _ :: []) (fun w' => CellsAt w' w.heap.size [.int .i64 7, .int .i64 k, .int .i64 y, .int .i64 n]) (by kernel_rfl) (by kernel_rfl) (c1.drew) (fun _ _ h hE => h.step hE) ?hAa ?hla ?hMa
  case' hMa => skip
  apply wpLoose_val rfl rfl
  case hs =>
    intro w1 hC hd Q1 hQ1
    obtain ⟨hE, hS⟩ := hC
    dsimp only [bare]
    have q0 := hS.2 0 _ rfl; have q1 := hS.2 1 _ rfl; have q2 := hS.2 2 _ rfl; have q3 := hS.2 3 _ rfl
    clear hd hE
    try clear hS
    go_wp2
    exact Ext.refl _
  case ha => rfl
  apply wpLoose_val rfl rfl
  case hs =>
    intro w1 hC hd Q1 hQ1
    obtain ⟨hE, hS⟩ := hC
    dsimp only [bare]
    have q0 := hS.2 0 _ rfl; have q1 := hS.2 1 _ rfl; have q2 := hS.2 2 _ rfl; have q3 := hS.2 3 _ rfl
    clear hd hE
    try clear hS
    go_wp2
    exact Ext.refl _
  case ha => rfl
  apply wpLoose_val rfl rfl
  case hs =>
    intro w1 hC hd Q1 hQ1
    obtain ⟨hE, hS⟩ := hC
    dsimp only [bare]
    have q0 := hS.2 0 _ rfl; have q1 := hS.2 1 _ rfl; have q2 := hS.2 2 _ rfl; have q3 := hS.2 3 _ rfl
    clear hd hE
    try clear hS
    go_wp2
    exact Ext.refl _
  case ha => rfl
  apply wpLoose_val rfl rfl
  case hs =>
    intro w1 hC hd Q1 hQ1
    obtain ⟨hE, hS⟩ := hC
    dsimp only [bare]
    clear hd
    go_wp2_with fail
    refine (HF.out _).mono ?_
    rintro e w2 ⟨rfl, hb⟩
    go_wp2_with fail
    exact hb
  case ha => rfl
  apply wpLoose_val rfl rfl
  case hs =>
    intro w1 hC hd Q1 hQ1
    obtain ⟨hE, hS⟩ := hC
    dsimp only [bare]
    have q0 := hS.2 0 _ rfl; have q1 := hS.2 1 _ rfl; have q2 := hS.2 2 _ rfl; have q3 := hS.2 3 _ rfl
    clear hd hE
    try clear hS
    go_wp2
    exact Ext.refl _
  case ha => rfl
  apply wpLoose_val rfl rfl
  case hs =>
    intro w1 hC hd Q1 hQ1
    obtain ⟨hE, hS⟩ := hC
    dsimp only [bare]
    have q0 := hS.2 0 _ rfl; have q1 := hS.2 1 _ rfl; have q2 := hS.2 2 _ rfl; have q3 := hS.2 3 _ rfl
    clear hd hE
    try clear hS
    go_wp2
    exact Ext.refl _
  case ha => rfl
  apply wpLoose_val rfl rfl
  case hs =>
    intro w1 hC hd Q1 hQ1
    obtain ⟨hE, hS⟩ := hC
    dsimp only [bare]
    have q0 := hS.2 0 _ rfl; have q1 := hS.2 1 _ rfl; have q2 := hS.2 2 _ rfl; have q3 := hS.2 3 _ rfl
    clear hd hE
    try clear hS
    go_wp2
    exact Ext.refl _
  case ha => rfl
  apply wpLoose_val rfl rfl
  case hs =>
    intro w1 hC hd Q1 hQ1
    obtain ⟨hE, hS⟩ := hC
    dsimp only [bare]
    clear hd
    go_wp2_with fail
    refine (insJump_any k _).mono ?_
    rintro e w2 ⟨rfl, hb⟩
    go_wp2_with fail
    exact hb
  case ha => rfl
  apply wpLoose_val rfl rfl
  case hs =>
    intro w1 hC hd Q1 hQ1
    obtain ⟨hE, hS⟩ := hC
    dsimp only [bare]
    have q0 := hS.2 0 _ rfl; have q1 := hS.2 1 _ rfl; have q2 := hS.2 2 _ rfl; have q3 := hS.2 3 _ rfl
    clear hd hE
    try clear hS
    go_wp2
    exact Ext.refl _
  case ha => rfl
  apply wpLoose_val rfl rfl
  case hs =>
    intro w1 hC hd Q1 hQ1
    obtain ⟨hE, hS⟩ := hC
    dsimp only [bare]
    have hEq := HQ.out
    obtain ⟨q0, q1, q2, q3⟩ := (⟨hS.2 0 _ rfl, hS.2 1 _ rfl, hS.2 2 _ rfl, hS.2 3 _ rfl⟩ : _ ∧ _ ∧ _ ∧ _)
    clear hd hE hS
    go_wp2
    exact Ext.refl _
  case ha => rfl
  apply wpLoose_val rfl rfl
  case hs =>
    intro w1 hC hd Q1 hQ1
    obtain ⟨hE, hS⟩ := hC
    dsimp only [bare]
    have q0 := hS.2 0 _ rfl; have q1 := hS.2 1 _ rfl; have q2 := hS.2 2 _ rfl; have q3 := hS.2 3 _ rfl
    clear hd hE
    try clear hS
    go_wp2
    exact Ext.refl _
  case ha => rfl
  apply wpLoose_val rfl rfl
  case hs =>
    intro w1 hC hd Q1 hQ1
    obtain ⟨hE, hS⟩ := hC
    dsimp only [bare]
    have q0 := hS.2 0 _ rfl; have q1 := hS.2 1 _ rfl; have q2 := hS.2 2 _ rfl; have q3 := hS.2 3 _ rfl
    clear hd hE
    try clear hS
    go_wp2
    exact Ext.refl _
  case ha => rfl
  refine wpLoose_nil ?_
  intro wa hEa hSa hFa
  have E2 : Hid (Ext w wa) := E1.out.drew.trans hEa
  clear hFa hSa hEa E1 c1
  go_wp2
  go_ret
  exact ⟨rfl, E2.out⟩
  case hAa => kernel_rfl
  case hla => exact ⟨trivial, trivial, trivial, trivial, trivial, trivial, trivial, trivial, trivial, trivial, trivial, trivial, trivial⟩

set_option maxRecDepth 100000 in
set_option maxHeartbeats 1600000 in
theorem okRet8_no (k y n : Int) (w : World) (hf : (inB k 0 4294967295) = false) : Calls Try.prog 75 #[.agg #[.int .i64 8, .int .i64 k, .int .i64 y, .int .i64 n]] w fun e w' => e = .returned (.bool false) ∧ Ext w w' := by
  have HF : Hid (∀ w, Calls Try.prog 83 #[.iface 123 (.agg #[.int .i64 k])] w fun e w' => e = .returned (.bool false) ∧ Ext w w') := fun w => by have h := fitRet_any k w; rw [hf] at h; exact h
  clear hf
  go_enter Try.func75, Try.ntmps75
  go_wp2_with fail
  refine (wordRet_any k y n _).mono ?_
  rintro e w1 ⟨rfl, e1⟩
  have c1 : CellsAt w1 w.heap.size [.int .i64 8, .int .i64 k, .int .i64 y, .int .i64 n] := (CellsAt.new w [.int .i64 8, .int .i64 k, .int .i64 y, .int .i64 n] 35).step e1
  have E1 : Hid (Ext w w1) := (Ext.one _ _).trans e1
  clear e1
  go_wp2_with fail
  refine' wp_region_loose (.inl _ :: .inl _ :: .inl _ :: .inl _ :: .inl _ :: .inl _ :: .inl undef :: .inl undef :: .inl undef :: .inl undef :: .inl _ :: .inl _ :: []) (fun w' => CellsAt w' w.heap.size [.int .i64 8, .int .i64 k, .int .i64 y, .int .i64 n]) (by kernel_rfl) (by kernel_rfl) (c1.drew) (fun _ _ h hE => h.step hE) ?hAa ?hla ?hMa
  case' hMa => skip
  apply wpLoose_val rfl rfl
  case hs =>
    intro w1 hC hd Q1 hQ1
    obtain ⟨hE, hS⟩ := hC
    dsimp only [bare]
    have q0 := hS.2 0 _ rfl; have q1 := hS.2 1 _ rfl; have q2 := hS.2 2 _ rfl; have q3 := hS.2 3 _ rfl
    clear hd hE
    try clear hS
    go_wp2
    exact Ext.refl _
  case ha => rfl
  apply wpLoose_val rfl rfl
  case hs =>
    intro w1 hC hd Q1 hQ1
    obtain ⟨hE, hS⟩ := hC
    dsimp only [bare]
    have q0 := hS.2 0 _ rfl; have q1 := hS.2 1 _ rfl; have q2 := hS.2 2 _ rfl; have q3 := hS.2 3 _ rfl
    clear hd hE
    try clear hS
    go_wp2
    exact Ext.refl _
  case ha => rfl
  apply wpLoose_val rfl rfl
  case hs =>
    intro w1 hC hd Q1 hQ1
    obtain ⟨hE, hS⟩ := hC
    dsimp only [bare]
    have q0 := hS.2 0 _ rfl; have q1 := hS.2 1 _ rfl; have q2 := hS.2 2 _ rfl; have q3 := hS.2 3 _ rfl
    clear hd hE
    try clear hS
    go_wp2
    exact Ext.refl _
  case ha => rfl
  apply wpLoose_val rfl rfl
  case hs =>
    intro w1 hC hd Q1 hQ1
    obtain ⟨hE, hS⟩ := hC
    dsimp only [bare]
    clear hd
    go_wp2_with fail
    refine (HF.out _).mono ?_
    rintro e w2 ⟨rfl, hb⟩
    go_wp2_with fail
    exact hb
  case ha => rfl
  apply wpLoose_val rfl rfl
  case hs =>
    intro w1 hC hd Q1 hQ1
    obtain ⟨hE, hS⟩ := hC
    dsimp only [bare]
    have q0 := hS.2 0 _ rfl; have q1 := hS.2 1 _ rfl; have q2 := hS.2 2 _ rfl; have q3 := hS.2 3 _ rfl
    clear hd hE
    try clear hS
    go_wp2
    exact Ext.refl _
  case ha => rfl
  apply wpLoose_val rfl rfl
  case hs =>
    intro w1 hC hd Q1 hQ1
    obtain ⟨hE, hS⟩ := hC
    dsimp only [bare]
    have q0 := hS.2 0 _ rfl; have q1 := hS.2 1 _ rfl; have q2 := hS.2 2 _ rfl; have q3 := hS.2 3 _ rfl
    clear hd hE
    try clear hS
    go_wp2
    exact Ext.refl _
  case ha => rfl
  refine wpLoose_skip rfl rfl ?_
  try simp only [Act.put, List.setIfInBounds_toArray, List.set_cons_succ, List.set_cons_zero]
  refine wpLoose_skip rfl rfl ?_
  try simp only [Act.put, List.setIfInBounds_toArray, List.set_cons_succ, List.set_cons_zero]
  refine wpLoose_skip rfl rfl ?_
  try simp only [Act.put, List.setIfInBounds_toArray, List.set_cons_succ, List.set_cons_zero]
  refine wpLoose_skip rfl rfl ?_
  try simp only [Act.put, List.setIfInBounds_toArray, List.set_cons_succ, List.set_cons_zero]
  apply wpLoose_val rfl rfl
  case hs =>
    intro w1 hC hd Q1 hQ1
    obtain ⟨hE, hS⟩ := hC
    dsimp only [bare]
    have q0 := hS.2 0 _ rfl; have q1 := hS.2 1 _ rfl; have q2 := hS.2 2 _ rfl; have q3 := hS.2 3 _ rfl
    clear hd hE
    try clear hS
    go_wp2
    exact Ext.refl _
  case ha => rfl
  apply wpLoose_val rfl rfl
  case hs =>
    intro w1 hC hd Q1 hQ1
    obtain ⟨hE, hS⟩ := hC
    dsimp only [bare]
    have q0 := hS.2 0 _ rfl; have q1 := hS.2 1 _ rfl; have q2 := hS.2 2 _ rfl; have q3 := hS.2 3 _ rfl
    clear hd hE
    try clear hS
    go_wp2
    exact Ext.refl _
  case ha => rfl
  refine wpLoose_nil ?_
  intro wa hEa hSa hFa
  have E2 : Hid (Ext w wa) := E1.out.drew.trans hEa
  clear hFa hSa hEa E1 c1
  go_wp2
  go_ret
  exact ⟨rfl, E2.out⟩
  case hAa => kernel_rfl
  case hla => exact ⟨trivial, trivial, trivial, trivial, trivial, trivial, trivial, trivial, trivial, trivial, trivial, trivial, trivial⟩

set_option maxRecDepth 100000 in
set_option maxHeartbeats 1600000 in
theorem okRet8_yes (k y n : Int) (d : Bool) (w : World) (hf : (inB k 0 4294967295) = true) (hdd : decide (((8 : Int), (k : Int), (0 : Int), (0 : Int)) = (8, k, y, n)) = d) : Calls Try.prog 75 #[.agg #[.int .i64 8, .int .i64 k, .int .i64 y, .int .i64 n]] w fun e w' => e = .returned (.bool d) ∧ Ext w w' := by
  have HQ : Hid (∀ w, (Op.equalIn 10000 35 (.agg #[.int .i64 8, .int .i64 k, .int .i64 0, .int .i64 0]) (.agg #[.int .i64 8, .int .i64 k, .int .i64 y, .int .i64 n])).run Try.prog w = .ok d w) := fun w => by rw [eq_ins, hdd]
  clear hdd
  have HF : Hid (∀ w, Calls Try.prog 83 #[.iface 123 (.agg #[.int .i64 k])] w fun e w' => e = .returned (.bool true) ∧ Ext w w') := fun w => by have h := fitRet_any k w; rw [hf] at h; exact h
  clear hf
  go_enter Try.func75, Try.ntmps75
  go_wp2_with fail
  refine (wordRet_any k y n _).mono ?_
  rintro e w1 ⟨rfl, e1⟩
  have c1 : CellsAt w1 w.heap.size [.int .i64 8, .int .i64 k, .int .i64 y, .int .i64 n] := (CellsAt.new w [.int .i64 8, .int .i64 k, .int .i64 y, .int .i64 n] 35).step e1
  have E1 : Hid (Ext w w1) := (Ext.one _ _).trans e1
  clear e1
  go_wp2_with fail
  refine' wp_region_loose (.inl _ :: .inl _ :: .inl _ :: .inl _ :: .inl _ :: .inl _ :: .inl _ :: .inl _ :: .inl _ :: .inl _ :: .inl _ :: .inl _ :: []) (fun w' => CellsAt w' w.heap.size [.int .i64 8, .int .i64 k, .int .i64 y, .int .i64 n]) (by kernel_rfl) (by kernel_rfl) (c1.drew) (fun _ _ h hE => h.step hE) ?hAa ?hla ?hMa
  case' hMa => skip
  apply wpLoose_val rfl rfl
  case hs =>
    intro w1 hC hd Q1 hQ1
    obtain ⟨hE, hS⟩ := hC
    dsimp only [bare]
    have q0 := hS.2 0 _ rfl; have q1 := hS.2 1 _ rfl; have q2 := hS.2 2 _ rfl; have q3 := hS.2 3 _ rfl
    clear hd hE
    try clear hS
    go_wp2
    exact Ext.refl _
  case ha => rfl
  apply wpLoose_val rfl rfl
  case hs =>
    intro w1 hC hd Q1 hQ1
    obtain ⟨hE, hS⟩ := hC
    dsimp only [bare]
    have q0 := hS.2 0 _ rfl; have q1 := hS.2 1 _ rfl; have q2 := hS.2 2 _ rfl; have q3 := hS.2 3 _ rfl
    clear hd hE
    try clear hS
    go_wp2
    exact Ext.refl _
  case ha => rfl
  apply wpLoose_val rfl rfl
  case hs =>
    intro w1 hC hd Q1 hQ1
    obtain ⟨hE, hS⟩ := hC
    dsimp only [bare]
    have q0 := hS.2 0 _ rfl; have q1 := hS.2 1 _ rfl; have q2 := hS.2 2 _ rfl; have q3 := hS.2 3 _ rfl
    clear hd hE
    try clear hS
    go_wp2
    exact Ext.refl _
  case ha => rfl
  apply wpLoose_val rfl rfl
  case hs =>
    intro w1 hC hd Q1 hQ1
    obtain ⟨hE, hS⟩ := hC
    dsimp only [bare]
    clear hd
    go_wp2_with fail
    refine (HF.out _).mono ?_
    rintro e w2 ⟨rfl, hb⟩
    go_wp2_with fail
    exact hb
  case ha => rfl
  apply wpLoose_val rfl rfl
  case hs =>
    intro w1 hC hd Q1 hQ1
    obtain ⟨hE, hS⟩ := hC
    dsimp only [bare]
    have q0 := hS.2 0 _ rfl; have q1 := hS.2 1 _ rfl; have q2 := hS.2 2 _ rfl; have q3 := hS.2 3 _ rfl
    clear hd hE
    try clear hS
    go_wp2
    exact Ext.refl _
  case ha => rfl
  apply wpLoose_val rfl rfl
  case hs =>
    intro w1 hC hd Q1 hQ1
    obtain ⟨hE, hS⟩ := hC
    dsimp only [bare]
    have q0 := hS.2 0 _ rfl; have q1 := hS.2 1 _ rfl; have q2 := hS.2 2 _ rfl; have q3 := hS.2 3 _ rfl
    clear hd hE
    try clear hS
    go_wp2
    exact Ext.refl _
  case ha => rfl
  apply wpLoose_val rfl rfl
  case hs =>
    intro w1 hC hd Q1 hQ1
    obtain ⟨hE, hS⟩ := hC
    dsimp only [bare]
    have q0 := hS.2 0 _ rfl; have q1 := hS.2 1 _ rfl; have q2 := hS.2 2 _ rfl; have q3 := hS.2 3 _ rfl
    clear hd hE
    try clear hS
    go_wp2
    exact Ext.refl _
  case ha => rfl
  apply wpLoose_val rfl rfl
  case hs =>
    intro w1 hC hd Q1 hQ1
    obtain ⟨hE, hS⟩ := hC
    dsimp only [bare]
    clear hd
    go_wp2_with fail
    refine (insRet_any k _).mono ?_
    rintro e w2 ⟨rfl, hb⟩
    go_wp2_with fail
    exact hb
  case ha => rfl
  apply wpLoose_val rfl rfl
  case hs =>
    intro w1 hC hd Q1 hQ1
    obtain ⟨hE, hS⟩ := hC
    dsimp only [bare]
    have q0 := hS.2 0 _ rfl; have q1 := hS.2 1 _ rfl; have q2 := hS.2 2 _ rfl; have q3 := hS.2 3 _ rfl
    clear hd hE
    try clear hS
    go_wp2
    exact Ext.refl _
  case ha => rfl
  apply wpLoose_val rfl rfl
  case hs =>
    intro w1 hC hd Q1 hQ1
    obtain ⟨hE, hS⟩ := hC
    dsimp only [bare]
    have hEq := HQ.out
    obtain ⟨q0, q1, q2, q3⟩ := (⟨hS.2 0 _ rfl, hS.2 1 _ rfl, hS.2 2 _ rfl, hS.2 3 _ rfl⟩ : _ ∧ _ ∧ _ ∧ _)
    clear hd hE hS
    go_wp2
    exact Ext.refl _
  case ha => rfl
  apply wpLoose_val rfl rfl
  case hs =>
    intro w1 hC hd Q1 hQ1
    obtain ⟨hE, hS⟩ := hC
    dsimp only [bare]
    have q0 := hS.2 0 _ rfl; have q1 := hS.2 1 _ rfl; have q2 := hS.2 2 _ rfl; have q3 := hS.2 3 _ rfl
    clear hd hE
    try clear hS
    go_wp2
    exact Ext.refl _
  case ha => rfl
  apply wpLoose_val rfl rfl
  case hs =>
    intro w1 hC hd Q1 hQ1
    obtain ⟨hE, hS⟩ := hC
    dsimp only [bare]
    have q0 := hS.2 0 _ rfl; have q1 := hS.2 1 _ rfl; have q2 := hS.2 2 _ rfl; have q3 := hS.2 3 _ rfl
    clear hd hE
    try clear hS
    go_wp2
    exact Ext.refl _
  case ha => rfl
  refine wpLoose_nil ?_
  intro wa hEa hSa hFa
  have E2 : Hid (Ext w wa) := E1.out.drew.trans hEa
  clear hFa hSa hEa E1 c1
  go_wp2
  go_ret
  exact ⟨rfl, E2.out⟩
  case hAa => kernel_rfl
  case hla => exact ⟨trivial, trivial, trivial, trivial, trivial, trivial, trivial, trivial, trivial, trivial, trivial, trivial, trivial⟩

theorem dec_eq {p : Prop} [Decidable p] {b : Bool} (h : b = true ↔ p) : decide p = b := by
  cases b
  · simp at h; simpa using h
  · simp at h; simpa using h

theorem iInsOk_any (o k y n : Int) (w : World) : Calls Try.prog 75 #[.agg #[.int .i64 o, .int .i64 k, .int .i64 y, .int .i64 n]] w fun e w' => e = .returned (.bool (insB o k y n)) ∧ Ext w w' := by
  cases h0 : inB o 1 8
  · rw [insB_false.2 (by rw [inB_false] at h0; unfold insP; omega)]
    have HN : Hid (∀ w, Calls Try.prog 82 #[.agg #[.int .i64 o, .int .i64 k, .int .i64 y, .int .i64 n]] w fun e w' => e = .returned (.tuple #[.nilIface, .bool false]) ∧ Ext w w') := fun w => wordNone_any o k y n w h0
    clear h0
    go_enter Try.func75, Try.ntmps75
    go_wp2_with fail
    refine (HN.out _).mono ?_
    rintro e w1 ⟨rfl, e1⟩
    have E1 : Hid (Ext w w1) := (Ext.one _ _).trans e1
    clear e1
    go_wp2_with fail
    refine' wp_region_loose (.inl _ :: .inl _ :: .inl undef :: .inl undef :: .inl _ :: .inl _ :: .inl undef :: .inl undef :: .inl undef :: .inl undef :: .inl _ :: .inl _ :: []) (fun w' => True) (by kernel_rfl) (by kernel_rfl) (trivial) (fun _ _ h hE => trivial) ?hAa ?hla ?hMa
    case' hMa => skip
    apply wpLoose_val rfl rfl
    case hs =>
      intro w1 hC hd Q1 hQ1
      obtain ⟨hE, hS⟩ := hC
      dsimp only [bare]
      skip
      clear hd hE
      try clear hS
      go_wp2
      exact Ext.refl _
    case ha => rfl
    apply wpLoose_val rfl rfl
    case hs =>
      intro w1 hC hd Q1 hQ1
      obtain ⟨hE, hS⟩ := hC
      dsimp only [bare]
      skip
      clear hd hE
      try clear hS
      go_wp2
      exact Ext.refl _
    case ha => rfl
    refine wpLoose_skip rfl rfl ?_
    try simp only [Act.put, List.setIfInBounds_toArray, List.set_cons_succ, List.set_cons_zero]
    refine wpLoose_skip rfl rfl ?_
    try simp only [Act.put, List.setIfInBounds_toArray, List.set_cons_succ, List.set_cons_zero]
    apply wpLoose_val rfl rfl
    case hs =>
      intro w1 hC hd Q1 hQ1
      obtain ⟨hE, hS⟩ := hC
      dsimp only [bare]
      skip
      clear hd hE
      try clear hS
      go_wp2
      exact Ext.refl _
    case ha => rfl
    apply wpLoose_val rfl rfl
    case hs =>
      intro w1 hC hd Q1 hQ1
      obtain ⟨hE, hS⟩ := hC
      dsimp only [bare]
      skip
      clear hd hE
      try clear hS
      go_wp2
      exact Ext.refl _
    case ha => rfl
    refine wpLoose_skip rfl rfl ?_
    try simp only [Act.put, List.setIfInBounds_toArray, List.set_cons_succ, List.set_cons_zero]
    refine wpLoose_skip rfl rfl ?_
    try simp only [Act.put, List.setIfInBounds_toArray, List.set_cons_succ, List.set_cons_zero]
    refine wpLoose_skip rfl rfl ?_
    try simp only [Act.put, List.setIfInBounds_toArray, List.set_cons_succ, List.set_cons_zero]
    refine wpLoose_skip rfl rfl ?_
    try simp only [Act.put, List.setIfInBounds_toArray, List.set_cons_succ, List.set_cons_zero]
    apply wpLoose_val rfl rfl
    case hs =>
      intro w1 hC hd Q1 hQ1
      obtain ⟨hE, hS⟩ := hC
      dsimp only [bare]
      skip
      clear hd hE
      try clear hS
      go_wp2
      exact Ext.refl _
    case ha => rfl
    apply wpLoose_val rfl rfl
    case hs =>
      intro w1 hC hd Q1 hQ1
      obtain ⟨hE, hS⟩ := hC
      dsimp only [bare]
      skip
      clear hd hE
      try clear hS
      go_wp2
      exact Ext.refl _
    case ha => rfl
    refine wpLoose_nil ?_
    intro wa hEa hSa hFa
    have E2 : Hid (Ext w wa) := E1.out.drew.trans hEa
    clear hFa hSa hEa E1
    go_wp2
    go_ret
    exact ⟨rfl, E2.out⟩
    case hAa => kernel_rfl
    case hla => exact ⟨trivial, trivial, trivial, trivial, trivial, trivial, trivial, trivial, trivial, trivial, trivial, trivial, trivial⟩
  · rw [inB_true] at h0
    have h8 : o = 1 ∨ o = 2 ∨ o = 3 ∨ o = 4 ∨ o = 5 ∨ o = 6 ∨ o = 7 ∨ o = 8 := by omega
    clear h0
    rcases h8 with rfl | rfl | rfl | rfl | rfl | rfl | rfl | rfl
    · cases hf : (inB k 0 7)
      · rw [insB_false.2 (by rw [inB_false] at hf; unfold insP; omega)]
        exact okLoad1_no k y n w hf
      · exact okLoad1_yes k y n (insB 1 k y n) w hf (dec_eq (by rw [insB_true]; rw [inB_true] at hf; unfold insP; exact ⟨fun h => by simp; omega, fun h => by simp at h; omega⟩))
    · cases hf : (inB k 0 4294967295)
      · rw [insB_false.2 (by rw [inB_false] at hf; unfold insP; omega)]
        exact okAnd2_no k y n w hf
      · exact okAnd2_yes k y n (insB 2 k y n) w hf (dec_eq (by rw [insB_true]; rw [inB_true] at hf; unfold insP; exact ⟨fun h => by simp; omega, fun h => by simp at h; omega⟩))
    · cases hf : ((inB k 0 4294967295 && inB y 0 15 && inB n 0 15))
      · rw [insB_false.2 (by simp only [Bool.and_eq_false_iff, inB_false] at hf; unfold insP; omega)]
        exact okAsk3_no k y n w hf
      · exact okAsk3_yes k y n (insB 3 k y n) w hf (dec_eq (by rw [insB_true]; simp only [Bool.and_eq_true, inB_true] at hf; unfold insP; exact ⟨fun _ => rfl, fun _ => by omega⟩))
    · cases hf : ((inB k 0 4294967295 && inB y 0 15 && inB n 0 15))
      · rw [insB_false.2 (by simp only [Bool.and_eq_false_iff, inB_false] at hf; unfold insP; omega)]
        exact okAsk4_no k y n w hf
      · exact okAsk4_yes k y n (insB 4 k y n) w hf (dec_eq (by rw [insB_true]; simp only [Bool.and_eq_true, inB_true] at hf; unfold insP; exact ⟨fun _ => rfl, fun _ => by omega⟩))
    · cases hf : ((inB k 0 4294967295 && inB y 0 15 && inB n 0 15))
      · rw [insB_false.2 (by simp only [Bool.and_eq_false_iff, inB_false] at hf; unfold insP; omega)]
        exact okAsk5_no k y n w hf
      · exact okAsk5_yes k y n (insB 5 k y n) w hf (dec_eq (by rw [insB_true]; simp only [Bool.and_eq_true, inB_true] at hf; unfold insP; exact ⟨fun _ => rfl, fun _ => by omega⟩))
    · cases hf : ((inB k 0 4294967295 && inB y 0 15 && inB n 0 15))
      · rw [insB_false.2 (by simp only [Bool.and_eq_false_iff, inB_false] at hf; unfold insP; omega)]
        exact okAsk6_no k y n w hf
      · exact okAsk6_yes k y n (insB 6 k y n) w hf (dec_eq (by rw [insB_true]; simp only [Bool.and_eq_true, inB_true] at hf; unfold insP; exact ⟨fun _ => rfl, fun _ => by omega⟩))
    · cases hf : (inB k 0 399)
      · rw [insB_false.2 (by rw [inB_false] at hf; unfold insP; omega)]
        exact okJump7_no k y n w hf
      · exact okJump7_yes k y n (insB 7 k y n) w hf (dec_eq (by rw [insB_true]; rw [inB_true] at hf; unfold insP; exact ⟨fun h => by simp; omega, fun h => by simp at h; omega⟩))
    · cases hf : (inB k 0 4294967295)
      · rw [insB_false.2 (by rw [inB_false] at hf; unfold insP; omega)]
        exact okRet8_no k y n w hf
      · exact okRet8_yes k y n (insB 8 k y n) w hf (dec_eq (by rw [insB_true]; rw [inB_true] at hf; unfold insP; exact ⟨fun h => by simp; omega, fun h => by simp at h; omega⟩))

end Go.Proofs.Ytakcmiijnckaaaa
