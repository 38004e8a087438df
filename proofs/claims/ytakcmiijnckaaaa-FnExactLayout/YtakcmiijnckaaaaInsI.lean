/- What impl's InsOk answers, of any four numbers: word by word behind the interface. -/
import Derived.Test.YtakcmiijnckaaaaInsIS
namespace Go.Proofs.Ytakcmiijnckaaaa
open Go.RowKit
set_option linter.unusedVariables false

theorem asLoadLoad (v : Value) (w : World) : (Instr.typeAssert (.iface 115 v) 107 115 true).run Try.prog w = .ok (.tuple #[v, .bool true]) w := by kernel_rfl

theorem asLoadAnd (v : Value) (w : World) : (Instr.typeAssert (.iface 115 v) 107 117 true).run Try.prog w = .ok (.tuple #[.agg #[.int .i64 0], .bool false]) w := by kernel_rfl

theorem asLoadAsk (v : Value) (w : World) : (Instr.typeAssert (.iface 115 v) 107 119 true).run Try.prog w = .ok (.tuple #[.agg #[.int .i64 0, .int .i64 0, .int .i64 0, .int .i64 0], .bool false]) w := by kernel_rfl

theorem asLoadJump (v : Value) (w : World) : (Instr.typeAssert (.iface 115 v) 107 121 true).run Try.prog w = .ok (.tuple #[.agg #[.int .i64 0], .bool false]) w := by kernel_rfl

theorem asLoadRet (v : Value) (w : World) : (Instr.typeAssert (.iface 115 v) 107 123 true).run Try.prog w = .ok (.tuple #[.agg #[.int .i64 0], .bool false]) w := by kernel_rfl

theorem asAndLoad (v : Value) (w : World) : (Instr.typeAssert (.iface 117 v) 107 115 true).run Try.prog w = .ok (.tuple #[.agg #[.int .i64 0], .bool false]) w := by kernel_rfl

theorem asAndAnd (v : Value) (w : World) : (Instr.typeAssert (.iface 117 v) 107 117 true).run Try.prog w = .ok (.tuple #[v, .bool true]) w := by kernel_rfl

theorem asAndAsk (v : Value) (w : World) : (Instr.typeAssert (.iface 117 v) 107 119 true).run Try.prog w = .ok (.tuple #[.agg #[.int .i64 0, .int .i64 0, .int .i64 0, .int .i64 0], .bool false]) w := by kernel_rfl

theorem asAndJump (v : Value) (w : World) : (Instr.typeAssert (.iface 117 v) 107 121 true).run Try.prog w = .ok (.tuple #[.agg #[.int .i64 0], .bool false]) w := by kernel_rfl

theorem asAndRet (v : Value) (w : World) : (Instr.typeAssert (.iface 117 v) 107 123 true).run Try.prog w = .ok (.tuple #[.agg #[.int .i64 0], .bool false]) w := by kernel_rfl

theorem asAskLoad (v : Value) (w : World) : (Instr.typeAssert (.iface 119 v) 107 115 true).run Try.prog w = .ok (.tuple #[.agg #[.int .i64 0], .bool false]) w := by kernel_rfl

theorem asAskAnd (v : Value) (w : World) : (Instr.typeAssert (.iface 119 v) 107 117 true).run Try.prog w = .ok (.tuple #[.agg #[.int .i64 0], .bool false]) w := by kernel_rfl

theorem asAskAsk (v : Value) (w : World) : (Instr.typeAssert (.iface 119 v) 107 119 true).run Try.prog w = .ok (.tuple #[v, .bool true]) w := by kernel_rfl

theorem asAskJump (v : Value) (w : World) : (Instr.typeAssert (.iface 119 v) 107 121 true).run Try.prog w = .ok (.tuple #[.agg #[.int .i64 0], .bool false]) w := by kernel_rfl

theorem asAskRet (v : Value) (w : World) : (Instr.typeAssert (.iface 119 v) 107 123 true).run Try.prog w = .ok (.tuple #[.agg #[.int .i64 0], .bool false]) w := by kernel_rfl

theorem asJumpLoad (v : Value) (w : World) : (Instr.typeAssert (.iface 121 v) 107 115 true).run Try.prog w = .ok (.tuple #[.agg #[.int .i64 0], .bool false]) w := by kernel_rfl

theorem asJumpAnd (v : Value) (w : World) : (Instr.typeAssert (.iface 121 v) 107 117 true).run Try.prog w = .ok (.tuple #[.agg #[.int .i64 0], .bool false]) w := by kernel_rfl

theorem asJumpAsk (v : Value) (w : World) : (Instr.typeAssert (.iface 121 v) 107 119 true).run Try.prog w = .ok (.tuple #[.agg #[.int .i64 0, .int .i64 0, .int .i64 0, .int .i64 0], .bool false]) w := by kernel_rfl

theorem asJumpJump (v : Value) (w : World) : (Instr.typeAssert (.iface 121 v) 107 121 true).run Try.prog w = .ok (.tuple #[v, .bool true]) w := by kernel_rfl

theorem asJumpRet (v : Value) (w : World) : (Instr.typeAssert (.iface 121 v) 107 123 true).run Try.prog w = .ok (.tuple #[.agg #[.int .i64 0], .bool false]) w := by kernel_rfl

theorem asRetLoad (v : Value) (w : World) : (Instr.typeAssert (.iface 123 v) 107 115 true).run Try.prog w = .ok (.tuple #[.agg #[.int .i64 0], .bool false]) w := by kernel_rfl

theorem asRetAnd (v : Value) (w : World) : (Instr.typeAssert (.iface 123 v) 107 117 true).run Try.prog w = .ok (.tuple #[.agg #[.int .i64 0], .bool false]) w := by kernel_rfl

theorem asRetAsk (v : Value) (w : World) : (Instr.typeAssert (.iface 123 v) 107 119 true).run Try.prog w = .ok (.tuple #[.agg #[.int .i64 0, .int .i64 0, .int .i64 0, .int .i64 0], .bool false]) w := by kernel_rfl

theorem asRetJump (v : Value) (w : World) : (Instr.typeAssert (.iface 123 v) 107 121 true).run Try.prog w = .ok (.tuple #[.agg #[.int .i64 0], .bool false]) w := by kernel_rfl

theorem asRetRet (v : Value) (w : World) : (Instr.typeAssert (.iface 123 v) 107 123 true).run Try.prog w = .ok (.tuple #[v, .bool true]) w := by kernel_rfl

theorem insLoad_any (k : Int) (w : World) : Calls Try.prog 102 #[.agg #[.int .i64 k]] w fun e w' => e = .returned (.agg #[.int .i64 1, .int .i64 k, .int .i64 0, .int .i64 0]) ∧ Ext w w' := by
  go_enter Try.func102, Try.ntmps102
  go_wp2
  refine bodyPost_ret (v := .agg #[.int .i64 1, .int .i64 k, .int .i64 0, .int .i64 0]) (by simp [results, Try.results102, go_sem]) rfl ⟨rfl, ?_⟩
  exact ((Ext.one _ _).alloc _)

theorem insAnd_any (k : Int) (w : World) : Calls Try.prog 103 #[.agg #[.int .i64 k]] w fun e w' => e = .returned (.agg #[.int .i64 2, .int .i64 k, .int .i64 0, .int .i64 0]) ∧ Ext w w' := by
  go_enter Try.func103, Try.ntmps103
  go_wp2
  refine bodyPost_ret (v := .agg #[.int .i64 2, .int .i64 k, .int .i64 0, .int .i64 0]) (by simp [results, Try.results103, go_sem]) rfl ⟨rfl, ?_⟩
  exact ((Ext.one _ _).alloc _)

theorem insAsk_any (o k y n : Int) (w : World) : Calls Try.prog 104 #[.agg #[.int .i64 o, .int .i64 k, .int .i64 y, .int .i64 n]] w fun e w' => e = .returned (.agg #[.int .i64 o, .int .i64 k, .int .i64 y, .int .i64 n]) ∧ Ext w w' := by
  go_enter Try.func104, Try.ntmps104
  go_wp2
  refine bodyPost_ret (v := .agg #[.int .i64 o, .int .i64 k, .int .i64 y, .int .i64 n]) (by simp [results, Try.results104, go_sem]) rfl ⟨rfl, ?_⟩
  exact ((Ext.one _ _).alloc _)

theorem insJump_any (k : Int) (w : World) : Calls Try.prog 105 #[.agg #[.int .i64 k]] w fun e w' => e = .returned (.agg #[.int .i64 7, .int .i64 k, .int .i64 0, .int .i64 0]) ∧ Ext w w' := by
  go_enter Try.func105, Try.ntmps105
  go_wp2
  refine bodyPost_ret (v := .agg #[.int .i64 7, .int .i64 k, .int .i64 0, .int .i64 0]) (by simp [results, Try.results105, go_sem]) rfl ⟨rfl, ?_⟩
  exact ((Ext.one _ _).alloc _)

theorem insRet_any (k : Int) (w : World) : Calls Try.prog 106 #[.agg #[.int .i64 k]] w fun e w' => e = .returned (.agg #[.int .i64 8, .int .i64 k, .int .i64 0, .int .i64 0]) ∧ Ext w w' := by
  go_enter Try.func106, Try.ntmps106
  go_wp2
  refine bodyPost_ret (v := .agg #[.int .i64 8, .int .i64 k, .int .i64 0, .int .i64 0]) (by simp [results, Try.results106, go_sem]) rfl ⟨rfl, ?_⟩
  exact ((Ext.one _ _).alloc _)

theorem wordLoad_any (k y n : Int) (w : World) : Calls Try.prog 82 #[.agg #[.int .i64 1, .int .i64 k, .int .i64 y, .int .i64 n]] w fun e w' => e = .returned (.tuple #[.iface 115 (.agg #[.int .i64 k]), .bool true]) ∧ Ext w w' := by
  go_enter Try.func82, Try.ntmps82
  go_wp2
  refine bodyPost_ret (v := .tuple #[.iface 115 (.agg #[.int .i64 k]), .bool true]) (by simp [results, Try.results82, go_sem]) rfl ⟨rfl, ?_⟩
  exact Ext.one _ _

theorem wordAnd_any (k y n : Int) (w : World) : Calls Try.prog 82 #[.agg #[.int .i64 2, .int .i64 k, .int .i64 y, .int .i64 n]] w fun e w' => e = .returned (.tuple #[.iface 117 (.agg #[.int .i64 k]), .bool true]) ∧ Ext w w' := by
  go_enter Try.func82, Try.ntmps82
  go_wp2
  refine bodyPost_ret (v := .tuple #[.iface 117 (.agg #[.int .i64 k]), .bool true]) (by simp [results, Try.results82, go_sem]) rfl ⟨rfl, ?_⟩
  exact Ext.one _ _

theorem wordAsk3_any (k y n : Int) (w : World) : Calls Try.prog 82 #[.agg #[.int .i64 3, .int .i64 k, .int .i64 y, .int .i64 n]] w fun e w' => e = .returned (.tuple #[.iface 119 (.agg #[.int .i64 3, .int .i64 k, .int .i64 y, .int .i64 n]), .bool true]) ∧ Ext w w' := by
  go_enter Try.func82, Try.ntmps82
  go_wp2
  refine bodyPost_ret (v := .tuple #[.iface 119 (.agg #[.int .i64 3, .int .i64 k, .int .i64 y, .int .i64 n]), .bool true]) (by simp [results, Try.results82, go_sem]) rfl ⟨rfl, ?_⟩
  exact Ext.one _ _

theorem wordAsk4_any (k y n : Int) (w : World) : Calls Try.prog 82 #[.agg #[.int .i64 4, .int .i64 k, .int .i64 y, .int .i64 n]] w fun e w' => e = .returned (.tuple #[.iface 119 (.agg #[.int .i64 4, .int .i64 k, .int .i64 y, .int .i64 n]), .bool true]) ∧ Ext w w' := by
  go_enter Try.func82, Try.ntmps82
  go_wp2
  refine bodyPost_ret (v := .tuple #[.iface 119 (.agg #[.int .i64 4, .int .i64 k, .int .i64 y, .int .i64 n]), .bool true]) (by simp [results, Try.results82, go_sem]) rfl ⟨rfl, ?_⟩
  exact Ext.one _ _

theorem wordAsk5_any (k y n : Int) (w : World) : Calls Try.prog 82 #[.agg #[.int .i64 5, .int .i64 k, .int .i64 y, .int .i64 n]] w fun e w' => e = .returned (.tuple #[.iface 119 (.agg #[.int .i64 5, .int .i64 k, .int .i64 y, .int .i64 n]), .bool true]) ∧ Ext w w' := by
  go_enter Try.func82, Try.ntmps82
  go_wp2
  refine bodyPost_ret (v := .tuple #[.iface 119 (.agg #[.int .i64 5, .int .i64 k, .int .i64 y, .int .i64 n]), .bool true]) (by simp [results, Try.results82, go_sem]) rfl ⟨rfl, ?_⟩
  exact Ext.one _ _

theorem wordAsk6_any (k y n : Int) (w : World) : Calls Try.prog 82 #[.agg #[.int .i64 6, .int .i64 k, .int .i64 y, .int .i64 n]] w fun e w' => e = .returned (.tuple #[.iface 119 (.agg #[.int .i64 6, .int .i64 k, .int .i64 y, .int .i64 n]), .bool true]) ∧ Ext w w' := by
  go_enter Try.func82, Try.ntmps82
  go_wp2
  refine bodyPost_ret (v := .tuple #[.iface 119 (.agg #[.int .i64 6, .int .i64 k, .int .i64 y, .int .i64 n]), .bool true]) (by simp [results, Try.results82, go_sem]) rfl ⟨rfl, ?_⟩
  exact Ext.one _ _

theorem wordJump_any (k y n : Int) (w : World) : Calls Try.prog 82 #[.agg #[.int .i64 7, .int .i64 k, .int .i64 y, .int .i64 n]] w fun e w' => e = .returned (.tuple #[.iface 121 (.agg #[.int .i64 k]), .bool true]) ∧ Ext w w' := by
  go_enter Try.func82, Try.ntmps82
  go_wp2
  refine bodyPost_ret (v := .tuple #[.iface 121 (.agg #[.int .i64 k]), .bool true]) (by simp [results, Try.results82, go_sem]) rfl ⟨rfl, ?_⟩
  exact Ext.one _ _

theorem wordRet_any (k y n : Int) (w : World) : Calls Try.prog 82 #[.agg #[.int .i64 8, .int .i64 k, .int .i64 y, .int .i64 n]] w fun e w' => e = .returned (.tuple #[.iface 123 (.agg #[.int .i64 k]), .bool true]) ∧ Ext w w' := by
  go_enter Try.func82, Try.ntmps82
  go_wp2
  refine bodyPost_ret (v := .tuple #[.iface 123 (.agg #[.int .i64 k]), .bool true]) (by simp [results, Try.results82, go_sem]) rfl ⟨rfl, ?_⟩
  exact Ext.one _ _

theorem wordNone_any (o k y n : Int) (w : World) (h : inB o 1 8 = false) : Calls Try.prog 82 #[.agg #[.int .i64 o, .int .i64 k, .int .i64 y, .int .i64 n]] w fun e w' => e = .returned (.tuple #[.nilIface, .bool false]) ∧ Ext w w' := by
  rw [inB_false] at h
  have q1 : (o == 1) = false := by simp; omega
  have q2 : (o == 2) = false := by simp; omega
  have q3 : (o == 3) = false := by simp; omega
  have q4 : (o == 4) = false := by simp; omega
  have q5 : (o == 5) = false := by simp; omega
  have q6 : (o == 6) = false := by simp; omega
  have q7 : (o == 7) = false := by simp; omega
  have q8 : (o == 8) = false := by simp; omega
  clear h
  go_enter Try.func82, Try.ntmps82
  go_wp2
  refine bodyPost_ret (v := .tuple #[.nilIface, .bool false]) (by simp [results, Try.results82, go_sem]) rfl ⟨rfl, ?_⟩
  exact Ext.one _ _

set_option maxHeartbeats 800000 in
theorem fitLoad_any (k : Int) (w : World) : Calls Try.prog 83 #[.iface 115 (.agg #[.int .i64 k])] w fun e w' => e = .returned (.bool (inB k 0 7)) ∧ Ext w w' := by
  have aLoad := asLoadLoad
  have aAnd := asLoadAnd
  have aAsk := asLoadAsk
  have aJump := asLoadJump
  have aRet := asLoadRet
  have HB : Hid (inB k 0 7 = (decide (0 ≤ k) && decide (k ≤ 7))) := rfl
  by_cases h0 : 0 ≤ k
  · by_cases h1 : k < 8
    · go_enter Try.func83, Try.ntmps83
      go_wp2
      go_ret
      exact ⟨by rw [HB.out, decide_eq_true (show 0 ≤ k by omega), decide_eq_true (show k ≤ 7 by omega)]; simp; try omega, Ext.one _ _⟩
    · go_enter Try.func83, Try.ntmps83
      go_wp2
      go_ret
      exact ⟨by rw [HB.out, decide_eq_true (show 0 ≤ k by omega), decide_eq_false (show ¬ k ≤ 7 by omega)]; simp; try omega, Ext.one _ _⟩
  · go_enter Try.func83, Try.ntmps83
    go_wp2
    go_ret
    exact ⟨by rw [HB.out, decide_eq_false (show ¬ 0 ≤ k by omega)]; simp, Ext.one _ _⟩

set_option maxHeartbeats 800000 in
theorem fitAnd_any (k : Int) (w : World) : Calls Try.prog 83 #[.iface 117 (.agg #[.int .i64 k])] w fun e w' => e = .returned (.bool (inB k 0 4294967295)) ∧ Ext w w' := by
  have aLoad := asAndLoad
  have aAnd := asAndAnd
  have aAsk := asAndAsk
  have aJump := asAndJump
  have aRet := asAndRet
  go_enter Try.func83, Try.ntmps83
  go_wp2_with (go_at_call 85; refine (iHalf_any _ _).mono ?_; rintro e w' ⟨rfl, rfl⟩)
  go_ret
  exact ⟨rfl, Ext.one _ _⟩

set_option maxHeartbeats 800000 in
theorem fitAsk_any (o k y n : Int) (w : World) : Calls Try.prog 83 #[.iface 119 (.agg #[.int .i64 o, .int .i64 k, .int .i64 y, .int .i64 n])] w fun e w' => e = .returned (.bool (inB k 0 4294967295 && inB y 0 15 && inB n 0 15)) ∧ Ext w w' := by
  have aLoad := asAskLoad
  have aAnd := asAskAnd
  have aAsk := asAskAsk
  have aJump := asAskJump
  have aRet := asAskRet
  cases h0 : inB k 0 4294967295
  · go_enter Try.func83, Try.ntmps83
    go_wp2_with (first | (go_at_call 85; refine (iHalf_any _ _).mono ?_; rintro e w' ⟨rfl, rfl⟩) | (go_at_call 86; refine (way_any _ _).mono ?_; rintro e w' ⟨rfl, rfl⟩))
    go_ret
    exact ⟨by simp, Ext.one _ _⟩
  · cases h1 : inB y 0 15
    · go_enter Try.func83, Try.ntmps83
      go_wp2_with (first | (go_at_call 85; refine (iHalf_any _ _).mono ?_; rintro e w' ⟨rfl, rfl⟩) | (go_at_call 86; refine (way_any _ _).mono ?_; rintro e w' ⟨rfl, rfl⟩))
      go_ret
      exact ⟨by simp, Ext.one _ _⟩
    · go_enter Try.func83, Try.ntmps83
      go_wp2_with (first | (go_at_call 85; refine (iHalf_any _ _).mono ?_; rintro e w' ⟨rfl, rfl⟩) | (go_at_call 86; refine (way_any _ _).mono ?_; rintro e w' ⟨rfl, rfl⟩))
      go_ret
      exact ⟨by simp, Ext.one _ _⟩

set_option maxHeartbeats 800000 in
theorem fitJump_any (k : Int) (w : World) : Calls Try.prog 83 #[.iface 121 (.agg #[.int .i64 k])] w fun e w' => e = .returned (.bool (inB k 0 399)) ∧ Ext w w' := by
  have aLoad := asJumpLoad
  have aAnd := asJumpAnd
  have aAsk := asJumpAsk
  have aJump := asJumpJump
  have aRet := asJumpRet
  have HB : Hid (inB k 0 399 = (decide (0 ≤ k) && decide (k ≤ 399))) := rfl
  by_cases h0 : 0 ≤ k
  · by_cases h1 : k < 400
    · go_enter Try.func83, Try.ntmps83
      go_wp2
      go_ret
      exact ⟨by rw [HB.out, decide_eq_true (show 0 ≤ k by omega), decide_eq_true (show k ≤ 399 by omega)]; simp; try omega, Ext.one _ _⟩
    · go_enter Try.func83, Try.ntmps83
      go_wp2
      go_ret
      exact ⟨by rw [HB.out, decide_eq_true (show 0 ≤ k by omega), decide_eq_false (show ¬ k ≤ 399 by omega)]; simp; try omega, Ext.one _ _⟩
  · go_enter Try.func83, Try.ntmps83
    go_wp2
    go_ret
    exact ⟨by rw [HB.out, decide_eq_false (show ¬ 0 ≤ k by omega)]; simp, Ext.one _ _⟩

set_option maxHeartbeats 800000 in
theorem fitRet_any (k : Int) (w : World) : Calls Try.prog 83 #[.iface 123 (.agg #[.int .i64 k])] w fun e w' => e = .returned (.bool (inB k 0 4294967295)) ∧ Ext w w' := by
  have aLoad := asRetLoad
  have aAnd := asRetAnd
  have aAsk := asRetAsk
  have aJump := asRetJump
  have aRet := asRetRet
  go_enter Try.func83, Try.ntmps83
  go_wp2_with (go_at_call 85; refine (iHalf_any _ _).mono ?_; rintro e w' ⟨rfl, rfl⟩)
  go_ret
  exact ⟨rfl, Ext.one _ _⟩

end Go.Proofs.Ytakcmiijnckaaaa
