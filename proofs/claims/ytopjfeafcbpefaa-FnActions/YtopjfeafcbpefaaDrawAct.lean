/- What the draws of chapter 5 answer: numbers of 64 bits. -/
import Derived.Test.YtopjfeafcbpefaaBlks
import Derived.Test.YtopjfeafcbpefaaActIS
namespace Go.Proofs.Ytopjfeafcbpefaa
open Go.RowKit
set_option linter.unusedVariables false

theorem resV_I64 (a d : Int) : I64 (resV a d) := by
  unfold resV
  cases h : inB a 0 5
  · exact ⟨by simp, by simp⟩
  · cases k : inB d 0 65535
    · exact ⟨by simp, by simp⟩
    · rw [inB_true] at h k
      exact ⟨by simp; omega, by simp; omega⟩

set_option maxRecDepth 100000 in
set_option maxHeartbeats 1000000 in
theorem drawStricter_any (a : Option Addr) (len cap : Nat) (w : World) (hC : Came w a len) :
    Calls Try.prog 9 #[.slice a len cap] w fun e w' => ∃ x y : Int, I64 x ∧ I64 y ∧ e = .returned (.tuple #[.int .i64 x, .int .i64 y]) ∧ Ext w w' := by
  go_enter Try.func9, Try.ntmps9
  go_wp2_with fail
  refine (new_any a len cap _ hC).mono ?_
  rintro e w1 ⟨rfl, hc1, hb1⟩
  clear hC
  go_wp2_with fail
  refine (below_any 6 _ a len cap _ hc1 (by omega)).mono ?_
  rintro e w2 ⟨x1, _, _, _, rfl, hc2, hg2⟩
  have hb2 := below_new hb1 hg2
  clear hc1 hb1 hg2
  go_wp2_with fail
  refine (below_any 5 _ a len cap _ hc2 (by omega)).mono ?_
  rintro e w3 ⟨x2, _, _, _, rfl, hc3, hg3⟩
  have hb3 := below_new hb2 hg3
  clear hc2 hb2 hg3
  go_wp2_with fail
  refine (sResultOf_any _ _ _).mono ?_
  rintro e w' ⟨rfl, rfl⟩
  go_wp2_with fail
  refine (below_any 6 _ a len cap _ hc3 (by omega)).mono ?_
  rintro e w4 ⟨x3, _, _, _, rfl, hc4, hg4⟩
  have hb4 := below_new hb3 hg4
  clear hc3 hb3 hg4
  go_wp2_with fail
  refine (below_any 5 _ a len cap _ hc4 (by omega)).mono ?_
  rintro e w5 ⟨x4, _, _, _, rfl, hc5, hg5⟩
  have hb5 := below_new hb4 hg5
  clear hc4 hb4 hg5
  go_wp2_with fail
  refine (sResultOf_any _ _ _).mono ?_
  rintro e w' ⟨rfl, rfl⟩
  have i1 : Hid (I64 (resV x1 x2)) := resV_I64 _ _
  have i2 : Hid (I64 (resV x3 x4)) := resV_I64 _ _
  generalize resV x1 x2 = y1 at *
  generalize resV x3 x4 = y2 at *
  go_wp2_with fail
  refine (once_any 8 _ a len cap _ hc5 (by omega)).mono ?_
  rintro e w6 ⟨b, rfl, hc6, hg6⟩
  have HB : Hid (Ext w w6) := below_new hb5 hg6
  clear hc5 hb5 hg6 hc6
  cases b
  · go_wp2
    refine bodyPost_ret (v := .tuple #[.int .i64 y1, .int .i64 y2]) (by simp [results, Try.results9, go_sem]) rfl ⟨y1, y2, i1.out, i2.out, rfl, HB.out⟩
  · go_wp2
    refine bodyPost_ret (v := .tuple #[.int .i64 y1, .int .i64 (-1)]) (by simp [results, Try.results9, go_sem]) rfl ⟨y1, -1, i1.out, ⟨by omega, by omega⟩, rfl, HB.out⟩

set_option maxRecDepth 100000 in
set_option maxHeartbeats 1000000 in
theorem drawResultOf_any (a : Option Addr) (len cap : Nat) (w : World) (hC : Came w a len) :
    Calls Try.prog 11 #[.slice a len cap] w fun e w' => ∃ x y : Int, e = .returned (.tuple #[.int .i64 x, .int .i64 y]) ∧ Ext w w' := by
  go_enter Try.func11, Try.ntmps11
  go_wp2_with fail
  refine (new_any a len cap _ hC).mono ?_
  rintro e w1 ⟨rfl, hc1, hb1⟩
  clear hC
  go_wp2_with fail
  refine (below_any 8 _ a len cap _ hc1 (by omega)).mono ?_
  rintro e w2 ⟨x1, h8, _, _, rfl, hc2, hg2⟩
  have HB2 : Hid (Ext w w2) := below_new hb1 hg2
  have x8 := h8 (by omega)
  have hp := hc2.lt
  clear hc1 hb1 hg2 h8
  have HC2 : Hid (Cur w2 w.heap.size a len cap) := hc2
  clear hc2
  go_wp2_with fail
  refine (pick_list [0, 1, 13, 65535, 65536, -1] _ w.heap.size a len cap _ (HC2.out.alloc _) (Blk.new _ _ _) (by omega) (by simp) (by simp)).mono ?_
  rintro e w3 ⟨z, _, rfl, hc3, hg3⟩
  have HB : Hid (Ext w w3) := below_new (HB2.out.alloc _) hg3
  clear hc3 hg3
  go_wp2
  refine bodyPost_ret (v := .tuple #[.int .i64 ((x1 : Int) - 1), .int .i64 z]) (by simp [results, Try.results11, go_sem]) rfl ⟨_, z, rfl, HB.out⟩

set_option maxRecDepth 100000 in
set_option maxHeartbeats 1000000 in
theorem drawActionIn_any (a : Option Addr) (len cap : Nat) (w : World) (hC : Came w a len) :
    Calls Try.prog 13 #[.slice a len cap] w fun e w' => ∃ x : Int, I64 x ∧ e = .returned (.int .i64 x) ∧ Ext w w' := by
  go_enter Try.func13, Try.ntmps13
  go_wp2_with fail
  refine (new_any a len cap _ hC).mono ?_
  rintro e w1 ⟨rfl, hc1, hb1⟩
  have HB1 : Hid (Ext w w1) := hb1
  have hp := hc1.lt
  have HC1 : Hid (Cur w1 w.heap.size a len cap) := hc1
  clear hC hc1 hb1
  go_wp2_with fail
  refine (pick_list [0, 65535, 65536, 327680, 393215, 393216, -1, 262150] _ w.heap.size a len cap _ (HC1.out.alloc _) (Blk.new _ _ _) (by omega) (by simp) (by simp)).mono ?_
  rintro e w3 ⟨z, hz, rfl, hc3, hg3⟩
  have HB : Hid (Ext w w3) := below_new (HB1.out.alloc _) hg3
  have HZ : Hid (I64 z) := by
    simp only [List.mem_cons, List.not_mem_nil, or_false] at hz
    exact ⟨by omega, by omega⟩
  clear hc3 hg3 hz
  go_wp2
  go_ret
  exact ⟨z, HZ.out, rfl, HB.out⟩

theorem drawActionName_any (a : Option Addr) (len cap : Nat) (w : World) (hC : Came w a len) :
    Calls Try.prog 14 #[.slice a len cap] w fun e w' => ∃ x : Int, e = .returned (.int .i64 x) ∧ Ext w w' := by
  go_enter Try.func14, Try.ntmps14
  go_wp2_with fail
  refine (new_any a len cap _ hC).mono ?_
  rintro e w1 ⟨rfl, hc1, hb1⟩
  clear hC
  go_wp2_with fail
  refine (below_any 8 _ a len cap _ hc1 (by omega)).mono ?_
  rintro e w2 ⟨x1, h8, _, _, rfl, hc2, hg2⟩
  have HB2 : Hid (Ext w w2) := below_new hb1 hg2
  have x8 := h8 (by omega)
  clear hc1 hb1 hg2 h8
  go_wp2
  go_ret
  exact ⟨_, rfl, HB2.out⟩

end Go.Proofs.Ytopjfeafcbpefaa
