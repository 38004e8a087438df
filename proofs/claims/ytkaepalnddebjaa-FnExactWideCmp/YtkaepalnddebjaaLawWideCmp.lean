/- Proved: at every two wide numbers the law FnExactWideCmp answers true, so impl.WideCmp answers as spec.WideCmp; no condition. -/
import Derived.Test.YtkaepalnddebjaaToWide
import Derived.Test.YtkaepalnddebjaaOpenWide
import Derived.WalkKit
import Derived.ProofKit
import Derived.OpenShut
import Derived.ShutString
import Derived.ChangeOld
import Derived.Below
import Derived.Deep.RegionHeld3
import Derived.Deep.RegionWith
namespace Go.Proofs.Ytkaepalnddebjaa.WideCmp
open Go.ChangeShapes Go.WideShapes Go.ChangeAt Go.RowKit
open Go.ChangeMaps (open_string shut_string)
set_option linter.unusedVariables false

theorem own : ownKnob Try.prog.godebug = none := by kernel_rfl
theorem laidOut : laidOutB Try.prog = true := by kernel_rfl

set_option maxRecDepth 100000 in
set_option maxHeartbeats 1600000 in
theorem walk (a b c d : Int) (w : World) : Calls Try.prog 8 #[.agg #[.int .i64 a, .int .i64 b], .agg #[.int .i64 c, .int .i64 d]] w fun e w' => e = .returned (.bool true) ∧ Below w.heap.size w w' := by
  obtain ⟨w0, hW⟩ : ∃ w0, w0 = (w.alloc (.cells #[.int .i64 a, .int .i64 b] 42)).alloc (.cells #[.int .i64 c, .int .i64 d] 42) := ⟨_, rfl⟩
  have sz : Hid (w0.heap.size = w.heap.size + 1 + 1) := by unfold Hid; rw [hW]; simp
  have bel : Hid (Below w.heap.size w w0) := by rw [hW]; exact ((Below.refl _ _).alloc (Nat.le_refl _) _).alloc (by simp) _
  have q0 := two_new w a b c d w.heap.size rfl 42
  rw [← hW] at q0
  have z0 : w.heap.size + 1 < w0.heap.size := by rw [sz.out]; omega
  go_enter Try.func8, Try.ntmps8
  go_wp2_with fail
  rw [← hW]
  clear hW
  have q0d : w0.drew.cell? ⟨w.heap.size, 0, none⟩ = some (.int .i64 a) ∧ w0.drew.cell? ⟨w.heap.size, 1, none⟩ = some (.int .i64 b) ∧ w0.drew.cell? ⟨w.heap.size + 1, 0, none⟩ = some (.int .i64 c) ∧ w0.drew.cell? ⟨w.heap.size + 1, 1, none⟩ = some (.int .i64 d) := q0
  have z0d : w.heap.size + 1 < w0.drew.heap.size := z0
  clear q0 z0
  go_region_held3 (fun w' => w'.cell? ⟨w.heap.size, 0, none⟩ = some (.int .i64 a) ∧ w'.cell? ⟨w.heap.size, 1, none⟩ = some (.int .i64 b) ∧ w'.cell? ⟨w.heap.size + 1, 0, none⟩ = some (.int .i64 c) ∧ w'.cell? ⟨w.heap.size + 1, 1, none⟩ = some (.int .i64 d)) (assumption) (first | (go_at_call_of 27 (Value.agg #[.int .i64 a, .int .i64 b]); refine (toWide_any a b _).mono ?_; rintro e w1 ⟨rfl, hb1⟩; have q1 := two_below q0d hb1 z0d; have z1 := Nat.lt_of_lt_of_le z0d hb1.size) | (go_at_call_of 27 (Value.agg #[.int .i64 c, .int .i64 d]); refine (toWide_any c d _).mono ?_; rintro e w2 ⟨rfl, hb2⟩; have q2 := two_below q1 hb2 z1; have z2 := Nat.lt_of_lt_of_le z1 hb2.size) | (go_at_call 14; refine (sCmp_any a b c d _).mono ?_; rintro e w3 ⟨rfl, hb3⟩; have q3 := two_below q2 hb3 z2; have z3 := Nat.lt_of_lt_of_le z2 hb3.size))
  have b3 : Hid (Below w.heap.size w w3) := ((bel.out.drew.trans (hb1.mono (by omega))).trans (hb2.mono (by omega))).trans (hb3.mono (by omega))
  clear hb1 hb2 hb3 q0d q1 q2 z0d z1 z2
  go_wp2_with fail
  have q3d : w3.drew.cell? ⟨w.heap.size, 0, none⟩ = some (.int .i64 a) ∧ w3.drew.cell? ⟨w.heap.size, 1, none⟩ = some (.int .i64 b) ∧ w3.drew.cell? ⟨w.heap.size + 1, 0, none⟩ = some (.int .i64 c) ∧ w3.drew.cell? ⟨w.heap.size + 1, 1, none⟩ = some (.int .i64 d) := q3
  have z3d : w.heap.size + 1 < w3.drew.heap.size := z3
  clear q3 z3
  go_region_held3 (fun w' => w'.cell? ⟨w.heap.size, 0, none⟩ = some (.int .i64 a) ∧ w'.cell? ⟨w.heap.size, 1, none⟩ = some (.int .i64 b) ∧ w'.cell? ⟨w.heap.size + 1, 0, none⟩ = some (.int .i64 c) ∧ w'.cell? ⟨w.heap.size + 1, 1, none⟩ = some (.int .i64 d)) (assumption) (first | (go_at_call_of 27 (Value.agg #[.int .i64 a, .int .i64 b]); refine (toWide_any a b _).mono ?_; rintro e w4 ⟨rfl, hb4⟩; have q4 := two_below q3d hb4 z3d; have z4 := Nat.lt_of_lt_of_le z3d hb4.size) | (go_at_call_of 27 (Value.agg #[.int .i64 c, .int .i64 d]); refine (toWide_any c d _).mono ?_; rintro e w5 ⟨rfl, hb5⟩; have q5 := two_below q4 hb5 z4; have z5 := Nat.lt_of_lt_of_le z4 hb5.size) | (go_at_call 11; refine (iCmp_any a b c d _).mono ?_; rintro e w6 ⟨rfl, hb6⟩; have q6 := two_below q5 hb6 z5; have z6 := Nat.lt_of_lt_of_le z5 hb6.size))
  have b6 : Hid (Below w.heap.size w w6) := ((b3.out.drew.trans (hb4.mono (by omega))).trans (hb5.mono (by omega))).trans (hb6.mono (by omega))
  clear hb4 hb5 hb6 q3d q4 q5 q6 z3d z4 z5 z6
  go_wp2
  go_ret
  exact ⟨rfl, b6.out⟩

set_option maxRecDepth 100000 in
theorem lifted (os : Os) (started : os.Started) (H : Type) (enc : TypeId × Value → H) :
    ReturnsInHanded {} Try.checked os 8 .any (Rows.fnExactWideCmpSpec.pre6 enc Try.prog Try.f8 Rows.fnExactWideCmpRow.domain false) (Rows.fnExactWideCmpSpec.post enc Try.prog Try.f8 false true false false) := by
  refine returnsInHanded_of_change (C := Try.checked) own started (by kernel_rfl) Try.func8
    (ChangeSpec.witness6 (enc := enc) (C := Try.checked) false ⟨#[], #[.agg #[.int .i64 0, .int .i64 0], .agg #[.int .i64 0, .int .i64 0]], []⟩ 8 (by kernel_rfl) (by kernel_rfl) (by kernel_rfl) (by kernel_rfl)) ?_
  intro W base args ds gs before hval0 hW hcnd _
  have hval : ∀ (j : Nat) t v, Try.f8.params[j]? = some t → args[j]? = some v → Value.okWide Try.prog W .any base t v := hval0
  have hW' := hW
  obtain ⟨p, q, hA0, hV, rfl, hfz, hnd⟩ := hW
  have hA : DataW.TrodAll enc Try.prog W 0 (fun _ => true) true Try.f8.params.toList args.toList ds p := hA0
  rw [Try.params8] at hA hval
  obtain ⟨v0, vs0, d0, ds0, p0, q0, hargs, rfl, rfl, h0, r0⟩ := trodAll_cons hA
  obtain ⟨v1, vs1, d1, ds1, p1, q1, rfl, rfl, rfl, h1, r1⟩ := trodAll_cons r0
  obtain ⟨rfl, rfl, rfl⟩ := trodAll_nil r1
  obtain rfl : args = #[v0, v1] := by cases args; simp_all
  obtain ⟨rfl, rfl⟩ := trodVars_none hV
  have lt0 : ∀ x ∈ p0, x.block < W.heap.size := by obtain ⟨m, hm⟩ := h0; exact DataW.trod_lt m _ _ _ hm
  obtain ⟨a0, b0, rfl⟩ := open_wide (hval 0 42 v0 rfl rfl) h0
  have lt1 : ∀ x ∈ p1, x.block < W.heap.size := by obtain ⟨m, hm⟩ := h1; exact DataW.trod_lt m _ _ _ hm
  obtain ⟨a1, b1, rfl⟩ := open_wide (hval 1 42 v1 rfl rfl) h1
  clear hA0 hval0
  refine (walk a0 b0 a1 b1 W ).mono fun e W' ⟨he, bel⟩ => ?_
  subst he
  exact ⟨_, rfl, _, _, _, [], _, [], hW', trodAll_mk1 (shut_bool Try.underlying4 _), (trodAll_cons_mk (Below.trod laidOut (by kernel_rfl) (of_decide_eq_true (by kernel_rfl)) h0 bel lt0) (trodAll_cons_mk (Below.trod laidOut (by kernel_rfl) (of_decide_eq_true (by kernel_rfl)) h1 bel lt1) trodAll_mk0)), rfl, bel.frame _, fun h => by cases h⟩

end Go.Proofs.Ytkaepalnddebjaa.WideCmp
namespace Go.Proofs.Ytkaepalnddebjaa
open Go.ChangeShapes Go.WideShapes Go.ChangeAt Go.RowKit

theorem wideCmp : Rows.FnExactWideCmpSaid :=
  OpenClaim.holds_of_wide 8 Try.f8 rfl rfl rfl rfl rfl rfl rfl ⟨rfl, rfl, rfl, rfl, rfl⟩ rfl rfl rfl rfl rfl (by kernel_rfl) Try.func8 (by kernel_rfl)
    (of_decide_eq_true (by kernel_rfl)) (by unfold Func.isWrapper; first | (rw [if_pos (by decide +kernel)]; kernel_rfl) | (rw [if_neg (by decide +kernel)]; exact ⟨rfl, rfl⟩))
    (fun os started H enc _ => WideCmp.lifted os started H enc)
#print axioms wideCmp
end Go.Proofs.Ytkaepalnddebjaa
