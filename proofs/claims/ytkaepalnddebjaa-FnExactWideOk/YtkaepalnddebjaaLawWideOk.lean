/- Proved: at every wide number the law FnExactWideOk answers true, so impl.WideOk answers as spec.WideOk; no condition. -/
import Derived.Test.YtkaepalnddebjaaToWide
import Derived.Test.YtkaepalnddebjaaOpenWide
import Derived.WalkKit
import Derived.ProofKit
import Derived.OpenShut
import Derived.ShutString
import Derived.ChangeOld
import Derived.Below
namespace Go.Proofs.Ytkaepalnddebjaa.WideOk
open Go.ChangeShapes Go.WideShapes Go.ChangeAt Go.RowKit
open Go.ChangeMaps (open_string shut_string)
set_option linter.unusedVariables false

theorem own : ownKnob Try.prog.godebug = none := by kernel_rfl
theorem laidOut : laidOutB Try.prog = true := by kernel_rfl

set_option maxHeartbeats 800000 in
theorem walk (a b : Int) (w : World) : Calls Try.prog 6 #[.agg #[.int .i64 a, .int .i64 b]] w fun e w' => e = .returned (.bool true) ∧ Below w.heap.size w w' := by
  obtain ⟨W, hW⟩ : ∃ W, W = w.alloc (.cells #[.int .i64 a, .int .i64 b] 42) := ⟨_, rfl⟩
  have sz : Hid (W.heap.size = w.heap.size + 1) := by unfold Hid; rw [hW]; simp
  have bel : Hid (Below w.heap.size w W) := by rw [hW]; exact (Below.refl _ _).alloc (Nat.le_refl _) _
  go_enter Try.func6, Try.ntmps6
  go_wp2_with fail
  refine (toWide_any a b _).mono ?_
  rintro e w1 ⟨rfl, hb1⟩
  have h1 : Hid (Below W.heap.size W w1) := by rw [hW]; exact hb1
  have s1 : w.heap.size < w1.heap.size := by have := h1.out.size; rw [sz.out] at this; omega
  have c1 := (bcell hb1).1
  clear hb1
  go_wp2_with fail
  refine (sWide_any a b _).mono ?_
  rintro e w2 ⟨rfl, hb2⟩
  have h2 : Hid (Below w1.heap.size w1 w2) := hb2
  have s2 : w.heap.size < w2.heap.size := by have := h2.out.size; omega
  have c2 := (bcell hb2).1
  clear hb2
  go_wp2_with fail
  refine (toWide_any a b _).mono ?_
  rintro e w3 ⟨rfl, hb3⟩
  have h3 : Hid (Below w2.heap.size w2 w3) := hb3
  clear hb3
  go_wp2_with fail
  refine (iWide_any a b _).mono ?_
  rintro e w4 ⟨rfl, hb4⟩
  have h4 : Hid (Below w3.heap.size w3 w4) := hb4
  clear hb4 c1 c2
  have bF : Hid (Below w.heap.size w w4) := by
    have z2 := h2.out.size
    have z3 := h3.out.size
    exact (((bel.out.trans (h1.out.mono (by rw [sz.out]; omega))).trans (h2.out.mono (by omega))).trans (h3.out.mono (by omega))).trans (h4.out.mono (by omega))
  go_wp2
  go_ret
  exact ⟨rfl, bF.out⟩

set_option maxRecDepth 100000 in
theorem lifted (os : Os) (started : os.Started) (H : Type) (enc : TypeId × Value → H) :
    ReturnsInHanded {} Try.checked os 6 .any (Rows.fnExactWideOkSpec.pre6 enc Try.prog Try.f6 Rows.fnExactWideOkRow.domain false) (Rows.fnExactWideOkSpec.post enc Try.prog Try.f6 false true false false) := by
  refine returnsInHanded_of_change (C := Try.checked) own started (by kernel_rfl) Try.func6
    (ChangeSpec.witness6 (enc := enc) (C := Try.checked) false ⟨#[], #[.agg #[.int .i64 0, .int .i64 0]], []⟩ 8 (by kernel_rfl) (by kernel_rfl) (by kernel_rfl) (by kernel_rfl)) ?_
  intro W base args ds gs before hval0 hW hcnd _
  have hval : ∀ (j : Nat) t v, Try.f6.params[j]? = some t → args[j]? = some v → Value.okWide Try.prog W .any base t v := hval0
  have hW' := hW
  obtain ⟨p, q, hA0, hV, rfl, hfz, hnd⟩ := hW
  have hA : DataW.TrodAll enc Try.prog W 0 (fun _ => true) true Try.f6.params.toList args.toList ds p := hA0
  rw [Try.params6] at hA hval
  obtain ⟨v0, vs0, d0, ds0, p0, q0, hargs, rfl, rfl, h0, r0⟩ := trodAll_cons hA
  obtain ⟨rfl, rfl, rfl⟩ := trodAll_nil r0
  obtain rfl : args = #[v0] := by cases args; simp_all
  obtain ⟨rfl, rfl⟩ := trodVars_none hV
  have lt0 : ∀ x ∈ p0, x.block < W.heap.size := by obtain ⟨m, hm⟩ := h0; exact DataW.trod_lt m _ _ _ hm
  obtain ⟨a0, b0, rfl⟩ := open_wide (hval 0 42 v0 rfl rfl) h0
  clear hA0 hval0
  refine (walk a0 b0 W ).mono fun e W' ⟨he, bel⟩ => ?_
  subst he
  exact ⟨_, rfl, _, _, _, [], _, [], hW', trodAll_mk1 (shut_bool Try.underlying4 _), (trodAll_cons_mk (Below.trod laidOut (by kernel_rfl) (of_decide_eq_true (by kernel_rfl)) h0 bel lt0) trodAll_mk0), rfl, bel.frame _, fun h => by cases h⟩

end Go.Proofs.Ytkaepalnddebjaa.WideOk
namespace Go.Proofs.Ytkaepalnddebjaa
open Go.ChangeShapes Go.WideShapes Go.ChangeAt Go.RowKit

theorem wideOk : Rows.FnExactWideOkSaid :=
  OpenClaim.holds_of_wide 6 Try.f6 rfl rfl rfl rfl rfl rfl rfl ⟨rfl, rfl, rfl, rfl, rfl⟩ rfl rfl rfl rfl rfl (by kernel_rfl) Try.func6 (by kernel_rfl)
    (of_decide_eq_true (by kernel_rfl)) (by unfold Func.isWrapper; first | (rw [if_pos (by decide +kernel)]; kernel_rfl) | (rw [if_neg (by decide +kernel)]; exact ⟨rfl, rfl⟩))
    (fun os started H enc _ => WideOk.lifted os started H enc)
#print axioms wideOk
end Go.Proofs.Ytkaepalnddebjaa
