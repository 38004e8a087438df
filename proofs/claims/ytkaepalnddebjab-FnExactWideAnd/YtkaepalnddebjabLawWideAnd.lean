/- Proved: at every two wide numbers the law FnExactWideAnd answers true, so impl.WideAnd answers as spec.WideAnd; no condition. -/
import Derived.Test.YtkaepalnddebjabToWide
import Derived.Test.YtkaepalnddebjabOpenWide
import Derived.Test.YtkaepalnddebjabLoose
import Derived.WalkKit
import Derived.ProofKit
import Derived.OpenShut
import Derived.ShutString
import Derived.ChangeOld
import Derived.Below
import Derived.Deep.RegionHeld3
import Derived.Deep.RegionWith
namespace Go.Proofs.Ytkaepalnddebjab.WideAnd
open Go.ChangeShapes Go.WideShapes Go.ChangeAt Go.RowKit
open Go.ChangeMaps (open_string shut_string)
set_option linter.unusedVariables false

theorem own : ownKnob Try.prog.godebug = none := by kernel_rfl
theorem laidOut : laidOutB Try.prog = true := by kernel_rfl

set_option maxRecDepth 100000 in
set_option maxHeartbeats 1600000 in
theorem walk (a b c d : Int) (w : World) : Calls Try.prog 3 #[.agg #[.int .i64 a, .int .i64 b], .agg #[.int .i64 c, .int .i64 d]] w fun e w' => e = .returned (.bool true) ∧ Below w.heap.size w w' := by
  obtain ⟨w0, hW⟩ : ∃ w0, w0 = (w.alloc (.cells #[.int .i64 a, .int .i64 b] 23)).alloc (.cells #[.int .i64 c, .int .i64 d] 23) := ⟨_, rfl⟩
  have i0 : Inv w a b c d w0 := by rw [hW]; exact Inv.new w a b c d 23
  go_enter Try.func3, Try.ntmps3
  go_wp2_with fail
  rw [← hW]
  clear hW
  refine' wp_region_loose_tail 6 [.inl _, .inl _, .inl _, .inl _, .inl _, .inr (fun v w' => ∃ g, v = .pointer (some ⟨g, 0, none⟩) ∧ w.heap.size + 1 < g ∧ Box w' g 0 0)] (fun w' => Inv w a b c d w') (by kernel_rfl) (by kernel_rfl) (Inv.drew i0) (fun _ _ h hE => h.step hE) ?hAa ?hla ?hMa
  case' hMa => skip
  simp only [List.take_succ_cons, List.take_zero, List.drop_succ_cons, List.drop_zero]
  apply wpLoose_val rfl rfl
  case hs =>
    intro w1 hC hd Q1 hQ1
    obtain ⟨hE, hS⟩ := hC
    obtain ⟨q1, q2, q3, q4⟩ := hS.s
    clear hd hS hE
    go_wp2
    exact Ext.refl _
  case ha => rfl
  apply wpLoose_val rfl rfl
  case hs =>
    intro w1 hC hd Q1 hQ1
    obtain ⟨hE, hS⟩ := hC
    clear hd
    go_wp2_with fail
    refine (toWide_any a b _).mono ?_
    rintro e w2 ⟨rfl, hb⟩
    go_wp2_with fail
    exact hb
  case ha => rfl
  apply wpLoose_val rfl rfl
  case hs =>
    intro w1 hC hd Q1 hQ1
    obtain ⟨hE, hS⟩ := hC
    obtain ⟨q1, q2, q3, q4⟩ := hS.s
    clear hd hS hE
    go_wp2
    exact Ext.refl _
  case ha => rfl
  apply wpLoose_val rfl rfl
  case hs =>
    intro w1 hC hd Q1 hQ1
    obtain ⟨hE, hS⟩ := hC
    clear hd
    go_wp2_with fail
    refine (toWide_any c d _).mono ?_
    rintro e w2 ⟨rfl, hb⟩
    go_wp2_with fail
    exact hb
  case ha => rfl
  apply wpLoose_val rfl rfl
  case hs =>
    intro w1 hC hd Q1 hQ1
    obtain ⟨hE, hS⟩ := hC
    clear hd
    go_wp2_with fail
    refine (sAnd_any a b c d _).mono ?_
    rintro e w2 ⟨rfl, hb⟩
    go_wp2_with fail
    exact hb
  case ha => rfl
  refine wpLoose_rel rfl rfl ?_ (fun va_5 => ?_)
  · intro w1 hC hd Q1 hQ1
    obtain ⟨hE, hS⟩ := hC
    have hz := hS.2.1
    clear hd hS hE
    go_wp2
    exact hQ1 _ _ ((Below.refl _ _).alloc (Nat.le_refl _) _) ⟨_, rfl, hz, Box.new _ _ _ _⟩
  refine wpLoose_nil ?_
  intro wa hEa hSa hFa
  obtain ⟨g, rfl, hg, bx⟩ := hFa 5 _ rfl (by decide) (by simp [Act.put])
  have b1 : Box ((wa.setCell ⟨g, 0, none⟩ (.int .i64 (andW (a, b) (c, d)).1)).setCell ⟨g, 1, none⟩ (.int .i64 (andW (a, b) (c, d)).2)) g (andW (a, b) (c, d)).1 (andW (a, b) (c, d)).2 := bx.stored _ _
  have i1 : Inv w a b c d ((wa.setCell ⟨g, 0, none⟩ (.int .i64 (andW (a, b) (c, d)).1)).setCell ⟨g, 1, none⟩ (.int .i64 (andW (a, b) (c, d)).2)) := (hSa.set hg _ _).set hg _ _
  obtain ⟨bl, ⟨c0, c1⟩, ⟨f0, f1⟩⟩ := bx
  clear hFa hEa hSa
  simp only [Act.put]
  go_wp2
  generalize (wa.setCell ⟨g, 0, none⟩ (.int .i64 (andW (a, b) (c, d)).1)).setCell ⟨g, 1, none⟩ (.int .i64 (andW (a, b) (c, d)).2) = W1 at *
  clear bl c0 c1 f0 f1
  refine' wp_region_loose_tail 6 [.inl _, .inl _, .inl _, .inl _, .inl _, .inr (fun v w' => ∃ k, v = .pointer (some ⟨k, 0, none⟩) ∧ w.heap.size + 1 < k ∧ g < k ∧ Box w' k 0 0)] (fun w' => Inv w a b c d w' ∧ Box w' g (andW (a, b) (c, d)).1 (andW (a, b) (c, d)).2) (by kernel_rfl) (by kernel_rfl) (⟨Inv.drew i1, Box.drew b1⟩) (fun _ _ h hE => ⟨h.1.step hE, h.2.step hE⟩) ?hAb ?hlb ?hMb
  case' hMb => skip
  simp only [List.take_succ_cons, List.take_zero, List.drop_succ_cons, List.drop_zero]
  apply wpLoose_val rfl rfl
  case hs =>
    intro w1 hC hd Q1 hQ1
    obtain ⟨hE, hS⟩ := hC
    obtain ⟨q1, q2, q3, q4⟩ := hS.1.s
    clear hd hS hE
    go_wp2
    exact Ext.refl _
  case ha => rfl
  apply wpLoose_val rfl rfl
  case hs =>
    intro w1 hC hd Q1 hQ1
    obtain ⟨hE, hS⟩ := hC
    clear hd
    go_wp2_with fail
    refine (toWide_any a b _).mono ?_
    rintro e w2 ⟨rfl, hb⟩
    go_wp2_with fail
    exact hb
  case ha => rfl
  apply wpLoose_val rfl rfl
  case hs =>
    intro w1 hC hd Q1 hQ1
    obtain ⟨hE, hS⟩ := hC
    obtain ⟨q1, q2, q3, q4⟩ := hS.1.s
    clear hd hS hE
    go_wp2
    exact Ext.refl _
  case ha => rfl
  apply wpLoose_val rfl rfl
  case hs =>
    intro w1 hC hd Q1 hQ1
    obtain ⟨hE, hS⟩ := hC
    clear hd
    go_wp2_with fail
    refine (toWide_any c d _).mono ?_
    rintro e w2 ⟨rfl, hb⟩
    go_wp2_with fail
    exact hb
  case ha => rfl
  apply wpLoose_val rfl rfl
  case hs =>
    intro w1 hC hd Q1 hQ1
    obtain ⟨hE, hS⟩ := hC
    clear hd
    go_wp2_with fail
    refine (iAnd_any a b c d _).mono ?_
    rintro e w2 ⟨rfl, hb⟩
    go_wp2_with fail
    exact hb
  case ha => rfl
  refine wpLoose_rel rfl rfl ?_ (fun vb_5 => ?_)
  · intro w1 hC hd Q1 hQ1
    obtain ⟨hE, hS⟩ := hC
    have hz := hS.1.2.1
    have hy := hS.2.1
    clear hd hS hE
    go_wp2
    exact hQ1 _ _ ((Below.refl _ _).alloc (Nat.le_refl _) _) ⟨_, rfl, hz, hy, Box.new _ _ _ _⟩
  refine wpLoose_nil ?_
  intro wb hEb hSb hFb
  obtain ⟨k, rfl, hk, hgk, bk⟩ := hFb 5 _ rfl (by decide) (by simp [Act.put])
  have b2 : Hid (Below w.heap.size w ((wb.setCell ⟨k, 0, none⟩ (.int .i64 (andW (a, b) (c, d)).1)).setCell ⟨k, 1, none⟩ (.int .i64 (andW (a, b) (c, d)).2))) := ((hSb.1.set hk _ _).set hk _ _).1
  obtain ⟨bl, ⟨c0, c1⟩, ⟨f0, f1⟩⟩ := bk
  obtain ⟨_, ⟨d0, d1⟩, _⟩ := hSb.2
  have hne : g ≠ k := by omega
  have hne2 : k ≠ g := by omega
  clear hFb hEb hSb
  simp only [Act.put]
  go_wp2_with (go_at_call 8; refine (eqWide_same _ _ _).mono ?_; rintro e w7 ⟨rfl, hb7⟩)
  have b7 : Hid (Below w.heap.size w w7) := b2.out.trans (hb7.mono b2.out.size)
  go_wp2
  go_ret
  exact ⟨rfl, b7.out⟩
  case hAb => kernel_rfl
  case hlb => exact ⟨trivial, trivial, trivial, trivial, trivial, fun _ _ _ ⟨k, hv, hg, hk, h⟩ hE => ⟨k, hv, hg, hk, h.step hE⟩, trivial⟩
  case hAa => kernel_rfl
  case hla => exact ⟨trivial, trivial, trivial, trivial, trivial, fun _ _ _ ⟨g, hv, hg, h⟩ hE => ⟨g, hv, hg, h.step hE⟩, trivial⟩

set_option maxRecDepth 100000 in
theorem lifted (os : Os) (started : os.Started) (H : Type) (enc : TypeId × Value → H) :
    ReturnsInHanded {} Try.checked os 3 .any (Rows.fnExactWideAndSpec.pre6 enc Try.prog Try.f3 Rows.fnExactWideAndRow.domain false) (Rows.fnExactWideAndSpec.post enc Try.prog Try.f3 false true false false) := by
  refine returnsInHanded_of_change (C := Try.checked) own started (by kernel_rfl) Try.func3
    (ChangeSpec.witness6 (enc := enc) (C := Try.checked) false ⟨#[], #[.agg #[.int .i64 0, .int .i64 0], .agg #[.int .i64 0, .int .i64 0]], []⟩ 8 (by kernel_rfl) (by kernel_rfl) (by kernel_rfl) (by kernel_rfl)) ?_
  intro W base args ds gs before hval0 hW hcnd _
  have hval : ∀ (j : Nat) t v, Try.f3.params[j]? = some t → args[j]? = some v → Value.okWide Try.prog W .any base t v := hval0
  have hW' := hW
  obtain ⟨p, q, hA0, hV, rfl, hfz, hnd⟩ := hW
  have hA : DataW.TrodAll enc Try.prog W 0 (fun _ => true) true Try.f3.params.toList args.toList ds p := hA0
  rw [Try.params3] at hA hval
  obtain ⟨v0, vs0, d0, ds0, p0, q0, hargs, rfl, rfl, h0, r0⟩ := trodAll_cons hA
  obtain ⟨v1, vs1, d1, ds1, p1, q1, rfl, rfl, rfl, h1, r1⟩ := trodAll_cons r0
  obtain ⟨rfl, rfl, rfl⟩ := trodAll_nil r1
  obtain rfl : args = #[v0, v1] := by cases args; simp_all
  obtain ⟨rfl, rfl⟩ := trodVars_none hV
  have lt0 : ∀ x ∈ p0, x.block < W.heap.size := by obtain ⟨m, hm⟩ := h0; exact DataW.trod_lt m _ _ _ hm
  obtain ⟨a0, b0, rfl⟩ := open_wide (hval 0 23 v0 rfl rfl) h0
  have lt1 : ∀ x ∈ p1, x.block < W.heap.size := by obtain ⟨m, hm⟩ := h1; exact DataW.trod_lt m _ _ _ hm
  obtain ⟨a1, b1, rfl⟩ := open_wide (hval 1 23 v1 rfl rfl) h1
  clear hA0 hval0
  refine (walk a0 b0 a1 b1 W ).mono fun e W' ⟨he, bel⟩ => ?_
  subst he
  exact ⟨_, rfl, _, _, _, [], _, [], hW', trodAll_mk1 (shut_bool Try.underlying4 _), (trodAll_cons_mk (Below.trod laidOut (by kernel_rfl) (of_decide_eq_true (by kernel_rfl)) h0 bel lt0) (trodAll_cons_mk (Below.trod laidOut (by kernel_rfl) (of_decide_eq_true (by kernel_rfl)) h1 bel lt1) trodAll_mk0)), rfl, bel.frame _, fun h => by cases h⟩

end Go.Proofs.Ytkaepalnddebjab.WideAnd
namespace Go.Proofs.Ytkaepalnddebjab
open Go.ChangeShapes Go.WideShapes Go.ChangeAt Go.RowKit

theorem wideAnd : Rows.FnExactWideAndSaid :=
  OpenClaim.holds_of_wide 3 Try.f3 rfl rfl rfl rfl rfl rfl rfl ⟨rfl, rfl, rfl, rfl, rfl⟩ rfl rfl rfl rfl rfl (by kernel_rfl) Try.func3 (by kernel_rfl)
    (of_decide_eq_true (by kernel_rfl)) (by unfold Func.isWrapper; first | (rw [if_pos (by decide +kernel)]; kernel_rfl) | (rw [if_neg (by decide +kernel)]; exact ⟨rfl, rfl⟩))
    (fun os started H enc _ => WideAnd.lifted os started H enc)
#print axioms wideAnd
end Go.Proofs.Ytkaepalnddebjab
