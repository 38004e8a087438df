/- Proved: at every []laws.Line the law FnExactLinesOk answers true, so impl.LinesOk answers as spec.LinesOk and leaves its argument as it was (the law itself passes lists beyond 1<<20 lines and bytes by); no condition. -/
import Derived.Test.YtakcmiijnckaaaaLineSl
import Derived.WalkKit
import Derived.ProofKit
import Derived.OpenShut
import Derived.ShutString
import Derived.ChangeOld
import Derived.Below
import Derived.Deep.RegionHeld3
import Derived.Deep.RegionWith
namespace Go.Proofs.Ytakcmiijnckaaaa.LinesOk
open Go.ChangeShapes Go.WideShapes Go.ChangeAt Go.RowKit
open Go.ChangeMaps (open_string shut_string)
set_option linter.unusedVariables false

theorem own : ownKnob Try.prog.godebug = none := by kernel_rfl
theorem laidOut : laidOutB Try.prog = true := by kernel_rfl

set_option maxRecDepth 100000 in
set_option maxHeartbeats 4000000 in
theorem walk (a : Option Addr) (cap : Nat) (ls : List Ln) (w : World) (h : Lns w a ls) (hf : LongP ls) (hm : ls.length ≤ 9223372036854775807) :
    Calls Try.prog 5 #[.slice a ls.length cap] w fun e w' => e = .returned (.bool true) ∧ Below w.heap.size w w' := by
  obtain ⟨n, hn⟩ : ∃ n, n = ls.length := ⟨_, rfl⟩
  have HA : Hid (Lns w a ls ∧ n = ls.length) := ⟨h, hn⟩
  have HS : Hid (Calls Try.prog 25 #[.slice a n cap, .int .i64 1048576] w fun e w' => ((e = .returned (.int .i64 (-1))) ∨ ∃ m : Nat, e = .returned (.int .i64 (m : Int)) ∧ m ≤ 1048576 ∧ n ≤ 1048576 ∧ TextsP ls) ∧ Ext w w') := by
    have := szLineS_any a cap ls w hm hf h
    rw [← hn] at this
    exact this
  rw [← hn]
  clear h hf hm hn
  go_enter Try.func5, Try.ntmps5
  go_wp2_with fail
  refine HS.out.mono ?_
  rintro e w1 ⟨hor, x1⟩
  have X1 : Hid (Ext w w1) := x1
  clear x1 HS
  rcases hor with rfl | ⟨m, rfl, hm, hn, ht⟩
  · go_wp2
    go_ret
    exact ⟨rfl, X1.out⟩
  have hm0 : ¬ (m : Int) < 0 := by omega
  have HT : Hid (∀ W, Ext w W → Calls Try.prog 26 #[.slice a n cap] W fun e w' => ∃ g, e = .returned (.slice (some ⟨g, 0, none⟩) n n) ∧ W.heap.size ≤ g ∧ g < w'.heap.size ∧ Free7 w' g n ∧ Lns w' (some ⟨g, 0, none⟩) ls ∧ Ext W w') := fun W hE => by
    have := toLineS_any a cap ls W (by have := HA.out.2; omega) (HA.out.1.ext hE)
    rw [← HA.out.2] at this
    exact this
  obtain ⟨z, hz⟩ := bool_some (linesP ls)
  have HZ : Hid (z = true ↔ linesP ls) := hz
  have HTX : Hid (TextsP ls ∧ n ≤ 1048576) := ⟨ht, hn⟩
  clear hz ht
  go_wp2_with fail
  refine (HT.out _ X1.out).mono ?_
  rintro e w2 ⟨g2, rfl, hg2, hs2, hf2, l2, x2⟩
  have X2 : Hid (Ext w w2) := X1.out.trans x2
  have HL2 : Hid (Calls Try.prog 21 #[.slice (some ⟨g2, 0, none⟩) n n] w2 fun e w' => e = .returned (.bool z) ∧ Ext w2 w') := by
    have := sLines_any (some ⟨g2, 0, none⟩) n ls z w2 (by have := HA.out.2; omega) l2 HZ.out
    rw [← HA.out.2] at this
    exact this
  clear hg2 hs2 hf2 l2 x2 X1
  go_wp2_with fail
  refine HL2.out.mono ?_
  rintro e w3 ⟨rfl, x3⟩
  have X3 : Hid (Ext w w3) := X2.out.trans x3
  clear x3 HL2 X2
  go_wp2_with fail
  refine (HT.out _ X3.out).mono ?_
  rintro e w4 ⟨g4, rfl, hg4, hs4, hf4, l4, x4⟩
  have X4 : Hid (Ext w w4) := X3.out.trans x4
  have HL4 : Hid (Lns w4 (some ⟨g4, 0, none⟩) ls) := l4
  have HI4 : Hid (Calls Try.prog 16 #[.slice (some ⟨g4, 0, none⟩) n n] w4 fun e w' => e = .returned (.bool z) ∧ Ext w4 w') := by
    have := iLines_any (some ⟨g4, 0, none⟩) n ls z w4 (by have := HA.out.2; omega) HTX.out.1 l4 HZ.out
    rw [← HA.out.2] at this
    exact this
  clear hg4 hs4 hf4 l4 x4 X3
  go_wp2_with fail
  refine HI4.out.mono ?_
  rintro e w5 ⟨rfl, x5⟩
  have X5 : Hid (Ext w w5) := X4.out.trans x5
  have HL5 : Hid (Lns w5 (some ⟨g4, 0, none⟩) ls) := HL4.out.ext x5
  clear x5 HL4 HI4 X4
  cases z
  all_goals
    go_wp2_with fail
    refine (HT.out _ X5.out).mono ?_
    rintro e w6 ⟨g6, rfl, hg6, hs6, hf6, l6, x6⟩
    have X6 : Hid (Ext w w6) := X5.out.trans x6
    have HE6 : Hid (Calls Try.prog 27 #[.slice (some ⟨g4, 0, none⟩) n n, .slice (some ⟨g6, 0, none⟩) n n] w6 fun e w' => e = .returned (.bool true) ∧ Ext w6 w') := by
      have := eqLineS_same (some ⟨g4, 0, none⟩) (some ⟨g6, 0, none⟩) n n ls w6 (by have := HA.out.2; have := HTX.out.2; omega) (HL5.out.ext x6) l6
      rw [← HA.out.2] at this
      exact this
    clear hg6 hs6 hf6 l6 x6 X5
    go_wp2_with fail
    refine HE6.out.mono ?_
    rintro e w7 ⟨rfl, x7⟩
    have X7 : Hid (Ext w w7) := X6.out.trans x7
    clear x7 HE6 X6
    go_wp2
    go_ret
    exact ⟨rfl, X7.out⟩

set_option maxRecDepth 100000 in
theorem lifted (os : Os) (started : os.Started) (H : Type) (enc : TypeId × Value → H) :
    ReturnsInHanded {} Try.checked os 5 .any (Rows.fnExactLinesOkSpec.pre6 enc Try.prog Try.f5 Rows.fnExactLinesOkRow.domain false) (Rows.fnExactLinesOkSpec.post enc Try.prog Try.f5 false true false false) := by
  refine returnsInHanded_of_change (C := Try.checked) own started (by kernel_rfl) Try.func5
    (ChangeSpec.witness6 (enc := enc) (C := Try.checked) false ⟨#[], #[.slice none 0 0], []⟩ 8 (by kernel_rfl) (by kernel_rfl) (by kernel_rfl) (by kernel_rfl)) ?_
  intro W base args ds gs before hval0 hW hcnd _
  have hval : ∀ (j : Nat) t v, Try.f5.params[j]? = some t → args[j]? = some v → Value.okWide Try.prog W .any base t v := hval0
  have hW' := hW
  obtain ⟨p, q, hA0, hV, rfl, hfz, hnd⟩ := hW
  have hA : DataW.TrodAll enc Try.prog W 0 (fun _ => true) true Try.f5.params.toList args.toList ds p := hA0
  rw [Try.params5] at hA hval
  obtain ⟨v0, vs0, d0, ds0, p0, q0, hargs, rfl, rfl, h0, r0⟩ := trodAll_cons hA
  obtain ⟨rfl, rfl, rfl⟩ := trodAll_nil r0
  obtain rfl : args = #[v0] := by cases args; simp_all
  obtain ⟨rfl, rfl⟩ := trodVars_none hV
  have lt0 : ∀ x ∈ p0, x.block < W.heap.size := by obtain ⟨m, hm⟩ := h0; exact DataW.trod_lt m _ _ _ hm
  obtain ⟨a0, cap0, xs0, rfl, hxs0, hlg0, hlm0⟩ := open_lines (hval 0 47 v0 rfl rfl) h0
  clear hA0 hval0
  refine (walk a0 cap0 xs0 W hxs0 hlg0 hlm0).mono fun e W' ⟨he, bel⟩ => ?_
  subst he
  exact ⟨_, rfl, _, _, _, [], _, [], hW', trodAll_mk1 (shut_bool Try.underlying4 _), (trodAll_cons_mk (Below.trod laidOut (by kernel_rfl) (of_decide_eq_true (by kernel_rfl)) h0 bel lt0) trodAll_mk0), rfl, bel.frame _, fun h => by cases h⟩

end Go.Proofs.Ytakcmiijnckaaaa.LinesOk
namespace Go.Proofs.Ytakcmiijnckaaaa
open Go.ChangeShapes Go.WideShapes Go.ChangeAt Go.RowKit

theorem linesOk : Rows.FnExactLinesOkSaid :=
  OpenClaim.holds_of_wide 5 Try.f5 rfl rfl rfl rfl rfl rfl rfl ⟨rfl, rfl, rfl, rfl, rfl⟩ rfl rfl rfl rfl rfl (by kernel_rfl) Try.func5 (by kernel_rfl)
    (of_decide_eq_true (by kernel_rfl)) (by unfold Func.isWrapper; first | (rw [if_pos (by decide +kernel)]; kernel_rfl) | (rw [if_neg (by decide +kernel)]; exact ⟨rfl, rfl⟩))
    (fun os started H enc _ => LinesOk.lifted os started H enc)
#print axioms linesOk
end Go.Proofs.Ytakcmiijnckaaaa
