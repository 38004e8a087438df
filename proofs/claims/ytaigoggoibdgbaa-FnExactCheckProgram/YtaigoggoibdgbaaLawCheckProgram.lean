/- Proved: at every []laws.Ins the law FnExactCheckProgram answers true, so impl.CheckProgram answers as spec.CheckProgram and leaves its argument as it was (the law itself passes lists beyond 1<<20 words by); no condition. -/
import Derived.Test.YtaigoggoibdgbaaCheckIS
import Derived.Test.YtaigoggoibdgbaaInsSl
import Derived.WalkKit
import Derived.ProofKit
import Derived.OpenShut
import Derived.ShutString
import Derived.ChangeOld
import Derived.Below
import Derived.Deep.RegionHeld3
import Derived.Deep.RegionWith
namespace Go.Proofs.Ytaigoggoibdgbaa.CheckProgram
open Go.ChangeShapes Go.WideShapes Go.ChangeAt Go.RowKit
open Go.ChangeMaps (open_string shut_string)
set_option linter.unusedVariables false

theorem own : ownKnob Try.prog.godebug = none := by kernel_rfl
theorem laidOut : laidOutB Try.prog = true := by kernel_rfl

set_option maxHeartbeats 1600000 in
theorem walk (a : Option Addr) (cap : Nat) (ws : List Wd) (w : World) (h : Words w a ws ∧ ws.length ≤ 9223372036854775807) : Calls Try.prog 5 #[.slice a ws.length cap] w fun e w' => e = .returned (.bool true) ∧ Below w.heap.size w w' := by
  obtain ⟨h, hmax⟩ := h
  obtain ⟨n, hn⟩ : ∃ n, n = ws.length := ⟨_, rfl⟩
  by_cases hbig : 1048576 < ws.length
  · rw [← hn] at hbig hmax ⊢
    clear hn h
    go_enter Try.func5, Try.ntmps5
    go_wp2_with (go_at_call 21; refine (szInsS_big a cap n _ hbig hmax).mono ?_; rintro e w' ⟨rfl, rfl⟩)
    go_ret
    exact ⟨rfl, Below.refl _ _⟩
  have hl : n ≤ 1048576 := by omega
  obtain ⟨z, hz⟩ : ∃ z, z = checkP ws := ⟨_, rfl⟩
  have HW : Hid (Words w a ws) := h
  have TI : Hid (∀ w, Words w a ws → Calls Try.prog 22 #[.slice a n cap] w fun e w' => ∃ g, e = .returned (.slice (some ⟨g, 0, none⟩) n n) ∧ w.heap.size ≤ g ∧ Words w' (some ⟨g, 0, none⟩) ws ∧ Below w.heap.size w w') := fun w hw => by rw [hn]; exact toInsS_any a cap ws w (by omega) hw
  have SI : Hid (∀ g w, Words w (some ⟨g, 0, none⟩) ws → Calls Try.prog 12 #[.slice (some ⟨g, 0, none⟩) n n] w fun e w' => e = .returned (.bool z) ∧ Ext w w') := fun g w hw => by rw [hn, hz]; exact sCheck_any _ _ ws w (by omega) hw
  have II : Hid (∀ g w, Words w (some ⟨g, 0, none⟩) ws → Calls Try.prog 11 #[.slice (some ⟨g, 0, none⟩) n n] w fun e w' => e = .returned (.bool z) ∧ Ext w w') := fun g w hw => by rw [hn, hz]; exact iCheck_any _ _ ws w (by omega) (Nat.le_refl _) hw
  have EQ : Hid (∀ g k w, Words w (some ⟨g, 0, none⟩) ws → Words w (some ⟨k, 0, none⟩) ws → Calls Try.prog 23 #[.slice (some ⟨g, 0, none⟩) n n, .slice (some ⟨k, 0, none⟩) n n] w fun e w' => e = .returned (.bool true) ∧ Below w.heap.size w w') := fun g k w h1 h2 => by rw [hn]; exact eqInsS_same _ _ _ _ ws w (by omega) h1 h2
  rw [← hn]
  clear h hmax hbig hn hz
  go_enter Try.func5, Try.ntmps5
  go_wp2_with fail
  refine (szInsS_any a cap n _ hl).mono ?_
  rintro e w' ⟨rfl, rfl⟩
  go_wp2_with fail
  refine (TI.out _ HW.out).mono ?_
  rintro e w1 ⟨g1, rfl, _, hw1, e1⟩
  have E1 : Hid (Ext w w1) := e1
  have W1 : Hid (Words w1 (some ⟨g1, 0, none⟩) ws) := hw1
  clear e1 hw1
  go_wp2_with fail
  refine (SI.out _ _ W1.out).mono ?_
  rintro e w2 ⟨rfl, e2⟩
  have E2 : Hid (Ext w w2) := E1.out.trans e2
  clear e2 E1 W1 SI
  go_wp2_with fail
  refine (TI.out _ (HW.out.ext E2.out)).mono ?_
  rintro e w3 ⟨g3, rfl, _, hw3, e3⟩
  have E3 : Hid (Ext w w3) := E2.out.trans e3
  have W3 : Hid (Words w3 (some ⟨g3, 0, none⟩) ws) := hw3
  clear e3 hw3 E2
  go_wp2_with fail
  refine (II.out _ _ W3.out).mono ?_
  rintro e w4 ⟨rfl, e4⟩
  have E4 : Hid (Ext w w4) := E3.out.trans e4
  have W4 : Hid (Words w4 (some ⟨g3, 0, none⟩) ws) := W3.out.ext e4
  clear e4 E3 W3 II
  cases z
  all_goals
    go_wp2_with fail
    refine (TI.out _ (HW.out.ext E4.out)).mono ?_
    rintro e w5 ⟨g5, rfl, _, hw5, e5⟩
    have E5 : Hid (Ext w w5) := E4.out.trans e5
    have W5 : Hid (Words w5 (some ⟨g5, 0, none⟩) ws) := hw5
    have W45 : Hid (Words w5 (some ⟨g3, 0, none⟩) ws) := W4.out.ext e5
    clear e5 hw5 E4 W4
    go_wp2_with fail
    refine (EQ.out _ _ _ W45.out W5.out).mono ?_
    rintro e w6 ⟨rfl, e6⟩
    have E6 : Hid (Ext w w6) := E5.out.trans e6
    clear e6 E5 W5 W45
    go_wp2
    go_ret
    exact ⟨rfl, E6.out⟩

set_option maxRecDepth 100000 in
theorem lifted (os : Os) (started : os.Started) (H : Type) (enc : TypeId × Value → H) :
    ReturnsInHanded {} Try.checked os 5 .any (Rows.fnExactCheckProgramSpec.pre6 enc Try.prog Try.f5 Rows.fnExactCheckProgramRow.domain false) (Rows.fnExactCheckProgramSpec.post enc Try.prog Try.f5 false true false false) := by
  refine returnsInHanded_of_change (C := Try.checked) own started (by kernel_rfl) Try.func5
    (ChangeSpec.witness6 (enc := enc) (C := Try.checked) false ⟨#[], #[.slice none 0 0], []⟩ 8 (by kernel_rfl) (by kernel_rfl) (by kernel_rfl) (by kernel_rfl)) ?_
  intro W base args ds gs before hval0 hW hcnd _
  have hval : ∀ (j : Nat) t v, Try.f5.params[j]? = some t → args[j]? = some v → Value.okWide Try.prog W .any base t v := hval0
  have hW' := hW
  obtain ⟨p, q, hA0, hV, rfl, hfz, hnd⟩ := hW
  have hA : DataW.TrodAll enc Try.prog W 0 (fun _ => true) true Try.f5.params.toList args.toList ds p := hA0
  rw [Try.params5] at hA hval
  obtain ⟨v0, vs0, d0, ds0, p0, q0, hargs, rfl, rfl, h0, r0⟩ := trodAll_cons hA
  obtain ⟨rfl, rfl, rfl⟩ := trodAll_nil r0
  obtain rfl : args = #[v0] := by cases args; simp_all
  obtain ⟨rfl, rfl⟩ := trodVars_none hV
  have lt0 : ∀ x ∈ p0, x.block < W.heap.size := by obtain ⟨m, hm⟩ := h0; exact DataW.trod_lt m _ _ _ hm
  obtain ⟨a0, cap0, xs0, rfl, hxs0⟩ := open_words (hval 0 40 v0 rfl rfl) h0
  clear hA0 hval0
  refine (walk a0 cap0 xs0 W hxs0).mono fun e W' ⟨he, bel⟩ => ?_
  subst he
  exact ⟨_, rfl, _, _, _, [], _, [], hW', trodAll_mk1 (shut_bool Try.underlying4 _), (trodAll_cons_mk (Below.trod laidOut (by kernel_rfl) (of_decide_eq_true (by kernel_rfl)) h0 bel lt0) trodAll_mk0), rfl, bel.frame _, fun h => by cases h⟩

end Go.Proofs.Ytaigoggoibdgbaa.CheckProgram
namespace Go.Proofs.Ytaigoggoibdgbaa
open Go.ChangeShapes Go.WideShapes Go.ChangeAt Go.RowKit

theorem checkProgram : Rows.FnExactCheckProgramSaid :=
  OpenClaim.holds_of_wide 5 Try.f5 rfl rfl rfl rfl rfl rfl rfl ⟨rfl, rfl, rfl, rfl, rfl⟩ rfl rfl rfl rfl rfl (by kernel_rfl) Try.func5 (by kernel_rfl)
    (of_decide_eq_true (by kernel_rfl)) (by unfold Func.isWrapper; first | (rw [if_pos (by decide +kernel)]; kernel_rfl) | (rw [if_neg (by decide +kernel)]; exact ⟨rfl, rfl⟩))
    (fun os started H enc _ => CheckProgram.lifted os started H enc)
#print axioms checkProgram
end Go.Proofs.Ytaigoggoibdgbaa
