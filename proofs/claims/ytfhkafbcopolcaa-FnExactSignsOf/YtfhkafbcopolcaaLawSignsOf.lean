/- Proved: at every text the law FnExactSignsOf answers true, so impl.SignsOf answers as spec.SignsOf, in memory of its own, behind another call too (the law itself passes texts beyond 1<<20 bytes by); no condition. -/
import Derived.Test.YtfhkafbcopolcaaSignsS2
import Derived.Test.YtfhkafbcopolcaaSignMk
import Derived.WalkKit
import Derived.ProofKit
import Derived.OpenShut
import Derived.ShutString
import Derived.ChangeOld
import Derived.Below
import Derived.Deep.RegionHeld3
import Derived.Deep.RegionWith
namespace Go.Proofs.Ytfhkafbcopolcaa.SignsOf
open Go.ChangeShapes Go.WideShapes Go.ChangeAt Go.RowKit
open Go.ChangeMaps (open_string shut_string)
set_option linter.unusedVariables false

theorem own : ownKnob Try.prog.godebug = none := by kernel_rfl
theorem laidOut : laidOutB Try.prog = true := by kernel_rfl

set_option maxRecDepth 100000 in
set_option maxHeartbeats 1600000 in
theorem walk (s : ByteArray) (w : World) : Calls Try.prog 3 #[.string s] w fun e w' => e = .returned (.bool true) ∧ Below w.heap.size w w' := by
  by_cases hbig : 1048576 < s.size
  · go_enter Try.func3, Try.ntmps3
    go_wp2
    go_ret
    exact ⟨rfl, Below.refl _ _⟩
  have hs : s.size ≤ 1048576 := by omega
  clear hbig
  obtain ⟨ws, hws⟩ : ∃ ws, ws = (signsR s.data.toList).getD [] := ⟨_, rfl⟩
  obtain ⟨z, hz⟩ : ∃ z, z = (signsR s.data.toList).isSome := ⟨_, rfl⟩
  have hwl : ws.length ≤ 1048576 := by
    rw [hws]
    have := signsR_length s.data.toList
    omega
  have SI : Hid (∀ w, Calls Try.prog 6 #[.string s] w fun e w' => ∃ v, e = .returned (.tuple #[v, .bool z]) ∧ Own3 w' w.heap.size v ws ∧ Ext w w') := fun w => by rw [hws, hz]; exact sSigns_any s w
  have II : Hid (∀ w, Calls Try.prog 7 #[.string s] w fun e w' => ∃ v, e = .returned (.tuple #[v, .bool z]) ∧ Own3 w' w.heap.size v ws ∧ Ext w w') := fun w => by rw [hws, hz]; exact iSigns_any s w
  clear hws hz
  obtain ⟨n, hn⟩ : ∃ n, n = ws.length := ⟨_, rfl⟩
  have HN : Hid (n = ws.length) := hn
  have hnl : n ≤ 1048576 := by omega
  clear hn
  go_enter Try.func3, Try.ntmps3
  go_wp2_with fail
  refine (SI.out _).mono ?_
  rintro e w1 ⟨v1, rfl, o1, e1⟩
  have E1 : Hid (Ext w w1) := e1
  have O1 : Hid (Own3 w1 w.heap.size v1 ws) := o1
  clear e1 o1 SI
  go_wp2_with fail
  refine (II.out _).mono ?_
  rintro e w2 ⟨v2, rfl, o2, e2⟩
  have E2 : Hid (Ext w w2) := E1.out.trans e2
  obtain ⟨a1, c1, hv1, wd1, _⟩ := (O1.out.ext e2).signs
  obtain ⟨a2, c2, hv2, wd2, _⟩ := o2.signs
  have O2 : Hid (Own3 w2 w1.heap.size v2 ws) := o2
  have HS : Hid (w.heap.size ≤ w1.heap.size ∧ ∀ b off, a1 = some ⟨b, off, none⟩ → 0 < ws.length → b < w1.heap.size) := ⟨E1.out.size, fun b off hb hp => by
    obtain ⟨a, c, hv, wd, _⟩ := O1.out.signs
    rw [hv1] at hv
    injection hv with h1 h2 h3
    subst h1
    obtain ⟨b', off', hb', hq⟩ := wd hp
    rw [hb] at hb'
    injection hb' with hb'
    injection hb' with h1 h2
    subst h1
    exact (hq 0 hp).lt⟩
  have EQ : Hid (Calls Try.prog 8 #[v2, v1] w2 fun e w' => e = .returned (.bool true) ∧ Ext w2 w') := by
    rw [hv1, hv2]
    exact eqSignS_same _ _ _ _ ws w2 hwl wd2 wd1
  have W1 : Hid (Signs w2 a1 ws ∧ v1 = .slice a1 ws.length c1) := ⟨wd1, hv1⟩
  clear e2 E1 O1 o2 hv1 hv2 wd1 wd2
  go_wp2_with fail
  refine (EQ.out).mono ?_
  rintro e w3 ⟨rfl, e3⟩
  have E3 : Hid (Ext w w3) := E2.out.trans e3
  have O3 : Hid (Own3 w3 w1.heap.size v2 ws) := O2.out.ext e3
  have W3 : Hid (Signs w3 a1 ws) := W1.out.1.ext e3
  clear e3 E2 O2 EQ
  have MK : Hid (Calls Try.prog 9 #[v2, .int .i64 1] w3 fun e w' => e = .returned (.int .i64 (3 * (n : Int) + 1)) ∧ (∃ a cap, v2 = .slice a n cap ∧ Signs w' a (marksG n)) ∧ Below w1.heap.size w3 w') := by
    rw [HN.out]; exact markG_any _ v2 ws w3 hwl O3.out
  cases z
  all_goals
    go_wp2_with fail
    refine (MK.out).mono ?_
    rintro e w4 ⟨rfl, ⟨a4, cap4, hv4, wd4⟩, b4⟩
    have E4 : Hid (Ext w w4) := Below.trans E3.out (b4.mono HS.out.1)
    have W4 : Hid (Signs w4 a1 ws) := fun hp => by
      obtain ⟨b, off, hb, hq⟩ := W3.out hp
      exact ⟨b, off, hb, fun j hj => (hq j hj).below b4 (HS.out.2 b off hb hp)⟩
    subst hv4
    have M4 : Hid (Signs w4 a4 (marksG n)) := wd4
    have HD : Hid (∀ w, Signs w a4 (marksG n) → Calls Try.prog 10 #[.slice a4 n cap4, .int .i64 1] w fun e w' => e = .returned (.int .i64 (3 * (n : Int) + 1)) ∧ Ext w w') := fun w h => heldG_any a4 n cap4 w hnl h
    clear b4 wd4 MK E3 W3
    have hn0 : (0 : Int) ≤ 3 * (n : Int) + 1 := by omega
    go_wp2_with fail
    refine (HD.out _ M4.out).mono ?_
    rintro e w' ⟨rfl, e4⟩
    have E4' : Hid (Ext w w') := E4.out.trans e4
    have M4' : Hid (Signs w' a4 (marksG n)) := M4.out.ext e4
    have W4' : Hid (Signs w' a1 ws) := W4.out.ext e4
    clear e4 E4 M4 W4
    go_wp2_with fail
    refine (II.out _).mono ?_
    rintro e w5 ⟨v5, rfl, o5, e5⟩
    have E5 : Hid (Ext w w5) := E4'.out.trans e5
    have M5 : Hid (Signs w5 a4 (marksG n)) := M4'.out.ext e5
    have EQ : Hid (Calls Try.prog 8 #[v5, v1] w5 fun e w' => e = .returned (.bool true) ∧ Ext w5 w') := by
      obtain ⟨a5, c5, hv5, wd5, _⟩ := o5.signs
      rw [W1.out.2, hv5]
      exact eqSignS_same _ _ _ _ ws w5 hwl wd5 (W4'.out.ext e5)
    clear e5 E4' M4' o5 II
    go_wp2_with fail
    refine (EQ.out).mono ?_
    rintro e w6 ⟨rfl, e6⟩
    have E6 : Hid (Ext w w6) := E5.out.trans e6
    have M6 : Hid (Signs w6 a4 (marksG n)) := M5.out.ext e6
    clear e6 E5 M5 EQ
    go_wp2_with fail
    refine (HD.out _ M6.out).mono ?_
    rintro e w7 ⟨rfl, e7⟩
    have E7 : Hid (Ext w w7) := E6.out.trans e7
    clear e7
    go_wp2
    go_ret
    exact ⟨rfl, E7.out⟩

set_option maxRecDepth 100000 in
theorem lifted (os : Os) (started : os.Started) (H : Type) (enc : TypeId × Value → H) :
    ReturnsInHanded {} Try.checked os 3 .any (Rows.fnExactSignsOfSpec.pre6 enc Try.prog Try.f3 Rows.fnExactSignsOfRow.domain false) (Rows.fnExactSignsOfSpec.post enc Try.prog Try.f3 false true false false) := by
  refine returnsInHanded_of_change (C := Try.checked) own started (by kernel_rfl) Try.func3
    (ChangeSpec.witness6 (enc := enc) (C := Try.checked) false ⟨#[], #[.string ⟨#[]⟩], []⟩ 8 (by kernel_rfl) (by kernel_rfl) (by kernel_rfl) (by kernel_rfl)) ?_
  intro W base args ds gs before hval0 hW hcnd _
  have hval : ∀ (j : Nat) t v, Try.f3.params[j]? = some t → args[j]? = some v → Value.okWide Try.prog W .any base t v := hval0
  have hW' := hW
  obtain ⟨p, q, hA0, hV, rfl, hfz, hnd⟩ := hW
  have hA : DataW.TrodAll enc Try.prog W 0 (fun _ => true) true Try.f3.params.toList args.toList ds p := hA0
  rw [Try.params3] at hA hval
  obtain ⟨v0, vs0, d0, ds0, p0, q0, hargs, rfl, rfl, h0, r0⟩ := trodAll_cons hA
  obtain ⟨rfl, rfl, rfl⟩ := trodAll_nil r0
  obtain rfl : args = #[v0] := by cases args; simp_all
  obtain ⟨rfl, rfl⟩ := trodVars_none hV
  obtain ⟨s0, rfl, rfl, rfl, w0⟩ := open_string Try.underlying9 (hval 0 9 v0 rfl rfl) h0
  clear hA0 hval0
  refine (walk s0 W ).mono fun e W' ⟨he, bel⟩ => ?_
  subst he
  exact ⟨_, rfl, _, _, _, [], _, [], hW', trodAll_mk1 (shut_bool Try.underlying4 _), (trodAll_cons_mk (shut_string Try.underlying9 w0) trodAll_mk0), rfl, bel.frame _, fun h => by cases h⟩

end Go.Proofs.Ytfhkafbcopolcaa.SignsOf
namespace Go.Proofs.Ytfhkafbcopolcaa
open Go.ChangeShapes Go.WideShapes Go.ChangeAt Go.RowKit

theorem signsOf : Rows.FnExactSignsOfSaid :=
  OpenClaim.holds_of_wide 3 Try.f3 rfl rfl rfl rfl rfl rfl rfl ⟨rfl, rfl, rfl, rfl, rfl⟩ rfl rfl rfl rfl rfl (by kernel_rfl) Try.func3 (by kernel_rfl)
    (of_decide_eq_true (by kernel_rfl)) (by unfold Func.isWrapper; first | (rw [if_pos (by decide +kernel)]; kernel_rfl) | (rw [if_neg (by decide +kernel)]; exact ⟨rfl, rfl⟩))
    (fun os started H enc _ => SignsOf.lifted os started H enc)
#print axioms signsOf
end Go.Proofs.Ytfhkafbcopolcaa
