/- Proved: at every []laws.Ins the law FnExactReached answers true, so impl.Reached answers as spec.Reached, in memory of its own, behind another call too, and leaves its argument as it was (the law itself passes lists beyond 1<<20 words by); no condition. -/
import Derived.Test.YtaigoggoibdgbaaReachIS
import Derived.Test.YtaigoggoibdgbaaInsOwn
import Derived.WalkKit
import Derived.ProofKit
import Derived.OpenShut
import Derived.ShutString
import Derived.ChangeOld
import Derived.Below
import Derived.Deep.RegionHeld3
import Derived.Deep.RegionWith
namespace Go.Proofs.Ytaigoggoibdgbaa.Reached
open Go.ChangeShapes Go.WideShapes Go.ChangeAt Go.RowKit
open Go.ChangeMaps (open_string shut_string)
set_option linter.unusedVariables false

theorem own : ownKnob Try.prog.godebug = none := by kernel_rfl
theorem laidOut : laidOutB Try.prog = true := by kernel_rfl

theorem repB_far {B k : Nat} {bs : List Bool} {v : Value} {w w' : World} (h : RepB B bs v w) (hg : w.grownBy w' (some k)) (hk : 0 < bs.length → k < B) : RepB B bs v w' := by
  obtain ⟨a, cap, rfl, hx⟩ := h
  refine ⟨a, cap, rfl, fun hp => ?_⟩
  obtain ⟨g, ha, hB, hb⟩ := hx hp
  exact ⟨g, ha, hB, hb.grown hg (by have := hk hp; omega)⟩

theorem reachP_length (ws : List Wd) : (reachP ws).length ≤ ws.length := by
  cases h : checkP ws
  · rw [reachP_no h]; simp
  · rw [reachP_yes h, reachAt_length]; omega

set_option maxRecDepth 100000 in
set_option maxHeartbeats 3200000 in
theorem walk (a : Option Addr) (cap : Nat) (ws : List Wd) (w : World) (h : Words w a ws ∧ ws.length ≤ 9223372036854775807) : Calls Try.prog 7 #[.slice a ws.length cap] w fun e w' => e = .returned (.bool true) ∧ Below w.heap.size w w' := by
  obtain ⟨h, hmax⟩ := h
  obtain ⟨n, hn⟩ : ∃ n, n = ws.length := ⟨_, rfl⟩
  by_cases hbig : 1048576 < ws.length
  · rw [← hn] at hbig hmax ⊢
    clear hn h
    go_enter Try.func7, Try.ntmps7
    go_wp2_with (go_at_call 21; refine (szInsS_big a cap n _ hbig hmax).mono ?_; rintro e w' ⟨rfl, rfl⟩)
    go_ret
    exact ⟨rfl, Below.refl _ _⟩
  have hl : n ≤ 1048576 := by omega
  obtain ⟨bs, hbs⟩ : ∃ bs, bs = reachP ws := ⟨_, rfl⟩
  have hbl : bs.length ≤ n := by rw [hbs, hn]; exact reachP_length ws
  obtain ⟨L, hL⟩ : ∃ L, L = bs.length := ⟨_, rfl⟩
  have HL : Hid (L = bs.length ∧ bs.length ≤ n ∧ n = ws.length) := ⟨hL, hbl, hn⟩
  have hLm : L ≤ 1048576 := by omega
  have TI : Hid (∀ w1, Ext w w1 → Calls Try.prog 22 #[.slice a n cap] w1 fun e w' => ∃ g, e = .returned (.slice (some ⟨g, 0, none⟩) n n) ∧ w1.heap.size ≤ g ∧ Words w' (some ⟨g, 0, none⟩) ws ∧ Free4 w' g n ∧ Ext w1 w') := fun w1 he => by
    have := toInsS_own a cap ws w1 (by omega) (h.ext he)
    rw [← hn] at this
    exact this
  have SI : Hid (∀ g w, Words w (some ⟨g, 0, none⟩) ws → Calls Try.prog 20 #[.slice (some ⟨g, 0, none⟩) n n] w fun e w' => ∃ v, e = .returned v ∧ RepB w.heap.size bs v w' ∧ Ext w w') := fun g w hw => by rw [hn, hbs]; exact sReached_any _ _ ws w (by omega) hw
  have II : Hid (∀ g w, Words w (some ⟨g, 0, none⟩) ws → Calls Try.prog 14 #[.slice (some ⟨g, 0, none⟩) n n] w fun e w' => ∃ v, e = .returned v ∧ RepB w.heap.size bs v w' ∧ Ext w w') := fun g w hw => by rw [hn, hbs]; exact iReached_any _ _ ws w (by omega) (by omega) hw
  have EQ : Hid (∀ g k w, Words w (some ⟨g, 0, none⟩) ws → Words w (some ⟨k, 0, none⟩) ws → Calls Try.prog 23 #[.slice (some ⟨g, 0, none⟩) n n, .slice (some ⟨k, 0, none⟩) n n] w fun e w' => e = .returned (.bool true) ∧ Ext w w') := fun g k w h1 h2 => by rw [hn]; exact eqInsS_same _ _ _ _ ws w (by omega) h1 h2
  have EB : Hid (∀ B1 B2 v1 v2 w, RepB B1 bs v1 w → RepB B2 bs v2 w → Calls Try.prog 27 #[v1, v2] w fun e w' => e = .returned (.bool true) ∧ Ext w w') := fun B1 B2 v1 v2 w h1 h2 => eqBools_rep B1 B2 bs v1 v2 w (by omega) h1 h2
  have MB : Hid (∀ B v w, RepB B bs v w → Calls Try.prog 29 #[v, .int .i64 1] w fun e w' => e = .returned (.int .i64 ((L : Int) + 1)) ∧ RepB B (marksB L) v w' ∧ Below B w w') := fun B v w hr => markBools_rep B L bs v w hL (by omega) hr
  rw [← hn]
  clear h hmax hbig hn hbs hL hbl
  go_enter Try.func7, Try.ntmps7
  go_wp2_with fail
  refine (szInsS_any a cap n _ hl).mono ?_
  rintro e w' ⟨rfl, rfl⟩
  go_wp2_with fail
  refine (TI.out _ (Ext.refl _)).mono ?_
  rintro e w1 ⟨g1, rfl, _, hw1, _, e1⟩
  have E1 : Hid (Ext w w1) := e1
  have W1 : Hid (Words w1 (some ⟨g1, 0, none⟩) ws) := hw1
  clear e1 hw1
  go_wp2_with fail
  refine (SI.out _ _ W1.out).mono ?_
  rintro e w2 ⟨v2, rfl, r2, e2⟩
  have E2 : Hid (Ext w w2) := E1.out.trans e2
  have R2 : Hid (∀ w', Ext w2 w' → RepB w1.heap.size bs v2 w') := fun w' he => r2.step he
  clear e2 r2 E1 W1 SI
  go_wp2_with fail
  refine (TI.out _ E2.out).mono ?_
  rintro e w3 ⟨g3, rfl, hg3, hw3, hf3, e3⟩
  have E3 : Hid (Ext w w3 ∧ Ext w2 w3) := ⟨E2.out.trans e3, e3⟩
  have W3 : Hid (Words w3 (some ⟨g3, 0, none⟩) ws ∧ Free4 w3 g3 n) := ⟨hw3, hf3⟩
  have HG3 : Hid (w2.heap.size ≤ g3 ∧ (0 < n → g3 < w3.heap.size)) := ⟨hg3, fun hp => by
    obtain ⟨b, off, hb, hq⟩ := hw3 (by have := HL.out.2.2; omega)
    injection hb with hb; injection hb with h1 h2 h3
    rw [h1]
    exact (hq 0 (by have := HL.out.2.2; omega)).lt⟩
  clear e3 hw3 hf3 hg3
  go_wp2_with fail
  refine (II.out _ _ W3.out.1).mono ?_
  rintro e w4 ⟨v4, rfl, r4, e4⟩
  have E4 : Hid (Ext w w4 ∧ Ext w2 w4 ∧ Ext w3 w4) := ⟨E3.out.1.trans e4, E3.out.2.trans e4, e4⟩
  have R4 : Hid (RepB w3.heap.size bs v4 w4) := r4
  clear e4 r4
  go_wp2_with fail
  refine (EB.out _ _ _ _ _ R4.out (R2.out _ E4.out.2.1)).mono ?_
  rintro e w5 ⟨rfl, e5⟩
  have E5 : Hid (Ext w w5 ∧ Ext w2 w5 ∧ Ext w3 w5) := ⟨E4.out.1.trans e5, E4.out.2.1.trans e5, E4.out.2.2.trans e5⟩
  have R5 : Hid (RepB w3.heap.size bs v4 w5) := R4.out.step e5
  clear e5 E4 R4
  go_wp2_with fail
  refine (TI.out _ E5.out.1).mono ?_
  rintro e w6 ⟨g6, rfl, _, hw6, _, e6⟩
  have E6 : Hid (Ext w w6 ∧ Ext w2 w6 ∧ Ext w3 w6) := ⟨E5.out.1.trans e6, E5.out.2.1.trans e6, E5.out.2.2.trans e6⟩
  have R6 : Hid (RepB w3.heap.size bs v4 w6) := R5.out.step e6
  have W6 : Hid (Words w6 (some ⟨g6, 0, none⟩) ws) := hw6
  clear e6 E5 R5 hw6
  go_wp2_with fail
  refine (EQ.out _ _ _ (W3.out.1.ext E6.out.2.2) W6.out).mono ?_
  rintro e w7 ⟨rfl, e7⟩
  have E7 : Hid (Ext w w7 ∧ Ext w2 w7 ∧ Ext w3 w7) := ⟨E6.out.1.trans e7, E6.out.2.1.trans e7, E6.out.2.2.trans e7⟩
  have R7 : Hid (RepB w3.heap.size bs v4 w7) := R6.out.step e7
  have MI : Hid (Calls Try.prog 28 #[.slice (some ⟨g3, 0, none⟩) n n, .int .i64 1] w7 fun e w' => e = .returned (.int .i64 (4 * (n : Int) + 1)) ∧ w7.grownBy w' (some g3)) := by
    refine markIns_own g3 n n w7 hl (fun j hj => (E7.out.2.2.frozen (p := ⟨g3, j, none⟩) (HG3.out.2 (by omega))).trans (W3.out.2 j hj)) (fun j hj => ?_)
    obtain ⟨b, off, hb, hq⟩ := W3.out.1.ext E7.out.2.2 (by have := HL.out.2.2; omega)
    injection hb with hb; injection hb with h1 h2 h3
    subst h1; subst h2
    have := hq j (by have := HL.out.2.2; omega)
    rw [Nat.zero_add] at this
    exact ⟨_, this⟩
  clear e7 E6 R6 W6
  go_wp2_with fail
  refine MI.out.mono ?_
  rintro e w8 ⟨rfl, hg8⟩
  have E8 : Hid (Ext w w8 ∧ Ext w2 w8) := ⟨Below.grown E7.out.1 hg8 E7.out.1.size (fun k hk => by have := Option.some.inj hk; have := HG3.out.1; have := E2.out.size; omega), Below.grown E7.out.2.1 hg8 E7.out.2.1.size (fun k hk => by have := Option.some.inj hk; have := HG3.out.1; omega)⟩
  have S8 : Hid (w3.heap.size ≤ w8.heap.size ∧ w2.heap.size ≤ w3.heap.size ∧ w.heap.size ≤ w2.heap.size) := ⟨Nat.le_trans E7.out.2.2.size hg8.size, E3.out.2.size, E2.out.size⟩
  have R8 : Hid (RepB w3.heap.size bs v4 w8) := repB_far R7.out hg8 (fun hp => HG3.out.2 (by have := HL.out.2.1; omega))
  clear hg8 E7 R7 MI W3 HG3 E3 EQ
  have hn0 : (0 : Int) ≤ 4 * (n : Int) + 1 := by omega
  go_wp2_with fail
  refine (EB.out _ _ _ _ _ R8.out (R2.out _ E8.out.2)).mono ?_
  rintro e w9 ⟨rfl, e9⟩
  have E9 : Hid (Ext w w9 ∧ Ext w2 w9) := ⟨E8.out.1.trans e9, E8.out.2.trans e9⟩
  have S9 : Hid (w3.heap.size ≤ w9.heap.size ∧ w2.heap.size ≤ w3.heap.size ∧ w.heap.size ≤ w2.heap.size) := ⟨Nat.le_trans S8.out.1 e9.size, S8.out.2⟩
  have R9 : Hid (RepB w3.heap.size bs v4 w9) := R8.out.step e9
  clear e9 E8 R8 S8
  go_wp2_with fail
  refine (MB.out _ _ _ R9.out).mono ?_
  rintro e w10 ⟨rfl, r10, b10⟩
  have E10 : Hid (Ext w w10 ∧ Ext w2 w10) := ⟨Below.trans E9.out.1 (Below.mono b10 (by have := S9.out; omega)), Below.trans E9.out.2 (Below.mono b10 (by have := S9.out; omega))⟩
  have R10 : Hid (∀ w', Ext w10 w' → RepB w3.heap.size (marksB L) v4 w') := fun w' he => r10.step he
  have HD : Hid (∀ w', Ext w10 w' → Calls Try.prog 30 #[v4, .int .i64 1] w' fun e w2 => e = .returned (.int .i64 ((L : Int) + 1)) ∧ w' = w2) := fun w' he => heldBools_rep _ L v4 w' hLm (R10.out w' he)
  clear b10 r10 E9 R9 S9 MB
  have hL0 : (0 : Int) ≤ (L : Int) + 1 := by omega
  go_wp2_with fail
  refine (HD.out _ (Ext.refl _)).mono ?_
  rintro e w' ⟨rfl, rfl⟩
  go_wp2_with fail
  refine (TI.out _ E10.out.1).mono ?_
  rintro e w11 ⟨g11, rfl, _, hw11, _, e11⟩
  have E11 : Hid (Ext w w11 ∧ Ext w2 w11 ∧ Ext w10 w11) := ⟨E10.out.1.trans e11, E10.out.2.trans e11, e11⟩
  have W11 : Hid (Words w11 (some ⟨g11, 0, none⟩) ws) := hw11
  clear e11 hw11 E10
  go_wp2_with fail
  refine (II.out _ _ W11.out).mono ?_
  rintro e w12 ⟨v12, rfl, r12, e12⟩
  have E12 : Hid (Ext w w12 ∧ Ext w2 w12 ∧ Ext w10 w12) := ⟨E11.out.1.trans e12, E11.out.2.1.trans e12, E11.out.2.2.trans e12⟩
  have R12 : Hid (RepB w11.heap.size bs v12 w12) := r12
  clear e12 r12 E11 W11 II
  go_wp2_with fail
  refine (EB.out _ _ _ _ _ R12.out (R2.out _ E12.out.2.1)).mono ?_
  rintro e w13 ⟨rfl, e13⟩
  have E13 : Hid (Ext w w13 ∧ Ext w10 w13) := ⟨E12.out.1.trans e13, E12.out.2.2.trans e13⟩
  clear e13 E12 R12
  go_wp2_with fail
  refine (HD.out _ E13.out.2).mono ?_
  rintro e w' ⟨rfl, rfl⟩
  go_wp2
  go_ret
  exact ⟨rfl, E13.out.1⟩

set_option maxRecDepth 100000 in
theorem lifted (os : Os) (started : os.Started) (H : Type) (enc : TypeId × Value → H) :
    ReturnsInHanded {} Try.checked os 7 .any (Rows.fnExactReachedSpec.pre6 enc Try.prog Try.f7 Rows.fnExactReachedRow.domain false) (Rows.fnExactReachedSpec.post enc Try.prog Try.f7 false true false false) := by
  refine returnsInHanded_of_change (C := Try.checked) own started (by kernel_rfl) Try.func7
    (ChangeSpec.witness6 (enc := enc) (C := Try.checked) false ⟨#[], #[.slice none 0 0], []⟩ 8 (by kernel_rfl) (by kernel_rfl) (by kernel_rfl) (by kernel_rfl)) ?_
  intro W base args ds gs before hval0 hW hcnd _
  have hval : ∀ (j : Nat) t v, Try.f7.params[j]? = some t → args[j]? = some v → Value.okWide Try.prog W .any base t v := hval0
  have hW' := hW
  obtain ⟨p, q, hA0, hV, rfl, hfz, hnd⟩ := hW
  have hA : DataW.TrodAll enc Try.prog W 0 (fun _ => true) true Try.f7.params.toList args.toList ds p := hA0
  rw [Try.params7] at hA hval
  obtain ⟨v0, vs0, d0, ds0, p0, q0, hargs, rfl, rfl, h0, r0⟩ := trodAll_cons hA
  obtain ⟨rfl, rfl, rfl⟩ := trodAll_nil r0
  obtain rfl : args = #[v0] := by cases args; simp_all
  obtain ⟨rfl, rfl⟩ := trodVars_none hV
  have lt0 : ∀ x ∈ p0, x.block < W.heap.size := by obtain ⟨m, hm⟩ := h0; exact DataW.trod_lt m _ _ _ hm
  obtain ⟨a0, cap0, xs0, rfl, hxs0⟩ := open_words (hval 0 40 v0 rfl rfl) h0
  clear hA0 hval0
  refine (walk a0 cap0 xs0 W hxs0).mono fun e W' ⟨he, bel⟩ => ?_
  subst he
  exact ⟨_, rfl, _, _, _, [], _, [], hW', trodAll_mk1 (shut_bool Try.underlying4 _), (trodAll_cons_mk (Below.trod laidOut (by kernel_rfl) (of_decide_eq_true (by kernel_rfl)) h0 bel lt0) trodAll_mk0), rfl, bel.frame _, fun h => by cases h⟩

end Go.Proofs.Ytaigoggoibdgbaa.Reached
namespace Go.Proofs.Ytaigoggoibdgbaa
open Go.ChangeShapes Go.WideShapes Go.ChangeAt Go.RowKit

theorem reached : Rows.FnExactReachedSaid :=
  OpenClaim.holds_of_wide 7 Try.f7 rfl rfl rfl rfl rfl rfl rfl ⟨rfl, rfl, rfl, rfl, rfl⟩ rfl rfl rfl rfl rfl (by kernel_rfl) Try.func7 (by kernel_rfl)
    (of_decide_eq_true (by kernel_rfl)) (by unfold Func.isWrapper; first | (rw [if_pos (by decide +kernel)]; kernel_rfl) | (rw [if_neg (by decide +kernel)]; exact ⟨rfl, rfl⟩))
    (fun os started H enc _ => Reached.lifted os started H enc)
#print axioms reached
end Go.Proofs.Ytaigoggoibdgbaa
