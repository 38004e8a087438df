/- Proved: at every []laws.Line the law FnExactLayout answers true, so impl.Layout answers as spec.Layout, in memory of its own, and leaves its argument as it was (the law itself passes lists beyond 1<<20 lines and bytes by); no condition. -/
import Derived.Test.YtakcmiijnckaaaaLayPack17
import Derived.Test.YtakcmiijnckaaaaLayPack19
import Derived.Test.YtakcmiijnckaaaaLayPack20
import Derived.WalkKit
import Derived.ProofKit
import Derived.OpenShut
import Derived.ShutString
import Derived.ChangeOld
import Derived.Below
import Derived.Deep.RegionHeld3
import Derived.Deep.RegionWith
namespace Go.Proofs.Ytakcmiijnckaaaa.Layout
open Go.ChangeShapes Go.WideShapes Go.ChangeAt Go.RowKit
open Go.ChangeMaps (open_string shut_string)
set_option linter.unusedVariables false

theorem own : ownKnob Try.prog.godebug = none := by kernel_rfl
theorem laidOut : laidOutB Try.prog = true := by kernel_rfl

set_option maxRecDepth 100000 in
set_option maxHeartbeats 8000000 in
theorem walk (a : Option Addr) (cap : Nat) (ls : List Ln) (w : World) (h : Lns w a ls) (hf : LongP ls) (hm : ls.length ≤ 9223372036854775807) :
    Calls Try.prog 7 #[.slice a ls.length cap] w fun e w' => e = .returned (.bool true) ∧ Below w.heap.size w w' := by
  obtain ⟨n, hn⟩ : ∃ n, n = ls.length := ⟨_, rfl⟩
  have HA : Hid (Lns w a ls ∧ n = ls.length) := ⟨h, hn⟩
  have HS : Hid (Calls Try.prog 25 #[.slice a n cap, .int .i64 1048576] w fun e w' => ((e = .returned (.int .i64 (-1))) ∨ ∃ m : Nat, e = .returned (.int .i64 (m : Int)) ∧ m ≤ 1048576 ∧ n ≤ 1048576 ∧ TextsP ls) ∧ Ext w w') := by
    have := szLineS_any a cap ls w hm hf h
    rw [← hn] at this
    exact this
  rw [← hn]
  clear h hf hm hn
  go_enter Try.func7, Try.ntmps7
  go_wp2_with fail
  refine HS.out.mono ?_
  rintro e w1 ⟨hor, x1⟩
  have X1 : Hid (Ext w w1) := x1
  clear x1 HS
  rcases hor with rfl | ⟨m, rfl, hm, hn, ht⟩
  · go_wp2
    go_ret
    exact ⟨rfl, X1.out⟩
  have hm0 : ¬ (m : Int) < 0 := by omega
  have HT : Hid (∀ W, Ext w W → Calls Try.prog 26 #[.slice a n cap] W fun e w' => ∃ g, e = .returned (.slice (some ⟨g, 0, none⟩) n n) ∧ W.heap.size ≤ g ∧ g < w'.heap.size ∧ Free7 w' g n ∧ Lns w' (some ⟨g, 0, none⟩) ls ∧ Ext W w') := fun W hE => by
    have := toLineS_any a cap ls W (by have := HA.out.2; omega) (HA.out.1.ext hE)
    rw [← HA.out.2] at this
    exact this
  have HTX : Hid (TextsP ls ∧ n ≤ 1048576) := ⟨ht, hn⟩
  obtain ⟨ws, z, hz, hsp, him⟩ := layout_both ls (by have := HA.out.2; omega) ht
  rw [← HA.out.2] at hsp him
  have HZ : Hid (ws.length ≤ 400) := hz
  have HSP : Hid (∀ (a : Option Addr) (cap : Nat) (w : World), Lns w a ls → Calls Try.prog 20 #[.slice a n cap] w fun e w' => ∃ v, e = .returned (.tuple #[v, .bool z]) ∧ Own4 w' w.heap.size v ws ∧ Ext w w') := hsp
  have HIM : Hid (∀ (a : Option Addr) (cap : Nat) (w : World), Lns w a ls → Calls Try.prog 11 #[.slice a n cap] w fun e w' => ∃ v, e = .returned (.tuple #[v, .bool z]) ∧ Own4 w' w.heap.size v ws ∧ Ext w w') := him
  clear ht hz hsp him
  go_wp2_with fail
  refine (HT.out _ X1.out).mono ?_
  rintro e w2 ⟨g2, rfl, hg2, hs2, hf2, l2, x2⟩
  have X2 : Hid (Ext w w2) := X1.out.trans x2
  have HL2 : Hid (Lns w2 (some ⟨g2, 0, none⟩) ls) := l2
  clear hg2 hs2 hf2 l2 x2 X1
  go_wp2_with fail
  refine (HSP.out _ _ _ HL2.out).mono ?_
  rintro e w3 ⟨v0, rfl, i0, x3⟩
  have X3 : Hid (Ext w w3 ∧ Own4 w3 0 v0 ws) := ⟨X2.out.trans x3, own_lower i0 (Nat.zero_le _)⟩
  clear i0 x3 HL2 X2 HSP
  go_wp2_with fail
  refine (HT.out _ X3.out.1).mono ?_
  rintro e w4 ⟨gx, rfl, hgx, hsx, hfx, lx, x4⟩
  have X4 : Hid (Ext w w4 ∧ Own4 w4 0 v0 ws ∧ (∀ x, v0.ownBlock = some x → x < gx) ∧ gx < w4.heap.size ∧ Free7 w4 gx n ∧ Lns w4 (some ⟨gx, 0, none⟩) ls ∧ w.heap.size ≤ gx) := ⟨X3.out.1.trans x4, X3.out.2.ext x4, fun x hx => Nat.lt_of_lt_of_le (X3.out.2.lt x hx).2 hgx, hsx, hfx, lx, Nat.le_trans X3.out.1.size hgx⟩
  clear hgx hsx hfx lx x4 X3
  obtain ⟨B1, hB1⟩ : ∃ b, b = w4.heap.size := ⟨_, rfl⟩
  have HB1 : Hid (B1 = w4.heap.size) := hB1
  clear hB1
  go_wp2_with fail
  refine (HIM.out _ _ _ X4.out.2.2.2.2.2.1).mono ?_
  rintro e w5 ⟨v1, rfl, i1, x5⟩
  have X5 : Hid (Ext w w5 ∧ Own4 w5 0 v0 ws ∧ (∀ x, v0.ownBlock = some x → x < gx) ∧ gx < w5.heap.size ∧ Free7 w5 gx n ∧ Lns w5 (some ⟨gx, 0, none⟩) ls ∧ Own4 w5 B1 v1 ws ∧ gx < B1 ∧ w.heap.size ≤ gx) :=
    ⟨X4.out.1.trans x5, X4.out.2.1.ext x5, X4.out.2.2.1, Nat.lt_of_lt_of_le X4.out.2.2.2.1 x5.size, fun j hj => (x5.frozen (p := ⟨gx, j, none⟩) X4.out.2.2.2.1).trans (X4.out.2.2.2.2.1 j hj), X4.out.2.2.2.2.2.1.ext x5, by rw [HB1.out]; exact i1, by have := X4.out.2.2.2.1; have := HB1.out; omega, X4.out.2.2.2.2.2.2⟩
  clear i1 x5 X4 HB1
  go_wp2_with fail
  refine (eqIns4 B1 0 v1 v0 ws _ HZ.out X5.out.2.2.2.2.2.2.1 X5.out.2.1).mono ?_
  rintro e w6 ⟨rfl, x6⟩
  have X6 : Hid (Ext w w6 ∧ Own4 w6 0 v0 ws ∧ (∀ x, v0.ownBlock = some x → x < gx) ∧ gx < w6.heap.size ∧ Free7 w6 gx n ∧ Lns w6 (some ⟨gx, 0, none⟩) ls ∧ Own4 w6 B1 v1 ws ∧ gx < B1 ∧ w.heap.size ≤ gx) :=
    ⟨X5.out.1.trans x6, X5.out.2.1.ext x6, X5.out.2.2.1, Nat.lt_of_lt_of_le X5.out.2.2.2.1 x6.size, fun j hj => (x6.frozen (p := ⟨gx, j, none⟩) X5.out.2.2.2.1).trans (X5.out.2.2.2.2.1 j hj), X5.out.2.2.2.2.2.1.ext x6, X5.out.2.2.2.2.2.2.1.ext x6, X5.out.2.2.2.2.2.2.2⟩
  clear x6 X5
  go_wp2_with fail
  refine (HT.out _ X6.out.1).mono ?_
  rintro e w7 ⟨g7, rfl, hg7, hs7, hf7, l7, x7⟩
  have X7 : Hid (Ext w w7 ∧ Own4 w7 0 v0 ws ∧ (∀ x, v0.ownBlock = some x → x < gx) ∧ gx < w7.heap.size ∧ Free7 w7 gx n ∧ Lns w7 (some ⟨gx, 0, none⟩) ls ∧ Own4 w7 B1 v1 ws ∧ gx < B1 ∧ w.heap.size ≤ gx) :=
    ⟨X6.out.1.trans x7, X6.out.2.1.ext x7, X6.out.2.2.1, Nat.lt_of_lt_of_le X6.out.2.2.2.1 x7.size, fun j hj => (x7.frozen (p := ⟨gx, j, none⟩) X6.out.2.2.2.1).trans (X6.out.2.2.2.2.1 j hj), X6.out.2.2.2.2.2.1.ext x7, X6.out.2.2.2.2.2.2.1.ext x7, X6.out.2.2.2.2.2.2.2⟩
  have HE7 : Hid (Calls Try.prog 27 #[.slice (some ⟨gx, 0, none⟩) n n, .slice (some ⟨g7, 0, none⟩) n n] w7 fun e w' => e = .returned (.bool true) ∧ Ext w7 w') := by
    have := eqLineS_same (some ⟨gx, 0, none⟩) (some ⟨g7, 0, none⟩) n n ls w7 (by have := HA.out.2; have := HTX.out.2; omega) X7.out.2.2.2.2.2.1 l7
    rw [← HA.out.2] at this
    exact this
  clear hg7 hs7 hf7 l7 x7 X6
  go_wp2_with fail
  refine HE7.out.mono ?_
  rintro e w8 ⟨rfl, x8⟩
  have X8 : Hid (Ext w w8 ∧ Own4 w8 0 v0 ws ∧ (∀ x, v0.ownBlock = some x → x < gx) ∧ Slots w8 gx (n * 7) ∧ Own4 w8 B1 v1 ws ∧ gx < B1 ∧ w.heap.size ≤ gx) := by
    obtain ⟨h1, h2, h3, h4, h5, h6, h7, h8, h9⟩ := X7.out
    refine ⟨h1.trans x8, h2.ext x8, h3, ⟨Nat.lt_of_lt_of_le h4 x8.size, fun j hj => ⟨?_, (x8.frozen (p := ⟨gx, j, none⟩) h4).trans (h5 j hj)⟩⟩, h7.ext x8, h8, h9⟩
    have hj7 : j / 7 < ls.length := by have := HA.out.2; omega
    obtain ⟨b', off', ha, hq⟩ := h6 (by omega)
    injection ha with ha
    injection ha with ha1 ha2
    subst ha1
    subst ha2
    have hc := (hq (j / 7) hj7).ext x8
    simp only [Nat.zero_add] at hc
    obtain ⟨c0, c1, c2, c3, c4, c5, c6⟩ := hc
    have hr : j = j / 7 * 7 ∨ j = j / 7 * 7 + 1 ∨ j = j / 7 * 7 + 2 ∨ j = j / 7 * 7 + 3 ∨ j = j / 7 * 7 + 4 ∨ j = j / 7 * 7 + 5 ∨ j = j / 7 * 7 + 6 := by omega
    rcases hr with e | e | e | e | e | e | e
    · rw [e]; exact ⟨_, c0⟩
    · rw [e]; exact ⟨_, c1⟩
    · rw [e]; exact ⟨_, c2⟩
    · rw [e]; exact ⟨_, c3⟩
    · rw [e]; exact ⟨_, c4⟩
    · rw [e]; exact ⟨_, c5⟩
    · rw [e]; exact ⟨_, c6⟩
  clear x8 X7 HE7
  go_wp2_with fail
  refine (markLn_any gx n n _ HTX.out.2 X8.out.2.2.2.1).mono ?_
  rintro e w9 ⟨K, rfl, hK, g9⟩
  have hK0 : ¬ (K : Int) < 0 := by omega
  have X9 : Hid (Ext w w9 ∧ Own4 w9 0 v0 ws ∧ Own4 w9 B1 v1 ws ∧ (∀ x, v0.ownBlock = some x → x < B1) ∧ w.heap.size ≤ B1) := by
    obtain ⟨h1, h2, h3, h4, h5, h6, h7⟩ := X8.out
    exact ⟨ext_row h1 g9 (fun x hx => by injection hx with hx; omega), h2.grown g9 (fun x hx => by have := h3 x hx; omega), h5.grown g9 (fun x hx => by have := own_from h5 hx; omega), fun x hx => by have := h3 x hx; omega, by omega⟩
  clear g9 X8
  go_wp2_with fail
  refine (eqIns4 B1 0 v1 v0 ws _ HZ.out X9.out.2.2.1 X9.out.2.1).mono ?_
  rintro e wa ⟨rfl, xa⟩
  have XA : Hid (Ext w wa ∧ Own4 wa 0 v0 ws ∧ Own4 wa B1 v1 ws ∧ (∀ x, v0.ownBlock = some x → x < B1) ∧ w.heap.size ≤ B1) := ⟨X9.out.1.trans xa, X9.out.2.1.ext xa, X9.out.2.2.1.ext xa, X9.out.2.2.2⟩
  clear xa X9
  go_wp2_with fail
  refine (markIns_any B1 v1 ws _ (by have := HZ.out; omega) XA.out.2.2.1).mono ?_
  rintro e wb ⟨rfl, ⟨a1, cap1, hv1, ib⟩, gb⟩
  subst hv1
  have XB : Hid (Ext w wb ∧ Own4 wb 0 v0 ws ∧ Words wb a1 (marksW ws.length)) := by
    obtain ⟨h1, h2, h3, h4, h5⟩ := XA.out
    exact ⟨⟨gb.os.trans h1.os, gb.tape.trans h1.tape, gb.output.trans h1.output, Nat.le_trans h1.size gb.size, fun i hi => (gb.block i (Nat.lt_of_lt_of_le hi h5)).trans (h1.block i hi)⟩, h2.under gb h4, ib⟩
  clear ib gb XA
  go_wp2_with fail
  refine (heldIns_any a1 ws.length cap1 _ (by have := HZ.out; omega) XB.out.2.2).mono ?_
  rintro e wc ⟨rfl, rfl⟩
  have hl0 : ¬ (4 * (ws.length : Int) + 1) < 0 := by omega
  go_wp2_with fail
  refine (HT.out _ XB.out.1).mono ?_
  rintro e wd ⟨gd, rfl, hgd, hsd, hfd, ld, xd⟩
  have XD : Hid (Ext w wd ∧ Own4 wd 0 v0 ws ∧ Words wd a1 (marksW ws.length) ∧ Lns wd (some ⟨gd, 0, none⟩) ls) := ⟨XB.out.1.trans xd, XB.out.2.1.ext xd, XB.out.2.2.ext xd, ld⟩
  clear hgd hsd hfd ld xd XB
  go_wp2_with fail
  refine (HIM.out _ _ _ XD.out.2.2.2).mono ?_
  rintro e we ⟨v2, rfl, i2, xe⟩
  have XE : Hid (Ext w we ∧ Own4 we 0 v0 ws ∧ Words we a1 (marksW ws.length) ∧ Own4 we 0 v2 ws) := ⟨XD.out.1.trans xe, XD.out.2.1.ext xe, XD.out.2.2.1.ext xe, own_lower i2 (Nat.zero_le _)⟩
  clear i2 xe XD
  go_wp2_with fail
  refine (eqIns4 0 0 v2 v0 ws _ HZ.out XE.out.2.2.2 XE.out.2.1).mono ?_
  rintro e wf ⟨rfl, xf⟩
  have XF : Hid (Ext w wf ∧ Words wf a1 (marksW ws.length)) := ⟨XE.out.1.trans xf, XE.out.2.2.1.ext xf⟩
  clear xf XE
  go_wp2_with fail
  refine (heldIns_any a1 ws.length cap1 _ (by have := HZ.out; omega) XF.out.2).mono ?_
  rintro e wg ⟨rfl, rfl⟩
  go_wp2
  go_ret
  exact ⟨rfl, XF.out.1⟩

set_option maxRecDepth 100000 in
theorem lifted (os : Os) (started : os.Started) (H : Type) (enc : TypeId × Value → H) :
    ReturnsInHanded {} Try.checked os 7 .any (Rows.fnExactLayoutSpec.pre6 enc Try.prog Try.f7 Rows.fnExactLayoutRow.domain false) (Rows.fnExactLayoutSpec.post enc Try.prog Try.f7 false true false false) := by
  refine returnsInHanded_of_change (C := Try.checked) own started (by kernel_rfl) Try.func7
    (ChangeSpec.witness6 (enc := enc) (C := Try.checked) false ⟨#[], #[.slice none 0 0], []⟩ 8 (by kernel_rfl) (by kernel_rfl) (by kernel_rfl) (by kernel_rfl)) ?_
  intro W base args ds gs before hval0 hW hcnd _
  have hval : ∀ (j : Nat) t v, Try.f7.params[j]? = some t → args[j]? = some v → Value.okWide Try.prog W .any base t v := hval0
  have hW' := hW
  obtain ⟨p, q, hA0, hV, rfl, hfz, hnd⟩ := hW
  have hA : DataW.TrodAll enc Try.prog W 0 (fun _ => true) true Try.f7.params.toList args.toList ds p := hA0
  rw [Try.params7] at hA hval
  obtain ⟨v0, vs0, d0, ds0, p0, q0, hargs, rfl, rfl, h0, r0⟩ := trodAll_cons hA
  obtain ⟨rfl, rfl, rfl⟩ := trodAll_nil r0
  obtain rfl : args = #[v0] := by cases args; simp_all
  obtain ⟨rfl, rfl⟩ := trodVars_none hV
  have lt0 : ∀ x ∈ p0, x.block < W.heap.size := by obtain ⟨m, hm⟩ := h0; exact DataW.trod_lt m _ _ _ hm
  obtain ⟨a0, cap0, xs0, rfl, hxs0, hlg0, hlm0⟩ := open_lines (hval 0 47 v0 rfl rfl) h0
  clear hA0 hval0
  refine (walk a0 cap0 xs0 W hxs0 hlg0 hlm0).mono fun e W' ⟨he, bel⟩ => ?_
  subst he
  exact ⟨_, rfl, _, _, _, [], _, [], hW', trodAll_mk1 (shut_bool Try.underlying4 _), (trodAll_cons_mk (Below.trod laidOut (by kernel_rfl) (of_decide_eq_true (by kernel_rfl)) h0 bel lt0) trodAll_mk0), rfl, bel.frame _, fun h => by cases h⟩

end Go.Proofs.Ytakcmiijnckaaaa.Layout
namespace Go.Proofs.Ytakcmiijnckaaaa
open Go.ChangeShapes Go.WideShapes Go.ChangeAt Go.RowKit

theorem layout : Rows.FnExactLayoutSaid :=
  OpenClaim.holds_of_wide 7 Try.f7 rfl rfl rfl rfl rfl rfl rfl ⟨rfl, rfl, rfl, rfl, rfl⟩ rfl rfl rfl rfl rfl (by kernel_rfl) Try.func7 (by kernel_rfl)
    (of_decide_eq_true (by kernel_rfl)) (by unfold Func.isWrapper; first | (rw [if_pos (by decide +kernel)]; kernel_rfl) | (rw [if_neg (by decide +kernel)]; exact ⟨rfl, rfl⟩))
    (fun os started H enc _ => Layout.lifted os started H enc)
#print axioms layout
end Go.Proofs.Ytakcmiijnckaaaa
