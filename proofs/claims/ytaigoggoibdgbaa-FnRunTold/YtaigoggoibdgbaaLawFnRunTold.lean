/- Proved: at every code the law FnRunTold answers true: of a drawn program and a drawn call, right or not, impl.Run answers as spec.Run; of drawn programs impl.CheckProgram and impl.Reached answer as spec's; a program of one OpRet is let by; no condition. -/
import Derived.Test.YtaigoggoibdgbaaDraw7
import Derived.Test.YtaigoggoibdgbaaReachIS
import Derived.Test.YtaigoggoibdgbaaSameBools
import Derived.WalkKit
import Derived.ProofKit
import Derived.OpenShut
import Derived.ShutString
import Derived.ChangeOld
import Derived.Below
import Derived.Deep.RegionHeld3
import Derived.Deep.RegionWith
namespace Go.Proofs.Ytaigoggoibdgbaa.FnRunTold
open Go.ChangeShapes Go.WideShapes Go.ChangeAt Go.RowKit
open Go.ChangeMaps (open_string shut_string)
set_option linter.unusedVariables false

theorem own : ownKnob Try.prog.godebug = none := by kernel_rfl
theorem laidOut : laidOutB Try.prog = true := by kernel_rfl

theorem reachP_length (ws : List Wd) : (reachP ws).length ≤ ws.length := by
  cases h : checkP ws
  · rw [reachP_no h]; simp
  · rw [reachP_yes h, reachAt_length]; omega

theorem check_one : checkP [((8 : Int), (0 : Int), (0 : Int), (0 : Int))] = true := by decide +kernel

set_option maxRecDepth 100000 in
set_option maxHeartbeats 6400000 in
theorem walk (a : Option Addr) (len cap : Nat) (w : World) (raw : Raw w a len) : Calls Try.prog 4 #[.slice a len cap] w fun e w' => e = .returned (.bool true) ∧ Below w.heap.size w w' := by
  by_cases hbig : 1048576 < len
  · go_enter Try.func4, Try.ntmps4
    go_wp2_with (go_at_call 8; refine (big_yes _ _ _ _ hbig).mono ?_; rintro e w' ⟨rfl, rfl⟩)
    go_ret
    exact ⟨rfl, Below.refl _ _⟩
  have HC : Hid (Came w a len) := ⟨by omega, raw⟩
  have hl : len ≤ 1048576 := by omega
  clear raw hbig
  go_enter Try.func4, Try.ntmps4
  go_wp2_with fail
  refine (big_no a len cap _ hl).mono ?_
  rintro e w' ⟨rfl, rfl⟩
  go_wp2_with fail
  refine (drawRun_any a len cap _ HC.out).mono ?_
  rintro e w1 ⟨v1, v2, ws, arch, num, cs, rfl, hp, h13, hr, hc3, e1⟩
  have E1 : Hid (Ext w w1) := e1
  obtain ⟨res, mm, hres⟩ := runR_some ws arch num cs
  have RI : Hid (∀ u w', RepW ws v1 w' → RepCall arch num cs u w' → Calls Try.prog 13 #[v1, u] w' fun e w2 => e = .returned (.tuple #[.int .i64 res, .int .i64 (mm : Int)]) ∧ Ext w' w2) := fun u w' h1 h2 => iRun_rep ws arch num cs res mm v1 u w' (by omega) (by omega) hres h1 h2
  have RS : Hid (∀ u w', RepW ws v1 w' → RepCall arch num cs u w' → Calls Try.prog 16 #[v1, u] w' fun e w2 => e = .returned (.tuple #[.int .i64 res, .int .i64 (mm : Int)]) ∧ Ext w' w2) := fun u w' h1 h2 => sRun_rep ws arch num cs res mm v1 u w' (by omega) (by omega) hres h1 h2
  have HP : Hid (∀ w', Ext w1 w' → RepW ws v1 w') := fun w' he => hp.step he
  obtain ⟨ca, cc, rfl, hcw⟩ := hr
  obtain ⟨cl, hcl'⟩ : ∃ cl, cl = cs.length := ⟨_, rfl⟩
  have HR : Hid (∀ w', Ext w1 w' → RepCall arch num cs (.agg #[.int .i64 arch, .int .i64 num, .slice ca cl cc]) w') := fun w' he => ⟨ca, cc, by rw [hcl'], hcw.below he (Nat.le_refl _)⟩
  have B1 : Hid (CellsAt (w1.alloc (.cells #[.int .i64 arch, .int .i64 num, .slice ca cl cc] 28)) w1.heap.size [.int .i64 arch, .int .i64 num, .slice ca cl cc]) := CellsAt.new w1 [.int .i64 arch, .int .i64 num, .slice ca cl cc] 28
  rw [← hcl']
  clear e1 hp h13 hc3 hres hcl' hcw
  go_wp2_with fail
  refine (RI.out _ _ (HP.out _ (Ext.one _ _)) (HR.out _ (Ext.one _ _))).mono ?_
  rintro e w2 ⟨rfl, e2⟩
  have E2 : Hid (Ext w w2 ∧ Ext w1 w2) := ⟨(E1.out.alloc _).trans e2, (Ext.one _ _).trans e2⟩
  have B2 : Hid (CellsAt w2 w1.heap.size [.int .i64 arch, .int .i64 num, .slice ca cl cc]) := B1.out.step e2
  obtain ⟨q1, q2, q3⟩ := (⟨B2.out.2 0 _ rfl, B2.out.2 1 _ rfl, B2.out.2 2 _ rfl⟩ : _ ∧ _ ∧ _)
  clear e2 RI B1 E1
  go_wp2_with fail
  refine (RS.out _ _ (HP.out _ E2.out.2) (HR.out _ E2.out.2)).mono ?_
  rintro e w3 ⟨rfl, e3⟩
  have E3 : Hid (Ext w w3) := E2.out.1.trans e3
  clear e3 RS B2 E2 q1 q2 q3 HP HR
  go_wp2_with fail
  refine (drawCheck_any a len cap _ (HC.out.below E3.out)).mono ?_
  rintro e w4 ⟨v4, qs, rfl, ⟨qa, qc, rfl, hqc, hqw⟩, hq13, e4⟩
  have E4 : Hid (Ext w w4) := E3.out.trans e4
  have CI : Hid (∀ w', Ext w4 w' → Calls Try.prog 11 #[.slice qa qs.length qc] w' fun e w2 => e = .returned (.bool (checkP qs)) ∧ Ext w' w2) := fun w' he => iCheck_any qa qc qs w' (by omega) hqc (hqw.ext he)
  have CS : Hid (∀ w', Ext w4 w' → Calls Try.prog 12 #[.slice qa qs.length qc] w' fun e w2 => e = .returned (.bool (checkP qs)) ∧ Ext w' w2) := fun w' he => sCheck_any qa qc qs w' (by omega) (hqw.ext he)
  obtain ⟨qn, hqn⟩ : ∃ qn, qn = qs.length := ⟨_, rfl⟩
  rw [← hqn] at CI CS ⊢
  clear hqc hqw hq13 e4 E3 hqn
  go_wp2_with fail
  refine (drawReached_any a len cap _ (HC.out.below E4.out)).mono ?_
  rintro e w5 ⟨v5, xs, rfl, ⟨xa, xc, rfl, hxc, hxw⟩, hx13, e5⟩
  have E5 : Hid (Ext w w5 ∧ Ext w4 w5) := ⟨E4.out.trans e5, e5⟩
  have SI : Hid (∀ w', Ext w5 w' → Calls Try.prog 14 #[.slice xa xs.length xc] w' fun e w2 => ∃ v, e = .returned v ∧ RepB w'.heap.size (reachP xs) v w2 ∧ Ext w' w2) := fun w' he => iReached_any xa xc xs w' (by omega) hxc (hxw.ext he)
  have SS : Hid (∀ w', Ext w5 w' → Calls Try.prog 20 #[.slice xa xs.length xc] w' fun e w2 => ∃ v, e = .returned v ∧ RepB w'.heap.size (reachP xs) v w2 ∧ Ext w' w2) := fun w' he => sReached_any xa xc xs w' (by omega) (hxw.ext he)
  have SB : Hid (∀ B1 B2 u1 u2 w', RepB B1 (reachP xs) u1 w' → RepB B2 (reachP xs) u2 w' → Calls Try.prog 19 #[u1, u2] w' fun e w2 => e = .returned (.bool true) ∧ Ext w' w2) := fun B1 B2 u1 u2 w' h1 h2 => sameBools_rep B1 B2 _ u1 u2 w' (by have := reachP_length xs; omega) h1 h2
  have C1 : Hid (∀ g w', Quad w' g 0 ((8 : Int), (0 : Int), (0 : Int), (0 : Int)) → Calls Try.prog 11 #[.slice (some ⟨g, 0, none⟩) 1 1] w' fun e w2 => e = .returned (.bool true) ∧ Ext w' w2) := fun g w' hq => by
    have := iCheck_any (some ⟨g, 0, none⟩) 1 [((8 : Int), (0 : Int), (0 : Int), (0 : Int))] w' (by simp) (by simp) (fun _ => ⟨g, 0, rfl, fun j hj => by
      obtain rfl : j = 0 := by simp at hj; omega
      exact hq⟩)
    rw [check_one] at this
    exact this
  obtain ⟨xn, hxn⟩ : ∃ xn, xn = xs.length := ⟨_, rfl⟩
  rw [← hxn] at SI SS ⊢
  clear hxc hxw hx13 e5 E4 hxn
  obtain ⟨z, hz⟩ : ∃ z, z = checkP qs := ⟨_, rfl⟩
  rw [← hz] at CI CS
  clear hz
  cases z
  all_goals
    go_wp2_with fail
    refine (CI.out _ E5.out.2).mono ?_
    rintro e w6 ⟨rfl, e6⟩
    have E6 : Hid (Ext w w6 ∧ Ext w4 w6 ∧ Ext w5 w6) := ⟨E5.out.1.trans e6, E5.out.2.trans e6, e6⟩
    clear e6 E5
    go_wp2_with fail
    refine (CS.out _ E6.out.2.1).mono ?_
    rintro e w7 ⟨rfl, e7⟩
    have E7 : Hid (Ext w w7 ∧ Ext w5 w7) := ⟨E6.out.1.trans e7, E6.out.2.2.trans e7⟩
    clear e7 E6
    go_wp2_with fail
    refine (SI.out _ E7.out.2).mono ?_
    rintro e w8 ⟨u8, rfl, r8, e8⟩
    have E8 : Hid (Ext w w8 ∧ Ext w5 w8) := ⟨E7.out.1.trans e8, E7.out.2.trans e8⟩
    have R8 : Hid (∀ w', Ext w8 w' → RepB w7.heap.size (reachP xs) u8 w') := fun w' he => r8.step he
    clear e8 r8 E7
    go_wp2_with fail
    refine (SS.out _ E8.out.2).mono ?_
    rintro e w9 ⟨u9, rfl, r9, e9⟩
    have E9 : Hid (Ext w w9) := E8.out.1.trans e9
    have SB9 : Hid (Calls Try.prog 19 #[u8, u9] w9 fun e w2 => e = .returned (.bool true) ∧ Ext w9 w2) := SB.out _ _ u8 u9 w9 (R8.out _ e9) r9
    clear e9 r9 E8 R8
    go_wp2_with fail
    refine SB9.out.mono ?_
    rintro e w10 ⟨rfl, e10⟩
    have E10 : Hid (Ext w w10) := E9.out.trans e10
    clear e10 E9 SB9
    go_wp2_with fail
    refine (C1.out _ _ ?_).mono ?_
    · refine ⟨?_, ?_, ?_, ?_⟩ <;> simp [go_sem]
    rintro e w11 ⟨rfl, e11⟩
    have E11 : Hid (Ext w w11) := (E10.out.alloc _).trans e11
    clear e11
    go_wp2
    go_ret
    exact ⟨rfl, E11.out⟩

set_option maxRecDepth 100000 in
theorem lifted (os : Os) (started : os.Started) (H : Type) (enc : TypeId × Value → H) :
    ReturnsInHanded {} Try.checked os 4 .any (Rows.fnRunToldSpec.pre6 enc Try.prog Try.f4 Rows.fnRunToldRow.domain false) (Rows.fnRunToldSpec.post enc Try.prog Try.f4 false true false false) := by
  refine returnsInHanded_of_change (C := Try.checked) own started (by kernel_rfl) Try.func4
    (ChangeSpec.witness6 (enc := enc) (C := Try.checked) false ⟨#[], #[.slice none 0 0], []⟩ 8 (by kernel_rfl) (by kernel_rfl) (by kernel_rfl) (by kernel_rfl)) ?_
  intro W base args ds gs before hval0 hW hcnd _
  have hval : ∀ (j : Nat) t v, Try.f4.params[j]? = some t → args[j]? = some v → Value.okWide Try.prog W .any base t v := hval0
  have hW' := hW
  obtain ⟨p, q, hA0, hV, rfl, hfz, hnd⟩ := hW
  have hA : DataW.TrodAll enc Try.prog W 0 (fun _ => true) true Try.f4.params.toList args.toList ds p := hA0
  rw [Try.params4] at hA hval
  obtain ⟨v0, vs0, d0, ds0, p0, q0, hargs, rfl, rfl, h0, r0⟩ := trodAll_cons hA
  obtain ⟨rfl, rfl, rfl⟩ := trodAll_nil r0
  obtain rfl : args = #[v0] := by cases args; simp_all
  obtain ⟨rfl, rfl⟩ := trodVars_none hV
  have lt0 : ∀ x ∈ p0, x.block < W.heap.size := by obtain ⟨m, hm⟩ := h0; exact DataW.trod_lt m _ _ _ hm
  obtain ⟨a0, len0, cap0, rfl⟩ := okWide_slice Try.underlying22 (hval 0 22 v0 rfl rfl)
  have raw0 : Raw W a0 len0 := by
    obtain ⟨fuel, hf⟩ := h0
    rcases open_ints Try.underlying22 Try.underlying5 (by kernel_rfl) hf with ⟨hcs, _⟩ | ⟨x, l, c, zs, hcs, _, hl, hm, hz, _, hcell, hwz⟩
    · simp [Value.cells] at hcs
      obtain ⟨rfl, rfl, rfl⟩ := hcs
      intro h; omega
    · simp [Value.cells] at hcs
      obtain ⟨rfl, rfl, rfl⟩ := hcs
      have hz' : zs.length = cap0 := by simpa using hz
      intro hpos
      obtain ⟨b, off, spot⟩ := x
      have hspot : spot = none := by simpa [Addr.add] using World.cell?_spot (hcell 0 (by omega))
      subst hspot
      refine ⟨b, off, rfl, fun j hj => ?_⟩
      have hj' : j < zs.length := by omega
      have hw := hwz _ (List.getElem_mem hj')
      have hb := bounds_u8 hw
      refine ⟨(zs[j]).toNat, by omega, ?_⟩
      have := hcell j hj'
      rw [Addr.add_lit] at this
      rw [this, List.getD_eq_getElem?_getD, List.getElem?_eq_getElem hj']
      simp only [Option.getD_some]
      congr 2
      omega
  clear hA0 hval0
  refine (walk a0 len0 cap0 W raw0).mono fun e W' ⟨he, bel⟩ => ?_
  subst he
  exact ⟨_, rfl, _, _, _, [], _, [], hW', trodAll_mk1 (shut_bool Try.underlying4 _), (trodAll_cons_mk (Below.trod laidOut (by kernel_rfl) (of_decide_eq_true (by kernel_rfl)) h0 bel lt0) trodAll_mk0), rfl, bel.frame _, fun h => by cases h⟩

end Go.Proofs.Ytaigoggoibdgbaa.FnRunTold
namespace Go.Proofs.Ytaigoggoibdgbaa
open Go.ChangeShapes Go.WideShapes Go.ChangeAt Go.RowKit

theorem fnRunTold : Rows.FnRunToldSaid :=
  OpenClaim.holds_of_wide 4 Try.f4 rfl rfl rfl rfl rfl rfl rfl ⟨rfl, rfl, rfl, rfl, rfl⟩ rfl rfl rfl rfl rfl (by kernel_rfl) Try.func4 (by kernel_rfl)
    (of_decide_eq_true (by kernel_rfl)) (by unfold Func.isWrapper; first | (rw [if_pos (by decide +kernel)]; kernel_rfl) | (rw [if_neg (by decide +kernel)]; exact ⟨rfl, rfl⟩))
    (fun os started H enc _ => FnRunTold.lifted os started H enc)
#print axioms fnRunTold
end Go.Proofs.Ytaigoggoibdgbaa
