/- Proved: at every code the law FnActions answers true: of two drawn results impl's Stricter answers one of them, whose action is the lesser, whichever is first, of like ones the first; ResultOf, ActionIn and ActionName of what is drawn answer as spec's; no condition. -/
import Derived.Test.YtopjfeafcbpefaaNameIS
import Derived.Test.YtopjfeafcbpefaaDrawAct
import Derived.WalkKit
import Derived.ProofKit
import Derived.OpenShut
import Derived.ShutString
import Derived.ChangeOld
import Derived.Below
import Derived.Deep.RegionHeld3
import Derived.Deep.RegionWith
namespace Go.Proofs.Ytopjfeafcbpefaa.FnActions
open Go.ChangeShapes Go.WideShapes Go.ChangeAt Go.RowKit
open Go.ChangeMaps (open_string shut_string)
set_option linter.unusedVariables false

theorem own : ownKnob Try.prog.godebug = none := by kernel_rfl
theorem laidOut : laidOutB Try.prog = true := by kernel_rfl

theorem act_pair (a b : Int) : actV (strV b a) = actV (strV a b) ∧ actV (strV a b) ≤ actV a ∧ actV (strV a b) ≤ actV b := by
  unfold strV
  split <;> split <;> omega

theorem strV_self (a : Int) : strV a a = a := by unfold strV; split <;> rfl

theorem strV_I64 {a b : Int} (ha : I64 a) (hb : I64 b) : I64 (strV a b) := by unfold strV; split <;> assumption

set_option maxRecDepth 100000 in
set_option maxHeartbeats 6400000 in
theorem walk (a : Option Addr) (len cap : Nat) (w : World) (raw : Raw w a len) : Calls Try.prog 3 #[.slice a len cap] w fun e w' => e = .returned (.bool true) ∧ Below w.heap.size w w' := by
  by_cases hbig : 1048576 < len
  · go_enter Try.func3, Try.ntmps3
    go_wp2_with (go_at_call 8; refine (big_yes _ _ _ _ hbig).mono ?_; rintro e w' ⟨rfl, rfl⟩)
    go_ret
    exact ⟨rfl, Below.refl _ _⟩
  have HC : Hid (Came w a len) := ⟨by omega, raw⟩
  have hl : len ≤ 1048576 := by omega
  clear raw hbig
  go_enter Try.func3, Try.ntmps3
  go_wp2_with fail
  refine (big_no a len cap _ hl).mono ?_
  rintro e w' ⟨rfl, rfl⟩
  go_wp2_with fail
  refine (drawStricter_any a len cap _ HC.out).mono ?_
  rintro e w1 ⟨x, y, hx, hy, rfl, e1⟩
  have HX : Hid (I64 x) := hx
  have HY : Hid (I64 y) := hy
  have E1 : Hid (Ext w w1) := e1
  clear hx hy e1
  obtain ⟨z, hz⟩ : ∃ z, z = strV x y := ⟨_, rfl⟩
  obtain ⟨u, hu⟩ : ∃ u, u = strV y x := ⟨_, rfl⟩
  have HZ : Hid (I64 z) := by rw [hz]; exact strV_I64 HX.out HY.out
  have HU : Hid (I64 u) := by rw [hu]; exact strV_I64 HY.out HX.out
  have SXY : Hid (∀ W : World, Calls Try.prog 10 #[.int .i64 x, .int .i64 y] W fun e w' => e = .returned (.int .i64 z) ∧ W = w') := fun W => by rw [hz]; exact iStricter_any x y W HX.out HY.out
  have SYX : Hid (∀ W : World, Calls Try.prog 10 #[.int .i64 y, .int .i64 x] W fun e w' => e = .returned (.int .i64 u) ∧ W = w') := fun W => by rw [hu]; exact iStricter_any y x W HY.out HX.out
  have SXX : Hid (∀ W : World, Calls Try.prog 10 #[.int .i64 x, .int .i64 x] W fun e w' => e = .returned (.int .i64 x) ∧ W = w') := fun W => by have := iStricter_any x x W HX.out HX.out; rw [strV_self] at this; exact this
  obtain ⟨ax, hax⟩ : ∃ k, k = actV x := ⟨_, rfl⟩
  obtain ⟨ay, hay⟩ : ∃ k, k = actV y := ⟨_, rfl⟩
  obtain ⟨az, haz⟩ : ∃ k, k = actV z := ⟨_, rfl⟩
  have l1 : az ≤ ax := by rw [haz, hax, hz]; exact (act_pair x y).2.1
  have l2 : az ≤ ay := by rw [haz, hay, hz]; exact (act_pair x y).2.2
  have AX : Hid (∀ W : World, Calls Try.prog 15 #[.int .i64 x] W fun e w' => e = .returned (.int .i64 ax) ∧ W = w') := fun W => by rw [hax]; exact iActionIn_any x W HX.out
  have AY : Hid (∀ W : World, Calls Try.prog 15 #[.int .i64 y] W fun e w' => e = .returned (.int .i64 ay) ∧ W = w') := fun W => by rw [hay]; exact iActionIn_any y W HY.out
  have AZ : Hid (∀ W : World, Calls Try.prog 15 #[.int .i64 z] W fun e w' => e = .returned (.int .i64 az) ∧ W = w') := fun W => by rw [haz]; exact iActionIn_any z W HZ.out
  have AU : Hid (∀ W : World, Calls Try.prog 15 #[.int .i64 u] W fun e w' => e = .returned (.int .i64 az) ∧ W = w') := fun W => by rw [haz, hz, ← (act_pair x y).1, ← hu]; exact iActionIn_any u W HU.out
  have A4 : Hid (∀ W : World, Calls Try.prog 15 #[.int .i64 262221] W fun e w' => e = .returned (.int .i64 4) ∧ W = w') := fun W => iActionIn_any 262221 W ⟨by omega, by omega⟩
  have R4 : Hid (∀ W : World, Calls Try.prog 12 #[.int .i64 4, .int .i64 77] W fun e w' => e = .returned (.int .i64 262221) ∧ W = w') := fun W => iResultOf_any 4 77 W
  have hxy : z = x ∨ z = y := by rw [hz]; unfold strV; split <;> simp
  have ob : (z == x || z == y) = true := by simpa using hxy
  clear hz hu hax hay haz hxy HX HY HZ HU
  go_wp2_with fail
  refine (SXY.out _).mono ?_
  rintro e w' ⟨rfl, rfl⟩
  go_wp2_with fail
  refine (drawResultOf_any a len cap _ (HC.out.below E1.out)).mono ?_
  rintro e w2 ⟨r, s, rfl, e2⟩
  have E2 : Hid (Ext w w2) := E1.out.trans e2
  clear e2 E1
  go_wp2_with fail
  refine (iResultOf_any r s _).mono ?_
  rintro e w' ⟨rfl, rfl⟩
  go_wp2_with fail
  refine (drawActionIn_any a len cap _ (HC.out.below E2.out)).mono ?_
  rintro e w3 ⟨n, hn, rfl, e3⟩
  have HN : Hid (I64 n) := hn
  have E3 : Hid (Ext w w3) := E2.out.trans e3
  clear e3 E2 hn
  go_wp2_with fail
  refine (drawActionName_any a len cap _ (HC.out.below E3.out)).mono ?_
  rintro e w4 ⟨m, rfl, e4⟩
  have E4 : Hid (Ext w w4) := E3.out.trans e4
  clear e4 E3 HC
  obtain ⟨nm, hnm⟩ : ∃ nm, nm = nameV m := ⟨_, rfl⟩
  have IN : Hid (∀ W : World, Calls Try.prog 18 #[.int .i64 m] W fun e w' => e = .returned (.string nm) ∧ W = w') := fun W => by rw [hnm]; exact iName_any m W
  have SN : Hid (∀ W : World, Calls Try.prog 19 #[.int .i64 m] W fun e w' => e = .returned (.string nm) ∧ Ext W w') := fun W => by rw [hnm]; exact sName_any m W
  clear hnm
  cases hzx : (z == x)
  · have hzy : (z == y) = true := by rw [hzx] at ob; simpa using ob
    clear ob
    go_wp2_with fail
    refine (AZ.out _).mono ?_
    rintro e w' ⟨rfl, rfl⟩
    go_wp2_with fail
    refine (AX.out _).mono ?_
    rintro e w' ⟨rfl, rfl⟩
    go_wp2_with fail
    refine (AZ.out _).mono ?_
    rintro e w' ⟨rfl, rfl⟩
    go_wp2_with fail
    refine (AY.out _).mono ?_
    rintro e w' ⟨rfl, rfl⟩
    go_wp2_with fail
    refine (SYX.out _).mono ?_
    rintro e w' ⟨rfl, rfl⟩
    go_wp2_with fail
    refine (AU.out _).mono ?_
    rintro e w' ⟨rfl, rfl⟩
    go_wp2_with fail
    refine (AZ.out _).mono ?_
    rintro e w' ⟨rfl, rfl⟩
    go_wp2_with fail
    refine (sResultOf_any r s _).mono ?_
    rintro e w' ⟨rfl, rfl⟩
    go_wp2_with fail
    refine (iActionIn_any n _ HN.out).mono ?_
    rintro e w' ⟨rfl, rfl⟩
    go_wp2_with fail
    refine (sActionIn_any n _ HN.out).mono ?_
    rintro e w' ⟨rfl, rfl⟩
    go_wp2_with fail
    refine (IN.out _).mono ?_
    rintro e w' ⟨rfl, rfl⟩
    go_wp2_with fail
    refine (SN.out _).mono ?_
    rintro e w5 ⟨rfl, e5⟩
    have E5 : Hid (Ext w w5) := E4.out.trans e5
    clear e5 E4
    go_wp2_with fail
    refine (R4.out _).mono ?_
    rintro e w' ⟨rfl, rfl⟩
    go_wp2_with fail
    refine (A4.out _).mono ?_
    rintro e w' ⟨rfl, rfl⟩
    go_wp2_with fail
    refine (SXX.out _).mono ?_
    rintro e w' ⟨rfl, rfl⟩
    go_wp2
    go_ret
    exact ⟨rfl, E5.out⟩
  · clear ob
    go_wp2_with fail
    refine (AZ.out _).mono ?_
    rintro e w' ⟨rfl, rfl⟩
    go_wp2_with fail
    refine (AX.out _).mono ?_
    rintro e w' ⟨rfl, rfl⟩
    go_wp2_with fail
    refine (AZ.out _).mono ?_
    rintro e w' ⟨rfl, rfl⟩
    go_wp2_with fail
    refine (AY.out _).mono ?_
    rintro e w' ⟨rfl, rfl⟩
    go_wp2_with fail
    refine (SYX.out _).mono ?_
    rintro e w' ⟨rfl, rfl⟩
    go_wp2_with fail
    refine (AU.out _).mono ?_
    rintro e w' ⟨rfl, rfl⟩
    go_wp2_with fail
    refine (AZ.out _).mono ?_
    rintro e w' ⟨rfl, rfl⟩
    go_wp2_with fail
    refine (sResultOf_any r s _).mono ?_
    rintro e w' ⟨rfl, rfl⟩
    go_wp2_with fail
    refine (iActionIn_any n _ HN.out).mono ?_
    rintro e w' ⟨rfl, rfl⟩
    go_wp2_with fail
    refine (sActionIn_any n _ HN.out).mono ?_
    rintro e w' ⟨rfl, rfl⟩
    go_wp2_with fail
    refine (IN.out _).mono ?_
    rintro e w' ⟨rfl, rfl⟩
    go_wp2_with fail
    refine (SN.out _).mono ?_
    rintro e w5 ⟨rfl, e5⟩
    have E5 : Hid (Ext w w5) := E4.out.trans e5
    clear e5 E4
    go_wp2_with fail
    refine (R4.out _).mono ?_
    rintro e w' ⟨rfl, rfl⟩
    go_wp2_with fail
    refine (A4.out _).mono ?_
    rintro e w' ⟨rfl, rfl⟩
    go_wp2_with fail
    refine (SXX.out _).mono ?_
    rintro e w' ⟨rfl, rfl⟩
    go_wp2
    go_ret
    exact ⟨rfl, E5.out⟩

set_option maxRecDepth 100000 in
theorem lifted (os : Os) (started : os.Started) (H : Type) (enc : TypeId × Value → H) :
    ReturnsInHanded {} Try.checked os 3 .any (Rows.fnActionsSpec.pre6 enc Try.prog Try.f3 Rows.fnActionsRow.domain false) (Rows.fnActionsSpec.post enc Try.prog Try.f3 false true false false) := by
  refine returnsInHanded_of_change (C := Try.checked) own started (by kernel_rfl) Try.func3
    (ChangeSpec.witness6 (enc := enc) (C := Try.checked) false ⟨#[], #[.slice none 0 0], []⟩ 8 (by kernel_rfl) (by kernel_rfl) (by kernel_rfl) (by kernel_rfl)) ?_
  intro W base args ds gs before hval0 hW hcnd _
  have hval : ∀ (j : Nat) t v, Try.f3.params[j]? = some t → args[j]? = some v → Value.okWide Try.prog W .any base t v := hval0
  have hW' := hW
  obtain ⟨p, q, hA0, hV, rfl, hfz, hnd⟩ := hW
  have hA : DataW.TrodAll enc Try.prog W 0 (fun _ => true) true Try.f3.params.toList args.toList ds p := hA0
  rw [Try.params3] at hA hval
  obtain ⟨v0, vs0, d0, ds0, p0, q0, hargs, rfl, rfl, h0, r0⟩ := trodAll_cons hA
  obtain ⟨rfl, rfl, rfl⟩ := trodAll_nil r0
  obtain rfl : args = #[v0] := by cases args; simp_all
  obtain ⟨rfl, rfl⟩ := trodVars_none hV
  have lt0 : ∀ x ∈ p0, x.block < W.heap.size := by obtain ⟨m, hm⟩ := h0; exact DataW.trod_lt m _ _ _ hm
  obtain ⟨a0, len0, cap0, rfl⟩ := okWide_slice Try.underlying22 (hval 0 22 v0 rfl rfl)
  have raw0 : Raw W a0 len0 := by
    obtain ⟨fuel, hf⟩ := h0
    rcases open_ints Try.underlying22 Try.underlying5 (by kernel_rfl) hf with ⟨hcs, _⟩ | ⟨x, l, c, zs, hcs, _, hl, hm, hz, _, hcell, hwz⟩
    · simp [Value.cells] at hcs
      obtain ⟨rfl, rfl, rfl⟩ := hcs
      intro h; omega
    · simp [Value.cells] at hcs
      obtain ⟨rfl, rfl, rfl⟩ := hcs
      have hz' : zs.length = cap0 := by simpa using hz
      intro hpos
      obtain ⟨b, off, spot⟩ := x
      have hspot : spot = none := by simpa [Addr.add] using World.cell?_spot (hcell 0 (by omega))
      subst hspot
      refine ⟨b, off, rfl, fun j hj => ?_⟩
      have hj' : j < zs.length := by omega
      have hw := hwz _ (List.getElem_mem hj')
      have hb := bounds_u8 hw
      refine ⟨(zs[j]).toNat, by omega, ?_⟩
      have := hcell j hj'
      rw [Addr.add_lit] at this
      rw [this, List.getD_eq_getElem?_getD, List.getElem?_eq_getElem hj']
      simp only [Option.getD_some]
      congr 2
      omega
  clear hA0 hval0
  refine (walk a0 len0 cap0 W raw0).mono fun e W' ⟨he, bel⟩ => ?_
  subst he
  exact ⟨_, rfl, _, _, _, [], _, [], hW', trodAll_mk1 (shut_bool Try.underlying4 _), (trodAll_cons_mk (Below.trod laidOut (by kernel_rfl) (of_decide_eq_true (by kernel_rfl)) h0 bel lt0) trodAll_mk0), rfl, bel.frame _, fun h => by cases h⟩

end Go.Proofs.Ytopjfeafcbpefaa.FnActions
namespace Go.Proofs.Ytopjfeafcbpefaa
open Go.ChangeShapes Go.WideShapes Go.ChangeAt Go.RowKit

theorem fnActions : Rows.FnActionsSaid :=
  OpenClaim.holds_of_wide 3 Try.f3 rfl rfl rfl rfl rfl rfl rfl ⟨rfl, rfl, rfl, rfl, rfl⟩ rfl rfl rfl rfl rfl (by kernel_rfl) Try.func3 (by kernel_rfl)
    (of_decide_eq_true (by kernel_rfl)) (by unfold Func.isWrapper; first | (rw [if_pos (by decide +kernel)]; kernel_rfl) | (rw [if_neg (by decide +kernel)]; exact ⟨rfl, rfl⟩))
    (fun os started H enc _ => FnActions.lifted os started H enc)
#print axioms fnActions
end Go.Proofs.Ytopjfeafcbpefaa
