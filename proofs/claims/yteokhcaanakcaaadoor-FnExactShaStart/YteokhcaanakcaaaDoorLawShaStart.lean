/- Proved: the law FnExactShaStart answers true, so impl.ShaStart answers as spec.ShaStart, in memory of its own, behind another call too; the card ties the program's table of 8 words that the row lists to the program's text; no other condition. -/
import Derived.Test.YteokhcaanakcaaaDoorCards
import Derived.Test.YteokhcaanakcaaaDoorTie
import Derived.Test.YteokhcaanakcaaaDoorStartIS
import Derived.Test.YteokhcaanakcaaaDoorTabLaid
import Derived.WalkKit
import Derived.WalkSmall
import Derived.ProofKit
import Derived.OpenShut
import Derived.ShutString
import Derived.ChangeOld
import Derived.ChangeVars
import Derived.OpenVars
import Derived.Below
import Derived.Deep.DeepHandedRow
import Derived.Lib.LaidTab
namespace Go.Proofs.YteokhcaanakcaaaDoor.ShaStart
open Go.ChangeShapes Go.WideShapes Go.ChangeAt Go.RowKit
open Go.ChangeMaps (open_string shut_string)
set_option linter.unusedVariables false

theorem own : ownKnob Tryd.prog.godebug = none := by kernel_rfl
theorem laidOut : laidOutB Tryd.prog = true := by kernel_rfl

/-- The row's list gives the tables' cells. -/
theorem table {W : World} (h0 : laidMetH Tryd.prog Rows.fnExactShaStartRow.laid W) : TabB W := by
  have h : laidMet Tryd.prog Rows.fnExactShaStartRow.laid W := h0
  exact tabB_of h (by simp [Rows.fnExactShaStartRow])

set_option maxRecDepth 100000 in
set_option maxHeartbeats 1000000 in
theorem walk (w : World) (hT : TabB w) :
    Calls Tryd.prog 5 #[] w fun e w' => e = .returned (.bool true) ∧ Below w.heap.size w w' := by
  have HT : Hid (TabB w) := hT
  clear hT
  obtain ⟨zs, hzs⟩ : ∃ zs, zs = toZ begin8.list := ⟨_, rfl⟩
  have hzl : zs.length ≤ 1048576 := by rw [hzs]; decide
  go_enter Tryd.func5, Tryd.ntmps5
  go_wp2_with fail
  refine (sStart_any _).mono ?_
  rintro e w1 ⟨g0, v0, rfl, hg0, o0, b1⟩
  go_wp2_with fail
  refine (iStart_any _ (HT.out.below b1 HT.out.pos)).mono ?_
  rintro e w2 ⟨g1, v1, rfl, hg1, o1, b2⟩
  rw [← hzs] at o0 o1
  have k0 := o0.2.1
  have k1 := o1.2.1
  have p0 := o0.below b2 k0
  have c2 : Below w.heap.size w w2 := b1.trans (b2.mono b1.size)
  have hg1w : w.heap.size ≤ g1 := by have := b1.size; omega
  have h01 : g0 < g1 := by omega
  clear o0 b1 b2 k0
  go_wp2_with fail
  refine (eqIntS_same g1 g0 v1 v0 zs _ hzl o1 p0).mono ?_
  rintro e w3 ⟨rfl, n3, hw3⟩
  have o3 : OwnI w3 g1 v1 zs := by rw [hw3]; exact o1.drewN n3
  have p3 : OwnI w3 g0 v0 zs := by rw [hw3]; exact p0.drewN n3
  have c3 : Below w.heap.size w w3 := by rw [hw3]; exact ⟨c2.os, c2.tape, c2.output, c2.size, c2.block⟩
  clear hw3 o1 p0 c2 k1
  go_wp2_with fail
  refine (markIntS_any g1 v1 zs _ hzl o3).mono ?_
  rintro e w4 ⟨rfl, o4, b4, s4, f4⟩
  obtain ⟨N, hN⟩ : ∃ N, N = zs.length := ⟨_, rfl⟩
  have hNl : N ≤ 1048576 := by omega
  rw [← hN] at o4 ⊢
  have p4 : OwnI w4 g0 v0 zs := p3.block (f4 g0 (by omega)) (by omega)
  have c4 : Below w.heap.size w w4 := c3.trans (b4.mono hg1w)
  have HN : Hid (N = zs.length) := hN
  clear o3 p3 c3 b4 s4 f4 hN
  have tN : ¬ ((N : Int) + 1 < 0) := by omega
  go_wp2_with fail
  refine (heldIntS_any g1 v1 N _ hNl o4).mono ?_
  rintro e w5 ⟨rfl, rfl⟩
  go_wp2_with fail
  refine (iStart_any _ (HT.out.below c4 HT.out.pos)).mono ?_
  rintro e w6 ⟨g2, v2, rfl, hg2, o6, b6⟩
  rw [← hzs] at o6
  have q4 := o4.2.1
  have r4 := p4.2.1
  have o5 := o4.below b6 q4
  have p5 := p4.below b6 r4
  have c6 : Below w.heap.size w w6 := c4.trans (b6.mono c4.size)
  clear o4 p4 c4 b6 q4 r4
  go_wp2_with fail
  refine (eqIntS_same g2 g0 v2 v0 zs _ hzl o6 p5).mono ?_
  rintro e w7 ⟨rfl, n7, hw7⟩
  have o7 : OwnI w7 g1 v1 (marks 1 N) := by rw [hw7]; exact o5.drewN n7
  have c7 : Below w.heap.size w w7 := by rw [hw7]; exact ⟨c6.os, c6.tape, c6.output, c6.size, c6.block⟩
  clear hw7 o5 p5 c6 o6
  go_wp2_with fail
  refine (heldIntS_any g1 v1 N _ hNl o7).mono ?_
  rintro e w8 ⟨rfl, rfl⟩
  go_wp2
  go_ret
  exact ⟨rfl, c7⟩

theorem contract (H : Type) (enc : TypeId × Value → H) (W : World) (base : Nat) (args : Array Value) (ds gs : List (DataW H)) (before : List MemPlace)
    (hval : ∀ (j : Nat) t v, Tryd.f5.params[j]? = some t → args[j]? = some v → Value.okWide Tryd.prog W .any base t v)
    (hW : DataW.Whole enc Tryd.prog Tryd.f5.params.toList Rows.fnExactShaStartSpec.vars false W args.toList ds gs before) (hL : laidMetH Tryd.prog Rows.fnExactShaStartRow.laid W) :
    Calls Tryd.prog 5 args W fun e W' => ∃ v, e = .returned v ∧ Rows.fnExactShaStartSpec.post enc Tryd.prog Tryd.f5 false true false false W args v W' := by
  have hW' := hW
  obtain ⟨p, q, hA0, hV, rfl, hfz, hnd⟩ := hW
  have hA : DataW.TrodAll enc Tryd.prog W 0 (fun _ => true) true Tryd.f5.params.toList args.toList ds p := hA0
  rw [Tryd.params5] at hA hval
  obtain ⟨hargs, rfl, rfl⟩ := trodAll_nil hA
  obtain rfl : args = #[] := by cases args; simp_all
  have hV0 := hV
  obtain ⟨gi, gt, gcs, gfuel, gd, gp, rfl, _, _, _, _, _⟩ := trodVars_one hV0
  clear hA0
  have ht := table hL
  refine (walk  W  ht).mono fun e W' ⟨he, bel⟩ => ?_
  subst he
  exact ⟨_, rfl, _, _, _, [], _, q, hW', trodAll_mk1 (shut_bool Tryd.underlying4 _), trodAll_mk0, bel.trodVars laidOut (by kernel_rfl) hV, bel.frame _, fun h => by cases h⟩

/-- A listed table's cells. -/
def tabCells : DataW Unit → Array Value
  | .agg l => (l.map fun | .lit (.int k n) => Value.int k n | _ => Value.int .i64 0).toArray
  | _ => #[]
def setCells (cs : Array Value) : Obj → Obj
  | .cells _ t fr => .cells cs t fr
  | o => o
/-- A world in which the table holds what its initialiser lays. -/
def withTabs (w : World) : World := { w with heap := (w.heap.modify 0 (setCells (tabCells Rows.laid_loop_example_g00397_impl_shaBegin))).modify 1 (setCells (tabCells Rows.laid_loop_example_g00397_impl_shaRounds)) }

theorem laid_met (os : Os) : laidMet Tryd.prog Rows.fnExactShaStartRow.laid ((withTabs (World.holding Tryd.prog os ⟨#[], #[], []⟩)).forCall (fun _ _ => 0) ⟨#[], #[], []⟩).memory :=
  laidMet_of_run' 8 (by kernel_rfl) (by kernel_rfl)
theorem reads (os : Os) {H : Type} (enc : TypeId × Value → H) : ∃ places, DataW.whole enc Tryd.prog ((withTabs (World.holding Tryd.prog os ⟨#[], #[], []⟩)).forCall (fun _ _ => 0) ⟨#[], #[], []⟩).memory Tryd.f5.params.toList Rows.fnExactShaStartSpec.vars false #[].toList 8 = some ([], [Rows.laid_loop_example_g00397_impl_shaBegin], places) :=
  ⟨MemPlace.row ⟨0, 0, none⟩ 8, by kernel_rfl⟩

set_option maxRecDepth 100000 in
theorem lifted (os : Os) (started : os.Started) (H : Type) (enc : TypeId × Value → H) (F : Stop.Interp) :
    ReturnsInHanded {} Tryd.checked os 5 .any ((OpenSpec.ofChange Rows.fnExactShaStartSpec).preRow enc Tryd.prog Tryd.f5 Rows.fnExactShaStartRow.domain false Rows.fnExactShaStartRow.laid) (((OpenSpec.ofChange Rows.fnExactShaStartSpec).at F).post enc Tryd.prog Tryd.f5 false true false false) := by
  obtain ⟨places, hx⟩ := reads os enc
  refine returnsInHanded_of_row (C := Tryd.checked) (s := OpenSpec.ofChange Rows.fnExactShaStartSpec) own started (by kernel_rfl) Tryd.func5
    (witness_row_at (enc := enc) (C := Tryd.checked) false (withTabs (World.holding Tryd.prog os ⟨#[], #[], []⟩)) #[] rfl (by kernel_rfl) (by kernel_rfl) (by kernel_rfl)
      (OpenSpec.preRow_of_cond 8 hx (by kernel_rfl) (fun k hk => by cases hk) (by kernel_rfl) (laid_met os))) ?_
  intro W base args ds gs before hval hW _ _ _ hL _ _
  exact contract H enc W base args ds gs before hval hW hL

theorem said : Rows.FnExactShaStartSaid :=
  OpenClaim.holds_of_cond 5 Tryd.f5 rfl rfl rfl rfl rfl rfl rfl ⟨rfl, rfl, rfl, rfl, rfl⟩ rfl rfl rfl rfl rfl (by kernel_rfl) Tryd.func5 (by kernel_rfl)
    (of_decide_eq_true (by kernel_rfl)) (by unfold Func.isWrapper; first | (rw [if_pos (by decide +kernel)]; kernel_rfl) | (rw [if_neg (by decide +kernel)]; exact ⟨rfl, rfl⟩))
    (fun os started H enc _ F => by rw [OpenClaim.pre_eq_preRow]; exact lifted os started H enc F)

theorem plain (f : FuncId) (fn : Func) (hf : Tryd.pinned.checked.prog.funcNamed "loop.example/g00397/laws.FnExactShaStart" = some f) (hfn : Tryd.pinned.checked.prog.funcs[f]? = some fn) :
    false = Tryd.pinned.checked.prog.looks [] ∧ ∀ (j : Nat) t, fn.params[j]? = some t → Tryd.pinned.checked.prog.wantsStandIn t = false := by
  obtain rfl : f = 5 := Option.some.inj ((show Tryd.prog.funcNamed "loop.example/g00397/laws.FnExactShaStart" = some 5 by kernel_rfl).symm.trans hf) |>.symm
  obtain rfl : fn = Tryd.f5 := (Option.some.inj (Tryd.func5.symm.trans hfn)).symm
  refine ⟨by kernel_rfl, fun j t ht => ?_⟩
  rw [Tryd.params5] at ht
  simp at ht

end Go.Proofs.YteokhcaanakcaaaDoor.ShaStart
namespace Go.Proofs.YteokhcaanakcaaaDoor
open Go.ChangeShapes Go.WideShapes Go.ChangeAt Go.RowKit

theorem shaStart_card : Rows.FnExactShaStartCardSaid :=
  Claim7.holds_tied_plain_at .later [] _ _ _ _ ShaStart.said (fun _ h => by cases h) (by kernel_rfl) (fun _ h => by cases h) fnExactShaStart_row_tie rfl ⟨rfl, rfl⟩ (by kernel_rfl) rfl ShaStart.plain (by kernel_rfl)
#print axioms shaStart_card
end Go.Proofs.YteokhcaanakcaaaDoor
