/- Proved: at every list of ints and every text the law FnExactShaBlock answers true, so impl.ShaBlock answers as spec.ShaBlock, writes into no argument and keeps nothing of one, and its answer owns its memory; the card ties the program's table of 64 words that the row lists to the program's text; no other condition. -/
import Derived.Test.YteokhcaanakcaaaDoorCards
import Derived.Test.YteokhcaanakcaaaDoorTie
import Derived.Test.YteokhcaanakcaaaDoorShaBlkI
import Derived.Test.YteokhcaanakcaaaDoorShaBlkS
import Derived.Test.YteokhcaanakcaaaDoorToIntS
import Derived.Test.YteokhcaanakcaaaDoorTabLaid
import Derived.WalkKit
import Derived.WalkSmall
import Derived.ProofKit
import Derived.OpenShut
import Derived.ShutString
import Derived.ChangeOld
import Derived.ChangeVars
import Derived.OpenVars
import Derived.Below
import Derived.Deep.DeepHandedRow
import Derived.Lib.LaidTab
namespace Go.Proofs.YteokhcaanakcaaaDoor.ShaBlock
open Go.ChangeShapes Go.WideShapes Go.ChangeAt Go.RowKit
open Go.ChangeMaps (open_string shut_string)
set_option linter.unusedVariables false

theorem own : ownKnob Tryd.prog.godebug = none := by kernel_rfl
theorem laidOut : laidOutB Tryd.prog = true := by kernel_rfl

/-- The row's list gives the tables' cells. -/
theorem table {W : World} (h0 : laidMetH Tryd.prog Rows.fnExactShaBlockRow.laid W) : TabK W := by
  have h : laidMet Tryd.prog Rows.fnExactShaBlockRow.laid W := h0
  exact tabK_of h (by simp [Rows.fnExactShaBlockRow])

set_option maxRecDepth 100000 in
set_option maxHeartbeats 2000000 in
theorem walk (a : Option Addr) (cap : Nat) (zs : List Int) (s : ByteArray) (w : World) (hA : ArgI w a zs) (hT : TabK w) :
    Calls Tryd.prog 4 #[.slice a zs.length cap, .string s] w fun e w' => e = .returned (.bool true) ∧ Below w.heap.size w w' := by
  by_cases hbig : 1048576 < zs.length
  · have tb : (1048576 : Int) < (zs.length : Int) := by omega
    go_enter Tryd.func4, Tryd.ntmps4
    go_wp2
    go_ret
    exact ⟨rfl, Below.refl _ _⟩
  · have tb : ¬ ((1048576 : Int) < (zs.length : Int)) := by omega
    by_cases hbig2 : 1048576 < s.size
    · go_enter Tryd.func4, Tryd.ntmps4
      go_wp2
      go_ret
      exact ⟨rfl, Below.refl _ _⟩
    · have hl : zs.length ≤ 1048576 := by omega
      have hs : s.size ≤ 1048576 := by omega
      have H0 : Hid (ArgI w a zs ∧ TabK w) := ⟨hA, hT⟩
      clear hA hT
      obtain ⟨S, hS⟩ : ∃ S, S = shaZ zs s.data.toList := ⟨_, rfl⟩
      have hSl : S.length ≤ 1048576 := by
        rw [hS]
        unfold shaZ
        split
        · rw [toZ_length]; exact (by decide : 8 ≤ 1048576)
        · exact hl
      go_enter Tryd.func4, Tryd.ntmps4
      go_wp2_with fail
      refine (toIntS_any a cap zs _ hl H0.out.1).mono ?_
      rintro e w1 ⟨g1, v1, rfl, hg1, o1, b1⟩
      go_wp2_with fail
      refine (sBlk_any g1 v1 zs s _ hl hs o1).mono ?_
      rintro e w2 ⟨gW, vW, rfl, hgW, oW, b2⟩
      rw [← hS] at oW
      have c2 : Below w.heap.size w w2 := b1.trans (b2.mono b1.size)
      clear o1 b2
      have s1 := b1.size
      clear b1
      go_wp2_with fail
      refine (toIntS_any a cap zs _ hl (H0.out.1.below c2)).mono ?_
      rintro e w3 ⟨gX, vX, rfl, hgX, oX, b3⟩
      have kW := oW.2.1
      have oW3 := oW.below b3 kW
      have c3 : Below w.heap.size w w3 := c2.trans (b3.mono c2.size)
      have hWX : gW < gX := by omega
      have hXw : w.heap.size ≤ gX := by have := c2.size; omega
      clear oW b3 c2 hgX kW hgW
      go_wp2_with fail
      refine (iBlk_any gX vX zs s _ hl hs oX (H0.out.2.below c3 H0.out.2.pos)).mono ?_
      rintro e w4 ⟨gG, vG, rfl, hgG, oG, b4⟩
      rw [← hS] at oG
      have kX := oX.2.1
      have oX4 := oX.below b4 kX
      have oW4 := oW3.below b4 (by omega)
      have c4 : Below w.heap.size w w4 := c3.trans (b4.mono c3.size)
      have hXG : gX < gG := by omega
      have hGw : w.heap.size ≤ gG := by omega
      clear oX oW3 b4 c3 hgG kX
      go_wp2_with fail
      refine (eqIntS_same gG gW vG vW S _ hSl oG oW4).mono ?_
      rintro e w5 ⟨rfl, n5, hw5⟩
      have oG5 : OwnI w5 gG vG S := by rw [hw5]; exact oG.drewN n5
      have oW5 : OwnI w5 gW vW S := by rw [hw5]; exact oW4.drewN n5
      have oX5 : OwnI w5 gX vX zs := by rw [hw5]; exact oX4.drewN n5
      have c5 : Below w.heap.size w w5 := by rw [hw5]; exact ⟨c4.os, c4.tape, c4.output, c4.size, c4.block⟩
      clear hw5 oG oW4 oX4 c4
      go_wp2_with fail
      refine (toIntS_any a cap zs _ hl (H0.out.1.below c5)).mono ?_
      rintro e w6 ⟨gY, vY, rfl, hgY, oY, b6⟩
      have kG := oG5.2.1
      have oG6 := oG5.below b6 kG
      have oW6 := oW5.below b6 (by omega)
      have oX6 := oX5.below b6 (by omega)
      have c6 : Below w.heap.size w w6 := c5.trans (b6.mono c5.size)
      have hGY : gG < gY := by omega
      clear oG5 oW5 oX5 c5 b6 hgY kG
      go_wp2_with fail
      refine (eqIntS_same gX gY vX vY zs _ hl oX6 oY).mono ?_
      rintro e w7 ⟨rfl, n7, hw7⟩
      have oG7 : OwnI w7 gG vG S := by rw [hw7]; exact oG6.drewN n7
      have oW7 : OwnI w7 gW vW S := by rw [hw7]; exact oW6.drewN n7
      have oX7 : OwnI w7 gX vX zs := by rw [hw7]; exact oX6.drewN n7
      have c7 : Below w.heap.size w w7 := by rw [hw7]; exact ⟨c6.os, c6.tape, c6.output, c6.size, c6.block⟩
      clear hw7 oG6 oW6 oX6 c6 oY
      go_wp2_with fail
      refine (markIntS_any gX vX zs _ hl oX7).mono ?_
      rintro e w8 ⟨rfl, _, b8, s8, f8⟩
      have oG8 : OwnI w8 gG vG S := oG7.block (f8 gG (by omega)) (by omega)
      have oW8 : OwnI w8 gW vW S := oW7.block (f8 gW (by omega)) (by omega)
      have c8 : Below w.heap.size w w8 := c7.trans (b8.mono hXw)
      clear oG7 oW7 oX7 c7 b8 s8 f8
      have tk : decide ((zs.length : Int) + 1 < 0) = false := by rw [decide_eq_false_iff_not]; omega
      go_wp2_with fail
      refine (eqIntS_same gG gW vG vW S _ hSl oG8 oW8).mono ?_
      rintro e w9 ⟨rfl, n9, hw9⟩
      have oG9 : OwnI w9 gG vG S := by rw [hw9]; exact oG8.drewN n9
      have oW9 : OwnI w9 gW vW S := by rw [hw9]; exact oW8.drewN n9
      have c9 : Below w.heap.size w w9 := by rw [hw9]; exact ⟨c8.os, c8.tape, c8.output, c8.size, c8.block⟩
      clear hw9 oG8 oW8 c8
      go_wp2_with fail
      refine (markIntS_any gG vG S _ hSl oG9).mono ?_
      rintro e wa ⟨rfl, oGa, ba, sa, fa⟩
      have oWa : OwnI wa gW vW S := oW9.block (fa gW (by omega)) (by omega)
      have ca : Below w.heap.size w wa := c9.trans (ba.mono hGw)
      clear oG9 oW9 c9 ba sa fa
      have tm : ¬ ((S.length : Int) + 1 < 0) := by omega
      go_wp2_with fail
      refine (heldIntS_any gG vG S.length _ hSl oGa).mono ?_
      rintro e wb ⟨rfl, rfl⟩
      go_wp2_with fail
      refine (toIntS_any a cap zs _ hl (H0.out.1.below ca)).mono ?_
      rintro e wb ⟨gZ, vZ, rfl, hgZ, oZ, bb⟩
      have kGa := oGa.2.1
      have oGb := oGa.below bb kGa
      have oWb := oWa.below bb (by omega)
      have cb : Below w.heap.size w wb := ca.trans (bb.mono ca.size)
      clear oGa oWa ca bb hgZ kGa
      go_wp2_with fail
      refine (iBlk_any gZ vZ zs s _ hl hs oZ (H0.out.2.below cb H0.out.2.pos)).mono ?_
      rintro e wc ⟨gH, vH, rfl, hgH, oH, bc⟩
      rw [← hS] at oH
      have kGb := oGb.2.1
      have oGc := oGb.below bc kGb
      have oWc := oWb.below bc (by omega)
      have cc : Below w.heap.size w wc := cb.trans (bc.mono cb.size)
      clear oGb oWb cb bc hgH kGb oZ
      go_wp2_with fail
      refine (eqIntS_same gH gW vH vW S _ hSl oH oWc).mono ?_
      rintro e wd ⟨rfl, nd, hwd⟩
      have oGd : OwnI wd gG vG (marks 1 S.length) := by rw [hwd]; exact oGc.drewN nd
      have cd : Below w.heap.size w wd := by rw [hwd]; exact ⟨cc.os, cc.tape, cc.output, cc.size, cc.block⟩
      clear hwd oGc oWc cc oH
      go_wp2_with fail
      refine (heldIntS_any gG vG S.length _ hSl oGd).mono ?_
      rintro e we ⟨rfl, rfl⟩
      go_wp2
      go_ret
      exact ⟨rfl, cd⟩

theorem contract (H : Type) (enc : TypeId × Value → H) (W : World) (base : Nat) (args : Array Value) (ds gs : List (DataW H)) (before : List MemPlace)
    (hval : ∀ (j : Nat) t v, Tryd.f4.params[j]? = some t → args[j]? = some v → Value.okWide Tryd.prog W .any base t v)
    (hW : DataW.Whole enc Tryd.prog Tryd.f4.params.toList Rows.fnExactShaBlockSpec.vars false W args.toList ds gs before) (hL : laidMetH Tryd.prog Rows.fnExactShaBlockRow.laid W) :
    Calls Tryd.prog 4 args W fun e W' => ∃ v, e = .returned v ∧ Rows.fnExactShaBlockSpec.post enc Tryd.prog Tryd.f4 false true false false W args v W' := by
  have hW' := hW
  obtain ⟨p, q, hA0, hV, rfl, hfz, hnd⟩ := hW
  have hA : DataW.TrodAll enc Tryd.prog W 0 (fun _ => true) true Tryd.f4.params.toList args.toList ds p := hA0
  rw [Tryd.params4] at hA hval
  obtain ⟨v0, vs0, d0, ds0, p0, q0, hargs, rfl, rfl, h0, r0⟩ := trodAll_cons hA
  obtain ⟨v1, vs1, d1, ds1, p1, q1, e1, rfl, rfl, h1, r1⟩ := trodAll_cons r0
  obtain ⟨rfl, rfl, rfl⟩ := trodAll_nil r1
  obtain rfl : args = #[v0, v1] := by cases args; simp_all
  have hV0 := hV
  obtain ⟨gi, gt, gcs, gfuel, gd, gp, rfl, _, _, _, _, _⟩ := trodVars_one hV0
  obtain ⟨a0, len0, cap0, rfl⟩ := okWide_slice Tryd.underlying24 (hval 0 24 v0 rfl rfl)
  have k0 := h0
  have lt0 : ∀ x ∈ p0, x.block < W.heap.size := by obtain ⟨m, hm⟩ := k0; exact DataW.trod_lt m _ _ _ hm
  have argi0 : ∃ zs : List Int, zs.length = len0 ∧ ArgI W a0 zs := by
    obtain ⟨fuel, hf⟩ := h0
    rcases open_ints Tryd.underlying24 Tryd.underlying3 (by kernel_rfl) hf with ⟨hcs, _⟩ | ⟨x, l, c, zs, hcs, _, hl, hm, hz, _, hcell, hwz⟩
    · simp [Value.cells] at hcs
      obtain ⟨rfl, rfl, rfl⟩ := hcs
      exact ⟨[], rfl, fun h => by simp at h⟩
    · simp [Value.cells] at hcs
      obtain ⟨rfl, rfl, rfl⟩ := hcs
      have hz' : zs.length = cap0 := by simpa using hz
      have htl : (zs.take len0).length = len0 := by rw [List.length_take]; omega
      refine ⟨zs.take len0, htl, fun hpos => ?_⟩
      rw [htl] at hpos
      obtain ⟨b, off, spot⟩ := x
      have hspot : spot = none := by simpa [Addr.add] using World.cell?_spot (hcell 0 (by omega))
      subst hspot
      have hc0 := hcell 0 (by omega)
      rw [Addr.add_lit] at hc0
      refine ⟨b, off, rfl, World.block_lt_of_cell? W _ hc0, fun j hj => ?_⟩
      rw [htl] at hj
      have := hcell j (by omega)
      rw [Addr.add_lit] at this
      rw [this, List.getD_eq_getElem?_getD, List.getD_eq_getElem?_getD, List.getElem?_take, if_pos hj]
  obtain ⟨zs0, hzl0, hai0⟩ := argi0
  subst hzl0
  obtain ⟨a1, rfl, rfl, rfl, w1⟩ := open_string Tryd.underlying9 (hval 1 9 v1 rfl rfl) h1
  clear hA0
  have ht := table hL
  refine (walk a0 cap0 zs0 a1 W hai0 ht).mono fun e W' ⟨he, bel⟩ => ?_
  subst he
  exact ⟨_, rfl, _, _, _, [], _, q, hW', trodAll_mk1 (shut_bool Tryd.underlying4 _), (trodAll_cons_mk (Below.trod laidOut (by kernel_rfl) (of_decide_eq_true (by kernel_rfl)) k0 bel lt0) (trodAll_cons_mk (shut_string Tryd.underlying9 w1) trodAll_mk0)), bel.trodVars laidOut (by kernel_rfl) hV, bel.frame _, fun h => by cases h⟩

/-- A listed table's cells. -/
def tabCells : DataW Unit → Array Value
  | .agg l => (l.map fun | .lit (.int k n) => Value.int k n | _ => Value.int .i64 0).toArray
  | _ => #[]
def setCells (cs : Array Value) : Obj → Obj
  | .cells _ t fr => .cells cs t fr
  | o => o
/-- A world in which the table holds what its initialiser lays. -/
def withTabs (w : World) : World := { w with heap := (w.heap.modify 0 (setCells (tabCells Rows.laid_loop_example_g00397_impl_shaBegin))).modify 1 (setCells (tabCells Rows.laid_loop_example_g00397_impl_shaRounds)) }

theorem laid_met (os : Os) : laidMet Tryd.prog Rows.fnExactShaBlockRow.laid ((withTabs (World.holding Tryd.prog os ⟨#[], #[], []⟩)).forCall (fun _ _ => 0) ⟨#[], #[.slice none 0 0, .string ⟨#[]⟩], []⟩).memory :=
  laidMet_of_run' 8 (by kernel_rfl) (by kernel_rfl)
theorem reads (os : Os) {H : Type} (enc : TypeId × Value → H) : ∃ places, DataW.whole enc Tryd.prog ((withTabs (World.holding Tryd.prog os ⟨#[], #[], []⟩)).forCall (fun _ _ => 0) ⟨#[], #[.slice none 0 0, .string ⟨#[]⟩], []⟩).memory Tryd.f4.params.toList Rows.fnExactShaBlockSpec.vars false #[Value.slice none 0 0, Value.string ⟨#[]⟩].toList 8 = some ([.nil, .lit (.string [])], [Rows.laid_loop_example_g00397_impl_shaRounds], places) :=
  ⟨MemPlace.row ⟨1, 0, none⟩ 64, by kernel_rfl⟩

set_option maxRecDepth 100000 in
theorem lifted (os : Os) (started : os.Started) (H : Type) (enc : TypeId × Value → H) (F : Stop.Interp) :
    ReturnsInHanded {} Tryd.checked os 4 .any ((OpenSpec.ofChange Rows.fnExactShaBlockSpec).preRow enc Tryd.prog Tryd.f4 Rows.fnExactShaBlockRow.domain false Rows.fnExactShaBlockRow.laid) (((OpenSpec.ofChange Rows.fnExactShaBlockSpec).at F).post enc Tryd.prog Tryd.f4 false true false false) := by
  obtain ⟨places, hx⟩ := reads os enc
  refine returnsInHanded_of_row (C := Tryd.checked) (s := OpenSpec.ofChange Rows.fnExactShaBlockSpec) own started (by kernel_rfl) Tryd.func4
    (witness_row_at (enc := enc) (C := Tryd.checked) false (withTabs (World.holding Tryd.prog os ⟨#[], #[], []⟩)) #[.slice none 0 0, .string ⟨#[]⟩] rfl (by kernel_rfl) (by kernel_rfl) (by kernel_rfl)
      (OpenSpec.preRow_of_cond 8 hx (by kernel_rfl) (fun k hk => by cases hk) (by kernel_rfl) (laid_met os))) ?_
  intro W base args ds gs before hval hW _ _ _ hL _ _
  exact contract H enc W base args ds gs before hval hW hL

theorem said : Rows.FnExactShaBlockSaid :=
  OpenClaim.holds_of_cond 4 Tryd.f4 rfl rfl rfl rfl rfl rfl rfl ⟨rfl, rfl, rfl, rfl, rfl⟩ rfl rfl rfl rfl rfl (by kernel_rfl) Tryd.func4 (by kernel_rfl)
    (of_decide_eq_true (by kernel_rfl)) (by unfold Func.isWrapper; first | (rw [if_pos (by decide +kernel)]; kernel_rfl) | (rw [if_neg (by decide +kernel)]; exact ⟨rfl, rfl⟩))
    (fun os started H enc _ F => by rw [OpenClaim.pre_eq_preRow]; exact lifted os started H enc F)

theorem plain (f : FuncId) (fn : Func) (hf : Tryd.pinned.checked.prog.funcNamed "loop.example/g00397/laws.FnExactShaBlock" = some f) (hfn : Tryd.pinned.checked.prog.funcs[f]? = some fn) :
    false = Tryd.pinned.checked.prog.looks [] ∧ ∀ (j : Nat) t, fn.params[j]? = some t → Tryd.pinned.checked.prog.wantsStandIn t = false := by
  obtain rfl : f = 4 := Option.some.inj ((show Tryd.prog.funcNamed "loop.example/g00397/laws.FnExactShaBlock" = some 4 by kernel_rfl).symm.trans hf) |>.symm
  obtain rfl : fn = Tryd.f4 := (Option.some.inj (Tryd.func4.symm.trans hfn)).symm
  refine ⟨by kernel_rfl, fun j t ht => ?_⟩
  rw [Tryd.params4] at ht
  have hm := Array.mem_of_getElem? ht
  simp at hm
  rcases hm with rfl | rfl
  · exact (show Tryd.prog.wantsStandIn 24 = false by kernel_rfl)
  · exact (show Tryd.prog.wantsStandIn 9 = false by kernel_rfl)

end Go.Proofs.YteokhcaanakcaaaDoor.ShaBlock
namespace Go.Proofs.YteokhcaanakcaaaDoor
open Go.ChangeShapes Go.WideShapes Go.ChangeAt Go.RowKit

theorem shaBlock_card : Rows.FnExactShaBlockCardSaid :=
  Claim7.holds_tied_plain_at .later [] _ _ _ _ ShaBlock.said (fun _ h => by cases h) (by kernel_rfl) (fun _ h => by cases h) fnExactShaBlock_row_tie rfl ⟨rfl, rfl⟩ (by kernel_rfl) rfl ShaBlock.plain (by kernel_rfl)
#print axioms shaBlock_card
end Go.Proofs.YteokhcaanakcaaaDoor
