/- Proved: at every laws.Cond and every three texts the law FnExactCondLines answers true, so impl.CondLines answers as spec.CondLines, in memory of its own, behind another call too (the law itself passes texts beyond 1<<20 bytes by); no condition. -/
import Derived.Test.YthflflhcbnianaaCondS
import Derived.Test.YthflflhcbnianaaEqL12
import Derived.Test.YthflflhcbnianaaToCond
import Derived.Test.YthflflhcbnianaaOpenCond
import Derived.WalkKit
import Derived.ProofKit
import Derived.OpenShut
import Derived.ShutString
import Derived.ChangeOld
import Derived.Below
import Derived.Deep.RegionHeld3
import Derived.Deep.RegionWith
namespace Go.Proofs.Ythflflhcbnianaa.CondLines
open Go.ChangeShapes Go.WideShapes Go.ChangeAt Go.RowKit
open Go.ChangeMaps (open_string shut_string)
set_option linter.unusedVariables false

theorem own : ownKnob Try.prog.godebug = none := by kernel_rfl
theorem laidOut : laidOutB Try.prog = true := by kernel_rfl

set_option maxRecDepth 100000 in
set_option maxHeartbeats 4000000 in
theorem walk (ag mh ml cm vh vl : Int) (s1 s2 s3 : ByteArray) (w : World) : Calls Try.prog 3 #[.agg #[.int .i64 ag, .int .i64 mh, .int .i64 ml, .int .i64 cm, .int .i64 vh, .int .i64 vl], .string s1, .string s2, .string s3] w fun e w' => e = .returned (.bool true) ∧ Below w.heap.size w w' := by
  obtain ⟨L, hL⟩ : ∃ L, L = condL ⟨ag, mh, ml, cm, vh, vl⟩ s1 s2 s3 := ⟨_, rfl⟩
  have HL : Hid (L.length ≤ 9) := by rw [hL]; exact condL_len _ _ _ _
  have HS : Hid (s1.size ≤ 1048576 → ∀ W, Calls Try.prog 4 #[.agg #[.int .i64 ag, .int .i64 mh, .int .i64 ml, .int .i64 cm, .int .i64 vh, .int .i64 vl], .string s1, .string s2, .string s3] W fun e w' => ∃ v, e = .returned v ∧ OwnL w' W.heap.size v L ∧ Ext W w') := fun h W => by
    rw [hL]
    refine (sCondLines_any ag mh ml cm vh vl s1 s2 s3 W (by omega)).mono ?_
    rintro e w' ⟨a, cap, rfl, h1, h2⟩
    exact ⟨_, rfl, h1, h2⟩
  have HI : Hid (s1.size ≤ 1048576 → s2.size ≤ 1048576 → s3.size ≤ 1048576 → ∀ W, Calls Try.prog 6 #[.agg #[.int .i64 ag, .int .i64 mh, .int .i64 ml, .int .i64 cm, .int .i64 vh, .int .i64 vl], .string s1, .string s2, .string s3] W fun e w' => ∃ v, e = .returned v ∧ OwnL w' W.heap.size v L ∧ Ext W w') := fun h1 h2 h3 W => by
    rw [hL]; exact iCondLines_any ag mh ml cm vh vl s1 s2 s3 W (by omega) (by omega) (by omega)
  clear hL
  by_cases k1 : 1048576 < s1.size
  · have k1' : (s1.size : Int) > 1048576 := by omega
    clear HS HI HL
    go_enter Try.func3, Try.ntmps3
    go_wp2
    go_ret
    exact ⟨rfl, Ext.one _ _⟩
  by_cases k2 : 1048576 < s2.size
  · have k2' : (s2.size : Int) > 1048576 := by omega
    clear HS HI HL
    go_enter Try.func3, Try.ntmps3
    go_wp2
    go_ret
    exact ⟨rfl, Ext.one _ _⟩
  by_cases k3 : 1048576 < s3.size
  · have k3' : (s3.size : Int) > 1048576 := by omega
    clear HS HI HL
    go_enter Try.func3, Try.ntmps3
    go_wp2
    go_ret
    exact ⟨rfl, Ext.one _ _⟩
  have HS2 := HS.out (by omega)
  have HI2 : Hid (∀ W, Calls Try.prog 6 #[.agg #[.int .i64 ag, .int .i64 mh, .int .i64 ml, .int .i64 cm, .int .i64 vh, .int .i64 vl], .string s1, .string s2, .string s3] W fun e w' => ∃ v, e = .returned v ∧ OwnL w' W.heap.size v L ∧ Ext W w') := HI.out (by omega) (by omega) (by omega)
  have HS3 : Hid (∀ W, Calls Try.prog 4 #[.agg #[.int .i64 ag, .int .i64 mh, .int .i64 ml, .int .i64 cm, .int .i64 vh, .int .i64 vl], .string s1, .string s2, .string s3] W fun e w' => ∃ v, e = .returned v ∧ OwnL w' W.heap.size v L ∧ Ext W w') := HS2
  have k1' : ¬ ((s1.size : Int) > 1048576) := by omega
  have k2' : ¬ ((s2.size : Int) > 1048576) := by omega
  have k3' : ¬ ((s3.size : Int) > 1048576) := by omega
  clear HS HI HS2 k1 k2 k3
  go_enter Try.func3, Try.ntmps3
  go_wp2_with fail
  refine (toCond_any ag mh ml cm vh vl _).mono ?_
  rintro e w1 ⟨rfl, x1⟩
  have X1 : Hid (Ext (w.alloc (.cells #[.int .i64 ag, .int .i64 mh, .int .i64 ml, .int .i64 cm, .int .i64 vh, .int .i64 vl] 25)) w1) := x1
  clear x1
  go_wp2_with fail
  refine (HS3.out _).mono ?_
  rintro e w2 ⟨u, rfl, o2, x2⟩
  have X2 : Hid (Ext (w.alloc (.cells #[.int .i64 ag, .int .i64 mh, .int .i64 ml, .int .i64 cm, .int .i64 vh, .int .i64 vl] 25)) w2) := X1.out.trans x2
  have OU : Hid (OwnL w2 w1.heap.size u L) := o2
  have c2 := (CellsAt.new w [.int .i64 ag, .int .i64 mh, .int .i64 ml, .int .i64 cm, .int .i64 vh, .int .i64 vl] 25).step X2.out
  obtain ⟨q0, q1, q2, q3, q4, q5⟩ := (⟨c2.2 0 _ rfl, c2.2 1 _ rfl, c2.2 2 _ rfl, c2.2 3 _ rfl, c2.2 4 _ rfl, c2.2 5 _ rfl⟩ : _ ∧ _ ∧ _ ∧ _ ∧ _ ∧ _)
  clear x2 o2 c2 HS3 k1' k2' k3'
  go_wp2_with fail
  refine (toCond_any ag mh ml cm vh vl _).mono ?_
  rintro e w3 ⟨rfl, x3⟩
  have X3 : Hid (Ext (w.alloc (.cells #[.int .i64 ag, .int .i64 mh, .int .i64 ml, .int .i64 cm, .int .i64 vh, .int .i64 vl] 25)) w3) := X2.out.trans x3
  have OU3 : Hid (OwnL w3 w1.heap.size u L) := OU.out.ext x3
  have HU : Hid (∀ x, u.ownBlock = some x → x < w3.heap.size) := fun x hx => OU3.out.lt hx
  clear x3 q0 q1 q2 q3 q4 q5
  go_wp2_with fail
  refine (HI2.out _).mono ?_
  rintro e w4 ⟨v, rfl, o4, x4⟩
  have X4 : Hid (Ext (w.alloc (.cells #[.int .i64 ag, .int .i64 mh, .int .i64 ml, .int .i64 cm, .int .i64 vh, .int .i64 vl] 25)) w4) := X3.out.trans x4
  have OU4 : Hid (OwnL w4 w1.heap.size u L) := OU3.out.ext x4
  have OV4 : Hid (OwnL w4 w3.heap.size v L) := o4
  have HV : Hid (∀ x, v.ownBlock = some x → w3.heap.size ≤ x) := fun x hx => ownL_from OV4.out hx
  clear x4 o4 OU3 OU
  go_wp2_with fail
  refine (eq_own OV4.out OU4.out (by have := HL.out; omega)).mono ?_
  rintro e w5 ⟨rfl, x5⟩
  have X5 : Hid (Ext (w.alloc (.cells #[.int .i64 ag, .int .i64 mh, .int .i64 ml, .int .i64 cm, .int .i64 vh, .int .i64 vl] 25)) w5) := X4.out.trans x5
  have OU5 : Hid (OwnL w5 w1.heap.size u L) := OU4.out.ext x5
  have OV5 : Hid (OwnL w5 w3.heap.size v L) := OV4.out.ext x5
  clear x5 OU4 OV4 X4
  go_wp2_with fail
  obtain ⟨K, hK⟩ : ∃ K, K = L.length * 7 + 1 := ⟨_, rfl⟩
  have HM : Hid (∀ W, OwnL W w3.heap.size v L → Calls Try.prog 8 #[v, .int .i64 1] W fun e w' => e = .returned (.int .i64 (K : Int)) ∧ W.grownBy w' v.ownBlock ∧ Marked w' v L.length) := fun W h => by rw [hK]; exact mark_own h (by have := HL.out; omega)
  have HH : Hid (∀ W, Marked W v L.length → Calls Try.prog 9 #[v, .int .i64 1] W fun e w' => e = .returned (.int .i64 (K : Int)) ∧ Ext W w') := fun W h => by rw [hK]; exact held_own h (by have := HL.out; omega)
  have hK1 : 1 ≤ K ∧ K ≤ 100 := by have := HL.out; omega
  clear hK
  refine (HM.out _ OV5.out).mono ?_
  rintro e w6 ⟨rfl, g6, m6⟩
  have X6 : Hid (Ext (w.alloc (.cells #[.int .i64 ag, .int .i64 mh, .int .i64 ml, .int .i64 cm, .int .i64 vh, .int .i64 vl] 25)) w6) := X5.out.grown g6 (fun x hx => Nat.le_trans X3.out.size (HV.out x hx))
  have OU6 : Hid (OwnL w6 w1.heap.size u L) := OU5.out.far g6 HV.out HU.out
  have M6 : Hid (Marked w6 v L.length) := m6
  clear g6 m6 OU5 OV5 X5 HM
  go_wp2_with fail
  refine (HH.out _ M6.out).mono ?_
  rintro e w7 ⟨rfl, x7⟩
  have X7 : Hid (Ext (w.alloc (.cells #[.int .i64 ag, .int .i64 mh, .int .i64 ml, .int .i64 cm, .int .i64 vh, .int .i64 vl] 25)) w7) := X6.out.trans x7
  have OU7 : Hid (OwnL w7 w1.heap.size u L) := OU6.out.ext x7
  have M7 : Hid (Marked w7 v L.length) := M6.out.ext x7
  have c7 := (CellsAt.new w [.int .i64 ag, .int .i64 mh, .int .i64 ml, .int .i64 cm, .int .i64 vh, .int .i64 vl] 25).step X7.out
  obtain ⟨q0, q1, q2, q3, q4, q5⟩ := (⟨c7.2 0 _ rfl, c7.2 1 _ rfl, c7.2 2 _ rfl, c7.2 3 _ rfl, c7.2 4 _ rfl, c7.2 5 _ rfl⟩ : _ ∧ _ ∧ _ ∧ _ ∧ _ ∧ _)
  clear x7 OU6 M6 X6 c7
  have b1 : ¬ (K : Int) < 0 := by omega
  have b2 : ((K : Int) == (K : Int)) = true := by simp
  go_wp2_with fail
  refine (toCond_any ag mh ml cm vh vl _).mono ?_
  rintro e w8 ⟨rfl, x8⟩
  have X8 : Hid (Ext (w.alloc (.cells #[.int .i64 ag, .int .i64 mh, .int .i64 ml, .int .i64 cm, .int .i64 vh, .int .i64 vl] 25)) w8) := X7.out.trans x8
  have OU8 : Hid (OwnL w8 w1.heap.size u L) := OU7.out.ext x8
  have M8 : Hid (Marked w8 v L.length) := M7.out.ext x8
  clear x8 q0 q1 q2 q3 q4 q5 OU7 M7 X7
  go_wp2_with fail
  refine (HI2.out _).mono ?_
  rintro e w9 ⟨z, rfl, o9, x9⟩
  have X9 : Hid (Ext (w.alloc (.cells #[.int .i64 ag, .int .i64 mh, .int .i64 ml, .int .i64 cm, .int .i64 vh, .int .i64 vl] 25)) w9) := X8.out.trans x9
  have OU9 : Hid (OwnL w9 w1.heap.size u L) := OU8.out.ext x9
  have M9 : Hid (Marked w9 v L.length) := M8.out.ext x9
  have OZ9 : Hid (OwnL w9 w8.heap.size z L) := o9
  clear x9 o9 OU8 M8 X8 HI2
  go_wp2_with fail
  refine (eq_own OZ9.out OU9.out (by have := HL.out; omega)).mono ?_
  rintro e w10 ⟨rfl, x10⟩
  have X10 : Hid (Ext (w.alloc (.cells #[.int .i64 ag, .int .i64 mh, .int .i64 ml, .int .i64 cm, .int .i64 vh, .int .i64 vl] 25)) w10) := X9.out.trans x10
  have M10 : Hid (Marked w10 v L.length) := M9.out.ext x10
  clear x10 OU9 M9 X9 OZ9
  go_wp2_with fail
  refine (HH.out _ M10.out).mono ?_
  rintro e w11 ⟨rfl, x11⟩
  have X11 : Hid (Ext w w11) := (Ext.one w _).trans (X10.out.trans x11)
  clear x11 M10 X10
  go_wp2
  go_ret
  exact ⟨rfl, X11.out⟩

set_option maxRecDepth 100000 in
theorem lifted (os : Os) (started : os.Started) (H : Type) (enc : TypeId × Value → H) :
    ReturnsInHanded {} Try.checked os 3 .any (Rows.fnExactCondLinesSpec.pre6 enc Try.prog Try.f3 Rows.fnExactCondLinesRow.domain false) (Rows.fnExactCondLinesSpec.post enc Try.prog Try.f3 false true false false) := by
  refine returnsInHanded_of_change (C := Try.checked) own started (by kernel_rfl) Try.func3
    (ChangeSpec.witness6 (enc := enc) (C := Try.checked) false ⟨#[], #[.agg #[.int .i64 0, .int .i64 0, .int .i64 0, .int .i64 0, .int .i64 0, .int .i64 0], .string ⟨#[]⟩, .string ⟨#[]⟩, .string ⟨#[]⟩], []⟩ 8 (by kernel_rfl) (by kernel_rfl) (by kernel_rfl) (by kernel_rfl)) ?_
  intro W base args ds gs before hval0 hW hcnd _
  have hval : ∀ (j : Nat) t v, Try.f3.params[j]? = some t → args[j]? = some v → Value.okWide Try.prog W .any base t v := hval0
  have hW' := hW
  obtain ⟨p, q, hA0, hV, rfl, hfz, hnd⟩ := hW
  have hA : DataW.TrodAll enc Try.prog W 0 (fun _ => true) true Try.f3.params.toList args.toList ds p := hA0
  rw [Try.params3] at hA hval
  obtain ⟨v0, vs0, d0, ds0, p0, q0, hargs, rfl, rfl, h0, r0⟩ := trodAll_cons hA
  obtain ⟨v1, vs1, d1, ds1, p1, q1, rfl, rfl, rfl, h1, r1⟩ := trodAll_cons r0
  obtain ⟨v2, vs2, d2, ds2, p2, q2, rfl, rfl, rfl, h2, r2⟩ := trodAll_cons r1
  obtain ⟨v3, vs3, d3, ds3, p3, q3, rfl, rfl, rfl, h3, r3⟩ := trodAll_cons r2
  obtain ⟨rfl, rfl, rfl⟩ := trodAll_nil r3
  obtain rfl : args = #[v0, v1, v2, v3] := by cases args; simp_all
  obtain ⟨rfl, rfl⟩ := trodVars_none hV
  have lt0 : ∀ x ∈ p0, x.block < W.heap.size := by obtain ⟨m, hm⟩ := h0; exact DataW.trod_lt m _ _ _ hm
  obtain ⟨ca0, cb0, cc0, cd0, ce0, cf0, rfl⟩ := open_cond (hval 0 25 v0 rfl rfl) h0
  obtain ⟨s1, rfl, rfl, rfl, w1⟩ := open_string Try.underlying9 (hval 1 9 v1 rfl rfl) h1
  obtain ⟨s2, rfl, rfl, rfl, w2⟩ := open_string Try.underlying9 (hval 2 9 v2 rfl rfl) h2
  obtain ⟨s3, rfl, rfl, rfl, w3⟩ := open_string Try.underlying9 (hval 3 9 v3 rfl rfl) h3
  clear hA0 hval0
  refine (walk ca0 cb0 cc0 cd0 ce0 cf0 s1 s2 s3 W ).mono fun e W' ⟨he, bel⟩ => ?_
  subst he
  exact ⟨_, rfl, _, _, _, [], _, [], hW', trodAll_mk1 (shut_bool Try.underlying4 _), (trodAll_cons_mk (Below.trod laidOut (by kernel_rfl) (of_decide_eq_true (by kernel_rfl)) h0 bel lt0) (trodAll_cons_mk (shut_string Try.underlying9 w1) (trodAll_cons_mk (shut_string Try.underlying9 w2) (trodAll_cons_mk (shut_string Try.underlying9 w3) trodAll_mk0)))), rfl, bel.frame _, fun h => by cases h⟩

end Go.Proofs.Ythflflhcbnianaa.CondLines
namespace Go.Proofs.Ythflflhcbnianaa
open Go.ChangeShapes Go.WideShapes Go.ChangeAt Go.RowKit

theorem condLines : Rows.FnExactCondLinesSaid :=
  OpenClaim.holds_of_wide 3 Try.f3 rfl rfl rfl rfl rfl rfl rfl ⟨rfl, rfl, rfl, rfl, rfl⟩ rfl rfl rfl rfl rfl (by kernel_rfl) Try.func3 (by kernel_rfl)
    (of_decide_eq_true (by kernel_rfl)) (by unfold Func.isWrapper; first | (rw [if_pos (by decide +kernel)]; kernel_rfl) | (rw [if_neg (by decide +kernel)]; exact ⟨rfl, rfl⟩))
    (fun os started H enc _ => CondLines.lifted os started H enc)
#print axioms condLines
end Go.Proofs.Ythflflhcbnianaa
