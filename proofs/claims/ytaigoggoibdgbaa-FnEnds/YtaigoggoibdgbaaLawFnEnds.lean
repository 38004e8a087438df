/- Proved: at every code the law FnEnds answers true: a drawn program is let by by impl.CheckProgram as by spec.CheckProgram; where it is, impl.Run of it and a drawn right call ends with the K of one of its OpRet words, the words done at least 1 and no more than it has, and impl.Reached has as many flags as words, the first true; no condition. -/
import Derived.Test.YtaigoggoibdgbaaDraw7
import Derived.Test.YtaigoggoibdgbaaReachIS
import Derived.WalkKit
import Derived.ProofKit
import Derived.OpenShut
import Derived.ShutString
import Derived.ChangeOld
import Derived.Below
import Derived.Deep.RegionHeld3
import Derived.Deep.RegionWith
namespace Go.Proofs.Ytaigoggoibdgbaa.FnEnds
open Go.ChangeShapes Go.WideShapes Go.ChangeAt Go.RowKit
open Go.ChangeMaps (open_string shut_string)
set_option linter.unusedVariables false

theorem own : ownKnob Try.prog.godebug = none := by kernel_rfl
theorem laidOut : laidOutB Try.prog = true := by kernel_rfl

theorem some_next {ws : List Wd} {res : Int} {k : Nat} {z z' : Bool} (h : z = true ↔ ∃ j, j < k ∧ (ws.getD j zeroW).1 = 8 ∧ (ws.getD j zeroW).2.1 = res) (h' : z' = true ↔ (z = true ∨ ((ws.getD k zeroW).1 = 8 ∧ (ws.getD k zeroW).2.1 = res))) : z' = true ↔ ∃ j, j < k + 1 ∧ (ws.getD j zeroW).1 = 8 ∧ (ws.getD j zeroW).2.1 = res := by
  rw [h', h]
  refine ⟨fun x => ?_, fun ⟨j, hj, hr⟩ => ?_⟩
  · rcases x with ⟨j, hj, hr⟩ | hr
    · exact ⟨j, by omega, hr⟩
    · exact ⟨k, by omega, hr⟩
  · by_cases hjk : j = k
    · rw [hjk] at hr; exact .inr hr
    · exact .inl ⟨j, by omega, hr⟩

set_option maxRecDepth 100000 in
set_option maxHeartbeats 6400000 in
theorem walk (a : Option Addr) (len cap : Nat) (w : World) (raw : Raw w a len) : Calls Try.prog 3 #[.slice a len cap] w fun e w' => e = .returned (.bool true) ∧ Below w.heap.size w w' := by
  by_cases hbig : 1048576 < len
  · go_enter Try.func3, Try.ntmps3
    go_wp2_with (go_at_call 8; refine (big_yes _ _ _ _ hbig).mono ?_; rintro e w' ⟨rfl, rfl⟩)
    go_ret
    exact ⟨rfl, Below.refl _ _⟩
  have HC : Hid (Came w a len) := ⟨by omega, raw⟩
  have hl : len ≤ 1048576 := by omega
  clear raw hbig
  go_enter Try.func3, Try.ntmps3
  go_wp2_with fail
  refine (big_no a len cap _ hl).mono ?_
  rintro e w' ⟨rfl, rfl⟩
  go_wp2_with fail
  refine (drawProg_any a len cap _ HC.out).mono ?_
  rintro e w1 ⟨v1, ws, rfl, ⟨pa, pc, rfl, hpc, hpw⟩, _, h2, h13, e1⟩
  obtain ⟨n, hn⟩ : ∃ n, n = ws.length := ⟨_, rfl⟩
  have hwl : ws.length ≤ 1048576 := by omega
  have HP : Hid (∀ w', Ext w1 w' → Words w' pa ws) := fun w' he => hpw.ext he
  have CI : Hid (∀ w', Ext w1 w' → Calls Try.prog 11 #[.slice pa n pc] w' fun e w2 => e = .returned (.bool (checkP ws)) ∧ Ext w' w2) := fun w' he => by rw [hn]; exact iCheck_any pa pc ws w' hwl hpc (hpw.ext he)
  have CS : Hid (∀ w', Ext w1 w' → Calls Try.prog 12 #[.slice pa n pc] w' fun e w2 => e = .returned (.bool (checkP ws)) ∧ Ext w' w2) := fun w' he => by rw [hn]; exact sCheck_any pa pc ws w' hwl (hpw.ext he)
  have RI : Hid (∀ (arch num : Int) (cs : List (Int × Int)) (v : Value) (res : Int) (mm : Nat) w', Ext w1 w' → cs.length ≤ 1048576 → RepCall arch num cs v w' → RunR ws arch num cs res mm → Calls Try.prog 13 #[.slice pa n pc, v] w' fun e w2 => e = .returned (.tuple #[.int .i64 res, .int .i64 (mm : Int)]) ∧ Ext w' w2) := fun arch num cs v res mm w' he hcl hr hres => by rw [hn]; exact iRun_any pa pc ws arch num cs v res mm w' hwl hpc (hpw.ext he) hcl hr hres
  have SI : Hid (∀ w', Ext w1 w' → Calls Try.prog 14 #[.slice pa n pc] w' fun e w2 => ∃ v, e = .returned v ∧ RepB w'.heap.size (reachP ws) v w2 ∧ Ext w' w2) := fun w' he => by rw [hn]; exact iReached_any pa pc ws w' hwl hpc (hpw.ext he)
  have HN : Hid (n = ws.length) := hn
  have E1 : Hid (Ext w w1) := e1
  have hn2 : 2 ≤ n := by omega
  have hn13 : n ≤ 13 := by omega
  rw [← hn]
  clear hpw hpc hn hwl h2 h13 e1
  go_wp2_with fail
  refine (drawCall_any a len cap _ (HC.out.below E1.out)).mono ?_
  rintro e w2 ⟨arch, num, cs, v2, hcb, rfl, hrn, x2⟩
  have hr2 := hrn.rep
  have hcl : cs.length ≤ 1048576 := by
    have := hcb
    unfold callB at this
    simp only [Bool.and_eq_true, decide_eq_true_eq] at this
    omega
  obtain ⟨ca, cc, rfl, hcw⟩ := hr2
  obtain ⟨cl, hcl'⟩ : ∃ cl, cl = cs.length := ⟨_, rfl⟩
  have HR : Hid (∀ w', Ext w2 w' → RepCall arch num cs (.agg #[.int .i64 arch, .int .i64 num, .slice ca cl cc]) w') := fun w' he => ⟨ca, cc, by rw [hcl'], hcw.below he (Nat.le_refl _)⟩
  have HCB : Hid (callB arch num cs = true ∧ cs.length ≤ 1048576) := ⟨hcb, hcl⟩
  have E2 : Hid (Ext w w2 ∧ Ext w1 w2) := ⟨E1.out.trans x2, x2⟩
  have B2 : Hid (CellsAt (w2.alloc (.cells #[.int .i64 arch, .int .i64 num, .slice ca cl cc] 28)) w2.heap.size [.int .i64 arch, .int .i64 num, .slice ca cl cc]) := CellsAt.new w2 [.int .i64 arch, .int .i64 num, .slice ca cl cc] 28
  rw [← hcl']
  clear hrn hcb hcl hcl' hcw x2 HC E1
  cases hck : checkP ws
  · rw [hck] at CI CS
    go_wp2_with fail
    refine (CI.out _ (E2.out.2.alloc _)).mono ?_
    rintro e w3 ⟨rfl, e3⟩
    have E3 : Hid (Ext w w3 ∧ Ext w1 w3) := ⟨(E2.out.1.alloc _).trans e3, (E2.out.2.alloc _).trans e3⟩
    clear e3
    go_wp2_with fail
    refine (CS.out _ E3.out.2).mono ?_
    rintro e w4 ⟨rfl, e4⟩
    have E4 : Hid (Ext w w4) := E3.out.1.trans e4
    clear e4
    go_wp2
    go_ret
    exact ⟨rfl, E4.out⟩
  rw [hck] at CI CS
  obtain ⟨res, mm, hres⟩ := runR_some ws arch num cs
  have hrun : ∃ f, Runs ws (fieldR arch num cs) f 0 0 0 res mm := by
    rcases hres with ⟨_, _, h⟩ | ⟨h, _⟩
    · exact h
    · rcases h with h | h
      · rw [hck] at h; cases h
      · rw [HCB.out.1] at h; cases h
  obtain ⟨f, hf⟩ := hrun
  obtain ⟨hm1, hm2, hj⟩ := runs_bound _ hck f 0 0 0 res mm (by have := HN.out; omega) hf
  have hmn : (mm : Int) ≤ (n : Int) := by have := HN.out; omega
  have hm1' : (1 : Int) ≤ (mm : Int) := by omega
  have HJ : Hid (∃ j, j < n ∧ (ws.getD j zeroW).1 = 8 ∧ (ws.getD j zeroW).2.1 = res) := by
    obtain ⟨j, h1, h2, h3⟩ := hj
    exact ⟨j, by have := HN.out; omega, h2, h3.symm⟩
  have HRES : Hid (RunR ws arch num cs res mm) := hres
  have HB : Hid (reachP ws = reachAt ws n ∧ (reachAt ws n).getD 0 false = true ∧ (reachAt ws n).length = n) := ⟨by rw [reachP_yes hck, HN.out], reachAt_head (by have := HN.out; omega) n, by rw [reachAt_length, HN.out]⟩
  clear hf hj hres hm1 hm2
  go_wp2_with fail
  refine (CI.out _ (E2.out.2.alloc _)).mono ?_
  rintro e w3 ⟨rfl, e3⟩
  have E3 : Hid (Ext w w3 ∧ Ext w1 w3 ∧ Ext w2 w3) := ⟨(E2.out.1.alloc _).trans e3, (E2.out.2.alloc _).trans e3, (Ext.one _ _).trans e3⟩
  have B3 : Hid (CellsAt w3 w2.heap.size [.int .i64 arch, .int .i64 num, .slice ca cl cc]) := B2.out.step e3
  obtain ⟨q1, q2, q3⟩ := (⟨B3.out.2 0 _ rfl, B3.out.2 1 _ rfl, B3.out.2 2 _ rfl⟩ : _ ∧ _ ∧ _)
  clear e3 E2 B2 CI
  go_wp2_with fail
  refine (RI.out arch num cs _ res mm _ E3.out.2.1 HCB.out.2 (HR.out _ E3.out.2.2) HRES.out).mono ?_
  rintro e w4 ⟨rfl, e4⟩
  have E4 : Hid (Ext w w4 ∧ Ext w1 w4) := ⟨E3.out.1.trans e4, E3.out.2.1.trans e4⟩
  clear e4 E3 B3 q1 q2 q3 RI HR HRES
  go_wp2_with fail
  go_loopw [7, 8] (fun v7 v8 wr => ∃ (z : Bool) (k : Nat), v7 = .bool z ∧ v8 = .int .i64 k ∧ k ≤ n ∧ Hid (wr = w4 ∧ (z = true ↔ ∃ j, j < k ∧ (ws.getD j zeroW).1 = 8 ∧ (ws.getD j zeroW).2.1 = res))) (fun _ v8 _ => n - (intOf v8).toNat)
  case atStart => exact ⟨false, 0, rfl, rfl, by omega, rfl, ⟨fun h => by simp at h, fun ⟨j, hj, _⟩ => by omega⟩⟩
  case round =>
    obtain ⟨z, k, rfl, rfl, hk, HK⟩ := hrel
    have hw4 := HK.out.1
    subst hw4
    by_cases hlt : k < n
    · have bk : (k : Int) < (n : Int) := by omega
      obtain ⟨⟨o, kk, y, nn⟩, hp⟩ : ∃ p, p = ws.getD k zeroW := ⟨_, rfl⟩
      have HPP : Hid ((o, kk, y, nn) = ws.getD k zeroW) := hp
      obtain ⟨b, off, rfl, c0, c1, c2, c3⟩ := (HP.out _ E4.out.2).quad (k := k) (by have := HN.out; omega) hp
      simp only at c0 c1 c2 c3
      clear hp
      cases z
      · by_cases h8 : o = 8
        · subst h8
          obtain ⟨zz, hzz⟩ : ∃ zz, zz = (kk == res) := ⟨_, rfl⟩
          have hzz' : (kk == res) = zz := hzz.symm
          have HS : Hid (zz = true ↔ ∃ j, j < k + 1 ∧ (ws.getD j zeroW).1 = 8 ∧ (ws.getD j zeroW).2.1 = res) := by
            refine some_next HK.out.2 ?_
            rw [← HPP.out, hzz]
            simp
          clear hzz
          go_wp2
          go_roundw
          case rel => exact ⟨zz, k + 1, rfl, by go_num, by omega, trivial, HS.out⟩
          case measure => simp [intOf]; omega
        · have q8 : (o == 8) = false := by simpa using h8
          have HS : Hid (false = true ↔ ∃ j, j < k + 1 ∧ (ws.getD j zeroW).1 = 8 ∧ (ws.getD j zeroW).2.1 = res) := by
            refine some_next HK.out.2 ?_
            rw [← HPP.out]
            simp [h8]
          clear h8
          go_wp2
          go_roundw
          case rel => exact ⟨false, k + 1, rfl, by go_num, by omega, trivial, HS.out⟩
          case measure => simp [intOf]; omega
      · have HS : Hid (true = true ↔ ∃ j, j < k + 1 ∧ (ws.getD j zeroW).1 = 8 ∧ (ws.getD j zeroW).2.1 = res) := by
          refine some_next HK.out.2 ?_
          simp
        go_wp2
        go_roundw
        case rel => exact ⟨true, k + 1, rfl, by go_num, by omega, trivial, HS.out⟩
        case measure => simp [intOf]; omega
    · have hkn : k = n := by omega
      have bk : ¬ ((k : Int) < (n : Int)) := by omega
      obtain rfl : z = true := by
        refine HK.out.2.2 ?_
        rw [hkn]
        exact HJ.out
      clear hkn
      go_wp2_with fail
      refine (SI.out _ E4.out.2).mono ?_
      rintro e w5 ⟨v5, rfl, ⟨a5, c5, rfl, hb5⟩, e5⟩
      have E5 : Hid (Ext w w5 ∧ Ext w1 w5) := ⟨E4.out.1.trans e5, E4.out.2.trans e5⟩
      rw [HB.out.1, HB.out.2.2] at hb5
      obtain ⟨g5, rfl, _, hbb⟩ := hb5 (by omega)
      have d0 := (hbb.2 0 (by rw [HB.out.2.2]; omega)).1
      rw [HB.out.2.1] at d0
      have HLL : Hid ((reachP ws).length = n) := by unfold Hid; rw [HB.out.1]; exact HB.out.2.2
      rw [HLL.out]
      clear e5 hbb E4
      go_wp2_with fail
      refine (CS.out _ E5.out.2).mono ?_
      rintro e w6 ⟨rfl, e6⟩
      have E6 : Hid (Ext w w6) := E5.out.1.trans e6
      clear e6
      go_wp2
      go_ret
      exact ⟨rfl, E6.out⟩

set_option maxRecDepth 100000 in
theorem lifted (os : Os) (started : os.Started) (H : Type) (enc : TypeId × Value → H) :
    ReturnsInHanded {} Try.checked os 3 .any (Rows.fnEndsSpec.pre6 enc Try.prog Try.f3 Rows.fnEndsRow.domain false) (Rows.fnEndsSpec.post enc Try.prog Try.f3 false true false false) := by
  refine returnsInHanded_of_change (C := Try.checked) own started (by kernel_rfl) Try.func3
    (ChangeSpec.witness6 (enc := enc) (C := Try.checked) false ⟨#[], #[.slice none 0 0], []⟩ 8 (by kernel_rfl) (by kernel_rfl) (by kernel_rfl) (by kernel_rfl)) ?_
  intro W base args ds gs before hval0 hW hcnd _
  have hval : ∀ (j : Nat) t v, Try.f3.params[j]? = some t → args[j]? = some v → Value.okWide Try.prog W .any base t v := hval0
  have hW' := hW
  obtain ⟨p, q, hA0, hV, rfl, hfz, hnd⟩ := hW
  have hA : DataW.TrodAll enc Try.prog W 0 (fun _ => true) true Try.f3.params.toList args.toList ds p := hA0
  rw [Try.params3] at hA hval
  obtain ⟨v0, vs0, d0, ds0, p0, q0, hargs, rfl, rfl, h0, r0⟩ := trodAll_cons hA
  obtain ⟨rfl, rfl, rfl⟩ := trodAll_nil r0
  obtain rfl : args = #[v0] := by cases args; simp_all
  obtain ⟨rfl, rfl⟩ := trodVars_none hV
  have lt0 : ∀ x ∈ p0, x.block < W.heap.size := by obtain ⟨m, hm⟩ := h0; exact DataW.trod_lt m _ _ _ hm
  obtain ⟨a0, len0, cap0, rfl⟩ := okWide_slice Try.underlying22 (hval 0 22 v0 rfl rfl)
  have raw0 : Raw W a0 len0 := by
    obtain ⟨fuel, hf⟩ := h0
    rcases open_ints Try.underlying22 Try.underlying5 (by kernel_rfl) hf with ⟨hcs, _⟩ | ⟨x, l, c, zs, hcs, _, hl, hm, hz, _, hcell, hwz⟩
    · simp [Value.cells] at hcs
      obtain ⟨rfl, rfl, rfl⟩ := hcs
      intro h; omega
    · simp [Value.cells] at hcs
      obtain ⟨rfl, rfl, rfl⟩ := hcs
      have hz' : zs.length = cap0 := by simpa using hz
      intro hpos
      obtain ⟨b, off, spot⟩ := x
      have hspot : spot = none := by simpa [Addr.add] using World.cell?_spot (hcell 0 (by omega))
      subst hspot
      refine ⟨b, off, rfl, fun j hj => ?_⟩
      have hj' : j < zs.length := by omega
      have hw := hwz _ (List.getElem_mem hj')
      have hb := bounds_u8 hw
      refine ⟨(zs[j]).toNat, by omega, ?_⟩
      have := hcell j hj'
      rw [Addr.add_lit] at this
      rw [this, List.getD_eq_getElem?_getD, List.getElem?_eq_getElem hj']
      simp only [Option.getD_some]
      congr 2
      omega
  clear hA0 hval0
  refine (walk a0 len0 cap0 W raw0).mono fun e W' ⟨he, bel⟩ => ?_
  subst he
  exact ⟨_, rfl, _, _, _, [], _, [], hW', trodAll_mk1 (shut_bool Try.underlying4 _), (trodAll_cons_mk (Below.trod laidOut (by kernel_rfl) (of_decide_eq_true (by kernel_rfl)) h0 bel lt0) trodAll_mk0), rfl, bel.frame _, fun h => by cases h⟩

end Go.Proofs.Ytaigoggoibdgbaa.FnEnds
namespace Go.Proofs.Ytaigoggoibdgbaa
open Go.ChangeShapes Go.WideShapes Go.ChangeAt Go.RowKit

theorem fnEnds : Rows.FnEndsSaid :=
  OpenClaim.holds_of_wide 3 Try.f3 rfl rfl rfl rfl rfl rfl rfl ⟨rfl, rfl, rfl, rfl, rfl⟩ rfl rfl rfl rfl rfl (by kernel_rfl) Try.func3 (by kernel_rfl)
    (of_decide_eq_true (by kernel_rfl)) (by unfold Func.isWrapper; first | (rw [if_pos (by decide +kernel)]; kernel_rfl) | (rw [if_neg (by decide +kernel)]; exact ⟨rfl, rfl⟩))
    (fun os started H enc _ => FnEnds.lifted os started H enc)
#print axioms fnEnds
end Go.Proofs.Ytaigoggoibdgbaa
