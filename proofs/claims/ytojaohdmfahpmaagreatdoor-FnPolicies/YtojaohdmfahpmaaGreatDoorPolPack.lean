/- Proved: at every row of bytes the law FnPolicies answers true, so drawn right policies come back from what is shown of them, and what is read is shown and read again (the law itself passes rows longer than 1<<20 by); the card ties the library's three tables and the program's own table of marks. -/
import Derived.Test.YtojaohdmfahpmaaGreatDoorCards
import Derived.Test.YtojaohdmfahpmaaGreatDoorTie
import Derived.Test.YtojaohdmfahpmaaGreatDoorPolPack28
import Derived.Test.YtojaohdmfahpmaaGreatDoorPolPack27
import Derived.Test.YtojaohdmfahpmaaGreatDoorPolPack26
import Derived.Test.YtojaohdmfahpmaaGreatDoorPolPack15
import Derived.WalkKit
import Derived.WalkSmall
import Derived.ProofKit
import Derived.OpenShut
import Derived.ShutString
import Derived.ChangeOld
import Derived.ChangeVars
import Derived.OpenVars
import Derived.Below
import Derived.Deep.DeepHandedRow
import Derived.Lib.LaidTab
import Derived.Deep.Cut
import Derived.Deep.CutRange
namespace Go.Proofs.YtojaohdmfahpmaaGreatDoor.FnPolicies
open Go.ChangeShapes Go.WideShapes Go.ChangeAt Go.RowKit
open Go.ChangeMaps (open_string shut_string)
set_option linter.unusedVariables false

theorem own : ownKnob Tryz.prog.godebug = none := by kernel_rfl
theorem laidOut : laidOutB Tryz.prog = true := by kernel_rfl
theorem cmsDatum : (Rows.laid_loop_example_g00397_impl_cmMarks : DataW Unit) = cmsD := by kernel_rfl
theorem gTab : Tryz.prog.globalNamed "internal/strconv.uint64pow10" = some 1 := by kernel_rfl
theorem gTabType : (Tryz.prog.globals[1]?).map (·.type) = some 158 := by kernel_rfl
theorem cellsP : Tryz.prog.cellsOf 158 = 20 := by kernel_rfl
theorem cellsE : Tryz.prog.cellsOf 148 = 1 := by kernel_rfl
theorem datum : (Rows.laid_internal_strconv_uint64pow10 : DataW Unit) = Lib.tabData .u64 Lib.pow10Tab := by kernel_rfl

/-- The row's list gives both tables' cells. -/
theorem table {W : World} (h : laidMetH Tryz.prog Rows.fnPoliciesRow.laid W) : Pow W ∧ Cms W := by
  have h' : laidMet Tryz.prog [("math/bits.deBruijn32tab", Rows.laid_math_bits_deBruijn32tab), ("math/bits.deBruijn64tab", Rows.laid_math_bits_deBruijn64tab), ("internal/strconv.uint64pow10", Rows.laid_internal_strconv_uint64pow10), ("loop.example/g00397/impl.cmMarks", Rows.laid_loop_example_g00397_impl_cmMarks)] W := h
  obtain ⟨ps, ⟨g1, t1, cs1, f1, p1, q1, _, _, _, _, ⟨g2, t2, cs2, f2, p2, q2, _, _, _, _, ⟨g3, t3, cs3, f3, p3, q3, hg, ht, hv, hd, ⟨g4, t4, cs4, f4, p4, q4, hg4, ht4, hv4, hd4, _, _⟩, _⟩, _⟩, _⟩, _⟩ := h'
  obtain rfl := Option.some.inj (gTab.symm.trans hg)
  obtain rfl := Option.some.inj (gTabType.symm.trans ht)
  obtain rfl := Option.some.inj (gCms.symm.trans hg4)
  obtain rfl := Option.some.inj (gCmsType.symm.trans ht4)
  rw [datum] at hd
  rw [cmsDatum] at hd4
  have hT : Lib.TabIs Tryz.prog W "internal/strconv.uint64pow10" .u64 Lib.pow10Tab := by
    unfold Lib.TabIs
    rw [hv, ← Lib.cells_of_tab Tryz.underlying158 Tryz.underlying148 cellsE cellsP hd]
  exact ⟨⟨hT, World.block_lt_of_cell? W _ (hT.cell gTab 0 (by decide))⟩, cms_of_var hv4 hd4⟩

theorem readT_small {s : ByteArray} {p : PN} (h : readT s = some p) : p.rules.length ≤ 10 ∧ ∀ r ∈ p.rules, Small r := by
  unfold readT at h
  cases e : signsR s.data.toList with
  | none => rw [e] at h; cases h
  | some G =>
    rw [e] at h
    simp only at h
    unfold readG at h
    cases e2 : rPolicy G with
    | none => rw [e2] at h; cases h
    | some q =>
      rw [e2] at h
      simp only at h
      have hl := signsR_length s.data.toList
      rw [e] at hl
      obtain ⟨h1, _⟩ := rPolicy_small (signsR_good e) hl e2
      cases eb : policyB q
      · rw [eb] at h; cases h
      · rw [eb] at h
        simp only [if_true, Option.some.injEq] at h
        subst h
        obtain ⟨ar, ac, da, rs⟩ := q
        rw [policyB_if] at eb
        simp only [Bool.and_eq_true, decide_eq_true_eq] at eb
        refine ⟨eb.1.2, fun r hr => ?_⟩
        obtain ⟨k, hk⟩ := List.getElem?_of_mem hr
        have hk2 := (List.getElem?_eq_some_iff.1 hk).1
        have := h1.2 k hk2
        rw [List.getD_eq_getElem?_getD, hk] at this
        exact this

/-- What is read, and whether it is a policy. -/
def readV (s : ByteArray) : PN × Bool := match readT s with
  | some p => (p, true)
  | none => (⟨0, 0, 0, []⟩, false)

theorem readV_small (s : ByteArray) : (readV s).1.rules.length ≤ 10 ∧ ∀ r ∈ (readV s).1.rules, Small r := by
  unfold readV
  cases e : readT s with
  | none => simp
  | some p => exact readT_small e

theorem sRead_v (s : ByteArray) (w : World) : Calls Tryz.prog 10 #[.string s] w fun e w' => ∃ u, e = .returned (.tuple #[u, .bool (readV s).2]) ∧ RepPol (readV s).1 u w' ∧ Ext w w' := by
  refine (sRead_any s w).mono fun e w' ⟨hg, hE⟩ => ?_
  unfold readV
  cases er : readT s with
  | none =>
    rw [er] at hg
    exact ⟨_, hg, ⟨none, 0, rfl, fun hp => by simp at hp⟩, hE⟩
  | some p =>
    rw [er] at hg
    obtain ⟨u, h1, h2⟩ : ∃ u, e = .returned (.tuple #[u, .bool true]) ∧ RepPol p u w' := hg
    exact ⟨u, h1, h2, hE⟩

theorem iRead_v (s : ByteArray) (w : World) (hC : Cms w) (hs : s.size ≤ 1048576) : Calls Tryz.prog 8 #[.string s] w fun e w' => ∃ (v : Value) (ps : List (RN × List Value)), e = .returned (.tuple #[.agg #[.int .i64 (readV s).1.arch, .int .i64 (readV s).1.act, .int .i64 (readV s).1.data, v], .bool (readV s).2]) ∧ (readV s).1.rules = ps.map (·.1) ∧ RulesX w.heap.size w' v ps ∧ Ext w w' := by
  refine (iRead_any s w hC hs).mono fun e w' ⟨hg, hE⟩ => ?_
  unfold readV
  cases er : readT s with
  | none =>
    rw [er] at hg
    exact ⟨_, [], hg, rfl, ⟨World.ownsRow_nil _ _ _ _, RowsX.nil hE.size⟩, hE⟩
  | some p =>
    rw [er] at hg
    obtain ⟨v, ps, h1, h2, h3⟩ : ∃ (v : Value) (ps : List (RN × List Value)), e = .returned (.tuple #[.agg #[.int .i64 p.arch, .int .i64 p.act, .int .i64 p.data, v], .bool true]) ∧ p.rules = ps.map (·.1) ∧ RulesX w.heap.size w' v ps := hg
    exact ⟨v, ps, h1, h2, h3, hE⟩

theorem sameRu_refl (r : RN) : sameRu r r = true := by simp [sameRu, sameNs, sameCs, sameC]

theorem sameP_refl (p : PN) : sameP p p = true := by simp [sameP, sameRu_refl]

/-- A policy in block b, and in memory. -/
def PolA (W : World) (b : Nat) (ar ac da : Int) (rs : List RN) (a : Option Addr) (n c : Nat) : Prop :=
  Kn W b [.int .i64 ar, .int .i64 ac, .int .i64 da, .slice a n c] 26 ∧ RepPolC ⟨ar, ac, da, rs⟩ (.agg #[.int .i64 ar, .int .i64 ac, .int .i64 da, .slice a n c]) W

def PolZ (W : World) (b : Nat) (ar ac da : Int) (rs : List RN) (a : Option Addr) (n c : Nat) : Prop :=
  Kn W b [.int .i64 ar, .int .i64 ac, .int .i64 da, .slice a n c] 26 ∧ RepPol ⟨ar, ac, da, rs⟩ (.agg #[.int .i64 ar, .int .i64 ac, .int .i64 da, .slice a n c]) W

theorem PolA.ext {W W' : World} {b : Nat} {ar ac da : Int} {rs : List RN} {a : Option Addr} {n c : Nat} (h : PolA W b ar ac da rs a n c) (hE : Ext W W') : PolA W' b ar ac da rs a n c := ⟨Kn.ext h.1 hE, RepPolC.step h.2 hE⟩

theorem PolZ.ext {W W' : World} {b : Nat} {ar ac da : Int} {rs : List RN} {a : Option Addr} {n c : Nat} (h : PolZ W b ar ac da rs a n c) (hE : Ext W W') : PolZ W' b ar ac da rs a n c := ⟨Kn.ext h.1 hE, RepPol.step h.2 hE⟩

theorem txt_size {l : List UInt8} (h : l.length ≤ 1200) : (txt l).size ≤ 1048576 := by
  show l.toArray.size ≤ 1048576
  simp; omega

theorem readV_show {p : PN} (h : (showR p).2 = true) : readV (txt (showR p).1) = (p, true) := by
  unfold showR at h ⊢
  cases hp : policyB p
  · rw [hp] at h; simp at h
  · rw [hp] at h
    simp only [if_true] at h ⊢
    by_cases hl : 1200 < (showL p).length
    · rw [if_pos hl] at h; cases h
    · rw [if_neg hl]
      have h1 := show_read hp (by omega)
      have h2 : readT (txt (showL p)) = some p := h1
      unfold readV
      rw [h2]

theorem RulesX.repC {B : Nat} {w : World} {v : Value} {ps : List (RN × List Value)} (h : RulesX B w v ps) (ar ac da : Int) : RepPolC ⟨ar, ac, da, ps.map (·.1)⟩ (.agg #[.int .i64 ar, .int .i64 ac, .int .i64 da, v]) w := by
  obtain ⟨a, cap, hv, hr⟩ := h.rules
  subst hv
  refine ⟨a, cap, by simp, hr, fun b off j x n c ha hj hc => ?_⟩
  obtain ⟨ho, hx⟩ := h
  rcases ho.2 with ⟨hv, h0⟩ | ⟨g, cap', cur, hv, hg, hh, hnc, hcp, hcs, htake⟩
  · simp at hj; omega
  · injection hv with h1 h2 h3
    rw [ha] at h1
    injection h1 with h1
    injection h1 with h4 h5
    subst h4 h5
    have hj2 : j < ps.length := by simpa using hj
    have hq : ps[j]? = some ps[j] := List.getElem?_eq_getElem hj2
    obtain ⟨m, m1, m2, m3, m4⟩ := hx
    obtain ⟨v1, v2, B2, e, o1, o2, _⟩ := (m4 j _ hq).1
    obtain ⟨a1, c1, rfl⟩ := own_slice o1
    have e1 := flat4_at ps j 0 _ (.slice a1 (ps[j]).1.nums.length c1) (RowsX.four ⟨m, m1, m2, m3, m4⟩) hq (by rw [e]; rfl)
    rw [← htake, List.getElem?_take, if_pos (by omega)] at e1
    rw [Nat.zero_add] at hc
    rw [cell_of_row w b _ cur 53 _ hh] at hc
    have e2 : cur[j * 4]? = some (.slice a1 (ps[j]).1.nums.length c1) := by simpa using e1
    rw [e2] at hc
    injection hc with hc
    injection hc with i1 i2 i3
    have := own_cap o1
    omega

set_option maxRecDepth 100000 in
set_option maxHeartbeats 12800000 in
theorem walk (a : Option Addr) (len cap : Nat) (w : World) (raw : Raw w a len) (hP : Pow w) (hCm : Cms w) : Calls Tryz.prog 3 #[.slice a len cap] w fun e w' => e = .returned (.bool true) ∧ Below w.heap.size w w' := by
  by_cases hbig : 1048576 < len
  · go_enter Tryz.func3, Tryz.ntmps3
    go_wp2_with (go_at_call 5; refine (big_yes _ _ _ _ hbig).mono ?_; rintro e w' ⟨rfl, rfl⟩)
    go_ret
    exact ⟨rfl, Below.refl _ _⟩
  have HC : Hid (Came w a len) := ⟨by omega, raw⟩
  have hl : len ≤ 1048576 := by omega
  have HP : Hid (∀ W, Ext w W → Pow W ∧ Cms W ∧ Came W a len) := fun W hE => ⟨hP.ext hE, hCm.ext hE, HC.out.below hE⟩
  clear raw hbig hP hCm
  go_enter Tryz.func3, Tryz.ntmps3
  go_wp2_with fail
  refine (big_no a len cap _ hl).mono ?_
  rintro e w' ⟨rfl, rfl⟩
  go_wp2_with fail
  refine (drawPolicy_any a len cap _ HC.out).mono ?_
  rintro e w1 ⟨a3, n3, c3, xc, xd, arch, num, ca, m1, cc, rfl, ⟨pol, hpb, hps, pa, pc, pd, pn, hr⟩, _, e1⟩
  obtain ⟨par, ac3, da3, rs3⟩ := pol
  simp only at hps pa pc pd pn hr
  subst pa pc pd
  have HS3 : Hid (SmallR rs3 ∧ policyB ⟨62, ac3, da3, rs3⟩ = true) := ⟨hps, hpb⟩
  have X : Hid (Ext w ((w1.alloc (.cells #[.int .i64 62, .int .i64 ac3, .int .i64 da3, .slice a3 n3 c3] 26)).alloc (.cells #[.int .i64 arch, .int .i64 num, .slice ca m1 cc] 29)) ∧ PolA ((w1.alloc (.cells #[.int .i64 62, .int .i64 ac3, .int .i64 da3, .slice a3 n3 c3] 26)).alloc (.cells #[.int .i64 arch, .int .i64 num, .slice ca m1 cc] 29)) w1.heap.size 62 ac3 da3 rs3 a3 n3 c3) := ⟨(e1.trans (Ext.one _ _)).trans (Ext.one _ _), (Kn.new w1 _ _).alloc _, RepPolC.step ⟨a3, c3, by rw [pn], hr⟩ ((Ext.one _ _).alloc _)⟩
  clear hpb hps pn hr e1
  obtain ⟨S, hS⟩ : ∃ S, S = txt (showR ⟨62, ac3, da3, rs3⟩).1 := ⟨_, rfl⟩
  obtain ⟨ok, hok⟩ : ∃ ok, ok = (showR ⟨62, ac3, da3, rs3⟩).2 := ⟨_, rfl⟩
  have HS : Hid (S = txt (showR ⟨62, ac3, da3, rs3⟩).1 ∧ ok = (showR ⟨62, ac3, da3, rs3⟩).2) := ⟨hS, hok⟩
  clear hS hok
  have HCL : Hid (Calls Tryz.prog 7 #[.agg #[.int .i64 62, .int .i64 ac3, .int .i64 da3, .slice a3 n3 c3]] ((w1.alloc (.cells #[.int .i64 62, .int .i64 ac3, .int .i64 da3, .slice a3 n3 c3] 26)).alloc (.cells #[.int .i64 arch, .int .i64 num, .slice ca m1 cc] 29)) fun e w' => e = .returned (.tuple #[.string S, .bool ok]) ∧ Ext ((w1.alloc (.cells #[.int .i64 62, .int .i64 ac3, .int .i64 da3, .slice a3 n3 c3] 26)).alloc (.cells #[.int .i64 arch, .int .i64 num, .slice ca m1 cc] 29)) w') := by
    rw [HS.out.1, HS.out.2]
    exact iShow_any (p := ⟨62, ac3, da3, rs3⟩) HS3.out.1 (X.out.2.2) (HP.out _ X.out.1).1 (HP.out _ X.out.1).2.1
  obtain ⟨q0, q1, q2, q3⟩ := (⟨X.out.2.1.cell 0 _ rfl, X.out.2.1.cell 1 _ rfl, X.out.2.1.cell 2 _ rfl, X.out.2.1.cell 3 _ rfl⟩ : _ ∧ _ ∧ _ ∧ _)
  go_wp2_with fail
  generalize (w1.alloc (.cells #[.int .i64 62, .int .i64 ac3, .int .i64 da3, .slice a3 n3 c3] 26)).alloc (.cells #[.int .i64 arch, .int .i64 num, .slice ca m1 cc] 29) = W2 at *
  generalize w1.heap.size = b3 at *
  refine (show Calls Tryz.prog 7 _ _ _ from HCL.out).mono ?_
  rintro e w3 ⟨rfl, x⟩
  have X2 : Hid (Ext w w3 ∧ PolA w3 b3 62 ac3 da3 rs3 a3 n3 c3) := ⟨X.out.1.trans x, X.out.2.ext x⟩
  clear X
  have X := X2
  clear X2
  clear x HCL q0 q1 q2 q3
  have hsz : S.size ≤ 1048576 := by rw [HS.out.1]; exact txt_size (showR_short _)
  obtain ⟨o, ho⟩ : ∃ o, o = readV S := ⟨_, rfl⟩
  obtain ⟨hz1, hz2⟩ := readV_small S
  have HCL0 : Hid (Calls Tryz.prog 8 #[.string S] w3 fun e w' => ∃ (v : Value) (ps : List (RN × List Value)), e = .returned (.tuple #[.agg #[.int .i64 (readV S).1.arch, .int .i64 (readV S).1.act, .int .i64 (readV S).1.data, v], .bool (readV S).2]) ∧ (readV S).1.rules = ps.map (·.1) ∧ RulesX w3.heap.size w' v ps ∧ Ext w3 w') := iRead_v S w3 (HP.out _ X.out.1).2.1 (hsz)
  rw [← ho] at HCL0 hz1 hz2
  have HV7 : Hid (readV S = o) := ho.symm
  clear ho
  obtain ⟨⟨ar7, ac7, da7, rs7⟩, right⟩ := o
  simp only at HCL0 hz1 hz2
  have HS7 : Hid (SmallR rs7 ∧ True) := ⟨smallR_of (by omega) hz2, trivial⟩
  have HCL := HCL0
  clear HCL0 hz1 hz2
  go_wp2_with fail
  refine (show Calls Tryz.prog 8 _ _ _ from HCL.out).mono ?_
  rintro e w4 ⟨v, ps, rfl, hps, hx, x⟩
  obtain ⟨a7, c7, hv⟩ := own_slice hx.1
  obtain ⟨n7, hn⟩ : ∃ n, n = ps.length := ⟨_, rfl⟩
  rw [← hn] at hv
  subst hv
  have X2 : Hid (Ext w (w4.alloc (.cells #[.int .i64 ar7, .int .i64 ac7, .int .i64 da7, .slice a7 n7 c7] 26)) ∧ PolA (w4.alloc (.cells #[.int .i64 ar7, .int .i64 ac7, .int .i64 da7, .slice a7 n7 c7] 26)) b3 62 ac3 da3 rs3 a3 n3 c3 ∧ PolA (w4.alloc (.cells #[.int .i64 ar7, .int .i64 ac7, .int .i64 da7, .slice a7 n7 c7] 26)) w4.heap.size ar7 ac7 da7 rs7 a7 n7 c7) := ⟨X.out.1.trans ((x).trans (Ext.one _ _)), X.out.2.ext ((x).trans (Ext.one _ _)), ⟨Kn.new w4 _ _, (show RepPolC ⟨ar7, ac7, da7, rs7⟩ (.agg #[.int .i64 ar7, .int .i64 ac7, .int .i64 da7, .slice a7 n7 c7]) w4 from by rw [hps]; exact RulesX.repC hx ar7 ac7 da7).step (Ext.one _ _)⟩⟩
  clear X
  have X := X2
  clear X2
  clear hx x hps hn HCL
  clear hsz
  go_wp2_with fail
  generalize w4.alloc (.cells #[.int .i64 ar7, .int .i64 ac7, .int .i64 da7, .slice a7 n7 c7] 26) = W5 at *
  generalize w4.heap.size = b7 at *
  refine (drawRead_any a len cap _ (HP.out _ X.out.1).2.2).mono ?_
  rintro e w6 ⟨U, hU, rfl, x⟩
  have X2 : Hid (Ext w w6 ∧ PolA w6 b3 62 ac3 da3 rs3 a3 n3 c3 ∧ PolA w6 b7 ar7 ac7 da7 rs7 a7 n7 c7) := ⟨X.out.1.trans x, X.out.2.1.ext x, X.out.2.2.ext x⟩
  clear X
  have X := X2
  clear X2
  clear x
  obtain ⟨o, ho⟩ : ∃ o, o = readV U := ⟨_, rfl⟩
  obtain ⟨hz1, hz2⟩ := readV_small U
  have HCL0 : Hid (Calls Tryz.prog 8 #[.string U] w6 fun e w' => ∃ (v : Value) (ps : List (RN × List Value)), e = .returned (.tuple #[.agg #[.int .i64 (readV U).1.arch, .int .i64 (readV U).1.act, .int .i64 (readV U).1.data, v], .bool (readV U).2]) ∧ (readV U).1.rules = ps.map (·.1) ∧ RulesX w6.heap.size w' v ps ∧ Ext w6 w') := iRead_v U w6 (HP.out _ X.out.1).2.1 (by omega)
  rw [← ho] at HCL0 hz1 hz2
  have HV10 : Hid (readV U = o) := ho.symm
  clear ho
  obtain ⟨⟨ar10, ac10, da10, rs10⟩, may⟩ := o
  simp only at HCL0 hz1 hz2
  have HS10 : Hid (SmallR rs10 ∧ True) := ⟨smallR_of (by omega) hz2, trivial⟩
  have HCL := HCL0
  clear HCL0 hz1 hz2
  go_wp2_with fail
  refine (show Calls Tryz.prog 8 _ _ _ from HCL.out).mono ?_
  rintro e w7 ⟨v, ps, rfl, hps, hx, x⟩
  obtain ⟨a10, c10, hv⟩ := own_slice hx.1
  obtain ⟨n10, hn⟩ : ∃ n, n = ps.length := ⟨_, rfl⟩
  rw [← hn] at hv
  subst hv
  have X2 : Hid (Ext w (w7.alloc (.cells #[.int .i64 ar10, .int .i64 ac10, .int .i64 da10, .slice a10 n10 c10] 26)) ∧ PolA (w7.alloc (.cells #[.int .i64 ar10, .int .i64 ac10, .int .i64 da10, .slice a10 n10 c10] 26)) b3 62 ac3 da3 rs3 a3 n3 c3 ∧ PolA (w7.alloc (.cells #[.int .i64 ar10, .int .i64 ac10, .int .i64 da10, .slice a10 n10 c10] 26)) b7 ar7 ac7 da7 rs7 a7 n7 c7 ∧ PolA (w7.alloc (.cells #[.int .i64 ar10, .int .i64 ac10, .int .i64 da10, .slice a10 n10 c10] 26)) w7.heap.size ar10 ac10 da10 rs10 a10 n10 c10) := ⟨X.out.1.trans ((x).trans (Ext.one _ _)), X.out.2.1.ext ((x).trans (Ext.one _ _)), X.out.2.2.ext ((x).trans (Ext.one _ _)), ⟨Kn.new w7 _ _, (show RepPolC ⟨ar10, ac10, da10, rs10⟩ (.agg #[.int .i64 ar10, .int .i64 ac10, .int .i64 da10, .slice a10 n10 c10]) w7 from by rw [hps]; exact RulesX.repC hx ar10 ac10 da10).step (Ext.one _ _)⟩⟩
  clear X
  have X := X2
  clear X2
  clear hx x hps hn HCL
  go_wp2_with fail
  generalize w7.alloc (.cells #[.int .i64 ar10, .int .i64 ac10, .int .i64 da10, .slice a10 n10 c10] 26) = W8 at *
  generalize w7.heap.size = b10 at *
  have HCL0 : Hid (Calls Tryz.prog 10 #[.string U] W8 fun e w' => ∃ u, e = .returned (.tuple #[u, .bool (readV U).2]) ∧ RepPol (readV U).1 u w' ∧ Ext W8 w') := sRead_v U W8
  rw [HV10.out] at HCL0
  simp only at HCL0
  have HCL := HCL0
  clear HCL0 hU
  refine (show Calls Tryz.prog 10 _ _ _ from HCL.out).mono ?_
  rintro e w9 ⟨u, rfl, hrep, x⟩
  have hrep2 := hrep
  obtain ⟨a12, c12, hu, _⟩ := hrep2
  simp only at hu
  obtain ⟨n12, hn⟩ : ∃ n, n = rs10.length := ⟨_, rfl⟩
  rw [← hn] at hu
  subst hu
  have X2 : Hid (Ext w (w9.alloc (.cells #[.int .i64 ar10, .int .i64 ac10, .int .i64 da10, .slice a12 n12 c12] 26)) ∧ PolA (w9.alloc (.cells #[.int .i64 ar10, .int .i64 ac10, .int .i64 da10, .slice a12 n12 c12] 26)) b3 62 ac3 da3 rs3 a3 n3 c3 ∧ PolA (w9.alloc (.cells #[.int .i64 ar10, .int .i64 ac10, .int .i64 da10, .slice a12 n12 c12] 26)) b7 ar7 ac7 da7 rs7 a7 n7 c7 ∧ PolA (w9.alloc (.cells #[.int .i64 ar10, .int .i64 ac10, .int .i64 da10, .slice a12 n12 c12] 26)) b10 ar10 ac10 da10 rs10 a10 n10 c10 ∧ PolZ (w9.alloc (.cells #[.int .i64 ar10, .int .i64 ac10, .int .i64 da10, .slice a12 n12 c12] 26)) w9.heap.size ar10 ac10 da10 rs10 a12 n12 c12) := ⟨X.out.1.trans ((x).trans (Ext.one _ _)), X.out.2.1.ext ((x).trans (Ext.one _ _)), X.out.2.2.1.ext ((x).trans (Ext.one _ _)), X.out.2.2.2.ext ((x).trans (Ext.one _ _)), ⟨Kn.new w9 _ _, (hrep).step (Ext.one _ _)⟩⟩
  clear X
  have X := X2
  clear X2
  clear hrep x hn HCL
  obtain ⟨T, hT⟩ : ∃ T, T = txt (showR ⟨ar10, ac10, da10, rs10⟩).1 := ⟨_, rfl⟩
  obtain ⟨shown, hshown⟩ : ∃ shown, shown = (showR ⟨ar10, ac10, da10, rs10⟩).2 := ⟨_, rfl⟩
  have HT : Hid (T = txt (showR ⟨ar10, ac10, da10, rs10⟩).1 ∧ shown = (showR ⟨ar10, ac10, da10, rs10⟩).2) := ⟨hT, hshown⟩
  clear hT hshown
  have HCL : Hid (Calls Tryz.prog 7 #[.agg #[.int .i64 ar10, .int .i64 ac10, .int .i64 da10, .slice a10 n10 c10]] (w9.alloc (.cells #[.int .i64 ar10, .int .i64 ac10, .int .i64 da10, .slice a12 n12 c12] 26)) fun e w' => e = .returned (.tuple #[.string T, .bool shown]) ∧ Ext (w9.alloc (.cells #[.int .i64 ar10, .int .i64 ac10, .int .i64 da10, .slice a12 n12 c12] 26)) w') := by
    rw [HT.out.1, HT.out.2]
    exact iShow_any (p := ⟨ar10, ac10, da10, rs10⟩) HS10.out.1 (X.out.2.2.2.1.2) (HP.out _ X.out.1).1 (HP.out _ X.out.1).2.1
  obtain ⟨q0, q1, q2, q3⟩ := (⟨X.out.2.2.2.1.1.cell 0 _ rfl, X.out.2.2.2.1.1.cell 1 _ rfl, X.out.2.2.2.1.1.cell 2 _ rfl, X.out.2.2.2.1.1.cell 3 _ rfl⟩ : _ ∧ _ ∧ _ ∧ _)
  go_wp2_with fail
  generalize w9.alloc (.cells #[.int .i64 ar10, .int .i64 ac10, .int .i64 da10, .slice a12 n12 c12] 26) = W10 at *
  generalize w9.heap.size = b12 at *
  refine (show Calls Tryz.prog 7 _ _ _ from HCL.out).mono ?_
  rintro e w11 ⟨rfl, x⟩
  have X2 : Hid (Ext w w11 ∧ PolA w11 b3 62 ac3 da3 rs3 a3 n3 c3 ∧ PolA w11 b7 ar7 ac7 da7 rs7 a7 n7 c7 ∧ PolA w11 b10 ar10 ac10 da10 rs10 a10 n10 c10 ∧ PolZ w11 b12 ar10 ac10 da10 rs10 a12 n12 c12) := ⟨X.out.1.trans x, X.out.2.1.ext x, X.out.2.2.1.ext x, X.out.2.2.2.1.ext x, X.out.2.2.2.2.ext x⟩
  clear X
  have X := X2
  clear X2
  clear x HCL q0 q1 q2 q3
  have hsz : T.size ≤ 1048576 := by rw [HT.out.1]; exact txt_size (showR_short _)
  obtain ⟨o, ho⟩ : ∃ o, o = readV T := ⟨_, rfl⟩
  obtain ⟨hz1, hz2⟩ := readV_small T
  have HCL0 : Hid (Calls Tryz.prog 8 #[.string T] w11 fun e w' => ∃ (v : Value) (ps : List (RN × List Value)), e = .returned (.tuple #[.agg #[.int .i64 (readV T).1.arch, .int .i64 (readV T).1.act, .int .i64 (readV T).1.data, v], .bool (readV T).2]) ∧ (readV T).1.rules = ps.map (·.1) ∧ RulesX w11.heap.size w' v ps ∧ Ext w11 w') := iRead_v T w11 (HP.out _ X.out.1).2.1 (hsz)
  rw [← ho] at HCL0 hz1 hz2
  have HV16 : Hid (readV T = o) := ho.symm
  clear ho
  obtain ⟨⟨ar16, ac16, da16, rs16⟩, back⟩ := o
  simp only at HCL0 hz1 hz2
  have HS16 : Hid (SmallR rs16 ∧ True) := ⟨smallR_of (by omega) hz2, trivial⟩
  have HCL := HCL0
  clear HCL0 hz1 hz2
  go_wp2_with fail
  refine (show Calls Tryz.prog 8 _ _ _ from HCL.out).mono ?_
  rintro e w12 ⟨v, ps, rfl, hps, hx, x⟩
  obtain ⟨a16, c16, hv⟩ := own_slice hx.1
  obtain ⟨n16, hn⟩ : ∃ n, n = ps.length := ⟨_, rfl⟩
  rw [← hn] at hv
  subst hv
  have X2 : Hid (Ext w (w12.alloc (.cells #[.int .i64 ar16, .int .i64 ac16, .int .i64 da16, .slice a16 n16 c16] 26)) ∧ PolA (w12.alloc (.cells #[.int .i64 ar16, .int .i64 ac16, .int .i64 da16, .slice a16 n16 c16] 26)) b3 62 ac3 da3 rs3 a3 n3 c3 ∧ PolA (w12.alloc (.cells #[.int .i64 ar16, .int .i64 ac16, .int .i64 da16, .slice a16 n16 c16] 26)) b7 ar7 ac7 da7 rs7 a7 n7 c7 ∧ PolA (w12.alloc (.cells #[.int .i64 ar16, .int .i64 ac16, .int .i64 da16, .slice a16 n16 c16] 26)) b10 ar10 ac10 da10 rs10 a10 n10 c10 ∧ PolZ (w12.alloc (.cells #[.int .i64 ar16, .int .i64 ac16, .int .i64 da16, .slice a16 n16 c16] 26)) b12 ar10 ac10 da10 rs10 a12 n12 c12 ∧ PolA (w12.alloc (.cells #[.int .i64 ar16, .int .i64 ac16, .int .i64 da16, .slice a16 n16 c16] 26)) w12.heap.size ar16 ac16 da16 rs16 a16 n16 c16) := ⟨X.out.1.trans ((x).trans (Ext.one _ _)), X.out.2.1.ext ((x).trans (Ext.one _ _)), X.out.2.2.1.ext ((x).trans (Ext.one _ _)), X.out.2.2.2.1.ext ((x).trans (Ext.one _ _)), X.out.2.2.2.2.ext ((x).trans (Ext.one _ _)), ⟨Kn.new w12 _ _, (show RepPolC ⟨ar16, ac16, da16, rs16⟩ (.agg #[.int .i64 ar16, .int .i64 ac16, .int .i64 da16, .slice a16 n16 c16]) w12 from by rw [hps]; exact RulesX.repC hx ar16 ac16 da16).step (Ext.one _ _)⟩⟩
  clear X
  have X := X2
  clear X2
  clear hx x hps hn HCL
  clear hsz
  go_wp2_with fail
  generalize w12.alloc (.cells #[.int .i64 ar16, .int .i64 ac16, .int .i64 da16, .slice a16 n16 c16] 26) = W13 at *
  generalize w12.heap.size = b16 at *
  refine (drawSame_any a len cap _ (HP.out _ X.out.1).2.2).mono ?_
  rintro e w14 ⟨u, v, rfl, ⟨p18, hs18, hr18⟩, ⟨p19, hs19, hr19⟩, x⟩
  obtain ⟨ar18, ac18, da18, rs18⟩ := p18
  have hrep2 := hr18
  obtain ⟨a18, c18, hu, _⟩ := hrep2
  simp only at hu
  obtain ⟨n18, hn⟩ : ∃ n, n = rs18.length := ⟨_, rfl⟩
  rw [← hn] at hu
  subst hu
  have HS18 : Hid (SmallR rs18 ∧ True) := ⟨hs18, trivial⟩
  clear hn hs18
  obtain ⟨ar19, ac19, da19, rs19⟩ := p19
  have hrep2 := hr19
  obtain ⟨a19, c19, hu, _⟩ := hrep2
  simp only at hu
  obtain ⟨n19, hn⟩ : ∃ n, n = rs19.length := ⟨_, rfl⟩
  rw [← hn] at hu
  subst hu
  have HS19 : Hid (SmallR rs19 ∧ True) := ⟨hs19, trivial⟩
  clear hn hs19
  have X2 : Hid (Ext w ((w14.alloc (.cells #[.int .i64 ar18, .int .i64 ac18, .int .i64 da18, .slice a18 n18 c18] 26)).alloc (.cells #[.int .i64 ar19, .int .i64 ac19, .int .i64 da19, .slice a19 n19 c19] 26)) ∧ PolA ((w14.alloc (.cells #[.int .i64 ar18, .int .i64 ac18, .int .i64 da18, .slice a18 n18 c18] 26)).alloc (.cells #[.int .i64 ar19, .int .i64 ac19, .int .i64 da19, .slice a19 n19 c19] 26)) b3 62 ac3 da3 rs3 a3 n3 c3 ∧ PolA ((w14.alloc (.cells #[.int .i64 ar18, .int .i64 ac18, .int .i64 da18, .slice a18 n18 c18] 26)).alloc (.cells #[.int .i64 ar19, .int .i64 ac19, .int .i64 da19, .slice a19 n19 c19] 26)) b7 ar7 ac7 da7 rs7 a7 n7 c7 ∧ PolA ((w14.alloc (.cells #[.int .i64 ar18, .int .i64 ac18, .int .i64 da18, .slice a18 n18 c18] 26)).alloc (.cells #[.int .i64 ar19, .int .i64 ac19, .int .i64 da19, .slice a19 n19 c19] 26)) b10 ar10 ac10 da10 rs10 a10 n10 c10 ∧ PolZ ((w14.alloc (.cells #[.int .i64 ar18, .int .i64 ac18, .int .i64 da18, .slice a18 n18 c18] 26)).alloc (.cells #[.int .i64 ar19, .int .i64 ac19, .int .i64 da19, .slice a19 n19 c19] 26)) b12 ar10 ac10 da10 rs10 a12 n12 c12 ∧ PolA ((w14.alloc (.cells #[.int .i64 ar18, .int .i64 ac18, .int .i64 da18, .slice a18 n18 c18] 26)).alloc (.cells #[.int .i64 ar19, .int .i64 ac19, .int .i64 da19, .slice a19 n19 c19] 26)) b16 ar16 ac16 da16 rs16 a16 n16 c16 ∧ PolA ((w14.alloc (.cells #[.int .i64 ar18, .int .i64 ac18, .int .i64 da18, .slice a18 n18 c18] 26)).alloc (.cells #[.int .i64 ar19, .int .i64 ac19, .int .i64 da19, .slice a19 n19 c19] 26)) w14.heap.size ar18 ac18 da18 rs18 a18 n18 c18 ∧ PolA ((w14.alloc (.cells #[.int .i64 ar18, .int .i64 ac18, .int .i64 da18, .slice a18 n18 c18] 26)).alloc (.cells #[.int .i64 ar19, .int .i64 ac19, .int .i64 da19, .slice a19 n19 c19] 26)) (w14.heap.size + 1) ar19 ac19 da19 rs19 a19 n19 c19) := ⟨X.out.1.trans ((x.trans (Ext.one _ _)).trans (Ext.one _ _)), X.out.2.1.ext ((x.trans (Ext.one _ _)).trans (Ext.one _ _)), X.out.2.2.1.ext ((x.trans (Ext.one _ _)).trans (Ext.one _ _)), X.out.2.2.2.1.ext ((x.trans (Ext.one _ _)).trans (Ext.one _ _)), X.out.2.2.2.2.1.ext ((x.trans (Ext.one _ _)).trans (Ext.one _ _)), X.out.2.2.2.2.2.ext ((x.trans (Ext.one _ _)).trans (Ext.one _ _)), ⟨(Kn.new w14 _ _).alloc _, hr18.step ((Ext.one _ _).alloc _)⟩, ⟨Kn.new' _ _ _ _ (by simp), hr19.step ((Ext.one _ _).alloc _)⟩⟩
  clear X
  have X := X2
  clear X2
  clear hr18 hr19 x
  go_wp2_with fail
  generalize (w14.alloc (.cells #[.int .i64 ar18, .int .i64 ac18, .int .i64 da18, .slice a18 n18 c18] 26)).alloc (.cells #[.int .i64 ar19, .int .i64 ac19, .int .i64 da19, .slice a19 n19 c19] 26) = W15 at *
  generalize w14.heap.size + 1 = b19 at *
  generalize w14.heap.size = b18 at *
  refine (drawShow_any a len cap _ (HP.out _ X.out.1).2.2).mono ?_
  rintro e w16 ⟨u, rfl, ⟨p20, hs20, hr20⟩, x⟩
  obtain ⟨ar20, ac20, da20, rs20⟩ := p20
  have hrep2 := hr20
  obtain ⟨a20, c20, hu, _⟩ := hrep2
  simp only at hu
  obtain ⟨n20, hn⟩ : ∃ n, n = rs20.length := ⟨_, rfl⟩
  rw [← hn] at hu
  subst hu
  have HS20 : Hid (SmallR rs20 ∧ True) := ⟨hs20, trivial⟩
  clear hn hs20
  have X2 : Hid (Ext w (w16.alloc (.cells #[.int .i64 ar20, .int .i64 ac20, .int .i64 da20, .slice a20 n20 c20] 26)) ∧ PolA (w16.alloc (.cells #[.int .i64 ar20, .int .i64 ac20, .int .i64 da20, .slice a20 n20 c20] 26)) b3 62 ac3 da3 rs3 a3 n3 c3 ∧ PolA (w16.alloc (.cells #[.int .i64 ar20, .int .i64 ac20, .int .i64 da20, .slice a20 n20 c20] 26)) b7 ar7 ac7 da7 rs7 a7 n7 c7 ∧ PolA (w16.alloc (.cells #[.int .i64 ar20, .int .i64 ac20, .int .i64 da20, .slice a20 n20 c20] 26)) b10 ar10 ac10 da10 rs10 a10 n10 c10 ∧ PolZ (w16.alloc (.cells #[.int .i64 ar20, .int .i64 ac20, .int .i64 da20, .slice a20 n20 c20] 26)) b12 ar10 ac10 da10 rs10 a12 n12 c12 ∧ PolA (w16.alloc (.cells #[.int .i64 ar20, .int .i64 ac20, .int .i64 da20, .slice a20 n20 c20] 26)) b16 ar16 ac16 da16 rs16 a16 n16 c16 ∧ PolA (w16.alloc (.cells #[.int .i64 ar20, .int .i64 ac20, .int .i64 da20, .slice a20 n20 c20] 26)) b18 ar18 ac18 da18 rs18 a18 n18 c18 ∧ PolA (w16.alloc (.cells #[.int .i64 ar20, .int .i64 ac20, .int .i64 da20, .slice a20 n20 c20] 26)) b19 ar19 ac19 da19 rs19 a19 n19 c19 ∧ PolA (w16.alloc (.cells #[.int .i64 ar20, .int .i64 ac20, .int .i64 da20, .slice a20 n20 c20] 26)) w16.heap.size ar20 ac20 da20 rs20 a20 n20 c20) := ⟨X.out.1.trans ((x).trans (Ext.one _ _)), X.out.2.1.ext ((x).trans (Ext.one _ _)), X.out.2.2.1.ext ((x).trans (Ext.one _ _)), X.out.2.2.2.1.ext ((x).trans (Ext.one _ _)), X.out.2.2.2.2.1.ext ((x).trans (Ext.one _ _)), X.out.2.2.2.2.2.1.ext ((x).trans (Ext.one _ _)), X.out.2.2.2.2.2.2.1.ext ((x).trans (Ext.one _ _)), X.out.2.2.2.2.2.2.2.ext ((x).trans (Ext.one _ _)), ⟨Kn.new w16 _ _, (hr20).step (Ext.one _ _)⟩⟩
  clear X
  have X := X2
  clear X2
  clear hr20 x
  obtain ⟨D, hD⟩ : ∃ D, D = txt (showR ⟨ar20, ac20, da20, rs20⟩).1 := ⟨_, rfl⟩
  obtain ⟨good, hgood⟩ : ∃ good, good = (showR ⟨ar20, ac20, da20, rs20⟩).2 := ⟨_, rfl⟩
  have HD : Hid (D = txt (showR ⟨ar20, ac20, da20, rs20⟩).1 ∧ good = (showR ⟨ar20, ac20, da20, rs20⟩).2) := ⟨hD, hgood⟩
  clear hD hgood
  have HCL : Hid (Calls Tryz.prog 7 #[.agg #[.int .i64 ar20, .int .i64 ac20, .int .i64 da20, .slice a20 n20 c20]] (w16.alloc (.cells #[.int .i64 ar20, .int .i64 ac20, .int .i64 da20, .slice a20 n20 c20] 26)) fun e w' => e = .returned (.tuple #[.string D, .bool good]) ∧ Ext (w16.alloc (.cells #[.int .i64 ar20, .int .i64 ac20, .int .i64 da20, .slice a20 n20 c20] 26)) w') := by
    rw [HD.out.1, HD.out.2]
    exact iShow_any (p := ⟨ar20, ac20, da20, rs20⟩) HS20.out.1 (X.out.2.2.2.2.2.2.2.2.2) (HP.out _ X.out.1).1 (HP.out _ X.out.1).2.1
  obtain ⟨q0, q1, q2, q3⟩ := (⟨X.out.2.2.2.2.2.2.2.2.1.cell 0 _ rfl, X.out.2.2.2.2.2.2.2.2.1.cell 1 _ rfl, X.out.2.2.2.2.2.2.2.2.1.cell 2 _ rfl, X.out.2.2.2.2.2.2.2.2.1.cell 3 _ rfl⟩ : _ ∧ _ ∧ _ ∧ _)
  go_wp2_with fail
  generalize w16.alloc (.cells #[.int .i64 ar20, .int .i64 ac20, .int .i64 da20, .slice a20 n20 c20] 26) = W17 at *
  generalize w16.heap.size = b20 at *
  refine (show Calls Tryz.prog 7 _ _ _ from HCL.out).mono ?_
  rintro e w18 ⟨rfl, x⟩
  have X2 : Hid (Ext w w18 ∧ PolA w18 b3 62 ac3 da3 rs3 a3 n3 c3 ∧ PolA w18 b7 ar7 ac7 da7 rs7 a7 n7 c7 ∧ PolA w18 b10 ar10 ac10 da10 rs10 a10 n10 c10 ∧ PolZ w18 b12 ar10 ac10 da10 rs10 a12 n12 c12 ∧ PolA w18 b16 ar16 ac16 da16 rs16 a16 n16 c16 ∧ PolA w18 b18 ar18 ac18 da18 rs18 a18 n18 c18 ∧ PolA w18 b19 ar19 ac19 da19 rs19 a19 n19 c19 ∧ PolA w18 b20 ar20 ac20 da20 rs20 a20 n20 c20) := ⟨X.out.1.trans x, X.out.2.1.ext x, X.out.2.2.1.ext x, X.out.2.2.2.1.ext x, X.out.2.2.2.2.1.ext x, X.out.2.2.2.2.2.1.ext x, X.out.2.2.2.2.2.2.1.ext x, X.out.2.2.2.2.2.2.2.1.ext x, X.out.2.2.2.2.2.2.2.2.ext x⟩
  clear X
  have X := X2
  clear X2
  clear x HCL q0 q1 q2 q3
  have HCL : Hid (Calls Tryz.prog 13 #[.agg #[.int .i64 ar20, .int .i64 ac20, .int .i64 da20, .slice a20 n20 c20]] w18 fun e w' => e = .returned (.tuple #[.string D, .bool good]) ∧ Ext w18 w') := by
    rw [HD.out.1, HD.out.2]
    exact sShow_any (p := ⟨ar20, ac20, da20, rs20⟩) HS20.out.1 (X.out.2.2.2.2.2.2.2.2.2).pol
  obtain ⟨q0, q1, q2, q3⟩ := (⟨X.out.2.2.2.2.2.2.2.2.1.cell 0 _ rfl, X.out.2.2.2.2.2.2.2.2.1.cell 1 _ rfl, X.out.2.2.2.2.2.2.2.2.1.cell 2 _ rfl, X.out.2.2.2.2.2.2.2.2.1.cell 3 _ rfl⟩ : _ ∧ _ ∧ _ ∧ _)
  go_wp2_with fail
  refine (show Calls Tryz.prog 13 _ _ _ from HCL.out).mono ?_
  rintro e w19 ⟨rfl, x⟩
  have X2 : Hid (Ext w w19 ∧ PolA w19 b3 62 ac3 da3 rs3 a3 n3 c3 ∧ PolA w19 b7 ar7 ac7 da7 rs7 a7 n7 c7 ∧ PolA w19 b10 ar10 ac10 da10 rs10 a10 n10 c10 ∧ PolZ w19 b12 ar10 ac10 da10 rs10 a12 n12 c12 ∧ PolA w19 b16 ar16 ac16 da16 rs16 a16 n16 c16 ∧ PolA w19 b18 ar18 ac18 da18 rs18 a18 n18 c18 ∧ PolA w19 b19 ar19 ac19 da19 rs19 a19 n19 c19 ∧ PolA w19 b20 ar20 ac20 da20 rs20 a20 n20 c20) := ⟨X.out.1.trans x, X.out.2.1.ext x, X.out.2.2.1.ext x, X.out.2.2.2.1.ext x, X.out.2.2.2.2.1.ext x, X.out.2.2.2.2.2.1.ext x, X.out.2.2.2.2.2.2.1.ext x, X.out.2.2.2.2.2.2.2.1.ext x, X.out.2.2.2.2.2.2.2.2.ext x⟩
  clear X
  have X := X2
  clear X2
  clear x HCL q0 q1 q2 q3
  have F1 : Hid (ok = true → (⟨ar7, ac7, da7, rs7⟩ : PN) = ⟨62, ac3, da3, rs3⟩ ∧ right = true) := fun h => by
    have h1 := readV_show (p := ⟨62, ac3, da3, rs3⟩) (by rw [← HS.out.2]; exact h)
    rw [← HS.out.1, HV7.out] at h1
    injection h1 with h2 h3
    exact ⟨h2, h3⟩
  have F2 : Hid (shown = true → (⟨ar16, ac16, da16, rs16⟩ : PN) = ⟨ar10, ac10, da10, rs10⟩ ∧ back = true) := fun h => by
    have h1 := readV_show (p := ⟨ar10, ac10, da10, rs10⟩) (by rw [← HT.out.2]; exact h)
    rw [← HT.out.1, HV16.out] at h1
    injection h1 with h2 h3
    exact ⟨h2, h3⟩
  have hDD : (D.toList == D.toList) = true := by simp
  have hmm : (may == may) = true := by cases may <;> rfl
  have hgg : (good == good) = true := by cases good <;> rfl
  obtain ⟨zz, hzz⟩ : ∃ zz, zz = sameP ⟨ar18, ac18, da18, rs18⟩ ⟨ar19, ac19, da19, rs19⟩ := ⟨_, rfl⟩
  have hze : (zz == zz) = true := by cases zz <;> rfl
  have SC1 : Hid (∀ W, Ext w19 W → Calls Tryz.prog 14 #[.agg #[.int .i64 ar10, .int .i64 ac10, .int .i64 da10, .slice a10 n10 c10], .agg #[.int .i64 ar10, .int .i64 ac10, .int .i64 da10, .slice a12 n12 c12]] W fun e w' => e = .returned (.bool true) ∧ Ext W w') := fun W hE => by
    have h := sSame_rep (p := ⟨ar10, ac10, da10, rs10⟩) (q := ⟨ar10, ac10, da10, rs10⟩) HS10.out.1 HS10.out.1 ((X.out.2.2.2.1.2.pol).step hE) ((X.out.2.2.2.2.1.2).step hE)
    rw [sameP_refl] at h
    exact h
  have SC2 : Hid (∀ W, Ext w19 W → Calls Tryz.prog 15 #[.agg #[.int .i64 ar18, .int .i64 ac18, .int .i64 da18, .slice a18 n18 c18], .agg #[.int .i64 ar19, .int .i64 ac19, .int .i64 da19, .slice a19 n19 c19]] W fun e w' => e = .returned (.bool zz) ∧ Ext W w') := fun W hE => by
    have h := iSame_rep (p := ⟨ar18, ac18, da18, rs18⟩) (q := ⟨ar19, ac19, da19, rs19⟩) HS18.out.1 HS19.out.1 ((X.out.2.2.2.2.2.2.1.2.pol).step hE) ((X.out.2.2.2.2.2.2.2.1.2.pol).step hE)
    rw [← hzz] at h
    exact h
  have SC3 : Hid (∀ W, Ext w19 W → Calls Tryz.prog 14 #[.agg #[.int .i64 ar18, .int .i64 ac18, .int .i64 da18, .slice a18 n18 c18], .agg #[.int .i64 ar19, .int .i64 ac19, .int .i64 da19, .slice a19 n19 c19]] W fun e w' => e = .returned (.bool zz) ∧ Ext W w') := fun W hE => by
    have h := sSame_rep (p := ⟨ar18, ac18, da18, rs18⟩) (q := ⟨ar19, ac19, da19, rs19⟩) HS18.out.1 HS19.out.1 ((X.out.2.2.2.2.2.2.1.2.pol).step hE) ((X.out.2.2.2.2.2.2.2.1.2.pol).step hE)
    rw [← hzz] at h
    exact h
  have SC4 : Hid (∀ W, Ext w19 W → Calls Tryz.prog 15 #[.agg #[.int .i64 62, .int .i64 ac3, .int .i64 da3, .slice a3 n3 c3], .agg #[.int .i64 62, .int .i64 ac3, .int .i64 da3, .slice a3 n3 c3]] W fun e w' => e = .returned (.bool true) ∧ Ext W w') := fun W hE => by
    have h := iSame_rep (p := ⟨62, ac3, da3, rs3⟩) (q := ⟨62, ac3, da3, rs3⟩) HS3.out.1 HS3.out.1 ((X.out.2.1.2.pol).step hE) ((X.out.2.1.2.pol).step hE)
    rw [sameP_refl] at h
    exact h
  clear hzz
  go_upto_region 15 with fail
  go_cut [107] from 81 to 106 (fun s W => s = .bool false ∧ Hid (Ext w19 W))
  case first =>
    cases ok
    · cases may
      · have XE : Hid (Ext w19 w19) := Ext.refl _
        clear SC1 SC2 SC3 SC4 X
        go_wp2
        go_meet
        case rel => exact ⟨rfl, XE.out⟩
      · cases shown
        · have XE : Hid (Ext w19 w19) := Ext.refl _
          clear SC1 SC2 SC3 SC4 X
          go_wp2
          go_meet
          case rel => exact ⟨rfl, XE.out⟩
        · have XE : Hid (Ext w19 w19) := Ext.refl _
          obtain ⟨he, rfl⟩ := F2.out (by first | rfl | trivial)
          have HCL : Hid (Calls Tryz.prog 14 #[.agg #[.int .i64 ar16, .int .i64 ac16, .int .i64 da16, .slice a16 n16 c16], .agg #[.int .i64 ar10, .int .i64 ac10, .int .i64 da10, .slice a10 n10 c10]] w19 fun e w' => e = .returned (.bool true) ∧ Ext w19 w') := by
            have h := sSame_rep (p := ⟨ar16, ac16, da16, rs16⟩) (q := ⟨ar10, ac10, da10, rs10⟩) HS16.out.1 HS10.out.1 (X.out.2.2.2.2.2.1.2).pol (X.out.2.2.2.1.2).pol
            rw [he, sameP_refl] at h
            exact h
          clear he
          obtain ⟨q0, q1, q2, q3⟩ := (⟨X.out.2.2.2.2.2.1.1.cell 0 _ rfl, X.out.2.2.2.2.2.1.1.cell 1 _ rfl, X.out.2.2.2.2.2.1.1.cell 2 _ rfl, X.out.2.2.2.2.2.1.1.cell 3 _ rfl⟩ : _ ∧ _ ∧ _ ∧ _)
          obtain ⟨r0, r1, r2, r3⟩ := (⟨X.out.2.2.2.1.1.cell 0 _ rfl, X.out.2.2.2.1.1.cell 1 _ rfl, X.out.2.2.2.1.1.cell 2 _ rfl, X.out.2.2.2.1.1.cell 3 _ rfl⟩ : _ ∧ _ ∧ _ ∧ _)
          go_wp2_with fail
          refine (show Calls Tryz.prog 14 _ _ _ from HCL.out).mono ?_
          rintro e w21 ⟨rfl, x⟩
          have X2 : Hid (Ext w w21 ∧ PolA w21 b3 62 ac3 da3 rs3 a3 n3 c3 ∧ PolA w21 b7 ar7 ac7 da7 rs7 a7 n7 c7 ∧ PolA w21 b10 ar10 ac10 da10 rs10 a10 n10 c10 ∧ PolZ w21 b12 ar10 ac10 da10 rs10 a12 n12 c12 ∧ PolA w21 b16 ar16 ac16 da16 rs16 a16 n16 c16 ∧ PolA w21 b18 ar18 ac18 da18 rs18 a18 n18 c18 ∧ PolA w21 b19 ar19 ac19 da19 rs19 a19 n19 c19 ∧ PolA w21 b20 ar20 ac20 da20 rs20 a20 n20 c20) := ⟨X.out.1.trans x, X.out.2.1.ext x, X.out.2.2.1.ext x, X.out.2.2.2.1.ext x, X.out.2.2.2.2.1.ext x, X.out.2.2.2.2.2.1.ext x, X.out.2.2.2.2.2.2.1.ext x, X.out.2.2.2.2.2.2.2.1.ext x, X.out.2.2.2.2.2.2.2.2.ext x⟩
          clear X
          have X := X2
          clear X2
          have XE2 : Hid (Ext w19 w21) := XE.out.trans x
          clear XE
          have XE := XE2
          clear XE2
          clear x HCL q0 q1 q2 q3 r0 r1 r2 r3
          clear SC1 SC2 SC3 SC4 X
          go_wp2
          go_meet
          case rel => exact ⟨rfl, XE.out⟩
    · cases may
      · have XE : Hid (Ext w19 w19) := Ext.refl _
        obtain ⟨he, rfl⟩ := F1.out (by first | rfl | trivial)
        have HCL : Hid (Calls Tryz.prog 14 #[.agg #[.int .i64 ar7, .int .i64 ac7, .int .i64 da7, .slice a7 n7 c7], .agg #[.int .i64 62, .int .i64 ac3, .int .i64 da3, .slice a3 n3 c3]] w19 fun e w' => e = .returned (.bool true) ∧ Ext w19 w') := by
          have h := sSame_rep (p := ⟨ar7, ac7, da7, rs7⟩) (q := ⟨62, ac3, da3, rs3⟩) HS7.out.1 HS3.out.1 (X.out.2.2.1.2).pol (X.out.2.1.2).pol
          rw [he, sameP_refl] at h
          exact h
        clear he
        obtain ⟨q0, q1, q2, q3⟩ := (⟨X.out.2.2.1.1.cell 0 _ rfl, X.out.2.2.1.1.cell 1 _ rfl, X.out.2.2.1.1.cell 2 _ rfl, X.out.2.2.1.1.cell 3 _ rfl⟩ : _ ∧ _ ∧ _ ∧ _)
        obtain ⟨r0, r1, r2, r3⟩ := (⟨X.out.2.1.1.cell 0 _ rfl, X.out.2.1.1.cell 1 _ rfl, X.out.2.1.1.cell 2 _ rfl, X.out.2.1.1.cell 3 _ rfl⟩ : _ ∧ _ ∧ _ ∧ _)
        go_wp2_with fail
        refine (show Calls Tryz.prog 14 _ _ _ from HCL.out).mono ?_
        rintro e w20 ⟨rfl, x⟩
        have X2 : Hid (Ext w w20 ∧ PolA w20 b3 62 ac3 da3 rs3 a3 n3 c3 ∧ PolA w20 b7 ar7 ac7 da7 rs7 a7 n7 c7 ∧ PolA w20 b10 ar10 ac10 da10 rs10 a10 n10 c10 ∧ PolZ w20 b12 ar10 ac10 da10 rs10 a12 n12 c12 ∧ PolA w20 b16 ar16 ac16 da16 rs16 a16 n16 c16 ∧ PolA w20 b18 ar18 ac18 da18 rs18 a18 n18 c18 ∧ PolA w20 b19 ar19 ac19 da19 rs19 a19 n19 c19 ∧ PolA w20 b20 ar20 ac20 da20 rs20 a20 n20 c20) := ⟨X.out.1.trans x, X.out.2.1.ext x, X.out.2.2.1.ext x, X.out.2.2.2.1.ext x, X.out.2.2.2.2.1.ext x, X.out.2.2.2.2.2.1.ext x, X.out.2.2.2.2.2.2.1.ext x, X.out.2.2.2.2.2.2.2.1.ext x, X.out.2.2.2.2.2.2.2.2.ext x⟩
        clear X
        have X := X2
        clear X2
        have XE2 : Hid (Ext w19 w20) := XE.out.trans x
        clear XE
        have XE := XE2
        clear XE2
        clear x HCL q0 q1 q2 q3 r0 r1 r2 r3
        clear SC1 SC2 SC3 SC4 X
        go_wp2
        go_meet
        case rel => exact ⟨rfl, XE.out⟩
      · cases shown
        · have XE : Hid (Ext w19 w19) := Ext.refl _
          obtain ⟨he, rfl⟩ := F1.out (by first | rfl | trivial)
          have HCL : Hid (Calls Tryz.prog 14 #[.agg #[.int .i64 ar7, .int .i64 ac7, .int .i64 da7, .slice a7 n7 c7], .agg #[.int .i64 62, .int .i64 ac3, .int .i64 da3, .slice a3 n3 c3]] w19 fun e w' => e = .returned (.bool true) ∧ Ext w19 w') := by
            have h := sSame_rep (p := ⟨ar7, ac7, da7, rs7⟩) (q := ⟨62, ac3, da3, rs3⟩) HS7.out.1 HS3.out.1 (X.out.2.2.1.2).pol (X.out.2.1.2).pol
            rw [he, sameP_refl] at h
            exact h
          clear he
          obtain ⟨q0, q1, q2, q3⟩ := (⟨X.out.2.2.1.1.cell 0 _ rfl, X.out.2.2.1.1.cell 1 _ rfl, X.out.2.2.1.1.cell 2 _ rfl, X.out.2.2.1.1.cell 3 _ rfl⟩ : _ ∧ _ ∧ _ ∧ _)
          obtain ⟨r0, r1, r2, r3⟩ := (⟨X.out.2.1.1.cell 0 _ rfl, X.out.2.1.1.cell 1 _ rfl, X.out.2.1.1.cell 2 _ rfl, X.out.2.1.1.cell 3 _ rfl⟩ : _ ∧ _ ∧ _ ∧ _)
          go_wp2_with fail
          refine (show Calls Tryz.prog 14 _ _ _ from HCL.out).mono ?_
          rintro e w20 ⟨rfl, x⟩
          have X2 : Hid (Ext w w20 ∧ PolA w20 b3 62 ac3 da3 rs3 a3 n3 c3 ∧ PolA w20 b7 ar7 ac7 da7 rs7 a7 n7 c7 ∧ PolA w20 b10 ar10 ac10 da10 rs10 a10 n10 c10 ∧ PolZ w20 b12 ar10 ac10 da10 rs10 a12 n12 c12 ∧ PolA w20 b16 ar16 ac16 da16 rs16 a16 n16 c16 ∧ PolA w20 b18 ar18 ac18 da18 rs18 a18 n18 c18 ∧ PolA w20 b19 ar19 ac19 da19 rs19 a19 n19 c19 ∧ PolA w20 b20 ar20 ac20 da20 rs20 a20 n20 c20) := ⟨X.out.1.trans x, X.out.2.1.ext x, X.out.2.2.1.ext x, X.out.2.2.2.1.ext x, X.out.2.2.2.2.1.ext x, X.out.2.2.2.2.2.1.ext x, X.out.2.2.2.2.2.2.1.ext x, X.out.2.2.2.2.2.2.2.1.ext x, X.out.2.2.2.2.2.2.2.2.ext x⟩
          clear X
          have X := X2
          clear X2
          have XE2 : Hid (Ext w19 w20) := XE.out.trans x
          clear XE
          have XE := XE2
          clear XE2
          clear x HCL q0 q1 q2 q3 r0 r1 r2 r3
          clear SC1 SC2 SC3 SC4 X
          go_wp2
          go_meet
          case rel => exact ⟨rfl, XE.out⟩
        · have XE : Hid (Ext w19 w19) := Ext.refl _
          obtain ⟨he, rfl⟩ := F1.out (by first | rfl | trivial)
          have HCL : Hid (Calls Tryz.prog 14 #[.agg #[.int .i64 ar7, .int .i64 ac7, .int .i64 da7, .slice a7 n7 c7], .agg #[.int .i64 62, .int .i64 ac3, .int .i64 da3, .slice a3 n3 c3]] w19 fun e w' => e = .returned (.bool true) ∧ Ext w19 w') := by
            have h := sSame_rep (p := ⟨ar7, ac7, da7, rs7⟩) (q := ⟨62, ac3, da3, rs3⟩) HS7.out.1 HS3.out.1 (X.out.2.2.1.2).pol (X.out.2.1.2).pol
            rw [he, sameP_refl] at h
            exact h
          clear he
          obtain ⟨q0, q1, q2, q3⟩ := (⟨X.out.2.2.1.1.cell 0 _ rfl, X.out.2.2.1.1.cell 1 _ rfl, X.out.2.2.1.1.cell 2 _ rfl, X.out.2.2.1.1.cell 3 _ rfl⟩ : _ ∧ _ ∧ _ ∧ _)
          obtain ⟨r0, r1, r2, r3⟩ := (⟨X.out.2.1.1.cell 0 _ rfl, X.out.2.1.1.cell 1 _ rfl, X.out.2.1.1.cell 2 _ rfl, X.out.2.1.1.cell 3 _ rfl⟩ : _ ∧ _ ∧ _ ∧ _)
          go_wp2_with fail
          refine (show Calls Tryz.prog 14 _ _ _ from HCL.out).mono ?_
          rintro e w20 ⟨rfl, x⟩
          have X2 : Hid (Ext w w20 ∧ PolA w20 b3 62 ac3 da3 rs3 a3 n3 c3 ∧ PolA w20 b7 ar7 ac7 da7 rs7 a7 n7 c7 ∧ PolA w20 b10 ar10 ac10 da10 rs10 a10 n10 c10 ∧ PolZ w20 b12 ar10 ac10 da10 rs10 a12 n12 c12 ∧ PolA w20 b16 ar16 ac16 da16 rs16 a16 n16 c16 ∧ PolA w20 b18 ar18 ac18 da18 rs18 a18 n18 c18 ∧ PolA w20 b19 ar19 ac19 da19 rs19 a19 n19 c19 ∧ PolA w20 b20 ar20 ac20 da20 rs20 a20 n20 c20) := ⟨X.out.1.trans x, X.out.2.1.ext x, X.out.2.2.1.ext x, X.out.2.2.2.1.ext x, X.out.2.2.2.2.1.ext x, X.out.2.2.2.2.2.1.ext x, X.out.2.2.2.2.2.2.1.ext x, X.out.2.2.2.2.2.2.2.1.ext x, X.out.2.2.2.2.2.2.2.2.ext x⟩
          clear X
          have X := X2
          clear X2
          have XE2 : Hid (Ext w19 w20) := XE.out.trans x
          clear XE
          have XE := XE2
          clear XE2
          clear x HCL q0 q1 q2 q3 r0 r1 r2 r3
          obtain ⟨he, rfl⟩ := F2.out (by first | rfl | trivial)
          have HCL : Hid (Calls Tryz.prog 14 #[.agg #[.int .i64 ar16, .int .i64 ac16, .int .i64 da16, .slice a16 n16 c16], .agg #[.int .i64 ar10, .int .i64 ac10, .int .i64 da10, .slice a10 n10 c10]] w20 fun e w' => e = .returned (.bool true) ∧ Ext w20 w') := by
            have h := sSame_rep (p := ⟨ar16, ac16, da16, rs16⟩) (q := ⟨ar10, ac10, da10, rs10⟩) HS16.out.1 HS10.out.1 (X.out.2.2.2.2.2.1.2).pol (X.out.2.2.2.1.2).pol
            rw [he, sameP_refl] at h
            exact h
          clear he
          obtain ⟨q0, q1, q2, q3⟩ := (⟨X.out.2.2.2.2.2.1.1.cell 0 _ rfl, X.out.2.2.2.2.2.1.1.cell 1 _ rfl, X.out.2.2.2.2.2.1.1.cell 2 _ rfl, X.out.2.2.2.2.2.1.1.cell 3 _ rfl⟩ : _ ∧ _ ∧ _ ∧ _)
          obtain ⟨r0, r1, r2, r3⟩ := (⟨X.out.2.2.2.1.1.cell 0 _ rfl, X.out.2.2.2.1.1.cell 1 _ rfl, X.out.2.2.2.1.1.cell 2 _ rfl, X.out.2.2.2.1.1.cell 3 _ rfl⟩ : _ ∧ _ ∧ _ ∧ _)
          go_wp2_with fail
          refine (show Calls Tryz.prog 14 _ _ _ from HCL.out).mono ?_
          rintro e w21 ⟨rfl, x⟩
          have X2 : Hid (Ext w w21 ∧ PolA w21 b3 62 ac3 da3 rs3 a3 n3 c3 ∧ PolA w21 b7 ar7 ac7 da7 rs7 a7 n7 c7 ∧ PolA w21 b10 ar10 ac10 da10 rs10 a10 n10 c10 ∧ PolZ w21 b12 ar10 ac10 da10 rs10 a12 n12 c12 ∧ PolA w21 b16 ar16 ac16 da16 rs16 a16 n16 c16 ∧ PolA w21 b18 ar18 ac18 da18 rs18 a18 n18 c18 ∧ PolA w21 b19 ar19 ac19 da19 rs19 a19 n19 c19 ∧ PolA w21 b20 ar20 ac20 da20 rs20 a20 n20 c20) := ⟨X.out.1.trans x, X.out.2.1.ext x, X.out.2.2.1.ext x, X.out.2.2.2.1.ext x, X.out.2.2.2.2.1.ext x, X.out.2.2.2.2.2.1.ext x, X.out.2.2.2.2.2.2.1.ext x, X.out.2.2.2.2.2.2.2.1.ext x, X.out.2.2.2.2.2.2.2.2.ext x⟩
          clear X
          have X := X2
          clear X2
          have XE2 : Hid (Ext w19 w21) := XE.out.trans x
          clear XE
          have XE := XE2
          clear XE2
          clear x HCL q0 q1 q2 q3 r0 r1 r2 r3
          clear SC1 SC2 SC3 SC4 X
          go_wp2
          go_meet
          case rel => exact ⟨rfl, XE.out⟩
  case rest =>
    obtain ⟨rfl, XE⟩ := hcut
    have X2 : Hid (Ext w wc ∧ PolA wc b3 62 ac3 da3 rs3 a3 n3 c3 ∧ PolA wc b7 ar7 ac7 da7 rs7 a7 n7 c7 ∧ PolA wc b10 ar10 ac10 da10 rs10 a10 n10 c10 ∧ PolZ wc b12 ar10 ac10 da10 rs10 a12 n12 c12 ∧ PolA wc b16 ar16 ac16 da16 rs16 a16 n16 c16 ∧ PolA wc b18 ar18 ac18 da18 rs18 a18 n18 c18 ∧ PolA wc b19 ar19 ac19 da19 rs19 a19 n19 c19 ∧ PolA wc b20 ar20 ac20 da20 rs20 a20 n20 c20) := ⟨X.out.1.trans XE.out, X.out.2.1.ext XE.out, X.out.2.2.1.ext XE.out, X.out.2.2.2.1.ext XE.out, X.out.2.2.2.2.1.ext XE.out, X.out.2.2.2.2.2.1.ext XE.out, X.out.2.2.2.2.2.2.1.ext XE.out, X.out.2.2.2.2.2.2.2.1.ext XE.out, X.out.2.2.2.2.2.2.2.2.ext XE.out⟩
    clear X
    have X := X2
    clear X2
    go_wp2_with fail
    refine' wp_region_loose (.inl _ :: .inl _ :: .inl _ :: .inl _ :: .inl _ :: .inl _ :: .inl _ :: .inl _ :: .inl _ :: .inl _ :: .inl _ :: .inl _ :: .inl _ :: .inl _ :: .inl _ :: .inl _ :: .inl _ :: .inl _ :: .inl _ :: .inl _ :: .inl _ :: .inl _ :: .inl _ :: .inl _ :: .inl _ :: .inl _ :: .inl _ :: .inl _ :: .inl _ :: .inl _ :: .inl _ :: .inl _ :: .inl _ :: []) (fun w' => PolA w' b3 62 ac3 da3 rs3 a3 n3 c3 ∧ PolA w' b10 ar10 ac10 da10 rs10 a10 n10 c10 ∧ PolZ w' b12 ar10 ac10 da10 rs10 a12 n12 c12 ∧ PolA w' b18 ar18 ac18 da18 rs18 a18 n18 c18 ∧ PolA w' b19 ar19 ac19 da19 rs19 a19 n19 c19) (by kernel_rfl) (by kernel_rfl) (⟨X.out.2.1, X.out.2.2.2.1, X.out.2.2.2.2.1, X.out.2.2.2.2.2.2.1, X.out.2.2.2.2.2.2.2.1⟩) (fun _ _ h hE => ⟨h.1.ext hE, h.2.1.ext hE, h.2.2.1.ext hE, h.2.2.2.1.ext hE, h.2.2.2.2.ext hE⟩) ?hAa ?hla ?hMa
    case' hMa => skip
    apply wpLoose_val rfl rfl
    case hs =>
      intro w1 hC hd Q1 hQ1
      obtain ⟨hE, hS⟩ := hC
      dsimp only [bare]
      obtain ⟨p0, p1, p2, p3, q0, q1, q2, q3, r0, r1, r2, r3, s0, s1, s2, s3, t0, t1, t2, t3⟩ := (⟨hS.1.1.cell 0 _ rfl, hS.1.1.cell 1 _ rfl, hS.1.1.cell 2 _ rfl, hS.1.1.cell 3 _ rfl, hS.2.1.1.cell 0 _ rfl, hS.2.1.1.cell 1 _ rfl, hS.2.1.1.cell 2 _ rfl, hS.2.1.1.cell 3 _ rfl, hS.2.2.1.1.cell 0 _ rfl, hS.2.2.1.1.cell 1 _ rfl, hS.2.2.1.1.cell 2 _ rfl, hS.2.2.1.1.cell 3 _ rfl, hS.2.2.2.1.1.cell 0 _ rfl, hS.2.2.2.1.1.cell 1 _ rfl, hS.2.2.2.1.1.cell 2 _ rfl, hS.2.2.2.1.1.cell 3 _ rfl, hS.2.2.2.2.1.cell 0 _ rfl, hS.2.2.2.2.1.cell 1 _ rfl, hS.2.2.2.2.1.cell 2 _ rfl, hS.2.2.2.2.1.cell 3 _ rfl⟩ : _ ∧ _ ∧ _ ∧ _ ∧ _ ∧ _ ∧ _ ∧ _ ∧ _ ∧ _ ∧ _ ∧ _ ∧ _ ∧ _ ∧ _ ∧ _ ∧ _ ∧ _ ∧ _ ∧ _)
      clear hd hE
      try clear hS
      go_wp2
      exact Ext.refl _
    case ha => rfl
    apply wpLoose_val rfl rfl
    case hs =>
      intro w1 hC hd Q1 hQ1
      obtain ⟨hE, hS⟩ := hC
      dsimp only [bare]
      obtain ⟨p0, p1, p2, p3, q0, q1, q2, q3, r0, r1, r2, r3, s0, s1, s2, s3, t0, t1, t2, t3⟩ := (⟨hS.1.1.cell 0 _ rfl, hS.1.1.cell 1 _ rfl, hS.1.1.cell 2 _ rfl, hS.1.1.cell 3 _ rfl, hS.2.1.1.cell 0 _ rfl, hS.2.1.1.cell 1 _ rfl, hS.2.1.1.cell 2 _ rfl, hS.2.1.1.cell 3 _ rfl, hS.2.2.1.1.cell 0 _ rfl, hS.2.2.1.1.cell 1 _ rfl, hS.2.2.1.1.cell 2 _ rfl, hS.2.2.1.1.cell 3 _ rfl, hS.2.2.2.1.1.cell 0 _ rfl, hS.2.2.2.1.1.cell 1 _ rfl, hS.2.2.2.1.1.cell 2 _ rfl, hS.2.2.2.1.1.cell 3 _ rfl, hS.2.2.2.2.1.cell 0 _ rfl, hS.2.2.2.2.1.cell 1 _ rfl, hS.2.2.2.2.1.cell 2 _ rfl, hS.2.2.2.2.1.cell 3 _ rfl⟩ : _ ∧ _ ∧ _ ∧ _ ∧ _ ∧ _ ∧ _ ∧ _ ∧ _ ∧ _ ∧ _ ∧ _ ∧ _ ∧ _ ∧ _ ∧ _ ∧ _ ∧ _ ∧ _ ∧ _)
      clear hd hE
      try clear hS
      go_wp2
      exact Ext.refl _
    case ha => rfl
    apply wpLoose_val rfl rfl
    case hs =>
      intro w1 hC hd Q1 hQ1
      obtain ⟨hE, hS⟩ := hC
      dsimp only [bare]
      obtain ⟨p0, p1, p2, p3, q0, q1, q2, q3, r0, r1, r2, r3, s0, s1, s2, s3, t0, t1, t2, t3⟩ := (⟨hS.1.1.cell 0 _ rfl, hS.1.1.cell 1 _ rfl, hS.1.1.cell 2 _ rfl, hS.1.1.cell 3 _ rfl, hS.2.1.1.cell 0 _ rfl, hS.2.1.1.cell 1 _ rfl, hS.2.1.1.cell 2 _ rfl, hS.2.1.1.cell 3 _ rfl, hS.2.2.1.1.cell 0 _ rfl, hS.2.2.1.1.cell 1 _ rfl, hS.2.2.1.1.cell 2 _ rfl, hS.2.2.1.1.cell 3 _ rfl, hS.2.2.2.1.1.cell 0 _ rfl, hS.2.2.2.1.1.cell 1 _ rfl, hS.2.2.2.1.1.cell 2 _ rfl, hS.2.2.2.1.1.cell 3 _ rfl, hS.2.2.2.2.1.cell 0 _ rfl, hS.2.2.2.2.1.cell 1 _ rfl, hS.2.2.2.2.1.cell 2 _ rfl, hS.2.2.2.2.1.cell 3 _ rfl⟩ : _ ∧ _ ∧ _ ∧ _ ∧ _ ∧ _ ∧ _ ∧ _ ∧ _ ∧ _ ∧ _ ∧ _ ∧ _ ∧ _ ∧ _ ∧ _ ∧ _ ∧ _ ∧ _ ∧ _)
      clear hd hE
      try clear hS
      go_wp2
      exact Ext.refl _
    case ha => rfl
    apply wpLoose_val rfl rfl
    case hs =>
      intro w1 hC hd Q1 hQ1
      obtain ⟨hE, hS⟩ := hC
      dsimp only [bare]
      obtain ⟨p0, p1, p2, p3, q0, q1, q2, q3, r0, r1, r2, r3, s0, s1, s2, s3, t0, t1, t2, t3⟩ := (⟨hS.1.1.cell 0 _ rfl, hS.1.1.cell 1 _ rfl, hS.1.1.cell 2 _ rfl, hS.1.1.cell 3 _ rfl, hS.2.1.1.cell 0 _ rfl, hS.2.1.1.cell 1 _ rfl, hS.2.1.1.cell 2 _ rfl, hS.2.1.1.cell 3 _ rfl, hS.2.2.1.1.cell 0 _ rfl, hS.2.2.1.1.cell 1 _ rfl, hS.2.2.1.1.cell 2 _ rfl, hS.2.2.1.1.cell 3 _ rfl, hS.2.2.2.1.1.cell 0 _ rfl, hS.2.2.2.1.1.cell 1 _ rfl, hS.2.2.2.1.1.cell 2 _ rfl, hS.2.2.2.1.1.cell 3 _ rfl, hS.2.2.2.2.1.cell 0 _ rfl, hS.2.2.2.2.1.cell 1 _ rfl, hS.2.2.2.2.1.cell 2 _ rfl, hS.2.2.2.2.1.cell 3 _ rfl⟩ : _ ∧ _ ∧ _ ∧ _ ∧ _ ∧ _ ∧ _ ∧ _ ∧ _ ∧ _ ∧ _ ∧ _ ∧ _ ∧ _ ∧ _ ∧ _ ∧ _ ∧ _ ∧ _ ∧ _)
      clear hd hE
      try clear hS
      go_wp2
      exact Ext.refl _
    case ha => rfl
    apply wpLoose_val rfl rfl
    case hs =>
      intro w1 hC hd Q1 hQ1
      obtain ⟨hE, hS⟩ := hC
      dsimp only [bare]
      obtain ⟨p0, p1, p2, p3, q0, q1, q2, q3, r0, r1, r2, r3, s0, s1, s2, s3, t0, t1, t2, t3⟩ := (⟨hS.1.1.cell 0 _ rfl, hS.1.1.cell 1 _ rfl, hS.1.1.cell 2 _ rfl, hS.1.1.cell 3 _ rfl, hS.2.1.1.cell 0 _ rfl, hS.2.1.1.cell 1 _ rfl, hS.2.1.1.cell 2 _ rfl, hS.2.1.1.cell 3 _ rfl, hS.2.2.1.1.cell 0 _ rfl, hS.2.2.1.1.cell 1 _ rfl, hS.2.2.1.1.cell 2 _ rfl, hS.2.2.1.1.cell 3 _ rfl, hS.2.2.2.1.1.cell 0 _ rfl, hS.2.2.2.1.1.cell 1 _ rfl, hS.2.2.2.1.1.cell 2 _ rfl, hS.2.2.2.1.1.cell 3 _ rfl, hS.2.2.2.2.1.cell 0 _ rfl, hS.2.2.2.2.1.cell 1 _ rfl, hS.2.2.2.2.1.cell 2 _ rfl, hS.2.2.2.2.1.cell 3 _ rfl⟩ : _ ∧ _ ∧ _ ∧ _ ∧ _ ∧ _ ∧ _ ∧ _ ∧ _ ∧ _ ∧ _ ∧ _ ∧ _ ∧ _ ∧ _ ∧ _ ∧ _ ∧ _ ∧ _ ∧ _)
      clear hd hE
      try clear hS
      go_wp2
      exact Ext.refl _
    case ha => rfl
    apply wpLoose_val rfl rfl
    case hs =>
      intro w1 hC hd Q1 hQ1
      obtain ⟨hE, hS⟩ := hC
      dsimp only [bare]
      obtain ⟨p0, p1, p2, p3, q0, q1, q2, q3, r0, r1, r2, r3, s0, s1, s2, s3, t0, t1, t2, t3⟩ := (⟨hS.1.1.cell 0 _ rfl, hS.1.1.cell 1 _ rfl, hS.1.1.cell 2 _ rfl, hS.1.1.cell 3 _ rfl, hS.2.1.1.cell 0 _ rfl, hS.2.1.1.cell 1 _ rfl, hS.2.1.1.cell 2 _ rfl, hS.2.1.1.cell 3 _ rfl, hS.2.2.1.1.cell 0 _ rfl, hS.2.2.1.1.cell 1 _ rfl, hS.2.2.1.1.cell 2 _ rfl, hS.2.2.1.1.cell 3 _ rfl, hS.2.2.2.1.1.cell 0 _ rfl, hS.2.2.2.1.1.cell 1 _ rfl, hS.2.2.2.1.1.cell 2 _ rfl, hS.2.2.2.1.1.cell 3 _ rfl, hS.2.2.2.2.1.cell 0 _ rfl, hS.2.2.2.2.1.cell 1 _ rfl, hS.2.2.2.2.1.cell 2 _ rfl, hS.2.2.2.2.1.cell 3 _ rfl⟩ : _ ∧ _ ∧ _ ∧ _ ∧ _ ∧ _ ∧ _ ∧ _ ∧ _ ∧ _ ∧ _ ∧ _ ∧ _ ∧ _ ∧ _ ∧ _ ∧ _ ∧ _ ∧ _ ∧ _)
      clear hd hE
      try clear hS
      go_wp2
      exact Ext.refl _
    case ha => rfl
    apply wpLoose_val rfl rfl
    case hs =>
      intro w1 hC hd Q1 hQ1
      obtain ⟨hE, hS⟩ := hC
      dsimp only [bare]
      clear hd
      go_wp2_with fail
      refine (SC1.out _ (XE.out.drew.trans hE)).mono ?_
      rintro e w2 ⟨rfl, hb⟩
      go_wp2_with fail
      exact hb
    case ha => rfl
    apply wpLoose_val rfl rfl
    case hs =>
      intro w1 hC hd Q1 hQ1
      obtain ⟨hE, hS⟩ := hC
      dsimp only [bare]
      obtain ⟨p0, p1, p2, p3, q0, q1, q2, q3, r0, r1, r2, r3, s0, s1, s2, s3, t0, t1, t2, t3⟩ := (⟨hS.1.1.cell 0 _ rfl, hS.1.1.cell 1 _ rfl, hS.1.1.cell 2 _ rfl, hS.1.1.cell 3 _ rfl, hS.2.1.1.cell 0 _ rfl, hS.2.1.1.cell 1 _ rfl, hS.2.1.1.cell 2 _ rfl, hS.2.1.1.cell 3 _ rfl, hS.2.2.1.1.cell 0 _ rfl, hS.2.2.1.1.cell 1 _ rfl, hS.2.2.1.1.cell 2 _ rfl, hS.2.2.1.1.cell 3 _ rfl, hS.2.2.2.1.1.cell 0 _ rfl, hS.2.2.2.1.1.cell 1 _ rfl, hS.2.2.2.1.1.cell 2 _ rfl, hS.2.2.2.1.1.cell 3 _ rfl, hS.2.2.2.2.1.cell 0 _ rfl, hS.2.2.2.2.1.cell 1 _ rfl, hS.2.2.2.2.1.cell 2 _ rfl, hS.2.2.2.2.1.cell 3 _ rfl⟩ : _ ∧ _ ∧ _ ∧ _ ∧ _ ∧ _ ∧ _ ∧ _ ∧ _ ∧ _ ∧ _ ∧ _ ∧ _ ∧ _ ∧ _ ∧ _ ∧ _ ∧ _ ∧ _ ∧ _)
      clear hd hE
      try clear hS
      go_wp2
      exact Ext.refl _
    case ha => rfl
    apply wpLoose_val rfl rfl
    case hs =>
      intro w1 hC hd Q1 hQ1
      obtain ⟨hE, hS⟩ := hC
      dsimp only [bare]
      obtain ⟨p0, p1, p2, p3, q0, q1, q2, q3, r0, r1, r2, r3, s0, s1, s2, s3, t0, t1, t2, t3⟩ := (⟨hS.1.1.cell 0 _ rfl, hS.1.1.cell 1 _ rfl, hS.1.1.cell 2 _ rfl, hS.1.1.cell 3 _ rfl, hS.2.1.1.cell 0 _ rfl, hS.2.1.1.cell 1 _ rfl, hS.2.1.1.cell 2 _ rfl, hS.2.1.1.cell 3 _ rfl, hS.2.2.1.1.cell 0 _ rfl, hS.2.2.1.1.cell 1 _ rfl, hS.2.2.1.1.cell 2 _ rfl, hS.2.2.1.1.cell 3 _ rfl, hS.2.2.2.1.1.cell 0 _ rfl, hS.2.2.2.1.1.cell 1 _ rfl, hS.2.2.2.1.1.cell 2 _ rfl, hS.2.2.2.1.1.cell 3 _ rfl, hS.2.2.2.2.1.cell 0 _ rfl, hS.2.2.2.2.1.cell 1 _ rfl, hS.2.2.2.2.1.cell 2 _ rfl, hS.2.2.2.2.1.cell 3 _ rfl⟩ : _ ∧ _ ∧ _ ∧ _ ∧ _ ∧ _ ∧ _ ∧ _ ∧ _ ∧ _ ∧ _ ∧ _ ∧ _ ∧ _ ∧ _ ∧ _ ∧ _ ∧ _ ∧ _ ∧ _)
      clear hd hE
      try clear hS
      go_wp2
      exact Ext.refl _
    case ha => rfl
    apply wpLoose_val rfl rfl
    case hs =>
      intro w1 hC hd Q1 hQ1
      obtain ⟨hE, hS⟩ := hC
      dsimp only [bare]
      obtain ⟨p0, p1, p2, p3, q0, q1, q2, q3, r0, r1, r2, r3, s0, s1, s2, s3, t0, t1, t2, t3⟩ := (⟨hS.1.1.cell 0 _ rfl, hS.1.1.cell 1 _ rfl, hS.1.1.cell 2 _ rfl, hS.1.1.cell 3 _ rfl, hS.2.1.1.cell 0 _ rfl, hS.2.1.1.cell 1 _ rfl, hS.2.1.1.cell 2 _ rfl, hS.2.1.1.cell 3 _ rfl, hS.2.2.1.1.cell 0 _ rfl, hS.2.2.1.1.cell 1 _ rfl, hS.2.2.1.1.cell 2 _ rfl, hS.2.2.1.1.cell 3 _ rfl, hS.2.2.2.1.1.cell 0 _ rfl, hS.2.2.2.1.1.cell 1 _ rfl, hS.2.2.2.1.1.cell 2 _ rfl, hS.2.2.2.1.1.cell 3 _ rfl, hS.2.2.2.2.1.cell 0 _ rfl, hS.2.2.2.2.1.cell 1 _ rfl, hS.2.2.2.2.1.cell 2 _ rfl, hS.2.2.2.2.1.cell 3 _ rfl⟩ : _ ∧ _ ∧ _ ∧ _ ∧ _ ∧ _ ∧ _ ∧ _ ∧ _ ∧ _ ∧ _ ∧ _ ∧ _ ∧ _ ∧ _ ∧ _ ∧ _ ∧ _ ∧ _ ∧ _)
      clear hd hE
      try clear hS
      go_wp2
      exact Ext.refl _
    case ha => rfl
    apply wpLoose_val rfl rfl
    case hs =>
      intro w1 hC hd Q1 hQ1
      obtain ⟨hE, hS⟩ := hC
      dsimp only [bare]
      obtain ⟨p0, p1, p2, p3, q0, q1, q2, q3, r0, r1, r2, r3, s0, s1, s2, s3, t0, t1, t2, t3⟩ := (⟨hS.1.1.cell 0 _ rfl, hS.1.1.cell 1 _ rfl, hS.1.1.cell 2 _ rfl, hS.1.1.cell 3 _ rfl, hS.2.1.1.cell 0 _ rfl, hS.2.1.1.cell 1 _ rfl, hS.2.1.1.cell 2 _ rfl, hS.2.1.1.cell 3 _ rfl, hS.2.2.1.1.cell 0 _ rfl, hS.2.2.1.1.cell 1 _ rfl, hS.2.2.1.1.cell 2 _ rfl, hS.2.2.1.1.cell 3 _ rfl, hS.2.2.2.1.1.cell 0 _ rfl, hS.2.2.2.1.1.cell 1 _ rfl, hS.2.2.2.1.1.cell 2 _ rfl, hS.2.2.2.1.1.cell 3 _ rfl, hS.2.2.2.2.1.cell 0 _ rfl, hS.2.2.2.2.1.cell 1 _ rfl, hS.2.2.2.2.1.cell 2 _ rfl, hS.2.2.2.2.1.cell 3 _ rfl⟩ : _ ∧ _ ∧ _ ∧ _ ∧ _ ∧ _ ∧ _ ∧ _ ∧ _ ∧ _ ∧ _ ∧ _ ∧ _ ∧ _ ∧ _ ∧ _ ∧ _ ∧ _ ∧ _ ∧ _)
      clear hd hE
      try clear hS
      go_wp2
      exact Ext.refl _
    case ha => rfl
    apply wpLoose_val rfl rfl
    case hs =>
      intro w1 hC hd Q1 hQ1
      obtain ⟨hE, hS⟩ := hC
      dsimp only [bare]
      clear hd
      go_wp2_with fail
      refine (SC2.out _ (XE.out.drew.trans hE)).mono ?_
      rintro e w2 ⟨rfl, hb⟩
      go_wp2_with fail
      exact hb
    case ha => rfl
    apply wpLoose_val rfl rfl
    case hs =>
      intro w1 hC hd Q1 hQ1
      obtain ⟨hE, hS⟩ := hC
      dsimp only [bare]
      obtain ⟨p0, p1, p2, p3, q0, q1, q2, q3, r0, r1, r2, r3, s0, s1, s2, s3, t0, t1, t2, t3⟩ := (⟨hS.1.1.cell 0 _ rfl, hS.1.1.cell 1 _ rfl, hS.1.1.cell 2 _ rfl, hS.1.1.cell 3 _ rfl, hS.2.1.1.cell 0 _ rfl, hS.2.1.1.cell 1 _ rfl, hS.2.1.1.cell 2 _ rfl, hS.2.1.1.cell 3 _ rfl, hS.2.2.1.1.cell 0 _ rfl, hS.2.2.1.1.cell 1 _ rfl, hS.2.2.1.1.cell 2 _ rfl, hS.2.2.1.1.cell 3 _ rfl, hS.2.2.2.1.1.cell 0 _ rfl, hS.2.2.2.1.1.cell 1 _ rfl, hS.2.2.2.1.1.cell 2 _ rfl, hS.2.2.2.1.1.cell 3 _ rfl, hS.2.2.2.2.1.cell 0 _ rfl, hS.2.2.2.2.1.cell 1 _ rfl, hS.2.2.2.2.1.cell 2 _ rfl, hS.2.2.2.2.1.cell 3 _ rfl⟩ : _ ∧ _ ∧ _ ∧ _ ∧ _ ∧ _ ∧ _ ∧ _ ∧ _ ∧ _ ∧ _ ∧ _ ∧ _ ∧ _ ∧ _ ∧ _ ∧ _ ∧ _ ∧ _ ∧ _)
      clear hd hE
      try clear hS
      go_wp2
      exact Ext.refl _
    case ha => rfl
    apply wpLoose_val rfl rfl
    case hs =>
      intro w1 hC hd Q1 hQ1
      obtain ⟨hE, hS⟩ := hC
      dsimp only [bare]
      obtain ⟨p0, p1, p2, p3, q0, q1, q2, q3, r0, r1, r2, r3, s0, s1, s2, s3, t0, t1, t2, t3⟩ := (⟨hS.1.1.cell 0 _ rfl, hS.1.1.cell 1 _ rfl, hS.1.1.cell 2 _ rfl, hS.1.1.cell 3 _ rfl, hS.2.1.1.cell 0 _ rfl, hS.2.1.1.cell 1 _ rfl, hS.2.1.1.cell 2 _ rfl, hS.2.1.1.cell 3 _ rfl, hS.2.2.1.1.cell 0 _ rfl, hS.2.2.1.1.cell 1 _ rfl, hS.2.2.1.1.cell 2 _ rfl, hS.2.2.1.1.cell 3 _ rfl, hS.2.2.2.1.1.cell 0 _ rfl, hS.2.2.2.1.1.cell 1 _ rfl, hS.2.2.2.1.1.cell 2 _ rfl, hS.2.2.2.1.1.cell 3 _ rfl, hS.2.2.2.2.1.cell 0 _ rfl, hS.2.2.2.2.1.cell 1 _ rfl, hS.2.2.2.2.1.cell 2 _ rfl, hS.2.2.2.2.1.cell 3 _ rfl⟩ : _ ∧ _ ∧ _ ∧ _ ∧ _ ∧ _ ∧ _ ∧ _ ∧ _ ∧ _ ∧ _ ∧ _ ∧ _ ∧ _ ∧ _ ∧ _ ∧ _ ∧ _ ∧ _ ∧ _)
      clear hd hE
      try clear hS
      go_wp2
      exact Ext.refl _
    case ha => rfl
    apply wpLoose_val rfl rfl
    case hs =>
      intro w1 hC hd Q1 hQ1
      obtain ⟨hE, hS⟩ := hC
      dsimp only [bare]
      clear hd
      go_wp2_with fail
      refine (SC3.out _ (XE.out.drew.trans hE)).mono ?_
      rintro e w2 ⟨rfl, hb⟩
      go_wp2_with fail
      exact hb
    case ha => rfl
    apply wpLoose_val rfl rfl
    case hs =>
      intro w1 hC hd Q1 hQ1
      obtain ⟨hE, hS⟩ := hC
      dsimp only [bare]
      obtain ⟨p0, p1, p2, p3, q0, q1, q2, q3, r0, r1, r2, r3, s0, s1, s2, s3, t0, t1, t2, t3⟩ := (⟨hS.1.1.cell 0 _ rfl, hS.1.1.cell 1 _ rfl, hS.1.1.cell 2 _ rfl, hS.1.1.cell 3 _ rfl, hS.2.1.1.cell 0 _ rfl, hS.2.1.1.cell 1 _ rfl, hS.2.1.1.cell 2 _ rfl, hS.2.1.1.cell 3 _ rfl, hS.2.2.1.1.cell 0 _ rfl, hS.2.2.1.1.cell 1 _ rfl, hS.2.2.1.1.cell 2 _ rfl, hS.2.2.1.1.cell 3 _ rfl, hS.2.2.2.1.1.cell 0 _ rfl, hS.2.2.2.1.1.cell 1 _ rfl, hS.2.2.2.1.1.cell 2 _ rfl, hS.2.2.2.1.1.cell 3 _ rfl, hS.2.2.2.2.1.cell 0 _ rfl, hS.2.2.2.2.1.cell 1 _ rfl, hS.2.2.2.2.1.cell 2 _ rfl, hS.2.2.2.2.1.cell 3 _ rfl⟩ : _ ∧ _ ∧ _ ∧ _ ∧ _ ∧ _ ∧ _ ∧ _ ∧ _ ∧ _ ∧ _ ∧ _ ∧ _ ∧ _ ∧ _ ∧ _ ∧ _ ∧ _ ∧ _ ∧ _)
      clear hd hE
      try clear hS
      go_wp2
      exact Ext.refl _
    case ha => rfl
    apply wpLoose_val rfl rfl
    case hs =>
      intro w1 hC hd Q1 hQ1
      obtain ⟨hE, hS⟩ := hC
      dsimp only [bare]
      obtain ⟨p0, p1, p2, p3, q0, q1, q2, q3, r0, r1, r2, r3, s0, s1, s2, s3, t0, t1, t2, t3⟩ := (⟨hS.1.1.cell 0 _ rfl, hS.1.1.cell 1 _ rfl, hS.1.1.cell 2 _ rfl, hS.1.1.cell 3 _ rfl, hS.2.1.1.cell 0 _ rfl, hS.2.1.1.cell 1 _ rfl, hS.2.1.1.cell 2 _ rfl, hS.2.1.1.cell 3 _ rfl, hS.2.2.1.1.cell 0 _ rfl, hS.2.2.1.1.cell 1 _ rfl, hS.2.2.1.1.cell 2 _ rfl, hS.2.2.1.1.cell 3 _ rfl, hS.2.2.2.1.1.cell 0 _ rfl, hS.2.2.2.1.1.cell 1 _ rfl, hS.2.2.2.1.1.cell 2 _ rfl, hS.2.2.2.1.1.cell 3 _ rfl, hS.2.2.2.2.1.cell 0 _ rfl, hS.2.2.2.2.1.cell 1 _ rfl, hS.2.2.2.2.1.cell 2 _ rfl, hS.2.2.2.2.1.cell 3 _ rfl⟩ : _ ∧ _ ∧ _ ∧ _ ∧ _ ∧ _ ∧ _ ∧ _ ∧ _ ∧ _ ∧ _ ∧ _ ∧ _ ∧ _ ∧ _ ∧ _ ∧ _ ∧ _ ∧ _ ∧ _)
      clear hd hE
      try clear hS
      go_wp2
      exact Ext.refl _
    case ha => rfl
    apply wpLoose_val rfl rfl
    case hs =>
      intro w1 hC hd Q1 hQ1
      obtain ⟨hE, hS⟩ := hC
      dsimp only [bare]
      obtain ⟨p0, p1, p2, p3, q0, q1, q2, q3, r0, r1, r2, r3, s0, s1, s2, s3, t0, t1, t2, t3⟩ := (⟨hS.1.1.cell 0 _ rfl, hS.1.1.cell 1 _ rfl, hS.1.1.cell 2 _ rfl, hS.1.1.cell 3 _ rfl, hS.2.1.1.cell 0 _ rfl, hS.2.1.1.cell 1 _ rfl, hS.2.1.1.cell 2 _ rfl, hS.2.1.1.cell 3 _ rfl, hS.2.2.1.1.cell 0 _ rfl, hS.2.2.1.1.cell 1 _ rfl, hS.2.2.1.1.cell 2 _ rfl, hS.2.2.1.1.cell 3 _ rfl, hS.2.2.2.1.1.cell 0 _ rfl, hS.2.2.2.1.1.cell 1 _ rfl, hS.2.2.2.1.1.cell 2 _ rfl, hS.2.2.2.1.1.cell 3 _ rfl, hS.2.2.2.2.1.cell 0 _ rfl, hS.2.2.2.2.1.cell 1 _ rfl, hS.2.2.2.2.1.cell 2 _ rfl, hS.2.2.2.2.1.cell 3 _ rfl⟩ : _ ∧ _ ∧ _ ∧ _ ∧ _ ∧ _ ∧ _ ∧ _ ∧ _ ∧ _ ∧ _ ∧ _ ∧ _ ∧ _ ∧ _ ∧ _ ∧ _ ∧ _ ∧ _ ∧ _)
      clear hd hE
      try clear hS
      go_wp2
      exact Ext.refl _
    case ha => rfl
    apply wpLoose_val rfl rfl
    case hs =>
      intro w1 hC hd Q1 hQ1
      obtain ⟨hE, hS⟩ := hC
      dsimp only [bare]
      obtain ⟨p0, p1, p2, p3, q0, q1, q2, q3, r0, r1, r2, r3, s0, s1, s2, s3, t0, t1, t2, t3⟩ := (⟨hS.1.1.cell 0 _ rfl, hS.1.1.cell 1 _ rfl, hS.1.1.cell 2 _ rfl, hS.1.1.cell 3 _ rfl, hS.2.1.1.cell 0 _ rfl, hS.2.1.1.cell 1 _ rfl, hS.2.1.1.cell 2 _ rfl, hS.2.1.1.cell 3 _ rfl, hS.2.2.1.1.cell 0 _ rfl, hS.2.2.1.1.cell 1 _ rfl, hS.2.2.1.1.cell 2 _ rfl, hS.2.2.1.1.cell 3 _ rfl, hS.2.2.2.1.1.cell 0 _ rfl, hS.2.2.2.1.1.cell 1 _ rfl, hS.2.2.2.1.1.cell 2 _ rfl, hS.2.2.2.1.1.cell 3 _ rfl, hS.2.2.2.2.1.cell 0 _ rfl, hS.2.2.2.2.1.cell 1 _ rfl, hS.2.2.2.2.1.cell 2 _ rfl, hS.2.2.2.2.1.cell 3 _ rfl⟩ : _ ∧ _ ∧ _ ∧ _ ∧ _ ∧ _ ∧ _ ∧ _ ∧ _ ∧ _ ∧ _ ∧ _ ∧ _ ∧ _ ∧ _ ∧ _ ∧ _ ∧ _ ∧ _ ∧ _)
      clear hd hE
      try clear hS
      go_wp2
      exact Ext.refl _
    case ha => rfl
    apply wpLoose_val rfl rfl
    case hs =>
      intro w1 hC hd Q1 hQ1
      obtain ⟨hE, hS⟩ := hC
      dsimp only [bare]
      obtain ⟨p0, p1, p2, p3, q0, q1, q2, q3, r0, r1, r2, r3, s0, s1, s2, s3, t0, t1, t2, t3⟩ := (⟨hS.1.1.cell 0 _ rfl, hS.1.1.cell 1 _ rfl, hS.1.1.cell 2 _ rfl, hS.1.1.cell 3 _ rfl, hS.2.1.1.cell 0 _ rfl, hS.2.1.1.cell 1 _ rfl, hS.2.1.1.cell 2 _ rfl, hS.2.1.1.cell 3 _ rfl, hS.2.2.1.1.cell 0 _ rfl, hS.2.2.1.1.cell 1 _ rfl, hS.2.2.1.1.cell 2 _ rfl, hS.2.2.1.1.cell 3 _ rfl, hS.2.2.2.1.1.cell 0 _ rfl, hS.2.2.2.1.1.cell 1 _ rfl, hS.2.2.2.1.1.cell 2 _ rfl, hS.2.2.2.1.1.cell 3 _ rfl, hS.2.2.2.2.1.cell 0 _ rfl, hS.2.2.2.2.1.cell 1 _ rfl, hS.2.2.2.2.1.cell 2 _ rfl, hS.2.2.2.2.1.cell 3 _ rfl⟩ : _ ∧ _ ∧ _ ∧ _ ∧ _ ∧ _ ∧ _ ∧ _ ∧ _ ∧ _ ∧ _ ∧ _ ∧ _ ∧ _ ∧ _ ∧ _ ∧ _ ∧ _ ∧ _ ∧ _)
      clear hd hE
      try clear hS
      go_wp2
      exact Ext.refl _
    case ha => rfl
    apply wpLoose_val rfl rfl
    case hs =>
      intro w1 hC hd Q1 hQ1
      obtain ⟨hE, hS⟩ := hC
      dsimp only [bare]
      obtain ⟨p0, p1, p2, p3, q0, q1, q2, q3, r0, r1, r2, r3, s0, s1, s2, s3, t0, t1, t2, t3⟩ := (⟨hS.1.1.cell 0 _ rfl, hS.1.1.cell 1 _ rfl, hS.1.1.cell 2 _ rfl, hS.1.1.cell 3 _ rfl, hS.2.1.1.cell 0 _ rfl, hS.2.1.1.cell 1 _ rfl, hS.2.1.1.cell 2 _ rfl, hS.2.1.1.cell 3 _ rfl, hS.2.2.1.1.cell 0 _ rfl, hS.2.2.1.1.cell 1 _ rfl, hS.2.2.1.1.cell 2 _ rfl, hS.2.2.1.1.cell 3 _ rfl, hS.2.2.2.1.1.cell 0 _ rfl, hS.2.2.2.1.1.cell 1 _ rfl, hS.2.2.2.1.1.cell 2 _ rfl, hS.2.2.2.1.1.cell 3 _ rfl, hS.2.2.2.2.1.cell 0 _ rfl, hS.2.2.2.2.1.cell 1 _ rfl, hS.2.2.2.2.1.cell 2 _ rfl, hS.2.2.2.2.1.cell 3 _ rfl⟩ : _ ∧ _ ∧ _ ∧ _ ∧ _ ∧ _ ∧ _ ∧ _ ∧ _ ∧ _ ∧ _ ∧ _ ∧ _ ∧ _ ∧ _ ∧ _ ∧ _ ∧ _ ∧ _ ∧ _)
      clear hd hE
      try clear hS
      go_wp2
      exact Ext.refl _
    case ha => rfl
    apply wpLoose_val rfl rfl
    case hs =>
      intro w1 hC hd Q1 hQ1
      obtain ⟨hE, hS⟩ := hC
      dsimp only [bare]
      obtain ⟨p0, p1, p2, p3, q0, q1, q2, q3, r0, r1, r2, r3, s0, s1, s2, s3, t0, t1, t2, t3⟩ := (⟨hS.1.1.cell 0 _ rfl, hS.1.1.cell 1 _ rfl, hS.1.1.cell 2 _ rfl, hS.1.1.cell 3 _ rfl, hS.2.1.1.cell 0 _ rfl, hS.2.1.1.cell 1 _ rfl, hS.2.1.1.cell 2 _ rfl, hS.2.1.1.cell 3 _ rfl, hS.2.2.1.1.cell 0 _ rfl, hS.2.2.1.1.cell 1 _ rfl, hS.2.2.1.1.cell 2 _ rfl, hS.2.2.1.1.cell 3 _ rfl, hS.2.2.2.1.1.cell 0 _ rfl, hS.2.2.2.1.1.cell 1 _ rfl, hS.2.2.2.1.1.cell 2 _ rfl, hS.2.2.2.1.1.cell 3 _ rfl, hS.2.2.2.2.1.cell 0 _ rfl, hS.2.2.2.2.1.cell 1 _ rfl, hS.2.2.2.2.1.cell 2 _ rfl, hS.2.2.2.2.1.cell 3 _ rfl⟩ : _ ∧ _ ∧ _ ∧ _ ∧ _ ∧ _ ∧ _ ∧ _ ∧ _ ∧ _ ∧ _ ∧ _ ∧ _ ∧ _ ∧ _ ∧ _ ∧ _ ∧ _ ∧ _ ∧ _)
      clear hd hE
      try clear hS
      go_wp2
      exact Ext.refl _
    case ha => rfl
    apply wpLoose_val rfl rfl
    case hs =>
      intro w1 hC hd Q1 hQ1
      obtain ⟨hE, hS⟩ := hC
      dsimp only [bare]
      obtain ⟨p0, p1, p2, p3, q0, q1, q2, q3, r0, r1, r2, r3, s0, s1, s2, s3, t0, t1, t2, t3⟩ := (⟨hS.1.1.cell 0 _ rfl, hS.1.1.cell 1 _ rfl, hS.1.1.cell 2 _ rfl, hS.1.1.cell 3 _ rfl, hS.2.1.1.cell 0 _ rfl, hS.2.1.1.cell 1 _ rfl, hS.2.1.1.cell 2 _ rfl, hS.2.1.1.cell 3 _ rfl, hS.2.2.1.1.cell 0 _ rfl, hS.2.2.1.1.cell 1 _ rfl, hS.2.2.1.1.cell 2 _ rfl, hS.2.2.1.1.cell 3 _ rfl, hS.2.2.2.1.1.cell 0 _ rfl, hS.2.2.2.1.1.cell 1 _ rfl, hS.2.2.2.1.1.cell 2 _ rfl, hS.2.2.2.1.1.cell 3 _ rfl, hS.2.2.2.2.1.cell 0 _ rfl, hS.2.2.2.2.1.cell 1 _ rfl, hS.2.2.2.2.1.cell 2 _ rfl, hS.2.2.2.2.1.cell 3 _ rfl⟩ : _ ∧ _ ∧ _ ∧ _ ∧ _ ∧ _ ∧ _ ∧ _ ∧ _ ∧ _ ∧ _ ∧ _ ∧ _ ∧ _ ∧ _ ∧ _ ∧ _ ∧ _ ∧ _ ∧ _)
      clear hd hE
      try clear hS
      go_wp2
      exact Ext.refl _
    case ha => rfl
    apply wpLoose_val rfl rfl
    case hs =>
      intro w1 hC hd Q1 hQ1
      obtain ⟨hE, hS⟩ := hC
      dsimp only [bare]
      obtain ⟨p0, p1, p2, p3, q0, q1, q2, q3, r0, r1, r2, r3, s0, s1, s2, s3, t0, t1, t2, t3⟩ := (⟨hS.1.1.cell 0 _ rfl, hS.1.1.cell 1 _ rfl, hS.1.1.cell 2 _ rfl, hS.1.1.cell 3 _ rfl, hS.2.1.1.cell 0 _ rfl, hS.2.1.1.cell 1 _ rfl, hS.2.1.1.cell 2 _ rfl, hS.2.1.1.cell 3 _ rfl, hS.2.2.1.1.cell 0 _ rfl, hS.2.2.1.1.cell 1 _ rfl, hS.2.2.1.1.cell 2 _ rfl, hS.2.2.1.1.cell 3 _ rfl, hS.2.2.2.1.1.cell 0 _ rfl, hS.2.2.2.1.1.cell 1 _ rfl, hS.2.2.2.1.1.cell 2 _ rfl, hS.2.2.2.1.1.cell 3 _ rfl, hS.2.2.2.2.1.cell 0 _ rfl, hS.2.2.2.2.1.cell 1 _ rfl, hS.2.2.2.2.1.cell 2 _ rfl, hS.2.2.2.2.1.cell 3 _ rfl⟩ : _ ∧ _ ∧ _ ∧ _ ∧ _ ∧ _ ∧ _ ∧ _ ∧ _ ∧ _ ∧ _ ∧ _ ∧ _ ∧ _ ∧ _ ∧ _ ∧ _ ∧ _ ∧ _ ∧ _)
      clear hd hE
      try clear hS
      go_wp2
      exact Ext.refl _
    case ha => rfl
    apply wpLoose_val rfl rfl
    case hs =>
      intro w1 hC hd Q1 hQ1
      obtain ⟨hE, hS⟩ := hC
      dsimp only [bare]
      obtain ⟨p0, p1, p2, p3, q0, q1, q2, q3, r0, r1, r2, r3, s0, s1, s2, s3, t0, t1, t2, t3⟩ := (⟨hS.1.1.cell 0 _ rfl, hS.1.1.cell 1 _ rfl, hS.1.1.cell 2 _ rfl, hS.1.1.cell 3 _ rfl, hS.2.1.1.cell 0 _ rfl, hS.2.1.1.cell 1 _ rfl, hS.2.1.1.cell 2 _ rfl, hS.2.1.1.cell 3 _ rfl, hS.2.2.1.1.cell 0 _ rfl, hS.2.2.1.1.cell 1 _ rfl, hS.2.2.1.1.cell 2 _ rfl, hS.2.2.1.1.cell 3 _ rfl, hS.2.2.2.1.1.cell 0 _ rfl, hS.2.2.2.1.1.cell 1 _ rfl, hS.2.2.2.1.1.cell 2 _ rfl, hS.2.2.2.1.1.cell 3 _ rfl, hS.2.2.2.2.1.cell 0 _ rfl, hS.2.2.2.2.1.cell 1 _ rfl, hS.2.2.2.2.1.cell 2 _ rfl, hS.2.2.2.2.1.cell 3 _ rfl⟩ : _ ∧ _ ∧ _ ∧ _ ∧ _ ∧ _ ∧ _ ∧ _ ∧ _ ∧ _ ∧ _ ∧ _ ∧ _ ∧ _ ∧ _ ∧ _ ∧ _ ∧ _ ∧ _ ∧ _)
      clear hd hE
      try clear hS
      go_wp2
      exact Ext.refl _
    case ha => rfl
    apply wpLoose_val rfl rfl
    case hs =>
      intro w1 hC hd Q1 hQ1
      obtain ⟨hE, hS⟩ := hC
      dsimp only [bare]
      obtain ⟨p0, p1, p2, p3, q0, q1, q2, q3, r0, r1, r2, r3, s0, s1, s2, s3, t0, t1, t2, t3⟩ := (⟨hS.1.1.cell 0 _ rfl, hS.1.1.cell 1 _ rfl, hS.1.1.cell 2 _ rfl, hS.1.1.cell 3 _ rfl, hS.2.1.1.cell 0 _ rfl, hS.2.1.1.cell 1 _ rfl, hS.2.1.1.cell 2 _ rfl, hS.2.1.1.cell 3 _ rfl, hS.2.2.1.1.cell 0 _ rfl, hS.2.2.1.1.cell 1 _ rfl, hS.2.2.1.1.cell 2 _ rfl, hS.2.2.1.1.cell 3 _ rfl, hS.2.2.2.1.1.cell 0 _ rfl, hS.2.2.2.1.1.cell 1 _ rfl, hS.2.2.2.1.1.cell 2 _ rfl, hS.2.2.2.1.1.cell 3 _ rfl, hS.2.2.2.2.1.cell 0 _ rfl, hS.2.2.2.2.1.cell 1 _ rfl, hS.2.2.2.2.1.cell 2 _ rfl, hS.2.2.2.2.1.cell 3 _ rfl⟩ : _ ∧ _ ∧ _ ∧ _ ∧ _ ∧ _ ∧ _ ∧ _ ∧ _ ∧ _ ∧ _ ∧ _ ∧ _ ∧ _ ∧ _ ∧ _ ∧ _ ∧ _ ∧ _ ∧ _)
      clear hd hE
      try clear hS
      go_wp2
      exact Ext.refl _
    case ha => rfl
    apply wpLoose_val rfl rfl
    case hs =>
      intro w1 hC hd Q1 hQ1
      obtain ⟨hE, hS⟩ := hC
      dsimp only [bare]
      obtain ⟨p0, p1, p2, p3, q0, q1, q2, q3, r0, r1, r2, r3, s0, s1, s2, s3, t0, t1, t2, t3⟩ := (⟨hS.1.1.cell 0 _ rfl, hS.1.1.cell 1 _ rfl, hS.1.1.cell 2 _ rfl, hS.1.1.cell 3 _ rfl, hS.2.1.1.cell 0 _ rfl, hS.2.1.1.cell 1 _ rfl, hS.2.1.1.cell 2 _ rfl, hS.2.1.1.cell 3 _ rfl, hS.2.2.1.1.cell 0 _ rfl, hS.2.2.1.1.cell 1 _ rfl, hS.2.2.1.1.cell 2 _ rfl, hS.2.2.1.1.cell 3 _ rfl, hS.2.2.2.1.1.cell 0 _ rfl, hS.2.2.2.1.1.cell 1 _ rfl, hS.2.2.2.1.1.cell 2 _ rfl, hS.2.2.2.1.1.cell 3 _ rfl, hS.2.2.2.2.1.cell 0 _ rfl, hS.2.2.2.2.1.cell 1 _ rfl, hS.2.2.2.2.1.cell 2 _ rfl, hS.2.2.2.2.1.cell 3 _ rfl⟩ : _ ∧ _ ∧ _ ∧ _ ∧ _ ∧ _ ∧ _ ∧ _ ∧ _ ∧ _ ∧ _ ∧ _ ∧ _ ∧ _ ∧ _ ∧ _ ∧ _ ∧ _ ∧ _ ∧ _)
      clear hd hE
      try clear hS
      go_wp2
      exact Ext.refl _
    case ha => rfl
    apply wpLoose_val rfl rfl
    case hs =>
      intro w1 hC hd Q1 hQ1
      obtain ⟨hE, hS⟩ := hC
      dsimp only [bare]
      obtain ⟨p0, p1, p2, p3, q0, q1, q2, q3, r0, r1, r2, r3, s0, s1, s2, s3, t0, t1, t2, t3⟩ := (⟨hS.1.1.cell 0 _ rfl, hS.1.1.cell 1 _ rfl, hS.1.1.cell 2 _ rfl, hS.1.1.cell 3 _ rfl, hS.2.1.1.cell 0 _ rfl, hS.2.1.1.cell 1 _ rfl, hS.2.1.1.cell 2 _ rfl, hS.2.1.1.cell 3 _ rfl, hS.2.2.1.1.cell 0 _ rfl, hS.2.2.1.1.cell 1 _ rfl, hS.2.2.1.1.cell 2 _ rfl, hS.2.2.1.1.cell 3 _ rfl, hS.2.2.2.1.1.cell 0 _ rfl, hS.2.2.2.1.1.cell 1 _ rfl, hS.2.2.2.1.1.cell 2 _ rfl, hS.2.2.2.1.1.cell 3 _ rfl, hS.2.2.2.2.1.cell 0 _ rfl, hS.2.2.2.2.1.cell 1 _ rfl, hS.2.2.2.2.1.cell 2 _ rfl, hS.2.2.2.2.1.cell 3 _ rfl⟩ : _ ∧ _ ∧ _ ∧ _ ∧ _ ∧ _ ∧ _ ∧ _ ∧ _ ∧ _ ∧ _ ∧ _ ∧ _ ∧ _ ∧ _ ∧ _ ∧ _ ∧ _ ∧ _ ∧ _)
      clear hd hE
      try clear hS
      go_wp2
      exact Ext.refl _
    case ha => rfl
    apply wpLoose_val rfl rfl
    case hs =>
      intro w1 hC hd Q1 hQ1
      obtain ⟨hE, hS⟩ := hC
      dsimp only [bare]
      obtain ⟨p0, p1, p2, p3, q0, q1, q2, q3, r0, r1, r2, r3, s0, s1, s2, s3, t0, t1, t2, t3⟩ := (⟨hS.1.1.cell 0 _ rfl, hS.1.1.cell 1 _ rfl, hS.1.1.cell 2 _ rfl, hS.1.1.cell 3 _ rfl, hS.2.1.1.cell 0 _ rfl, hS.2.1.1.cell 1 _ rfl, hS.2.1.1.cell 2 _ rfl, hS.2.1.1.cell 3 _ rfl, hS.2.2.1.1.cell 0 _ rfl, hS.2.2.1.1.cell 1 _ rfl, hS.2.2.1.1.cell 2 _ rfl, hS.2.2.1.1.cell 3 _ rfl, hS.2.2.2.1.1.cell 0 _ rfl, hS.2.2.2.1.1.cell 1 _ rfl, hS.2.2.2.1.1.cell 2 _ rfl, hS.2.2.2.1.1.cell 3 _ rfl, hS.2.2.2.2.1.cell 0 _ rfl, hS.2.2.2.2.1.cell 1 _ rfl, hS.2.2.2.2.1.cell 2 _ rfl, hS.2.2.2.2.1.cell 3 _ rfl⟩ : _ ∧ _ ∧ _ ∧ _ ∧ _ ∧ _ ∧ _ ∧ _ ∧ _ ∧ _ ∧ _ ∧ _ ∧ _ ∧ _ ∧ _ ∧ _ ∧ _ ∧ _ ∧ _ ∧ _)
      clear hd hE
      try clear hS
      go_wp2
      exact Ext.refl _
    case ha => rfl
    apply wpLoose_val rfl rfl
    case hs =>
      intro w1 hC hd Q1 hQ1
      obtain ⟨hE, hS⟩ := hC
      dsimp only [bare]
      obtain ⟨p0, p1, p2, p3, q0, q1, q2, q3, r0, r1, r2, r3, s0, s1, s2, s3, t0, t1, t2, t3⟩ := (⟨hS.1.1.cell 0 _ rfl, hS.1.1.cell 1 _ rfl, hS.1.1.cell 2 _ rfl, hS.1.1.cell 3 _ rfl, hS.2.1.1.cell 0 _ rfl, hS.2.1.1.cell 1 _ rfl, hS.2.1.1.cell 2 _ rfl, hS.2.1.1.cell 3 _ rfl, hS.2.2.1.1.cell 0 _ rfl, hS.2.2.1.1.cell 1 _ rfl, hS.2.2.1.1.cell 2 _ rfl, hS.2.2.1.1.cell 3 _ rfl, hS.2.2.2.1.1.cell 0 _ rfl, hS.2.2.2.1.1.cell 1 _ rfl, hS.2.2.2.1.1.cell 2 _ rfl, hS.2.2.2.1.1.cell 3 _ rfl, hS.2.2.2.2.1.cell 0 _ rfl, hS.2.2.2.2.1.cell 1 _ rfl, hS.2.2.2.2.1.cell 2 _ rfl, hS.2.2.2.2.1.cell 3 _ rfl⟩ : _ ∧ _ ∧ _ ∧ _ ∧ _ ∧ _ ∧ _ ∧ _ ∧ _ ∧ _ ∧ _ ∧ _ ∧ _ ∧ _ ∧ _ ∧ _ ∧ _ ∧ _ ∧ _ ∧ _)
      clear hd hE
      try clear hS
      go_wp2
      exact Ext.refl _
    case ha => rfl
    apply wpLoose_val rfl rfl
    case hs =>
      intro w1 hC hd Q1 hQ1
      obtain ⟨hE, hS⟩ := hC
      dsimp only [bare]
      clear hd
      go_wp2_with fail
      refine (SC4.out _ (XE.out.drew.trans hE)).mono ?_
      rintro e w2 ⟨rfl, hb⟩
      go_wp2_with fail
      exact hb
    case ha => rfl
    apply wpLoose_val rfl rfl
    case hs =>
      intro w1 hC hd Q1 hQ1
      obtain ⟨hE, hS⟩ := hC
      dsimp only [bare]
      obtain ⟨p0, p1, p2, p3, q0, q1, q2, q3, r0, r1, r2, r3, s0, s1, s2, s3, t0, t1, t2, t3⟩ := (⟨hS.1.1.cell 0 _ rfl, hS.1.1.cell 1 _ rfl, hS.1.1.cell 2 _ rfl, hS.1.1.cell 3 _ rfl, hS.2.1.1.cell 0 _ rfl, hS.2.1.1.cell 1 _ rfl, hS.2.1.1.cell 2 _ rfl, hS.2.1.1.cell 3 _ rfl, hS.2.2.1.1.cell 0 _ rfl, hS.2.2.1.1.cell 1 _ rfl, hS.2.2.1.1.cell 2 _ rfl, hS.2.2.1.1.cell 3 _ rfl, hS.2.2.2.1.1.cell 0 _ rfl, hS.2.2.2.1.1.cell 1 _ rfl, hS.2.2.2.1.1.cell 2 _ rfl, hS.2.2.2.1.1.cell 3 _ rfl, hS.2.2.2.2.1.cell 0 _ rfl, hS.2.2.2.2.1.cell 1 _ rfl, hS.2.2.2.2.1.cell 2 _ rfl, hS.2.2.2.2.1.cell 3 _ rfl⟩ : _ ∧ _ ∧ _ ∧ _ ∧ _ ∧ _ ∧ _ ∧ _ ∧ _ ∧ _ ∧ _ ∧ _ ∧ _ ∧ _ ∧ _ ∧ _ ∧ _ ∧ _ ∧ _ ∧ _)
      clear hd hE
      try clear hS
      go_wp2
      exact Ext.refl _
    case ha => rfl
    apply wpLoose_val rfl rfl
    case hs =>
      intro w1 hC hd Q1 hQ1
      obtain ⟨hE, hS⟩ := hC
      dsimp only [bare]
      obtain ⟨p0, p1, p2, p3, q0, q1, q2, q3, r0, r1, r2, r3, s0, s1, s2, s3, t0, t1, t2, t3⟩ := (⟨hS.1.1.cell 0 _ rfl, hS.1.1.cell 1 _ rfl, hS.1.1.cell 2 _ rfl, hS.1.1.cell 3 _ rfl, hS.2.1.1.cell 0 _ rfl, hS.2.1.1.cell 1 _ rfl, hS.2.1.1.cell 2 _ rfl, hS.2.1.1.cell 3 _ rfl, hS.2.2.1.1.cell 0 _ rfl, hS.2.2.1.1.cell 1 _ rfl, hS.2.2.1.1.cell 2 _ rfl, hS.2.2.1.1.cell 3 _ rfl, hS.2.2.2.1.1.cell 0 _ rfl, hS.2.2.2.1.1.cell 1 _ rfl, hS.2.2.2.1.1.cell 2 _ rfl, hS.2.2.2.1.1.cell 3 _ rfl, hS.2.2.2.2.1.cell 0 _ rfl, hS.2.2.2.2.1.cell 1 _ rfl, hS.2.2.2.2.1.cell 2 _ rfl, hS.2.2.2.2.1.cell 3 _ rfl⟩ : _ ∧ _ ∧ _ ∧ _ ∧ _ ∧ _ ∧ _ ∧ _ ∧ _ ∧ _ ∧ _ ∧ _ ∧ _ ∧ _ ∧ _ ∧ _ ∧ _ ∧ _ ∧ _ ∧ _)
      clear hd hE
      try clear hS
      go_wp2
      exact Ext.refl _
    case ha => rfl
    refine wpLoose_nil ?_
    intro wa hEa hSa hFa
    have e9 : Hid (Ext w wa) := X.out.1.drew.trans hEa
    clear hEa hSa hFa X
    go_wp2
    go_ret
    exact ⟨rfl, e9.out⟩
    case hAa => kernel_rfl
    case hla => exact ⟨trivial, trivial, trivial, trivial, trivial, trivial, trivial, trivial, trivial, trivial, trivial, trivial, trivial, trivial, trivial, trivial, trivial, trivial, trivial, trivial, trivial, trivial, trivial, trivial, trivial, trivial, trivial, trivial, trivial, trivial, trivial, trivial, trivial, trivial⟩

set_option maxRecDepth 100000 in
theorem contract (H : Type) (enc : TypeId × Value → H) (W : World) (base : Nat) (args : Array Value) (ds gs : List (DataW H)) (before : List MemPlace)
    (hval : ∀ (j : Nat) t v, Tryz.f3.params[j]? = some t → args[j]? = some v → Value.okWide Tryz.prog W .any base t v)
    (hW : DataW.Whole enc Tryz.prog Tryz.f3.params.toList Rows.fnPoliciesSpec.vars false W args.toList ds gs before) (hL : laidMetH Tryz.prog Rows.fnPoliciesRow.laid W) :
    Calls Tryz.prog 3 args W fun e W' => ∃ v, e = .returned v ∧ Rows.fnPoliciesSpec.post enc Tryz.prog Tryz.f3 false true false false W args v W' := by
  have hW' := hW
  obtain ⟨p, q, hA0, hV, rfl, hfz, hnd⟩ := hW
  have hA : DataW.TrodAll enc Tryz.prog W 0 (fun _ => true) true Tryz.f3.params.toList args.toList ds p := hA0
  rw [Tryz.params3] at hA hval
  obtain ⟨v0, vs0, d0, ds0, p0, q0, hargs, rfl, rfl, h0, r0⟩ := trodAll_cons hA
  obtain ⟨rfl, rfl, rfl⟩ := trodAll_nil r0
  obtain rfl : args = #[v0] := by cases args; simp_all
  have hV0 := hV
  obtain ⟨gi, gt, gcs, gfuel, gd, gp, rfl, _, _, _, _, _⟩ := trodVars_one hV0
  have lt0 : ∀ x ∈ p0, x.block < W.heap.size := by obtain ⟨m, hm⟩ := h0; exact DataW.trod_lt m _ _ _ hm
  have k0 := h0
  obtain ⟨a0, len0, cap0, rfl⟩ := okWide_slice Tryz.underlying22 (hval 0 22 v0 rfl rfl)
  have raw0 : Raw W a0 len0 := by
    obtain ⟨fuel, hf⟩ := h0
    rcases open_ints Tryz.underlying22 Tryz.underlying5 (by kernel_rfl) hf with ⟨hcs, _⟩ | ⟨x, l, c, zs, hcs, _, hl, hm, hz, _, hcell, hwz⟩
    · simp [Value.cells] at hcs
      obtain ⟨rfl, rfl, rfl⟩ := hcs
      intro h; omega
    · simp [Value.cells] at hcs
      obtain ⟨rfl, rfl, rfl⟩ := hcs
      have hz' : zs.length = cap0 := by simpa using hz
      intro hpos
      obtain ⟨b, off, spot⟩ := x
      have hspot : spot = none := by simpa [Addr.add] using World.cell?_spot (hcell 0 (by omega))
      subst hspot
      refine ⟨b, off, rfl, fun j hj => ?_⟩
      have hj' : j < zs.length := by omega
      have hw := hwz _ (List.getElem_mem hj')
      have hb := bounds_u8 hw
      refine ⟨(zs[j]).toNat, by omega, ?_⟩
      have := hcell j hj'
      rw [Addr.add_lit] at this
      rw [this, List.getD_eq_getElem?_getD, List.getElem?_eq_getElem hj']
      simp only [Option.getD_some]
      congr 2
      omega
  clear hA0
  refine (walk a0 len0 cap0 W raw0 (table hL).1 (table hL).2).mono fun e W' ⟨he, bel⟩ => ?_
  subst he
  exact ⟨_, rfl, _, _, _, [], _, q, hW', trodAll_mk1 (shut_bool Tryz.underlying4 _), (trodAll_cons_mk (Below.trod laidOut (by kernel_rfl) (of_decide_eq_true (by kernel_rfl)) k0 bel lt0) trodAll_mk0), bel.trodVars laidOut (by kernel_rfl) hV, bel.frame _, fun h => by cases h⟩

/-- A listed table's cells. -/
def tabCells : DataW Unit → Array Value
  | .agg l => (l.map fun | .lit (.int k n) => Value.int k n | .lit (.string s) => Value.string ⟨s.toArray⟩ | _ => Value.int .i64 0).toArray
  | _ => #[]
def setCells (cs : Array Value) : Obj → Obj
  | .cells _ t fr => .cells cs t fr
  | o => o
/-- A world in which the tables hold what their initialisers lay. -/
def withTabs (w : World) : World := { w with heap := (((w.heap.modify 0 (setCells (tabCells Rows.laid_loop_example_g00397_impl_cmMarks))).modify 1 (setCells (tabCells Rows.laid_internal_strconv_uint64pow10))).modify 2 (setCells (tabCells Rows.laid_math_bits_deBruijn32tab))).modify 3 (setCells (tabCells Rows.laid_math_bits_deBruijn64tab)) }

theorem laid_met (os : Os) : laidMet Tryz.prog Rows.fnPoliciesRow.laid ((withTabs (World.holding Tryz.prog os ⟨#[], #[], []⟩)).forCall (fun _ _ => 0) ⟨#[], #[.slice none 0 0], []⟩).memory :=
  laidMet_of_run' 8 (by kernel_rfl) (by kernel_rfl)
theorem reads (os : Os) {H : Type} (enc : TypeId × Value → H) : ∃ places, DataW.whole enc Tryz.prog ((withTabs (World.holding Tryz.prog os ⟨#[], #[], []⟩)).forCall (fun _ _ => 0) ⟨#[], #[.slice none 0 0], []⟩).memory Tryz.f3.params.toList Rows.fnPoliciesSpec.vars false #[Value.slice none 0 0].toList 8 = some ([.nil], [Rows.laid_loop_example_g00397_impl_cmMarks], places) :=
  ⟨MemPlace.row ⟨0, 0, none⟩ 7, by kernel_rfl⟩

set_option maxRecDepth 100000 in
theorem lifted (os : Os) (started : os.Started) (H : Type) (enc : TypeId × Value → H) (F : Stop.Interp) :
    ReturnsInHanded {} Tryz.checked os 3 .any ((OpenSpec.ofChange Rows.fnPoliciesSpec).preRow enc Tryz.prog Tryz.f3 Rows.fnPoliciesRow.domain false Rows.fnPoliciesRow.laid) (((OpenSpec.ofChange Rows.fnPoliciesSpec).at F).post enc Tryz.prog Tryz.f3 false true false false) := by
  obtain ⟨places, hx⟩ := reads os enc
  refine returnsInHanded_of_row (C := Tryz.checked) (s := OpenSpec.ofChange Rows.fnPoliciesSpec) own started (by kernel_rfl) Tryz.func3
    (witness_row_at (enc := enc) (C := Tryz.checked) false (withTabs (World.holding Tryz.prog os ⟨#[], #[], []⟩)) #[.slice none 0 0] rfl (by kernel_rfl) (by kernel_rfl) (by kernel_rfl)
      (OpenSpec.preRow_of_cond 8 hx (by kernel_rfl) (fun k hk => by cases hk) (by kernel_rfl) (laid_met os))) ?_
  intro W base args ds gs before hval hW _ _ _ hL _ _
  exact contract H enc W base args ds gs before hval hW hL

theorem said : Rows.FnPoliciesSaid :=
  OpenClaim.holds_of_cond 3 Tryz.f3 rfl rfl rfl rfl rfl rfl rfl ⟨rfl, rfl, rfl, rfl, rfl⟩ rfl rfl rfl rfl rfl (by kernel_rfl) Tryz.func3 (by kernel_rfl)
    (of_decide_eq_true (by kernel_rfl)) (by unfold Func.isWrapper; first | (rw [if_pos (by decide +kernel)]; kernel_rfl) | (rw [if_neg (by decide +kernel)]; exact ⟨rfl, rfl⟩))
    (fun os started H enc _ F => by rw [OpenClaim.pre_eq_preRow]; exact lifted os started H enc F)

theorem plain (f : FuncId) (fn : Func) (hf : Tryz.pinned.checked.prog.funcNamed "loop.example/g00397/laws.FnPolicies" = some f) (hfn : Tryz.pinned.checked.prog.funcs[f]? = some fn) :
    true = Tryz.pinned.checked.prog.looks [] ∧ ∀ (j : Nat) t, fn.params[j]? = some t → Tryz.pinned.checked.prog.wantsStandIn t = false := by
  obtain rfl : f = 3 := Option.some.inj ((show Tryz.prog.funcNamed "loop.example/g00397/laws.FnPolicies" = some 3 by kernel_rfl).symm.trans hf) |>.symm
  obtain rfl : fn = Tryz.f3 := (Option.some.inj (Tryz.func3.symm.trans hfn)).symm
  refine ⟨by kernel_rfl, fun j t ht => ?_⟩
  rw [Tryz.params3] at ht
  obtain rfl : t = 22 := by simpa using Array.mem_of_getElem? ht
  exact (show Tryz.prog.wantsStandIn 22 = false by kernel_rfl)

end Go.Proofs.YtojaohdmfahpmaaGreatDoor.FnPolicies
namespace Go.Proofs.YtojaohdmfahpmaaGreatDoor
open Go.ChangeShapes Go.WideShapes Go.ChangeAt Go.RowKit

theorem policies_card : Rows.FnPoliciesCardSaid :=
  Claim7.holds_tied_plain_at .later [] _ _ _ _ FnPolicies.said (fun _ h => by cases h) (by kernel_rfl) (fun _ h => by cases h) fnPolicies_row_tie rfl ⟨rfl, rfl⟩ (by kernel_rfl) rfl FnPolicies.plain (by kernel_rfl)
#print axioms policies_card
end Go.Proofs.YtojaohdmfahpmaaGreatDoor
