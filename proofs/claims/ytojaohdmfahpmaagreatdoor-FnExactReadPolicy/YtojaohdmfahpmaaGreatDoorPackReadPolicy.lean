/- Proved: at every text the law FnExactReadPolicy answers true, so impl.ReadPolicy answers as spec.ReadPolicy, field by field, and its answer owns its memory, behind another call too (the law itself passes texts longer than 1<<20 by); the card ties the program's own table of marks. -/
import Derived.Test.YtojaohdmfahpmaaGreatDoorPackReadPolicy45
import Derived.Lib.LaidTab
import Derived.Test.YtojaohdmfahpmaaGreatDoorCards
import Derived.Test.YtojaohdmfahpmaaGreatDoorTie
import Derived.Test.YtojaohdmfahpmaaGreatDoorPackReadPolicy51
import Derived.WalkKit
import Derived.WalkSmall
import Derived.ProofKit
import Derived.OpenShut
import Derived.ShutString
import Derived.ChangeOld
import Derived.ChangeVars
import Derived.OpenVars
import Derived.Below
import Derived.Deep.DeepHandedRow
/- The program's own table of marks: from a row's list to the cells. -/
namespace Go.Proofs.YtojaohdmfahpmaaGreatDoor
open Go.RowKit Go.ChangeShapes Go.WideShapes Go.ChangeAt
set_option linter.unusedVariables false

def cmsD {H : Type} : DataW H := .agg ((([] :: cmL).map fun s => DataW.lit (.string s)))

theorem gCms : Tryz.prog.globalNamed "loop.example/g00397/impl.cmMarks" = some 0 := by kernel_rfl
theorem gCmsType : (Tryz.prog.globals[0]?).map (·.type) = some 141 := by kernel_rfl
theorem cellsCms : Tryz.prog.cellsOf 141 = 7 := by kernel_rfl
theorem cellsStr : Tryz.prog.cellsOf 9 = 1 := by kernel_rfl

theorem cells_of_strs {H : Type} {enc : TypeId × Value → H} {P : Program} {w : World} {base : Nat} {sp : Nat → Bool} {held : Bool} {fuel : Nat} {t e : TypeId} {n : Nat} {cs : List Value} {zs : List (List UInt8)} {p : List MemPlace}
    (ht : P.underlying t = some (.array n e)) (he : P.underlying e = some .string) (hce : P.cellsOf e = 1) (hct : P.cellsOf t = n)
    (h : DataW.trod enc P w base sp held fuel t cs = some (.agg (zs.map fun s => DataW.lit (.string s)), p)) : cs = zs.map fun z => Value.string (txt z) := by
  cases fuel with
  | zero => simp [DataW.trod] at h
  | succ fuel =>
    simp only [DataW.trod, ht, hce, hct, Nat.mul_one] at h
    split at h
    · rename_i hl
      obtain ⟨xs, hm, hx⟩ := Option.map_eq_some_iff.1 h
      have hxs : xs.map (·.1) = zs.map fun z => (DataW.lit (.string z) : DataW H) := by
        have := congrArg Prod.fst hx
        simpa using this
      have hxl : xs.length = n := by simpa using Lib.mapM_length hm
      have hzl : zs.length = n := by
        have := congrArg List.length hxs
        simp at this
        omega
      apply List.ext_getElem?
      intro i
      by_cases hi : i < n
      · obtain ⟨b, hb, hf⟩ := Lib.mapM_at hm i i (by simp [hi])
        obtain ⟨z, hc, rfl, _⟩ := DataW.trod_string he hf
        have h1 : cs[i]? = some (.string z) := by
          have := congrArg (·[0]?) hc
          simpa [List.getElem?_take, List.getElem?_drop] using this
        have h2 : (xs.map (·.1))[i]? = some (DataW.lit (.string z.data.toList) : DataW H) := by simp [hb]
        rw [hxs] at h2
        simp only [List.getElem?_map, Option.map_eq_some_iff, DataW.lit.injEq, Lit.string.injEq] at h2
        obtain ⟨z', hz', e⟩ := h2
        simp [h1, hz', e, txt_data]
      · rw [List.getElem?_eq_none (by omega), List.getElem?_eq_none (by simp; omega)]
    · cases h

theorem cms_of_var {W : World} {fuel base : Nat} {sp : Nat → Bool} {held : Bool} {cs : List Value} {p : List MemPlace} {enc : TypeId × Value → Unit} (hv : W.var? Tryz.prog "loop.example/g00397/impl.cmMarks" = some cs.toArray)
    (hd : DataW.trod enc Tryz.prog W base sp held fuel 141 cs = some (cmsD, p)) : Cms W := by
  have hc := cells_of_strs Tryz.underlying141 Tryz.underlying9 cellsStr cellsCms hd
  have key : ∀ k, k < 7 → W.cell? ⟨0, k, none⟩ = some (.string (txt (cmT k))) := fun k hk => by
    have h1 := World.var?_cell gCms hv k
    have hk' : k < ([] :: cmL).length := by simpa [cmL] using hk
    rw [hc] at h1
    have h2 : ((([] :: cmL).map fun z => Value.string (txt z)).toArray)[k]? = some (.string (txt (cmT k))) := by
      rw [List.getElem?_toArray, List.getElem?_map, List.getElem?_eq_getElem hk']
      simp [cmT, List.getD_eq_getElem?_getD, List.getElem?_eq_getElem hk']
    first | exact h1.trans h2 | (rw [h2] at h1; exact h1) | simpa [h2] using h1
  exact ⟨key, World.block_lt_of_cell? W _ (key 0 (by decide))⟩

end Go.Proofs.YtojaohdmfahpmaaGreatDoor

namespace Go.Proofs.YtojaohdmfahpmaaGreatDoor.ReadPolicy
open Go.ChangeShapes Go.WideShapes Go.ChangeAt Go.RowKit
open Go.ChangeMaps (open_string shut_string)
set_option linter.unusedVariables false

theorem own : ownKnob Tryz.prog.godebug = none := by kernel_rfl
theorem laidOut : laidOutB Tryz.prog = true := by kernel_rfl
theorem cmsDatum : (Rows.laid_loop_example_g00397_impl_cmMarks : DataW Unit) = cmsD := by kernel_rfl

/-- The row's list gives the table's cells. -/
theorem table {W : World} (h : laidMetH Tryz.prog Rows.fnExactReadPolicyRow.laid W) : Cms W := by
  have h' : laidMet Tryz.prog [("loop.example/g00397/impl.cmMarks", Rows.laid_loop_example_g00397_impl_cmMarks)] W := h
  obtain ⟨ps, ⟨g4, t4, cs4, f4, p4, q4, hg4, ht4, hv4, hd4, _, _⟩, _⟩ := h'
  obtain rfl := Option.some.inj (gCms.symm.trans hg4)
  obtain rfl := Option.some.inj (gCmsType.symm.trans ht4)
  rw [cmsDatum] at hd4
  exact cms_of_var hv4 hd4

theorem readT_small {s : ByteArray} {p : PN} (h : readT s = some p) : p.rules.length ≤ 10 ∧ ∀ r ∈ p.rules, Small r := by
  unfold readT at h
  cases e : signsR s.data.toList with
  | none => rw [e] at h; cases h
  | some G =>
    rw [e] at h
    simp only at h
    unfold readG at h
    cases e2 : rPolicy G with
    | none => rw [e2] at h; cases h
    | some q =>
      rw [e2] at h
      simp only at h
      have hl := signsR_length s.data.toList
      rw [e] at hl
      obtain ⟨h1, _⟩ := rPolicy_small (signsR_good e) hl e2
      cases eb : policyB q
      · rw [eb] at h; cases h
      · rw [eb] at h
        simp only [if_true, Option.some.injEq] at h
        subst h
        obtain ⟨ar, ac, da, rs⟩ := q
        rw [policyB_if] at eb
        simp only [Bool.and_eq_true, decide_eq_true_eq] at eb
        refine ⟨eb.1.2, fun r hr => ?_⟩
        obtain ⟨k, hk⟩ := List.getElem?_of_mem hr
        have hk2 := (List.getElem?_eq_some_iff.1 hk).1
        have := h1.2 k hk2
        rw [List.getD_eq_getElem?_getD, hk] at this
        exact this

/-- What is read, and whether it is a policy. -/
def readV (s : ByteArray) : PN × Bool := match readT s with
  | some p => (p, true)
  | none => (⟨0, 0, 0, []⟩, false)

theorem readV_small (s : ByteArray) : (readV s).1.rules.length ≤ 10 ∧ ∀ r ∈ (readV s).1.rules, Small r := by
  unfold readV
  cases e : readT s with
  | none => simp
  | some p => exact readT_small e

theorem sRead_v (s : ByteArray) (w : World) : Calls Tryz.prog 10 #[.string s] w fun e w' => ∃ u, e = .returned (.tuple #[u, .bool (readV s).2]) ∧ RepPol (readV s).1 u w' ∧ Ext w w' := by
  refine (sRead_any s w).mono fun e w' ⟨hg, hE⟩ => ?_
  unfold readV
  cases er : readT s with
  | none =>
    rw [er] at hg
    exact ⟨_, hg, ⟨none, 0, rfl, fun hp => by simp at hp⟩, hE⟩
  | some p =>
    rw [er] at hg
    obtain ⟨u, h1, h2⟩ : ∃ u, e = .returned (.tuple #[u, .bool true]) ∧ RepPol p u w' := hg
    exact ⟨u, h1, h2, hE⟩

theorem iRead_v (s : ByteArray) (w : World) (hC : Cms w) (hs : s.size ≤ 1048576) : Calls Tryz.prog 8 #[.string s] w fun e w' => ∃ (v : Value) (ps : List (RN × List Value)), e = .returned (.tuple #[.agg #[.int .i64 (readV s).1.arch, .int .i64 (readV s).1.act, .int .i64 (readV s).1.data, v], .bool (readV s).2]) ∧ (readV s).1.rules = ps.map (·.1) ∧ RulesX w.heap.size w' v ps ∧ Ext w w' := by
  refine (iRead_any s w hC hs).mono fun e w' ⟨hg, hE⟩ => ?_
  unfold readV
  cases er : readT s with
  | none =>
    rw [er] at hg
    exact ⟨_, [], hg, rfl, ⟨World.ownsRow_nil _ _ _ _, RowsX.nil hE.size⟩, hE⟩
  | some p =>
    rw [er] at hg
    obtain ⟨v, ps, h1, h2, h3⟩ : ∃ (v : Value) (ps : List (RN × List Value)), e = .returned (.tuple #[.agg #[.int .i64 p.arch, .int .i64 p.act, .int .i64 p.data, v], .bool true]) ∧ p.rules = ps.map (·.1) ∧ RulesX w.heap.size w' v ps := hg
    exact ⟨v, ps, h1, h2, h3, hE⟩

theorem below_ext {B : Nat} {W0 W1 W2 : World} (h : Ext W0 W1) (hb : Below B W1 W2) (hB : B = W0.heap.size) : Ext W0 W2 :=
  ⟨hb.os.trans h.os, hb.tape.trans h.tape, hb.output.trans h.output, Nat.le_trans h.size hb.size, fun i hi => (hb.block i (by omega)).trans (h.block i hi)⟩

set_option maxRecDepth 100000 in
set_option maxHeartbeats 3200000 in
theorem walk (s : ByteArray) (w : World) (hC : Cms w) : Calls Tryz.prog 4 #[.string s] w fun e w' => e = .returned (.bool true) ∧ Below w.heap.size w w' := by
  by_cases hbig : 1048576 < s.size
  · have hb : ((1048576 : Int) < (s.size : Int)) := by omega
    clear hC
    go_enter Tryz.func4, Tryz.ntmps4
    go_wp2
    go_ret
    exact ⟨rfl, Below.refl _ _⟩
  have hs : s.size ≤ 1048576 := by omega
  have hb : ¬ ((1048576 : Int) < (s.size : Int)) := by omega
  clear hbig
  obtain ⟨hl10, hsm⟩ := readV_small s
  have SR : Hid (∀ W, Calls Tryz.prog 10 #[.string s] W fun e w' => ∃ u, e = .returned (.tuple #[u, .bool (readV s).2]) ∧ RepPol (readV s).1 u w' ∧ Ext W w') := fun W => sRead_v s W
  have IR : Hid (∀ W, Ext w W → Calls Tryz.prog 8 #[.string s] W fun e w' => ∃ (v : Value) (ps : List (RN × List Value)), e = .returned (.tuple #[.agg #[.int .i64 (readV s).1.arch, .int .i64 (readV s).1.act, .int .i64 (readV s).1.data, v], .bool (readV s).2]) ∧ (readV s).1.rules = ps.map (·.1) ∧ RulesX W.heap.size w' v ps ∧ Ext W w') := fun W hE => iRead_v s W (hC.ext hE) hs
  obtain ⟨z, hz⟩ : ∃ z, z = (readV s).2 := ⟨_, rfl⟩
  rw [← hz] at SR IR
  clear hz hC
  generalize (readV s).1 = pol at *
  obtain ⟨ar, ac, da, rs⟩ := pol
  simp only at hl10 hsm IR
  have HSM : Hid (SmallR rs ∧ rs.length ≤ 10 ∧ ∀ r ∈ rs, Small r) := ⟨smallR_of (by omega) hsm, hl10, hsm⟩
  obtain ⟨K, hK⟩ : ∃ K, K = 1 + sumR rs := ⟨_, rfl⟩
  have HK : Hid (K = 1 + sumR rs) := hK
  clear hl10 hsm hK
  have hzz : (z != z) = false := by cases z <;> rfl
  have hk0 : ¬ ((K : Int) < 0) := by omega
  go_enter Tryz.func4, Tryz.ntmps4
  go_wp2_with fail
  refine (show Calls Tryz.prog 10 _ _ _ from SR.out w).mono ?_
  rintro e w1 ⟨u1, rfl, r1, x1⟩
  have R1 : Hid (∀ W, Ext w1 W → RepPol ⟨ar, ac, da, rs⟩ u1 W) := fun W hE => r1.step hE
  obtain ⟨a1, c1, rfl, _⟩ := r1
  simp only
  simp only at R1
  obtain ⟨n1, hn1⟩ : ∃ n1, n1 = rs.length := ⟨_, rfl⟩
  rw [← hn1] at R1 ⊢
  clear hn1
  have X1 : Hid (Ext w (w1.alloc (.cells #[.int .i64 ar, .int .i64 ac, .int .i64 da, .slice a1 n1 c1] 26)) ∧ Ext w1 (w1.alloc (.cells #[.int .i64 ar, .int .i64 ac, .int .i64 da, .slice a1 n1 c1] 26)) ∧ Kn (w1.alloc (.cells #[.int .i64 ar, .int .i64 ac, .int .i64 da, .slice a1 n1 c1] 26)) w1.heap.size [.int .i64 ar, .int .i64 ac, .int .i64 da, .slice a1 n1 c1] 26) := ⟨x1.trans (Ext.one _ _), Ext.one _ _, Kn.new w1 _ _⟩
  clear x1 SR hb
  go_wp2_with fail
  generalize w1.alloc (.cells #[.int .i64 ar, .int .i64 ac, .int .i64 da, .slice a1 n1 c1] 26) = W2 at *
  generalize w1.heap.size = b3 at *
  have hIR := IR.out W2 X1.out.1
  refine (show Calls Tryz.prog 8 _ _ _ from hIR).mono ?_
  rintro e w4 ⟨v4, ps, rfl, hps, hx, x4⟩
  obtain ⟨a4, c4, hv4⟩ := own_slice hx.1
  obtain ⟨n4, hn4⟩ : ∃ n4, n4 = ps.length := ⟨_, rfl⟩
  rw [← hn4] at hv4
  subst hv4
  have HPS : Hid (rs = ps.map (·.1) ∧ n4 = ps.length) := ⟨hps, hn4⟩
  have X5 : Hid (Ext W2 (w4.alloc (.cells #[.int .i64 ar, .int .i64 ac, .int .i64 da, .slice a4 n4 c4] 26)) ∧ (w4.alloc (.cells #[.int .i64 ar, .int .i64 ac, .int .i64 da, .slice a4 n4 c4] 26)).ownsRow W2.heap.size 53 4 (.slice a4 n4 c4) ps.length (ps.flatMap (·.2)) ∧ RowsX W2.heap.size w4.heap.size (w4.alloc (.cells #[.int .i64 ar, .int .i64 ac, .int .i64 da, .slice a4 n4 c4] 26)) (Value.slice a4 n4 c4).ownBlock ps ∧ (∀ x, (Value.slice a4 n4 c4).ownBlock = some x → x < w4.heap.size) ∧ Kn (w4.alloc (.cells #[.int .i64 ar, .int .i64 ac, .int .i64 da, .slice a4 n4 c4] 26)) w4.heap.size [.int .i64 ar, .int .i64 ac, .int .i64 da, .slice a4 n4 c4] 26) :=
    ⟨x4.trans (Ext.one _ _), own_ext hx.1 (Ext.one _ _), hx.2.stay (Ext.one _ _), fun x h => (own_lt9 hx.1 h).2, Kn.new w4 _ _⟩
  clear hIR hx x4 hps hn4
  have k3 := X1.out.2.2.ext X5.out.1
  have k5 := X5.out.2.2.2.2
  obtain ⟨p0, p1, p2, p3⟩ := (⟨k3.cell 0 _ rfl, k3.cell 1 _ rfl, k3.cell 2 _ rfl, k3.cell 3 _ rfl⟩ : _ ∧ _ ∧ _ ∧ _)
  obtain ⟨q0, q1, q2, q3⟩ := (⟨k5.cell 0 _ rfl, k5.cell 1 _ rfl, k5.cell 2 _ rfl, k5.cell 3 _ rfl⟩ : _ ∧ _ ∧ _ ∧ _)
  have EQ : Hid (Calls Tryz.prog 16 #[.agg #[.int .i64 ar, .int .i64 ac, .int .i64 da, .slice a4 n4 c4], .agg #[.int .i64 ar, .int .i64 ac, .int .i64 da, .slice a1 n1 c1]] (w4.alloc (.cells #[.int .i64 ar, .int .i64 ac, .int .i64 da, .slice a4 n4 c4] 26)) fun e w' => e = .returned (.bool true) ∧ Ext (w4.alloc (.cells #[.int .i64 ar, .int .i64 ac, .int .i64 da, .slice a4 n4 c4] 26)) w') := by
    have hr : RepPol ⟨ar, ac, da, rs⟩ (.agg #[.int .i64 ar, .int .i64 ac, .int .i64 da, .slice a4 n4 c4]) (w4.alloc (.cells #[.int .i64 ar, .int .i64 ac, .int .i64 da, .slice a4 n4 c4] 26)) := by
      rw [HPS.out.1]
      exact RulesX.rep (B := W2.heap.size) ⟨X5.out.2.1, X5.out.2.2.1.up (by have := k5.lt; omega)⟩ ar ac da
    exact eqPolicy_rep HSM.out.1 hr (R1.out _ (X1.out.2.1.trans X5.out.1))
  clear k3 k5
  go_wp2_with fail
  generalize w4.alloc (.cells #[.int .i64 ar, .int .i64 ac, .int .i64 da, .slice a4 n4 c4] 26) = W5 at *
  generalize w4.heap.size = b5 at *
  refine (show Calls Tryz.prog 16 _ _ _ from EQ.out).mono ?_
  rintro e w6 ⟨rfl, x6⟩
  have X6 : Hid (Ext W5 w6) := x6
  have k5 := X5.out.2.2.2.2.ext x6
  clear EQ x6 p0 p1 p2 p3 q0 q1 q2 q3
  obtain ⟨q0, q1, q2, q3⟩ := (⟨k5.cell 0 _ rfl, k5.cell 1 _ rfl, k5.cell 2 _ rfl, k5.cell 3 _ rfl⟩ : _ ∧ _ ∧ _ ∧ _)
  have MK : Hid (Calls Tryz.prog 17 #[.agg #[.int .i64 ar, .int .i64 ac, .int .i64 da, .slice a4 n4 c4], .int .i64 1] w6 fun e w' => e = .returned (.int .i64 (K : Int)) ∧ (∃ a cap, Value.slice a4 n4 c4 = .slice a ps.length cap ∧ Rules w' a (mkRs rs)) ∧ Below W2.heap.size w6 w' ∧ ∀ b, b5 ≤ b → b < w6.heap.size → w'.heap[b]? = w6.heap[b]?) := by
    rw [HK.out, HPS.out.1]
    exact markPol_any ar ac da (own_ext X5.out.2.1 X6.out) (X5.out.2.2.1.stay X6.out) X5.out.2.2.2.1 (Nat.le_trans X5.out.1.size X6.out.size) (by have := HSM.out.2.1; rw [HPS.out.1] at this; simpa using this) (fun q hq => HSM.out.2.2 q.1 (by rw [HPS.out.1]; exact List.mem_map_of_mem hq))
  clear k5
  go_wp2_with fail
  refine (show Calls Tryz.prog 17 _ _ _ from MK.out).mono ?_
  rintro e w7 ⟨rfl, hru, hbl, hup⟩
  have hru2 : Rules w7 a4 (mkRs rs) := by
    obtain ⟨a, cap, e, hr⟩ := hru
    injection e with e1 e2 e3
    subst e1
    exact hr
  have k6 := X5.out.2.2.2.2.ext X6.out
  have X7 : Hid (Ext W2 w7 ∧ Rules w7 a4 (mkRs rs) ∧ Kn w7 b5 [.int .i64 ar, .int .i64 ac, .int .i64 da, .slice a4 n4 c4] 26) := ⟨below_ext (X5.out.1.trans X6.out) hbl rfl, hru2, (hup b5 (Nat.le_refl _) k6.lt).trans k6⟩
  clear hru hru2 hbl hup k6 MK X6 X5 q0 q1 q2 q3
  have k5 := X7.out.2.2
  obtain ⟨q0, q1, q2, q3⟩ := (⟨k5.cell 0 _ rfl, k5.cell 1 _ rfl, k5.cell 2 _ rfl, k5.cell 3 _ rfl⟩ : _ ∧ _ ∧ _ ∧ _)
  have HE : Hid (∀ W, Ext w7 W → Calls Tryz.prog 18 #[.agg #[.int .i64 ar, .int .i64 ac, .int .i64 da, .slice a4 n4 c4], .int .i64 1] W fun e w' => e = .returned (.int .i64 (K : Int)) ∧ Ext W w') := fun W hE => by
    rw [HK.out]
    exact heldPol_any ar ac da a4 c4 n4 rs W (by rw [HPS.out.2, HPS.out.1]; simp) HSM.out.2.1 HSM.out.2.2 (X7.out.2.1.step hE)
  clear k5
  go_wp2_with fail
  refine (show Calls Tryz.prog 18 _ _ _ from HE.out w7 (Ext.refl _)).mono ?_
  rintro e w8 ⟨rfl, x8⟩
  have X8 : Hid (Ext w7 w8) := x8
  clear x8 q0 q1 q2 q3
  go_wp2_with fail
  refine (show Calls Tryz.prog 8 _ _ _ from IR.out w8 ((X1.out.1.trans X7.out.1).trans X8.out)).mono ?_
  rintro e w9 ⟨v9, qs, rfl, hqs, hx, x9⟩
  obtain ⟨a9, c9, hv9⟩ := own_slice hx.1
  obtain ⟨n9, hn9⟩ : ∃ n9, n9 = qs.length := ⟨_, rfl⟩
  rw [← hn9] at hv9
  subst hv9
  have X9 : Hid (Ext w7 (w9.alloc (.cells #[.int .i64 ar, .int .i64 ac, .int .i64 da, .slice a9 n9 c9] 26)) ∧ RepPol ⟨ar, ac, da, rs⟩ (.agg #[.int .i64 ar, .int .i64 ac, .int .i64 da, .slice a9 n9 c9]) (w9.alloc (.cells #[.int .i64 ar, .int .i64 ac, .int .i64 da, .slice a9 n9 c9] 26)) ∧ Kn (w9.alloc (.cells #[.int .i64 ar, .int .i64 ac, .int .i64 da, .slice a9 n9 c9] 26)) w9.heap.size [.int .i64 ar, .int .i64 ac, .int .i64 da, .slice a9 n9 c9] 26) :=
    ⟨(X8.out.trans x9).trans (Ext.one _ _), by rw [hqs]; exact (hx.rep ar ac da).step (Ext.one _ _), Kn.new w9 _ _⟩
  clear hx x9 hqs hn9 IR X8
  have k3 := (X1.out.2.2.ext X7.out.1).ext X9.out.1
  have k9 := X9.out.2.2
  obtain ⟨p0, p1, p2, p3⟩ := (⟨k3.cell 0 _ rfl, k3.cell 1 _ rfl, k3.cell 2 _ rfl, k3.cell 3 _ rfl⟩ : _ ∧ _ ∧ _ ∧ _)
  obtain ⟨q0, q1, q2, q3⟩ := (⟨k9.cell 0 _ rfl, k9.cell 1 _ rfl, k9.cell 2 _ rfl, k9.cell 3 _ rfl⟩ : _ ∧ _ ∧ _ ∧ _)
  have EQ : Hid (Calls Tryz.prog 16 #[.agg #[.int .i64 ar, .int .i64 ac, .int .i64 da, .slice a9 n9 c9], .agg #[.int .i64 ar, .int .i64 ac, .int .i64 da, .slice a1 n1 c1]] (w9.alloc (.cells #[.int .i64 ar, .int .i64 ac, .int .i64 da, .slice a9 n9 c9] 26)) fun e w' => e = .returned (.bool true) ∧ Ext (w9.alloc (.cells #[.int .i64 ar, .int .i64 ac, .int .i64 da, .slice a9 n9 c9] 26)) w') :=
    eqPolicy_rep HSM.out.1 X9.out.2.1 (R1.out _ ((X1.out.2.1.trans X7.out.1).trans X9.out.1))
  clear k3 k9
  go_wp2_with fail
  generalize w9.alloc (.cells #[.int .i64 ar, .int .i64 ac, .int .i64 da, .slice a9 n9 c9] 26) = WA at *
  generalize w9.heap.size = b9 at *
  refine (show Calls Tryz.prog 16 _ _ _ from EQ.out).mono ?_
  rintro e wB ⟨rfl, xB⟩
  have XB : Hid (Ext w7 wB) := X9.out.1.trans xB
  have k5 := X7.out.2.2.ext XB.out
  clear EQ xB p0 p1 p2 p3 q0 q1 q2 q3
  obtain ⟨q0, q1, q2, q3⟩ := (⟨k5.cell 0 _ rfl, k5.cell 1 _ rfl, k5.cell 2 _ rfl, k5.cell 3 _ rfl⟩ : _ ∧ _ ∧ _ ∧ _)
  clear k5
  go_wp2_with fail
  refine (show Calls Tryz.prog 18 _ _ _ from HE.out wB XB.out).mono ?_
  rintro e wC ⟨rfl, xC⟩
  have XC : Hid (Ext w wC) := (((X1.out.1.trans X7.out.1).trans XB.out).trans xC)
  clear xC q0 q1 q2 q3 HE
  go_wp2
  go_ret
  exact ⟨rfl, XC.out⟩

set_option maxRecDepth 100000 in
theorem contract (H : Type) (enc : TypeId × Value → H) (W : World) (base : Nat) (args : Array Value) (ds gs : List (DataW H)) (before : List MemPlace)
    (hval : ∀ (j : Nat) t v, Tryz.f4.params[j]? = some t → args[j]? = some v → Value.okWide Tryz.prog W .any base t v)
    (hW : DataW.Whole enc Tryz.prog Tryz.f4.params.toList Rows.fnExactReadPolicySpec.vars false W args.toList ds gs before) (hL : laidMetH Tryz.prog Rows.fnExactReadPolicyRow.laid W) :
    Calls Tryz.prog 4 args W fun e W' => ∃ v, e = .returned v ∧ Rows.fnExactReadPolicySpec.post enc Tryz.prog Tryz.f4 false true false false W args v W' := by
  have hW' := hW
  obtain ⟨p, q, hA0, hV, rfl, hfz, hnd⟩ := hW
  have hA : DataW.TrodAll enc Tryz.prog W 0 (fun _ => true) true Tryz.f4.params.toList args.toList ds p := hA0
  rw [Tryz.params4] at hA hval
  obtain ⟨v0, vs0, d0, ds0, p0, q0, hargs, rfl, rfl, h0, r0⟩ := trodAll_cons hA
  obtain ⟨rfl, rfl, rfl⟩ := trodAll_nil r0
  obtain rfl : args = #[v0] := by cases args; simp_all
  have hV0 := hV
  obtain ⟨gi, gt, gcs, gfuel, gd, gp, rfl, _, _, _, _, _⟩ := trodVars_one hV0
  obtain ⟨a0, rfl, rfl, rfl, w0⟩ := open_string Tryz.underlying9 (hval 0 9 v0 rfl rfl) h0
  clear hA0
  refine (walk a0 W (table hL)).mono fun e W' ⟨he, bel⟩ => ?_
  subst he
  exact ⟨_, rfl, _, _, _, [], _, q, hW', trodAll_mk1 (shut_bool Tryz.underlying4 _), (trodAll_cons_mk (shut_string Tryz.underlying9 w0) trodAll_mk0), bel.trodVars laidOut (by kernel_rfl) hV, bel.frame _, fun h => by cases h⟩

/-- A listed table's cells. -/
def tabCells : DataW Unit → Array Value
  | .agg l => (l.map fun | .lit (.int k n) => Value.int k n | .lit (.string s) => Value.string ⟨s.toArray⟩ | _ => Value.int .i64 0).toArray
  | _ => #[]
def setCells (cs : Array Value) : Obj → Obj
  | .cells _ t fr => .cells cs t fr
  | o => o
/-- A world in which the table holds what its initialiser lays. -/
def withTabs (w : World) : World := { w with heap := w.heap.modify 0 (setCells (tabCells Rows.laid_loop_example_g00397_impl_cmMarks)) }

theorem laid_met (os : Os) : laidMet Tryz.prog Rows.fnExactReadPolicyRow.laid ((withTabs (World.holding Tryz.prog os ⟨#[], #[], []⟩)).forCall (fun _ _ => 0) ⟨#[], #[.string ⟨#[]⟩], []⟩).memory :=
  laidMet_of_run' 8 (by kernel_rfl) (by kernel_rfl)
theorem reads (os : Os) {H : Type} (enc : TypeId × Value → H) : ∃ places, DataW.whole enc Tryz.prog ((withTabs (World.holding Tryz.prog os ⟨#[], #[], []⟩)).forCall (fun _ _ => 0) ⟨#[], #[.string ⟨#[]⟩], []⟩).memory Tryz.f4.params.toList Rows.fnExactReadPolicySpec.vars false #[Value.string ⟨#[]⟩].toList 8 = some ([.lit (.string [])], [Rows.laid_loop_example_g00397_impl_cmMarks], places) :=
  ⟨MemPlace.row ⟨0, 0, none⟩ 7, by kernel_rfl⟩

set_option maxRecDepth 100000 in
theorem lifted (os : Os) (started : os.Started) (H : Type) (enc : TypeId × Value → H) (F : Stop.Interp) :
    ReturnsInHanded {} Tryz.checked os 4 .any ((OpenSpec.ofChange Rows.fnExactReadPolicySpec).preRow enc Tryz.prog Tryz.f4 Rows.fnExactReadPolicyRow.domain false Rows.fnExactReadPolicyRow.laid) (((OpenSpec.ofChange Rows.fnExactReadPolicySpec).at F).post enc Tryz.prog Tryz.f4 false true false false) := by
  obtain ⟨places, hx⟩ := reads os enc
  refine returnsInHanded_of_row (C := Tryz.checked) (s := OpenSpec.ofChange Rows.fnExactReadPolicySpec) own started (by kernel_rfl) Tryz.func4
    (witness_row_at (enc := enc) (C := Tryz.checked) false (withTabs (World.holding Tryz.prog os ⟨#[], #[], []⟩)) #[.string ⟨#[]⟩] rfl (by kernel_rfl) (by kernel_rfl) (by kernel_rfl)
      (OpenSpec.preRow_of_cond 8 hx (by kernel_rfl) (fun k hk => by cases hk) (by kernel_rfl) (laid_met os))) ?_
  intro W base args ds gs before hval hW _ _ _ hL _ _
  exact contract H enc W base args ds gs before hval hW hL

theorem said : Rows.FnExactReadPolicySaid :=
  OpenClaim.holds_of_cond 4 Tryz.f4 rfl rfl rfl rfl rfl rfl rfl ⟨rfl, rfl, rfl, rfl, rfl⟩ rfl rfl rfl rfl rfl (by kernel_rfl) Tryz.func4 (by kernel_rfl)
    (of_decide_eq_true (by kernel_rfl)) (by unfold Func.isWrapper; first | (rw [if_pos (by decide +kernel)]; kernel_rfl) | (rw [if_neg (by decide +kernel)]; exact ⟨rfl, rfl⟩))
    (fun os started H enc _ F => by rw [OpenClaim.pre_eq_preRow]; exact lifted os started H enc F)

theorem plain (f : FuncId) (fn : Func) (hf : Tryz.pinned.checked.prog.funcNamed "loop.example/g00397/laws.FnExactReadPolicy" = some f) (hfn : Tryz.pinned.checked.prog.funcs[f]? = some fn) :
    true = Tryz.pinned.checked.prog.looks [] ∧ ∀ (j : Nat) t, fn.params[j]? = some t → Tryz.pinned.checked.prog.wantsStandIn t = false := by
  obtain rfl : f = 4 := Option.some.inj ((show Tryz.prog.funcNamed "loop.example/g00397/laws.FnExactReadPolicy" = some 4 by kernel_rfl).symm.trans hf) |>.symm
  obtain rfl : fn = Tryz.f4 := (Option.some.inj (Tryz.func4.symm.trans hfn)).symm
  refine ⟨by kernel_rfl, fun j t ht => ?_⟩
  rw [Tryz.params4] at ht
  obtain rfl : t = 9 := by simpa using Array.mem_of_getElem? ht
  exact (show Tryz.prog.wantsStandIn 9 = false by kernel_rfl)

end Go.Proofs.YtojaohdmfahpmaaGreatDoor.ReadPolicy
namespace Go.Proofs.YtojaohdmfahpmaaGreatDoor
open Go.ChangeShapes Go.WideShapes Go.ChangeAt Go.RowKit

theorem readPolicy_card : Rows.FnExactReadPolicyCardSaid :=
  Claim7.holds_tied_plain_at .later [] _ _ _ _ ReadPolicy.said (fun _ h => by cases h) (by kernel_rfl) (fun _ h => by cases h) fnExactReadPolicy_row_tie rfl ⟨rfl, rfl⟩ (by kernel_rfl) rfl ReadPolicy.plain (by kernel_rfl)
#print axioms readPolicy_card
end Go.Proofs.YtojaohdmfahpmaaGreatDoor
