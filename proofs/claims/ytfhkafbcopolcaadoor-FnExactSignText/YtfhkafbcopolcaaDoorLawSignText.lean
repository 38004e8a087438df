/- Proved: at every []laws.Sign the law FnExactSignText answers true, so impl.SignText answers as spec.SignText and leaves its argument as it was (the law itself passes signs with texts of together more than 1<<20 by); the card ties the library's three tables that the row lists to the program's text; no other condition. -/
import Derived.Test.YtfhkafbcopolcaaDoorCards
import Derived.Test.YtfhkafbcopolcaaDoorTie
import Derived.Test.YtfhkafbcopolcaaDoorSignOpen
import Derived.WalkKit
import Derived.WalkSmall
import Derived.ProofKit
import Derived.OpenShut
import Derived.ShutString
import Derived.Below
import Derived.Deep.DeepHandedRow
import Derived.Lib.LaidTab
import Derived.Sort.Grow
namespace Go.Proofs.YtfhkafbcopolcaaDoor.SignText
open Go.ChangeShapes Go.WideShapes Go.ChangeAt Go.RowKit
set_option linter.unusedVariables false

theorem own : ownKnob Tryd.prog.godebug = none := by kernel_rfl
theorem gTab : Tryd.prog.globalNamed "internal/strconv.uint64pow10" = some 0 := by kernel_rfl
theorem gTabType : (Tryd.prog.globals[0]?).map (·.type) = some 90 := by kernel_rfl
theorem cellsP : Tryd.prog.cellsOf 90 = 20 := by kernel_rfl
theorem cellsE : Tryd.prog.cellsOf 83 = 1 := by kernel_rfl
theorem datum : (Rows.laid_internal_strconv_uint64pow10 : DataW Unit) = Lib.tabData .u64 Lib.pow10Tab := by kernel_rfl

/-- The row's list gives the third table's cells. -/
theorem table {W : World} (h : laidMetH Tryd.prog Rows.fnExactSignTextRow.laid W) : Lib.TabIs Tryd.prog W "internal/strconv.uint64pow10" .u64 Lib.pow10Tab := by
  have h' : laidMet Tryd.prog [("math/bits.deBruijn32tab", Rows.laid_math_bits_deBruijn32tab), ("math/bits.deBruijn64tab", Rows.laid_math_bits_deBruijn64tab), ("internal/strconv.uint64pow10", Rows.laid_internal_strconv_uint64pow10)] W := h
  obtain ⟨ps, ⟨g1, t1, cs1, f1, p1, q1, _, _, _, _, ⟨g2, t2, cs2, f2, p2, q2, _, _, _, _, ⟨g3, t3, cs3, f3, p3, q3, hg, ht, hv, hd, _, _⟩, _⟩, _⟩, _⟩ := h'
  obtain rfl := Option.some.inj (gTab.symm.trans hg)
  obtain rfl := Option.some.inj (gTabType.symm.trans ht)
  rw [datum] at hd
  unfold Lib.TabIs
  rw [hv, ← Lib.cells_of_tab Tryd.underlying90 Tryd.underlying83 cellsE cellsP hd]

theorem laidOut : laidOutB Tryd.prog = true := by kernel_rfl

set_option maxRecDepth 100000 in
set_option maxHeartbeats 1600000 in
theorem walk (a : Option Addr) (cap : Nat) (ps : List Sg) (w : World) (hs : Signs w a ps) (hl : ps.length ≤ 9223372036854775807) (hok : ∀ q ∈ ps, SgOk q) (hP : Pow w) :
    Calls Tryd.prog 4 #[.slice a ps.length cap] w fun e w' => e = .returned (.bool true) ∧ Below w.heap.size w w' := by
  have SZ : Hid (∀ w : World, Signs w a ps → Calls Tryd.prog 17 #[.slice a ps.length cap, .int .i64 1048576] w fun e w' => ∃ z : Int, e = .returned (.int .i64 z) ∧ (z = -1 ∨ (0 ≤ z ∧ ps.length + sumN ps ps.length ≤ 1048576)) ∧ Ext w w') := fun w h => szSignS_any a cap ps w hl h fun q hq => (hok q hq).1
  have HA : Hid (Signs w a ps ∧ Pow w ∧ ∀ q ∈ ps, SgOk q) := ⟨hs, hP, hok⟩
  obtain ⟨n, hn⟩ : ∃ n, n = ps.length := ⟨_, rfl⟩
  rw [← hn] at SZ ⊢
  have HN : Hid (n = ps.length) := hn
  clear hs hP hok hl hn
  go_enter Tryd.func4, Tryd.ntmps4
  go_wp2_with fail
  refine (SZ.out _ HA.out.1).mono ?_
  rintro e w1 ⟨z, rfl, hz, e1⟩
  have E1 : Hid (Ext w w1) := e1
  rcases hz with rfl | ⟨hz0, hz1⟩
  · clear e1
    go_wp2
    go_ret
    exact ⟨rfl, E1.out⟩
  · have dz : ¬ z < 0 := by omega
    have HB : Hid (∀ k, k ≤ ps.length → (textN ps k).length ≤ 100000000) := fun k hk => by
      have h1 := textN_len ps HA.out.2.2 k hk
      have h2 := sumN_mono ps hk
      have h3 : sumN ps n = sumN ps ps.length := by rw [HN.out]
      have := HN.out
      omega
    have hnl : ps.length ≤ 1048576 := by have := HN.out; omega
    have HNN : Hid (∀ p ∈ ps, p.2.2 ≤ 9223372036854775807) := fun p hp => (HA.out.2.2 p hp).2.2
    have TS : Hid (∀ w : World, Signs w a ps → Calls Tryd.prog 19 #[.slice a n cap] w fun e w' => ∃ g, e = .returned (.slice (some ⟨g, 0, none⟩) n n) ∧ Signs w' (some ⟨g, 0, none⟩) ps ∧ Ext w w') := fun w h => by
      rw [HN.out]
      refine (toSignS_any a cap ps w hnl h).mono ?_
      rintro e w' ⟨g, rfl, _, h1, h2⟩
      exact ⟨g, rfl, h1, h2⟩
    obtain ⟨X, hX⟩ : ∃ X, X = txt (textN ps ps.length) := ⟨_, rfl⟩
    have ST : Hid (∀ (g : Nat) (w : World), Signs w (some ⟨g, 0, none⟩) ps → Calls Tryd.prog 18 #[.slice (some ⟨g, 0, none⟩) n n] w fun e w' => e = .returned (.string X) ∧ Ext w w') := fun g w h => by
      rw [HN.out, hX]; exact sText_any _ _ ps w hnl h HB.out HNN.out
    have IT : Hid (∀ (g : Nat) (w : World), Signs w (some ⟨g, 0, none⟩) ps → Pow w → Calls Tryd.prog 7 #[.slice (some ⟨g, 0, none⟩) n n] w fun e w' => e = .returned (.string X) ∧ Ext w w') := fun g w h hp => by
      rw [HN.out, hX]; exact iText_any _ _ ps w hnl h HB.out HNN.out hp
    have EQ : Hid (∀ (g1 g2 : Nat) (w : World), Signs w (some ⟨g1, 0, none⟩) ps → Signs w (some ⟨g2, 0, none⟩) ps → Calls Tryd.prog 20 #[.slice (some ⟨g1, 0, none⟩) n n, .slice (some ⟨g2, 0, none⟩) n n] w fun e w' => e = .returned (.bool true) ∧ Ext w w') := fun g1 g2 w h1 h2 => by
      rw [HN.out]; exact eqSignS_same _ _ _ _ ps w hnl h1 h2
    clear e1 hX hz1 hnl
    go_wp2_with fail
    refine (TS.out _ (HA.out.1.ext E1.out)).mono ?_
    rintro e w2 ⟨g1, rfl, s2, e2⟩
    have E2 : Hid (Ext w w2) := E1.out.trans e2
    have S2 : Hid (Signs w2 (some ⟨g1, 0, none⟩) ps) := s2
    clear e2 s2 E1
    go_wp2_with fail
    refine (ST.out _ _ S2.out).mono ?_
    rintro e w3 ⟨rfl, e3⟩
    have E3 : Hid (Ext w w3) := E2.out.trans e3
    clear e3 E2 S2
    go_wp2_with fail
    refine (TS.out _ (HA.out.1.ext E3.out)).mono ?_
    rintro e w4 ⟨g2, rfl, s4, e4⟩
    have E4 : Hid (Ext w w4) := E3.out.trans e4
    have S4 : Hid (Signs w4 (some ⟨g2, 0, none⟩) ps) := s4
    clear e4 s4 E3
    go_wp2_with fail
    refine (IT.out _ _ S4.out (HA.out.2.1.ext E4.out)).mono ?_
    rintro e w5 ⟨rfl, e5⟩
    have E5 : Hid (Ext w w5) := E4.out.trans e5
    have S5 : Hid (Signs w5 (some ⟨g2, 0, none⟩) ps) := S4.out.ext e5
    clear e5 E4 S4
    go_wp2_with fail
    refine (TS.out _ (HA.out.1.ext E5.out)).mono ?_
    rintro e w6 ⟨g3, rfl, s6, e6⟩
    have E6 : Hid (Ext w w6) := E5.out.trans e6
    have S6 : Hid (Signs w6 (some ⟨g2, 0, none⟩) ps ∧ Signs w6 (some ⟨g3, 0, none⟩) ps) := ⟨S5.out.ext e6, s6⟩
    clear e6 s6 E5 S5
    go_wp2_with fail
    refine (EQ.out _ _ _ S6.out.1 S6.out.2).mono ?_
    rintro e w7 ⟨rfl, e7⟩
    have E7 : Hid (Ext w w7) := E6.out.trans e7
    clear e7 E6 S6
    go_wp2
    go_ret
    exact ⟨rfl, E7.out⟩

theorem contract (H : Type) (enc : TypeId × Value → H) (W : World) (base : Nat) (args : Array Value) (ds gs : List (DataW H)) (before : List MemPlace)
    (hval : ∀ (j : Nat) t v, Tryd.f4.params[j]? = some t → args[j]? = some v → Value.okWide Tryd.prog W .any base t v)
    (hW : DataW.Whole enc Tryd.prog Tryd.f4.params.toList Rows.fnExactSignTextSpec.vars false W args.toList ds gs before) (hL : laidMetH Tryd.prog Rows.fnExactSignTextRow.laid W) :
    Calls Tryd.prog 4 args W fun e W' => ∃ v, e = .returned v ∧ Rows.fnExactSignTextSpec.post enc Tryd.prog Tryd.f4 false true false false W args v W' := by
  have hW' := hW
  obtain ⟨p, q, hA0, hV, rfl, hfz, hnd⟩ := hW
  have hA : DataW.TrodAll enc Tryd.prog W 0 (fun _ => true) true Tryd.f4.params.toList args.toList ds p := hA0
  rw [Tryd.params4] at hA hval
  obtain ⟨v0, vs0, d0, ds0, p0, q0, hargs, rfl, rfl, h0, r0⟩ := trodAll_cons hA
  obtain ⟨rfl, rfl, rfl⟩ := trodAll_nil r0
  obtain rfl : args = #[v0] := by cases args; simp_all
  obtain ⟨rfl, rfl⟩ := trodVars_none hV
  have lt0 : ∀ x ∈ p0, x.block < W.heap.size := by obtain ⟨m, hm⟩ := h0; exact DataW.trod_lt m _ _ _ hm
  have k0 := h0
  obtain ⟨a0, cap0, ps0, rfl, hs0, hl0, hok0⟩ := open_signs (hval 0 36 v0 rfl rfl) h0
  clear hA0
  have ht := table hL
  have hz : 0 < W.heap.size := World.block_lt_of_cell? W _ (ht.cell gTab 0 (by decide))
  refine (walk a0 cap0 ps0 W hs0 hl0 hok0 ⟨ht, hz⟩).mono fun e W' ⟨he, bel⟩ => ?_
  subst he
  exact ⟨_, rfl, _, _, _, [], _, [], hW', trodAll_mk1 (shut_bool Tryd.underlying4 _), (trodAll_cons_mk (Below.trod laidOut (by kernel_rfl) (of_decide_eq_true (by kernel_rfl)) k0 bel lt0) trodAll_mk0), rfl, bel.frame _, fun h => by cases h⟩

/-- A listed table's cells. -/
def tabCells : DataW Unit → Array Value
  | .agg l => (l.map fun | .lit (.int k n) => Value.int k n | _ => Value.int .i64 0).toArray
  | _ => #[]
def setCells (cs : Array Value) : Obj → Obj
  | .cells _ t fr => .cells cs t fr
  | o => o
/-- A world in which the three tables hold what their initialisers lay. -/
def withTabs (w : World) : World := { w with heap := ((w.heap.modify 0 (setCells (tabCells Rows.laid_internal_strconv_uint64pow10))).modify 1 (setCells (tabCells Rows.laid_math_bits_deBruijn32tab))).modify 2 (setCells (tabCells Rows.laid_math_bits_deBruijn64tab)) }

theorem laid_met (os : Os) : laidMet Tryd.prog Rows.fnExactSignTextRow.laid ((withTabs (World.holding Tryd.prog os ⟨#[], #[], []⟩)).forCall (fun _ _ => 0) ⟨#[], #[.slice none 0 0], []⟩).memory :=
  laidMet_of_run' 8 (by kernel_rfl) (by kernel_rfl)
theorem reads (os : Os) {H : Type} (enc : TypeId × Value → H) : ∃ places, DataW.whole enc Tryd.prog ((withTabs (World.holding Tryd.prog os ⟨#[], #[], []⟩)).forCall (fun _ _ => 0) ⟨#[], #[.slice none 0 0], []⟩).memory Tryd.f4.params.toList Rows.fnExactSignTextSpec.vars false #[Value.slice none 0 0].toList 8 = some ([.nil], [], places) :=
  ⟨[], by kernel_rfl⟩

set_option maxRecDepth 100000 in
theorem lifted (os : Os) (started : os.Started) (H : Type) (enc : TypeId × Value → H) (F : Stop.Interp) :
    ReturnsInHanded {} Tryd.checked os 4 .any ((OpenSpec.ofChange Rows.fnExactSignTextSpec).preRow enc Tryd.prog Tryd.f4 Rows.fnExactSignTextRow.domain false Rows.fnExactSignTextRow.laid) (((OpenSpec.ofChange Rows.fnExactSignTextSpec).at F).post enc Tryd.prog Tryd.f4 false true false false) := by
  obtain ⟨places, hx⟩ := reads os enc
  refine returnsInHanded_of_row (C := Tryd.checked) (s := OpenSpec.ofChange Rows.fnExactSignTextSpec) own started (by kernel_rfl) Tryd.func4
    (witness_row_at (enc := enc) (C := Tryd.checked) false (withTabs (World.holding Tryd.prog os ⟨#[], #[], []⟩)) #[.slice none 0 0] rfl (by kernel_rfl) (by kernel_rfl) (by kernel_rfl)
      (OpenSpec.preRow_of_cond 8 hx (by kernel_rfl) (fun k hk => by cases hk) (by kernel_rfl) (laid_met os))) ?_
  intro W base args ds gs before hval hW _ _ _ hL _ _
  exact contract H enc W base args ds gs before hval hW hL

theorem said : Rows.FnExactSignTextSaid :=
  OpenClaim.holds_of_cond 4 Tryd.f4 rfl rfl rfl rfl rfl rfl rfl ⟨rfl, rfl, rfl, rfl, rfl⟩ rfl rfl rfl rfl rfl (by kernel_rfl) Tryd.func4 (by kernel_rfl)
    (of_decide_eq_true (by kernel_rfl)) (by unfold Func.isWrapper; first | (rw [if_pos (by decide +kernel)]; kernel_rfl) | (rw [if_neg (by decide +kernel)]; exact ⟨rfl, rfl⟩))
    (fun os started H enc _ F => by rw [OpenClaim.pre_eq_preRow]; exact lifted os started H enc F)

theorem plain (f : FuncId) (fn : Func) (hf : Tryd.pinned.checked.prog.funcNamed "loop.example/g00397/laws.FnExactSignText" = some f) (hfn : Tryd.pinned.checked.prog.funcs[f]? = some fn) :
    false = Tryd.pinned.checked.prog.looks [] ∧ ∀ (j : Nat) t, fn.params[j]? = some t → Tryd.pinned.checked.prog.wantsStandIn t = false := by
  obtain rfl : f = 4 := Option.some.inj ((show Tryd.prog.funcNamed "loop.example/g00397/laws.FnExactSignText" = some 4 by kernel_rfl).symm.trans hf) |>.symm
  obtain rfl : fn = Tryd.f4 := (Option.some.inj (Tryd.func4.symm.trans hfn)).symm
  refine ⟨by kernel_rfl, fun j t ht => ?_⟩
  rw [Tryd.params4] at ht
  obtain rfl : t = 36 := by simpa using Array.mem_of_getElem? ht
  exact (show Tryd.prog.wantsStandIn 36 = false by kernel_rfl)

end Go.Proofs.YtfhkafbcopolcaaDoor.SignText
namespace Go.Proofs.YtfhkafbcopolcaaDoor
open Go.ChangeShapes Go.WideShapes Go.ChangeAt Go.RowKit

theorem signText_card : Rows.FnExactSignTextCardSaid :=
  Claim7.holds_tied_plain_at .later [] _ _ _ _ SignText.said (fun _ h => by cases h) (by kernel_rfl) (fun _ h => by cases h) fnExactSignText_row_tie rfl ⟨rfl, rfl⟩ (by kernel_rfl) rfl SignText.plain (by kernel_rfl)
#print axioms signText_card
end Go.Proofs.YtfhkafbcopolcaaDoor
