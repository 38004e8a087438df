/- Proved: at every code the law FnSigns answers true: drawn signs come back from their texts, also with blanks ahead and behind; of a drawn text impl.SignsOf answers like spec.SignsOf; the twelve names have their places for numbers; of a drawn name impl.CallNumber answers like spec.CallNumber; the card ties the library's three tables that the row lists to the program's text; no other condition. -/
import Derived.Test.YtfhkafbcopolcaaDoorCards
import Derived.Test.YtfhkafbcopolcaaDoorTie
import Derived.Test.YtfhkafbcopolcaaDoorDrawSgOf
import Derived.Test.YtfhkafbcopolcaaDoorSignsS2
import Derived.Test.YtfhkafbcopolcaaDoorSgLen
import Derived.WalkKit
import Derived.WalkSmall
import Derived.ProofKit
import Derived.OpenShut
import Derived.ShutString
import Derived.Below
import Derived.Deep.DeepHandedRow
import Derived.Lib.LaidTab
import Derived.Sort.Grow
namespace Go.Proofs.YtfhkafbcopolcaaDoor.FnSigns
open Go.ChangeShapes Go.WideShapes Go.ChangeAt Go.RowKit
set_option linter.unusedVariables false

theorem own : ownKnob Tryd.prog.godebug = none := by kernel_rfl
theorem gTab : Tryd.prog.globalNamed "internal/strconv.uint64pow10" = some 0 := by kernel_rfl
theorem gTabType : (Tryd.prog.globals[0]?).map (·.type) = some 90 := by kernel_rfl
theorem cellsP : Tryd.prog.cellsOf 90 = 20 := by kernel_rfl
theorem cellsE : Tryd.prog.cellsOf 83 = 1 := by kernel_rfl
theorem datum : (Rows.laid_internal_strconv_uint64pow10 : DataW Unit) = Lib.tabData .u64 Lib.pow10Tab := by kernel_rfl

/-- The row's list gives the third table's cells. -/
theorem table {W : World} (h : laidMetH Tryd.prog Rows.fnSignsRow.laid W) : Lib.TabIs Tryd.prog W "internal/strconv.uint64pow10" .u64 Lib.pow10Tab := by
  have h' : laidMet Tryd.prog [("math/bits.deBruijn32tab", Rows.laid_math_bits_deBruijn32tab), ("math/bits.deBruijn64tab", Rows.laid_math_bits_deBruijn64tab), ("internal/strconv.uint64pow10", Rows.laid_internal_strconv_uint64pow10)] W := h
  obtain ⟨ps, ⟨g1, t1, cs1, f1, p1, q1, _, _, _, _, ⟨g2, t2, cs2, f2, p2, q2, _, _, _, _, ⟨g3, t3, cs3, f3, p3, q3, hg, ht, hv, hd, _, _⟩, _⟩, _⟩, _⟩ := h'
  obtain rfl := Option.some.inj (gTab.symm.trans hg)
  obtain rfl := Option.some.inj (gTabType.symm.trans ht)
  rw [datum] at hd
  unfold Lib.TabIs
  rw [hv, ← Lib.cells_of_tab Tryd.underlying90 Tryd.underlying83 cellsE cellsP hd]

theorem laidOut : laidOutB Tryd.prog = true := by kernel_rfl

theorem signsR_back (ps : List Sg) (h : ∀ p ∈ ps, SgR p) (hl : ps.length ≤ 8) (a b : List UInt8) (ha : ∀ x ∈ a, kindB x = 0) (hb : ∀ x ∈ b, kindB x = 0) (hn : a.length + b.length ≤ 10) : signsR (a ++ textN ps ps.length ++ b) = some ps := by
  have := textR_len ps h ps.length (Nat.le_refl _)
  unfold signsR
  rw [if_neg (by simp; omega)]
  exact SG_back ps h a b ha hb

theorem txt_list (l : List UInt8) : (txt l).data.toList = l := by simp [txt]

theorem iSigns_right (X : ByteArray) (r : List Sg) (b : Bool) (h : signsR X.data.toList = if b then some r else none) (hr : b = false → r = []) (W : World) :
    Calls Tryd.prog 8 #[.string X] W fun e w' => ∃ a c, e = .returned (.tuple #[.slice a r.length c, .bool b]) ∧ Signs w' a r ∧ Ext W w' := by
  refine (iSigns_any X W).mono ?_
  rintro e w' ⟨v, rfl, hown, hE⟩
  cases b
  · obtain rfl := hr rfl
    simp only [Bool.false_eq_true, if_false] at h
    rw [h] at hown ⊢
    obtain ⟨a, c, rfl, hs, _⟩ := Own3.signs hown
    exact ⟨a, c, rfl, hs, hE⟩
  · simp only [if_true] at h
    rw [h] at hown ⊢
    obtain ⟨a, c, rfl, hs, _⟩ := Own3.signs hown
    exact ⟨a, c, rfl, hs, hE⟩

theorem sSigns_right (X : ByteArray) (r : List Sg) (b : Bool) (h : signsR X.data.toList = if b then some r else none) (hr : b = false → r = []) (W : World) :
    Calls Tryd.prog 10 #[.string X] W fun e w' => ∃ a c, e = .returned (.tuple #[.slice a r.length c, .bool b]) ∧ Signs w' a r ∧ Ext W w' := by
  refine (sSigns_any X W).mono ?_
  rintro e w' ⟨v, rfl, hown, hE⟩
  cases b
  · obtain rfl := hr rfl
    simp only [Bool.false_eq_true, if_false] at h
    rw [h] at hown ⊢
    obtain ⟨a, c, rfl, hs, _⟩ := Own3.signs hown
    exact ⟨a, c, rfl, hs, hE⟩
  · simp only [if_true] at h
    rw [h] at hown ⊢
    obtain ⟨a, c, rfl, hs, _⟩ := Own3.signs hown
    exact ⟨a, c, rfl, hs, hE⟩

set_option maxRecDepth 100000 in
set_option maxHeartbeats 6400000 in
theorem walk (a : Option Addr) (len cap : Nat) (w : World) (raw : Raw w a len) (hP : Pow w) : Calls Tryd.prog 3 #[.slice a len cap] w fun e w' => e = .returned (.bool true) ∧ Below w.heap.size w w' := by
  by_cases hbig : 1048576 < len
  · go_enter Tryd.func3, Tryd.ntmps3
    go_wp2_with (go_at_call 5; refine (big_yes _ _ _ _ hbig).mono ?_; rintro e w' ⟨rfl, rfl⟩)
    go_ret
    exact ⟨rfl, Below.refl _ _⟩
  have HC : Hid (Came w a len) := ⟨by omega, raw⟩
  have hl : len ≤ 1048576 := by omega
  have HP : Hid (Pow w) := hP
  clear raw hbig hP
  go_enter Tryd.func3, Tryd.ntmps3
  go_wp2_with fail
  refine (big_no a len cap _ hl).mono ?_
  rintro e w' ⟨rfl, rfl⟩
  go_wp2_with fail
  refine (drawSigns_any a len cap _ HC.out).mono ?_
  rintro e w1 ⟨v, ps, rfl, hs, hl8, hown, e1⟩
  have E1 : Hid (Ext w w1) := e1
  obtain ⟨av, cv, rfl, hsg, _⟩ := Own3.signs hown
  obtain ⟨L, hL⟩ : ∃ L, L = textN ps ps.length := ⟨_, rfl⟩
  have hLl : L.length ≤ 104 := by have := textR_len ps hs ps.length (Nat.le_refl _); rw [hL]; omega
  obtain ⟨m, hm⟩ : ∃ m, m = ps.length := ⟨_, rfl⟩
  obtain ⟨X, hX⟩ : ∃ X, X = txt L := ⟨_, rfl⟩
  obtain ⟨Y, hY⟩ : ∃ Y, Y = txt ([32, 32] ++ L) := ⟨_, rfl⟩
  obtain ⟨Z, hZ⟩ : ∃ Z, Z = txt ([32, 32] ++ L ++ [32, 10, 32]) := ⟨_, rfl⟩
  have A1 : ∀ wx, (Op.stringOp .add ⟨#[32, 32]⟩ X).run Tryd.prog wx = .ok (.string Y) wx := fun wx => by rw [hX, hY]; exact add_txt wx [32, 32] L (by simp; omega)
  have A2 : ∀ wx, (Op.stringOp .add Y ⟨#[32, 10, 32]⟩).run Tryd.prog wx = .ok (.string Z) wx := fun wx => by rw [hY, hZ]; exact add_txt wx ([32, 32] ++ L) [32, 10, 32] (by simp; omega)
  have IT : Hid (Calls Tryd.prog 7 #[.slice av m cv] w1 fun e w' => e = .returned (.string X) ∧ Ext w1 w') := by
    rw [hX, hL, hm]
    refine iText_any av cv ps w1 (by omega) hsg (fun k hk => ?_) (fun s hp => ?_) (HP.out.ext E1.out)
    · have := textR_len ps hs k hk; omega
    · rcases hs s hp with h | h | h
      · rw [h.2.1]; omega
      · have := h.2.2.2; omega
      · rw [h.2.1]; omega
  have I1 : Hid (∀ W : World, Calls Tryd.prog 8 #[.string X] W fun e w' => ∃ a c, e = .returned (.tuple #[.slice a m c, .bool true]) ∧ Signs w' a ps ∧ Ext W w') := fun W => by
    rw [hm]
    refine iSigns_right X ps true ?_ (by simp) W
    rw [hX, txt_list, hL]
    have := signsR_back ps hs hl8 [] [] (by simp) (by simp) (by simp)
    simpa using this
  have I2 : Hid (∀ W : World, Calls Tryd.prog 8 #[.string Z] W fun e w' => ∃ a c, e = .returned (.tuple #[.slice a m c, .bool true]) ∧ Signs w' a ps ∧ Ext W w') := fun W => by
    rw [hm]
    refine iSigns_right Z ps true ?_ (by simp) W
    rw [hZ, txt_list, hL]
    exact signsR_back ps hs hl8 [32, 32] [32, 10, 32] (by decide) (by decide) (by decide)
  have SM : Hid (∀ (a1 : Option Addr) (c1 : Nat) (W : World), Signs W a1 ps → Signs W av ps → Calls Tryd.prog 14 #[.slice a1 m c1, .slice av m cv] W fun e w' => e = .returned (.bool true) ∧ Ext W w') := fun a1 c1 W h1 h2 => by
    rw [hm]; exact sameSigns_same a1 av c1 cv ps W (by omega) h1 h2
  have S1 : Hid (Signs w1 av ps) := hsg
  rw [← hm]
  clear hm hX hY hZ hL hLl hs hl8 hown hsg e1
  go_wp2_with fail
  refine IT.out.mono ?_
  rintro e w2 ⟨rfl, e2⟩
  have E2 : Hid (Ext w w2) := E1.out.trans e2
  have S2 : Hid (Signs w2 av ps) := S1.out.ext e2
  clear e2 E1 S1 IT
  go_wp2_with fail
  refine (I1.out _).mono ?_
  rintro e w3 ⟨ax, cx, rfl, sx, e3⟩
  have E3 : Hid (Ext w w3) := E2.out.trans e3
  have S3 : Hid (Signs w3 av ps ∧ Signs w3 ax ps) := ⟨S2.out.ext e3, sx⟩
  clear e3 E2 S2 sx I1
  go_wp2_with fail
  refine (I2.out _).mono ?_
  rintro e w4 ⟨ay, cy, rfl, sy, e4⟩
  have E4 : Hid (Ext w w4) := E3.out.trans e4
  have S4 : Hid (Signs w4 av ps ∧ Signs w4 ax ps ∧ Signs w4 ay ps) := ⟨S3.out.1.ext e4, S3.out.2.ext e4, sy⟩
  clear e4 E3 S3 sy I2 A1 A2
  go_wp2_with fail
  refine (drawSignsOf_any a len cap _ (HC.out.below E4.out)).mono ?_
  rintro e w5 ⟨U, _, rfl, e5⟩
  have E5 : Hid (Ext w w5) := E4.out.trans e5
  have S5 : Hid (Signs w5 av ps ∧ Signs w5 ax ps ∧ Signs w5 ay ps) := ⟨S4.out.1.ext e5, S4.out.2.1.ext e5, S4.out.2.2.ext e5⟩
  clear e5 E4 S4
  obtain ⟨qs, b, hqs, hb, hq⟩ : ∃ (qs : List Sg) (b : Bool), (signsR U.data.toList = if b then some qs else none) ∧ (b = false → qs = []) ∧ qs.length ≤ 1200 := by
    have hlen := signsR_length U.data.toList
    cases hS : signsR U.data.toList with
    | none => exact ⟨[], false, by simp, by simp, by simp⟩
    | some r => exact ⟨r, true, by simp, by simp, by rw [hS] at hlen; simpa using hlen⟩
  obtain ⟨k, hk⟩ : ∃ k, k = qs.length := ⟨_, rfl⟩
  have IU : Hid (∀ W : World, Calls Tryd.prog 8 #[.string U] W fun e w' => ∃ a c, e = .returned (.tuple #[.slice a k c, .bool b]) ∧ Signs w' a qs ∧ Ext W w') := fun W => by rw [hk]; exact iSigns_right U qs b hqs hb W
  have SU : Hid (∀ W : World, Calls Tryd.prog 10 #[.string U] W fun e w' => ∃ a c, e = .returned (.tuple #[.slice a k c, .bool b]) ∧ Signs w' a qs ∧ Ext W w') := fun W => by rw [hk]; exact sSigns_right U qs b hqs hb W
  have SQ : Hid (∀ (a1 a2 : Option Addr) (c1 c2 : Nat) (W : World), Signs W a1 qs → Signs W a2 qs → Calls Tryd.prog 14 #[.slice a1 k c1, .slice a2 k c2] W fun e w' => e = .returned (.bool true) ∧ Ext W w') := fun a1 a2 c1 c2 W h1 h2 => by
    rw [hk]; exact sameSigns_same a1 a2 c1 c2 qs W (by omega) h1 h2
  clear hqs hb hq hk
  go_wp2_with fail
  refine (IU.out _).mono ?_
  rintro e w6 ⟨ai, ci, rfl, si, e6⟩
  have E6 : Hid (Ext w w6) := E5.out.trans e6
  have S6 : Hid ((Signs w6 av ps ∧ Signs w6 ax ps ∧ Signs w6 ay ps) ∧ Signs w6 ai qs) := ⟨⟨S5.out.1.ext e6, S5.out.2.1.ext e6, S5.out.2.2.ext e6⟩, si⟩
  clear e6 E5 S5 si IU
  go_wp2_with fail
  refine (SU.out _).mono ?_
  rintro e w7 ⟨az, cs, rfl, ss, e7⟩
  have E7 : Hid (Ext w w7) := E6.out.trans e7
  have S7 : Hid ((Signs w7 av ps ∧ Signs w7 ax ps ∧ Signs w7 ay ps) ∧ Signs w7 ai qs ∧ Signs w7 az qs) := ⟨⟨S6.out.1.1.ext e7, S6.out.1.2.1.ext e7, S6.out.1.2.2.ext e7⟩, S6.out.2.ext e7, ss⟩
  clear e7 E6 S6 ss SU
  go_wp2_with fail
  refine (places_at a len cap _ (HC.out.below E7.out)).mono ?_
  rintro e w8 ⟨g, c, l, rfl, hg1, hg2, hcell, e8⟩
  obtain ⟨z, hz⟩ : ∃ z, z = l.getD 0 0 := ⟨_, rfl⟩
  have hz1 : z < 10000 := by rw [hz]; exact (hcell 0 (by omega)).1
  have p0 : w8.cell? ⟨g, 0, none⟩ = some (.int .i64 (z : Int)) := by rw [hz]; exact (hcell 0 (by omega)).2
  have E8 : Hid (Ext w w8) := E7.out.trans e8
  have S8 : Hid ((Signs w8 av ps ∧ Signs w8 ax ps ∧ Signs w8 ay ps) ∧ Signs w8 ai qs ∧ Signs w8 az qs) := ⟨⟨S7.out.1.1.ext e8, S7.out.1.2.1.ext e8, S7.out.1.2.2.ext e8⟩, S7.out.2.1.ext e8, S7.out.2.2.ext e8⟩
  obtain ⟨n, hn⟩ : ∃ n, n = z % 12 := ⟨_, rfl⟩
  have hn12 : n < 12 := by omega
  have t1 : (z : Int) % 12 = (n : Int) := by omega
  have t2 : (z : Int).tmod 12 = (n : Int) := by rw [Int.tmod_eq_emod_of_nonneg (by omega)]; exact t1
  have hz0 : (0 : Int) ≤ (z : Int) := by omega
  have hz9 : (z : Int) < 10000 := by omega
  clear e8 E7 S7 hcell hz hn hz1 hg1 hg2
  go_wp2_with fail
  refine (iNames_any _).mono ?_
  rintro e w9 ⟨gn, v9, rfl, rfl, hrow, e9⟩
  have E9 : Hid (Ext w w9) := E8.out.trans e9
  have S9 : Hid ((Signs w9 av ps ∧ Signs w9 ax ps ∧ Signs w9 ay ps) ∧ Signs w9 ai qs ∧ Signs w9 az qs) := ⟨⟨S8.out.1.1.ext e9, S8.out.1.2.1.ext e9, S8.out.1.2.2.ext e9⟩, S8.out.2.1.ext e9, S8.out.2.2.ext e9⟩
  obtain ⟨N, hN⟩ : ∃ N, N = txt (nameL.getD n []) := ⟨_, rfl⟩
  have D9 : Hid (w9.cell? ⟨gn, n, none⟩ = some (.string N)) := by rw [hN]; exact name_cell hrow n hn12
  have IN : Hid (∀ W : World, Calls Tryd.prog 15 #[.string N] W fun e w' => e = .returned (.int .i64 (n : Int)) ∧ Ext W w') := fun W => by
    have h := iNumber_any N W (by rw [hN, len_txt]; have := name_short n hn12; unfold maxLen; omega)
    rw [hN, txt_list, callN_at hn12 rfl, ← hN] at h
    exact h
  have hn0 : (n : Int) < 12 := by omega
  clear e9 E8 S8 hrow hN t1 t2 p0 hz0 hz9
  go_wp2_with fail
  refine (drawNumber_any a len cap _ (HC.out.below E9.out)).mono ?_
  rintro e w10 ⟨t, ht, rfl, e10⟩
  have E10 : Hid (Ext w w10) := E9.out.trans e10
  have S10 : Hid ((Signs w10 av ps ∧ Signs w10 ax ps ∧ Signs w10 ay ps) ∧ Signs w10 ai qs ∧ Signs w10 az qs) := ⟨⟨S9.out.1.1.ext e10, S9.out.1.2.1.ext e10, S9.out.1.2.2.ext e10⟩, S9.out.2.1.ext e10, S9.out.2.2.ext e10⟩
  have D10 : Hid (w10.cell? ⟨gn, n, none⟩ = some (.string N)) := (e10.cell (World.block_lt_of_cell? _ _ D9.out)).trans D9.out
  obtain ⟨T, hT⟩ : ∃ T, T = txt t := ⟨_, rfl⟩
  obtain ⟨q, hq⟩ : ∃ q, q = callN T.data.toList := ⟨_, rfl⟩
  have JN : Hid (∀ W : World, Calls Tryd.prog 15 #[.string T] W fun e w' => e = .returned (.int .i64 q) ∧ Ext W w') := fun W => by rw [hq]; exact iNumber_any T W (by rw [hT, len_txt]; unfold maxLen; omega)
  have KN : Hid (∀ W : World, Calls Tryd.prog 16 #[.string T] W fun e w' => e = .returned (.int .i64 q) ∧ Ext W w') := fun W => by rw [hq]; exact sNumber_any T W
  rw [← hT]
  clear e10 E9 S9 D9 hT ht hq HC HP
  go_wp2_with fail
  refine (SM.out ax cx _ S10.out.1.2.1 S10.out.1.1).mono ?_
  rintro e w11 ⟨rfl, e11⟩
  have E11 : Hid (Ext w w11) := E10.out.trans e11
  have S11 : Hid ((Signs w11 av ps ∧ Signs w11 ay ps) ∧ Signs w11 ai qs ∧ Signs w11 az qs) := ⟨⟨S10.out.1.1.ext e11, S10.out.1.2.2.ext e11⟩, S10.out.2.1.ext e11, S10.out.2.2.ext e11⟩
  have D11 : Hid (w11.cell? ⟨gn, n, none⟩ = some (.string N)) := (e11.cell (World.block_lt_of_cell? _ _ D10.out)).trans D10.out
  clear e11 E10 S10 D10
  go_wp2_with fail
  refine (SM.out ay cy _ S11.out.1.2 S11.out.1.1).mono ?_
  rintro e w12 ⟨rfl, e12⟩
  have E12 : Hid (Ext w w12) := E11.out.trans e12
  have S12 : Hid (Signs w12 ai qs ∧ Signs w12 az qs) := ⟨S11.out.2.1.ext e12, S11.out.2.2.ext e12⟩
  have D12 : Hid (w12.cell? ⟨gn, n, none⟩ = some (.string N)) := (e12.cell (World.block_lt_of_cell? _ _ D11.out)).trans D11.out
  clear e12 E11 S11 D11
  have bb : (b == b) = true := by simp
  go_wp2_with fail
  refine (SQ.out ai az ci cs _ S12.out.1 S12.out.2).mono ?_
  rintro e w13 ⟨rfl, e13⟩
  have E13 : Hid (Ext w w13) := E12.out.trans e13
  have d13 : w13.cell? ⟨gn, n, none⟩ = some (.string N) := (e13.cell (World.block_lt_of_cell? _ _ D12.out)).trans D12.out
  clear e13 E12 S12 D12
  go_wp2_with fail
  refine (IN.out _).mono ?_
  rintro e w14 ⟨rfl, e14⟩
  have E14 : Hid (Ext w w14) := E13.out.trans e14
  clear e14 E13 d13
  go_wp2_with fail
  refine (JN.out _).mono ?_
  rintro e w15 ⟨rfl, e15⟩
  have E15 : Hid (Ext w w15) := E14.out.trans e15
  clear e15 E14
  go_wp2_with fail
  refine (KN.out _).mono ?_
  rintro e w16 ⟨rfl, e16⟩
  have E16 : Hid (Ext w w16) := E15.out.trans e16
  clear e16 E15
  go_wp2
  go_ret
  exact ⟨rfl, E16.out⟩

theorem contract (H : Type) (enc : TypeId × Value → H) (W : World) (base : Nat) (args : Array Value) (ds gs : List (DataW H)) (before : List MemPlace)
    (hval : ∀ (j : Nat) t v, Tryd.f3.params[j]? = some t → args[j]? = some v → Value.okWide Tryd.prog W .any base t v)
    (hW : DataW.Whole enc Tryd.prog Tryd.f3.params.toList Rows.fnSignsSpec.vars false W args.toList ds gs before) (hL : laidMetH Tryd.prog Rows.fnSignsRow.laid W) :
    Calls Tryd.prog 3 args W fun e W' => ∃ v, e = .returned v ∧ Rows.fnSignsSpec.post enc Tryd.prog Tryd.f3 false true false false W args v W' := by
  have hW' := hW
  obtain ⟨p, q, hA0, hV, rfl, hfz, hnd⟩ := hW
  have hA : DataW.TrodAll enc Tryd.prog W 0 (fun _ => true) true Tryd.f3.params.toList args.toList ds p := hA0
  rw [Tryd.params3] at hA hval
  obtain ⟨v0, vs0, d0, ds0, p0, q0, hargs, rfl, rfl, h0, r0⟩ := trodAll_cons hA
  obtain ⟨rfl, rfl, rfl⟩ := trodAll_nil r0
  obtain rfl : args = #[v0] := by cases args; simp_all
  obtain ⟨rfl, rfl⟩ := trodVars_none hV
  have lt0 : ∀ x ∈ p0, x.block < W.heap.size := by obtain ⟨m, hm⟩ := h0; exact DataW.trod_lt m _ _ _ hm
  have k0 := h0
  obtain ⟨a0, len0, cap0, rfl⟩ := okWide_slice Tryd.underlying22 (hval 0 22 v0 rfl rfl)
  have raw0 : Raw W a0 len0 := by
    obtain ⟨fuel, hf⟩ := h0
    rcases open_ints Tryd.underlying22 Tryd.underlying5 (by kernel_rfl) hf with ⟨hcs, _⟩ | ⟨x, l, c, zs, hcs, _, hl, hm, hz, _, hcell, hwz⟩
    · simp [Value.cells] at hcs
      obtain ⟨rfl, rfl, rfl⟩ := hcs
      intro h; omega
    · simp [Value.cells] at hcs
      obtain ⟨rfl, rfl, rfl⟩ := hcs
      have hz' : zs.length = cap0 := by simpa using hz
      intro hpos
      obtain ⟨b, off, spot⟩ := x
      have hspot : spot = none := by simpa [Addr.add] using World.cell?_spot (hcell 0 (by omega))
      subst hspot
      refine ⟨b, off, rfl, fun j hj => ?_⟩
      have hj' : j < zs.length := by omega
      have hw := hwz _ (List.getElem_mem hj')
      have hb := bounds_u8 hw
      refine ⟨(zs[j]).toNat, by omega, ?_⟩
      have := hcell j hj'
      rw [Addr.add_lit] at this
      rw [this, List.getD_eq_getElem?_getD, List.getElem?_eq_getElem hj']
      simp only [Option.getD_some]
      congr 2
      omega
  clear hA0
  have ht := table hL
  have hz : 0 < W.heap.size := World.block_lt_of_cell? W _ (ht.cell gTab 0 (by decide))
  refine (walk a0 len0 cap0 W raw0 ⟨ht, hz⟩).mono fun e W' ⟨he, bel⟩ => ?_
  subst he
  exact ⟨_, rfl, _, _, _, [], _, [], hW', trodAll_mk1 (shut_bool Tryd.underlying4 _), (trodAll_cons_mk (Below.trod laidOut (by kernel_rfl) (of_decide_eq_true (by kernel_rfl)) k0 bel lt0) trodAll_mk0), rfl, bel.frame _, fun h => by cases h⟩

/-- A listed table's cells. -/
def tabCells : DataW Unit → Array Value
  | .agg l => (l.map fun | .lit (.int k n) => Value.int k n | _ => Value.int .i64 0).toArray
  | _ => #[]
def setCells (cs : Array Value) : Obj → Obj
  | .cells _ t fr => .cells cs t fr
  | o => o
/-- A world in which the three tables hold what their initialisers lay. -/
def withTabs (w : World) : World := { w with heap := ((w.heap.modify 0 (setCells (tabCells Rows.laid_internal_strconv_uint64pow10))).modify 1 (setCells (tabCells Rows.laid_math_bits_deBruijn32tab))).modify 2 (setCells (tabCells Rows.laid_math_bits_deBruijn64tab)) }

theorem laid_met (os : Os) : laidMet Tryd.prog Rows.fnSignsRow.laid ((withTabs (World.holding Tryd.prog os ⟨#[], #[], []⟩)).forCall (fun _ _ => 0) ⟨#[], #[.slice none 0 0], []⟩).memory :=
  laidMet_of_run' 8 (by kernel_rfl) (by kernel_rfl)
theorem reads (os : Os) {H : Type} (enc : TypeId × Value → H) : ∃ places, DataW.whole enc Tryd.prog ((withTabs (World.holding Tryd.prog os ⟨#[], #[], []⟩)).forCall (fun _ _ => 0) ⟨#[], #[.slice none 0 0], []⟩).memory Tryd.f3.params.toList Rows.fnSignsSpec.vars false #[Value.slice none 0 0].toList 8 = some ([.nil], [], places) :=
  ⟨[], by kernel_rfl⟩

set_option maxRecDepth 100000 in
theorem lifted (os : Os) (started : os.Started) (H : Type) (enc : TypeId × Value → H) (F : Stop.Interp) :
    ReturnsInHanded {} Tryd.checked os 3 .any ((OpenSpec.ofChange Rows.fnSignsSpec).preRow enc Tryd.prog Tryd.f3 Rows.fnSignsRow.domain false Rows.fnSignsRow.laid) (((OpenSpec.ofChange Rows.fnSignsSpec).at F).post enc Tryd.prog Tryd.f3 false true false false) := by
  obtain ⟨places, hx⟩ := reads os enc
  refine returnsInHanded_of_row (C := Tryd.checked) (s := OpenSpec.ofChange Rows.fnSignsSpec) own started (by kernel_rfl) Tryd.func3
    (witness_row_at (enc := enc) (C := Tryd.checked) false (withTabs (World.holding Tryd.prog os ⟨#[], #[], []⟩)) #[.slice none 0 0] rfl (by kernel_rfl) (by kernel_rfl) (by kernel_rfl)
      (OpenSpec.preRow_of_cond 8 hx (by kernel_rfl) (fun k hk => by cases hk) (by kernel_rfl) (laid_met os))) ?_
  intro W base args ds gs before hval hW _ _ _ hL _ _
  exact contract H enc W base args ds gs before hval hW hL

theorem said : Rows.FnSignsSaid :=
  OpenClaim.holds_of_cond 3 Tryd.f3 rfl rfl rfl rfl rfl rfl rfl ⟨rfl, rfl, rfl, rfl, rfl⟩ rfl rfl rfl rfl rfl (by kernel_rfl) Tryd.func3 (by kernel_rfl)
    (of_decide_eq_true (by kernel_rfl)) (by unfold Func.isWrapper; first | (rw [if_pos (by decide +kernel)]; kernel_rfl) | (rw [if_neg (by decide +kernel)]; exact ⟨rfl, rfl⟩))
    (fun os started H enc _ F => by rw [OpenClaim.pre_eq_preRow]; exact lifted os started H enc F)

theorem plain (f : FuncId) (fn : Func) (hf : Tryd.pinned.checked.prog.funcNamed "loop.example/g00397/laws.FnSigns" = some f) (hfn : Tryd.pinned.checked.prog.funcs[f]? = some fn) :
    false = Tryd.pinned.checked.prog.looks [] ∧ ∀ (j : Nat) t, fn.params[j]? = some t → Tryd.pinned.checked.prog.wantsStandIn t = false := by
  obtain rfl : f = 3 := Option.some.inj ((show Tryd.prog.funcNamed "loop.example/g00397/laws.FnSigns" = some 3 by kernel_rfl).symm.trans hf) |>.symm
  obtain rfl : fn = Tryd.f3 := (Option.some.inj (Tryd.func3.symm.trans hfn)).symm
  refine ⟨by kernel_rfl, fun j t ht => ?_⟩
  rw [Tryd.params3] at ht
  obtain rfl : t = 22 := by simpa using Array.mem_of_getElem? ht
  exact (show Tryd.prog.wantsStandIn 22 = false by kernel_rfl)

end Go.Proofs.YtfhkafbcopolcaaDoor.FnSigns
namespace Go.Proofs.YtfhkafbcopolcaaDoor
open Go.ChangeShapes Go.WideShapes Go.ChangeAt Go.RowKit

theorem fnSigns_card : Rows.FnSignsCardSaid :=
  Claim7.holds_tied_plain_at .later [] _ _ _ _ FnSigns.said (fun _ h => by cases h) (by kernel_rfl) (fun _ h => by cases h) fnSigns_row_tie rfl ⟨rfl, rfl⟩ (by kernel_rfl) rfl FnSigns.plain (by kernel_rfl)
#print axioms fnSigns_card
end Go.Proofs.YtfhkafbcopolcaaDoor
