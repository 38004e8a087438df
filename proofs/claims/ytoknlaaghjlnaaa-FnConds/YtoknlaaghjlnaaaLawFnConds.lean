/- Proved: at every code the law FnConds answers true: a drawn right condition holds of a drawn right call just when its argument, masked, stands so beside the value, in each of the six ways; a drawn right rule holds just when one of its numbers is the call's (or it has none) and all its conditions hold; impl.CondHolds and impl.CondOk answer as the specification's of drawn conditions and calls, right or not; no condition. -/
import Derived.Test.YtoknlaaghjlnaaaDrawConds
import Derived.Test.YtoknlaaghjlnaaaCondRep
import Derived.Test.YtoknlaaghjlnaaaRulesR
import Derived.WalkKit
import Derived.ProofKit
import Derived.OpenShut
import Derived.ShutString
import Derived.ChangeOld
import Derived.Below
import Derived.Deep.RegionHeld3
import Derived.Deep.RegionWith
namespace Go.Proofs.Ytoknlaaghjlnaaa.FnConds
open Go.ChangeShapes Go.WideShapes Go.ChangeAt Go.RowKit
open Go.ChangeMaps (open_string shut_string)
set_option linter.unusedVariables false

theorem own : ownKnob Try.prog.godebug = none := by kernel_rfl
theorem laidOut : laidOutB Try.prog = true := by kernel_rfl

theorem Try.infoBo : (Try.prog.info? 4).map (fun i => (i.zero, i.size, i.bytes)) = some (some (.bool false), 1, 1) := by kernel_rfl

/-- The six answers, one for each way of standing beside. -/
def asL (n : Int) : List Value := [.bool (asB n 1), .bool (asB n 2), .bool (asB n 3), .bool (asB n 4), .bool (asB n 5), .bool (asB n 6)]

theorem asL_push {n : Int} {k : Nat} (hk : k < 6) : (asL n).take k ++ [.bool (asB n ((k : Int) + 1))] = (asL n).take (k + 1) := by
  have : k = 0 ∨ k = 1 ∨ k = 2 ∨ k = 3 ∨ k = 4 ∨ k = 5 := by omega
  rcases this with rfl | rfl | rfl | rfl | rfl | rfl <;> rfl

theorem condH_turn {ag mh ml cm vh vl arch num : Int} {ws : List (Int × Int)} {n i : Int} (hc : condB ⟨ag, mh, ml, cm, vh, vl⟩ = true) (hk : callB arch num ws = true) (hn : n = cmpC ⟨ag, mh, ml, cm, vh, vl⟩ ws) (h1 : 1 ≤ i) (h6 : i ≤ 6) : condH ⟨ag, mh, ml, i, vh, vl⟩ arch num ws = asB n i := by
  have hc' : condB ⟨ag, mh, ml, i, vh, vl⟩ = true := by
    simp only [condB, Bool.and_eq_true] at hc ⊢
    exact ⟨⟨⟨hc.1.1.1, inB_true.2 ⟨h1, h6⟩⟩, hc.1.2⟩, hc.2⟩
  rw [condH_yes hc' hk, hn]
  rfl

theorem own_cells {w : World} {base e n : Nat} {v : Value} {xs : List Value} (h : w.ownsRow base e 1 v n xs) (hn : 0 < n) : ∃ g cap, v = .slice (some ⟨g, 0, none⟩) n cap ∧ CellsAt w g xs := by
  rcases h.2 with ⟨_, h0⟩ | ⟨g, cap, cur, rfl, hg, hh, hnc, hcp, hcs, htake⟩
  · omega
  · refine ⟨g, cap, rfl, (Array.getElem?_eq_some_iff.1 hh).1, fun i v hv => ?_⟩
    rw [cell_of_row w g i cur e _ hh]
    rw [← htake, List.getElem?_take] at hv
    split at hv
    · simpa using hv
    · cases hv

theorem numH_take {l : List Int} {x : Int} {k : Nat} (hk : k < l.length) : (decide (l.length = 0) || (l.take (k + 1)).contains x) = ((decide (l.length = 0) || (l.take k).contains x) || (l.getD k 0 == x)) := by
  rw [List.take_succ_eq_append_getElem hk]
  simp only [List.contains_eq_any_beq, List.any_append, List.any_cons, List.any_nil, Bool.or_false, Bool.or_assoc]
  have : l.getD k 0 = l[k] := by simp [List.getD_eq_getElem?_getD, hk]
  rw [this, BEq.comm (a := x)]

theorem Ext.own {w W W' : World} {row : Option Nat} (h : Ext w W) (hg : W.grownBy W' row) (hr : ∀ x, row = some x → w.heap.size ≤ x) : Ext w W' := h.grown hg h.size (fun k hk => hr k hk)

set_option maxRecDepth 100000 in
set_option maxHeartbeats 6400000 in
theorem walk (a : Option Addr) (len cap : Nat) (w : World) (raw : Raw w a len) : Calls Try.prog 4 #[.slice a len cap] w fun e w' => e = .returned (.bool true) ∧ Below w.heap.size w w' := by
  obtain ⟨i0, hi, hz0, hz1, hz2⟩ := info_parts Try.infoBo
  by_cases hbig : 1048576 < len
  · go_enter Try.func4, Try.ntmps4
    go_wp2_with (go_at_call 9; refine (big_yes _ _ _ _ hbig).mono ?_; rintro e w' ⟨rfl, rfl⟩)
    go_ret
    exact ⟨rfl, Below.refl _ _⟩
  have HC : Hid (Came w a len) := ⟨by omega, raw⟩
  have hl : len ≤ 1048576 := by omega
  clear raw hbig
  go_enter Try.func4, Try.ntmps4
  go_wp2_with fail
  refine (big_no a len cap _ hl).mono ?_
  rintro e w' ⟨rfl, rfl⟩
  go_wp2_with fail
  refine (drawCond_any a len cap _ HC.out).mono ?_
  rintro e w1 ⟨ag, mh, ml, cm, vh, vl, arch, num, ca, m1, cc, rfl, hcb, ⟨ws, hkb, hm, hw⟩, e1⟩
  have h3 : ws.length = 3 := callB_three hkb
  obtain rfl : m1 = 3 := by omega
  obtain ⟨n, hn⟩ : ∃ n, n = cmpC ⟨ag, mh, ml, cm, vh, vl⟩ ws := ⟨_, rfl⟩
  have HQ : Hid (∀ i : Int, 1 ≤ i → i ≤ 6 → condH ⟨ag, mh, ml, i, vh, vl⟩ arch num ws = asB n i) := fun i h1 h6 => condH_turn hcb hkb hn h1 h6
  have RC1 : Hid (∀ W, Ext w1 W → RepCall arch num ws (.agg #[.int .i64 arch, .int .i64 num, .slice ca 3 cc]) W) := fun W hE => ⟨ca, cc, by rw [h3], hw.below hE (Nat.le_refl _)⟩
  obtain ⟨a0, a2, m1', m6⟩ := condB_parts hcb
  simp only at a0 a2 m1' m6
  clear m1' m6
  obtain ⟨k, rfl⟩ : ∃ k : Nat, ag = k := ⟨ag.toNat, by omega⟩
  obtain ⟨x, y, hp⟩ : ∃ x y, (x, y) = ws.getD k (0, 0) := ⟨_, _, rfl⟩
  obtain ⟨b, off, rfl, p2⟩ := hw.pair (k := k) (by omega) hp
  obtain ⟨z, hz⟩ : ∃ z, z = andW (x, y) (mh, ml) := ⟨_, rfl⟩
  have HA : Hid (∀ W : World, Calls Try.prog 20 #[.agg #[.int .i64 x, .int .i64 y], .agg #[.int .i64 mh, .int .i64 ml]] W fun e w' => e = .returned (.agg #[.int .i64 z.1, .int .i64 z.2]) ∧ Below W.heap.size W w') := fun W => by rw [hz]; exact sAnd_any x y mh ml W
  have HB : Hid (∀ W : World, Calls Try.prog 21 #[.agg #[.int .i64 z.1, .int .i64 z.2], .agg #[.int .i64 vh, .int .i64 vl]] W fun e w' => e = .returned (.int .i64 n) ∧ Below W.heap.size W w') := fun W => by
    have : n = cmpW z (vh, vl) := by rw [hn, hz]; unfold cmpC; rw [hp]; simp
    rw [this]
    exact sCmp_any z.1 z.2 vh vl W
  have HL : Hid (ws.length ≤ 1048576) := by unfold Hid; omega
  have bk : (k : Int) < 3 := by omega
  clear hz hn hp a0 a2 h3 hm hw hcb hkb
  obtain ⟨z1, z2⟩ := z
  have E1 : Hid (Ext w w1) := e1
  have HX : Hid (CellsAt ((w1.alloc (.cells #[.int .i64 (k : Int), .int .i64 mh, .int .i64 ml, .int .i64 cm, .int .i64 vh, .int .i64 vl] 44)).alloc (.cells #[.int .i64 arch, .int .i64 num, .slice (some ⟨b, off, none⟩) 3 cc] 29)) w1.heap.size [.int .i64 (k : Int), .int .i64 mh, .int .i64 ml, .int .i64 cm, .int .i64 vh, .int .i64 vl] ∧ CellsAt ((w1.alloc (.cells #[.int .i64 (k : Int), .int .i64 mh, .int .i64 ml, .int .i64 cm, .int .i64 vh, .int .i64 vl] 44)).alloc (.cells #[.int .i64 arch, .int .i64 num, .slice (some ⟨b, off, none⟩) 3 cc] 29)) (w1.heap.size + 1) [.int .i64 arch, .int .i64 num, .slice (some ⟨b, off, none⟩) 3 cc] ∧ Ext w1 ((w1.alloc (.cells #[.int .i64 (k : Int), .int .i64 mh, .int .i64 ml, .int .i64 cm, .int .i64 vh, .int .i64 vl] 44)).alloc (.cells #[.int .i64 arch, .int .i64 num, .slice (some ⟨b, off, none⟩) 3 cc] 29)) ∧ Pair ((w1.alloc (.cells #[.int .i64 (k : Int), .int .i64 mh, .int .i64 ml, .int .i64 cm, .int .i64 vh, .int .i64 vl] 44)).alloc (.cells #[.int .i64 arch, .int .i64 num, .slice (some ⟨b, off, none⟩) 3 cc] 29)) b (off + k * 2) x y) :=
    ⟨(CellsAt.new w1 _ _).step (Ext.one _ _), CellsAt.new' _ _ _ _ (by simp), (Ext.one w1 _).alloc _, p2.step ((Ext.one w1 _).alloc _)⟩
  clear e1 p2
  go_wp2_with fail
  generalize (w1.alloc (.cells #[.int .i64 (k : Int), .int .i64 mh, .int .i64 ml, .int .i64 cm, .int .i64 vh, .int .i64 vl] 44)).alloc (.cells #[.int .i64 arch, .int .i64 num, .slice (some ⟨b, off, none⟩) 3 cc] 29) = W2 at *
  refine' wp_region_loose_tail 10 (.inl _ :: .inl _ :: .inl _ :: .inl _ :: .inl _ :: .inl _ :: .inl _ :: .inl _ :: .inl _ :: .inr (fun v w' => ∃ g, v = .pointer (some ⟨g, 0, none⟩) ∧ w1.heap.size + 1 < g ∧ Box w' g 0 0) :: []) (fun w' => CellsAt w' w1.heap.size [.int .i64 (k : Int), .int .i64 mh, .int .i64 ml, .int .i64 cm, .int .i64 vh, .int .i64 vl] ∧ CellsAt w' (w1.heap.size + 1) [.int .i64 arch, .int .i64 num, .slice (some ⟨b, off, none⟩) 3 cc] ∧ Pair w' b (off + k * 2) x y) (by kernel_rfl) (by kernel_rfl) (⟨HX.out.1.drew, HX.out.2.1.drew, HX.out.2.2.2⟩) (fun _ _ h hE => ⟨h.1.step hE, h.2.1.step hE, h.2.2.step hE⟩) ?hAa ?hla ?hMa
  case' hMa => skip
  simp only [List.take_succ_cons, List.take_zero, List.drop_succ_cons, List.drop_zero]
  apply wpLoose_val rfl rfl
  case hs =>
    intro w1 hC hd Q1 hQ1
    obtain ⟨hE, hS⟩ := hC
    dsimp only [bare]
    obtain ⟨q1, q2, q3, q4, ⟨_, q5, q6⟩⟩ := (⟨hS.1.2 0 _ rfl, hS.1.2 1 _ rfl, hS.1.2 2 _ rfl, hS.2.1.2 2 _ rfl, hS.2.2⟩ : _ ∧ _ ∧ _ ∧ _ ∧ _)
    clear hd hE
    try clear hS
    go_wp2
    exact Ext.refl _
  case ha => rfl
  apply wpLoose_val rfl rfl
  case hs =>
    intro w1 hC hd Q1 hQ1
    obtain ⟨hE, hS⟩ := hC
    dsimp only [bare]
    obtain ⟨q1, q2, q3, q4, ⟨_, q5, q6⟩⟩ := (⟨hS.1.2 0 _ rfl, hS.1.2 1 _ rfl, hS.1.2 2 _ rfl, hS.2.1.2 2 _ rfl, hS.2.2⟩ : _ ∧ _ ∧ _ ∧ _ ∧ _)
    clear hd hE
    try clear hS
    go_wp2
    exact Ext.refl _
  case ha => rfl
  apply wpLoose_val rfl rfl
  case hs =>
    intro w1 hC hd Q1 hQ1
    obtain ⟨hE, hS⟩ := hC
    dsimp only [bare]
    obtain ⟨q1, q2, q3, q4, ⟨_, q5, q6⟩⟩ := (⟨hS.1.2 0 _ rfl, hS.1.2 1 _ rfl, hS.1.2 2 _ rfl, hS.2.1.2 2 _ rfl, hS.2.2⟩ : _ ∧ _ ∧ _ ∧ _ ∧ _)
    clear hd hE
    try clear hS
    go_wp2
    exact Ext.refl _
  case ha => rfl
  apply wpLoose_val rfl rfl
  case hs =>
    intro w1 hC hd Q1 hQ1
    obtain ⟨hE, hS⟩ := hC
    dsimp only [bare]
    obtain ⟨q1, q2, q3, q4, ⟨_, q5, q6⟩⟩ := (⟨hS.1.2 0 _ rfl, hS.1.2 1 _ rfl, hS.1.2 2 _ rfl, hS.2.1.2 2 _ rfl, hS.2.2⟩ : _ ∧ _ ∧ _ ∧ _ ∧ _)
    clear hd hE
    try clear hS
    go_wp2
    exact Ext.refl _
  case ha => rfl
  apply wpLoose_val rfl rfl
  case hs =>
    intro w1 hC hd Q1 hQ1
    obtain ⟨hE, hS⟩ := hC
    dsimp only [bare]
    obtain ⟨q1, q2, q3, q4, ⟨_, q5, q6⟩⟩ := (⟨hS.1.2 0 _ rfl, hS.1.2 1 _ rfl, hS.1.2 2 _ rfl, hS.2.1.2 2 _ rfl, hS.2.2⟩ : _ ∧ _ ∧ _ ∧ _ ∧ _)
    clear hd hE
    try clear hS
    go_wp2
    exact Ext.refl _
  case ha => rfl
  apply wpLoose_val rfl rfl
  case hs =>
    intro w1 hC hd Q1 hQ1
    obtain ⟨hE, hS⟩ := hC
    dsimp only [bare]
    obtain ⟨q1, q2, q3, q4, ⟨_, q5, q6⟩⟩ := (⟨hS.1.2 0 _ rfl, hS.1.2 1 _ rfl, hS.1.2 2 _ rfl, hS.2.1.2 2 _ rfl, hS.2.2⟩ : _ ∧ _ ∧ _ ∧ _ ∧ _)
    clear hd hE
    try clear hS
    go_wp2
    exact Ext.refl _
  case ha => rfl
  apply wpLoose_val rfl rfl
  case hs =>
    intro w1 hC hd Q1 hQ1
    obtain ⟨hE, hS⟩ := hC
    dsimp only [bare]
    obtain ⟨q1, q2, q3, q4, ⟨_, q5, q6⟩⟩ := (⟨hS.1.2 0 _ rfl, hS.1.2 1 _ rfl, hS.1.2 2 _ rfl, hS.2.1.2 2 _ rfl, hS.2.2⟩ : _ ∧ _ ∧ _ ∧ _ ∧ _)
    clear hd hE
    try clear hS
    go_wp2
    exact Ext.refl _
  case ha => rfl
  apply wpLoose_val rfl rfl
  case hs =>
    intro w1 hC hd Q1 hQ1
    obtain ⟨hE, hS⟩ := hC
    dsimp only [bare]
    obtain ⟨q1, q2, q3, q4, ⟨_, q5, q6⟩⟩ := (⟨hS.1.2 0 _ rfl, hS.1.2 1 _ rfl, hS.1.2 2 _ rfl, hS.2.1.2 2 _ rfl, hS.2.2⟩ : _ ∧ _ ∧ _ ∧ _ ∧ _)
    clear hd hE
    try clear hS
    go_wp2
    exact Ext.refl _
  case ha => rfl
  apply wpLoose_val rfl rfl
  case hs =>
    intro w1 hC hd Q1 hQ1
    obtain ⟨hE, hS⟩ := hC
    dsimp only [bare]
    clear hd
    go_wp2_with fail
    refine (HA.out _).mono ?_
    rintro e w2 ⟨rfl, hb⟩
    go_wp2_with fail
    exact hb
  case ha => rfl
  refine wpLoose_rel rfl rfl ?_ (fun va_9 => ?_)
  · intro w1 hC hd Q1 hQ1
    obtain ⟨hE, hS⟩ := hC
    dsimp only [bare]
    have hz := hS.2.1.1
    clear hd hS hE
    go_wp2
    exact hQ1 _ _ ((Below.refl _ _).alloc (Nat.le_refl _) _) ⟨_, rfl, hz, Box.new _ _ _ _⟩
  refine wpLoose_nil ?_
  intro wa hEa hSa hFa
  · obtain ⟨g, rfl, hg, bx⟩ := hFa 9 _ rfl (by decide) (by simp [Act.put])
    have X3 : Hid (Ext w1 ((wa.setCell ⟨g, 0, none⟩ (.int .i64 z1)).setCell ⟨g, 1, none⟩ (.int .i64 z2))) := by
      have := HX.out.2.2.1.drew.trans hEa
      exact (this.setCell (by show w1.heap.size ≤ g; omega) _).setCell (by show w1.heap.size ≤ g; omega) _
    have b1 := bx.stored z1 z2
    have HY : Hid (CellsAt ((wa.setCell ⟨g, 0, none⟩ (.int .i64 z1)).setCell ⟨g, 1, none⟩ (.int .i64 z2)) w1.heap.size [.int .i64 (k : Int), .int .i64 mh, .int .i64 ml, .int .i64 cm, .int .i64 vh, .int .i64 vl] ∧ CellsAt ((wa.setCell ⟨g, 0, none⟩ (.int .i64 z1)).setCell ⟨g, 1, none⟩ (.int .i64 z2)) (w1.heap.size + 1) [.int .i64 arch, .int .i64 num, .slice (some ⟨b, off, none⟩) 3 cc]) := ⟨(hSa.1.set (by omega) _ _).set (by omega) _ _, (hSa.2.1.set (by omega) _ _).set (by omega) _ _⟩
    obtain ⟨bl, ⟨e0, e1⟩, ⟨f0, f1⟩⟩ := bx
    clear hFa hEa hSa HX
    go_upto_region 5 with fail
    generalize (wa.setCell ⟨g, 0, none⟩ (.int .i64 z1)).setCell ⟨g, 1, none⟩ (.int .i64 z2) = W3 at *
    clear bl e0 e1 f0 f1
    obtain ⟨q0, q1, q2, q3, q4⟩ := (⟨HY.out.1.2 3 _ rfl, HY.out.1.2 4 _ rfl, HY.out.1.2 5 _ rfl, b1.2.1.1, b1.2.1.2⟩ : _ ∧ _ ∧ _ ∧ _ ∧ _)
    clear b1 hg
    go_wp2_with fail
    refine (HB.out _).mono ?_
    rintro e w4 ⟨rfl, x4⟩
    have H4 : Hid (Ext w1 w4 ∧ CellsAt w4 w1.heap.size [.int .i64 (k : Int), .int .i64 mh, .int .i64 ml, .int .i64 cm, .int .i64 vh, .int .i64 vl] ∧ CellsAt w4 (w1.heap.size + 1) [.int .i64 arch, .int .i64 num, .slice (some ⟨b, off, none⟩) 3 cc]) := ⟨X3.out.trans x4, HY.out.1.step x4, HY.out.2.step x4⟩
    clear x4 HY X3 q0 q1 q2 q3 q4 HA HB bk
    go_upto_block 0 with fail
    go_cut [7] from 18 to 51 (fun lv wr => Hid (wr.ownsRow w4.heap.size 4 1 lv 6 (asL n) ∧ Ext w4 wr))
    case first =>
      go_wp2_with fail
      go_loopw [7, 8] (fun lv iv wr => ∃ j : Nat, iv = .int .i64 ((j : Int) + 1) ∧ j ≤ 6 ∧ Hid (wr.ownsRow w4.heap.size 4 1 lv j ((asL n).take j) ∧ Ext w4 wr)) (fun _ iv _ => 8 - (intOf iv).toNat)
      case atStart => exact ⟨0, rfl, by omega, World.ownsRow_lit (e := 4) (size := 1) w4 #[] 0 (Nat.le_refl _) (by decide) rfl, Ext.one _ _⟩
      case round =>
        obtain ⟨j, rfl, hj, HI⟩ := hrel
        by_cases h6 : j < 6
        · have hj6 : ((j : Int) + 1) ≤ 6 := by omega
          have cc3 := H4.out.2.1.step HI.out.2
          have cc4 := H4.out.2.2.step HI.out.2
          obtain ⟨q0, q1, q2, q3, q4, q5⟩ := (⟨cc3.2 0 _ rfl, cc3.2 1 _ rfl, cc3.2 2 _ rfl, cc3.2 3 _ rfl, cc3.2 4 _ rfl, cc3.2 5 _ rfl⟩ : _ ∧ _ ∧ _ ∧ _ ∧ _ ∧ _)
          obtain ⟨s0, s1, s2⟩ := (⟨cc4.2 0 _ rfl, cc4.2 1 _ rfl, cc4.2 2 _ rfl⟩ : _ ∧ _ ∧ _)
          have l3 := cc3.1
          have l4 := cc4.1
          clear cc3 cc4
          have HJ : Hid (condH ⟨(k : Int), mh, ml, (j : Int) + 1, vh, vl⟩ arch num ws = asB n ((j : Int) + 1)) := HQ.out _ (by omega) hj6
          go_wp2_with fail
          refine (iCondHolds_rep (k : Int) mh ml ((j : Int) + 1) vh vl arch num ws _ _ HL.out (RC1.out _ ((H4.out.1.trans HI.out.2).alloc _))).mono ?_
          rintro e w5 ⟨rfl, x5⟩
          rw [HJ.out]
          have x45 : Ext wr w5 := (Ext.one wr _).trans x5
          have H5 : Hid (w5.ownsRow w4.heap.size 4 1 u7 j ((asL n).take j) ∧ Ext w4 w5) := ⟨own_below HI.out.1 x45, HI.out.2.trans x45⟩
          clear x45 x5 HI q0 q1 q2 q3 q4 q5 s0 s1 s2 l3 l4 HJ
          obtain ⟨bb, hbb⟩ : ∃ bb, bb = asB n ((j : Int) + 1) := ⟨_, rfl⟩
          rw [← hbb]
          have HBB : Hid (bb = asB n ((j : Int) + 1)) := hbb
          clear hbb
          have hs5 : w4.heap.size ≤ w5.heap.size := H5.out.2.size
          go_wp2_with (at_builtin; refine wpList_append_lies _ rfl _ _ 49 rfl w4.heap.size 4 i0 (.bool false) 1 1 Try.underlying49 hi hz0 hz1 hz2 rfl (by decide) _ _ _ rfl (own_below H5.out.1 (Ext.one _ _)) ⟨w5.heap.size, 0, none⟩ 1 1 [.bool bb] rfl rfl ?c1 ?c2 (by omega) ?c3 ?c4 ?c5 (w5.heap.size + 1) (by simp) ?_)
          case c1 => exact World.news_of_block (B := w5.heap.size) (cs := #[.bool bb]) (t := 4) (fr := (0, 0)) (by have := Blk.new w5 [.bool bb] 4; simpa [Blk] using this)
          case c2 => simp [Value.oneCell']
          case c3 => unfold maxLen; omega
          case c4 => omega
          case c5 => simp; omega
          intro g' cap' w6 hown6 hgrow6 hat6 hlt6
          have HK : Hid (w6.ownsRow w4.heap.size 4 1 (.slice (some ⟨g', 0, none⟩) (j + 1) cap') (j + 1) ((asL n).take (j + 1)) ∧ Ext w4 w6) := by
            refine ⟨?_, Ext.own (H5.out.2.alloc _) hgrow6 (fun x hx => own_ge H5.out.1 hx)⟩
            rw [HBB.out, asL_push h6] at hown6
            exact hown6
          clear hown6 hgrow6 hat6 hlt6 H5 HBB
          go_wp2
          go_roundw
          case rel => exact ⟨j + 1, by go_num, by omega, HK.out⟩
          case measure => simp [intOf]; omega
        · obtain rfl : j = 6 := by omega
          clear h6
          go_wp2
          go_meet
          case rel => exact HI.out
    case rest =>
      have H6 : Hid (wc.ownsRow w4.heap.size 4 1 u7 6 (asL n) ∧ Ext w4 wc) := hcut
      clear hcut
      obtain ⟨gl, capl, rfl, hcl⟩ := own_cells H6.out.1 (by omega)
      have EC : Hid (Ext w wc) := (E1.out.trans H4.out.1).trans H6.out.2
      have CL : Hid (CellsAt wc gl (asL n)) := hcl
      clear hcl H6 H4 E1 HQ RC1 HL
      go_wp2_with fail
      refine (drawRule_any a len cap _ (HC.out.below EC.out)).mono ?_
      rintro e w7 ⟨a1, n1, c1, a2, n2, c2, ac, da, arch2, num2, ca2, m2, cc2, rfl, ⟨r, hrb, hrs, rfl, rfl, hn1, hn2, hN, hCo⟩, ⟨ws2, hkb2, hww2, hw2⟩, e7⟩
      have HRR : Hid (Small r ∧ n1 = r.nums.length ∧ n2 = r.conds.length ∧ m2 = ws2.length ∧ ws2.length ≤ 1048576) := ⟨hrs, hn1, hn2, hww2, by have := callB_three hkb2; omega⟩
      have HR : Hid (∀ W, Ext w7 W → Nums W a1 r.nums ∧ Conds W a2 r.conds ∧ Wides W ca2 ws2) := fun W hE => ⟨hN.step hE, hCo.step hE, hw2.below hE (Nat.le_refl _)⟩
      have hm1 : n1 ≤ 1048576 := by rw [hn1]; exact hrs.1
      have hm2 : n2 ≤ 1048576 := by rw [hn2]; exact hrs.2
      have H8 : Hid (Ext w7 ((w7.alloc (.cells #[.slice a1 n1 c1, .slice a2 n2 c2, .int .i64 r.act, .int .i64 r.data] 37)).alloc (.cells #[.int .i64 arch2, .int .i64 num2, .slice ca2 m2 cc2] 29)) ∧ Ext w ((w7.alloc (.cells #[.slice a1 n1 c1, .slice a2 n2 c2, .int .i64 r.act, .int .i64 r.data] 37)).alloc (.cells #[.int .i64 arch2, .int .i64 num2, .slice ca2 m2 cc2] 29)) ∧ CellsAt ((w7.alloc (.cells #[.slice a1 n1 c1, .slice a2 n2 c2, .int .i64 r.act, .int .i64 r.data] 37)).alloc (.cells #[.int .i64 arch2, .int .i64 num2, .slice ca2 m2 cc2] 29)) gl (asL n) ∧ CellsAt ((w7.alloc (.cells #[.slice a1 n1 c1, .slice a2 n2 c2, .int .i64 r.act, .int .i64 r.data] 37)).alloc (.cells #[.int .i64 arch2, .int .i64 num2, .slice ca2 m2 cc2] 29)) w7.heap.size [.slice a1 n1 c1, .slice a2 n2 c2, .int .i64 r.act, .int .i64 r.data] ∧ CellsAt ((w7.alloc (.cells #[.slice a1 n1 c1, .slice a2 n2 c2, .int .i64 r.act, .int .i64 r.data] 37)).alloc (.cells #[.int .i64 arch2, .int .i64 num2, .slice ca2 m2 cc2] 29)) (w7.heap.size + 1) [.int .i64 arch2, .int .i64 num2, .slice ca2 m2 cc2]) :=
        ⟨(Ext.one w7 _).alloc _, ((EC.out.trans e7).alloc _).alloc _, ((CL.out.step e7).step (Ext.one w7 _)).step (Ext.one _ _), (CellsAt.new w7 _ _).step (Ext.one _ _), CellsAt.new' _ _ _ _ (by simp)⟩
      clear hrb hrs hn1 hn2 hN hCo hkb2 hww2 hw2 e7 EC CL
      go_upto_block 2 with fail
      generalize (w7.alloc (.cells #[.slice a1 n1 c1, .slice a2 n2 c2, .int .i64 r.act, .int .i64 r.data] 37)).alloc (.cells #[.int .i64 arch2, .int .i64 num2, .slice ca2 m2 cc2] 29) = W8 at *
      go_cut [12] from 18 to 95 (fun bv wr => bv = .bool (numH r.nums num2) ∧ Hid (Ext W8 wr))
      case first =>
        have HE0 : Hid (((n1 : Int) == 0) = decide (r.nums.length = 0)) := by
          unfold Hid
          rw [← HRR.out.2.1]
          by_cases h0 : n1 = 0
          · subst h0; rfl
          · rw [beq_eq_false_iff_ne.2 (by omega), decide_eq_false h0]
        go_wp2_with fail
        go_loopw [12, 13] (fun bv iv wr => ∃ (k : Nat) (bt : Bool), iv = .int .i64 k ∧ bv = .bool bt ∧ k ≤ n1 ∧ Hid (bt = (decide (r.nums.length = 0) || (r.nums.take k).contains num2)) ∧ Hid (Ext W8 wr)) (fun _ iv _ => (n1 + 1 - (intOf iv).toNat))
        case atStart => exact ⟨0, _, rfl, rfl, by omega, by unfold Hid; rw [HE0.out]; simp, Ext.refl _⟩
        case round =>
          obtain ⟨k, bt, rfl, rfl, hk, HBT, HE⟩ := hrel
          have cc3 := H8.out.2.2.2.1.step HE.out
          have cc4 := H8.out.2.2.2.2.step HE.out
          obtain ⟨q0, q1, q2, q3⟩ := (⟨cc3.2 0 _ rfl, cc3.2 1 _ rfl, cc3.2 2 _ rfl, cc3.2 3 _ rfl⟩ : _ ∧ _ ∧ _ ∧ _)
          by_cases hlt : k < n1
          · have bk : (k : Int) < (n1 : Int) := by omega
            have hkl : k < r.nums.length := by rw [← HRR.out.2.1]; exact hlt
            obtain ⟨b1, o1, ha1, _, hcc⟩ := (HR.out _ (H8.out.1.trans HE.out)).1 (by omega)
            have hck := hcc k hkl
            have HNX : Hid ((decide (r.nums.length = 0) || (r.nums.take (k + 1)).contains num2) = (bt || (r.nums.getD k 0 == num2))) := by unfold Hid; rw [numH_take hkl, HBT.out]
            obtain ⟨v, hv⟩ : ∃ v, v = r.nums.getD k 0 := ⟨_, rfl⟩
            rw [← hv] at hck HNX
            clear hcc hkl hv
            subst ha1
            go_wp2_with fail
            cases bt
            case false =>
              refine' wp_region_loose (.inl _ :: .inl _ :: .inl _ :: .inl _ :: .inl _ :: .inl _ :: .inl _ :: .inl _ :: .inl _ :: .inl _ :: .inl _ :: .inl _ :: []) (fun w' => CellsAt w' w7.heap.size [.slice (some ⟨b1, o1, none⟩) n1 c1, .slice a2 n2 c2, .int .i64 r.act, .int .i64 r.data] ∧ CellsAt w' (w7.heap.size + 1) [.int .i64 arch2, .int .i64 num2, .slice ca2 m2 cc2] ∧ (b1 < w'.heap.size ∧ w'.cell? ⟨b1, o1 + k, none⟩ = some (.int .i64 v))) (by kernel_rfl) (by kernel_rfl) (⟨cc3.drew, cc4.drew, ⟨by assumption, hck⟩⟩) (fun _ _ h hE => ⟨h.1.step hE, h.2.1.step hE, ⟨Nat.lt_of_lt_of_le h.2.2.1 hE.size, (hE.cell (p := ⟨b1, o1 + k, none⟩) h.2.2.1).trans h.2.2.2⟩⟩) ?hAb ?hlb ?hMb
              case' hMb => skip
              apply wpLoose_val rfl rfl
              case hs =>
                intro w1 hC hd Q1 hQ1
                obtain ⟨hE, hS⟩ := hC
                dsimp only [bare]
                obtain ⟨q0, q1, q2, q3, q4⟩ := (⟨hS.1.2 0 _ rfl, hS.2.1.2 0 _ rfl, hS.2.1.2 1 _ rfl, hS.2.1.2 2 _ rfl, hS.2.2.2⟩ : _ ∧ _ ∧ _ ∧ _ ∧ _)
                clear hd hE
                try clear hS
                go_wp2
                exact Ext.refl _
              case ha => rfl
              apply wpLoose_val rfl rfl
              case hs =>
                intro w1 hC hd Q1 hQ1
                obtain ⟨hE, hS⟩ := hC
                dsimp only [bare]
                obtain ⟨q0, q1, q2, q3, q4⟩ := (⟨hS.1.2 0 _ rfl, hS.2.1.2 0 _ rfl, hS.2.1.2 1 _ rfl, hS.2.1.2 2 _ rfl, hS.2.2.2⟩ : _ ∧ _ ∧ _ ∧ _ ∧ _)
                clear hd hE
                try clear hS
                go_wp2
                exact Ext.refl _
              case ha => rfl
              apply wpLoose_val rfl rfl
              case hs =>
                intro w1 hC hd Q1 hQ1
                obtain ⟨hE, hS⟩ := hC
                dsimp only [bare]
                obtain ⟨q0, q1, q2, q3, q4⟩ := (⟨hS.1.2 0 _ rfl, hS.2.1.2 0 _ rfl, hS.2.1.2 1 _ rfl, hS.2.1.2 2 _ rfl, hS.2.2.2⟩ : _ ∧ _ ∧ _ ∧ _ ∧ _)
                clear hd hE
                try clear hS
                go_wp2
                exact Ext.refl _
              case ha => rfl
              apply wpLoose_val rfl rfl
              case hs =>
                intro w1 hC hd Q1 hQ1
                obtain ⟨hE, hS⟩ := hC
                dsimp only [bare]
                obtain ⟨q0, q1, q2, q3, q4⟩ := (⟨hS.1.2 0 _ rfl, hS.2.1.2 0 _ rfl, hS.2.1.2 1 _ rfl, hS.2.1.2 2 _ rfl, hS.2.2.2⟩ : _ ∧ _ ∧ _ ∧ _ ∧ _)
                clear hd hE
                try clear hS
                go_wp2
                exact Ext.refl _
              case ha => rfl
              apply wpLoose_val rfl rfl
              case hs =>
                intro w1 hC hd Q1 hQ1
                obtain ⟨hE, hS⟩ := hC
                dsimp only [bare]
                obtain ⟨q0, q1, q2, q3, q4⟩ := (⟨hS.1.2 0 _ rfl, hS.2.1.2 0 _ rfl, hS.2.1.2 1 _ rfl, hS.2.1.2 2 _ rfl, hS.2.2.2⟩ : _ ∧ _ ∧ _ ∧ _ ∧ _)
                clear hd hE
                try clear hS
                go_wp2
                exact Ext.refl _
              case ha => rfl
              apply wpLoose_val rfl rfl
              case hs =>
                intro w1 hC hd Q1 hQ1
                obtain ⟨hE, hS⟩ := hC
                dsimp only [bare]
                obtain ⟨q0, q1, q2, q3, q4⟩ := (⟨hS.1.2 0 _ rfl, hS.2.1.2 0 _ rfl, hS.2.1.2 1 _ rfl, hS.2.1.2 2 _ rfl, hS.2.2.2⟩ : _ ∧ _ ∧ _ ∧ _ ∧ _)
                clear hd hE
                try clear hS
                go_wp2
                exact Ext.refl _
              case ha => rfl
              apply wpLoose_val rfl rfl
              case hs =>
                intro w1 hC hd Q1 hQ1
                obtain ⟨hE, hS⟩ := hC
                dsimp only [bare]
                obtain ⟨q0, q1, q2, q3, q4⟩ := (⟨hS.1.2 0 _ rfl, hS.2.1.2 0 _ rfl, hS.2.1.2 1 _ rfl, hS.2.1.2 2 _ rfl, hS.2.2.2⟩ : _ ∧ _ ∧ _ ∧ _ ∧ _)
                clear hd hE
                try clear hS
                go_wp2
                exact Ext.refl _
              case ha => rfl
              apply wpLoose_val rfl rfl
              case hs =>
                intro w1 hC hd Q1 hQ1
                obtain ⟨hE, hS⟩ := hC
                dsimp only [bare]
                obtain ⟨q0, q1, q2, q3, q4⟩ := (⟨hS.1.2 0 _ rfl, hS.2.1.2 0 _ rfl, hS.2.1.2 1 _ rfl, hS.2.1.2 2 _ rfl, hS.2.2.2⟩ : _ ∧ _ ∧ _ ∧ _ ∧ _)
                clear hd hE
                try clear hS
                go_wp2
                exact Ext.refl _
              case ha => rfl
              apply wpLoose_val rfl rfl
              case hs =>
                intro w1 hC hd Q1 hQ1
                obtain ⟨hE, hS⟩ := hC
                dsimp only [bare]
                obtain ⟨q0, q1, q2, q3, q4⟩ := (⟨hS.1.2 0 _ rfl, hS.2.1.2 0 _ rfl, hS.2.1.2 1 _ rfl, hS.2.1.2 2 _ rfl, hS.2.2.2⟩ : _ ∧ _ ∧ _ ∧ _ ∧ _)
                clear hd hE
                try clear hS
                go_wp2
                exact Ext.refl _
              case ha => rfl
              apply wpLoose_val rfl rfl
              case hs =>
                intro w1 hC hd Q1 hQ1
                obtain ⟨hE, hS⟩ := hC
                dsimp only [bare]
                obtain ⟨q0, q1, q2, q3, q4⟩ := (⟨hS.1.2 0 _ rfl, hS.2.1.2 0 _ rfl, hS.2.1.2 1 _ rfl, hS.2.1.2 2 _ rfl, hS.2.2.2⟩ : _ ∧ _ ∧ _ ∧ _ ∧ _)
                clear hd hE
                try clear hS
                go_wp2
                exact Ext.refl _
              case ha => rfl
              apply wpLoose_val rfl rfl
              case hs =>
                intro w1 hC hd Q1 hQ1
                obtain ⟨hE, hS⟩ := hC
                dsimp only [bare]
                obtain ⟨q0, q1, q2, q3, q4⟩ := (⟨hS.1.2 0 _ rfl, hS.2.1.2 0 _ rfl, hS.2.1.2 1 _ rfl, hS.2.1.2 2 _ rfl, hS.2.2.2⟩ : _ ∧ _ ∧ _ ∧ _ ∧ _)
                clear hd hE
                try clear hS
                go_wp2
                exact Ext.refl _
              case ha => rfl
              apply wpLoose_val rfl rfl
              case hs =>
                intro w1 hC hd Q1 hQ1
                obtain ⟨hE, hS⟩ := hC
                dsimp only [bare]
                obtain ⟨q0, q1, q2, q3, q4⟩ := (⟨hS.1.2 0 _ rfl, hS.2.1.2 0 _ rfl, hS.2.1.2 1 _ rfl, hS.2.1.2 2 _ rfl, hS.2.2.2⟩ : _ ∧ _ ∧ _ ∧ _ ∧ _)
                clear hd hE
                try clear hS
                go_wp2
                exact Ext.refl _
              case ha => rfl
              refine wpLoose_nil ?_
              intro wb hEb hSb hFb
              · have HE2 : Hid (Ext W8 wb) := HE.out.drew.trans hEb
                clear hFb hSb hEb q0 q1 q2 q3 cc3 cc4 hck
                go_wp2
                go_roundw
                case rel => exact ⟨k + 1, _, by go_num, rfl, by omega, by unfold Hid; rw [HNX.out]; simp, HE2⟩
                case measure => simp [intOf]; omega
              case hAb => kernel_rfl
              case hlb => exact ⟨trivial, trivial, trivial, trivial, trivial, trivial, trivial, trivial, trivial, trivial, trivial, trivial, trivial⟩
            case true =>
              refine' wp_region_loose (.inl _ :: .inl _ :: .inl undef :: .inl undef :: .inl undef :: .inl undef :: .inl undef :: .inl undef :: .inl undef :: .inl undef :: .inl _ :: .inl _ :: []) (fun w' => CellsAt w' w7.heap.size [.slice (some ⟨b1, o1, none⟩) n1 c1, .slice a2 n2 c2, .int .i64 r.act, .int .i64 r.data] ∧ CellsAt w' (w7.heap.size + 1) [.int .i64 arch2, .int .i64 num2, .slice ca2 m2 cc2]) (by kernel_rfl) (by kernel_rfl) (⟨cc3.drew, cc4.drew⟩) (fun _ _ h hE => ⟨h.1.step hE, h.2.step hE⟩) ?hAc ?hlc ?hMc
              case' hMc => skip
              apply wpLoose_val rfl rfl
              case hs =>
                intro w1 hC hd Q1 hQ1
                obtain ⟨hE, hS⟩ := hC
                dsimp only [bare]
                obtain ⟨q0, q1, q2, q3⟩ := (⟨hS.1.2 0 _ rfl, hS.2.2 0 _ rfl, hS.2.2 1 _ rfl, hS.2.2 2 _ rfl⟩ : _ ∧ _ ∧ _ ∧ _)
                clear hd hE
                try clear hS
                go_wp2
                exact Ext.refl _
              case ha => rfl
              apply wpLoose_val rfl rfl
              case hs =>
                intro w1 hC hd Q1 hQ1
                obtain ⟨hE, hS⟩ := hC
                dsimp only [bare]
                obtain ⟨q0, q1, q2, q3⟩ := (⟨hS.1.2 0 _ rfl, hS.2.2 0 _ rfl, hS.2.2 1 _ rfl, hS.2.2 2 _ rfl⟩ : _ ∧ _ ∧ _ ∧ _)
                clear hd hE
                try clear hS
                go_wp2
                exact Ext.refl _
              case ha => rfl
              refine wpLoose_skip rfl rfl ?_
              try simp only [Act.put, List.setIfInBounds_toArray, List.set_cons_succ, List.set_cons_zero]
              refine wpLoose_skip rfl rfl ?_
              try simp only [Act.put, List.setIfInBounds_toArray, List.set_cons_succ, List.set_cons_zero]
              refine wpLoose_skip rfl rfl ?_
              try simp only [Act.put, List.setIfInBounds_toArray, List.set_cons_succ, List.set_cons_zero]
              refine wpLoose_skip rfl rfl ?_
              try simp only [Act.put, List.setIfInBounds_toArray, List.set_cons_succ, List.set_cons_zero]
              refine wpLoose_skip rfl rfl ?_
              try simp only [Act.put, List.setIfInBounds_toArray, List.set_cons_succ, List.set_cons_zero]
              refine wpLoose_skip rfl rfl ?_
              try simp only [Act.put, List.setIfInBounds_toArray, List.set_cons_succ, List.set_cons_zero]
              refine wpLoose_skip rfl rfl ?_
              try simp only [Act.put, List.setIfInBounds_toArray, List.set_cons_succ, List.set_cons_zero]
              refine wpLoose_skip rfl rfl ?_
              try simp only [Act.put, List.setIfInBounds_toArray, List.set_cons_succ, List.set_cons_zero]
              apply wpLoose_val rfl rfl
              case hs =>
                intro w1 hC hd Q1 hQ1
                obtain ⟨hE, hS⟩ := hC
                dsimp only [bare]
                obtain ⟨q0, q1, q2, q3⟩ := (⟨hS.1.2 0 _ rfl, hS.2.2 0 _ rfl, hS.2.2 1 _ rfl, hS.2.2 2 _ rfl⟩ : _ ∧ _ ∧ _ ∧ _)
                clear hd hE
                try clear hS
                go_wp2
                exact Ext.refl _
              case ha => rfl
              apply wpLoose_val rfl rfl
              case hs =>
                intro w1 hC hd Q1 hQ1
                obtain ⟨hE, hS⟩ := hC
                dsimp only [bare]
                obtain ⟨q0, q1, q2, q3⟩ := (⟨hS.1.2 0 _ rfl, hS.2.2 0 _ rfl, hS.2.2 1 _ rfl, hS.2.2 2 _ rfl⟩ : _ ∧ _ ∧ _ ∧ _)
                clear hd hE
                try clear hS
                go_wp2
                exact Ext.refl _
              case ha => rfl
              refine wpLoose_nil ?_
              intro wc hEc hSc hFc
              · have HE2 : Hid (Ext W8 wc) := HE.out.drew.trans hEc
                clear hFc hSc hEc q0 q1 q2 q3 cc3 cc4 hck
                go_wp2
                go_roundw
                case rel => exact ⟨k + 1, true, by go_num, rfl, by omega, by unfold Hid; rw [HNX.out]; rfl, HE2⟩
                case measure => simp [intOf]; omega
              case hAc => kernel_rfl
              case hlc => exact ⟨trivial, trivial, trivial, trivial, trivial, trivial, trivial, trivial, trivial, trivial, trivial, trivial, trivial⟩
          · obtain rfl : k = n1 := by omega
            have bk : ¬ (k : Int) < (k : Int) := by omega
            clear hlt
            go_wp2
            go_meet
            case rel => exact ⟨by rw [HBT.out, List.take_of_length_le (by rw [HRR.out.2.1]; exact Nat.le_refl _)]; rfl, HE⟩
      case rest =>
        rename World => w9
        obtain ⟨rfl, HE9⟩ := hcut
        have H9 : Hid (Ext w7 w9 ∧ Ext w w9 ∧ CellsAt w9 gl (asL n) ∧ CellsAt w9 w7.heap.size [.slice a1 n1 c1, .slice a2 n2 c2, .int .i64 r.act, .int .i64 r.data] ∧ CellsAt w9 (w7.heap.size + 1) [.int .i64 arch2, .int .i64 num2, .slice ca2 m2 cc2]) := ⟨H8.out.1.trans HE9.out, H8.out.2.1.trans HE9.out, H8.out.2.2.1.step HE9.out, H8.out.2.2.2.1.step HE9.out, H8.out.2.2.2.2.step HE9.out⟩
        clear HE9 H8
        go_upto_block 4 with fail
        go_cut [12] from 18 to 95 (fun bv wr => bv = .bool (ruleH r arch2 num2 ws2) ∧ Hid (Ext w9 wr))
        case first =>
          go_wp2_with fail
          go_loopw [12, 14] (fun bv iv wr => ∃ (k : Nat) (bt : Bool), iv = .int .i64 k ∧ bv = .bool bt ∧ k ≤ n2 ∧ Hid (bt = (numH r.nums num2 && (r.conds.take k).all fun c => condH c arch2 num2 ws2)) ∧ Hid (Ext w9 wr)) (fun _ iv _ => (n2 + 1 - (intOf iv).toNat))
          case atStart => exact ⟨0, _, rfl, rfl, by omega, by unfold Hid; simp, Ext.refl _⟩
          case round =>
            obtain ⟨k, bt, rfl, rfl, hk, HBT, HE⟩ := hrel
            have cc3 := H9.out.2.2.2.1.step HE.out
            have cc4 := H9.out.2.2.2.2.step HE.out
            obtain ⟨q0, q1, q2, q3⟩ := (⟨cc3.2 0 _ rfl, cc3.2 1 _ rfl, cc3.2 2 _ rfl, cc3.2 3 _ rfl⟩ : _ ∧ _ ∧ _ ∧ _)
            by_cases hlt : k < n2
            · have bk : (k : Int) < (n2 : Int) := by omega
              have hkl : k < r.conds.length := by rw [← HRR.out.2.2.1]; exact hlt
              obtain ⟨c, hc⟩ : ∃ c, c = r.conds.getD k c0 := ⟨_, rfl⟩
              obtain ⟨b1, o1, ha1, hb1, hcc⟩ := ((HR.out _ (H9.out.1.trans HE.out)).2.1).at hkl hc
              have HNX : Hid ((numH r.nums num2 && (r.conds.take (k + 1)).all fun c => condH c arch2 num2 ws2) = (bt && condH c arch2 num2 ws2)) := by unfold Hid; rw [all_get r.conds _ c0 k hkl, ← hc, ← Bool.and_assoc, HBT.out]
              clear hkl hc
              obtain ⟨xa, xb, xc, xd, xe, xf⟩ := c
              have hck : SegB wr b1 (o1 + k * 6) [.int .i64 xa, .int .i64 xb, .int .i64 xc, .int .i64 xd, .int .i64 xe, .int .i64 xf] := ⟨hb1, hcc⟩
              have HC8 : Hid (∀ W, Ext w7 W → RepCall arch2 num2 ws2 (.agg #[.int .i64 arch2, .int .i64 num2, .slice ca2 m2 cc2]) W) := fun W hE => ⟨ca2, cc2, by rw [HRR.out.2.2.2.1], (HR.out W hE).2.2⟩
              clear hcc hb1
              subst ha1
              go_wp2_with fail
              cases bt
              case false =>
                refine' wp_region_loose (.inl _ :: .inl _ :: .inl undef :: .inl undef :: .inl undef :: .inl undef :: .inl undef :: .inl undef :: .inl undef :: .inl _ :: .inl _ :: []) (fun w' => CellsAt w' w7.heap.size [.slice a1 n1 c1, .slice (some ⟨b1, o1, none⟩) n2 c2, .int .i64 r.act, .int .i64 r.data] ∧ CellsAt w' (w7.heap.size + 1) [.int .i64 arch2, .int .i64 num2, .slice ca2 m2 cc2]) (by kernel_rfl) (by kernel_rfl) (⟨cc3.drew, cc4.drew⟩) (fun _ _ h hE => ⟨h.1.step hE, h.2.step hE⟩) ?hAd ?hld ?hMd
                case' hMd => skip
                apply wpLoose_val rfl rfl
                case hs =>
                  intro w1 hC hd Q1 hQ1
                  obtain ⟨hE, hS⟩ := hC
                  dsimp only [bare]
                  clear hd hE
                  try clear hS
                  go_wp2
                  exact Ext.refl _
                case ha => rfl
                apply wpLoose_val rfl rfl
                case hs =>
                  intro w1 hC hd Q1 hQ1
                  obtain ⟨hE, hS⟩ := hC
                  dsimp only [bare]
                  clear hd hE
                  try clear hS
                  go_wp2
                  exact Ext.refl _
                case ha => rfl
                refine wpLoose_skip rfl rfl ?_
                try simp only [Act.put, List.setIfInBounds_toArray, List.set_cons_succ, List.set_cons_zero]
                refine wpLoose_skip rfl rfl ?_
                try simp only [Act.put, List.setIfInBounds_toArray, List.set_cons_succ, List.set_cons_zero]
                refine wpLoose_skip rfl rfl ?_
                try simp only [Act.put, List.setIfInBounds_toArray, List.set_cons_succ, List.set_cons_zero]
                refine wpLoose_skip rfl rfl ?_
                try simp only [Act.put, List.setIfInBounds_toArray, List.set_cons_succ, List.set_cons_zero]
                refine wpLoose_skip rfl rfl ?_
                try simp only [Act.put, List.setIfInBounds_toArray, List.set_cons_succ, List.set_cons_zero]
                refine wpLoose_skip rfl rfl ?_
                try simp only [Act.put, List.setIfInBounds_toArray, List.set_cons_succ, List.set_cons_zero]
                refine wpLoose_skip rfl rfl ?_
                try simp only [Act.put, List.setIfInBounds_toArray, List.set_cons_succ, List.set_cons_zero]
                apply wpLoose_val rfl rfl
                case hs =>
                  intro w1 hC hd Q1 hQ1
                  obtain ⟨hE, hS⟩ := hC
                  dsimp only [bare]
                  clear hd hE
                  try clear hS
                  go_wp2
                  exact Ext.refl _
                case ha => rfl
                apply wpLoose_val rfl rfl
                case hs =>
                  intro w1 hC hd Q1 hQ1
                  obtain ⟨hE, hS⟩ := hC
                  dsimp only [bare]
                  clear hd hE
                  try clear hS
                  go_wp2
                  exact Ext.refl _
                case ha => rfl
                refine wpLoose_nil ?_
                intro wd hEd hSd hFd
                · have HE2 : Hid (Ext w9 wd) := HE.out.drew.trans hEd
                  clear hFd hSd hEd q0 q1 q2 q3 cc3 cc4 hck
                  go_wp2
                  go_roundw
                  case rel => exact ⟨k + 1, false, by go_num, rfl, by omega, by unfold Hid; rw [HNX.out]; rfl, HE2⟩
                  case measure => simp [intOf]; omega
                case hAd => kernel_rfl
                case hld => exact ⟨trivial, trivial, trivial, trivial, trivial, trivial, trivial, trivial, trivial, trivial, trivial, trivial⟩
              case true =>
                refine' wp_region_loose (.inl _ :: .inl _ :: .inl _ :: .inl _ :: .inl _ :: .inl _ :: .inl _ :: .inl _ :: .inl _ :: .inl _ :: .inl _ :: []) (fun w' => CellsAt w' w7.heap.size [.slice a1 n1 c1, .slice (some ⟨b1, o1, none⟩) n2 c2, .int .i64 r.act, .int .i64 r.data] ∧ CellsAt w' (w7.heap.size + 1) [.int .i64 arch2, .int .i64 num2, .slice ca2 m2 cc2] ∧ SegB w' b1 (o1 + k * 6) [.int .i64 xa, .int .i64 xb, .int .i64 xc, .int .i64 xd, .int .i64 xe, .int .i64 xf]) (by kernel_rfl) (by kernel_rfl) (⟨cc3.drew, cc4.drew, hck⟩) (fun _ _ h hE => ⟨h.1.step hE, h.2.1.step hE, h.2.2.step hE⟩) ?hAf ?hlf ?hMf
                case' hMf => skip
                apply wpLoose_val rfl rfl
                case hs =>
                  intro w1 hC hd Q1 hQ1
                  obtain ⟨hE, hS⟩ := hC
                  dsimp only [bare]
                  obtain ⟨p0, p1, p2, p3, p4, p5⟩ := hS.2.2.2.six; obtain ⟨q0, q1, q2, q3⟩ := (⟨hS.1.2 1 _ rfl, hS.2.1.2 0 _ rfl, hS.2.1.2 1 _ rfl, hS.2.1.2 2 _ rfl⟩ : _ ∧ _ ∧ _ ∧ _)
                  clear hd hE
                  try clear hS
                  go_wp2
                  exact Ext.refl _
                case ha => rfl
                apply wpLoose_val rfl rfl
                case hs =>
                  intro w1 hC hd Q1 hQ1
                  obtain ⟨hE, hS⟩ := hC
                  dsimp only [bare]
                  obtain ⟨p0, p1, p2, p3, p4, p5⟩ := hS.2.2.2.six; obtain ⟨q0, q1, q2, q3⟩ := (⟨hS.1.2 1 _ rfl, hS.2.1.2 0 _ rfl, hS.2.1.2 1 _ rfl, hS.2.1.2 2 _ rfl⟩ : _ ∧ _ ∧ _ ∧ _)
                  clear hd hE
                  try clear hS
                  go_wp2
                  exact Ext.refl _
                case ha => rfl
                apply wpLoose_val rfl rfl
                case hs =>
                  intro w1 hC hd Q1 hQ1
                  obtain ⟨hE, hS⟩ := hC
                  dsimp only [bare]
                  obtain ⟨p0, p1, p2, p3, p4, p5⟩ := hS.2.2.2.six; obtain ⟨q0, q1, q2, q3⟩ := (⟨hS.1.2 1 _ rfl, hS.2.1.2 0 _ rfl, hS.2.1.2 1 _ rfl, hS.2.1.2 2 _ rfl⟩ : _ ∧ _ ∧ _ ∧ _)
                  clear hd hE
                  try clear hS
                  go_wp2
                  exact Ext.refl _
                case ha => rfl
                apply wpLoose_val rfl rfl
                case hs =>
                  intro w1 hC hd Q1 hQ1
                  obtain ⟨hE, hS⟩ := hC
                  dsimp only [bare]
                  obtain ⟨p0, p1, p2, p3, p4, p5⟩ := hS.2.2.2.six; obtain ⟨q0, q1, q2, q3⟩ := (⟨hS.1.2 1 _ rfl, hS.2.1.2 0 _ rfl, hS.2.1.2 1 _ rfl, hS.2.1.2 2 _ rfl⟩ : _ ∧ _ ∧ _ ∧ _)
                  clear hd hE
                  try clear hS
                  go_wp2
                  exact Ext.refl _
                case ha => rfl
                apply wpLoose_val rfl rfl
                case hs =>
                  intro w1 hC hd Q1 hQ1
                  obtain ⟨hE, hS⟩ := hC
                  dsimp only [bare]
                  obtain ⟨p0, p1, p2, p3, p4, p5⟩ := hS.2.2.2.six; obtain ⟨q0, q1, q2, q3⟩ := (⟨hS.1.2 1 _ rfl, hS.2.1.2 0 _ rfl, hS.2.1.2 1 _ rfl, hS.2.1.2 2 _ rfl⟩ : _ ∧ _ ∧ _ ∧ _)
                  clear hd hE
                  try clear hS
                  go_wp2
                  exact Ext.refl _
                case ha => rfl
                apply wpLoose_val rfl rfl
                case hs =>
                  intro w1 hC hd Q1 hQ1
                  obtain ⟨hE, hS⟩ := hC
                  dsimp only [bare]
                  obtain ⟨p0, p1, p2, p3, p4, p5⟩ := hS.2.2.2.six; obtain ⟨q0, q1, q2, q3⟩ := (⟨hS.1.2 1 _ rfl, hS.2.1.2 0 _ rfl, hS.2.1.2 1 _ rfl, hS.2.1.2 2 _ rfl⟩ : _ ∧ _ ∧ _ ∧ _)
                  clear hd hE
                  try clear hS
                  go_wp2
                  exact Ext.refl _
                case ha => rfl
                apply wpLoose_val rfl rfl
                case hs =>
                  intro w1 hC hd Q1 hQ1
                  obtain ⟨hE, hS⟩ := hC
                  dsimp only [bare]
                  obtain ⟨p0, p1, p2, p3, p4, p5⟩ := hS.2.2.2.six; obtain ⟨q0, q1, q2, q3⟩ := (⟨hS.1.2 1 _ rfl, hS.2.1.2 0 _ rfl, hS.2.1.2 1 _ rfl, hS.2.1.2 2 _ rfl⟩ : _ ∧ _ ∧ _ ∧ _)
                  clear hd hE
                  try clear hS
                  go_wp2
                  exact Ext.refl _
                case ha => rfl
                apply wpLoose_val rfl rfl
                case hs =>
                  intro w1 hC hd Q1 hQ1
                  obtain ⟨hE, hS⟩ := hC
                  dsimp only [bare]
                  obtain ⟨p0, p1, p2, p3, p4, p5⟩ := hS.2.2.2.six; obtain ⟨q0, q1, q2, q3⟩ := (⟨hS.1.2 1 _ rfl, hS.2.1.2 0 _ rfl, hS.2.1.2 1 _ rfl, hS.2.1.2 2 _ rfl⟩ : _ ∧ _ ∧ _ ∧ _)
                  clear hd hE
                  try clear hS
                  go_wp2
                  exact Ext.refl _
                case ha => rfl
                apply wpLoose_val rfl rfl
                case hs =>
                  intro w1 hC hd Q1 hQ1
                  obtain ⟨hE, hS⟩ := hC
                  dsimp only [bare]
                  clear hd
                  go_wp2_with fail
                  refine (iCondHolds_rep xa xb xc xd xe xf arch2 num2 ws2 _ _ HRR.out.2.2.2.2 (HC8.out _ (H9.out.1.trans (HE.out.drew.trans hE)))).mono ?_
                  rintro e w2 ⟨rfl, hb⟩
                  go_wp2_with fail
                  exact hb
                case ha => rfl
                apply wpLoose_val rfl rfl
                case hs =>
                  intro w1 hC hd Q1 hQ1
                  obtain ⟨hE, hS⟩ := hC
                  dsimp only [bare]
                  obtain ⟨p0, p1, p2, p3, p4, p5⟩ := hS.2.2.2.six; obtain ⟨q0, q1, q2, q3⟩ := (⟨hS.1.2 1 _ rfl, hS.2.1.2 0 _ rfl, hS.2.1.2 1 _ rfl, hS.2.1.2 2 _ rfl⟩ : _ ∧ _ ∧ _ ∧ _)
                  clear hd hE
                  try clear hS
                  go_wp2
                  exact Ext.refl _
                case ha => rfl
                apply wpLoose_val rfl rfl
                case hs =>
                  intro w1 hC hd Q1 hQ1
                  obtain ⟨hE, hS⟩ := hC
                  dsimp only [bare]
                  obtain ⟨p0, p1, p2, p3, p4, p5⟩ := hS.2.2.2.six; obtain ⟨q0, q1, q2, q3⟩ := (⟨hS.1.2 1 _ rfl, hS.2.1.2 0 _ rfl, hS.2.1.2 1 _ rfl, hS.2.1.2 2 _ rfl⟩ : _ ∧ _ ∧ _ ∧ _)
                  clear hd hE
                  try clear hS
                  go_wp2
                  exact Ext.refl _
                case ha => rfl
                refine wpLoose_nil ?_
                intro wf hEf hSf hFf
                · have HE2 : Hid (Ext w9 wf) := HE.out.drew.trans hEf
                  clear hFf hSf hEf q0 q1 q2 q3 cc3 cc4 hck
                  go_wp2
                  go_roundw
                  case rel => exact ⟨k + 1, _, by go_num, rfl, by omega, by unfold Hid; rw [HNX.out]; simp, HE2⟩
                  case measure => simp [intOf]; omega
                case hAf => kernel_rfl
                case hlf => exact ⟨trivial, trivial, trivial, trivial, trivial, trivial, trivial, trivial, trivial, trivial, trivial, trivial⟩
            · obtain rfl : k = n2 := by omega
              have bk : ¬ (k : Int) < (k : Int) := by omega
              clear hlt
              go_wp2
              go_meet
              case rel => exact ⟨by rw [HBT.out, List.take_of_length_le (by rw [HRR.out.2.2.1]; exact Nat.le_refl _)]; rfl, HE⟩
        case rest =>
          rename World => w10
          obtain ⟨rfl, HE10⟩ := hcut
          obtain ⟨rh, hrh⟩ : ∃ rh, rh = ruleH r arch2 num2 ws2 := ⟨_, rfl⟩
          have HRU : Hid (∀ W, Ext w7 W → Calls Try.prog 12 #[.agg #[.slice a1 n1 c1, .slice a2 n2 c2, .int .i64 r.act, .int .i64 r.data], .agg #[.int .i64 arch2, .int .i64 num2, .slice ca2 m2 cc2]] W fun e w' => e = .returned (.bool rh) ∧ Ext W w') := fun W hE => by
            rw [hrh]
            exact iRuleHolds_rep HRR.out.1 HRR.out.2.2.2.2 ⟨_, rfl, a1, n1, c1, a2, n2, c2, rfl, HRR.out.2.1, HRR.out.2.2.1, (HR.out W hE).1, (HR.out W hE).2.1⟩ ⟨ca2, cc2, by rw [HRR.out.2.2.2.1], (HR.out W hE).2.2⟩
          rw [← hrh]
          have HQT : Hid (CellsAt w9 gl (asL n) ∧ CellsAt w9 w7.heap.size [.slice a1 n1 c1, .slice a2 n2 c2, .int .i64 r.act, .int .i64 r.data] ∧ CellsAt w9 (w7.heap.size + 1) [.int .i64 arch2, .int .i64 num2, .slice ca2 m2 cc2]) := ⟨H9.out.2.2.1, H9.out.2.2.2.1, H9.out.2.2.2.2⟩
          have H10 : Hid (Ext w7 w10 ∧ Ext w w10 ∧ CellsAt w10 gl (asL n) ∧ CellsAt w10 w7.heap.size [.slice a1 n1 c1, .slice a2 n2 c2, .int .i64 r.act, .int .i64 r.data] ∧ CellsAt w10 (w7.heap.size + 1) [.int .i64 arch2, .int .i64 num2, .slice ca2 m2 cc2]) := ⟨H9.out.1.trans HE10.out, H9.out.2.1.trans HE10.out, HQT.out.1.step HE10.out, HQT.out.2.1.step HE10.out, HQT.out.2.2.step HE10.out⟩
          clear HR HRR HE10 H9 HQT hrh
          go_wp2_with fail
          refine (drawCondHolds_any a len cap _ (HC.out.below H10.out.2.1)).mono ?_
          rintro e w11 ⟨ua, ub, uc, ud, ue, uf, arch3, num3, ca3, m3, cc3, rfl, ⟨ws3, hl3, hww3, hw3⟩, e11⟩
          have HCI : Hid (∀ W, Ext w11 W → Calls Try.prog 22 #[.agg #[.int .i64 ua, .int .i64 ub, .int .i64 uc, .int .i64 ud, .int .i64 ue, .int .i64 uf], .agg #[.int .i64 arch3, .int .i64 num3, .slice ca3 m3 cc3]] W fun e w' => e = .returned (.bool (condH ⟨ua, ub, uc, ud, ue, uf⟩ arch3 num3 ws3)) ∧ Ext W w') := fun W hE => iCondHolds_rep ua ub uc ud ue uf arch3 num3 ws3 _ W (by omega) ⟨ca3, cc3, by rw [hww3], hw3.below hE (Nat.le_refl _)⟩
          have HCS : Hid (∀ W, Ext w11 W → Calls Try.prog 26 #[.agg #[.int .i64 ua, .int .i64 ub, .int .i64 uc, .int .i64 ud, .int .i64 ue, .int .i64 uf], .agg #[.int .i64 arch3, .int .i64 num3, .slice ca3 m3 cc3]] W fun e w' => e = .returned (.bool (condH ⟨ua, ub, uc, ud, ue, uf⟩ arch3 num3 ws3)) ∧ Ext W w') := fun W hE => sCondHolds_rep ua ub uc ud ue uf arch3 num3 ws3 _ W (by omega) ⟨ca3, cc3, by rw [hww3], hw3.below hE (Nat.le_refl _)⟩
          obtain ⟨ch, hch⟩ : ∃ ch, ch = condH ⟨ua, ub, uc, ud, ue, uf⟩ arch3 num3 ws3 := ⟨_, rfl⟩
          rw [← hch] at HCI HCS
          have H12 : Hid (Ext w7 ((w11.alloc (.cells #[.int .i64 ua, .int .i64 ub, .int .i64 uc, .int .i64 ud, .int .i64 ue, .int .i64 uf] 44)).alloc (.cells #[.int .i64 arch3, .int .i64 num3, .slice ca3 m3 cc3] 29)) ∧ Ext w11 ((w11.alloc (.cells #[.int .i64 ua, .int .i64 ub, .int .i64 uc, .int .i64 ud, .int .i64 ue, .int .i64 uf] 44)).alloc (.cells #[.int .i64 arch3, .int .i64 num3, .slice ca3 m3 cc3] 29)) ∧ Ext w ((w11.alloc (.cells #[.int .i64 ua, .int .i64 ub, .int .i64 uc, .int .i64 ud, .int .i64 ue, .int .i64 uf] 44)).alloc (.cells #[.int .i64 arch3, .int .i64 num3, .slice ca3 m3 cc3] 29)) ∧ CellsAt ((w11.alloc (.cells #[.int .i64 ua, .int .i64 ub, .int .i64 uc, .int .i64 ud, .int .i64 ue, .int .i64 uf] 44)).alloc (.cells #[.int .i64 arch3, .int .i64 num3, .slice ca3 m3 cc3] 29)) gl (asL n) ∧ CellsAt ((w11.alloc (.cells #[.int .i64 ua, .int .i64 ub, .int .i64 uc, .int .i64 ud, .int .i64 ue, .int .i64 uf] 44)).alloc (.cells #[.int .i64 arch3, .int .i64 num3, .slice ca3 m3 cc3] 29)) w7.heap.size [.slice a1 n1 c1, .slice a2 n2 c2, .int .i64 r.act, .int .i64 r.data] ∧ CellsAt ((w11.alloc (.cells #[.int .i64 ua, .int .i64 ub, .int .i64 uc, .int .i64 ud, .int .i64 ue, .int .i64 uf] 44)).alloc (.cells #[.int .i64 arch3, .int .i64 num3, .slice ca3 m3 cc3] 29)) (w7.heap.size + 1) [.int .i64 arch2, .int .i64 num2, .slice ca2 m2 cc2] ∧ CellsAt ((w11.alloc (.cells #[.int .i64 ua, .int .i64 ub, .int .i64 uc, .int .i64 ud, .int .i64 ue, .int .i64 uf] 44)).alloc (.cells #[.int .i64 arch3, .int .i64 num3, .slice ca3 m3 cc3] 29)) w11.heap.size [.int .i64 ua, .int .i64 ub, .int .i64 uc, .int .i64 ud, .int .i64 ue, .int .i64 uf] ∧ CellsAt ((w11.alloc (.cells #[.int .i64 ua, .int .i64 ub, .int .i64 uc, .int .i64 ud, .int .i64 ue, .int .i64 uf] 44)).alloc (.cells #[.int .i64 arch3, .int .i64 num3, .slice ca3 m3 cc3] 29)) (w11.heap.size + 1) [.int .i64 arch3, .int .i64 num3, .slice ca3 m3 cc3]) := by
            obtain ⟨h1, h2, h3, h4, h5⟩ := H10.out
            have x : Ext w11 ((w11.alloc (.cells #[.int .i64 ua, .int .i64 ub, .int .i64 uc, .int .i64 ud, .int .i64 ue, .int .i64 uf] 44)).alloc (.cells #[.int .i64 arch3, .int .i64 num3, .slice ca3 m3 cc3] 29)) := (Ext.one w11 _).alloc _
            exact ⟨(h1.trans e11).trans x, x, (h2.trans e11).trans x, (h3.step e11).step x, (h4.step e11).step x, (h5.step e11).step x, (CellsAt.new w11 _ _).step (Ext.one _ _), CellsAt.new' _ _ _ _ (by simp)⟩
          clear hch hww3 hl3 hw3 e11 H10
          go_wp2_with fail
          generalize (w11.alloc (.cells #[.int .i64 ua, .int .i64 ub, .int .i64 uc, .int .i64 ud, .int .i64 ue, .int .i64 uf] 44)).alloc (.cells #[.int .i64 arch3, .int .i64 num3, .slice ca3 m3 cc3] 29) = W12 at *
          refine (drawCondOk_any a len cap _ (HC.out.below H12.out.2.2.1)).mono ?_
          rintro e w13 ⟨xa, xb, xc, xd, xe, xf, rfl, e13⟩
          have H14 : Hid (Ext w7 (w13.alloc (.cells #[.int .i64 xa, .int .i64 xb, .int .i64 xc, .int .i64 xd, .int .i64 xe, .int .i64 xf] 44)) ∧ Ext w11 (w13.alloc (.cells #[.int .i64 xa, .int .i64 xb, .int .i64 xc, .int .i64 xd, .int .i64 xe, .int .i64 xf] 44)) ∧ Ext w (w13.alloc (.cells #[.int .i64 xa, .int .i64 xb, .int .i64 xc, .int .i64 xd, .int .i64 xe, .int .i64 xf] 44)) ∧ CellsAt (w13.alloc (.cells #[.int .i64 xa, .int .i64 xb, .int .i64 xc, .int .i64 xd, .int .i64 xe, .int .i64 xf] 44)) gl (asL n) ∧ CellsAt (w13.alloc (.cells #[.int .i64 xa, .int .i64 xb, .int .i64 xc, .int .i64 xd, .int .i64 xe, .int .i64 xf] 44)) w7.heap.size [.slice a1 n1 c1, .slice a2 n2 c2, .int .i64 r.act, .int .i64 r.data] ∧ CellsAt (w13.alloc (.cells #[.int .i64 xa, .int .i64 xb, .int .i64 xc, .int .i64 xd, .int .i64 xe, .int .i64 xf] 44)) (w7.heap.size + 1) [.int .i64 arch2, .int .i64 num2, .slice ca2 m2 cc2] ∧ CellsAt (w13.alloc (.cells #[.int .i64 xa, .int .i64 xb, .int .i64 xc, .int .i64 xd, .int .i64 xe, .int .i64 xf] 44)) w11.heap.size [.int .i64 ua, .int .i64 ub, .int .i64 uc, .int .i64 ud, .int .i64 ue, .int .i64 uf] ∧ CellsAt (w13.alloc (.cells #[.int .i64 xa, .int .i64 xb, .int .i64 xc, .int .i64 xd, .int .i64 xe, .int .i64 xf] 44)) (w11.heap.size + 1) [.int .i64 arch3, .int .i64 num3, .slice ca3 m3 cc3] ∧ CellsAt (w13.alloc (.cells #[.int .i64 xa, .int .i64 xb, .int .i64 xc, .int .i64 xd, .int .i64 xe, .int .i64 xf] 44)) w13.heap.size [.int .i64 xa, .int .i64 xb, .int .i64 xc, .int .i64 xd, .int .i64 xe, .int .i64 xf]) := by
            obtain ⟨h1, h2, h3, h4, h5, h6, h7, h8⟩ := H12.out
            have x : Ext W12 (w13.alloc (.cells #[.int .i64 xa, .int .i64 xb, .int .i64 xc, .int .i64 xd, .int .i64 xe, .int .i64 xf] 44)) := e13.alloc _
            exact ⟨h1.trans x, h2.trans x, h3.trans x, h4.step x, h5.step x, h6.step x, h7.step x, h8.step x, CellsAt.new w13 _ _⟩
          clear e13 H12
          go_upto_region 25 with fail
          generalize w13.alloc (.cells #[.int .i64 xa, .int .i64 xb, .int .i64 xc, .int .i64 xd, .int .i64 xe, .int .i64 xf] 44) = W14 at *
          obtain ⟨B7, hB7⟩ : ∃ B7, B7 = w7.heap.size := ⟨_, rfl⟩
          obtain ⟨B11, hB11⟩ : ∃ B11, B11 = w11.heap.size := ⟨_, rfl⟩
          obtain ⟨B13, hB13⟩ : ∃ B13, B13 = w13.heap.size := ⟨_, rfl⟩
          rw [← hB7, ← hB11, ← hB13] at H14
          rw [← hB7, ← hB11, ← hB13]
          clear hB7 hB11 hB13
          obtain ⟨y1, h1⟩ : ∃ y, y = (n == 0) := ⟨_, rfl⟩
          obtain ⟨y2, h2⟩ : ∃ y, y = (n != 0) := ⟨_, rfl⟩
          obtain ⟨y3, h3⟩ : ∃ y, y = decide (n < 0) := ⟨_, rfl⟩
          obtain ⟨y4, h4⟩ : ∃ y, y = decide (n ≤ 0) := ⟨_, rfl⟩
          obtain ⟨y5, h5⟩ : ∃ y, y = decide (0 < n) := ⟨_, rfl⟩
          obtain ⟨y6, h6⟩ : ∃ y, y = decide (0 ≤ n) := ⟨_, rfl⟩
          have ho : asL n = [.bool y1, .bool y2, .bool y3, .bool y4, .bool y5, .bool y6] := by rw [h1, h2, h3, h4, h5, h6]; rfl
          rw [ho] at H14
          have G1 : Hid ((n == 0) = y1) := h1.symm
          have G2 : Hid ((n != 0) = y2) := h2.symm
          have G3 : Hid (decide (n < 0) = y3) := h3.symm
          have G4 : Hid (decide (n ≤ 0) = y4) := h4.symm
          have G5 : Hid (decide (0 < n) = y5) := h5.symm
          have G6 : Hid (decide (0 ≤ n) = y6) := h6.symm
          clear h1 h2 h3 h4 h5 h6 ho
          obtain ⟨ck, hck⟩ : ∃ ck, ck = condB ⟨xa, xb, xc, xd, xe, xf⟩ := ⟨_, rfl⟩
          have HKI : Hid (∀ W, Calls Try.prog 27 #[.agg #[.int .i64 xa, .int .i64 xb, .int .i64 xc, .int .i64 xd, .int .i64 xe, .int .i64 xf]] W fun e w' => e = .returned (.bool ck) ∧ Ext W w') := fun W => by rw [hck]; exact iCondOk_any xa xb xc xd xe xf W
          have HKS : Hid (∀ W, Calls Try.prog 28 #[.agg #[.int .i64 xa, .int .i64 xb, .int .i64 xc, .int .i64 xd, .int .i64 xe, .int .i64 xf]] W fun e w' => e = .returned (.bool ck) ∧ Ext W w') := fun W => by rw [hck]; exact sCondOk_any xa xb xc xd xe xf W
          clear hck
          have g1 := G1.out
          have g2 := G2.out
          have g3 := G3.out
          have g4 := G4.out
          have g5 := G5.out
          have g6 := G6.out
          have k1 : (y1 == y1) = true := by cases y1 <;> rfl
          have k2 : (y2 == y2) = true := by cases y2 <;> rfl
          have k3 : (y3 == y3) = true := by cases y3 <;> rfl
          have k4 : (y4 == y4) = true := by cases y4 <;> rfl
          have k5 : (y5 == y5) = true := by cases y5 <;> rfl
          have k6 : (y6 == y6) = true := by cases y6 <;> rfl
          have k7 : (rh == rh) = true := by cases rh <;> rfl
          have k8 : (ch == ch) = true := by cases ch <;> rfl
          have k9 : (ck == ck) = true := by cases ck <;> rfl
          clear G1 G2 G3 G4 G5 G6
          iterate 1 (first | go_values | go_skip | go_guarded | go_step | go_upon | go_back | go_simp)
          refine' wp_region_loose (.inl _ :: .inl _ :: .inl _ :: .inl _ :: .inl _ :: .inl _ :: .inl _ :: .inl _ :: .inl _ :: .inl _ :: .inl _ :: .inl _ :: .inl _ :: .inl _ :: .inl _ :: .inl _ :: .inl _ :: .inl _ :: .inl _ :: .inl _ :: .inl _ :: .inl _ :: .inl _ :: .inl _ :: .inl _ :: .inl _ :: .inl _ :: .inl _ :: .inl _ :: .inl _ :: .inl _ :: .inl _ :: .inl _ :: .inl _ :: .inl _ :: .inl _ :: .inl _ :: .inl _ :: .inl _ :: .inl _ :: .inl _ :: .inl _ :: .inl _ :: .inl _ :: .inl _ :: .inl _ :: .inl _ :: .inl _ :: .inl _ :: .inl _ :: .inl _ :: .inl _ :: .inl _ :: .inl _ :: .inl _ :: .inl _ :: .inl _ :: .inl _ :: .inl _ :: .inl _ :: .inl _ :: .inl _ :: .inl _ :: .inl _ :: .inl _ :: .inl _ :: .inl _ :: .inl _ :: .inl _ :: .inl _ :: []) (fun w' => CellsAt w' gl [.bool y1, .bool y2, .bool y3, .bool y4, .bool y5, .bool y6] ∧ CellsAt w' B7 [.slice a1 n1 c1, .slice a2 n2 c2, .int .i64 r.act, .int .i64 r.data] ∧ CellsAt w' (B7 + 1) [.int .i64 arch2, .int .i64 num2, .slice ca2 m2 cc2] ∧ CellsAt w' B11 [.int .i64 ua, .int .i64 ub, .int .i64 uc, .int .i64 ud, .int .i64 ue, .int .i64 uf] ∧ CellsAt w' (B11 + 1) [.int .i64 arch3, .int .i64 num3, .slice ca3 m3 cc3] ∧ CellsAt w' B13 [.int .i64 xa, .int .i64 xb, .int .i64 xc, .int .i64 xd, .int .i64 xe, .int .i64 xf]) (by kernel_rfl) (by kernel_rfl) (⟨H14.out.2.2.2.1.drew, H14.out.2.2.2.2.1.drew, H14.out.2.2.2.2.2.1.drew, H14.out.2.2.2.2.2.2.1.drew, H14.out.2.2.2.2.2.2.2.1.drew, H14.out.2.2.2.2.2.2.2.2.drew⟩) (fun _ _ h hE => ⟨h.1.step hE, h.2.1.step hE, h.2.2.1.step hE, h.2.2.2.1.step hE, h.2.2.2.2.1.step hE, h.2.2.2.2.2.step hE⟩) ?hAg ?hlg ?hMg
          case' hMg => skip
          apply wpLoose_val rfl rfl
          case hs =>
            intro w1 hC hd Q1 hQ1
            obtain ⟨hE, hS⟩ := hC
            dsimp only [bare]
            obtain ⟨p0, p1, p2, p3, p4, p5⟩ := (⟨hS.1.2 0 _ rfl, hS.1.2 1 _ rfl, hS.1.2 2 _ rfl, hS.1.2 3 _ rfl, hS.1.2 4 _ rfl, hS.1.2 5 _ rfl⟩ : _ ∧ _ ∧ _ ∧ _ ∧ _ ∧ _); obtain ⟨q0, q1, q2, q3, q4, q5, q6⟩ := (⟨hS.2.1.2 0 _ rfl, hS.2.1.2 1 _ rfl, hS.2.1.2 2 _ rfl, hS.2.1.2 3 _ rfl, hS.2.2.1.2 0 _ rfl, hS.2.2.1.2 1 _ rfl, hS.2.2.1.2 2 _ rfl⟩ : _ ∧ _ ∧ _ ∧ _ ∧ _ ∧ _ ∧ _); obtain ⟨s0, s1, s2, s3, s4, s5⟩ := (⟨hS.2.2.2.1.2 0 _ rfl, hS.2.2.2.1.2 1 _ rfl, hS.2.2.2.1.2 2 _ rfl, hS.2.2.2.1.2 3 _ rfl, hS.2.2.2.1.2 4 _ rfl, hS.2.2.2.1.2 5 _ rfl⟩ : _ ∧ _ ∧ _ ∧ _ ∧ _ ∧ _); obtain ⟨t0, t1, t2⟩ := (⟨hS.2.2.2.2.1.2 0 _ rfl, hS.2.2.2.2.1.2 1 _ rfl, hS.2.2.2.2.1.2 2 _ rfl⟩ : _ ∧ _ ∧ _); obtain ⟨u0, u1, u2, u3, u4, u5⟩ := (⟨hS.2.2.2.2.2.2 0 _ rfl, hS.2.2.2.2.2.2 1 _ rfl, hS.2.2.2.2.2.2 2 _ rfl, hS.2.2.2.2.2.2 3 _ rfl, hS.2.2.2.2.2.2 4 _ rfl, hS.2.2.2.2.2.2 5 _ rfl⟩ : _ ∧ _ ∧ _ ∧ _ ∧ _ ∧ _)
            clear hd hE
            try clear hS
            go_wp2
            exact Ext.refl _
          case ha => rfl
          apply wpLoose_val rfl rfl
          case hs =>
            intro w1 hC hd Q1 hQ1
            obtain ⟨hE, hS⟩ := hC
            dsimp only [bare]
            obtain ⟨p0, p1, p2, p3, p4, p5⟩ := (⟨hS.1.2 0 _ rfl, hS.1.2 1 _ rfl, hS.1.2 2 _ rfl, hS.1.2 3 _ rfl, hS.1.2 4 _ rfl, hS.1.2 5 _ rfl⟩ : _ ∧ _ ∧ _ ∧ _ ∧ _ ∧ _); obtain ⟨q0, q1, q2, q3, q4, q5, q6⟩ := (⟨hS.2.1.2 0 _ rfl, hS.2.1.2 1 _ rfl, hS.2.1.2 2 _ rfl, hS.2.1.2 3 _ rfl, hS.2.2.1.2 0 _ rfl, hS.2.2.1.2 1 _ rfl, hS.2.2.1.2 2 _ rfl⟩ : _ ∧ _ ∧ _ ∧ _ ∧ _ ∧ _ ∧ _); obtain ⟨s0, s1, s2, s3, s4, s5⟩ := (⟨hS.2.2.2.1.2 0 _ rfl, hS.2.2.2.1.2 1 _ rfl, hS.2.2.2.1.2 2 _ rfl, hS.2.2.2.1.2 3 _ rfl, hS.2.2.2.1.2 4 _ rfl, hS.2.2.2.1.2 5 _ rfl⟩ : _ ∧ _ ∧ _ ∧ _ ∧ _ ∧ _); obtain ⟨t0, t1, t2⟩ := (⟨hS.2.2.2.2.1.2 0 _ rfl, hS.2.2.2.2.1.2 1 _ rfl, hS.2.2.2.2.1.2 2 _ rfl⟩ : _ ∧ _ ∧ _); obtain ⟨u0, u1, u2, u3, u4, u5⟩ := (⟨hS.2.2.2.2.2.2 0 _ rfl, hS.2.2.2.2.2.2 1 _ rfl, hS.2.2.2.2.2.2 2 _ rfl, hS.2.2.2.2.2.2 3 _ rfl, hS.2.2.2.2.2.2 4 _ rfl, hS.2.2.2.2.2.2 5 _ rfl⟩ : _ ∧ _ ∧ _ ∧ _ ∧ _ ∧ _)
            clear hd hE
            try clear hS
            go_wp2
            exact Ext.refl _
          case ha => rfl
          apply wpLoose_val rfl rfl
          case hs =>
            intro w1 hC hd Q1 hQ1
            obtain ⟨hE, hS⟩ := hC
            dsimp only [bare]
            obtain ⟨p0, p1, p2, p3, p4, p5⟩ := (⟨hS.1.2 0 _ rfl, hS.1.2 1 _ rfl, hS.1.2 2 _ rfl, hS.1.2 3 _ rfl, hS.1.2 4 _ rfl, hS.1.2 5 _ rfl⟩ : _ ∧ _ ∧ _ ∧ _ ∧ _ ∧ _); obtain ⟨q0, q1, q2, q3, q4, q5, q6⟩ := (⟨hS.2.1.2 0 _ rfl, hS.2.1.2 1 _ rfl, hS.2.1.2 2 _ rfl, hS.2.1.2 3 _ rfl, hS.2.2.1.2 0 _ rfl, hS.2.2.1.2 1 _ rfl, hS.2.2.1.2 2 _ rfl⟩ : _ ∧ _ ∧ _ ∧ _ ∧ _ ∧ _ ∧ _); obtain ⟨s0, s1, s2, s3, s4, s5⟩ := (⟨hS.2.2.2.1.2 0 _ rfl, hS.2.2.2.1.2 1 _ rfl, hS.2.2.2.1.2 2 _ rfl, hS.2.2.2.1.2 3 _ rfl, hS.2.2.2.1.2 4 _ rfl, hS.2.2.2.1.2 5 _ rfl⟩ : _ ∧ _ ∧ _ ∧ _ ∧ _ ∧ _); obtain ⟨t0, t1, t2⟩ := (⟨hS.2.2.2.2.1.2 0 _ rfl, hS.2.2.2.2.1.2 1 _ rfl, hS.2.2.2.2.1.2 2 _ rfl⟩ : _ ∧ _ ∧ _); obtain ⟨u0, u1, u2, u3, u4, u5⟩ := (⟨hS.2.2.2.2.2.2 0 _ rfl, hS.2.2.2.2.2.2 1 _ rfl, hS.2.2.2.2.2.2 2 _ rfl, hS.2.2.2.2.2.2 3 _ rfl, hS.2.2.2.2.2.2 4 _ rfl, hS.2.2.2.2.2.2 5 _ rfl⟩ : _ ∧ _ ∧ _ ∧ _ ∧ _ ∧ _)
            clear hd hE
            try clear hS
            go_wp2
            exact Ext.refl _
          case ha => rfl
          apply wpLoose_val rfl rfl
          case hs =>
            intro w1 hC hd Q1 hQ1
            obtain ⟨hE, hS⟩ := hC
            dsimp only [bare]
            obtain ⟨p0, p1, p2, p3, p4, p5⟩ := (⟨hS.1.2 0 _ rfl, hS.1.2 1 _ rfl, hS.1.2 2 _ rfl, hS.1.2 3 _ rfl, hS.1.2 4 _ rfl, hS.1.2 5 _ rfl⟩ : _ ∧ _ ∧ _ ∧ _ ∧ _ ∧ _); obtain ⟨q0, q1, q2, q3, q4, q5, q6⟩ := (⟨hS.2.1.2 0 _ rfl, hS.2.1.2 1 _ rfl, hS.2.1.2 2 _ rfl, hS.2.1.2 3 _ rfl, hS.2.2.1.2 0 _ rfl, hS.2.2.1.2 1 _ rfl, hS.2.2.1.2 2 _ rfl⟩ : _ ∧ _ ∧ _ ∧ _ ∧ _ ∧ _ ∧ _); obtain ⟨s0, s1, s2, s3, s4, s5⟩ := (⟨hS.2.2.2.1.2 0 _ rfl, hS.2.2.2.1.2 1 _ rfl, hS.2.2.2.1.2 2 _ rfl, hS.2.2.2.1.2 3 _ rfl, hS.2.2.2.1.2 4 _ rfl, hS.2.2.2.1.2 5 _ rfl⟩ : _ ∧ _ ∧ _ ∧ _ ∧ _ ∧ _); obtain ⟨t0, t1, t2⟩ := (⟨hS.2.2.2.2.1.2 0 _ rfl, hS.2.2.2.2.1.2 1 _ rfl, hS.2.2.2.2.1.2 2 _ rfl⟩ : _ ∧ _ ∧ _); obtain ⟨u0, u1, u2, u3, u4, u5⟩ := (⟨hS.2.2.2.2.2.2 0 _ rfl, hS.2.2.2.2.2.2 1 _ rfl, hS.2.2.2.2.2.2 2 _ rfl, hS.2.2.2.2.2.2 3 _ rfl, hS.2.2.2.2.2.2 4 _ rfl, hS.2.2.2.2.2.2 5 _ rfl⟩ : _ ∧ _ ∧ _ ∧ _ ∧ _ ∧ _)
            clear hd hE
            try clear hS
            go_wp2
            exact Ext.refl _
          case ha => rfl
          apply wpLoose_val rfl rfl
          case hs =>
            intro w1 hC hd Q1 hQ1
            obtain ⟨hE, hS⟩ := hC
            dsimp only [bare]
            obtain ⟨p0, p1, p2, p3, p4, p5⟩ := (⟨hS.1.2 0 _ rfl, hS.1.2 1 _ rfl, hS.1.2 2 _ rfl, hS.1.2 3 _ rfl, hS.1.2 4 _ rfl, hS.1.2 5 _ rfl⟩ : _ ∧ _ ∧ _ ∧ _ ∧ _ ∧ _); obtain ⟨q0, q1, q2, q3, q4, q5, q6⟩ := (⟨hS.2.1.2 0 _ rfl, hS.2.1.2 1 _ rfl, hS.2.1.2 2 _ rfl, hS.2.1.2 3 _ rfl, hS.2.2.1.2 0 _ rfl, hS.2.2.1.2 1 _ rfl, hS.2.2.1.2 2 _ rfl⟩ : _ ∧ _ ∧ _ ∧ _ ∧ _ ∧ _ ∧ _); obtain ⟨s0, s1, s2, s3, s4, s5⟩ := (⟨hS.2.2.2.1.2 0 _ rfl, hS.2.2.2.1.2 1 _ rfl, hS.2.2.2.1.2 2 _ rfl, hS.2.2.2.1.2 3 _ rfl, hS.2.2.2.1.2 4 _ rfl, hS.2.2.2.1.2 5 _ rfl⟩ : _ ∧ _ ∧ _ ∧ _ ∧ _ ∧ _); obtain ⟨t0, t1, t2⟩ := (⟨hS.2.2.2.2.1.2 0 _ rfl, hS.2.2.2.2.1.2 1 _ rfl, hS.2.2.2.2.1.2 2 _ rfl⟩ : _ ∧ _ ∧ _); obtain ⟨u0, u1, u2, u3, u4, u5⟩ := (⟨hS.2.2.2.2.2.2 0 _ rfl, hS.2.2.2.2.2.2 1 _ rfl, hS.2.2.2.2.2.2 2 _ rfl, hS.2.2.2.2.2.2 3 _ rfl, hS.2.2.2.2.2.2 4 _ rfl, hS.2.2.2.2.2.2 5 _ rfl⟩ : _ ∧ _ ∧ _ ∧ _ ∧ _ ∧ _)
            clear hd hE
            try clear hS
            go_wp2
            exact Ext.refl _
          case ha => rfl
          apply wpLoose_val rfl rfl
          case hs =>
            intro w1 hC hd Q1 hQ1
            obtain ⟨hE, hS⟩ := hC
            dsimp only [bare]
            obtain ⟨p0, p1, p2, p3, p4, p5⟩ := (⟨hS.1.2 0 _ rfl, hS.1.2 1 _ rfl, hS.1.2 2 _ rfl, hS.1.2 3 _ rfl, hS.1.2 4 _ rfl, hS.1.2 5 _ rfl⟩ : _ ∧ _ ∧ _ ∧ _ ∧ _ ∧ _); obtain ⟨q0, q1, q2, q3, q4, q5, q6⟩ := (⟨hS.2.1.2 0 _ rfl, hS.2.1.2 1 _ rfl, hS.2.1.2 2 _ rfl, hS.2.1.2 3 _ rfl, hS.2.2.1.2 0 _ rfl, hS.2.2.1.2 1 _ rfl, hS.2.2.1.2 2 _ rfl⟩ : _ ∧ _ ∧ _ ∧ _ ∧ _ ∧ _ ∧ _); obtain ⟨s0, s1, s2, s3, s4, s5⟩ := (⟨hS.2.2.2.1.2 0 _ rfl, hS.2.2.2.1.2 1 _ rfl, hS.2.2.2.1.2 2 _ rfl, hS.2.2.2.1.2 3 _ rfl, hS.2.2.2.1.2 4 _ rfl, hS.2.2.2.1.2 5 _ rfl⟩ : _ ∧ _ ∧ _ ∧ _ ∧ _ ∧ _); obtain ⟨t0, t1, t2⟩ := (⟨hS.2.2.2.2.1.2 0 _ rfl, hS.2.2.2.2.1.2 1 _ rfl, hS.2.2.2.2.1.2 2 _ rfl⟩ : _ ∧ _ ∧ _); obtain ⟨u0, u1, u2, u3, u4, u5⟩ := (⟨hS.2.2.2.2.2.2 0 _ rfl, hS.2.2.2.2.2.2 1 _ rfl, hS.2.2.2.2.2.2 2 _ rfl, hS.2.2.2.2.2.2 3 _ rfl, hS.2.2.2.2.2.2 4 _ rfl, hS.2.2.2.2.2.2 5 _ rfl⟩ : _ ∧ _ ∧ _ ∧ _ ∧ _ ∧ _)
            clear hd hE
            try clear hS
            go_wp2
            exact Ext.refl _
          case ha => rfl
          apply wpLoose_val rfl rfl
          case hs =>
            intro w1 hC hd Q1 hQ1
            obtain ⟨hE, hS⟩ := hC
            dsimp only [bare]
            obtain ⟨p0, p1, p2, p3, p4, p5⟩ := (⟨hS.1.2 0 _ rfl, hS.1.2 1 _ rfl, hS.1.2 2 _ rfl, hS.1.2 3 _ rfl, hS.1.2 4 _ rfl, hS.1.2 5 _ rfl⟩ : _ ∧ _ ∧ _ ∧ _ ∧ _ ∧ _); obtain ⟨q0, q1, q2, q3, q4, q5, q6⟩ := (⟨hS.2.1.2 0 _ rfl, hS.2.1.2 1 _ rfl, hS.2.1.2 2 _ rfl, hS.2.1.2 3 _ rfl, hS.2.2.1.2 0 _ rfl, hS.2.2.1.2 1 _ rfl, hS.2.2.1.2 2 _ rfl⟩ : _ ∧ _ ∧ _ ∧ _ ∧ _ ∧ _ ∧ _); obtain ⟨s0, s1, s2, s3, s4, s5⟩ := (⟨hS.2.2.2.1.2 0 _ rfl, hS.2.2.2.1.2 1 _ rfl, hS.2.2.2.1.2 2 _ rfl, hS.2.2.2.1.2 3 _ rfl, hS.2.2.2.1.2 4 _ rfl, hS.2.2.2.1.2 5 _ rfl⟩ : _ ∧ _ ∧ _ ∧ _ ∧ _ ∧ _); obtain ⟨t0, t1, t2⟩ := (⟨hS.2.2.2.2.1.2 0 _ rfl, hS.2.2.2.2.1.2 1 _ rfl, hS.2.2.2.2.1.2 2 _ rfl⟩ : _ ∧ _ ∧ _); obtain ⟨u0, u1, u2, u3, u4, u5⟩ := (⟨hS.2.2.2.2.2.2 0 _ rfl, hS.2.2.2.2.2.2 1 _ rfl, hS.2.2.2.2.2.2 2 _ rfl, hS.2.2.2.2.2.2 3 _ rfl, hS.2.2.2.2.2.2 4 _ rfl, hS.2.2.2.2.2.2 5 _ rfl⟩ : _ ∧ _ ∧ _ ∧ _ ∧ _ ∧ _)
            clear hd hE
            try clear hS
            go_wp2
            exact Ext.refl _
          case ha => rfl
          apply wpLoose_val rfl rfl
          case hs =>
            intro w1 hC hd Q1 hQ1
            obtain ⟨hE, hS⟩ := hC
            dsimp only [bare]
            obtain ⟨p0, p1, p2, p3, p4, p5⟩ := (⟨hS.1.2 0 _ rfl, hS.1.2 1 _ rfl, hS.1.2 2 _ rfl, hS.1.2 3 _ rfl, hS.1.2 4 _ rfl, hS.1.2 5 _ rfl⟩ : _ ∧ _ ∧ _ ∧ _ ∧ _ ∧ _); obtain ⟨q0, q1, q2, q3, q4, q5, q6⟩ := (⟨hS.2.1.2 0 _ rfl, hS.2.1.2 1 _ rfl, hS.2.1.2 2 _ rfl, hS.2.1.2 3 _ rfl, hS.2.2.1.2 0 _ rfl, hS.2.2.1.2 1 _ rfl, hS.2.2.1.2 2 _ rfl⟩ : _ ∧ _ ∧ _ ∧ _ ∧ _ ∧ _ ∧ _); obtain ⟨s0, s1, s2, s3, s4, s5⟩ := (⟨hS.2.2.2.1.2 0 _ rfl, hS.2.2.2.1.2 1 _ rfl, hS.2.2.2.1.2 2 _ rfl, hS.2.2.2.1.2 3 _ rfl, hS.2.2.2.1.2 4 _ rfl, hS.2.2.2.1.2 5 _ rfl⟩ : _ ∧ _ ∧ _ ∧ _ ∧ _ ∧ _); obtain ⟨t0, t1, t2⟩ := (⟨hS.2.2.2.2.1.2 0 _ rfl, hS.2.2.2.2.1.2 1 _ rfl, hS.2.2.2.2.1.2 2 _ rfl⟩ : _ ∧ _ ∧ _); obtain ⟨u0, u1, u2, u3, u4, u5⟩ := (⟨hS.2.2.2.2.2.2 0 _ rfl, hS.2.2.2.2.2.2 1 _ rfl, hS.2.2.2.2.2.2 2 _ rfl, hS.2.2.2.2.2.2 3 _ rfl, hS.2.2.2.2.2.2 4 _ rfl, hS.2.2.2.2.2.2 5 _ rfl⟩ : _ ∧ _ ∧ _ ∧ _ ∧ _ ∧ _)
            clear hd hE
            try clear hS
            go_wp2
            exact Ext.refl _
          case ha => rfl
          apply wpLoose_val rfl rfl
          case hs =>
            intro w1 hC hd Q1 hQ1
            obtain ⟨hE, hS⟩ := hC
            dsimp only [bare]
            obtain ⟨p0, p1, p2, p3, p4, p5⟩ := (⟨hS.1.2 0 _ rfl, hS.1.2 1 _ rfl, hS.1.2 2 _ rfl, hS.1.2 3 _ rfl, hS.1.2 4 _ rfl, hS.1.2 5 _ rfl⟩ : _ ∧ _ ∧ _ ∧ _ ∧ _ ∧ _); obtain ⟨q0, q1, q2, q3, q4, q5, q6⟩ := (⟨hS.2.1.2 0 _ rfl, hS.2.1.2 1 _ rfl, hS.2.1.2 2 _ rfl, hS.2.1.2 3 _ rfl, hS.2.2.1.2 0 _ rfl, hS.2.2.1.2 1 _ rfl, hS.2.2.1.2 2 _ rfl⟩ : _ ∧ _ ∧ _ ∧ _ ∧ _ ∧ _ ∧ _); obtain ⟨s0, s1, s2, s3, s4, s5⟩ := (⟨hS.2.2.2.1.2 0 _ rfl, hS.2.2.2.1.2 1 _ rfl, hS.2.2.2.1.2 2 _ rfl, hS.2.2.2.1.2 3 _ rfl, hS.2.2.2.1.2 4 _ rfl, hS.2.2.2.1.2 5 _ rfl⟩ : _ ∧ _ ∧ _ ∧ _ ∧ _ ∧ _); obtain ⟨t0, t1, t2⟩ := (⟨hS.2.2.2.2.1.2 0 _ rfl, hS.2.2.2.2.1.2 1 _ rfl, hS.2.2.2.2.1.2 2 _ rfl⟩ : _ ∧ _ ∧ _); obtain ⟨u0, u1, u2, u3, u4, u5⟩ := (⟨hS.2.2.2.2.2.2 0 _ rfl, hS.2.2.2.2.2.2 1 _ rfl, hS.2.2.2.2.2.2 2 _ rfl, hS.2.2.2.2.2.2 3 _ rfl, hS.2.2.2.2.2.2 4 _ rfl, hS.2.2.2.2.2.2 5 _ rfl⟩ : _ ∧ _ ∧ _ ∧ _ ∧ _ ∧ _)
            clear hd hE
            try clear hS
            go_wp2
            exact Ext.refl _
          case ha => rfl
          apply wpLoose_val rfl rfl
          case hs =>
            intro w1 hC hd Q1 hQ1
            obtain ⟨hE, hS⟩ := hC
            dsimp only [bare]
            obtain ⟨p0, p1, p2, p3, p4, p5⟩ := (⟨hS.1.2 0 _ rfl, hS.1.2 1 _ rfl, hS.1.2 2 _ rfl, hS.1.2 3 _ rfl, hS.1.2 4 _ rfl, hS.1.2 5 _ rfl⟩ : _ ∧ _ ∧ _ ∧ _ ∧ _ ∧ _); obtain ⟨q0, q1, q2, q3, q4, q5, q6⟩ := (⟨hS.2.1.2 0 _ rfl, hS.2.1.2 1 _ rfl, hS.2.1.2 2 _ rfl, hS.2.1.2 3 _ rfl, hS.2.2.1.2 0 _ rfl, hS.2.2.1.2 1 _ rfl, hS.2.2.1.2 2 _ rfl⟩ : _ ∧ _ ∧ _ ∧ _ ∧ _ ∧ _ ∧ _); obtain ⟨s0, s1, s2, s3, s4, s5⟩ := (⟨hS.2.2.2.1.2 0 _ rfl, hS.2.2.2.1.2 1 _ rfl, hS.2.2.2.1.2 2 _ rfl, hS.2.2.2.1.2 3 _ rfl, hS.2.2.2.1.2 4 _ rfl, hS.2.2.2.1.2 5 _ rfl⟩ : _ ∧ _ ∧ _ ∧ _ ∧ _ ∧ _); obtain ⟨t0, t1, t2⟩ := (⟨hS.2.2.2.2.1.2 0 _ rfl, hS.2.2.2.2.1.2 1 _ rfl, hS.2.2.2.2.1.2 2 _ rfl⟩ : _ ∧ _ ∧ _); obtain ⟨u0, u1, u2, u3, u4, u5⟩ := (⟨hS.2.2.2.2.2.2 0 _ rfl, hS.2.2.2.2.2.2 1 _ rfl, hS.2.2.2.2.2.2 2 _ rfl, hS.2.2.2.2.2.2 3 _ rfl, hS.2.2.2.2.2.2 4 _ rfl, hS.2.2.2.2.2.2 5 _ rfl⟩ : _ ∧ _ ∧ _ ∧ _ ∧ _ ∧ _)
            clear hd hE
            try clear hS
            go_wp2
            exact Ext.refl _
          case ha => rfl
          apply wpLoose_val rfl rfl
          case hs =>
            intro w1 hC hd Q1 hQ1
            obtain ⟨hE, hS⟩ := hC
            dsimp only [bare]
            obtain ⟨p0, p1, p2, p3, p4, p5⟩ := (⟨hS.1.2 0 _ rfl, hS.1.2 1 _ rfl, hS.1.2 2 _ rfl, hS.1.2 3 _ rfl, hS.1.2 4 _ rfl, hS.1.2 5 _ rfl⟩ : _ ∧ _ ∧ _ ∧ _ ∧ _ ∧ _); obtain ⟨q0, q1, q2, q3, q4, q5, q6⟩ := (⟨hS.2.1.2 0 _ rfl, hS.2.1.2 1 _ rfl, hS.2.1.2 2 _ rfl, hS.2.1.2 3 _ rfl, hS.2.2.1.2 0 _ rfl, hS.2.2.1.2 1 _ rfl, hS.2.2.1.2 2 _ rfl⟩ : _ ∧ _ ∧ _ ∧ _ ∧ _ ∧ _ ∧ _); obtain ⟨s0, s1, s2, s3, s4, s5⟩ := (⟨hS.2.2.2.1.2 0 _ rfl, hS.2.2.2.1.2 1 _ rfl, hS.2.2.2.1.2 2 _ rfl, hS.2.2.2.1.2 3 _ rfl, hS.2.2.2.1.2 4 _ rfl, hS.2.2.2.1.2 5 _ rfl⟩ : _ ∧ _ ∧ _ ∧ _ ∧ _ ∧ _); obtain ⟨t0, t1, t2⟩ := (⟨hS.2.2.2.2.1.2 0 _ rfl, hS.2.2.2.2.1.2 1 _ rfl, hS.2.2.2.2.1.2 2 _ rfl⟩ : _ ∧ _ ∧ _); obtain ⟨u0, u1, u2, u3, u4, u5⟩ := (⟨hS.2.2.2.2.2.2 0 _ rfl, hS.2.2.2.2.2.2 1 _ rfl, hS.2.2.2.2.2.2 2 _ rfl, hS.2.2.2.2.2.2 3 _ rfl, hS.2.2.2.2.2.2 4 _ rfl, hS.2.2.2.2.2.2 5 _ rfl⟩ : _ ∧ _ ∧ _ ∧ _ ∧ _ ∧ _)
            clear hd hE
            try clear hS
            go_wp2
            exact Ext.refl _
          case ha => rfl
          apply wpLoose_val rfl rfl
          case hs =>
            intro w1 hC hd Q1 hQ1
            obtain ⟨hE, hS⟩ := hC
            dsimp only [bare]
            obtain ⟨p0, p1, p2, p3, p4, p5⟩ := (⟨hS.1.2 0 _ rfl, hS.1.2 1 _ rfl, hS.1.2 2 _ rfl, hS.1.2 3 _ rfl, hS.1.2 4 _ rfl, hS.1.2 5 _ rfl⟩ : _ ∧ _ ∧ _ ∧ _ ∧ _ ∧ _); obtain ⟨q0, q1, q2, q3, q4, q5, q6⟩ := (⟨hS.2.1.2 0 _ rfl, hS.2.1.2 1 _ rfl, hS.2.1.2 2 _ rfl, hS.2.1.2 3 _ rfl, hS.2.2.1.2 0 _ rfl, hS.2.2.1.2 1 _ rfl, hS.2.2.1.2 2 _ rfl⟩ : _ ∧ _ ∧ _ ∧ _ ∧ _ ∧ _ ∧ _); obtain ⟨s0, s1, s2, s3, s4, s5⟩ := (⟨hS.2.2.2.1.2 0 _ rfl, hS.2.2.2.1.2 1 _ rfl, hS.2.2.2.1.2 2 _ rfl, hS.2.2.2.1.2 3 _ rfl, hS.2.2.2.1.2 4 _ rfl, hS.2.2.2.1.2 5 _ rfl⟩ : _ ∧ _ ∧ _ ∧ _ ∧ _ ∧ _); obtain ⟨t0, t1, t2⟩ := (⟨hS.2.2.2.2.1.2 0 _ rfl, hS.2.2.2.2.1.2 1 _ rfl, hS.2.2.2.2.1.2 2 _ rfl⟩ : _ ∧ _ ∧ _); obtain ⟨u0, u1, u2, u3, u4, u5⟩ := (⟨hS.2.2.2.2.2.2 0 _ rfl, hS.2.2.2.2.2.2 1 _ rfl, hS.2.2.2.2.2.2 2 _ rfl, hS.2.2.2.2.2.2 3 _ rfl, hS.2.2.2.2.2.2 4 _ rfl, hS.2.2.2.2.2.2 5 _ rfl⟩ : _ ∧ _ ∧ _ ∧ _ ∧ _ ∧ _)
            clear hd hE
            try clear hS
            go_wp2
            exact Ext.refl _
          case ha => rfl
          apply wpLoose_val rfl rfl
          case hs =>
            intro w1 hC hd Q1 hQ1
            obtain ⟨hE, hS⟩ := hC
            dsimp only [bare]
            obtain ⟨p0, p1, p2, p3, p4, p5⟩ := (⟨hS.1.2 0 _ rfl, hS.1.2 1 _ rfl, hS.1.2 2 _ rfl, hS.1.2 3 _ rfl, hS.1.2 4 _ rfl, hS.1.2 5 _ rfl⟩ : _ ∧ _ ∧ _ ∧ _ ∧ _ ∧ _); obtain ⟨q0, q1, q2, q3, q4, q5, q6⟩ := (⟨hS.2.1.2 0 _ rfl, hS.2.1.2 1 _ rfl, hS.2.1.2 2 _ rfl, hS.2.1.2 3 _ rfl, hS.2.2.1.2 0 _ rfl, hS.2.2.1.2 1 _ rfl, hS.2.2.1.2 2 _ rfl⟩ : _ ∧ _ ∧ _ ∧ _ ∧ _ ∧ _ ∧ _); obtain ⟨s0, s1, s2, s3, s4, s5⟩ := (⟨hS.2.2.2.1.2 0 _ rfl, hS.2.2.2.1.2 1 _ rfl, hS.2.2.2.1.2 2 _ rfl, hS.2.2.2.1.2 3 _ rfl, hS.2.2.2.1.2 4 _ rfl, hS.2.2.2.1.2 5 _ rfl⟩ : _ ∧ _ ∧ _ ∧ _ ∧ _ ∧ _); obtain ⟨t0, t1, t2⟩ := (⟨hS.2.2.2.2.1.2 0 _ rfl, hS.2.2.2.2.1.2 1 _ rfl, hS.2.2.2.2.1.2 2 _ rfl⟩ : _ ∧ _ ∧ _); obtain ⟨u0, u1, u2, u3, u4, u5⟩ := (⟨hS.2.2.2.2.2.2 0 _ rfl, hS.2.2.2.2.2.2 1 _ rfl, hS.2.2.2.2.2.2 2 _ rfl, hS.2.2.2.2.2.2 3 _ rfl, hS.2.2.2.2.2.2 4 _ rfl, hS.2.2.2.2.2.2 5 _ rfl⟩ : _ ∧ _ ∧ _ ∧ _ ∧ _ ∧ _)
            clear hd hE
            try clear hS
            go_wp2
            exact Ext.refl _
          case ha => rfl
          apply wpLoose_val rfl rfl
          case hs =>
            intro w1 hC hd Q1 hQ1
            obtain ⟨hE, hS⟩ := hC
            dsimp only [bare]
            obtain ⟨p0, p1, p2, p3, p4, p5⟩ := (⟨hS.1.2 0 _ rfl, hS.1.2 1 _ rfl, hS.1.2 2 _ rfl, hS.1.2 3 _ rfl, hS.1.2 4 _ rfl, hS.1.2 5 _ rfl⟩ : _ ∧ _ ∧ _ ∧ _ ∧ _ ∧ _); obtain ⟨q0, q1, q2, q3, q4, q5, q6⟩ := (⟨hS.2.1.2 0 _ rfl, hS.2.1.2 1 _ rfl, hS.2.1.2 2 _ rfl, hS.2.1.2 3 _ rfl, hS.2.2.1.2 0 _ rfl, hS.2.2.1.2 1 _ rfl, hS.2.2.1.2 2 _ rfl⟩ : _ ∧ _ ∧ _ ∧ _ ∧ _ ∧ _ ∧ _); obtain ⟨s0, s1, s2, s3, s4, s5⟩ := (⟨hS.2.2.2.1.2 0 _ rfl, hS.2.2.2.1.2 1 _ rfl, hS.2.2.2.1.2 2 _ rfl, hS.2.2.2.1.2 3 _ rfl, hS.2.2.2.1.2 4 _ rfl, hS.2.2.2.1.2 5 _ rfl⟩ : _ ∧ _ ∧ _ ∧ _ ∧ _ ∧ _); obtain ⟨t0, t1, t2⟩ := (⟨hS.2.2.2.2.1.2 0 _ rfl, hS.2.2.2.2.1.2 1 _ rfl, hS.2.2.2.2.1.2 2 _ rfl⟩ : _ ∧ _ ∧ _); obtain ⟨u0, u1, u2, u3, u4, u5⟩ := (⟨hS.2.2.2.2.2.2 0 _ rfl, hS.2.2.2.2.2.2 1 _ rfl, hS.2.2.2.2.2.2 2 _ rfl, hS.2.2.2.2.2.2 3 _ rfl, hS.2.2.2.2.2.2 4 _ rfl, hS.2.2.2.2.2.2 5 _ rfl⟩ : _ ∧ _ ∧ _ ∧ _ ∧ _ ∧ _)
            clear hd hE
            try clear hS
            go_wp2
            exact Ext.refl _
          case ha => rfl
          apply wpLoose_val rfl rfl
          case hs =>
            intro w1 hC hd Q1 hQ1
            obtain ⟨hE, hS⟩ := hC
            dsimp only [bare]
            obtain ⟨p0, p1, p2, p3, p4, p5⟩ := (⟨hS.1.2 0 _ rfl, hS.1.2 1 _ rfl, hS.1.2 2 _ rfl, hS.1.2 3 _ rfl, hS.1.2 4 _ rfl, hS.1.2 5 _ rfl⟩ : _ ∧ _ ∧ _ ∧ _ ∧ _ ∧ _); obtain ⟨q0, q1, q2, q3, q4, q5, q6⟩ := (⟨hS.2.1.2 0 _ rfl, hS.2.1.2 1 _ rfl, hS.2.1.2 2 _ rfl, hS.2.1.2 3 _ rfl, hS.2.2.1.2 0 _ rfl, hS.2.2.1.2 1 _ rfl, hS.2.2.1.2 2 _ rfl⟩ : _ ∧ _ ∧ _ ∧ _ ∧ _ ∧ _ ∧ _); obtain ⟨s0, s1, s2, s3, s4, s5⟩ := (⟨hS.2.2.2.1.2 0 _ rfl, hS.2.2.2.1.2 1 _ rfl, hS.2.2.2.1.2 2 _ rfl, hS.2.2.2.1.2 3 _ rfl, hS.2.2.2.1.2 4 _ rfl, hS.2.2.2.1.2 5 _ rfl⟩ : _ ∧ _ ∧ _ ∧ _ ∧ _ ∧ _); obtain ⟨t0, t1, t2⟩ := (⟨hS.2.2.2.2.1.2 0 _ rfl, hS.2.2.2.2.1.2 1 _ rfl, hS.2.2.2.2.1.2 2 _ rfl⟩ : _ ∧ _ ∧ _); obtain ⟨u0, u1, u2, u3, u4, u5⟩ := (⟨hS.2.2.2.2.2.2 0 _ rfl, hS.2.2.2.2.2.2 1 _ rfl, hS.2.2.2.2.2.2 2 _ rfl, hS.2.2.2.2.2.2 3 _ rfl, hS.2.2.2.2.2.2 4 _ rfl, hS.2.2.2.2.2.2 5 _ rfl⟩ : _ ∧ _ ∧ _ ∧ _ ∧ _ ∧ _)
            clear hd hE
            try clear hS
            go_wp2
            exact Ext.refl _
          case ha => rfl
          apply wpLoose_val rfl rfl
          case hs =>
            intro w1 hC hd Q1 hQ1
            obtain ⟨hE, hS⟩ := hC
            dsimp only [bare]
            obtain ⟨p0, p1, p2, p3, p4, p5⟩ := (⟨hS.1.2 0 _ rfl, hS.1.2 1 _ rfl, hS.1.2 2 _ rfl, hS.1.2 3 _ rfl, hS.1.2 4 _ rfl, hS.1.2 5 _ rfl⟩ : _ ∧ _ ∧ _ ∧ _ ∧ _ ∧ _); obtain ⟨q0, q1, q2, q3, q4, q5, q6⟩ := (⟨hS.2.1.2 0 _ rfl, hS.2.1.2 1 _ rfl, hS.2.1.2 2 _ rfl, hS.2.1.2 3 _ rfl, hS.2.2.1.2 0 _ rfl, hS.2.2.1.2 1 _ rfl, hS.2.2.1.2 2 _ rfl⟩ : _ ∧ _ ∧ _ ∧ _ ∧ _ ∧ _ ∧ _); obtain ⟨s0, s1, s2, s3, s4, s5⟩ := (⟨hS.2.2.2.1.2 0 _ rfl, hS.2.2.2.1.2 1 _ rfl, hS.2.2.2.1.2 2 _ rfl, hS.2.2.2.1.2 3 _ rfl, hS.2.2.2.1.2 4 _ rfl, hS.2.2.2.1.2 5 _ rfl⟩ : _ ∧ _ ∧ _ ∧ _ ∧ _ ∧ _); obtain ⟨t0, t1, t2⟩ := (⟨hS.2.2.2.2.1.2 0 _ rfl, hS.2.2.2.2.1.2 1 _ rfl, hS.2.2.2.2.1.2 2 _ rfl⟩ : _ ∧ _ ∧ _); obtain ⟨u0, u1, u2, u3, u4, u5⟩ := (⟨hS.2.2.2.2.2.2 0 _ rfl, hS.2.2.2.2.2.2 1 _ rfl, hS.2.2.2.2.2.2 2 _ rfl, hS.2.2.2.2.2.2 3 _ rfl, hS.2.2.2.2.2.2 4 _ rfl, hS.2.2.2.2.2.2 5 _ rfl⟩ : _ ∧ _ ∧ _ ∧ _ ∧ _ ∧ _)
            clear hd hE
            try clear hS
            go_wp2
            exact Ext.refl _
          case ha => rfl
          apply wpLoose_val rfl rfl
          case hs =>
            intro w1 hC hd Q1 hQ1
            obtain ⟨hE, hS⟩ := hC
            dsimp only [bare]
            obtain ⟨p0, p1, p2, p3, p4, p5⟩ := (⟨hS.1.2 0 _ rfl, hS.1.2 1 _ rfl, hS.1.2 2 _ rfl, hS.1.2 3 _ rfl, hS.1.2 4 _ rfl, hS.1.2 5 _ rfl⟩ : _ ∧ _ ∧ _ ∧ _ ∧ _ ∧ _); obtain ⟨q0, q1, q2, q3, q4, q5, q6⟩ := (⟨hS.2.1.2 0 _ rfl, hS.2.1.2 1 _ rfl, hS.2.1.2 2 _ rfl, hS.2.1.2 3 _ rfl, hS.2.2.1.2 0 _ rfl, hS.2.2.1.2 1 _ rfl, hS.2.2.1.2 2 _ rfl⟩ : _ ∧ _ ∧ _ ∧ _ ∧ _ ∧ _ ∧ _); obtain ⟨s0, s1, s2, s3, s4, s5⟩ := (⟨hS.2.2.2.1.2 0 _ rfl, hS.2.2.2.1.2 1 _ rfl, hS.2.2.2.1.2 2 _ rfl, hS.2.2.2.1.2 3 _ rfl, hS.2.2.2.1.2 4 _ rfl, hS.2.2.2.1.2 5 _ rfl⟩ : _ ∧ _ ∧ _ ∧ _ ∧ _ ∧ _); obtain ⟨t0, t1, t2⟩ := (⟨hS.2.2.2.2.1.2 0 _ rfl, hS.2.2.2.2.1.2 1 _ rfl, hS.2.2.2.2.1.2 2 _ rfl⟩ : _ ∧ _ ∧ _); obtain ⟨u0, u1, u2, u3, u4, u5⟩ := (⟨hS.2.2.2.2.2.2 0 _ rfl, hS.2.2.2.2.2.2 1 _ rfl, hS.2.2.2.2.2.2 2 _ rfl, hS.2.2.2.2.2.2 3 _ rfl, hS.2.2.2.2.2.2 4 _ rfl, hS.2.2.2.2.2.2 5 _ rfl⟩ : _ ∧ _ ∧ _ ∧ _ ∧ _ ∧ _)
            clear hd hE
            try clear hS
            go_wp2
            exact Ext.refl _
          case ha => rfl
          apply wpLoose_val rfl rfl
          case hs =>
            intro w1 hC hd Q1 hQ1
            obtain ⟨hE, hS⟩ := hC
            dsimp only [bare]
            obtain ⟨p0, p1, p2, p3, p4, p5⟩ := (⟨hS.1.2 0 _ rfl, hS.1.2 1 _ rfl, hS.1.2 2 _ rfl, hS.1.2 3 _ rfl, hS.1.2 4 _ rfl, hS.1.2 5 _ rfl⟩ : _ ∧ _ ∧ _ ∧ _ ∧ _ ∧ _); obtain ⟨q0, q1, q2, q3, q4, q5, q6⟩ := (⟨hS.2.1.2 0 _ rfl, hS.2.1.2 1 _ rfl, hS.2.1.2 2 _ rfl, hS.2.1.2 3 _ rfl, hS.2.2.1.2 0 _ rfl, hS.2.2.1.2 1 _ rfl, hS.2.2.1.2 2 _ rfl⟩ : _ ∧ _ ∧ _ ∧ _ ∧ _ ∧ _ ∧ _); obtain ⟨s0, s1, s2, s3, s4, s5⟩ := (⟨hS.2.2.2.1.2 0 _ rfl, hS.2.2.2.1.2 1 _ rfl, hS.2.2.2.1.2 2 _ rfl, hS.2.2.2.1.2 3 _ rfl, hS.2.2.2.1.2 4 _ rfl, hS.2.2.2.1.2 5 _ rfl⟩ : _ ∧ _ ∧ _ ∧ _ ∧ _ ∧ _); obtain ⟨t0, t1, t2⟩ := (⟨hS.2.2.2.2.1.2 0 _ rfl, hS.2.2.2.2.1.2 1 _ rfl, hS.2.2.2.2.1.2 2 _ rfl⟩ : _ ∧ _ ∧ _); obtain ⟨u0, u1, u2, u3, u4, u5⟩ := (⟨hS.2.2.2.2.2.2 0 _ rfl, hS.2.2.2.2.2.2 1 _ rfl, hS.2.2.2.2.2.2 2 _ rfl, hS.2.2.2.2.2.2 3 _ rfl, hS.2.2.2.2.2.2 4 _ rfl, hS.2.2.2.2.2.2 5 _ rfl⟩ : _ ∧ _ ∧ _ ∧ _ ∧ _ ∧ _)
            clear hd hE
            try clear hS
            go_wp2
            exact Ext.refl _
          case ha => rfl
          apply wpLoose_val rfl rfl
          case hs =>
            intro w1 hC hd Q1 hQ1
            obtain ⟨hE, hS⟩ := hC
            dsimp only [bare]
            obtain ⟨p0, p1, p2, p3, p4, p5⟩ := (⟨hS.1.2 0 _ rfl, hS.1.2 1 _ rfl, hS.1.2 2 _ rfl, hS.1.2 3 _ rfl, hS.1.2 4 _ rfl, hS.1.2 5 _ rfl⟩ : _ ∧ _ ∧ _ ∧ _ ∧ _ ∧ _); obtain ⟨q0, q1, q2, q3, q4, q5, q6⟩ := (⟨hS.2.1.2 0 _ rfl, hS.2.1.2 1 _ rfl, hS.2.1.2 2 _ rfl, hS.2.1.2 3 _ rfl, hS.2.2.1.2 0 _ rfl, hS.2.2.1.2 1 _ rfl, hS.2.2.1.2 2 _ rfl⟩ : _ ∧ _ ∧ _ ∧ _ ∧ _ ∧ _ ∧ _); obtain ⟨s0, s1, s2, s3, s4, s5⟩ := (⟨hS.2.2.2.1.2 0 _ rfl, hS.2.2.2.1.2 1 _ rfl, hS.2.2.2.1.2 2 _ rfl, hS.2.2.2.1.2 3 _ rfl, hS.2.2.2.1.2 4 _ rfl, hS.2.2.2.1.2 5 _ rfl⟩ : _ ∧ _ ∧ _ ∧ _ ∧ _ ∧ _); obtain ⟨t0, t1, t2⟩ := (⟨hS.2.2.2.2.1.2 0 _ rfl, hS.2.2.2.2.1.2 1 _ rfl, hS.2.2.2.2.1.2 2 _ rfl⟩ : _ ∧ _ ∧ _); obtain ⟨u0, u1, u2, u3, u4, u5⟩ := (⟨hS.2.2.2.2.2.2 0 _ rfl, hS.2.2.2.2.2.2 1 _ rfl, hS.2.2.2.2.2.2 2 _ rfl, hS.2.2.2.2.2.2 3 _ rfl, hS.2.2.2.2.2.2 4 _ rfl, hS.2.2.2.2.2.2 5 _ rfl⟩ : _ ∧ _ ∧ _ ∧ _ ∧ _ ∧ _)
            clear hd hE
            try clear hS
            go_wp2
            exact Ext.refl _
          case ha => rfl
          apply wpLoose_val rfl rfl
          case hs =>
            intro w1 hC hd Q1 hQ1
            obtain ⟨hE, hS⟩ := hC
            dsimp only [bare]
            obtain ⟨p0, p1, p2, p3, p4, p5⟩ := (⟨hS.1.2 0 _ rfl, hS.1.2 1 _ rfl, hS.1.2 2 _ rfl, hS.1.2 3 _ rfl, hS.1.2 4 _ rfl, hS.1.2 5 _ rfl⟩ : _ ∧ _ ∧ _ ∧ _ ∧ _ ∧ _); obtain ⟨q0, q1, q2, q3, q4, q5, q6⟩ := (⟨hS.2.1.2 0 _ rfl, hS.2.1.2 1 _ rfl, hS.2.1.2 2 _ rfl, hS.2.1.2 3 _ rfl, hS.2.2.1.2 0 _ rfl, hS.2.2.1.2 1 _ rfl, hS.2.2.1.2 2 _ rfl⟩ : _ ∧ _ ∧ _ ∧ _ ∧ _ ∧ _ ∧ _); obtain ⟨s0, s1, s2, s3, s4, s5⟩ := (⟨hS.2.2.2.1.2 0 _ rfl, hS.2.2.2.1.2 1 _ rfl, hS.2.2.2.1.2 2 _ rfl, hS.2.2.2.1.2 3 _ rfl, hS.2.2.2.1.2 4 _ rfl, hS.2.2.2.1.2 5 _ rfl⟩ : _ ∧ _ ∧ _ ∧ _ ∧ _ ∧ _); obtain ⟨t0, t1, t2⟩ := (⟨hS.2.2.2.2.1.2 0 _ rfl, hS.2.2.2.2.1.2 1 _ rfl, hS.2.2.2.2.1.2 2 _ rfl⟩ : _ ∧ _ ∧ _); obtain ⟨u0, u1, u2, u3, u4, u5⟩ := (⟨hS.2.2.2.2.2.2 0 _ rfl, hS.2.2.2.2.2.2 1 _ rfl, hS.2.2.2.2.2.2 2 _ rfl, hS.2.2.2.2.2.2 3 _ rfl, hS.2.2.2.2.2.2 4 _ rfl, hS.2.2.2.2.2.2 5 _ rfl⟩ : _ ∧ _ ∧ _ ∧ _ ∧ _ ∧ _)
            clear hd hE
            try clear hS
            go_wp2
            exact Ext.refl _
          case ha => rfl
          apply wpLoose_val rfl rfl
          case hs =>
            intro w1 hC hd Q1 hQ1
            obtain ⟨hE, hS⟩ := hC
            dsimp only [bare]
            obtain ⟨p0, p1, p2, p3, p4, p5⟩ := (⟨hS.1.2 0 _ rfl, hS.1.2 1 _ rfl, hS.1.2 2 _ rfl, hS.1.2 3 _ rfl, hS.1.2 4 _ rfl, hS.1.2 5 _ rfl⟩ : _ ∧ _ ∧ _ ∧ _ ∧ _ ∧ _); obtain ⟨q0, q1, q2, q3, q4, q5, q6⟩ := (⟨hS.2.1.2 0 _ rfl, hS.2.1.2 1 _ rfl, hS.2.1.2 2 _ rfl, hS.2.1.2 3 _ rfl, hS.2.2.1.2 0 _ rfl, hS.2.2.1.2 1 _ rfl, hS.2.2.1.2 2 _ rfl⟩ : _ ∧ _ ∧ _ ∧ _ ∧ _ ∧ _ ∧ _); obtain ⟨s0, s1, s2, s3, s4, s5⟩ := (⟨hS.2.2.2.1.2 0 _ rfl, hS.2.2.2.1.2 1 _ rfl, hS.2.2.2.1.2 2 _ rfl, hS.2.2.2.1.2 3 _ rfl, hS.2.2.2.1.2 4 _ rfl, hS.2.2.2.1.2 5 _ rfl⟩ : _ ∧ _ ∧ _ ∧ _ ∧ _ ∧ _); obtain ⟨t0, t1, t2⟩ := (⟨hS.2.2.2.2.1.2 0 _ rfl, hS.2.2.2.2.1.2 1 _ rfl, hS.2.2.2.2.1.2 2 _ rfl⟩ : _ ∧ _ ∧ _); obtain ⟨u0, u1, u2, u3, u4, u5⟩ := (⟨hS.2.2.2.2.2.2 0 _ rfl, hS.2.2.2.2.2.2 1 _ rfl, hS.2.2.2.2.2.2 2 _ rfl, hS.2.2.2.2.2.2 3 _ rfl, hS.2.2.2.2.2.2 4 _ rfl, hS.2.2.2.2.2.2 5 _ rfl⟩ : _ ∧ _ ∧ _ ∧ _ ∧ _ ∧ _)
            clear hd hE
            try clear hS
            go_wp2
            exact Ext.refl _
          case ha => rfl
          apply wpLoose_val rfl rfl
          case hs =>
            intro w1 hC hd Q1 hQ1
            obtain ⟨hE, hS⟩ := hC
            dsimp only [bare]
            obtain ⟨p0, p1, p2, p3, p4, p5⟩ := (⟨hS.1.2 0 _ rfl, hS.1.2 1 _ rfl, hS.1.2 2 _ rfl, hS.1.2 3 _ rfl, hS.1.2 4 _ rfl, hS.1.2 5 _ rfl⟩ : _ ∧ _ ∧ _ ∧ _ ∧ _ ∧ _); obtain ⟨q0, q1, q2, q3, q4, q5, q6⟩ := (⟨hS.2.1.2 0 _ rfl, hS.2.1.2 1 _ rfl, hS.2.1.2 2 _ rfl, hS.2.1.2 3 _ rfl, hS.2.2.1.2 0 _ rfl, hS.2.2.1.2 1 _ rfl, hS.2.2.1.2 2 _ rfl⟩ : _ ∧ _ ∧ _ ∧ _ ∧ _ ∧ _ ∧ _); obtain ⟨s0, s1, s2, s3, s4, s5⟩ := (⟨hS.2.2.2.1.2 0 _ rfl, hS.2.2.2.1.2 1 _ rfl, hS.2.2.2.1.2 2 _ rfl, hS.2.2.2.1.2 3 _ rfl, hS.2.2.2.1.2 4 _ rfl, hS.2.2.2.1.2 5 _ rfl⟩ : _ ∧ _ ∧ _ ∧ _ ∧ _ ∧ _); obtain ⟨t0, t1, t2⟩ := (⟨hS.2.2.2.2.1.2 0 _ rfl, hS.2.2.2.2.1.2 1 _ rfl, hS.2.2.2.2.1.2 2 _ rfl⟩ : _ ∧ _ ∧ _); obtain ⟨u0, u1, u2, u3, u4, u5⟩ := (⟨hS.2.2.2.2.2.2 0 _ rfl, hS.2.2.2.2.2.2 1 _ rfl, hS.2.2.2.2.2.2 2 _ rfl, hS.2.2.2.2.2.2 3 _ rfl, hS.2.2.2.2.2.2 4 _ rfl, hS.2.2.2.2.2.2 5 _ rfl⟩ : _ ∧ _ ∧ _ ∧ _ ∧ _ ∧ _)
            clear hd hE
            try clear hS
            go_wp2
            exact Ext.refl _
          case ha => rfl
          apply wpLoose_val rfl rfl
          case hs =>
            intro w1 hC hd Q1 hQ1
            obtain ⟨hE, hS⟩ := hC
            dsimp only [bare]
            obtain ⟨p0, p1, p2, p3, p4, p5⟩ := (⟨hS.1.2 0 _ rfl, hS.1.2 1 _ rfl, hS.1.2 2 _ rfl, hS.1.2 3 _ rfl, hS.1.2 4 _ rfl, hS.1.2 5 _ rfl⟩ : _ ∧ _ ∧ _ ∧ _ ∧ _ ∧ _); obtain ⟨q0, q1, q2, q3, q4, q5, q6⟩ := (⟨hS.2.1.2 0 _ rfl, hS.2.1.2 1 _ rfl, hS.2.1.2 2 _ rfl, hS.2.1.2 3 _ rfl, hS.2.2.1.2 0 _ rfl, hS.2.2.1.2 1 _ rfl, hS.2.2.1.2 2 _ rfl⟩ : _ ∧ _ ∧ _ ∧ _ ∧ _ ∧ _ ∧ _); obtain ⟨s0, s1, s2, s3, s4, s5⟩ := (⟨hS.2.2.2.1.2 0 _ rfl, hS.2.2.2.1.2 1 _ rfl, hS.2.2.2.1.2 2 _ rfl, hS.2.2.2.1.2 3 _ rfl, hS.2.2.2.1.2 4 _ rfl, hS.2.2.2.1.2 5 _ rfl⟩ : _ ∧ _ ∧ _ ∧ _ ∧ _ ∧ _); obtain ⟨t0, t1, t2⟩ := (⟨hS.2.2.2.2.1.2 0 _ rfl, hS.2.2.2.2.1.2 1 _ rfl, hS.2.2.2.2.1.2 2 _ rfl⟩ : _ ∧ _ ∧ _); obtain ⟨u0, u1, u2, u3, u4, u5⟩ := (⟨hS.2.2.2.2.2.2 0 _ rfl, hS.2.2.2.2.2.2 1 _ rfl, hS.2.2.2.2.2.2 2 _ rfl, hS.2.2.2.2.2.2 3 _ rfl, hS.2.2.2.2.2.2 4 _ rfl, hS.2.2.2.2.2.2 5 _ rfl⟩ : _ ∧ _ ∧ _ ∧ _ ∧ _ ∧ _)
            clear hd hE
            try clear hS
            go_wp2
            exact Ext.refl _
          case ha => rfl
          apply wpLoose_val rfl rfl
          case hs =>
            intro w1 hC hd Q1 hQ1
            obtain ⟨hE, hS⟩ := hC
            dsimp only [bare]
            obtain ⟨p0, p1, p2, p3, p4, p5⟩ := (⟨hS.1.2 0 _ rfl, hS.1.2 1 _ rfl, hS.1.2 2 _ rfl, hS.1.2 3 _ rfl, hS.1.2 4 _ rfl, hS.1.2 5 _ rfl⟩ : _ ∧ _ ∧ _ ∧ _ ∧ _ ∧ _); obtain ⟨q0, q1, q2, q3, q4, q5, q6⟩ := (⟨hS.2.1.2 0 _ rfl, hS.2.1.2 1 _ rfl, hS.2.1.2 2 _ rfl, hS.2.1.2 3 _ rfl, hS.2.2.1.2 0 _ rfl, hS.2.2.1.2 1 _ rfl, hS.2.2.1.2 2 _ rfl⟩ : _ ∧ _ ∧ _ ∧ _ ∧ _ ∧ _ ∧ _); obtain ⟨s0, s1, s2, s3, s4, s5⟩ := (⟨hS.2.2.2.1.2 0 _ rfl, hS.2.2.2.1.2 1 _ rfl, hS.2.2.2.1.2 2 _ rfl, hS.2.2.2.1.2 3 _ rfl, hS.2.2.2.1.2 4 _ rfl, hS.2.2.2.1.2 5 _ rfl⟩ : _ ∧ _ ∧ _ ∧ _ ∧ _ ∧ _); obtain ⟨t0, t1, t2⟩ := (⟨hS.2.2.2.2.1.2 0 _ rfl, hS.2.2.2.2.1.2 1 _ rfl, hS.2.2.2.2.1.2 2 _ rfl⟩ : _ ∧ _ ∧ _); obtain ⟨u0, u1, u2, u3, u4, u5⟩ := (⟨hS.2.2.2.2.2.2 0 _ rfl, hS.2.2.2.2.2.2 1 _ rfl, hS.2.2.2.2.2.2 2 _ rfl, hS.2.2.2.2.2.2 3 _ rfl, hS.2.2.2.2.2.2 4 _ rfl, hS.2.2.2.2.2.2 5 _ rfl⟩ : _ ∧ _ ∧ _ ∧ _ ∧ _ ∧ _)
            clear hd hE
            try clear hS
            go_wp2
            exact Ext.refl _
          case ha => rfl
          apply wpLoose_val rfl rfl
          case hs =>
            intro w1 hC hd Q1 hQ1
            obtain ⟨hE, hS⟩ := hC
            dsimp only [bare]
            obtain ⟨p0, p1, p2, p3, p4, p5⟩ := (⟨hS.1.2 0 _ rfl, hS.1.2 1 _ rfl, hS.1.2 2 _ rfl, hS.1.2 3 _ rfl, hS.1.2 4 _ rfl, hS.1.2 5 _ rfl⟩ : _ ∧ _ ∧ _ ∧ _ ∧ _ ∧ _); obtain ⟨q0, q1, q2, q3, q4, q5, q6⟩ := (⟨hS.2.1.2 0 _ rfl, hS.2.1.2 1 _ rfl, hS.2.1.2 2 _ rfl, hS.2.1.2 3 _ rfl, hS.2.2.1.2 0 _ rfl, hS.2.2.1.2 1 _ rfl, hS.2.2.1.2 2 _ rfl⟩ : _ ∧ _ ∧ _ ∧ _ ∧ _ ∧ _ ∧ _); obtain ⟨s0, s1, s2, s3, s4, s5⟩ := (⟨hS.2.2.2.1.2 0 _ rfl, hS.2.2.2.1.2 1 _ rfl, hS.2.2.2.1.2 2 _ rfl, hS.2.2.2.1.2 3 _ rfl, hS.2.2.2.1.2 4 _ rfl, hS.2.2.2.1.2 5 _ rfl⟩ : _ ∧ _ ∧ _ ∧ _ ∧ _ ∧ _); obtain ⟨t0, t1, t2⟩ := (⟨hS.2.2.2.2.1.2 0 _ rfl, hS.2.2.2.2.1.2 1 _ rfl, hS.2.2.2.2.1.2 2 _ rfl⟩ : _ ∧ _ ∧ _); obtain ⟨u0, u1, u2, u3, u4, u5⟩ := (⟨hS.2.2.2.2.2.2 0 _ rfl, hS.2.2.2.2.2.2 1 _ rfl, hS.2.2.2.2.2.2 2 _ rfl, hS.2.2.2.2.2.2 3 _ rfl, hS.2.2.2.2.2.2 4 _ rfl, hS.2.2.2.2.2.2 5 _ rfl⟩ : _ ∧ _ ∧ _ ∧ _ ∧ _ ∧ _)
            clear hd hE
            try clear hS
            go_wp2
            exact Ext.refl _
          case ha => rfl
          apply wpLoose_val rfl rfl
          case hs =>
            intro w1 hC hd Q1 hQ1
            obtain ⟨hE, hS⟩ := hC
            dsimp only [bare]
            obtain ⟨p0, p1, p2, p3, p4, p5⟩ := (⟨hS.1.2 0 _ rfl, hS.1.2 1 _ rfl, hS.1.2 2 _ rfl, hS.1.2 3 _ rfl, hS.1.2 4 _ rfl, hS.1.2 5 _ rfl⟩ : _ ∧ _ ∧ _ ∧ _ ∧ _ ∧ _); obtain ⟨q0, q1, q2, q3, q4, q5, q6⟩ := (⟨hS.2.1.2 0 _ rfl, hS.2.1.2 1 _ rfl, hS.2.1.2 2 _ rfl, hS.2.1.2 3 _ rfl, hS.2.2.1.2 0 _ rfl, hS.2.2.1.2 1 _ rfl, hS.2.2.1.2 2 _ rfl⟩ : _ ∧ _ ∧ _ ∧ _ ∧ _ ∧ _ ∧ _); obtain ⟨s0, s1, s2, s3, s4, s5⟩ := (⟨hS.2.2.2.1.2 0 _ rfl, hS.2.2.2.1.2 1 _ rfl, hS.2.2.2.1.2 2 _ rfl, hS.2.2.2.1.2 3 _ rfl, hS.2.2.2.1.2 4 _ rfl, hS.2.2.2.1.2 5 _ rfl⟩ : _ ∧ _ ∧ _ ∧ _ ∧ _ ∧ _); obtain ⟨t0, t1, t2⟩ := (⟨hS.2.2.2.2.1.2 0 _ rfl, hS.2.2.2.2.1.2 1 _ rfl, hS.2.2.2.2.1.2 2 _ rfl⟩ : _ ∧ _ ∧ _); obtain ⟨u0, u1, u2, u3, u4, u5⟩ := (⟨hS.2.2.2.2.2.2 0 _ rfl, hS.2.2.2.2.2.2 1 _ rfl, hS.2.2.2.2.2.2 2 _ rfl, hS.2.2.2.2.2.2 3 _ rfl, hS.2.2.2.2.2.2 4 _ rfl, hS.2.2.2.2.2.2 5 _ rfl⟩ : _ ∧ _ ∧ _ ∧ _ ∧ _ ∧ _)
            clear hd hE
            try clear hS
            go_wp2
            exact Ext.refl _
          case ha => rfl
          apply wpLoose_val rfl rfl
          case hs =>
            intro w1 hC hd Q1 hQ1
            obtain ⟨hE, hS⟩ := hC
            dsimp only [bare]
            obtain ⟨p0, p1, p2, p3, p4, p5⟩ := (⟨hS.1.2 0 _ rfl, hS.1.2 1 _ rfl, hS.1.2 2 _ rfl, hS.1.2 3 _ rfl, hS.1.2 4 _ rfl, hS.1.2 5 _ rfl⟩ : _ ∧ _ ∧ _ ∧ _ ∧ _ ∧ _); obtain ⟨q0, q1, q2, q3, q4, q5, q6⟩ := (⟨hS.2.1.2 0 _ rfl, hS.2.1.2 1 _ rfl, hS.2.1.2 2 _ rfl, hS.2.1.2 3 _ rfl, hS.2.2.1.2 0 _ rfl, hS.2.2.1.2 1 _ rfl, hS.2.2.1.2 2 _ rfl⟩ : _ ∧ _ ∧ _ ∧ _ ∧ _ ∧ _ ∧ _); obtain ⟨s0, s1, s2, s3, s4, s5⟩ := (⟨hS.2.2.2.1.2 0 _ rfl, hS.2.2.2.1.2 1 _ rfl, hS.2.2.2.1.2 2 _ rfl, hS.2.2.2.1.2 3 _ rfl, hS.2.2.2.1.2 4 _ rfl, hS.2.2.2.1.2 5 _ rfl⟩ : _ ∧ _ ∧ _ ∧ _ ∧ _ ∧ _); obtain ⟨t0, t1, t2⟩ := (⟨hS.2.2.2.2.1.2 0 _ rfl, hS.2.2.2.2.1.2 1 _ rfl, hS.2.2.2.2.1.2 2 _ rfl⟩ : _ ∧ _ ∧ _); obtain ⟨u0, u1, u2, u3, u4, u5⟩ := (⟨hS.2.2.2.2.2.2 0 _ rfl, hS.2.2.2.2.2.2 1 _ rfl, hS.2.2.2.2.2.2 2 _ rfl, hS.2.2.2.2.2.2 3 _ rfl, hS.2.2.2.2.2.2 4 _ rfl, hS.2.2.2.2.2.2 5 _ rfl⟩ : _ ∧ _ ∧ _ ∧ _ ∧ _ ∧ _)
            clear hd hE
            try clear hS
            go_wp2
            exact Ext.refl _
          case ha => rfl
          apply wpLoose_val rfl rfl
          case hs =>
            intro w1 hC hd Q1 hQ1
            obtain ⟨hE, hS⟩ := hC
            dsimp only [bare]
            obtain ⟨p0, p1, p2, p3, p4, p5⟩ := (⟨hS.1.2 0 _ rfl, hS.1.2 1 _ rfl, hS.1.2 2 _ rfl, hS.1.2 3 _ rfl, hS.1.2 4 _ rfl, hS.1.2 5 _ rfl⟩ : _ ∧ _ ∧ _ ∧ _ ∧ _ ∧ _); obtain ⟨q0, q1, q2, q3, q4, q5, q6⟩ := (⟨hS.2.1.2 0 _ rfl, hS.2.1.2 1 _ rfl, hS.2.1.2 2 _ rfl, hS.2.1.2 3 _ rfl, hS.2.2.1.2 0 _ rfl, hS.2.2.1.2 1 _ rfl, hS.2.2.1.2 2 _ rfl⟩ : _ ∧ _ ∧ _ ∧ _ ∧ _ ∧ _ ∧ _); obtain ⟨s0, s1, s2, s3, s4, s5⟩ := (⟨hS.2.2.2.1.2 0 _ rfl, hS.2.2.2.1.2 1 _ rfl, hS.2.2.2.1.2 2 _ rfl, hS.2.2.2.1.2 3 _ rfl, hS.2.2.2.1.2 4 _ rfl, hS.2.2.2.1.2 5 _ rfl⟩ : _ ∧ _ ∧ _ ∧ _ ∧ _ ∧ _); obtain ⟨t0, t1, t2⟩ := (⟨hS.2.2.2.2.1.2 0 _ rfl, hS.2.2.2.2.1.2 1 _ rfl, hS.2.2.2.2.1.2 2 _ rfl⟩ : _ ∧ _ ∧ _); obtain ⟨u0, u1, u2, u3, u4, u5⟩ := (⟨hS.2.2.2.2.2.2 0 _ rfl, hS.2.2.2.2.2.2 1 _ rfl, hS.2.2.2.2.2.2 2 _ rfl, hS.2.2.2.2.2.2 3 _ rfl, hS.2.2.2.2.2.2 4 _ rfl, hS.2.2.2.2.2.2 5 _ rfl⟩ : _ ∧ _ ∧ _ ∧ _ ∧ _ ∧ _)
            clear hd hE
            try clear hS
            go_wp2
            exact Ext.refl _
          case ha => rfl
          apply wpLoose_val rfl rfl
          case hs =>
            intro w1 hC hd Q1 hQ1
            obtain ⟨hE, hS⟩ := hC
            dsimp only [bare]
            obtain ⟨p0, p1, p2, p3, p4, p5⟩ := (⟨hS.1.2 0 _ rfl, hS.1.2 1 _ rfl, hS.1.2 2 _ rfl, hS.1.2 3 _ rfl, hS.1.2 4 _ rfl, hS.1.2 5 _ rfl⟩ : _ ∧ _ ∧ _ ∧ _ ∧ _ ∧ _); obtain ⟨q0, q1, q2, q3, q4, q5, q6⟩ := (⟨hS.2.1.2 0 _ rfl, hS.2.1.2 1 _ rfl, hS.2.1.2 2 _ rfl, hS.2.1.2 3 _ rfl, hS.2.2.1.2 0 _ rfl, hS.2.2.1.2 1 _ rfl, hS.2.2.1.2 2 _ rfl⟩ : _ ∧ _ ∧ _ ∧ _ ∧ _ ∧ _ ∧ _); obtain ⟨s0, s1, s2, s3, s4, s5⟩ := (⟨hS.2.2.2.1.2 0 _ rfl, hS.2.2.2.1.2 1 _ rfl, hS.2.2.2.1.2 2 _ rfl, hS.2.2.2.1.2 3 _ rfl, hS.2.2.2.1.2 4 _ rfl, hS.2.2.2.1.2 5 _ rfl⟩ : _ ∧ _ ∧ _ ∧ _ ∧ _ ∧ _); obtain ⟨t0, t1, t2⟩ := (⟨hS.2.2.2.2.1.2 0 _ rfl, hS.2.2.2.2.1.2 1 _ rfl, hS.2.2.2.2.1.2 2 _ rfl⟩ : _ ∧ _ ∧ _); obtain ⟨u0, u1, u2, u3, u4, u5⟩ := (⟨hS.2.2.2.2.2.2 0 _ rfl, hS.2.2.2.2.2.2 1 _ rfl, hS.2.2.2.2.2.2 2 _ rfl, hS.2.2.2.2.2.2 3 _ rfl, hS.2.2.2.2.2.2 4 _ rfl, hS.2.2.2.2.2.2 5 _ rfl⟩ : _ ∧ _ ∧ _ ∧ _ ∧ _ ∧ _)
            clear hd hE
            try clear hS
            go_wp2
            exact Ext.refl _
          case ha => rfl
          apply wpLoose_val rfl rfl
          case hs =>
            intro w1 hC hd Q1 hQ1
            obtain ⟨hE, hS⟩ := hC
            dsimp only [bare]
            obtain ⟨p0, p1, p2, p3, p4, p5⟩ := (⟨hS.1.2 0 _ rfl, hS.1.2 1 _ rfl, hS.1.2 2 _ rfl, hS.1.2 3 _ rfl, hS.1.2 4 _ rfl, hS.1.2 5 _ rfl⟩ : _ ∧ _ ∧ _ ∧ _ ∧ _ ∧ _); obtain ⟨q0, q1, q2, q3, q4, q5, q6⟩ := (⟨hS.2.1.2 0 _ rfl, hS.2.1.2 1 _ rfl, hS.2.1.2 2 _ rfl, hS.2.1.2 3 _ rfl, hS.2.2.1.2 0 _ rfl, hS.2.2.1.2 1 _ rfl, hS.2.2.1.2 2 _ rfl⟩ : _ ∧ _ ∧ _ ∧ _ ∧ _ ∧ _ ∧ _); obtain ⟨s0, s1, s2, s3, s4, s5⟩ := (⟨hS.2.2.2.1.2 0 _ rfl, hS.2.2.2.1.2 1 _ rfl, hS.2.2.2.1.2 2 _ rfl, hS.2.2.2.1.2 3 _ rfl, hS.2.2.2.1.2 4 _ rfl, hS.2.2.2.1.2 5 _ rfl⟩ : _ ∧ _ ∧ _ ∧ _ ∧ _ ∧ _); obtain ⟨t0, t1, t2⟩ := (⟨hS.2.2.2.2.1.2 0 _ rfl, hS.2.2.2.2.1.2 1 _ rfl, hS.2.2.2.2.1.2 2 _ rfl⟩ : _ ∧ _ ∧ _); obtain ⟨u0, u1, u2, u3, u4, u5⟩ := (⟨hS.2.2.2.2.2.2 0 _ rfl, hS.2.2.2.2.2.2 1 _ rfl, hS.2.2.2.2.2.2 2 _ rfl, hS.2.2.2.2.2.2 3 _ rfl, hS.2.2.2.2.2.2 4 _ rfl, hS.2.2.2.2.2.2 5 _ rfl⟩ : _ ∧ _ ∧ _ ∧ _ ∧ _ ∧ _)
            clear hd hE
            try clear hS
            go_wp2
            exact Ext.refl _
          case ha => rfl
          apply wpLoose_val rfl rfl
          case hs =>
            intro w1 hC hd Q1 hQ1
            obtain ⟨hE, hS⟩ := hC
            dsimp only [bare]
            obtain ⟨p0, p1, p2, p3, p4, p5⟩ := (⟨hS.1.2 0 _ rfl, hS.1.2 1 _ rfl, hS.1.2 2 _ rfl, hS.1.2 3 _ rfl, hS.1.2 4 _ rfl, hS.1.2 5 _ rfl⟩ : _ ∧ _ ∧ _ ∧ _ ∧ _ ∧ _); obtain ⟨q0, q1, q2, q3, q4, q5, q6⟩ := (⟨hS.2.1.2 0 _ rfl, hS.2.1.2 1 _ rfl, hS.2.1.2 2 _ rfl, hS.2.1.2 3 _ rfl, hS.2.2.1.2 0 _ rfl, hS.2.2.1.2 1 _ rfl, hS.2.2.1.2 2 _ rfl⟩ : _ ∧ _ ∧ _ ∧ _ ∧ _ ∧ _ ∧ _); obtain ⟨s0, s1, s2, s3, s4, s5⟩ := (⟨hS.2.2.2.1.2 0 _ rfl, hS.2.2.2.1.2 1 _ rfl, hS.2.2.2.1.2 2 _ rfl, hS.2.2.2.1.2 3 _ rfl, hS.2.2.2.1.2 4 _ rfl, hS.2.2.2.1.2 5 _ rfl⟩ : _ ∧ _ ∧ _ ∧ _ ∧ _ ∧ _); obtain ⟨t0, t1, t2⟩ := (⟨hS.2.2.2.2.1.2 0 _ rfl, hS.2.2.2.2.1.2 1 _ rfl, hS.2.2.2.2.1.2 2 _ rfl⟩ : _ ∧ _ ∧ _); obtain ⟨u0, u1, u2, u3, u4, u5⟩ := (⟨hS.2.2.2.2.2.2 0 _ rfl, hS.2.2.2.2.2.2 1 _ rfl, hS.2.2.2.2.2.2 2 _ rfl, hS.2.2.2.2.2.2 3 _ rfl, hS.2.2.2.2.2.2 4 _ rfl, hS.2.2.2.2.2.2 5 _ rfl⟩ : _ ∧ _ ∧ _ ∧ _ ∧ _ ∧ _)
            clear hd hE
            try clear hS
            go_wp2
            exact Ext.refl _
          case ha => rfl
          apply wpLoose_val rfl rfl
          case hs =>
            intro w1 hC hd Q1 hQ1
            obtain ⟨hE, hS⟩ := hC
            dsimp only [bare]
            obtain ⟨p0, p1, p2, p3, p4, p5⟩ := (⟨hS.1.2 0 _ rfl, hS.1.2 1 _ rfl, hS.1.2 2 _ rfl, hS.1.2 3 _ rfl, hS.1.2 4 _ rfl, hS.1.2 5 _ rfl⟩ : _ ∧ _ ∧ _ ∧ _ ∧ _ ∧ _); obtain ⟨q0, q1, q2, q3, q4, q5, q6⟩ := (⟨hS.2.1.2 0 _ rfl, hS.2.1.2 1 _ rfl, hS.2.1.2 2 _ rfl, hS.2.1.2 3 _ rfl, hS.2.2.1.2 0 _ rfl, hS.2.2.1.2 1 _ rfl, hS.2.2.1.2 2 _ rfl⟩ : _ ∧ _ ∧ _ ∧ _ ∧ _ ∧ _ ∧ _); obtain ⟨s0, s1, s2, s3, s4, s5⟩ := (⟨hS.2.2.2.1.2 0 _ rfl, hS.2.2.2.1.2 1 _ rfl, hS.2.2.2.1.2 2 _ rfl, hS.2.2.2.1.2 3 _ rfl, hS.2.2.2.1.2 4 _ rfl, hS.2.2.2.1.2 5 _ rfl⟩ : _ ∧ _ ∧ _ ∧ _ ∧ _ ∧ _); obtain ⟨t0, t1, t2⟩ := (⟨hS.2.2.2.2.1.2 0 _ rfl, hS.2.2.2.2.1.2 1 _ rfl, hS.2.2.2.2.1.2 2 _ rfl⟩ : _ ∧ _ ∧ _); obtain ⟨u0, u1, u2, u3, u4, u5⟩ := (⟨hS.2.2.2.2.2.2 0 _ rfl, hS.2.2.2.2.2.2 1 _ rfl, hS.2.2.2.2.2.2 2 _ rfl, hS.2.2.2.2.2.2 3 _ rfl, hS.2.2.2.2.2.2 4 _ rfl, hS.2.2.2.2.2.2 5 _ rfl⟩ : _ ∧ _ ∧ _ ∧ _ ∧ _ ∧ _)
            clear hd hE
            try clear hS
            go_wp2
            exact Ext.refl _
          case ha => rfl
          apply wpLoose_val rfl rfl
          case hs =>
            intro w1 hC hd Q1 hQ1
            obtain ⟨hE, hS⟩ := hC
            dsimp only [bare]
            obtain ⟨p0, p1, p2, p3, p4, p5⟩ := (⟨hS.1.2 0 _ rfl, hS.1.2 1 _ rfl, hS.1.2 2 _ rfl, hS.1.2 3 _ rfl, hS.1.2 4 _ rfl, hS.1.2 5 _ rfl⟩ : _ ∧ _ ∧ _ ∧ _ ∧ _ ∧ _); obtain ⟨q0, q1, q2, q3, q4, q5, q6⟩ := (⟨hS.2.1.2 0 _ rfl, hS.2.1.2 1 _ rfl, hS.2.1.2 2 _ rfl, hS.2.1.2 3 _ rfl, hS.2.2.1.2 0 _ rfl, hS.2.2.1.2 1 _ rfl, hS.2.2.1.2 2 _ rfl⟩ : _ ∧ _ ∧ _ ∧ _ ∧ _ ∧ _ ∧ _); obtain ⟨s0, s1, s2, s3, s4, s5⟩ := (⟨hS.2.2.2.1.2 0 _ rfl, hS.2.2.2.1.2 1 _ rfl, hS.2.2.2.1.2 2 _ rfl, hS.2.2.2.1.2 3 _ rfl, hS.2.2.2.1.2 4 _ rfl, hS.2.2.2.1.2 5 _ rfl⟩ : _ ∧ _ ∧ _ ∧ _ ∧ _ ∧ _); obtain ⟨t0, t1, t2⟩ := (⟨hS.2.2.2.2.1.2 0 _ rfl, hS.2.2.2.2.1.2 1 _ rfl, hS.2.2.2.2.1.2 2 _ rfl⟩ : _ ∧ _ ∧ _); obtain ⟨u0, u1, u2, u3, u4, u5⟩ := (⟨hS.2.2.2.2.2.2 0 _ rfl, hS.2.2.2.2.2.2 1 _ rfl, hS.2.2.2.2.2.2 2 _ rfl, hS.2.2.2.2.2.2 3 _ rfl, hS.2.2.2.2.2.2 4 _ rfl, hS.2.2.2.2.2.2 5 _ rfl⟩ : _ ∧ _ ∧ _ ∧ _ ∧ _ ∧ _)
            clear hd hE
            try clear hS
            go_wp2
            exact Ext.refl _
          case ha => rfl
          apply wpLoose_val rfl rfl
          case hs =>
            intro w1 hC hd Q1 hQ1
            obtain ⟨hE, hS⟩ := hC
            dsimp only [bare]
            obtain ⟨p0, p1, p2, p3, p4, p5⟩ := (⟨hS.1.2 0 _ rfl, hS.1.2 1 _ rfl, hS.1.2 2 _ rfl, hS.1.2 3 _ rfl, hS.1.2 4 _ rfl, hS.1.2 5 _ rfl⟩ : _ ∧ _ ∧ _ ∧ _ ∧ _ ∧ _); obtain ⟨q0, q1, q2, q3, q4, q5, q6⟩ := (⟨hS.2.1.2 0 _ rfl, hS.2.1.2 1 _ rfl, hS.2.1.2 2 _ rfl, hS.2.1.2 3 _ rfl, hS.2.2.1.2 0 _ rfl, hS.2.2.1.2 1 _ rfl, hS.2.2.1.2 2 _ rfl⟩ : _ ∧ _ ∧ _ ∧ _ ∧ _ ∧ _ ∧ _); obtain ⟨s0, s1, s2, s3, s4, s5⟩ := (⟨hS.2.2.2.1.2 0 _ rfl, hS.2.2.2.1.2 1 _ rfl, hS.2.2.2.1.2 2 _ rfl, hS.2.2.2.1.2 3 _ rfl, hS.2.2.2.1.2 4 _ rfl, hS.2.2.2.1.2 5 _ rfl⟩ : _ ∧ _ ∧ _ ∧ _ ∧ _ ∧ _); obtain ⟨t0, t1, t2⟩ := (⟨hS.2.2.2.2.1.2 0 _ rfl, hS.2.2.2.2.1.2 1 _ rfl, hS.2.2.2.2.1.2 2 _ rfl⟩ : _ ∧ _ ∧ _); obtain ⟨u0, u1, u2, u3, u4, u5⟩ := (⟨hS.2.2.2.2.2.2 0 _ rfl, hS.2.2.2.2.2.2 1 _ rfl, hS.2.2.2.2.2.2 2 _ rfl, hS.2.2.2.2.2.2 3 _ rfl, hS.2.2.2.2.2.2 4 _ rfl, hS.2.2.2.2.2.2 5 _ rfl⟩ : _ ∧ _ ∧ _ ∧ _ ∧ _ ∧ _)
            clear hd hE
            try clear hS
            go_wp2
            exact Ext.refl _
          case ha => rfl
          apply wpLoose_val rfl rfl
          case hs =>
            intro w1 hC hd Q1 hQ1
            obtain ⟨hE, hS⟩ := hC
            dsimp only [bare]
            obtain ⟨p0, p1, p2, p3, p4, p5⟩ := (⟨hS.1.2 0 _ rfl, hS.1.2 1 _ rfl, hS.1.2 2 _ rfl, hS.1.2 3 _ rfl, hS.1.2 4 _ rfl, hS.1.2 5 _ rfl⟩ : _ ∧ _ ∧ _ ∧ _ ∧ _ ∧ _); obtain ⟨q0, q1, q2, q3, q4, q5, q6⟩ := (⟨hS.2.1.2 0 _ rfl, hS.2.1.2 1 _ rfl, hS.2.1.2 2 _ rfl, hS.2.1.2 3 _ rfl, hS.2.2.1.2 0 _ rfl, hS.2.2.1.2 1 _ rfl, hS.2.2.1.2 2 _ rfl⟩ : _ ∧ _ ∧ _ ∧ _ ∧ _ ∧ _ ∧ _); obtain ⟨s0, s1, s2, s3, s4, s5⟩ := (⟨hS.2.2.2.1.2 0 _ rfl, hS.2.2.2.1.2 1 _ rfl, hS.2.2.2.1.2 2 _ rfl, hS.2.2.2.1.2 3 _ rfl, hS.2.2.2.1.2 4 _ rfl, hS.2.2.2.1.2 5 _ rfl⟩ : _ ∧ _ ∧ _ ∧ _ ∧ _ ∧ _); obtain ⟨t0, t1, t2⟩ := (⟨hS.2.2.2.2.1.2 0 _ rfl, hS.2.2.2.2.1.2 1 _ rfl, hS.2.2.2.2.1.2 2 _ rfl⟩ : _ ∧ _ ∧ _); obtain ⟨u0, u1, u2, u3, u4, u5⟩ := (⟨hS.2.2.2.2.2.2 0 _ rfl, hS.2.2.2.2.2.2 1 _ rfl, hS.2.2.2.2.2.2 2 _ rfl, hS.2.2.2.2.2.2 3 _ rfl, hS.2.2.2.2.2.2 4 _ rfl, hS.2.2.2.2.2.2 5 _ rfl⟩ : _ ∧ _ ∧ _ ∧ _ ∧ _ ∧ _)
            clear hd hE
            try clear hS
            go_wp2
            exact Ext.refl _
          case ha => rfl
          apply wpLoose_val rfl rfl
          case hs =>
            intro w1 hC hd Q1 hQ1
            obtain ⟨hE, hS⟩ := hC
            dsimp only [bare]
            obtain ⟨p0, p1, p2, p3, p4, p5⟩ := (⟨hS.1.2 0 _ rfl, hS.1.2 1 _ rfl, hS.1.2 2 _ rfl, hS.1.2 3 _ rfl, hS.1.2 4 _ rfl, hS.1.2 5 _ rfl⟩ : _ ∧ _ ∧ _ ∧ _ ∧ _ ∧ _); obtain ⟨q0, q1, q2, q3, q4, q5, q6⟩ := (⟨hS.2.1.2 0 _ rfl, hS.2.1.2 1 _ rfl, hS.2.1.2 2 _ rfl, hS.2.1.2 3 _ rfl, hS.2.2.1.2 0 _ rfl, hS.2.2.1.2 1 _ rfl, hS.2.2.1.2 2 _ rfl⟩ : _ ∧ _ ∧ _ ∧ _ ∧ _ ∧ _ ∧ _); obtain ⟨s0, s1, s2, s3, s4, s5⟩ := (⟨hS.2.2.2.1.2 0 _ rfl, hS.2.2.2.1.2 1 _ rfl, hS.2.2.2.1.2 2 _ rfl, hS.2.2.2.1.2 3 _ rfl, hS.2.2.2.1.2 4 _ rfl, hS.2.2.2.1.2 5 _ rfl⟩ : _ ∧ _ ∧ _ ∧ _ ∧ _ ∧ _); obtain ⟨t0, t1, t2⟩ := (⟨hS.2.2.2.2.1.2 0 _ rfl, hS.2.2.2.2.1.2 1 _ rfl, hS.2.2.2.2.1.2 2 _ rfl⟩ : _ ∧ _ ∧ _); obtain ⟨u0, u1, u2, u3, u4, u5⟩ := (⟨hS.2.2.2.2.2.2 0 _ rfl, hS.2.2.2.2.2.2 1 _ rfl, hS.2.2.2.2.2.2 2 _ rfl, hS.2.2.2.2.2.2 3 _ rfl, hS.2.2.2.2.2.2 4 _ rfl, hS.2.2.2.2.2.2 5 _ rfl⟩ : _ ∧ _ ∧ _ ∧ _ ∧ _ ∧ _)
            clear hd hE
            try clear hS
            go_wp2
            exact Ext.refl _
          case ha => rfl
          apply wpLoose_val rfl rfl
          case hs =>
            intro w1 hC hd Q1 hQ1
            obtain ⟨hE, hS⟩ := hC
            dsimp only [bare]
            obtain ⟨p0, p1, p2, p3, p4, p5⟩ := (⟨hS.1.2 0 _ rfl, hS.1.2 1 _ rfl, hS.1.2 2 _ rfl, hS.1.2 3 _ rfl, hS.1.2 4 _ rfl, hS.1.2 5 _ rfl⟩ : _ ∧ _ ∧ _ ∧ _ ∧ _ ∧ _); obtain ⟨q0, q1, q2, q3, q4, q5, q6⟩ := (⟨hS.2.1.2 0 _ rfl, hS.2.1.2 1 _ rfl, hS.2.1.2 2 _ rfl, hS.2.1.2 3 _ rfl, hS.2.2.1.2 0 _ rfl, hS.2.2.1.2 1 _ rfl, hS.2.2.1.2 2 _ rfl⟩ : _ ∧ _ ∧ _ ∧ _ ∧ _ ∧ _ ∧ _); obtain ⟨s0, s1, s2, s3, s4, s5⟩ := (⟨hS.2.2.2.1.2 0 _ rfl, hS.2.2.2.1.2 1 _ rfl, hS.2.2.2.1.2 2 _ rfl, hS.2.2.2.1.2 3 _ rfl, hS.2.2.2.1.2 4 _ rfl, hS.2.2.2.1.2 5 _ rfl⟩ : _ ∧ _ ∧ _ ∧ _ ∧ _ ∧ _); obtain ⟨t0, t1, t2⟩ := (⟨hS.2.2.2.2.1.2 0 _ rfl, hS.2.2.2.2.1.2 1 _ rfl, hS.2.2.2.2.1.2 2 _ rfl⟩ : _ ∧ _ ∧ _); obtain ⟨u0, u1, u2, u3, u4, u5⟩ := (⟨hS.2.2.2.2.2.2 0 _ rfl, hS.2.2.2.2.2.2 1 _ rfl, hS.2.2.2.2.2.2 2 _ rfl, hS.2.2.2.2.2.2 3 _ rfl, hS.2.2.2.2.2.2 4 _ rfl, hS.2.2.2.2.2.2 5 _ rfl⟩ : _ ∧ _ ∧ _ ∧ _ ∧ _ ∧ _)
            clear hd hE
            try clear hS
            go_wp2
            exact Ext.refl _
          case ha => rfl
          apply wpLoose_val rfl rfl
          case hs =>
            intro w1 hC hd Q1 hQ1
            obtain ⟨hE, hS⟩ := hC
            dsimp only [bare]
            obtain ⟨p0, p1, p2, p3, p4, p5⟩ := (⟨hS.1.2 0 _ rfl, hS.1.2 1 _ rfl, hS.1.2 2 _ rfl, hS.1.2 3 _ rfl, hS.1.2 4 _ rfl, hS.1.2 5 _ rfl⟩ : _ ∧ _ ∧ _ ∧ _ ∧ _ ∧ _); obtain ⟨q0, q1, q2, q3, q4, q5, q6⟩ := (⟨hS.2.1.2 0 _ rfl, hS.2.1.2 1 _ rfl, hS.2.1.2 2 _ rfl, hS.2.1.2 3 _ rfl, hS.2.2.1.2 0 _ rfl, hS.2.2.1.2 1 _ rfl, hS.2.2.1.2 2 _ rfl⟩ : _ ∧ _ ∧ _ ∧ _ ∧ _ ∧ _ ∧ _); obtain ⟨s0, s1, s2, s3, s4, s5⟩ := (⟨hS.2.2.2.1.2 0 _ rfl, hS.2.2.2.1.2 1 _ rfl, hS.2.2.2.1.2 2 _ rfl, hS.2.2.2.1.2 3 _ rfl, hS.2.2.2.1.2 4 _ rfl, hS.2.2.2.1.2 5 _ rfl⟩ : _ ∧ _ ∧ _ ∧ _ ∧ _ ∧ _); obtain ⟨t0, t1, t2⟩ := (⟨hS.2.2.2.2.1.2 0 _ rfl, hS.2.2.2.2.1.2 1 _ rfl, hS.2.2.2.2.1.2 2 _ rfl⟩ : _ ∧ _ ∧ _); obtain ⟨u0, u1, u2, u3, u4, u5⟩ := (⟨hS.2.2.2.2.2.2 0 _ rfl, hS.2.2.2.2.2.2 1 _ rfl, hS.2.2.2.2.2.2 2 _ rfl, hS.2.2.2.2.2.2 3 _ rfl, hS.2.2.2.2.2.2 4 _ rfl, hS.2.2.2.2.2.2 5 _ rfl⟩ : _ ∧ _ ∧ _ ∧ _ ∧ _ ∧ _)
            clear hd hE
            try clear hS
            go_wp2
            exact Ext.refl _
          case ha => rfl
          apply wpLoose_val rfl rfl
          case hs =>
            intro w1 hC hd Q1 hQ1
            obtain ⟨hE, hS⟩ := hC
            dsimp only [bare]
            obtain ⟨p0, p1, p2, p3, p4, p5⟩ := (⟨hS.1.2 0 _ rfl, hS.1.2 1 _ rfl, hS.1.2 2 _ rfl, hS.1.2 3 _ rfl, hS.1.2 4 _ rfl, hS.1.2 5 _ rfl⟩ : _ ∧ _ ∧ _ ∧ _ ∧ _ ∧ _); obtain ⟨q0, q1, q2, q3, q4, q5, q6⟩ := (⟨hS.2.1.2 0 _ rfl, hS.2.1.2 1 _ rfl, hS.2.1.2 2 _ rfl, hS.2.1.2 3 _ rfl, hS.2.2.1.2 0 _ rfl, hS.2.2.1.2 1 _ rfl, hS.2.2.1.2 2 _ rfl⟩ : _ ∧ _ ∧ _ ∧ _ ∧ _ ∧ _ ∧ _); obtain ⟨s0, s1, s2, s3, s4, s5⟩ := (⟨hS.2.2.2.1.2 0 _ rfl, hS.2.2.2.1.2 1 _ rfl, hS.2.2.2.1.2 2 _ rfl, hS.2.2.2.1.2 3 _ rfl, hS.2.2.2.1.2 4 _ rfl, hS.2.2.2.1.2 5 _ rfl⟩ : _ ∧ _ ∧ _ ∧ _ ∧ _ ∧ _); obtain ⟨t0, t1, t2⟩ := (⟨hS.2.2.2.2.1.2 0 _ rfl, hS.2.2.2.2.1.2 1 _ rfl, hS.2.2.2.2.1.2 2 _ rfl⟩ : _ ∧ _ ∧ _); obtain ⟨u0, u1, u2, u3, u4, u5⟩ := (⟨hS.2.2.2.2.2.2 0 _ rfl, hS.2.2.2.2.2.2 1 _ rfl, hS.2.2.2.2.2.2 2 _ rfl, hS.2.2.2.2.2.2 3 _ rfl, hS.2.2.2.2.2.2 4 _ rfl, hS.2.2.2.2.2.2 5 _ rfl⟩ : _ ∧ _ ∧ _ ∧ _ ∧ _ ∧ _)
            clear hd hE
            try clear hS
            go_wp2
            exact Ext.refl _
          case ha => rfl
          apply wpLoose_val rfl rfl
          case hs =>
            intro w1 hC hd Q1 hQ1
            obtain ⟨hE, hS⟩ := hC
            dsimp only [bare]
            obtain ⟨p0, p1, p2, p3, p4, p5⟩ := (⟨hS.1.2 0 _ rfl, hS.1.2 1 _ rfl, hS.1.2 2 _ rfl, hS.1.2 3 _ rfl, hS.1.2 4 _ rfl, hS.1.2 5 _ rfl⟩ : _ ∧ _ ∧ _ ∧ _ ∧ _ ∧ _); obtain ⟨q0, q1, q2, q3, q4, q5, q6⟩ := (⟨hS.2.1.2 0 _ rfl, hS.2.1.2 1 _ rfl, hS.2.1.2 2 _ rfl, hS.2.1.2 3 _ rfl, hS.2.2.1.2 0 _ rfl, hS.2.2.1.2 1 _ rfl, hS.2.2.1.2 2 _ rfl⟩ : _ ∧ _ ∧ _ ∧ _ ∧ _ ∧ _ ∧ _); obtain ⟨s0, s1, s2, s3, s4, s5⟩ := (⟨hS.2.2.2.1.2 0 _ rfl, hS.2.2.2.1.2 1 _ rfl, hS.2.2.2.1.2 2 _ rfl, hS.2.2.2.1.2 3 _ rfl, hS.2.2.2.1.2 4 _ rfl, hS.2.2.2.1.2 5 _ rfl⟩ : _ ∧ _ ∧ _ ∧ _ ∧ _ ∧ _); obtain ⟨t0, t1, t2⟩ := (⟨hS.2.2.2.2.1.2 0 _ rfl, hS.2.2.2.2.1.2 1 _ rfl, hS.2.2.2.2.1.2 2 _ rfl⟩ : _ ∧ _ ∧ _); obtain ⟨u0, u1, u2, u3, u4, u5⟩ := (⟨hS.2.2.2.2.2.2 0 _ rfl, hS.2.2.2.2.2.2 1 _ rfl, hS.2.2.2.2.2.2 2 _ rfl, hS.2.2.2.2.2.2 3 _ rfl, hS.2.2.2.2.2.2 4 _ rfl, hS.2.2.2.2.2.2 5 _ rfl⟩ : _ ∧ _ ∧ _ ∧ _ ∧ _ ∧ _)
            clear hd hE
            try clear hS
            go_wp2
            exact Ext.refl _
          case ha => rfl
          apply wpLoose_val rfl rfl
          case hs =>
            intro w1 hC hd Q1 hQ1
            obtain ⟨hE, hS⟩ := hC
            dsimp only [bare]
            obtain ⟨p0, p1, p2, p3, p4, p5⟩ := (⟨hS.1.2 0 _ rfl, hS.1.2 1 _ rfl, hS.1.2 2 _ rfl, hS.1.2 3 _ rfl, hS.1.2 4 _ rfl, hS.1.2 5 _ rfl⟩ : _ ∧ _ ∧ _ ∧ _ ∧ _ ∧ _); obtain ⟨q0, q1, q2, q3, q4, q5, q6⟩ := (⟨hS.2.1.2 0 _ rfl, hS.2.1.2 1 _ rfl, hS.2.1.2 2 _ rfl, hS.2.1.2 3 _ rfl, hS.2.2.1.2 0 _ rfl, hS.2.2.1.2 1 _ rfl, hS.2.2.1.2 2 _ rfl⟩ : _ ∧ _ ∧ _ ∧ _ ∧ _ ∧ _ ∧ _); obtain ⟨s0, s1, s2, s3, s4, s5⟩ := (⟨hS.2.2.2.1.2 0 _ rfl, hS.2.2.2.1.2 1 _ rfl, hS.2.2.2.1.2 2 _ rfl, hS.2.2.2.1.2 3 _ rfl, hS.2.2.2.1.2 4 _ rfl, hS.2.2.2.1.2 5 _ rfl⟩ : _ ∧ _ ∧ _ ∧ _ ∧ _ ∧ _); obtain ⟨t0, t1, t2⟩ := (⟨hS.2.2.2.2.1.2 0 _ rfl, hS.2.2.2.2.1.2 1 _ rfl, hS.2.2.2.2.1.2 2 _ rfl⟩ : _ ∧ _ ∧ _); obtain ⟨u0, u1, u2, u3, u4, u5⟩ := (⟨hS.2.2.2.2.2.2 0 _ rfl, hS.2.2.2.2.2.2 1 _ rfl, hS.2.2.2.2.2.2 2 _ rfl, hS.2.2.2.2.2.2 3 _ rfl, hS.2.2.2.2.2.2 4 _ rfl, hS.2.2.2.2.2.2 5 _ rfl⟩ : _ ∧ _ ∧ _ ∧ _ ∧ _ ∧ _)
            clear hd hE
            try clear hS
            go_wp2
            exact Ext.refl _
          case ha => rfl
          apply wpLoose_val rfl rfl
          case hs =>
            intro w1 hC hd Q1 hQ1
            obtain ⟨hE, hS⟩ := hC
            dsimp only [bare]
            obtain ⟨p0, p1, p2, p3, p4, p5⟩ := (⟨hS.1.2 0 _ rfl, hS.1.2 1 _ rfl, hS.1.2 2 _ rfl, hS.1.2 3 _ rfl, hS.1.2 4 _ rfl, hS.1.2 5 _ rfl⟩ : _ ∧ _ ∧ _ ∧ _ ∧ _ ∧ _); obtain ⟨q0, q1, q2, q3, q4, q5, q6⟩ := (⟨hS.2.1.2 0 _ rfl, hS.2.1.2 1 _ rfl, hS.2.1.2 2 _ rfl, hS.2.1.2 3 _ rfl, hS.2.2.1.2 0 _ rfl, hS.2.2.1.2 1 _ rfl, hS.2.2.1.2 2 _ rfl⟩ : _ ∧ _ ∧ _ ∧ _ ∧ _ ∧ _ ∧ _); obtain ⟨s0, s1, s2, s3, s4, s5⟩ := (⟨hS.2.2.2.1.2 0 _ rfl, hS.2.2.2.1.2 1 _ rfl, hS.2.2.2.1.2 2 _ rfl, hS.2.2.2.1.2 3 _ rfl, hS.2.2.2.1.2 4 _ rfl, hS.2.2.2.1.2 5 _ rfl⟩ : _ ∧ _ ∧ _ ∧ _ ∧ _ ∧ _); obtain ⟨t0, t1, t2⟩ := (⟨hS.2.2.2.2.1.2 0 _ rfl, hS.2.2.2.2.1.2 1 _ rfl, hS.2.2.2.2.1.2 2 _ rfl⟩ : _ ∧ _ ∧ _); obtain ⟨u0, u1, u2, u3, u4, u5⟩ := (⟨hS.2.2.2.2.2.2 0 _ rfl, hS.2.2.2.2.2.2 1 _ rfl, hS.2.2.2.2.2.2 2 _ rfl, hS.2.2.2.2.2.2 3 _ rfl, hS.2.2.2.2.2.2 4 _ rfl, hS.2.2.2.2.2.2 5 _ rfl⟩ : _ ∧ _ ∧ _ ∧ _ ∧ _ ∧ _)
            clear hd hE
            try clear hS
            go_wp2
            exact Ext.refl _
          case ha => rfl
          apply wpLoose_val rfl rfl
          case hs =>
            intro w1 hC hd Q1 hQ1
            obtain ⟨hE, hS⟩ := hC
            dsimp only [bare]
            obtain ⟨p0, p1, p2, p3, p4, p5⟩ := (⟨hS.1.2 0 _ rfl, hS.1.2 1 _ rfl, hS.1.2 2 _ rfl, hS.1.2 3 _ rfl, hS.1.2 4 _ rfl, hS.1.2 5 _ rfl⟩ : _ ∧ _ ∧ _ ∧ _ ∧ _ ∧ _); obtain ⟨q0, q1, q2, q3, q4, q5, q6⟩ := (⟨hS.2.1.2 0 _ rfl, hS.2.1.2 1 _ rfl, hS.2.1.2 2 _ rfl, hS.2.1.2 3 _ rfl, hS.2.2.1.2 0 _ rfl, hS.2.2.1.2 1 _ rfl, hS.2.2.1.2 2 _ rfl⟩ : _ ∧ _ ∧ _ ∧ _ ∧ _ ∧ _ ∧ _); obtain ⟨s0, s1, s2, s3, s4, s5⟩ := (⟨hS.2.2.2.1.2 0 _ rfl, hS.2.2.2.1.2 1 _ rfl, hS.2.2.2.1.2 2 _ rfl, hS.2.2.2.1.2 3 _ rfl, hS.2.2.2.1.2 4 _ rfl, hS.2.2.2.1.2 5 _ rfl⟩ : _ ∧ _ ∧ _ ∧ _ ∧ _ ∧ _); obtain ⟨t0, t1, t2⟩ := (⟨hS.2.2.2.2.1.2 0 _ rfl, hS.2.2.2.2.1.2 1 _ rfl, hS.2.2.2.2.1.2 2 _ rfl⟩ : _ ∧ _ ∧ _); obtain ⟨u0, u1, u2, u3, u4, u5⟩ := (⟨hS.2.2.2.2.2.2 0 _ rfl, hS.2.2.2.2.2.2 1 _ rfl, hS.2.2.2.2.2.2 2 _ rfl, hS.2.2.2.2.2.2 3 _ rfl, hS.2.2.2.2.2.2 4 _ rfl, hS.2.2.2.2.2.2 5 _ rfl⟩ : _ ∧ _ ∧ _ ∧ _ ∧ _ ∧ _)
            clear hd hE
            try clear hS
            go_wp2
            exact Ext.refl _
          case ha => rfl
          apply wpLoose_val rfl rfl
          case hs =>
            intro w1 hC hd Q1 hQ1
            obtain ⟨hE, hS⟩ := hC
            dsimp only [bare]
            obtain ⟨p0, p1, p2, p3, p4, p5⟩ := (⟨hS.1.2 0 _ rfl, hS.1.2 1 _ rfl, hS.1.2 2 _ rfl, hS.1.2 3 _ rfl, hS.1.2 4 _ rfl, hS.1.2 5 _ rfl⟩ : _ ∧ _ ∧ _ ∧ _ ∧ _ ∧ _); obtain ⟨q0, q1, q2, q3, q4, q5, q6⟩ := (⟨hS.2.1.2 0 _ rfl, hS.2.1.2 1 _ rfl, hS.2.1.2 2 _ rfl, hS.2.1.2 3 _ rfl, hS.2.2.1.2 0 _ rfl, hS.2.2.1.2 1 _ rfl, hS.2.2.1.2 2 _ rfl⟩ : _ ∧ _ ∧ _ ∧ _ ∧ _ ∧ _ ∧ _); obtain ⟨s0, s1, s2, s3, s4, s5⟩ := (⟨hS.2.2.2.1.2 0 _ rfl, hS.2.2.2.1.2 1 _ rfl, hS.2.2.2.1.2 2 _ rfl, hS.2.2.2.1.2 3 _ rfl, hS.2.2.2.1.2 4 _ rfl, hS.2.2.2.1.2 5 _ rfl⟩ : _ ∧ _ ∧ _ ∧ _ ∧ _ ∧ _); obtain ⟨t0, t1, t2⟩ := (⟨hS.2.2.2.2.1.2 0 _ rfl, hS.2.2.2.2.1.2 1 _ rfl, hS.2.2.2.2.1.2 2 _ rfl⟩ : _ ∧ _ ∧ _); obtain ⟨u0, u1, u2, u3, u4, u5⟩ := (⟨hS.2.2.2.2.2.2 0 _ rfl, hS.2.2.2.2.2.2 1 _ rfl, hS.2.2.2.2.2.2 2 _ rfl, hS.2.2.2.2.2.2 3 _ rfl, hS.2.2.2.2.2.2 4 _ rfl, hS.2.2.2.2.2.2 5 _ rfl⟩ : _ ∧ _ ∧ _ ∧ _ ∧ _ ∧ _)
            clear hd hE
            try clear hS
            go_wp2
            exact Ext.refl _
          case ha => rfl
          apply wpLoose_val rfl rfl
          case hs =>
            intro w1 hC hd Q1 hQ1
            obtain ⟨hE, hS⟩ := hC
            dsimp only [bare]
            obtain ⟨p0, p1, p2, p3, p4, p5⟩ := (⟨hS.1.2 0 _ rfl, hS.1.2 1 _ rfl, hS.1.2 2 _ rfl, hS.1.2 3 _ rfl, hS.1.2 4 _ rfl, hS.1.2 5 _ rfl⟩ : _ ∧ _ ∧ _ ∧ _ ∧ _ ∧ _); obtain ⟨q0, q1, q2, q3, q4, q5, q6⟩ := (⟨hS.2.1.2 0 _ rfl, hS.2.1.2 1 _ rfl, hS.2.1.2 2 _ rfl, hS.2.1.2 3 _ rfl, hS.2.2.1.2 0 _ rfl, hS.2.2.1.2 1 _ rfl, hS.2.2.1.2 2 _ rfl⟩ : _ ∧ _ ∧ _ ∧ _ ∧ _ ∧ _ ∧ _); obtain ⟨s0, s1, s2, s3, s4, s5⟩ := (⟨hS.2.2.2.1.2 0 _ rfl, hS.2.2.2.1.2 1 _ rfl, hS.2.2.2.1.2 2 _ rfl, hS.2.2.2.1.2 3 _ rfl, hS.2.2.2.1.2 4 _ rfl, hS.2.2.2.1.2 5 _ rfl⟩ : _ ∧ _ ∧ _ ∧ _ ∧ _ ∧ _); obtain ⟨t0, t1, t2⟩ := (⟨hS.2.2.2.2.1.2 0 _ rfl, hS.2.2.2.2.1.2 1 _ rfl, hS.2.2.2.2.1.2 2 _ rfl⟩ : _ ∧ _ ∧ _); obtain ⟨u0, u1, u2, u3, u4, u5⟩ := (⟨hS.2.2.2.2.2.2 0 _ rfl, hS.2.2.2.2.2.2 1 _ rfl, hS.2.2.2.2.2.2 2 _ rfl, hS.2.2.2.2.2.2 3 _ rfl, hS.2.2.2.2.2.2 4 _ rfl, hS.2.2.2.2.2.2 5 _ rfl⟩ : _ ∧ _ ∧ _ ∧ _ ∧ _ ∧ _)
            clear hd hE
            try clear hS
            go_wp2
            exact Ext.refl _
          case ha => rfl
          apply wpLoose_val rfl rfl
          case hs =>
            intro w1 hC hd Q1 hQ1
            obtain ⟨hE, hS⟩ := hC
            dsimp only [bare]
            obtain ⟨p0, p1, p2, p3, p4, p5⟩ := (⟨hS.1.2 0 _ rfl, hS.1.2 1 _ rfl, hS.1.2 2 _ rfl, hS.1.2 3 _ rfl, hS.1.2 4 _ rfl, hS.1.2 5 _ rfl⟩ : _ ∧ _ ∧ _ ∧ _ ∧ _ ∧ _); obtain ⟨q0, q1, q2, q3, q4, q5, q6⟩ := (⟨hS.2.1.2 0 _ rfl, hS.2.1.2 1 _ rfl, hS.2.1.2 2 _ rfl, hS.2.1.2 3 _ rfl, hS.2.2.1.2 0 _ rfl, hS.2.2.1.2 1 _ rfl, hS.2.2.1.2 2 _ rfl⟩ : _ ∧ _ ∧ _ ∧ _ ∧ _ ∧ _ ∧ _); obtain ⟨s0, s1, s2, s3, s4, s5⟩ := (⟨hS.2.2.2.1.2 0 _ rfl, hS.2.2.2.1.2 1 _ rfl, hS.2.2.2.1.2 2 _ rfl, hS.2.2.2.1.2 3 _ rfl, hS.2.2.2.1.2 4 _ rfl, hS.2.2.2.1.2 5 _ rfl⟩ : _ ∧ _ ∧ _ ∧ _ ∧ _ ∧ _); obtain ⟨t0, t1, t2⟩ := (⟨hS.2.2.2.2.1.2 0 _ rfl, hS.2.2.2.2.1.2 1 _ rfl, hS.2.2.2.2.1.2 2 _ rfl⟩ : _ ∧ _ ∧ _); obtain ⟨u0, u1, u2, u3, u4, u5⟩ := (⟨hS.2.2.2.2.2.2 0 _ rfl, hS.2.2.2.2.2.2 1 _ rfl, hS.2.2.2.2.2.2 2 _ rfl, hS.2.2.2.2.2.2 3 _ rfl, hS.2.2.2.2.2.2 4 _ rfl, hS.2.2.2.2.2.2 5 _ rfl⟩ : _ ∧ _ ∧ _ ∧ _ ∧ _ ∧ _)
            clear hd hE
            try clear hS
            go_wp2
            exact Ext.refl _
          case ha => rfl
          apply wpLoose_val rfl rfl
          case hs =>
            intro w1 hC hd Q1 hQ1
            obtain ⟨hE, hS⟩ := hC
            dsimp only [bare]
            obtain ⟨p0, p1, p2, p3, p4, p5⟩ := (⟨hS.1.2 0 _ rfl, hS.1.2 1 _ rfl, hS.1.2 2 _ rfl, hS.1.2 3 _ rfl, hS.1.2 4 _ rfl, hS.1.2 5 _ rfl⟩ : _ ∧ _ ∧ _ ∧ _ ∧ _ ∧ _); obtain ⟨q0, q1, q2, q3, q4, q5, q6⟩ := (⟨hS.2.1.2 0 _ rfl, hS.2.1.2 1 _ rfl, hS.2.1.2 2 _ rfl, hS.2.1.2 3 _ rfl, hS.2.2.1.2 0 _ rfl, hS.2.2.1.2 1 _ rfl, hS.2.2.1.2 2 _ rfl⟩ : _ ∧ _ ∧ _ ∧ _ ∧ _ ∧ _ ∧ _); obtain ⟨s0, s1, s2, s3, s4, s5⟩ := (⟨hS.2.2.2.1.2 0 _ rfl, hS.2.2.2.1.2 1 _ rfl, hS.2.2.2.1.2 2 _ rfl, hS.2.2.2.1.2 3 _ rfl, hS.2.2.2.1.2 4 _ rfl, hS.2.2.2.1.2 5 _ rfl⟩ : _ ∧ _ ∧ _ ∧ _ ∧ _ ∧ _); obtain ⟨t0, t1, t2⟩ := (⟨hS.2.2.2.2.1.2 0 _ rfl, hS.2.2.2.2.1.2 1 _ rfl, hS.2.2.2.2.1.2 2 _ rfl⟩ : _ ∧ _ ∧ _); obtain ⟨u0, u1, u2, u3, u4, u5⟩ := (⟨hS.2.2.2.2.2.2 0 _ rfl, hS.2.2.2.2.2.2 1 _ rfl, hS.2.2.2.2.2.2 2 _ rfl, hS.2.2.2.2.2.2 3 _ rfl, hS.2.2.2.2.2.2 4 _ rfl, hS.2.2.2.2.2.2 5 _ rfl⟩ : _ ∧ _ ∧ _ ∧ _ ∧ _ ∧ _)
            clear hd hE
            try clear hS
            go_wp2
            exact Ext.refl _
          case ha => rfl
          apply wpLoose_val rfl rfl
          case hs =>
            intro w1 hC hd Q1 hQ1
            obtain ⟨hE, hS⟩ := hC
            dsimp only [bare]
            obtain ⟨p0, p1, p2, p3, p4, p5⟩ := (⟨hS.1.2 0 _ rfl, hS.1.2 1 _ rfl, hS.1.2 2 _ rfl, hS.1.2 3 _ rfl, hS.1.2 4 _ rfl, hS.1.2 5 _ rfl⟩ : _ ∧ _ ∧ _ ∧ _ ∧ _ ∧ _); obtain ⟨q0, q1, q2, q3, q4, q5, q6⟩ := (⟨hS.2.1.2 0 _ rfl, hS.2.1.2 1 _ rfl, hS.2.1.2 2 _ rfl, hS.2.1.2 3 _ rfl, hS.2.2.1.2 0 _ rfl, hS.2.2.1.2 1 _ rfl, hS.2.2.1.2 2 _ rfl⟩ : _ ∧ _ ∧ _ ∧ _ ∧ _ ∧ _ ∧ _); obtain ⟨s0, s1, s2, s3, s4, s5⟩ := (⟨hS.2.2.2.1.2 0 _ rfl, hS.2.2.2.1.2 1 _ rfl, hS.2.2.2.1.2 2 _ rfl, hS.2.2.2.1.2 3 _ rfl, hS.2.2.2.1.2 4 _ rfl, hS.2.2.2.1.2 5 _ rfl⟩ : _ ∧ _ ∧ _ ∧ _ ∧ _ ∧ _); obtain ⟨t0, t1, t2⟩ := (⟨hS.2.2.2.2.1.2 0 _ rfl, hS.2.2.2.2.1.2 1 _ rfl, hS.2.2.2.2.1.2 2 _ rfl⟩ : _ ∧ _ ∧ _); obtain ⟨u0, u1, u2, u3, u4, u5⟩ := (⟨hS.2.2.2.2.2.2 0 _ rfl, hS.2.2.2.2.2.2 1 _ rfl, hS.2.2.2.2.2.2 2 _ rfl, hS.2.2.2.2.2.2 3 _ rfl, hS.2.2.2.2.2.2 4 _ rfl, hS.2.2.2.2.2.2 5 _ rfl⟩ : _ ∧ _ ∧ _ ∧ _ ∧ _ ∧ _)
            clear hd hE
            try clear hS
            go_wp2
            exact Ext.refl _
          case ha => rfl
          apply wpLoose_val rfl rfl
          case hs =>
            intro w1 hC hd Q1 hQ1
            obtain ⟨hE, hS⟩ := hC
            dsimp only [bare]
            obtain ⟨p0, p1, p2, p3, p4, p5⟩ := (⟨hS.1.2 0 _ rfl, hS.1.2 1 _ rfl, hS.1.2 2 _ rfl, hS.1.2 3 _ rfl, hS.1.2 4 _ rfl, hS.1.2 5 _ rfl⟩ : _ ∧ _ ∧ _ ∧ _ ∧ _ ∧ _); obtain ⟨q0, q1, q2, q3, q4, q5, q6⟩ := (⟨hS.2.1.2 0 _ rfl, hS.2.1.2 1 _ rfl, hS.2.1.2 2 _ rfl, hS.2.1.2 3 _ rfl, hS.2.2.1.2 0 _ rfl, hS.2.2.1.2 1 _ rfl, hS.2.2.1.2 2 _ rfl⟩ : _ ∧ _ ∧ _ ∧ _ ∧ _ ∧ _ ∧ _); obtain ⟨s0, s1, s2, s3, s4, s5⟩ := (⟨hS.2.2.2.1.2 0 _ rfl, hS.2.2.2.1.2 1 _ rfl, hS.2.2.2.1.2 2 _ rfl, hS.2.2.2.1.2 3 _ rfl, hS.2.2.2.1.2 4 _ rfl, hS.2.2.2.1.2 5 _ rfl⟩ : _ ∧ _ ∧ _ ∧ _ ∧ _ ∧ _); obtain ⟨t0, t1, t2⟩ := (⟨hS.2.2.2.2.1.2 0 _ rfl, hS.2.2.2.2.1.2 1 _ rfl, hS.2.2.2.2.1.2 2 _ rfl⟩ : _ ∧ _ ∧ _); obtain ⟨u0, u1, u2, u3, u4, u5⟩ := (⟨hS.2.2.2.2.2.2 0 _ rfl, hS.2.2.2.2.2.2 1 _ rfl, hS.2.2.2.2.2.2 2 _ rfl, hS.2.2.2.2.2.2 3 _ rfl, hS.2.2.2.2.2.2 4 _ rfl, hS.2.2.2.2.2.2 5 _ rfl⟩ : _ ∧ _ ∧ _ ∧ _ ∧ _ ∧ _)
            clear hd hE
            try clear hS
            go_wp2
            exact Ext.refl _
          case ha => rfl
          apply wpLoose_val rfl rfl
          case hs =>
            intro w1 hC hd Q1 hQ1
            obtain ⟨hE, hS⟩ := hC
            dsimp only [bare]
            clear hd
            go_wp2_with fail
            refine (HRU.out _ (H14.out.1.drew.trans hE)).mono ?_
            rintro e w2 ⟨rfl, hb⟩
            go_wp2_with fail
            exact hb
          case ha => rfl
          apply wpLoose_val rfl rfl
          case hs =>
            intro w1 hC hd Q1 hQ1
            obtain ⟨hE, hS⟩ := hC
            dsimp only [bare]
            obtain ⟨p0, p1, p2, p3, p4, p5⟩ := (⟨hS.1.2 0 _ rfl, hS.1.2 1 _ rfl, hS.1.2 2 _ rfl, hS.1.2 3 _ rfl, hS.1.2 4 _ rfl, hS.1.2 5 _ rfl⟩ : _ ∧ _ ∧ _ ∧ _ ∧ _ ∧ _); obtain ⟨q0, q1, q2, q3, q4, q5, q6⟩ := (⟨hS.2.1.2 0 _ rfl, hS.2.1.2 1 _ rfl, hS.2.1.2 2 _ rfl, hS.2.1.2 3 _ rfl, hS.2.2.1.2 0 _ rfl, hS.2.2.1.2 1 _ rfl, hS.2.2.1.2 2 _ rfl⟩ : _ ∧ _ ∧ _ ∧ _ ∧ _ ∧ _ ∧ _); obtain ⟨s0, s1, s2, s3, s4, s5⟩ := (⟨hS.2.2.2.1.2 0 _ rfl, hS.2.2.2.1.2 1 _ rfl, hS.2.2.2.1.2 2 _ rfl, hS.2.2.2.1.2 3 _ rfl, hS.2.2.2.1.2 4 _ rfl, hS.2.2.2.1.2 5 _ rfl⟩ : _ ∧ _ ∧ _ ∧ _ ∧ _ ∧ _); obtain ⟨t0, t1, t2⟩ := (⟨hS.2.2.2.2.1.2 0 _ rfl, hS.2.2.2.2.1.2 1 _ rfl, hS.2.2.2.2.1.2 2 _ rfl⟩ : _ ∧ _ ∧ _); obtain ⟨u0, u1, u2, u3, u4, u5⟩ := (⟨hS.2.2.2.2.2.2 0 _ rfl, hS.2.2.2.2.2.2 1 _ rfl, hS.2.2.2.2.2.2 2 _ rfl, hS.2.2.2.2.2.2 3 _ rfl, hS.2.2.2.2.2.2 4 _ rfl, hS.2.2.2.2.2.2 5 _ rfl⟩ : _ ∧ _ ∧ _ ∧ _ ∧ _ ∧ _)
            clear hd hE
            try clear hS
            go_wp2
            exact Ext.refl _
          case ha => rfl
          apply wpLoose_val rfl rfl
          case hs =>
            intro w1 hC hd Q1 hQ1
            obtain ⟨hE, hS⟩ := hC
            dsimp only [bare]
            obtain ⟨p0, p1, p2, p3, p4, p5⟩ := (⟨hS.1.2 0 _ rfl, hS.1.2 1 _ rfl, hS.1.2 2 _ rfl, hS.1.2 3 _ rfl, hS.1.2 4 _ rfl, hS.1.2 5 _ rfl⟩ : _ ∧ _ ∧ _ ∧ _ ∧ _ ∧ _); obtain ⟨q0, q1, q2, q3, q4, q5, q6⟩ := (⟨hS.2.1.2 0 _ rfl, hS.2.1.2 1 _ rfl, hS.2.1.2 2 _ rfl, hS.2.1.2 3 _ rfl, hS.2.2.1.2 0 _ rfl, hS.2.2.1.2 1 _ rfl, hS.2.2.1.2 2 _ rfl⟩ : _ ∧ _ ∧ _ ∧ _ ∧ _ ∧ _ ∧ _); obtain ⟨s0, s1, s2, s3, s4, s5⟩ := (⟨hS.2.2.2.1.2 0 _ rfl, hS.2.2.2.1.2 1 _ rfl, hS.2.2.2.1.2 2 _ rfl, hS.2.2.2.1.2 3 _ rfl, hS.2.2.2.1.2 4 _ rfl, hS.2.2.2.1.2 5 _ rfl⟩ : _ ∧ _ ∧ _ ∧ _ ∧ _ ∧ _); obtain ⟨t0, t1, t2⟩ := (⟨hS.2.2.2.2.1.2 0 _ rfl, hS.2.2.2.2.1.2 1 _ rfl, hS.2.2.2.2.1.2 2 _ rfl⟩ : _ ∧ _ ∧ _); obtain ⟨u0, u1, u2, u3, u4, u5⟩ := (⟨hS.2.2.2.2.2.2 0 _ rfl, hS.2.2.2.2.2.2 1 _ rfl, hS.2.2.2.2.2.2 2 _ rfl, hS.2.2.2.2.2.2 3 _ rfl, hS.2.2.2.2.2.2 4 _ rfl, hS.2.2.2.2.2.2 5 _ rfl⟩ : _ ∧ _ ∧ _ ∧ _ ∧ _ ∧ _)
            clear hd hE
            try clear hS
            go_wp2
            exact Ext.refl _
          case ha => rfl
          apply wpLoose_val rfl rfl
          case hs =>
            intro w1 hC hd Q1 hQ1
            obtain ⟨hE, hS⟩ := hC
            dsimp only [bare]
            obtain ⟨p0, p1, p2, p3, p4, p5⟩ := (⟨hS.1.2 0 _ rfl, hS.1.2 1 _ rfl, hS.1.2 2 _ rfl, hS.1.2 3 _ rfl, hS.1.2 4 _ rfl, hS.1.2 5 _ rfl⟩ : _ ∧ _ ∧ _ ∧ _ ∧ _ ∧ _); obtain ⟨q0, q1, q2, q3, q4, q5, q6⟩ := (⟨hS.2.1.2 0 _ rfl, hS.2.1.2 1 _ rfl, hS.2.1.2 2 _ rfl, hS.2.1.2 3 _ rfl, hS.2.2.1.2 0 _ rfl, hS.2.2.1.2 1 _ rfl, hS.2.2.1.2 2 _ rfl⟩ : _ ∧ _ ∧ _ ∧ _ ∧ _ ∧ _ ∧ _); obtain ⟨s0, s1, s2, s3, s4, s5⟩ := (⟨hS.2.2.2.1.2 0 _ rfl, hS.2.2.2.1.2 1 _ rfl, hS.2.2.2.1.2 2 _ rfl, hS.2.2.2.1.2 3 _ rfl, hS.2.2.2.1.2 4 _ rfl, hS.2.2.2.1.2 5 _ rfl⟩ : _ ∧ _ ∧ _ ∧ _ ∧ _ ∧ _); obtain ⟨t0, t1, t2⟩ := (⟨hS.2.2.2.2.1.2 0 _ rfl, hS.2.2.2.2.1.2 1 _ rfl, hS.2.2.2.2.1.2 2 _ rfl⟩ : _ ∧ _ ∧ _); obtain ⟨u0, u1, u2, u3, u4, u5⟩ := (⟨hS.2.2.2.2.2.2 0 _ rfl, hS.2.2.2.2.2.2 1 _ rfl, hS.2.2.2.2.2.2 2 _ rfl, hS.2.2.2.2.2.2 3 _ rfl, hS.2.2.2.2.2.2 4 _ rfl, hS.2.2.2.2.2.2 5 _ rfl⟩ : _ ∧ _ ∧ _ ∧ _ ∧ _ ∧ _)
            clear hd hE
            try clear hS
            go_wp2
            exact Ext.refl _
          case ha => rfl
          apply wpLoose_val rfl rfl
          case hs =>
            intro w1 hC hd Q1 hQ1
            obtain ⟨hE, hS⟩ := hC
            dsimp only [bare]
            obtain ⟨p0, p1, p2, p3, p4, p5⟩ := (⟨hS.1.2 0 _ rfl, hS.1.2 1 _ rfl, hS.1.2 2 _ rfl, hS.1.2 3 _ rfl, hS.1.2 4 _ rfl, hS.1.2 5 _ rfl⟩ : _ ∧ _ ∧ _ ∧ _ ∧ _ ∧ _); obtain ⟨q0, q1, q2, q3, q4, q5, q6⟩ := (⟨hS.2.1.2 0 _ rfl, hS.2.1.2 1 _ rfl, hS.2.1.2 2 _ rfl, hS.2.1.2 3 _ rfl, hS.2.2.1.2 0 _ rfl, hS.2.2.1.2 1 _ rfl, hS.2.2.1.2 2 _ rfl⟩ : _ ∧ _ ∧ _ ∧ _ ∧ _ ∧ _ ∧ _); obtain ⟨s0, s1, s2, s3, s4, s5⟩ := (⟨hS.2.2.2.1.2 0 _ rfl, hS.2.2.2.1.2 1 _ rfl, hS.2.2.2.1.2 2 _ rfl, hS.2.2.2.1.2 3 _ rfl, hS.2.2.2.1.2 4 _ rfl, hS.2.2.2.1.2 5 _ rfl⟩ : _ ∧ _ ∧ _ ∧ _ ∧ _ ∧ _); obtain ⟨t0, t1, t2⟩ := (⟨hS.2.2.2.2.1.2 0 _ rfl, hS.2.2.2.2.1.2 1 _ rfl, hS.2.2.2.2.1.2 2 _ rfl⟩ : _ ∧ _ ∧ _); obtain ⟨u0, u1, u2, u3, u4, u5⟩ := (⟨hS.2.2.2.2.2.2 0 _ rfl, hS.2.2.2.2.2.2 1 _ rfl, hS.2.2.2.2.2.2 2 _ rfl, hS.2.2.2.2.2.2 3 _ rfl, hS.2.2.2.2.2.2 4 _ rfl, hS.2.2.2.2.2.2 5 _ rfl⟩ : _ ∧ _ ∧ _ ∧ _ ∧ _ ∧ _)
            clear hd hE
            try clear hS
            go_wp2
            exact Ext.refl _
          case ha => rfl
          apply wpLoose_val rfl rfl
          case hs =>
            intro w1 hC hd Q1 hQ1
            obtain ⟨hE, hS⟩ := hC
            dsimp only [bare]
            obtain ⟨p0, p1, p2, p3, p4, p5⟩ := (⟨hS.1.2 0 _ rfl, hS.1.2 1 _ rfl, hS.1.2 2 _ rfl, hS.1.2 3 _ rfl, hS.1.2 4 _ rfl, hS.1.2 5 _ rfl⟩ : _ ∧ _ ∧ _ ∧ _ ∧ _ ∧ _); obtain ⟨q0, q1, q2, q3, q4, q5, q6⟩ := (⟨hS.2.1.2 0 _ rfl, hS.2.1.2 1 _ rfl, hS.2.1.2 2 _ rfl, hS.2.1.2 3 _ rfl, hS.2.2.1.2 0 _ rfl, hS.2.2.1.2 1 _ rfl, hS.2.2.1.2 2 _ rfl⟩ : _ ∧ _ ∧ _ ∧ _ ∧ _ ∧ _ ∧ _); obtain ⟨s0, s1, s2, s3, s4, s5⟩ := (⟨hS.2.2.2.1.2 0 _ rfl, hS.2.2.2.1.2 1 _ rfl, hS.2.2.2.1.2 2 _ rfl, hS.2.2.2.1.2 3 _ rfl, hS.2.2.2.1.2 4 _ rfl, hS.2.2.2.1.2 5 _ rfl⟩ : _ ∧ _ ∧ _ ∧ _ ∧ _ ∧ _); obtain ⟨t0, t1, t2⟩ := (⟨hS.2.2.2.2.1.2 0 _ rfl, hS.2.2.2.2.1.2 1 _ rfl, hS.2.2.2.2.1.2 2 _ rfl⟩ : _ ∧ _ ∧ _); obtain ⟨u0, u1, u2, u3, u4, u5⟩ := (⟨hS.2.2.2.2.2.2 0 _ rfl, hS.2.2.2.2.2.2 1 _ rfl, hS.2.2.2.2.2.2 2 _ rfl, hS.2.2.2.2.2.2 3 _ rfl, hS.2.2.2.2.2.2 4 _ rfl, hS.2.2.2.2.2.2 5 _ rfl⟩ : _ ∧ _ ∧ _ ∧ _ ∧ _ ∧ _)
            clear hd hE
            try clear hS
            go_wp2
            exact Ext.refl _
          case ha => rfl
          apply wpLoose_val rfl rfl
          case hs =>
            intro w1 hC hd Q1 hQ1
            obtain ⟨hE, hS⟩ := hC
            dsimp only [bare]
            obtain ⟨p0, p1, p2, p3, p4, p5⟩ := (⟨hS.1.2 0 _ rfl, hS.1.2 1 _ rfl, hS.1.2 2 _ rfl, hS.1.2 3 _ rfl, hS.1.2 4 _ rfl, hS.1.2 5 _ rfl⟩ : _ ∧ _ ∧ _ ∧ _ ∧ _ ∧ _); obtain ⟨q0, q1, q2, q3, q4, q5, q6⟩ := (⟨hS.2.1.2 0 _ rfl, hS.2.1.2 1 _ rfl, hS.2.1.2 2 _ rfl, hS.2.1.2 3 _ rfl, hS.2.2.1.2 0 _ rfl, hS.2.2.1.2 1 _ rfl, hS.2.2.1.2 2 _ rfl⟩ : _ ∧ _ ∧ _ ∧ _ ∧ _ ∧ _ ∧ _); obtain ⟨s0, s1, s2, s3, s4, s5⟩ := (⟨hS.2.2.2.1.2 0 _ rfl, hS.2.2.2.1.2 1 _ rfl, hS.2.2.2.1.2 2 _ rfl, hS.2.2.2.1.2 3 _ rfl, hS.2.2.2.1.2 4 _ rfl, hS.2.2.2.1.2 5 _ rfl⟩ : _ ∧ _ ∧ _ ∧ _ ∧ _ ∧ _); obtain ⟨t0, t1, t2⟩ := (⟨hS.2.2.2.2.1.2 0 _ rfl, hS.2.2.2.2.1.2 1 _ rfl, hS.2.2.2.2.1.2 2 _ rfl⟩ : _ ∧ _ ∧ _); obtain ⟨u0, u1, u2, u3, u4, u5⟩ := (⟨hS.2.2.2.2.2.2 0 _ rfl, hS.2.2.2.2.2.2 1 _ rfl, hS.2.2.2.2.2.2 2 _ rfl, hS.2.2.2.2.2.2 3 _ rfl, hS.2.2.2.2.2.2 4 _ rfl, hS.2.2.2.2.2.2 5 _ rfl⟩ : _ ∧ _ ∧ _ ∧ _ ∧ _ ∧ _)
            clear hd hE
            try clear hS
            go_wp2
            exact Ext.refl _
          case ha => rfl
          apply wpLoose_val rfl rfl
          case hs =>
            intro w1 hC hd Q1 hQ1
            obtain ⟨hE, hS⟩ := hC
            dsimp only [bare]
            clear hd
            go_wp2_with fail
            refine (HCI.out _ (H14.out.2.1.drew.trans hE)).mono ?_
            rintro e w2 ⟨rfl, hb⟩
            go_wp2_with fail
            exact hb
          case ha => rfl
          apply wpLoose_val rfl rfl
          case hs =>
            intro w1 hC hd Q1 hQ1
            obtain ⟨hE, hS⟩ := hC
            dsimp only [bare]
            obtain ⟨p0, p1, p2, p3, p4, p5⟩ := (⟨hS.1.2 0 _ rfl, hS.1.2 1 _ rfl, hS.1.2 2 _ rfl, hS.1.2 3 _ rfl, hS.1.2 4 _ rfl, hS.1.2 5 _ rfl⟩ : _ ∧ _ ∧ _ ∧ _ ∧ _ ∧ _); obtain ⟨q0, q1, q2, q3, q4, q5, q6⟩ := (⟨hS.2.1.2 0 _ rfl, hS.2.1.2 1 _ rfl, hS.2.1.2 2 _ rfl, hS.2.1.2 3 _ rfl, hS.2.2.1.2 0 _ rfl, hS.2.2.1.2 1 _ rfl, hS.2.2.1.2 2 _ rfl⟩ : _ ∧ _ ∧ _ ∧ _ ∧ _ ∧ _ ∧ _); obtain ⟨s0, s1, s2, s3, s4, s5⟩ := (⟨hS.2.2.2.1.2 0 _ rfl, hS.2.2.2.1.2 1 _ rfl, hS.2.2.2.1.2 2 _ rfl, hS.2.2.2.1.2 3 _ rfl, hS.2.2.2.1.2 4 _ rfl, hS.2.2.2.1.2 5 _ rfl⟩ : _ ∧ _ ∧ _ ∧ _ ∧ _ ∧ _); obtain ⟨t0, t1, t2⟩ := (⟨hS.2.2.2.2.1.2 0 _ rfl, hS.2.2.2.2.1.2 1 _ rfl, hS.2.2.2.2.1.2 2 _ rfl⟩ : _ ∧ _ ∧ _); obtain ⟨u0, u1, u2, u3, u4, u5⟩ := (⟨hS.2.2.2.2.2.2 0 _ rfl, hS.2.2.2.2.2.2 1 _ rfl, hS.2.2.2.2.2.2 2 _ rfl, hS.2.2.2.2.2.2 3 _ rfl, hS.2.2.2.2.2.2 4 _ rfl, hS.2.2.2.2.2.2 5 _ rfl⟩ : _ ∧ _ ∧ _ ∧ _ ∧ _ ∧ _)
            clear hd hE
            try clear hS
            go_wp2
            exact Ext.refl _
          case ha => rfl
          apply wpLoose_val rfl rfl
          case hs =>
            intro w1 hC hd Q1 hQ1
            obtain ⟨hE, hS⟩ := hC
            dsimp only [bare]
            obtain ⟨p0, p1, p2, p3, p4, p5⟩ := (⟨hS.1.2 0 _ rfl, hS.1.2 1 _ rfl, hS.1.2 2 _ rfl, hS.1.2 3 _ rfl, hS.1.2 4 _ rfl, hS.1.2 5 _ rfl⟩ : _ ∧ _ ∧ _ ∧ _ ∧ _ ∧ _); obtain ⟨q0, q1, q2, q3, q4, q5, q6⟩ := (⟨hS.2.1.2 0 _ rfl, hS.2.1.2 1 _ rfl, hS.2.1.2 2 _ rfl, hS.2.1.2 3 _ rfl, hS.2.2.1.2 0 _ rfl, hS.2.2.1.2 1 _ rfl, hS.2.2.1.2 2 _ rfl⟩ : _ ∧ _ ∧ _ ∧ _ ∧ _ ∧ _ ∧ _); obtain ⟨s0, s1, s2, s3, s4, s5⟩ := (⟨hS.2.2.2.1.2 0 _ rfl, hS.2.2.2.1.2 1 _ rfl, hS.2.2.2.1.2 2 _ rfl, hS.2.2.2.1.2 3 _ rfl, hS.2.2.2.1.2 4 _ rfl, hS.2.2.2.1.2 5 _ rfl⟩ : _ ∧ _ ∧ _ ∧ _ ∧ _ ∧ _); obtain ⟨t0, t1, t2⟩ := (⟨hS.2.2.2.2.1.2 0 _ rfl, hS.2.2.2.2.1.2 1 _ rfl, hS.2.2.2.2.1.2 2 _ rfl⟩ : _ ∧ _ ∧ _); obtain ⟨u0, u1, u2, u3, u4, u5⟩ := (⟨hS.2.2.2.2.2.2 0 _ rfl, hS.2.2.2.2.2.2 1 _ rfl, hS.2.2.2.2.2.2 2 _ rfl, hS.2.2.2.2.2.2 3 _ rfl, hS.2.2.2.2.2.2 4 _ rfl, hS.2.2.2.2.2.2 5 _ rfl⟩ : _ ∧ _ ∧ _ ∧ _ ∧ _ ∧ _)
            clear hd hE
            try clear hS
            go_wp2
            exact Ext.refl _
          case ha => rfl
          apply wpLoose_val rfl rfl
          case hs =>
            intro w1 hC hd Q1 hQ1
            obtain ⟨hE, hS⟩ := hC
            dsimp only [bare]
            clear hd
            go_wp2_with fail
            refine (HCS.out _ (H14.out.2.1.drew.trans hE)).mono ?_
            rintro e w2 ⟨rfl, hb⟩
            go_wp2_with fail
            exact hb
          case ha => rfl
          apply wpLoose_val rfl rfl
          case hs =>
            intro w1 hC hd Q1 hQ1
            obtain ⟨hE, hS⟩ := hC
            dsimp only [bare]
            obtain ⟨p0, p1, p2, p3, p4, p5⟩ := (⟨hS.1.2 0 _ rfl, hS.1.2 1 _ rfl, hS.1.2 2 _ rfl, hS.1.2 3 _ rfl, hS.1.2 4 _ rfl, hS.1.2 5 _ rfl⟩ : _ ∧ _ ∧ _ ∧ _ ∧ _ ∧ _); obtain ⟨q0, q1, q2, q3, q4, q5, q6⟩ := (⟨hS.2.1.2 0 _ rfl, hS.2.1.2 1 _ rfl, hS.2.1.2 2 _ rfl, hS.2.1.2 3 _ rfl, hS.2.2.1.2 0 _ rfl, hS.2.2.1.2 1 _ rfl, hS.2.2.1.2 2 _ rfl⟩ : _ ∧ _ ∧ _ ∧ _ ∧ _ ∧ _ ∧ _); obtain ⟨s0, s1, s2, s3, s4, s5⟩ := (⟨hS.2.2.2.1.2 0 _ rfl, hS.2.2.2.1.2 1 _ rfl, hS.2.2.2.1.2 2 _ rfl, hS.2.2.2.1.2 3 _ rfl, hS.2.2.2.1.2 4 _ rfl, hS.2.2.2.1.2 5 _ rfl⟩ : _ ∧ _ ∧ _ ∧ _ ∧ _ ∧ _); obtain ⟨t0, t1, t2⟩ := (⟨hS.2.2.2.2.1.2 0 _ rfl, hS.2.2.2.2.1.2 1 _ rfl, hS.2.2.2.2.1.2 2 _ rfl⟩ : _ ∧ _ ∧ _); obtain ⟨u0, u1, u2, u3, u4, u5⟩ := (⟨hS.2.2.2.2.2.2 0 _ rfl, hS.2.2.2.2.2.2 1 _ rfl, hS.2.2.2.2.2.2 2 _ rfl, hS.2.2.2.2.2.2 3 _ rfl, hS.2.2.2.2.2.2 4 _ rfl, hS.2.2.2.2.2.2 5 _ rfl⟩ : _ ∧ _ ∧ _ ∧ _ ∧ _ ∧ _)
            clear hd hE
            try clear hS
            go_wp2
            exact Ext.refl _
          case ha => rfl
          apply wpLoose_val rfl rfl
          case hs =>
            intro w1 hC hd Q1 hQ1
            obtain ⟨hE, hS⟩ := hC
            dsimp only [bare]
            obtain ⟨p0, p1, p2, p3, p4, p5⟩ := (⟨hS.1.2 0 _ rfl, hS.1.2 1 _ rfl, hS.1.2 2 _ rfl, hS.1.2 3 _ rfl, hS.1.2 4 _ rfl, hS.1.2 5 _ rfl⟩ : _ ∧ _ ∧ _ ∧ _ ∧ _ ∧ _); obtain ⟨q0, q1, q2, q3, q4, q5, q6⟩ := (⟨hS.2.1.2 0 _ rfl, hS.2.1.2 1 _ rfl, hS.2.1.2 2 _ rfl, hS.2.1.2 3 _ rfl, hS.2.2.1.2 0 _ rfl, hS.2.2.1.2 1 _ rfl, hS.2.2.1.2 2 _ rfl⟩ : _ ∧ _ ∧ _ ∧ _ ∧ _ ∧ _ ∧ _); obtain ⟨s0, s1, s2, s3, s4, s5⟩ := (⟨hS.2.2.2.1.2 0 _ rfl, hS.2.2.2.1.2 1 _ rfl, hS.2.2.2.1.2 2 _ rfl, hS.2.2.2.1.2 3 _ rfl, hS.2.2.2.1.2 4 _ rfl, hS.2.2.2.1.2 5 _ rfl⟩ : _ ∧ _ ∧ _ ∧ _ ∧ _ ∧ _); obtain ⟨t0, t1, t2⟩ := (⟨hS.2.2.2.2.1.2 0 _ rfl, hS.2.2.2.2.1.2 1 _ rfl, hS.2.2.2.2.1.2 2 _ rfl⟩ : _ ∧ _ ∧ _); obtain ⟨u0, u1, u2, u3, u4, u5⟩ := (⟨hS.2.2.2.2.2.2 0 _ rfl, hS.2.2.2.2.2.2 1 _ rfl, hS.2.2.2.2.2.2 2 _ rfl, hS.2.2.2.2.2.2 3 _ rfl, hS.2.2.2.2.2.2 4 _ rfl, hS.2.2.2.2.2.2 5 _ rfl⟩ : _ ∧ _ ∧ _ ∧ _ ∧ _ ∧ _)
            clear hd hE
            try clear hS
            go_wp2
            exact Ext.refl _
          case ha => rfl
          apply wpLoose_val rfl rfl
          case hs =>
            intro w1 hC hd Q1 hQ1
            obtain ⟨hE, hS⟩ := hC
            dsimp only [bare]
            obtain ⟨p0, p1, p2, p3, p4, p5⟩ := (⟨hS.1.2 0 _ rfl, hS.1.2 1 _ rfl, hS.1.2 2 _ rfl, hS.1.2 3 _ rfl, hS.1.2 4 _ rfl, hS.1.2 5 _ rfl⟩ : _ ∧ _ ∧ _ ∧ _ ∧ _ ∧ _); obtain ⟨q0, q1, q2, q3, q4, q5, q6⟩ := (⟨hS.2.1.2 0 _ rfl, hS.2.1.2 1 _ rfl, hS.2.1.2 2 _ rfl, hS.2.1.2 3 _ rfl, hS.2.2.1.2 0 _ rfl, hS.2.2.1.2 1 _ rfl, hS.2.2.1.2 2 _ rfl⟩ : _ ∧ _ ∧ _ ∧ _ ∧ _ ∧ _ ∧ _); obtain ⟨s0, s1, s2, s3, s4, s5⟩ := (⟨hS.2.2.2.1.2 0 _ rfl, hS.2.2.2.1.2 1 _ rfl, hS.2.2.2.1.2 2 _ rfl, hS.2.2.2.1.2 3 _ rfl, hS.2.2.2.1.2 4 _ rfl, hS.2.2.2.1.2 5 _ rfl⟩ : _ ∧ _ ∧ _ ∧ _ ∧ _ ∧ _); obtain ⟨t0, t1, t2⟩ := (⟨hS.2.2.2.2.1.2 0 _ rfl, hS.2.2.2.2.1.2 1 _ rfl, hS.2.2.2.2.1.2 2 _ rfl⟩ : _ ∧ _ ∧ _); obtain ⟨u0, u1, u2, u3, u4, u5⟩ := (⟨hS.2.2.2.2.2.2 0 _ rfl, hS.2.2.2.2.2.2 1 _ rfl, hS.2.2.2.2.2.2 2 _ rfl, hS.2.2.2.2.2.2 3 _ rfl, hS.2.2.2.2.2.2 4 _ rfl, hS.2.2.2.2.2.2 5 _ rfl⟩ : _ ∧ _ ∧ _ ∧ _ ∧ _ ∧ _)
            clear hd hE
            try clear hS
            go_wp2
            exact Ext.refl _
          case ha => rfl
          apply wpLoose_val rfl rfl
          case hs =>
            intro w1 hC hd Q1 hQ1
            obtain ⟨hE, hS⟩ := hC
            dsimp only [bare]
            obtain ⟨p0, p1, p2, p3, p4, p5⟩ := (⟨hS.1.2 0 _ rfl, hS.1.2 1 _ rfl, hS.1.2 2 _ rfl, hS.1.2 3 _ rfl, hS.1.2 4 _ rfl, hS.1.2 5 _ rfl⟩ : _ ∧ _ ∧ _ ∧ _ ∧ _ ∧ _); obtain ⟨q0, q1, q2, q3, q4, q5, q6⟩ := (⟨hS.2.1.2 0 _ rfl, hS.2.1.2 1 _ rfl, hS.2.1.2 2 _ rfl, hS.2.1.2 3 _ rfl, hS.2.2.1.2 0 _ rfl, hS.2.2.1.2 1 _ rfl, hS.2.2.1.2 2 _ rfl⟩ : _ ∧ _ ∧ _ ∧ _ ∧ _ ∧ _ ∧ _); obtain ⟨s0, s1, s2, s3, s4, s5⟩ := (⟨hS.2.2.2.1.2 0 _ rfl, hS.2.2.2.1.2 1 _ rfl, hS.2.2.2.1.2 2 _ rfl, hS.2.2.2.1.2 3 _ rfl, hS.2.2.2.1.2 4 _ rfl, hS.2.2.2.1.2 5 _ rfl⟩ : _ ∧ _ ∧ _ ∧ _ ∧ _ ∧ _); obtain ⟨t0, t1, t2⟩ := (⟨hS.2.2.2.2.1.2 0 _ rfl, hS.2.2.2.2.1.2 1 _ rfl, hS.2.2.2.2.1.2 2 _ rfl⟩ : _ ∧ _ ∧ _); obtain ⟨u0, u1, u2, u3, u4, u5⟩ := (⟨hS.2.2.2.2.2.2 0 _ rfl, hS.2.2.2.2.2.2 1 _ rfl, hS.2.2.2.2.2.2 2 _ rfl, hS.2.2.2.2.2.2 3 _ rfl, hS.2.2.2.2.2.2 4 _ rfl, hS.2.2.2.2.2.2 5 _ rfl⟩ : _ ∧ _ ∧ _ ∧ _ ∧ _ ∧ _)
            clear hd hE
            try clear hS
            go_wp2
            exact Ext.refl _
          case ha => rfl
          apply wpLoose_val rfl rfl
          case hs =>
            intro w1 hC hd Q1 hQ1
            obtain ⟨hE, hS⟩ := hC
            dsimp only [bare]
            clear hd
            go_wp2_with fail
            refine (HKI.out _).mono ?_
            rintro e w2 ⟨rfl, hb⟩
            go_wp2_with fail
            exact hb
          case ha => rfl
          apply wpLoose_val rfl rfl
          case hs =>
            intro w1 hC hd Q1 hQ1
            obtain ⟨hE, hS⟩ := hC
            dsimp only [bare]
            obtain ⟨p0, p1, p2, p3, p4, p5⟩ := (⟨hS.1.2 0 _ rfl, hS.1.2 1 _ rfl, hS.1.2 2 _ rfl, hS.1.2 3 _ rfl, hS.1.2 4 _ rfl, hS.1.2 5 _ rfl⟩ : _ ∧ _ ∧ _ ∧ _ ∧ _ ∧ _); obtain ⟨q0, q1, q2, q3, q4, q5, q6⟩ := (⟨hS.2.1.2 0 _ rfl, hS.2.1.2 1 _ rfl, hS.2.1.2 2 _ rfl, hS.2.1.2 3 _ rfl, hS.2.2.1.2 0 _ rfl, hS.2.2.1.2 1 _ rfl, hS.2.2.1.2 2 _ rfl⟩ : _ ∧ _ ∧ _ ∧ _ ∧ _ ∧ _ ∧ _); obtain ⟨s0, s1, s2, s3, s4, s5⟩ := (⟨hS.2.2.2.1.2 0 _ rfl, hS.2.2.2.1.2 1 _ rfl, hS.2.2.2.1.2 2 _ rfl, hS.2.2.2.1.2 3 _ rfl, hS.2.2.2.1.2 4 _ rfl, hS.2.2.2.1.2 5 _ rfl⟩ : _ ∧ _ ∧ _ ∧ _ ∧ _ ∧ _); obtain ⟨t0, t1, t2⟩ := (⟨hS.2.2.2.2.1.2 0 _ rfl, hS.2.2.2.2.1.2 1 _ rfl, hS.2.2.2.2.1.2 2 _ rfl⟩ : _ ∧ _ ∧ _); obtain ⟨u0, u1, u2, u3, u4, u5⟩ := (⟨hS.2.2.2.2.2.2 0 _ rfl, hS.2.2.2.2.2.2 1 _ rfl, hS.2.2.2.2.2.2 2 _ rfl, hS.2.2.2.2.2.2 3 _ rfl, hS.2.2.2.2.2.2 4 _ rfl, hS.2.2.2.2.2.2 5 _ rfl⟩ : _ ∧ _ ∧ _ ∧ _ ∧ _ ∧ _)
            clear hd hE
            try clear hS
            go_wp2
            exact Ext.refl _
          case ha => rfl
          apply wpLoose_val rfl rfl
          case hs =>
            intro w1 hC hd Q1 hQ1
            obtain ⟨hE, hS⟩ := hC
            dsimp only [bare]
            clear hd
            go_wp2_with fail
            refine (HKS.out _).mono ?_
            rintro e w2 ⟨rfl, hb⟩
            go_wp2_with fail
            exact hb
          case ha => rfl
          apply wpLoose_val rfl rfl
          case hs =>
            intro w1 hC hd Q1 hQ1
            obtain ⟨hE, hS⟩ := hC
            dsimp only [bare]
            obtain ⟨p0, p1, p2, p3, p4, p5⟩ := (⟨hS.1.2 0 _ rfl, hS.1.2 1 _ rfl, hS.1.2 2 _ rfl, hS.1.2 3 _ rfl, hS.1.2 4 _ rfl, hS.1.2 5 _ rfl⟩ : _ ∧ _ ∧ _ ∧ _ ∧ _ ∧ _); obtain ⟨q0, q1, q2, q3, q4, q5, q6⟩ := (⟨hS.2.1.2 0 _ rfl, hS.2.1.2 1 _ rfl, hS.2.1.2 2 _ rfl, hS.2.1.2 3 _ rfl, hS.2.2.1.2 0 _ rfl, hS.2.2.1.2 1 _ rfl, hS.2.2.1.2 2 _ rfl⟩ : _ ∧ _ ∧ _ ∧ _ ∧ _ ∧ _ ∧ _); obtain ⟨s0, s1, s2, s3, s4, s5⟩ := (⟨hS.2.2.2.1.2 0 _ rfl, hS.2.2.2.1.2 1 _ rfl, hS.2.2.2.1.2 2 _ rfl, hS.2.2.2.1.2 3 _ rfl, hS.2.2.2.1.2 4 _ rfl, hS.2.2.2.1.2 5 _ rfl⟩ : _ ∧ _ ∧ _ ∧ _ ∧ _ ∧ _); obtain ⟨t0, t1, t2⟩ := (⟨hS.2.2.2.2.1.2 0 _ rfl, hS.2.2.2.2.1.2 1 _ rfl, hS.2.2.2.2.1.2 2 _ rfl⟩ : _ ∧ _ ∧ _); obtain ⟨u0, u1, u2, u3, u4, u5⟩ := (⟨hS.2.2.2.2.2.2 0 _ rfl, hS.2.2.2.2.2.2 1 _ rfl, hS.2.2.2.2.2.2 2 _ rfl, hS.2.2.2.2.2.2 3 _ rfl, hS.2.2.2.2.2.2 4 _ rfl, hS.2.2.2.2.2.2 5 _ rfl⟩ : _ ∧ _ ∧ _ ∧ _ ∧ _ ∧ _)
            clear hd hE
            try clear hS
            go_wp2
            exact Ext.refl _
          case ha => rfl
          apply wpLoose_val rfl rfl
          case hs =>
            intro w1 hC hd Q1 hQ1
            obtain ⟨hE, hS⟩ := hC
            dsimp only [bare]
            obtain ⟨p0, p1, p2, p3, p4, p5⟩ := (⟨hS.1.2 0 _ rfl, hS.1.2 1 _ rfl, hS.1.2 2 _ rfl, hS.1.2 3 _ rfl, hS.1.2 4 _ rfl, hS.1.2 5 _ rfl⟩ : _ ∧ _ ∧ _ ∧ _ ∧ _ ∧ _); obtain ⟨q0, q1, q2, q3, q4, q5, q6⟩ := (⟨hS.2.1.2 0 _ rfl, hS.2.1.2 1 _ rfl, hS.2.1.2 2 _ rfl, hS.2.1.2 3 _ rfl, hS.2.2.1.2 0 _ rfl, hS.2.2.1.2 1 _ rfl, hS.2.2.1.2 2 _ rfl⟩ : _ ∧ _ ∧ _ ∧ _ ∧ _ ∧ _ ∧ _); obtain ⟨s0, s1, s2, s3, s4, s5⟩ := (⟨hS.2.2.2.1.2 0 _ rfl, hS.2.2.2.1.2 1 _ rfl, hS.2.2.2.1.2 2 _ rfl, hS.2.2.2.1.2 3 _ rfl, hS.2.2.2.1.2 4 _ rfl, hS.2.2.2.1.2 5 _ rfl⟩ : _ ∧ _ ∧ _ ∧ _ ∧ _ ∧ _); obtain ⟨t0, t1, t2⟩ := (⟨hS.2.2.2.2.1.2 0 _ rfl, hS.2.2.2.2.1.2 1 _ rfl, hS.2.2.2.2.1.2 2 _ rfl⟩ : _ ∧ _ ∧ _); obtain ⟨u0, u1, u2, u3, u4, u5⟩ := (⟨hS.2.2.2.2.2.2 0 _ rfl, hS.2.2.2.2.2.2 1 _ rfl, hS.2.2.2.2.2.2 2 _ rfl, hS.2.2.2.2.2.2 3 _ rfl, hS.2.2.2.2.2.2 4 _ rfl, hS.2.2.2.2.2.2 5 _ rfl⟩ : _ ∧ _ ∧ _ ∧ _ ∧ _ ∧ _)
            clear hd hE
            try clear hS
            go_wp2
            exact Ext.refl _
          case ha => rfl
          apply wpLoose_val rfl rfl
          case hs =>
            intro w1 hC hd Q1 hQ1
            obtain ⟨hE, hS⟩ := hC
            dsimp only [bare]
            obtain ⟨p0, p1, p2, p3, p4, p5⟩ := (⟨hS.1.2 0 _ rfl, hS.1.2 1 _ rfl, hS.1.2 2 _ rfl, hS.1.2 3 _ rfl, hS.1.2 4 _ rfl, hS.1.2 5 _ rfl⟩ : _ ∧ _ ∧ _ ∧ _ ∧ _ ∧ _); obtain ⟨q0, q1, q2, q3, q4, q5, q6⟩ := (⟨hS.2.1.2 0 _ rfl, hS.2.1.2 1 _ rfl, hS.2.1.2 2 _ rfl, hS.2.1.2 3 _ rfl, hS.2.2.1.2 0 _ rfl, hS.2.2.1.2 1 _ rfl, hS.2.2.1.2 2 _ rfl⟩ : _ ∧ _ ∧ _ ∧ _ ∧ _ ∧ _ ∧ _); obtain ⟨s0, s1, s2, s3, s4, s5⟩ := (⟨hS.2.2.2.1.2 0 _ rfl, hS.2.2.2.1.2 1 _ rfl, hS.2.2.2.1.2 2 _ rfl, hS.2.2.2.1.2 3 _ rfl, hS.2.2.2.1.2 4 _ rfl, hS.2.2.2.1.2 5 _ rfl⟩ : _ ∧ _ ∧ _ ∧ _ ∧ _ ∧ _); obtain ⟨t0, t1, t2⟩ := (⟨hS.2.2.2.2.1.2 0 _ rfl, hS.2.2.2.2.1.2 1 _ rfl, hS.2.2.2.2.1.2 2 _ rfl⟩ : _ ∧ _ ∧ _); obtain ⟨u0, u1, u2, u3, u4, u5⟩ := (⟨hS.2.2.2.2.2.2 0 _ rfl, hS.2.2.2.2.2.2 1 _ rfl, hS.2.2.2.2.2.2 2 _ rfl, hS.2.2.2.2.2.2 3 _ rfl, hS.2.2.2.2.2.2 4 _ rfl, hS.2.2.2.2.2.2 5 _ rfl⟩ : _ ∧ _ ∧ _ ∧ _ ∧ _ ∧ _)
            clear hd hE
            try clear hS
            go_wp2
            exact Ext.refl _
          case ha => rfl
          refine wpLoose_nil ?_
          intro wg hEg hSg hFg
          · have EZ : Hid (Ext w wg) := H14.out.2.2.1.drew.trans hEg
            clear hFg hSg hEg H14
            go_wp2
            go_ret
            exact ⟨rfl, EZ.out⟩
          case hAg => kernel_rfl
          case hlg => exact ⟨trivial, trivial, trivial, trivial, trivial, trivial, trivial, trivial, trivial, trivial, trivial, trivial, trivial, trivial, trivial, trivial, trivial, trivial, trivial, trivial, trivial, trivial, trivial, trivial, trivial, trivial, trivial, trivial, trivial, trivial, trivial, trivial, trivial, trivial, trivial, trivial, trivial, trivial, trivial, trivial, trivial, trivial, trivial, trivial, trivial, trivial, trivial, trivial, trivial, trivial, trivial, trivial, trivial, trivial, trivial, trivial, trivial, trivial, trivial, trivial, trivial, trivial, trivial, trivial, trivial, trivial, trivial, trivial, trivial, trivial, trivial⟩
  case hAa => kernel_rfl
  case hla => exact ⟨trivial, trivial, trivial, trivial, trivial, trivial, trivial, trivial, trivial, fun _ _ _ ⟨g, hv, hg, h⟩ hE => ⟨g, hv, hg, h.step hE⟩, trivial⟩

set_option maxRecDepth 100000 in
theorem lifted (os : Os) (started : os.Started) (H : Type) (enc : TypeId × Value → H) :
    ReturnsInHanded {} Try.checked os 4 .any (Rows.fnCondsSpec.pre6 enc Try.prog Try.f4 Rows.fnCondsRow.domain false) (Rows.fnCondsSpec.post enc Try.prog Try.f4 false true false false) := by
  refine returnsInHanded_of_change (C := Try.checked) own started (by kernel_rfl) Try.func4
    (ChangeSpec.witness6 (enc := enc) (C := Try.checked) false ⟨#[], #[.slice none 0 0], []⟩ 8 (by kernel_rfl) (by kernel_rfl) (by kernel_rfl) (by kernel_rfl)) ?_
  intro W base args ds gs before hval0 hW hcnd _
  have hval : ∀ (j : Nat) t v, Try.f4.params[j]? = some t → args[j]? = some v → Value.okWide Try.prog W .any base t v := hval0
  have hW' := hW
  obtain ⟨p, q, hA0, hV, rfl, hfz, hnd⟩ := hW
  have hA : DataW.TrodAll enc Try.prog W 0 (fun _ => true) true Try.f4.params.toList args.toList ds p := hA0
  rw [Try.params4] at hA hval
  obtain ⟨v0, vs0, d0, ds0, p0, q0, hargs, rfl, rfl, h0, r0⟩ := trodAll_cons hA
  obtain ⟨rfl, rfl, rfl⟩ := trodAll_nil r0
  obtain rfl : args = #[v0] := by cases args; simp_all
  obtain ⟨rfl, rfl⟩ := trodVars_none hV
  have lt0 : ∀ x ∈ p0, x.block < W.heap.size := by obtain ⟨m, hm⟩ := h0; exact DataW.trod_lt m _ _ _ hm
  obtain ⟨a0, len0, cap0, rfl⟩ := okWide_slice Try.underlying22 (hval 0 22 v0 rfl rfl)
  have raw0 : Raw W a0 len0 := by
    obtain ⟨fuel, hf⟩ := h0
    rcases open_ints Try.underlying22 Try.underlying5 (by kernel_rfl) hf with ⟨hcs, _⟩ | ⟨x, l, c, zs, hcs, _, hl, hm, hz, _, hcell, hwz⟩
    · simp [Value.cells] at hcs
      obtain ⟨rfl, rfl, rfl⟩ := hcs
      intro h; omega
    · simp [Value.cells] at hcs
      obtain ⟨rfl, rfl, rfl⟩ := hcs
      have hz' : zs.length = cap0 := by simpa using hz
      intro hpos
      obtain ⟨b, off, spot⟩ := x
      have hspot : spot = none := by simpa [Addr.add] using World.cell?_spot (hcell 0 (by omega))
      subst hspot
      refine ⟨b, off, rfl, fun j hj => ?_⟩
      have hj' : j < zs.length := by omega
      have hw := hwz _ (List.getElem_mem hj')
      have hb := bounds_u8 hw
      refine ⟨(zs[j]).toNat, by omega, ?_⟩
      have := hcell j hj'
      rw [Addr.add_lit] at this
      rw [this, List.getD_eq_getElem?_getD, List.getElem?_eq_getElem hj']
      simp only [Option.getD_some]
      congr 2
      omega
  clear hA0 hval0
  refine (walk a0 len0 cap0 W raw0).mono fun e W' ⟨he, bel⟩ => ?_
  subst he
  exact ⟨_, rfl, _, _, _, [], _, [], hW', trodAll_mk1 (shut_bool Try.underlying4 _), (trodAll_cons_mk (Below.trod laidOut (by kernel_rfl) (of_decide_eq_true (by kernel_rfl)) h0 bel lt0) trodAll_mk0), rfl, bel.frame _, fun h => by cases h⟩

end Go.Proofs.Ytoknlaaghjlnaaa.FnConds
namespace Go.Proofs.Ytoknlaaghjlnaaa
open Go.ChangeShapes Go.WideShapes Go.ChangeAt Go.RowKit

theorem fnConds : Rows.FnCondsSaid :=
  OpenClaim.holds_of_wide 4 Try.f4 rfl rfl rfl rfl rfl rfl rfl ⟨rfl, rfl, rfl, rfl, rfl⟩ rfl rfl rfl rfl rfl (by kernel_rfl) Try.func4 (by kernel_rfl)
    (of_decide_eq_true (by kernel_rfl)) (by unfold Func.isWrapper; first | (rw [if_pos (by decide +kernel)]; kernel_rfl) | (rw [if_neg (by decide +kernel)]; exact ⟨rfl, rfl⟩))
    (fun os started H enc _ => FnConds.lifted os started H enc)
#print axioms fnConds
end Go.Proofs.Ytoknlaaghjlnaaa
