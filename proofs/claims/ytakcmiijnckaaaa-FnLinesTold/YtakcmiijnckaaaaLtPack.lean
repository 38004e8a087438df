/- Proved: at every code the law FnLinesTold answers true: of drawn lines, right or not, impl's LinesOk, Sizes and Layout answer as spec's; and one word that is an OpRet is right; no condition. -/
import Derived.Test.YtakcmiijnckaaaaLtPack20
import Derived.Test.YtakcmiijnckaaaaLtPack23
import Derived.Test.YtakcmiijnckaaaaLtPack21
import Derived.WalkKit
import Derived.ProofKit
import Derived.OpenShut
import Derived.ShutString
import Derived.ChangeOld
import Derived.Below
import Derived.Deep.RegionHeld3
import Derived.Deep.RegionWith
namespace Go.Proofs.Ytakcmiijnckaaaa.FnLinesTold
open Go.ChangeShapes Go.WideShapes Go.ChangeAt Go.RowKit
open Go.ChangeMaps (open_string shut_string)
set_option linter.unusedVariables false

theorem own : ownKnob Try.prog.godebug = none := by kernel_rfl
theorem laidOut : laidOutB Try.prog = true := by kernel_rfl

theorem ret_right : linesP [plainL 8 0] := by
  have pk := plain_fits (o := 8) (k := 0) (by omega)
  refine (lines_once _).2 ⟨by simp, rfl, fun i j hij hj => by simp at hj; omega, fun i hi => ?_⟩
  obtain rfl : i = 0 := by simp at hi; omega
  exact ⟨pk.2.1, .inr (.inr ⟨pk.2.2.2.1, pk.2.2.2.2, rfl, rfl⟩)⟩

set_option maxRecDepth 100000 in
set_option maxHeartbeats 6400000 in
theorem walk (a : Option Addr) (len cap : Nat) (w : World) (raw : Raw w a len) : Calls Try.prog 4 #[.slice a len cap] w fun e w' => e = .returned (.bool true) ∧ Below w.heap.size w w' := by
  by_cases hbig : 1048576 < len
  · go_enter Try.func4, Try.ntmps4
    go_wp2_with (go_at_call 8; refine (big_yes _ _ _ _ hbig).mono ?_; rintro e w' ⟨rfl, rfl⟩)
    go_ret
    exact ⟨rfl, Below.refl _ _⟩
  have HC : Hid (Came w a len) := ⟨by omega, raw⟩
  have hl : len ≤ 1048576 := by omega
  clear raw hbig
  go_enter Try.func4, Try.ntmps4
  go_wp2_with fail
  refine (big_no a len cap _ hl).mono ?_
  rintro e w' ⟨rfl, rfl⟩
  go_wp2_with fail
  refine (drawLinesOk_any a len cap _ HC.out).mono ?_
  rintro e w1 ⟨ga, na, ca, rfl, hna, hra, e1⟩
  obtain ⟨la, hla, hL, hT⟩ := hra.lines
  subst hla
  have E1 : Hid (Ext w w1 ∧ Lns w1 (some ⟨ga, 0, none⟩) la ∧ TextsP la ∧ la.length ≤ 106) := ⟨e1, hL, hT, hna⟩
  clear e1 hL hT hna hra
  go_wp2_with fail
  refine (drawSizes_any a len cap _ (came_new HC.out E1.out.1)).mono ?_
  rintro e w2 ⟨gb, nb, cb, rfl, hnb, hrb, e2⟩
  obtain ⟨lb, hlb, hL, hT⟩ := hrb.lines
  subst hlb
  have E2 : Hid (Ext w w2 ∧ Ext w1 w2 ∧ Lns w2 (some ⟨gb, 0, none⟩) lb ∧ TextsP lb ∧ lb.length ≤ 106) := ⟨E1.out.1.trans e2, e2, hL, hT, hnb⟩
  clear e2 hL hT hnb hrb
  go_wp2_with fail
  refine (drawLayout_any a len cap _ (came_new HC.out E2.out.1)).mono ?_
  rintro e w3 ⟨gc, nc, cc, rfl, hnc, hrc, e3⟩
  obtain ⟨lc, hlc, hL, hT⟩ := hrc.lines
  subst hlc
  have E3 : Hid (Ext w w3 ∧ Lns w3 (some ⟨gc, 0, none⟩) lc ∧ Lns w3 (some ⟨gb, 0, none⟩) lb ∧ Lns w3 (some ⟨ga, 0, none⟩) la) := ⟨E2.out.1.trans e3, hL, E2.out.2.2.1.ext e3, (E1.out.2.1.ext E2.out.2.1).ext e3⟩
  obtain ⟨ws, z2, hws, hsp, him⟩ := layout_both lc (by omega) hT
  have HSL : Hid (∀ W, Ext w3 W → Calls Try.prog 20 #[.slice (some ⟨gc, 0, none⟩) lc.length cc] W fun e w' => ∃ v, e = .returned (.tuple #[v, .bool z2]) ∧ Own4 w' W.heap.size v ws ∧ Ext W w') := fun W hE => hsp _ _ _ (E3.out.2.1.ext hE)
  have HIL : Hid (∀ W, Ext w3 W → Calls Try.prog 11 #[.slice (some ⟨gc, 0, none⟩) lc.length cc] W fun e w' => ∃ v, e = .returned (.tuple #[v, .bool z2]) ∧ Own4 w' W.heap.size v ws ∧ Ext W w') := fun W hE => him _ _ _ (E3.out.2.1.ext hE)
  have HWS : Hid (ws.length ≤ 400) := hws
  clear e3 hL hT hnc hrc hws hsp him
  obtain ⟨zs, hzs, hsz, hiz⟩ := sizes_both lb (by have := E2.out.2.2.2.2; omega) E2.out.2.2.2.1
  have HSZ : Hid (∀ W, Ext w3 W → Calls Try.prog 23 #[.slice (some ⟨gb, 0, none⟩) lb.length cb] W fun e w' => ∃ b v, e = .returned v ∧ IntsB w' b v zs ∧ W.heap.size ≤ b ∧ b < w'.heap.size ∧ Ext W w') := fun W hE => hsz _ _ _ (E3.out.2.2.1.ext hE)
  have HIZ : Hid (∀ W, Ext w3 W → Calls Try.prog 15 #[.slice (some ⟨gb, 0, none⟩) lb.length cb] W fun e w' => ∃ b v, e = .returned v ∧ IntsB w' b v zs ∧ W.heap.size ≤ b ∧ Ext W w') := fun W hE => hiz _ _ _ (E3.out.2.2.1.ext hE)
  have HZS : Hid (zs.length ≤ 600) := hzs
  clear hzs hsz hiz
  obtain ⟨z1, hz1⟩ := bool_some (linesP la)
  have HIO : Hid (∀ W, Ext w3 W → Calls Try.prog 16 #[.slice (some ⟨ga, 0, none⟩) la.length ca] W fun e w' => e = .returned (.bool z1) ∧ Ext W w') := fun W hE => iLines_any _ _ la z1 W (by have := E1.out.2.2.2; omega) E1.out.2.2.1 (E3.out.2.2.2.ext hE) hz1
  have HSO : Hid (∀ W, Ext w3 W → Calls Try.prog 21 #[.slice (some ⟨ga, 0, none⟩) la.length ca] W fun e w' => e = .returned (.bool z1) ∧ Ext W w') := fun W hE => sLines_any _ _ la z1 W (by have := E1.out.2.2.2; omega) (E3.out.2.2.2.ext hE) hz1
  have X3 : Hid (Ext w w3) := E3.out.1
  clear hz1 E1 E2 E3 HC
  generalize la.length = na at *
  generalize lb.length = nb at *
  generalize lc.length = nc at *
  go_wp2_with fail
  refine (HIL.out _ (Ext.refl _)).mono ?_
  rintro e w4 ⟨v1, rfl, o1, x4⟩
  have X4 : Hid (Ext w3 w4 ∧ Own4 w4 0 v1 ws) := ⟨x4, own_lower o1 (Nat.zero_le _)⟩
  clear x4 o1 HIL
  go_wp2_with fail
  refine (HSL.out _ X4.out.1).mono ?_
  rintro e w5 ⟨v2, rfl, o2, x5⟩
  have X5 : Hid (Ext w3 w5 ∧ Own4 w5 0 v1 ws ∧ Own4 w5 0 v2 ws) := ⟨X4.out.1.trans x5, X4.out.2.ext x5, own_lower o2 (Nat.zero_le _)⟩
  clear x5 o2 HSL X4
  go_wp2_with fail
  refine (HIO.out _ X5.out.1).mono ?_
  rintro e w6 ⟨rfl, x6⟩
  have X6 : Hid (Ext w3 w6 ∧ Own4 w6 0 v1 ws ∧ Own4 w6 0 v2 ws) := ⟨X5.out.1.trans x6, X5.out.2.1.ext x6, X5.out.2.2.ext x6⟩
  clear x6 X5 HIO
  go_wp2_with fail
  refine (HSO.out _ X6.out.1).mono ?_
  rintro e w7 ⟨rfl, x7⟩
  have X7 : Hid (Ext w3 w7 ∧ Own4 w7 0 v1 ws ∧ Own4 w7 0 v2 ws) := ⟨X6.out.1.trans x7, X6.out.2.1.ext x7, X6.out.2.2.ext x7⟩
  have bz1 : (z1 == z1) = true := by simp
  clear x7 X6 HSO
  go_wp2_with fail
  refine (HIZ.out _ X7.out.1).mono ?_
  rintro e w8 ⟨b1, u1, rfl, i1, _, x8⟩
  have X8 : Hid (Ext w3 w8 ∧ Own4 w8 0 v1 ws ∧ Own4 w8 0 v2 ws ∧ IntsB w8 b1 u1 zs) := ⟨X7.out.1.trans x8, X7.out.2.1.ext x8, X7.out.2.2.ext x8, i1⟩
  clear x8 i1 X7 HIZ
  go_wp2_with fail
  refine (HSZ.out _ X8.out.1).mono ?_
  rintro e w9 ⟨b2, u2, rfl, i2, _, _, x9⟩
  have X9 : Hid (Ext w3 w9 ∧ Own4 w9 0 v1 ws ∧ Own4 w9 0 v2 ws ∧ IntsB w9 b1 u1 zs ∧ IntsB w9 b2 u2 zs) := ⟨X8.out.1.trans x9, X8.out.2.1.ext x9, X8.out.2.2.1.ext x9, X8.out.2.2.2.ext x9, i2⟩
  clear x9 i2 X8 HSZ
  go_wp2_with fail
  refine (sameIntsB b1 b2 u1 u2 zs _ (by have := HZS.out; omega) X9.out.2.2.2.1 X9.out.2.2.2.2).mono ?_
  rintro e wa ⟨rfl, xa⟩
  have XA : Hid (Ext w3 wa ∧ Own4 wa 0 v1 ws ∧ Own4 wa 0 v2 ws) := ⟨X9.out.1.trans xa, X9.out.2.1.ext xa, X9.out.2.2.1.ext xa⟩
  have bz2 : (z2 == z2) = true := by simp
  clear xa X9
  obtain ⟨a1, c1, rfl, _, wd1, _⟩ := XA.out.2.1.words
  obtain ⟨a2, c2, rfl, _, wd2, _⟩ := XA.out.2.2.words
  have HSI : Hid (Calls Try.prog 24 #[.slice a1 ws.length c1, .slice a2 ws.length c2] wa fun e w' => e = .returned (.bool true) ∧ Ext wa w') := sameIns_same a1 a2 c1 c2 ws wa (by have := HWS.out; omega) wd1 wd2
  clear wd1 wd2
  go_wp2_with fail
  refine HSI.out.mono ?_
  rintro e wb ⟨rfl, xb⟩
  have XB : Hid (Ext w3 wb) := XA.out.1.trans xb
  clear xb XA HSI
  have HLR : Hid (Calls Try.prog 16 #[.slice (some ⟨wb.heap.size, 0, none⟩) 1 1] (wb.alloc (.cells #[.string ⟨#[]⟩, .int .i64 8, .int .i64 0, .int .i64 0, .int .i64 0, .string ⟨#[]⟩, .string ⟨#[]⟩] 37)) fun e w' => e = .returned (.bool true) ∧ Ext (wb.alloc (.cells #[.string ⟨#[]⟩, .int .i64 8, .int .i64 0, .int .i64 0, .int .i64 0, .string ⟨#[]⟩, .string ⟨#[]⟩] 37)) w') :=
    iLines_any _ _ [plainL 8 0] true _ (by simp) (fun j hj => by obtain rfl : j = 0 := by simp at hj; omega
                                                                 exact ⟨by decide, by decide, by decide⟩)
      (fun _ => ⟨wb.heap.size, 0, rfl, fun j hj => by obtain rfl : j = 0 := by simp at hj; omega
                                                      exact hept_box wb (plainL 8 0) 37⟩) ⟨fun _ => ret_right, fun _ => rfl⟩
  go_wp2_with fail
  refine HLR.out.mono ?_
  rintro e wc ⟨rfl, xc⟩
  have XC : Hid (Ext w wc) := ((X3.out.trans XB.out).alloc _).trans xc
  clear xc HLR
  go_wp2
  go_ret
  exact ⟨rfl, XC.out⟩

set_option maxRecDepth 100000 in
theorem lifted (os : Os) (started : os.Started) (H : Type) (enc : TypeId × Value → H) :
    ReturnsInHanded {} Try.checked os 4 .any (Rows.fnLinesToldSpec.pre6 enc Try.prog Try.f4 Rows.fnLinesToldRow.domain false) (Rows.fnLinesToldSpec.post enc Try.prog Try.f4 false true false false) := by
  refine returnsInHanded_of_change (C := Try.checked) own started (by kernel_rfl) Try.func4
    (ChangeSpec.witness6 (enc := enc) (C := Try.checked) false ⟨#[], #[.slice none 0 0], []⟩ 8 (by kernel_rfl) (by kernel_rfl) (by kernel_rfl) (by kernel_rfl)) ?_
  intro W base args ds gs before hval0 hW hcnd _
  have hval : ∀ (j : Nat) t v, Try.f4.params[j]? = some t → args[j]? = some v → Value.okWide Try.prog W .any base t v := hval0
  have hW' := hW
  obtain ⟨p, q, hA0, hV, rfl, hfz, hnd⟩ := hW
  have hA : DataW.TrodAll enc Try.prog W 0 (fun _ => true) true Try.f4.params.toList args.toList ds p := hA0
  rw [Try.params4] at hA hval
  obtain ⟨v0, vs0, d0, ds0, p0, q0, hargs, rfl, rfl, h0, r0⟩ := trodAll_cons hA
  obtain ⟨rfl, rfl, rfl⟩ := trodAll_nil r0
  obtain rfl : args = #[v0] := by cases args; simp_all
  obtain ⟨rfl, rfl⟩ := trodVars_none hV
  have lt0 : ∀ x ∈ p0, x.block < W.heap.size := by obtain ⟨m, hm⟩ := h0; exact DataW.trod_lt m _ _ _ hm
  obtain ⟨a0, len0, cap0, rfl⟩ := okWide_slice Try.underlying22 (hval 0 22 v0 rfl rfl)
  have raw0 : Raw W a0 len0 := by
    obtain ⟨fuel, hf⟩ := h0
    rcases open_ints Try.underlying22 Try.underlying5 (by kernel_rfl) hf with ⟨hcs, _⟩ | ⟨x, l, c, zs, hcs, _, hl, hm, hz, _, hcell, hwz⟩
    · simp [Value.cells] at hcs
      obtain ⟨rfl, rfl, rfl⟩ := hcs
      intro h; omega
    · simp [Value.cells] at hcs
      obtain ⟨rfl, rfl, rfl⟩ := hcs
      have hz' : zs.length = cap0 := by simpa using hz
      intro hpos
      obtain ⟨b, off, spot⟩ := x
      have hspot : spot = none := by simpa [Addr.add] using World.cell?_spot (hcell 0 (by omega))
      subst hspot
      refine ⟨b, off, rfl, fun j hj => ?_⟩
      have hj' : j < zs.length := by omega
      have hw := hwz _ (List.getElem_mem hj')
      have hb := bounds_u8 hw
      refine ⟨(zs[j]).toNat, by omega, ?_⟩
      have := hcell j hj'
      rw [Addr.add_lit] at this
      rw [this, List.getD_eq_getElem?_getD, List.getElem?_eq_getElem hj']
      simp only [Option.getD_some]
      congr 2
      omega
  clear hA0 hval0
  refine (walk a0 len0 cap0 W raw0).mono fun e W' ⟨he, bel⟩ => ?_
  subst he
  exact ⟨_, rfl, _, _, _, [], _, [], hW', trodAll_mk1 (shut_bool Try.underlying4 _), (trodAll_cons_mk (Below.trod laidOut (by kernel_rfl) (of_decide_eq_true (by kernel_rfl)) h0 bel lt0) trodAll_mk0), rfl, bel.frame _, fun h => by cases h⟩

end Go.Proofs.Ytakcmiijnckaaaa.FnLinesTold
namespace Go.Proofs.Ytakcmiijnckaaaa
open Go.ChangeShapes Go.WideShapes Go.ChangeAt Go.RowKit

theorem fnLinesTold : Rows.FnLinesToldSaid :=
  OpenClaim.holds_of_wide 4 Try.f4 rfl rfl rfl rfl rfl rfl rfl ⟨rfl, rfl, rfl, rfl, rfl⟩ rfl rfl rfl rfl rfl (by kernel_rfl) Try.func4 (by kernel_rfl)
    (of_decide_eq_true (by kernel_rfl)) (by unfold Func.isWrapper; first | (rw [if_pos (by decide +kernel)]; kernel_rfl) | (rw [if_neg (by decide +kernel)]; exact ⟨rfl, rfl⟩))
    (fun os started H enc _ => FnLinesTold.lifted os started H enc)
#print axioms fnLinesTold
end Go.Proofs.Ytakcmiijnckaaaa
