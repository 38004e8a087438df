/- Proved: at every []laws.Ins and every laws.Call the law FnExactRun answers true, so impl.Run answers as spec.Run and leaves its arguments as they were (the law itself passes arguments of together more than 1<<20 words and Args by); no condition. -/
import Derived.Test.YtaigoggoibdgbaaSzRun
import Derived.Test.YtaigoggoibdgbaaOpenCall
import Derived.WalkKit
import Derived.ProofKit
import Derived.OpenShut
import Derived.ShutString
import Derived.ChangeOld
import Derived.Below
import Derived.Deep.RegionHeld3
import Derived.Deep.RegionWith
namespace Go.Proofs.Ytaigoggoibdgbaa.Run
open Go.ChangeShapes Go.WideShapes Go.ChangeAt Go.RowKit
open Go.ChangeMaps (open_string shut_string)
set_option linter.unusedVariables false

theorem own : ownKnob Try.prog.godebug = none := by kernel_rfl
theorem laidOut : laidOutB Try.prog = true := by kernel_rfl

set_option maxRecDepth 100000 in
set_option maxHeartbeats 3200000 in
theorem walk (a : Option Addr) (cap : Nat) (ws : List Wd) (arch num : Int) (ca : Option Addr) (cc : Nat) (cs : List (Int × Int)) (w : World) (h : Words w a ws ∧ ws.length ≤ 9223372036854775807) (hA : Wides w ca cs ∧ cs.length ≤ 9223372036854775807) :
    Calls Try.prog 6 #[.slice a ws.length cap, .agg #[.int .i64 arch, .int .i64 num, .slice ca cs.length cc]] w fun e w' => e = .returned (.bool true) ∧ Below w.heap.size w w' := by
  obtain ⟨h, hmax⟩ := h
  obtain ⟨hA, hcmax⟩ := hA
  obtain ⟨n, hn⟩ : ∃ n, n = ws.length := ⟨_, rfl⟩
  obtain ⟨l, hl⟩ : ∃ l, l = cs.length := ⟨_, rfl⟩
  have HW : Hid (∀ w1, Ext w w1 → Words w1 a ws) := fun w1 he => h.ext he
  have HC : Hid (∀ w1, Ext w w1 → RepCall arch num cs (.agg #[.int .i64 arch, .int .i64 num, .slice ca l cc]) w1) := fun w1 he => by rw [hl]; exact RepCall.step ⟨ca, cc, rfl, hA⟩ he
  have HN : Hid (n = ws.length ∧ l = cs.length) := ⟨hn, hl⟩
  rw [← hn] at hmax
  rw [← hl] at hcmax
  rw [← hn, ← hl]
  have b0 : Hid (CellsAt (w.alloc (.cells #[.int .i64 arch, .int .i64 num, .slice ca l cc] 47)) w.heap.size [.int .i64 arch, .int .i64 num, .slice ca l cc]) := CellsAt.new w [.int .i64 arch, .int .i64 num, .slice ca l cc] 47
  clear hn hl h hA
  by_cases hbig : 1048576 < n
  · go_enter Try.func6, Try.ntmps6
    go_wp2_with (go_at_call 21; refine (szInsS_big a cap n _ hbig hmax).mono ?_; rintro e w' ⟨rfl, rfl⟩)
    go_ret
    exact ⟨rfl, Ext.one _ _⟩
  have hnl : n ≤ 1048576 := by omega
  obtain ⟨left, hleft⟩ : ∃ left : Nat, left = 1048576 - n := ⟨_, rfl⟩
  have hle : (1048576 : Int) - (n : Int) = (left : Int) := by omega
  have hlm : left ≤ 1048576 := by omega
  have SZ : Hid (∀ w1, Calls Try.prog 21 #[.slice a n cap, .int .i64 1048576] w1 fun e w' => e = .returned (.int .i64 (left : Int)) ∧ w1 = w') := fun w1 => by rw [← hle]; exact szInsS_any a cap n w1 hnl
  clear hleft hle hbig hmax
  by_cases hbig2 : left < l
  · go_enter Try.func6, Try.ntmps6
    go_wp2_with fail
    refine (SZ.out _).mono ?_
    rintro e w' ⟨rfl, rfl⟩
    go_wp2_with fail
    refine (szCall_over arch num ca cc l left _ hbig2 hlm hcmax).mono ?_
    rintro e w1 ⟨rfl, e1⟩
    have E1 : Hid (Ext w w1) := (Ext.one _ _).trans e1
    clear e1
    go_wp2
    go_ret
    exact ⟨rfl, E1.out⟩
  have hll : l ≤ left := by omega
  have SC : Hid (∀ w1, Calls Try.prog 24 #[.agg #[.int .i64 arch, .int .i64 num, .slice ca l cc], .int .i64 (left : Int)] w1 fun e w' => e = .returned (.int .i64 ((left - l : Nat) : Int)) ∧ Ext w1 w') := fun w1 => by
    have := szCall_left arch num ca cc l left w1 hll hlm
    rw [show ((left : Int) - (l : Int)) = ((left - l : Nat) : Int) by omega] at this
    exact this
  obtain ⟨lf, hlf⟩ : ∃ lf : Nat, lf = left - l := ⟨_, rfl⟩
  rw [← hlf] at SC
  have hws : ws.length ≤ 1048576 := by have := HN.out.1; omega
  have hcs : cs.length ≤ 1048576 := by have := HN.out.2; omega
  obtain ⟨res, mm, hres⟩ := runR_some ws arch num cs
  have TI : Hid (∀ w1, Ext w w1 → Calls Try.prog 22 #[.slice a n cap] w1 fun e w' => ∃ u, e = .returned u ∧ RepW ws u w' ∧ Ext w1 w') := fun w1 he => toInsS_rep a cap n ws w1 HN.out.1 hws (HW.out w1 he)
  have TC : Hid (∀ w1, Ext w w1 → Calls Try.prog 25 #[.agg #[.int .i64 arch, .int .i64 num, .slice ca l cc]] w1 fun e w' => ∃ u, e = .returned u ∧ RepCall arch num cs u w' ∧ Ext w1 w') := fun w1 he => toCall_rep arch num cs _ w1 hcs (HC.out w1 he)
  have SR : Hid (∀ v1 v2 w1, RepW ws v1 w1 → RepCall arch num cs v2 w1 → Calls Try.prog 16 #[v1, v2] w1 fun e w' => e = .returned (.tuple #[.int .i64 res, .int .i64 (mm : Int)]) ∧ Ext w1 w') := fun v1 v2 w1 h1 h2 => sRun_rep ws arch num cs res mm v1 v2 w1 hws hcs hres h1 h2
  have IR : Hid (∀ v1 v2 w1, RepW ws v1 w1 → RepCall arch num cs v2 w1 → Calls Try.prog 13 #[v1, v2] w1 fun e w' => e = .returned (.tuple #[.int .i64 res, .int .i64 (mm : Int)]) ∧ Ext w1 w') := fun v1 v2 w1 h1 h2 => iRun_rep ws arch num cs res mm v1 v2 w1 hws hcs hres h1 h2
  have EW : Hid (∀ v1 v2 w1, RepW ws v1 w1 → RepW ws v2 w1 → Calls Try.prog 23 #[v1, v2] w1 fun e w' => e = .returned (.bool true) ∧ Ext w1 w') := fun v1 v2 w1 h1 h2 => eqInsS_rep ws v1 v2 w1 hws h1 h2
  have EC : Hid (∀ v1 v2 w1, RepCall arch num cs v1 w1 → RepCall arch num cs v2 w1 → Calls Try.prog 26 #[v1, v2] w1 fun e w' => e = .returned (.bool true) ∧ Ext w1 w') := fun v1 v2 w1 h1 h2 => eqCall_rep arch num cs v1 v2 w1 hcs h1 h2
  clear hres hws hcs hll hlf hbig2 hnl hcmax HW HC
  go_enter Try.func6, Try.ntmps6
  go_wp2_with fail
  refine (SZ.out _).mono ?_
  rintro e w' ⟨rfl, rfl⟩
  go_wp2_with fail
  refine (SC.out _).mono ?_
  rintro e w1 ⟨rfl, e1⟩
  have E1 : Hid (Ext w w1) := (Ext.one _ _).trans e1
  have C1 : Hid (CellsAt w1 w.heap.size [.int .i64 arch, .int .i64 num, .slice ca l cc]) := b0.out.step e1
  clear e1 b0 SZ SC
  go_wp2_with fail
  refine' wp_region_loose (.inl _ :: .inr (RepW ws) :: .inl _ :: .inr (RepCall arch num cs) :: .inl _ :: .inl _ :: .inl _ :: .inl _ :: .inl _ :: .inl _ :: []) (fun w' => CellsAt w' w.heap.size [.int .i64 arch, .int .i64 num, .slice ca l cc]) (by kernel_rfl) (by kernel_rfl) (C1.out) (fun _ _ h hE => h.step hE) ?hAa ?hla ?hMa
  case' hMa => skip
  apply wpLoose_val rfl rfl
  case hs =>
    intro w1 hC hd Q1 hQ1
    obtain ⟨hE, hS⟩ := hC
    dsimp only [bare]
    obtain ⟨q1, q2, q3⟩ := (⟨hS.2 0 _ rfl, hS.2 1 _ rfl, hS.2 2 _ rfl⟩ : _ ∧ _ ∧ _)
    clear hd hE
    try clear hS
    go_wp2
    exact Ext.refl _
  case ha => rfl
  refine wpLoose_rel rfl rfl ?_ (fun va_1 => ?_)
  · intro w1 hC hd Q1 hQ1
    obtain ⟨hE, hS⟩ := hC
    dsimp only [bare]
    clear hd hS
    go_wp2_with fail
    refine (TI.out _ (E1.out.drew.trans hE)).mono ?_
    rintro e w2 ⟨u2, rfl, r2, x2⟩
    go_wp2_with fail
    exact hQ1 _ _ x2 r2
  apply wpLoose_val rfl rfl
  case hs =>
    intro w1 hC hd Q1 hQ1
    obtain ⟨hE, hS⟩ := hC
    dsimp only [bare]
    obtain ⟨q1, q2, q3⟩ := (⟨hS.2 0 _ rfl, hS.2 1 _ rfl, hS.2 2 _ rfl⟩ : _ ∧ _ ∧ _)
    clear hd hE
    try clear hS
    go_wp2
    exact Ext.refl _
  case ha => rfl
  refine wpLoose_rel rfl rfl ?_ (fun va_3 => ?_)
  · intro w1 hC hd Q1 hQ1
    obtain ⟨hE, hS⟩ := hC
    dsimp only [bare]
    clear hd hS
    go_wp2_with fail
    refine (TC.out _ (E1.out.drew.trans hE)).mono ?_
    rintro e w2 ⟨u2, rfl, r2, x2⟩
    go_wp2_with fail
    exact hQ1 _ _ x2 r2
  apply wpLoose_val rfl rfl
  case hs =>
    intro w1 hC hd Q1 hQ1
    obtain ⟨hE, hS⟩ := hC
    dsimp only [bare]
    have h1 := hd ⟨1, .data⟩ (by simp) rfl _ rfl (by simp [Act.put])
    have h3 := hd ⟨3, .data⟩ (by simp) rfl _ rfl (by simp [Act.put])
    clear hd
    go_wp2_with fail
    refine (SR.out _ _ _ h1 h3).mono ?_
    rintro e w2 ⟨rfl, hb⟩
    go_wp2_with fail
    exact hb
  case ha => rfl
  apply wpLoose_val rfl rfl
  case hs =>
    intro w1 hC hd Q1 hQ1
    obtain ⟨hE, hS⟩ := hC
    dsimp only [bare]
    obtain ⟨q1, q2, q3⟩ := (⟨hS.2 0 _ rfl, hS.2 1 _ rfl, hS.2 2 _ rfl⟩ : _ ∧ _ ∧ _)
    clear hd hE
    try clear hS
    go_wp2
    exact Ext.refl _
  case ha => rfl
  apply wpLoose_val rfl rfl
  case hs =>
    intro w1 hC hd Q1 hQ1
    obtain ⟨hE, hS⟩ := hC
    dsimp only [bare]
    obtain ⟨q1, q2, q3⟩ := (⟨hS.2 0 _ rfl, hS.2 1 _ rfl, hS.2 2 _ rfl⟩ : _ ∧ _ ∧ _)
    clear hd hE
    try clear hS
    go_wp2
    exact Ext.refl _
  case ha => rfl
  apply wpLoose_val rfl rfl
  case hs =>
    intro w1 hC hd Q1 hQ1
    obtain ⟨hE, hS⟩ := hC
    dsimp only [bare]
    obtain ⟨q1, q2, q3⟩ := (⟨hS.2 0 _ rfl, hS.2 1 _ rfl, hS.2 2 _ rfl⟩ : _ ∧ _ ∧ _)
    clear hd hE
    try clear hS
    go_wp2
    exact Ext.refl _
  case ha => rfl
  apply wpLoose_val rfl rfl
  case hs =>
    intro w1 hC hd Q1 hQ1
    obtain ⟨hE, hS⟩ := hC
    dsimp only [bare]
    obtain ⟨q1, q2, q3⟩ := (⟨hS.2 0 _ rfl, hS.2 1 _ rfl, hS.2 2 _ rfl⟩ : _ ∧ _ ∧ _)
    clear hd hE
    try clear hS
    go_wp2
    exact Ext.refl _
  case ha => rfl
  apply wpLoose_val rfl rfl
  case hs =>
    intro w1 hC hd Q1 hQ1
    obtain ⟨hE, hS⟩ := hC
    dsimp only [bare]
    obtain ⟨q1, q2, q3⟩ := (⟨hS.2 0 _ rfl, hS.2 1 _ rfl, hS.2 2 _ rfl⟩ : _ ∧ _ ∧ _)
    clear hd hE
    try clear hS
    go_wp2
    exact Ext.refl _
  case ha => rfl
  refine wpLoose_nil ?_
  intro wa hEa hSa hFa
  have E2 : Hid (Ext w wa) := E1.out.drew.trans hEa
  have C2 : Hid (CellsAt wa w.heap.size [.int .i64 arch, .int .i64 num, .slice ca l cc]) := hSa
  clear hEa hSa hFa E1 C1 SR
  go_wp2_with fail
  refine (TI.out _ E2.out).mono ?_
  rintro e w3 ⟨u3, rfl, r3, e3⟩
  have E3 : Hid (Ext w w3) := E2.out.trans e3
  have C3 : Hid (CellsAt w3 w.heap.size [.int .i64 arch, .int .i64 num, .slice ca l cc]) := C2.out.step e3
  have R3 : Hid (∀ w1, Ext w3 w1 → RepW ws u3 w1) := fun w1 he => r3.step he
  obtain ⟨q1, q2, q3⟩ := (⟨C3.out.2 0 _ rfl, C3.out.2 1 _ rfl, C3.out.2 2 _ rfl⟩ : _ ∧ _ ∧ _)
  clear e3 r3 E2 C2
  go_wp2_with fail
  refine (TC.out _ E3.out).mono ?_
  rintro e w4 ⟨u4, rfl, r4, e4⟩
  have E4 : Hid (Ext w w4) := E3.out.trans e4
  have E34 : Hid (Ext w3 w4) := e4
  have C4 : Hid (CellsAt w4 w.heap.size [.int .i64 arch, .int .i64 num, .slice ca l cc]) := C3.out.step e4
  have R4 : Hid (∀ w1, Ext w4 w1 → RepCall arch num cs u4 w1) := fun w1 he => r4.step he
  obtain ⟨a4, cap4, rfl, hw4⟩ := r4
  clear e4 hw4 q1 q2 q3 E3 C3
  go_wp2_with fail
  refine (IR.out _ _ _ (R3.out _ (E34.out.alloc _)) (R4.out _ (Ext.one _ _))).mono ?_
  rintro e w5 ⟨rfl, e5⟩
  have E5 : Hid (Ext w w5) := (E4.out.alloc _).trans e5
  have E45 : Hid (Ext w4 w5) := (Ext.one _ _).trans e5
  have C5 : Hid (CellsAt w5 w.heap.size [.int .i64 arch, .int .i64 num, .slice ca l cc]) := (C4.out.step (Ext.one _ _)).step e5
  have D5 : Hid (CellsAt w5 w4.heap.size [.int .i64 arch, .int .i64 num, .slice a4 cs.length cap4]) := (CellsAt.new w4 [.int .i64 arch, .int .i64 num, .slice a4 cs.length cap4] 28).step e5
  clear e5 E4 C4 IR
  go_wp2_with fail
  refine (TI.out _ E5.out).mono ?_
  rintro e w6 ⟨u6, rfl, r6, e6⟩
  have E6 : Hid (Ext w w6) := E5.out.trans e6
  have E46 : Hid (Ext w4 w6) := E45.out.trans e6
  have C6 : Hid (CellsAt w6 w.heap.size [.int .i64 arch, .int .i64 num, .slice ca l cc]) := C5.out.step e6
  have D6 : Hid (CellsAt w6 w4.heap.size [.int .i64 arch, .int .i64 num, .slice a4 cs.length cap4]) := D5.out.step e6
  have R6 : Hid (RepW ws u6 w6) := r6
  clear e6 r6 E5 C5 D5 E45
  go_wp2_with fail
  refine (EW.out _ _ _ (R3.out _ (E34.out.trans E46.out)) R6.out).mono ?_
  rintro e w7 ⟨rfl, e7⟩
  have E7 : Hid (Ext w w7) := E6.out.trans e7
  have E47 : Hid (Ext w4 w7) := E46.out.trans e7
  have C7 : Hid (CellsAt w7 w.heap.size [.int .i64 arch, .int .i64 num, .slice ca l cc]) := C6.out.step e7
  have D7 : Hid (CellsAt w7 w4.heap.size [.int .i64 arch, .int .i64 num, .slice a4 cs.length cap4]) := D6.out.step e7
  clear e7 E6 C6 D6 E46 R6 EW
  go_wp2_with fail
  refine' wp_region_loose (.inl _ :: .inl _ :: .inr (RepCall arch num cs) :: .inl _ :: .inl _ :: []) (fun w' => CellsAt w' w.heap.size [.int .i64 arch, .int .i64 num, .slice ca l cc] ∧ CellsAt w' w4.heap.size [.int .i64 arch, .int .i64 num, .slice a4 cs.length cap4]) (by kernel_rfl) (by kernel_rfl) (⟨C7.out.drew, D7.out.drew⟩) (fun _ _ h hE => ⟨h.1.step hE, h.2.step hE⟩) ?hAb ?hlb ?hMb
  case' hMb => skip
  apply wpLoose_val rfl rfl
  case hs =>
    intro w1 hC hd Q1 hQ1
    obtain ⟨hE, hS⟩ := hC
    dsimp only [bare]
    obtain ⟨q1, q2, q3, q4, q5, q6⟩ := (⟨hS.1.2 0 _ rfl, hS.1.2 1 _ rfl, hS.1.2 2 _ rfl, hS.2.2 0 _ rfl, hS.2.2 1 _ rfl, hS.2.2 2 _ rfl⟩ : _ ∧ _ ∧ _ ∧ _ ∧ _ ∧ _)
    clear hd hE
    try clear hS
    go_wp2
    exact Ext.refl _
  case ha => rfl
  apply wpLoose_val rfl rfl
  case hs =>
    intro w1 hC hd Q1 hQ1
    obtain ⟨hE, hS⟩ := hC
    dsimp only [bare]
    obtain ⟨q1, q2, q3, q4, q5, q6⟩ := (⟨hS.1.2 0 _ rfl, hS.1.2 1 _ rfl, hS.1.2 2 _ rfl, hS.2.2 0 _ rfl, hS.2.2 1 _ rfl, hS.2.2 2 _ rfl⟩ : _ ∧ _ ∧ _ ∧ _ ∧ _ ∧ _)
    clear hd hE
    try clear hS
    go_wp2
    exact Ext.refl _
  case ha => rfl
  refine wpLoose_rel rfl rfl ?_ (fun vb_2 => ?_)
  · intro w1 hC hd Q1 hQ1
    obtain ⟨hE, hS⟩ := hC
    dsimp only [bare]
    clear hd hS
    go_wp2_with fail
    refine (TC.out _ (E7.out.drew.trans hE)).mono ?_
    rintro e w2 ⟨u2, rfl, r2, x2⟩
    go_wp2_with fail
    exact hQ1 _ _ x2 r2
  apply wpLoose_val rfl rfl
  case hs =>
    intro w1 hC hd Q1 hQ1
    obtain ⟨hE, hS⟩ := hC
    dsimp only [bare]
    have h2 := hd ⟨2, .data⟩ (by simp) rfl _ rfl (by simp [Act.put])
    clear hd
    go_wp2_with fail
    refine (EC.out _ _ _ (R4.out _ (E47.out.drew.trans hE)) h2).mono ?_
    rintro e w2 ⟨rfl, hb⟩
    go_wp2_with fail
    exact hb
  case ha => rfl
  apply wpLoose_val rfl rfl
  case hs =>
    intro w1 hC hd Q1 hQ1
    obtain ⟨hE, hS⟩ := hC
    dsimp only [bare]
    obtain ⟨q1, q2, q3, q4, q5, q6⟩ := (⟨hS.1.2 0 _ rfl, hS.1.2 1 _ rfl, hS.1.2 2 _ rfl, hS.2.2 0 _ rfl, hS.2.2 1 _ rfl, hS.2.2 2 _ rfl⟩ : _ ∧ _ ∧ _ ∧ _ ∧ _ ∧ _)
    clear hd hE
    try clear hS
    go_wp2
    exact Ext.refl _
  case ha => rfl
  refine wpLoose_nil ?_
  intro wb hEb hSb hFb
  have E8 : Hid (Ext w wb) := E7.out.drew.trans hEb
  clear hEb hSb hFb
  go_wp2
  go_ret
  exact ⟨rfl, E8.out⟩
  case hAb => kernel_rfl
  case hlb => exact ⟨trivial, trivial, fun _ _ _ h hE => h.step hE, trivial, trivial, trivial⟩
  case hAa => kernel_rfl
  case hla => exact ⟨trivial, fun _ _ _ h hE => h.step hE, trivial, fun _ _ _ h hE => h.step hE, trivial, trivial, trivial, trivial, trivial, trivial, trivial⟩

set_option maxRecDepth 100000 in
theorem lifted (os : Os) (started : os.Started) (H : Type) (enc : TypeId × Value → H) :
    ReturnsInHanded {} Try.checked os 6 .any (Rows.fnExactRunSpec.pre6 enc Try.prog Try.f6 Rows.fnExactRunRow.domain false) (Rows.fnExactRunSpec.post enc Try.prog Try.f6 false true false false) := by
  refine returnsInHanded_of_change (C := Try.checked) own started (by kernel_rfl) Try.func6
    (ChangeSpec.witness6 (enc := enc) (C := Try.checked) false ⟨#[], #[.slice none 0 0, .agg #[.int .i64 0, .int .i64 0, .slice none 0 0]], []⟩ 8 (by kernel_rfl) (by kernel_rfl) (by kernel_rfl) (by kernel_rfl)) ?_
  intro W base args ds gs before hval0 hW hcnd _
  have hval : ∀ (j : Nat) t v, Try.f6.params[j]? = some t → args[j]? = some v → Value.okWide Try.prog W .any base t v := hval0
  have hW' := hW
  obtain ⟨p, q, hA0, hV, rfl, hfz, hnd⟩ := hW
  have hA : DataW.TrodAll enc Try.prog W 0 (fun _ => true) true Try.f6.params.toList args.toList ds p := hA0
  rw [Try.params6] at hA hval
  obtain ⟨v0, vs0, d0, ds0, p0, q0, hargs, rfl, rfl, h0, r0⟩ := trodAll_cons hA
  obtain ⟨v1, vs1, d1, ds1, p1, q1, rfl, rfl, rfl, h1, r1⟩ := trodAll_cons r0
  obtain ⟨rfl, rfl, rfl⟩ := trodAll_nil r1
  obtain rfl : args = #[v0, v1] := by cases args; simp_all
  obtain ⟨rfl, rfl⟩ := trodVars_none hV
  have lt0 : ∀ x ∈ p0, x.block < W.heap.size := by obtain ⟨m, hm⟩ := h0; exact DataW.trod_lt m _ _ _ hm
  obtain ⟨a0, cap0, xs0, rfl, hxs0⟩ := open_words (hval 0 40 v0 rfl rfl) h0
  have lt1 : ∀ x ∈ p1, x.block < W.heap.size := by obtain ⟨m, hm⟩ := h1; exact DataW.trod_lt m _ _ _ hm
  obtain ⟨ar1, nu1, a1, cap1, ws1, rfl, hws1⟩ := open_call (hval 1 47 v1 rfl rfl) h1
  clear hA0 hval0
  refine (walk a0 cap0 xs0 ar1 nu1 a1 cap1 ws1 W hxs0 hws1).mono fun e W' ⟨he, bel⟩ => ?_
  subst he
  exact ⟨_, rfl, _, _, _, [], _, [], hW', trodAll_mk1 (shut_bool Try.underlying4 _), (trodAll_cons_mk (Below.trod laidOut (by kernel_rfl) (of_decide_eq_true (by kernel_rfl)) h0 bel lt0) (trodAll_cons_mk (Below.trod laidOut (by kernel_rfl) (of_decide_eq_true (by kernel_rfl)) h1 bel lt1) trodAll_mk0)), rfl, bel.frame _, fun h => by cases h⟩

end Go.Proofs.Ytaigoggoibdgbaa.Run
namespace Go.Proofs.Ytaigoggoibdgbaa
open Go.ChangeShapes Go.WideShapes Go.ChangeAt Go.RowKit

theorem run : Rows.FnExactRunSaid :=
  OpenClaim.holds_of_wide 6 Try.f6 rfl rfl rfl rfl rfl rfl rfl ⟨rfl, rfl, rfl, rfl, rfl⟩ rfl rfl rfl rfl rfl (by kernel_rfl) Try.func6 (by kernel_rfl)
    (of_decide_eq_true (by kernel_rfl)) (by unfold Func.isWrapper; first | (rw [if_pos (by decide +kernel)]; kernel_rfl) | (rw [if_neg (by decide +kernel)]; exact ⟨rfl, rfl⟩))
    (fun os started H enc _ => Run.lifted os started H enc)
#print axioms run
end Go.Proofs.Ytaigoggoibdgbaa
