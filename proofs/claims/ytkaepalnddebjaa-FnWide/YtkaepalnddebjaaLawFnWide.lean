/- Proved: at every code the law FnWide answers true: of drawn wide numbers impl's WideCmp is one order and agrees with spec's, impl's WideAnd has no bit that the mask has not; no condition. -/
import Derived.Test.YtkaepalnddebjaaWideMath2
import Derived.Test.YtkaepalnddebjaaDraw4
import Derived.WalkKit
import Derived.ProofKit
import Derived.OpenShut
import Derived.ShutString
import Derived.ChangeOld
import Derived.Below
import Derived.Deep.RegionHeld3
import Derived.Deep.RegionWith
namespace Go.Proofs.Ytkaepalnddebjaa.FnWide
open Go.ChangeShapes Go.WideShapes Go.ChangeAt Go.RowKit
open Go.ChangeMaps (open_string shut_string)
set_option linter.unusedVariables false

theorem own : ownKnob Try.prog.godebug = none := by kernel_rfl
theorem laidOut : laidOutB Try.prog = true := by kernel_rfl

set_option maxRecDepth 100000 in
set_option maxHeartbeats 6400000 in
theorem walk (a : Option Addr) (len cap : Nat) (w : World) (raw : Raw w a len) : Calls Try.prog 3 #[.slice a len cap] w fun e w' => e = .returned (.bool true) ∧ Below w.heap.size w w' := by
  by_cases hbig : 1048576 < len
  · go_enter Try.func3, Try.ntmps3
    go_wp2_with (go_at_call 9; refine (big_yes _ _ _ _ hbig).mono ?_; rintro e w' ⟨rfl, rfl⟩)
    go_ret
    exact ⟨rfl, Below.refl _ _⟩
  have HC : Hid (Came w a len) := ⟨by omega, raw⟩
  have hl : len ≤ 1048576 := by omega
  clear raw hbig
  go_enter Try.func3, Try.ntmps3
  go_wp2_with fail
  refine (big_no a len cap _ hl).mono ?_
  rintro e w' ⟨rfl, rfl⟩
  go_wp2_with fail
  refine (drawCall_any a len cap _ HC.out).mono ?_
  rintro e w1 ⟨arch, num, ws, v, hcb, rfl, ⟨av, cv, rfl, _, hw, hf, hz⟩, x1⟩
  obtain ⟨⟨a1, a2⟩, ⟨b1, b2⟩, ⟨c1, c2⟩, rfl⟩ : ∃ p0 p1 p2, ws = [p0, p1, p2] := by
    simp only [callB, Bool.and_eq_true, decide_eq_true_eq] at hcb
    match ws, hcb.1.2 with
    | [p0, p1, p2], _ => exact ⟨p0, p1, p2, rfl⟩
  have hall : wideB (a1, a2) = true ∧ wideB (b1, b2) = true ∧ wideB (c1, c2) = true := by
    simp only [callB, Bool.and_eq_true, List.all_cons, List.all_nil] at hcb
    exact ⟨hcb.2.1, hcb.2.2.1, hcb.2.2.2.1⟩
  obtain ⟨ha, hb, hc⟩ := hall
  obtain ⟨bk, off, rfl, hblt, hcs⟩ := hw (by simp)
  have d0 : w1.cell? ⟨bk, off, none⟩ = some (.int .i64 a1) := (hcs 0 (by simp)).1
  have d1 : w1.cell? ⟨bk, off + 1, none⟩ = some (.int .i64 a2) := (hcs 0 (by simp)).2
  have d2 : w1.cell? ⟨bk, off + 2, none⟩ = some (.int .i64 b1) := (hcs 1 (by simp)).1
  have d3 : w1.cell? ⟨bk, off + 3, none⟩ = some (.int .i64 b2) := (hcs 1 (by simp)).2
  have d4 : w1.cell? ⟨bk, off + 4, none⟩ = some (.int .i64 c1) := (hcs 2 (by simp)).1
  have d5 : w1.cell? ⟨bk, off + 5, none⟩ = some (.int .i64 c2) := (hcs 2 (by simp)).2
  have hblt2 : bk < w1.heap.size + 1 := by omega
  have hblt3 : bk < w1.heap.size + 1 + 1 := by omega
  have HX1 : Hid (Ext w w1) := x1
  clear hw hf hz hcs hcb x1
  obtain ⟨n, hn⟩ : ∃ n, n = cmpW (a1, a2) (b1, b2) := ⟨_, rfl⟩
  obtain ⟨kbc, hbc⟩ : ∃ k, k = cmpW (b1, b2) (c1, c2) := ⟨_, rfl⟩
  obtain ⟨kac, hac⟩ : ∃ k, k = cmpW (a1, a2) (c1, c2) := ⟨_, rfl⟩
  obtain ⟨⟨m1, m2⟩, hm⟩ : ∃ m, m = andW (a1, a2) (b1, b2) := ⟨_, rfl⟩
  obtain ⟨kma, hma⟩ : ∃ k, k = cmpW (m1, m2) (a1, a2) := ⟨_, rfl⟩
  obtain ⟨q, hq0⟩ : ∃ q, q = decide ((a1, a2) = (b1, b2)) := ⟨_, rfl⟩
  have CAB : Hid (∀ W : World, Calls Try.prog 11 #[.agg #[.int .i64 a1, .int .i64 a2], .agg #[.int .i64 b1, .int .i64 b2]] W fun e w' => e = .returned (.int .i64 n) ∧ Ext W w') := fun W => by rw [hn]; exact iCmp_any a1 a2 b1 b2 W
  have CBA : Hid (∀ W : World, Calls Try.prog 11 #[.agg #[.int .i64 b1, .int .i64 b2], .agg #[.int .i64 a1, .int .i64 a2]] W fun e w' => e = .returned (.int .i64 (-n)) ∧ Ext W w') := fun W => by rw [hn, ← cmpW_anti]; exact iCmp_any b1 b2 a1 a2 W
  have CBC : Hid (∀ W : World, Calls Try.prog 11 #[.agg #[.int .i64 b1, .int .i64 b2], .agg #[.int .i64 c1, .int .i64 c2]] W fun e w' => e = .returned (.int .i64 kbc) ∧ Ext W w') := fun W => by rw [hbc]; exact iCmp_any b1 b2 c1 c2 W
  have CAC : Hid (∀ W : World, Calls Try.prog 11 #[.agg #[.int .i64 a1, .int .i64 a2], .agg #[.int .i64 c1, .int .i64 c2]] W fun e w' => e = .returned (.int .i64 kac) ∧ Ext W w') := fun W => by rw [hac]; exact iCmp_any a1 a2 c1 c2 W
  have NAB : Hid (∀ W : World, Calls Try.prog 12 #[.agg #[.int .i64 a1, .int .i64 a2], .agg #[.int .i64 b1, .int .i64 b2]] W fun e w' => e = .returned (.agg #[.int .i64 m1, .int .i64 m2]) ∧ Ext W w') := fun W => by have := iAnd_any a1 a2 b1 b2 W; rw [← hm] at this; exact this
  have NBA : Hid (∀ W : World, Calls Try.prog 12 #[.agg #[.int .i64 b1, .int .i64 b2], .agg #[.int .i64 a1, .int .i64 a2]] W fun e w' => e = .returned (.agg #[.int .i64 m1, .int .i64 m2]) ∧ Ext W w') := fun W => by have := iAnd_any b1 b2 a1 a2 W; rw [andW_comm ha hb, ← hm] at this; exact this
  have NMA : Hid (∀ W : World, Calls Try.prog 12 #[.agg #[.int .i64 m1, .int .i64 m2], .agg #[.int .i64 a1, .int .i64 a2]] W fun e w' => e = .returned (.agg #[.int .i64 m1, .int .i64 m2]) ∧ Ext W w') := fun W => by have := iAnd_any m1 m2 a1 a2 W; rw [hm, andW_again ha hb, ← hm] at this; exact this
  have CMA : Hid (∀ W : World, Calls Try.prog 11 #[.agg #[.int .i64 m1, .int .i64 m2], .agg #[.int .i64 a1, .int .i64 a2]] W fun e w' => e = .returned (.int .i64 kma) ∧ Ext W w') := fun W => by rw [hma]; exact iCmp_any m1 m2 a1 a2 W
  have WA : Hid (∀ W : World, Calls Try.prog 16 #[.agg #[.int .i64 a1, .int .i64 a2]] W fun e w' => e = .returned (.bool true) ∧ Ext W w') := fun W => by rw [← ha]; exact iWide_any a1 a2 W
  have hkma : kma ≤ 0 := by rw [hma, hm]; exact cmpW_and ha hb
  have hn1 : -1 ≤ n ∧ n ≤ 1 := by rw [hn]; exact cmpW_bound _ _ _ _
  obtain ⟨hnl, hnr⟩ := hn1
  have hq : (n == 0) = q := by rw [hn, hq0]; exact cmpW_zero _ _ _ _
  have E1 := eq_wide a1 a2 b1 b2
  rw [← hq0] at E1
  have E2 : ∀ w, (Op.equalIn 10000 29 (.agg #[.int .i64 m1, .int .i64 m2]) (.agg #[.int .i64 m1, .int .i64 m2])).run Try.prog w = .ok true w := fun w => by rw [eq_wide]; simp
  have hbcb : Hid (-1 ≤ kbc) := by rw [hbc]; exact (cmpW_bound _ _ _ _).1
  have hacb : Hid (-1 ≤ kac) := by rw [hac]; exact (cmpW_bound _ _ _ _).1
  have htr : Hid (n < 0 → kbc < 0 → kac < 0) := fun h1 h2 => by rw [hn] at h1; rw [hbc] at h2; rw [hac]; exact cmpW_trans h1 h2
  clear hn hbc hac hm hma hq0 ha hb hc
  go_wp2_with fail
  refine (CAB.out _).mono ?_
  rintro e w2 ⟨rfl, x2⟩
  have HX2 : Hid (Ext w w2) := ((((HX1.out.alloc _).alloc _).alloc _).alloc _).trans x2
  have cA2 := ((CellsAt.new' (w1.alloc (.cells #[.int .i64 arch, .int .i64 num, .slice (some ⟨bk, off, none⟩) 3 cv] 26)) [.int .i64 a1, .int .i64 a2] 29 (w1.heap.size + 1) (by simp)).step ((Ext.one _ _).alloc _)).step x2
  have cB2 := ((CellsAt.new' ((w1.alloc (.cells #[.int .i64 arch, .int .i64 num, .slice (some ⟨bk, off, none⟩) 3 cv] 26)).alloc (.cells #[.int .i64 a1, .int .i64 a2] 29)) [.int .i64 b1, .int .i64 b2] 29 (w1.heap.size + 1 + 1) (by simp)).step (Ext.one _ _)).step x2
  have cC2 := (CellsAt.new' (((w1.alloc (.cells #[.int .i64 arch, .int .i64 num, .slice (some ⟨bk, off, none⟩) 3 cv] 26)).alloc (.cells #[.int .i64 a1, .int .i64 a2] 29)).alloc (.cells #[.int .i64 b1, .int .i64 b2] 29)) [.int .i64 c1, .int .i64 c2] 29 (w1.heap.size + 1 + 1 + 1) (by simp)).step x2
  clear x2 d0 d1 d2 d3 d4 d5 hblt hblt2 hblt3 HX1
  obtain ⟨q1, q2, q3, q4⟩ := (⟨cA2.2 0 _ rfl, cA2.2 1 _ rfl, cB2.2 0 _ rfl, cB2.2 1 _ rfl⟩ : _ ∧ _ ∧ _ ∧ _)
  go_wp2_with fail
  refine (NAB.out _).mono ?_
  rintro e w3 ⟨rfl, x3⟩
  have HX3 : Hid (Ext w w3) := HX2.out.trans x3
  have cA3 := cA2.step x3
  have cB3 := cB2.step x3
  have cC3 := cC2.step x3
  clear x3 HX2 cA2 cB2 cC2 q1 q2 q3 q4
  go_wp2_with fail
  refine (drawCmp_any a len cap _ (HC.out.below (HX3.out.alloc _))).mono ?_
  rintro e w4 ⟨u1, u2, v1, v2, rfl, x4⟩
  have HX4 : Hid (Ext w w4) := (HX3.out.alloc _).trans x4
  have cA4 := (cA3.step (Ext.one _ _)).step x4
  have cB4 := (cB3.step (Ext.one _ _)).step x4
  have cC4 := (cC3.step (Ext.one _ _)).step x4
  have cM4 := (CellsAt.new w3 [.int .i64 m1, .int .i64 m2] 29).step x4
  clear x4 HX3 cA3 cB3 cC3
  obtain ⟨kuv, huv⟩ : ∃ k, k = cmpW (u1, u2) (v1, v2) := ⟨_, rfl⟩
  obtain ⟨⟨r1, r2⟩, hr⟩ : ∃ m, m = andW (u1, u2) (v1, v2) := ⟨_, rfl⟩
  obtain ⟨bu, hbu⟩ : ∃ b, b = wideB (u1, u2) := ⟨_, rfl⟩
  have CUV : Hid (∀ W : World, Calls Try.prog 11 #[.agg #[.int .i64 u1, .int .i64 u2], .agg #[.int .i64 v1, .int .i64 v2]] W fun e w' => e = .returned (.int .i64 kuv) ∧ Ext W w') := fun W => by rw [huv]; exact iCmp_any u1 u2 v1 v2 W
  have SUV : Hid (∀ W : World, Calls Try.prog 14 #[.agg #[.int .i64 u1, .int .i64 u2], .agg #[.int .i64 v1, .int .i64 v2]] W fun e w' => e = .returned (.int .i64 kuv) ∧ Ext W w') := fun W => by rw [huv]; exact sCmp_any u1 u2 v1 v2 W
  have NUV : Hid (∀ W : World, Calls Try.prog 12 #[.agg #[.int .i64 u1, .int .i64 u2], .agg #[.int .i64 v1, .int .i64 v2]] W fun e w' => e = .returned (.agg #[.int .i64 r1, .int .i64 r2]) ∧ Ext W w') := fun W => by have := iAnd_any u1 u2 v1 v2 W; rw [← hr] at this; exact this
  have SNUV : Hid (∀ W : World, Calls Try.prog 15 #[.agg #[.int .i64 u1, .int .i64 u2], .agg #[.int .i64 v1, .int .i64 v2]] W fun e w' => e = .returned (.agg #[.int .i64 r1, .int .i64 r2]) ∧ Ext W w') := fun W => by have := sAnd_any u1 u2 v1 v2 W; rw [← hr] at this; exact this
  have WU : Hid (∀ W : World, Calls Try.prog 16 #[.agg #[.int .i64 u1, .int .i64 u2]] W fun e w' => e = .returned (.bool bu) ∧ Ext W w') := fun W => by rw [hbu]; exact iWide_any u1 u2 W
  have SWU : Hid (∀ W : World, Calls Try.prog 17 #[.agg #[.int .i64 u1, .int .i64 u2]] W fun e w' => e = .returned (.bool bu) ∧ Ext W w') := fun W => by rw [hbu]; exact sWide_any u1 u2 W
  have E3 : ∀ w, (Op.equalIn 10000 29 (.agg #[.int .i64 r1, .int .i64 r2]) (.agg #[.int .i64 r1, .int .i64 r2])).run Try.prog w = .ok true w := fun w => by rw [eq_wide]; simp
  clear huv hr hbu
  go_wp2_with fail
  have cA5 := (cA4.step (Ext.one _ (.cells #[.int .i64 u1, .int .i64 u2] 29))).step (Ext.one _ (.cells #[.int .i64 v1, .int .i64 v2] 29))
  have cB5 := (cB4.step (Ext.one _ (.cells #[.int .i64 u1, .int .i64 u2] 29))).step (Ext.one _ (.cells #[.int .i64 v1, .int .i64 v2] 29))
  have cC5 := (cC4.step (Ext.one _ (.cells #[.int .i64 u1, .int .i64 u2] 29))).step (Ext.one _ (.cells #[.int .i64 v1, .int .i64 v2] 29))
  have cM5 := (cM4.step (Ext.one _ (.cells #[.int .i64 u1, .int .i64 u2] 29))).step (Ext.one _ (.cells #[.int .i64 v1, .int .i64 v2] 29))
  have cU5 := (CellsAt.new w4 [.int .i64 u1, .int .i64 u2] 29).step (Ext.one _ (.cells #[.int .i64 v1, .int .i64 v2] 29))
  have cV5 := CellsAt.new' (w4.alloc (.cells #[.int .i64 u1, .int .i64 u2] 29)) [.int .i64 v1, .int .i64 v2] 29 (w4.heap.size + 1) (by simp)
  have HX5 : Hid (Ext w ((w4.alloc (.cells #[.int .i64 u1, .int .i64 u2] 29)).alloc (.cells #[.int .i64 v1, .int .i64 v2] 29))) := (HX4.out.alloc _).alloc _
  generalize (w4.alloc (.cells #[.int .i64 u1, .int .i64 u2] 29)).alloc (.cells #[.int .i64 v1, .int .i64 v2] 29) = w5 at *
  clear cA4 cB4 cC4 cM4 HX4
  have HS : Hid (CellsAt w5 (w1.heap.size + 1) [.int .i64 a1, .int .i64 a2] ∧ CellsAt w5 (w1.heap.size + 1 + 1) [.int .i64 b1, .int .i64 b2] ∧ CellsAt w5 (w1.heap.size + 1 + 1 + 1) [.int .i64 c1, .int .i64 c2] ∧ CellsAt w5 w3.heap.size [.int .i64 m1, .int .i64 m2] ∧ CellsAt w5 w4.heap.size [.int .i64 u1, .int .i64 u2] ∧ CellsAt w5 (w4.heap.size + 1) [.int .i64 v1, .int .i64 v2]) := ⟨cA5, cB5, cC5, cM5, cU5, cV5⟩
  clear cA5 cB5 cC5 cM5 cU5 cV5
  by_cases h0 : 0 ≤ n
  · have d0 : decide (0 ≤ n) = true := by simpa using h0
    refine' wp_region_loose (.inl _ :: .inl _ :: .inl _ :: .inl _ :: .inl _ :: .inl _ :: .inl _ :: .inl _ :: .inl _ :: .inl _ :: .inl _ :: .inl _ :: .inl _ :: .inl _ :: .inl _ :: .inl _ :: .inl _ :: .inl _ :: .inl undef :: .inl undef :: .inl undef :: .inl undef :: .inl _ :: .inl _ :: .inl undef :: .inl undef :: .inl undef :: .inl undef :: .inl _ :: .inl _ :: .inl _ :: .inl _ :: .inl _ :: .inl _ :: .inl _ :: .inl _ :: .inl _ :: .inl _ :: .inl _ :: .inl _ :: .inl _ :: .inl _ :: .inl _ :: .inl _ :: .inl _ :: .inl _ :: .inl _ :: .inl _ :: .inl _ :: .inl _ :: .inl _ :: .inl _ :: .inl _ :: .inl _ :: .inl _ :: .inl _ :: .inl _ :: .inl _ :: .inl _ :: .inl _ :: .inl _ :: .inl _ :: .inl _ :: .inl _ :: .inl _ :: .inl _ :: .inl _ :: .inl _ :: .inl _ :: .inl _ :: .inl _ :: .inl _ :: .inl _ :: .inl _ :: .inl _ :: .inl _ :: .inl _ :: .inl _ :: .inl _ :: .inl _ :: []) (fun w' => CellsAt w' (w1.heap.size + 1) [.int .i64 a1, .int .i64 a2] ∧ CellsAt w' (w1.heap.size + 1 + 1) [.int .i64 b1, .int .i64 b2] ∧ CellsAt w' (w1.heap.size + 1 + 1 + 1) [.int .i64 c1, .int .i64 c2] ∧ CellsAt w' w3.heap.size [.int .i64 m1, .int .i64 m2] ∧ CellsAt w' w4.heap.size [.int .i64 u1, .int .i64 u2] ∧ CellsAt w' (w4.heap.size + 1) [.int .i64 v1, .int .i64 v2]) (by kernel_rfl) (by kernel_rfl) (HS.out) (fun _ _ h hE => ⟨h.1.step hE, h.2.1.step hE, h.2.2.1.step hE, h.2.2.2.1.step hE, h.2.2.2.2.1.step hE, h.2.2.2.2.2.step hE⟩) ?hAx ?hlx ?hMx
    case' hMx => skip
    apply wpLoose_val rfl rfl
    case hs =>
      intro w1 hC hd Q1 hQ1
      obtain ⟨hE, hS⟩ := hC
      dsimp only [bare]
      obtain ⟨q1, q2, q3, q4, q5, q6, q7, q8, q9, qa, qb, qc⟩ := (⟨hS.1.2 0 _ rfl, hS.1.2 1 _ rfl, hS.2.1.2 0 _ rfl, hS.2.1.2 1 _ rfl, hS.2.2.1.2 0 _ rfl, hS.2.2.1.2 1 _ rfl, hS.2.2.2.1.2 0 _ rfl, hS.2.2.2.1.2 1 _ rfl, hS.2.2.2.2.1.2 0 _ rfl, hS.2.2.2.2.1.2 1 _ rfl, hS.2.2.2.2.2.2 0 _ rfl, hS.2.2.2.2.2.2 1 _ rfl⟩ : _ ∧ _ ∧ _ ∧ _ ∧ _ ∧ _ ∧ _ ∧ _ ∧ _ ∧ _ ∧ _ ∧ _)
      clear hd hE
      try clear hS
      go_wp2
      exact Ext.refl _
    case ha => rfl
    apply wpLoose_val rfl rfl
    case hs =>
      intro w1 hC hd Q1 hQ1
      obtain ⟨hE, hS⟩ := hC
      dsimp only [bare]
      obtain ⟨q1, q2, q3, q4, q5, q6, q7, q8, q9, qa, qb, qc⟩ := (⟨hS.1.2 0 _ rfl, hS.1.2 1 _ rfl, hS.2.1.2 0 _ rfl, hS.2.1.2 1 _ rfl, hS.2.2.1.2 0 _ rfl, hS.2.2.1.2 1 _ rfl, hS.2.2.2.1.2 0 _ rfl, hS.2.2.2.1.2 1 _ rfl, hS.2.2.2.2.1.2 0 _ rfl, hS.2.2.2.2.1.2 1 _ rfl, hS.2.2.2.2.2.2 0 _ rfl, hS.2.2.2.2.2.2 1 _ rfl⟩ : _ ∧ _ ∧ _ ∧ _ ∧ _ ∧ _ ∧ _ ∧ _ ∧ _ ∧ _ ∧ _ ∧ _)
      clear hd hE
      try clear hS
      go_wp2
      exact Ext.refl _
    case ha => rfl
    apply wpLoose_val rfl rfl
    case hs =>
      intro w1 hC hd Q1 hQ1
      obtain ⟨hE, hS⟩ := hC
      dsimp only [bare]
      obtain ⟨q1, q2, q3, q4, q5, q6, q7, q8, q9, qa, qb, qc⟩ := (⟨hS.1.2 0 _ rfl, hS.1.2 1 _ rfl, hS.2.1.2 0 _ rfl, hS.2.1.2 1 _ rfl, hS.2.2.1.2 0 _ rfl, hS.2.2.1.2 1 _ rfl, hS.2.2.2.1.2 0 _ rfl, hS.2.2.2.1.2 1 _ rfl, hS.2.2.2.2.1.2 0 _ rfl, hS.2.2.2.2.1.2 1 _ rfl, hS.2.2.2.2.2.2 0 _ rfl, hS.2.2.2.2.2.2 1 _ rfl⟩ : _ ∧ _ ∧ _ ∧ _ ∧ _ ∧ _ ∧ _ ∧ _ ∧ _ ∧ _ ∧ _ ∧ _)
      clear hd hE
      try clear hS
      go_wp2
      exact Ext.refl _
    case ha => rfl
    apply wpLoose_val rfl rfl
    case hs =>
      intro w1 hC hd Q1 hQ1
      obtain ⟨hE, hS⟩ := hC
      dsimp only [bare]
      clear hd
      go_wp2_with fail
      refine (CBA.out _).mono ?_
      rintro e w2 ⟨rfl, hb⟩
      go_wp2_with fail
      exact hb
    case ha => rfl
    apply wpLoose_val rfl rfl
    case hs =>
      intro w1 hC hd Q1 hQ1
      obtain ⟨hE, hS⟩ := hC
      dsimp only [bare]
      obtain ⟨q1, q2, q3, q4, q5, q6, q7, q8, q9, qa, qb, qc⟩ := (⟨hS.1.2 0 _ rfl, hS.1.2 1 _ rfl, hS.2.1.2 0 _ rfl, hS.2.1.2 1 _ rfl, hS.2.2.1.2 0 _ rfl, hS.2.2.1.2 1 _ rfl, hS.2.2.2.1.2 0 _ rfl, hS.2.2.2.1.2 1 _ rfl, hS.2.2.2.2.1.2 0 _ rfl, hS.2.2.2.2.1.2 1 _ rfl, hS.2.2.2.2.2.2 0 _ rfl, hS.2.2.2.2.2.2 1 _ rfl⟩ : _ ∧ _ ∧ _ ∧ _ ∧ _ ∧ _ ∧ _ ∧ _ ∧ _ ∧ _ ∧ _ ∧ _)
      clear hd hE
      try clear hS
      go_wp2
      exact Ext.refl _
    case ha => rfl
    apply wpLoose_val rfl rfl
    case hs =>
      intro w1 hC hd Q1 hQ1
      obtain ⟨hE, hS⟩ := hC
      dsimp only [bare]
      obtain ⟨q1, q2, q3, q4, q5, q6, q7, q8, q9, qa, qb, qc⟩ := (⟨hS.1.2 0 _ rfl, hS.1.2 1 _ rfl, hS.2.1.2 0 _ rfl, hS.2.1.2 1 _ rfl, hS.2.2.1.2 0 _ rfl, hS.2.2.1.2 1 _ rfl, hS.2.2.2.1.2 0 _ rfl, hS.2.2.2.1.2 1 _ rfl, hS.2.2.2.2.1.2 0 _ rfl, hS.2.2.2.2.1.2 1 _ rfl, hS.2.2.2.2.2.2 0 _ rfl, hS.2.2.2.2.2.2 1 _ rfl⟩ : _ ∧ _ ∧ _ ∧ _ ∧ _ ∧ _ ∧ _ ∧ _ ∧ _ ∧ _ ∧ _ ∧ _)
      clear hd hE
      try clear hS
      go_wp2
      exact Ext.refl _
    case ha => rfl
    apply wpLoose_val rfl rfl
    case hs =>
      intro w1 hC hd Q1 hQ1
      obtain ⟨hE, hS⟩ := hC
      dsimp only [bare]
      obtain ⟨q1, q2, q3, q4, q5, q6, q7, q8, q9, qa, qb, qc⟩ := (⟨hS.1.2 0 _ rfl, hS.1.2 1 _ rfl, hS.2.1.2 0 _ rfl, hS.2.1.2 1 _ rfl, hS.2.2.1.2 0 _ rfl, hS.2.2.1.2 1 _ rfl, hS.2.2.2.1.2 0 _ rfl, hS.2.2.2.1.2 1 _ rfl, hS.2.2.2.2.1.2 0 _ rfl, hS.2.2.2.2.1.2 1 _ rfl, hS.2.2.2.2.2.2 0 _ rfl, hS.2.2.2.2.2.2 1 _ rfl⟩ : _ ∧ _ ∧ _ ∧ _ ∧ _ ∧ _ ∧ _ ∧ _ ∧ _ ∧ _ ∧ _ ∧ _)
      clear hd hE
      try clear hS
      go_wp2
      exact Ext.refl _
    case ha => rfl
    apply wpLoose_val rfl rfl
    case hs =>
      intro w1 hC hd Q1 hQ1
      obtain ⟨hE, hS⟩ := hC
      dsimp only [bare]
      obtain ⟨q1, q2, q3, q4, q5, q6, q7, q8, q9, qa, qb, qc⟩ := (⟨hS.1.2 0 _ rfl, hS.1.2 1 _ rfl, hS.2.1.2 0 _ rfl, hS.2.1.2 1 _ rfl, hS.2.2.1.2 0 _ rfl, hS.2.2.1.2 1 _ rfl, hS.2.2.2.1.2 0 _ rfl, hS.2.2.2.1.2 1 _ rfl, hS.2.2.2.2.1.2 0 _ rfl, hS.2.2.2.2.1.2 1 _ rfl, hS.2.2.2.2.2.2 0 _ rfl, hS.2.2.2.2.2.2 1 _ rfl⟩ : _ ∧ _ ∧ _ ∧ _ ∧ _ ∧ _ ∧ _ ∧ _ ∧ _ ∧ _ ∧ _ ∧ _)
      clear hd hE
      try clear hS
      go_wp2
      exact Ext.refl _
    case ha => rfl
    apply wpLoose_val rfl rfl
    case hs =>
      intro w1 hC hd Q1 hQ1
      obtain ⟨hE, hS⟩ := hC
      dsimp only [bare]
      obtain ⟨q1, q2, q3, q4, q5, q6, q7, q8, q9, qa, qb, qc⟩ := (⟨hS.1.2 0 _ rfl, hS.1.2 1 _ rfl, hS.2.1.2 0 _ rfl, hS.2.1.2 1 _ rfl, hS.2.2.1.2 0 _ rfl, hS.2.2.1.2 1 _ rfl, hS.2.2.2.1.2 0 _ rfl, hS.2.2.2.1.2 1 _ rfl, hS.2.2.2.2.1.2 0 _ rfl, hS.2.2.2.2.1.2 1 _ rfl, hS.2.2.2.2.2.2 0 _ rfl, hS.2.2.2.2.2.2 1 _ rfl⟩ : _ ∧ _ ∧ _ ∧ _ ∧ _ ∧ _ ∧ _ ∧ _ ∧ _ ∧ _ ∧ _ ∧ _)
      clear hd hE
      try clear hS
      go_wp2
      exact Ext.refl _
    case ha => rfl
    apply wpLoose_val rfl rfl
    case hs =>
      intro w1 hC hd Q1 hQ1
      obtain ⟨hE, hS⟩ := hC
      dsimp only [bare]
      obtain ⟨q1, q2, q3, q4, q5, q6, q7, q8, q9, qa, qb, qc⟩ := (⟨hS.1.2 0 _ rfl, hS.1.2 1 _ rfl, hS.2.1.2 0 _ rfl, hS.2.1.2 1 _ rfl, hS.2.2.1.2 0 _ rfl, hS.2.2.1.2 1 _ rfl, hS.2.2.2.1.2 0 _ rfl, hS.2.2.2.1.2 1 _ rfl, hS.2.2.2.2.1.2 0 _ rfl, hS.2.2.2.2.1.2 1 _ rfl, hS.2.2.2.2.2.2 0 _ rfl, hS.2.2.2.2.2.2 1 _ rfl⟩ : _ ∧ _ ∧ _ ∧ _ ∧ _ ∧ _ ∧ _ ∧ _ ∧ _ ∧ _ ∧ _ ∧ _)
      clear hd hE
      try clear hS
      go_wp2
      exact Ext.refl _
    case ha => rfl
    apply wpLoose_val rfl rfl
    case hs =>
      intro w1 hC hd Q1 hQ1
      obtain ⟨hE, hS⟩ := hC
      dsimp only [bare]
      obtain ⟨q1, q2, q3, q4, q5, q6, q7, q8, q9, qa, qb, qc⟩ := (⟨hS.1.2 0 _ rfl, hS.1.2 1 _ rfl, hS.2.1.2 0 _ rfl, hS.2.1.2 1 _ rfl, hS.2.2.1.2 0 _ rfl, hS.2.2.1.2 1 _ rfl, hS.2.2.2.1.2 0 _ rfl, hS.2.2.2.1.2 1 _ rfl, hS.2.2.2.2.1.2 0 _ rfl, hS.2.2.2.2.1.2 1 _ rfl, hS.2.2.2.2.2.2 0 _ rfl, hS.2.2.2.2.2.2 1 _ rfl⟩ : _ ∧ _ ∧ _ ∧ _ ∧ _ ∧ _ ∧ _ ∧ _ ∧ _ ∧ _ ∧ _ ∧ _)
      clear hd hE
      try clear hS
      go_wp2
      exact Ext.refl _
    case ha => rfl
    apply wpLoose_val rfl rfl
    case hs =>
      intro w1 hC hd Q1 hQ1
      obtain ⟨hE, hS⟩ := hC
      dsimp only [bare]
      obtain ⟨q1, q2, q3, q4, q5, q6, q7, q8, q9, qa, qb, qc⟩ := (⟨hS.1.2 0 _ rfl, hS.1.2 1 _ rfl, hS.2.1.2 0 _ rfl, hS.2.1.2 1 _ rfl, hS.2.2.1.2 0 _ rfl, hS.2.2.1.2 1 _ rfl, hS.2.2.2.1.2 0 _ rfl, hS.2.2.2.1.2 1 _ rfl, hS.2.2.2.2.1.2 0 _ rfl, hS.2.2.2.2.1.2 1 _ rfl, hS.2.2.2.2.2.2 0 _ rfl, hS.2.2.2.2.2.2 1 _ rfl⟩ : _ ∧ _ ∧ _ ∧ _ ∧ _ ∧ _ ∧ _ ∧ _ ∧ _ ∧ _ ∧ _ ∧ _)
      clear hd hE
      try clear hS
      go_wp2
      exact Ext.refl _
    case ha => rfl
    apply wpLoose_val rfl rfl
    case hs =>
      intro w1 hC hd Q1 hQ1
      obtain ⟨hE, hS⟩ := hC
      dsimp only [bare]
      obtain ⟨q1, q2, q3, q4, q5, q6, q7, q8, q9, qa, qb, qc⟩ := (⟨hS.1.2 0 _ rfl, hS.1.2 1 _ rfl, hS.2.1.2 0 _ rfl, hS.2.1.2 1 _ rfl, hS.2.2.1.2 0 _ rfl, hS.2.2.1.2 1 _ rfl, hS.2.2.2.1.2 0 _ rfl, hS.2.2.2.1.2 1 _ rfl, hS.2.2.2.2.1.2 0 _ rfl, hS.2.2.2.2.1.2 1 _ rfl, hS.2.2.2.2.2.2 0 _ rfl, hS.2.2.2.2.2.2 1 _ rfl⟩ : _ ∧ _ ∧ _ ∧ _ ∧ _ ∧ _ ∧ _ ∧ _ ∧ _ ∧ _ ∧ _ ∧ _)
      clear hd hE
      try clear hS
      go_wp2
      exact Ext.refl _
    case ha => rfl
    apply wpLoose_val rfl rfl
    case hs =>
      intro w1 hC hd Q1 hQ1
      obtain ⟨hE, hS⟩ := hC
      dsimp only [bare]
      obtain ⟨q1, q2, q3, q4, q5, q6, q7, q8, q9, qa, qb, qc⟩ := (⟨hS.1.2 0 _ rfl, hS.1.2 1 _ rfl, hS.2.1.2 0 _ rfl, hS.2.1.2 1 _ rfl, hS.2.2.1.2 0 _ rfl, hS.2.2.1.2 1 _ rfl, hS.2.2.2.1.2 0 _ rfl, hS.2.2.2.1.2 1 _ rfl, hS.2.2.2.2.1.2 0 _ rfl, hS.2.2.2.2.1.2 1 _ rfl, hS.2.2.2.2.2.2 0 _ rfl, hS.2.2.2.2.2.2 1 _ rfl⟩ : _ ∧ _ ∧ _ ∧ _ ∧ _ ∧ _ ∧ _ ∧ _ ∧ _ ∧ _ ∧ _ ∧ _)
      clear hd hE
      try clear hS
      go_wp2
      exact Ext.refl _
    case ha => rfl
    apply wpLoose_val rfl rfl
    case hs =>
      intro w1 hC hd Q1 hQ1
      obtain ⟨hE, hS⟩ := hC
      dsimp only [bare]
      obtain ⟨q1, q2, q3, q4, q5, q6, q7, q8, q9, qa, qb, qc⟩ := (⟨hS.1.2 0 _ rfl, hS.1.2 1 _ rfl, hS.2.1.2 0 _ rfl, hS.2.1.2 1 _ rfl, hS.2.2.1.2 0 _ rfl, hS.2.2.1.2 1 _ rfl, hS.2.2.2.1.2 0 _ rfl, hS.2.2.2.1.2 1 _ rfl, hS.2.2.2.2.1.2 0 _ rfl, hS.2.2.2.2.1.2 1 _ rfl, hS.2.2.2.2.2.2 0 _ rfl, hS.2.2.2.2.2.2 1 _ rfl⟩ : _ ∧ _ ∧ _ ∧ _ ∧ _ ∧ _ ∧ _ ∧ _ ∧ _ ∧ _ ∧ _ ∧ _)
      clear hd hE
      try clear hS
      go_wp2
      exact Ext.refl _
    case ha => rfl
    apply wpLoose_val rfl rfl
    case hs =>
      intro w1 hC hd Q1 hQ1
      obtain ⟨hE, hS⟩ := hC
      dsimp only [bare]
      obtain ⟨q1, q2, q3, q4, q5, q6, q7, q8, q9, qa, qb, qc⟩ := (⟨hS.1.2 0 _ rfl, hS.1.2 1 _ rfl, hS.2.1.2 0 _ rfl, hS.2.1.2 1 _ rfl, hS.2.2.1.2 0 _ rfl, hS.2.2.1.2 1 _ rfl, hS.2.2.2.1.2 0 _ rfl, hS.2.2.2.1.2 1 _ rfl, hS.2.2.2.2.1.2 0 _ rfl, hS.2.2.2.2.1.2 1 _ rfl, hS.2.2.2.2.2.2 0 _ rfl, hS.2.2.2.2.2.2 1 _ rfl⟩ : _ ∧ _ ∧ _ ∧ _ ∧ _ ∧ _ ∧ _ ∧ _ ∧ _ ∧ _ ∧ _ ∧ _)
      clear hd hE
      try clear hS
      go_wp2
      exact Ext.refl _
    case ha => rfl
    apply wpLoose_val rfl rfl
    case hs =>
      intro w1 hC hd Q1 hQ1
      obtain ⟨hE, hS⟩ := hC
      dsimp only [bare]
      obtain ⟨q1, q2, q3, q4, q5, q6, q7, q8, q9, qa, qb, qc⟩ := (⟨hS.1.2 0 _ rfl, hS.1.2 1 _ rfl, hS.2.1.2 0 _ rfl, hS.2.1.2 1 _ rfl, hS.2.2.1.2 0 _ rfl, hS.2.2.1.2 1 _ rfl, hS.2.2.2.1.2 0 _ rfl, hS.2.2.2.1.2 1 _ rfl, hS.2.2.2.2.1.2 0 _ rfl, hS.2.2.2.2.1.2 1 _ rfl, hS.2.2.2.2.2.2 0 _ rfl, hS.2.2.2.2.2.2 1 _ rfl⟩ : _ ∧ _ ∧ _ ∧ _ ∧ _ ∧ _ ∧ _ ∧ _ ∧ _ ∧ _ ∧ _ ∧ _)
      clear hd hE
      try clear hS
      go_wp2
      exact Ext.refl _
    case ha => rfl
    apply wpLoose_val rfl rfl
    case hs =>
      intro w1 hC hd Q1 hQ1
      obtain ⟨hE, hS⟩ := hC
      dsimp only [bare]
      obtain ⟨q1, q2, q3, q4, q5, q6, q7, q8, q9, qa, qb, qc⟩ := (⟨hS.1.2 0 _ rfl, hS.1.2 1 _ rfl, hS.2.1.2 0 _ rfl, hS.2.1.2 1 _ rfl, hS.2.2.1.2 0 _ rfl, hS.2.2.1.2 1 _ rfl, hS.2.2.2.1.2 0 _ rfl, hS.2.2.2.1.2 1 _ rfl, hS.2.2.2.2.1.2 0 _ rfl, hS.2.2.2.2.1.2 1 _ rfl, hS.2.2.2.2.2.2 0 _ rfl, hS.2.2.2.2.2.2 1 _ rfl⟩ : _ ∧ _ ∧ _ ∧ _ ∧ _ ∧ _ ∧ _ ∧ _ ∧ _ ∧ _ ∧ _ ∧ _)
      clear hd hE
      try clear hS
      go_wp2
      exact Ext.refl _
    case ha => rfl
    refine wpLoose_skip rfl rfl ?_
    refine wpLoose_skip rfl rfl ?_
    refine wpLoose_skip rfl rfl ?_
    refine wpLoose_skip rfl rfl ?_
    apply wpLoose_val rfl rfl
    case hs =>
      intro w1 hC hd Q1 hQ1
      obtain ⟨hE, hS⟩ := hC
      dsimp only [bare]
      obtain ⟨q1, q2, q3, q4, q5, q6, q7, q8, q9, qa, qb, qc⟩ := (⟨hS.1.2 0 _ rfl, hS.1.2 1 _ rfl, hS.2.1.2 0 _ rfl, hS.2.1.2 1 _ rfl, hS.2.2.1.2 0 _ rfl, hS.2.2.1.2 1 _ rfl, hS.2.2.2.1.2 0 _ rfl, hS.2.2.2.1.2 1 _ rfl, hS.2.2.2.2.1.2 0 _ rfl, hS.2.2.2.2.1.2 1 _ rfl, hS.2.2.2.2.2.2 0 _ rfl, hS.2.2.2.2.2.2 1 _ rfl⟩ : _ ∧ _ ∧ _ ∧ _ ∧ _ ∧ _ ∧ _ ∧ _ ∧ _ ∧ _ ∧ _ ∧ _)
      clear hd hE
      try clear hS
      go_wp2
      exact Ext.refl _
    case ha => rfl
    apply wpLoose_val rfl rfl
    case hs =>
      intro w1 hC hd Q1 hQ1
      obtain ⟨hE, hS⟩ := hC
      dsimp only [bare]
      obtain ⟨q1, q2, q3, q4, q5, q6, q7, q8, q9, qa, qb, qc⟩ := (⟨hS.1.2 0 _ rfl, hS.1.2 1 _ rfl, hS.2.1.2 0 _ rfl, hS.2.1.2 1 _ rfl, hS.2.2.1.2 0 _ rfl, hS.2.2.1.2 1 _ rfl, hS.2.2.2.1.2 0 _ rfl, hS.2.2.2.1.2 1 _ rfl, hS.2.2.2.2.1.2 0 _ rfl, hS.2.2.2.2.1.2 1 _ rfl, hS.2.2.2.2.2.2 0 _ rfl, hS.2.2.2.2.2.2 1 _ rfl⟩ : _ ∧ _ ∧ _ ∧ _ ∧ _ ∧ _ ∧ _ ∧ _ ∧ _ ∧ _ ∧ _ ∧ _)
      clear hd hE
      try clear hS
      go_wp2
      exact Ext.refl _
    case ha => rfl
    refine wpLoose_skip rfl rfl ?_
    refine wpLoose_skip rfl rfl ?_
    refine wpLoose_skip rfl rfl ?_
    refine wpLoose_skip rfl rfl ?_
    apply wpLoose_val rfl rfl
    case hs =>
      intro w1 hC hd Q1 hQ1
      obtain ⟨hE, hS⟩ := hC
      dsimp only [bare]
      obtain ⟨q1, q2, q3, q4, q5, q6, q7, q8, q9, qa, qb, qc⟩ := (⟨hS.1.2 0 _ rfl, hS.1.2 1 _ rfl, hS.2.1.2 0 _ rfl, hS.2.1.2 1 _ rfl, hS.2.2.1.2 0 _ rfl, hS.2.2.1.2 1 _ rfl, hS.2.2.2.1.2 0 _ rfl, hS.2.2.2.1.2 1 _ rfl, hS.2.2.2.2.1.2 0 _ rfl, hS.2.2.2.2.1.2 1 _ rfl, hS.2.2.2.2.2.2 0 _ rfl, hS.2.2.2.2.2.2 1 _ rfl⟩ : _ ∧ _ ∧ _ ∧ _ ∧ _ ∧ _ ∧ _ ∧ _ ∧ _ ∧ _ ∧ _ ∧ _)
      clear hd hE
      try clear hS
      go_wp2
      exact Ext.refl _
    case ha => rfl
    apply wpLoose_val rfl rfl
    case hs =>
      intro w1 hC hd Q1 hQ1
      obtain ⟨hE, hS⟩ := hC
      dsimp only [bare]
      obtain ⟨q1, q2, q3, q4, q5, q6, q7, q8, q9, qa, qb, qc⟩ := (⟨hS.1.2 0 _ rfl, hS.1.2 1 _ rfl, hS.2.1.2 0 _ rfl, hS.2.1.2 1 _ rfl, hS.2.2.1.2 0 _ rfl, hS.2.2.1.2 1 _ rfl, hS.2.2.2.1.2 0 _ rfl, hS.2.2.2.1.2 1 _ rfl, hS.2.2.2.2.1.2 0 _ rfl, hS.2.2.2.2.1.2 1 _ rfl, hS.2.2.2.2.2.2 0 _ rfl, hS.2.2.2.2.2.2 1 _ rfl⟩ : _ ∧ _ ∧ _ ∧ _ ∧ _ ∧ _ ∧ _ ∧ _ ∧ _ ∧ _ ∧ _ ∧ _)
      clear hd hE
      try clear hS
      go_wp2
      exact Ext.refl _
    case ha => rfl
    apply wpLoose_val rfl rfl
    case hs =>
      intro w1 hC hd Q1 hQ1
      obtain ⟨hE, hS⟩ := hC
      dsimp only [bare]
      obtain ⟨q1, q2, q3, q4, q5, q6, q7, q8, q9, qa, qb, qc⟩ := (⟨hS.1.2 0 _ rfl, hS.1.2 1 _ rfl, hS.2.1.2 0 _ rfl, hS.2.1.2 1 _ rfl, hS.2.2.1.2 0 _ rfl, hS.2.2.1.2 1 _ rfl, hS.2.2.2.1.2 0 _ rfl, hS.2.2.2.1.2 1 _ rfl, hS.2.2.2.2.1.2 0 _ rfl, hS.2.2.2.2.1.2 1 _ rfl, hS.2.2.2.2.2.2 0 _ rfl, hS.2.2.2.2.2.2 1 _ rfl⟩ : _ ∧ _ ∧ _ ∧ _ ∧ _ ∧ _ ∧ _ ∧ _ ∧ _ ∧ _ ∧ _ ∧ _)
      clear hd hE
      try clear hS
      go_wp2
      exact Ext.refl _
    case ha => rfl
    apply wpLoose_val rfl rfl
    case hs =>
      intro w1 hC hd Q1 hQ1
      obtain ⟨hE, hS⟩ := hC
      dsimp only [bare]
      obtain ⟨q1, q2, q3, q4, q5, q6, q7, q8, q9, qa, qb, qc⟩ := (⟨hS.1.2 0 _ rfl, hS.1.2 1 _ rfl, hS.2.1.2 0 _ rfl, hS.2.1.2 1 _ rfl, hS.2.2.1.2 0 _ rfl, hS.2.2.1.2 1 _ rfl, hS.2.2.2.1.2 0 _ rfl, hS.2.2.2.1.2 1 _ rfl, hS.2.2.2.2.1.2 0 _ rfl, hS.2.2.2.2.1.2 1 _ rfl, hS.2.2.2.2.2.2 0 _ rfl, hS.2.2.2.2.2.2 1 _ rfl⟩ : _ ∧ _ ∧ _ ∧ _ ∧ _ ∧ _ ∧ _ ∧ _ ∧ _ ∧ _ ∧ _ ∧ _)
      clear hd hE
      try clear hS
      go_wp2
      exact Ext.refl _
    case ha => rfl
    apply wpLoose_val rfl rfl
    case hs =>
      intro w1 hC hd Q1 hQ1
      obtain ⟨hE, hS⟩ := hC
      dsimp only [bare]
      obtain ⟨q1, q2, q3, q4, q5, q6, q7, q8, q9, qa, qb, qc⟩ := (⟨hS.1.2 0 _ rfl, hS.1.2 1 _ rfl, hS.2.1.2 0 _ rfl, hS.2.1.2 1 _ rfl, hS.2.2.1.2 0 _ rfl, hS.2.2.1.2 1 _ rfl, hS.2.2.2.1.2 0 _ rfl, hS.2.2.2.1.2 1 _ rfl, hS.2.2.2.2.1.2 0 _ rfl, hS.2.2.2.2.1.2 1 _ rfl, hS.2.2.2.2.2.2 0 _ rfl, hS.2.2.2.2.2.2 1 _ rfl⟩ : _ ∧ _ ∧ _ ∧ _ ∧ _ ∧ _ ∧ _ ∧ _ ∧ _ ∧ _ ∧ _ ∧ _)
      clear hd hE
      try clear hS
      go_wp2
      exact Ext.refl _
    case ha => rfl
    apply wpLoose_val rfl rfl
    case hs =>
      intro w1 hC hd Q1 hQ1
      obtain ⟨hE, hS⟩ := hC
      dsimp only [bare]
      obtain ⟨q1, q2, q3, q4, q5, q6, q7, q8, q9, qa, qb, qc⟩ := (⟨hS.1.2 0 _ rfl, hS.1.2 1 _ rfl, hS.2.1.2 0 _ rfl, hS.2.1.2 1 _ rfl, hS.2.2.1.2 0 _ rfl, hS.2.2.1.2 1 _ rfl, hS.2.2.2.1.2 0 _ rfl, hS.2.2.2.1.2 1 _ rfl, hS.2.2.2.2.1.2 0 _ rfl, hS.2.2.2.2.1.2 1 _ rfl, hS.2.2.2.2.2.2 0 _ rfl, hS.2.2.2.2.2.2 1 _ rfl⟩ : _ ∧ _ ∧ _ ∧ _ ∧ _ ∧ _ ∧ _ ∧ _ ∧ _ ∧ _ ∧ _ ∧ _)
      clear hd hE
      try clear hS
      go_wp2
      exact Ext.refl _
    case ha => rfl
    apply wpLoose_val rfl rfl
    case hs =>
      intro w1 hC hd Q1 hQ1
      obtain ⟨hE, hS⟩ := hC
      dsimp only [bare]
      clear hd
      go_wp2_with fail
      refine (NBA.out _).mono ?_
      rintro e w2 ⟨rfl, hb⟩
      go_wp2_with fail
      exact hb
    case ha => rfl
    apply wpLoose_val rfl rfl
    case hs =>
      intro w1 hC hd Q1 hQ1
      obtain ⟨hE, hS⟩ := hC
      dsimp only [bare]
      obtain ⟨q1, q2, q3, q4, q5, q6, q7, q8, q9, qa, qb, qc⟩ := (⟨hS.1.2 0 _ rfl, hS.1.2 1 _ rfl, hS.2.1.2 0 _ rfl, hS.2.1.2 1 _ rfl, hS.2.2.1.2 0 _ rfl, hS.2.2.1.2 1 _ rfl, hS.2.2.2.1.2 0 _ rfl, hS.2.2.2.1.2 1 _ rfl, hS.2.2.2.2.1.2 0 _ rfl, hS.2.2.2.2.1.2 1 _ rfl, hS.2.2.2.2.2.2 0 _ rfl, hS.2.2.2.2.2.2 1 _ rfl⟩ : _ ∧ _ ∧ _ ∧ _ ∧ _ ∧ _ ∧ _ ∧ _ ∧ _ ∧ _ ∧ _ ∧ _)
      clear hd hE
      try clear hS
      go_wp2
      exact Ext.refl _
    case ha => rfl
    apply wpLoose_val rfl rfl
    case hs =>
      intro w1 hC hd Q1 hQ1
      obtain ⟨hE, hS⟩ := hC
      dsimp only [bare]
      obtain ⟨q1, q2, q3, q4, q5, q6, q7, q8, q9, qa, qb, qc⟩ := (⟨hS.1.2 0 _ rfl, hS.1.2 1 _ rfl, hS.2.1.2 0 _ rfl, hS.2.1.2 1 _ rfl, hS.2.2.1.2 0 _ rfl, hS.2.2.1.2 1 _ rfl, hS.2.2.2.1.2 0 _ rfl, hS.2.2.2.1.2 1 _ rfl, hS.2.2.2.2.1.2 0 _ rfl, hS.2.2.2.2.1.2 1 _ rfl, hS.2.2.2.2.2.2 0 _ rfl, hS.2.2.2.2.2.2 1 _ rfl⟩ : _ ∧ _ ∧ _ ∧ _ ∧ _ ∧ _ ∧ _ ∧ _ ∧ _ ∧ _ ∧ _ ∧ _)
      clear hd hE
      try clear hS
      go_wp2
      exact Ext.refl _
    case ha => rfl
    apply wpLoose_val rfl rfl
    case hs =>
      intro w1 hC hd Q1 hQ1
      obtain ⟨hE, hS⟩ := hC
      dsimp only [bare]
      obtain ⟨q1, q2, q3, q4, q5, q6, q7, q8, q9, qa, qb, qc⟩ := (⟨hS.1.2 0 _ rfl, hS.1.2 1 _ rfl, hS.2.1.2 0 _ rfl, hS.2.1.2 1 _ rfl, hS.2.2.1.2 0 _ rfl, hS.2.2.1.2 1 _ rfl, hS.2.2.2.1.2 0 _ rfl, hS.2.2.2.1.2 1 _ rfl, hS.2.2.2.2.1.2 0 _ rfl, hS.2.2.2.2.1.2 1 _ rfl, hS.2.2.2.2.2.2 0 _ rfl, hS.2.2.2.2.2.2 1 _ rfl⟩ : _ ∧ _ ∧ _ ∧ _ ∧ _ ∧ _ ∧ _ ∧ _ ∧ _ ∧ _ ∧ _ ∧ _)
      clear hd hE
      try clear hS
      go_wp2
      exact Ext.refl _
    case ha => rfl
    apply wpLoose_val rfl rfl
    case hs =>
      intro w1 hC hd Q1 hQ1
      obtain ⟨hE, hS⟩ := hC
      dsimp only [bare]
      obtain ⟨q1, q2, q3, q4, q5, q6, q7, q8, q9, qa, qb, qc⟩ := (⟨hS.1.2 0 _ rfl, hS.1.2 1 _ rfl, hS.2.1.2 0 _ rfl, hS.2.1.2 1 _ rfl, hS.2.2.1.2 0 _ rfl, hS.2.2.1.2 1 _ rfl, hS.2.2.2.1.2 0 _ rfl, hS.2.2.2.1.2 1 _ rfl, hS.2.2.2.2.1.2 0 _ rfl, hS.2.2.2.2.1.2 1 _ rfl, hS.2.2.2.2.2.2 0 _ rfl, hS.2.2.2.2.2.2 1 _ rfl⟩ : _ ∧ _ ∧ _ ∧ _ ∧ _ ∧ _ ∧ _ ∧ _ ∧ _ ∧ _ ∧ _ ∧ _)
      clear hd hE
      try clear hS
      go_wp2
      exact Ext.refl _
    case ha => rfl
    apply wpLoose_val rfl rfl
    case hs =>
      intro w1 hC hd Q1 hQ1
      obtain ⟨hE, hS⟩ := hC
      dsimp only [bare]
      obtain ⟨q1, q2, q3, q4, q5, q6, q7, q8, q9, qa, qb, qc⟩ := (⟨hS.1.2 0 _ rfl, hS.1.2 1 _ rfl, hS.2.1.2 0 _ rfl, hS.2.1.2 1 _ rfl, hS.2.2.1.2 0 _ rfl, hS.2.2.1.2 1 _ rfl, hS.2.2.2.1.2 0 _ rfl, hS.2.2.2.1.2 1 _ rfl, hS.2.2.2.2.1.2 0 _ rfl, hS.2.2.2.2.1.2 1 _ rfl, hS.2.2.2.2.2.2 0 _ rfl, hS.2.2.2.2.2.2 1 _ rfl⟩ : _ ∧ _ ∧ _ ∧ _ ∧ _ ∧ _ ∧ _ ∧ _ ∧ _ ∧ _ ∧ _ ∧ _)
      clear hd hE
      try clear hS
      go_wp2
      exact Ext.refl _
    case ha => rfl
    apply wpLoose_val rfl rfl
    case hs =>
      intro w1 hC hd Q1 hQ1
      obtain ⟨hE, hS⟩ := hC
      dsimp only [bare]
      clear hd
      go_wp2_with fail
      refine (NMA.out _).mono ?_
      rintro e w2 ⟨rfl, hb⟩
      go_wp2_with fail
      exact hb
    case ha => rfl
    apply wpLoose_val rfl rfl
    case hs =>
      intro w1 hC hd Q1 hQ1
      obtain ⟨hE, hS⟩ := hC
      dsimp only [bare]
      obtain ⟨q1, q2, q3, q4, q5, q6, q7, q8, q9, qa, qb, qc⟩ := (⟨hS.1.2 0 _ rfl, hS.1.2 1 _ rfl, hS.2.1.2 0 _ rfl, hS.2.1.2 1 _ rfl, hS.2.2.1.2 0 _ rfl, hS.2.2.1.2 1 _ rfl, hS.2.2.2.1.2 0 _ rfl, hS.2.2.2.1.2 1 _ rfl, hS.2.2.2.2.1.2 0 _ rfl, hS.2.2.2.2.1.2 1 _ rfl, hS.2.2.2.2.2.2 0 _ rfl, hS.2.2.2.2.2.2 1 _ rfl⟩ : _ ∧ _ ∧ _ ∧ _ ∧ _ ∧ _ ∧ _ ∧ _ ∧ _ ∧ _ ∧ _ ∧ _)
      clear hd hE
      try clear hS
      go_wp2
      exact Ext.refl _
    case ha => rfl
    apply wpLoose_val rfl rfl
    case hs =>
      intro w1 hC hd Q1 hQ1
      obtain ⟨hE, hS⟩ := hC
      dsimp only [bare]
      obtain ⟨q1, q2, q3, q4, q5, q6, q7, q8, q9, qa, qb, qc⟩ := (⟨hS.1.2 0 _ rfl, hS.1.2 1 _ rfl, hS.2.1.2 0 _ rfl, hS.2.1.2 1 _ rfl, hS.2.2.1.2 0 _ rfl, hS.2.2.1.2 1 _ rfl, hS.2.2.2.1.2 0 _ rfl, hS.2.2.2.1.2 1 _ rfl, hS.2.2.2.2.1.2 0 _ rfl, hS.2.2.2.2.1.2 1 _ rfl, hS.2.2.2.2.2.2 0 _ rfl, hS.2.2.2.2.2.2 1 _ rfl⟩ : _ ∧ _ ∧ _ ∧ _ ∧ _ ∧ _ ∧ _ ∧ _ ∧ _ ∧ _ ∧ _ ∧ _)
      clear hd hE
      try clear hS
      go_wp2
      exact Ext.refl _
    case ha => rfl
    apply wpLoose_val rfl rfl
    case hs =>
      intro w1 hC hd Q1 hQ1
      obtain ⟨hE, hS⟩ := hC
      dsimp only [bare]
      obtain ⟨q1, q2, q3, q4, q5, q6, q7, q8, q9, qa, qb, qc⟩ := (⟨hS.1.2 0 _ rfl, hS.1.2 1 _ rfl, hS.2.1.2 0 _ rfl, hS.2.1.2 1 _ rfl, hS.2.2.1.2 0 _ rfl, hS.2.2.1.2 1 _ rfl, hS.2.2.2.1.2 0 _ rfl, hS.2.2.2.1.2 1 _ rfl, hS.2.2.2.2.1.2 0 _ rfl, hS.2.2.2.2.1.2 1 _ rfl, hS.2.2.2.2.2.2 0 _ rfl, hS.2.2.2.2.2.2 1 _ rfl⟩ : _ ∧ _ ∧ _ ∧ _ ∧ _ ∧ _ ∧ _ ∧ _ ∧ _ ∧ _ ∧ _ ∧ _)
      clear hd hE
      try clear hS
      go_wp2
      exact Ext.refl _
    case ha => rfl
    apply wpLoose_val rfl rfl
    case hs =>
      intro w1 hC hd Q1 hQ1
      obtain ⟨hE, hS⟩ := hC
      dsimp only [bare]
      obtain ⟨q1, q2, q3, q4, q5, q6, q7, q8, q9, qa, qb, qc⟩ := (⟨hS.1.2 0 _ rfl, hS.1.2 1 _ rfl, hS.2.1.2 0 _ rfl, hS.2.1.2 1 _ rfl, hS.2.2.1.2 0 _ rfl, hS.2.2.1.2 1 _ rfl, hS.2.2.2.1.2 0 _ rfl, hS.2.2.2.1.2 1 _ rfl, hS.2.2.2.2.1.2 0 _ rfl, hS.2.2.2.2.1.2 1 _ rfl, hS.2.2.2.2.2.2 0 _ rfl, hS.2.2.2.2.2.2 1 _ rfl⟩ : _ ∧ _ ∧ _ ∧ _ ∧ _ ∧ _ ∧ _ ∧ _ ∧ _ ∧ _ ∧ _ ∧ _)
      clear hd hE
      try clear hS
      go_wp2
      exact Ext.refl _
    case ha => rfl
    apply wpLoose_val rfl rfl
    case hs =>
      intro w1 hC hd Q1 hQ1
      obtain ⟨hE, hS⟩ := hC
      dsimp only [bare]
      obtain ⟨q1, q2, q3, q4, q5, q6, q7, q8, q9, qa, qb, qc⟩ := (⟨hS.1.2 0 _ rfl, hS.1.2 1 _ rfl, hS.2.1.2 0 _ rfl, hS.2.1.2 1 _ rfl, hS.2.2.1.2 0 _ rfl, hS.2.2.1.2 1 _ rfl, hS.2.2.2.1.2 0 _ rfl, hS.2.2.2.1.2 1 _ rfl, hS.2.2.2.2.1.2 0 _ rfl, hS.2.2.2.2.1.2 1 _ rfl, hS.2.2.2.2.2.2 0 _ rfl, hS.2.2.2.2.2.2 1 _ rfl⟩ : _ ∧ _ ∧ _ ∧ _ ∧ _ ∧ _ ∧ _ ∧ _ ∧ _ ∧ _ ∧ _ ∧ _)
      clear hd hE
      try clear hS
      go_wp2
      exact Ext.refl _
    case ha => rfl
    apply wpLoose_val rfl rfl
    case hs =>
      intro w1 hC hd Q1 hQ1
      obtain ⟨hE, hS⟩ := hC
      dsimp only [bare]
      obtain ⟨q1, q2, q3, q4, q5, q6, q7, q8, q9, qa, qb, qc⟩ := (⟨hS.1.2 0 _ rfl, hS.1.2 1 _ rfl, hS.2.1.2 0 _ rfl, hS.2.1.2 1 _ rfl, hS.2.2.1.2 0 _ rfl, hS.2.2.1.2 1 _ rfl, hS.2.2.2.1.2 0 _ rfl, hS.2.2.2.1.2 1 _ rfl, hS.2.2.2.2.1.2 0 _ rfl, hS.2.2.2.2.1.2 1 _ rfl, hS.2.2.2.2.2.2 0 _ rfl, hS.2.2.2.2.2.2 1 _ rfl⟩ : _ ∧ _ ∧ _ ∧ _ ∧ _ ∧ _ ∧ _ ∧ _ ∧ _ ∧ _ ∧ _ ∧ _)
      clear hd hE
      try clear hS
      go_wp2
      exact Ext.refl _
    case ha => rfl
    apply wpLoose_val rfl rfl
    case hs =>
      intro w1 hC hd Q1 hQ1
      obtain ⟨hE, hS⟩ := hC
      dsimp only [bare]
      clear hd
      go_wp2_with fail
      refine (CMA.out _).mono ?_
      rintro e w2 ⟨rfl, hb⟩
      go_wp2_with fail
      exact hb
    case ha => rfl
    apply wpLoose_val rfl rfl
    case hs =>
      intro w1 hC hd Q1 hQ1
      obtain ⟨hE, hS⟩ := hC
      dsimp only [bare]
      obtain ⟨q1, q2, q3, q4, q5, q6, q7, q8, q9, qa, qb, qc⟩ := (⟨hS.1.2 0 _ rfl, hS.1.2 1 _ rfl, hS.2.1.2 0 _ rfl, hS.2.1.2 1 _ rfl, hS.2.2.1.2 0 _ rfl, hS.2.2.1.2 1 _ rfl, hS.2.2.2.1.2 0 _ rfl, hS.2.2.2.1.2 1 _ rfl, hS.2.2.2.2.1.2 0 _ rfl, hS.2.2.2.2.1.2 1 _ rfl, hS.2.2.2.2.2.2 0 _ rfl, hS.2.2.2.2.2.2 1 _ rfl⟩ : _ ∧ _ ∧ _ ∧ _ ∧ _ ∧ _ ∧ _ ∧ _ ∧ _ ∧ _ ∧ _ ∧ _)
      clear hd hE
      try clear hS
      go_wp2
      exact Ext.refl _
    case ha => rfl
    apply wpLoose_val rfl rfl
    case hs =>
      intro w1 hC hd Q1 hQ1
      obtain ⟨hE, hS⟩ := hC
      dsimp only [bare]
      obtain ⟨q1, q2, q3, q4, q5, q6, q7, q8, q9, qa, qb, qc⟩ := (⟨hS.1.2 0 _ rfl, hS.1.2 1 _ rfl, hS.2.1.2 0 _ rfl, hS.2.1.2 1 _ rfl, hS.2.2.1.2 0 _ rfl, hS.2.2.1.2 1 _ rfl, hS.2.2.2.1.2 0 _ rfl, hS.2.2.2.1.2 1 _ rfl, hS.2.2.2.2.1.2 0 _ rfl, hS.2.2.2.2.1.2 1 _ rfl, hS.2.2.2.2.2.2 0 _ rfl, hS.2.2.2.2.2.2 1 _ rfl⟩ : _ ∧ _ ∧ _ ∧ _ ∧ _ ∧ _ ∧ _ ∧ _ ∧ _ ∧ _ ∧ _ ∧ _)
      clear hd hE
      try clear hS
      go_wp2
      exact Ext.refl _
    case ha => rfl
    apply wpLoose_val rfl rfl
    case hs =>
      intro w1 hC hd Q1 hQ1
      obtain ⟨hE, hS⟩ := hC
      dsimp only [bare]
      obtain ⟨q1, q2, q3, q4, q5, q6, q7, q8, q9, qa, qb, qc⟩ := (⟨hS.1.2 0 _ rfl, hS.1.2 1 _ rfl, hS.2.1.2 0 _ rfl, hS.2.1.2 1 _ rfl, hS.2.2.1.2 0 _ rfl, hS.2.2.1.2 1 _ rfl, hS.2.2.2.1.2 0 _ rfl, hS.2.2.2.1.2 1 _ rfl, hS.2.2.2.2.1.2 0 _ rfl, hS.2.2.2.2.1.2 1 _ rfl, hS.2.2.2.2.2.2 0 _ rfl, hS.2.2.2.2.2.2 1 _ rfl⟩ : _ ∧ _ ∧ _ ∧ _ ∧ _ ∧ _ ∧ _ ∧ _ ∧ _ ∧ _ ∧ _ ∧ _)
      clear hd hE
      try clear hS
      go_wp2
      exact Ext.refl _
    case ha => rfl
    apply wpLoose_val rfl rfl
    case hs =>
      intro w1 hC hd Q1 hQ1
      obtain ⟨hE, hS⟩ := hC
      dsimp only [bare]
      obtain ⟨q1, q2, q3, q4, q5, q6, q7, q8, q9, qa, qb, qc⟩ := (⟨hS.1.2 0 _ rfl, hS.1.2 1 _ rfl, hS.2.1.2 0 _ rfl, hS.2.1.2 1 _ rfl, hS.2.2.1.2 0 _ rfl, hS.2.2.1.2 1 _ rfl, hS.2.2.2.1.2 0 _ rfl, hS.2.2.2.1.2 1 _ rfl, hS.2.2.2.2.1.2 0 _ rfl, hS.2.2.2.2.1.2 1 _ rfl, hS.2.2.2.2.2.2 0 _ rfl, hS.2.2.2.2.2.2 1 _ rfl⟩ : _ ∧ _ ∧ _ ∧ _ ∧ _ ∧ _ ∧ _ ∧ _ ∧ _ ∧ _ ∧ _ ∧ _)
      clear hd hE
      try clear hS
      go_wp2
      exact Ext.refl _
    case ha => rfl
    apply wpLoose_val rfl rfl
    case hs =>
      intro w1 hC hd Q1 hQ1
      obtain ⟨hE, hS⟩ := hC
      dsimp only [bare]
      obtain ⟨q1, q2, q3, q4, q5, q6, q7, q8, q9, qa, qb, qc⟩ := (⟨hS.1.2 0 _ rfl, hS.1.2 1 _ rfl, hS.2.1.2 0 _ rfl, hS.2.1.2 1 _ rfl, hS.2.2.1.2 0 _ rfl, hS.2.2.1.2 1 _ rfl, hS.2.2.2.1.2 0 _ rfl, hS.2.2.2.1.2 1 _ rfl, hS.2.2.2.2.1.2 0 _ rfl, hS.2.2.2.2.1.2 1 _ rfl, hS.2.2.2.2.2.2 0 _ rfl, hS.2.2.2.2.2.2 1 _ rfl⟩ : _ ∧ _ ∧ _ ∧ _ ∧ _ ∧ _ ∧ _ ∧ _ ∧ _ ∧ _ ∧ _ ∧ _)
      clear hd hE
      try clear hS
      go_wp2
      exact Ext.refl _
    case ha => rfl
    apply wpLoose_val rfl rfl
    case hs =>
      intro w1 hC hd Q1 hQ1
      obtain ⟨hE, hS⟩ := hC
      dsimp only [bare]
      clear hd
      go_wp2_with fail
      refine (CUV.out _).mono ?_
      rintro e w2 ⟨rfl, hb⟩
      go_wp2_with fail
      exact hb
    case ha => rfl
    apply wpLoose_val rfl rfl
    case hs =>
      intro w1 hC hd Q1 hQ1
      obtain ⟨hE, hS⟩ := hC
      dsimp only [bare]
      obtain ⟨q1, q2, q3, q4, q5, q6, q7, q8, q9, qa, qb, qc⟩ := (⟨hS.1.2 0 _ rfl, hS.1.2 1 _ rfl, hS.2.1.2 0 _ rfl, hS.2.1.2 1 _ rfl, hS.2.2.1.2 0 _ rfl, hS.2.2.1.2 1 _ rfl, hS.2.2.2.1.2 0 _ rfl, hS.2.2.2.1.2 1 _ rfl, hS.2.2.2.2.1.2 0 _ rfl, hS.2.2.2.2.1.2 1 _ rfl, hS.2.2.2.2.2.2 0 _ rfl, hS.2.2.2.2.2.2 1 _ rfl⟩ : _ ∧ _ ∧ _ ∧ _ ∧ _ ∧ _ ∧ _ ∧ _ ∧ _ ∧ _ ∧ _ ∧ _)
      clear hd hE
      try clear hS
      go_wp2
      exact Ext.refl _
    case ha => rfl
    apply wpLoose_val rfl rfl
    case hs =>
      intro w1 hC hd Q1 hQ1
      obtain ⟨hE, hS⟩ := hC
      dsimp only [bare]
      obtain ⟨q1, q2, q3, q4, q5, q6, q7, q8, q9, qa, qb, qc⟩ := (⟨hS.1.2 0 _ rfl, hS.1.2 1 _ rfl, hS.2.1.2 0 _ rfl, hS.2.1.2 1 _ rfl, hS.2.2.1.2 0 _ rfl, hS.2.2.1.2 1 _ rfl, hS.2.2.2.1.2 0 _ rfl, hS.2.2.2.1.2 1 _ rfl, hS.2.2.2.2.1.2 0 _ rfl, hS.2.2.2.2.1.2 1 _ rfl, hS.2.2.2.2.2.2 0 _ rfl, hS.2.2.2.2.2.2 1 _ rfl⟩ : _ ∧ _ ∧ _ ∧ _ ∧ _ ∧ _ ∧ _ ∧ _ ∧ _ ∧ _ ∧ _ ∧ _)
      clear hd hE
      try clear hS
      go_wp2
      exact Ext.refl _
    case ha => rfl
    apply wpLoose_val rfl rfl
    case hs =>
      intro w1 hC hd Q1 hQ1
      obtain ⟨hE, hS⟩ := hC
      dsimp only [bare]
      clear hd
      go_wp2_with fail
      refine (SUV.out _).mono ?_
      rintro e w2 ⟨rfl, hb⟩
      go_wp2_with fail
      exact hb
    case ha => rfl
    apply wpLoose_val rfl rfl
    case hs =>
      intro w1 hC hd Q1 hQ1
      obtain ⟨hE, hS⟩ := hC
      dsimp only [bare]
      obtain ⟨q1, q2, q3, q4, q5, q6, q7, q8, q9, qa, qb, qc⟩ := (⟨hS.1.2 0 _ rfl, hS.1.2 1 _ rfl, hS.2.1.2 0 _ rfl, hS.2.1.2 1 _ rfl, hS.2.2.1.2 0 _ rfl, hS.2.2.1.2 1 _ rfl, hS.2.2.2.1.2 0 _ rfl, hS.2.2.2.1.2 1 _ rfl, hS.2.2.2.2.1.2 0 _ rfl, hS.2.2.2.2.1.2 1 _ rfl, hS.2.2.2.2.2.2 0 _ rfl, hS.2.2.2.2.2.2 1 _ rfl⟩ : _ ∧ _ ∧ _ ∧ _ ∧ _ ∧ _ ∧ _ ∧ _ ∧ _ ∧ _ ∧ _ ∧ _)
      clear hd hE
      try clear hS
      go_wp2
      exact Ext.refl _
    case ha => rfl
    apply wpLoose_val rfl rfl
    case hs =>
      intro w1 hC hd Q1 hQ1
      obtain ⟨hE, hS⟩ := hC
      dsimp only [bare]
      obtain ⟨q1, q2, q3, q4, q5, q6, q7, q8, q9, qa, qb, qc⟩ := (⟨hS.1.2 0 _ rfl, hS.1.2 1 _ rfl, hS.2.1.2 0 _ rfl, hS.2.1.2 1 _ rfl, hS.2.2.1.2 0 _ rfl, hS.2.2.1.2 1 _ rfl, hS.2.2.2.1.2 0 _ rfl, hS.2.2.2.1.2 1 _ rfl, hS.2.2.2.2.1.2 0 _ rfl, hS.2.2.2.2.1.2 1 _ rfl, hS.2.2.2.2.2.2 0 _ rfl, hS.2.2.2.2.2.2 1 _ rfl⟩ : _ ∧ _ ∧ _ ∧ _ ∧ _ ∧ _ ∧ _ ∧ _ ∧ _ ∧ _ ∧ _ ∧ _)
      clear hd hE
      try clear hS
      go_wp2
      exact Ext.refl _
    case ha => rfl
    apply wpLoose_val rfl rfl
    case hs =>
      intro w1 hC hd Q1 hQ1
      obtain ⟨hE, hS⟩ := hC
      dsimp only [bare]
      obtain ⟨q1, q2, q3, q4, q5, q6, q7, q8, q9, qa, qb, qc⟩ := (⟨hS.1.2 0 _ rfl, hS.1.2 1 _ rfl, hS.2.1.2 0 _ rfl, hS.2.1.2 1 _ rfl, hS.2.2.1.2 0 _ rfl, hS.2.2.1.2 1 _ rfl, hS.2.2.2.1.2 0 _ rfl, hS.2.2.2.1.2 1 _ rfl, hS.2.2.2.2.1.2 0 _ rfl, hS.2.2.2.2.1.2 1 _ rfl, hS.2.2.2.2.2.2 0 _ rfl, hS.2.2.2.2.2.2 1 _ rfl⟩ : _ ∧ _ ∧ _ ∧ _ ∧ _ ∧ _ ∧ _ ∧ _ ∧ _ ∧ _ ∧ _ ∧ _)
      clear hd hE
      try clear hS
      go_wp2
      exact Ext.refl _
    case ha => rfl
    apply wpLoose_val rfl rfl
    case hs =>
      intro w1 hC hd Q1 hQ1
      obtain ⟨hE, hS⟩ := hC
      dsimp only [bare]
      obtain ⟨q1, q2, q3, q4, q5, q6, q7, q8, q9, qa, qb, qc⟩ := (⟨hS.1.2 0 _ rfl, hS.1.2 1 _ rfl, hS.2.1.2 0 _ rfl, hS.2.1.2 1 _ rfl, hS.2.2.1.2 0 _ rfl, hS.2.2.1.2 1 _ rfl, hS.2.2.2.1.2 0 _ rfl, hS.2.2.2.1.2 1 _ rfl, hS.2.2.2.2.1.2 0 _ rfl, hS.2.2.2.2.1.2 1 _ rfl, hS.2.2.2.2.2.2 0 _ rfl, hS.2.2.2.2.2.2 1 _ rfl⟩ : _ ∧ _ ∧ _ ∧ _ ∧ _ ∧ _ ∧ _ ∧ _ ∧ _ ∧ _ ∧ _ ∧ _)
      clear hd hE
      try clear hS
      go_wp2
      exact Ext.refl _
    case ha => rfl
    apply wpLoose_val rfl rfl
    case hs =>
      intro w1 hC hd Q1 hQ1
      obtain ⟨hE, hS⟩ := hC
      dsimp only [bare]
      obtain ⟨q1, q2, q3, q4, q5, q6, q7, q8, q9, qa, qb, qc⟩ := (⟨hS.1.2 0 _ rfl, hS.1.2 1 _ rfl, hS.2.1.2 0 _ rfl, hS.2.1.2 1 _ rfl, hS.2.2.1.2 0 _ rfl, hS.2.2.1.2 1 _ rfl, hS.2.2.2.1.2 0 _ rfl, hS.2.2.2.1.2 1 _ rfl, hS.2.2.2.2.1.2 0 _ rfl, hS.2.2.2.2.1.2 1 _ rfl, hS.2.2.2.2.2.2 0 _ rfl, hS.2.2.2.2.2.2 1 _ rfl⟩ : _ ∧ _ ∧ _ ∧ _ ∧ _ ∧ _ ∧ _ ∧ _ ∧ _ ∧ _ ∧ _ ∧ _)
      clear hd hE
      try clear hS
      go_wp2
      exact Ext.refl _
    case ha => rfl
    apply wpLoose_val rfl rfl
    case hs =>
      intro w1 hC hd Q1 hQ1
      obtain ⟨hE, hS⟩ := hC
      dsimp only [bare]
      clear hd
      go_wp2_with fail
      refine (NUV.out _).mono ?_
      rintro e w2 ⟨rfl, hb⟩
      go_wp2_with fail
      exact hb
    case ha => rfl
    apply wpLoose_val rfl rfl
    case hs =>
      intro w1 hC hd Q1 hQ1
      obtain ⟨hE, hS⟩ := hC
      dsimp only [bare]
      obtain ⟨q1, q2, q3, q4, q5, q6, q7, q8, q9, qa, qb, qc⟩ := (⟨hS.1.2 0 _ rfl, hS.1.2 1 _ rfl, hS.2.1.2 0 _ rfl, hS.2.1.2 1 _ rfl, hS.2.2.1.2 0 _ rfl, hS.2.2.1.2 1 _ rfl, hS.2.2.2.1.2 0 _ rfl, hS.2.2.2.1.2 1 _ rfl, hS.2.2.2.2.1.2 0 _ rfl, hS.2.2.2.2.1.2 1 _ rfl, hS.2.2.2.2.2.2 0 _ rfl, hS.2.2.2.2.2.2 1 _ rfl⟩ : _ ∧ _ ∧ _ ∧ _ ∧ _ ∧ _ ∧ _ ∧ _ ∧ _ ∧ _ ∧ _ ∧ _)
      clear hd hE
      try clear hS
      go_wp2
      exact Ext.refl _
    case ha => rfl
    apply wpLoose_val rfl rfl
    case hs =>
      intro w1 hC hd Q1 hQ1
      obtain ⟨hE, hS⟩ := hC
      dsimp only [bare]
      obtain ⟨q1, q2, q3, q4, q5, q6, q7, q8, q9, qa, qb, qc⟩ := (⟨hS.1.2 0 _ rfl, hS.1.2 1 _ rfl, hS.2.1.2 0 _ rfl, hS.2.1.2 1 _ rfl, hS.2.2.1.2 0 _ rfl, hS.2.2.1.2 1 _ rfl, hS.2.2.2.1.2 0 _ rfl, hS.2.2.2.1.2 1 _ rfl, hS.2.2.2.2.1.2 0 _ rfl, hS.2.2.2.2.1.2 1 _ rfl, hS.2.2.2.2.2.2 0 _ rfl, hS.2.2.2.2.2.2 1 _ rfl⟩ : _ ∧ _ ∧ _ ∧ _ ∧ _ ∧ _ ∧ _ ∧ _ ∧ _ ∧ _ ∧ _ ∧ _)
      clear hd hE
      try clear hS
      go_wp2
      exact Ext.refl _
    case ha => rfl
    apply wpLoose_val rfl rfl
    case hs =>
      intro w1 hC hd Q1 hQ1
      obtain ⟨hE, hS⟩ := hC
      dsimp only [bare]
      clear hd
      go_wp2_with fail
      refine (SNUV.out _).mono ?_
      rintro e w2 ⟨rfl, hb⟩
      go_wp2_with fail
      exact hb
    case ha => rfl
    apply wpLoose_val rfl rfl
    case hs =>
      intro w1 hC hd Q1 hQ1
      obtain ⟨hE, hS⟩ := hC
      dsimp only [bare]
      obtain ⟨q1, q2, q3, q4, q5, q6, q7, q8, q9, qa, qb, qc⟩ := (⟨hS.1.2 0 _ rfl, hS.1.2 1 _ rfl, hS.2.1.2 0 _ rfl, hS.2.1.2 1 _ rfl, hS.2.2.1.2 0 _ rfl, hS.2.2.1.2 1 _ rfl, hS.2.2.2.1.2 0 _ rfl, hS.2.2.2.1.2 1 _ rfl, hS.2.2.2.2.1.2 0 _ rfl, hS.2.2.2.2.1.2 1 _ rfl, hS.2.2.2.2.2.2 0 _ rfl, hS.2.2.2.2.2.2 1 _ rfl⟩ : _ ∧ _ ∧ _ ∧ _ ∧ _ ∧ _ ∧ _ ∧ _ ∧ _ ∧ _ ∧ _ ∧ _)
      clear hd hE
      try clear hS
      go_wp2
      exact Ext.refl _
    case ha => rfl
    apply wpLoose_val rfl rfl
    case hs =>
      intro w1 hC hd Q1 hQ1
      obtain ⟨hE, hS⟩ := hC
      dsimp only [bare]
      obtain ⟨q1, q2, q3, q4, q5, q6, q7, q8, q9, qa, qb, qc⟩ := (⟨hS.1.2 0 _ rfl, hS.1.2 1 _ rfl, hS.2.1.2 0 _ rfl, hS.2.1.2 1 _ rfl, hS.2.2.1.2 0 _ rfl, hS.2.2.1.2 1 _ rfl, hS.2.2.2.1.2 0 _ rfl, hS.2.2.2.1.2 1 _ rfl, hS.2.2.2.2.1.2 0 _ rfl, hS.2.2.2.2.1.2 1 _ rfl, hS.2.2.2.2.2.2 0 _ rfl, hS.2.2.2.2.2.2 1 _ rfl⟩ : _ ∧ _ ∧ _ ∧ _ ∧ _ ∧ _ ∧ _ ∧ _ ∧ _ ∧ _ ∧ _ ∧ _)
      clear hd hE
      try clear hS
      go_wp2
      exact Ext.refl _
    case ha => rfl
    apply wpLoose_val rfl rfl
    case hs =>
      intro w1 hC hd Q1 hQ1
      obtain ⟨hE, hS⟩ := hC
      dsimp only [bare]
      obtain ⟨q1, q2, q3, q4, q5, q6, q7, q8, q9, qa, qb, qc⟩ := (⟨hS.1.2 0 _ rfl, hS.1.2 1 _ rfl, hS.2.1.2 0 _ rfl, hS.2.1.2 1 _ rfl, hS.2.2.1.2 0 _ rfl, hS.2.2.1.2 1 _ rfl, hS.2.2.2.1.2 0 _ rfl, hS.2.2.2.1.2 1 _ rfl, hS.2.2.2.2.1.2 0 _ rfl, hS.2.2.2.2.1.2 1 _ rfl, hS.2.2.2.2.2.2 0 _ rfl, hS.2.2.2.2.2.2 1 _ rfl⟩ : _ ∧ _ ∧ _ ∧ _ ∧ _ ∧ _ ∧ _ ∧ _ ∧ _ ∧ _ ∧ _ ∧ _)
      clear hd hE
      try clear hS
      go_wp2
      exact Ext.refl _
    case ha => rfl
    apply wpLoose_val rfl rfl
    case hs =>
      intro w1 hC hd Q1 hQ1
      obtain ⟨hE, hS⟩ := hC
      dsimp only [bare]
      obtain ⟨q1, q2, q3, q4, q5, q6, q7, q8, q9, qa, qb, qc⟩ := (⟨hS.1.2 0 _ rfl, hS.1.2 1 _ rfl, hS.2.1.2 0 _ rfl, hS.2.1.2 1 _ rfl, hS.2.2.1.2 0 _ rfl, hS.2.2.1.2 1 _ rfl, hS.2.2.2.1.2 0 _ rfl, hS.2.2.2.1.2 1 _ rfl, hS.2.2.2.2.1.2 0 _ rfl, hS.2.2.2.2.1.2 1 _ rfl, hS.2.2.2.2.2.2 0 _ rfl, hS.2.2.2.2.2.2 1 _ rfl⟩ : _ ∧ _ ∧ _ ∧ _ ∧ _ ∧ _ ∧ _ ∧ _ ∧ _ ∧ _ ∧ _ ∧ _)
      clear hd hE
      try clear hS
      go_wp2
      exact Ext.refl _
    case ha => rfl
    apply wpLoose_val rfl rfl
    case hs =>
      intro w1 hC hd Q1 hQ1
      obtain ⟨hE, hS⟩ := hC
      dsimp only [bare]
      clear hd
      go_wp2_with fail
      refine (WA.out _).mono ?_
      rintro e w2 ⟨rfl, hb⟩
      go_wp2_with fail
      exact hb
    case ha => rfl
    apply wpLoose_val rfl rfl
    case hs =>
      intro w1 hC hd Q1 hQ1
      obtain ⟨hE, hS⟩ := hC
      dsimp only [bare]
      obtain ⟨q1, q2, q3, q4, q5, q6, q7, q8, q9, qa, qb, qc⟩ := (⟨hS.1.2 0 _ rfl, hS.1.2 1 _ rfl, hS.2.1.2 0 _ rfl, hS.2.1.2 1 _ rfl, hS.2.2.1.2 0 _ rfl, hS.2.2.1.2 1 _ rfl, hS.2.2.2.1.2 0 _ rfl, hS.2.2.2.1.2 1 _ rfl, hS.2.2.2.2.1.2 0 _ rfl, hS.2.2.2.2.1.2 1 _ rfl, hS.2.2.2.2.2.2 0 _ rfl, hS.2.2.2.2.2.2 1 _ rfl⟩ : _ ∧ _ ∧ _ ∧ _ ∧ _ ∧ _ ∧ _ ∧ _ ∧ _ ∧ _ ∧ _ ∧ _)
      clear hd hE
      try clear hS
      go_wp2
      exact Ext.refl _
    case ha => rfl
    apply wpLoose_val rfl rfl
    case hs =>
      intro w1 hC hd Q1 hQ1
      obtain ⟨hE, hS⟩ := hC
      dsimp only [bare]
      obtain ⟨q1, q2, q3, q4, q5, q6, q7, q8, q9, qa, qb, qc⟩ := (⟨hS.1.2 0 _ rfl, hS.1.2 1 _ rfl, hS.2.1.2 0 _ rfl, hS.2.1.2 1 _ rfl, hS.2.2.1.2 0 _ rfl, hS.2.2.1.2 1 _ rfl, hS.2.2.2.1.2 0 _ rfl, hS.2.2.2.1.2 1 _ rfl, hS.2.2.2.2.1.2 0 _ rfl, hS.2.2.2.2.1.2 1 _ rfl, hS.2.2.2.2.2.2 0 _ rfl, hS.2.2.2.2.2.2 1 _ rfl⟩ : _ ∧ _ ∧ _ ∧ _ ∧ _ ∧ _ ∧ _ ∧ _ ∧ _ ∧ _ ∧ _ ∧ _)
      clear hd hE
      try clear hS
      go_wp2
      exact Ext.refl _
    case ha => rfl
    apply wpLoose_val rfl rfl
    case hs =>
      intro w1 hC hd Q1 hQ1
      obtain ⟨hE, hS⟩ := hC
      dsimp only [bare]
      obtain ⟨q1, q2, q3, q4, q5, q6, q7, q8, q9, qa, qb, qc⟩ := (⟨hS.1.2 0 _ rfl, hS.1.2 1 _ rfl, hS.2.1.2 0 _ rfl, hS.2.1.2 1 _ rfl, hS.2.2.1.2 0 _ rfl, hS.2.2.1.2 1 _ rfl, hS.2.2.2.1.2 0 _ rfl, hS.2.2.2.1.2 1 _ rfl, hS.2.2.2.2.1.2 0 _ rfl, hS.2.2.2.2.1.2 1 _ rfl, hS.2.2.2.2.2.2 0 _ rfl, hS.2.2.2.2.2.2 1 _ rfl⟩ : _ ∧ _ ∧ _ ∧ _ ∧ _ ∧ _ ∧ _ ∧ _ ∧ _ ∧ _ ∧ _ ∧ _)
      clear hd hE
      try clear hS
      go_wp2
      exact Ext.refl _
    case ha => rfl
    apply wpLoose_val rfl rfl
    case hs =>
      intro w1 hC hd Q1 hQ1
      obtain ⟨hE, hS⟩ := hC
      dsimp only [bare]
      clear hd
      go_wp2_with fail
      refine (WU.out _).mono ?_
      rintro e w2 ⟨rfl, hb⟩
      go_wp2_with fail
      exact hb
    case ha => rfl
    apply wpLoose_val rfl rfl
    case hs =>
      intro w1 hC hd Q1 hQ1
      obtain ⟨hE, hS⟩ := hC
      dsimp only [bare]
      obtain ⟨q1, q2, q3, q4, q5, q6, q7, q8, q9, qa, qb, qc⟩ := (⟨hS.1.2 0 _ rfl, hS.1.2 1 _ rfl, hS.2.1.2 0 _ rfl, hS.2.1.2 1 _ rfl, hS.2.2.1.2 0 _ rfl, hS.2.2.1.2 1 _ rfl, hS.2.2.2.1.2 0 _ rfl, hS.2.2.2.1.2 1 _ rfl, hS.2.2.2.2.1.2 0 _ rfl, hS.2.2.2.2.1.2 1 _ rfl, hS.2.2.2.2.2.2 0 _ rfl, hS.2.2.2.2.2.2 1 _ rfl⟩ : _ ∧ _ ∧ _ ∧ _ ∧ _ ∧ _ ∧ _ ∧ _ ∧ _ ∧ _ ∧ _ ∧ _)
      clear hd hE
      try clear hS
      go_wp2
      exact Ext.refl _
    case ha => rfl
    apply wpLoose_val rfl rfl
    case hs =>
      intro w1 hC hd Q1 hQ1
      obtain ⟨hE, hS⟩ := hC
      dsimp only [bare]
      clear hd
      go_wp2_with fail
      refine (SWU.out _).mono ?_
      rintro e w2 ⟨rfl, hb⟩
      go_wp2_with fail
      exact hb
    case ha => rfl
    apply wpLoose_val rfl rfl
    case hs =>
      intro w1 hC hd Q1 hQ1
      obtain ⟨hE, hS⟩ := hC
      dsimp only [bare]
      obtain ⟨q1, q2, q3, q4, q5, q6, q7, q8, q9, qa, qb, qc⟩ := (⟨hS.1.2 0 _ rfl, hS.1.2 1 _ rfl, hS.2.1.2 0 _ rfl, hS.2.1.2 1 _ rfl, hS.2.2.1.2 0 _ rfl, hS.2.2.1.2 1 _ rfl, hS.2.2.2.1.2 0 _ rfl, hS.2.2.2.1.2 1 _ rfl, hS.2.2.2.2.1.2 0 _ rfl, hS.2.2.2.2.1.2 1 _ rfl, hS.2.2.2.2.2.2 0 _ rfl, hS.2.2.2.2.2.2 1 _ rfl⟩ : _ ∧ _ ∧ _ ∧ _ ∧ _ ∧ _ ∧ _ ∧ _ ∧ _ ∧ _ ∧ _ ∧ _)
      clear hd hE
      try clear hS
      go_wp2
      exact Ext.refl _
    case ha => rfl
    apply wpLoose_val rfl rfl
    case hs =>
      intro w1 hC hd Q1 hQ1
      obtain ⟨hE, hS⟩ := hC
      dsimp only [bare]
      obtain ⟨q1, q2, q3, q4, q5, q6, q7, q8, q9, qa, qb, qc⟩ := (⟨hS.1.2 0 _ rfl, hS.1.2 1 _ rfl, hS.2.1.2 0 _ rfl, hS.2.1.2 1 _ rfl, hS.2.2.1.2 0 _ rfl, hS.2.2.1.2 1 _ rfl, hS.2.2.2.1.2 0 _ rfl, hS.2.2.2.1.2 1 _ rfl, hS.2.2.2.2.1.2 0 _ rfl, hS.2.2.2.2.1.2 1 _ rfl, hS.2.2.2.2.2.2 0 _ rfl, hS.2.2.2.2.2.2 1 _ rfl⟩ : _ ∧ _ ∧ _ ∧ _ ∧ _ ∧ _ ∧ _ ∧ _ ∧ _ ∧ _ ∧ _ ∧ _)
      clear hd hE
      try clear hS
      go_wp2
      exact Ext.refl _
    case ha => rfl
    apply wpLoose_val rfl rfl
    case hs =>
      intro w1 hC hd Q1 hQ1
      obtain ⟨hE, hS⟩ := hC
      dsimp only [bare]
      obtain ⟨q1, q2, q3, q4, q5, q6, q7, q8, q9, qa, qb, qc⟩ := (⟨hS.1.2 0 _ rfl, hS.1.2 1 _ rfl, hS.2.1.2 0 _ rfl, hS.2.1.2 1 _ rfl, hS.2.2.1.2 0 _ rfl, hS.2.2.1.2 1 _ rfl, hS.2.2.2.1.2 0 _ rfl, hS.2.2.2.1.2 1 _ rfl, hS.2.2.2.2.1.2 0 _ rfl, hS.2.2.2.2.1.2 1 _ rfl, hS.2.2.2.2.2.2 0 _ rfl, hS.2.2.2.2.2.2 1 _ rfl⟩ : _ ∧ _ ∧ _ ∧ _ ∧ _ ∧ _ ∧ _ ∧ _ ∧ _ ∧ _ ∧ _ ∧ _)
      clear hd hE
      try clear hS
      go_wp2
      exact Ext.refl _
    case ha => rfl
    refine wpLoose_nil ?_
    intro wx hEx hSx hFx
    have HX6 : Hid (Ext w wx) := HX5.out.drew.trans hEx
    clear hEx hSx hFx
    go_wp2
    go_ret
    exact ⟨rfl, HX6.out⟩
    case hAx => kernel_rfl
    case hlx => exact ⟨trivial, trivial, trivial, trivial, trivial, trivial, trivial, trivial, trivial, trivial, trivial, trivial, trivial, trivial, trivial, trivial, trivial, trivial, trivial, trivial, trivial, trivial, trivial, trivial, trivial, trivial, trivial, trivial, trivial, trivial, trivial, trivial, trivial, trivial, trivial, trivial, trivial, trivial, trivial, trivial, trivial, trivial, trivial, trivial, trivial, trivial, trivial, trivial, trivial, trivial, trivial, trivial, trivial, trivial, trivial, trivial, trivial, trivial, trivial, trivial, trivial, trivial, trivial, trivial, trivial, trivial, trivial, trivial, trivial, trivial, trivial, trivial, trivial, trivial, trivial, trivial, trivial, trivial, trivial, trivial, trivial⟩
  · obtain rfl : n = -1 := by omega
    obtain rfl : q = false := by rw [← hq]; rfl
    clear hq hnl hnr h0
    by_cases h1 : 0 ≤ kbc
    · have d1 : decide (0 ≤ kbc) = true := by simpa using h1
      refine' wp_region_loose (.inl _ :: .inl _ :: .inl _ :: .inl _ :: .inl _ :: .inl _ :: .inl _ :: .inl _ :: .inl _ :: .inl _ :: .inl _ :: .inl _ :: .inl _ :: .inl _ :: .inl _ :: .inl _ :: .inl _ :: .inl _ :: .inl _ :: .inl _ :: .inl _ :: .inl _ :: .inl _ :: .inl _ :: .inl undef :: .inl undef :: .inl undef :: .inl undef :: .inl _ :: .inl _ :: .inl _ :: .inl _ :: .inl _ :: .inl _ :: .inl _ :: .inl _ :: .inl _ :: .inl _ :: .inl _ :: .inl _ :: .inl _ :: .inl _ :: .inl _ :: .inl _ :: .inl _ :: .inl _ :: .inl _ :: .inl _ :: .inl _ :: .inl _ :: .inl _ :: .inl _ :: .inl _ :: .inl _ :: .inl _ :: .inl _ :: .inl _ :: .inl _ :: .inl _ :: .inl _ :: .inl _ :: .inl _ :: .inl _ :: .inl _ :: .inl _ :: .inl _ :: .inl _ :: .inl _ :: .inl _ :: .inl _ :: .inl _ :: .inl _ :: .inl _ :: .inl _ :: .inl _ :: .inl _ :: .inl _ :: .inl _ :: .inl _ :: .inl _ :: []) (fun w' => CellsAt w' (w1.heap.size + 1) [.int .i64 a1, .int .i64 a2] ∧ CellsAt w' (w1.heap.size + 1 + 1) [.int .i64 b1, .int .i64 b2] ∧ CellsAt w' (w1.heap.size + 1 + 1 + 1) [.int .i64 c1, .int .i64 c2] ∧ CellsAt w' w3.heap.size [.int .i64 m1, .int .i64 m2] ∧ CellsAt w' w4.heap.size [.int .i64 u1, .int .i64 u2] ∧ CellsAt w' (w4.heap.size + 1) [.int .i64 v1, .int .i64 v2]) (by kernel_rfl) (by kernel_rfl) (HS.out) (fun _ _ h hE => ⟨h.1.step hE, h.2.1.step hE, h.2.2.1.step hE, h.2.2.2.1.step hE, h.2.2.2.2.1.step hE, h.2.2.2.2.2.step hE⟩) ?hAy ?hly ?hMy
      case' hMy => skip
      apply wpLoose_val rfl rfl
      case hs =>
        intro w1 hC hd Q1 hQ1
        obtain ⟨hE, hS⟩ := hC
        dsimp only [bare]
        obtain ⟨q1, q2, q3, q4, q5, q6, q7, q8, q9, qa, qb, qc⟩ := (⟨hS.1.2 0 _ rfl, hS.1.2 1 _ rfl, hS.2.1.2 0 _ rfl, hS.2.1.2 1 _ rfl, hS.2.2.1.2 0 _ rfl, hS.2.2.1.2 1 _ rfl, hS.2.2.2.1.2 0 _ rfl, hS.2.2.2.1.2 1 _ rfl, hS.2.2.2.2.1.2 0 _ rfl, hS.2.2.2.2.1.2 1 _ rfl, hS.2.2.2.2.2.2 0 _ rfl, hS.2.2.2.2.2.2 1 _ rfl⟩ : _ ∧ _ ∧ _ ∧ _ ∧ _ ∧ _ ∧ _ ∧ _ ∧ _ ∧ _ ∧ _ ∧ _)
        clear hd hE
        try clear hS
        go_wp2
        exact Ext.refl _
      case ha => rfl
      apply wpLoose_val rfl rfl
      case hs =>
        intro w1 hC hd Q1 hQ1
        obtain ⟨hE, hS⟩ := hC
        dsimp only [bare]
        obtain ⟨q1, q2, q3, q4, q5, q6, q7, q8, q9, qa, qb, qc⟩ := (⟨hS.1.2 0 _ rfl, hS.1.2 1 _ rfl, hS.2.1.2 0 _ rfl, hS.2.1.2 1 _ rfl, hS.2.2.1.2 0 _ rfl, hS.2.2.1.2 1 _ rfl, hS.2.2.2.1.2 0 _ rfl, hS.2.2.2.1.2 1 _ rfl, hS.2.2.2.2.1.2 0 _ rfl, hS.2.2.2.2.1.2 1 _ rfl, hS.2.2.2.2.2.2 0 _ rfl, hS.2.2.2.2.2.2 1 _ rfl⟩ : _ ∧ _ ∧ _ ∧ _ ∧ _ ∧ _ ∧ _ ∧ _ ∧ _ ∧ _ ∧ _ ∧ _)
        clear hd hE
        try clear hS
        go_wp2
        exact Ext.refl _
      case ha => rfl
      apply wpLoose_val rfl rfl
      case hs =>
        intro w1 hC hd Q1 hQ1
        obtain ⟨hE, hS⟩ := hC
        dsimp only [bare]
        obtain ⟨q1, q2, q3, q4, q5, q6, q7, q8, q9, qa, qb, qc⟩ := (⟨hS.1.2 0 _ rfl, hS.1.2 1 _ rfl, hS.2.1.2 0 _ rfl, hS.2.1.2 1 _ rfl, hS.2.2.1.2 0 _ rfl, hS.2.2.1.2 1 _ rfl, hS.2.2.2.1.2 0 _ rfl, hS.2.2.2.1.2 1 _ rfl, hS.2.2.2.2.1.2 0 _ rfl, hS.2.2.2.2.1.2 1 _ rfl, hS.2.2.2.2.2.2 0 _ rfl, hS.2.2.2.2.2.2 1 _ rfl⟩ : _ ∧ _ ∧ _ ∧ _ ∧ _ ∧ _ ∧ _ ∧ _ ∧ _ ∧ _ ∧ _ ∧ _)
        clear hd hE
        try clear hS
        go_wp2
        exact Ext.refl _
      case ha => rfl
      apply wpLoose_val rfl rfl
      case hs =>
        intro w1 hC hd Q1 hQ1
        obtain ⟨hE, hS⟩ := hC
        dsimp only [bare]
        clear hd
        go_wp2_with fail
        refine (CBA.out _).mono ?_
        rintro e w2 ⟨rfl, hb⟩
        go_wp2_with fail
        exact hb
      case ha => rfl
      apply wpLoose_val rfl rfl
      case hs =>
        intro w1 hC hd Q1 hQ1
        obtain ⟨hE, hS⟩ := hC
        dsimp only [bare]
        obtain ⟨q1, q2, q3, q4, q5, q6, q7, q8, q9, qa, qb, qc⟩ := (⟨hS.1.2 0 _ rfl, hS.1.2 1 _ rfl, hS.2.1.2 0 _ rfl, hS.2.1.2 1 _ rfl, hS.2.2.1.2 0 _ rfl, hS.2.2.1.2 1 _ rfl, hS.2.2.2.1.2 0 _ rfl, hS.2.2.2.1.2 1 _ rfl, hS.2.2.2.2.1.2 0 _ rfl, hS.2.2.2.2.1.2 1 _ rfl, hS.2.2.2.2.2.2 0 _ rfl, hS.2.2.2.2.2.2 1 _ rfl⟩ : _ ∧ _ ∧ _ ∧ _ ∧ _ ∧ _ ∧ _ ∧ _ ∧ _ ∧ _ ∧ _ ∧ _)
        clear hd hE
        try clear hS
        go_wp2
        exact Ext.refl _
      case ha => rfl
      apply wpLoose_val rfl rfl
      case hs =>
        intro w1 hC hd Q1 hQ1
        obtain ⟨hE, hS⟩ := hC
        dsimp only [bare]
        obtain ⟨q1, q2, q3, q4, q5, q6, q7, q8, q9, qa, qb, qc⟩ := (⟨hS.1.2 0 _ rfl, hS.1.2 1 _ rfl, hS.2.1.2 0 _ rfl, hS.2.1.2 1 _ rfl, hS.2.2.1.2 0 _ rfl, hS.2.2.1.2 1 _ rfl, hS.2.2.2.1.2 0 _ rfl, hS.2.2.2.1.2 1 _ rfl, hS.2.2.2.2.1.2 0 _ rfl, hS.2.2.2.2.1.2 1 _ rfl, hS.2.2.2.2.2.2 0 _ rfl, hS.2.2.2.2.2.2 1 _ rfl⟩ : _ ∧ _ ∧ _ ∧ _ ∧ _ ∧ _ ∧ _ ∧ _ ∧ _ ∧ _ ∧ _ ∧ _)
        clear hd hE
        try clear hS
        go_wp2
        exact Ext.refl _
      case ha => rfl
      apply wpLoose_val rfl rfl
      case hs =>
        intro w1 hC hd Q1 hQ1
        obtain ⟨hE, hS⟩ := hC
        dsimp only [bare]
        obtain ⟨q1, q2, q3, q4, q5, q6, q7, q8, q9, qa, qb, qc⟩ := (⟨hS.1.2 0 _ rfl, hS.1.2 1 _ rfl, hS.2.1.2 0 _ rfl, hS.2.1.2 1 _ rfl, hS.2.2.1.2 0 _ rfl, hS.2.2.1.2 1 _ rfl, hS.2.2.2.1.2 0 _ rfl, hS.2.2.2.1.2 1 _ rfl, hS.2.2.2.2.1.2 0 _ rfl, hS.2.2.2.2.1.2 1 _ rfl, hS.2.2.2.2.2.2 0 _ rfl, hS.2.2.2.2.2.2 1 _ rfl⟩ : _ ∧ _ ∧ _ ∧ _ ∧ _ ∧ _ ∧ _ ∧ _ ∧ _ ∧ _ ∧ _ ∧ _)
        clear hd hE
        try clear hS
        go_wp2
        exact Ext.refl _
      case ha => rfl
      apply wpLoose_val rfl rfl
      case hs =>
        intro w1 hC hd Q1 hQ1
        obtain ⟨hE, hS⟩ := hC
        dsimp only [bare]
        obtain ⟨q1, q2, q3, q4, q5, q6, q7, q8, q9, qa, qb, qc⟩ := (⟨hS.1.2 0 _ rfl, hS.1.2 1 _ rfl, hS.2.1.2 0 _ rfl, hS.2.1.2 1 _ rfl, hS.2.2.1.2 0 _ rfl, hS.2.2.1.2 1 _ rfl, hS.2.2.2.1.2 0 _ rfl, hS.2.2.2.1.2 1 _ rfl, hS.2.2.2.2.1.2 0 _ rfl, hS.2.2.2.2.1.2 1 _ rfl, hS.2.2.2.2.2.2 0 _ rfl, hS.2.2.2.2.2.2 1 _ rfl⟩ : _ ∧ _ ∧ _ ∧ _ ∧ _ ∧ _ ∧ _ ∧ _ ∧ _ ∧ _ ∧ _ ∧ _)
        clear hd hE
        try clear hS
        go_wp2
        exact Ext.refl _
      case ha => rfl
      apply wpLoose_val rfl rfl
      case hs =>
        intro w1 hC hd Q1 hQ1
        obtain ⟨hE, hS⟩ := hC
        dsimp only [bare]
        obtain ⟨q1, q2, q3, q4, q5, q6, q7, q8, q9, qa, qb, qc⟩ := (⟨hS.1.2 0 _ rfl, hS.1.2 1 _ rfl, hS.2.1.2 0 _ rfl, hS.2.1.2 1 _ rfl, hS.2.2.1.2 0 _ rfl, hS.2.2.1.2 1 _ rfl, hS.2.2.2.1.2 0 _ rfl, hS.2.2.2.1.2 1 _ rfl, hS.2.2.2.2.1.2 0 _ rfl, hS.2.2.2.2.1.2 1 _ rfl, hS.2.2.2.2.2.2 0 _ rfl, hS.2.2.2.2.2.2 1 _ rfl⟩ : _ ∧ _ ∧ _ ∧ _ ∧ _ ∧ _ ∧ _ ∧ _ ∧ _ ∧ _ ∧ _ ∧ _)
        clear hd hE
        try clear hS
        go_wp2
        exact Ext.refl _
      case ha => rfl
      apply wpLoose_val rfl rfl
      case hs =>
        intro w1 hC hd Q1 hQ1
        obtain ⟨hE, hS⟩ := hC
        dsimp only [bare]
        obtain ⟨q1, q2, q3, q4, q5, q6, q7, q8, q9, qa, qb, qc⟩ := (⟨hS.1.2 0 _ rfl, hS.1.2 1 _ rfl, hS.2.1.2 0 _ rfl, hS.2.1.2 1 _ rfl, hS.2.2.1.2 0 _ rfl, hS.2.2.1.2 1 _ rfl, hS.2.2.2.1.2 0 _ rfl, hS.2.2.2.1.2 1 _ rfl, hS.2.2.2.2.1.2 0 _ rfl, hS.2.2.2.2.1.2 1 _ rfl, hS.2.2.2.2.2.2 0 _ rfl, hS.2.2.2.2.2.2 1 _ rfl⟩ : _ ∧ _ ∧ _ ∧ _ ∧ _ ∧ _ ∧ _ ∧ _ ∧ _ ∧ _ ∧ _ ∧ _)
        clear hd hE
        try clear hS
        go_wp2
        exact Ext.refl _
      case ha => rfl
      apply wpLoose_val rfl rfl
      case hs =>
        intro w1 hC hd Q1 hQ1
        obtain ⟨hE, hS⟩ := hC
        dsimp only [bare]
        obtain ⟨q1, q2, q3, q4, q5, q6, q7, q8, q9, qa, qb, qc⟩ := (⟨hS.1.2 0 _ rfl, hS.1.2 1 _ rfl, hS.2.1.2 0 _ rfl, hS.2.1.2 1 _ rfl, hS.2.2.1.2 0 _ rfl, hS.2.2.1.2 1 _ rfl, hS.2.2.2.1.2 0 _ rfl, hS.2.2.2.1.2 1 _ rfl, hS.2.2.2.2.1.2 0 _ rfl, hS.2.2.2.2.1.2 1 _ rfl, hS.2.2.2.2.2.2 0 _ rfl, hS.2.2.2.2.2.2 1 _ rfl⟩ : _ ∧ _ ∧ _ ∧ _ ∧ _ ∧ _ ∧ _ ∧ _ ∧ _ ∧ _ ∧ _ ∧ _)
        clear hd hE
        try clear hS
        go_wp2
        exact Ext.refl _
      case ha => rfl
      apply wpLoose_val rfl rfl
      case hs =>
        intro w1 hC hd Q1 hQ1
        obtain ⟨hE, hS⟩ := hC
        dsimp only [bare]
        obtain ⟨q1, q2, q3, q4, q5, q6, q7, q8, q9, qa, qb, qc⟩ := (⟨hS.1.2 0 _ rfl, hS.1.2 1 _ rfl, hS.2.1.2 0 _ rfl, hS.2.1.2 1 _ rfl, hS.2.2.1.2 0 _ rfl, hS.2.2.1.2 1 _ rfl, hS.2.2.2.1.2 0 _ rfl, hS.2.2.2.1.2 1 _ rfl, hS.2.2.2.2.1.2 0 _ rfl, hS.2.2.2.2.1.2 1 _ rfl, hS.2.2.2.2.2.2 0 _ rfl, hS.2.2.2.2.2.2 1 _ rfl⟩ : _ ∧ _ ∧ _ ∧ _ ∧ _ ∧ _ ∧ _ ∧ _ ∧ _ ∧ _ ∧ _ ∧ _)
        clear hd hE
        try clear hS
        go_wp2
        exact Ext.refl _
      case ha => rfl
      apply wpLoose_val rfl rfl
      case hs =>
        intro w1 hC hd Q1 hQ1
        obtain ⟨hE, hS⟩ := hC
        dsimp only [bare]
        obtain ⟨q1, q2, q3, q4, q5, q6, q7, q8, q9, qa, qb, qc⟩ := (⟨hS.1.2 0 _ rfl, hS.1.2 1 _ rfl, hS.2.1.2 0 _ rfl, hS.2.1.2 1 _ rfl, hS.2.2.1.2 0 _ rfl, hS.2.2.1.2 1 _ rfl, hS.2.2.2.1.2 0 _ rfl, hS.2.2.2.1.2 1 _ rfl, hS.2.2.2.2.1.2 0 _ rfl, hS.2.2.2.2.1.2 1 _ rfl, hS.2.2.2.2.2.2 0 _ rfl, hS.2.2.2.2.2.2 1 _ rfl⟩ : _ ∧ _ ∧ _ ∧ _ ∧ _ ∧ _ ∧ _ ∧ _ ∧ _ ∧ _ ∧ _ ∧ _)
        clear hd hE
        try clear hS
        go_wp2
        exact Ext.refl _
      case ha => rfl
      apply wpLoose_val rfl rfl
      case hs =>
        intro w1 hC hd Q1 hQ1
        obtain ⟨hE, hS⟩ := hC
        dsimp only [bare]
        obtain ⟨q1, q2, q3, q4, q5, q6, q7, q8, q9, qa, qb, qc⟩ := (⟨hS.1.2 0 _ rfl, hS.1.2 1 _ rfl, hS.2.1.2 0 _ rfl, hS.2.1.2 1 _ rfl, hS.2.2.1.2 0 _ rfl, hS.2.2.1.2 1 _ rfl, hS.2.2.2.1.2 0 _ rfl, hS.2.2.2.1.2 1 _ rfl, hS.2.2.2.2.1.2 0 _ rfl, hS.2.2.2.2.1.2 1 _ rfl, hS.2.2.2.2.2.2 0 _ rfl, hS.2.2.2.2.2.2 1 _ rfl⟩ : _ ∧ _ ∧ _ ∧ _ ∧ _ ∧ _ ∧ _ ∧ _ ∧ _ ∧ _ ∧ _ ∧ _)
        clear hd hE
        try clear hS
        go_wp2
        exact Ext.refl _
      case ha => rfl
      apply wpLoose_val rfl rfl
      case hs =>
        intro w1 hC hd Q1 hQ1
        obtain ⟨hE, hS⟩ := hC
        dsimp only [bare]
        obtain ⟨q1, q2, q3, q4, q5, q6, q7, q8, q9, qa, qb, qc⟩ := (⟨hS.1.2 0 _ rfl, hS.1.2 1 _ rfl, hS.2.1.2 0 _ rfl, hS.2.1.2 1 _ rfl, hS.2.2.1.2 0 _ rfl, hS.2.2.1.2 1 _ rfl, hS.2.2.2.1.2 0 _ rfl, hS.2.2.2.1.2 1 _ rfl, hS.2.2.2.2.1.2 0 _ rfl, hS.2.2.2.2.1.2 1 _ rfl, hS.2.2.2.2.2.2 0 _ rfl, hS.2.2.2.2.2.2 1 _ rfl⟩ : _ ∧ _ ∧ _ ∧ _ ∧ _ ∧ _ ∧ _ ∧ _ ∧ _ ∧ _ ∧ _ ∧ _)
        clear hd hE
        try clear hS
        go_wp2
        exact Ext.refl _
      case ha => rfl
      apply wpLoose_val rfl rfl
      case hs =>
        intro w1 hC hd Q1 hQ1
        obtain ⟨hE, hS⟩ := hC
        dsimp only [bare]
        obtain ⟨q1, q2, q3, q4, q5, q6, q7, q8, q9, qa, qb, qc⟩ := (⟨hS.1.2 0 _ rfl, hS.1.2 1 _ rfl, hS.2.1.2 0 _ rfl, hS.2.1.2 1 _ rfl, hS.2.2.1.2 0 _ rfl, hS.2.2.1.2 1 _ rfl, hS.2.2.2.1.2 0 _ rfl, hS.2.2.2.1.2 1 _ rfl, hS.2.2.2.2.1.2 0 _ rfl, hS.2.2.2.2.1.2 1 _ rfl, hS.2.2.2.2.2.2 0 _ rfl, hS.2.2.2.2.2.2 1 _ rfl⟩ : _ ∧ _ ∧ _ ∧ _ ∧ _ ∧ _ ∧ _ ∧ _ ∧ _ ∧ _ ∧ _ ∧ _)
        clear hd hE
        try clear hS
        go_wp2
        exact Ext.refl _
      case ha => rfl
      apply wpLoose_val rfl rfl
      case hs =>
        intro w1 hC hd Q1 hQ1
        obtain ⟨hE, hS⟩ := hC
        dsimp only [bare]
        obtain ⟨q1, q2, q3, q4, q5, q6, q7, q8, q9, qa, qb, qc⟩ := (⟨hS.1.2 0 _ rfl, hS.1.2 1 _ rfl, hS.2.1.2 0 _ rfl, hS.2.1.2 1 _ rfl, hS.2.2.1.2 0 _ rfl, hS.2.2.1.2 1 _ rfl, hS.2.2.2.1.2 0 _ rfl, hS.2.2.2.1.2 1 _ rfl, hS.2.2.2.2.1.2 0 _ rfl, hS.2.2.2.2.1.2 1 _ rfl, hS.2.2.2.2.2.2 0 _ rfl, hS.2.2.2.2.2.2 1 _ rfl⟩ : _ ∧ _ ∧ _ ∧ _ ∧ _ ∧ _ ∧ _ ∧ _ ∧ _ ∧ _ ∧ _ ∧ _)
        clear hd hE
        try clear hS
        go_wp2
        exact Ext.refl _
      case ha => rfl
      apply wpLoose_val rfl rfl
      case hs =>
        intro w1 hC hd Q1 hQ1
        obtain ⟨hE, hS⟩ := hC
        dsimp only [bare]
        obtain ⟨q1, q2, q3, q4, q5, q6, q7, q8, q9, qa, qb, qc⟩ := (⟨hS.1.2 0 _ rfl, hS.1.2 1 _ rfl, hS.2.1.2 0 _ rfl, hS.2.1.2 1 _ rfl, hS.2.2.1.2 0 _ rfl, hS.2.2.1.2 1 _ rfl, hS.2.2.2.1.2 0 _ rfl, hS.2.2.2.1.2 1 _ rfl, hS.2.2.2.2.1.2 0 _ rfl, hS.2.2.2.2.1.2 1 _ rfl, hS.2.2.2.2.2.2 0 _ rfl, hS.2.2.2.2.2.2 1 _ rfl⟩ : _ ∧ _ ∧ _ ∧ _ ∧ _ ∧ _ ∧ _ ∧ _ ∧ _ ∧ _ ∧ _ ∧ _)
        clear hd hE
        try clear hS
        go_wp2
        exact Ext.refl _
      case ha => rfl
      apply wpLoose_val rfl rfl
      case hs =>
        intro w1 hC hd Q1 hQ1
        obtain ⟨hE, hS⟩ := hC
        dsimp only [bare]
        obtain ⟨q1, q2, q3, q4, q5, q6, q7, q8, q9, qa, qb, qc⟩ := (⟨hS.1.2 0 _ rfl, hS.1.2 1 _ rfl, hS.2.1.2 0 _ rfl, hS.2.1.2 1 _ rfl, hS.2.2.1.2 0 _ rfl, hS.2.2.1.2 1 _ rfl, hS.2.2.2.1.2 0 _ rfl, hS.2.2.2.1.2 1 _ rfl, hS.2.2.2.2.1.2 0 _ rfl, hS.2.2.2.2.1.2 1 _ rfl, hS.2.2.2.2.2.2 0 _ rfl, hS.2.2.2.2.2.2 1 _ rfl⟩ : _ ∧ _ ∧ _ ∧ _ ∧ _ ∧ _ ∧ _ ∧ _ ∧ _ ∧ _ ∧ _ ∧ _)
        clear hd hE
        try clear hS
        go_wp2
        exact Ext.refl _
      case ha => rfl
      apply wpLoose_val rfl rfl
      case hs =>
        intro w1 hC hd Q1 hQ1
        obtain ⟨hE, hS⟩ := hC
        dsimp only [bare]
        obtain ⟨q1, q2, q3, q4, q5, q6, q7, q8, q9, qa, qb, qc⟩ := (⟨hS.1.2 0 _ rfl, hS.1.2 1 _ rfl, hS.2.1.2 0 _ rfl, hS.2.1.2 1 _ rfl, hS.2.2.1.2 0 _ rfl, hS.2.2.1.2 1 _ rfl, hS.2.2.2.1.2 0 _ rfl, hS.2.2.2.1.2 1 _ rfl, hS.2.2.2.2.1.2 0 _ rfl, hS.2.2.2.2.1.2 1 _ rfl, hS.2.2.2.2.2.2 0 _ rfl, hS.2.2.2.2.2.2 1 _ rfl⟩ : _ ∧ _ ∧ _ ∧ _ ∧ _ ∧ _ ∧ _ ∧ _ ∧ _ ∧ _ ∧ _ ∧ _)
        clear hd hE
        try clear hS
        go_wp2
        exact Ext.refl _
      case ha => rfl
      apply wpLoose_val rfl rfl
      case hs =>
        intro w1 hC hd Q1 hQ1
        obtain ⟨hE, hS⟩ := hC
        dsimp only [bare]
        clear hd
        go_wp2_with fail
        refine (CBC.out _).mono ?_
        rintro e w2 ⟨rfl, hb⟩
        go_wp2_with fail
        exact hb
      case ha => rfl
      apply wpLoose_val rfl rfl
      case hs =>
        intro w1 hC hd Q1 hQ1
        obtain ⟨hE, hS⟩ := hC
        dsimp only [bare]
        obtain ⟨q1, q2, q3, q4, q5, q6, q7, q8, q9, qa, qb, qc⟩ := (⟨hS.1.2 0 _ rfl, hS.1.2 1 _ rfl, hS.2.1.2 0 _ rfl, hS.2.1.2 1 _ rfl, hS.2.2.1.2 0 _ rfl, hS.2.2.1.2 1 _ rfl, hS.2.2.2.1.2 0 _ rfl, hS.2.2.2.1.2 1 _ rfl, hS.2.2.2.2.1.2 0 _ rfl, hS.2.2.2.2.1.2 1 _ rfl, hS.2.2.2.2.2.2 0 _ rfl, hS.2.2.2.2.2.2 1 _ rfl⟩ : _ ∧ _ ∧ _ ∧ _ ∧ _ ∧ _ ∧ _ ∧ _ ∧ _ ∧ _ ∧ _ ∧ _)
        clear hd hE
        try clear hS
        go_wp2
        exact Ext.refl _
      case ha => rfl
      apply wpLoose_val rfl rfl
      case hs =>
        intro w1 hC hd Q1 hQ1
        obtain ⟨hE, hS⟩ := hC
        dsimp only [bare]
        obtain ⟨q1, q2, q3, q4, q5, q6, q7, q8, q9, qa, qb, qc⟩ := (⟨hS.1.2 0 _ rfl, hS.1.2 1 _ rfl, hS.2.1.2 0 _ rfl, hS.2.1.2 1 _ rfl, hS.2.2.1.2 0 _ rfl, hS.2.2.1.2 1 _ rfl, hS.2.2.2.1.2 0 _ rfl, hS.2.2.2.1.2 1 _ rfl, hS.2.2.2.2.1.2 0 _ rfl, hS.2.2.2.2.1.2 1 _ rfl, hS.2.2.2.2.2.2 0 _ rfl, hS.2.2.2.2.2.2 1 _ rfl⟩ : _ ∧ _ ∧ _ ∧ _ ∧ _ ∧ _ ∧ _ ∧ _ ∧ _ ∧ _ ∧ _ ∧ _)
        clear hd hE
        try clear hS
        go_wp2
        exact Ext.refl _
      case ha => rfl
      apply wpLoose_val rfl rfl
      case hs =>
        intro w1 hC hd Q1 hQ1
        obtain ⟨hE, hS⟩ := hC
        dsimp only [bare]
        obtain ⟨q1, q2, q3, q4, q5, q6, q7, q8, q9, qa, qb, qc⟩ := (⟨hS.1.2 0 _ rfl, hS.1.2 1 _ rfl, hS.2.1.2 0 _ rfl, hS.2.1.2 1 _ rfl, hS.2.2.1.2 0 _ rfl, hS.2.2.1.2 1 _ rfl, hS.2.2.2.1.2 0 _ rfl, hS.2.2.2.1.2 1 _ rfl, hS.2.2.2.2.1.2 0 _ rfl, hS.2.2.2.2.1.2 1 _ rfl, hS.2.2.2.2.2.2 0 _ rfl, hS.2.2.2.2.2.2 1 _ rfl⟩ : _ ∧ _ ∧ _ ∧ _ ∧ _ ∧ _ ∧ _ ∧ _ ∧ _ ∧ _ ∧ _ ∧ _)
        clear hd hE
        try clear hS
        go_wp2
        exact Ext.refl _
      case ha => rfl
      refine wpLoose_skip rfl rfl ?_
      refine wpLoose_skip rfl rfl ?_
      refine wpLoose_skip rfl rfl ?_
      refine wpLoose_skip rfl rfl ?_
      apply wpLoose_val rfl rfl
      case hs =>
        intro w1 hC hd Q1 hQ1
        obtain ⟨hE, hS⟩ := hC
        dsimp only [bare]
        obtain ⟨q1, q2, q3, q4, q5, q6, q7, q8, q9, qa, qb, qc⟩ := (⟨hS.1.2 0 _ rfl, hS.1.2 1 _ rfl, hS.2.1.2 0 _ rfl, hS.2.1.2 1 _ rfl, hS.2.2.1.2 0 _ rfl, hS.2.2.1.2 1 _ rfl, hS.2.2.2.1.2 0 _ rfl, hS.2.2.2.1.2 1 _ rfl, hS.2.2.2.2.1.2 0 _ rfl, hS.2.2.2.2.1.2 1 _ rfl, hS.2.2.2.2.2.2 0 _ rfl, hS.2.2.2.2.2.2 1 _ rfl⟩ : _ ∧ _ ∧ _ ∧ _ ∧ _ ∧ _ ∧ _ ∧ _ ∧ _ ∧ _ ∧ _ ∧ _)
        clear hd hE
        try clear hS
        go_wp2
        exact Ext.refl _
      case ha => rfl
      apply wpLoose_val rfl rfl
      case hs =>
        intro w1 hC hd Q1 hQ1
        obtain ⟨hE, hS⟩ := hC
        dsimp only [bare]
        obtain ⟨q1, q2, q3, q4, q5, q6, q7, q8, q9, qa, qb, qc⟩ := (⟨hS.1.2 0 _ rfl, hS.1.2 1 _ rfl, hS.2.1.2 0 _ rfl, hS.2.1.2 1 _ rfl, hS.2.2.1.2 0 _ rfl, hS.2.2.1.2 1 _ rfl, hS.2.2.2.1.2 0 _ rfl, hS.2.2.2.1.2 1 _ rfl, hS.2.2.2.2.1.2 0 _ rfl, hS.2.2.2.2.1.2 1 _ rfl, hS.2.2.2.2.2.2 0 _ rfl, hS.2.2.2.2.2.2 1 _ rfl⟩ : _ ∧ _ ∧ _ ∧ _ ∧ _ ∧ _ ∧ _ ∧ _ ∧ _ ∧ _ ∧ _ ∧ _)
        clear hd hE
        try clear hS
        go_wp2
        exact Ext.refl _
      case ha => rfl
      apply wpLoose_val rfl rfl
      case hs =>
        intro w1 hC hd Q1 hQ1
        obtain ⟨hE, hS⟩ := hC
        dsimp only [bare]
        obtain ⟨q1, q2, q3, q4, q5, q6, q7, q8, q9, qa, qb, qc⟩ := (⟨hS.1.2 0 _ rfl, hS.1.2 1 _ rfl, hS.2.1.2 0 _ rfl, hS.2.1.2 1 _ rfl, hS.2.2.1.2 0 _ rfl, hS.2.2.1.2 1 _ rfl, hS.2.2.2.1.2 0 _ rfl, hS.2.2.2.1.2 1 _ rfl, hS.2.2.2.2.1.2 0 _ rfl, hS.2.2.2.2.1.2 1 _ rfl, hS.2.2.2.2.2.2 0 _ rfl, hS.2.2.2.2.2.2 1 _ rfl⟩ : _ ∧ _ ∧ _ ∧ _ ∧ _ ∧ _ ∧ _ ∧ _ ∧ _ ∧ _ ∧ _ ∧ _)
        clear hd hE
        try clear hS
        go_wp2
        exact Ext.refl _
      case ha => rfl
      apply wpLoose_val rfl rfl
      case hs =>
        intro w1 hC hd Q1 hQ1
        obtain ⟨hE, hS⟩ := hC
        dsimp only [bare]
        obtain ⟨q1, q2, q3, q4, q5, q6, q7, q8, q9, qa, qb, qc⟩ := (⟨hS.1.2 0 _ rfl, hS.1.2 1 _ rfl, hS.2.1.2 0 _ rfl, hS.2.1.2 1 _ rfl, hS.2.2.1.2 0 _ rfl, hS.2.2.1.2 1 _ rfl, hS.2.2.2.1.2 0 _ rfl, hS.2.2.2.1.2 1 _ rfl, hS.2.2.2.2.1.2 0 _ rfl, hS.2.2.2.2.1.2 1 _ rfl, hS.2.2.2.2.2.2 0 _ rfl, hS.2.2.2.2.2.2 1 _ rfl⟩ : _ ∧ _ ∧ _ ∧ _ ∧ _ ∧ _ ∧ _ ∧ _ ∧ _ ∧ _ ∧ _ ∧ _)
        clear hd hE
        try clear hS
        go_wp2
        exact Ext.refl _
      case ha => rfl
      apply wpLoose_val rfl rfl
      case hs =>
        intro w1 hC hd Q1 hQ1
        obtain ⟨hE, hS⟩ := hC
        dsimp only [bare]
        obtain ⟨q1, q2, q3, q4, q5, q6, q7, q8, q9, qa, qb, qc⟩ := (⟨hS.1.2 0 _ rfl, hS.1.2 1 _ rfl, hS.2.1.2 0 _ rfl, hS.2.1.2 1 _ rfl, hS.2.2.1.2 0 _ rfl, hS.2.2.1.2 1 _ rfl, hS.2.2.2.1.2 0 _ rfl, hS.2.2.2.1.2 1 _ rfl, hS.2.2.2.2.1.2 0 _ rfl, hS.2.2.2.2.1.2 1 _ rfl, hS.2.2.2.2.2.2 0 _ rfl, hS.2.2.2.2.2.2 1 _ rfl⟩ : _ ∧ _ ∧ _ ∧ _ ∧ _ ∧ _ ∧ _ ∧ _ ∧ _ ∧ _ ∧ _ ∧ _)
        clear hd hE
        try clear hS
        go_wp2
        exact Ext.refl _
      case ha => rfl
      apply wpLoose_val rfl rfl
      case hs =>
        intro w1 hC hd Q1 hQ1
        obtain ⟨hE, hS⟩ := hC
        dsimp only [bare]
        obtain ⟨q1, q2, q3, q4, q5, q6, q7, q8, q9, qa, qb, qc⟩ := (⟨hS.1.2 0 _ rfl, hS.1.2 1 _ rfl, hS.2.1.2 0 _ rfl, hS.2.1.2 1 _ rfl, hS.2.2.1.2 0 _ rfl, hS.2.2.1.2 1 _ rfl, hS.2.2.2.1.2 0 _ rfl, hS.2.2.2.1.2 1 _ rfl, hS.2.2.2.2.1.2 0 _ rfl, hS.2.2.2.2.1.2 1 _ rfl, hS.2.2.2.2.2.2 0 _ rfl, hS.2.2.2.2.2.2 1 _ rfl⟩ : _ ∧ _ ∧ _ ∧ _ ∧ _ ∧ _ ∧ _ ∧ _ ∧ _ ∧ _ ∧ _ ∧ _)
        clear hd hE
        try clear hS
        go_wp2
        exact Ext.refl _
      case ha => rfl
      apply wpLoose_val rfl rfl
      case hs =>
        intro w1 hC hd Q1 hQ1
        obtain ⟨hE, hS⟩ := hC
        dsimp only [bare]
        clear hd
        go_wp2_with fail
        refine (NBA.out _).mono ?_
        rintro e w2 ⟨rfl, hb⟩
        go_wp2_with fail
        exact hb
      case ha => rfl
      apply wpLoose_val rfl rfl
      case hs =>
        intro w1 hC hd Q1 hQ1
        obtain ⟨hE, hS⟩ := hC
        dsimp only [bare]
        obtain ⟨q1, q2, q3, q4, q5, q6, q7, q8, q9, qa, qb, qc⟩ := (⟨hS.1.2 0 _ rfl, hS.1.2 1 _ rfl, hS.2.1.2 0 _ rfl, hS.2.1.2 1 _ rfl, hS.2.2.1.2 0 _ rfl, hS.2.2.1.2 1 _ rfl, hS.2.2.2.1.2 0 _ rfl, hS.2.2.2.1.2 1 _ rfl, hS.2.2.2.2.1.2 0 _ rfl, hS.2.2.2.2.1.2 1 _ rfl, hS.2.2.2.2.2.2 0 _ rfl, hS.2.2.2.2.2.2 1 _ rfl⟩ : _ ∧ _ ∧ _ ∧ _ ∧ _ ∧ _ ∧ _ ∧ _ ∧ _ ∧ _ ∧ _ ∧ _)
        clear hd hE
        try clear hS
        go_wp2
        exact Ext.refl _
      case ha => rfl
      apply wpLoose_val rfl rfl
      case hs =>
        intro w1 hC hd Q1 hQ1
        obtain ⟨hE, hS⟩ := hC
        dsimp only [bare]
        obtain ⟨q1, q2, q3, q4, q5, q6, q7, q8, q9, qa, qb, qc⟩ := (⟨hS.1.2 0 _ rfl, hS.1.2 1 _ rfl, hS.2.1.2 0 _ rfl, hS.2.1.2 1 _ rfl, hS.2.2.1.2 0 _ rfl, hS.2.2.1.2 1 _ rfl, hS.2.2.2.1.2 0 _ rfl, hS.2.2.2.1.2 1 _ rfl, hS.2.2.2.2.1.2 0 _ rfl, hS.2.2.2.2.1.2 1 _ rfl, hS.2.2.2.2.2.2 0 _ rfl, hS.2.2.2.2.2.2 1 _ rfl⟩ : _ ∧ _ ∧ _ ∧ _ ∧ _ ∧ _ ∧ _ ∧ _ ∧ _ ∧ _ ∧ _ ∧ _)
        clear hd hE
        try clear hS
        go_wp2
        exact Ext.refl _
      case ha => rfl
      apply wpLoose_val rfl rfl
      case hs =>
        intro w1 hC hd Q1 hQ1
        obtain ⟨hE, hS⟩ := hC
        dsimp only [bare]
        obtain ⟨q1, q2, q3, q4, q5, q6, q7, q8, q9, qa, qb, qc⟩ := (⟨hS.1.2 0 _ rfl, hS.1.2 1 _ rfl, hS.2.1.2 0 _ rfl, hS.2.1.2 1 _ rfl, hS.2.2.1.2 0 _ rfl, hS.2.2.1.2 1 _ rfl, hS.2.2.2.1.2 0 _ rfl, hS.2.2.2.1.2 1 _ rfl, hS.2.2.2.2.1.2 0 _ rfl, hS.2.2.2.2.1.2 1 _ rfl, hS.2.2.2.2.2.2 0 _ rfl, hS.2.2.2.2.2.2 1 _ rfl⟩ : _ ∧ _ ∧ _ ∧ _ ∧ _ ∧ _ ∧ _ ∧ _ ∧ _ ∧ _ ∧ _ ∧ _)
        clear hd hE
        try clear hS
        go_wp2
        exact Ext.refl _
      case ha => rfl
      apply wpLoose_val rfl rfl
      case hs =>
        intro w1 hC hd Q1 hQ1
        obtain ⟨hE, hS⟩ := hC
        dsimp only [bare]
        obtain ⟨q1, q2, q3, q4, q5, q6, q7, q8, q9, qa, qb, qc⟩ := (⟨hS.1.2 0 _ rfl, hS.1.2 1 _ rfl, hS.2.1.2 0 _ rfl, hS.2.1.2 1 _ rfl, hS.2.2.1.2 0 _ rfl, hS.2.2.1.2 1 _ rfl, hS.2.2.2.1.2 0 _ rfl, hS.2.2.2.1.2 1 _ rfl, hS.2.2.2.2.1.2 0 _ rfl, hS.2.2.2.2.1.2 1 _ rfl, hS.2.2.2.2.2.2 0 _ rfl, hS.2.2.2.2.2.2 1 _ rfl⟩ : _ ∧ _ ∧ _ ∧ _ ∧ _ ∧ _ ∧ _ ∧ _ ∧ _ ∧ _ ∧ _ ∧ _)
        clear hd hE
        try clear hS
        go_wp2
        exact Ext.refl _
      case ha => rfl
      apply wpLoose_val rfl rfl
      case hs =>
        intro w1 hC hd Q1 hQ1
        obtain ⟨hE, hS⟩ := hC
        dsimp only [bare]
        obtain ⟨q1, q2, q3, q4, q5, q6, q7, q8, q9, qa, qb, qc⟩ := (⟨hS.1.2 0 _ rfl, hS.1.2 1 _ rfl, hS.2.1.2 0 _ rfl, hS.2.1.2 1 _ rfl, hS.2.2.1.2 0 _ rfl, hS.2.2.1.2 1 _ rfl, hS.2.2.2.1.2 0 _ rfl, hS.2.2.2.1.2 1 _ rfl, hS.2.2.2.2.1.2 0 _ rfl, hS.2.2.2.2.1.2 1 _ rfl, hS.2.2.2.2.2.2 0 _ rfl, hS.2.2.2.2.2.2 1 _ rfl⟩ : _ ∧ _ ∧ _ ∧ _ ∧ _ ∧ _ ∧ _ ∧ _ ∧ _ ∧ _ ∧ _ ∧ _)
        clear hd hE
        try clear hS
        go_wp2
        exact Ext.refl _
      case ha => rfl
      apply wpLoose_val rfl rfl
      case hs =>
        intro w1 hC hd Q1 hQ1
        obtain ⟨hE, hS⟩ := hC
        dsimp only [bare]
        clear hd
        go_wp2_with fail
        refine (NMA.out _).mono ?_
        rintro e w2 ⟨rfl, hb⟩
        go_wp2_with fail
        exact hb
      case ha => rfl
      apply wpLoose_val rfl rfl
      case hs =>
        intro w1 hC hd Q1 hQ1
        obtain ⟨hE, hS⟩ := hC
        dsimp only [bare]
        obtain ⟨q1, q2, q3, q4, q5, q6, q7, q8, q9, qa, qb, qc⟩ := (⟨hS.1.2 0 _ rfl, hS.1.2 1 _ rfl, hS.2.1.2 0 _ rfl, hS.2.1.2 1 _ rfl, hS.2.2.1.2 0 _ rfl, hS.2.2.1.2 1 _ rfl, hS.2.2.2.1.2 0 _ rfl, hS.2.2.2.1.2 1 _ rfl, hS.2.2.2.2.1.2 0 _ rfl, hS.2.2.2.2.1.2 1 _ rfl, hS.2.2.2.2.2.2 0 _ rfl, hS.2.2.2.2.2.2 1 _ rfl⟩ : _ ∧ _ ∧ _ ∧ _ ∧ _ ∧ _ ∧ _ ∧ _ ∧ _ ∧ _ ∧ _ ∧ _)
        clear hd hE
        try clear hS
        go_wp2
        exact Ext.refl _
      case ha => rfl
      apply wpLoose_val rfl rfl
      case hs =>
        intro w1 hC hd Q1 hQ1
        obtain ⟨hE, hS⟩ := hC
        dsimp only [bare]
        obtain ⟨q1, q2, q3, q4, q5, q6, q7, q8, q9, qa, qb, qc⟩ := (⟨hS.1.2 0 _ rfl, hS.1.2 1 _ rfl, hS.2.1.2 0 _ rfl, hS.2.1.2 1 _ rfl, hS.2.2.1.2 0 _ rfl, hS.2.2.1.2 1 _ rfl, hS.2.2.2.1.2 0 _ rfl, hS.2.2.2.1.2 1 _ rfl, hS.2.2.2.2.1.2 0 _ rfl, hS.2.2.2.2.1.2 1 _ rfl, hS.2.2.2.2.2.2 0 _ rfl, hS.2.2.2.2.2.2 1 _ rfl⟩ : _ ∧ _ ∧ _ ∧ _ ∧ _ ∧ _ ∧ _ ∧ _ ∧ _ ∧ _ ∧ _ ∧ _)
        clear hd hE
        try clear hS
        go_wp2
        exact Ext.refl _
      case ha => rfl
      apply wpLoose_val rfl rfl
      case hs =>
        intro w1 hC hd Q1 hQ1
        obtain ⟨hE, hS⟩ := hC
        dsimp only [bare]
        obtain ⟨q1, q2, q3, q4, q5, q6, q7, q8, q9, qa, qb, qc⟩ := (⟨hS.1.2 0 _ rfl, hS.1.2 1 _ rfl, hS.2.1.2 0 _ rfl, hS.2.1.2 1 _ rfl, hS.2.2.1.2 0 _ rfl, hS.2.2.1.2 1 _ rfl, hS.2.2.2.1.2 0 _ rfl, hS.2.2.2.1.2 1 _ rfl, hS.2.2.2.2.1.2 0 _ rfl, hS.2.2.2.2.1.2 1 _ rfl, hS.2.2.2.2.2.2 0 _ rfl, hS.2.2.2.2.2.2 1 _ rfl⟩ : _ ∧ _ ∧ _ ∧ _ ∧ _ ∧ _ ∧ _ ∧ _ ∧ _ ∧ _ ∧ _ ∧ _)
        clear hd hE
        try clear hS
        go_wp2
        exact Ext.refl _
      case ha => rfl
      apply wpLoose_val rfl rfl
      case hs =>
        intro w1 hC hd Q1 hQ1
        obtain ⟨hE, hS⟩ := hC
        dsimp only [bare]
        obtain ⟨q1, q2, q3, q4, q5, q6, q7, q8, q9, qa, qb, qc⟩ := (⟨hS.1.2 0 _ rfl, hS.1.2 1 _ rfl, hS.2.1.2 0 _ rfl, hS.2.1.2 1 _ rfl, hS.2.2.1.2 0 _ rfl, hS.2.2.1.2 1 _ rfl, hS.2.2.2.1.2 0 _ rfl, hS.2.2.2.1.2 1 _ rfl, hS.2.2.2.2.1.2 0 _ rfl, hS.2.2.2.2.1.2 1 _ rfl, hS.2.2.2.2.2.2 0 _ rfl, hS.2.2.2.2.2.2 1 _ rfl⟩ : _ ∧ _ ∧ _ ∧ _ ∧ _ ∧ _ ∧ _ ∧ _ ∧ _ ∧ _ ∧ _ ∧ _)
        clear hd hE
        try clear hS
        go_wp2
        exact Ext.refl _
      case ha => rfl
      apply wpLoose_val rfl rfl
      case hs =>
        intro w1 hC hd Q1 hQ1
        obtain ⟨hE, hS⟩ := hC
        dsimp only [bare]
        obtain ⟨q1, q2, q3, q4, q5, q6, q7, q8, q9, qa, qb, qc⟩ := (⟨hS.1.2 0 _ rfl, hS.1.2 1 _ rfl, hS.2.1.2 0 _ rfl, hS.2.1.2 1 _ rfl, hS.2.2.1.2 0 _ rfl, hS.2.2.1.2 1 _ rfl, hS.2.2.2.1.2 0 _ rfl, hS.2.2.2.1.2 1 _ rfl, hS.2.2.2.2.1.2 0 _ rfl, hS.2.2.2.2.1.2 1 _ rfl, hS.2.2.2.2.2.2 0 _ rfl, hS.2.2.2.2.2.2 1 _ rfl⟩ : _ ∧ _ ∧ _ ∧ _ ∧ _ ∧ _ ∧ _ ∧ _ ∧ _ ∧ _ ∧ _ ∧ _)
        clear hd hE
        try clear hS
        go_wp2
        exact Ext.refl _
      case ha => rfl
      apply wpLoose_val rfl rfl
      case hs =>
        intro w1 hC hd Q1 hQ1
        obtain ⟨hE, hS⟩ := hC
        dsimp only [bare]
        obtain ⟨q1, q2, q3, q4, q5, q6, q7, q8, q9, qa, qb, qc⟩ := (⟨hS.1.2 0 _ rfl, hS.1.2 1 _ rfl, hS.2.1.2 0 _ rfl, hS.2.1.2 1 _ rfl, hS.2.2.1.2 0 _ rfl, hS.2.2.1.2 1 _ rfl, hS.2.2.2.1.2 0 _ rfl, hS.2.2.2.1.2 1 _ rfl, hS.2.2.2.2.1.2 0 _ rfl, hS.2.2.2.2.1.2 1 _ rfl, hS.2.2.2.2.2.2 0 _ rfl, hS.2.2.2.2.2.2 1 _ rfl⟩ : _ ∧ _ ∧ _ ∧ _ ∧ _ ∧ _ ∧ _ ∧ _ ∧ _ ∧ _ ∧ _ ∧ _)
        clear hd hE
        try clear hS
        go_wp2
        exact Ext.refl _
      case ha => rfl
      apply wpLoose_val rfl rfl
      case hs =>
        intro w1 hC hd Q1 hQ1
        obtain ⟨hE, hS⟩ := hC
        dsimp only [bare]
        clear hd
        go_wp2_with fail
        refine (CMA.out _).mono ?_
        rintro e w2 ⟨rfl, hb⟩
        go_wp2_with fail
        exact hb
      case ha => rfl
      apply wpLoose_val rfl rfl
      case hs =>
        intro w1 hC hd Q1 hQ1
        obtain ⟨hE, hS⟩ := hC
        dsimp only [bare]
        obtain ⟨q1, q2, q3, q4, q5, q6, q7, q8, q9, qa, qb, qc⟩ := (⟨hS.1.2 0 _ rfl, hS.1.2 1 _ rfl, hS.2.1.2 0 _ rfl, hS.2.1.2 1 _ rfl, hS.2.2.1.2 0 _ rfl, hS.2.2.1.2 1 _ rfl, hS.2.2.2.1.2 0 _ rfl, hS.2.2.2.1.2 1 _ rfl, hS.2.2.2.2.1.2 0 _ rfl, hS.2.2.2.2.1.2 1 _ rfl, hS.2.2.2.2.2.2 0 _ rfl, hS.2.2.2.2.2.2 1 _ rfl⟩ : _ ∧ _ ∧ _ ∧ _ ∧ _ ∧ _ ∧ _ ∧ _ ∧ _ ∧ _ ∧ _ ∧ _)
        clear hd hE
        try clear hS
        go_wp2
        exact Ext.refl _
      case ha => rfl
      apply wpLoose_val rfl rfl
      case hs =>
        intro w1 hC hd Q1 hQ1
        obtain ⟨hE, hS⟩ := hC
        dsimp only [bare]
        obtain ⟨q1, q2, q3, q4, q5, q6, q7, q8, q9, qa, qb, qc⟩ := (⟨hS.1.2 0 _ rfl, hS.1.2 1 _ rfl, hS.2.1.2 0 _ rfl, hS.2.1.2 1 _ rfl, hS.2.2.1.2 0 _ rfl, hS.2.2.1.2 1 _ rfl, hS.2.2.2.1.2 0 _ rfl, hS.2.2.2.1.2 1 _ rfl, hS.2.2.2.2.1.2 0 _ rfl, hS.2.2.2.2.1.2 1 _ rfl, hS.2.2.2.2.2.2 0 _ rfl, hS.2.2.2.2.2.2 1 _ rfl⟩ : _ ∧ _ ∧ _ ∧ _ ∧ _ ∧ _ ∧ _ ∧ _ ∧ _ ∧ _ ∧ _ ∧ _)
        clear hd hE
        try clear hS
        go_wp2
        exact Ext.refl _
      case ha => rfl
      apply wpLoose_val rfl rfl
      case hs =>
        intro w1 hC hd Q1 hQ1
        obtain ⟨hE, hS⟩ := hC
        dsimp only [bare]
        obtain ⟨q1, q2, q3, q4, q5, q6, q7, q8, q9, qa, qb, qc⟩ := (⟨hS.1.2 0 _ rfl, hS.1.2 1 _ rfl, hS.2.1.2 0 _ rfl, hS.2.1.2 1 _ rfl, hS.2.2.1.2 0 _ rfl, hS.2.2.1.2 1 _ rfl, hS.2.2.2.1.2 0 _ rfl, hS.2.2.2.1.2 1 _ rfl, hS.2.2.2.2.1.2 0 _ rfl, hS.2.2.2.2.1.2 1 _ rfl, hS.2.2.2.2.2.2 0 _ rfl, hS.2.2.2.2.2.2 1 _ rfl⟩ : _ ∧ _ ∧ _ ∧ _ ∧ _ ∧ _ ∧ _ ∧ _ ∧ _ ∧ _ ∧ _ ∧ _)
        clear hd hE
        try clear hS
        go_wp2
        exact Ext.refl _
      case ha => rfl
      apply wpLoose_val rfl rfl
      case hs =>
        intro w1 hC hd Q1 hQ1
        obtain ⟨hE, hS⟩ := hC
        dsimp only [bare]
        obtain ⟨q1, q2, q3, q4, q5, q6, q7, q8, q9, qa, qb, qc⟩ := (⟨hS.1.2 0 _ rfl, hS.1.2 1 _ rfl, hS.2.1.2 0 _ rfl, hS.2.1.2 1 _ rfl, hS.2.2.1.2 0 _ rfl, hS.2.2.1.2 1 _ rfl, hS.2.2.2.1.2 0 _ rfl, hS.2.2.2.1.2 1 _ rfl, hS.2.2.2.2.1.2 0 _ rfl, hS.2.2.2.2.1.2 1 _ rfl, hS.2.2.2.2.2.2 0 _ rfl, hS.2.2.2.2.2.2 1 _ rfl⟩ : _ ∧ _ ∧ _ ∧ _ ∧ _ ∧ _ ∧ _ ∧ _ ∧ _ ∧ _ ∧ _ ∧ _)
        clear hd hE
        try clear hS
        go_wp2
        exact Ext.refl _
      case ha => rfl
      apply wpLoose_val rfl rfl
      case hs =>
        intro w1 hC hd Q1 hQ1
        obtain ⟨hE, hS⟩ := hC
        dsimp only [bare]
        obtain ⟨q1, q2, q3, q4, q5, q6, q7, q8, q9, qa, qb, qc⟩ := (⟨hS.1.2 0 _ rfl, hS.1.2 1 _ rfl, hS.2.1.2 0 _ rfl, hS.2.1.2 1 _ rfl, hS.2.2.1.2 0 _ rfl, hS.2.2.1.2 1 _ rfl, hS.2.2.2.1.2 0 _ rfl, hS.2.2.2.1.2 1 _ rfl, hS.2.2.2.2.1.2 0 _ rfl, hS.2.2.2.2.1.2 1 _ rfl, hS.2.2.2.2.2.2 0 _ rfl, hS.2.2.2.2.2.2 1 _ rfl⟩ : _ ∧ _ ∧ _ ∧ _ ∧ _ ∧ _ ∧ _ ∧ _ ∧ _ ∧ _ ∧ _ ∧ _)
        clear hd hE
        try clear hS
        go_wp2
        exact Ext.refl _
      case ha => rfl
      apply wpLoose_val rfl rfl
      case hs =>
        intro w1 hC hd Q1 hQ1
        obtain ⟨hE, hS⟩ := hC
        dsimp only [bare]
        clear hd
        go_wp2_with fail
        refine (CUV.out _).mono ?_
        rintro e w2 ⟨rfl, hb⟩
        go_wp2_with fail
        exact hb
      case ha => rfl
      apply wpLoose_val rfl rfl
      case hs =>
        intro w1 hC hd Q1 hQ1
        obtain ⟨hE, hS⟩ := hC
        dsimp only [bare]
        obtain ⟨q1, q2, q3, q4, q5, q6, q7, q8, q9, qa, qb, qc⟩ := (⟨hS.1.2 0 _ rfl, hS.1.2 1 _ rfl, hS.2.1.2 0 _ rfl, hS.2.1.2 1 _ rfl, hS.2.2.1.2 0 _ rfl, hS.2.2.1.2 1 _ rfl, hS.2.2.2.1.2 0 _ rfl, hS.2.2.2.1.2 1 _ rfl, hS.2.2.2.2.1.2 0 _ rfl, hS.2.2.2.2.1.2 1 _ rfl, hS.2.2.2.2.2.2 0 _ rfl, hS.2.2.2.2.2.2 1 _ rfl⟩ : _ ∧ _ ∧ _ ∧ _ ∧ _ ∧ _ ∧ _ ∧ _ ∧ _ ∧ _ ∧ _ ∧ _)
        clear hd hE
        try clear hS
        go_wp2
        exact Ext.refl _
      case ha => rfl
      apply wpLoose_val rfl rfl
      case hs =>
        intro w1 hC hd Q1 hQ1
        obtain ⟨hE, hS⟩ := hC
        dsimp only [bare]
        obtain ⟨q1, q2, q3, q4, q5, q6, q7, q8, q9, qa, qb, qc⟩ := (⟨hS.1.2 0 _ rfl, hS.1.2 1 _ rfl, hS.2.1.2 0 _ rfl, hS.2.1.2 1 _ rfl, hS.2.2.1.2 0 _ rfl, hS.2.2.1.2 1 _ rfl, hS.2.2.2.1.2 0 _ rfl, hS.2.2.2.1.2 1 _ rfl, hS.2.2.2.2.1.2 0 _ rfl, hS.2.2.2.2.1.2 1 _ rfl, hS.2.2.2.2.2.2 0 _ rfl, hS.2.2.2.2.2.2 1 _ rfl⟩ : _ ∧ _ ∧ _ ∧ _ ∧ _ ∧ _ ∧ _ ∧ _ ∧ _ ∧ _ ∧ _ ∧ _)
        clear hd hE
        try clear hS
        go_wp2
        exact Ext.refl _
      case ha => rfl
      apply wpLoose_val rfl rfl
      case hs =>
        intro w1 hC hd Q1 hQ1
        obtain ⟨hE, hS⟩ := hC
        dsimp only [bare]
        clear hd
        go_wp2_with fail
        refine (SUV.out _).mono ?_
        rintro e w2 ⟨rfl, hb⟩
        go_wp2_with fail
        exact hb
      case ha => rfl
      apply wpLoose_val rfl rfl
      case hs =>
        intro w1 hC hd Q1 hQ1
        obtain ⟨hE, hS⟩ := hC
        dsimp only [bare]
        obtain ⟨q1, q2, q3, q4, q5, q6, q7, q8, q9, qa, qb, qc⟩ := (⟨hS.1.2 0 _ rfl, hS.1.2 1 _ rfl, hS.2.1.2 0 _ rfl, hS.2.1.2 1 _ rfl, hS.2.2.1.2 0 _ rfl, hS.2.2.1.2 1 _ rfl, hS.2.2.2.1.2 0 _ rfl, hS.2.2.2.1.2 1 _ rfl, hS.2.2.2.2.1.2 0 _ rfl, hS.2.2.2.2.1.2 1 _ rfl, hS.2.2.2.2.2.2 0 _ rfl, hS.2.2.2.2.2.2 1 _ rfl⟩ : _ ∧ _ ∧ _ ∧ _ ∧ _ ∧ _ ∧ _ ∧ _ ∧ _ ∧ _ ∧ _ ∧ _)
        clear hd hE
        try clear hS
        go_wp2
        exact Ext.refl _
      case ha => rfl
      apply wpLoose_val rfl rfl
      case hs =>
        intro w1 hC hd Q1 hQ1
        obtain ⟨hE, hS⟩ := hC
        dsimp only [bare]
        obtain ⟨q1, q2, q3, q4, q5, q6, q7, q8, q9, qa, qb, qc⟩ := (⟨hS.1.2 0 _ rfl, hS.1.2 1 _ rfl, hS.2.1.2 0 _ rfl, hS.2.1.2 1 _ rfl, hS.2.2.1.2 0 _ rfl, hS.2.2.1.2 1 _ rfl, hS.2.2.2.1.2 0 _ rfl, hS.2.2.2.1.2 1 _ rfl, hS.2.2.2.2.1.2 0 _ rfl, hS.2.2.2.2.1.2 1 _ rfl, hS.2.2.2.2.2.2 0 _ rfl, hS.2.2.2.2.2.2 1 _ rfl⟩ : _ ∧ _ ∧ _ ∧ _ ∧ _ ∧ _ ∧ _ ∧ _ ∧ _ ∧ _ ∧ _ ∧ _)
        clear hd hE
        try clear hS
        go_wp2
        exact Ext.refl _
      case ha => rfl
      apply wpLoose_val rfl rfl
      case hs =>
        intro w1 hC hd Q1 hQ1
        obtain ⟨hE, hS⟩ := hC
        dsimp only [bare]
        obtain ⟨q1, q2, q3, q4, q5, q6, q7, q8, q9, qa, qb, qc⟩ := (⟨hS.1.2 0 _ rfl, hS.1.2 1 _ rfl, hS.2.1.2 0 _ rfl, hS.2.1.2 1 _ rfl, hS.2.2.1.2 0 _ rfl, hS.2.2.1.2 1 _ rfl, hS.2.2.2.1.2 0 _ rfl, hS.2.2.2.1.2 1 _ rfl, hS.2.2.2.2.1.2 0 _ rfl, hS.2.2.2.2.1.2 1 _ rfl, hS.2.2.2.2.2.2 0 _ rfl, hS.2.2.2.2.2.2 1 _ rfl⟩ : _ ∧ _ ∧ _ ∧ _ ∧ _ ∧ _ ∧ _ ∧ _ ∧ _ ∧ _ ∧ _ ∧ _)
        clear hd hE
        try clear hS
        go_wp2
        exact Ext.refl _
      case ha => rfl
      apply wpLoose_val rfl rfl
      case hs =>
        intro w1 hC hd Q1 hQ1
        obtain ⟨hE, hS⟩ := hC
        dsimp only [bare]
        obtain ⟨q1, q2, q3, q4, q5, q6, q7, q8, q9, qa, qb, qc⟩ := (⟨hS.1.2 0 _ rfl, hS.1.2 1 _ rfl, hS.2.1.2 0 _ rfl, hS.2.1.2 1 _ rfl, hS.2.2.1.2 0 _ rfl, hS.2.2.1.2 1 _ rfl, hS.2.2.2.1.2 0 _ rfl, hS.2.2.2.1.2 1 _ rfl, hS.2.2.2.2.1.2 0 _ rfl, hS.2.2.2.2.1.2 1 _ rfl, hS.2.2.2.2.2.2 0 _ rfl, hS.2.2.2.2.2.2 1 _ rfl⟩ : _ ∧ _ ∧ _ ∧ _ ∧ _ ∧ _ ∧ _ ∧ _ ∧ _ ∧ _ ∧ _ ∧ _)
        clear hd hE
        try clear hS
        go_wp2
        exact Ext.refl _
      case ha => rfl
      apply wpLoose_val rfl rfl
      case hs =>
        intro w1 hC hd Q1 hQ1
        obtain ⟨hE, hS⟩ := hC
        dsimp only [bare]
        obtain ⟨q1, q2, q3, q4, q5, q6, q7, q8, q9, qa, qb, qc⟩ := (⟨hS.1.2 0 _ rfl, hS.1.2 1 _ rfl, hS.2.1.2 0 _ rfl, hS.2.1.2 1 _ rfl, hS.2.2.1.2 0 _ rfl, hS.2.2.1.2 1 _ rfl, hS.2.2.2.1.2 0 _ rfl, hS.2.2.2.1.2 1 _ rfl, hS.2.2.2.2.1.2 0 _ rfl, hS.2.2.2.2.1.2 1 _ rfl, hS.2.2.2.2.2.2 0 _ rfl, hS.2.2.2.2.2.2 1 _ rfl⟩ : _ ∧ _ ∧ _ ∧ _ ∧ _ ∧ _ ∧ _ ∧ _ ∧ _ ∧ _ ∧ _ ∧ _)
        clear hd hE
        try clear hS
        go_wp2
        exact Ext.refl _
      case ha => rfl
      apply wpLoose_val rfl rfl
      case hs =>
        intro w1 hC hd Q1 hQ1
        obtain ⟨hE, hS⟩ := hC
        dsimp only [bare]
        clear hd
        go_wp2_with fail
        refine (NUV.out _).mono ?_
        rintro e w2 ⟨rfl, hb⟩
        go_wp2_with fail
        exact hb
      case ha => rfl
      apply wpLoose_val rfl rfl
      case hs =>
        intro w1 hC hd Q1 hQ1
        obtain ⟨hE, hS⟩ := hC
        dsimp only [bare]
        obtain ⟨q1, q2, q3, q4, q5, q6, q7, q8, q9, qa, qb, qc⟩ := (⟨hS.1.2 0 _ rfl, hS.1.2 1 _ rfl, hS.2.1.2 0 _ rfl, hS.2.1.2 1 _ rfl, hS.2.2.1.2 0 _ rfl, hS.2.2.1.2 1 _ rfl, hS.2.2.2.1.2 0 _ rfl, hS.2.2.2.1.2 1 _ rfl, hS.2.2.2.2.1.2 0 _ rfl, hS.2.2.2.2.1.2 1 _ rfl, hS.2.2.2.2.2.2 0 _ rfl, hS.2.2.2.2.2.2 1 _ rfl⟩ : _ ∧ _ ∧ _ ∧ _ ∧ _ ∧ _ ∧ _ ∧ _ ∧ _ ∧ _ ∧ _ ∧ _)
        clear hd hE
        try clear hS
        go_wp2
        exact Ext.refl _
      case ha => rfl
      apply wpLoose_val rfl rfl
      case hs =>
        intro w1 hC hd Q1 hQ1
        obtain ⟨hE, hS⟩ := hC
        dsimp only [bare]
        obtain ⟨q1, q2, q3, q4, q5, q6, q7, q8, q9, qa, qb, qc⟩ := (⟨hS.1.2 0 _ rfl, hS.1.2 1 _ rfl, hS.2.1.2 0 _ rfl, hS.2.1.2 1 _ rfl, hS.2.2.1.2 0 _ rfl, hS.2.2.1.2 1 _ rfl, hS.2.2.2.1.2 0 _ rfl, hS.2.2.2.1.2 1 _ rfl, hS.2.2.2.2.1.2 0 _ rfl, hS.2.2.2.2.1.2 1 _ rfl, hS.2.2.2.2.2.2 0 _ rfl, hS.2.2.2.2.2.2 1 _ rfl⟩ : _ ∧ _ ∧ _ ∧ _ ∧ _ ∧ _ ∧ _ ∧ _ ∧ _ ∧ _ ∧ _ ∧ _)
        clear hd hE
        try clear hS
        go_wp2
        exact Ext.refl _
      case ha => rfl
      apply wpLoose_val rfl rfl
      case hs =>
        intro w1 hC hd Q1 hQ1
        obtain ⟨hE, hS⟩ := hC
        dsimp only [bare]
        clear hd
        go_wp2_with fail
        refine (SNUV.out _).mono ?_
        rintro e w2 ⟨rfl, hb⟩
        go_wp2_with fail
        exact hb
      case ha => rfl
      apply wpLoose_val rfl rfl
      case hs =>
        intro w1 hC hd Q1 hQ1
        obtain ⟨hE, hS⟩ := hC
        dsimp only [bare]
        obtain ⟨q1, q2, q3, q4, q5, q6, q7, q8, q9, qa, qb, qc⟩ := (⟨hS.1.2 0 _ rfl, hS.1.2 1 _ rfl, hS.2.1.2 0 _ rfl, hS.2.1.2 1 _ rfl, hS.2.2.1.2 0 _ rfl, hS.2.2.1.2 1 _ rfl, hS.2.2.2.1.2 0 _ rfl, hS.2.2.2.1.2 1 _ rfl, hS.2.2.2.2.1.2 0 _ rfl, hS.2.2.2.2.1.2 1 _ rfl, hS.2.2.2.2.2.2 0 _ rfl, hS.2.2.2.2.2.2 1 _ rfl⟩ : _ ∧ _ ∧ _ ∧ _ ∧ _ ∧ _ ∧ _ ∧ _ ∧ _ ∧ _ ∧ _ ∧ _)
        clear hd hE
        try clear hS
        go_wp2
        exact Ext.refl _
      case ha => rfl
      apply wpLoose_val rfl rfl
      case hs =>
        intro w1 hC hd Q1 hQ1
        obtain ⟨hE, hS⟩ := hC
        dsimp only [bare]
        obtain ⟨q1, q2, q3, q4, q5, q6, q7, q8, q9, qa, qb, qc⟩ := (⟨hS.1.2 0 _ rfl, hS.1.2 1 _ rfl, hS.2.1.2 0 _ rfl, hS.2.1.2 1 _ rfl, hS.2.2.1.2 0 _ rfl, hS.2.2.1.2 1 _ rfl, hS.2.2.2.1.2 0 _ rfl, hS.2.2.2.1.2 1 _ rfl, hS.2.2.2.2.1.2 0 _ rfl, hS.2.2.2.2.1.2 1 _ rfl, hS.2.2.2.2.2.2 0 _ rfl, hS.2.2.2.2.2.2 1 _ rfl⟩ : _ ∧ _ ∧ _ ∧ _ ∧ _ ∧ _ ∧ _ ∧ _ ∧ _ ∧ _ ∧ _ ∧ _)
        clear hd hE
        try clear hS
        go_wp2
        exact Ext.refl _
      case ha => rfl
      apply wpLoose_val rfl rfl
      case hs =>
        intro w1 hC hd Q1 hQ1
        obtain ⟨hE, hS⟩ := hC
        dsimp only [bare]
        obtain ⟨q1, q2, q3, q4, q5, q6, q7, q8, q9, qa, qb, qc⟩ := (⟨hS.1.2 0 _ rfl, hS.1.2 1 _ rfl, hS.2.1.2 0 _ rfl, hS.2.1.2 1 _ rfl, hS.2.2.1.2 0 _ rfl, hS.2.2.1.2 1 _ rfl, hS.2.2.2.1.2 0 _ rfl, hS.2.2.2.1.2 1 _ rfl, hS.2.2.2.2.1.2 0 _ rfl, hS.2.2.2.2.1.2 1 _ rfl, hS.2.2.2.2.2.2 0 _ rfl, hS.2.2.2.2.2.2 1 _ rfl⟩ : _ ∧ _ ∧ _ ∧ _ ∧ _ ∧ _ ∧ _ ∧ _ ∧ _ ∧ _ ∧ _ ∧ _)
        clear hd hE
        try clear hS
        go_wp2
        exact Ext.refl _
      case ha => rfl
      apply wpLoose_val rfl rfl
      case hs =>
        intro w1 hC hd Q1 hQ1
        obtain ⟨hE, hS⟩ := hC
        dsimp only [bare]
        obtain ⟨q1, q2, q3, q4, q5, q6, q7, q8, q9, qa, qb, qc⟩ := (⟨hS.1.2 0 _ rfl, hS.1.2 1 _ rfl, hS.2.1.2 0 _ rfl, hS.2.1.2 1 _ rfl, hS.2.2.1.2 0 _ rfl, hS.2.2.1.2 1 _ rfl, hS.2.2.2.1.2 0 _ rfl, hS.2.2.2.1.2 1 _ rfl, hS.2.2.2.2.1.2 0 _ rfl, hS.2.2.2.2.1.2 1 _ rfl, hS.2.2.2.2.2.2 0 _ rfl, hS.2.2.2.2.2.2 1 _ rfl⟩ : _ ∧ _ ∧ _ ∧ _ ∧ _ ∧ _ ∧ _ ∧ _ ∧ _ ∧ _ ∧ _ ∧ _)
        clear hd hE
        try clear hS
        go_wp2
        exact Ext.refl _
      case ha => rfl
      apply wpLoose_val rfl rfl
      case hs =>
        intro w1 hC hd Q1 hQ1
        obtain ⟨hE, hS⟩ := hC
        dsimp only [bare]
        clear hd
        go_wp2_with fail
        refine (WA.out _).mono ?_
        rintro e w2 ⟨rfl, hb⟩
        go_wp2_with fail
        exact hb
      case ha => rfl
      apply wpLoose_val rfl rfl
      case hs =>
        intro w1 hC hd Q1 hQ1
        obtain ⟨hE, hS⟩ := hC
        dsimp only [bare]
        obtain ⟨q1, q2, q3, q4, q5, q6, q7, q8, q9, qa, qb, qc⟩ := (⟨hS.1.2 0 _ rfl, hS.1.2 1 _ rfl, hS.2.1.2 0 _ rfl, hS.2.1.2 1 _ rfl, hS.2.2.1.2 0 _ rfl, hS.2.2.1.2 1 _ rfl, hS.2.2.2.1.2 0 _ rfl, hS.2.2.2.1.2 1 _ rfl, hS.2.2.2.2.1.2 0 _ rfl, hS.2.2.2.2.1.2 1 _ rfl, hS.2.2.2.2.2.2 0 _ rfl, hS.2.2.2.2.2.2 1 _ rfl⟩ : _ ∧ _ ∧ _ ∧ _ ∧ _ ∧ _ ∧ _ ∧ _ ∧ _ ∧ _ ∧ _ ∧ _)
        clear hd hE
        try clear hS
        go_wp2
        exact Ext.refl _
      case ha => rfl
      apply wpLoose_val rfl rfl
      case hs =>
        intro w1 hC hd Q1 hQ1
        obtain ⟨hE, hS⟩ := hC
        dsimp only [bare]
        obtain ⟨q1, q2, q3, q4, q5, q6, q7, q8, q9, qa, qb, qc⟩ := (⟨hS.1.2 0 _ rfl, hS.1.2 1 _ rfl, hS.2.1.2 0 _ rfl, hS.2.1.2 1 _ rfl, hS.2.2.1.2 0 _ rfl, hS.2.2.1.2 1 _ rfl, hS.2.2.2.1.2 0 _ rfl, hS.2.2.2.1.2 1 _ rfl, hS.2.2.2.2.1.2 0 _ rfl, hS.2.2.2.2.1.2 1 _ rfl, hS.2.2.2.2.2.2 0 _ rfl, hS.2.2.2.2.2.2 1 _ rfl⟩ : _ ∧ _ ∧ _ ∧ _ ∧ _ ∧ _ ∧ _ ∧ _ ∧ _ ∧ _ ∧ _ ∧ _)
        clear hd hE
        try clear hS
        go_wp2
        exact Ext.refl _
      case ha => rfl
      apply wpLoose_val rfl rfl
      case hs =>
        intro w1 hC hd Q1 hQ1
        obtain ⟨hE, hS⟩ := hC
        dsimp only [bare]
        obtain ⟨q1, q2, q3, q4, q5, q6, q7, q8, q9, qa, qb, qc⟩ := (⟨hS.1.2 0 _ rfl, hS.1.2 1 _ rfl, hS.2.1.2 0 _ rfl, hS.2.1.2 1 _ rfl, hS.2.2.1.2 0 _ rfl, hS.2.2.1.2 1 _ rfl, hS.2.2.2.1.2 0 _ rfl, hS.2.2.2.1.2 1 _ rfl, hS.2.2.2.2.1.2 0 _ rfl, hS.2.2.2.2.1.2 1 _ rfl, hS.2.2.2.2.2.2 0 _ rfl, hS.2.2.2.2.2.2 1 _ rfl⟩ : _ ∧ _ ∧ _ ∧ _ ∧ _ ∧ _ ∧ _ ∧ _ ∧ _ ∧ _ ∧ _ ∧ _)
        clear hd hE
        try clear hS
        go_wp2
        exact Ext.refl _
      case ha => rfl
      apply wpLoose_val rfl rfl
      case hs =>
        intro w1 hC hd Q1 hQ1
        obtain ⟨hE, hS⟩ := hC
        dsimp only [bare]
        clear hd
        go_wp2_with fail
        refine (WU.out _).mono ?_
        rintro e w2 ⟨rfl, hb⟩
        go_wp2_with fail
        exact hb
      case ha => rfl
      apply wpLoose_val rfl rfl
      case hs =>
        intro w1 hC hd Q1 hQ1
        obtain ⟨hE, hS⟩ := hC
        dsimp only [bare]
        obtain ⟨q1, q2, q3, q4, q5, q6, q7, q8, q9, qa, qb, qc⟩ := (⟨hS.1.2 0 _ rfl, hS.1.2 1 _ rfl, hS.2.1.2 0 _ rfl, hS.2.1.2 1 _ rfl, hS.2.2.1.2 0 _ rfl, hS.2.2.1.2 1 _ rfl, hS.2.2.2.1.2 0 _ rfl, hS.2.2.2.1.2 1 _ rfl, hS.2.2.2.2.1.2 0 _ rfl, hS.2.2.2.2.1.2 1 _ rfl, hS.2.2.2.2.2.2 0 _ rfl, hS.2.2.2.2.2.2 1 _ rfl⟩ : _ ∧ _ ∧ _ ∧ _ ∧ _ ∧ _ ∧ _ ∧ _ ∧ _ ∧ _ ∧ _ ∧ _)
        clear hd hE
        try clear hS
        go_wp2
        exact Ext.refl _
      case ha => rfl
      apply wpLoose_val rfl rfl
      case hs =>
        intro w1 hC hd Q1 hQ1
        obtain ⟨hE, hS⟩ := hC
        dsimp only [bare]
        clear hd
        go_wp2_with fail
        refine (SWU.out _).mono ?_
        rintro e w2 ⟨rfl, hb⟩
        go_wp2_with fail
        exact hb
      case ha => rfl
      apply wpLoose_val rfl rfl
      case hs =>
        intro w1 hC hd Q1 hQ1
        obtain ⟨hE, hS⟩ := hC
        dsimp only [bare]
        obtain ⟨q1, q2, q3, q4, q5, q6, q7, q8, q9, qa, qb, qc⟩ := (⟨hS.1.2 0 _ rfl, hS.1.2 1 _ rfl, hS.2.1.2 0 _ rfl, hS.2.1.2 1 _ rfl, hS.2.2.1.2 0 _ rfl, hS.2.2.1.2 1 _ rfl, hS.2.2.2.1.2 0 _ rfl, hS.2.2.2.1.2 1 _ rfl, hS.2.2.2.2.1.2 0 _ rfl, hS.2.2.2.2.1.2 1 _ rfl, hS.2.2.2.2.2.2 0 _ rfl, hS.2.2.2.2.2.2 1 _ rfl⟩ : _ ∧ _ ∧ _ ∧ _ ∧ _ ∧ _ ∧ _ ∧ _ ∧ _ ∧ _ ∧ _ ∧ _)
        clear hd hE
        try clear hS
        go_wp2
        exact Ext.refl _
      case ha => rfl
      apply wpLoose_val rfl rfl
      case hs =>
        intro w1 hC hd Q1 hQ1
        obtain ⟨hE, hS⟩ := hC
        dsimp only [bare]
        obtain ⟨q1, q2, q3, q4, q5, q6, q7, q8, q9, qa, qb, qc⟩ := (⟨hS.1.2 0 _ rfl, hS.1.2 1 _ rfl, hS.2.1.2 0 _ rfl, hS.2.1.2 1 _ rfl, hS.2.2.1.2 0 _ rfl, hS.2.2.1.2 1 _ rfl, hS.2.2.2.1.2 0 _ rfl, hS.2.2.2.1.2 1 _ rfl, hS.2.2.2.2.1.2 0 _ rfl, hS.2.2.2.2.1.2 1 _ rfl, hS.2.2.2.2.2.2 0 _ rfl, hS.2.2.2.2.2.2 1 _ rfl⟩ : _ ∧ _ ∧ _ ∧ _ ∧ _ ∧ _ ∧ _ ∧ _ ∧ _ ∧ _ ∧ _ ∧ _)
        clear hd hE
        try clear hS
        go_wp2
        exact Ext.refl _
      case ha => rfl
      apply wpLoose_val rfl rfl
      case hs =>
        intro w1 hC hd Q1 hQ1
        obtain ⟨hE, hS⟩ := hC
        dsimp only [bare]
        obtain ⟨q1, q2, q3, q4, q5, q6, q7, q8, q9, qa, qb, qc⟩ := (⟨hS.1.2 0 _ rfl, hS.1.2 1 _ rfl, hS.2.1.2 0 _ rfl, hS.2.1.2 1 _ rfl, hS.2.2.1.2 0 _ rfl, hS.2.2.1.2 1 _ rfl, hS.2.2.2.1.2 0 _ rfl, hS.2.2.2.1.2 1 _ rfl, hS.2.2.2.2.1.2 0 _ rfl, hS.2.2.2.2.1.2 1 _ rfl, hS.2.2.2.2.2.2 0 _ rfl, hS.2.2.2.2.2.2 1 _ rfl⟩ : _ ∧ _ ∧ _ ∧ _ ∧ _ ∧ _ ∧ _ ∧ _ ∧ _ ∧ _ ∧ _ ∧ _)
        clear hd hE
        try clear hS
        go_wp2
        exact Ext.refl _
      case ha => rfl
      refine wpLoose_nil ?_
      intro wy hEy hSy hFy
      have HX6 : Hid (Ext w wy) := HX5.out.drew.trans hEy
      clear hEy hSy hFy
      go_wp2
      go_ret
      exact ⟨rfl, HX6.out⟩
      case hAy => kernel_rfl
      case hly => exact ⟨trivial, trivial, trivial, trivial, trivial, trivial, trivial, trivial, trivial, trivial, trivial, trivial, trivial, trivial, trivial, trivial, trivial, trivial, trivial, trivial, trivial, trivial, trivial, trivial, trivial, trivial, trivial, trivial, trivial, trivial, trivial, trivial, trivial, trivial, trivial, trivial, trivial, trivial, trivial, trivial, trivial, trivial, trivial, trivial, trivial, trivial, trivial, trivial, trivial, trivial, trivial, trivial, trivial, trivial, trivial, trivial, trivial, trivial, trivial, trivial, trivial, trivial, trivial, trivial, trivial, trivial, trivial, trivial, trivial, trivial, trivial, trivial, trivial, trivial, trivial, trivial, trivial, trivial, trivial, trivial, trivial⟩
    · obtain rfl : kbc = -1 := by have := hbcb.out; omega
      obtain rfl : kac = -1 := by have := htr.out (by omega) (by omega); have := hacb.out; omega
      clear h1
      refine' wp_region_loose (.inl _ :: .inl _ :: .inl _ :: .inl _ :: .inl _ :: .inl _ :: .inl _ :: .inl _ :: .inl _ :: .inl _ :: .inl _ :: .inl _ :: .inl _ :: .inl _ :: .inl _ :: .inl _ :: .inl _ :: .inl _ :: .inl _ :: .inl _ :: .inl _ :: .inl _ :: .inl _ :: .inl _ :: .inl _ :: .inl _ :: .inl _ :: .inl _ :: .inl _ :: .inl _ :: .inl _ :: .inl _ :: .inl _ :: .inl _ :: .inl _ :: .inl _ :: .inl _ :: .inl _ :: .inl _ :: .inl _ :: .inl _ :: .inl _ :: .inl _ :: .inl _ :: .inl _ :: .inl _ :: .inl _ :: .inl _ :: .inl _ :: .inl _ :: .inl _ :: .inl _ :: .inl _ :: .inl _ :: .inl _ :: .inl _ :: .inl _ :: .inl _ :: .inl _ :: .inl _ :: .inl _ :: .inl _ :: .inl _ :: .inl _ :: .inl _ :: .inl _ :: .inl _ :: .inl _ :: .inl _ :: .inl _ :: .inl _ :: .inl _ :: .inl _ :: .inl _ :: .inl _ :: .inl _ :: .inl _ :: .inl _ :: .inl _ :: .inl _ :: []) (fun w' => CellsAt w' (w1.heap.size + 1) [.int .i64 a1, .int .i64 a2] ∧ CellsAt w' (w1.heap.size + 1 + 1) [.int .i64 b1, .int .i64 b2] ∧ CellsAt w' (w1.heap.size + 1 + 1 + 1) [.int .i64 c1, .int .i64 c2] ∧ CellsAt w' w3.heap.size [.int .i64 m1, .int .i64 m2] ∧ CellsAt w' w4.heap.size [.int .i64 u1, .int .i64 u2] ∧ CellsAt w' (w4.heap.size + 1) [.int .i64 v1, .int .i64 v2]) (by kernel_rfl) (by kernel_rfl) (HS.out) (fun _ _ h hE => ⟨h.1.step hE, h.2.1.step hE, h.2.2.1.step hE, h.2.2.2.1.step hE, h.2.2.2.2.1.step hE, h.2.2.2.2.2.step hE⟩) ?hAz ?hlz ?hMz
      case' hMz => skip
      apply wpLoose_val rfl rfl
      case hs =>
        intro w1 hC hd Q1 hQ1
        obtain ⟨hE, hS⟩ := hC
        dsimp only [bare]
        obtain ⟨q1, q2, q3, q4, q5, q6, q7, q8, q9, qa, qb, qc⟩ := (⟨hS.1.2 0 _ rfl, hS.1.2 1 _ rfl, hS.2.1.2 0 _ rfl, hS.2.1.2 1 _ rfl, hS.2.2.1.2 0 _ rfl, hS.2.2.1.2 1 _ rfl, hS.2.2.2.1.2 0 _ rfl, hS.2.2.2.1.2 1 _ rfl, hS.2.2.2.2.1.2 0 _ rfl, hS.2.2.2.2.1.2 1 _ rfl, hS.2.2.2.2.2.2 0 _ rfl, hS.2.2.2.2.2.2 1 _ rfl⟩ : _ ∧ _ ∧ _ ∧ _ ∧ _ ∧ _ ∧ _ ∧ _ ∧ _ ∧ _ ∧ _ ∧ _)
        clear hd hE
        try clear hS
        go_wp2
        exact Ext.refl _
      case ha => rfl
      apply wpLoose_val rfl rfl
      case hs =>
        intro w1 hC hd Q1 hQ1
        obtain ⟨hE, hS⟩ := hC
        dsimp only [bare]
        obtain ⟨q1, q2, q3, q4, q5, q6, q7, q8, q9, qa, qb, qc⟩ := (⟨hS.1.2 0 _ rfl, hS.1.2 1 _ rfl, hS.2.1.2 0 _ rfl, hS.2.1.2 1 _ rfl, hS.2.2.1.2 0 _ rfl, hS.2.2.1.2 1 _ rfl, hS.2.2.2.1.2 0 _ rfl, hS.2.2.2.1.2 1 _ rfl, hS.2.2.2.2.1.2 0 _ rfl, hS.2.2.2.2.1.2 1 _ rfl, hS.2.2.2.2.2.2 0 _ rfl, hS.2.2.2.2.2.2 1 _ rfl⟩ : _ ∧ _ ∧ _ ∧ _ ∧ _ ∧ _ ∧ _ ∧ _ ∧ _ ∧ _ ∧ _ ∧ _)
        clear hd hE
        try clear hS
        go_wp2
        exact Ext.refl _
      case ha => rfl
      apply wpLoose_val rfl rfl
      case hs =>
        intro w1 hC hd Q1 hQ1
        obtain ⟨hE, hS⟩ := hC
        dsimp only [bare]
        obtain ⟨q1, q2, q3, q4, q5, q6, q7, q8, q9, qa, qb, qc⟩ := (⟨hS.1.2 0 _ rfl, hS.1.2 1 _ rfl, hS.2.1.2 0 _ rfl, hS.2.1.2 1 _ rfl, hS.2.2.1.2 0 _ rfl, hS.2.2.1.2 1 _ rfl, hS.2.2.2.1.2 0 _ rfl, hS.2.2.2.1.2 1 _ rfl, hS.2.2.2.2.1.2 0 _ rfl, hS.2.2.2.2.1.2 1 _ rfl, hS.2.2.2.2.2.2 0 _ rfl, hS.2.2.2.2.2.2 1 _ rfl⟩ : _ ∧ _ ∧ _ ∧ _ ∧ _ ∧ _ ∧ _ ∧ _ ∧ _ ∧ _ ∧ _ ∧ _)
        clear hd hE
        try clear hS
        go_wp2
        exact Ext.refl _
      case ha => rfl
      apply wpLoose_val rfl rfl
      case hs =>
        intro w1 hC hd Q1 hQ1
        obtain ⟨hE, hS⟩ := hC
        dsimp only [bare]
        clear hd
        go_wp2_with fail
        refine (CBA.out _).mono ?_
        rintro e w2 ⟨rfl, hb⟩
        go_wp2_with fail
        exact hb
      case ha => rfl
      apply wpLoose_val rfl rfl
      case hs =>
        intro w1 hC hd Q1 hQ1
        obtain ⟨hE, hS⟩ := hC
        dsimp only [bare]
        obtain ⟨q1, q2, q3, q4, q5, q6, q7, q8, q9, qa, qb, qc⟩ := (⟨hS.1.2 0 _ rfl, hS.1.2 1 _ rfl, hS.2.1.2 0 _ rfl, hS.2.1.2 1 _ rfl, hS.2.2.1.2 0 _ rfl, hS.2.2.1.2 1 _ rfl, hS.2.2.2.1.2 0 _ rfl, hS.2.2.2.1.2 1 _ rfl, hS.2.2.2.2.1.2 0 _ rfl, hS.2.2.2.2.1.2 1 _ rfl, hS.2.2.2.2.2.2 0 _ rfl, hS.2.2.2.2.2.2 1 _ rfl⟩ : _ ∧ _ ∧ _ ∧ _ ∧ _ ∧ _ ∧ _ ∧ _ ∧ _ ∧ _ ∧ _ ∧ _)
        clear hd hE
        try clear hS
        go_wp2
        exact Ext.refl _
      case ha => rfl
      apply wpLoose_val rfl rfl
      case hs =>
        intro w1 hC hd Q1 hQ1
        obtain ⟨hE, hS⟩ := hC
        dsimp only [bare]
        obtain ⟨q1, q2, q3, q4, q5, q6, q7, q8, q9, qa, qb, qc⟩ := (⟨hS.1.2 0 _ rfl, hS.1.2 1 _ rfl, hS.2.1.2 0 _ rfl, hS.2.1.2 1 _ rfl, hS.2.2.1.2 0 _ rfl, hS.2.2.1.2 1 _ rfl, hS.2.2.2.1.2 0 _ rfl, hS.2.2.2.1.2 1 _ rfl, hS.2.2.2.2.1.2 0 _ rfl, hS.2.2.2.2.1.2 1 _ rfl, hS.2.2.2.2.2.2 0 _ rfl, hS.2.2.2.2.2.2 1 _ rfl⟩ : _ ∧ _ ∧ _ ∧ _ ∧ _ ∧ _ ∧ _ ∧ _ ∧ _ ∧ _ ∧ _ ∧ _)
        clear hd hE
        try clear hS
        go_wp2
        exact Ext.refl _
      case ha => rfl
      apply wpLoose_val rfl rfl
      case hs =>
        intro w1 hC hd Q1 hQ1
        obtain ⟨hE, hS⟩ := hC
        dsimp only [bare]
        obtain ⟨q1, q2, q3, q4, q5, q6, q7, q8, q9, qa, qb, qc⟩ := (⟨hS.1.2 0 _ rfl, hS.1.2 1 _ rfl, hS.2.1.2 0 _ rfl, hS.2.1.2 1 _ rfl, hS.2.2.1.2 0 _ rfl, hS.2.2.1.2 1 _ rfl, hS.2.2.2.1.2 0 _ rfl, hS.2.2.2.1.2 1 _ rfl, hS.2.2.2.2.1.2 0 _ rfl, hS.2.2.2.2.1.2 1 _ rfl, hS.2.2.2.2.2.2 0 _ rfl, hS.2.2.2.2.2.2 1 _ rfl⟩ : _ ∧ _ ∧ _ ∧ _ ∧ _ ∧ _ ∧ _ ∧ _ ∧ _ ∧ _ ∧ _ ∧ _)
        clear hd hE
        try clear hS
        go_wp2
        exact Ext.refl _
      case ha => rfl
      apply wpLoose_val rfl rfl
      case hs =>
        intro w1 hC hd Q1 hQ1
        obtain ⟨hE, hS⟩ := hC
        dsimp only [bare]
        obtain ⟨q1, q2, q3, q4, q5, q6, q7, q8, q9, qa, qb, qc⟩ := (⟨hS.1.2 0 _ rfl, hS.1.2 1 _ rfl, hS.2.1.2 0 _ rfl, hS.2.1.2 1 _ rfl, hS.2.2.1.2 0 _ rfl, hS.2.2.1.2 1 _ rfl, hS.2.2.2.1.2 0 _ rfl, hS.2.2.2.1.2 1 _ rfl, hS.2.2.2.2.1.2 0 _ rfl, hS.2.2.2.2.1.2 1 _ rfl, hS.2.2.2.2.2.2 0 _ rfl, hS.2.2.2.2.2.2 1 _ rfl⟩ : _ ∧ _ ∧ _ ∧ _ ∧ _ ∧ _ ∧ _ ∧ _ ∧ _ ∧ _ ∧ _ ∧ _)
        clear hd hE
        try clear hS
        go_wp2
        exact Ext.refl _
      case ha => rfl
      apply wpLoose_val rfl rfl
      case hs =>
        intro w1 hC hd Q1 hQ1
        obtain ⟨hE, hS⟩ := hC
        dsimp only [bare]
        obtain ⟨q1, q2, q3, q4, q5, q6, q7, q8, q9, qa, qb, qc⟩ := (⟨hS.1.2 0 _ rfl, hS.1.2 1 _ rfl, hS.2.1.2 0 _ rfl, hS.2.1.2 1 _ rfl, hS.2.2.1.2 0 _ rfl, hS.2.2.1.2 1 _ rfl, hS.2.2.2.1.2 0 _ rfl, hS.2.2.2.1.2 1 _ rfl, hS.2.2.2.2.1.2 0 _ rfl, hS.2.2.2.2.1.2 1 _ rfl, hS.2.2.2.2.2.2 0 _ rfl, hS.2.2.2.2.2.2 1 _ rfl⟩ : _ ∧ _ ∧ _ ∧ _ ∧ _ ∧ _ ∧ _ ∧ _ ∧ _ ∧ _ ∧ _ ∧ _)
        clear hd hE
        try clear hS
        go_wp2
        exact Ext.refl _
      case ha => rfl
      apply wpLoose_val rfl rfl
      case hs =>
        intro w1 hC hd Q1 hQ1
        obtain ⟨hE, hS⟩ := hC
        dsimp only [bare]
        obtain ⟨q1, q2, q3, q4, q5, q6, q7, q8, q9, qa, qb, qc⟩ := (⟨hS.1.2 0 _ rfl, hS.1.2 1 _ rfl, hS.2.1.2 0 _ rfl, hS.2.1.2 1 _ rfl, hS.2.2.1.2 0 _ rfl, hS.2.2.1.2 1 _ rfl, hS.2.2.2.1.2 0 _ rfl, hS.2.2.2.1.2 1 _ rfl, hS.2.2.2.2.1.2 0 _ rfl, hS.2.2.2.2.1.2 1 _ rfl, hS.2.2.2.2.2.2 0 _ rfl, hS.2.2.2.2.2.2 1 _ rfl⟩ : _ ∧ _ ∧ _ ∧ _ ∧ _ ∧ _ ∧ _ ∧ _ ∧ _ ∧ _ ∧ _ ∧ _)
        clear hd hE
        try clear hS
        go_wp2
        exact Ext.refl _
      case ha => rfl
      apply wpLoose_val rfl rfl
      case hs =>
        intro w1 hC hd Q1 hQ1
        obtain ⟨hE, hS⟩ := hC
        dsimp only [bare]
        obtain ⟨q1, q2, q3, q4, q5, q6, q7, q8, q9, qa, qb, qc⟩ := (⟨hS.1.2 0 _ rfl, hS.1.2 1 _ rfl, hS.2.1.2 0 _ rfl, hS.2.1.2 1 _ rfl, hS.2.2.1.2 0 _ rfl, hS.2.2.1.2 1 _ rfl, hS.2.2.2.1.2 0 _ rfl, hS.2.2.2.1.2 1 _ rfl, hS.2.2.2.2.1.2 0 _ rfl, hS.2.2.2.2.1.2 1 _ rfl, hS.2.2.2.2.2.2 0 _ rfl, hS.2.2.2.2.2.2 1 _ rfl⟩ : _ ∧ _ ∧ _ ∧ _ ∧ _ ∧ _ ∧ _ ∧ _ ∧ _ ∧ _ ∧ _ ∧ _)
        clear hd hE
        try clear hS
        go_wp2
        exact Ext.refl _
      case ha => rfl
      apply wpLoose_val rfl rfl
      case hs =>
        intro w1 hC hd Q1 hQ1
        obtain ⟨hE, hS⟩ := hC
        dsimp only [bare]
        obtain ⟨q1, q2, q3, q4, q5, q6, q7, q8, q9, qa, qb, qc⟩ := (⟨hS.1.2 0 _ rfl, hS.1.2 1 _ rfl, hS.2.1.2 0 _ rfl, hS.2.1.2 1 _ rfl, hS.2.2.1.2 0 _ rfl, hS.2.2.1.2 1 _ rfl, hS.2.2.2.1.2 0 _ rfl, hS.2.2.2.1.2 1 _ rfl, hS.2.2.2.2.1.2 0 _ rfl, hS.2.2.2.2.1.2 1 _ rfl, hS.2.2.2.2.2.2 0 _ rfl, hS.2.2.2.2.2.2 1 _ rfl⟩ : _ ∧ _ ∧ _ ∧ _ ∧ _ ∧ _ ∧ _ ∧ _ ∧ _ ∧ _ ∧ _ ∧ _)
        clear hd hE
        try clear hS
        go_wp2
        exact Ext.refl _
      case ha => rfl
      apply wpLoose_val rfl rfl
      case hs =>
        intro w1 hC hd Q1 hQ1
        obtain ⟨hE, hS⟩ := hC
        dsimp only [bare]
        obtain ⟨q1, q2, q3, q4, q5, q6, q7, q8, q9, qa, qb, qc⟩ := (⟨hS.1.2 0 _ rfl, hS.1.2 1 _ rfl, hS.2.1.2 0 _ rfl, hS.2.1.2 1 _ rfl, hS.2.2.1.2 0 _ rfl, hS.2.2.1.2 1 _ rfl, hS.2.2.2.1.2 0 _ rfl, hS.2.2.2.1.2 1 _ rfl, hS.2.2.2.2.1.2 0 _ rfl, hS.2.2.2.2.1.2 1 _ rfl, hS.2.2.2.2.2.2 0 _ rfl, hS.2.2.2.2.2.2 1 _ rfl⟩ : _ ∧ _ ∧ _ ∧ _ ∧ _ ∧ _ ∧ _ ∧ _ ∧ _ ∧ _ ∧ _ ∧ _)
        clear hd hE
        try clear hS
        go_wp2
        exact Ext.refl _
      case ha => rfl
      apply wpLoose_val rfl rfl
      case hs =>
        intro w1 hC hd Q1 hQ1
        obtain ⟨hE, hS⟩ := hC
        dsimp only [bare]
        obtain ⟨q1, q2, q3, q4, q5, q6, q7, q8, q9, qa, qb, qc⟩ := (⟨hS.1.2 0 _ rfl, hS.1.2 1 _ rfl, hS.2.1.2 0 _ rfl, hS.2.1.2 1 _ rfl, hS.2.2.1.2 0 _ rfl, hS.2.2.1.2 1 _ rfl, hS.2.2.2.1.2 0 _ rfl, hS.2.2.2.1.2 1 _ rfl, hS.2.2.2.2.1.2 0 _ rfl, hS.2.2.2.2.1.2 1 _ rfl, hS.2.2.2.2.2.2 0 _ rfl, hS.2.2.2.2.2.2 1 _ rfl⟩ : _ ∧ _ ∧ _ ∧ _ ∧ _ ∧ _ ∧ _ ∧ _ ∧ _ ∧ _ ∧ _ ∧ _)
        clear hd hE
        try clear hS
        go_wp2
        exact Ext.refl _
      case ha => rfl
      apply wpLoose_val rfl rfl
      case hs =>
        intro w1 hC hd Q1 hQ1
        obtain ⟨hE, hS⟩ := hC
        dsimp only [bare]
        obtain ⟨q1, q2, q3, q4, q5, q6, q7, q8, q9, qa, qb, qc⟩ := (⟨hS.1.2 0 _ rfl, hS.1.2 1 _ rfl, hS.2.1.2 0 _ rfl, hS.2.1.2 1 _ rfl, hS.2.2.1.2 0 _ rfl, hS.2.2.1.2 1 _ rfl, hS.2.2.2.1.2 0 _ rfl, hS.2.2.2.1.2 1 _ rfl, hS.2.2.2.2.1.2 0 _ rfl, hS.2.2.2.2.1.2 1 _ rfl, hS.2.2.2.2.2.2 0 _ rfl, hS.2.2.2.2.2.2 1 _ rfl⟩ : _ ∧ _ ∧ _ ∧ _ ∧ _ ∧ _ ∧ _ ∧ _ ∧ _ ∧ _ ∧ _ ∧ _)
        clear hd hE
        try clear hS
        go_wp2
        exact Ext.refl _
      case ha => rfl
      apply wpLoose_val rfl rfl
      case hs =>
        intro w1 hC hd Q1 hQ1
        obtain ⟨hE, hS⟩ := hC
        dsimp only [bare]
        obtain ⟨q1, q2, q3, q4, q5, q6, q7, q8, q9, qa, qb, qc⟩ := (⟨hS.1.2 0 _ rfl, hS.1.2 1 _ rfl, hS.2.1.2 0 _ rfl, hS.2.1.2 1 _ rfl, hS.2.2.1.2 0 _ rfl, hS.2.2.1.2 1 _ rfl, hS.2.2.2.1.2 0 _ rfl, hS.2.2.2.1.2 1 _ rfl, hS.2.2.2.2.1.2 0 _ rfl, hS.2.2.2.2.1.2 1 _ rfl, hS.2.2.2.2.2.2 0 _ rfl, hS.2.2.2.2.2.2 1 _ rfl⟩ : _ ∧ _ ∧ _ ∧ _ ∧ _ ∧ _ ∧ _ ∧ _ ∧ _ ∧ _ ∧ _ ∧ _)
        clear hd hE
        try clear hS
        go_wp2
        exact Ext.refl _
      case ha => rfl
      apply wpLoose_val rfl rfl
      case hs =>
        intro w1 hC hd Q1 hQ1
        obtain ⟨hE, hS⟩ := hC
        dsimp only [bare]
        obtain ⟨q1, q2, q3, q4, q5, q6, q7, q8, q9, qa, qb, qc⟩ := (⟨hS.1.2 0 _ rfl, hS.1.2 1 _ rfl, hS.2.1.2 0 _ rfl, hS.2.1.2 1 _ rfl, hS.2.2.1.2 0 _ rfl, hS.2.2.1.2 1 _ rfl, hS.2.2.2.1.2 0 _ rfl, hS.2.2.2.1.2 1 _ rfl, hS.2.2.2.2.1.2 0 _ rfl, hS.2.2.2.2.1.2 1 _ rfl, hS.2.2.2.2.2.2 0 _ rfl, hS.2.2.2.2.2.2 1 _ rfl⟩ : _ ∧ _ ∧ _ ∧ _ ∧ _ ∧ _ ∧ _ ∧ _ ∧ _ ∧ _ ∧ _ ∧ _)
        clear hd hE
        try clear hS
        go_wp2
        exact Ext.refl _
      case ha => rfl
      apply wpLoose_val rfl rfl
      case hs =>
        intro w1 hC hd Q1 hQ1
        obtain ⟨hE, hS⟩ := hC
        dsimp only [bare]
        obtain ⟨q1, q2, q3, q4, q5, q6, q7, q8, q9, qa, qb, qc⟩ := (⟨hS.1.2 0 _ rfl, hS.1.2 1 _ rfl, hS.2.1.2 0 _ rfl, hS.2.1.2 1 _ rfl, hS.2.2.1.2 0 _ rfl, hS.2.2.1.2 1 _ rfl, hS.2.2.2.1.2 0 _ rfl, hS.2.2.2.1.2 1 _ rfl, hS.2.2.2.2.1.2 0 _ rfl, hS.2.2.2.2.1.2 1 _ rfl, hS.2.2.2.2.2.2 0 _ rfl, hS.2.2.2.2.2.2 1 _ rfl⟩ : _ ∧ _ ∧ _ ∧ _ ∧ _ ∧ _ ∧ _ ∧ _ ∧ _ ∧ _ ∧ _ ∧ _)
        clear hd hE
        try clear hS
        go_wp2
        exact Ext.refl _
      case ha => rfl
      apply wpLoose_val rfl rfl
      case hs =>
        intro w1 hC hd Q1 hQ1
        obtain ⟨hE, hS⟩ := hC
        dsimp only [bare]
        obtain ⟨q1, q2, q3, q4, q5, q6, q7, q8, q9, qa, qb, qc⟩ := (⟨hS.1.2 0 _ rfl, hS.1.2 1 _ rfl, hS.2.1.2 0 _ rfl, hS.2.1.2 1 _ rfl, hS.2.2.1.2 0 _ rfl, hS.2.2.1.2 1 _ rfl, hS.2.2.2.1.2 0 _ rfl, hS.2.2.2.1.2 1 _ rfl, hS.2.2.2.2.1.2 0 _ rfl, hS.2.2.2.2.1.2 1 _ rfl, hS.2.2.2.2.2.2 0 _ rfl, hS.2.2.2.2.2.2 1 _ rfl⟩ : _ ∧ _ ∧ _ ∧ _ ∧ _ ∧ _ ∧ _ ∧ _ ∧ _ ∧ _ ∧ _ ∧ _)
        clear hd hE
        try clear hS
        go_wp2
        exact Ext.refl _
      case ha => rfl
      apply wpLoose_val rfl rfl
      case hs =>
        intro w1 hC hd Q1 hQ1
        obtain ⟨hE, hS⟩ := hC
        dsimp only [bare]
        obtain ⟨q1, q2, q3, q4, q5, q6, q7, q8, q9, qa, qb, qc⟩ := (⟨hS.1.2 0 _ rfl, hS.1.2 1 _ rfl, hS.2.1.2 0 _ rfl, hS.2.1.2 1 _ rfl, hS.2.2.1.2 0 _ rfl, hS.2.2.1.2 1 _ rfl, hS.2.2.2.1.2 0 _ rfl, hS.2.2.2.1.2 1 _ rfl, hS.2.2.2.2.1.2 0 _ rfl, hS.2.2.2.2.1.2 1 _ rfl, hS.2.2.2.2.2.2 0 _ rfl, hS.2.2.2.2.2.2 1 _ rfl⟩ : _ ∧ _ ∧ _ ∧ _ ∧ _ ∧ _ ∧ _ ∧ _ ∧ _ ∧ _ ∧ _ ∧ _)
        clear hd hE
        try clear hS
        go_wp2
        exact Ext.refl _
      case ha => rfl
      apply wpLoose_val rfl rfl
      case hs =>
        intro w1 hC hd Q1 hQ1
        obtain ⟨hE, hS⟩ := hC
        dsimp only [bare]
        clear hd
        go_wp2_with fail
        refine (CBC.out _).mono ?_
        rintro e w2 ⟨rfl, hb⟩
        go_wp2_with fail
        exact hb
      case ha => rfl
      apply wpLoose_val rfl rfl
      case hs =>
        intro w1 hC hd Q1 hQ1
        obtain ⟨hE, hS⟩ := hC
        dsimp only [bare]
        obtain ⟨q1, q2, q3, q4, q5, q6, q7, q8, q9, qa, qb, qc⟩ := (⟨hS.1.2 0 _ rfl, hS.1.2 1 _ rfl, hS.2.1.2 0 _ rfl, hS.2.1.2 1 _ rfl, hS.2.2.1.2 0 _ rfl, hS.2.2.1.2 1 _ rfl, hS.2.2.2.1.2 0 _ rfl, hS.2.2.2.1.2 1 _ rfl, hS.2.2.2.2.1.2 0 _ rfl, hS.2.2.2.2.1.2 1 _ rfl, hS.2.2.2.2.2.2 0 _ rfl, hS.2.2.2.2.2.2 1 _ rfl⟩ : _ ∧ _ ∧ _ ∧ _ ∧ _ ∧ _ ∧ _ ∧ _ ∧ _ ∧ _ ∧ _ ∧ _)
        clear hd hE
        try clear hS
        go_wp2
        exact Ext.refl _
      case ha => rfl
      apply wpLoose_val rfl rfl
      case hs =>
        intro w1 hC hd Q1 hQ1
        obtain ⟨hE, hS⟩ := hC
        dsimp only [bare]
        obtain ⟨q1, q2, q3, q4, q5, q6, q7, q8, q9, qa, qb, qc⟩ := (⟨hS.1.2 0 _ rfl, hS.1.2 1 _ rfl, hS.2.1.2 0 _ rfl, hS.2.1.2 1 _ rfl, hS.2.2.1.2 0 _ rfl, hS.2.2.1.2 1 _ rfl, hS.2.2.2.1.2 0 _ rfl, hS.2.2.2.1.2 1 _ rfl, hS.2.2.2.2.1.2 0 _ rfl, hS.2.2.2.2.1.2 1 _ rfl, hS.2.2.2.2.2.2 0 _ rfl, hS.2.2.2.2.2.2 1 _ rfl⟩ : _ ∧ _ ∧ _ ∧ _ ∧ _ ∧ _ ∧ _ ∧ _ ∧ _ ∧ _ ∧ _ ∧ _)
        clear hd hE
        try clear hS
        go_wp2
        exact Ext.refl _
      case ha => rfl
      apply wpLoose_val rfl rfl
      case hs =>
        intro w1 hC hd Q1 hQ1
        obtain ⟨hE, hS⟩ := hC
        dsimp only [bare]
        obtain ⟨q1, q2, q3, q4, q5, q6, q7, q8, q9, qa, qb, qc⟩ := (⟨hS.1.2 0 _ rfl, hS.1.2 1 _ rfl, hS.2.1.2 0 _ rfl, hS.2.1.2 1 _ rfl, hS.2.2.1.2 0 _ rfl, hS.2.2.1.2 1 _ rfl, hS.2.2.2.1.2 0 _ rfl, hS.2.2.2.1.2 1 _ rfl, hS.2.2.2.2.1.2 0 _ rfl, hS.2.2.2.2.1.2 1 _ rfl, hS.2.2.2.2.2.2 0 _ rfl, hS.2.2.2.2.2.2 1 _ rfl⟩ : _ ∧ _ ∧ _ ∧ _ ∧ _ ∧ _ ∧ _ ∧ _ ∧ _ ∧ _ ∧ _ ∧ _)
        clear hd hE
        try clear hS
        go_wp2
        exact Ext.refl _
      case ha => rfl
      apply wpLoose_val rfl rfl
      case hs =>
        intro w1 hC hd Q1 hQ1
        obtain ⟨hE, hS⟩ := hC
        dsimp only [bare]
        obtain ⟨q1, q2, q3, q4, q5, q6, q7, q8, q9, qa, qb, qc⟩ := (⟨hS.1.2 0 _ rfl, hS.1.2 1 _ rfl, hS.2.1.2 0 _ rfl, hS.2.1.2 1 _ rfl, hS.2.2.1.2 0 _ rfl, hS.2.2.1.2 1 _ rfl, hS.2.2.2.1.2 0 _ rfl, hS.2.2.2.1.2 1 _ rfl, hS.2.2.2.2.1.2 0 _ rfl, hS.2.2.2.2.1.2 1 _ rfl, hS.2.2.2.2.2.2 0 _ rfl, hS.2.2.2.2.2.2 1 _ rfl⟩ : _ ∧ _ ∧ _ ∧ _ ∧ _ ∧ _ ∧ _ ∧ _ ∧ _ ∧ _ ∧ _ ∧ _)
        clear hd hE
        try clear hS
        go_wp2
        exact Ext.refl _
      case ha => rfl
      apply wpLoose_val rfl rfl
      case hs =>
        intro w1 hC hd Q1 hQ1
        obtain ⟨hE, hS⟩ := hC
        dsimp only [bare]
        obtain ⟨q1, q2, q3, q4, q5, q6, q7, q8, q9, qa, qb, qc⟩ := (⟨hS.1.2 0 _ rfl, hS.1.2 1 _ rfl, hS.2.1.2 0 _ rfl, hS.2.1.2 1 _ rfl, hS.2.2.1.2 0 _ rfl, hS.2.2.1.2 1 _ rfl, hS.2.2.2.1.2 0 _ rfl, hS.2.2.2.1.2 1 _ rfl, hS.2.2.2.2.1.2 0 _ rfl, hS.2.2.2.2.1.2 1 _ rfl, hS.2.2.2.2.2.2 0 _ rfl, hS.2.2.2.2.2.2 1 _ rfl⟩ : _ ∧ _ ∧ _ ∧ _ ∧ _ ∧ _ ∧ _ ∧ _ ∧ _ ∧ _ ∧ _ ∧ _)
        clear hd hE
        try clear hS
        go_wp2
        exact Ext.refl _
      case ha => rfl
      apply wpLoose_val rfl rfl
      case hs =>
        intro w1 hC hd Q1 hQ1
        obtain ⟨hE, hS⟩ := hC
        dsimp only [bare]
        clear hd
        go_wp2_with fail
        refine (CAC.out _).mono ?_
        rintro e w2 ⟨rfl, hb⟩
        go_wp2_with fail
        exact hb
      case ha => rfl
      apply wpLoose_val rfl rfl
      case hs =>
        intro w1 hC hd Q1 hQ1
        obtain ⟨hE, hS⟩ := hC
        dsimp only [bare]
        obtain ⟨q1, q2, q3, q4, q5, q6, q7, q8, q9, qa, qb, qc⟩ := (⟨hS.1.2 0 _ rfl, hS.1.2 1 _ rfl, hS.2.1.2 0 _ rfl, hS.2.1.2 1 _ rfl, hS.2.2.1.2 0 _ rfl, hS.2.2.1.2 1 _ rfl, hS.2.2.2.1.2 0 _ rfl, hS.2.2.2.1.2 1 _ rfl, hS.2.2.2.2.1.2 0 _ rfl, hS.2.2.2.2.1.2 1 _ rfl, hS.2.2.2.2.2.2 0 _ rfl, hS.2.2.2.2.2.2 1 _ rfl⟩ : _ ∧ _ ∧ _ ∧ _ ∧ _ ∧ _ ∧ _ ∧ _ ∧ _ ∧ _ ∧ _ ∧ _)
        clear hd hE
        try clear hS
        go_wp2
        exact Ext.refl _
      case ha => rfl
      apply wpLoose_val rfl rfl
      case hs =>
        intro w1 hC hd Q1 hQ1
        obtain ⟨hE, hS⟩ := hC
        dsimp only [bare]
        obtain ⟨q1, q2, q3, q4, q5, q6, q7, q8, q9, qa, qb, qc⟩ := (⟨hS.1.2 0 _ rfl, hS.1.2 1 _ rfl, hS.2.1.2 0 _ rfl, hS.2.1.2 1 _ rfl, hS.2.2.1.2 0 _ rfl, hS.2.2.1.2 1 _ rfl, hS.2.2.2.1.2 0 _ rfl, hS.2.2.2.1.2 1 _ rfl, hS.2.2.2.2.1.2 0 _ rfl, hS.2.2.2.2.1.2 1 _ rfl, hS.2.2.2.2.2.2 0 _ rfl, hS.2.2.2.2.2.2 1 _ rfl⟩ : _ ∧ _ ∧ _ ∧ _ ∧ _ ∧ _ ∧ _ ∧ _ ∧ _ ∧ _ ∧ _ ∧ _)
        clear hd hE
        try clear hS
        go_wp2
        exact Ext.refl _
      case ha => rfl
      apply wpLoose_val rfl rfl
      case hs =>
        intro w1 hC hd Q1 hQ1
        obtain ⟨hE, hS⟩ := hC
        dsimp only [bare]
        obtain ⟨q1, q2, q3, q4, q5, q6, q7, q8, q9, qa, qb, qc⟩ := (⟨hS.1.2 0 _ rfl, hS.1.2 1 _ rfl, hS.2.1.2 0 _ rfl, hS.2.1.2 1 _ rfl, hS.2.2.1.2 0 _ rfl, hS.2.2.1.2 1 _ rfl, hS.2.2.2.1.2 0 _ rfl, hS.2.2.2.1.2 1 _ rfl, hS.2.2.2.2.1.2 0 _ rfl, hS.2.2.2.2.1.2 1 _ rfl, hS.2.2.2.2.2.2 0 _ rfl, hS.2.2.2.2.2.2 1 _ rfl⟩ : _ ∧ _ ∧ _ ∧ _ ∧ _ ∧ _ ∧ _ ∧ _ ∧ _ ∧ _ ∧ _ ∧ _)
        clear hd hE
        try clear hS
        go_wp2
        exact Ext.refl _
      case ha => rfl
      apply wpLoose_val rfl rfl
      case hs =>
        intro w1 hC hd Q1 hQ1
        obtain ⟨hE, hS⟩ := hC
        dsimp only [bare]
        obtain ⟨q1, q2, q3, q4, q5, q6, q7, q8, q9, qa, qb, qc⟩ := (⟨hS.1.2 0 _ rfl, hS.1.2 1 _ rfl, hS.2.1.2 0 _ rfl, hS.2.1.2 1 _ rfl, hS.2.2.1.2 0 _ rfl, hS.2.2.1.2 1 _ rfl, hS.2.2.2.1.2 0 _ rfl, hS.2.2.2.1.2 1 _ rfl, hS.2.2.2.2.1.2 0 _ rfl, hS.2.2.2.2.1.2 1 _ rfl, hS.2.2.2.2.2.2 0 _ rfl, hS.2.2.2.2.2.2 1 _ rfl⟩ : _ ∧ _ ∧ _ ∧ _ ∧ _ ∧ _ ∧ _ ∧ _ ∧ _ ∧ _ ∧ _ ∧ _)
        clear hd hE
        try clear hS
        go_wp2
        exact Ext.refl _
      case ha => rfl
      apply wpLoose_val rfl rfl
      case hs =>
        intro w1 hC hd Q1 hQ1
        obtain ⟨hE, hS⟩ := hC
        dsimp only [bare]
        obtain ⟨q1, q2, q3, q4, q5, q6, q7, q8, q9, qa, qb, qc⟩ := (⟨hS.1.2 0 _ rfl, hS.1.2 1 _ rfl, hS.2.1.2 0 _ rfl, hS.2.1.2 1 _ rfl, hS.2.2.1.2 0 _ rfl, hS.2.2.1.2 1 _ rfl, hS.2.2.2.1.2 0 _ rfl, hS.2.2.2.1.2 1 _ rfl, hS.2.2.2.2.1.2 0 _ rfl, hS.2.2.2.2.1.2 1 _ rfl, hS.2.2.2.2.2.2 0 _ rfl, hS.2.2.2.2.2.2 1 _ rfl⟩ : _ ∧ _ ∧ _ ∧ _ ∧ _ ∧ _ ∧ _ ∧ _ ∧ _ ∧ _ ∧ _ ∧ _)
        clear hd hE
        try clear hS
        go_wp2
        exact Ext.refl _
      case ha => rfl
      apply wpLoose_val rfl rfl
      case hs =>
        intro w1 hC hd Q1 hQ1
        obtain ⟨hE, hS⟩ := hC
        dsimp only [bare]
        obtain ⟨q1, q2, q3, q4, q5, q6, q7, q8, q9, qa, qb, qc⟩ := (⟨hS.1.2 0 _ rfl, hS.1.2 1 _ rfl, hS.2.1.2 0 _ rfl, hS.2.1.2 1 _ rfl, hS.2.2.1.2 0 _ rfl, hS.2.2.1.2 1 _ rfl, hS.2.2.2.1.2 0 _ rfl, hS.2.2.2.1.2 1 _ rfl, hS.2.2.2.2.1.2 0 _ rfl, hS.2.2.2.2.1.2 1 _ rfl, hS.2.2.2.2.2.2 0 _ rfl, hS.2.2.2.2.2.2 1 _ rfl⟩ : _ ∧ _ ∧ _ ∧ _ ∧ _ ∧ _ ∧ _ ∧ _ ∧ _ ∧ _ ∧ _ ∧ _)
        clear hd hE
        try clear hS
        go_wp2
        exact Ext.refl _
      case ha => rfl
      apply wpLoose_val rfl rfl
      case hs =>
        intro w1 hC hd Q1 hQ1
        obtain ⟨hE, hS⟩ := hC
        dsimp only [bare]
        obtain ⟨q1, q2, q3, q4, q5, q6, q7, q8, q9, qa, qb, qc⟩ := (⟨hS.1.2 0 _ rfl, hS.1.2 1 _ rfl, hS.2.1.2 0 _ rfl, hS.2.1.2 1 _ rfl, hS.2.2.1.2 0 _ rfl, hS.2.2.1.2 1 _ rfl, hS.2.2.2.1.2 0 _ rfl, hS.2.2.2.1.2 1 _ rfl, hS.2.2.2.2.1.2 0 _ rfl, hS.2.2.2.2.1.2 1 _ rfl, hS.2.2.2.2.2.2 0 _ rfl, hS.2.2.2.2.2.2 1 _ rfl⟩ : _ ∧ _ ∧ _ ∧ _ ∧ _ ∧ _ ∧ _ ∧ _ ∧ _ ∧ _ ∧ _ ∧ _)
        clear hd hE
        try clear hS
        go_wp2
        exact Ext.refl _
      case ha => rfl
      apply wpLoose_val rfl rfl
      case hs =>
        intro w1 hC hd Q1 hQ1
        obtain ⟨hE, hS⟩ := hC
        dsimp only [bare]
        clear hd
        go_wp2_with fail
        refine (NBA.out _).mono ?_
        rintro e w2 ⟨rfl, hb⟩
        go_wp2_with fail
        exact hb
      case ha => rfl
      apply wpLoose_val rfl rfl
      case hs =>
        intro w1 hC hd Q1 hQ1
        obtain ⟨hE, hS⟩ := hC
        dsimp only [bare]
        obtain ⟨q1, q2, q3, q4, q5, q6, q7, q8, q9, qa, qb, qc⟩ := (⟨hS.1.2 0 _ rfl, hS.1.2 1 _ rfl, hS.2.1.2 0 _ rfl, hS.2.1.2 1 _ rfl, hS.2.2.1.2 0 _ rfl, hS.2.2.1.2 1 _ rfl, hS.2.2.2.1.2 0 _ rfl, hS.2.2.2.1.2 1 _ rfl, hS.2.2.2.2.1.2 0 _ rfl, hS.2.2.2.2.1.2 1 _ rfl, hS.2.2.2.2.2.2 0 _ rfl, hS.2.2.2.2.2.2 1 _ rfl⟩ : _ ∧ _ ∧ _ ∧ _ ∧ _ ∧ _ ∧ _ ∧ _ ∧ _ ∧ _ ∧ _ ∧ _)
        clear hd hE
        try clear hS
        go_wp2
        exact Ext.refl _
      case ha => rfl
      apply wpLoose_val rfl rfl
      case hs =>
        intro w1 hC hd Q1 hQ1
        obtain ⟨hE, hS⟩ := hC
        dsimp only [bare]
        obtain ⟨q1, q2, q3, q4, q5, q6, q7, q8, q9, qa, qb, qc⟩ := (⟨hS.1.2 0 _ rfl, hS.1.2 1 _ rfl, hS.2.1.2 0 _ rfl, hS.2.1.2 1 _ rfl, hS.2.2.1.2 0 _ rfl, hS.2.2.1.2 1 _ rfl, hS.2.2.2.1.2 0 _ rfl, hS.2.2.2.1.2 1 _ rfl, hS.2.2.2.2.1.2 0 _ rfl, hS.2.2.2.2.1.2 1 _ rfl, hS.2.2.2.2.2.2 0 _ rfl, hS.2.2.2.2.2.2 1 _ rfl⟩ : _ ∧ _ ∧ _ ∧ _ ∧ _ ∧ _ ∧ _ ∧ _ ∧ _ ∧ _ ∧ _ ∧ _)
        clear hd hE
        try clear hS
        go_wp2
        exact Ext.refl _
      case ha => rfl
      apply wpLoose_val rfl rfl
      case hs =>
        intro w1 hC hd Q1 hQ1
        obtain ⟨hE, hS⟩ := hC
        dsimp only [bare]
        obtain ⟨q1, q2, q3, q4, q5, q6, q7, q8, q9, qa, qb, qc⟩ := (⟨hS.1.2 0 _ rfl, hS.1.2 1 _ rfl, hS.2.1.2 0 _ rfl, hS.2.1.2 1 _ rfl, hS.2.2.1.2 0 _ rfl, hS.2.2.1.2 1 _ rfl, hS.2.2.2.1.2 0 _ rfl, hS.2.2.2.1.2 1 _ rfl, hS.2.2.2.2.1.2 0 _ rfl, hS.2.2.2.2.1.2 1 _ rfl, hS.2.2.2.2.2.2 0 _ rfl, hS.2.2.2.2.2.2 1 _ rfl⟩ : _ ∧ _ ∧ _ ∧ _ ∧ _ ∧ _ ∧ _ ∧ _ ∧ _ ∧ _ ∧ _ ∧ _)
        clear hd hE
        try clear hS
        go_wp2
        exact Ext.refl _
      case ha => rfl
      apply wpLoose_val rfl rfl
      case hs =>
        intro w1 hC hd Q1 hQ1
        obtain ⟨hE, hS⟩ := hC
        dsimp only [bare]
        obtain ⟨q1, q2, q3, q4, q5, q6, q7, q8, q9, qa, qb, qc⟩ := (⟨hS.1.2 0 _ rfl, hS.1.2 1 _ rfl, hS.2.1.2 0 _ rfl, hS.2.1.2 1 _ rfl, hS.2.2.1.2 0 _ rfl, hS.2.2.1.2 1 _ rfl, hS.2.2.2.1.2 0 _ rfl, hS.2.2.2.1.2 1 _ rfl, hS.2.2.2.2.1.2 0 _ rfl, hS.2.2.2.2.1.2 1 _ rfl, hS.2.2.2.2.2.2 0 _ rfl, hS.2.2.2.2.2.2 1 _ rfl⟩ : _ ∧ _ ∧ _ ∧ _ ∧ _ ∧ _ ∧ _ ∧ _ ∧ _ ∧ _ ∧ _ ∧ _)
        clear hd hE
        try clear hS
        go_wp2
        exact Ext.refl _
      case ha => rfl
      apply wpLoose_val rfl rfl
      case hs =>
        intro w1 hC hd Q1 hQ1
        obtain ⟨hE, hS⟩ := hC
        dsimp only [bare]
        obtain ⟨q1, q2, q3, q4, q5, q6, q7, q8, q9, qa, qb, qc⟩ := (⟨hS.1.2 0 _ rfl, hS.1.2 1 _ rfl, hS.2.1.2 0 _ rfl, hS.2.1.2 1 _ rfl, hS.2.2.1.2 0 _ rfl, hS.2.2.1.2 1 _ rfl, hS.2.2.2.1.2 0 _ rfl, hS.2.2.2.1.2 1 _ rfl, hS.2.2.2.2.1.2 0 _ rfl, hS.2.2.2.2.1.2 1 _ rfl, hS.2.2.2.2.2.2 0 _ rfl, hS.2.2.2.2.2.2 1 _ rfl⟩ : _ ∧ _ ∧ _ ∧ _ ∧ _ ∧ _ ∧ _ ∧ _ ∧ _ ∧ _ ∧ _ ∧ _)
        clear hd hE
        try clear hS
        go_wp2
        exact Ext.refl _
      case ha => rfl
      apply wpLoose_val rfl rfl
      case hs =>
        intro w1 hC hd Q1 hQ1
        obtain ⟨hE, hS⟩ := hC
        dsimp only [bare]
        clear hd
        go_wp2_with fail
        refine (NMA.out _).mono ?_
        rintro e w2 ⟨rfl, hb⟩
        go_wp2_with fail
        exact hb
      case ha => rfl
      apply wpLoose_val rfl rfl
      case hs =>
        intro w1 hC hd Q1 hQ1
        obtain ⟨hE, hS⟩ := hC
        dsimp only [bare]
        obtain ⟨q1, q2, q3, q4, q5, q6, q7, q8, q9, qa, qb, qc⟩ := (⟨hS.1.2 0 _ rfl, hS.1.2 1 _ rfl, hS.2.1.2 0 _ rfl, hS.2.1.2 1 _ rfl, hS.2.2.1.2 0 _ rfl, hS.2.2.1.2 1 _ rfl, hS.2.2.2.1.2 0 _ rfl, hS.2.2.2.1.2 1 _ rfl, hS.2.2.2.2.1.2 0 _ rfl, hS.2.2.2.2.1.2 1 _ rfl, hS.2.2.2.2.2.2 0 _ rfl, hS.2.2.2.2.2.2 1 _ rfl⟩ : _ ∧ _ ∧ _ ∧ _ ∧ _ ∧ _ ∧ _ ∧ _ ∧ _ ∧ _ ∧ _ ∧ _)
        clear hd hE
        try clear hS
        go_wp2
        exact Ext.refl _
      case ha => rfl
      apply wpLoose_val rfl rfl
      case hs =>
        intro w1 hC hd Q1 hQ1
        obtain ⟨hE, hS⟩ := hC
        dsimp only [bare]
        obtain ⟨q1, q2, q3, q4, q5, q6, q7, q8, q9, qa, qb, qc⟩ := (⟨hS.1.2 0 _ rfl, hS.1.2 1 _ rfl, hS.2.1.2 0 _ rfl, hS.2.1.2 1 _ rfl, hS.2.2.1.2 0 _ rfl, hS.2.2.1.2 1 _ rfl, hS.2.2.2.1.2 0 _ rfl, hS.2.2.2.1.2 1 _ rfl, hS.2.2.2.2.1.2 0 _ rfl, hS.2.2.2.2.1.2 1 _ rfl, hS.2.2.2.2.2.2 0 _ rfl, hS.2.2.2.2.2.2 1 _ rfl⟩ : _ ∧ _ ∧ _ ∧ _ ∧ _ ∧ _ ∧ _ ∧ _ ∧ _ ∧ _ ∧ _ ∧ _)
        clear hd hE
        try clear hS
        go_wp2
        exact Ext.refl _
      case ha => rfl
      apply wpLoose_val rfl rfl
      case hs =>
        intro w1 hC hd Q1 hQ1
        obtain ⟨hE, hS⟩ := hC
        dsimp only [bare]
        obtain ⟨q1, q2, q3, q4, q5, q6, q7, q8, q9, qa, qb, qc⟩ := (⟨hS.1.2 0 _ rfl, hS.1.2 1 _ rfl, hS.2.1.2 0 _ rfl, hS.2.1.2 1 _ rfl, hS.2.2.1.2 0 _ rfl, hS.2.2.1.2 1 _ rfl, hS.2.2.2.1.2 0 _ rfl, hS.2.2.2.1.2 1 _ rfl, hS.2.2.2.2.1.2 0 _ rfl, hS.2.2.2.2.1.2 1 _ rfl, hS.2.2.2.2.2.2 0 _ rfl, hS.2.2.2.2.2.2 1 _ rfl⟩ : _ ∧ _ ∧ _ ∧ _ ∧ _ ∧ _ ∧ _ ∧ _ ∧ _ ∧ _ ∧ _ ∧ _)
        clear hd hE
        try clear hS
        go_wp2
        exact Ext.refl _
      case ha => rfl
      apply wpLoose_val rfl rfl
      case hs =>
        intro w1 hC hd Q1 hQ1
        obtain ⟨hE, hS⟩ := hC
        dsimp only [bare]
        obtain ⟨q1, q2, q3, q4, q5, q6, q7, q8, q9, qa, qb, qc⟩ := (⟨hS.1.2 0 _ rfl, hS.1.2 1 _ rfl, hS.2.1.2 0 _ rfl, hS.2.1.2 1 _ rfl, hS.2.2.1.2 0 _ rfl, hS.2.2.1.2 1 _ rfl, hS.2.2.2.1.2 0 _ rfl, hS.2.2.2.1.2 1 _ rfl, hS.2.2.2.2.1.2 0 _ rfl, hS.2.2.2.2.1.2 1 _ rfl, hS.2.2.2.2.2.2 0 _ rfl, hS.2.2.2.2.2.2 1 _ rfl⟩ : _ ∧ _ ∧ _ ∧ _ ∧ _ ∧ _ ∧ _ ∧ _ ∧ _ ∧ _ ∧ _ ∧ _)
        clear hd hE
        try clear hS
        go_wp2
        exact Ext.refl _
      case ha => rfl
      apply wpLoose_val rfl rfl
      case hs =>
        intro w1 hC hd Q1 hQ1
        obtain ⟨hE, hS⟩ := hC
        dsimp only [bare]
        obtain ⟨q1, q2, q3, q4, q5, q6, q7, q8, q9, qa, qb, qc⟩ := (⟨hS.1.2 0 _ rfl, hS.1.2 1 _ rfl, hS.2.1.2 0 _ rfl, hS.2.1.2 1 _ rfl, hS.2.2.1.2 0 _ rfl, hS.2.2.1.2 1 _ rfl, hS.2.2.2.1.2 0 _ rfl, hS.2.2.2.1.2 1 _ rfl, hS.2.2.2.2.1.2 0 _ rfl, hS.2.2.2.2.1.2 1 _ rfl, hS.2.2.2.2.2.2 0 _ rfl, hS.2.2.2.2.2.2 1 _ rfl⟩ : _ ∧ _ ∧ _ ∧ _ ∧ _ ∧ _ ∧ _ ∧ _ ∧ _ ∧ _ ∧ _ ∧ _)
        clear hd hE
        try clear hS
        go_wp2
        exact Ext.refl _
      case ha => rfl
      apply wpLoose_val rfl rfl
      case hs =>
        intro w1 hC hd Q1 hQ1
        obtain ⟨hE, hS⟩ := hC
        dsimp only [bare]
        obtain ⟨q1, q2, q3, q4, q5, q6, q7, q8, q9, qa, qb, qc⟩ := (⟨hS.1.2 0 _ rfl, hS.1.2 1 _ rfl, hS.2.1.2 0 _ rfl, hS.2.1.2 1 _ rfl, hS.2.2.1.2 0 _ rfl, hS.2.2.1.2 1 _ rfl, hS.2.2.2.1.2 0 _ rfl, hS.2.2.2.1.2 1 _ rfl, hS.2.2.2.2.1.2 0 _ rfl, hS.2.2.2.2.1.2 1 _ rfl, hS.2.2.2.2.2.2 0 _ rfl, hS.2.2.2.2.2.2 1 _ rfl⟩ : _ ∧ _ ∧ _ ∧ _ ∧ _ ∧ _ ∧ _ ∧ _ ∧ _ ∧ _ ∧ _ ∧ _)
        clear hd hE
        try clear hS
        go_wp2
        exact Ext.refl _
      case ha => rfl
      apply wpLoose_val rfl rfl
      case hs =>
        intro w1 hC hd Q1 hQ1
        obtain ⟨hE, hS⟩ := hC
        dsimp only [bare]
        clear hd
        go_wp2_with fail
        refine (CMA.out _).mono ?_
        rintro e w2 ⟨rfl, hb⟩
        go_wp2_with fail
        exact hb
      case ha => rfl
      apply wpLoose_val rfl rfl
      case hs =>
        intro w1 hC hd Q1 hQ1
        obtain ⟨hE, hS⟩ := hC
        dsimp only [bare]
        obtain ⟨q1, q2, q3, q4, q5, q6, q7, q8, q9, qa, qb, qc⟩ := (⟨hS.1.2 0 _ rfl, hS.1.2 1 _ rfl, hS.2.1.2 0 _ rfl, hS.2.1.2 1 _ rfl, hS.2.2.1.2 0 _ rfl, hS.2.2.1.2 1 _ rfl, hS.2.2.2.1.2 0 _ rfl, hS.2.2.2.1.2 1 _ rfl, hS.2.2.2.2.1.2 0 _ rfl, hS.2.2.2.2.1.2 1 _ rfl, hS.2.2.2.2.2.2 0 _ rfl, hS.2.2.2.2.2.2 1 _ rfl⟩ : _ ∧ _ ∧ _ ∧ _ ∧ _ ∧ _ ∧ _ ∧ _ ∧ _ ∧ _ ∧ _ ∧ _)
        clear hd hE
        try clear hS
        go_wp2
        exact Ext.refl _
      case ha => rfl
      apply wpLoose_val rfl rfl
      case hs =>
        intro w1 hC hd Q1 hQ1
        obtain ⟨hE, hS⟩ := hC
        dsimp only [bare]
        obtain ⟨q1, q2, q3, q4, q5, q6, q7, q8, q9, qa, qb, qc⟩ := (⟨hS.1.2 0 _ rfl, hS.1.2 1 _ rfl, hS.2.1.2 0 _ rfl, hS.2.1.2 1 _ rfl, hS.2.2.1.2 0 _ rfl, hS.2.2.1.2 1 _ rfl, hS.2.2.2.1.2 0 _ rfl, hS.2.2.2.1.2 1 _ rfl, hS.2.2.2.2.1.2 0 _ rfl, hS.2.2.2.2.1.2 1 _ rfl, hS.2.2.2.2.2.2 0 _ rfl, hS.2.2.2.2.2.2 1 _ rfl⟩ : _ ∧ _ ∧ _ ∧ _ ∧ _ ∧ _ ∧ _ ∧ _ ∧ _ ∧ _ ∧ _ ∧ _)
        clear hd hE
        try clear hS
        go_wp2
        exact Ext.refl _
      case ha => rfl
      apply wpLoose_val rfl rfl
      case hs =>
        intro w1 hC hd Q1 hQ1
        obtain ⟨hE, hS⟩ := hC
        dsimp only [bare]
        obtain ⟨q1, q2, q3, q4, q5, q6, q7, q8, q9, qa, qb, qc⟩ := (⟨hS.1.2 0 _ rfl, hS.1.2 1 _ rfl, hS.2.1.2 0 _ rfl, hS.2.1.2 1 _ rfl, hS.2.2.1.2 0 _ rfl, hS.2.2.1.2 1 _ rfl, hS.2.2.2.1.2 0 _ rfl, hS.2.2.2.1.2 1 _ rfl, hS.2.2.2.2.1.2 0 _ rfl, hS.2.2.2.2.1.2 1 _ rfl, hS.2.2.2.2.2.2 0 _ rfl, hS.2.2.2.2.2.2 1 _ rfl⟩ : _ ∧ _ ∧ _ ∧ _ ∧ _ ∧ _ ∧ _ ∧ _ ∧ _ ∧ _ ∧ _ ∧ _)
        clear hd hE
        try clear hS
        go_wp2
        exact Ext.refl _
      case ha => rfl
      apply wpLoose_val rfl rfl
      case hs =>
        intro w1 hC hd Q1 hQ1
        obtain ⟨hE, hS⟩ := hC
        dsimp only [bare]
        obtain ⟨q1, q2, q3, q4, q5, q6, q7, q8, q9, qa, qb, qc⟩ := (⟨hS.1.2 0 _ rfl, hS.1.2 1 _ rfl, hS.2.1.2 0 _ rfl, hS.2.1.2 1 _ rfl, hS.2.2.1.2 0 _ rfl, hS.2.2.1.2 1 _ rfl, hS.2.2.2.1.2 0 _ rfl, hS.2.2.2.1.2 1 _ rfl, hS.2.2.2.2.1.2 0 _ rfl, hS.2.2.2.2.1.2 1 _ rfl, hS.2.2.2.2.2.2 0 _ rfl, hS.2.2.2.2.2.2 1 _ rfl⟩ : _ ∧ _ ∧ _ ∧ _ ∧ _ ∧ _ ∧ _ ∧ _ ∧ _ ∧ _ ∧ _ ∧ _)
        clear hd hE
        try clear hS
        go_wp2
        exact Ext.refl _
      case ha => rfl
      apply wpLoose_val rfl rfl
      case hs =>
        intro w1 hC hd Q1 hQ1
        obtain ⟨hE, hS⟩ := hC
        dsimp only [bare]
        obtain ⟨q1, q2, q3, q4, q5, q6, q7, q8, q9, qa, qb, qc⟩ := (⟨hS.1.2 0 _ rfl, hS.1.2 1 _ rfl, hS.2.1.2 0 _ rfl, hS.2.1.2 1 _ rfl, hS.2.2.1.2 0 _ rfl, hS.2.2.1.2 1 _ rfl, hS.2.2.2.1.2 0 _ rfl, hS.2.2.2.1.2 1 _ rfl, hS.2.2.2.2.1.2 0 _ rfl, hS.2.2.2.2.1.2 1 _ rfl, hS.2.2.2.2.2.2 0 _ rfl, hS.2.2.2.2.2.2 1 _ rfl⟩ : _ ∧ _ ∧ _ ∧ _ ∧ _ ∧ _ ∧ _ ∧ _ ∧ _ ∧ _ ∧ _ ∧ _)
        clear hd hE
        try clear hS
        go_wp2
        exact Ext.refl _
      case ha => rfl
      apply wpLoose_val rfl rfl
      case hs =>
        intro w1 hC hd Q1 hQ1
        obtain ⟨hE, hS⟩ := hC
        dsimp only [bare]
        clear hd
        go_wp2_with fail
        refine (CUV.out _).mono ?_
        rintro e w2 ⟨rfl, hb⟩
        go_wp2_with fail
        exact hb
      case ha => rfl
      apply wpLoose_val rfl rfl
      case hs =>
        intro w1 hC hd Q1 hQ1
        obtain ⟨hE, hS⟩ := hC
        dsimp only [bare]
        obtain ⟨q1, q2, q3, q4, q5, q6, q7, q8, q9, qa, qb, qc⟩ := (⟨hS.1.2 0 _ rfl, hS.1.2 1 _ rfl, hS.2.1.2 0 _ rfl, hS.2.1.2 1 _ rfl, hS.2.2.1.2 0 _ rfl, hS.2.2.1.2 1 _ rfl, hS.2.2.2.1.2 0 _ rfl, hS.2.2.2.1.2 1 _ rfl, hS.2.2.2.2.1.2 0 _ rfl, hS.2.2.2.2.1.2 1 _ rfl, hS.2.2.2.2.2.2 0 _ rfl, hS.2.2.2.2.2.2 1 _ rfl⟩ : _ ∧ _ ∧ _ ∧ _ ∧ _ ∧ _ ∧ _ ∧ _ ∧ _ ∧ _ ∧ _ ∧ _)
        clear hd hE
        try clear hS
        go_wp2
        exact Ext.refl _
      case ha => rfl
      apply wpLoose_val rfl rfl
      case hs =>
        intro w1 hC hd Q1 hQ1
        obtain ⟨hE, hS⟩ := hC
        dsimp only [bare]
        obtain ⟨q1, q2, q3, q4, q5, q6, q7, q8, q9, qa, qb, qc⟩ := (⟨hS.1.2 0 _ rfl, hS.1.2 1 _ rfl, hS.2.1.2 0 _ rfl, hS.2.1.2 1 _ rfl, hS.2.2.1.2 0 _ rfl, hS.2.2.1.2 1 _ rfl, hS.2.2.2.1.2 0 _ rfl, hS.2.2.2.1.2 1 _ rfl, hS.2.2.2.2.1.2 0 _ rfl, hS.2.2.2.2.1.2 1 _ rfl, hS.2.2.2.2.2.2 0 _ rfl, hS.2.2.2.2.2.2 1 _ rfl⟩ : _ ∧ _ ∧ _ ∧ _ ∧ _ ∧ _ ∧ _ ∧ _ ∧ _ ∧ _ ∧ _ ∧ _)
        clear hd hE
        try clear hS
        go_wp2
        exact Ext.refl _
      case ha => rfl
      apply wpLoose_val rfl rfl
      case hs =>
        intro w1 hC hd Q1 hQ1
        obtain ⟨hE, hS⟩ := hC
        dsimp only [bare]
        clear hd
        go_wp2_with fail
        refine (SUV.out _).mono ?_
        rintro e w2 ⟨rfl, hb⟩
        go_wp2_with fail
        exact hb
      case ha => rfl
      apply wpLoose_val rfl rfl
      case hs =>
        intro w1 hC hd Q1 hQ1
        obtain ⟨hE, hS⟩ := hC
        dsimp only [bare]
        obtain ⟨q1, q2, q3, q4, q5, q6, q7, q8, q9, qa, qb, qc⟩ := (⟨hS.1.2 0 _ rfl, hS.1.2 1 _ rfl, hS.2.1.2 0 _ rfl, hS.2.1.2 1 _ rfl, hS.2.2.1.2 0 _ rfl, hS.2.2.1.2 1 _ rfl, hS.2.2.2.1.2 0 _ rfl, hS.2.2.2.1.2 1 _ rfl, hS.2.2.2.2.1.2 0 _ rfl, hS.2.2.2.2.1.2 1 _ rfl, hS.2.2.2.2.2.2 0 _ rfl, hS.2.2.2.2.2.2 1 _ rfl⟩ : _ ∧ _ ∧ _ ∧ _ ∧ _ ∧ _ ∧ _ ∧ _ ∧ _ ∧ _ ∧ _ ∧ _)
        clear hd hE
        try clear hS
        go_wp2
        exact Ext.refl _
      case ha => rfl
      apply wpLoose_val rfl rfl
      case hs =>
        intro w1 hC hd Q1 hQ1
        obtain ⟨hE, hS⟩ := hC
        dsimp only [bare]
        obtain ⟨q1, q2, q3, q4, q5, q6, q7, q8, q9, qa, qb, qc⟩ := (⟨hS.1.2 0 _ rfl, hS.1.2 1 _ rfl, hS.2.1.2 0 _ rfl, hS.2.1.2 1 _ rfl, hS.2.2.1.2 0 _ rfl, hS.2.2.1.2 1 _ rfl, hS.2.2.2.1.2 0 _ rfl, hS.2.2.2.1.2 1 _ rfl, hS.2.2.2.2.1.2 0 _ rfl, hS.2.2.2.2.1.2 1 _ rfl, hS.2.2.2.2.2.2 0 _ rfl, hS.2.2.2.2.2.2 1 _ rfl⟩ : _ ∧ _ ∧ _ ∧ _ ∧ _ ∧ _ ∧ _ ∧ _ ∧ _ ∧ _ ∧ _ ∧ _)
        clear hd hE
        try clear hS
        go_wp2
        exact Ext.refl _
      case ha => rfl
      apply wpLoose_val rfl rfl
      case hs =>
        intro w1 hC hd Q1 hQ1
        obtain ⟨hE, hS⟩ := hC
        dsimp only [bare]
        obtain ⟨q1, q2, q3, q4, q5, q6, q7, q8, q9, qa, qb, qc⟩ := (⟨hS.1.2 0 _ rfl, hS.1.2 1 _ rfl, hS.2.1.2 0 _ rfl, hS.2.1.2 1 _ rfl, hS.2.2.1.2 0 _ rfl, hS.2.2.1.2 1 _ rfl, hS.2.2.2.1.2 0 _ rfl, hS.2.2.2.1.2 1 _ rfl, hS.2.2.2.2.1.2 0 _ rfl, hS.2.2.2.2.1.2 1 _ rfl, hS.2.2.2.2.2.2 0 _ rfl, hS.2.2.2.2.2.2 1 _ rfl⟩ : _ ∧ _ ∧ _ ∧ _ ∧ _ ∧ _ ∧ _ ∧ _ ∧ _ ∧ _ ∧ _ ∧ _)
        clear hd hE
        try clear hS
        go_wp2
        exact Ext.refl _
      case ha => rfl
      apply wpLoose_val rfl rfl
      case hs =>
        intro w1 hC hd Q1 hQ1
        obtain ⟨hE, hS⟩ := hC
        dsimp only [bare]
        obtain ⟨q1, q2, q3, q4, q5, q6, q7, q8, q9, qa, qb, qc⟩ := (⟨hS.1.2 0 _ rfl, hS.1.2 1 _ rfl, hS.2.1.2 0 _ rfl, hS.2.1.2 1 _ rfl, hS.2.2.1.2 0 _ rfl, hS.2.2.1.2 1 _ rfl, hS.2.2.2.1.2 0 _ rfl, hS.2.2.2.1.2 1 _ rfl, hS.2.2.2.2.1.2 0 _ rfl, hS.2.2.2.2.1.2 1 _ rfl, hS.2.2.2.2.2.2 0 _ rfl, hS.2.2.2.2.2.2 1 _ rfl⟩ : _ ∧ _ ∧ _ ∧ _ ∧ _ ∧ _ ∧ _ ∧ _ ∧ _ ∧ _ ∧ _ ∧ _)
        clear hd hE
        try clear hS
        go_wp2
        exact Ext.refl _
      case ha => rfl
      apply wpLoose_val rfl rfl
      case hs =>
        intro w1 hC hd Q1 hQ1
        obtain ⟨hE, hS⟩ := hC
        dsimp only [bare]
        obtain ⟨q1, q2, q3, q4, q5, q6, q7, q8, q9, qa, qb, qc⟩ := (⟨hS.1.2 0 _ rfl, hS.1.2 1 _ rfl, hS.2.1.2 0 _ rfl, hS.2.1.2 1 _ rfl, hS.2.2.1.2 0 _ rfl, hS.2.2.1.2 1 _ rfl, hS.2.2.2.1.2 0 _ rfl, hS.2.2.2.1.2 1 _ rfl, hS.2.2.2.2.1.2 0 _ rfl, hS.2.2.2.2.1.2 1 _ rfl, hS.2.2.2.2.2.2 0 _ rfl, hS.2.2.2.2.2.2 1 _ rfl⟩ : _ ∧ _ ∧ _ ∧ _ ∧ _ ∧ _ ∧ _ ∧ _ ∧ _ ∧ _ ∧ _ ∧ _)
        clear hd hE
        try clear hS
        go_wp2
        exact Ext.refl _
      case ha => rfl
      apply wpLoose_val rfl rfl
      case hs =>
        intro w1 hC hd Q1 hQ1
        obtain ⟨hE, hS⟩ := hC
        dsimp only [bare]
        clear hd
        go_wp2_with fail
        refine (NUV.out _).mono ?_
        rintro e w2 ⟨rfl, hb⟩
        go_wp2_with fail
        exact hb
      case ha => rfl
      apply wpLoose_val rfl rfl
      case hs =>
        intro w1 hC hd Q1 hQ1
        obtain ⟨hE, hS⟩ := hC
        dsimp only [bare]
        obtain ⟨q1, q2, q3, q4, q5, q6, q7, q8, q9, qa, qb, qc⟩ := (⟨hS.1.2 0 _ rfl, hS.1.2 1 _ rfl, hS.2.1.2 0 _ rfl, hS.2.1.2 1 _ rfl, hS.2.2.1.2 0 _ rfl, hS.2.2.1.2 1 _ rfl, hS.2.2.2.1.2 0 _ rfl, hS.2.2.2.1.2 1 _ rfl, hS.2.2.2.2.1.2 0 _ rfl, hS.2.2.2.2.1.2 1 _ rfl, hS.2.2.2.2.2.2 0 _ rfl, hS.2.2.2.2.2.2 1 _ rfl⟩ : _ ∧ _ ∧ _ ∧ _ ∧ _ ∧ _ ∧ _ ∧ _ ∧ _ ∧ _ ∧ _ ∧ _)
        clear hd hE
        try clear hS
        go_wp2
        exact Ext.refl _
      case ha => rfl
      apply wpLoose_val rfl rfl
      case hs =>
        intro w1 hC hd Q1 hQ1
        obtain ⟨hE, hS⟩ := hC
        dsimp only [bare]
        obtain ⟨q1, q2, q3, q4, q5, q6, q7, q8, q9, qa, qb, qc⟩ := (⟨hS.1.2 0 _ rfl, hS.1.2 1 _ rfl, hS.2.1.2 0 _ rfl, hS.2.1.2 1 _ rfl, hS.2.2.1.2 0 _ rfl, hS.2.2.1.2 1 _ rfl, hS.2.2.2.1.2 0 _ rfl, hS.2.2.2.1.2 1 _ rfl, hS.2.2.2.2.1.2 0 _ rfl, hS.2.2.2.2.1.2 1 _ rfl, hS.2.2.2.2.2.2 0 _ rfl, hS.2.2.2.2.2.2 1 _ rfl⟩ : _ ∧ _ ∧ _ ∧ _ ∧ _ ∧ _ ∧ _ ∧ _ ∧ _ ∧ _ ∧ _ ∧ _)
        clear hd hE
        try clear hS
        go_wp2
        exact Ext.refl _
      case ha => rfl
      apply wpLoose_val rfl rfl
      case hs =>
        intro w1 hC hd Q1 hQ1
        obtain ⟨hE, hS⟩ := hC
        dsimp only [bare]
        clear hd
        go_wp2_with fail
        refine (SNUV.out _).mono ?_
        rintro e w2 ⟨rfl, hb⟩
        go_wp2_with fail
        exact hb
      case ha => rfl
      apply wpLoose_val rfl rfl
      case hs =>
        intro w1 hC hd Q1 hQ1
        obtain ⟨hE, hS⟩ := hC
        dsimp only [bare]
        obtain ⟨q1, q2, q3, q4, q5, q6, q7, q8, q9, qa, qb, qc⟩ := (⟨hS.1.2 0 _ rfl, hS.1.2 1 _ rfl, hS.2.1.2 0 _ rfl, hS.2.1.2 1 _ rfl, hS.2.2.1.2 0 _ rfl, hS.2.2.1.2 1 _ rfl, hS.2.2.2.1.2 0 _ rfl, hS.2.2.2.1.2 1 _ rfl, hS.2.2.2.2.1.2 0 _ rfl, hS.2.2.2.2.1.2 1 _ rfl, hS.2.2.2.2.2.2 0 _ rfl, hS.2.2.2.2.2.2 1 _ rfl⟩ : _ ∧ _ ∧ _ ∧ _ ∧ _ ∧ _ ∧ _ ∧ _ ∧ _ ∧ _ ∧ _ ∧ _)
        clear hd hE
        try clear hS
        go_wp2
        exact Ext.refl _
      case ha => rfl
      apply wpLoose_val rfl rfl
      case hs =>
        intro w1 hC hd Q1 hQ1
        obtain ⟨hE, hS⟩ := hC
        dsimp only [bare]
        obtain ⟨q1, q2, q3, q4, q5, q6, q7, q8, q9, qa, qb, qc⟩ := (⟨hS.1.2 0 _ rfl, hS.1.2 1 _ rfl, hS.2.1.2 0 _ rfl, hS.2.1.2 1 _ rfl, hS.2.2.1.2 0 _ rfl, hS.2.2.1.2 1 _ rfl, hS.2.2.2.1.2 0 _ rfl, hS.2.2.2.1.2 1 _ rfl, hS.2.2.2.2.1.2 0 _ rfl, hS.2.2.2.2.1.2 1 _ rfl, hS.2.2.2.2.2.2 0 _ rfl, hS.2.2.2.2.2.2 1 _ rfl⟩ : _ ∧ _ ∧ _ ∧ _ ∧ _ ∧ _ ∧ _ ∧ _ ∧ _ ∧ _ ∧ _ ∧ _)
        clear hd hE
        try clear hS
        go_wp2
        exact Ext.refl _
      case ha => rfl
      apply wpLoose_val rfl rfl
      case hs =>
        intro w1 hC hd Q1 hQ1
        obtain ⟨hE, hS⟩ := hC
        dsimp only [bare]
        obtain ⟨q1, q2, q3, q4, q5, q6, q7, q8, q9, qa, qb, qc⟩ := (⟨hS.1.2 0 _ rfl, hS.1.2 1 _ rfl, hS.2.1.2 0 _ rfl, hS.2.1.2 1 _ rfl, hS.2.2.1.2 0 _ rfl, hS.2.2.1.2 1 _ rfl, hS.2.2.2.1.2 0 _ rfl, hS.2.2.2.1.2 1 _ rfl, hS.2.2.2.2.1.2 0 _ rfl, hS.2.2.2.2.1.2 1 _ rfl, hS.2.2.2.2.2.2 0 _ rfl, hS.2.2.2.2.2.2 1 _ rfl⟩ : _ ∧ _ ∧ _ ∧ _ ∧ _ ∧ _ ∧ _ ∧ _ ∧ _ ∧ _ ∧ _ ∧ _)
        clear hd hE
        try clear hS
        go_wp2
        exact Ext.refl _
      case ha => rfl
      apply wpLoose_val rfl rfl
      case hs =>
        intro w1 hC hd Q1 hQ1
        obtain ⟨hE, hS⟩ := hC
        dsimp only [bare]
        obtain ⟨q1, q2, q3, q4, q5, q6, q7, q8, q9, qa, qb, qc⟩ := (⟨hS.1.2 0 _ rfl, hS.1.2 1 _ rfl, hS.2.1.2 0 _ rfl, hS.2.1.2 1 _ rfl, hS.2.2.1.2 0 _ rfl, hS.2.2.1.2 1 _ rfl, hS.2.2.2.1.2 0 _ rfl, hS.2.2.2.1.2 1 _ rfl, hS.2.2.2.2.1.2 0 _ rfl, hS.2.2.2.2.1.2 1 _ rfl, hS.2.2.2.2.2.2 0 _ rfl, hS.2.2.2.2.2.2 1 _ rfl⟩ : _ ∧ _ ∧ _ ∧ _ ∧ _ ∧ _ ∧ _ ∧ _ ∧ _ ∧ _ ∧ _ ∧ _)
        clear hd hE
        try clear hS
        go_wp2
        exact Ext.refl _
      case ha => rfl
      apply wpLoose_val rfl rfl
      case hs =>
        intro w1 hC hd Q1 hQ1
        obtain ⟨hE, hS⟩ := hC
        dsimp only [bare]
        clear hd
        go_wp2_with fail
        refine (WA.out _).mono ?_
        rintro e w2 ⟨rfl, hb⟩
        go_wp2_with fail
        exact hb
      case ha => rfl
      apply wpLoose_val rfl rfl
      case hs =>
        intro w1 hC hd Q1 hQ1
        obtain ⟨hE, hS⟩ := hC
        dsimp only [bare]
        obtain ⟨q1, q2, q3, q4, q5, q6, q7, q8, q9, qa, qb, qc⟩ := (⟨hS.1.2 0 _ rfl, hS.1.2 1 _ rfl, hS.2.1.2 0 _ rfl, hS.2.1.2 1 _ rfl, hS.2.2.1.2 0 _ rfl, hS.2.2.1.2 1 _ rfl, hS.2.2.2.1.2 0 _ rfl, hS.2.2.2.1.2 1 _ rfl, hS.2.2.2.2.1.2 0 _ rfl, hS.2.2.2.2.1.2 1 _ rfl, hS.2.2.2.2.2.2 0 _ rfl, hS.2.2.2.2.2.2 1 _ rfl⟩ : _ ∧ _ ∧ _ ∧ _ ∧ _ ∧ _ ∧ _ ∧ _ ∧ _ ∧ _ ∧ _ ∧ _)
        clear hd hE
        try clear hS
        go_wp2
        exact Ext.refl _
      case ha => rfl
      apply wpLoose_val rfl rfl
      case hs =>
        intro w1 hC hd Q1 hQ1
        obtain ⟨hE, hS⟩ := hC
        dsimp only [bare]
        obtain ⟨q1, q2, q3, q4, q5, q6, q7, q8, q9, qa, qb, qc⟩ := (⟨hS.1.2 0 _ rfl, hS.1.2 1 _ rfl, hS.2.1.2 0 _ rfl, hS.2.1.2 1 _ rfl, hS.2.2.1.2 0 _ rfl, hS.2.2.1.2 1 _ rfl, hS.2.2.2.1.2 0 _ rfl, hS.2.2.2.1.2 1 _ rfl, hS.2.2.2.2.1.2 0 _ rfl, hS.2.2.2.2.1.2 1 _ rfl, hS.2.2.2.2.2.2 0 _ rfl, hS.2.2.2.2.2.2 1 _ rfl⟩ : _ ∧ _ ∧ _ ∧ _ ∧ _ ∧ _ ∧ _ ∧ _ ∧ _ ∧ _ ∧ _ ∧ _)
        clear hd hE
        try clear hS
        go_wp2
        exact Ext.refl _
      case ha => rfl
      apply wpLoose_val rfl rfl
      case hs =>
        intro w1 hC hd Q1 hQ1
        obtain ⟨hE, hS⟩ := hC
        dsimp only [bare]
        obtain ⟨q1, q2, q3, q4, q5, q6, q7, q8, q9, qa, qb, qc⟩ := (⟨hS.1.2 0 _ rfl, hS.1.2 1 _ rfl, hS.2.1.2 0 _ rfl, hS.2.1.2 1 _ rfl, hS.2.2.1.2 0 _ rfl, hS.2.2.1.2 1 _ rfl, hS.2.2.2.1.2 0 _ rfl, hS.2.2.2.1.2 1 _ rfl, hS.2.2.2.2.1.2 0 _ rfl, hS.2.2.2.2.1.2 1 _ rfl, hS.2.2.2.2.2.2 0 _ rfl, hS.2.2.2.2.2.2 1 _ rfl⟩ : _ ∧ _ ∧ _ ∧ _ ∧ _ ∧ _ ∧ _ ∧ _ ∧ _ ∧ _ ∧ _ ∧ _)
        clear hd hE
        try clear hS
        go_wp2
        exact Ext.refl _
      case ha => rfl
      apply wpLoose_val rfl rfl
      case hs =>
        intro w1 hC hd Q1 hQ1
        obtain ⟨hE, hS⟩ := hC
        dsimp only [bare]
        clear hd
        go_wp2_with fail
        refine (WU.out _).mono ?_
        rintro e w2 ⟨rfl, hb⟩
        go_wp2_with fail
        exact hb
      case ha => rfl
      apply wpLoose_val rfl rfl
      case hs =>
        intro w1 hC hd Q1 hQ1
        obtain ⟨hE, hS⟩ := hC
        dsimp only [bare]
        obtain ⟨q1, q2, q3, q4, q5, q6, q7, q8, q9, qa, qb, qc⟩ := (⟨hS.1.2 0 _ rfl, hS.1.2 1 _ rfl, hS.2.1.2 0 _ rfl, hS.2.1.2 1 _ rfl, hS.2.2.1.2 0 _ rfl, hS.2.2.1.2 1 _ rfl, hS.2.2.2.1.2 0 _ rfl, hS.2.2.2.1.2 1 _ rfl, hS.2.2.2.2.1.2 0 _ rfl, hS.2.2.2.2.1.2 1 _ rfl, hS.2.2.2.2.2.2 0 _ rfl, hS.2.2.2.2.2.2 1 _ rfl⟩ : _ ∧ _ ∧ _ ∧ _ ∧ _ ∧ _ ∧ _ ∧ _ ∧ _ ∧ _ ∧ _ ∧ _)
        clear hd hE
        try clear hS
        go_wp2
        exact Ext.refl _
      case ha => rfl
      apply wpLoose_val rfl rfl
      case hs =>
        intro w1 hC hd Q1 hQ1
        obtain ⟨hE, hS⟩ := hC
        dsimp only [bare]
        clear hd
        go_wp2_with fail
        refine (SWU.out _).mono ?_
        rintro e w2 ⟨rfl, hb⟩
        go_wp2_with fail
        exact hb
      case ha => rfl
      apply wpLoose_val rfl rfl
      case hs =>
        intro w1 hC hd Q1 hQ1
        obtain ⟨hE, hS⟩ := hC
        dsimp only [bare]
        obtain ⟨q1, q2, q3, q4, q5, q6, q7, q8, q9, qa, qb, qc⟩ := (⟨hS.1.2 0 _ rfl, hS.1.2 1 _ rfl, hS.2.1.2 0 _ rfl, hS.2.1.2 1 _ rfl, hS.2.2.1.2 0 _ rfl, hS.2.2.1.2 1 _ rfl, hS.2.2.2.1.2 0 _ rfl, hS.2.2.2.1.2 1 _ rfl, hS.2.2.2.2.1.2 0 _ rfl, hS.2.2.2.2.1.2 1 _ rfl, hS.2.2.2.2.2.2 0 _ rfl, hS.2.2.2.2.2.2 1 _ rfl⟩ : _ ∧ _ ∧ _ ∧ _ ∧ _ ∧ _ ∧ _ ∧ _ ∧ _ ∧ _ ∧ _ ∧ _)
        clear hd hE
        try clear hS
        go_wp2
        exact Ext.refl _
      case ha => rfl
      apply wpLoose_val rfl rfl
      case hs =>
        intro w1 hC hd Q1 hQ1
        obtain ⟨hE, hS⟩ := hC
        dsimp only [bare]
        obtain ⟨q1, q2, q3, q4, q5, q6, q7, q8, q9, qa, qb, qc⟩ := (⟨hS.1.2 0 _ rfl, hS.1.2 1 _ rfl, hS.2.1.2 0 _ rfl, hS.2.1.2 1 _ rfl, hS.2.2.1.2 0 _ rfl, hS.2.2.1.2 1 _ rfl, hS.2.2.2.1.2 0 _ rfl, hS.2.2.2.1.2 1 _ rfl, hS.2.2.2.2.1.2 0 _ rfl, hS.2.2.2.2.1.2 1 _ rfl, hS.2.2.2.2.2.2 0 _ rfl, hS.2.2.2.2.2.2 1 _ rfl⟩ : _ ∧ _ ∧ _ ∧ _ ∧ _ ∧ _ ∧ _ ∧ _ ∧ _ ∧ _ ∧ _ ∧ _)
        clear hd hE
        try clear hS
        go_wp2
        exact Ext.refl _
      case ha => rfl
      apply wpLoose_val rfl rfl
      case hs =>
        intro w1 hC hd Q1 hQ1
        obtain ⟨hE, hS⟩ := hC
        dsimp only [bare]
        obtain ⟨q1, q2, q3, q4, q5, q6, q7, q8, q9, qa, qb, qc⟩ := (⟨hS.1.2 0 _ rfl, hS.1.2 1 _ rfl, hS.2.1.2 0 _ rfl, hS.2.1.2 1 _ rfl, hS.2.2.1.2 0 _ rfl, hS.2.2.1.2 1 _ rfl, hS.2.2.2.1.2 0 _ rfl, hS.2.2.2.1.2 1 _ rfl, hS.2.2.2.2.1.2 0 _ rfl, hS.2.2.2.2.1.2 1 _ rfl, hS.2.2.2.2.2.2 0 _ rfl, hS.2.2.2.2.2.2 1 _ rfl⟩ : _ ∧ _ ∧ _ ∧ _ ∧ _ ∧ _ ∧ _ ∧ _ ∧ _ ∧ _ ∧ _ ∧ _)
        clear hd hE
        try clear hS
        go_wp2
        exact Ext.refl _
      case ha => rfl
      refine wpLoose_nil ?_
      intro wz hEz hSz hFz
      have HX6 : Hid (Ext w wz) := HX5.out.drew.trans hEz
      clear hEz hSz hFz
      go_wp2
      go_ret
      exact ⟨rfl, HX6.out⟩
      case hAz => kernel_rfl
      case hlz => exact ⟨trivial, trivial, trivial, trivial, trivial, trivial, trivial, trivial, trivial, trivial, trivial, trivial, trivial, trivial, trivial, trivial, trivial, trivial, trivial, trivial, trivial, trivial, trivial, trivial, trivial, trivial, trivial, trivial, trivial, trivial, trivial, trivial, trivial, trivial, trivial, trivial, trivial, trivial, trivial, trivial, trivial, trivial, trivial, trivial, trivial, trivial, trivial, trivial, trivial, trivial, trivial, trivial, trivial, trivial, trivial, trivial, trivial, trivial, trivial, trivial, trivial, trivial, trivial, trivial, trivial, trivial, trivial, trivial, trivial, trivial, trivial, trivial, trivial, trivial, trivial, trivial, trivial, trivial, trivial, trivial, trivial⟩

set_option maxRecDepth 100000 in
theorem lifted (os : Os) (started : os.Started) (H : Type) (enc : TypeId × Value → H) :
    ReturnsInHanded {} Try.checked os 3 .any (Rows.fnWideSpec.pre6 enc Try.prog Try.f3 Rows.fnWideRow.domain false) (Rows.fnWideSpec.post enc Try.prog Try.f3 false true false false) := by
  refine returnsInHanded_of_change (C := Try.checked) own started (by kernel_rfl) Try.func3
    (ChangeSpec.witness6 (enc := enc) (C := Try.checked) false ⟨#[], #[.slice none 0 0], []⟩ 8 (by kernel_rfl) (by kernel_rfl) (by kernel_rfl) (by kernel_rfl)) ?_
  intro W base args ds gs before hval0 hW hcnd _
  have hval : ∀ (j : Nat) t v, Try.f3.params[j]? = some t → args[j]? = some v → Value.okWide Try.prog W .any base t v := hval0
  have hW' := hW
  obtain ⟨p, q, hA0, hV, rfl, hfz, hnd⟩ := hW
  have hA : DataW.TrodAll enc Try.prog W 0 (fun _ => true) true Try.f3.params.toList args.toList ds p := hA0
  rw [Try.params3] at hA hval
  obtain ⟨v0, vs0, d0, ds0, p0, q0, hargs, rfl, rfl, h0, r0⟩ := trodAll_cons hA
  obtain ⟨rfl, rfl, rfl⟩ := trodAll_nil r0
  obtain rfl : args = #[v0] := by cases args; simp_all
  obtain ⟨rfl, rfl⟩ := trodVars_none hV
  have lt0 : ∀ x ∈ p0, x.block < W.heap.size := by obtain ⟨m, hm⟩ := h0; exact DataW.trod_lt m _ _ _ hm
  obtain ⟨a0, len0, cap0, rfl⟩ := okWide_slice Try.underlying22 (hval 0 22 v0 rfl rfl)
  have raw0 : Raw W a0 len0 := by
    obtain ⟨fuel, hf⟩ := h0
    rcases open_ints Try.underlying22 Try.underlying5 (by kernel_rfl) hf with ⟨hcs, _⟩ | ⟨x, l, c, zs, hcs, _, hl, hm, hz, _, hcell, hwz⟩
    · simp [Value.cells] at hcs
      obtain ⟨rfl, rfl, rfl⟩ := hcs
      intro h; omega
    · simp [Value.cells] at hcs
      obtain ⟨rfl, rfl, rfl⟩ := hcs
      have hz' : zs.length = cap0 := by simpa using hz
      intro hpos
      obtain ⟨b, off, spot⟩ := x
      have hspot : spot = none := by simpa [Addr.add] using World.cell?_spot (hcell 0 (by omega))
      subst hspot
      refine ⟨b, off, rfl, fun j hj => ?_⟩
      have hj' : j < zs.length := by omega
      have hw := hwz _ (List.getElem_mem hj')
      have hb := bounds_u8 hw
      refine ⟨(zs[j]).toNat, by omega, ?_⟩
      have := hcell j hj'
      rw [Addr.add_lit] at this
      rw [this, List.getD_eq_getElem?_getD, List.getElem?_eq_getElem hj']
      simp only [Option.getD_some]
      congr 2
      omega
  clear hA0 hval0
  refine (walk a0 len0 cap0 W raw0).mono fun e W' ⟨he, bel⟩ => ?_
  subst he
  exact ⟨_, rfl, _, _, _, [], _, [], hW', trodAll_mk1 (shut_bool Try.underlying4 _), (trodAll_cons_mk (Below.trod laidOut (by kernel_rfl) (of_decide_eq_true (by kernel_rfl)) h0 bel lt0) trodAll_mk0), rfl, bel.frame _, fun h => by cases h⟩

end Go.Proofs.Ytkaepalnddebjaa.FnWide
namespace Go.Proofs.Ytkaepalnddebjaa
open Go.ChangeShapes Go.WideShapes Go.ChangeAt Go.RowKit

theorem fnWide : Rows.FnWideSaid :=
  OpenClaim.holds_of_wide 3 Try.f3 rfl rfl rfl rfl rfl rfl rfl ⟨rfl, rfl, rfl, rfl, rfl⟩ rfl rfl rfl rfl rfl (by kernel_rfl) Try.func3 (by kernel_rfl)
    (of_decide_eq_true (by kernel_rfl)) (by unfold Func.isWrapper; first | (rw [if_pos (by decide +kernel)]; kernel_rfl) | (rw [if_neg (by decide +kernel)]; exact ⟨rfl, rfl⟩))
    (fun os started H enc _ => FnWide.lifted os started H enc)
#print axioms fnWide
end Go.Proofs.Ytkaepalnddebjaa
