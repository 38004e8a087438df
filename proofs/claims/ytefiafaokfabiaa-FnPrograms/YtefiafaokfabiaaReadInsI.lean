/- What impl's ReadIns answers of seven bytes. -/
import Derived.Test.YtefiafaokfabiaaReadInsS
namespace Go.Proofs.Ytefiafaokfabiaa
open Go.RowKit
set_option linter.unusedVariables false

theorem cut4 (c0 c1 c2 c3 c4 c5 c6 : UInt8) : (⟨#[c0, c1, c2, c3, c4, c5, c6]⟩ : ByteArray).extract 3 7 = ⟨#[c3, c4, c5, c6]⟩ := by
  apply ByteArray.ext
  simp

set_option maxRecDepth 100000 in
set_option maxHeartbeats 1600000 in
theorem iReadIns_seven (c0 c1 c2 c3 c4 c5 c6 : UInt8) (x0 x1 x2 x3 x4 x5 x6 : Nat) (f : Nat → Nat) (z : Nat) (w : World)
    (g0 : c0.toNat = x0) (g1 : c1.toNat = x1) (g2 : c2.toNat = x2) (g3 : c3.toNat = x3) (g4 : c4.toNat = x4) (g5 : c5.toNat = x5) (g6 : c6.toNat = x6)
    (o0 : f 0 = 0) (oz : f 4 = z) (oo : ∀ j, j < 4 → bits .or .i64 ((f j : Int) * 256) (([x3, x4, x5, x6].getD j 0 : Nat) : Int) = (f (j + 1) : Int) ∧ f j < 16777216) :
    Calls Try.prog 17 #[.string ⟨#[c0, c1, c2, c3, c4, c5, c6]⟩] w fun e w' => (insB x0 z x1 x2 = true ∧ e = .returned (.tuple #[.agg #[.int .i64 x0, .int .i64 z, .int .i64 x1, .int .i64 x2], .bool true]) ∨ insB x0 z x1 x2 = false ∧ e = .returned (.tuple #[.agg #[.int .i64 0, .int .i64 0, .int .i64 0, .int .i64 0], .bool false])) ∧ Ext w w' := by
  have b0 : (x0 : Int) ≤ 255 := by have := c0.toNat_lt; omega
  have b1 : (x1 : Int) ≤ 255 := by have := c1.toNat_lt; omega
  have b2 : (x2 : Int) ≤ 255 := by have := c2.toNat_lt; omega
  have b3 : (x3 : Int) ≤ 255 := by have := c3.toNat_lt; omega
  have b4 : (x4 : Int) ≤ 255 := by have := c4.toNat_lt; omega
  have b5 : (x5 : Int) ≤ 255 := by have := c5.toNat_lt; omega
  have b6 : (x6 : Int) ≤ 255 := by have := c6.toNat_lt; omega
  have k0 : ∀ h, (((⟨#[c0, c1, c2, c3, c4, c5, c6]⟩ : ByteArray)[0]'h).toNat : Int) = x0 := fun _ => by rw [← g0]; rfl
  have k1 : ∀ h, (((⟨#[c0, c1, c2, c3, c4, c5, c6]⟩ : ByteArray)[1]'h).toNat : Int) = x1 := fun _ => by rw [← g1]; rfl
  have k2 : ∀ h, (((⟨#[c0, c1, c2, c3, c4, c5, c6]⟩ : ByteArray)[2]'h).toNat : Int) = x2 := fun _ => by rw [← g2]; rfl
  have HO : Hid (∀ j, j < 4 → bits .or .i64 ((f j : Int) * 256) (([x3, x4, x5, x6].getD j 0 : Nat) : Int) = (f (j + 1) : Int) ∧ f j < 16777216) := oo
  have HF : Hid (f 0 = 0 ∧ f 4 = z) := ⟨o0, oz⟩
  have hcut := cut4 c0 c1 c2 c3 c4 c5 c6
  have HL : Hid (∀ j b, [c3, c4, c5, c6][j]? = some b → b.toNat = [x3, x4, x5, x6].getD j 0) := by
    intro j b hb
    match j, hb with
    | 0, hb => simp at hb; subst hb; simpa using g3
    | 1, hb => simp at hb; subst hb; simpa using g4
    | 2, hb => simp at hb; subst hb; simpa using g5
    | 3, hb => simp at hb; subst hb; simpa using g6
    | n + 4, hb => simp at hb
  have HX : Hid (∀ j, [x3, x4, x5, x6].getD j 0 ≤ 255) := by
    intro j
    match j with
    | 0 => simp; omega
    | 1 => simp; omega
    | 2 => simp; omega
    | 3 => simp; omega
    | n + 4 => simp
  clear g0 g1 g2 g3 g4 g5 g6 oo o0 oz
  obtain ⟨w0, hw0⟩ : ∃ w0, w0 = w.alloc (.cells #[.int .i64 0, .int .i64 0, .int .i64 0, .int .i64 0] 32) := ⟨_, rfl⟩
  have r0 : Blk w0 w.heap.size (ints4 0 0 0 0) 32 := by rw [hw0]; exact Blk.new _ (ints4 0 0 0 0) _
  have E0 : Hid (Ext w w0) := by rw [hw0]; exact Ext.one _ _
  go_enter Try.func17, Try.ntmps17
  go_wp2_with fail
  rw [← hw0]
  clear hw0
  refine' wp_region_loose_tail 11 (.inl _ :: .inl _ :: .inl _ :: .inl _ :: .inl _ :: .inl _ :: .inl _ :: .inl _ :: .inl _ :: .inl _ :: .inr (fun v w' => ∃ g, v = .pointer (some ⟨g, 0, none⟩) ∧ w.heap.size < g ∧ Blk w' g (ints4 0 0 0 0) 32) :: []) (fun w' => Blk w' w.heap.size (ints4 0 0 0 0) 32) (by kernel_rfl) (by kernel_rfl) (r0) (fun _ _ h hE => h.ext hE) ?hAa ?hla ?hMa
  case' hMa => skip
  simp only [List.take_succ_cons, List.take_zero, List.drop_succ_cons, List.drop_zero]
  apply wpLoose_val rfl rfl
  case hs =>
    intro w1 hC hd Q1 hQ1
    obtain ⟨hE, hS⟩ := hC
    dsimp only [bare]
    skip
    clear hd hE
    try clear hS
    go_wp2
    exact Ext.refl _
  case ha => rfl
  apply wpLoose_val rfl rfl
  case hs =>
    intro w1 hC hd Q1 hQ1
    obtain ⟨hE, hS⟩ := hC
    dsimp only [bare]
    skip
    clear hd hE
    try clear hS
    go_wp2
    exact Ext.refl _
  case ha => rfl
  apply wpLoose_val rfl rfl
  case hs =>
    intro w1 hC hd Q1 hQ1
    obtain ⟨hE, hS⟩ := hC
    dsimp only [bare]
    skip
    clear hd hE
    try clear hS
    go_wp2
    exact Ext.refl _
  case ha => rfl
  apply wpLoose_val rfl rfl
  case hs =>
    intro w1 hC hd Q1 hQ1
    obtain ⟨hE, hS⟩ := hC
    dsimp only [bare]
    skip
    clear hd hE
    try clear hS
    go_wp2
    exact Ext.refl _
  case ha => rfl
  apply wpLoose_val rfl rfl
  case hs =>
    intro w1 hC hd Q1 hQ1
    obtain ⟨hE, hS⟩ := hC
    dsimp only [bare]
    skip
    clear hd hE
    try clear hS
    go_wp2
    exact Ext.refl _
  case ha => rfl
  apply wpLoose_val rfl rfl
  case hs =>
    intro w1 hC hd Q1 hQ1
    obtain ⟨hE, hS⟩ := hC
    dsimp only [bare]
    skip
    clear hd hE
    try clear hS
    go_wp2
    exact Ext.refl _
  case ha => rfl
  apply wpLoose_val rfl rfl
  case hs =>
    intro w1 hC hd Q1 hQ1
    obtain ⟨hE, hS⟩ := hC
    dsimp only [bare]
    skip
    clear hd hE
    try clear hS
    go_wp2
    exact Ext.refl _
  case ha => rfl
  apply wpLoose_val rfl rfl
  case hs =>
    intro w1 hC hd Q1 hQ1
    obtain ⟨hE, hS⟩ := hC
    dsimp only [bare]
    skip
    clear hd hE
    try clear hS
    go_wp2
    exact Ext.refl _
  case ha => rfl
  apply wpLoose_val rfl rfl
  case hs =>
    intro w1 hC hd Q1 hQ1
    obtain ⟨hE, hS⟩ := hC
    dsimp only [bare]
    skip
    clear hd hE
    try clear hS
    go_wp2
    exact Ext.refl _
  case ha => rfl
  apply wpLoose_val rfl rfl
  case hs =>
    intro w1 hC hd Q1 hQ1
    obtain ⟨hE, hS⟩ := hC
    dsimp only [bare]
    skip
    clear hd hE
    try clear hS
    go_wp2
    exact Ext.refl _
  case ha => rfl
  refine wpLoose_rel rfl rfl ?_ (fun va_10 => ?_)
  · intro w1 hC hd Q1 hQ1
    obtain ⟨hE, hS⟩ := hC
    dsimp only [bare]
    have hz := hS.lt
    clear hd hE hS
    go_wp2
    exact hQ1 _ _ (Ext.one _ _) ⟨_, rfl, hz, Blk.new _ (ints4 0 0 0 0) _⟩
  refine wpLoose_nil ?_
  intro wa hEa hSa hFa
  · obtain ⟨g, rfl, hg, bx⟩ := hFa 10 _ rfl (by decide) (by simp [Act.put])
    have E1 : Hid (Ext w wa) := E0.out.trans ((Ext.refl _).drew.trans hEa)
    obtain ⟨d0, d1, d2, d3⟩ := (⟨bx.cell 0 _ rfl, bx.cell 1 _ rfl, bx.cell 2 _ rfl, bx.cell 3 _ rfl⟩ : _ ∧ _ ∧ _ ∧ _)
    have f0 := bx.free
    clear hFa hEa r0 E0 k0 k1 k2
    simp only [Act.put]
    have B1 := bx.set4 (x0 : Int) 0 (x1 : Int) (x2 : Int)
    have R1 := hSa.far4 (show w.heap.size ≠ g by omega) (x0 : Int) 0 (x1 : Int) (x2 : Int)
    have E2 : Hid (Ext w (set4 wa g x0 0 x1 x2)) := E1.out.set4 (by omega) _ _ _ _
    obtain ⟨w5, bc, hcv, e5, s5, hbytes⟩ := conv_bytes [c3, c4, c5, c6] 4 rfl (set4 wa g x0 0 x1 x2)
    have B5 := B1.ext e5
    have R5 := R1.ext e5
    have E5 : Hid (Ext w w5) := E2.out.trans e5
    have sz : (set4 wa g x0 0 x1 x2).heap.size = wa.heap.size := by unfold set4; simp [World.size_setCell]
    rw [sz] at s5 hbytes hcv
    have hhg : g < wa.heap.size := by have := B1.lt; rw [sz] at this; exact this
    obtain ⟨h, hh⟩ : ∃ h, h = wa.heap.size := ⟨_, rfl⟩
    rw [← hh] at s5 hbytes hcv hhg
    have hW : set4 wa g x0 0 x1 x2 = (((wa.setCell ⟨g, 0, none⟩ (.int .i64 x0)).setCell ⟨g, 1, none⟩ (.int .i64 0)).setCell ⟨g, 2, none⟩ (.int .i64 x1)).setCell ⟨g, 3, none⟩ (.int .i64 x2) := rfl
    rw [hW] at hcv
    have hcv' := hcv
    have HH : Hid (∀ j, j < 4 → w5.cell? ⟨h, j, none⟩ = some (.int .u8 (([x3, x4, x5, x6].getD j 0 : Nat) : Int))) := by
      intro j hj
      obtain ⟨b, hb, hc, _⟩ := hbytes j hj
      rw [hc, HL.out j b hb]
    have hhs : w.heap.size < h := by omega
    clear hcv e5 hbytes sz hW B1 R1 E2 s5 bx hSa E1 hh
    have HB5 : Hid (Blk w5 g (ints4 x0 0 x1 x2) 32 ∧ Blk w5 w.heap.size (ints4 0 0 0 0) 32) := ⟨B5, R5⟩
    clear B5 R5 HL
    go_wp2
    go_loopw [25] (fun i wr => ∃ j : Nat, i = .int .i64 j ∧ j ≤ 4 ∧ Hid (Ext w wr ∧ Blk wr g (ints4 x0 (f j) x1 x2) 32 ∧ Blk wr w.heap.size (ints4 0 0 0 0) 32 ∧ ∀ j, j < 4 → wr.cell? ⟨h, j, none⟩ = some (.int .u8 (([x3, x4, x5, x6].getD j 0 : Nat) : Int)))) (fun i _ => 4 - (intOf i).toNat)
    case atStart => exact ⟨0, rfl, by omega, E5.out, by rw [HF.out.1]; exact HB5.out.1, HB5.out.2, HH.out⟩
    case round =>
      obtain ⟨j, rfl, hj4, HR⟩ := hrel
      clear d0 d1 d2 d3 f0 hcv' hcut E5 HB5 HH
      by_cases hlt : j < 4
      · have hlt' : (j : Int) < 4 := by omega
        obtain ⟨xb, hxb⟩ : ∃ xb, xb = [x3, x4, x5, x6].getD j 0 := ⟨_, rfl⟩
        obtain ⟨y, hy⟩ : ∃ y, y = f j := ⟨_, rfl⟩
        obtain ⟨y', hy'⟩ : ∃ y', y' = f (j + 1) := ⟨_, rfl⟩
        have qb : wr.cell? ⟨h, j, none⟩ = some (.int .u8 (xb : Int)) := by rw [hxb]; exact HR.out.2.2.2 j hlt
        have bb : (xb : Int) ≤ 255 := by have := HX.out j; rw [← hxb] at this; omega
        have hor := (HO.out j hlt).1
        have hfy := (HO.out j hlt).2
        rw [← hxb, ← hy, ← hy'] at hor
        rw [← hy] at hfy
        have hfy' : (y : Int) < 16777216 := by omega
        have qy : wr.cell? ⟨g, 1, none⟩ = some (.int .i64 (y : Int)) := by rw [hy]; exact HR.out.2.1.cell 1 _ rfl
        have fz : wr.frozen? ⟨g, 1, none⟩ = false := HR.out.2.1.free 1
        have HY : Hid (y = f j ∧ y' = f (j + 1)) := ⟨hy, hy'⟩
        clear hxb hy hy' hfy
        go_wp2
        go_roundw
        case rel =>
          refine ⟨j + 1, by go_num, by omega, Below.setCell HR.out.1 (show w.heap.size ≤ g by omega) _, ?_, HR.out.2.2.1.other (by omega) _ _, fun i hi => ?_⟩
          · have := HR.out.2.1.set 1 (.int .i64 (y' : Int))
            rw [HY.out.2] at this ⊢
            exact this
          · rw [World.cell?_setCell_other _ _ _ _ (by first | (simp; done) | (simp; omega))]
            exact HR.out.2.2.2 i hi
        case measure => simp [intOf]; omega
      · have hj : j = 4 := by omega
        subst hj
        obtain ⟨EW, B1, R1, _⟩ := HR.out
        rw [HF.out.2] at B1
        have E2 : Hid (Ext w wr) := EW
        obtain ⟨d0, d1, d2, d3⟩ := (⟨B1.cell 0 _ rfl, B1.cell 1 _ rfl, B1.cell 2 _ rfl, B1.cell 3 _ rfl⟩ : _ ∧ _ ∧ _ ∧ _)
        have HB : Hid (Blk wr g (ints4 x0 z x1 x2) 32 ∧ Blk wr w.heap.size (ints4 0 0 0 0) 32) := ⟨B1, R1⟩
        clear HR B1 R1 EW HO HF HX
        go_wp2_with fail
        refine (iInsOk_any _ _ _ _ _).mono ?_
        rintro e w2 ⟨rfl, e2⟩
        have B2 := HB.out.1.ext e2
        have R2 := HB.out.2.ext e2
        have E3 : Hid (Ext w w2) := E2.out.trans e2
        clear d0 d1 d2 d3 HB
        obtain ⟨d0, d1, d2, d3⟩ := (⟨B2.cell 0 _ rfl, B2.cell 1 _ rfl, B2.cell 2 _ rfl, B2.cell 3 _ rfl⟩ : _ ∧ _ ∧ _ ∧ _)
        obtain ⟨r0, r1, r2, r3⟩ := (⟨R2.cell 0 _ rfl, R2.cell 1 _ rfl, R2.cell 2 _ rfl, R2.cell 3 _ rfl⟩ : _ ∧ _ ∧ _ ∧ _)
        have rf := R2.free
        clear B2 R2 E2 e2
        have hge := E3.out.size
        have HE : Hid (∀ a b c d : Int, Ext w (set4 w2 w.heap.size a b c d)) := fun a b c d => E3.out.set4 (Nat.le_refl _) a b c d
        clear E3
        cases hok : insB x0 z x1 x2
        · go_wp2
          refine bodyPost_ret (v := .tuple #[.agg #[.int .i64 0, .int .i64 0, .int .i64 0, .int .i64 0], .bool false]) (by simp [results, Try.results17, go_sem, *]) rfl ⟨.inr ⟨hok, rfl⟩, HE.out 0 0 0 0⟩
        · go_wp2
          refine bodyPost_ret (v := .tuple #[.agg #[.int .i64 x0, .int .i64 z, .int .i64 x1, .int .i64 x2], .bool true]) (by simp [results, Try.results17, go_sem, *]) rfl ⟨.inl ⟨hok, rfl⟩, HE.out x0 z x1 x2⟩
  case hAa => kernel_rfl
  case hla => exact ⟨trivial, trivial, trivial, trivial, trivial, trivial, trivial, trivial, trivial, trivial, fun _ _ _ ⟨g, hv, hg, h⟩ hE => ⟨g, hv, hg, h.ext hE⟩, trivial⟩

end Go.Proofs.Ytefiafaokfabiaa
