/- What spec's ReadIns answers of seven bytes. -/
import Derived.Test.YtefiafaokfabiaaInsTo
import Derived.Test.YtefiafaokfabiaaBlks
import Derived.Test.YtefiafaokfabiaaOrMath
namespace Go.Proofs.Ytefiafaokfabiaa
open Go.RowKit
set_option linter.unusedVariables false

/-- Four numbers in a row. -/
def ints4 (a b c d : Int) : List Value := [.int .i64 a, .int .i64 b, .int .i64 c, .int .i64 d]

theorem Blk.other {W : World} {k j : Nat} {l : List Value} {t : TypeId} (h : Blk W k l t) (hj : k ≠ j) (i : Nat) (v : Value) : Blk (W.setCell ⟨j, i, none⟩ v) k l t :=
  (Below.heap_setCell _ _ _ _ hj).trans h

theorem Blk.set {W : World} {k : Nat} {l : List Value} {t : TypeId} (h : Blk W k l t) (i : Nat) (v : Value) : Blk (W.setCell ⟨k, i, none⟩ v) k (l.set i v) t := by
  have := set_in h (j := i) v
  unfold Blk
  rw [this]
  simp

/-- A word is stored into a block of four numbers. -/
def set4 (W : World) (g : Nat) (a b c d : Int) : World := (((W.setCell ⟨g, 0, none⟩ (.int .i64 a)).setCell ⟨g, 1, none⟩ (.int .i64 b)).setCell ⟨g, 2, none⟩ (.int .i64 c)).setCell ⟨g, 3, none⟩ (.int .i64 d)

theorem Blk.set4 {W : World} {g : Nat} {a b c d : Int} {t : TypeId} (h : Blk W g (ints4 a b c d) t) (a' b' c' d' : Int) : Blk (set4 W g a' b' c' d') g (ints4 a' b' c' d') t :=
  (((h.set 0 (.int .i64 a')).set 1 (.int .i64 b')).set 2 (.int .i64 c')).set 3 (.int .i64 d')

theorem Blk.far4 {W : World} {k g : Nat} {l : List Value} {t : TypeId} (h : Blk W k l t) (hk : k ≠ g) (a b c d : Int) : Blk (Go.Proofs.Ytefiafaokfabiaa.set4 W g a b c d) k l t :=
  (((h.other hk 0 (.int .i64 a)).other hk 1 (.int .i64 b)).other hk 2 (.int .i64 c)).other hk 3 (.int .i64 d)

theorem Ext.set4 {w W : World} (h : Ext w W) {g : Nat} (hg : w.heap.size ≤ g) (a b c d : Int) : Ext w (Go.Proofs.Ytefiafaokfabiaa.set4 W g a b c d) :=
  (((Below.setCell h (show w.heap.size ≤ g from hg) _).setCell (show w.heap.size ≤ g from hg) _).setCell (show w.heap.size ≤ g from hg) _).setCell (show w.heap.size ≤ g from hg) _

set_option maxRecDepth 100000 in
set_option maxHeartbeats 1600000 in
theorem sReadIns_seven (c0 c1 c2 c3 c4 c5 c6 : UInt8) (x0 x1 x2 x3 x4 x5 x6 z1 z2 z : Nat) (w : World)
    (g0 : c0.toNat = x0) (g1 : c1.toNat = x1) (g2 : c2.toNat = x2) (g3 : c3.toNat = x3) (g4 : c4.toNat = x4) (g5 : c5.toNat = x5) (g6 : c6.toNat = x6)
    (o1 : bits .or .i64 ((x3 : Int) * 16777216) ((x4 : Int) * 65536) = (z1 : Int)) (o2 : bits .or .i64 (z1 : Int) ((x5 : Int) * 256) = (z2 : Int)) (o3 : bits .or .i64 (z2 : Int) (x6 : Int) = (z : Int)) :
    Calls Try.prog 19 #[.string ⟨#[c0, c1, c2, c3, c4, c5, c6]⟩] w fun e w' => (insB x0 z x1 x2 = true ∧ e = .returned (.tuple #[.agg #[.int .i64 x0, .int .i64 z, .int .i64 x1, .int .i64 x2], .bool true]) ∨ insB x0 z x1 x2 = false ∧ e = .returned (.tuple #[.agg #[.int .i64 0, .int .i64 0, .int .i64 0, .int .i64 0], .bool false])) ∧ Ext w w' := by
  have b0 : (x0 : Int) ≤ 255 := by have := c0.toNat_lt; omega
  have b1 : (x1 : Int) ≤ 255 := by have := c1.toNat_lt; omega
  have b2 : (x2 : Int) ≤ 255 := by have := c2.toNat_lt; omega
  have b3 : (x3 : Int) ≤ 255 := by have := c3.toNat_lt; omega
  have b4 : (x4 : Int) ≤ 255 := by have := c4.toNat_lt; omega
  have b5 : (x5 : Int) ≤ 255 := by have := c5.toNat_lt; omega
  have b6 : (x6 : Int) ≤ 255 := by have := c6.toNat_lt; omega
  have k0 : ∀ h, (((⟨#[c0, c1, c2, c3, c4, c5, c6]⟩ : ByteArray)[0]'h).toNat : Int) = x0 := fun _ => by rw [← g0]; rfl
  have k1 : ∀ h, (((⟨#[c0, c1, c2, c3, c4, c5, c6]⟩ : ByteArray)[1]'h).toNat : Int) = x1 := fun _ => by rw [← g1]; rfl
  have k2 : ∀ h, (((⟨#[c0, c1, c2, c3, c4, c5, c6]⟩ : ByteArray)[2]'h).toNat : Int) = x2 := fun _ => by rw [← g2]; rfl
  have k3 : ∀ h, (((⟨#[c0, c1, c2, c3, c4, c5, c6]⟩ : ByteArray)[3]'h).toNat : Int) = x3 := fun _ => by rw [← g3]; rfl
  have k4 : ∀ h, (((⟨#[c0, c1, c2, c3, c4, c5, c6]⟩ : ByteArray)[4]'h).toNat : Int) = x4 := fun _ => by rw [← g4]; rfl
  have k5 : ∀ h, (((⟨#[c0, c1, c2, c3, c4, c5, c6]⟩ : ByteArray)[5]'h).toNat : Int) = x5 := fun _ => by rw [← g5]; rfl
  have k6 : ∀ h, (((⟨#[c0, c1, c2, c3, c4, c5, c6]⟩ : ByteArray)[6]'h).toNat : Int) = x6 := fun _ => by rw [← g6]; rfl
  clear g0 g1 g2 g3 g4 g5 g6
  obtain ⟨w0, hw0⟩ : ∃ w0, w0 = w.alloc (.cells #[.int .i64 0, .int .i64 0, .int .i64 0, .int .i64 0] 32) := ⟨_, rfl⟩
  have r0 : Blk w0 w.heap.size (ints4 0 0 0 0) 32 := by rw [hw0]; exact Blk.new _ (ints4 0 0 0 0) _
  have E0 : Hid (Ext w w0) := by rw [hw0]; exact Ext.one _ _
  go_enter Try.func19, Try.ntmps19
  go_wp2_with fail
  rw [← hw0]
  clear hw0
  refine' wp_region_loose_tail 29 (.inl _ :: .inl _ :: .inl _ :: .inl _ :: .inl _ :: .inl _ :: .inl _ :: .inl _ :: .inl _ :: .inl _ :: .inl _ :: .inl _ :: .inl _ :: .inl _ :: .inl _ :: .inl _ :: .inl _ :: .inl _ :: .inl _ :: .inl _ :: .inl _ :: .inl _ :: .inl _ :: .inl _ :: .inl _ :: .inl _ :: .inl _ :: .inl _ :: .inr (fun v w' => ∃ g, v = .pointer (some ⟨g, 0, none⟩) ∧ w.heap.size < g ∧ Blk w' g (ints4 0 0 0 0) 32) :: []) (fun w' => Blk w' w.heap.size (ints4 0 0 0 0) 32) (by kernel_rfl) (by kernel_rfl) (r0) (fun _ _ h hE => h.ext hE) ?hAa ?hla ?hMa
  case' hMa => skip
  simp only [List.take_succ_cons, List.take_zero, List.drop_succ_cons, List.drop_zero]
  apply wpLoose_val rfl rfl
  case hs =>
    intro w1 hC hd Q1 hQ1
    obtain ⟨hE, hS⟩ := hC
    dsimp only [bare]
    skip
    clear hd hE
    try clear hS
    go_wp2
    exact Ext.refl _
  case ha => rfl
  apply wpLoose_val rfl rfl
  case hs =>
    intro w1 hC hd Q1 hQ1
    obtain ⟨hE, hS⟩ := hC
    dsimp only [bare]
    skip
    clear hd hE
    try clear hS
    go_wp2
    exact Ext.refl _
  case ha => rfl
  apply wpLoose_val rfl rfl
  case hs =>
    intro w1 hC hd Q1 hQ1
    obtain ⟨hE, hS⟩ := hC
    dsimp only [bare]
    skip
    clear hd hE
    try clear hS
    go_wp2
    exact Ext.refl _
  case ha => rfl
  apply wpLoose_val rfl rfl
  case hs =>
    intro w1 hC hd Q1 hQ1
    obtain ⟨hE, hS⟩ := hC
    dsimp only [bare]
    skip
    clear hd hE
    try clear hS
    go_wp2
    exact Ext.refl _
  case ha => rfl
  apply wpLoose_val rfl rfl
  case hs =>
    intro w1 hC hd Q1 hQ1
    obtain ⟨hE, hS⟩ := hC
    dsimp only [bare]
    skip
    clear hd hE
    try clear hS
    go_wp2
    exact Ext.refl _
  case ha => rfl
  apply wpLoose_val rfl rfl
  case hs =>
    intro w1 hC hd Q1 hQ1
    obtain ⟨hE, hS⟩ := hC
    dsimp only [bare]
    skip
    clear hd hE
    try clear hS
    go_wp2
    exact Ext.refl _
  case ha => rfl
  apply wpLoose_val rfl rfl
  case hs =>
    intro w1 hC hd Q1 hQ1
    obtain ⟨hE, hS⟩ := hC
    dsimp only [bare]
    skip
    clear hd hE
    try clear hS
    go_wp2
    exact Ext.refl _
  case ha => rfl
  apply wpLoose_val rfl rfl
  case hs =>
    intro w1 hC hd Q1 hQ1
    obtain ⟨hE, hS⟩ := hC
    dsimp only [bare]
    skip
    clear hd hE
    try clear hS
    go_wp2
    exact Ext.refl _
  case ha => rfl
  apply wpLoose_val rfl rfl
  case hs =>
    intro w1 hC hd Q1 hQ1
    obtain ⟨hE, hS⟩ := hC
    dsimp only [bare]
    skip
    clear hd hE
    try clear hS
    go_wp2
    exact Ext.refl _
  case ha => rfl
  apply wpLoose_val rfl rfl
  case hs =>
    intro w1 hC hd Q1 hQ1
    obtain ⟨hE, hS⟩ := hC
    dsimp only [bare]
    skip
    clear hd hE
    try clear hS
    go_wp2
    exact Ext.refl _
  case ha => rfl
  apply wpLoose_val rfl rfl
  case hs =>
    intro w1 hC hd Q1 hQ1
    obtain ⟨hE, hS⟩ := hC
    dsimp only [bare]
    skip
    clear hd hE
    try clear hS
    go_wp2
    exact Ext.refl _
  case ha => rfl
  apply wpLoose_val rfl rfl
  case hs =>
    intro w1 hC hd Q1 hQ1
    obtain ⟨hE, hS⟩ := hC
    dsimp only [bare]
    skip
    clear hd hE
    try clear hS
    go_wp2
    exact Ext.refl _
  case ha => rfl
  apply wpLoose_val rfl rfl
  case hs =>
    intro w1 hC hd Q1 hQ1
    obtain ⟨hE, hS⟩ := hC
    dsimp only [bare]
    skip
    clear hd hE
    try clear hS
    go_wp2
    exact Ext.refl _
  case ha => rfl
  apply wpLoose_val rfl rfl
  case hs =>
    intro w1 hC hd Q1 hQ1
    obtain ⟨hE, hS⟩ := hC
    dsimp only [bare]
    skip
    clear hd hE
    try clear hS
    go_wp2
    exact Ext.refl _
  case ha => rfl
  apply wpLoose_val rfl rfl
  case hs =>
    intro w1 hC hd Q1 hQ1
    obtain ⟨hE, hS⟩ := hC
    dsimp only [bare]
    skip
    clear hd hE
    try clear hS
    go_wp2
    exact Ext.refl _
  case ha => rfl
  apply wpLoose_val rfl rfl
  case hs =>
    intro w1 hC hd Q1 hQ1
    obtain ⟨hE, hS⟩ := hC
    dsimp only [bare]
    skip
    clear hd hE
    try clear hS
    go_wp2
    exact Ext.refl _
  case ha => rfl
  apply wpLoose_val rfl rfl
  case hs =>
    intro w1 hC hd Q1 hQ1
    obtain ⟨hE, hS⟩ := hC
    dsimp only [bare]
    skip
    clear hd hE
    try clear hS
    go_wp2
    exact Ext.refl _
  case ha => rfl
  apply wpLoose_val rfl rfl
  case hs =>
    intro w1 hC hd Q1 hQ1
    obtain ⟨hE, hS⟩ := hC
    dsimp only [bare]
    skip
    clear hd hE
    try clear hS
    go_wp2
    exact Ext.refl _
  case ha => rfl
  apply wpLoose_val rfl rfl
  case hs =>
    intro w1 hC hd Q1 hQ1
    obtain ⟨hE, hS⟩ := hC
    dsimp only [bare]
    skip
    clear hd hE
    try clear hS
    go_wp2
    exact Ext.refl _
  case ha => rfl
  apply wpLoose_val rfl rfl
  case hs =>
    intro w1 hC hd Q1 hQ1
    obtain ⟨hE, hS⟩ := hC
    dsimp only [bare]
    skip
    clear hd hE
    try clear hS
    go_wp2
    exact Ext.refl _
  case ha => rfl
  apply wpLoose_val rfl rfl
  case hs =>
    intro w1 hC hd Q1 hQ1
    obtain ⟨hE, hS⟩ := hC
    dsimp only [bare]
    skip
    clear hd hE
    try clear hS
    go_wp2
    exact Ext.refl _
  case ha => rfl
  apply wpLoose_val rfl rfl
  case hs =>
    intro w1 hC hd Q1 hQ1
    obtain ⟨hE, hS⟩ := hC
    dsimp only [bare]
    skip
    clear hd hE
    try clear hS
    go_wp2
    exact Ext.refl _
  case ha => rfl
  apply wpLoose_val rfl rfl
  case hs =>
    intro w1 hC hd Q1 hQ1
    obtain ⟨hE, hS⟩ := hC
    dsimp only [bare]
    skip
    clear hd hE
    try clear hS
    go_wp2
    exact Ext.refl _
  case ha => rfl
  apply wpLoose_val rfl rfl
  case hs =>
    intro w1 hC hd Q1 hQ1
    obtain ⟨hE, hS⟩ := hC
    dsimp only [bare]
    skip
    clear hd hE
    try clear hS
    go_wp2
    exact Ext.refl _
  case ha => rfl
  apply wpLoose_val rfl rfl
  case hs =>
    intro w1 hC hd Q1 hQ1
    obtain ⟨hE, hS⟩ := hC
    dsimp only [bare]
    skip
    clear hd hE
    try clear hS
    go_wp2
    exact Ext.refl _
  case ha => rfl
  apply wpLoose_val rfl rfl
  case hs =>
    intro w1 hC hd Q1 hQ1
    obtain ⟨hE, hS⟩ := hC
    dsimp only [bare]
    skip
    clear hd hE
    try clear hS
    go_wp2
    exact Ext.refl _
  case ha => rfl
  apply wpLoose_val rfl rfl
  case hs =>
    intro w1 hC hd Q1 hQ1
    obtain ⟨hE, hS⟩ := hC
    dsimp only [bare]
    skip
    clear hd hE
    try clear hS
    go_wp2
    exact Ext.refl _
  case ha => rfl
  apply wpLoose_val rfl rfl
  case hs =>
    intro w1 hC hd Q1 hQ1
    obtain ⟨hE, hS⟩ := hC
    dsimp only [bare]
    skip
    clear hd hE
    try clear hS
    go_wp2
    exact Ext.refl _
  case ha => rfl
  refine wpLoose_rel rfl rfl ?_ (fun va_28 => ?_)
  · intro w1 hC hd Q1 hQ1
    obtain ⟨hE, hS⟩ := hC
    dsimp only [bare]
    have hz := hS.lt
    clear hd hE hS
    go_wp2
    exact hQ1 _ _ (Ext.one _ _) ⟨_, rfl, hz, Blk.new _ (ints4 0 0 0 0) _⟩
  refine wpLoose_nil ?_
  intro wa hEa hSa hFa
  obtain ⟨g, rfl, hg, bx⟩ := hFa 28 _ rfl (by decide) (by simp [Act.put])
  have E1 : Hid (Ext w wa) := E0.out.trans ((Ext.refl _).drew.trans hEa)
  obtain ⟨d0, d1, d2, d3⟩ := (⟨bx.cell 0 _ rfl, bx.cell 1 _ rfl, bx.cell 2 _ rfl, bx.cell 3 _ rfl⟩ : _ ∧ _ ∧ _ ∧ _)
  have f0 := bx.free
  clear hFa hEa r0 E0 k0 k1 k2 k3 k4 k5 k6 o1 o2 o3
  simp only [Act.put]
  go_wp2_with fail
  have B1 := bx.set4 (x0 : Int) (z : Int) (x1 : Int) (x2 : Int)
  have R1 := hSa.far4 (show w.heap.size ≠ g by omega) (x0 : Int) (z : Int) (x1 : Int) (x2 : Int)
  have E2 : Hid (Ext w (set4 wa g x0 z x1 x2)) := E1.out.set4 (by omega) _ _ _ _
  have hW : set4 wa g x0 z x1 x2 = (((wa.setCell ⟨g, 0, none⟩ (.int .i64 x0)).setCell ⟨g, 1, none⟩ (.int .i64 z)).setCell ⟨g, 2, none⟩ (.int .i64 x1)).setCell ⟨g, 3, none⟩ (.int .i64 x2) := rfl
  rw [← hW]
  clear hW
  generalize set4 wa g x0 z x1 x2 = W1 at *
  clear bx d0 d1 d2 d3 f0 hSa E1
  refine (sInsOk_any _ _ _ _ _).mono ?_
  rintro e w2 ⟨rfl, e2⟩
  have B2 := B1.ext e2
  have R2 := R1.ext e2
  have E3 : Hid (Ext w w2) := E2.out.trans e2
  obtain ⟨d0, d1, d2, d3⟩ := (⟨B2.cell 0 _ rfl, B2.cell 1 _ rfl, B2.cell 2 _ rfl, B2.cell 3 _ rfl⟩ : _ ∧ _ ∧ _ ∧ _)
  obtain ⟨r0, r1, r2, r3⟩ := (⟨R2.cell 0 _ rfl, R2.cell 1 _ rfl, R2.cell 2 _ rfl, R2.cell 3 _ rfl⟩ : _ ∧ _ ∧ _ ∧ _)
  have rf := R2.free
  clear B1 B2 R1 R2 E2 e2
  have hge := E3.out.size
  have HE : Hid (∀ a b c d : Int, Ext w (set4 w2 w.heap.size a b c d)) := fun a b c d => E3.out.set4 (Nat.le_refl _) a b c d
  clear E3
  cases hok : insB x0 z x1 x2
  · go_wp2
    refine bodyPost_ret (v := .tuple #[.agg #[.int .i64 0, .int .i64 0, .int .i64 0, .int .i64 0], .bool false]) (by simp [results, Try.results19, go_sem, *]) rfl ⟨.inr ⟨hok, rfl⟩, HE.out 0 0 0 0⟩
  · go_wp2
    refine bodyPost_ret (v := .tuple #[.agg #[.int .i64 x0, .int .i64 z, .int .i64 x1, .int .i64 x2], .bool true]) (by simp [results, Try.results19, go_sem, *]) rfl ⟨.inl ⟨hok, rfl⟩, HE.out x0 z x1 x2⟩
  case hAa => kernel_rfl
  case hla => exact ⟨trivial, trivial, trivial, trivial, trivial, trivial, trivial, trivial, trivial, trivial, trivial, trivial, trivial, trivial, trivial, trivial, trivial, trivial, trivial, trivial, trivial, trivial, trivial, trivial, trivial, trivial, trivial, trivial, fun _ _ _ ⟨g, hv, hg, h⟩ hE => ⟨g, hv, hg, h.ext hE⟩, trivial⟩

end Go.Proofs.Ytefiafaokfabiaa
