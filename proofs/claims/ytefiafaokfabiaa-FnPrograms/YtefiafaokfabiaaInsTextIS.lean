/- What impl's and spec's InsText answer: of a word that is right its seven bytes, else nothing. -/
import Derived.Test.YtefiafaokfabiaaInsText0
namespace Go.Proofs.Ytefiafaokfabiaa
open Go.RowKit
set_option linter.unusedVariables false

theorem iInsText_no (o k y n : Int) (w : World) (h : insB o k y n = false) : Calls Try.prog 16 #[.agg #[.int .i64 o, .int .i64 k, .int .i64 y, .int .i64 n]] w fun e w' => e = .returned (.tuple #[.string ⟨#[]⟩, .bool false]) ∧ Ext w w' := by
  have HI : Hid (∀ w, Calls Try.prog 24 #[.agg #[.int .i64 o, .int .i64 k, .int .i64 y, .int .i64 n]] w fun e w' => e = .returned (.bool false) ∧ Ext w w') := fun w => by have := iInsOk_any o k y n w; rw [h] at this; exact this
  clear h
  go_enter Try.func16, Try.ntmps16
  go_wp2_with fail
  refine (HI.out _).mono ?_
  rintro e w1 ⟨rfl, e1⟩
  have E1 : Hid (Ext w w1) := (Ext.one _ _).trans e1
  clear e1 HI
  go_wp2
  exact bodyPost_ret (v := .tuple #[.string ⟨#[]⟩, .bool false]) (by simp [results, Try.results16, go_sem]) rfl ⟨rfl, E1.out⟩

theorem sInsText_no (o k y n : Int) (w : World) (h : insB o k y n = false) : Calls Try.prog 26 #[.agg #[.int .i64 o, .int .i64 k, .int .i64 y, .int .i64 n]] w fun e w' => e = .returned (.tuple #[.string ⟨#[]⟩, .bool false]) ∧ Ext w w' := by
  have HI : Hid (∀ w, Calls Try.prog 23 #[.agg #[.int .i64 o, .int .i64 k, .int .i64 y, .int .i64 n]] w fun e w' => e = .returned (.bool false) ∧ Ext w w') := fun w => by have := sInsOk_any o k y n w; rw [h] at this; exact this
  clear h
  go_enter Try.func26, Try.ntmps26
  go_wp2_with fail
  refine (HI.out _).mono ?_
  rintro e w1 ⟨rfl, e1⟩
  have E1 : Hid (Ext w w1) := (Ext.one _ _).trans e1
  clear e1 HI
  go_wp2
  exact bodyPost_ret (v := .tuple #[.string ⟨#[]⟩, .bool false]) (by simp [results, Try.results26, go_sem]) rfl ⟨rfl, E1.out⟩

theorem text_app (a b : List UInt8) : (⟨a.toArray⟩ : ByteArray) ++ ⟨b.toArray⟩ = ⟨(a ++ b).toArray⟩ := by
  apply ByteArray.ext
  simp

theorem text_app3 (a b c : UInt8) (l : List UInt8) : (⟨#[a, b, c]⟩ : ByteArray) ++ ⟨l.toArray⟩ = ⟨([a, b, c] ++ l).toArray⟩ := text_app [a, b, c] l

theorem three_cells (o y n : Nat) (ho : o ≤ 8) (hy : y ≤ 15) (hn : n ≤ 15) : ([.int .u8 (o : Int), .int .u8 (y : Int), .int .u8 (n : Int)] : List Value) = bytesV [UInt8.ofNat o, UInt8.ofNat y, UInt8.ofNat n] := by
  simp [bytesV]; omega

set_option maxRecDepth 100000 in
set_option maxHeartbeats 1600000 in
theorem iInsText_yes (o k y n : Nat) (w : World) (h : insB o k y n = true) : Calls Try.prog 16 #[.agg #[.int .i64 o, .int .i64 k, .int .i64 y, .int .i64 n]] w fun e w' => e = .returned (.tuple #[.string ⟨(insL o k y n).toArray⟩, .bool true]) ∧ Ext w w' := by
  have HI : Hid (∀ w, Calls Try.prog 24 #[.agg #[.int .i64 o, .int .i64 k, .int .i64 y, .int .i64 n]] w fun e w' => e = .returned (.bool true) ∧ Ext w w') := fun w => by have := iInsOk_any o k y n w; rw [h] at this; exact this
  rw [insB_true] at h
  unfold insP at h
  obtain ⟨_, ho, _, hk, _, hy, _, hn, _⟩ := h
  go_enter Try.func16, Try.ntmps16
  go_wp2_with fail
  refine (HI.out _).mono ?_
  rintro e w1 ⟨rfl, e1⟩
  have c1 : CellsAt w1 w.heap.size [.int .i64 o, .int .i64 k, .int .i64 y, .int .i64 n] := (CellsAt.new w [.int .i64 o, .int .i64 k, .int .i64 y, .int .i64 n] 32).step e1
  have E1 : Hid (Ext w w1) := (Ext.one _ _).trans e1
  have hown : Hid ((w1.alloc (.cells #[.int .u8 (o : Int), .int .u8 (y : Int), .int .u8 (n : Int)] 5)).ownsRow w1.heap.size 5 1 (.slice (some ⟨w1.heap.size, 0, none⟩) 3 3) 3 (bytesV [UInt8.ofNat o, UInt8.ofNat y, UInt8.ofNat n])) := by
    unfold Hid
    rw [← three_cells o y n (by omega) (by omega) (by omega)]
    exact World.ownsRow_lit (base := w1.heap.size) (e := 5) (size := 1) w1 #[.int .u8 (o : Int), .int .u8 (y : Int), .int .u8 (n : Int)] 3 (Nat.le_refl _) (by decide) rfl
  have hz : w.heap.size < w1.heap.size := c1.1
  obtain ⟨q0, q1, q2, q3⟩ := (⟨c1.2 0 _ rfl, c1.2 1 _ rfl, c1.2 2 _ rfl, c1.2 3 _ rfl⟩ : _ ∧ _ ∧ _ ∧ _)
  clear e1 HI c1
  go_wp2_with fail
  refine (withNumber_any w1.heap.size k 4 [UInt8.ofNat o, UInt8.ofNat y, UInt8.ofNat n] _ _ (by omega) (by omega) (by simp) (by simp) hown.out).mono ?_
  rintro e w2 ⟨v', rfl, hown2, hb2⟩
  have hq := own_convert (P := Try.prog) hown2 Try.underlying22 Try.underlying5 Try.underlying9
  have E2 : Hid (Ext w w2) := by have := E1.out.size; exact (Below.trans (Below.alloc E1.out this _) (hb2.mono this))
  clear hown2 hown hb2
  go_wp2
  exact bodyPost_ret (v := .tuple #[.string ⟨(insL o k y n).toArray⟩, .bool true]) (by simp [results, Try.results16, go_sem, insL]) rfl ⟨rfl, E2.out⟩

set_option maxRecDepth 100000 in
set_option maxHeartbeats 1600000 in
theorem sInsText_yes (o k y n : Nat) (w : World) (h : insB o k y n = true) : Calls Try.prog 26 #[.agg #[.int .i64 o, .int .i64 k, .int .i64 y, .int .i64 n]] w fun e w' => e = .returned (.tuple #[.string ⟨(insL o k y n).toArray⟩, .bool true]) ∧ Ext w w' := by
  have HI : Hid (∀ w, Calls Try.prog 23 #[.agg #[.int .i64 o, .int .i64 k, .int .i64 y, .int .i64 n]] w fun e w' => e = .returned (.bool true) ∧ Ext w w') := fun w => by have := sInsOk_any o k y n w; rw [h] at this; exact this
  rw [insB_true] at h
  unfold insP at h
  obtain ⟨_, ho, _, hk, _, hy, _, hn, _⟩ := h
  have hk' : k ≤ 4294967295 := by omega
  have h3 := three_cells o y n (by omega) (by omega) (by omega)
  have HL : Hid (∀ w : World, SliceOf [UInt8.ofNat o, UInt8.ofNat y, UInt8.ofNat n] (.slice (some ⟨w.heap.size, 0, none⟩) 3 3) (w.alloc (.cells #[.int .u8 (o : Int), .int .u8 (y : Int), .int .u8 (n : Int)] 5))) := fun w => SliceOf.new w _ 3 _ h3 rfl
  clear h3
  go_enter Try.func26, Try.ntmps26
  go_wp2_with fail
  refine (HI.out _).mono ?_
  rintro e w1 ⟨rfl, e1⟩
  have c1 : CellsAt w1 w.heap.size [.int .i64 o, .int .i64 k, .int .i64 y, .int .i64 n] := (CellsAt.new w [.int .i64 o, .int .i64 k, .int .i64 y, .int .i64 n] 32).step e1
  have E1 : Hid (Ext w w1) := (Ext.one _ _).trans e1
  clear e1 HI
  go_wp2_with fail
  refine' wp_region_loose (.inl _ :: .inl _ :: .inl _ :: .inl _ :: .inl _ :: .inl _ :: .inl _ :: .inl _ :: .inl _ :: .inr (SliceOf [UInt8.ofNat o, UInt8.ofNat y, UInt8.ofNat n]) :: .inl _ :: .inl _ :: .inl _ :: .inl _ :: .inl _ :: .inl _ :: .inl _ :: []) (fun w' => CellsAt w' w.heap.size [.int .i64 o, .int .i64 k, .int .i64 y, .int .i64 n]) (by kernel_rfl) (by kernel_rfl) (c1.drew) (fun _ _ h hE => h.step hE) ?hAa ?hla ?hMa
  case' hMa => skip
  apply wpLoose_val rfl rfl
  case hs =>
    intro w1 hC hd Q1 hQ1
    obtain ⟨hE, hS⟩ := hC
    dsimp only [bare]
    obtain ⟨q0, q1, q2, q3⟩ := (⟨hS.2 0 _ rfl, hS.2 1 _ rfl, hS.2 2 _ rfl, hS.2 3 _ rfl⟩ : _ ∧ _ ∧ _ ∧ _)
    clear hd hE
    try clear hS
    go_wp2
    exact Ext.refl _
  case ha => rfl
  apply wpLoose_val rfl rfl
  case hs =>
    intro w1 hC hd Q1 hQ1
    obtain ⟨hE, hS⟩ := hC
    dsimp only [bare]
    obtain ⟨q0, q1, q2, q3⟩ := (⟨hS.2 0 _ rfl, hS.2 1 _ rfl, hS.2 2 _ rfl, hS.2 3 _ rfl⟩ : _ ∧ _ ∧ _ ∧ _)
    clear hd hE
    try clear hS
    go_wp2
    exact Ext.refl _
  case ha => rfl
  apply wpLoose_val rfl rfl
  case hs =>
    intro w1 hC hd Q1 hQ1
    obtain ⟨hE, hS⟩ := hC
    dsimp only [bare]
    obtain ⟨q0, q1, q2, q3⟩ := (⟨hS.2 0 _ rfl, hS.2 1 _ rfl, hS.2 2 _ rfl, hS.2 3 _ rfl⟩ : _ ∧ _ ∧ _ ∧ _)
    clear hd hE
    try clear hS
    go_wp2
    exact Ext.refl _
  case ha => rfl
  apply wpLoose_val rfl rfl
  case hs =>
    intro w1 hC hd Q1 hQ1
    obtain ⟨hE, hS⟩ := hC
    dsimp only [bare]
    obtain ⟨q0, q1, q2, q3⟩ := (⟨hS.2 0 _ rfl, hS.2 1 _ rfl, hS.2 2 _ rfl, hS.2 3 _ rfl⟩ : _ ∧ _ ∧ _ ∧ _)
    clear hd hE
    try clear hS
    go_wp2
    exact Ext.refl _
  case ha => rfl
  apply wpLoose_val rfl rfl
  case hs =>
    intro w1 hC hd Q1 hQ1
    obtain ⟨hE, hS⟩ := hC
    dsimp only [bare]
    obtain ⟨q0, q1, q2, q3⟩ := (⟨hS.2 0 _ rfl, hS.2 1 _ rfl, hS.2 2 _ rfl, hS.2 3 _ rfl⟩ : _ ∧ _ ∧ _ ∧ _)
    clear hd hE
    try clear hS
    go_wp2
    exact Ext.refl _
  case ha => rfl
  apply wpLoose_val rfl rfl
  case hs =>
    intro w1 hC hd Q1 hQ1
    obtain ⟨hE, hS⟩ := hC
    dsimp only [bare]
    obtain ⟨q0, q1, q2, q3⟩ := (⟨hS.2 0 _ rfl, hS.2 1 _ rfl, hS.2 2 _ rfl, hS.2 3 _ rfl⟩ : _ ∧ _ ∧ _ ∧ _)
    clear hd hE
    try clear hS
    go_wp2
    exact Ext.refl _
  case ha => rfl
  apply wpLoose_val rfl rfl
  case hs =>
    intro w1 hC hd Q1 hQ1
    obtain ⟨hE, hS⟩ := hC
    dsimp only [bare]
    obtain ⟨q0, q1, q2, q3⟩ := (⟨hS.2 0 _ rfl, hS.2 1 _ rfl, hS.2 2 _ rfl, hS.2 3 _ rfl⟩ : _ ∧ _ ∧ _ ∧ _)
    clear hd hE
    try clear hS
    go_wp2
    exact Ext.refl _
  case ha => rfl
  apply wpLoose_val rfl rfl
  case hs =>
    intro w1 hC hd Q1 hQ1
    obtain ⟨hE, hS⟩ := hC
    dsimp only [bare]
    obtain ⟨q0, q1, q2, q3⟩ := (⟨hS.2 0 _ rfl, hS.2 1 _ rfl, hS.2 2 _ rfl, hS.2 3 _ rfl⟩ : _ ∧ _ ∧ _ ∧ _)
    clear hd hE
    try clear hS
    go_wp2
    exact Ext.refl _
  case ha => rfl
  apply wpLoose_val rfl rfl
  case hs =>
    intro w1 hC hd Q1 hQ1
    obtain ⟨hE, hS⟩ := hC
    dsimp only [bare]
    obtain ⟨q0, q1, q2, q3⟩ := (⟨hS.2 0 _ rfl, hS.2 1 _ rfl, hS.2 2 _ rfl, hS.2 3 _ rfl⟩ : _ ∧ _ ∧ _ ∧ _)
    clear hd hE
    try clear hS
    go_wp2
    exact Ext.refl _
  case ha => rfl
  refine wpLoose_rel rfl rfl ?_ (fun va_9 => ?_)
  · intro w1 hC hd Q1 hQ1
    obtain ⟨hE, hS⟩ := hC
    dsimp only [bare]
    clear hd hS hE
    go_wp2
    exact hQ1 _ _ (Ext.one _ _) (HL.out _)
  apply wpLoose_val rfl rfl
  case hs =>
    intro w1 hC hd Q1 hQ1
    obtain ⟨hE, hS⟩ := hC
    dsimp only [bare]
    have h2 : SliceOf [UInt8.ofNat o, UInt8.ofNat y, UInt8.ofNat n] va_9 w1 := hd ⟨9, .data⟩ (by simp) rfl _ rfl (by simp [Act.put])
    have hq := SliceOf.conv h2
    clear hd hS hE h2
    go_wp2
    exact Ext.refl _
  case ha => rfl
  apply wpLoose_val rfl rfl
  case hs =>
    intro w1 hC hd Q1 hQ1
    obtain ⟨hE, hS⟩ := hC
    dsimp only [bare]
    obtain ⟨q0, q1, q2, q3⟩ := (⟨hS.2 0 _ rfl, hS.2 1 _ rfl, hS.2 2 _ rfl, hS.2 3 _ rfl⟩ : _ ∧ _ ∧ _ ∧ _)
    clear hd hE
    try clear hS
    go_wp2
    exact Ext.refl _
  case ha => rfl
  apply wpLoose_val rfl rfl
  case hs =>
    intro w1 hC hd Q1 hQ1
    obtain ⟨hE, hS⟩ := hC
    dsimp only [bare]
    obtain ⟨q0, q1, q2, q3⟩ := (⟨hS.2 0 _ rfl, hS.2 1 _ rfl, hS.2 2 _ rfl, hS.2 3 _ rfl⟩ : _ ∧ _ ∧ _ ∧ _)
    clear hd hE
    try clear hS
    go_wp2
    exact Ext.refl _
  case ha => rfl
  apply wpLoose_val rfl rfl
  case hs =>
    intro w1 hC hd Q1 hQ1
    obtain ⟨hE, hS⟩ := hC
    dsimp only [bare]
    clear hd
    go_wp2_with fail
    refine (four_any k _ hk').mono ?_
    rintro e w2 ⟨rfl, hb⟩
    go_wp2_with fail
    exact hb
  case ha => rfl
  apply wpLoose_val rfl rfl
  case hs =>
    intro w1 hC hd Q1 hQ1
    obtain ⟨hE, hS⟩ := hC
    dsimp only [bare]
    obtain ⟨q0, q1, q2, q3⟩ := (⟨hS.2 0 _ rfl, hS.2 1 _ rfl, hS.2 2 _ rfl, hS.2 3 _ rfl⟩ : _ ∧ _ ∧ _ ∧ _)
    clear hd hE
    try clear hS
    go_wp2
    exact Ext.refl _
  case ha => rfl
  apply wpLoose_val rfl rfl
  case hs =>
    intro w1 hC hd Q1 hQ1
    obtain ⟨hE, hS⟩ := hC
    dsimp only [bare]
    obtain ⟨q0, q1, q2, q3⟩ := (⟨hS.2 0 _ rfl, hS.2 1 _ rfl, hS.2 2 _ rfl, hS.2 3 _ rfl⟩ : _ ∧ _ ∧ _ ∧ _)
    clear hd hE
    try clear hS
    go_wp2
    exact Ext.refl _
  case ha => rfl
  apply wpLoose_val rfl rfl
  case hs =>
    intro w1 hC hd Q1 hQ1
    obtain ⟨hE, hS⟩ := hC
    dsimp only [bare]
    obtain ⟨q0, q1, q2, q3⟩ := (⟨hS.2 0 _ rfl, hS.2 1 _ rfl, hS.2 2 _ rfl, hS.2 3 _ rfl⟩ : _ ∧ _ ∧ _ ∧ _)
    clear hd hE
    try clear hS
    go_wp2
    exact Ext.refl _
  case ha => rfl
  refine wpLoose_nil ?_
  intro wa hEa hSa hFa
  have E2 : Hid (Ext w wa) := E1.out.drew.trans hEa
  clear hFa hSa hEa E1 c1
  go_wp2
  exact bodyPost_ret (v := .tuple #[.string (⟨#[UInt8.ofNat o, UInt8.ofNat y, UInt8.ofNat n]⟩ ++ ⟨(beN 4 k).toArray⟩), .bool true]) (by simp [results, Try.results26, go_sem]) rfl ⟨by rw [text_app3]; rfl, E2.out⟩
  case hAa => kernel_rfl
  case hla => exact ⟨trivial, trivial, trivial, trivial, trivial, trivial, trivial, trivial, trivial, fun _ _ _ h hE => h.step hE, trivial, trivial, trivial, trivial, trivial, trivial, trivial, trivial⟩

end Go.Proofs.Ytefiafaokfabiaa
