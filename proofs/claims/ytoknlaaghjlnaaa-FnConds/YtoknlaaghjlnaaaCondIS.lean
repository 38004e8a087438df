/- What impl's and spec's CondHolds answer, of any condition and any call. -/
import Derived.Test.YtoknlaaghjlnaaaCondOkIS
namespace Go.Proofs.Ytoknlaaghjlnaaa
open Go.RowKit
set_option linter.unusedVariables false

set_option maxRecDepth 100000 in
set_option maxHeartbeats 1600000 in
theorem isAs_any (n cm : Int) (w : World) (h1 : 1 ≤ cm) (h6 : cm ≤ 6) : Calls Try.prog 63 #[.int .i64 n, .int .i64 cm] w fun e w' => e = .returned (.bool (asB n cm)) ∧ Ext w w' := by
  have HE : Hid (∀ o, Ext w (w.alloc o)) := fun o => Ext.one w o
  have sN : ∀ (p : Addr) (W : World) m, (store p .nilFunc m).run Try.prog W = stored Try.prog W p .nilFunc m := fun p W m => run_store Try.prog W p _ m rfl
  have sF : ∀ (p : Addr) (W : World) (f : Nat) m, (store p (.func (.func f) #[] #[]) m).run Try.prog W = stored Try.prog W p (.func (.func f) #[] #[]) m := fun p W f m => run_store Try.prog W p _ m rfl
  have hc : cm = 1 ∨ cm = 2 ∨ cm = 3 ∨ cm = 4 ∨ cm = 5 ∨ cm = 6 := by omega
  clear h1 h6
  rcases hc with rfl | rfl | rfl | rfl | rfl | rfl
  · go_enter Try.func63, Try.ntmps63
    go_wp2_with (go_at_call 88; refine (oSame_any _ _).mono ?_; rintro e w' ⟨rfl, rfl⟩)
    go_ret
    exact ⟨rfl, HE.out _⟩
  · go_enter Try.func63, Try.ntmps63
    go_wp2_with (go_at_call 89; refine (oNotSame_any _ _).mono ?_; rintro e w' ⟨rfl, rfl⟩)
    go_ret
    exact ⟨rfl, HE.out _⟩
  · go_enter Try.func63, Try.ntmps63
    go_wp2_with (go_at_call 90; refine (oLess_any _ _).mono ?_; rintro e w' ⟨rfl, rfl⟩)
    go_ret
    exact ⟨rfl, HE.out _⟩
  · go_enter Try.func63, Try.ntmps63
    go_wp2_with (go_at_call 91; refine (oAtMost_any _ _).mono ?_; rintro e w' ⟨rfl, rfl⟩)
    go_ret
    exact ⟨rfl, HE.out _⟩
  · go_enter Try.func63, Try.ntmps63
    go_wp2_with (go_at_call 92; refine (oMore_any _ _).mono ?_; rintro e w' ⟨rfl, rfl⟩)
    go_ret
    exact ⟨rfl, HE.out _⟩
  · go_enter Try.func63, Try.ntmps63
    go_wp2_with (go_at_call 93; refine (oAtLeast_any _ _).mono ?_; rintro e w' ⟨rfl, rfl⟩)
    go_ret
    exact ⟨rfl, HE.out _⟩

theorem condH_no1 {c : CN} {arch num : Int} {ws : List (Int × Int)} (h : condB c = false) : condH c arch num ws = false := by simp [condH, h]

theorem condH_no2 {c : CN} {arch num : Int} {ws : List (Int × Int)} (h : callB arch num ws = false) : condH c arch num ws = false := by simp [condH, h]

theorem condH_yes {c : CN} {arch num : Int} {ws : List (Int × Int)} (h : condB c = true) (k : callB arch num ws = true) : condH c arch num ws = asB (cmpC c ws) c.cm := by simp [condH, h, k]

theorem condB_parts {c : CN} (h : condB c = true) : 0 ≤ c.arg ∧ c.arg ≤ 2 ∧ 1 ≤ c.cm ∧ c.cm ≤ 6 := by
  simp only [condB, Bool.and_eq_true, inB_true] at h
  exact ⟨h.1.1.1.1, h.1.1.1.2, h.1.1.2.1, h.1.1.2.2⟩

theorem callB_three {arch num : Int} {ws : List (Int × Int)} (h : callB arch num ws = true) : ws.length = 3 := by
  simp only [callB, Bool.and_eq_true, decide_eq_true_eq] at h
  exact h.1.2

set_option maxRecDepth 100000 in
set_option maxHeartbeats 1600000 in
theorem iCondHolds_any (ag mh ml cm vh vl : Int) (arch num : Int) (a : Option Addr) (cap : Nat) (ws : List (Int × Int)) (w : World) (hl : ws.length ≤ 1048576) (h : Wides w a ws) :
    Calls Try.prog 22 #[.agg #[.int .i64 ag, .int .i64 mh, .int .i64 ml, .int .i64 cm, .int .i64 vh, .int .i64 vl], .agg #[.int .i64 arch, .int .i64 num, .slice a ws.length cap]] w fun e w' => e = .returned (.bool (condH ⟨ag, mh, ml, cm, vh, vl⟩ arch num ws)) ∧ Ext w w' := by
  have HW : Hid (∀ W, Ext w W → Wides W a ws) := fun W hE => h.below hE (Nat.le_refl _)
  clear h
  go_enter Try.func22, Try.ntmps22
  go_wp2_with fail
  refine (iCondOk_any ag mh ml cm vh vl _).mono ?_
  rintro e w1 ⟨rfl, x1⟩
  have c1 := ((CellsAt.new w [.int .i64 ag, .int .i64 mh, .int .i64 ml, .int .i64 cm, .int .i64 vh, .int .i64 vl] 44).step (Ext.one _ _)).step x1
  have d1 := (CellsAt.new' (w.alloc (.cells #[.int .i64 ag, .int .i64 mh, .int .i64 ml, .int .i64 cm, .int .i64 vh, .int .i64 vl] 44)) [.int .i64 arch, .int .i64 num, .slice a ws.length cap] 29 (w.heap.size + 1) (by simp)).step x1
  have X1 : Hid (Ext w w1) := ((Ext.one w _).alloc _).trans x1
  clear x1
  cases hc : condB ⟨ag, mh, ml, cm, vh, vl⟩
  · have HN : Hid (condH ⟨ag, mh, ml, cm, vh, vl⟩ arch num ws = false) := condH_no1 hc
    clear c1 d1 hc
    go_wp2
    go_ret
    exact ⟨by rw [HN.out]; rfl, X1.out⟩
  obtain ⟨q1, q2, q3⟩ := (⟨d1.2 0 _ rfl, d1.2 1 _ rfl, d1.2 2 _ rfl⟩ : _ ∧ _ ∧ _)
  go_wp2_with fail
  refine (iCall_any arch num a cap ws _ hl (HW.out _ X1.out)).mono ?_
  rintro e w2 ⟨rfl, x2⟩
  have c2 := c1.step x2
  have d2 := d1.step x2
  have X2 : Hid (Ext w w2) := X1.out.trans x2
  clear x2 q1 q2 q3 c1 d1
  cases hk : callB arch num ws
  · have HN : Hid (condH ⟨ag, mh, ml, cm, vh, vl⟩ arch num ws = false) := condH_no2 hk
    clear c2 d2 hc hk
    go_wp2
    go_ret
    exact ⟨by rw [HN.out]; rfl, X2.out⟩
  have HP : Hid (condH ⟨ag, mh, ml, cm, vh, vl⟩ arch num ws = asB (cmpC ⟨ag, mh, ml, cm, vh, vl⟩ ws) cm) := condH_yes hc hk
  obtain ⟨a0, a2, m1, m6⟩ := condB_parts hc
  simp only at a0 a2 m1 m6
  obtain ⟨k, rfl⟩ : ∃ k : Nat, ag = k := ⟨ag.toNat, by omega⟩
  have h3 : ws.length = 3 := callB_three hk
  obtain ⟨p, hp⟩ : ∃ p, p = ws.getD k (0, 0) := ⟨_, rfl⟩
  obtain ⟨x, y⟩ := p
  have HC : Hid (cmpC ⟨(k : Int), mh, ml, cm, vh, vl⟩ ws = cmpW (andW (x, y) (mh, ml)) (vh, vl)) := by unfold Hid cmpC; rw [hp]; simp
  obtain ⟨b, off, rfl, p2⟩ := (HW.out _ X2.out).pair (k := k) (by omega) hp
  rw [h3] at d2 ⊢
  have bk : (k : Int) < 3 := by omega
  clear hc hk hp h3 hl HW
  obtain ⟨z, hz⟩ : ∃ z, z = andW (x, y) (mh, ml) := ⟨_, rfl⟩
  have HA : Hid (∀ W : World, Calls Try.prog 61 #[.agg #[.int .i64 x, .int .i64 y], .agg #[.int .i64 mh, .int .i64 ml]] W fun e w' => e = .returned (.agg #[.int .i64 z.1, .int .i64 z.2]) ∧ Below W.heap.size W w') := fun W => by rw [hz]; exact iAnd_any x y mh ml W
  have HC2 : Hid (cmpC ⟨(k : Int), mh, ml, cm, vh, vl⟩ ws = cmpW z (vh, vl)) := by unfold Hid; rw [HC.out, hz]
  clear hz HC
  obtain ⟨z1, z2⟩ := z
  go_wp2_with fail
  refine' wp_region_loose_tail 10 (.inl _ :: .inl _ :: .inl _ :: .inl _ :: .inl _ :: .inl _ :: .inl _ :: .inl _ :: .inl _ :: .inr (fun v w' => ∃ g, v = .pointer (some ⟨g, 0, none⟩) ∧ w.heap.size + 1 < g ∧ Box w' g 0 0) :: []) (fun w' => CellsAt w' w.heap.size [.int .i64 (k : Int), .int .i64 mh, .int .i64 ml, .int .i64 cm, .int .i64 vh, .int .i64 vl] ∧ CellsAt w' (w.heap.size + 1) [.int .i64 arch, .int .i64 num, .slice (some ⟨b, off, none⟩) 3 cap] ∧ Pair w' b (off + k * 2) x y) (by kernel_rfl) (by kernel_rfl) (⟨c2.drew, d2.drew, p2⟩) (fun _ _ h hE => ⟨h.1.step hE, h.2.1.step hE, h.2.2.step hE⟩) ?hAa ?hla ?hMa
  case' hMa => skip
  simp only [List.take_succ_cons, List.take_zero, List.drop_succ_cons, List.drop_zero]
  apply wpLoose_val rfl rfl
  case hs =>
    intro w1 hC hd Q1 hQ1
    obtain ⟨hE, hS⟩ := hC
    dsimp only [bare]
    obtain ⟨q1, q2, q3, q4, ⟨_, q5, q6⟩⟩ := (⟨hS.1.2 0 _ rfl, hS.1.2 1 _ rfl, hS.1.2 2 _ rfl, hS.2.1.2 2 _ rfl, hS.2.2⟩ : _ ∧ _ ∧ _ ∧ _ ∧ _)
    clear hd hE
    try clear hS
    go_wp2
    exact Ext.refl _
  case ha => rfl
  apply wpLoose_val rfl rfl
  case hs =>
    intro w1 hC hd Q1 hQ1
    obtain ⟨hE, hS⟩ := hC
    dsimp only [bare]
    obtain ⟨q1, q2, q3, q4, ⟨_, q5, q6⟩⟩ := (⟨hS.1.2 0 _ rfl, hS.1.2 1 _ rfl, hS.1.2 2 _ rfl, hS.2.1.2 2 _ rfl, hS.2.2⟩ : _ ∧ _ ∧ _ ∧ _ ∧ _)
    clear hd hE
    try clear hS
    go_wp2
    exact Ext.refl _
  case ha => rfl
  apply wpLoose_val rfl rfl
  case hs =>
    intro w1 hC hd Q1 hQ1
    obtain ⟨hE, hS⟩ := hC
    dsimp only [bare]
    obtain ⟨q1, q2, q3, q4, ⟨_, q5, q6⟩⟩ := (⟨hS.1.2 0 _ rfl, hS.1.2 1 _ rfl, hS.1.2 2 _ rfl, hS.2.1.2 2 _ rfl, hS.2.2⟩ : _ ∧ _ ∧ _ ∧ _ ∧ _)
    clear hd hE
    try clear hS
    go_wp2
    exact Ext.refl _
  case ha => rfl
  apply wpLoose_val rfl rfl
  case hs =>
    intro w1 hC hd Q1 hQ1
    obtain ⟨hE, hS⟩ := hC
    dsimp only [bare]
    obtain ⟨q1, q2, q3, q4, ⟨_, q5, q6⟩⟩ := (⟨hS.1.2 0 _ rfl, hS.1.2 1 _ rfl, hS.1.2 2 _ rfl, hS.2.1.2 2 _ rfl, hS.2.2⟩ : _ ∧ _ ∧ _ ∧ _ ∧ _)
    clear hd hE
    try clear hS
    go_wp2
    exact Ext.refl _
  case ha => rfl
  apply wpLoose_val rfl rfl
  case hs =>
    intro w1 hC hd Q1 hQ1
    obtain ⟨hE, hS⟩ := hC
    dsimp only [bare]
    obtain ⟨q1, q2, q3, q4, ⟨_, q5, q6⟩⟩ := (⟨hS.1.2 0 _ rfl, hS.1.2 1 _ rfl, hS.1.2 2 _ rfl, hS.2.1.2 2 _ rfl, hS.2.2⟩ : _ ∧ _ ∧ _ ∧ _ ∧ _)
    clear hd hE
    try clear hS
    go_wp2
    exact Ext.refl _
  case ha => rfl
  apply wpLoose_val rfl rfl
  case hs =>
    intro w1 hC hd Q1 hQ1
    obtain ⟨hE, hS⟩ := hC
    dsimp only [bare]
    obtain ⟨q1, q2, q3, q4, ⟨_, q5, q6⟩⟩ := (⟨hS.1.2 0 _ rfl, hS.1.2 1 _ rfl, hS.1.2 2 _ rfl, hS.2.1.2 2 _ rfl, hS.2.2⟩ : _ ∧ _ ∧ _ ∧ _ ∧ _)
    clear hd hE
    try clear hS
    go_wp2
    exact Ext.refl _
  case ha => rfl
  apply wpLoose_val rfl rfl
  case hs =>
    intro w1 hC hd Q1 hQ1
    obtain ⟨hE, hS⟩ := hC
    dsimp only [bare]
    obtain ⟨q1, q2, q3, q4, ⟨_, q5, q6⟩⟩ := (⟨hS.1.2 0 _ rfl, hS.1.2 1 _ rfl, hS.1.2 2 _ rfl, hS.2.1.2 2 _ rfl, hS.2.2⟩ : _ ∧ _ ∧ _ ∧ _ ∧ _)
    clear hd hE
    try clear hS
    go_wp2
    exact Ext.refl _
  case ha => rfl
  apply wpLoose_val rfl rfl
  case hs =>
    intro w1 hC hd Q1 hQ1
    obtain ⟨hE, hS⟩ := hC
    dsimp only [bare]
    obtain ⟨q1, q2, q3, q4, ⟨_, q5, q6⟩⟩ := (⟨hS.1.2 0 _ rfl, hS.1.2 1 _ rfl, hS.1.2 2 _ rfl, hS.2.1.2 2 _ rfl, hS.2.2⟩ : _ ∧ _ ∧ _ ∧ _ ∧ _)
    clear hd hE
    try clear hS
    go_wp2
    exact Ext.refl _
  case ha => rfl
  apply wpLoose_val rfl rfl
  case hs =>
    intro w1 hC hd Q1 hQ1
    obtain ⟨hE, hS⟩ := hC
    dsimp only [bare]
    clear hd
    go_wp2_with fail
    refine (HA.out _).mono ?_
    rintro e w2 ⟨rfl, hb⟩
    go_wp2_with fail
    exact hb
  case ha => rfl
  refine wpLoose_rel rfl rfl ?_ (fun va_9 => ?_)
  · intro w1 hC hd Q1 hQ1
    obtain ⟨hE, hS⟩ := hC
    dsimp only [bare]
    have hz := hS.2.1.1
    clear hd hS hE
    go_wp2
    exact hQ1 _ _ ((Below.refl _ _).alloc (Nat.le_refl _) _) ⟨_, rfl, hz, Box.new _ _ _ _⟩
  refine wpLoose_nil ?_
  intro wa hEa hSa hFa
  obtain ⟨g, rfl, hg, bx⟩ := hFa 9 _ rfl (by decide) (by simp [Act.put])
  have X3 : Hid (Ext w ((wa.setCell ⟨g, 0, none⟩ (.int .i64 z1)).setCell ⟨g, 1, none⟩ (.int .i64 z2))) := by
    have := X2.out.drew.trans hEa
    exact (this.setCell (by show w.heap.size ≤ g; omega) _).setCell (by show w.heap.size ≤ g; omega) _
  have b1 := bx.stored z1 z2
  have c3 : CellsAt ((wa.setCell ⟨g, 0, none⟩ (.int .i64 z1)).setCell ⟨g, 1, none⟩ (.int .i64 z2)) w.heap.size [.int .i64 (k : Int), .int .i64 mh, .int .i64 ml, .int .i64 cm, .int .i64 vh, .int .i64 vl] := (hSa.1.set (by omega) _ _).set (by omega) _ _
  obtain ⟨bl, ⟨e0, e1⟩, ⟨f0, f1⟩⟩ := bx
  clear hFa hEa hSa c2 d2 p2 X2 X1
  simp only [Act.put]
  go_wp2_with fail
  generalize (wa.setCell ⟨g, 0, none⟩ (.int .i64 z1)).setCell ⟨g, 1, none⟩ (.int .i64 z2) = W3 at *
  clear bl e0 e1 f0 f1
  refine' wp_region_loose (.inl _ :: .inl _ :: .inl _ :: .inl _ :: .inl _ :: .inl _ :: .inl _ :: .inl _ :: []) (fun w' => CellsAt w' w.heap.size [.int .i64 (k : Int), .int .i64 mh, .int .i64 ml, .int .i64 cm, .int .i64 vh, .int .i64 vl] ∧ Box w' g z1 z2) (by kernel_rfl) (by kernel_rfl) (⟨c3.drew, b1.drew⟩) (fun _ _ h hE => ⟨h.1.step hE, h.2.step hE⟩) ?hAb ?hlb ?hMb
  case' hMb => skip
  apply wpLoose_val rfl rfl
  case hs =>
    intro w1 hC hd Q1 hQ1
    obtain ⟨hE, hS⟩ := hC
    dsimp only [bare]
    obtain ⟨q1, q2, q3, q4, q5⟩ := (⟨hS.1.2 3 _ rfl, hS.1.2 4 _ rfl, hS.1.2 5 _ rfl, hS.2.2.1.1, hS.2.2.1.2⟩ : _ ∧ _ ∧ _ ∧ _ ∧ _)
    clear hd hE
    try clear hS
    go_wp2
    exact Ext.refl _
  case ha => rfl
  apply wpLoose_val rfl rfl
  case hs =>
    intro w1 hC hd Q1 hQ1
    obtain ⟨hE, hS⟩ := hC
    dsimp only [bare]
    obtain ⟨q1, q2, q3, q4, q5⟩ := (⟨hS.1.2 3 _ rfl, hS.1.2 4 _ rfl, hS.1.2 5 _ rfl, hS.2.2.1.1, hS.2.2.1.2⟩ : _ ∧ _ ∧ _ ∧ _ ∧ _)
    clear hd hE
    try clear hS
    go_wp2
    exact Ext.refl _
  case ha => rfl
  apply wpLoose_val rfl rfl
  case hs =>
    intro w1 hC hd Q1 hQ1
    obtain ⟨hE, hS⟩ := hC
    dsimp only [bare]
    obtain ⟨q1, q2, q3, q4, q5⟩ := (⟨hS.1.2 3 _ rfl, hS.1.2 4 _ rfl, hS.1.2 5 _ rfl, hS.2.2.1.1, hS.2.2.1.2⟩ : _ ∧ _ ∧ _ ∧ _ ∧ _)
    clear hd hE
    try clear hS
    go_wp2
    exact Ext.refl _
  case ha => rfl
  apply wpLoose_val rfl rfl
  case hs =>
    intro w1 hC hd Q1 hQ1
    obtain ⟨hE, hS⟩ := hC
    dsimp only [bare]
    clear hd
    go_wp2_with fail
    refine (iCmp_any z1 z2 vh vl _).mono ?_
    rintro e w2 ⟨rfl, hb⟩
    go_wp2_with fail
    exact hb
  case ha => rfl
  apply wpLoose_val rfl rfl
  case hs =>
    intro w1 hC hd Q1 hQ1
    obtain ⟨hE, hS⟩ := hC
    dsimp only [bare]
    obtain ⟨q1, q2, q3, q4, q5⟩ := (⟨hS.1.2 3 _ rfl, hS.1.2 4 _ rfl, hS.1.2 5 _ rfl, hS.2.2.1.1, hS.2.2.1.2⟩ : _ ∧ _ ∧ _ ∧ _ ∧ _)
    clear hd hE
    try clear hS
    go_wp2
    exact Ext.refl _
  case ha => rfl
  apply wpLoose_val rfl rfl
  case hs =>
    intro w1 hC hd Q1 hQ1
    obtain ⟨hE, hS⟩ := hC
    dsimp only [bare]
    obtain ⟨q1, q2, q3, q4, q5⟩ := (⟨hS.1.2 3 _ rfl, hS.1.2 4 _ rfl, hS.1.2 5 _ rfl, hS.2.2.1.1, hS.2.2.1.2⟩ : _ ∧ _ ∧ _ ∧ _ ∧ _)
    clear hd hE
    try clear hS
    go_wp2
    exact Ext.refl _
  case ha => rfl
  apply wpLoose_val rfl rfl
  case hs =>
    intro w1 hC hd Q1 hQ1
    obtain ⟨hE, hS⟩ := hC
    dsimp only [bare]
    clear hd
    go_wp2_with fail
    refine (isAs_any _ cm _ m1 m6).mono ?_
    rintro e w2 ⟨rfl, hb⟩
    go_wp2_with fail
    exact hb
  case ha => rfl
  apply wpLoose_val rfl rfl
  case hs =>
    intro w1 hC hd Q1 hQ1
    obtain ⟨hE, hS⟩ := hC
    dsimp only [bare]
    obtain ⟨q1, q2, q3, q4, q5⟩ := (⟨hS.1.2 3 _ rfl, hS.1.2 4 _ rfl, hS.1.2 5 _ rfl, hS.2.2.1.1, hS.2.2.1.2⟩ : _ ∧ _ ∧ _ ∧ _ ∧ _)
    clear hd hE
    try clear hS
    go_wp2
    exact Ext.refl _
  case ha => rfl
  refine wpLoose_nil ?_
  intro wb hEb hSb hFb
  have X4 : Hid (Ext w wb) := X3.out.drew.trans hEb
  clear hFb hEb hSb c3 b1 X3
  go_wp2
  go_ret
  exact ⟨by rw [HP.out, HC2.out]; rfl, X4.out⟩
  case hAb => kernel_rfl
  case hlb => exact ⟨trivial, trivial, trivial, trivial, trivial, trivial, trivial, trivial, trivial⟩
  case hAa => kernel_rfl
  case hla => exact ⟨trivial, trivial, trivial, trivial, trivial, trivial, trivial, trivial, trivial, fun _ _ _ ⟨g, hv, hg, h⟩ hE => ⟨g, hv, hg, h.step hE⟩, trivial⟩

set_option maxRecDepth 100000 in
set_option maxHeartbeats 1600000 in
theorem sCondHolds_any (ag mh ml cm vh vl : Int) (arch num : Int) (a : Option Addr) (cap : Nat) (ws : List (Int × Int)) (w : World) (hl : ws.length ≤ 1048576) (h : Wides w a ws) :
    Calls Try.prog 26 #[.agg #[.int .i64 ag, .int .i64 mh, .int .i64 ml, .int .i64 cm, .int .i64 vh, .int .i64 vl], .agg #[.int .i64 arch, .int .i64 num, .slice a ws.length cap]] w fun e w' => e = .returned (.bool (condH ⟨ag, mh, ml, cm, vh, vl⟩ arch num ws)) ∧ Ext w w' := by
  have HW : Hid (∀ W, Ext w W → Wides W a ws) := fun W hE => h.below hE (Nat.le_refl _)
  clear h
  go_enter Try.func26, Try.ntmps26
  go_wp2_with fail
  refine (sCondOk_any ag mh ml cm vh vl _).mono ?_
  rintro e w1 ⟨rfl, x1⟩
  have c1 := ((CellsAt.new w [.int .i64 ag, .int .i64 mh, .int .i64 ml, .int .i64 cm, .int .i64 vh, .int .i64 vl] 44).step (Ext.one _ _)).step x1
  have d1 := (CellsAt.new' (w.alloc (.cells #[.int .i64 ag, .int .i64 mh, .int .i64 ml, .int .i64 cm, .int .i64 vh, .int .i64 vl] 44)) [.int .i64 arch, .int .i64 num, .slice a ws.length cap] 29 (w.heap.size + 1) (by simp)).step x1
  have X1 : Hid (Ext w w1) := ((Ext.one w _).alloc _).trans x1
  clear x1
  cases hc : condB ⟨ag, mh, ml, cm, vh, vl⟩
  · have HN : Hid (condH ⟨ag, mh, ml, cm, vh, vl⟩ arch num ws = false) := condH_no1 hc
    clear c1 d1 hc
    go_wp2
    go_ret
    exact ⟨by rw [HN.out]; rfl, X1.out⟩
  obtain ⟨q1, q2, q3⟩ := (⟨d1.2 0 _ rfl, d1.2 1 _ rfl, d1.2 2 _ rfl⟩ : _ ∧ _ ∧ _)
  go_wp2_with fail
  refine (sCall_any arch num a cap ws _ hl (HW.out _ X1.out)).mono ?_
  rintro e w2 ⟨rfl, x2⟩
  have c2 := c1.step x2
  have d2 := d1.step x2
  have X2 : Hid (Ext w w2) := X1.out.trans x2
  clear x2 q1 q2 q3 c1 d1
  cases hk : callB arch num ws
  · have HN : Hid (condH ⟨ag, mh, ml, cm, vh, vl⟩ arch num ws = false) := condH_no2 hk
    clear c2 d2 hc hk
    go_wp2
    go_ret
    exact ⟨by rw [HN.out]; rfl, X2.out⟩
  have HP : Hid (condH ⟨ag, mh, ml, cm, vh, vl⟩ arch num ws = asB (cmpC ⟨ag, mh, ml, cm, vh, vl⟩ ws) cm) := condH_yes hc hk
  obtain ⟨a0, a2, m1, m6⟩ := condB_parts hc
  simp only at a0 a2 m1 m6
  obtain ⟨k, rfl⟩ : ∃ k : Nat, ag = k := ⟨ag.toNat, by omega⟩
  have h3 : ws.length = 3 := callB_three hk
  obtain ⟨p, hp⟩ : ∃ p, p = ws.getD k (0, 0) := ⟨_, rfl⟩
  obtain ⟨x, y⟩ := p
  obtain ⟨n, hn⟩ : ∃ n, n = cmpW (andW (x, y) (mh, ml)) (vh, vl) := ⟨_, rfl⟩
  have HC : Hid (cmpC ⟨(k : Int), mh, ml, cm, vh, vl⟩ ws = n) := by unfold Hid cmpC; rw [hn, hp]; simp
  obtain ⟨b, off, rfl, p2⟩ := (HW.out _ X2.out).pair (k := k) (by omega) hp
  rw [h3] at d2 ⊢
  have bk : (k : Int) < 3 := by omega
  clear hc hk hp h3 hl HW
  obtain ⟨z, hz⟩ : ∃ z, z = andW (x, y) (mh, ml) := ⟨_, rfl⟩
  have HA : Hid (∀ W : World, Calls Try.prog 20 #[.agg #[.int .i64 x, .int .i64 y], .agg #[.int .i64 mh, .int .i64 ml]] W fun e w' => e = .returned (.agg #[.int .i64 z.1, .int .i64 z.2]) ∧ Below W.heap.size W w') := fun W => by rw [hz]; exact sAnd_any x y mh ml W
  rw [← hz] at hn
  clear hz
  obtain ⟨z1, z2⟩ := z
  have HM : Hid (∀ W : World, Calls Try.prog 21 #[.agg #[.int .i64 z1, .int .i64 z2], .agg #[.int .i64 vh, .int .i64 vl]] W fun e w' => e = .returned (.int .i64 n) ∧ Below W.heap.size W w') := fun W => by rw [hn]; exact sCmp_any z1 z2 vh vl W
  clear hn
  have HA2 : Hid (∀ W : World, Calls Try.prog 20 #[.agg #[.int .i64 x, .int .i64 y], .agg #[.int .i64 mh, .int .i64 ml]] W fun e w' => e = .returned (.agg #[.int .i64 z1, .int .i64 z2]) ∧ Below W.heap.size W w') := HA.out
  clear HA
  go_wp2_with fail
  refine' wp_region_loose (.inl _ :: .inl _ :: .inl _ :: .inl _ :: .inl _ :: .inl _ :: .inl _ :: .inl _ :: .inl _ :: .inl _ :: .inl _ :: .inl _ :: .inl _ :: []) (fun w' => CellsAt w' w.heap.size [.int .i64 (k : Int), .int .i64 mh, .int .i64 ml, .int .i64 cm, .int .i64 vh, .int .i64 vl] ∧ CellsAt w' (w.heap.size + 1) [.int .i64 arch, .int .i64 num, .slice (some ⟨b, off, none⟩) 3 cap] ∧ Pair w' b (off + k * 2) x y) (by kernel_rfl) (by kernel_rfl) (⟨c2.drew, d2.drew, p2⟩) (fun _ _ h hE => ⟨h.1.step hE, h.2.1.step hE, h.2.2.step hE⟩) ?hAa ?hla ?hMa
  case' hMa => skip
  apply wpLoose_val rfl rfl
  case hs =>
    intro w1 hC hd Q1 hQ1
    obtain ⟨hE, hS⟩ := hC
    dsimp only [bare]
    obtain ⟨q1, q2, q3, q4, ⟨_, q5, q6⟩, q7, q8⟩ := (⟨hS.1.2 0 _ rfl, hS.1.2 1 _ rfl, hS.1.2 2 _ rfl, hS.2.1.2 2 _ rfl, hS.2.2, hS.1.2 4 _ rfl, hS.1.2 5 _ rfl⟩ : _ ∧ _ ∧ _ ∧ _ ∧ _ ∧ _ ∧ _)
    clear hd hE
    try clear hS
    go_wp2
    exact Ext.refl _
  case ha => rfl
  apply wpLoose_val rfl rfl
  case hs =>
    intro w1 hC hd Q1 hQ1
    obtain ⟨hE, hS⟩ := hC
    dsimp only [bare]
    obtain ⟨q1, q2, q3, q4, ⟨_, q5, q6⟩, q7, q8⟩ := (⟨hS.1.2 0 _ rfl, hS.1.2 1 _ rfl, hS.1.2 2 _ rfl, hS.2.1.2 2 _ rfl, hS.2.2, hS.1.2 4 _ rfl, hS.1.2 5 _ rfl⟩ : _ ∧ _ ∧ _ ∧ _ ∧ _ ∧ _ ∧ _)
    clear hd hE
    try clear hS
    go_wp2
    exact Ext.refl _
  case ha => rfl
  apply wpLoose_val rfl rfl
  case hs =>
    intro w1 hC hd Q1 hQ1
    obtain ⟨hE, hS⟩ := hC
    dsimp only [bare]
    obtain ⟨q1, q2, q3, q4, ⟨_, q5, q6⟩, q7, q8⟩ := (⟨hS.1.2 0 _ rfl, hS.1.2 1 _ rfl, hS.1.2 2 _ rfl, hS.2.1.2 2 _ rfl, hS.2.2, hS.1.2 4 _ rfl, hS.1.2 5 _ rfl⟩ : _ ∧ _ ∧ _ ∧ _ ∧ _ ∧ _ ∧ _)
    clear hd hE
    try clear hS
    go_wp2
    exact Ext.refl _
  case ha => rfl
  apply wpLoose_val rfl rfl
  case hs =>
    intro w1 hC hd Q1 hQ1
    obtain ⟨hE, hS⟩ := hC
    dsimp only [bare]
    obtain ⟨q1, q2, q3, q4, ⟨_, q5, q6⟩, q7, q8⟩ := (⟨hS.1.2 0 _ rfl, hS.1.2 1 _ rfl, hS.1.2 2 _ rfl, hS.2.1.2 2 _ rfl, hS.2.2, hS.1.2 4 _ rfl, hS.1.2 5 _ rfl⟩ : _ ∧ _ ∧ _ ∧ _ ∧ _ ∧ _ ∧ _)
    clear hd hE
    try clear hS
    go_wp2
    exact Ext.refl _
  case ha => rfl
  apply wpLoose_val rfl rfl
  case hs =>
    intro w1 hC hd Q1 hQ1
    obtain ⟨hE, hS⟩ := hC
    dsimp only [bare]
    obtain ⟨q1, q2, q3, q4, ⟨_, q5, q6⟩, q7, q8⟩ := (⟨hS.1.2 0 _ rfl, hS.1.2 1 _ rfl, hS.1.2 2 _ rfl, hS.2.1.2 2 _ rfl, hS.2.2, hS.1.2 4 _ rfl, hS.1.2 5 _ rfl⟩ : _ ∧ _ ∧ _ ∧ _ ∧ _ ∧ _ ∧ _)
    clear hd hE
    try clear hS
    go_wp2
    exact Ext.refl _
  case ha => rfl
  apply wpLoose_val rfl rfl
  case hs =>
    intro w1 hC hd Q1 hQ1
    obtain ⟨hE, hS⟩ := hC
    dsimp only [bare]
    obtain ⟨q1, q2, q3, q4, ⟨_, q5, q6⟩, q7, q8⟩ := (⟨hS.1.2 0 _ rfl, hS.1.2 1 _ rfl, hS.1.2 2 _ rfl, hS.2.1.2 2 _ rfl, hS.2.2, hS.1.2 4 _ rfl, hS.1.2 5 _ rfl⟩ : _ ∧ _ ∧ _ ∧ _ ∧ _ ∧ _ ∧ _)
    clear hd hE
    try clear hS
    go_wp2
    exact Ext.refl _
  case ha => rfl
  apply wpLoose_val rfl rfl
  case hs =>
    intro w1 hC hd Q1 hQ1
    obtain ⟨hE, hS⟩ := hC
    dsimp only [bare]
    obtain ⟨q1, q2, q3, q4, ⟨_, q5, q6⟩, q7, q8⟩ := (⟨hS.1.2 0 _ rfl, hS.1.2 1 _ rfl, hS.1.2 2 _ rfl, hS.2.1.2 2 _ rfl, hS.2.2, hS.1.2 4 _ rfl, hS.1.2 5 _ rfl⟩ : _ ∧ _ ∧ _ ∧ _ ∧ _ ∧ _ ∧ _)
    clear hd hE
    try clear hS
    go_wp2
    exact Ext.refl _
  case ha => rfl
  apply wpLoose_val rfl rfl
  case hs =>
    intro w1 hC hd Q1 hQ1
    obtain ⟨hE, hS⟩ := hC
    dsimp only [bare]
    obtain ⟨q1, q2, q3, q4, ⟨_, q5, q6⟩, q7, q8⟩ := (⟨hS.1.2 0 _ rfl, hS.1.2 1 _ rfl, hS.1.2 2 _ rfl, hS.2.1.2 2 _ rfl, hS.2.2, hS.1.2 4 _ rfl, hS.1.2 5 _ rfl⟩ : _ ∧ _ ∧ _ ∧ _ ∧ _ ∧ _ ∧ _)
    clear hd hE
    try clear hS
    go_wp2
    exact Ext.refl _
  case ha => rfl
  apply wpLoose_val rfl rfl
  case hs =>
    intro w1 hC hd Q1 hQ1
    obtain ⟨hE, hS⟩ := hC
    dsimp only [bare]
    clear hd
    go_wp2_with fail
    refine (HA2.out _).mono ?_
    rintro e w2 ⟨rfl, hb⟩
    go_wp2_with fail
    exact hb
  case ha => rfl
  apply wpLoose_val rfl rfl
  case hs =>
    intro w1 hC hd Q1 hQ1
    obtain ⟨hE, hS⟩ := hC
    dsimp only [bare]
    obtain ⟨q1, q2, q3, q4, ⟨_, q5, q6⟩, q7, q8⟩ := (⟨hS.1.2 0 _ rfl, hS.1.2 1 _ rfl, hS.1.2 2 _ rfl, hS.2.1.2 2 _ rfl, hS.2.2, hS.1.2 4 _ rfl, hS.1.2 5 _ rfl⟩ : _ ∧ _ ∧ _ ∧ _ ∧ _ ∧ _ ∧ _)
    clear hd hE
    try clear hS
    go_wp2
    exact Ext.refl _
  case ha => rfl
  apply wpLoose_val rfl rfl
  case hs =>
    intro w1 hC hd Q1 hQ1
    obtain ⟨hE, hS⟩ := hC
    dsimp only [bare]
    obtain ⟨q1, q2, q3, q4, ⟨_, q5, q6⟩, q7, q8⟩ := (⟨hS.1.2 0 _ rfl, hS.1.2 1 _ rfl, hS.1.2 2 _ rfl, hS.2.1.2 2 _ rfl, hS.2.2, hS.1.2 4 _ rfl, hS.1.2 5 _ rfl⟩ : _ ∧ _ ∧ _ ∧ _ ∧ _ ∧ _ ∧ _)
    clear hd hE
    try clear hS
    go_wp2
    exact Ext.refl _
  case ha => rfl
  apply wpLoose_val rfl rfl
  case hs =>
    intro w1 hC hd Q1 hQ1
    obtain ⟨hE, hS⟩ := hC
    dsimp only [bare]
    clear hd
    go_wp2_with fail
    refine (HM.out _).mono ?_
    rintro e w2 ⟨rfl, hb⟩
    go_wp2_with fail
    exact hb
  case ha => rfl
  apply wpLoose_val rfl rfl
  case hs =>
    intro w1 hC hd Q1 hQ1
    obtain ⟨hE, hS⟩ := hC
    dsimp only [bare]
    obtain ⟨q1, q2, q3, q4, ⟨_, q5, q6⟩, q7, q8⟩ := (⟨hS.1.2 0 _ rfl, hS.1.2 1 _ rfl, hS.1.2 2 _ rfl, hS.2.1.2 2 _ rfl, hS.2.2, hS.1.2 4 _ rfl, hS.1.2 5 _ rfl⟩ : _ ∧ _ ∧ _ ∧ _ ∧ _ ∧ _ ∧ _)
    clear hd hE
    try clear hS
    go_wp2
    exact Ext.refl _
  case ha => rfl
  refine wpLoose_nil ?_
  intro wa hEa hSa hFa
  have X4 : Hid (Ext w wa) := X2.out.drew.trans hEa
  have q3 := hSa.1.2 3 _ rfl
  clear hFa hEa hSa c2 d2 p2 X2 X1
  have hc : cm = 1 ∨ cm = 2 ∨ cm = 3 ∨ cm = 4 ∨ cm = 5 ∨ cm = 6 := by omega
  clear m1 m6
  rcases hc with rfl | rfl | rfl | rfl | rfl | rfl
  · go_wp2
    go_ret
    exact ⟨by rw [HP.out, HC.out]; rfl, X4.out⟩
  · go_wp2
    go_ret
    exact ⟨by rw [HP.out, HC.out]; rfl, X4.out⟩
  · go_wp2
    go_ret
    exact ⟨by rw [HP.out, HC.out]; rfl, X4.out⟩
  · go_wp2
    go_ret
    exact ⟨by rw [HP.out, HC.out]; rfl, X4.out⟩
  · go_wp2
    go_ret
    exact ⟨by rw [HP.out, HC.out]; rfl, X4.out⟩
  · go_wp2
    go_ret
    exact ⟨by rw [HP.out, HC.out]; rfl, X4.out⟩
  case hAa => kernel_rfl
  case hla => exact ⟨trivial, trivial, trivial, trivial, trivial, trivial, trivial, trivial, trivial, trivial, trivial, trivial, trivial, trivial⟩

end Go.Proofs.Ytoknlaaghjlnaaa
