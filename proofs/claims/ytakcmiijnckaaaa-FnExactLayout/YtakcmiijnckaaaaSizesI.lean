/- What impl's Sizes answers: the sizes that must be; nothing where lines are not right. -/
import Derived.Test.YtakcmiijnckaaaaPlanOfI
namespace Go.Proofs.Ytakcmiijnckaaaa
open Go.RowKit
set_option linter.unusedVariables false

set_option maxRecDepth 100000 in
set_option maxHeartbeats 4000000 in
theorem iSizes_no (a : Option Addr) (cap : Nat) (ls : List Ln) (w : World) (hl : ls.length ≤ 1048576) (ht : TextsP ls) (h : Lns w a ls) (hn : ¬ linesP ls) :
    Calls Try.prog 15 #[.slice a ls.length cap] w fun e w' => e = .returned (.slice none 0 0) ∧ Ext w w' := by
  have HL : Hid (Calls Try.prog 16 #[.slice a ls.length cap] w fun e w' => e = .returned (.bool false) ∧ Ext w w') := iLines_any a cap ls false w hl ht h (by simp [hn])
  generalize ls.length = n at *
  clear h hn hl ht
  go_enter Try.func15, Try.ntmps15
  go_wp2_with fail
  refine HL.out.mono ?_
  rintro e w2 ⟨rfl, e2⟩
  go_wp2
  go_ret
  exact ⟨rfl, e2⟩

set_option maxRecDepth 100000 in
set_option maxHeartbeats 8000000 in
theorem iSizes_yes (a : Option Addr) (cap : Nat) (ls : List Ln) (s : Nat → Nat) (w : World) (hl : linesP ls) (hs : sizesP ls s) (ht : TextsP ls) (h : Lns w a ls) :
    Calls Try.prog 15 #[.slice a ls.length cap] w fun e w' => ∃ g, e = .returned (.slice (some ⟨g, 0, none⟩) ls.length ls.length) ∧ w.heap.size ≤ g ∧ RowF w' g ls.length (fun i => (s i : Int)) ∧ Ext w w' := by
  obtain ⟨i0, hi, hz0, hz1, hz2⟩ := info_parts Try.infoI
  obtain ⟨n, hn⟩ : ∃ n, n = ls.length := ⟨_, rfl⟩
  have hn6 : n ≤ 600 := by have := hl.1; omega
  have hn1 : 1 ≤ n := by have := hl.1; omega
  have HA : Hid (n = ls.length ∧ sizesP ls s) := ⟨hn, hs⟩
  have HL : Hid (Calls Try.prog 16 #[.slice a n cap] w fun e w' => e = .returned (.bool true) ∧ Ext w w') := by rw [hn]; exact iLines_any a cap ls true w (by omega) ht h (by simp [hl])
  have HPL : Hid (∀ w1, Ext w w1 → Calls Try.prog 38 #[.slice a n cap] w1 fun e w' => ∃ B g, e = .returned (.agg #[.map (some B), .slice (some ⟨g, 0, none⟩) (n + 1) (n + 1)]) ∧ PlanP w' ls s B g 0 ∧ Ext w1 w') := fun w1 hE => by rw [hn]; exact planOf_any a cap ls s w1 hl hs ht (h.ext hE)
  rw [← hn]
  clear h hn hl hs ht
  go_enter Try.func15, Try.ntmps15
  go_wp2_with fail
  refine HL.out.mono ?_
  rintro e w2 ⟨rfl, e2⟩
  have X2 : Hid (Ext w w2) := e2
  clear e2 HL
  go_wp2_with fail
  refine (HPL.out _ X2.out).mono ?_
  rintro e w3 ⟨B, g, rfl, hp3, e3⟩
  have HX : Hid (PlanP (w3.alloc (.cells #[.map (some B), .slice (some ⟨g, 0, none⟩) (n + 1) (n + 1)] 61)) ls s B g 0 ∧ Two (w3.alloc (.cells #[.map (some B), .slice (some ⟨g, 0, none⟩) (n + 1) (n + 1)] 61)) w3.heap.size (.map (some B)) (.slice (some ⟨g, 0, none⟩) (n + 1) (n + 1)) ∧ Ext w (w3.alloc (.cells #[.map (some B), .slice (some ⟨g, 0, none⟩) (n + 1) (n + 1)] 61))) :=
    ⟨hp3.ext (Ext.one _ _), ⟨by simp, by simp [go_sem], by simp [go_sem], by simp [go_sem], by simp [go_sem]⟩, (X2.out.trans e3).alloc _⟩
  clear hp3 e3 HPL X2
  obtain ⟨W4, hW4⟩ : ∃ W, W = w3.alloc (.cells #[.map (some B), .slice (some ⟨g, 0, none⟩) (n + 1) (n + 1)] 61) := ⟨_, rfl⟩
  rw [← hW4] at HX
  have HS4 : Hid (W4.heap.size = w3.heap.size + 1) := by show _ = _; rw [hW4]; simp
  go_wp2_with (at_make; rw [← hW4]; refine wpList_make_full _ rfl _ _ 42 rfl W4.heap.size 3 i0 (.int .i64 0) 1 Try.underlying42 hi hz0 hz1 _ _ _ _ n rfl rfl (by omega) (by omega) (by rw [hz2]; omega) (by unfold maxLen; omega) (Nat.le_refl _) ?_; intro w5 hown5 hgrow5)
  clear hW4
  generalize w3.heap.size = bp at *
  have x5 : Ext W4 w5 := (Ext.refl W4).grown hgrow5 (Nat.le_refl _) (fun k hk => by cases hk)
  have m5 := made_nums hown5
  rw [HS4.out] at m5
  obtain ⟨q, hq⟩ : ∃ q, q = bp + 1 := ⟨_, rfl⟩
  rw [← hq] at m5 ⊢
  have HG : Hid (g ≠ q ∧ bp ≠ q ∧ w.heap.size ≤ q ∧ B ≠ q) := by
    obtain ⟨⟨hm, f, hr, _⟩, ht, hx⟩ := HX.out
    have h1 := hr.1
    have h2 := ht.1
    have h3 := hx.size
    have h4 := hm.lt
    have h5 := HS4.out
    exact ⟨by omega, by omega, by omega, by omega⟩
  have HX5 : Hid (PlanP w5 ls s B g 0 ∧ Two w5 bp (.map (some B)) (.slice (some ⟨g, 0, none⟩) (n + 1) (n + 1)) ∧ RowF w5 q n (fun _ => 0) ∧ Ext w w5) := ⟨HX.out.1.ext x5, HX.out.2.1.ext x5, m5, HX.out.2.2.trans x5⟩
  clear hq x5 m5 hown5 hgrow5 HX HS4
  go_loopw [16] (fun iv wr => ∃ k : Nat, iv = .int .i64 k ∧ k ≤ n ∧ Hid (PlanP wr ls s B g 0 ∧ Two wr bp (.map (some B)) (.slice (some ⟨g, 0, none⟩) (n + 1) (n + 1)) ∧ (∃ f, RowF wr q n f ∧ ∀ j, j < k → f j = (s j : Int)) ∧ Ext w wr)) (fun iv _ => n - (intOf iv).toNat)
  case atStart => exact ⟨0, rfl, by omega, HX5.out.1, HX5.out.2.1, ⟨_, HX5.out.2.2.1, fun j hj => by omega⟩, HX5.out.2.2.2⟩
  case round =>
    obtain ⟨k, rfl, hk, HX⟩ := hrel
    clear HX5
    by_cases hlt : k < n
    · have bk : (k : Int) < (n : Int) := by omega
      have bk1 : (k : Int) < (n : Int) + 1 := by omega
      have bk2 : (k : Int) + 1 < (n : Int) + 1 := by omega
      obtain ⟨_, t6, t7, _, _⟩ := HX.out.2.1
      obtain ⟨u, v, x1, x2, huv⟩ : ∃ u v, wr.cell? ⟨g, k, none⟩ = some (.int .i64 u) ∧ wr.cell? ⟨g, k + 1, none⟩ = some (.int .i64 v) ∧ (u - v = (s k : Int) ∧ -1800 ≤ u ∧ u ≤ 1800 ∧ -1800 ≤ v ∧ v ≤ 1800) := by
        obtain ⟨_, f, r1, r2⟩ := HX.out.1
        have h0 := HA.out.1
        refine ⟨_, _, (r1.2 k (by omega)).1, (r1.2 (k + 1) (by omega)).1, ?_⟩
        rw [r2 k (by omega) (by omega), r2 (k + 1) (by omega) (by omega)]
        have h1 := cnt_le HA.out.2 (n := ls.length) (Nat.le_refl _)
        have h2 := cnt_le HA.out.2 (n := k + 1) (by omega)
        have h3 : cnt s (k + 1) = cnt s k + s k := rfl
        omega
      have HU : Hid (u - v = (s k : Int)) := huv.1
      obtain ⟨_, hu1, hu2, hv1, hv2⟩ := huv
      go_wp2_with fail
      refine' wp_region_loose_tail 15 (.inl _ :: .inl _ :: .inl _ :: .inl _ :: .inl _ :: .inl _ :: .inl _ :: .inl _ :: .inl _ :: .inl _ :: .inl _ :: .inl _ :: .inl _ :: .inl _ :: .inl _ :: []) (fun w' => w'.cell? ⟨bp, 0, none⟩ = some (.map (some B)) ∧ w'.cell? ⟨bp, 1, none⟩ = some (.slice (some ⟨g, 0, none⟩) (n + 1) (n + 1)) ∧ w'.cell? ⟨g, k, none⟩ = some (.int .i64 u) ∧ w'.cell? ⟨g, k + 1, none⟩ = some (.int .i64 v)) (by kernel_rfl) (by kernel_rfl) (⟨t6, t7, x1, x2⟩) (fun _ _ h hE => ⟨(hE.cell (p := ⟨bp, 0, none⟩) (World.block_lt_of_cell? _ _ h.1)).trans h.1, (hE.cell (p := ⟨bp, 1, none⟩) (World.block_lt_of_cell? _ _ h.2.1)).trans h.2.1, (hE.cell (p := ⟨g, k, none⟩) (World.block_lt_of_cell? _ _ h.2.2.1)).trans h.2.2.1, (hE.cell (p := ⟨g, k + 1, none⟩) (World.block_lt_of_cell? _ _ h.2.2.2)).trans h.2.2.2⟩) ?hAa ?hla ?hMa
      case' hMa => skip
      simp only [List.take_succ_cons, List.take_zero, List.drop_succ_cons, List.drop_zero]
      apply wpLoose_val rfl rfl
      case hs =>
        intro w1 hC hd Q1 hQ1
        obtain ⟨hE, hS⟩ := hC
        dsimp only [bare]
        obtain ⟨q1, q2, q3, q4⟩ := hS
        clear hd hE
        try clear hS
        go_wp2
        exact Ext.refl _
      case ha => rfl
      apply wpLoose_val rfl rfl
      case hs =>
        intro w1 hC hd Q1 hQ1
        obtain ⟨hE, hS⟩ := hC
        dsimp only [bare]
        obtain ⟨q1, q2, q3, q4⟩ := hS
        clear hd hE
        try clear hS
        go_wp2
        exact Ext.refl _
      case ha => rfl
      apply wpLoose_val rfl rfl
      case hs =>
        intro w1 hC hd Q1 hQ1
        obtain ⟨hE, hS⟩ := hC
        dsimp only [bare]
        obtain ⟨q1, q2, q3, q4⟩ := hS
        clear hd hE
        try clear hS
        go_wp2
        exact Ext.refl _
      case ha => rfl
      apply wpLoose_val rfl rfl
      case hs =>
        intro w1 hC hd Q1 hQ1
        obtain ⟨hE, hS⟩ := hC
        dsimp only [bare]
        obtain ⟨q1, q2, q3, q4⟩ := hS
        clear hd hE
        try clear hS
        go_wp2
        exact Ext.refl _
      case ha => rfl
      apply wpLoose_val rfl rfl
      case hs =>
        intro w1 hC hd Q1 hQ1
        obtain ⟨hE, hS⟩ := hC
        dsimp only [bare]
        obtain ⟨q1, q2, q3, q4⟩ := hS
        clear hd hE
        try clear hS
        go_wp2
        exact Ext.refl _
      case ha => rfl
      apply wpLoose_val rfl rfl
      case hs =>
        intro w1 hC hd Q1 hQ1
        obtain ⟨hE, hS⟩ := hC
        dsimp only [bare]
        obtain ⟨q1, q2, q3, q4⟩ := hS
        clear hd hE
        try clear hS
        go_wp2
        exact Ext.refl _
      case ha => rfl
      apply wpLoose_val rfl rfl
      case hs =>
        intro w1 hC hd Q1 hQ1
        obtain ⟨hE, hS⟩ := hC
        dsimp only [bare]
        obtain ⟨q1, q2, q3, q4⟩ := hS
        clear hd hE
        try clear hS
        go_wp2
        exact Ext.refl _
      case ha => rfl
      apply wpLoose_val rfl rfl
      case hs =>
        intro w1 hC hd Q1 hQ1
        obtain ⟨hE, hS⟩ := hC
        dsimp only [bare]
        obtain ⟨q1, q2, q3, q4⟩ := hS
        clear hd hE
        try clear hS
        go_wp2
        exact Ext.refl _
      case ha => rfl
      apply wpLoose_val rfl rfl
      case hs =>
        intro w1 hC hd Q1 hQ1
        obtain ⟨hE, hS⟩ := hC
        dsimp only [bare]
        obtain ⟨q1, q2, q3, q4⟩ := hS
        clear hd hE
        try clear hS
        go_wp2
        exact Ext.refl _
      case ha => rfl
      apply wpLoose_val rfl rfl
      case hs =>
        intro w1 hC hd Q1 hQ1
        obtain ⟨hE, hS⟩ := hC
        dsimp only [bare]
        obtain ⟨q1, q2, q3, q4⟩ := hS
        clear hd hE
        try clear hS
        go_wp2
        exact Ext.refl _
      case ha => rfl
      apply wpLoose_val rfl rfl
      case hs =>
        intro w1 hC hd Q1 hQ1
        obtain ⟨hE, hS⟩ := hC
        dsimp only [bare]
        obtain ⟨q1, q2, q3, q4⟩ := hS
        clear hd hE
        try clear hS
        go_wp2
        exact Ext.refl _
      case ha => rfl
      apply wpLoose_val rfl rfl
      case hs =>
        intro w1 hC hd Q1 hQ1
        obtain ⟨hE, hS⟩ := hC
        dsimp only [bare]
        obtain ⟨q1, q2, q3, q4⟩ := hS
        clear hd hE
        try clear hS
        go_wp2
        exact Ext.refl _
      case ha => rfl
      apply wpLoose_val rfl rfl
      case hs =>
        intro w1 hC hd Q1 hQ1
        obtain ⟨hE, hS⟩ := hC
        dsimp only [bare]
        obtain ⟨q1, q2, q3, q4⟩ := hS
        clear hd hE
        try clear hS
        go_wp2
        exact Ext.refl _
      case ha => rfl
      apply wpLoose_val rfl rfl
      case hs =>
        intro w1 hC hd Q1 hQ1
        obtain ⟨hE, hS⟩ := hC
        dsimp only [bare]
        obtain ⟨q1, q2, q3, q4⟩ := hS
        clear hd hE
        try clear hS
        go_wp2
        exact Ext.refl _
      case ha => rfl
      apply wpLoose_val rfl rfl
      case hs =>
        intro w1 hC hd Q1 hQ1
        obtain ⟨hE, hS⟩ := hC
        dsimp only [bare]
        obtain ⟨q1, q2, q3, q4⟩ := hS
        clear hd hE
        try clear hS
        go_wp2
        exact Ext.refl _
      case ha => rfl
      refine wpLoose_nil ?_
      intro wa hEa hSa hFa
      have HX5 : Hid (PlanP wa ls s B g 0 ∧ Two wa bp (.map (some B)) (.slice (some ⟨g, 0, none⟩) (n + 1) (n + 1)) ∧ (∃ f, RowF wa q n f ∧ ∀ j, j < k → f j = (s j : Int)) ∧ Ext w wa) := by
        obtain ⟨h1, h2, ⟨f, h3, h4⟩, h5⟩ := HX.out
        exact ⟨PlanP.ext (W := wr.drew) h1 hEa, Two.ext (W := wr.drew) h2 hEa, ⟨f, RowF.ext (w := wr.drew) h3 hEa, h4⟩, h5.drew.trans hEa⟩
      obtain ⟨v0, y0, y1⟩ : ∃ v, wa.cell? ⟨q, k, none⟩ = some (.int .i64 v) ∧ wa.frozen? ⟨q, k, none⟩ = false := by
        obtain ⟨_, _, ⟨f, h3, _⟩, _⟩ := HX5.out
        exact ⟨_, h3.2 k hlt⟩
      clear hFa hSa hEa x1 x2 t6 t7 HX
      go_wp2
      go_roundw
      case rel =>
        obtain ⟨⟨⟨D, m1, m2⟩, f0, r1, r2⟩, h2, ⟨f, h3, h4⟩, h5⟩ := HX5.out
        refine ⟨k + 1, by go_num, by omega, ⟨⟨D, m1.setCell (a := ⟨q, k, none⟩) HG.out.2.2.2 _, m2⟩, f0, r1.far HG.out.1 _, r2⟩, h2.far HG.out.2.1 _, ⟨_, h3.set hlt _, fun j hj => ?_⟩, Below.setCell h5 (show w.heap.size ≤ q from HG.out.2.2.1) _⟩
        unfold setF
        by_cases e : j = k
        · subst e; rw [if_pos rfl]; try exact HU.out
        · rw [if_neg e]; exact h4 j (by omega)
      case measure => simp [intOf]; omega
      case hAa => kernel_rfl
      case hla => exact ⟨trivial, trivial, trivial, trivial, trivial, trivial, trivial, trivial, trivial, trivial, trivial, trivial, trivial, trivial, trivial, trivial⟩
    · have hkn : k = n := by omega
      have bk : ¬ ((k : Int) < (n : Int)) := by omega
      have HR : Hid (w.heap.size ≤ q ∧ RowF wr q n (fun i => (s i : Int)) ∧ Ext w wr) := by
        obtain ⟨_, _, ⟨f, h3, h4⟩, h5⟩ := HX.out
        exact ⟨HG.out.2.2.1, h3.as fun j hj => h4 j (by omega), h5⟩
      clear HX hkn
      go_wp2
      go_ret
      exact ⟨q, rfl, HR.out⟩

end Go.Proofs.Ytakcmiijnckaaaa
