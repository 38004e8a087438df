/- What the laws' helpers over slices of ints, of conditions, and over rules answer: toIntS, toCondS, toRule, eqIntS, eqCondS, eqRule. -/
import Derived.Test.YtojaohdmfahpmaaDoorKno
import Derived.Test.YtojaohdmfahpmaaDoorToCond
import Derived.Test.YtojaohdmfahpmaaDoorRulesR
namespace Go.Proofs.YtojaohdmfahpmaaDoor
open Go.RowKit
set_option linter.unusedVariables false

theorem Tryd.info9 : (Tryd.prog.info? 3).map (fun i => (i.zero, i.size, i.bytes)) = some (some (.int .i64 0), 1, 8) := by kernel_rfl

theorem Tryd.infoCo : (Tryd.prog.info? 56).map (fun i => (i.zero, i.size, i.bytes)) = some (some (.agg #[.int .i64 0, .int .i64 0, .int .i64 0, .int .i64 0, .int .i64 0, .int .i64 0]), 6, 48) := by kernel_rfl

set_option maxHeartbeats 1000000 in
theorem toIntS_nums (a : Option Addr) (cap n : Nat) (zs : List Int) (w : World) (hn : n = zs.length) (hl : zs.length ≤ 1048576) (h : Nums w a zs) :
    Calls Tryd.prog 41 #[.slice a n cap] w fun e w' => ∃ g, e = .returned (.slice (some ⟨g, 0, none⟩) n n) ∧ w.heap.size ≤ g ∧ Nums w' (some ⟨g, 0, none⟩) zs ∧ Ext w w' := by
  obtain ⟨i0, hi, hz0, hz1, hz2⟩ := info_parts Tryd.info9
  have HN : Hid (n = zs.length) := hn
  have HA : Hid (∀ W, Ext w W → Nums W a zs) := fun W hE => h.step hE
  have hl' : n ≤ 1048576 := by omega
  clear h hn hl
  go_enter Tryd.func41, Tryd.ntmps41
  go_wp2_with (at_make; refine wpList_make_full _ rfl _ _ 39 rfl w.heap.size 3 i0 (.int .i64 0) 1 Tryd.underlying39 hi hz0 hz1 _ _ _ _ n rfl rfl (by omega) (by omega) (by rw [hz2]; omega) (by unfold maxLen; omega) (Nat.le_refl _) ?_; intro w0 hown0 hgrow0)
  have b0 : Hid (Ext w w0) := (Below.refl _ w).grown hgrow0 (Nat.le_refl _) (fun k hk => by cases hk)
  have m0 : FreeN w0 w.heap.size (n * 1) := made_free hown0 (by simp [madeCells])
  rw [Nat.mul_one] at m0
  clear hown0 hgrow0
  obtain ⟨g, hg⟩ : ∃ g, g = w.heap.size := ⟨_, rfl⟩
  rw [← hg] at m0 ⊢
  have HG : Hid (g = w.heap.size ∧ FreeN w0 g n) := ⟨hg, m0⟩
  clear hg m0
  go_loopw [4] (fun i wr => ∃ k : Nat, i = .int .i64 k ∧ k ≤ n ∧ Hid (Ext w wr ∧ FreeN wr g n ∧ ∀ j, j < k → wr.cell? ⟨g, j, none⟩ = some (.int .i64 (zs.getD j 0)))) (fun i _ => n - (intOf i).toNat)
  case atStart => exact ⟨0, rfl, by omega, b0.out, HG.out.2, fun j hj => by omega⟩
  case round =>
    obtain ⟨k, rfl, hk, HR⟩ := hrel
    clear b0
    by_cases hlt : k < n
    · have bk : (k : Int) < (n : Int) := by omega
      obtain ⟨b, off, rfl, hbl, hc⟩ := (HA.out wr HR.out.1).at (k := k) (by have := HN.out; omega)
      obtain ⟨x, hx⟩ : ∃ x, x = zs.getD k 0 := ⟨_, rfl⟩
      rw [← hx] at hc
      obtain ⟨⟨u, cu⟩, fu⟩ := HR.out.2.1.2 k hlt
      have HXX : Hid (x = zs.getD k 0) := hx
      clear hx hbl
      go_wp2
      go_roundw
      case rel =>
        obtain ⟨hE, hF, hC⟩ := HR.out
        refine ⟨k + 1, by go_num, by omega, hE.setCell (by show w.heap.size ≤ g; have := HG.out.1; omega) _, hF.put g k [.int .i64 x], fun j hj => ?_⟩
        by_cases hjk : j = k
        · subst hjk
          rw [← HXX.out]
          exact World.cell?_setCell_same _ _ _ cu
        · rw [World.cell?_setCell_other _ _ _ _ (fun e => hjk (by simpa using (congrArg Addr.off e).symm))]
          exact hC j (by omega)
      case measure => simp [intOf]; omega
    · have hkn : k = n := by omega
      have bk : ¬ ((k : Int) < (n : Int)) := by omega
      have HE : Hid (w.heap.size ≤ g ∧ Nums wr (some ⟨g, 0, none⟩) zs ∧ Ext w wr) :=
        ⟨by have := HG.out.1; omega, fun _ => ⟨g, 0, rfl, HR.out.2.1.1, fun j hj => by rw [Nat.zero_add]; exact HR.out.2.2 j (by have := HN.out; omega)⟩, HR.out.1⟩
      clear hkn HR
      go_wp2
      go_ret
      exact ⟨g, rfl, HE.out⟩

set_option maxHeartbeats 800000 in
theorem eqIntS_nums (a1 a2 : Option Addr) (c1 c2 n : Nat) (zs : List Int) (w : World) (hn : n = zs.length) (hl : zs.length ≤ 1048576) (h1 : Nums w a1 zs) (h2 : Nums w a2 zs) :
    Calls Tryd.prog 49 #[.slice a1 n c1, .slice a2 n c2] w fun e w' => e = .returned (.bool true) ∧ Ext w w' := by
  have HN : Hid (n = zs.length) := hn
  have H1 : Hid (∀ W, Ext w W → Nums W a1 zs ∧ Nums W a2 zs) := fun W hE => ⟨h1.step hE, h2.step hE⟩
  have hl' : n ≤ 1048576 := by omega
  clear h1 h2 hn hl
  go_enter Tryd.func49, Tryd.ntmps49
  go_wp2
  go_loopw [5] (fun i wr => ∃ k : Nat, i = .int .i64 k ∧ k ≤ n ∧ Hid (Ext w wr)) (fun i _ => n - (intOf i).toNat)
  case atStart => exact ⟨0, rfl, by omega, Ext.refl _⟩
  case round =>
    obtain ⟨k, rfl, hk, hE⟩ := hrel
    by_cases hlt : k < n
    · have bk : (k : Int) < (n : Int) := by omega
      obtain ⟨z, hz⟩ : ∃ z, z = zs.getD k 0 := ⟨_, rfl⟩
      obtain ⟨b1, o1, rfl, l1, d1⟩ := (H1.out wr hE.out).1.at (k := k) (by have := HN.out; omega)
      obtain ⟨b2, o2, rfl, l2, d2⟩ := (H1.out wr hE.out).2.at (k := k) (by have := HN.out; omega)
      rw [← hz] at d1 d2
      have s1 : SegB wr b1 (o1 + k) [.int .i64 z] := ⟨l1, fun i v hv => by
        match i with
        | 0 => simp at hv; subst hv; exact d1
        | i + 1 => simp at hv⟩
      have s2 : SegB wr b2 (o2 + k) [.int .i64 z] := ⟨l2, fun i v hv => by
        match i with
        | 0 => simp at hv; subst hv; exact d2
        | i + 1 => simp at hv⟩
      clear hz d1 d2 l1 l2
      go_wp2_with fail
      refine' wp_region_loose (.inl _ :: .inl _ :: .inl _ :: .inl _ :: .inl _ :: .inl _ :: .inl _ :: .inl _ :: .inl _ :: []) (fun w' => SegB w' b1 (o1 + k) [.int .i64 z] ∧ SegB w' b2 (o2 + k) [.int .i64 z]) (by kernel_rfl) (by kernel_rfl) (⟨s1.drew, s2.drew⟩) (fun _ _ h hE => ⟨h.1.step hE, h.2.step hE⟩) ?hAa ?hla ?hMa
      case' hMa => skip
      apply wpLoose_val rfl rfl
      case hs =>
        intro w1 hC hd Q1 hQ1
        obtain ⟨hE, hS⟩ := hC
        dsimp only [bare]
        obtain ⟨q1, q2⟩ := (⟨hS.1.2.one, hS.2.2.one⟩ : _ ∧ _)
        clear hd hE
        try clear hS
        go_wp2
        exact Ext.refl _
      case ha => rfl
      apply wpLoose_val rfl rfl
      case hs =>
        intro w1 hC hd Q1 hQ1
        obtain ⟨hE, hS⟩ := hC
        dsimp only [bare]
        obtain ⟨q1, q2⟩ := (⟨hS.1.2.one, hS.2.2.one⟩ : _ ∧ _)
        clear hd hE
        try clear hS
        go_wp2
        exact Ext.refl _
      case ha => rfl
      apply wpLoose_val rfl rfl
      case hs =>
        intro w1 hC hd Q1 hQ1
        obtain ⟨hE, hS⟩ := hC
        dsimp only [bare]
        obtain ⟨q1, q2⟩ := (⟨hS.1.2.one, hS.2.2.one⟩ : _ ∧ _)
        clear hd hE
        try clear hS
        go_wp2
        exact Ext.refl _
      case ha => rfl
      apply wpLoose_val rfl rfl
      case hs =>
        intro w1 hC hd Q1 hQ1
        obtain ⟨hE, hS⟩ := hC
        dsimp only [bare]
        obtain ⟨q1, q2⟩ := (⟨hS.1.2.one, hS.2.2.one⟩ : _ ∧ _)
        clear hd hE
        try clear hS
        go_wp2
        exact Ext.refl _
      case ha => rfl
      apply wpLoose_val rfl rfl
      case hs =>
        intro w1 hC hd Q1 hQ1
        obtain ⟨hE, hS⟩ := hC
        dsimp only [bare]
        obtain ⟨q1, q2⟩ := (⟨hS.1.2.one, hS.2.2.one⟩ : _ ∧ _)
        clear hd hE
        try clear hS
        go_wp2
        exact Ext.refl _
      case ha => rfl
      apply wpLoose_val rfl rfl
      case hs =>
        intro w1 hC hd Q1 hQ1
        obtain ⟨hE, hS⟩ := hC
        dsimp only [bare]
        obtain ⟨q1, q2⟩ := (⟨hS.1.2.one, hS.2.2.one⟩ : _ ∧ _)
        clear hd hE
        try clear hS
        go_wp2
        exact Ext.refl _
      case ha => rfl
      apply wpLoose_val rfl rfl
      case hs =>
        intro w1 hC hd Q1 hQ1
        obtain ⟨hE, hS⟩ := hC
        dsimp only [bare]
        obtain ⟨q1, q2⟩ := (⟨hS.1.2.one, hS.2.2.one⟩ : _ ∧ _)
        clear hd hE
        try clear hS
        go_wp2
        exact Ext.refl _
      case ha => rfl
      apply wpLoose_val rfl rfl
      case hs =>
        intro w1 hC hd Q1 hQ1
        obtain ⟨hE, hS⟩ := hC
        dsimp only [bare]
        obtain ⟨q1, q2⟩ := (⟨hS.1.2.one, hS.2.2.one⟩ : _ ∧ _)
        clear hd hE
        try clear hS
        go_wp2
        exact Ext.refl _
      case ha => rfl
      apply wpLoose_val rfl rfl
      case hs =>
        intro w1 hC hd Q1 hQ1
        obtain ⟨hE, hS⟩ := hC
        dsimp only [bare]
        obtain ⟨q1, q2⟩ := (⟨hS.1.2.one, hS.2.2.one⟩ : _ ∧ _)
        clear hd hE
        try clear hS
        go_wp2
        exact Ext.refl _
      case ha => rfl
      refine wpLoose_nil ?_
      intro wa hEa hSa hFa
      have HE2 : Hid (Ext w wa) := hE.out.drew.trans hEa
      clear hFa hSa hEa s1 s2
      go_wp2
      go_roundw
      case rel => exact ⟨k + 1, by go_num, by omega, HE2⟩
      case measure => simp [intOf]; omega
      case hAa => kernel_rfl
      case hla => exact ⟨trivial, trivial, trivial, trivial, trivial, trivial, trivial, trivial, trivial, trivial⟩
    · have bk : ¬ ((k : Int) < (n : Int)) := by omega
      go_wp2
      go_ret
      exact ⟨rfl, hE.out⟩

theorem putL6 (W : World) (g o : Nat) (v0 v1 v2 v3 v4 v5 : Value) : putL W g o [v0, v1, v2, v3, v4, v5] = (((((W.setCell ⟨g, o, none⟩ v0).setCell ⟨g, o + 1, none⟩ v1).setCell ⟨g, o + 2, none⟩ v2).setCell ⟨g, o + 3, none⟩ v3).setCell ⟨g, o + 4, none⟩ v4).setCell ⟨g, o + 5, none⟩ v5 := rfl

theorem putL4 (W : World) (g o : Nat) (v0 v1 v2 v3 : Value) : putL W g o [v0, v1, v2, v3] = (((W.setCell ⟨g, o, none⟩ v0).setCell ⟨g, o + 1, none⟩ v1).setCell ⟨g, o + 2, none⟩ v2).setCell ⟨g, o + 3, none⟩ v3 := rfl

set_option maxRecDepth 100000 in
set_option maxHeartbeats 2000000 in
theorem toCondS_conds (a : Option Addr) (cap n : Nat) (cs : List CN) (w : World) (hn : n = cs.length) (hl : cs.length ≤ 1048576) (h : Conds w a cs) :
    Calls Tryd.prog 42 #[.slice a n cap] w fun e w' => ∃ g, e = .returned (.slice (some ⟨g, 0, none⟩) n n) ∧ w.heap.size ≤ g ∧ Conds w' (some ⟨g, 0, none⟩) cs ∧ Ext w w' := by
  obtain ⟨i0, hi, hz0, hz1, hz2⟩ := info_parts Tryd.infoCo
  have HN : Hid (n = cs.length) := hn
  have HA : Hid (∀ W, Ext w W → Conds W a cs) := fun W hE => h.step hE
  have hl' : n ≤ 1048576 := by omega
  clear h hn hl
  go_enter Tryd.func42, Tryd.ntmps42
  go_wp2_with (at_make; refine wpList_make_full _ rfl _ _ 40 rfl w.heap.size 56 i0 (.agg #[.int .i64 0, .int .i64 0, .int .i64 0, .int .i64 0, .int .i64 0, .int .i64 0]) 6 Tryd.underlying40 hi hz0 hz1 _ _ _ _ n rfl rfl (by omega) (by omega) (by rw [hz2]; omega) (by unfold maxLen; omega) (Nat.le_refl _) ?_; intro w0 hown0 hgrow0)
  have b0 : Hid (Ext w w0) := (Below.refl _ w).grown hgrow0 (Nat.le_refl _) (fun k hk => by cases hk)
  have m0 : FreeN w0 w.heap.size (n * 6) := made_free hown0 (by simp [madeCells])
  clear hown0 hgrow0
  obtain ⟨g, hg⟩ : ∃ g, g = w.heap.size := ⟨_, rfl⟩
  rw [← hg] at m0 ⊢
  have HG : Hid (g = w.heap.size ∧ FreeN w0 g (n * 6)) := ⟨hg, m0⟩
  clear hg m0
  go_loopw [4] (fun i wr => ∃ k : Nat, i = .int .i64 k ∧ k ≤ n ∧ Hid (Ext w wr ∧ FreeN wr g (n * 6) ∧ ∀ j, j < k → Seg wr g (j * 6) (cs.getD j c0).l)) (fun i _ => n - (intOf i).toNat)
  case atStart => exact ⟨0, rfl, by omega, b0.out, HG.out.2, fun j hj => by omega⟩
  case round =>
    obtain ⟨k, rfl, hk, HR⟩ := hrel
    clear b0
    by_cases hlt : k < n
    · have bk : (k : Int) < (n : Int) := by omega
      obtain ⟨c, hc⟩ : ∃ c, c = cs.getD k c0 := ⟨_, rfl⟩
      obtain ⟨b, off, rfl, hbl, hs⟩ := (HA.out wr HR.out.1).at (k := k) (by have := HN.out; omega) hc
      obtain ⟨ag, mh, ml, cm, vh, vl⟩ := c
      obtain ⟨p0, p1, p2, p3, p4, p5⟩ := hs.six
      have HCC : Hid (⟨ag, mh, ml, cm, vh, vl⟩ = cs.getD k c0) := hc
      clear hc hs hbl
      simp only at p0 p1 p2 p3 p4 p5
      go_wp2_with fail
      refine (toCond_any ag mh ml cm vh vl _).mono ?_
      rintro e w2 ⟨rfl, x2⟩
      have HR2 : Hid (Ext w w2 ∧ FreeN w2 g (n * 6) ∧ ∀ j, j < k → Seg w2 g (j * 6) (cs.getD j c0).l) :=
        ⟨HR.out.1.trans x2, HR.out.2.1.step x2, fun j hj => (HR.out.2.2 j hj).below x2 HR.out.2.1.1⟩
      obtain ⟨⟨u0, d0⟩, f0⟩ := HR2.out.2.1.2 (k * 6) (by omega)
      obtain ⟨⟨u1, d1⟩, f1⟩ := HR2.out.2.1.2 (k * 6 + 1) (by omega)
      obtain ⟨⟨u2, d2⟩, f2⟩ := HR2.out.2.1.2 (k * 6 + 2) (by omega)
      obtain ⟨⟨u3, d3⟩, f3⟩ := HR2.out.2.1.2 (k * 6 + 3) (by omega)
      obtain ⟨⟨u4, d4⟩, f4⟩ := HR2.out.2.1.2 (k * 6 + 4) (by omega)
      obtain ⟨⟨u5, d5⟩, f5⟩ := HR2.out.2.1.2 (k * 6 + 5) (by omega)
      clear x2 HR p0 p1 p2 p3 p4 p5
      go_wp2
      go_roundw
      case rel =>
        obtain ⟨hE, hF, hC⟩ := HR2.out
        rw [← putL6]
        refine ⟨k + 1, by go_num, by omega, Below.putL (by have := HG.out.1; omega) _ _ hE, hF.put g _ _, fun j hj => ?_⟩
        by_cases hjk : j = k
        · subst hjk
          rw [← HCC.out]
          exact hF.seg (by simp; omega)
        · refine (hC j (by omega)).putFar (.inr ?_)
          simp [CN.l]; omega
      case measure => simp [intOf]; omega
    · have hkn : k = n := by omega
      have bk : ¬ ((k : Int) < (n : Int)) := by omega
      have HE : Hid (w.heap.size ≤ g ∧ Conds wr (some ⟨g, 0, none⟩) cs ∧ Ext w wr) :=
        ⟨by have := HG.out.1; omega, fun _ => ⟨g, 0, rfl, HR.out.2.1.1, fun j hj => by rw [Nat.zero_add]; exact HR.out.2.2 j (by have := HN.out; omega)⟩, HR.out.1⟩
      clear hkn HR
      go_wp2
      go_ret
      exact ⟨g, rfl, HE.out⟩

set_option maxRecDepth 100000 in
set_option maxHeartbeats 2000000 in
theorem eqCondS_conds (a1 a2 : Option Addr) (c1 c2 n : Nat) (cs : List CN) (w : World) (hn : n = cs.length) (hl : cs.length ≤ 1048576) (h1 : Conds w a1 cs) (h2 : Conds w a2 cs) :
    Calls Tryd.prog 50 #[.slice a1 n c1, .slice a2 n c2] w fun e w' => e = .returned (.bool true) ∧ Ext w w' := by
  have HN : Hid (n = cs.length) := hn
  have H1 : Hid (∀ W, Ext w W → Conds W a1 cs ∧ Conds W a2 cs) := fun W hE => ⟨h1.step hE, h2.step hE⟩
  have hl' : n ≤ 1048576 := by omega
  clear h1 h2 hn hl
  go_enter Tryd.func50, Tryd.ntmps50
  go_wp2
  go_loopw [5] (fun i wr => ∃ k : Nat, i = .int .i64 k ∧ k ≤ n ∧ Hid (Ext w wr)) (fun i _ => n - (intOf i).toNat)
  case atStart => exact ⟨0, rfl, by omega, Ext.refl _⟩
  case round =>
    obtain ⟨k, rfl, hk, hE⟩ := hrel
    by_cases hlt : k < n
    · have bk : (k : Int) < (n : Int) := by omega
      obtain ⟨c, hc⟩ : ∃ c, c = cs.getD k c0 := ⟨_, rfl⟩
      obtain ⟨b1, o1, rfl, l1, d1⟩ := (H1.out wr hE.out).1.at (k := k) (by have := HN.out; omega) hc
      obtain ⟨b2, o2, rfl, l2, d2⟩ := (H1.out wr hE.out).2.at (k := k) (by have := HN.out; omega) hc
      obtain ⟨ag, mh, ml, cm, vh, vl⟩ := c
      have s1 : SegB wr b1 (o1 + k * 6) [.int .i64 ag, .int .i64 mh, .int .i64 ml, .int .i64 cm, .int .i64 vh, .int .i64 vl] := ⟨l1, d1⟩
      have s2 : SegB wr b2 (o2 + k * 6) [.int .i64 ag, .int .i64 mh, .int .i64 ml, .int .i64 cm, .int .i64 vh, .int .i64 vl] := ⟨l2, d2⟩
      clear hc d1 d2 l1 l2
      go_wp2_with fail
      refine' wp_region_loose (.inl _ :: .inl _ :: .inl _ :: .inl _ :: .inl _ :: .inl _ :: .inl _ :: .inl _ :: .inl _ :: .inl _ :: []) (fun w' => SegB w' b1 (o1 + k * 6) [.int .i64 ag, .int .i64 mh, .int .i64 ml, .int .i64 cm, .int .i64 vh, .int .i64 vl] ∧ SegB w' b2 (o2 + k * 6) [.int .i64 ag, .int .i64 mh, .int .i64 ml, .int .i64 cm, .int .i64 vh, .int .i64 vl]) (by kernel_rfl) (by kernel_rfl) (⟨s1.drew, s2.drew⟩) (fun _ _ h hE => ⟨h.1.step hE, h.2.step hE⟩) ?hAa ?hla ?hMa
      case' hMa => skip
      apply wpLoose_val rfl rfl
      case hs =>
        intro w1 hC hd Q1 hQ1
        obtain ⟨hE, hS⟩ := hC
        dsimp only [bare]
        obtain ⟨⟨p0, p1, p2, p3, p4, p5⟩, ⟨q0, q1, q2, q3, q4, q5⟩⟩ := (⟨hS.1.2.six, hS.2.2.six⟩ : _ ∧ _)
        clear hd hE
        try clear hS
        go_wp2
        exact Ext.refl _
      case ha => rfl
      apply wpLoose_val rfl rfl
      case hs =>
        intro w1 hC hd Q1 hQ1
        obtain ⟨hE, hS⟩ := hC
        dsimp only [bare]
        obtain ⟨⟨p0, p1, p2, p3, p4, p5⟩, ⟨q0, q1, q2, q3, q4, q5⟩⟩ := (⟨hS.1.2.six, hS.2.2.six⟩ : _ ∧ _)
        clear hd hE
        try clear hS
        go_wp2
        exact Ext.refl _
      case ha => rfl
      apply wpLoose_val rfl rfl
      case hs =>
        intro w1 hC hd Q1 hQ1
        obtain ⟨hE, hS⟩ := hC
        dsimp only [bare]
        obtain ⟨⟨p0, p1, p2, p3, p4, p5⟩, ⟨q0, q1, q2, q3, q4, q5⟩⟩ := (⟨hS.1.2.six, hS.2.2.six⟩ : _ ∧ _)
        clear hd hE
        try clear hS
        go_wp2
        exact Ext.refl _
      case ha => rfl
      apply wpLoose_val rfl rfl
      case hs =>
        intro w1 hC hd Q1 hQ1
        obtain ⟨hE, hS⟩ := hC
        dsimp only [bare]
        obtain ⟨⟨p0, p1, p2, p3, p4, p5⟩, ⟨q0, q1, q2, q3, q4, q5⟩⟩ := (⟨hS.1.2.six, hS.2.2.six⟩ : _ ∧ _)
        clear hd hE
        try clear hS
        go_wp2
        exact Ext.refl _
      case ha => rfl
      apply wpLoose_val rfl rfl
      case hs =>
        intro w1 hC hd Q1 hQ1
        obtain ⟨hE, hS⟩ := hC
        dsimp only [bare]
        obtain ⟨⟨p0, p1, p2, p3, p4, p5⟩, ⟨q0, q1, q2, q3, q4, q5⟩⟩ := (⟨hS.1.2.six, hS.2.2.six⟩ : _ ∧ _)
        clear hd hE
        try clear hS
        go_wp2
        exact Ext.refl _
      case ha => rfl
      apply wpLoose_val rfl rfl
      case hs =>
        intro w1 hC hd Q1 hQ1
        obtain ⟨hE, hS⟩ := hC
        dsimp only [bare]
        obtain ⟨⟨p0, p1, p2, p3, p4, p5⟩, ⟨q0, q1, q2, q3, q4, q5⟩⟩ := (⟨hS.1.2.six, hS.2.2.six⟩ : _ ∧ _)
        clear hd hE
        try clear hS
        go_wp2
        exact Ext.refl _
      case ha => rfl
      apply wpLoose_val rfl rfl
      case hs =>
        intro w1 hC hd Q1 hQ1
        obtain ⟨hE, hS⟩ := hC
        dsimp only [bare]
        obtain ⟨⟨p0, p1, p2, p3, p4, p5⟩, ⟨q0, q1, q2, q3, q4, q5⟩⟩ := (⟨hS.1.2.six, hS.2.2.six⟩ : _ ∧ _)
        clear hd hE
        try clear hS
        go_wp2
        exact Ext.refl _
      case ha => rfl
      apply wpLoose_val rfl rfl
      case hs =>
        intro w1 hC hd Q1 hQ1
        obtain ⟨hE, hS⟩ := hC
        dsimp only [bare]
        obtain ⟨⟨p0, p1, p2, p3, p4, p5⟩, ⟨q0, q1, q2, q3, q4, q5⟩⟩ := (⟨hS.1.2.six, hS.2.2.six⟩ : _ ∧ _)
        clear hd hE
        try clear hS
        go_wp2
        exact Ext.refl _
      case ha => rfl
      apply wpLoose_val rfl rfl
      case hs =>
        intro w1 hC hd Q1 hQ1
        obtain ⟨hE, hS⟩ := hC
        dsimp only [bare]
        clear hd
        go_wp2_with fail
        refine (eqCond_same ag mh ml cm vh vl _).mono ?_
        rintro e w2 ⟨rfl, hb⟩
        go_wp2_with fail
        exact hb
      case ha => rfl
      apply wpLoose_val rfl rfl
      case hs =>
        intro w1 hC hd Q1 hQ1
        obtain ⟨hE, hS⟩ := hC
        dsimp only [bare]
        obtain ⟨⟨p0, p1, p2, p3, p4, p5⟩, ⟨q0, q1, q2, q3, q4, q5⟩⟩ := (⟨hS.1.2.six, hS.2.2.six⟩ : _ ∧ _)
        clear hd hE
        try clear hS
        go_wp2
        exact Ext.refl _
      case ha => rfl
      refine wpLoose_nil ?_
      intro wa hEa hSa hFa
      have HE2 : Hid (Ext w wa) := hE.out.drew.trans hEa
      clear hFa hSa hEa s1 s2
      go_wp2
      go_roundw
      case rel => exact ⟨k + 1, by go_num, by omega, HE2⟩
      case measure => simp [intOf]; omega
      case hAa => kernel_rfl
      case hla => exact ⟨trivial, trivial, trivial, trivial, trivial, trivial, trivial, trivial, trivial, trivial, trivial⟩
    · have bk : ¬ ((k : Int) < (n : Int)) := by omega
      go_wp2
      go_ret
      exact ⟨rfl, hE.out⟩

end Go.Proofs.YtojaohdmfahpmaaDoor
