/- What the draws of chapter 6 answer: texts that are short, a word, programs. -/
import Derived.Test.YtefiafaokfabiaaDrawAny
import Derived.Test.YtefiafaokfabiaaLooseC
namespace Go.Proofs.Ytefiafaokfabiaa
open Go.RowKit
set_option linter.unusedVariables false

set_option maxRecDepth 100000 in
set_option maxHeartbeats 4000000 in
theorem spoilt_any (s : ByteArray) (p : Nat) (a : Option Addr) (len cap : Nat) (w : World) (hC : Cur w p a len cap) (hs : s.size ≤ 1000) :
    Calls Try.prog 38 #[.pointer (some ⟨p, 0, none⟩), .string s] w fun e w' => ∃ t : ByteArray, t.size ≤ 1001 ∧ e = .returned (.string t) ∧ Cur w' p a len cap ∧ w.grownBy w' (some p) := by
  have HC : Hid (Cur w p a len cap) := hC
  clear hC
  go_enter Try.func38, Try.ntmps38
  go_wp2_with fail
  refine (below_any 12 p a len cap _ HC.out (by omega)).mono ?_
  rintro e w1 ⟨k, _, _, _, rfl, hc1, hg1⟩
  have HC1 : Hid (Cur w1 p a len cap) := hc1
  have HG1 : Hid (w.grownBy w1 (some p)) := hg1
  clear hc1 hg1
  by_cases h0 : k = 0
  · subst h0
    go_wp2_with fail
    refine (text_any 1 p a len cap _ HC1.out (by omega)).mono ?_
    rintro e w2 ⟨l, hl, rfl, hc2, hg2⟩
    have HG2 : Hid (w.grownBy w2 (some p)) := grown_trans HG1.out hg2
    have hls : (⟨l.toArray⟩ : ByteArray).size = 1 := by show l.toArray.size = 1; simp [hl]
    obtain ⟨L, hL⟩ : ∃ L : ByteArray, L = ⟨l.toArray⟩ := ⟨_, rfl⟩
    rw [← hL] at hls ⊢
    clear hL hg2
    go_wp2
    go_ret
    exact ⟨s ++ L, by rw [ByteArray.size_append]; omega, rfl, hc2, HG2.out⟩
  have q0 : ((k : Int) == 0) = false := by simp; omega
  by_cases h1 : k = 1
  · subst h1
    have es : (s.size : Int) + 1 = ((s.size + 1 : Nat) : Int) := by omega
    have HB := fun W (h : Cur W p a len cap) => below_any (s.size + 1) p a len cap W h (by omega)
    have HB' : Hid (∀ W, Cur W p a len cap → Calls Try.prog 36 #[.pointer (some ⟨p, 0, none⟩), .int .i64 ((s.size : Int) + 1)] W fun e w' => ∃ x : Nat, (0 < s.size + 1 → x < s.size + 1) ∧ x < 4294967296 ∧ (s.size + 1 ≤ 256 → x ≤ 256) ∧ e = .returned (.int .i64 (x : Int)) ∧ Cur w' p a len cap ∧ W.grownBy w' (some p)) := fun W h => by rw [es]; exact HB W h
    clear HB es
    go_wp2_with fail
    refine (HB'.out _ HC1.out).mono ?_
    rintro e w2 ⟨x, hx, _, _, rfl, hc2, hg2⟩
    have hx' : x ≤ s.size := by have := hx (by omega); omega
    have HG2 : Hid (w.grownBy w2 (some p)) := grown_trans HG1.out hg2
    clear hx hg2
    go_wp2
    go_ret
    exact ⟨_, by rw [ByteArray.size_extract]; omega, rfl, hc2, HG2.out⟩
  have q1 : ((k : Int) == 1) = false := by simp; omega
  by_cases h23 : k = 2 ∨ k = 3
  · by_cases hpos : 0 < s.size
    · have hpos' : (0 : Int) < (s.size : Int) := by omega
      rcases h23 with rfl | rfl
      · go_wp2_with fail
        refine (below_any s.size p a len cap _ HC1.out (by omega)).mono ?_
        rintro e w2 ⟨x, hx, _, _, rfl, hc2, hg2⟩
        have hx' : x < s.size := hx hpos
        have hx'' : (x : Int) < (s.size : Int) := by omega
        have HC2 : Hid (Cur w2 p a len cap) := hc2
        have HG2 : Hid (w.grownBy w2 (some p)) := grown_trans HG1.out hg2
        clear hx hg2 hc2
        have z1 : (s.extract 0 x).size = x := by rw [ByteArray.size_extract]; omega
        obtain ⟨x1, hx1⟩ : ∃ x1, x1 = x + 1 := ⟨_, rfl⟩
        have z2 : (s.extract x1 s.size).size = s.size - x1 := by rw [ByteArray.size_extract]; omega
        have hw2 : (x : Int) + 1 = (x1 : Int) := by omega
        have y3 : (x1 : Int) ≤ (s.size : Int) := by omega
        have HX1 : Hid (x1 = x + 1) := hx1
        clear hx1
        go_wp2
        refine' wp_region_loosec (.inl _ :: .inl _ :: .inl _ :: .inl _ :: .inr (fun v _ => ∃ l : List UInt8, l.length = 1 ∧ v = .string ⟨l.toArray⟩) :: .inr (fun v _ => ∃ t : ByteArray, t.size = x + 1 ∧ v = .string t) :: .inl _ :: .inl _ :: .inl _ :: .inl _ :: .inr (fun v _ => ∃ t : ByteArray, t.size ≤ 1001 ∧ v = .string t) :: .inr (fun v _ => ∃ t : ByteArray, t.size ≤ 1001 ∧ v = .string t) :: []) (fun w' => Cur w' p a len cap ∧ w.grownBy w' (some p)) (by kernel_rfl) (by kernel_rfl) (⟨HC2.out, ⟨HG2.out.os, HG2.out.tape, HG2.out.output, HG2.out.size, HG2.out.block⟩⟩) ?hAa ?hla ?hMa
        case' hMa => skip
        apply wpLooseC_val rfl rfl
        case hs =>
          intro w1 hC hd Q1 hQ1
          dsimp only [bare]
          skip
          clear hd
          have HCC : Hid _ := hC
          clear hC
          go_wp2
          exact HCC.out
        case ha => rfl
        apply wpLooseC_val rfl rfl
        case hs =>
          intro w1 hC hd Q1 hQ1
          dsimp only [bare]
          skip
          clear hd
          have HCC : Hid _ := hC
          clear hC
          go_wp2
          exact HCC.out
        case ha => rfl
        apply wpLooseC_val rfl rfl
        case hs =>
          intro w1 hC hd Q1 hQ1
          dsimp only [bare]
          skip
          clear hd
          have HCC : Hid _ := hC
          clear hC
          go_wp2
          exact HCC.out
        case ha => rfl
        apply wpLooseC_val rfl rfl
        case hs =>
          intro w1 hC hd Q1 hQ1
          dsimp only [bare]
          skip
          clear hd
          have HCC : Hid _ := hC
          clear hC
          go_wp2
          exact HCC.out
        case ha => rfl
        refine wpLooseC_rel rfl rfl ?_ (fun va_4 => ?_)
        · intro w1 hC hd Q1 hQ1
          dsimp only [bare]
          obtain ⟨hc, hg⟩ := hC
          clear hd
          go_wp2_with fail
          refine (text_any 1 p a len cap _ hc (by omega)).mono ?_
          rintro e w9 ⟨l, hl, rfl, hc9, hg9⟩
          go_wp2_with fail
          exact hQ1 _ _ ⟨hc9, grown_trans hg hg9⟩ ⟨l, hl, rfl⟩
        refine wpLooseC_rel rfl rfl ?_ (fun va_5 => ?_)
        · intro w1 hC hd Q1 hQ1
          dsimp only [bare]
          have h4 : ∃ l : List UInt8, l.length = 1 ∧ va_4 = .string ⟨l.toArray⟩ := hd ⟨4, .data⟩ (by simp) rfl _ rfl (by first | (simp; done) | (simp [Act.put]; done))
          obtain ⟨l, hl, hv⟩ := h4
          subst hv
          have hls : (⟨l.toArray⟩ : ByteArray).size = 1 := (by show l.toArray.size = 1; simp [hl])
          have HCC : Hid _ := hC
          clear hd hC
          go_wp2
          exact hQ1 _ _ HCC.out ⟨_, by rw [ByteArray.size_append, z1, hls], rfl⟩
        apply wpLooseC_val rfl rfl
        case hs =>
          intro w1 hC hd Q1 hQ1
          dsimp only [bare]
          skip
          clear hd
          have HCC : Hid _ := hC
          clear hC
          go_wp2
          exact HCC.out
        case ha => rfl
        apply wpLooseC_val rfl rfl
        case hs =>
          intro w1 hC hd Q1 hQ1
          dsimp only [bare]
          skip
          clear hd
          have HCC : Hid _ := hC
          clear hC
          go_wp2
          exact HCC.out
        case ha => rfl
        apply wpLooseC_val rfl rfl
        case hs =>
          intro w1 hC hd Q1 hQ1
          dsimp only [bare]
          skip
          clear hd
          have HCC : Hid _ := hC
          clear hC
          go_wp2
          exact HCC.out
        case ha => rfl
        apply wpLooseC_val rfl rfl
        case hs =>
          intro w1 hC hd Q1 hQ1
          dsimp only [bare]
          skip
          clear hd
          have HCC : Hid _ := hC
          clear hC
          go_wp2
          exact HCC.out
        case ha => rfl
        refine wpLooseC_rel rfl rfl ?_ (fun va_10 => ?_)
        · intro w1 hC hd Q1 hQ1
          dsimp only [bare]
          have h5 : ∃ t : ByteArray, t.size = x + 1 ∧ va_5 = .string t := hd ⟨5, .data⟩ (by simp) rfl _ rfl (by first | (simp; done) | (simp [Act.put]; done))
          obtain ⟨t, ht, hv⟩ := h5
          subst hv
          have HCC : Hid _ := hC
          clear hd hC
          go_wp2
          exact hQ1 _ _ HCC.out ⟨_, by rw [ByteArray.size_append, z2, ht]; have := HX1.out; omega, rfl⟩
        refine wpLooseC_rel rfl rfl ?_ (fun va_11 => ?_)
        · intro w1 hC hd Q1 hQ1
          dsimp only [bare]
          have h10 : ∃ t : ByteArray, t.size ≤ 1001 ∧ va_10 = .string t := hd ⟨10, .data⟩ (by simp) rfl _ rfl (by first | (simp; done) | (simp [Act.put]; done))
          have HCC : Hid _ := hC
          clear hd hC
          go_wp2
          exact hQ1 _ _ HCC.out h10
        refine wpLooseC_nil ?_
        intro wa hCa hFa
        · obtain ⟨t, ht, rfl⟩ := hFa 11 _ rfl (by first | (simp; done) | (simp [Act.put]; done))
          clear hFa
          simp only [Act.put]
          go_wp2
          go_ret
          exact ⟨t, ht, rfl, hCa.1, hCa.2⟩
        case hAa => kernel_rfl
        case hla => exact ⟨trivial, trivial, trivial, trivial, (fun _ _ _ h => h), (fun _ _ _ h => h), trivial, trivial, trivial, trivial, (fun _ _ _ h => h), (fun _ _ _ h => h), trivial⟩
      · go_wp2_with fail
        refine (below_any s.size p a len cap _ HC1.out (by omega)).mono ?_
        rintro e w2 ⟨x, hx, _, _, rfl, hc2, hg2⟩
        have hx' : x < s.size := hx hpos
        have hx'' : (x : Int) < (s.size : Int) := by omega
        have HC2 : Hid (Cur w2 p a len cap) := hc2
        have HG2 : Hid (w.grownBy w2 (some p)) := grown_trans HG1.out hg2
        clear hx hg2 hc2
        have z1 : (s.extract 0 x).size = x := by rw [ByteArray.size_extract]; omega
        obtain ⟨x1, hx1⟩ : ∃ x1, x1 = x + 1 := ⟨_, rfl⟩
        have z2 : (s.extract x1 s.size).size = s.size - x1 := by rw [ByteArray.size_extract]; omega
        have hw2 : (x : Int) + 1 = (x1 : Int) := by omega
        have y3 : (x1 : Int) ≤ (s.size : Int) := by omega
        have HX1 : Hid (x1 = x + 1) := hx1
        clear hx1
        go_wp2
        refine' wp_region_loosec (.inl _ :: .inl _ :: .inl _ :: .inl _ :: .inr (fun v _ => ∃ l : List UInt8, l.length = 1 ∧ v = .string ⟨l.toArray⟩) :: .inr (fun v _ => ∃ t : ByteArray, t.size = x + 1 ∧ v = .string t) :: .inl _ :: .inl _ :: .inl _ :: .inl _ :: .inr (fun v _ => ∃ t : ByteArray, t.size ≤ 1001 ∧ v = .string t) :: .inr (fun v _ => ∃ t : ByteArray, t.size ≤ 1001 ∧ v = .string t) :: []) (fun w' => Cur w' p a len cap ∧ w.grownBy w' (some p)) (by kernel_rfl) (by kernel_rfl) (⟨HC2.out, ⟨HG2.out.os, HG2.out.tape, HG2.out.output, HG2.out.size, HG2.out.block⟩⟩) ?hAb ?hlb ?hMb
        case' hMb => skip
        apply wpLooseC_val rfl rfl
        case hs =>
          intro w1 hC hd Q1 hQ1
          dsimp only [bare]
          skip
          clear hd
          have HCC : Hid _ := hC
          clear hC
          go_wp2
          exact HCC.out
        case ha => rfl
        apply wpLooseC_val rfl rfl
        case hs =>
          intro w1 hC hd Q1 hQ1
          dsimp only [bare]
          skip
          clear hd
          have HCC : Hid _ := hC
          clear hC
          go_wp2
          exact HCC.out
        case ha => rfl
        apply wpLooseC_val rfl rfl
        case hs =>
          intro w1 hC hd Q1 hQ1
          dsimp only [bare]
          skip
          clear hd
          have HCC : Hid _ := hC
          clear hC
          go_wp2
          exact HCC.out
        case ha => rfl
        apply wpLooseC_val rfl rfl
        case hs =>
          intro w1 hC hd Q1 hQ1
          dsimp only [bare]
          skip
          clear hd
          have HCC : Hid _ := hC
          clear hC
          go_wp2
          exact HCC.out
        case ha => rfl
        refine wpLooseC_rel rfl rfl ?_ (fun vb_4 => ?_)
        · intro w1 hC hd Q1 hQ1
          dsimp only [bare]
          obtain ⟨hc, hg⟩ := hC
          clear hd
          go_wp2_with fail
          refine (text_any 1 p a len cap _ hc (by omega)).mono ?_
          rintro e w9 ⟨l, hl, rfl, hc9, hg9⟩
          go_wp2_with fail
          exact hQ1 _ _ ⟨hc9, grown_trans hg hg9⟩ ⟨l, hl, rfl⟩
        refine wpLooseC_rel rfl rfl ?_ (fun vb_5 => ?_)
        · intro w1 hC hd Q1 hQ1
          dsimp only [bare]
          have h4 : ∃ l : List UInt8, l.length = 1 ∧ vb_4 = .string ⟨l.toArray⟩ := hd ⟨4, .data⟩ (by simp) rfl _ rfl (by first | (simp; done) | (simp [Act.put]; done))
          obtain ⟨l, hl, hv⟩ := h4
          subst hv
          have hls : (⟨l.toArray⟩ : ByteArray).size = 1 := (by show l.toArray.size = 1; simp [hl])
          have HCC : Hid _ := hC
          clear hd hC
          go_wp2
          exact hQ1 _ _ HCC.out ⟨_, by rw [ByteArray.size_append, z1, hls], rfl⟩
        apply wpLooseC_val rfl rfl
        case hs =>
          intro w1 hC hd Q1 hQ1
          dsimp only [bare]
          skip
          clear hd
          have HCC : Hid _ := hC
          clear hC
          go_wp2
          exact HCC.out
        case ha => rfl
        apply wpLooseC_val rfl rfl
        case hs =>
          intro w1 hC hd Q1 hQ1
          dsimp only [bare]
          skip
          clear hd
          have HCC : Hid _ := hC
          clear hC
          go_wp2
          exact HCC.out
        case ha => rfl
        apply wpLooseC_val rfl rfl
        case hs =>
          intro w1 hC hd Q1 hQ1
          dsimp only [bare]
          skip
          clear hd
          have HCC : Hid _ := hC
          clear hC
          go_wp2
          exact HCC.out
        case ha => rfl
        apply wpLooseC_val rfl rfl
        case hs =>
          intro w1 hC hd Q1 hQ1
          dsimp only [bare]
          skip
          clear hd
          have HCC : Hid _ := hC
          clear hC
          go_wp2
          exact HCC.out
        case ha => rfl
        refine wpLooseC_rel rfl rfl ?_ (fun vb_10 => ?_)
        · intro w1 hC hd Q1 hQ1
          dsimp only [bare]
          have h5 : ∃ t : ByteArray, t.size = x + 1 ∧ vb_5 = .string t := hd ⟨5, .data⟩ (by simp) rfl _ rfl (by first | (simp; done) | (simp [Act.put]; done))
          obtain ⟨t, ht, hv⟩ := h5
          subst hv
          have HCC : Hid _ := hC
          clear hd hC
          go_wp2
          exact hQ1 _ _ HCC.out ⟨_, by rw [ByteArray.size_append, z2, ht]; have := HX1.out; omega, rfl⟩
        refine wpLooseC_rel rfl rfl ?_ (fun vb_11 => ?_)
        · intro w1 hC hd Q1 hQ1
          dsimp only [bare]
          have h10 : ∃ t : ByteArray, t.size ≤ 1001 ∧ vb_10 = .string t := hd ⟨10, .data⟩ (by simp) rfl _ rfl (by first | (simp; done) | (simp [Act.put]; done))
          have HCC : Hid _ := hC
          clear hd hC
          go_wp2
          exact hQ1 _ _ HCC.out h10
        refine wpLooseC_nil ?_
        intro wb hCb hFb
        · obtain ⟨t, ht, rfl⟩ := hFb 11 _ rfl (by first | (simp; done) | (simp [Act.put]; done))
          clear hFb
          simp only [Act.put]
          go_wp2
          go_ret
          exact ⟨t, ht, rfl, hCb.1, hCb.2⟩
        case hAb => kernel_rfl
        case hlb => exact ⟨trivial, trivial, trivial, trivial, (fun _ _ _ h => h), (fun _ _ _ h => h), trivial, trivial, trivial, trivial, (fun _ _ _ h => h), (fun _ _ _ h => h), trivial⟩
    · have hz : s.size = 0 := by omega
      have hz' : ¬ ((0 : Int) < (s.size : Int)) := by omega
      rcases h23 with rfl | rfl
      all_goals
        go_wp2
        go_ret
        exact ⟨s, by omega, rfl, HC1.out, HG1.out⟩
  have q2 : ((k : Int) == 2) = false := by simp; omega
  have q3 : ((k : Int) == 3) = false := by simp; omega
  go_wp2
  go_ret
  exact ⟨s, by omega, rfl, HC1.out, HG1.out⟩

set_option maxRecDepth 100000 in
set_option maxHeartbeats 2000000 in
theorem drawInsOk_any (a : Option Addr) (len cap : Nat) (w : World) (hC : Came w a len) :
    Calls Try.prog 39 #[.slice a len cap] w fun e w' => ∃ p : Wd, e = .returned p.val ∧ Ext w w' := by
  have HC : Hid (Came w a len) := hC
  clear hC
  go_enter Try.func39, Try.ntmps39
  go_wp2_with fail
  refine (new_any a len cap _ (HC.out.below (Ext.one _ _))).mono ?_
  rintro e w1 ⟨rfl, hc1, hb1⟩
  obtain ⟨p, hp⟩ : ∃ p, p = (w.alloc (.cells #[.int .i64 0, .int .i64 0, .int .i64 0, .int .i64 0] 32)).heap.size := ⟨_, rfl⟩
  have hpw : p = w.heap.size + 1 := by rw [hp]; simp
  have r1 := (Blk.new w (ints4 0 0 0 0) 32).ext hb1
  have E1 : Hid (Ext w w1) := (Ext.one _ _).trans hb1
  rw [← hp] at hc1 ⊢
  have HC1 : Hid (Cur w1 p a len cap) := hc1
  have HP : Hid (p = w.heap.size + 1) := hpw
  clear hc1 hb1 hp hpw
  go_wp2_with fail
  refine (any_any p a len cap _ HC1.out).mono ?_
  rintro e w2 ⟨g, n, c, rfl, hn1, hn13, hrow, hg, hc2, hg2⟩
  have r2 := r1.grown hg2 (ne_some (by have := HP.out; omega))
  have HG2 : Hid (w1.grownBy w2 (some p)) := hg2
  have HC2 : Hid (Cur w2 p a len cap) := hc2
  have HR2 : Hid (Rows4 w2 g n) := hrow
  have HGp : Hid (g ≠ p) := by have := HC1.out.lt; unfold Hid; omega
  have hgw : w.heap.size < g := by have := E1.out.size; have := r1.lt; omega
  have nz : ((n : Int) == 0) = false := by simp; omega
  clear hg2 hc2 hrow r1 hg
  go_wp2_with fail
  refine (below_any n p a len cap _ HC2.out (by omega)).mono ?_
  rintro e w3 ⟨x, hx, _, _, rfl, hc3, hg3⟩
  have hxn : x < n := hx (by omega)
  have hxn' : (x : Int) < (n : Int) := by omega
  have r3 := r2.grown hg3 (ne_some (by have := HP.out; omega))
  have HG3 : Hid (w1.grownBy w3 (some p)) := grown_trans HG2.out hg3
  obtain ⟨q, hq⟩ := HR2.out x hxn
  have hq3 : Quad w3 g (x * 4) q := ⟨hg3.cell hq.1 (ne_some HGp.out), hg3.cell hq.2.1 (ne_some HGp.out), hg3.cell hq.2.2.1 (ne_some HGp.out), hg3.cell hq.2.2.2 (ne_some HGp.out)⟩
  obtain ⟨o, k, y, m⟩ := q
  obtain ⟨c0, c1, c2, c3⟩ := hq3
  simp only at c0 c1 c2 c3
  obtain ⟨s0, s1, s2, s3⟩ := (⟨r3.cell 0 _ rfl, r3.cell 1 _ rfl, r3.cell 2 _ rfl, r3.cell 3 _ rfl⟩ : _ ∧ _ ∧ _ ∧ _)
  have f2 := r3.free
  have HE : Hid (Ext w (set4 w3 w.heap.size o k y m)) := by
    refine Ext.set4 ?_ (Nat.le_refl _) o k y m
    have h1 : Below w.heap.size w1 w3 := (Below.refl _ w1).grown HG3.out (by have := E1.out.size; omega) (fun b hb => by have := Option.some.inj hb; have := HP.out; omega)
    exact Below.trans E1.out h1
  have hne : g ≠ w.heap.size := by omega
  clear hg3 hc3 r2 r3 hx hq
  go_wp2
  refine bodyPost_ret (v := .agg #[.int .i64 o, .int .i64 k, .int .i64 y, .int .i64 m]) (by simp [results, Try.results39, go_sem, *]) rfl ⟨(o, k, y, m), rfl, HE.out⟩

set_option maxHeartbeats 1000000 in
theorem drawInsText_any (a : Option Addr) (len cap : Nat) (w : World) (hC : Came w a len) :
    Calls Try.prog 15 #[.slice a len cap] w fun e w' => ∃ p : Wd, e = .returned p.val ∧ Ext w w' := by
  have HC : Hid (Came w a len) := hC
  clear hC
  go_enter Try.func15, Try.ntmps15
  go_wp2_with fail
  refine (drawInsOk_any a len cap _ (HC.out.below (Ext.one _ _))).mono ?_
  rintro e w1 ⟨⟨o, k, y, m⟩, rfl, e1⟩
  have r1 := (Blk.new w (ints4 0 0 0 0) 32).ext e1
  have E1 : Hid (Ext w w1) := (Ext.one _ _).trans e1
  obtain ⟨s0, s1, s2, s3⟩ := (⟨r1.cell 0 _ rfl, r1.cell 1 _ rfl, r1.cell 2 _ rfl, r1.cell 3 _ rfl⟩ : _ ∧ _ ∧ _ ∧ _)
  have f2 := r1.free
  have hz := r1.lt
  have HE : Hid (Ext w (set4 w1 w.heap.size o k y m)) := E1.out.set4 (Nat.le_refl _) o k y m
  simp only [Wd.val]
  clear e1 r1
  go_wp2
  refine bodyPost_ret (v := .agg #[.int .i64 o, .int .i64 k, .int .i64 y, .int .i64 m]) (by simp [results, Try.results15, go_sem, *]) rfl ⟨(o, k, y, m), rfl, HE.out⟩

theorem textW_size (p : Wd) : (⟨((textW p).getD []).toArray⟩ : ByteArray).size ≤ 1000 := by
  show ((textW p).getD []).toArray.size ≤ 1000
  rw [List.size_toArray]
  unfold textW
  split
  · simp [bytesW_length]
  · simp

set_option maxHeartbeats 1000000 in
theorem drawReadIns_any (a : Option Addr) (len cap : Nat) (w : World) (hC : Came w a len) :
    Calls Try.prog 18 #[.slice a len cap] w fun e w' => ∃ t : ByteArray, t.size ≤ 1001 ∧ e = .returned (.string t) ∧ Ext w w' := by
  have HC : Hid (Came w a len) := hC
  clear hC
  go_enter Try.func18, Try.ntmps18
  go_wp2_with fail
  refine (new_any a len cap _ HC.out).mono ?_
  rintro e w1 ⟨rfl, hc1, hb1⟩
  have E1 : Hid (Ext w w1) := hb1
  have HC1 : Hid (Cur w1 w.heap.size a len cap) := hc1
  clear hc1 hb1
  go_wp2_with fail
  refine (below_any 4 w.heap.size a len cap _ HC1.out (by omega)).mono ?_
  rintro e w2 ⟨k, _, _, _, rfl, hc2, hg2⟩
  have E2 : Hid (Ext w w2) := below_new E1.out hg2
  have HC2 : Hid (Cur w2 w.heap.size a len cap) := hc2
  clear hc2 hg2 E1 HC1
  go_wp2_with fail
  refine (drawInsOk_any a len cap _ (HC.out.below E2.out)).mono ?_
  rintro e w3 ⟨q, rfl, e3⟩
  have E3 : Hid (Ext w w3) := E2.out.trans e3
  have HC3 : Hid (Cur w3 w.heap.size a len cap) := HC2.out.kept (row := none) ⟨e3.os, e3.tape, e3.output, e3.size, fun k hk _ => e3.block k hk⟩ (by simp) (fun _ _ _ _ => by simp)
  clear e3 E2 HC2
  obtain ⟨T, hT⟩ : ∃ T : ByteArray, T = ⟨((textW q).getD []).toArray⟩ := ⟨_, rfl⟩
  have hT1 : T.size ≤ 1000 := by rw [hT]; exact textW_size q
  have HT : Hid (∀ w, Calls Try.prog 26 #[q.val] w fun e w' => e = .returned (.tuple #[.string T, .bool (textW q).isSome]) ∧ Ext w w') := fun w => by rw [hT]; exact sInsText_any q w
  clear hT
  go_wp2_with fail
  refine (HT.out _).mono ?_
  rintro e w4 ⟨rfl, e4⟩
  have E4 : Hid (Ext w w4) := E3.out.trans e4
  have HC4 : Hid (Cur w4 w.heap.size a len cap) := HC3.out.kept (row := none) ⟨e4.os, e4.tape, e4.output, e4.size, fun k hk _ => e4.block k hk⟩ (by simp) (fun _ _ _ _ => by simp)
  clear e4 E3 HC3 HT
  by_cases h0 : k = 0
  · subst h0
    go_wp2_with fail
    refine (spoilt_any T w.heap.size a len cap _ HC4.out hT1).mono ?_
    rintro e w5 ⟨t, ht, rfl, _, hg5⟩
    have E5 : Hid (Ext w w5) := below_new E4.out hg5
    clear hg5
    go_wp2
    go_ret
    exact ⟨t, ht, rfl, E5.out⟩
  have q0 : ((k : Int) == 0) = false := by simp; omega
  by_cases h1 : k = 1
  · subst h1
    have hx : (⟨#[120]⟩ : ByteArray).size = 1 := rfl
    go_wp2
    go_ret
    exact ⟨T ++ ⟨#[120]⟩, by rw [ByteArray.size_append]; show T.size + 1 ≤ 1001; omega, rfl, E4.out⟩
  have q1 : ((k : Int) == 1) = false := by simp; omega
  go_wp2
  go_ret
  exact ⟨T, by omega, rfl, E4.out⟩

theorem textP_size (ws : List Wd) (h : ws.length ≤ 13) : (⟨((textP ws).getD []).toArray⟩ : ByteArray).size ≤ 1000 := by
  show ((textP ws).getD []).toArray.size ≤ 1000
  rw [List.size_toArray]
  unfold textP
  split
  · simp [bytesP_length]; omega
  · simp

set_option maxHeartbeats 1000000 in
theorem drawReadProg_any (a : Option Addr) (len cap : Nat) (w : World) (hC : Came w a len) :
    Calls Try.prog 13 #[.slice a len cap] w fun e w' => ∃ t : ByteArray, t.size ≤ 1001 ∧ e = .returned (.string t) ∧ Ext w w' := by
  have HC : Hid (Came w a len) := hC
  clear hC
  go_enter Try.func13, Try.ntmps13
  go_wp2_with fail
  refine (new_any a len cap _ HC.out).mono ?_
  rintro e w1 ⟨rfl, hc1, hb1⟩
  have E1 : Hid (Ext w w1) := hb1
  have HC1 : Hid (Cur w1 w.heap.size a len cap) := hc1
  clear hc1 hb1
  go_wp2_with fail
  refine (below_any 4 w.heap.size a len cap _ HC1.out (by omega)).mono ?_
  rintro e w2 ⟨k, _, _, _, rfl, hc2, hg2⟩
  have E2 : Hid (Ext w w2) := below_new E1.out hg2
  have HC2 : Hid (Cur w2 w.heap.size a len cap) := hc2
  clear hc2 hg2 E1 HC1
  go_wp2_with fail
  refine (any_any w.heap.size a len cap _ HC2.out).mono ?_
  rintro e w3 ⟨g, n, c, rfl, hn1, hn13, hrow, _, hc3, hg3⟩
  have E3 : Hid (Ext w w3) := below_new E2.out hg3
  have HC3 : Hid (Cur w3 w.heap.size a len cap) := hc3
  obtain ⟨ws, hwl, hws⟩ := hrow.words
  obtain ⟨T, hT⟩ : ∃ T : ByteArray, T = ⟨((textP ws).getD []).toArray⟩ := ⟨_, rfl⟩
  have hT1 : T.size ≤ 1000 := by rw [hT]; exact textP_size ws (by omega)
  have HT : Hid (Calls Try.prog 21 #[.slice (some ⟨g, 0, none⟩) n c] w3 fun e w' => e = .returned (.tuple #[.string T, .bool (textP ws).isSome]) ∧ Ext w3 w') := by
    have h := sProgText_any (some ⟨g, 0, none⟩) c ws w3 (by omega) hws
    rw [hwl] at h
    rw [hT]
    exact h
  clear hT hc3 hg3 hrow hws hwl E2 HC2
  go_wp2_with fail
  refine (HT.out).mono ?_
  rintro e w4 ⟨rfl, e4⟩
  have E4 : Hid (Ext w w4) := E3.out.trans e4
  have HC4 : Hid (Cur w4 w.heap.size a len cap) := HC3.out.kept (row := none) ⟨e4.os, e4.tape, e4.output, e4.size, fun k hk _ => e4.block k hk⟩ (by simp) (fun _ _ _ _ => by simp)
  clear e4 E3 HC3 HT
  by_cases h0 : k = 0
  · subst h0
    go_wp2_with fail
    refine (spoilt_any T w.heap.size a len cap _ HC4.out hT1).mono ?_
    rintro e w5 ⟨t, ht, rfl, _, hg5⟩
    have E5 : Hid (Ext w w5) := below_new E4.out hg5
    clear hg5
    go_wp2
    go_ret
    exact ⟨t, ht, rfl, E5.out⟩
  have q0 : ((k : Int) == 0) = false := by simp; omega
  by_cases h1 : k = 1
  · subst h1
    have hx : (⟨#[120]⟩ : ByteArray).size = 1 := rfl
    go_wp2
    go_ret
    exact ⟨T ++ ⟨#[120]⟩, by rw [ByteArray.size_append]; show T.size + 1 ≤ 1001; omega, rfl, E4.out⟩
  have q1 : ((k : Int) == 1) = false := by simp; omega
  go_wp2
  go_ret
  exact ⟨T, by omega, rfl, E4.out⟩

theorem drawProg_any (a : Option Addr) (len cap : Nat) (w : World) (hC : Came w a len) :
    Calls Try.prog 10 #[.slice a len cap] w fun e w' => ∃ v ws, e = .returned v ∧ Own4 w' w.heap.size v ws ∧ ws.all okW = true ∧ 2 ≤ ws.length ∧ ws.length ≤ 13 ∧ Ext w w' := by
  have HC : Hid (Came w a len) := hC
  clear hC
  go_enter Try.func10, Try.ntmps10
  go_wp2_with fail
  refine (new_any a len cap _ HC.out).mono ?_
  rintro e w1 ⟨rfl, hc1, hb1⟩
  have E1 : Hid (Ext w w1) := hb1
  have HC1 : Hid (Cur w1 w.heap.size a len cap) := hc1
  clear hc1 hb1
  go_wp2_with fail
  refine (prog_any w.heap.size a len cap _ HC1.out).mono ?_
  rintro e w2 ⟨v, ws, rfl, hown, hall, h2, h13, _, hg2⟩
  have HE : Hid (Own4 w2 w.heap.size v ws ∧ ws.all okW = true ∧ 2 ≤ ws.length ∧ ws.length ≤ 13 ∧ Ext w w2) := ⟨own_lower hown E1.out.size, hall, h2, h13, below_new E1.out hg2⟩
  clear hown hall h2 h13 hg2
  go_wp2
  go_ret
  exact ⟨v, ws, rfl, HE.out⟩

theorem drawProgText_any (a : Option Addr) (len cap : Nat) (w : World) (hC : Came w a len) :
    Calls Try.prog 20 #[.slice a len cap] w fun e w' => ∃ g n c ws, e = .returned (.slice (some ⟨g, 0, none⟩) n c) ∧ ws.length = n ∧ n ≤ 13 ∧ Words w' (some ⟨g, 0, none⟩) ws ∧ Ext w w' := by
  have HC : Hid (Came w a len) := hC
  clear hC
  go_enter Try.func20, Try.ntmps20
  go_wp2_with fail
  refine (new_any a len cap _ HC.out).mono ?_
  rintro e w1 ⟨rfl, hc1, hb1⟩
  have E1 : Hid (Ext w w1) := hb1
  have HC1 : Hid (Cur w1 w.heap.size a len cap) := hc1
  clear hc1 hb1
  go_wp2_with fail
  refine (any_any w.heap.size a len cap _ HC1.out).mono ?_
  rintro e w2 ⟨g, n, c, rfl, hn1, hn13, hrow, _, _, hg2⟩
  obtain ⟨ws, hwl, hws⟩ := hrow.words
  have HE : Hid (ws.length = n ∧ n ≤ 13 ∧ Words w2 (some ⟨g, 0, none⟩) ws ∧ Ext w w2) := ⟨hwl, hn13, hws, below_new E1.out hg2⟩
  clear hwl hws hrow hg2
  go_wp2
  go_ret
  exact ⟨g, n, c, ws, rfl, HE.out⟩

end Go.Proofs.Ytefiafaokfabiaa
