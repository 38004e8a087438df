/- Chapter 10's draws: two policies. -/
import Derived.Test.YtojaohdmfahpmaaGreatDoorPolPack19
import Derived.Test.YtojaohdmfahpmaaGreatDoorPolPack24
import Derived.Test.YtojaohdmfahpmaaGreatDoorPolPack27
/- Chapter 10's draws: a policy's text, right or spoilt; policies. -/
namespace Go.Proofs.YtojaohdmfahpmaaGreatDoor
open Go.RowKit
set_option linter.unusedVariables false

set_option maxRecDepth 100000 in
set_option maxHeartbeats 1000000 in
theorem pickS_at (ts : List (List UInt8)) (n q p : Nat) (a : Option Addr) (len cap : Nat) (w : World) (hC : Cur w p a len cap) (hqp : q ≠ p) (h0 : 0 < n) (hn : n ≤ 256)
    (hall : ∀ j, j < n → ∃ t ∈ ts, w.cell? ⟨q, j, none⟩ = some (.string (txt t))) :
    Calls Tryz.prog 68 #[.pointer (some ⟨p, 0, none⟩), .slice (some ⟨q, 0, none⟩) n n] w fun e w' => ∃ t ∈ ts, e = .returned (.string (txt t)) ∧ Cur w' p a len cap ∧ w.grownBy w' (some p) := by
  have HC : Hid (Cur w p a len cap) := hC
  have HA : Hid (∀ j, j < n → ∃ t ∈ ts, w.cell? ⟨q, j, none⟩ = some (.string (txt t))) := hall
  clear hC hall
  go_enter Tryz.func68, Tryz.ntmps68
  go_wp2_with fail
  refine (below_any n p a len cap _ HC.out (by omega)).mono ?_
  rintro e w1 ⟨x, hx, _, _, rfl, hc1, hg1⟩
  have hxn := hx h0
  obtain ⟨t, ht, hz⟩ := HA.out x hxn
  have hcell : w1.cell? ⟨q, x, none⟩ = some (.string (txt t)) := hg1.cell hz (ne_some hqp)
  have hxi : (x : Int) < (n : Int) := by omega
  obtain ⟨T, hT⟩ : ∃ T, T = txt t := ⟨_, rfl⟩
  rw [← hT] at hcell
  have HT : Hid (t ∈ ts ∧ T = txt t) := ⟨ht, hT⟩
  clear hx hz ht hT
  go_wp2
  go_ret
  exact ⟨t, HT.out.1, (by rw [← HT.out.2]; rfl), hc1, hg1⟩

set_option maxRecDepth 100000 in
set_option maxHeartbeats 1000000 in
theorem text_any (n : Nat) (p : Nat) (a : Option Addr) (len cap : Nat) (w : World) (hC : Cur w p a len cap) (hn : n ≤ 5000) :
    Calls Tryz.prog 69 #[.pointer (some ⟨p, 0, none⟩), .int .i64 (n : Int)] w fun e w' => ∃ l : List UInt8, l.length = n ∧ e = .returned (.string ⟨l.toArray⟩) ∧ Cur w' p a len cap ∧ w.grownBy w' (some p) := by
  obtain ⟨i0, hi, hz0, hz1, hz2⟩ := info_parts Tryz.infoB
  have hpl := hC.lt
  have HCO : Hid (∀ b off, a = some ⟨b, off, none⟩ → 0 < len → b < w.heap.size) := hC.code
  have HC : Hid (Cur w p a len cap) := hC
  clear hC
  go_enter Tryz.func69, Tryz.ntmps69
  go_wp2
  go_loopw [5, 6] (fun v i wr => ∃ (k : Nat) (l : List UInt8), i = .int .i64 k ∧ k ≤ n ∧ Hid (l.length = k) ∧ l.length ≤ n ∧ wr.ownsRow w.heap.size 5 1 v l.length (bytesV l) ∧ Cur wr p a len cap ∧ w.grownBy wr (some p)) (fun _ i _ => n - (intOf i).toNat)
  case atStart =>
    refine ⟨0, [], rfl, by omega, rfl, by simp, World.ownsRow_lit (e := 5) (size := 1) w #[] 0 (Nat.le_refl _) (by decide) rfl, HC.out.grown (World.grownBy_alloc w _ none) hpl HCO.out (by simp), ?_⟩
    exact World.grownBy_alloc w _ _
  case round =>
    obtain ⟨k, l, rfl, hk, hlk, hln, hown, hcur, hg⟩ := hrel
    have hgs := hg.size
    by_cases hlt : k < n
    · go_wp2_with fail
      refine (byte_any p a len cap _ hcur).mono ?_
      rintro e w1 ⟨x, hx, rfl, hc1, hg1⟩
      have hown1 := hown.kept hg1 (by
        right
        intro e2
        have := hown.lt p e2
        omega)
      have hgs1 := hg1.size
      have hg2 := grown_trans hg hg1
      clear hg1 hown hcur hg
      go_wp2_with (at_builtin; refine wpList_append_own _ rfl _ _ 22 rfl w.heap.size 5 i0 (.int .u8 0) 1 1 Tryz.underlying22 hi hz0 hz1 hz2 rfl (by decide) _ _ _ rfl (hown1.alloc _) ⟨w1.heap.size, 0, none⟩ 1 1 [.int .u8 (x : Int)] rfl rfl ?c1 ?c2 ?c3 ?c4 ?c5 ?_)
      case c1 => exact cell_one_new _ _ _
      case c2 => intro u hu; simp at hu; subst hu; rfl
      case c3 => unfold maxLen; omega
      case c4 => omega
      case c5 => simp; omega
      · intro v' w2 hown' hgrow _
        rw [bytesV_push l (UInt8.ofNat x) _ (by rw [← byte_of _ (by omega)])] at hown'
        have hlo := fun y hy => (hown1.lt y hy).1
        have hc2 : Cur w2 p a len cap := (hc1.grown (World.grownBy_alloc w1 _ none) hpl HCO.out (by simp)).grown hgrow hpl HCO.out hlo
        have hg3 : w.grownBy w2 (some p) := grown_own (grown_trans hg2 (World.grownBy_alloc w1 _ _)) hgrow hlo
        clear hgrow hown1 hc1 hg2 hlo
        go_wp2
        go_roundw
        case rel => first | exact ⟨k + 1, l ++ [UInt8.ofNat x], by go_num, by omega, by have := hlk.out; unfold Hid; simp; omega, by have := hlk.out; simp; omega, by simpa using hown', hc2, hg3⟩ | ((repeat apply Exists.intro); exact ⟨⟨k + 1, l ++ [UInt8.ofNat x], by go_num, by omega, by have := hlk.out; unfold Hid; simp; omega, by have := hlk.out; simp; omega, by simpa using hown', hc2, hg3⟩, rfl⟩)
        case measure => simp [intOf]; omega
    · have hcv := own_convert (P := Tryz.prog) hown Tryz.underlying22 Tryz.underlying5 Tryz.underlying9
      clear hown
      go_wp2
      go_ret
      exact ⟨l, by have := hlk.out; omega, rfl, hcur, hg⟩

set_option maxRecDepth 100000 in
set_option maxHeartbeats 4000000 in
theorem spoilt_any (s : ByteArray) (p : Nat) (a : Option Addr) (len cap : Nat) (w : World) (hC : Cur w p a len cap) (hs : s.size ≤ 1200) :
    Calls Tryz.prog 30 #[.pointer (some ⟨p, 0, none⟩), .string s] w fun e w' => ∃ t : ByteArray, t.size ≤ 1201 ∧ e = .returned (.string t) ∧ Cur w' p a len cap ∧ w.grownBy w' (some p) := by
  have HC : Hid (Cur w p a len cap) := hC
  clear hC
  go_enter Tryz.func30, Tryz.ntmps30
  go_wp2_with fail
  refine (below_any 12 p a len cap _ HC.out (by omega)).mono ?_
  rintro e w1 ⟨k, _, _, _, rfl, hc1, hg1⟩
  have HC1 : Hid (Cur w1 p a len cap) := hc1
  have HG1 : Hid (w.grownBy w1 (some p)) := hg1
  clear hc1 hg1
  by_cases h0 : k = 0
  · subst h0
    go_wp2_with fail
    refine (text_any 1 p a len cap _ HC1.out (by omega)).mono ?_
    rintro e w2 ⟨l, hl, rfl, hc2, hg2⟩
    have HG2 : Hid (w.grownBy w2 (some p)) := grown_trans HG1.out hg2
    have hls : (⟨l.toArray⟩ : ByteArray).size = 1 := by show l.toArray.size = 1; simp [hl]
    obtain ⟨L, hL⟩ : ∃ L : ByteArray, L = ⟨l.toArray⟩ := ⟨_, rfl⟩
    rw [← hL] at hls ⊢
    clear hL hg2
    go_wp2
    go_ret
    exact ⟨s ++ L, by rw [ByteArray.size_append]; omega, rfl, hc2, HG2.out⟩
  have q0 : ((k : Int) == 0) = false := by simp; omega
  by_cases h1 : k = 1
  · subst h1
    have es : (s.size : Int) + 1 = ((s.size + 1 : Nat) : Int) := by omega
    have HB := fun W (h : Cur W p a len cap) => below_any (s.size + 1) p a len cap W h (by omega)
    have HB' : Hid (∀ W, Cur W p a len cap → Calls Tryz.prog 28 #[.pointer (some ⟨p, 0, none⟩), .int .i64 ((s.size : Int) + 1)] W fun e w' => ∃ x : Nat, (0 < s.size + 1 → x < s.size + 1) ∧ x < 4294967296 ∧ (s.size + 1 ≤ 256 → x ≤ 256) ∧ e = .returned (.int .i64 (x : Int)) ∧ Cur w' p a len cap ∧ W.grownBy w' (some p)) := fun W h => by rw [es]; exact HB W h
    clear HB es
    go_wp2_with fail
    refine (HB'.out _ HC1.out).mono ?_
    rintro e w2 ⟨x, hx, _, _, rfl, hc2, hg2⟩
    have hx' : x ≤ s.size := by have := hx (by omega); omega
    have HG2 : Hid (w.grownBy w2 (some p)) := grown_trans HG1.out hg2
    clear hx hg2
    go_wp2
    go_ret
    exact ⟨_, by rw [ByteArray.size_extract]; omega, rfl, hc2, HG2.out⟩
  have q1 : ((k : Int) == 1) = false := by simp; omega
  by_cases h23 : k = 2 ∨ k = 3
  · by_cases hpos : 0 < s.size
    · have hpos' : (0 : Int) < (s.size : Int) := by omega
      rcases h23 with rfl | rfl
      · go_wp2_with fail
        refine (below_any s.size p a len cap _ HC1.out (by omega)).mono ?_
        rintro e w2 ⟨x, hx, _, _, rfl, hc2, hg2⟩
        have hx' : x < s.size := hx hpos
        have hx'' : (x : Int) < (s.size : Int) := by omega
        have HC2 : Hid (Cur w2 p a len cap) := hc2
        have HG2 : Hid (w.grownBy w2 (some p)) := grown_trans HG1.out hg2
        clear hx hg2 hc2
        have z1 : (s.extract 0 x).size = x := by rw [ByteArray.size_extract]; omega
        obtain ⟨x1, hx1⟩ : ∃ x1, x1 = x + 1 := ⟨_, rfl⟩
        have z2 : (s.extract x1 s.size).size = s.size - x1 := by rw [ByteArray.size_extract]; omega
        have hw2 : (x : Int) + 1 = (x1 : Int) := by omega
        have y3 : (x1 : Int) ≤ (s.size : Int) := by omega
        have HX1 : Hid (x1 = x + 1) := hx1
        clear hx1
        go_wp2
        refine' wp_region_loosec (.inl _ :: .inl _ :: .inl _ :: .inl _ :: .inr (fun v _ => ∃ l : List UInt8, l.length = 1 ∧ v = .string ⟨l.toArray⟩) :: .inr (fun v _ => ∃ t : ByteArray, t.size = x + 1 ∧ v = .string t) :: .inl _ :: .inl _ :: .inl _ :: .inl _ :: .inr (fun v _ => ∃ t : ByteArray, t.size ≤ 1201 ∧ v = .string t) :: .inr (fun v _ => ∃ t : ByteArray, t.size ≤ 1201 ∧ v = .string t) :: []) (fun w' => Cur w' p a len cap ∧ w.grownBy w' (some p)) (by kernel_rfl) (by kernel_rfl) (⟨HC2.out, ⟨HG2.out.os, HG2.out.tape, HG2.out.output, HG2.out.size, HG2.out.block⟩⟩) ?hAa ?hla ?hMa
        case' hMa => skip
        apply wpLooseC_val rfl rfl
        case hs =>
          intro w1 hC hd Q1 hQ1
          dsimp only [bare]
          skip
          clear hd
          have HCC : Hid _ := hC
          clear hC
          go_wp2
          exact HCC.out
        case ha => rfl
        apply wpLooseC_val rfl rfl
        case hs =>
          intro w1 hC hd Q1 hQ1
          dsimp only [bare]
          skip
          clear hd
          have HCC : Hid _ := hC
          clear hC
          go_wp2
          exact HCC.out
        case ha => rfl
        apply wpLooseC_val rfl rfl
        case hs =>
          intro w1 hC hd Q1 hQ1
          dsimp only [bare]
          skip
          clear hd
          have HCC : Hid _ := hC
          clear hC
          go_wp2
          exact HCC.out
        case ha => rfl
        apply wpLooseC_val rfl rfl
        case hs =>
          intro w1 hC hd Q1 hQ1
          dsimp only [bare]
          skip
          clear hd
          have HCC : Hid _ := hC
          clear hC
          go_wp2
          exact HCC.out
        case ha => rfl
        refine wpLooseC_rel rfl rfl ?_ (fun va_4 => ?_)
        · intro w1 hC hd Q1 hQ1
          dsimp only [bare]
          obtain ⟨hc, hg⟩ := hC
          clear hd
          go_wp2_with fail
          refine (text_any 1 p a len cap _ hc (by omega)).mono ?_
          rintro e w9 ⟨l, hl, rfl, hc9, hg9⟩
          go_wp2_with fail
          exact hQ1 _ _ ⟨hc9, grown_trans hg hg9⟩ ⟨l, hl, rfl⟩
        refine wpLooseC_rel rfl rfl ?_ (fun va_5 => ?_)
        · intro w1 hC hd Q1 hQ1
          dsimp only [bare]
          have h4 : ∃ l : List UInt8, l.length = 1 ∧ va_4 = .string ⟨l.toArray⟩ := hd ⟨4, .data⟩ (by simp) rfl _ rfl (by first | (simp; done) | (simp [Act.put]; done))
          obtain ⟨l, hl, hv⟩ := h4
          subst hv
          have hls : (⟨l.toArray⟩ : ByteArray).size = 1 := (by show l.toArray.size = 1; simp [hl])
          have HCC : Hid _ := hC
          clear hd hC
          go_wp2
          exact hQ1 _ _ HCC.out ⟨_, by rw [ByteArray.size_append, z1, hls], rfl⟩
        apply wpLooseC_val rfl rfl
        case hs =>
          intro w1 hC hd Q1 hQ1
          dsimp only [bare]
          skip
          clear hd
          have HCC : Hid _ := hC
          clear hC
          go_wp2
          exact HCC.out
        case ha => rfl
        apply wpLooseC_val rfl rfl
        case hs =>
          intro w1 hC hd Q1 hQ1
          dsimp only [bare]
          skip
          clear hd
          have HCC : Hid _ := hC
          clear hC
          go_wp2
          exact HCC.out
        case ha => rfl
        apply wpLooseC_val rfl rfl
        case hs =>
          intro w1 hC hd Q1 hQ1
          dsimp only [bare]
          skip
          clear hd
          have HCC : Hid _ := hC
          clear hC
          go_wp2
          exact HCC.out
        case ha => rfl
        apply wpLooseC_val rfl rfl
        case hs =>
          intro w1 hC hd Q1 hQ1
          dsimp only [bare]
          skip
          clear hd
          have HCC : Hid _ := hC
          clear hC
          go_wp2
          exact HCC.out
        case ha => rfl
        refine wpLooseC_rel rfl rfl ?_ (fun va_10 => ?_)
        · intro w1 hC hd Q1 hQ1
          dsimp only [bare]
          have h5 : ∃ t : ByteArray, t.size = x + 1 ∧ va_5 = .string t := hd ⟨5, .data⟩ (by simp) rfl _ rfl (by first | (simp; done) | (simp [Act.put]; done))
          obtain ⟨t, ht, hv⟩ := h5
          subst hv
          have HCC : Hid _ := hC
          clear hd hC
          go_wp2
          exact hQ1 _ _ HCC.out ⟨_, by rw [ByteArray.size_append, z2, ht]; have := HX1.out; omega, rfl⟩
        refine wpLooseC_rel rfl rfl ?_ (fun va_11 => ?_)
        · intro w1 hC hd Q1 hQ1
          dsimp only [bare]
          have h10 : ∃ t : ByteArray, t.size ≤ 1201 ∧ va_10 = .string t := hd ⟨10, .data⟩ (by simp) rfl _ rfl (by first | (simp; done) | (simp [Act.put]; done))
          have HCC : Hid _ := hC
          clear hd hC
          go_wp2
          exact hQ1 _ _ HCC.out h10
        refine wpLooseC_nil ?_
        intro wa hCa hFa
        · obtain ⟨t, ht, rfl⟩ := hFa 11 _ rfl (by first | (simp; done) | (simp [Act.put]; done))
          clear hFa
          simp only [Act.put]
          go_wp2
          go_ret
          exact ⟨t, ht, rfl, hCa.1, hCa.2⟩
        case hAa => kernel_rfl
        case hla => exact ⟨trivial, trivial, trivial, trivial, (fun _ _ _ h => h), (fun _ _ _ h => h), trivial, trivial, trivial, trivial, (fun _ _ _ h => h), (fun _ _ _ h => h), trivial⟩
      · go_wp2_with fail
        refine (below_any s.size p a len cap _ HC1.out (by omega)).mono ?_
        rintro e w2 ⟨x, hx, _, _, rfl, hc2, hg2⟩
        have hx' : x < s.size := hx hpos
        have hx'' : (x : Int) < (s.size : Int) := by omega
        have HC2 : Hid (Cur w2 p a len cap) := hc2
        have HG2 : Hid (w.grownBy w2 (some p)) := grown_trans HG1.out hg2
        clear hx hg2 hc2
        have z1 : (s.extract 0 x).size = x := by rw [ByteArray.size_extract]; omega
        obtain ⟨x1, hx1⟩ : ∃ x1, x1 = x + 1 := ⟨_, rfl⟩
        have z2 : (s.extract x1 s.size).size = s.size - x1 := by rw [ByteArray.size_extract]; omega
        have hw2 : (x : Int) + 1 = (x1 : Int) := by omega
        have y3 : (x1 : Int) ≤ (s.size : Int) := by omega
        have HX1 : Hid (x1 = x + 1) := hx1
        clear hx1
        go_wp2
        refine' wp_region_loosec (.inl _ :: .inl _ :: .inl _ :: .inl _ :: .inr (fun v _ => ∃ l : List UInt8, l.length = 1 ∧ v = .string ⟨l.toArray⟩) :: .inr (fun v _ => ∃ t : ByteArray, t.size = x + 1 ∧ v = .string t) :: .inl _ :: .inl _ :: .inl _ :: .inl _ :: .inr (fun v _ => ∃ t : ByteArray, t.size ≤ 1201 ∧ v = .string t) :: .inr (fun v _ => ∃ t : ByteArray, t.size ≤ 1201 ∧ v = .string t) :: []) (fun w' => Cur w' p a len cap ∧ w.grownBy w' (some p)) (by kernel_rfl) (by kernel_rfl) (⟨HC2.out, ⟨HG2.out.os, HG2.out.tape, HG2.out.output, HG2.out.size, HG2.out.block⟩⟩) ?hAb ?hlb ?hMb
        case' hMb => skip
        apply wpLooseC_val rfl rfl
        case hs =>
          intro w1 hC hd Q1 hQ1
          dsimp only [bare]
          skip
          clear hd
          have HCC : Hid _ := hC
          clear hC
          go_wp2
          exact HCC.out
        case ha => rfl
        apply wpLooseC_val rfl rfl
        case hs =>
          intro w1 hC hd Q1 hQ1
          dsimp only [bare]
          skip
          clear hd
          have HCC : Hid _ := hC
          clear hC
          go_wp2
          exact HCC.out
        case ha => rfl
        apply wpLooseC_val rfl rfl
        case hs =>
          intro w1 hC hd Q1 hQ1
          dsimp only [bare]
          skip
          clear hd
          have HCC : Hid _ := hC
          clear hC
          go_wp2
          exact HCC.out
        case ha => rfl
        apply wpLooseC_val rfl rfl
        case hs =>
          intro w1 hC hd Q1 hQ1
          dsimp only [bare]
          skip
          clear hd
          have HCC : Hid _ := hC
          clear hC
          go_wp2
          exact HCC.out
        case ha => rfl
        refine wpLooseC_rel rfl rfl ?_ (fun vb_4 => ?_)
        · intro w1 hC hd Q1 hQ1
          dsimp only [bare]
          obtain ⟨hc, hg⟩ := hC
          clear hd
          go_wp2_with fail
          refine (text_any 1 p a len cap _ hc (by omega)).mono ?_
          rintro e w9 ⟨l, hl, rfl, hc9, hg9⟩
          go_wp2_with fail
          exact hQ1 _ _ ⟨hc9, grown_trans hg hg9⟩ ⟨l, hl, rfl⟩
        refine wpLooseC_rel rfl rfl ?_ (fun vb_5 => ?_)
        · intro w1 hC hd Q1 hQ1
          dsimp only [bare]
          have h4 : ∃ l : List UInt8, l.length = 1 ∧ vb_4 = .string ⟨l.toArray⟩ := hd ⟨4, .data⟩ (by simp) rfl _ rfl (by first | (simp; done) | (simp [Act.put]; done))
          obtain ⟨l, hl, hv⟩ := h4
          subst hv
          have hls : (⟨l.toArray⟩ : ByteArray).size = 1 := (by show l.toArray.size = 1; simp [hl])
          have HCC : Hid _ := hC
          clear hd hC
          go_wp2
          exact hQ1 _ _ HCC.out ⟨_, by rw [ByteArray.size_append, z1, hls], rfl⟩
        apply wpLooseC_val rfl rfl
        case hs =>
          intro w1 hC hd Q1 hQ1
          dsimp only [bare]
          skip
          clear hd
          have HCC : Hid _ := hC
          clear hC
          go_wp2
          exact HCC.out
        case ha => rfl
        apply wpLooseC_val rfl rfl
        case hs =>
          intro w1 hC hd Q1 hQ1
          dsimp only [bare]
          skip
          clear hd
          have HCC : Hid _ := hC
          clear hC
          go_wp2
          exact HCC.out
        case ha => rfl
        apply wpLooseC_val rfl rfl
        case hs =>
          intro w1 hC hd Q1 hQ1
          dsimp only [bare]
          skip
          clear hd
          have HCC : Hid _ := hC
          clear hC
          go_wp2
          exact HCC.out
        case ha => rfl
        apply wpLooseC_val rfl rfl
        case hs =>
          intro w1 hC hd Q1 hQ1
          dsimp only [bare]
          skip
          clear hd
          have HCC : Hid _ := hC
          clear hC
          go_wp2
          exact HCC.out
        case ha => rfl
        refine wpLooseC_rel rfl rfl ?_ (fun vb_10 => ?_)
        · intro w1 hC hd Q1 hQ1
          dsimp only [bare]
          have h5 : ∃ t : ByteArray, t.size = x + 1 ∧ vb_5 = .string t := hd ⟨5, .data⟩ (by simp) rfl _ rfl (by first | (simp; done) | (simp [Act.put]; done))
          obtain ⟨t, ht, hv⟩ := h5
          subst hv
          have HCC : Hid _ := hC
          clear hd hC
          go_wp2
          exact hQ1 _ _ HCC.out ⟨_, by rw [ByteArray.size_append, z2, ht]; have := HX1.out; omega, rfl⟩
        refine wpLooseC_rel rfl rfl ?_ (fun vb_11 => ?_)
        · intro w1 hC hd Q1 hQ1
          dsimp only [bare]
          have h10 : ∃ t : ByteArray, t.size ≤ 1201 ∧ vb_10 = .string t := hd ⟨10, .data⟩ (by simp) rfl _ rfl (by first | (simp; done) | (simp [Act.put]; done))
          have HCC : Hid _ := hC
          clear hd hC
          go_wp2
          exact hQ1 _ _ HCC.out h10
        refine wpLooseC_nil ?_
        intro wb hCb hFb
        · obtain ⟨t, ht, rfl⟩ := hFb 11 _ rfl (by first | (simp; done) | (simp [Act.put]; done))
          clear hFb
          simp only [Act.put]
          go_wp2
          go_ret
          exact ⟨t, ht, rfl, hCb.1, hCb.2⟩
        case hAb => kernel_rfl
        case hlb => exact ⟨trivial, trivial, trivial, trivial, (fun _ _ _ h => h), (fun _ _ _ h => h), trivial, trivial, trivial, trivial, (fun _ _ _ h => h), (fun _ _ _ h => h), trivial⟩
    · have hz : s.size = 0 := by omega
      have hz' : ¬ ((0 : Int) < (s.size : Int)) := by omega
      rcases h23 with rfl | rfl
      all_goals
        go_wp2
        go_ret
        exact ⟨s, by omega, rfl, HC1.out, HG1.out⟩
  have q2 : ((k : Int) == 2) = false := by simp; omega
  have q3 : ((k : Int) == 3) = false := by simp; omega
  go_wp2
  go_ret
  exact ⟨s, by omega, rfl, HC1.out, HG1.out⟩

theorem showR_short (p : PN) : (showR p).1.length ≤ 1200 := by
  unfold showR
  split
  · split
    · simp
    · simp only; omega
  · simp

def textsT : List (List UInt8) := [[97, 114, 99, 104, 32, 54, 50, 32, 59, 32, 100, 101, 102, 97, 117, 108, 116, 32, 97, 108, 108, 111, 119, 32, 59], [97, 114, 99, 104, 32, 54, 50, 32, 59, 32, 100, 101, 102, 97, 117, 108, 116, 32, 97, 108, 108, 111, 119, 32, 59, 32, 111, 110, 32, 114, 101, 97, 100, 32, 44, 32, 119, 114, 105, 116, 101, 32, 100, 111, 32, 108, 111, 103, 32, 59], [97, 114, 99, 104, 32, 54, 50, 59, 100, 101, 102, 97, 117, 108, 116, 32, 107, 105, 108, 108, 59, 111, 110, 32, 97, 110, 121, 32, 105, 102, 32, 97, 114, 103, 32, 48, 32, 38, 32, 50, 53, 53, 32, 61, 61, 32, 55, 32, 100, 111, 32, 101, 114, 114, 32, 49, 51, 59], [97, 114, 99, 104, 32, 54, 50, 32, 59, 32, 100, 101, 102, 97, 117, 108, 116, 32, 97, 108, 108, 111, 119, 32, 59, 32, 111, 110, 32, 114, 101, 97, 100, 32, 44, 32, 114, 101, 97, 100, 32, 100, 111, 32, 108, 111, 103, 32, 59], [97, 114, 99, 104, 32, 54, 50, 32, 59, 32, 100, 101, 102, 97, 117, 108, 116, 32, 119, 104, 97, 116, 32, 59], [97, 114, 99, 104, 32, 54, 50, 32, 59, 32, 100, 101, 102, 97, 117, 108, 116, 32, 97, 108, 108, 111, 119, 32, 59, 32, 111, 110, 32, 97, 110, 121, 32, 105, 102, 32, 97, 114, 103, 32, 51, 32, 61, 61, 32, 49, 32, 100, 111, 32, 108, 111, 103, 32, 59], [97, 114, 99, 104, 32, 54, 50, 32, 59, 32, 100, 101, 102, 97, 117, 108, 116, 32, 97, 108, 108, 111, 119, 32, 59, 32, 111, 110, 32, 102, 111, 114, 107, 32, 105, 102, 32, 97, 114, 103, 32, 49, 32, 62, 61, 32, 49, 32, 58, 32, 48, 32, 97, 110, 100, 32, 97, 114, 103, 32, 50, 32, 33, 61, 32, 53, 32, 100, 111, 32, 116, 114, 97, 112, 32, 59], [100, 101, 102, 97, 117, 108, 116, 32, 97, 108, 108, 111, 119, 32, 59], [97, 114, 99, 104, 32, 54, 50, 32, 59, 32, 100, 101, 102, 97, 117, 108, 116, 32, 97, 108, 108, 111, 119, 32, 59, 32, 111, 110, 32, 97, 110, 121, 32, 100, 111, 32, 108, 111, 103]]

def textsV : List Value := [.string ⟨#[97, 114, 99, 104, 32, 54, 50, 32, 59, 32, 100, 101, 102, 97, 117, 108, 116, 32, 97, 108, 108, 111, 119, 32, 59]⟩, .string ⟨#[97, 114, 99, 104, 32, 54, 50, 32, 59, 32, 100, 101, 102, 97, 117, 108, 116, 32, 97, 108, 108, 111, 119, 32, 59, 32, 111, 110, 32, 114, 101, 97, 100, 32, 44, 32, 119, 114, 105, 116, 101, 32, 100, 111, 32, 108, 111, 103, 32, 59]⟩, .string ⟨#[97, 114, 99, 104, 32, 54, 50, 59, 100, 101, 102, 97, 117, 108, 116, 32, 107, 105, 108, 108, 59, 111, 110, 32, 97, 110, 121, 32, 105, 102, 32, 97, 114, 103, 32, 48, 32, 38, 32, 50, 53, 53, 32, 61, 61, 32, 55, 32, 100, 111, 32, 101, 114, 114, 32, 49, 51, 59]⟩, .string ⟨#[97, 114, 99, 104, 32, 54, 50, 32, 59, 32, 100, 101, 102, 97, 117, 108, 116, 32, 97, 108, 108, 111, 119, 32, 59, 32, 111, 110, 32, 114, 101, 97, 100, 32, 44, 32, 114, 101, 97, 100, 32, 100, 111, 32, 108, 111, 103, 32, 59]⟩, .string ⟨#[97, 114, 99, 104, 32, 54, 50, 32, 59, 32, 100, 101, 102, 97, 117, 108, 116, 32, 119, 104, 97, 116, 32, 59]⟩, .string ⟨#[97, 114, 99, 104, 32, 54, 50, 32, 59, 32, 100, 101, 102, 97, 117, 108, 116, 32, 97, 108, 108, 111, 119, 32, 59, 32, 111, 110, 32, 97, 110, 121, 32, 105, 102, 32, 97, 114, 103, 32, 51, 32, 61, 61, 32, 49, 32, 100, 111, 32, 108, 111, 103, 32, 59]⟩, .string ⟨#[97, 114, 99, 104, 32, 54, 50, 32, 59, 32, 100, 101, 102, 97, 117, 108, 116, 32, 97, 108, 108, 111, 119, 32, 59, 32, 111, 110, 32, 102, 111, 114, 107, 32, 105, 102, 32, 97, 114, 103, 32, 49, 32, 62, 61, 32, 49, 32, 58, 32, 48, 32, 97, 110, 100, 32, 97, 114, 103, 32, 50, 32, 33, 61, 32, 53, 32, 100, 111, 32, 116, 114, 97, 112, 32, 59]⟩, .string ⟨#[100, 101, 102, 97, 117, 108, 116, 32, 97, 108, 108, 111, 119, 32, 59]⟩, .string ⟨#[97, 114, 99, 104, 32, 54, 50, 32, 59, 32, 100, 101, 102, 97, 117, 108, 116, 32, 97, 108, 108, 111, 119, 32, 59, 32, 111, 110, 32, 97, 110, 121, 32, 100, 111, 32, 108, 111, 103]⟩]

theorem texts_at {k : Nat} (h : k < 9) : ∃ t ∈ textsT, textsV[k]? = some (.string (txt t)) := by
  have : k = 0 ∨ k = 1 ∨ k = 2 ∨ k = 3 ∨ k = 4 ∨ k = 5 ∨ k = 6 ∨ k = 7 ∨ k = 8 := by omega
  refine ⟨textsT.getD k [], ?_, ?_⟩
  · rw [List.getD_eq_getElem?_getD, List.getElem?_eq_getElem (show k < textsT.length from h)]; exact List.getElem_mem _
  · rcases this with rfl | rfl | rfl | rfl | rfl | rfl | rfl | rfl | rfl <;> rfl

theorem texts_short : ∀ t ∈ textsT, t.length ≤ 1200 := by decide

theorem blk_at (W : World) (l : List Value) (t : TypeId) (k : Nat) (v : Value) (h : l[k]? = some v) : (W.alloc (.cells l.toArray t)).cell? ⟨W.heap.size, k, none⟩ = some v := (Blk.new W l t).cell k v h

set_option maxRecDepth 100000 in
set_option maxHeartbeats 4000000 in
theorem text10_any (p : Nat) (a : Option Addr) (len cap : Nat) (w : World) (hC : Cur w p a len cap) :
    Calls Tryz.prog 29 #[.pointer (some ⟨p, 0, none⟩)] w fun e w' => ∃ t : ByteArray, t.size ≤ 1200 ∧ e = .returned (.string t) ∧ Cur w' p a len cap ∧ w.grownBy w' (some p) := by
  have HC : Hid (Cur w p a len cap) := hC
  clear hC
  go_enter Tryz.func29, Tryz.ntmps29
  go_wp2_with fail
  refine (once_any 3 p a len cap _ HC.out (by omega)).mono ?_
  rintro e w1 ⟨b, rfl, hc1, hg1⟩
  have H1 : Hid (Cur w1 p a len cap ∧ w.grownBy w1 (some p)) := ⟨hc1, hg1⟩
  clear hc1 hg1
  cases b
  · go_wp2_with fail
    refine (policy_any p a len cap _ H1.out.1).mono ?_
    rintro e w2 ⟨pol, a1, n1, c1, ac, da, hpb, hps, rfl, hp1, hp2, hp3, hp4, hrp, hc2, hg2⟩
    have H2 : Hid (Cur w2 p a len cap ∧ w.grownBy w2 (some p)) := ⟨hc2, grown_trans H1.out.2 hg2⟩
    have HS : Hid (Calls Tryz.prog 13 #[.agg #[.int .i64 62, .int .i64 ac, .int .i64 da, .slice a1 n1 c1]] w2 fun e w' => e = .returned (.tuple #[.string (txt (showR pol).1), .bool (showR pol).2]) ∧ Ext w2 w') := sShow_any hps ⟨a1, c1, by rw [hp1, hp2, hp3, hp4], hrp.rules⟩
    have HL : Hid ((txt (showR pol).1).size ≤ 1200) := by
      show (showR pol).1.toArray.size ≤ 1200
      simpa using showR_short pol
    clear hpb hps hp1 hp2 hp3 hp4 hrp hc2 hg2
    generalize txt (showR pol).1 = T at *
    generalize (showR pol).2 = z at *
    go_wp2_with fail
    refine (show Calls Tryz.prog 13 _ _ _ from HS.out).mono ?_
    rintro e w3 ⟨rfl, x3⟩
    have H3 : Hid (Cur w3 p a len cap ∧ w.grownBy w3 (some p)) := ⟨H2.out.1.kept (grown_ext x3 none) (by simp) (fun _ _ _ _ => by simp), grown_trans H2.out.2 (grown_ext x3 _)⟩
    clear x3 HS
    go_wp2
    go_ret
    exact ⟨T, HL.out, rfl, H3.out⟩
  · have hq : w1.heap.size ≠ p := by have := H1.out.1.lt; omega
    have HP : Hid (Calls Tryz.prog 68 #[.pointer (some ⟨p, 0, none⟩), .slice (some ⟨w1.heap.size, 0, none⟩) 9 9] (w1.alloc (.cells textsV.toArray 9)) fun e w' => ∃ t ∈ textsT, e = .returned (.string (txt t)) ∧ Cur w' p a len cap ∧ (w1.alloc (.cells textsV.toArray 9)).grownBy w' (some p)) :=
      pickS_at textsT 9 w1.heap.size p a len cap _ (H1.out.1.alloc _) hq (by omega) (by omega) (fun j hj => by
        obtain ⟨t, ht, e⟩ := texts_at hj
        exact ⟨t, ht, blk_at w1 textsV 9 j _ e⟩)
    have HG : Hid (w.grownBy (w1.alloc (.cells textsV.toArray 9)) (some p)) := grown_alloc H1.out.2 _
    unfold textsV at HP HG
    clear hq
    go_wp2_with fail
    generalize w1.alloc (.cells [.string ⟨#[97, 114, 99, 104, 32, 54, 50, 32, 59, 32, 100, 101, 102, 97, 117, 108, 116, 32, 97, 108, 108, 111, 119, 32, 59]⟩, .string ⟨#[97, 114, 99, 104, 32, 54, 50, 32, 59, 32, 100, 101, 102, 97, 117, 108, 116, 32, 97, 108, 108, 111, 119, 32, 59, 32, 111, 110, 32, 114, 101, 97, 100, 32, 44, 32, 119, 114, 105, 116, 101, 32, 100, 111, 32, 108, 111, 103, 32, 59]⟩, .string ⟨#[97, 114, 99, 104, 32, 54, 50, 59, 100, 101, 102, 97, 117, 108, 116, 32, 107, 105, 108, 108, 59, 111, 110, 32, 97, 110, 121, 32, 105, 102, 32, 97, 114, 103, 32, 48, 32, 38, 32, 50, 53, 53, 32, 61, 61, 32, 55, 32, 100, 111, 32, 101, 114, 114, 32, 49, 51, 59]⟩, .string ⟨#[97, 114, 99, 104, 32, 54, 50, 32, 59, 32, 100, 101, 102, 97, 117, 108, 116, 32, 97, 108, 108, 111, 119, 32, 59, 32, 111, 110, 32, 114, 101, 97, 100, 32, 44, 32, 114, 101, 97, 100, 32, 100, 111, 32, 108, 111, 103, 32, 59]⟩, .string ⟨#[97, 114, 99, 104, 32, 54, 50, 32, 59, 32, 100, 101, 102, 97, 117, 108, 116, 32, 119, 104, 97, 116, 32, 59]⟩, .string ⟨#[97, 114, 99, 104, 32, 54, 50, 32, 59, 32, 100, 101, 102, 97, 117, 108, 116, 32, 97, 108, 108, 111, 119, 32, 59, 32, 111, 110, 32, 97, 110, 121, 32, 105, 102, 32, 97, 114, 103, 32, 51, 32, 61, 61, 32, 49, 32, 100, 111, 32, 108, 111, 103, 32, 59]⟩, .string ⟨#[97, 114, 99, 104, 32, 54, 50, 32, 59, 32, 100, 101, 102, 97, 117, 108, 116, 32, 97, 108, 108, 111, 119, 32, 59, 32, 111, 110, 32, 102, 111, 114, 107, 32, 105, 102, 32, 97, 114, 103, 32, 49, 32, 62, 61, 32, 49, 32, 58, 32, 48, 32, 97, 110, 100, 32, 97, 114, 103, 32, 50, 32, 33, 61, 32, 53, 32, 100, 111, 32, 116, 114, 97, 112, 32, 59]⟩, .string ⟨#[100, 101, 102, 97, 117, 108, 116, 32, 97, 108, 108, 111, 119, 32, 59]⟩, .string ⟨#[97, 114, 99, 104, 32, 54, 50, 32, 59, 32, 100, 101, 102, 97, 117, 108, 116, 32, 97, 108, 108, 111, 119, 32, 59, 32, 111, 110, 32, 97, 110, 121, 32, 100, 111, 32, 108, 111, 103]⟩].toArray 9) = W2 at *
    refine (show Calls Tryz.prog 68 _ _ _ from HP.out).mono ?_
    rintro e w2 ⟨t, ht, rfl, hc2, hg2⟩
    have HT : Hid ((txt t).size ≤ 1200) := by
      show t.toArray.size ≤ 1200
      simpa using texts_short t ht
    have H2 : Hid (Cur w2 p a len cap ∧ w.grownBy w2 (some p)) := ⟨hc2, grown_trans HG.out hg2⟩
    clear ht hc2 hg2 HP
    generalize txt t = T at *
    go_wp2
    go_ret
    exact ⟨T, HT.out, rfl, H2.out⟩

set_option maxRecDepth 100000 in
set_option maxHeartbeats 2000000 in
theorem drawRead_any (a : Option Addr) (len cap : Nat) (w : World) (hC : Came w a len) :
    Calls Tryz.prog 9 #[.slice a len cap] w fun e w' => ∃ t : ByteArray, t.size ≤ 1201 ∧ e = .returned (.string t) ∧ Ext w w' := by
  have HC : Hid (Came w a len) := hC
  clear hC
  go_enter Tryz.func9, Tryz.ntmps9
  go_wp2_with fail
  refine (new_any a len cap _ HC.out).mono ?_
  rintro e w1 ⟨rfl, hc1, hb1⟩
  have H1 : Hid (Cur w1 w.heap.size a len cap ∧ Ext w w1) := ⟨hc1, hb1⟩
  clear hc1 hb1
  go_wp2_with fail
  refine (below_any 6 w.heap.size a len cap _ H1.out.1 (by omega)).mono ?_
  rintro e w2 ⟨k, _, _, _, rfl, hc2, hg2⟩
  have H2 : Hid (Cur w2 w.heap.size a len cap ∧ Ext w w2) := ⟨hc2, ext_new H1.out.2 (Nat.le_refl _) hg2⟩
  clear hc2 hg2 H1
  go_wp2_with fail
  refine (text10_any w.heap.size a len cap _ H2.out.1).mono ?_
  rintro e w3 ⟨s, hs, rfl, hc3, hg3⟩
  have H3 : Hid (Cur w3 w.heap.size a len cap ∧ Ext w w3 ∧ s.size ≤ 1200) := ⟨hc3, ext_new H2.out.2 (Nat.le_refl _) hg3, hs⟩
  clear hc3 hg3 hs H2
  by_cases h0 : k = 0
  · subst h0
    go_wp2_with fail
    refine (spoilt_any s w.heap.size a len cap _ H3.out.1 H3.out.2.2).mono ?_
    rintro e w4 ⟨t, ht, rfl, hc4, hg4⟩
    have H4 : Hid (t.size ≤ 1201 ∧ Ext w w4) := ⟨ht, ext_new H3.out.2.1 (Nat.le_refl _) hg4⟩
    clear ht hc4 hg4
    go_wp2
    go_ret
    exact ⟨t, H4.out.1, rfl, H4.out.2⟩
  · have q0 : ((k : Int) == 0) = false := by simp; omega
    clear h0
    go_wp2
    go_ret
    exact ⟨s, by have := H3.out.2.2; omega, rfl, H3.out.2.1⟩

/-- A policy, right or not, of no great length. -/
def AnyPol (w : World) (u : Value) : Prop := ∃ pol : PN, SmallR pol.rules ∧ RepPolC pol u w

theorem polM_any {B : Nat} {w : World} {ar ac da : Int} {a : Option Addr} {n c : Nat} (h : PolM B w a n) : AnyPol w (.agg #[.int .i64 ar, .int .i64 ac, .int .i64 da, .slice a n c]) := by
  obtain ⟨rs, rfl, hs, hr⟩ := h
  exact ⟨⟨ar, ac, da, rs⟩, hs, a, c, rfl, hr.rulesC⟩

set_option maxRecDepth 100000 in
set_option maxHeartbeats 2000000 in
theorem drawShow_any (a : Option Addr) (len cap : Nat) (w : World) (hC : Came w a len) :
    Calls Tryz.prog 12 #[.slice a len cap] w fun e w' => ∃ u, e = .returned u ∧ AnyPol w' u ∧ Ext w w' := by
  have HC : Hid (Came w a len) := hC
  clear hC
  go_enter Tryz.func12, Tryz.ntmps12
  go_wp2_with fail
  refine (new_any a len cap _ (HC.out.below (Ext.one _ _))).mono ?_
  rintro e w1 ⟨rfl, hc1, hb1⟩
  have r1 := (Blk.new w [.int .i64 0, .int .i64 0, .int .i64 0, .slice none 0 0] 26).ext hb1
  have hc1' : Cur w1 (w.heap.size + 1) a len cap := by simpa using hc1
  have H1 : Hid (Cur w1 (w.heap.size + 1) a len cap ∧ Ext w w1 ∧ Blk w1 w.heap.size [.int .i64 0, .int .i64 0, .int .i64 0, .slice none 0 0] 26 ∧ w.heap.size + 1 < w1.heap.size) := ⟨hc1', (Ext.one _ _).trans hb1, r1, hc1'.lt⟩
  clear hc1 hc1' hb1 r1
  rw [World.size_alloc]
  go_wp2_with fail
  refine (any9_any (w.heap.size + 1) a len cap _ H1.out.1).mono ?_
  rintro e w2 ⟨ar, ac, da, a1, n1, c1, rfl, hpm, hc2, hg2⟩
  have r2 := H1.out.2.2.1.grown hg2 (ne_some (by omega))
  have H2 : Hid (PolM w1.heap.size w2 a1 n1 ∧ Ext w w2 ∧ Blk w2 w.heap.size [.int .i64 0, .int .i64 0, .int .i64 0, .slice none 0 0] 26 ∧ w.heap.size < w1.heap.size) := ⟨hpm, ext_new H1.out.2.1 (Nat.le_succ _) hg2, r2, by have := H1.out.2.2.2; omega⟩
  obtain ⟨q0, q1, q2, q3⟩ := (⟨r2.cell 0 _ rfl, r2.cell 1 _ rfl, r2.cell 2 _ rfl, r2.cell 3 _ rfl⟩ : _ ∧ _ ∧ _ ∧ _)
  have f1 := r2.free
  clear hpm hc2 hg2 r2 H1
  go_wp2
  refine bodyPost_ret (v := .agg #[.int .i64 ar, .int .i64 ac, .int .i64 da, .slice a1 n1 c1]) (by simp [results, Tryz.results12, go_sem, *]) rfl ⟨_, rfl, ?_, ?_⟩
  · exact polM_any (B := w1.heap.size) ((((H2.out.1.set H2.out.2.2.2 _ _).set H2.out.2.2.2 _ _).set H2.out.2.2.2 _ _).set H2.out.2.2.2 _ _)
  · exact (((H2.out.2.1.set (Nat.le_refl _) _ _).set (Nat.le_refl _) _ _).set (Nat.le_refl _) _ _).set (Nat.le_refl _) _ _

theorem PolM.ext {B : Nat} {w w' : World} {a : Option Addr} {n : Nat} (h : PolM B w a n) (hE : Ext w w') : PolM B w' a n := h.kept (fun b _ hl => hE.block b hl) hE.size

theorem PolM.rules {B : Nat} {w : World} {a : Option Addr} {n : Nat} (h : PolM B w a n) : ∃ rs : List RN, n = rs.length ∧ SmallR rs ∧ Rules w a rs := by
  obtain ⟨rs, h1, h2, h3⟩ := h
  exact ⟨rs, h1, h2, h3.rules⟩

theorem copyM_any {B : Nat} (ar ac da : Int) (a : Option Addr) (n cap : Nat) (w : World) (h : PolM B w a n) :
    Calls Tryz.prog 39 #[.agg #[.int .i64 ar, .int .i64 ac, .int .i64 da, .slice a n cap]] w fun e w' => ∃ (aR : Option Addr) (nR cR : Nat), e = .returned (.agg #[.int .i64 ar, .int .i64 ac, .int .i64 da, .slice aR nR cR]) ∧ PolM w.heap.size w' aR nR ∧ Ext w w' := by
  obtain ⟨rs, hn, hs, hr⟩ := h.rules
  refine (copy_any ar ac da a n cap rs w hn hs hr).mono ?_
  rintro e w' ⟨aR, nR, cR, ps, rfl, hl, hnn, hsm, hown, hrow, hE⟩
  have hlm : nR ≤ 1048576 := by have := hs.1; omega
  have hrp := own_rules2S (φ := fun b => w.heap.size ≤ b) hown hl (hrow.imp fun b hb _ => hb.1) (fun b hb _ => hb)
  exact ⟨aR, nR, cR, rfl, PolM.mk hl hlm hsm hrp (fun b hb => hb), hE⟩

set_option maxRecDepth 100000 in
set_option maxHeartbeats 4000000 in
theorem drawSame_any (a : Option Addr) (len cap : Nat) (w : World) (hC : Came w a len) :
    Calls Tryz.prog 11 #[.slice a len cap] w fun e w' => ∃ u v, e = .returned (.tuple #[u, v]) ∧ AnyPol w' u ∧ AnyPol w' v ∧ Ext w w' := by
  have HC : Hid (Came w a len) := hC
  clear hC
  go_enter Tryz.func11, Tryz.ntmps11
  go_wp2_with fail
  refine (new_any a len cap _ (HC.out.below ((Ext.one _ _).alloc _))).mono ?_
  rintro e w1 ⟨rfl, hc1, hb1⟩
  have r1 := ((Blk.new w [.int .i64 0, .int .i64 0, .int .i64 0, .slice none 0 0] 26).alloc (.cells #[.int .i64 0, .int .i64 0, .int .i64 0, .slice none 0 0] 26)).ext hb1
  have t1 : Blk w1 (w.heap.size + 1) [.int .i64 0, .int .i64 0, .int .i64 0, .slice none 0 0] 26 := (Blk.newAt (w.alloc (.cells #[.int .i64 0, .int .i64 0, .int .i64 0, .slice none 0 0] 26)) [.int .i64 0, .int .i64 0, .int .i64 0, .slice none 0 0] 26 (w.heap.size + 1) (by simp)).ext hb1
  have HE : Hid (Ext w w1) := ((Ext.one _ _).alloc _).trans hb1
  have hs1 : w.heap.size + 1 + 1 < w1.heap.size := by have := hc1.lt; simpa using this
  have HC1 : Hid (Cur w1 (w.heap.size + 1 + 1) a len cap) := by simpa [Hid] using hc1
  clear hc1 hb1
  go_wp2_with fail
  refine (any9_any (w.heap.size + 1 + 1) a len cap _ HC1.out).mono ?_
  rintro e w2 ⟨ar, ac, da, a1, n1, c1, rfl, hpm, hc2, hg2⟩
  have x2 := Blk.new w2 [.int .i64 ar, .int .i64 ac, .int .i64 da, .slice a1 n1 c1] 26
  have H2 : Hid (Cur (w2.alloc (.cells #[.int .i64 ar, .int .i64 ac, .int .i64 da, .slice a1 n1 c1] 26)) (w.heap.size + 1 + 1) a len cap ∧ Ext w (w2.alloc (.cells #[.int .i64 ar, .int .i64 ac, .int .i64 da, .slice a1 n1 c1] 26)) ∧ Blk (w2.alloc (.cells #[.int .i64 ar, .int .i64 ac, .int .i64 da, .slice a1 n1 c1] 26)) w.heap.size [.int .i64 0, .int .i64 0, .int .i64 0, .slice none 0 0] 26 ∧ Blk (w2.alloc (.cells #[.int .i64 ar, .int .i64 ac, .int .i64 da, .slice a1 n1 c1] 26)) (w.heap.size + 1) [.int .i64 0, .int .i64 0, .int .i64 0, .slice none 0 0] 26 ∧ Blk (w2.alloc (.cells #[.int .i64 ar, .int .i64 ac, .int .i64 da, .slice a1 n1 c1] 26)) w2.heap.size [.int .i64 ar, .int .i64 ac, .int .i64 da, .slice a1 n1 c1] 26 ∧ PolM w1.heap.size (w2.alloc (.cells #[.int .i64 ar, .int .i64 ac, .int .i64 da, .slice a1 n1 c1] 26)) a1 n1) :=
    ⟨hc2.alloc _, (ext_new HE.out (by omega) hg2).alloc _, (r1.grown hg2 (ne_some (by omega))).alloc _, (t1.grown hg2 (ne_some (by omega))).alloc _, x2, hpm.ext (Ext.one _ _)⟩
  have hs2 : w1.heap.size ≤ w2.heap.size := hg2.size
  clear hpm hc2 hg2 r1 t1 HE HC1 x2
  go_wp2_with fail
  generalize w2.alloc (.cells #[.int .i64 ar, .int .i64 ac, .int .i64 da, .slice a1 n1 c1] 26) = W3 at *
  refine (once_any 2 (w.heap.size + 1 + 1) a len cap _ H2.out.1 (by omega)).mono ?_
  rintro e w4 ⟨b, rfl, hc4, hg4⟩
  have H4 : Hid (Cur w4 (w.heap.size + 1 + 1) a len cap ∧ Ext w w4 ∧ Blk w4 w.heap.size [.int .i64 0, .int .i64 0, .int .i64 0, .slice none 0 0] 26 ∧ Blk w4 (w.heap.size + 1) [.int .i64 0, .int .i64 0, .int .i64 0, .slice none 0 0] 26 ∧ Blk w4 w2.heap.size [.int .i64 ar, .int .i64 ac, .int .i64 da, .slice a1 n1 c1] 26 ∧ PolM w1.heap.size w4 a1 n1) :=
    ⟨hc4, ext_new H2.out.2.1 (by omega) hg4, H2.out.2.2.1.grown hg4 (ne_some (by omega)), H2.out.2.2.2.1.grown hg4 (ne_some (by omega)), H2.out.2.2.2.2.1.grown hg4 (ne_some (by omega)), H2.out.2.2.2.2.2.kept (fun b hb hl => hg4.block b hl (ne_some (by omega))) hg4.size⟩
  clear hc4 hg4 H2
  cases b
  · go_wp2_with fail
    refine' wp_region_looset_tail 3 2 (.inl _ :: .inl _ :: .inr (fun v W => ∃ (br bc bd : Int) (a2 : Option Addr) (n2 c2 : Nat), v = .agg #[.int .i64 br, .int .i64 bc, .int .i64 bd, .slice a2 n2 c2] ∧ PolM w1.heap.size W a2 n2) :: []) (fun b W => Cur W (w.heap.size + 1 + 1) a len cap ∧ Ext w W ∧ Blk W w.heap.size [.int .i64 0, .int .i64 0, .int .i64 0, .slice none 0 0] 26 ∧ Blk W (w.heap.size + 1) [.int .i64 0, .int .i64 0, .int .i64 0, .slice none 0 0] 26 ∧ Blk W w2.heap.size [.int .i64 ar, .int .i64 ac, .int .i64 da, .slice a1 n1 c1] 26 ∧ PolM w1.heap.size W a1 n1) (fun j W W' => j ≠ 2 → W.grownBy W' none) (by kernel_rfl) (by kernel_rfl) (⟨H4.out.1, H4.out.2.1.drew, H4.out.2.2.1, H4.out.2.2.2.1, H4.out.2.2.2.2.1, H4.out.2.2.2.2.2⟩) (by decide) (fun h => by cases h) ?hAx ?hlx ?hMx
    case' hMx => skip
    simp only [List.take_succ_cons, List.take_zero, List.drop_succ_cons, List.drop_zero]
    apply wpLooseT_val rfl rfl (by decide)
    case hs =>
      intro b1 w1 hC hd Q1 hQ1
      dsimp only [bare]
      obtain ⟨q0, q1, q2, q3⟩ := (⟨hC.2.2.2.2.1.cell 0 _ rfl, hC.2.2.2.2.1.cell 1 _ rfl, hC.2.2.2.2.1.cell 2 _ rfl, hC.2.2.2.2.1.cell 3 _ rfl⟩ : _ ∧ _ ∧ _ ∧ _)
      clear hd
      have HCC : Hid _ := hC
      clear hC
      go_wp2
      exact ⟨HCC.out, fun _ => grown_refl _ _⟩
    case ha => rfl
    apply wpLooseT_val rfl rfl (by decide)
    case hs =>
      intro b1 w1 hC hd Q1 hQ1
      dsimp only [bare]
      obtain ⟨q0, q1, q2, q3⟩ := (⟨hC.2.2.2.2.1.cell 0 _ rfl, hC.2.2.2.2.1.cell 1 _ rfl, hC.2.2.2.2.1.cell 2 _ rfl, hC.2.2.2.2.1.cell 3 _ rfl⟩ : _ ∧ _ ∧ _ ∧ _)
      clear hd
      have HCC : Hid _ := hC
      clear hC
      go_wp2
      exact ⟨HCC.out, fun _ => grown_refl _ _⟩
    case ha => rfl
    refine wpLooseT_spec rfl rfl (by decide) ?_ (fun vx_2 => ?_)
    · intro w1 hC hd Q1 hQ1
      dsimp only [bare]
      clear hd
      have HCC : Hid _ := hC
      have HQ : Hid _ := hQ1
      clear hC hQ1
      go_wp2_with fail
      refine (any9_any (w.heap.size + 1 + 1) a len cap _ HCC.out.1).mono ?_
      rintro e w7 ⟨br, bc, bd, a2, n2, c2, rfl, hpm, hc7, hg7⟩
      go_wp2_with fail
      obtain ⟨h1, h2, h3, h4, h5, h6⟩ := HCC.out
      exact HQ.out _ _ ⟨⟨hc7, ext_new h2 (by omega) hg7, h3.grown hg7 (ne_some (by omega)), h4.grown hg7 (ne_some (by omega)), h5.grown hg7 (ne_some (by omega)), h6.kept (fun b hb hl => hg7.block b hl (ne_some (by omega))) hg7.size⟩, fun h => absurd rfl h, br, bc, bd, a2, n2, c2, rfl, PolM.lower (by have := h5.lt; omega) hpm⟩
    refine wpLooseT_nil ?_
    intro wx hCx hFx
    obtain ⟨h1, h2, h3, h4, h5, h6⟩ := hCx
    obtain ⟨br, bc, bd, a2, n2, c2, rfl, hpm⟩ := (hFx 2 _ rfl (by decide) (by simp [Act.put]) : ∃ (br bc bd : Int) (a2 : Option Addr) (n2 c2 : Nat), vx_2 = .agg #[.int .i64 br, .int .i64 bc, .int .i64 bd, .slice a2 n2 c2] ∧ PolM w1.heap.size wx a2 n2)
    have HF : Hid (PolM w1.heap.size wx a1 n1 ∧ PolM w1.heap.size wx a2 n2 ∧ Ext w wx) := ⟨h6, hpm, h2⟩
    obtain ⟨q0, q1, q2, q3, t0, t1, t2, t3⟩ := (⟨h3.cell 0 _ rfl, h3.cell 1 _ rfl, h3.cell 2 _ rfl, h3.cell 3 _ rfl, h4.cell 0 _ rfl, h4.cell 1 _ rfl, h4.cell 2 _ rfl, h4.cell 3 _ rfl⟩ : _ ∧ _ ∧ _ ∧ _ ∧ _ ∧ _ ∧ _ ∧ _)
    have f1 := h3.free
    have f2 := h4.free
    clear h1 h2 h3 h4 h5 h6 hpm hFx
    go_wp2
    refine bodyPost_ret (v := .tuple #[.agg #[.int .i64 ar, .int .i64 ac, .int .i64 da, .slice a1 n1 c1], .agg #[.int .i64 br, .int .i64 bc, .int .i64 bd, .slice a2 n2 c2]]) (by simp [results, Tryz.results11, go_sem, *]) rfl ⟨_, _, rfl, ?_, ?_, ?_⟩
    · exact polM_any (B := w1.heap.size) ((((((((HF.out.1.set (by omega) _ _).set (by omega) _ _).set (by omega) _ _).set (by omega) _ _).set (by omega) _ _).set (by omega) _ _).set (by omega) _ _).set (by omega) _ _)
    · exact polM_any (B := w1.heap.size) ((((((((HF.out.2.1.set (by omega) _ _).set (by omega) _ _).set (by omega) _ _).set (by omega) _ _).set (by omega) _ _).set (by omega) _ _).set (by omega) _ _).set (by omega) _ _)
    · exact (((((((HF.out.2.2.set (by omega) _ _).set (by omega) _ _).set (by omega) _ _).set (by omega) _ _).set (by omega) _ _).set (by omega) _ _).set (by omega) _ _).set (by omega) _ _
    case hAx => kernel_rfl
    case hlx => exact ⟨trivial, trivial, fun i hi v W W' ⟨br, bc, bd, a2, n2, c2, e1, e2⟩ hT => ⟨br, bc, bd, a2, n2, c2, e1, e2.ext (ext_of_none (hT hi))⟩, trivial⟩
  · go_wp2_with fail
    refine' wp_region_looset_tail 3 2 (.inl _ :: .inl _ :: .inr (fun v W => ∃ (a2 : Option Addr) (n2 c2 : Nat), v = .agg #[.int .i64 ar, .int .i64 ac, .int .i64 da, .slice a2 n2 c2] ∧ PolM w1.heap.size W a2 n2) :: []) (fun b W => Ext w W ∧ Blk W w.heap.size [.int .i64 0, .int .i64 0, .int .i64 0, .slice none 0 0] 26 ∧ Blk W (w.heap.size + 1) [.int .i64 0, .int .i64 0, .int .i64 0, .slice none 0 0] 26 ∧ Blk W w2.heap.size [.int .i64 ar, .int .i64 ac, .int .i64 da, .slice a1 n1 c1] 26 ∧ PolM w1.heap.size W a1 n1) (fun j W W' => j ≠ 2 → W.grownBy W' none) (by kernel_rfl) (by kernel_rfl) (⟨H4.out.2.1.drew, H4.out.2.2.1, H4.out.2.2.2.1, H4.out.2.2.2.2.1, H4.out.2.2.2.2.2⟩) (by decide) (fun h => by cases h) ?hAy ?hly ?hMy
    case' hMy => skip
    simp only [List.take_succ_cons, List.take_zero, List.drop_succ_cons, List.drop_zero]
    apply wpLooseT_val rfl rfl (by decide)
    case hs =>
      intro b1 w1 hC hd Q1 hQ1
      dsimp only [bare]
      obtain ⟨q0, q1, q2, q3⟩ := (⟨hC.2.2.2.1.cell 0 _ rfl, hC.2.2.2.1.cell 1 _ rfl, hC.2.2.2.1.cell 2 _ rfl, hC.2.2.2.1.cell 3 _ rfl⟩ : _ ∧ _ ∧ _ ∧ _)
      clear hd
      have HCC : Hid _ := hC
      clear hC
      go_wp2
      exact ⟨HCC.out, fun _ => grown_refl _ _⟩
    case ha => rfl
    apply wpLooseT_val rfl rfl (by decide)
    case hs =>
      intro b1 w1 hC hd Q1 hQ1
      dsimp only [bare]
      obtain ⟨q0, q1, q2, q3⟩ := (⟨hC.2.2.2.1.cell 0 _ rfl, hC.2.2.2.1.cell 1 _ rfl, hC.2.2.2.1.cell 2 _ rfl, hC.2.2.2.1.cell 3 _ rfl⟩ : _ ∧ _ ∧ _ ∧ _)
      clear hd
      have HCC : Hid _ := hC
      clear hC
      go_wp2
      exact ⟨HCC.out, fun _ => grown_refl _ _⟩
    case ha => rfl
    refine wpLooseT_spec rfl rfl (by decide) ?_ (fun vy_2 => ?_)
    · intro w1 hC hd Q1 hQ1
      dsimp only [bare]
      clear hd
      have HCC : Hid _ := hC
      have HQ : Hid _ := hQ1
      clear hC hQ1
      go_wp2_with fail
      refine (copyM_any ar ac da a1 n1 c1 _ HCC.out.2.2.2.2).mono ?_
      rintro e w7 ⟨a2, n2, c2, rfl, hpm, x7⟩
      go_wp2_with fail
      obtain ⟨h2, h3, h4, h5, h6⟩ := HCC.out
      exact HQ.out _ _ ⟨⟨h2.trans x7, h3.ext x7, h4.ext x7, h5.ext x7, h6.ext x7⟩, fun h => absurd rfl h, a2, n2, c2, rfl, PolM.lower (by have := h5.lt; omega) hpm⟩
    refine wpLooseT_nil ?_
    intro wy hCy hFy
    obtain ⟨h2, h3, h4, h5, h6⟩ := hCy
    obtain ⟨a2, n2, c2, rfl, hpm⟩ := (hFy 2 _ rfl (by decide) (by simp [Act.put]) : ∃ (a2 : Option Addr) (n2 c2 : Nat), vy_2 = .agg #[.int .i64 ar, .int .i64 ac, .int .i64 da, .slice a2 n2 c2] ∧ PolM w1.heap.size wy a2 n2)
    have HF : Hid (PolM w1.heap.size wy a1 n1 ∧ PolM w1.heap.size wy a2 n2 ∧ Ext w wy) := ⟨h6, hpm, h2⟩
    obtain ⟨q0, q1, q2, q3, t0, t1, t2, t3⟩ := (⟨h3.cell 0 _ rfl, h3.cell 1 _ rfl, h3.cell 2 _ rfl, h3.cell 3 _ rfl, h4.cell 0 _ rfl, h4.cell 1 _ rfl, h4.cell 2 _ rfl, h4.cell 3 _ rfl⟩ : _ ∧ _ ∧ _ ∧ _ ∧ _ ∧ _ ∧ _ ∧ _)
    have f1 := h3.free
    have f2 := h4.free
    clear h2 h3 h4 h5 h6 hpm hFy
    go_wp2
    refine bodyPost_ret (v := .tuple #[.agg #[.int .i64 ar, .int .i64 ac, .int .i64 da, .slice a1 n1 c1], .agg #[.int .i64 ar, .int .i64 ac, .int .i64 da, .slice a2 n2 c2]]) (by simp [results, Tryz.results11, go_sem, *]) rfl ⟨_, _, rfl, ?_, ?_, ?_⟩
    · exact polM_any (B := w1.heap.size) ((((((((HF.out.1.set (by omega) _ _).set (by omega) _ _).set (by omega) _ _).set (by omega) _ _).set (by omega) _ _).set (by omega) _ _).set (by omega) _ _).set (by omega) _ _)
    · exact polM_any (B := w1.heap.size) ((((((((HF.out.2.1.set (by omega) _ _).set (by omega) _ _).set (by omega) _ _).set (by omega) _ _).set (by omega) _ _).set (by omega) _ _).set (by omega) _ _).set (by omega) _ _)
    · exact (((((((HF.out.2.2.set (by omega) _ _).set (by omega) _ _).set (by omega) _ _).set (by omega) _ _).set (by omega) _ _).set (by omega) _ _).set (by omega) _ _).set (by omega) _ _
    case hAy => kernel_rfl
    case hly => exact ⟨trivial, trivial, fun i hi v W W' ⟨a2, n2, c2, e1, e2⟩ hT => ⟨a2, n2, c2, e1, e2.ext (ext_of_none (hT hi))⟩, trivial⟩

end Go.Proofs.YtojaohdmfahpmaaGreatDoor
