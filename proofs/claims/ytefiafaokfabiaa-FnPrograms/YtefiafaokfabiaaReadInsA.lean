/- What impl's and spec's ReadIns and InsText answer, of every text and every word: the same plain function. -/
import Derived.Test.YtefiafaokfabiaaReadInsI
import Derived.Test.YtefiafaokfabiaaProgMath
namespace Go.Proofs.Ytefiafaokfabiaa
open Go.RowKit
set_option linter.unusedVariables false

theorem list_text (s : ByteArray) (l : List UInt8) (h : s.data.toList = l) : s = ⟨l.toArray⟩ := by
  apply ByteArray.ext
  rw [← h]

theorem readW_seven (c0 c1 c2 c3 c4 c5 c6 : UInt8) : wordL [c0, c1, c2, c3, c4, c5, c6] = ((c0.toNat : Int), (kOf c3.toNat c4.toNat c5.toNat c6.toNat : Int), (c1.toNat : Int), (c2.toNat : Int)) := rfl

/-- The two ways of an answer are one function. -/
theorem read_out {e : Ending} {l : List UInt8} (hl : l.length = 7) (h : (okW (wordL l) = true ∧ e = .returned (.tuple #[(wordL l).val, .bool true])) ∨ (okW (wordL l) = false ∧ e = .returned (.tuple #[zeroW.val, .bool false]))) : e = .returned (.tuple #[((readW l).getD zeroW).val, .bool (readW l).isSome]) := by
  rcases h with ⟨h1, h2⟩ | ⟨h1, h2⟩
  · rw [h2]; unfold readW; rw [if_pos ⟨hl, h1⟩]; rfl
  · rw [h2]; unfold readW; rw [if_neg (by rw [h1]; simp)]; rfl

theorem sReadIns_any (s : ByteArray) (w : World) (hs : s.size ≤ 9223372036854775807) : Calls Try.prog 19 #[.string s] w fun e w' => e = .returned (.tuple #[((readW s.data.toList).getD zeroW).val, .bool (readW s.data.toList).isSome]) ∧ Ext w w' := by
  by_cases h7 : s.size = 7
  · have hl : s.data.toList.length = 7 := by simpa using h7
    obtain ⟨c0, c1, c2, c3, c4, c5, c6, hc⟩ := seven hl
    have hs' := list_text s _ hc
    rw [hc] at hl ⊢
    rw [hs']
    have h3 := c3.toNat_lt
    have h4 := c4.toNat_lt
    have h5 := c5.toNat_lt
    have h6 := c6.toNat_lt
    refine (sReadIns_seven c0 c1 c2 c3 c4 c5 c6 _ _ _ _ _ _ _ _ _ _ w rfl rfl rfl rfl rfl rfl rfl (or_24 _ _ (by omega) (by omega)) (or_16 _ _ _ (by omega) (by omega) (by omega)) (or_8 _ _ _ _ (by omega) (by omega) (by omega) (by omega))).mono ?_
    rintro e w' ⟨h, hE⟩
    exact ⟨read_out hl h, hE⟩
  · have hr : readW s.data.toList = none := by unfold readW; rw [if_neg]; simp; intro h; exact absurd h h7
    rw [hr]
    have hne : ((s.size : Int) != 7) = true := by simp; omega
    clear hr
    go_enter Try.func19, Try.ntmps19
    go_wp2
    refine bodyPost_ret (v := .tuple #[.agg #[.int .i64 0, .int .i64 0, .int .i64 0, .int .i64 0], .bool false]) (by simp [results, Try.results19, go_sem]) rfl ⟨rfl, Ext.one _ _⟩

theorem f4 (a b c d : Nat) (ha : a < 256) (hb : b < 256) (hc : c < 256) (hd : d < 256) : ∃ f : Nat → Nat, f 0 = 0 ∧ f 4 = kOf a b c d ∧ ∀ j, j < 4 → bits .or .i64 ((f j : Int) * 256) (([a, b, c, d].getD j 0 : Nat) : Int) = (f (j + 1) : Int) ∧ f j < 16777216 := by
  refine ⟨fun j => [0, a, a * 256 + b, (a * 256 + b) * 256 + c, kOf a b c d].getD j 0, rfl, rfl, fun j hj => ?_⟩
  match j, hj with
  | 0, _ => exact ⟨by have := or_step 0 a (by omega) ha; simpa using this, by simp⟩
  | 1, _ => exact ⟨by have := or_step a b (by omega) hb; simpa using this, by simp; omega⟩
  | 2, _ => exact ⟨by have := or_step (a * 256 + b) c (by omega) hc; simpa using this, by simp; omega⟩
  | 3, _ => exact ⟨by have := or_step ((a * 256 + b) * 256 + c) d (by omega) hd; simpa [kOf] using this, by simp; omega⟩

theorem iReadIns_any (s : ByteArray) (w : World) (hs : s.size ≤ 9223372036854775807) : Calls Try.prog 17 #[.string s] w fun e w' => e = .returned (.tuple #[((readW s.data.toList).getD zeroW).val, .bool (readW s.data.toList).isSome]) ∧ Ext w w' := by
  by_cases h7 : s.size = 7
  · have hl : s.data.toList.length = 7 := by simpa using h7
    obtain ⟨c0, c1, c2, c3, c4, c5, c6, hc⟩ := seven hl
    have hs' := list_text s _ hc
    rw [hc] at hl ⊢
    rw [hs']
    have h3 := c3.toNat_lt
    have h4 := c4.toNat_lt
    have h5 := c5.toNat_lt
    have h6 := c6.toNat_lt
    obtain ⟨f, hf0, hf4, hf⟩ := f4 c3.toNat c4.toNat c5.toNat c6.toNat (by omega) (by omega) (by omega) (by omega)
    refine (iReadIns_seven c0 c1 c2 c3 c4 c5 c6 _ _ _ _ _ _ _ f _ w rfl rfl rfl rfl rfl rfl rfl hf0 hf4 hf).mono ?_
    rintro e w' ⟨h, hE⟩
    exact ⟨read_out hl h, hE⟩
  · have hr : readW s.data.toList = none := by unfold readW; rw [if_neg]; simp; intro h; exact absurd h h7
    rw [hr]
    have hne : ((s.size : Int) != 7) = true := by simp; omega
    clear hr
    go_enter Try.func17, Try.ntmps17
    go_wp2
    refine bodyPost_ret (v := .tuple #[.agg #[.int .i64 0, .int .i64 0, .int .i64 0, .int .i64 0], .bool false]) (by simp [results, Try.results17, go_sem]) rfl ⟨rfl, Ext.one _ _⟩

theorem nat_word {p : Wd} (h : okW p = true) : ∃ o k y n : Nat, p = ((o : Int), (k : Int), (y : Int), (n : Int)) := by
  obtain ⟨o, k, y, n⟩ := p
  unfold okW at h
  rw [insB_true] at h
  unfold insP at h
  simp only at h
  exact ⟨o.toNat, k.toNat, y.toNat, n.toNat, by simp only [Prod.mk.injEq]; omega⟩

theorem iInsText_any (p : Wd) (w : World) : Calls Try.prog 16 #[p.val] w fun e w' => e = .returned (.tuple #[.string ⟨((textW p).getD []).toArray⟩, .bool (textW p).isSome]) ∧ Ext w w' := by
  cases h : okW p
  · rw [textW_none h]
    exact iInsText_no _ _ _ _ w h
  · rw [textW_some h]
    obtain ⟨o, k, y, n, rfl⟩ := nat_word h
    exact iInsText_yes o k y n w h

theorem sInsText_any (p : Wd) (w : World) : Calls Try.prog 26 #[p.val] w fun e w' => e = .returned (.tuple #[.string ⟨((textW p).getD []).toArray⟩, .bool (textW p).isSome]) ∧ Ext w w' := by
  cases h : okW p
  · rw [textW_none h]
    exact sInsText_no _ _ _ _ w h
  · rw [textW_some h]
    obtain ⟨o, k, y, n, rfl⟩ := nat_word h
    exact sInsText_yes o k y n w h

end Go.Proofs.Ytefiafaokfabiaa
