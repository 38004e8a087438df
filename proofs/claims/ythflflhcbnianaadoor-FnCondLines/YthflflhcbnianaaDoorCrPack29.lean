/- What spec's Layout answers: its walk. (Written by mklay.py.) -/
import Derived.Test.YthflflhcbnianaaDoorCrPack27
import Derived.Test.YthflflhcbnianaaDoorCrPack23
import Derived.Laws.AppendOwnNone
import Derived.Deep.Cut
/- What impl's Layout answers: the words that lines become. -/
namespace Go.Proofs.YthflflhcbnianaaDoor
open Go.RowKit
set_option linter.unusedVariables false

/-- There are 1 to 400 words. -/
def fewP (ls : List Ln) (s : Nat → Nat) : Bool := inB (cnt s ls.length) 1 400

/-- What is there while the words are laid: sizes, ways, beginnings, all below b0. -/
def LayR (ls : List Ln) (s : Nat → Nat) (n gs gy gn gb b0 : Nat) (w wr : World) : Prop :=
  RowF wr gs n (fun i => (s i : Int)) ∧ RowF wr gy n (fun i => wayV ls (ls.getD i zeroL).yes) ∧ RowF wr gn n (fun i => wayV ls (ls.getD i zeroL).no) ∧ RowF wr gb n (fun i => (cnt s i : Int)) ∧ (gs < b0 ∧ gy < b0 ∧ gn < b0 ∧ gb < b0) ∧ b0 ≤ wr.heap.size ∧ w.heap.size ≤ b0 ∧ Ext w wr

theorem LayR.ext {ls : List Ln} {s : Nat → Nat} {n gs gy gn gb b0 : Nat} {w wr w' : World} (h : LayR ls s n gs gy gn gb b0 w wr) (hE : Ext wr w') : LayR ls s n gs gy gn gb b0 w w' := by
  obtain ⟨h1, h2, h3, h4, h5, h6, h7, h8⟩ := h
  exact ⟨h1.ext hE, h2.ext hE, h3.ext hE, h4.ext hE, h5, Nat.le_trans h6 hE.size, h7, h8.trans hE⟩

theorem LayR.app {ls : List Ln} {s : Nat → Nat} {n gs gy gn gb b0 : Nat} {w wr w' : World} {row : Option Nat} (h : LayR ls s n gs gy gn gb b0 w wr) (hg : wr.grownBy w' row) (hr : ∀ x, row = some x → b0 ≤ x) : LayR ls s n gs gy gn gb b0 w w' := by
  obtain ⟨h1, h2, h3, h4, h5, h6, h7, h8⟩ := h
  have hb : Below b0 wr w' := ⟨hg.os, hg.tape, hg.output, hg.size, fun i hi => hg.block i (Nat.lt_of_lt_of_le hi h6) (fun e => by have := hr i e.symm; omega)⟩
  exact ⟨h1.below hb h5.1, h2.below hb h5.2.1, h3.below hb h5.2.2.1, h4.below hb h5.2.2.2, h5, Nat.le_trans h6 hg.size, h7, ext_row h8 hg fun x hx => Nat.le_trans h7 (hr x hx)⟩

/-- The last line is a word. -/
theorem cnt_pos {ls : List Ln} {s : Nat → Nat} (hl : linesP ls) (hs : sizesP ls s) : 1 ≤ cnt s ls.length := by
  obtain ⟨m, hm⟩ : ∃ m, ls.length = m + 1 := ⟨ls.length - 1, by have := hl.1; omega⟩
  have h8 := hl.2.1
  rw [hm, Nat.add_sub_cancel] at h8
  have h1 : s m = 1 := by
    rcases hs m (by omega) with ⟨a, _⟩ | ⟨a, _⟩ | ⟨a, _⟩ | ⟨_, _, a⟩
    · omega
    · unfold askP at a; omega
    · unfold askP at a; omega
    · exact a
  rw [hm]
  show 1 ≤ cnt s m + s m
  omega

/-- The words of a line by where lines begin. -/
theorem words_three {ls : List Ln} {s : Nat → Nat} (hl : linesP ls) (hs : sizesP ls s) {i : Nat} (hi : i < ls.length) (h3 : s i = 3) {lab yes no : ByteArray} {o kk y nn : Int} (hp : Ln.mk lab (o, kk, y, nn) yes no = ls.getD i zeroL) :
    wordsL ls s i = [(o, kk, y, 1), (7, (cnt s (pos ls yes) : Int) - (cnt s i : Int) - 2, 0, 0), (7, (cnt s (pos ls no) : Int) - (cnt s i : Int) - 3, 0, 0)] ∧ onP ls i yes ∧ onP ls i no := by
  have ha : askP (ls.getD i zeroL).wd.1 := by
    rcases hs i hi with ⟨_, h⟩ | ⟨h, _⟩ | ⟨h, _⟩ | ⟨_, _, h⟩
    · omega
    · exact h
    · exact h
    · omega
  have hon := ask_on hl hi ha
  have hy : (ls.getD i zeroL).wd.2.2.1 = 0 := by
    rcases hl.2.2 i hi with ⟨hz, _⟩ | ⟨_, _, h, _⟩
    · rw [hz]; rfl
    · exact h
  rw [← hp] at hon hy
  simp only at hon hy
  refine ⟨?_, hon⟩
  have hc : cnt s (i + 1) = cnt s i + 3 := by show cnt s i + s i = _; rw [h3]
  have m1 := cnt_mono s (a := i + 1) (b := pos ls yes) hon.1.1
  have m2 := cnt_mono s (a := i + 1) (b := pos ls no) hon.2.1
  unfold wordsL
  rw [if_neg (by omega), if_pos h3, ← hp]
  simp only [overL, hy]
  congr 1
  congr 1
  · simp only [Prod.mk.injEq]
    simp only [and_true, true_and]
    omega
  · congr 1
    simp only [Prod.mk.injEq]
    simp only [and_true, true_and]
    omega

theorem words_ask {ls : List Ln} {s : Nat → Nat} (hl : linesP ls) (hs : sizesP ls s) {i : Nat} (hi : i < ls.length) (h1 : s i = 1) {lab yes no : ByteArray} {o kk y nn : Int} (hp : Ln.mk lab (o, kk, y, nn) yes no = ls.getD i zeroL) (ha : askB o = true) :
    wordsL ls s i = [(o, kk, (cnt s (pos ls yes) : Int) - (cnt s i : Int) - 1, (cnt s (pos ls no) : Int) - (cnt s i : Int) - 1)] ∧ onP ls i yes ∧ onP ls i no := by
  have ha' : askP (ls.getD i zeroL).wd.1 := by rw [← hp]; exact askB_true.1 ha
  have hon := ask_on hl hi ha'
  rw [← hp] at hon
  simp only at hon
  refine ⟨?_, hon⟩
  have hc : cnt s (i + 1) = cnt s i + 1 := by show cnt s i + s i = _; rw [h1]
  have m1 := cnt_mono s (a := i + 1) (b := pos ls yes) hon.1.1
  have m2 := cnt_mono s (a := i + 1) (b := pos ls no) hon.2.1
  unfold wordsL
  rw [if_neg (by omega), if_neg (by omega), ← hp, if_pos ha]
  simp only [overL]
  congr 1
  simp only [Prod.mk.injEq]
  exact ⟨trivial, trivial, by omega, by omega⟩

theorem words_jump {ls : List Ln} {s : Nat → Nat} (hl : linesP ls) (hs : sizesP ls s) {i : Nat} (hi : i < ls.length) (h1 : s i = 1) {lab yes no : ByteArray} {kk y nn : Int} (hp : Ln.mk lab (7, kk, y, nn) yes no = ls.getD i zeroL) :
    wordsL ls s i = [(7, (cnt s (pos ls yes) : Int) - (cnt s i : Int) - 1, y, nn)] ∧ onP ls i yes := by
  have hon := jump_on hl hi (by rw [← hp])
  rw [← hp] at hon
  simp only at hon
  refine ⟨?_, hon⟩
  have hc : cnt s (i + 1) = cnt s i + 1 := by show cnt s i + s i = _; rw [h1]
  have m1 := cnt_mono s (a := i + 1) (b := pos ls yes) hon.1
  unfold wordsL
  rw [if_neg (by omega), if_neg (by omega), ← hp, if_neg (by simp [askB]), if_pos rfl]
  simp only [overL]
  congr 1
  simp only [Prod.mk.injEq]
  simp only [and_true, true_and]
  omega

theorem words_other {ls : List Ln} {s : Nat → Nat} {i : Nat} (h1 : s i = 1) {lab yes no : ByteArray} {o kk y nn : Int} (hp : Ln.mk lab (o, kk, y, nn) yes no = ls.getD i zeroL) (ha : askB o = false) (h7 : o ≠ 7) : wordsL ls s i = [(o, kk, y, nn)] := by
  unfold wordsL
  rw [if_neg (by omega), if_neg (by omega), ← hp, if_neg (by rw [ha]; decide), if_neg h7]

theorem getW_left {l m : List Wd} {i : Nat} (h : i < l.length) : (l ++ m).getD i zeroW = l.getD i zeroW := by
  simp only [List.getD_eq_getElem?_getD]
  rw [List.getElem?_append_left h]

theorem getW_right {l m : List Wd} {i : Nat} : (l ++ m).getD (l.length + i) zeroW = m.getD i zeroW := by
  simp only [List.getD_eq_getElem?_getD]
  rw [List.getElem?_append_right (by omega), Nat.add_sub_cancel_left]

/-- The words of line i stand where it begins. -/
theorem lay_at {ls : List Ln} {s : Nat → Nat} (hs : sizesP ls s) : ∀ {n : Nat}, n ≤ ls.length → ∀ {i q : Nat}, i < n → q < s i → (layL ls s n).getD (cnt s i + q) zeroW = (wordsL ls s i).getD q zeroW
  | 0, _, i, q, hi, _ => by omega
  | n + 1, hn, i, q, hi, hq => by
    show (layL ls s n ++ wordsL ls s n).getD _ _ = _
    have hl := layL_length hs (n := n) (by omega)
    rcases Nat.lt_or_ge i n with h | h
    · have hc : cnt s i + s i = cnt s (i + 1) := rfl
      have := cnt_mono s (a := i + 1) (b := n) (by omega)
      rw [getW_left (by omega), lay_at hs (by omega) h hq]
    · obtain rfl : i = n := by omega
      rw [← hl, getW_right]

theorem cnt_find (s : Nat → Nat) : ∀ {n j : Nat}, j < cnt s n → ∃ i q, i < n ∧ q < s i ∧ j = cnt s i + q
  | 0, j, h => by simp [cnt] at h
  | n + 1, j, h => by
    rcases Nat.lt_or_ge j (cnt s n) with h1 | h1
    · obtain ⟨i, q, a, b, c⟩ := cnt_find s h1
      exact ⟨i, q, by omega, b, c⟩
    · have : cnt s n + s n = cnt s (n + 1) := rfl
      exact ⟨n, j - cnt s n, by omega, by omega, by omega⟩

/-- Behind a line that is not the last there is a word more. -/
theorem cnt_lt {ls : List Ln} {s : Nat → Nat} (hl : linesP ls) (hs : sizesP ls s) {i : Nat} (hi : i + 1 < ls.length) : cnt s (i + 1) < cnt s ls.length := by
  obtain ⟨m, hm⟩ : ∃ m, ls.length = m + 1 := ⟨ls.length - 1, by omega⟩
  have h8 := hl.2.1
  rw [hm, Nat.add_sub_cancel] at h8
  have h1 : s m = 1 := by
    rcases hs m (by omega) with ⟨a, _⟩ | ⟨a, _⟩ | ⟨a, _⟩ | ⟨_, _, a⟩
    · omega
    · unfold askP at a; omega
    · unfold askP at a; omega
    · exact a
  have := cnt_mono s (a := i + 1) (b := m) (by omega)
  have hc : cnt s (m + 1) = cnt s m + s m := rfl
  rw [hm]
  omega

theorem last_op {ls : List Ln} (hl : linesP ls) {i : Nat} (hi : i < ls.length) (h8 : (ls.getD i zeroL).wd.1 ≠ 8) : i + 1 < ls.length := by
  rcases Nat.lt_or_ge (i + 1) ls.length with h | h
  · exact h
  · exact absurd (by rw [show i = ls.length - 1 by omega]; exact hl.2.1) h8

/-- A label's place is not the last line. -/
theorem pos_lt {ls : List Ln} {s : Nat → Nat} (hl : linesP ls) (hs : sizesP ls s) {i : Nat} {lab : ByteArray} (h : onP ls i lab) : cnt s (pos ls lab) < cnt s ls.length ∧ (ls.getD (pos ls lab) zeroL).wd.1 = 0 ∧ cnt s (i + 1) ≤ cnt s (pos ls lab) := by
  have h0 := (isAt_op (pos_at h.2)).1
  have hp := last_op hl h.2 (by rw [h0]; decide)
  have h1 := cnt_lt hl hs hp
  have h2 := cnt_mono s (a := pos ls lab) (b := pos ls lab + 1) (by omega)
  exact ⟨by omega, h0, cnt_mono s h.1⟩

theorem line_ok {ls : List Ln} (hl : linesP ls) {i : Nat} (hi : i < ls.length) (h0 : (ls.getD i zeroL).wd.1 ≠ 0) : okW (ls.getD i zeroL).wd = true ∧ (ls.getD i zeroL).wd.2.2.1 = 0 ∧ (ls.getD i zeroL).wd.2.2.2 = 0 := by
  rcases hl.2.2 i hi with ⟨hz, _⟩ | ⟨_, _, a, b, _, hk, _⟩
  · exact absurd (by rw [hz]; rfl) h0
  · exact ⟨hk, a, b⟩

/-- The words are a program that is let by. -/
theorem check_lay {ls : List Ln} {s : Nat → Nat} (hl : linesP ls) (hs : sizesP ls s) (h4 : cnt s ls.length ≤ 400) : checkP (layL ls s ls.length) = true := by
  have hlen := layL_length hs (Nat.le_refl ls.length)
  have hpos := cnt_pos hl hs
  rw [checkP_true]
  refine ⟨⟨by omega, by omega⟩, fun j hj => ?_, ?_⟩
  · rw [hlen] at hj ⊢
    obtain ⟨i, q, hi, hq, rfl⟩ := cnt_find s hj
    rw [lay_at hs (Nat.le_refl _) hi hq]
    have hc1 : cnt s (i + 1) = cnt s i + s i := rfl
    obtain ⟨⟨lab, ⟨o, k, y, nn⟩, yes, no⟩, hp⟩ : ∃ p, p = ls.getD i zeroL := ⟨_, rfl⟩
    rcases size_cases hs hi with h | h | h
    · omega
    · obtain rfl : q = 0 := by omega
      rw [Nat.add_zero]
      have h0 : (ls.getD i zeroL).wd.1 ≠ 0 := by
        intro h0
        rcases hs i hi with ⟨_, a⟩ | ⟨a, _⟩ | ⟨a, _⟩ | ⟨a, _⟩
        · omega
        · unfold askP at a; omega
        · unfold askP at a; omega
        · exact a h0
      obtain ⟨hk, hy, hno⟩ := line_ok hl hi h0
      rw [← hp] at hk hy hno h0
      simp only at hy hno h0
      subst hy
      subst hno
      rw [okW_P] at hk
      have hk' : insP o k 0 0 := hk
      unfold insP at hk'
      cases ha : askB o with
      | true =>
        obtain ⟨hw, on1, on2⟩ := words_ask hl hs hi h hp ha
        have hao := askB_true.1 ha
        have p1 := pos_lt hl hs on1
        have p2 := pos_lt hl hs on2
        have hnf : ¬ farL ls s i := by
          rcases hs i hi with ⟨a, _⟩ | ⟨_, _, c⟩ | ⟨_, b, _⟩ | ⟨_, b, _⟩
          · rw [← hp] at a; exact absurd a h0
          · omega
          · exact b
          · rw [← hp] at b; exact absurd hao b
        unfold farL overL at hnf
        rw [← hp] at hnf
        simp only at hnf
        rw [hw]
        unfold askP at hao
        refine ⟨?_, .inr ?_⟩
        · rw [okW_P]
          show insP o k ((cnt s (pos ls yes) : Int) - (cnt s i : Int) - 1) ((cnt s (pos ls no) : Int) - (cnt s i : Int) - 1)
          exact ⟨by omega, by omega, by omega, by omega, by omega, by omega, by omega, by omega, .inl hao, fun h => by omega, fun h => by omega⟩
        · show (cnt s i : Int) + 1 + farW (o, k, ((cnt s (pos ls yes) : Int) - (cnt s i : Int) - 1), ((cnt s (pos ls no) : Int) - (cnt s i : Int) - 1)) < (cnt s ls.length : Int)
          unfold farW
          simp only
          rw [if_neg (by omega)]
          split <;> omega
      | false =>
        have hna := askB_false.1 ha
        by_cases h7 : o = 7
        · subst h7
          obtain ⟨hw, on1⟩ := words_jump hl hs hi h hp
          have p1 := pos_lt hl hs on1
          rw [hw]
          refine ⟨?_, .inr ?_⟩
          · rw [okW_P]
            show insP 7 ((cnt s (pos ls yes) : Int) - (cnt s i : Int) - 1) 0 0
            exact ⟨by omega, by omega, by omega, by omega, by omega, by omega, by omega, by omega, .inr ⟨rfl, rfl⟩, fun h => by omega, fun h => by omega⟩
          · show (cnt s i : Int) + 1 + farW (7, ((cnt s (pos ls yes) : Int) - (cnt s i : Int) - 1), 0, 0) < (cnt s ls.length : Int)
            unfold farW
            simp only
            rw [if_pos trivial]
            omega
        · rw [words_other h hp ha h7]
          refine ⟨?_, ?_⟩
          · rw [okW_P]
            exact hk
          · by_cases h8 : o = 8
            · exact .inl h8
            · refine .inr ?_
              have := cnt_lt hl hs (last_op hl hi (by rw [← hp]; exact h8))
              show (cnt s i : Int) + 1 + farW (o, k, 0, 0) < (cnt s ls.length : Int)
              unfold farW
              simp only
              rw [if_neg h7, if_neg (by omega)]
              omega
    · obtain ⟨hw, on1, on2⟩ := words_three hl hs hi h hp
      have p1 := pos_lt hl hs on1
      have p2 := pos_lt hl hs on2
      have ha : askP (ls.getD i zeroL).wd.1 := by
        rcases hs i hi with ⟨_, c⟩ | ⟨a, _⟩ | ⟨a, _⟩ | ⟨_, _, c⟩
        · omega
        · exact a
        · exact a
        · omega
      have hao : askP o := by rw [← hp] at ha; exact ha
      unfold askP at hao
      obtain ⟨hk, hy, hno⟩ := line_ok hl hi (by unfold askP at ha; omega)
      rw [← hp] at hk hy
      simp only at hy
      subst hy
      rw [okW_P] at hk
      have hk' : insP o k 0 nn := hk
      unfold insP at hk'
      rw [hw]
      have hq3 : q = 0 ∨ q = 1 ∨ q = 2 := by omega
      rcases hq3 with rfl | rfl | rfl
      · refine ⟨?_, .inr ?_⟩
        · rw [okW_P]
          show insP o k 0 1
          exact ⟨by omega, by omega, by omega, by omega, by omega, by omega, by omega, by omega, .inl hao, fun h => by omega, fun h => by omega⟩
        · show ((cnt s i + 0 : Nat) : Int) + 1 + farW (o, k, 0, 1) < (cnt s ls.length : Int)
          unfold farW
          simp only
          rw [if_neg (by omega), if_neg (by omega)]
          omega
      · refine ⟨?_, .inr ?_⟩
        · rw [okW_P]
          show insP 7 ((cnt s (pos ls yes) : Int) - (cnt s i : Int) - 2) 0 0
          exact ⟨by omega, by omega, by omega, by omega, by omega, by omega, by omega, by omega, .inr ⟨rfl, rfl⟩, fun h => by omega, fun h => by omega⟩
        · show ((cnt s i + 1 : Nat) : Int) + 1 + farW (7, ((cnt s (pos ls yes) : Int) - (cnt s i : Int) - 2), 0, 0) < (cnt s ls.length : Int)
          unfold farW
          simp only
          rw [if_pos trivial]
          omega
      · refine ⟨?_, .inr ?_⟩
        · rw [okW_P]
          show insP 7 ((cnt s (pos ls no) : Int) - (cnt s i : Int) - 3) 0 0
          exact ⟨by omega, by omega, by omega, by omega, by omega, by omega, by omega, by omega, .inr ⟨rfl, rfl⟩, fun h => by omega, fun h => by omega⟩
        · show ((cnt s i + 2 : Nat) : Int) + 1 + farW (7, ((cnt s (pos ls no) : Int) - (cnt s i : Int) - 3), 0, 0) < (cnt s ls.length : Int)
          unfold farW
          simp only
          rw [if_pos trivial]
          omega
  · obtain ⟨m, hm⟩ : ∃ m, ls.length = m + 1 := ⟨ls.length - 1, by have := hl.1; omega⟩
    have h8 := hl.2.1
    rw [hm, Nat.add_sub_cancel] at h8
    have h1 : s m = 1 := by
      rcases hs m (by omega) with ⟨a, _⟩ | ⟨a, _⟩ | ⟨a, _⟩ | ⟨_, _, a⟩
      · omega
      · unfold askP at a; omega
      · unfold askP at a; omega
      · exact a
    have hc : cnt s (m + 1) = cnt s m + s m := rfl
    have e : (layL ls s ls.length).length - 1 = cnt s m + 0 := by rw [hlen, hm]; omega
    rw [e, lay_at hs (Nat.le_refl _) (by omega) (by omega)]
    obtain ⟨⟨lab, ⟨o, k, y, nn⟩, yes, no⟩, hp⟩ : ∃ p, p = ls.getD m zeroL := ⟨_, rfl⟩
    rw [← hp] at h8
    have h8' : o = 8 := h8
    subst h8'
    rw [words_other h1 hp (by decide) (by decide)]
    rfl

/-! The run. -/

/-- Where the next line is, the register being r. -/
def nextL (ls : List Ln) (i : Nat) (r : Int) : Nat :=
  if 3 ≤ (ls.getD i zeroL).wd.1 ∧ (ls.getD i zeroL).wd.1 ≤ 6 then (if asksW (ls.getD i zeroL).wd r = true then pos ls (ls.getD i zeroL).yes else pos ls (ls.getD i zeroL).no)
  else if (ls.getD i zeroL).wd.1 = 7 then pos ls (ls.getD i zeroL).yes else i + 1

/-- From line i on, the register being r: the result. -/
def LRuns (ls : List Ln) (F : Int → Int) : Nat → Nat → Int → Int → Prop
  | 0, _, _, _ => False
  | f + 1, i, r, res => ((ls.getD i zeroL).wd.1 = 8 ∧ res = (ls.getD i zeroL).wd.2.1) ∨ ((ls.getD i zeroL).wd.1 ≠ 8 ∧ LRuns ls F f (nextL ls i r) (regW F (ls.getD i zeroL).wd r) res)

theorem lruns_next {ls : List Ln} {F : Int → Int} {f i : Nat} {r res : Int} (h : LRuns ls F f i r res) (h8 : (ls.getD i zeroL).wd.1 ≠ 8) : ∃ f', LRuns ls F f' (nextL ls i r) (regW F (ls.getD i zeroL).wd r) res := by
  cases f with
  | zero => cases h
  | succ f =>
    rcases h with ⟨h, _⟩ | ⟨_, h⟩
    · exact absurd h h8
    · exact ⟨f, h⟩

theorem lruns_ret {ls : List Ln} {F : Int → Int} {f i : Nat} {r res : Int} (h : LRuns ls F f i r res) (h8 : (ls.getD i zeroL).wd.1 = 8) : res = (ls.getD i zeroL).wd.2.1 := by
  cases f with
  | zero => cases h
  | succ f =>
    rcases h with ⟨_, h⟩ | ⟨h, _⟩
    · exact h
    · exact absurd h8 h

theorem runs_jump {ws : List Wd} {F : Int → Int} {f i : Nat} {r : Int} {st : Nat} {res : Int} {m : Nat} {d y n : Int} {j : Nat} (h : Runs ws F f i r st res m) (hw : ws.getD i zeroW = (7, d, y, n)) (hd : 0 ≤ d) (hj : (j : Int) = (i : Int) + 1 + d) : ∃ f' st', Runs ws F f' j r st' res m := by
  obtain ⟨f', h'⟩ := runs_next h (by rw [hw]; show (7 : Int) ≠ 8; decide)
  rw [hw] at h'
  have e1 : overW (7, d, y, n) r = d := by
    unfold overW; simp
  have e2 : regW F (7, d, y, n) r = r := by
    unfold regW; simp
  rw [e1, e2, show i + 1 + d.toNat = j by omega] at h'
  exact ⟨f', _, h'⟩

theorem over_ask {o k y n r : Int} (h : askP o) : overW (o, k, y, n) r = if asksW (o, k, 0, 0) r = true then y else n := by
  unfold askP at h
  unfold overW
  simp only
  rw [if_pos h]
  rfl

theorem reg_ask {F : Int → Int} {o k y n r : Int} (h : askP o) : regW F (o, k, y, n) r = r := by
  unfold askP at h
  unfold regW
  simp only
  rw [if_neg (by omega), if_neg (by omega)]

/-- The words do what the lines do. -/
theorem lay_runs {ls : List Ln} {s : Nat → Nat} {F : Int → Int} (hl : linesP ls) (hs : sizesP ls s) : ∀ (d i f : Nat) (r : Int) (st : Nat) (res : Int) (m : Nat), ls.length ≤ d + i → i < ls.length → Runs (layL ls s ls.length) F f (cnt s i) r st res m → ∃ f', LRuns ls F f' i r res
  | 0, i, f, r, st, res, m, hd, hi, h => by omega
  | d + 1, i, f, r, st, res, m, hd, hi, h => by
    have hc1 : cnt s (i + 1) = cnt s i + s i := rfl
    obtain ⟨⟨lab, ⟨o, k, y, nn⟩, yes, no⟩, hp⟩ : ∃ p, p = ls.getD i zeroL := ⟨_, rfl⟩
    have close : ∀ {j : Nat} {r' : Int} {f1 st1 : Nat}, o ≠ 8 → i < j → j < ls.length → nextL ls i r = j → regW F (ls.getD i zeroL).wd r = r' → Runs (layL ls s ls.length) F f1 (cnt s j) r' st1 res m → ∃ f', LRuns ls F f' i r res := by
      intro j r' f1 st1 h8 hij hj hn hr hh
      obtain ⟨f', h'⟩ := lay_runs hl hs d j f1 r' st1 res m (by omega) hj hh
      exact ⟨f' + 1, .inr ⟨by rw [← hp]; exact h8, by rw [hn, hr]; exact h'⟩⟩
    have nextAsk : askP o → nextL ls i r = if asksW (o, k, 0, 0) r = true then pos ls yes else pos ls no := by
      intro ha
      unfold askP at ha
      unfold nextL
      rw [← hp]
      simp only
      rw [if_pos ha]
      rfl
    rcases size_cases hs hi with h0 | h1 | h3
    · have ho : o = 0 := by
        have : (ls.getD i zeroL).wd.1 = 0 := by
          rcases hs i hi with ⟨a, _⟩ | ⟨_, _, c⟩ | ⟨_, _, c⟩ | ⟨_, _, c⟩
          · exact a
          · omega
          · omega
          · omega
        rw [← hp] at this
        exact this
      subst ho
      have hlt := last_op hl hi (by rw [← hp]; show (0 : Int) ≠ 8; decide)
      refine close (by decide) (Nat.lt_succ_self i) hlt ?_ (r' := r) ?_ (by rw [hc1, h0]; exact h)
      · unfold nextL
        rw [← hp]
        rfl
      · rw [← hp]
        rfl
    · have hw0 : (layL ls s ls.length).getD (cnt s i) zeroW = (wordsL ls s i).getD 0 zeroW := lay_at hs (Nat.le_refl _) hi (q := 0) (by omega)
      have hz : (ls.getD i zeroL).wd.1 ≠ 0 := by
        intro hz
        rcases hs i hi with ⟨_, a⟩ | ⟨a, _⟩ | ⟨a, _⟩ | ⟨a, _⟩
        · omega
        · unfold askP at a; omega
        · unfold askP at a; omega
        · exact a hz
      rw [← hp] at hz
      simp only at hz
      cases ha : askB o with
      | true =>
        have hao := askB_true.1 ha
        obtain ⟨hw, on1, on2⟩ := words_ask hl hs hi h1 hp ha
        have p1 := pos_lt hl hs on1
        have p2 := pos_lt hl hs on2
        rw [hw] at hw0
        have h8 : o ≠ 8 := by unfold askP at hao; omega
        obtain ⟨f', h'⟩ := runs_next h (by rw [hw0]; exact h8)
        rw [hw0] at h'
        simp only [List.getD_cons_zero] at h'
        rw [over_ask hao, reg_ask hao] at h'
        have na := nextAsk hao
        have hr : regW F (ls.getD i zeroL).wd r = r := by rw [← hp]; exact reg_ask hao
        split at h'
        · rename_i hb
          rw [if_pos hb] at na
          rw [show cnt s i + 1 + ((cnt s (pos ls yes) : Int) - (cnt s i : Int) - 1).toNat = cnt s (pos ls yes) by omega] at h'
          exact close h8 on1.1 on1.2 na hr h'
        · rename_i hb
          rw [if_neg hb] at na
          rw [show cnt s i + 1 + ((cnt s (pos ls no) : Int) - (cnt s i : Int) - 1).toNat = cnt s (pos ls no) by omega] at h'
          exact close h8 on2.1 on2.2 na hr h'
      | false =>
        have hna := askB_false.1 ha
        by_cases h7 : o = 7
        · subst h7
          obtain ⟨hw, on1⟩ := words_jump hl hs hi h1 hp
          have p1 := pos_lt hl hs on1
          rw [hw] at hw0
          obtain ⟨f', st', h'⟩ := runs_jump (j := cnt s (pos ls yes)) h hw0 (by omega) (by omega)
          refine close (by decide) on1.1 on1.2 ?_ ?_ h'
          · unfold nextL
            rw [← hp]
            rfl
          · rw [← hp]
            rfl
        · rw [words_other h1 hp ha h7] at hw0
          simp only [List.getD_cons_zero] at hw0
          by_cases h8 : o = 8
          · have := runs_ret h (by rw [hw0]; exact h8)
            rw [hw0] at this
            exact ⟨1, .inl ⟨by rw [← hp]; exact h8, by rw [← hp]; exact this.1⟩⟩
          · have hna' : ¬ (3 ≤ o ∧ o ≤ 6) := hna
            have hlt := last_op hl hi (by rw [← hp]; exact h8)
            obtain ⟨f', h'⟩ := runs_next h (by rw [hw0]; exact h8)
            rw [hw0] at h'
            have e1 : overW (o, k, y, nn) r = 0 := by
              unfold overW
              simp only
              rw [if_neg hna', if_neg h7]
            rw [e1] at h'
            refine close h8 (Nat.lt_succ_self i) hlt ?_ (r' := regW F (o, k, y, nn) r) ?_ (by rw [hc1, h1]; exact h')
            · unfold nextL
              rw [← hp]
              simp only
              rw [if_neg hna', if_neg h7]
            · rw [← hp]
    · obtain ⟨hw, on1, on2⟩ := words_three hl hs hi h3 hp
      have p1 := pos_lt hl hs on1
      have p2 := pos_lt hl hs on2
      have hao : askP o := by
        have : askP (ls.getD i zeroL).wd.1 := by
          rcases hs i hi with ⟨_, c⟩ | ⟨a, _⟩ | ⟨a, _⟩ | ⟨_, _, c⟩
          · omega
          · exact a
          · exact a
          · omega
        rw [← hp] at this
        exact this
      have h8 : o ≠ 8 := by unfold askP at hao; omega
      have hy : y = 0 := by
        have := (line_ok hl hi (by rw [← hp]; unfold askP at hao; show o ≠ 0; omega)).2.1
        rw [← hp] at this
        exact this
      subst hy
      have hw0 : (layL ls s ls.length).getD (cnt s i) zeroW = _ := lay_at hs (Nat.le_refl _) hi (q := 0) (by omega)
      have hw1 := lay_at hs (Nat.le_refl _) hi (q := 1) (by omega)
      have hw2 := lay_at hs (Nat.le_refl _) hi (q := 2) (by omega)
      rw [hw] at hw0 hw1 hw2
      obtain ⟨f', h'⟩ := runs_next h (by rw [hw0]; exact h8)
      rw [hw0] at h'
      simp only [List.getD_cons_zero] at h'
      rw [over_ask hao, reg_ask hao] at h'
      have na := nextAsk hao
      have hr : regW F (ls.getD i zeroL).wd r = r := by rw [← hp]; exact reg_ask hao
      split at h'
      · rename_i hb
        rw [if_pos hb] at na
        obtain ⟨f2, st2, h2⟩ := runs_jump (j := cnt s (pos ls yes)) h' hw1 (by omega) (by omega)
        exact close h8 on1.1 on1.2 na hr h2
      · rename_i hb
        rw [if_neg hb] at na
        obtain ⟨f2, st2, h2⟩ := runs_jump (j := cnt s (pos ls no)) h' hw2 (by omega) (by omega)
        exact close h8 on2.1 on2.2 na hr h2

/-- What is there in one round: what LayR says, the words so far, the word in its box. -/
def StL (ls : List Ln) (s : Nat → Nat) (n gs gy gn gb b0 bx : Nat) (w W : World) (ov : Value) (l : List Wd) (q : Wd) : Prop :=
  LayR ls s n gs gy gn gb b0 w W ∧ Own4 W b0 ov l ∧ Own4 W w.heap.size (.slice (some ⟨w.heap.size, 0, none⟩) 0 0) [] ∧ Quad W bx 0 q ∧ (∀ j, W.frozen? ⟨bx, j, none⟩ = false) ∧ (∀ x, ov.ownBlock = some x → x < bx) ∧ b0 ≤ bx ∧ w.heap.size < bx

theorem StL.ext {ls : List Ln} {s : Nat → Nat} {n gs gy gn gb b0 bx : Nat} {w W W' : World} {ov : Value} {l : List Wd} {q : Wd} (h : StL ls s n gs gy gn gb b0 bx w W ov l q) (hE : Ext W W') : StL ls s n gs gy gn gb b0 bx w W' ov l q := by
  obtain ⟨h1, h2, h3, h4, h5, h6, h7, h8⟩ := h
  exact ⟨h1.ext hE, h2.ext hE, h3.ext hE, h4.below hE h4.lt, fun j => (hE.frozen (p := ⟨bx, j, none⟩) h4.lt).trans (h5 j), h6, h7, h8⟩

theorem StL.drew {ls : List Ln} {s : Nat → Nat} {n gs gy gn gb b0 bx : Nat} {w W : World} {ov : Value} {l : List Wd} {q : Wd} (h : StL ls s n gs gy gn gb b0 bx w W ov l q) : StL ls s n gs gy gn gb b0 bx w W.drew ov l q := by
  obtain ⟨⟨g1, g2, g3, g4, g5, g6, g7, g8⟩, h2, h3, h4, h5, h6, h7, h8⟩ := h
  exact ⟨⟨g1, g2, g3, g4, g5, g6, g7, g8.drew⟩, h2, h3, h4, h5, h6, h7, h8⟩

theorem own_set {W : World} {B e size n bx i : Nat} {v u : Value} {xs : List Value} (h : W.ownsRow B e size v n xs) (hne : ∀ x, v.ownBlock = some x → x ≠ bx) : (W.setCell ⟨bx, i, none⟩ u).ownsRow B e size v n xs := by
  refine ⟨h.1, ?_⟩
  rcases h.2 with hn | ⟨g, cap, cur, rfl, hg, hh, rest⟩
  · exact .inl hn
  · exact .inr ⟨g, cap, cur, rfl, hg, (Below.heap_setCell _ _ _ _ (Ne.symm (hne g rfl)).symm).trans hh, rest⟩

theorem StL.put {ls : List Ln} {s : Nat → Nat} {n gs gy gn gb b0 bx : Nat} {w W : World} {ov : Value} {l : List Wd} {q q' : Wd} (h : StL ls s n gs gy gn gb b0 bx w W ov l q) (i : Nat) (v : Int) (hq : q' = (if i = 0 then v else q.1, if i = 1 then v else q.2.1, if i = 2 then v else q.2.2.1, if i = 3 then v else q.2.2.2)) : StL ls s n gs gy gn gb b0 bx w (W.setCell ⟨bx, i, none⟩ (.int .i64 v)) ov l q' := by
  obtain ⟨⟨g1, g2, g3, g4, ⟨g5, g6, g7, g8⟩, g9, g10, g11⟩, h2, h3, h4, h5, h6, h7, h8⟩ := h
  refine ⟨⟨g1.far (by omega) _, g2.far (by omega) _, g3.far (by omega) _, g4.far (by omega) _, ⟨g5, g6, g7, g8⟩, by rw [World.size_setCell]; exact g9, g10, Below.setCell g11 (show w.heap.size ≤ bx by omega) _⟩, own_set h2 (fun x hx => by have := h6 x hx; omega), own_set h3 (fun x hx => by have : w.heap.size = x := Option.some.inj hx; omega), h4.put v hq, fun j => by rw [World.frozen?_setCell]; exact h5 j, h6, h7, h8⟩

theorem quad_box (w : World) (o k y n : Int) : Quad (w.alloc (.cells #[.int .i64 o, .int .i64 k, .int .i64 y, .int .i64 n] 36)) w.heap.size 0 (o, k, y, n) := ⟨by simp [go_sem], by simp [go_sem], by simp [go_sem], by simp [go_sem]⟩

set_option maxRecDepth 100000 in
set_option maxHeartbeats 16000000 in
theorem sLayout_yes (a : Option Addr) (cap : Nat) (ls : List Ln) (s : Nat → Nat) (w : World) (h : Lns w a ls) (hl : linesP ls) (hs : sizesP ls s) :
    Calls Tryd.prog 9 #[.slice a ls.length cap] w fun e w' => ∃ v, e = .returned (.tuple #[v, .bool (fewP ls s)]) ∧ Own4 w' w.heap.size v (if fewP ls s = true then layL ls s ls.length else []) ∧ Ext w w' := by
  obtain ⟨i0, hi, hz0, hz1, hz2⟩ := info_parts Tryd.infoN
  obtain ⟨n, hn⟩ : ∃ n, n = ls.length := ⟨_, rfl⟩
  have hn6 : n ≤ 600 := by have := hl.1; omega
  have hn1 : 0 < n := by have := hl.1; omega
  have HA : Hid (Lns w a ls ∧ n = ls.length ∧ linesP ls ∧ sizesP ls s) := ⟨h, hn, hl, hs⟩
  have HS : Hid (∀ w1, Ext w w1 → Calls Tryd.prog 35 #[.slice a n cap] w1 fun e w' => ∃ q c, e = .returned (.slice (some ⟨q, 0, none⟩) n c) ∧ w1.heap.size ≤ q ∧ RowF w' q n (fun i => (s i : Int)) ∧ Ext w1 w') := fun w1 hE => by rw [hn]; exact sSizes_yes a cap ls s w1 (h.ext hE) hl hs
  have HW : Hid (∀ w1, Ext w w1 → Calls Tryd.prog 36 #[.slice a n cap] w1 fun e w' => ∃ q c q2 c2, e = .returned (.tuple #[.slice (some ⟨q, 0, none⟩) n c, .slice (some ⟨q2, 0, none⟩) n c2]) ∧ w1.heap.size ≤ q ∧ w1.heap.size ≤ q2 ∧ RowF w' q n (fun i => wayV ls (ls.getD i zeroL).yes) ∧ RowF w' q2 n (fun i => wayV ls (ls.getD i zeroL).no) ∧ Ext w1 w') := fun w1 hE => by rw [hn]; exact ways11_any a cap ls w1 (by have := hl.1; omega) (by have := hl.1; omega) (h.ext hE)
  have HZ : Hid (fewP ls s = inB (cnt s n) 1 400 ∧ 1 ≤ cnt s n ∧ (layL ls s n).length = cnt s n) := ⟨by unfold fewP; rw [hn], by rw [hn]; exact cnt_pos hl hs, by rw [hn]; exact layL_length hs (Nat.le_refl _)⟩
  rw [← hn]
  generalize fewP ls s = z at *
  have HLL : Hid (∀ k, k ≤ n → (layL ls s k).length ≤ 1800) := fun k hk => by
    rw [layL_length hs (by omega)]
    have := cnt_le hs (n := k) (by omega)
    omega
  clear h hn hl hs
  go_enter Tryd.func9, Tryd.ntmps9
  have X0 : Hid (Ext w (w.alloc (.cells #[] 36)) ∧ Own4 (w.alloc (.cells #[] 36)) w.heap.size (.slice (some ⟨w.heap.size, 0, none⟩) 0 0) []) := ⟨Ext.one _ _, Own4.lit w w.heap.size (Nat.le_refl _)⟩
  go_wp2_with fail
  refine (HS.out _ X0.out.1).mono ?_
  rintro e w2 ⟨gs, cs, rfl, hgs, rs, e2⟩
  have X2 : Hid (Ext w w2 ∧ Own4 w2 w.heap.size (.slice (some ⟨w.heap.size, 0, none⟩) 0 0) [] ∧ RowF w2 gs n (fun i => (s i : Int))) := ⟨X0.out.1.trans e2, X0.out.2.ext e2, rs⟩
  have q0 : ((n : Int) == 0) = false := by simp; omega
  clear hgs rs e2 X0 HS
  go_wp2_with fail
  refine (HW.out _ X2.out.1).mono ?_
  rintro e w3 ⟨gy, cy, gn, cn, rfl, hgy, hgn, ry, rn, e3⟩
  have X3 : Hid (Ext w w3 ∧ Own4 w3 w.heap.size (.slice (some ⟨w.heap.size, 0, none⟩) 0 0) [] ∧ RowF w3 gs n (fun i => (s i : Int)) ∧ RowF w3 gy n (fun i => wayV ls (ls.getD i zeroL).yes) ∧ RowF w3 gn n (fun i => wayV ls (ls.getD i zeroL).no)) := ⟨X2.out.1.trans e3, X2.out.2.1.ext e3, X2.out.2.2.ext e3, ry, rn⟩
  clear hgy hgn ry rn e3 X2 HW
  go_wp2_with fail
  refine (begins_any gs n cs s _ hn1 hn6 (fun i hi => size_le HA.out.2.2.2 (by have := HA.out.2.1; omega)) X3.out.2.2.1).mono ?_
  rintro e w4 ⟨gb, cb, rfl, hgb, rb, e4⟩
  obtain ⟨b0, hb0⟩ : ∃ b, b = w4.heap.size := ⟨_, rfl⟩
  have X4 : Hid (LayR ls s n gs gy gn gb b0 w (w4.alloc (.cells #[] 36)) ∧ Own4 (w4.alloc (.cells #[] 36)) w.heap.size (.slice (some ⟨w.heap.size, 0, none⟩) 0 0) [] ∧ Own4 (w4.alloc (.cells #[] 36)) b0 (.slice (some ⟨b0, 0, none⟩) 0 0) (layL ls s 0) ∧ w.heap.size < b0) := by
    obtain ⟨h1, h2, h3, h4, h5⟩ := X3.out
    have k1 := (h3.ext e4).1
    have k2 := (h4.ext e4).1
    have k3 := (h5.ext e4).1
    have k4 := rb.1
    have k5 := (h1.trans e4).size
    have hlt : w.heap.size < w4.heap.size := Nat.lt_of_lt_of_le (h2.lt _ rfl).2 e4.size
    refine ⟨LayR.ext ⟨h3.ext e4, h4.ext e4, h5.ext e4, rb, by omega, by omega, by omega, h1.trans e4⟩ (Ext.one _ _), (h2.ext e4).alloc _, ?_, by omega⟩
    rw [hb0]
    exact Own4.lit w4 w4.heap.size (Nat.le_refl _)
  clear hgb rb e4 X3
  go_wp2_with fail
  rw [← hb0]
  generalize w4.alloc (.cells #[] 36) = W4 at *
  clear hb0
  go_loopw [9, 10] (fun ov iv wr => ∃ k : Nat, iv = .int .i64 k ∧ k ≤ n ∧ Hid (LayR ls s n gs gy gn gb b0 w wr ∧ Own4 wr b0 ov (layL ls s k) ∧ Own4 wr w.heap.size (.slice (some ⟨w.heap.size, 0, none⟩) 0 0) [])) (fun _ iv _ => n - (intOf iv).toNat)
  case atStart => exact ⟨0, rfl, by omega, X4.out.1, X4.out.2.2.1, X4.out.2.1⟩
  case round =>
    obtain ⟨k, rfl, hk, HX⟩ := hrel
    by_cases hlt : k < n
    · have bk : (k : Int) < (n : Int) := by omega
      obtain ⟨⟨lab, ⟨o, kk, y, nn⟩, yes, no⟩, hp⟩ : ∃ p, p = ls.getD k zeroL := ⟨_, rfl⟩
      obtain ⟨b, off, rfl, hq⟩ := (HA.out.1.ext HX.out.1.2.2.2.2.2.2.2).hept (k := k) (by have := HA.out.2.1; omega) hp
      obtain ⟨_, c1, c2, c3, c4, _, _⟩ := hq
      simp only at c1 c2 c3 c4
      have HP : Hid (Ln.mk lab (o, kk, y, nn) yes no = ls.getD k zeroL) := hp
      have HKL : Hid (k < ls.length) := by have := HA.out.2.1; unfold Hid; omega
      have HLT : Hid (w.heap.size < b0) := X4.out.2.2.2
      obtain ⟨bx, hbx⟩ : ∃ x, x = wr.heap.size := ⟨_, rfl⟩
      obtain ⟨W5, hW5⟩ : ∃ W, W = wr.alloc (.cells #[.int .i64 o, .int .i64 kk, .int .i64 y, .int .i64 nn] 36) := ⟨_, rfl⟩
      obtain ⟨l, hll⟩ : ∃ l, l = layL ls s k := ⟨_, rfl⟩
      obtain ⟨ws, hws⟩ : ∃ x, x = wordsL ls s k := ⟨_, rfl⟩
      have HN : Hid (layL ls s (k + 1) = l ++ ws) := by rw [hll, hws]; exact rfl
      have hlen : l.length ≤ 1800 := by rw [hll]; exact HLL.out k hk
      have HWS : Hid (ws = wordsL ls s k) := hws
      have HT5 : Hid (StL ls s n gs gy gn gb b0 bx w W5 u9 l (o, kk, y, nn)) := by
        rw [hW5, hbx, hll]
        obtain ⟨h1, h2, h3⟩ := HX.out
        refine ⟨h1.ext (Ext.one _ _), h2.alloc _, h3.alloc _, quad_box wr o kk y nn, fun j => by simp [go_sem], fun x hx => (h2.lt x hx).2, h1.2.2.2.2.2.1, Nat.lt_of_lt_of_le HLT.out h1.2.2.2.2.2.1⟩
      have xs : W5.cell? ⟨gs, k, none⟩ = some (.int .i64 (s k : Int)) := (HT5.out.1.1.2 k hlt).1
      have hc := size_cases HA.out.2.2.2 HKL.out
      have hcb : ∀ j, j < n → cnt s j ≤ 1800 := fun j hj => by have := cnt_le HA.out.2.2.2 (n := j) (by have := HA.out.2.1; omega); omega
      have HCB : Hid (∀ j, j < n → cnt s j ≤ 1800) := hcb
      clear hp hll hws hcb HX X4
      go_upto_region 12 with fail
      rw [← hbx, ← hW5]
      clear hbx hW5 c1 c2 c3 c4
      generalize u9 = ov at *
      rcases hc with h0 | h1 | h3
      · have HWW : Hid (ws = []) := by
          show _ = _
          rw [HWS.out]
          unfold wordsL
          rw [if_pos h0]
        rw [h0] at xs
        go_wp2
        go_roundw
        case rel => exact ⟨k + 1, by go_num, by omega, HT5.out.1, by rw [HN.out, HWW.out, List.append_nil]; exact HT5.out.2.1, HT5.out.2.2.1⟩
        case measure => simp [intOf]; omega
      · rw [h1] at xs
        by_cases h7 : o = 7
        · subst h7
          obtain ⟨hw3, on1⟩ := words_jump HA.out.2.2.1 HA.out.2.2.2 HKL.out h1 HP.out
          have HON : Hid (onP ls k yes) := on1
          have x1 := (HT5.out.1.2.1.2 k hlt).1
          dsimp only at x1
          rw [← HP.out] at x1
          simp only at x1
          rw [wayV_on HA.out.2.2.1 HON.out] at x1
          have hb1 : pos ls yes < n := by have := HA.out.2.1; have := HON.out.2; omega
          have x2 := (HT5.out.1.2.2.2.1.2 _ hb1).1
          have x3 := (HT5.out.1.2.2.2.1.2 _ hlt).1
          dsimp only at x2 x3
          have u1 := HCB.out _ hb1
          have u3 := HCB.out _ hlt
          have HWW : Hid (ws = [(7, (cnt s (pos ls yes) : Int) - (cnt s k : Int) - 1, y, nn)]) := HWS.out.trans hw3
          clear hw3 on1 HON
          generalize pos ls yes = p1 at *
          generalize cnt s p1 = B1 at *
          generalize cnt s k = Bk at *
          have bb1 : (p1 : Int) < (n : Int) := by omega
          obtain ⟨v0, v1, v2, v3⟩ := HT5.out.2.2.2.1
          simp only [Nat.zero_add] at v0 v1 v2 v3
          go_upto_region 17 with fail
          clear v0 v1 v2 v3 xs
          refine' wp_region_loose_tail 14 (.inl _ :: .inl _ :: .inl _ :: .inl _ :: .inl _ :: .inl _ :: .inl _ :: .inl _ :: .inl _ :: .inl _ :: .inl _ :: .inl _ :: .inl _ :: .inl _ :: []) (fun w' => Quad w' bx 0 (7, kk, y, nn) ∧ w'.cell? ⟨gy, k, none⟩ = some (.int .i64 (p1 : Int)) ∧ w'.cell? ⟨gb, p1, none⟩ = some (.int .i64 (B1 : Int)) ∧ w'.cell? ⟨gb, k, none⟩ = some (.int .i64 (Bk : Int))) (by kernel_rfl) (by kernel_rfl) (⟨HT5.out.2.2.2.1, x1, x2, x3⟩) (fun _ _ h hE => ⟨h.1.below hE h.1.lt, (hE.cell (p := ⟨gy, k, none⟩) (World.block_lt_of_cell? _ _ h.2.1)).trans h.2.1, (hE.cell (p := ⟨gb, p1, none⟩) (World.block_lt_of_cell? _ _ h.2.2.1)).trans h.2.2.1, (hE.cell (p := ⟨gb, k, none⟩) (World.block_lt_of_cell? _ _ h.2.2.2)).trans h.2.2.2⟩) ?hAb ?hlb ?hMb
          case' hMb => skip
          simp only [List.take_succ_cons, List.take_zero, List.drop_succ_cons, List.drop_zero]
          apply wpLoose_val rfl rfl
          case hs =>
            intro w1 hC hd Q1 hQ1
            obtain ⟨hE, hS⟩ := hC
            dsimp only [bare]
            obtain ⟨⟨r0, r1, r2, r3⟩, q0, q1, q2⟩ := hS; simp only [Nat.zero_add] at r0 r1 r2 r3
            clear hd hE
            try clear hS
            go_wp2
            exact Ext.refl _
          case ha => rfl
          apply wpLoose_val rfl rfl
          case hs =>
            intro w1 hC hd Q1 hQ1
            obtain ⟨hE, hS⟩ := hC
            dsimp only [bare]
            obtain ⟨⟨r0, r1, r2, r3⟩, q0, q1, q2⟩ := hS; simp only [Nat.zero_add] at r0 r1 r2 r3
            clear hd hE
            try clear hS
            go_wp2
            exact Ext.refl _
          case ha => rfl
          apply wpLoose_val rfl rfl
          case hs =>
            intro w1 hC hd Q1 hQ1
            obtain ⟨hE, hS⟩ := hC
            dsimp only [bare]
            obtain ⟨⟨r0, r1, r2, r3⟩, q0, q1, q2⟩ := hS; simp only [Nat.zero_add] at r0 r1 r2 r3
            clear hd hE
            try clear hS
            go_wp2
            exact Ext.refl _
          case ha => rfl
          apply wpLoose_val rfl rfl
          case hs =>
            intro w1 hC hd Q1 hQ1
            obtain ⟨hE, hS⟩ := hC
            dsimp only [bare]
            obtain ⟨⟨r0, r1, r2, r3⟩, q0, q1, q2⟩ := hS; simp only [Nat.zero_add] at r0 r1 r2 r3
            clear hd hE
            try clear hS
            go_wp2
            exact Ext.refl _
          case ha => rfl
          apply wpLoose_val rfl rfl
          case hs =>
            intro w1 hC hd Q1 hQ1
            obtain ⟨hE, hS⟩ := hC
            dsimp only [bare]
            obtain ⟨⟨r0, r1, r2, r3⟩, q0, q1, q2⟩ := hS; simp only [Nat.zero_add] at r0 r1 r2 r3
            clear hd hE
            try clear hS
            go_wp2
            exact Ext.refl _
          case ha => rfl
          apply wpLoose_val rfl rfl
          case hs =>
            intro w1 hC hd Q1 hQ1
            obtain ⟨hE, hS⟩ := hC
            dsimp only [bare]
            obtain ⟨⟨r0, r1, r2, r3⟩, q0, q1, q2⟩ := hS; simp only [Nat.zero_add] at r0 r1 r2 r3
            clear hd hE
            try clear hS
            go_wp2
            exact Ext.refl _
          case ha => rfl
          apply wpLoose_val rfl rfl
          case hs =>
            intro w1 hC hd Q1 hQ1
            obtain ⟨hE, hS⟩ := hC
            dsimp only [bare]
            obtain ⟨⟨r0, r1, r2, r3⟩, q0, q1, q2⟩ := hS; simp only [Nat.zero_add] at r0 r1 r2 r3
            clear hd hE
            try clear hS
            go_wp2
            exact Ext.refl _
          case ha => rfl
          apply wpLoose_val rfl rfl
          case hs =>
            intro w1 hC hd Q1 hQ1
            obtain ⟨hE, hS⟩ := hC
            dsimp only [bare]
            obtain ⟨⟨r0, r1, r2, r3⟩, q0, q1, q2⟩ := hS; simp only [Nat.zero_add] at r0 r1 r2 r3
            clear hd hE
            try clear hS
            go_wp2
            exact Ext.refl _
          case ha => rfl
          apply wpLoose_val rfl rfl
          case hs =>
            intro w1 hC hd Q1 hQ1
            obtain ⟨hE, hS⟩ := hC
            dsimp only [bare]
            obtain ⟨⟨r0, r1, r2, r3⟩, q0, q1, q2⟩ := hS; simp only [Nat.zero_add] at r0 r1 r2 r3
            clear hd hE
            try clear hS
            go_wp2
            exact Ext.refl _
          case ha => rfl
          apply wpLoose_val rfl rfl
          case hs =>
            intro w1 hC hd Q1 hQ1
            obtain ⟨hE, hS⟩ := hC
            dsimp only [bare]
            obtain ⟨⟨r0, r1, r2, r3⟩, q0, q1, q2⟩ := hS; simp only [Nat.zero_add] at r0 r1 r2 r3
            clear hd hE
            try clear hS
            go_wp2
            exact Ext.refl _
          case ha => rfl
          apply wpLoose_val rfl rfl
          case hs =>
            intro w1 hC hd Q1 hQ1
            obtain ⟨hE, hS⟩ := hC
            dsimp only [bare]
            obtain ⟨⟨r0, r1, r2, r3⟩, q0, q1, q2⟩ := hS; simp only [Nat.zero_add] at r0 r1 r2 r3
            clear hd hE
            try clear hS
            go_wp2
            exact Ext.refl _
          case ha => rfl
          apply wpLoose_val rfl rfl
          case hs =>
            intro w1 hC hd Q1 hQ1
            obtain ⟨hE, hS⟩ := hC
            dsimp only [bare]
            obtain ⟨⟨r0, r1, r2, r3⟩, q0, q1, q2⟩ := hS; simp only [Nat.zero_add] at r0 r1 r2 r3
            clear hd hE
            try clear hS
            go_wp2
            exact Ext.refl _
          case ha => rfl
          apply wpLoose_val rfl rfl
          case hs =>
            intro w1 hC hd Q1 hQ1
            obtain ⟨hE, hS⟩ := hC
            dsimp only [bare]
            obtain ⟨⟨r0, r1, r2, r3⟩, q0, q1, q2⟩ := hS; simp only [Nat.zero_add] at r0 r1 r2 r3
            clear hd hE
            try clear hS
            go_wp2
            exact Ext.refl _
          case ha => rfl
          apply wpLoose_val rfl rfl
          case hs =>
            intro w1 hC hd Q1 hQ1
            obtain ⟨hE, hS⟩ := hC
            dsimp only [bare]
            obtain ⟨⟨r0, r1, r2, r3⟩, q0, q1, q2⟩ := hS; simp only [Nat.zero_add] at r0 r1 r2 r3
            clear hd hE
            try clear hS
            go_wp2
            exact Ext.refl _
          case ha => rfl
          refine wpLoose_nil ?_
          intro wb hEb hSb hFb
          have HT6 : Hid (StL ls s n gs gy gn gb b0 bx w wb ov l (7, kk, y, nn)) := StL.ext HT5.out.drew hEb
          clear hFb hSb hEb x1 x2 x3 HT5
          obtain ⟨v0, v1, v2, v3⟩ := HT6.out.2.2.2.1
          simp only [Nat.zero_add] at v0 v1 v2 v3
          have fz := HT6.out.2.2.2.2.1 1
          go_upto_region 21 with fail
          have HT : Hid (StL ls s n gs gy gn gb b0 bx w (wb.setCell ⟨bx, 1, none⟩ (.int .i64 ((B1 : Int) - (Bk : Int) - 1))) ov l (7, (B1 : Int) - (Bk : Int) - 1, y, nn)) := HT6.out.put 1 _ rfl
          clear v0 v1 v2 v3 fz HT6
          generalize wb.setCell ⟨bx, 1, none⟩ (.int .i64 ((B1 : Int) - (Bk : Int) - 1)) = W7 at *
          obtain ⟨v0, v1, v2, v3⟩ := HT.out.2.2.2.1
          simp only [Nat.zero_add] at v0 v1 v2 v3
          have hown : W7.ownsRow b0 36 4 ov l.length (flatI l) := HT.out.2.1
          have hz4 : b0 ≤ W7.heap.size := HT.out.1.2.2.2.2.2.1
          go_wp2_with (at_builtin; refine wpList_append_own _ rfl _ _ 39 rfl b0 36 i0 (.agg #[.int .i64 0, .int .i64 0, .int .i64 0, .int .i64 0]) 4 32 Tryd.underlying39 hi hz0 hz1 hz2 rfl (by decide) _ l.length _ rfl (hown.alloc _) ⟨W7.heap.size, 0, none⟩ 1 1 (ints4 7 ((B1 : Int) - (Bk : Int) - 1) y nn) rfl rfl ?c1 ?c2 ?c3 ?c4 ?c5 ?_)
          case c1 =>
            intro j u hu
            have := (CellsAt.new W7 (ints4 7 ((B1 : Int) - (Bk : Int) - 1) y nn) 36).2 j u hu
            first
              | (rw [Addr.add_lit, Nat.zero_add]; exact this)
              | exact hu
              | simpa using hu
          case c2 => intro u hu; simp [ints4] at hu; rcases hu with rfl | rfl | rfl | rfl <;> rfl
          case c3 => unfold maxLen; omega
          case c4 => omega
          case c5 => first | omega | (simp; omega)
          intro v' w8 hown8 hgrow8 _
          have HX8 : Hid (LayR ls s n gs gy gn gb b0 w w8 ∧ Own4 w8 b0 v' (l ++ ws) ∧ Own4 w8 w.heap.size (.slice (some ⟨w.heap.size, 0, none⟩) 0 0) []) := by
            have hxl : w.heap.size < W7.heap.size := (HT.out.2.2.1.lt w.heap.size rfl).2
            have hxn : some w.heap.size ≠ ov.ownBlock := fun e => by
              have h1 : b0 ≤ w.heap.size := own_from hown e.symm
              have h2 := HLT.out
              omega
            refine ⟨(HT.out.1.ext (Ext.one _ _)).app hgrow8 (fun x hx => own_from hown hx), ?_, own_block (HT.out.2.2.1.alloc _) (hgrow8.block w.heap.size (by simp; omega) hxn)⟩
            rw [HWW.out]
            have e : flatI l ++ (ints4 7 ((B1 : Int) - (Bk : Int) - 1) y nn) = flatI (l ++ [(7, ((B1 : Int) - (Bk : Int) - 1), y, nn)]) := by simp [flatI]
            rw [e] at hown8
            unfold Own4
            rw [List.length_append]
            exact hown8
          clear hgrow8 hown8 hown
          go_wp2
          go_roundw
          case rel => exact ⟨k + 1, by go_num, by omega, HX8.out.1, by rw [HN.out]; exact HX8.out.2.1, HX8.out.2.2⟩
          case measure => simp [intOf]; omega
          case hAb => kernel_rfl
          case hlb => exact ⟨trivial, trivial, trivial, trivial, trivial, trivial, trivial, trivial, trivial, trivial, trivial, trivial, trivial, trivial, trivial⟩
        · have q7 : (o == 7) = false := by simpa using h7
          have H7 : Hid (o ≠ 7) := h7
          obtain ⟨z2, hz2e⟩ : ∃ z, z = askB o := ⟨_, rfl⟩
          have HQ : Hid (∀ w, Calls Tryd.prog 38 #[.int .i64 o] w fun e w' => e = .returned (.bool z2) ∧ w = w') := fun w => by rw [hz2e]; exact ask_any o w
          obtain ⟨v0, v1, v2, v3⟩ := HT5.out.2.2.2.1
          simp only [Nat.zero_add] at v0 v1 v2 v3
          clear h7
          go_wp2_with fail
          refine (HQ.out _).mono ?_
          rintro e w6 ⟨rfl, rfl⟩
          cases z2 with
          | false =>
            have HWW : Hid (ws = [(o, kk, y, nn)]) := HWS.out.trans (words_other h1 HP.out hz2e.symm H7.out)
            have HT : Hid (StL ls s n gs gy gn gb b0 bx w W5 ov l (o, kk, y, nn)) := HT5.out
            clear xs hz2e HT5
            have hown : W5.ownsRow b0 36 4 ov l.length (flatI l) := HT.out.2.1
            have hz4 : b0 ≤ W5.heap.size := HT.out.1.2.2.2.2.2.1
            go_wp2_with (at_builtin; refine wpList_append_own _ rfl _ _ 39 rfl b0 36 i0 (.agg #[.int .i64 0, .int .i64 0, .int .i64 0, .int .i64 0]) 4 32 Tryd.underlying39 hi hz0 hz1 hz2 rfl (by decide) _ l.length _ rfl (hown.alloc _) ⟨W5.heap.size, 0, none⟩ 1 1 (ints4 o kk y nn) rfl rfl ?c1 ?c2 ?c3 ?c4 ?c5 ?_)
            case c1 =>
              intro j u hu
              have := (CellsAt.new W5 (ints4 o kk y nn) 36).2 j u hu
              first
                | (rw [Addr.add_lit, Nat.zero_add]; exact this)
                | exact hu
                | simpa using hu
            case c2 => intro u hu; simp [ints4] at hu; rcases hu with rfl | rfl | rfl | rfl <;> rfl
            case c3 => unfold maxLen; omega
            case c4 => omega
            case c5 => first | omega | (simp; omega)
            intro v' w8 hown8 hgrow8 _
            have HX8 : Hid (LayR ls s n gs gy gn gb b0 w w8 ∧ Own4 w8 b0 v' (l ++ ws) ∧ Own4 w8 w.heap.size (.slice (some ⟨w.heap.size, 0, none⟩) 0 0) []) := by
              have hxl : w.heap.size < W5.heap.size := (HT.out.2.2.1.lt w.heap.size rfl).2
              have hxn : some w.heap.size ≠ ov.ownBlock := fun e => by
                have h1 : b0 ≤ w.heap.size := own_from hown e.symm
                have h2 := HLT.out
                omega
              refine ⟨(HT.out.1.ext (Ext.one _ _)).app hgrow8 (fun x hx => own_from hown hx), ?_, own_block (HT.out.2.2.1.alloc _) (hgrow8.block w.heap.size (by simp; omega) hxn)⟩
              rw [HWW.out]
              have e : flatI l ++ (ints4 o kk y nn) = flatI (l ++ [(o, kk, y, nn)]) := by simp [flatI]
              rw [e] at hown8
              unfold Own4
              rw [List.length_append]
              exact hown8
            clear hgrow8 hown8 hown
            go_wp2
            go_roundw
            case rel => exact ⟨k + 1, by go_num, by omega, HX8.out.1, by rw [HN.out]; exact HX8.out.2.1, HX8.out.2.2⟩
            case measure => simp [intOf]; omega
          | true =>
            obtain ⟨hw3, on1, on2⟩ := words_ask HA.out.2.2.1 HA.out.2.2.2 HKL.out h1 HP.out hz2e.symm
            have HON : Hid (onP ls k yes) := on1
            have x1 := (HT5.out.1.2.1.2 k hlt).1
            dsimp only at x1
            rw [← HP.out] at x1
            simp only at x1
            rw [wayV_on HA.out.2.2.1 HON.out] at x1
            have hb1 : pos ls yes < n := by have := HA.out.2.1; have := HON.out.2; omega
            have x2 := (HT5.out.1.2.2.2.1.2 _ hb1).1
            have x3 := (HT5.out.1.2.2.2.1.2 _ hlt).1
            dsimp only at x2 x3
            have u1 := HCB.out _ hb1
            have u3 := HCB.out _ hlt
            have HON2 : Hid (onP ls k no) := on2
            have x4 := (HT5.out.1.2.2.1.2 k hlt).1
            dsimp only at x4
            rw [← HP.out] at x4
            simp only at x4
            rw [wayV_on HA.out.2.2.1 HON2.out] at x4
            have hb2 : pos ls no < n := by have := HA.out.2.1; have := HON2.out.2; omega
            have x5 := (HT5.out.1.2.2.2.1.2 _ hb2).1
            dsimp only at x5
            have u2 := HCB.out _ hb2
            have HWW : Hid (ws = [(o, kk, (cnt s (pos ls yes) : Int) - (cnt s k : Int) - 1, (cnt s (pos ls no) : Int) - (cnt s k : Int) - 1)]) := HWS.out.trans hw3
            clear hw3 on1 on2 HON HON2 xs hz2e v0 v1 v2 v3
            generalize pos ls yes = p1 at *
            generalize cnt s p1 = B1 at *
            generalize cnt s k = Bk at *
            have bb1 : (p1 : Int) < (n : Int) := by omega
            generalize pos ls no = p2 at *
            generalize cnt s p2 = B2 at *
            have bb2 : (p2 : Int) < (n : Int) := by omega
            go_wp2_with fail
            refine' wp_region_loose_tail 14 (.inl _ :: .inl _ :: .inl _ :: .inl _ :: .inl _ :: .inl _ :: .inl _ :: .inl _ :: .inl _ :: .inl _ :: .inl _ :: .inl _ :: .inl _ :: .inl _ :: []) (fun w' => Quad w' bx 0 (o, kk, y, nn) ∧ w'.cell? ⟨gy, k, none⟩ = some (.int .i64 (p1 : Int)) ∧ w'.cell? ⟨gb, p1, none⟩ = some (.int .i64 (B1 : Int)) ∧ w'.cell? ⟨gb, k, none⟩ = some (.int .i64 (Bk : Int)) ∧ w'.cell? ⟨gn, k, none⟩ = some (.int .i64 (p2 : Int)) ∧ w'.cell? ⟨gb, p2, none⟩ = some (.int .i64 (B2 : Int))) (by kernel_rfl) (by kernel_rfl) (⟨HT5.out.2.2.2.1, x1, x2, x3, x4, x5⟩) (fun _ _ h hE => ⟨h.1.below hE h.1.lt, (hE.cell (p := ⟨gy, k, none⟩) (World.block_lt_of_cell? _ _ h.2.1)).trans h.2.1, (hE.cell (p := ⟨gb, p1, none⟩) (World.block_lt_of_cell? _ _ h.2.2.1)).trans h.2.2.1, (hE.cell (p := ⟨gb, k, none⟩) (World.block_lt_of_cell? _ _ h.2.2.2.1)).trans h.2.2.2.1, (hE.cell (p := ⟨gn, k, none⟩) (World.block_lt_of_cell? _ _ h.2.2.2.2.1)).trans h.2.2.2.2.1, (hE.cell (p := ⟨gb, p2, none⟩) (World.block_lt_of_cell? _ _ h.2.2.2.2.2)).trans h.2.2.2.2.2⟩) ?hAc ?hlc ?hMc
            case' hMc => skip
            simp only [List.take_succ_cons, List.take_zero, List.drop_succ_cons, List.drop_zero]
            apply wpLoose_val rfl rfl
            case hs =>
              intro w1 hC hd Q1 hQ1
              obtain ⟨hE, hS⟩ := hC
              dsimp only [bare]
              obtain ⟨⟨r0, r1, r2, r3⟩, q0, q1, q2, q3, q4⟩ := hS; simp only [Nat.zero_add] at r0 r1 r2 r3
              clear hd hE
              try clear hS
              go_wp2
              exact Ext.refl _
            case ha => rfl
            apply wpLoose_val rfl rfl
            case hs =>
              intro w1 hC hd Q1 hQ1
              obtain ⟨hE, hS⟩ := hC
              dsimp only [bare]
              obtain ⟨⟨r0, r1, r2, r3⟩, q0, q1, q2, q3, q4⟩ := hS; simp only [Nat.zero_add] at r0 r1 r2 r3
              clear hd hE
              try clear hS
              go_wp2
              exact Ext.refl _
            case ha => rfl
            apply wpLoose_val rfl rfl
            case hs =>
              intro w1 hC hd Q1 hQ1
              obtain ⟨hE, hS⟩ := hC
              dsimp only [bare]
              obtain ⟨⟨r0, r1, r2, r3⟩, q0, q1, q2, q3, q4⟩ := hS; simp only [Nat.zero_add] at r0 r1 r2 r3
              clear hd hE
              try clear hS
              go_wp2
              exact Ext.refl _
            case ha => rfl
            apply wpLoose_val rfl rfl
            case hs =>
              intro w1 hC hd Q1 hQ1
              obtain ⟨hE, hS⟩ := hC
              dsimp only [bare]
              obtain ⟨⟨r0, r1, r2, r3⟩, q0, q1, q2, q3, q4⟩ := hS; simp only [Nat.zero_add] at r0 r1 r2 r3
              clear hd hE
              try clear hS
              go_wp2
              exact Ext.refl _
            case ha => rfl
            apply wpLoose_val rfl rfl
            case hs =>
              intro w1 hC hd Q1 hQ1
              obtain ⟨hE, hS⟩ := hC
              dsimp only [bare]
              obtain ⟨⟨r0, r1, r2, r3⟩, q0, q1, q2, q3, q4⟩ := hS; simp only [Nat.zero_add] at r0 r1 r2 r3
              clear hd hE
              try clear hS
              go_wp2
              exact Ext.refl _
            case ha => rfl
            apply wpLoose_val rfl rfl
            case hs =>
              intro w1 hC hd Q1 hQ1
              obtain ⟨hE, hS⟩ := hC
              dsimp only [bare]
              obtain ⟨⟨r0, r1, r2, r3⟩, q0, q1, q2, q3, q4⟩ := hS; simp only [Nat.zero_add] at r0 r1 r2 r3
              clear hd hE
              try clear hS
              go_wp2
              exact Ext.refl _
            case ha => rfl
            apply wpLoose_val rfl rfl
            case hs =>
              intro w1 hC hd Q1 hQ1
              obtain ⟨hE, hS⟩ := hC
              dsimp only [bare]
              obtain ⟨⟨r0, r1, r2, r3⟩, q0, q1, q2, q3, q4⟩ := hS; simp only [Nat.zero_add] at r0 r1 r2 r3
              clear hd hE
              try clear hS
              go_wp2
              exact Ext.refl _
            case ha => rfl
            apply wpLoose_val rfl rfl
            case hs =>
              intro w1 hC hd Q1 hQ1
              obtain ⟨hE, hS⟩ := hC
              dsimp only [bare]
              obtain ⟨⟨r0, r1, r2, r3⟩, q0, q1, q2, q3, q4⟩ := hS; simp only [Nat.zero_add] at r0 r1 r2 r3
              clear hd hE
              try clear hS
              go_wp2
              exact Ext.refl _
            case ha => rfl
            apply wpLoose_val rfl rfl
            case hs =>
              intro w1 hC hd Q1 hQ1
              obtain ⟨hE, hS⟩ := hC
              dsimp only [bare]
              obtain ⟨⟨r0, r1, r2, r3⟩, q0, q1, q2, q3, q4⟩ := hS; simp only [Nat.zero_add] at r0 r1 r2 r3
              clear hd hE
              try clear hS
              go_wp2
              exact Ext.refl _
            case ha => rfl
            apply wpLoose_val rfl rfl
            case hs =>
              intro w1 hC hd Q1 hQ1
              obtain ⟨hE, hS⟩ := hC
              dsimp only [bare]
              obtain ⟨⟨r0, r1, r2, r3⟩, q0, q1, q2, q3, q4⟩ := hS; simp only [Nat.zero_add] at r0 r1 r2 r3
              clear hd hE
              try clear hS
              go_wp2
              exact Ext.refl _
            case ha => rfl
            apply wpLoose_val rfl rfl
            case hs =>
              intro w1 hC hd Q1 hQ1
              obtain ⟨hE, hS⟩ := hC
              dsimp only [bare]
              obtain ⟨⟨r0, r1, r2, r3⟩, q0, q1, q2, q3, q4⟩ := hS; simp only [Nat.zero_add] at r0 r1 r2 r3
              clear hd hE
              try clear hS
              go_wp2
              exact Ext.refl _
            case ha => rfl
            apply wpLoose_val rfl rfl
            case hs =>
              intro w1 hC hd Q1 hQ1
              obtain ⟨hE, hS⟩ := hC
              dsimp only [bare]
              obtain ⟨⟨r0, r1, r2, r3⟩, q0, q1, q2, q3, q4⟩ := hS; simp only [Nat.zero_add] at r0 r1 r2 r3
              clear hd hE
              try clear hS
              go_wp2
              exact Ext.refl _
            case ha => rfl
            apply wpLoose_val rfl rfl
            case hs =>
              intro w1 hC hd Q1 hQ1
              obtain ⟨hE, hS⟩ := hC
              dsimp only [bare]
              obtain ⟨⟨r0, r1, r2, r3⟩, q0, q1, q2, q3, q4⟩ := hS; simp only [Nat.zero_add] at r0 r1 r2 r3
              clear hd hE
              try clear hS
              go_wp2
              exact Ext.refl _
            case ha => rfl
            apply wpLoose_val rfl rfl
            case hs =>
              intro w1 hC hd Q1 hQ1
              obtain ⟨hE, hS⟩ := hC
              dsimp only [bare]
              obtain ⟨⟨r0, r1, r2, r3⟩, q0, q1, q2, q3, q4⟩ := hS; simp only [Nat.zero_add] at r0 r1 r2 r3
              clear hd hE
              try clear hS
              go_wp2
              exact Ext.refl _
            case ha => rfl
            refine wpLoose_nil ?_
            intro wc hEc hSc hFc
            have HT6 : Hid (StL ls s n gs gy gn gb b0 bx w wc ov l (o, kk, y, nn)) := StL.ext HT5.out.drew hEc
            have X6 : Hid (wc.cell? ⟨gy, k, none⟩ = some (.int .i64 (p1 : Int)) ∧ wc.cell? ⟨gb, p1, none⟩ = some (.int .i64 (B1 : Int)) ∧ wc.cell? ⟨gb, k, none⟩ = some (.int .i64 (Bk : Int)) ∧ wc.cell? ⟨gn, k, none⟩ = some (.int .i64 (p2 : Int)) ∧ wc.cell? ⟨gb, p2, none⟩ = some (.int .i64 (B2 : Int))) := hSc.2
            clear hFc hSc hEc x1 x2 x3 x4 x5 HT5
            obtain ⟨v0, v1, v2, v3⟩ := HT6.out.2.2.2.1
            simp only [Nat.zero_add] at v0 v1 v2 v3
            have fz := HT6.out.2.2.2.2.1 2
            go_upto_region 20 with fail
            have HT7 : Hid (StL ls s n gs gy gn gb b0 bx w (wc.setCell ⟨bx, 2, none⟩ (.int .i64 ((B1 : Int) - (Bk : Int) - 1))) ov l (o, kk, (B1 : Int) - (Bk : Int) - 1, nn)) := HT6.out.put 2 _ rfl
            have X7 : Hid ((wc.setCell ⟨bx, 2, none⟩ (.int .i64 ((B1 : Int) - (Bk : Int) - 1))).cell? ⟨gy, k, none⟩ = some (.int .i64 (p1 : Int)) ∧ (wc.setCell ⟨bx, 2, none⟩ (.int .i64 ((B1 : Int) - (Bk : Int) - 1))).cell? ⟨gb, p1, none⟩ = some (.int .i64 (B1 : Int)) ∧ (wc.setCell ⟨bx, 2, none⟩ (.int .i64 ((B1 : Int) - (Bk : Int) - 1))).cell? ⟨gb, k, none⟩ = some (.int .i64 (Bk : Int)) ∧ (wc.setCell ⟨bx, 2, none⟩ (.int .i64 ((B1 : Int) - (Bk : Int) - 1))).cell? ⟨gn, k, none⟩ = some (.int .i64 (p2 : Int)) ∧ (wc.setCell ⟨bx, 2, none⟩ (.int .i64 ((B1 : Int) - (Bk : Int) - 1))).cell? ⟨gb, p2, none⟩ = some (.int .i64 (B2 : Int))) := by
              obtain ⟨g5, g6, g7, g8⟩ := HT6.out.1.2.2.2.2.1
              have hbx := HT6.out.2.2.2.2.2.2.1
              obtain ⟨e1, e2, e3, e4, e5⟩ := X6.out
              exact ⟨(set_far (fun e => by injection e with e; omega)).trans e1, (set_far (fun e => by injection e with e; omega)).trans e2, (set_far (fun e => by injection e with e; omega)).trans e3, (set_far (fun e => by injection e with e; omega)).trans e4, (set_far (fun e => by injection e with e; omega)).trans e5⟩
            clear v0 v1 v2 v3 fz HT6 X6
            generalize wc.setCell ⟨bx, 2, none⟩ (.int .i64 ((B1 : Int) - (Bk : Int) - 1)) = W7 at *
            obtain ⟨x1, x2, x3, x4, x5⟩ := X7.out
            refine' wp_region_loose_tail 14 (.inl _ :: .inl _ :: .inl _ :: .inl _ :: .inl _ :: .inl _ :: .inl _ :: .inl _ :: .inl _ :: .inl _ :: .inl _ :: .inl _ :: .inl _ :: .inl _ :: []) (fun w' => Quad w' bx 0 (o, kk, (B1 : Int) - (Bk : Int) - 1, nn) ∧ w'.cell? ⟨gy, k, none⟩ = some (.int .i64 (p1 : Int)) ∧ w'.cell? ⟨gb, p1, none⟩ = some (.int .i64 (B1 : Int)) ∧ w'.cell? ⟨gb, k, none⟩ = some (.int .i64 (Bk : Int)) ∧ w'.cell? ⟨gn, k, none⟩ = some (.int .i64 (p2 : Int)) ∧ w'.cell? ⟨gb, p2, none⟩ = some (.int .i64 (B2 : Int))) (by kernel_rfl) (by kernel_rfl) (⟨HT7.out.2.2.2.1, x1, x2, x3, x4, x5⟩) (fun _ _ h hE => ⟨h.1.below hE h.1.lt, (hE.cell (p := ⟨gy, k, none⟩) (World.block_lt_of_cell? _ _ h.2.1)).trans h.2.1, (hE.cell (p := ⟨gb, p1, none⟩) (World.block_lt_of_cell? _ _ h.2.2.1)).trans h.2.2.1, (hE.cell (p := ⟨gb, k, none⟩) (World.block_lt_of_cell? _ _ h.2.2.2.1)).trans h.2.2.2.1, (hE.cell (p := ⟨gn, k, none⟩) (World.block_lt_of_cell? _ _ h.2.2.2.2.1)).trans h.2.2.2.2.1, (hE.cell (p := ⟨gb, p2, none⟩) (World.block_lt_of_cell? _ _ h.2.2.2.2.2)).trans h.2.2.2.2.2⟩) ?hAd ?hld ?hMd
            case' hMd => skip
            simp only [List.take_succ_cons, List.take_zero, List.drop_succ_cons, List.drop_zero]
            apply wpLoose_val rfl rfl
            case hs =>
              intro w1 hC hd Q1 hQ1
              obtain ⟨hE, hS⟩ := hC
              dsimp only [bare]
              obtain ⟨⟨r0, r1, r2, r3⟩, q0, q1, q2, q3, q4⟩ := hS; simp only [Nat.zero_add] at r0 r1 r2 r3
              clear hd hE
              try clear hS
              go_wp2
              exact Ext.refl _
            case ha => rfl
            apply wpLoose_val rfl rfl
            case hs =>
              intro w1 hC hd Q1 hQ1
              obtain ⟨hE, hS⟩ := hC
              dsimp only [bare]
              obtain ⟨⟨r0, r1, r2, r3⟩, q0, q1, q2, q3, q4⟩ := hS; simp only [Nat.zero_add] at r0 r1 r2 r3
              clear hd hE
              try clear hS
              go_wp2
              exact Ext.refl _
            case ha => rfl
            apply wpLoose_val rfl rfl
            case hs =>
              intro w1 hC hd Q1 hQ1
              obtain ⟨hE, hS⟩ := hC
              dsimp only [bare]
              obtain ⟨⟨r0, r1, r2, r3⟩, q0, q1, q2, q3, q4⟩ := hS; simp only [Nat.zero_add] at r0 r1 r2 r3
              clear hd hE
              try clear hS
              go_wp2
              exact Ext.refl _
            case ha => rfl
            apply wpLoose_val rfl rfl
            case hs =>
              intro w1 hC hd Q1 hQ1
              obtain ⟨hE, hS⟩ := hC
              dsimp only [bare]
              obtain ⟨⟨r0, r1, r2, r3⟩, q0, q1, q2, q3, q4⟩ := hS; simp only [Nat.zero_add] at r0 r1 r2 r3
              clear hd hE
              try clear hS
              go_wp2
              exact Ext.refl _
            case ha => rfl
            apply wpLoose_val rfl rfl
            case hs =>
              intro w1 hC hd Q1 hQ1
              obtain ⟨hE, hS⟩ := hC
              dsimp only [bare]
              obtain ⟨⟨r0, r1, r2, r3⟩, q0, q1, q2, q3, q4⟩ := hS; simp only [Nat.zero_add] at r0 r1 r2 r3
              clear hd hE
              try clear hS
              go_wp2
              exact Ext.refl _
            case ha => rfl
            apply wpLoose_val rfl rfl
            case hs =>
              intro w1 hC hd Q1 hQ1
              obtain ⟨hE, hS⟩ := hC
              dsimp only [bare]
              obtain ⟨⟨r0, r1, r2, r3⟩, q0, q1, q2, q3, q4⟩ := hS; simp only [Nat.zero_add] at r0 r1 r2 r3
              clear hd hE
              try clear hS
              go_wp2
              exact Ext.refl _
            case ha => rfl
            apply wpLoose_val rfl rfl
            case hs =>
              intro w1 hC hd Q1 hQ1
              obtain ⟨hE, hS⟩ := hC
              dsimp only [bare]
              obtain ⟨⟨r0, r1, r2, r3⟩, q0, q1, q2, q3, q4⟩ := hS; simp only [Nat.zero_add] at r0 r1 r2 r3
              clear hd hE
              try clear hS
              go_wp2
              exact Ext.refl _
            case ha => rfl
            apply wpLoose_val rfl rfl
            case hs =>
              intro w1 hC hd Q1 hQ1
              obtain ⟨hE, hS⟩ := hC
              dsimp only [bare]
              obtain ⟨⟨r0, r1, r2, r3⟩, q0, q1, q2, q3, q4⟩ := hS; simp only [Nat.zero_add] at r0 r1 r2 r3
              clear hd hE
              try clear hS
              go_wp2
              exact Ext.refl _
            case ha => rfl
            apply wpLoose_val rfl rfl
            case hs =>
              intro w1 hC hd Q1 hQ1
              obtain ⟨hE, hS⟩ := hC
              dsimp only [bare]
              obtain ⟨⟨r0, r1, r2, r3⟩, q0, q1, q2, q3, q4⟩ := hS; simp only [Nat.zero_add] at r0 r1 r2 r3
              clear hd hE
              try clear hS
              go_wp2
              exact Ext.refl _
            case ha => rfl
            apply wpLoose_val rfl rfl
            case hs =>
              intro w1 hC hd Q1 hQ1
              obtain ⟨hE, hS⟩ := hC
              dsimp only [bare]
              obtain ⟨⟨r0, r1, r2, r3⟩, q0, q1, q2, q3, q4⟩ := hS; simp only [Nat.zero_add] at r0 r1 r2 r3
              clear hd hE
              try clear hS
              go_wp2
              exact Ext.refl _
            case ha => rfl
            apply wpLoose_val rfl rfl
            case hs =>
              intro w1 hC hd Q1 hQ1
              obtain ⟨hE, hS⟩ := hC
              dsimp only [bare]
              obtain ⟨⟨r0, r1, r2, r3⟩, q0, q1, q2, q3, q4⟩ := hS; simp only [Nat.zero_add] at r0 r1 r2 r3
              clear hd hE
              try clear hS
              go_wp2
              exact Ext.refl _
            case ha => rfl
            apply wpLoose_val rfl rfl
            case hs =>
              intro w1 hC hd Q1 hQ1
              obtain ⟨hE, hS⟩ := hC
              dsimp only [bare]
              obtain ⟨⟨r0, r1, r2, r3⟩, q0, q1, q2, q3, q4⟩ := hS; simp only [Nat.zero_add] at r0 r1 r2 r3
              clear hd hE
              try clear hS
              go_wp2
              exact Ext.refl _
            case ha => rfl
            apply wpLoose_val rfl rfl
            case hs =>
              intro w1 hC hd Q1 hQ1
              obtain ⟨hE, hS⟩ := hC
              dsimp only [bare]
              obtain ⟨⟨r0, r1, r2, r3⟩, q0, q1, q2, q3, q4⟩ := hS; simp only [Nat.zero_add] at r0 r1 r2 r3
              clear hd hE
              try clear hS
              go_wp2
              exact Ext.refl _
            case ha => rfl
            apply wpLoose_val rfl rfl
            case hs =>
              intro w1 hC hd Q1 hQ1
              obtain ⟨hE, hS⟩ := hC
              dsimp only [bare]
              obtain ⟨⟨r0, r1, r2, r3⟩, q0, q1, q2, q3, q4⟩ := hS; simp only [Nat.zero_add] at r0 r1 r2 r3
              clear hd hE
              try clear hS
              go_wp2
              exact Ext.refl _
            case ha => rfl
            refine wpLoose_nil ?_
            intro wd hEd hSd hFd
            have HT8 : Hid (StL ls s n gs gy gn gb b0 bx w wd ov l (o, kk, (B1 : Int) - (Bk : Int) - 1, nn)) := StL.ext HT7.out.drew hEd
            clear hFd hSd hEd x1 x2 x3 x4 x5 HT7 X7
            obtain ⟨v0, v1, v2, v3⟩ := HT8.out.2.2.2.1
            simp only [Nat.zero_add] at v0 v1 v2 v3
            have fz := HT8.out.2.2.2.2.1 3
            go_upto_region 21 with fail
            have HT : Hid (StL ls s n gs gy gn gb b0 bx w (wd.setCell ⟨bx, 3, none⟩ (.int .i64 ((B2 : Int) - (Bk : Int) - 1))) ov l (o, kk, (B1 : Int) - (Bk : Int) - 1, (B2 : Int) - (Bk : Int) - 1)) := HT8.out.put 3 _ rfl
            clear v0 v1 v2 v3 fz HT8
            generalize wd.setCell ⟨bx, 3, none⟩ (.int .i64 ((B2 : Int) - (Bk : Int) - 1)) = W9 at *
            obtain ⟨v0, v1, v2, v3⟩ := HT.out.2.2.2.1
            simp only [Nat.zero_add] at v0 v1 v2 v3
            have hown : W9.ownsRow b0 36 4 ov l.length (flatI l) := HT.out.2.1
            have hz4 : b0 ≤ W9.heap.size := HT.out.1.2.2.2.2.2.1
            go_wp2_with (at_builtin; refine wpList_append_own _ rfl _ _ 39 rfl b0 36 i0 (.agg #[.int .i64 0, .int .i64 0, .int .i64 0, .int .i64 0]) 4 32 Tryd.underlying39 hi hz0 hz1 hz2 rfl (by decide) _ l.length _ rfl (hown.alloc _) ⟨W9.heap.size, 0, none⟩ 1 1 (ints4 o kk ((B1 : Int) - (Bk : Int) - 1) ((B2 : Int) - (Bk : Int) - 1)) rfl rfl ?c1 ?c2 ?c3 ?c4 ?c5 ?_)
            case c1 =>
              intro j u hu
              have := (CellsAt.new W9 (ints4 o kk ((B1 : Int) - (Bk : Int) - 1) ((B2 : Int) - (Bk : Int) - 1)) 36).2 j u hu
              first
                | (rw [Addr.add_lit, Nat.zero_add]; exact this)
                | exact hu
                | simpa using hu
            case c2 => intro u hu; simp [ints4] at hu; rcases hu with rfl | rfl | rfl | rfl <;> rfl
            case c3 => unfold maxLen; omega
            case c4 => omega
            case c5 => first | omega | (simp; omega)
            intro v' w8 hown8 hgrow8 _
            have HX8 : Hid (LayR ls s n gs gy gn gb b0 w w8 ∧ Own4 w8 b0 v' (l ++ ws) ∧ Own4 w8 w.heap.size (.slice (some ⟨w.heap.size, 0, none⟩) 0 0) []) := by
              have hxl : w.heap.size < W9.heap.size := (HT.out.2.2.1.lt w.heap.size rfl).2
              have hxn : some w.heap.size ≠ ov.ownBlock := fun e => by
                have h1 : b0 ≤ w.heap.size := own_from hown e.symm
                have h2 := HLT.out
                omega
              refine ⟨(HT.out.1.ext (Ext.one _ _)).app hgrow8 (fun x hx => own_from hown hx), ?_, own_block (HT.out.2.2.1.alloc _) (hgrow8.block w.heap.size (by simp; omega) hxn)⟩
              rw [HWW.out]
              have e : flatI l ++ (ints4 o kk ((B1 : Int) - (Bk : Int) - 1) ((B2 : Int) - (Bk : Int) - 1)) = flatI (l ++ [(o, kk, ((B1 : Int) - (Bk : Int) - 1), ((B2 : Int) - (Bk : Int) - 1))]) := by simp [flatI]
              rw [e] at hown8
              unfold Own4
              rw [List.length_append]
              exact hown8
            clear hgrow8 hown8 hown
            go_wp2
            go_roundw
            case rel => exact ⟨k + 1, by go_num, by omega, HX8.out.1, by rw [HN.out]; exact HX8.out.2.1, HX8.out.2.2⟩
            case measure => simp [intOf]; omega
            case hAd => kernel_rfl
            case hld => exact ⟨trivial, trivial, trivial, trivial, trivial, trivial, trivial, trivial, trivial, trivial, trivial, trivial, trivial, trivial, trivial⟩
            case hAc => kernel_rfl
            case hlc => exact ⟨trivial, trivial, trivial, trivial, trivial, trivial, trivial, trivial, trivial, trivial, trivial, trivial, trivial, trivial, trivial⟩
      · obtain ⟨hw3, on1, on2⟩ := words_three HA.out.2.2.1 HA.out.2.2.2 HKL.out h3 HP.out
        rw [h3] at xs
        obtain ⟨v0, v1, v2, v3⟩ := HT5.out.2.2.2.1
        simp only [Nat.zero_add] at v0 v1 v2 v3
        have fz := HT5.out.2.2.2.2.1 3
        go_upto_region 15 with fail
        clear v0 v1 v2 v3 fz
        have HT6 : Hid (StL ls s n gs gy gn gb b0 bx w (W5.setCell ⟨bx, 3, none⟩ (.int .i64 1)) ov l (o, kk, y, 1)) := HT5.out.put 3 1 rfl
        clear HT5 xs
        generalize W5.setCell ⟨bx, 3, none⟩ (.int .i64 1) = W6 at *
        go_wp2_with fail
        have HON : Hid (onP ls k yes) := on1
        have x1 := (HT6.out.1.2.1.2 k hlt).1
        dsimp only at x1
        rw [← HP.out] at x1
        simp only at x1
        rw [wayV_on HA.out.2.2.1 HON.out] at x1
        have hb1 : pos ls yes < n := by have := HA.out.2.1; have := HON.out.2; omega
        have x2 := (HT6.out.1.2.2.2.1.2 _ hb1).1
        have x3 := (HT6.out.1.2.2.2.1.2 _ hlt).1
        dsimp only at x2 x3
        have u1 := HCB.out _ hb1
        have u3 := HCB.out _ hlt
        have HON2 : Hid (onP ls k no) := on2
        have x4 := (HT6.out.1.2.2.1.2 k hlt).1
        dsimp only at x4
        rw [← HP.out] at x4
        simp only at x4
        rw [wayV_on HA.out.2.2.1 HON2.out] at x4
        have hb2 : pos ls no < n := by have := HA.out.2.1; have := HON2.out.2; omega
        have x5 := (HT6.out.1.2.2.2.1.2 _ hb2).1
        dsimp only at x5
        have u2 := HCB.out _ hb2
        have HWW0 : Hid (ws = [(o, kk, y, 1), (7, (cnt s (pos ls yes) : Int) - (cnt s k : Int) - 2, 0, 0), (7, (cnt s (pos ls no) : Int) - (cnt s k : Int) - 3, 0, 0)]) := HWS.out.trans hw3
        have HWW : Hid (ws = [(o, kk, y, 1), (7, (cnt s (pos ls yes) : Int) - (cnt s k : Int) - 2, 0, 0), (7, (cnt s (pos ls no) : Int) - (cnt s k : Int) - 3, 0, 0)]) := HWW0.out
        clear HWW0 hw3 on1 on2 HON HON2
        generalize pos ls yes = p1 at *
        generalize cnt s p1 = B1 at *
        generalize cnt s k = Bk at *
        have bb1 : (p1 : Int) < (n : Int) := by omega
        generalize pos ls no = p2 at *
        generalize cnt s p2 = B2 at *
        have bb2 : (p2 : Int) < (n : Int) := by omega
        refine' wp_region_loose_tail 31 (.inl _ :: .inl _ :: .inl _ :: .inl _ :: .inl _ :: .inl _ :: .inl _ :: .inl _ :: .inl _ :: .inl _ :: .inl _ :: .inl _ :: .inl _ :: .inl _ :: .inl _ :: .inl _ :: .inl _ :: .inl _ :: .inl _ :: .inl _ :: .inl _ :: .inl _ :: .inl _ :: .inl _ :: .inl _ :: .inl _ :: .inl _ :: .inl _ :: .inl _ :: .inl _ :: .inr (fun v w' => ∃ g, v = .slice (some ⟨g, 0, none⟩) 3 3 ∧ CellsAt w' g (ints4 o kk y 1 ++ ints4 7 ((B1 : Int) - (Bk : Int) - 2) 0 0 ++ ints4 7 ((B2 : Int) - (Bk : Int) - 3) 0 0)) :: []) (fun w' => Quad w' bx 0 (o, kk, y, 1) ∧ w'.cell? ⟨gy, k, none⟩ = some (.int .i64 (p1 : Int)) ∧ w'.cell? ⟨gb, p1, none⟩ = some (.int .i64 (B1 : Int)) ∧ w'.cell? ⟨gb, k, none⟩ = some (.int .i64 (Bk : Int)) ∧ w'.cell? ⟨gn, k, none⟩ = some (.int .i64 (p2 : Int)) ∧ w'.cell? ⟨gb, p2, none⟩ = some (.int .i64 (B2 : Int))) (by kernel_rfl) (by kernel_rfl) (⟨HT6.out.2.2.2.1, x1, x2, x3, x4, x5⟩) (fun _ _ h hE => ⟨h.1.below hE h.1.lt, (hE.cell (p := ⟨gy, k, none⟩) (World.block_lt_of_cell? _ _ h.2.1)).trans h.2.1, (hE.cell (p := ⟨gb, p1, none⟩) (World.block_lt_of_cell? _ _ h.2.2.1)).trans h.2.2.1, (hE.cell (p := ⟨gb, k, none⟩) (World.block_lt_of_cell? _ _ h.2.2.2.1)).trans h.2.2.2.1, (hE.cell (p := ⟨gn, k, none⟩) (World.block_lt_of_cell? _ _ h.2.2.2.2.1)).trans h.2.2.2.2.1, (hE.cell (p := ⟨gb, p2, none⟩) (World.block_lt_of_cell? _ _ h.2.2.2.2.2)).trans h.2.2.2.2.2⟩) ?hAa ?hla ?hMa
        case' hMa => skip
        simp only [List.take_succ_cons, List.take_zero, List.drop_succ_cons, List.drop_zero]
        apply wpLoose_val rfl rfl
        case hs =>
          intro w1 hC hd Q1 hQ1
          obtain ⟨hE, hS⟩ := hC
          dsimp only [bare]
          obtain ⟨⟨r0, r1, r2, r3⟩, q0, q1, q2, q3, q4⟩ := hS; simp only [Nat.zero_add] at r0 r1 r2 r3
          clear hd hE
          try clear hS
          go_wp2
          exact Ext.refl _
        case ha => rfl
        apply wpLoose_val rfl rfl
        case hs =>
          intro w1 hC hd Q1 hQ1
          obtain ⟨hE, hS⟩ := hC
          dsimp only [bare]
          obtain ⟨⟨r0, r1, r2, r3⟩, q0, q1, q2, q3, q4⟩ := hS; simp only [Nat.zero_add] at r0 r1 r2 r3
          clear hd hE
          try clear hS
          go_wp2
          exact Ext.refl _
        case ha => rfl
        apply wpLoose_val rfl rfl
        case hs =>
          intro w1 hC hd Q1 hQ1
          obtain ⟨hE, hS⟩ := hC
          dsimp only [bare]
          obtain ⟨⟨r0, r1, r2, r3⟩, q0, q1, q2, q3, q4⟩ := hS; simp only [Nat.zero_add] at r0 r1 r2 r3
          clear hd hE
          try clear hS
          go_wp2
          exact Ext.refl _
        case ha => rfl
        apply wpLoose_val rfl rfl
        case hs =>
          intro w1 hC hd Q1 hQ1
          obtain ⟨hE, hS⟩ := hC
          dsimp only [bare]
          obtain ⟨⟨r0, r1, r2, r3⟩, q0, q1, q2, q3, q4⟩ := hS; simp only [Nat.zero_add] at r0 r1 r2 r3
          clear hd hE
          try clear hS
          go_wp2
          exact Ext.refl _
        case ha => rfl
        apply wpLoose_val rfl rfl
        case hs =>
          intro w1 hC hd Q1 hQ1
          obtain ⟨hE, hS⟩ := hC
          dsimp only [bare]
          obtain ⟨⟨r0, r1, r2, r3⟩, q0, q1, q2, q3, q4⟩ := hS; simp only [Nat.zero_add] at r0 r1 r2 r3
          clear hd hE
          try clear hS
          go_wp2
          exact Ext.refl _
        case ha => rfl
        apply wpLoose_val rfl rfl
        case hs =>
          intro w1 hC hd Q1 hQ1
          obtain ⟨hE, hS⟩ := hC
          dsimp only [bare]
          obtain ⟨⟨r0, r1, r2, r3⟩, q0, q1, q2, q3, q4⟩ := hS; simp only [Nat.zero_add] at r0 r1 r2 r3
          clear hd hE
          try clear hS
          go_wp2
          exact Ext.refl _
        case ha => rfl
        apply wpLoose_val rfl rfl
        case hs =>
          intro w1 hC hd Q1 hQ1
          obtain ⟨hE, hS⟩ := hC
          dsimp only [bare]
          obtain ⟨⟨r0, r1, r2, r3⟩, q0, q1, q2, q3, q4⟩ := hS; simp only [Nat.zero_add] at r0 r1 r2 r3
          clear hd hE
          try clear hS
          go_wp2
          exact Ext.refl _
        case ha => rfl
        apply wpLoose_val rfl rfl
        case hs =>
          intro w1 hC hd Q1 hQ1
          obtain ⟨hE, hS⟩ := hC
          dsimp only [bare]
          obtain ⟨⟨r0, r1, r2, r3⟩, q0, q1, q2, q3, q4⟩ := hS; simp only [Nat.zero_add] at r0 r1 r2 r3
          clear hd hE
          try clear hS
          go_wp2
          exact Ext.refl _
        case ha => rfl
        apply wpLoose_val rfl rfl
        case hs =>
          intro w1 hC hd Q1 hQ1
          obtain ⟨hE, hS⟩ := hC
          dsimp only [bare]
          obtain ⟨⟨r0, r1, r2, r3⟩, q0, q1, q2, q3, q4⟩ := hS; simp only [Nat.zero_add] at r0 r1 r2 r3
          clear hd hE
          try clear hS
          go_wp2
          exact Ext.refl _
        case ha => rfl
        apply wpLoose_val rfl rfl
        case hs =>
          intro w1 hC hd Q1 hQ1
          obtain ⟨hE, hS⟩ := hC
          dsimp only [bare]
          obtain ⟨⟨r0, r1, r2, r3⟩, q0, q1, q2, q3, q4⟩ := hS; simp only [Nat.zero_add] at r0 r1 r2 r3
          clear hd hE
          try clear hS
          go_wp2
          exact Ext.refl _
        case ha => rfl
        apply wpLoose_val rfl rfl
        case hs =>
          intro w1 hC hd Q1 hQ1
          obtain ⟨hE, hS⟩ := hC
          dsimp only [bare]
          obtain ⟨⟨r0, r1, r2, r3⟩, q0, q1, q2, q3, q4⟩ := hS; simp only [Nat.zero_add] at r0 r1 r2 r3
          clear hd hE
          try clear hS
          go_wp2
          exact Ext.refl _
        case ha => rfl
        apply wpLoose_val rfl rfl
        case hs =>
          intro w1 hC hd Q1 hQ1
          obtain ⟨hE, hS⟩ := hC
          dsimp only [bare]
          obtain ⟨⟨r0, r1, r2, r3⟩, q0, q1, q2, q3, q4⟩ := hS; simp only [Nat.zero_add] at r0 r1 r2 r3
          clear hd hE
          try clear hS
          go_wp2
          exact Ext.refl _
        case ha => rfl
        apply wpLoose_val rfl rfl
        case hs =>
          intro w1 hC hd Q1 hQ1
          obtain ⟨hE, hS⟩ := hC
          dsimp only [bare]
          obtain ⟨⟨r0, r1, r2, r3⟩, q0, q1, q2, q3, q4⟩ := hS; simp only [Nat.zero_add] at r0 r1 r2 r3
          clear hd hE
          try clear hS
          go_wp2
          exact Ext.refl _
        case ha => rfl
        apply wpLoose_val rfl rfl
        case hs =>
          intro w1 hC hd Q1 hQ1
          obtain ⟨hE, hS⟩ := hC
          dsimp only [bare]
          obtain ⟨⟨r0, r1, r2, r3⟩, q0, q1, q2, q3, q4⟩ := hS; simp only [Nat.zero_add] at r0 r1 r2 r3
          clear hd hE
          try clear hS
          go_wp2
          exact Ext.refl _
        case ha => rfl
        apply wpLoose_val rfl rfl
        case hs =>
          intro w1 hC hd Q1 hQ1
          obtain ⟨hE, hS⟩ := hC
          dsimp only [bare]
          obtain ⟨⟨r0, r1, r2, r3⟩, q0, q1, q2, q3, q4⟩ := hS; simp only [Nat.zero_add] at r0 r1 r2 r3
          clear hd hE
          try clear hS
          go_wp2
          exact Ext.refl _
        case ha => rfl
        apply wpLoose_val rfl rfl
        case hs =>
          intro w1 hC hd Q1 hQ1
          obtain ⟨hE, hS⟩ := hC
          dsimp only [bare]
          obtain ⟨⟨r0, r1, r2, r3⟩, q0, q1, q2, q3, q4⟩ := hS; simp only [Nat.zero_add] at r0 r1 r2 r3
          clear hd hE
          try clear hS
          go_wp2
          exact Ext.refl _
        case ha => rfl
        apply wpLoose_val rfl rfl
        case hs =>
          intro w1 hC hd Q1 hQ1
          obtain ⟨hE, hS⟩ := hC
          dsimp only [bare]
          obtain ⟨⟨r0, r1, r2, r3⟩, q0, q1, q2, q3, q4⟩ := hS; simp only [Nat.zero_add] at r0 r1 r2 r3
          clear hd hE
          try clear hS
          go_wp2
          exact Ext.refl _
        case ha => rfl
        apply wpLoose_val rfl rfl
        case hs =>
          intro w1 hC hd Q1 hQ1
          obtain ⟨hE, hS⟩ := hC
          dsimp only [bare]
          obtain ⟨⟨r0, r1, r2, r3⟩, q0, q1, q2, q3, q4⟩ := hS; simp only [Nat.zero_add] at r0 r1 r2 r3
          clear hd hE
          try clear hS
          go_wp2
          exact Ext.refl _
        case ha => rfl
        apply wpLoose_val rfl rfl
        case hs =>
          intro w1 hC hd Q1 hQ1
          obtain ⟨hE, hS⟩ := hC
          dsimp only [bare]
          obtain ⟨⟨r0, r1, r2, r3⟩, q0, q1, q2, q3, q4⟩ := hS; simp only [Nat.zero_add] at r0 r1 r2 r3
          clear hd hE
          try clear hS
          go_wp2
          exact Ext.refl _
        case ha => rfl
        apply wpLoose_val rfl rfl
        case hs =>
          intro w1 hC hd Q1 hQ1
          obtain ⟨hE, hS⟩ := hC
          dsimp only [bare]
          obtain ⟨⟨r0, r1, r2, r3⟩, q0, q1, q2, q3, q4⟩ := hS; simp only [Nat.zero_add] at r0 r1 r2 r3
          clear hd hE
          try clear hS
          go_wp2
          exact Ext.refl _
        case ha => rfl
        apply wpLoose_val rfl rfl
        case hs =>
          intro w1 hC hd Q1 hQ1
          obtain ⟨hE, hS⟩ := hC
          dsimp only [bare]
          obtain ⟨⟨r0, r1, r2, r3⟩, q0, q1, q2, q3, q4⟩ := hS; simp only [Nat.zero_add] at r0 r1 r2 r3
          clear hd hE
          try clear hS
          go_wp2
          exact Ext.refl _
        case ha => rfl
        apply wpLoose_val rfl rfl
        case hs =>
          intro w1 hC hd Q1 hQ1
          obtain ⟨hE, hS⟩ := hC
          dsimp only [bare]
          obtain ⟨⟨r0, r1, r2, r3⟩, q0, q1, q2, q3, q4⟩ := hS; simp only [Nat.zero_add] at r0 r1 r2 r3
          clear hd hE
          try clear hS
          go_wp2
          exact Ext.refl _
        case ha => rfl
        apply wpLoose_val rfl rfl
        case hs =>
          intro w1 hC hd Q1 hQ1
          obtain ⟨hE, hS⟩ := hC
          dsimp only [bare]
          obtain ⟨⟨r0, r1, r2, r3⟩, q0, q1, q2, q3, q4⟩ := hS; simp only [Nat.zero_add] at r0 r1 r2 r3
          clear hd hE
          try clear hS
          go_wp2
          exact Ext.refl _
        case ha => rfl
        apply wpLoose_val rfl rfl
        case hs =>
          intro w1 hC hd Q1 hQ1
          obtain ⟨hE, hS⟩ := hC
          dsimp only [bare]
          obtain ⟨⟨r0, r1, r2, r3⟩, q0, q1, q2, q3, q4⟩ := hS; simp only [Nat.zero_add] at r0 r1 r2 r3
          clear hd hE
          try clear hS
          go_wp2
          exact Ext.refl _
        case ha => rfl
        apply wpLoose_val rfl rfl
        case hs =>
          intro w1 hC hd Q1 hQ1
          obtain ⟨hE, hS⟩ := hC
          dsimp only [bare]
          obtain ⟨⟨r0, r1, r2, r3⟩, q0, q1, q2, q3, q4⟩ := hS; simp only [Nat.zero_add] at r0 r1 r2 r3
          clear hd hE
          try clear hS
          go_wp2
          exact Ext.refl _
        case ha => rfl
        apply wpLoose_val rfl rfl
        case hs =>
          intro w1 hC hd Q1 hQ1
          obtain ⟨hE, hS⟩ := hC
          dsimp only [bare]
          obtain ⟨⟨r0, r1, r2, r3⟩, q0, q1, q2, q3, q4⟩ := hS; simp only [Nat.zero_add] at r0 r1 r2 r3
          clear hd hE
          try clear hS
          go_wp2
          exact Ext.refl _
        case ha => rfl
        apply wpLoose_val rfl rfl
        case hs =>
          intro w1 hC hd Q1 hQ1
          obtain ⟨hE, hS⟩ := hC
          dsimp only [bare]
          obtain ⟨⟨r0, r1, r2, r3⟩, q0, q1, q2, q3, q4⟩ := hS; simp only [Nat.zero_add] at r0 r1 r2 r3
          clear hd hE
          try clear hS
          go_wp2
          exact Ext.refl _
        case ha => rfl
        apply wpLoose_val rfl rfl
        case hs =>
          intro w1 hC hd Q1 hQ1
          obtain ⟨hE, hS⟩ := hC
          dsimp only [bare]
          obtain ⟨⟨r0, r1, r2, r3⟩, q0, q1, q2, q3, q4⟩ := hS; simp only [Nat.zero_add] at r0 r1 r2 r3
          clear hd hE
          try clear hS
          go_wp2
          exact Ext.refl _
        case ha => rfl
        apply wpLoose_val rfl rfl
        case hs =>
          intro w1 hC hd Q1 hQ1
          obtain ⟨hE, hS⟩ := hC
          dsimp only [bare]
          obtain ⟨⟨r0, r1, r2, r3⟩, q0, q1, q2, q3, q4⟩ := hS; simp only [Nat.zero_add] at r0 r1 r2 r3
          clear hd hE
          try clear hS
          go_wp2
          exact Ext.refl _
        case ha => rfl
        apply wpLoose_val rfl rfl
        case hs =>
          intro w1 hC hd Q1 hQ1
          obtain ⟨hE, hS⟩ := hC
          dsimp only [bare]
          obtain ⟨⟨r0, r1, r2, r3⟩, q0, q1, q2, q3, q4⟩ := hS; simp only [Nat.zero_add] at r0 r1 r2 r3
          clear hd hE
          try clear hS
          go_wp2
          exact Ext.refl _
        case ha => rfl
        refine wpLoose_rel rfl rfl ?_ (fun va_30 => ?_)
        · intro w1 hC hd Q1 hQ1
          obtain ⟨hE, hS⟩ := hC
          dsimp only [bare]
          clear hd hS hE
          go_wp2
          exact hQ1 _ _ ((Below.refl _ _).alloc (Nat.le_refl _) _) ⟨_, rfl, CellsAt.new _ (ints4 o kk y 1 ++ ints4 7 ((B1 : Int) - (Bk : Int) - 2) 0 0 ++ ints4 7 ((B2 : Int) - (Bk : Int) - 3) 0 0) _⟩
        refine wpLoose_nil ?_
        intro wa hEa hSa hFa
        obtain ⟨gq, rfl, hcq⟩ := hFa 30 _ rfl (by decide) (by simp [Act.put])
        have HT : Hid (StL ls s n gs gy gn gb b0 bx w wa ov l (o, kk, y, 1)) := StL.ext HT6.out.drew hEa
        clear hFa hSa hEa x1 x2 x3 x4 x5 HT6
        simp only [Act.put]
        have hown : wa.ownsRow b0 36 4 ov l.length (flatI l) := HT.out.2.1
        have hz4 : b0 ≤ wa.heap.size := HT.out.1.2.2.2.2.2.1
        go_wp2_with (at_builtin; refine wpList_append_own _ rfl _ _ 39 rfl b0 36 i0 (.agg #[.int .i64 0, .int .i64 0, .int .i64 0, .int .i64 0]) 4 32 Tryd.underlying39 hi hz0 hz1 hz2 rfl (by decide) _ l.length _ rfl hown ⟨gq, 0, none⟩ 3 3 (ints4 o kk y 1 ++ ints4 7 ((B1 : Int) - (Bk : Int) - 2) 0 0 ++ ints4 7 ((B2 : Int) - (Bk : Int) - 3) 0 0) rfl rfl ?c1 ?c2 ?c3 ?c4 ?c5 ?_)
        case c1 =>
          intro j u hu
          have := hcq.2 j u hu
          first
            | (rw [Addr.add_lit, Nat.zero_add]; exact this)
            | exact hu
            | simpa using hu
        case c2 => intro u hu; simp [ints4] at hu; rcases hu with rfl | rfl | rfl | rfl | rfl | rfl | rfl | rfl | rfl | rfl | rfl | rfl <;> rfl
        case c3 => unfold maxLen; omega
        case c4 => omega
        case c5 => first | omega | (simp; omega)
        intro v' w8 hown8 hgrow8 _
        have HX8 : Hid (LayR ls s n gs gy gn gb b0 w w8 ∧ Own4 w8 b0 v' (l ++ ws) ∧ Own4 w8 w.heap.size (.slice (some ⟨w.heap.size, 0, none⟩) 0 0) []) := by
          have hxl : w.heap.size < wa.heap.size := (HT.out.2.2.1.lt w.heap.size rfl).2
          have hxn : some w.heap.size ≠ ov.ownBlock := fun e => by
            have h1 : b0 ≤ w.heap.size := own_from hown e.symm
            have h2 := HLT.out
            omega
          refine ⟨HT.out.1.app hgrow8 (fun x hx => own_from hown hx), ?_, own_block HT.out.2.2.1 (hgrow8.block w.heap.size hxl hxn)⟩
          rw [HWW.out]
          have e : flatI l ++ (ints4 o kk y 1 ++ (ints4 7 ((B1 : Int) - (Bk : Int) - 2) 0 0 ++ ints4 7 ((B2 : Int) - (Bk : Int) - 3) 0 0)) = flatI (l ++ [(o, kk, y, 1), (7, ((B1 : Int) - (Bk : Int) - 2), 0, 0), (7, ((B2 : Int) - (Bk : Int) - 3), 0, 0)]) := by simp [flatI]
          rw [e] at hown8
          unfold Own4
          rw [List.length_append]
          exact hown8
        clear hgrow8 hown8 hown
        go_wp2
        go_roundw
        case rel => exact ⟨k + 1, by go_num, by omega, HX8.out.1, by rw [HN.out]; exact HX8.out.2.1, HX8.out.2.2⟩
        case measure => simp [intOf]; omega
        case hAa => kernel_rfl
        case hla => exact ⟨trivial, trivial, trivial, trivial, trivial, trivial, trivial, trivial, trivial, trivial, trivial, trivial, trivial, trivial, trivial, trivial, trivial, trivial, trivial, trivial, trivial, trivial, trivial, trivial, trivial, trivial, trivial, trivial, trivial, trivial, fun _ _ _ ⟨g, hv, h⟩ hE => ⟨g, hv, h.step hE⟩, trivial⟩
    · have hkn : k = n := by omega
      have bk : ¬ ((k : Int) < (n : Int)) := by omega
      subst hkn
      obtain ⟨ao, co, hv⟩ := own_slice HX.out.2.1
      rw [HZ.out.2.2] at hv
      subst hv
      have hck := HZ.out.2.1
      by_cases h4 : 400 < (cnt s k : Int)
      · have HE : Hid (z = false) := by show _ = _; rw [HZ.out.1, inB_false]; omega
        have HR : Hid (Ext w wr ∧ Own4 wr w.heap.size (.slice (some ⟨w.heap.size, 0, none⟩) 0 0) []) := ⟨HX.out.1.2.2.2.2.2.2.2, HX.out.2.2⟩
        clear HX X4
        generalize cnt s k = c at *
        obtain rfl : z = _ := HE.out
        go_wp2
        go_ret2
        exact ⟨_, rfl, HR.out.2, HR.out.1⟩
      · have HE : Hid (z = true) := by show _ = _; rw [HZ.out.1, inB_true]; omega
        have HR : Hid (Ext w wr ∧ Own4 wr w.heap.size (.slice ao (cnt s k) co) (layL ls s k)) := ⟨HX.out.1.2.2.2.2.2.2.2, own_lower HX.out.2.1 HX.out.1.2.2.2.2.2.2.1⟩
        clear HX X4
        generalize cnt s k = c at *
        obtain rfl : z = _ := HE.out
        go_wp2
        go_ret2
        exact ⟨_, rfl, HR.out.2, HR.out.1⟩

end Go.Proofs.YthflflhcbnianaaDoor
