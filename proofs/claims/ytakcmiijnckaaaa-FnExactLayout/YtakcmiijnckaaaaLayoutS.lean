/- What spec's Layout answers: the words that lines become. -/
import Derived.Test.YtakcmiijnckaaaaLayoutI
namespace Go.Proofs.Ytakcmiijnckaaaa
open Go.RowKit
set_option linter.unusedVariables false

set_option maxRecDepth 100000 in
set_option maxHeartbeats 4000000 in
theorem sLayout_no (a : Option Addr) (cap : Nat) (ls : List Ln) (w : World) (hl : ls.length ≤ 1048576) (h : Lns w a ls) (hn : ¬ linesP ls) :
    Calls Try.prog 20 #[.slice a ls.length cap] w fun e w' => ∃ v, e = .returned (.tuple #[v, .bool false]) ∧ Own4 w' w.heap.size v [] ∧ Ext w w' := by
  have HL : Hid (∀ w1, Ext w w1 → Calls Try.prog 23 #[.slice a ls.length cap] w1 fun e w' => ∃ g, e = .returned (.slice (some ⟨g, 0, none⟩) 0 0) ∧ w1.heap.size ≤ g ∧ g < w'.heap.size ∧ Ext w1 w') := fun w1 hE => sSizes_no a cap ls w1 hl (h.ext hE) hn
  generalize ls.length = n at *
  clear h hn hl
  have HO : Hid (Own4 (w.alloc (.cells #[] 35)) w.heap.size (.slice (some ⟨w.heap.size, 0, none⟩) 0 0) []) := Own4.lit w w.heap.size (Nat.le_refl _)
  go_enter Try.func20, Try.ntmps20
  go_wp2_with fail
  refine (HL.out _ (Ext.one _ _)).mono ?_
  rintro e w2 ⟨g, rfl, h1, h2, e2⟩
  have X2 : Hid (Ext w w2 ∧ Own4 w2 w.heap.size (.slice (some ⟨w.heap.size, 0, none⟩) 0 0) []) := ⟨(Ext.one _ _).trans e2, HO.out.ext e2⟩
  clear h1 h2 e2
  go_wp2
  go_ret2
  exact ⟨_, rfl, X2.out.2, X2.out.1⟩

/-- What is there while the words are laid: sizes, ways, beginnings, all below b0. -/
def LayR (ls : List Ln) (s : Nat → Nat) (n gs gy gn gb b0 : Nat) (w wr : World) : Prop :=
  RowF wr gs n (fun i => (s i : Int)) ∧ RowF wr gy n (fun i => wayV ls (ls.getD i zeroL).yes) ∧ RowF wr gn n (fun i => wayV ls (ls.getD i zeroL).no) ∧ RowF wr gb n (fun i => (cnt s i : Int)) ∧ (gs < b0 ∧ gy < b0 ∧ gn < b0 ∧ gb < b0) ∧ b0 ≤ wr.heap.size ∧ w.heap.size ≤ b0 ∧ Ext w wr

theorem LayR.ext {ls : List Ln} {s : Nat → Nat} {n gs gy gn gb b0 : Nat} {w wr w' : World} (h : LayR ls s n gs gy gn gb b0 w wr) (hE : Ext wr w') : LayR ls s n gs gy gn gb b0 w w' := by
  obtain ⟨h1, h2, h3, h4, h5, h6, h7, h8⟩ := h
  exact ⟨h1.ext hE, h2.ext hE, h3.ext hE, h4.ext hE, h5, Nat.le_trans h6 hE.size, h7, h8.trans hE⟩

theorem LayR.app {ls : List Ln} {s : Nat → Nat} {n gs gy gn gb b0 : Nat} {w wr w' : World} {row : Option Nat} (h : LayR ls s n gs gy gn gb b0 w wr) (hg : wr.grownBy w' row) (hr : ∀ x, row = some x → b0 ≤ x) : LayR ls s n gs gy gn gb b0 w w' := by
  obtain ⟨h1, h2, h3, h4, h5, h6, h7, h8⟩ := h
  have hb : Below b0 wr w' := ⟨hg.os, hg.tape, hg.output, hg.size, fun i hi => hg.block i (Nat.lt_of_lt_of_le hi h6) (fun e => by have := hr i e.symm; omega)⟩
  exact ⟨h1.below hb h5.1, h2.below hb h5.2.1, h3.below hb h5.2.2.1, h4.below hb h5.2.2.2, h5, Nat.le_trans h6 hg.size, h7, ext_row h8 hg fun x hx => Nat.le_trans h7 (hr x hx)⟩

/-- The last line is a word. -/
theorem cnt_pos {ls : List Ln} {s : Nat → Nat} (hl : linesP ls) (hs : sizesP ls s) : 1 ≤ cnt s ls.length := by
  obtain ⟨m, hm⟩ : ∃ m, ls.length = m + 1 := ⟨ls.length - 1, by have := hl.1; omega⟩
  have h8 := hl.2.1
  rw [hm, Nat.add_sub_cancel] at h8
  have h1 : s m = 1 := by
    rcases hs m (by omega) with ⟨a, _⟩ | ⟨a, _⟩ | ⟨a, _⟩ | ⟨_, _, a⟩
    · omega
    · unfold askP at a; omega
    · unfold askP at a; omega
    · exact a
  rw [hm]
  show 1 ≤ cnt s m + s m
  omega

/-- The words of a line by where lines begin. -/
theorem words_three {ls : List Ln} {s : Nat → Nat} (hl : linesP ls) (hs : sizesP ls s) {i : Nat} (hi : i < ls.length) (h3 : s i = 3) {lab yes no : ByteArray} {o kk y nn : Int} (hp : Ln.mk lab (o, kk, y, nn) yes no = ls.getD i zeroL) :
    wordsL ls s i = [(o, kk, y, 1), (7, (cnt s (pos ls yes) : Int) - (cnt s i : Int) - 2, 0, 0), (7, (cnt s (pos ls no) : Int) - (cnt s i : Int) - 3, 0, 0)] ∧ onP ls i yes ∧ onP ls i no := by
  have ha : askP (ls.getD i zeroL).wd.1 := by
    rcases hs i hi with ⟨_, h⟩ | ⟨h, _⟩ | ⟨h, _⟩ | ⟨_, _, h⟩
    · omega
    · exact h
    · exact h
    · omega
  have hon := ask_on hl hi ha
  have hy : (ls.getD i zeroL).wd.2.2.1 = 0 := by
    rcases hl.2.2 i hi with ⟨hz, _⟩ | ⟨_, _, h, _⟩
    · rw [hz]; rfl
    · exact h
  rw [← hp] at hon hy
  simp only at hon hy
  refine ⟨?_, hon⟩
  have hc : cnt s (i + 1) = cnt s i + 3 := by show cnt s i + s i = _; rw [h3]
  have m1 := cnt_mono s (a := i + 1) (b := pos ls yes) hon.1.1
  have m2 := cnt_mono s (a := i + 1) (b := pos ls no) hon.2.1
  unfold wordsL
  rw [if_neg (by omega), if_pos h3, ← hp]
  simp only [overL, hy]
  congr 1
  congr 1
  · simp only [Prod.mk.injEq]
    simp only [and_true, true_and]
    omega
  · congr 1
    simp only [Prod.mk.injEq]
    simp only [and_true, true_and]
    omega

theorem words_ask {ls : List Ln} {s : Nat → Nat} (hl : linesP ls) (hs : sizesP ls s) {i : Nat} (hi : i < ls.length) (h1 : s i = 1) {lab yes no : ByteArray} {o kk y nn : Int} (hp : Ln.mk lab (o, kk, y, nn) yes no = ls.getD i zeroL) (ha : askB o = true) :
    wordsL ls s i = [(o, kk, (cnt s (pos ls yes) : Int) - (cnt s i : Int) - 1, (cnt s (pos ls no) : Int) - (cnt s i : Int) - 1)] ∧ onP ls i yes ∧ onP ls i no := by
  have ha' : askP (ls.getD i zeroL).wd.1 := by rw [← hp]; exact askB_true.1 ha
  have hon := ask_on hl hi ha'
  rw [← hp] at hon
  simp only at hon
  refine ⟨?_, hon⟩
  have hc : cnt s (i + 1) = cnt s i + 1 := by show cnt s i + s i = _; rw [h1]
  have m1 := cnt_mono s (a := i + 1) (b := pos ls yes) hon.1.1
  have m2 := cnt_mono s (a := i + 1) (b := pos ls no) hon.2.1
  unfold wordsL
  rw [if_neg (by omega), if_neg (by omega), ← hp, if_pos ha]
  simp only [overL]
  congr 1
  simp only [Prod.mk.injEq]
  exact ⟨trivial, trivial, by omega, by omega⟩

theorem words_jump {ls : List Ln} {s : Nat → Nat} (hl : linesP ls) (hs : sizesP ls s) {i : Nat} (hi : i < ls.length) (h1 : s i = 1) {lab yes no : ByteArray} {kk y nn : Int} (hp : Ln.mk lab (7, kk, y, nn) yes no = ls.getD i zeroL) :
    wordsL ls s i = [(7, (cnt s (pos ls yes) : Int) - (cnt s i : Int) - 1, y, nn)] ∧ onP ls i yes := by
  have hon := jump_on hl hi (by rw [← hp])
  rw [← hp] at hon
  simp only at hon
  refine ⟨?_, hon⟩
  have hc : cnt s (i + 1) = cnt s i + 1 := by show cnt s i + s i = _; rw [h1]
  have m1 := cnt_mono s (a := i + 1) (b := pos ls yes) hon.1
  unfold wordsL
  rw [if_neg (by omega), if_neg (by omega), ← hp, if_neg (by simp [askB]), if_pos rfl]
  simp only [overL]
  congr 1
  simp only [Prod.mk.injEq]
  simp only [and_true, true_and]
  omega

theorem words_other {ls : List Ln} {s : Nat → Nat} {i : Nat} (h1 : s i = 1) {lab yes no : ByteArray} {o kk y nn : Int} (hp : Ln.mk lab (o, kk, y, nn) yes no = ls.getD i zeroL) (ha : askB o = false) (h7 : o ≠ 7) : wordsL ls s i = [(o, kk, y, nn)] := by
  unfold wordsL
  rw [if_neg (by omega), if_neg (by omega), ← hp, if_neg (by rw [ha]; decide), if_neg h7]

end Go.Proofs.Ytakcmiijnckaaaa
