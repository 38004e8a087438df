/- A program that was looked over, run, in plain numbers: it ends, in no more steps than it has words, by one of its results. -/
import Derived.Test.YthflflhcbnianaaDoorCrPack19
import Derived.Test.YthflflhcbnianaaDoorCrPack20
/- Words as four numbers; blocks that hold one. (What the texts of chapter 6 have of it, without their texts.) -/
namespace Go.Proofs.YthflflhcbnianaaDoor
open Go.RowKit
set_option linter.unusedVariables false

/-- A word: Op, K, Yes, No. -/
abbrev Wd := Int × Int × Int × Int

def Wd.val (p : Wd) : Value := .agg #[.int .i64 p.1, .int .i64 p.2.1, .int .i64 p.2.2.1, .int .i64 p.2.2.2]

def zeroW : Wd := (0, 0, 0, 0)

def okW (p : Wd) : Bool := insB p.1 p.2.1 p.2.2.1 p.2.2.2

/-- Four numbers in a row. -/
def ints4 (a b c d : Int) : List Value := [.int .i64 a, .int .i64 b, .int .i64 c, .int .i64 d]

theorem Blk.other {W : World} {k j : Nat} {l : List Value} {t : TypeId} (h : Blk W k l t) (hj : k ≠ j) (i : Nat) (v : Value) : Blk (W.setCell ⟨j, i, none⟩ v) k l t :=
  (Below.heap_setCell _ _ _ _ hj).trans h

theorem Blk.set {W : World} {k : Nat} {l : List Value} {t : TypeId} (h : Blk W k l t) (i : Nat) (v : Value) : Blk (W.setCell ⟨k, i, none⟩ v) k (l.set i v) t := by
  have := set_in h (j := i) v
  unfold Blk
  rw [this]
  simp

theorem own_slice {w : World} {base e size : Nat} {v : Value} {n : Nat} {xs : List Value} (h : w.ownsRow base e size v n xs) : ∃ ao cap, v = .slice ao n cap := by
  rcases h.2 with ⟨rfl, h0⟩ | ⟨g, cap, cur, rfl, _⟩
  · exact ⟨none, 0, by rw [h0]⟩
  · exact ⟨_, _, rfl⟩

/-- How many words a word passes over at most. -/
def farW (p : Wd) : Int := if p.1 = 7 then p.2.1 else if p.2.2.2 < p.2.2.1 then p.2.2.1 else p.2.2.2

/-- Its two ways, one but at a question. -/
def yesW (p : Wd) : Int := if 3 ≤ p.1 ∧ p.1 ≤ 6 then p.2.2.1 else if p.1 = 7 then p.2.1 else 0

def noW (p : Wd) : Int := if 3 ≤ p.1 ∧ p.1 ≤ 6 then p.2.2.2 else if p.1 = 7 then p.2.1 else 0

/-- The word at j of n is right, and leads no further than to the last one. -/
def goodP (n j : Nat) (p : Wd) : Prop := okW p = true ∧ (p.1 = 8 ∨ (j : Int) + 1 + farW p < (n : Int))

/-- What is let by: 1 to 400 words, all right, the last one 8, none passes over it. -/
def checkQ (ws : List Wd) : Prop := (1 ≤ ws.length ∧ ws.length ≤ 400) ∧ (∀ j, j < ws.length → goodP ws.length j (ws.getD j zeroW)) ∧ (ws.getD (ws.length - 1) zeroW).1 = 8

def checkP (ws : List Wd) : Bool := decide ((1 ≤ ws.length ∧ ws.length ≤ 400) ∧ (∀ j, j < ws.length → okW (ws.getD j zeroW) = true ∧ ((ws.getD j zeroW).1 = 8 ∨ (j : Int) + 1 + farW (ws.getD j zeroW) < (ws.length : Int))) ∧ (ws.getD (ws.length - 1) zeroW).1 = 8)

theorem checkP_true {ws : List Wd} : checkP ws = true ↔ checkQ ws := decide_eq_true_iff

theorem checkP_false {ws : List Wd} : checkP ws = false ↔ ¬ checkQ ws := decide_eq_false_iff_not

theorem checkP_eq {ws : List Wd} {b : Bool} (h : b = true ↔ checkQ ws) : checkP ws = b := by
  cases b
  · rw [checkP_false]; intro k; simpa using h.2 k
  · rw [checkP_true]; exact h.1 rfl

theorem okW_P {p : Wd} : okW p = true ↔ insP p.1 p.2.1 p.2.2.1 p.2.2.2 := insB_true

/-- The greater of a right word's ways is what it passes over at most; the last word's are none. -/
theorem ways_far {p : Wd} (h : okW p = true) (h8 : p.1 ≠ 8) : 0 ≤ yesW p ∧ 0 ≤ noW p ∧ yesW p ≤ farW p ∧ noW p ≤ farW p ∧ (farW p = yesW p ∨ farW p = noW p) ∧ farW p ≤ 400 := by
  rw [okW_P] at h
  obtain ⟨o, k, y, n⟩ := p
  unfold insP at h
  unfold yesW noW farW
  simp only at *
  split <;> split <;> (try split) <;> (try split) <;> omega

theorem checkQ_long {ws : List Wd} (h : inB ws.length 1 400 = false) : checkP ws = false := by
  rw [checkP_false]
  rw [inB_false] at h
  rintro ⟨h1, _⟩
  omega

theorem checkQ_bad {ws : List Wd} {j : Nat} (hj : j < ws.length) (h : ¬ goodP ws.length j (ws.getD j zeroW)) : checkP ws = false := by
  rw [checkP_false]
  rintro ⟨_, h2, _⟩
  exact h (h2 j hj)

theorem checkQ_notok {ws : List Wd} {j : Nat} (hj : j < ws.length) (h : okW (ws.getD j zeroW) = false) : checkP ws = false :=
  checkQ_bad hj fun hg => by rw [hg.1] at h; cases h

/-- What is let by: where a word that is not the last leads to. -/
theorem check_ways {ws : List Wd} (h : checkP ws = true) {j : Nat} (hj : j < ws.length) (h8 : (ws.getD j zeroW).1 ≠ 8) :
    okW (ws.getD j zeroW) = true ∧ 0 ≤ yesW (ws.getD j zeroW) ∧ 0 ≤ noW (ws.getD j zeroW) ∧ (j : Int) + 1 + yesW (ws.getD j zeroW) < ws.length ∧ (j : Int) + 1 + noW (ws.getD j zeroW) < ws.length := by
  rw [checkP_true] at h
  have hg := h.2.1 j hj
  obtain ⟨h1, h2, h3, h4, _, _⟩ := ways_far hg.1 h8
  have := hg.2.resolve_left h8
  exact ⟨hg.1, h1, h2, by omega, by omega⟩

/-- A line. -/
structure Ln where
  lab : ByteArray
  wd : Wd
  yes : ByteArray
  no : ByteArray

def noText : ByteArray := ⟨#[]⟩

def zeroL : Ln := ⟨noText, zeroW, noText, noText⟩

def Ln.val (l : Ln) : Value := .agg #[.string l.lab, .int .i64 l.wd.1, .int .i64 l.wd.2.1, .int .i64 l.wd.2.2.1, .int .i64 l.wd.2.2.2, .string l.yes, .string l.no]

/-- A place of that label. -/
def isAt (l : Ln) (lab : ByteArray) : Bool := decide (l.wd = zeroW) && decide (l.lab = lab)

/-- Where the first place of a label stands; behind them all without one. -/
def pos : List Ln → ByteArray → Nat
  | [], _ => 0
  | l :: ls, lab => if isAt l lab = true then 0 else pos ls lab + 1

theorem pos_le : ∀ (ls : List Ln) (lab : ByteArray), pos ls lab ≤ ls.length
  | [], _ => Nat.le_refl _
  | l :: ls, lab => by
    unfold pos
    have := pos_le ls lab
    split <;> simp <;> omega

theorem pos_at : ∀ {ls : List Ln} {lab : ByteArray}, pos ls lab < ls.length → isAt (ls.getD (pos ls lab) zeroL) lab = true
  | [], _, h => by simp at h
  | l :: ls, lab, h => by
    unfold pos at h ⊢
    by_cases hl : isAt l lab = true
    · rw [if_pos hl]; simpa using hl
    · rw [if_neg hl] at h ⊢
      have := pos_at (ls := ls) (lab := lab) (by simpa using h)
      simpa using this

theorem pos_not : ∀ {ls : List Ln} {lab : ByteArray} {j : Nat}, j < pos ls lab → isAt (ls.getD j zeroL) lab = false
  | [], _, j, h => by simp [pos] at h
  | l :: ls, lab, j, h => by
    unfold pos at h
    by_cases hl : isAt l lab = true
    · rw [if_pos hl] at h; omega
    · rw [if_neg hl] at h
      cases j with
      | zero => simpa using hl
      | succ j => simpa using pos_not (ls := ls) (lab := lab) (j := j) (by omega)

theorem pos_first {ls : List Ln} {lab : ByteArray} {j : Nat} (hj : j < ls.length) (h : isAt (ls.getD j zeroL) lab = true) (hn : ∀ i, i < j → isAt (ls.getD i zeroL) lab = false) : pos ls lab = j := by
  rcases Nat.lt_trichotomy (pos ls lab) j with h1 | h1 | h1
  · have := pos_at (ls := ls) (lab := lab) (by omega)
    rw [hn _ h1] at this
    cases this
  · exact h1
  · have := pos_not h1
    rw [h] at this
    cases this

theorem pos_none {ls : List Ln} {lab : ByteArray} (hn : ∀ i, i < ls.length → isAt (ls.getD i zeroL) lab = false) : pos ls lab = ls.length := by
  rcases Nat.lt_or_ge (pos ls lab) ls.length with h | h
  · have := pos_at h
    rw [hn _ h] at this
    cases this
  · have := pos_le ls lab
    omega

/-- A question, by its Op. -/
def askP (o : Int) : Prop := 3 ≤ o ∧ o ≤ 6

/-- A way to that label leads on from line i. -/
def onP (ls : List Ln) (i : Nat) (lab : ByteArray) : Prop := i < pos ls lab ∧ pos ls lab < ls.length

/-- The line at i is right. -/
def lineP (ls : List Ln) (i : Nat) (l : Ln) : Prop :=
  (l.wd = zeroW ∧ (1 ≤ l.lab.size ∧ l.lab.size ≤ 12) ∧ l.yes = noText ∧ l.no = noText ∧ pos ls l.lab = i) ∨
  (l.wd ≠ zeroW ∧ l.lab = noText ∧ l.wd.2.2.1 = 0 ∧ l.wd.2.2.2 = 0 ∧ (l.wd.1 = 7 → l.wd.2.1 = 0) ∧ okW l.wd = true ∧
    ((l.wd.1 = 7 ∧ l.no = noText ∧ onP ls i l.yes) ∨ (askP l.wd.1 ∧ onP ls i l.yes ∧ onP ls i l.no) ∨ (l.wd.1 ≠ 7 ∧ ¬ askP l.wd.1 ∧ l.yes = noText ∧ l.no = noText)))

/-- Lines that are right. -/
def linesP (ls : List Ln) : Prop :=
  (1 ≤ ls.length ∧ ls.length ≤ 600) ∧ (ls.getD (ls.length - 1) zeroL).wd.1 = 8 ∧ ∀ i, i < ls.length → lineP ls i (ls.getD i zeroL)

theorem okW_op {p : Wd} (h : okW p = true) : 1 ≤ p.1 ∧ p.1 ≤ 8 := by
  rw [okW_P] at h
  unfold insP at h
  omega

theorem lineP_zero {ls : List Ln} {i : Nat} {l : Ln} (h : lineP ls i l) : l.wd.1 = 0 ↔ l.wd = zeroW := by
  rcases h with ⟨h, _⟩ | ⟨h, _, _, _, _, hk, _⟩
  · rw [h]; simp [zeroW]
  · have := okW_op hk
    refine ⟨fun h0 => by omega, fun h0 => absurd h0 h⟩

/-! What the one that goes through them once holds them against: that no label stands twice, each line by itself, and that the ways lead to places that are behind. -/

/-- A place, by its Op alone. -/
def opAt (l : Ln) (lab : ByteArray) : Prop := l.wd.1 = 0 ∧ l.lab = lab

/-- No label twice among the first n. -/
def oncePto (ls : List Ln) (n : Nat) : Prop := ∀ i j, i < j → j < n → (ls.getD i zeroL).wd.1 = 0 → (ls.getD j zeroL).wd.1 = 0 → (ls.getD i zeroL).lab ≠ (ls.getD j zeroL).lab

/-- A line by itself. -/
def fitsP (l : Ln) : Prop :=
  (l.wd.1 = 0 ∧ (1 ≤ l.lab.size ∧ l.lab.size ≤ 12) ∧ l.wd = zeroW ∧ l.yes = noText ∧ l.no = noText) ∨
  (l.wd.1 ≠ 0 ∧ l.lab = noText ∧ okW l.wd = true ∧ yesW l.wd = 0 ∧ noW l.wd = 0)

/-- From i on there is a place of that label. -/
def behP (ls : List Ln) (i : Nat) (lab : ByteArray) : Prop := ∃ j, i ≤ j ∧ j < ls.length ∧ opAt (ls.getD j zeroL) lab

/-- The ways of its kind, to places from i on. -/
def leadP (ls : List Ln) (i : Nat) (l : Ln) : Prop :=
  (askP l.wd.1 ∧ behP ls i l.yes ∧ behP ls i l.no) ∨ (¬ askP l.wd.1 ∧ l.wd.1 = 7 ∧ behP ls i l.yes ∧ l.no = noText) ∨ (¬ askP l.wd.1 ∧ l.wd.1 ≠ 7 ∧ l.yes = noText ∧ l.no = noText)

theorem isAt_op {l : Ln} {lab : ByteArray} (h : isAt l lab = true) : opAt l lab := by
  unfold isAt at h
  simp only [Bool.and_eq_true, decide_eq_true_eq] at h
  exact ⟨by rw [h.1]; rfl, h.2⟩

theorem isAt_true {l : Ln} {lab : ByteArray} : isAt l lab = true ↔ l.wd = zeroW ∧ l.lab = lab := by
  unfold isAt
  simp

/-- Where all fit, a place by its Op is a place. -/
theorem fits_at {l : Ln} {lab : ByteArray} (hf : fitsP l) (h : opAt l lab) : isAt l lab = true := by
  rcases hf with ⟨_, _, hz, _⟩ | ⟨h0, _⟩
  · exact isAt_true.2 ⟨hz, h.2⟩
  · exact absurd h.1 h0

theorem fits_bare {p : Wd} (h : okW p = true) : (yesW p = 0 ∧ noW p = 0) ↔ (p.2.2.1 = 0 ∧ p.2.2.2 = 0 ∧ (p.1 = 7 → p.2.1 = 0)) := by
  rw [okW_P] at h
  unfold insP at h
  unfold yesW noW
  obtain ⟨o, k, y, n⟩ := p
  simp only at h ⊢
  split <;> (try split) <;> (try split) <;> omega

/-- The two ways of asking whether lines are right are one. -/
theorem lines_once (ls : List Ln) : linesP ls ↔ (1 ≤ ls.length ∧ ls.length ≤ 600) ∧ (ls.getD (ls.length - 1) zeroL).wd.1 = 8 ∧ oncePto ls ls.length ∧ ∀ i, i < ls.length → fitsP (ls.getD i zeroL) ∧ leadP ls i (ls.getD i zeroL) := by
  constructor
  · rintro ⟨hn, h8, hl⟩
    have hfits : ∀ i, i < ls.length → fitsP (ls.getD i zeroL) := by
      intro i hi
      rcases hl i hi with ⟨hz, hs, hy, hno, hp⟩ | ⟨hz, hlab, h1, h2, h3, hk, _⟩
      · exact .inl ⟨by rw [hz]; rfl, hs, hz, hy, hno⟩
      · have := okW_op hk
        have hb := (fits_bare hk).2 ⟨h1, h2, h3⟩
        exact .inr ⟨by omega, hlab, hk, hb.1, hb.2⟩
    have hat : ∀ i, i < ls.length → (ls.getD i zeroL).wd.1 = 0 → pos ls (ls.getD i zeroL).lab = i := by
      intro i hi h0
      rcases hl i hi with ⟨hz, hs, hy, hno, hp⟩ | ⟨hz, _, _, _, _, hk, _⟩
      · exact hp
      · have := okW_op hk
        omega
    have hon : ∀ i lab, onP ls i lab → behP ls i lab := fun i lab h => ⟨pos ls lab, by have := h.1; omega, h.2, isAt_op (pos_at h.2)⟩
    refine ⟨hn, h8, ?_, fun i hi => ⟨hfits i hi, ?_⟩⟩
    · intro i j hij hj h0 h1 he
      have a := hat i (by omega) h0
      have b := hat j hj h1
      rw [he] at a
      omega
    · rcases hl i hi with ⟨hz, hs, hy, hno, hp⟩ | ⟨hz, hlab, h1, h2, h3, hk, h4⟩
      · refine .inr (.inr ⟨?_, ?_, hy, hno⟩)
        · rw [hz]; unfold askP zeroW; simp
        · rw [hz]; unfold zeroW; simp
      · rcases h4 with ⟨h7, hno, ho⟩ | ⟨ha, hy, hno⟩ | ⟨h7, ha, hy, hno⟩
        · refine .inr (.inl ⟨?_, h7, hon _ _ ho, hno⟩)
          unfold askP
          omega
        · exact .inl ⟨ha, hon _ _ hy, hon _ _ hno⟩
        · exact .inr (.inr ⟨ha, h7, hy, hno⟩)
  · rintro ⟨hn, h8, honce, hl⟩
    have hat : ∀ i lab, i < ls.length → opAt (ls.getD i zeroL) lab → pos ls lab = i := by
      intro i lab hi ho
      refine pos_first hi (fits_at (hl i hi).1 ho) fun j hj => ?_
      cases h : isAt (ls.getD j zeroL) lab with
      | false => rfl
      | true =>
        have h' := isAt_op h
        exact absurd (h'.2.trans ho.2.symm) (honce j i hj hi h'.1 ho.1)
    have hbeh : ∀ i lab, i < ls.length → (ls.getD i zeroL).wd.1 ≠ 0 → behP ls i lab → onP ls i lab := by
      rintro i lab hi h0 ⟨j, hij, hj, ho⟩
      have hp := hat j lab hj ho
      refine ⟨?_, by omega⟩
      rcases Nat.lt_or_ge i j with h | h
      · omega
      · obtain rfl : i = j := by omega
        exact absurd ho.1 h0
    refine ⟨hn, h8, fun i hi => ?_⟩
    obtain ⟨hf, hlead⟩ := hl i hi
    rcases hf with ⟨h0, hs, hz, hy, hno⟩ | ⟨h0, hlab, hk, hw⟩
    · exact .inl ⟨hz, hs, hy, hno, hat i _ hi ⟨h0, rfl⟩⟩
    · obtain ⟨h1, h2, h3⟩ := (fits_bare hk).1 hw
      refine .inr ⟨fun hz => h0 (by rw [hz]; rfl), hlab, h1, h2, h3, hk, ?_⟩
      rcases hlead with ⟨ha, hy, hno⟩ | ⟨_, h7, hy, hno⟩ | ⟨ha, h7, hy, hno⟩
      · exact .inr (.inl ⟨ha, hbeh i _ hi h0 hy, hbeh i _ hi h0 hno⟩)
      · exact .inl ⟨h7, hno, hbeh i _ hi h0 hy⟩
      · exact .inr (.inr ⟨h7, ha, hy, hno⟩)

/-! Sizes. -/

/-- How many words the first n lines become. -/
def cnt (s : Nat → Nat) : Nat → Nat
  | 0 => 0
  | n + 1 => cnt s n + s n

theorem cnt_mono (s : Nat → Nat) {a b : Nat} (h : a ≤ b) : cnt s a ≤ cnt s b := by
  induction b with
  | zero => obtain rfl : a = 0 := by omega
            exact Nat.le_refl _
  | succ b ih =>
    rcases Nat.lt_or_ge a (b + 1) with h1 | h1
    · have := ih (by omega)
      show cnt s a ≤ cnt s b + s b
      omega
    · obtain rfl : a = b + 1 := by omega
      exact Nat.le_refl _

/-- Two that are alike from a to b count alike there. -/
theorem cnt_part {s t : Nat → Nat} {a b : Nat} (hab : a ≤ b) (h : ∀ i, a ≤ i → i < b → s i = t i) : cnt s b + cnt t a = cnt t b + cnt s a := by
  induction b with
  | zero => obtain rfl : a = 0 := by omega
            omega
  | succ b ih =>
    rcases Nat.lt_or_ge a (b + 1) with h1 | h1
    · have := ih (by omega) fun i hi hb => h i hi (by omega)
      have e := h b (by omega) (by omega)
      show cnt s b + s b + cnt t a = cnt t b + t b + cnt s a
      omega
    · obtain rfl : a = b + 1 := by omega
      omega

/-- One that is no greater from a to b counts no more there. -/
theorem cnt_less {s t : Nat → Nat} {a b : Nat} (hab : a ≤ b) (h : ∀ i, a ≤ i → i < b → s i ≤ t i) : cnt s b + cnt t a ≤ cnt t b + cnt s a := by
  induction b with
  | zero => obtain rfl : a = 0 := by omega
            omega
  | succ b ih =>
    rcases Nat.lt_or_ge a (b + 1) with h1 | h1
    · have := ih (by omega) fun i hi hb => h i hi (by omega)
      have e := h b (by omega) (by omega)
      show cnt s b + s b + cnt t a ≤ cnt t b + t b + cnt s a
      omega
    · obtain rfl : a = b + 1 := by omega
      omega

/-- How many words stand between line i and the place of a label. -/
def overL (ls : List Ln) (s : Nat → Nat) (i : Nat) (lab : ByteArray) : Nat := cnt s (pos ls lab) - cnt s (i + 1)

/-- A way of the question at i is too far. -/
def farL (ls : List Ln) (s : Nat → Nat) (i : Nat) : Prop := 15 < overL ls s i (ls.getD i zeroL).yes ∨ 15 < overL ls s i (ls.getD i zeroL).no

/-- The size of line i is what it must be. -/
def sizeP (ls : List Ln) (s : Nat → Nat) (i : Nat) : Prop :=
  ((ls.getD i zeroL).wd.1 = 0 ∧ s i = 0) ∨ (askP (ls.getD i zeroL).wd.1 ∧ farL ls s i ∧ s i = 3) ∨ (askP (ls.getD i zeroL).wd.1 ∧ ¬ farL ls s i ∧ s i = 1) ∨ ((ls.getD i zeroL).wd.1 ≠ 0 ∧ ¬ askP (ls.getD i zeroL).wd.1 ∧ s i = 1)

def sizesP (ls : List Ln) (s : Nat → Nat) : Prop := ∀ i, i < ls.length → sizeP ls s i

theorem over_part {ls : List Ln} {s t : Nat → Nat} {i : Nat} {lab : ByteArray} (hon : onP ls i lab) (h : ∀ j, i < j → j < ls.length → s j = t j) : overL ls s i lab = overL ls t i lab := by
  unfold overL
  have h1 := hon.1
  have h2 := hon.2
  have := cnt_part (s := s) (t := t) (a := i + 1) (b := pos ls lab) h1 fun j hj hb => h j hj (by omega)
  have m1 := cnt_mono s (a := i + 1) (b := pos ls lab) h1
  have m2 := cnt_mono t (a := i + 1) (b := pos ls lab) h1
  omega

theorem ask_on {ls : List Ln} (hl : linesP ls) {i : Nat} (hi : i < ls.length) (ha : askP (ls.getD i zeroL).wd.1) : onP ls i (ls.getD i zeroL).yes ∧ onP ls i (ls.getD i zeroL).no := by
  rcases hl.2.2 i hi with ⟨hz, _⟩ | ⟨_, _, _, _, _, _, h⟩
  · rw [hz] at ha; unfold askP zeroW at ha; simp at ha
  · rcases h with ⟨h7, _⟩ | ⟨_, h1, h2⟩ | ⟨_, hna, _⟩
    · unfold askP at ha; omega
    · exact ⟨h1, h2⟩
    · exact absurd ha hna

theorem jump_on {ls : List Ln} (hl : linesP ls) {i : Nat} (hi : i < ls.length) (h7 : (ls.getD i zeroL).wd.1 = 7) : onP ls i (ls.getD i zeroL).yes := by
  rcases hl.2.2 i hi with ⟨hz, _⟩ | ⟨_, _, _, _, _, _, h⟩
  · rw [hz] at h7; unfold zeroW at h7; simp at h7
  · rcases h with ⟨_, _, h1⟩ | ⟨ha, _⟩ | ⟨hn7, _⟩
    · exact h1
    · unfold askP at ha; omega
    · exact absurd h7 hn7

/-- Whether a way is too far hangs on the sizes of the lines behind alone. -/
theorem far_part {ls : List Ln} (hl : linesP ls) {s t : Nat → Nat} {i : Nat} (hi : i < ls.length) (ha : askP (ls.getD i zeroL).wd.1) (h : ∀ j, i < j → j < ls.length → s j = t j) : farL ls s i ↔ farL ls t i := by
  obtain ⟨h1, h2⟩ := ask_on hl hi ha
  unfold farL
  rw [over_part h1 h, over_part h2 h]

/-- The sizes are told by what they must be. -/
theorem sizes_one {ls : List Ln} (hl : linesP ls) {s t : Nat → Nat} (hs : sizesP ls s) (ht : sizesP ls t) : ∀ i, i < ls.length → s i = t i := by
  have key : ∀ k i, i < ls.length → ls.length ≤ i + k → s i = t i := by
    intro k
    induction k with
    | zero => intro i hi hk; omega
    | succ k ih =>
      intro i hi hk
      have hb : ∀ j, i < j → j < ls.length → s j = t j := fun j h1 h2 => ih j h2 (by omega)
      rcases hs i hi with ⟨a, b⟩ | ⟨a, b, c⟩ | ⟨a, b, c⟩ | ⟨a, b, c⟩ <;> rcases ht i hi with ⟨a', b'⟩ | ⟨a', b', c'⟩ | ⟨a', b', c'⟩ | ⟨a', b', c'⟩
      all_goals first
        | omega
        | (unfold askP at *; omega)
        | exact absurd ((far_part hl hi a hb).1 b) b'
        | exact absurd ((far_part hl hi a hb).2 b') b
        | exact absurd a' b
        | exact absurd a b'
  exact fun i hi => key ls.length i hi (by omega)

/-- There are such sizes. -/
theorem sizes_some {ls : List Ln} (hl : linesP ls) : ∃ s, sizesP ls s := by
  have key : ∀ k, k ≤ ls.length → ∃ s, ∀ i, i < ls.length → ls.length ≤ i + k → sizeP ls s i := by
    intro k
    induction k with
    | zero => exact fun _ => ⟨fun _ => 0, fun i hi hk => by omega⟩
    | succ k ih =>
      intro hk
      obtain ⟨s, hs⟩ := ih (by omega)
      obtain ⟨i, hi⟩ : ∃ i, i = ls.length - (k + 1) := ⟨_, rfl⟩
      have hil : i < ls.length := by omega
      have keep : ∀ n j, i < j → j < ls.length → sizeP ls s j → sizeP ls (fun q => if q = i then n else s q) j := by
        intro n j hij hj h
        have e : (if j = i then n else s j) = s j := if_neg (by omega)
        rcases h with ⟨a, b⟩ | ⟨a, b, c⟩ | ⟨a, b, c⟩ | ⟨a, b, c⟩
        · exact .inl ⟨a, e.trans b⟩
        · refine .inr (.inl ⟨a, (far_part hl hj a fun q hq _ => ?_).1 b, e.trans c⟩)
          exact (if_neg (by omega)).symm
        · refine .inr (.inr (.inl ⟨a, fun hf => b ((far_part hl hj a fun q hq _ => ?_).2 hf), e.trans c⟩))
          exact (if_neg (by omega)).symm
        · exact .inr (.inr (.inr ⟨a, b, e.trans c⟩))
      have put : ∀ n, sizeP ls (fun q => if q = i then n else s q) i → ∃ s, ∀ i, i < ls.length → ls.length ≤ i + (k + 1) → sizeP ls s i := by
        intro n hn
        refine ⟨fun q => if q = i then n else s q, fun j hj hjk => ?_⟩
        rcases Nat.lt_or_ge i j with h | h
        · exact keep n j h hj (hs j hj (by omega))
        · obtain rfl : j = i := by omega
          exact hn
      by_cases h0 : (ls.getD i zeroL).wd.1 = 0
      · exact put 0 (.inl ⟨h0, if_pos rfl⟩)
      by_cases ha : askP (ls.getD i zeroL).wd.1
      · have hp : ∀ n, farL ls (fun q => if q = i then n else s q) i ↔ farL ls s i := fun n => far_part hl hil ha fun q hq _ => if_neg (by omega)
        by_cases hf : farL ls s i
        · exact put 3 (.inr (.inl ⟨ha, (hp 3).2 hf, if_pos rfl⟩))
        · exact put 1 (.inr (.inr (.inl ⟨ha, fun h => hf ((hp 1).1 h), if_pos rfl⟩)))
      · exact put 1 (.inr (.inr (.inr ⟨h0, ha, if_pos rfl⟩)))
  obtain ⟨s, hs⟩ := key ls.length (Nat.le_refl _)
  exact ⟨s, fun i hi => hs i hi (by omega)⟩

theorem size_le {ls : List Ln} {s : Nat → Nat} (hs : sizesP ls s) {i : Nat} (hi : i < ls.length) : s i ≤ 3 := by
  rcases hs i hi with h | h | h | h <;> omega

theorem cnt_le {ls : List Ln} {s : Nat → Nat} (hs : sizesP ls s) {n : Nat} (hn : n ≤ ls.length) : cnt s n ≤ 3 * n := by
  induction n with
  | zero => exact Nat.le_refl _
  | succ n ih =>
    have := ih (by omega)
    have := size_le hs (i := n) (by omega)
    show cnt s n + s n ≤ _
    omega

/-! Sizes found by trying again until nothing grows. -/

/-- What is tried: each line has no more than it must have, and a question that is not grown one. -/
def growP (ls : List Ln) (s o : Nat → Nat) : Prop := ∀ i, i < ls.length → o i ≤ s i ∧ (o i = s i ∨ (askP (ls.getD i zeroL).wd.1 ∧ o i = 1))

/-- A way that is too far by what was tried is too far. -/
theorem grow_far {ls : List Ln} (hl : linesP ls) {s o : Nat → Nat} (hg : growP ls s o) {i : Nat} (hi : i < ls.length) (ha : askP (ls.getD i zeroL).wd.1) (hf : farL ls o i) : farL ls s i := by
  obtain ⟨h1, h2⟩ := ask_on hl hi ha
  have key : ∀ lab, onP ls i lab → overL ls o i lab ≤ overL ls s i lab := by
    intro lab hon
    have := cnt_less (s := o) (t := s) (a := i + 1) (b := pos ls lab) hon.1 fun j hj hb => (hg j (by have := hon.2; omega)).1
    have m1 := cnt_mono s (a := i + 1) (b := pos ls lab) hon.1
    have m2 := cnt_mono o (a := i + 1) (b := pos ls lab) hon.1
    unfold overL
    omega
  have k1 := key _ h1
  have k2 := key _ h2
  unfold farL at hf ⊢
  omega

/-- Where no way is too far by what was tried, it is what must be. -/
theorem grow_end {ls : List Ln} (hl : linesP ls) {s o : Nat → Nat} (hs : sizesP ls s) (hg : growP ls s o) (hn : ∀ i, i < ls.length → askP (ls.getD i zeroL).wd.1 → o i = 3 ∨ ¬ farL ls o i) : ∀ i, i < ls.length → o i = s i := by
  refine sizes_one hl (fun i hi => ?_) hs
  obtain ⟨h1, h2⟩ := hg i hi
  rcases hs i hi with ⟨a, b⟩ | ⟨a, b, c⟩ | ⟨a, b, c⟩ | ⟨a, b, c⟩
  · exact .inl ⟨a, by omega⟩
  · have hk : ∀ k j, j < ls.length → ls.length ≤ j + k → o j = s j := by
      intro k
      induction k with
      | zero => intro j hj hk; omega
      | succ k ih =>
        intro j hj hk
        have hb : ∀ q, j < q → q < ls.length → o q = s q := fun q h1 h2 => ih q h2 (by omega)
        rcases (hg j hj).2 with h | ⟨haj, h⟩
        · exact h
        · rcases hn j hj haj with h3 | h3
          · omega
          · rcases hs j hj with ⟨a', b'⟩ | ⟨a', b', c'⟩ | ⟨a', b', c'⟩ | ⟨a', b', c'⟩
            · unfold askP at haj; omega
            · exact absurd ((far_part hl hj haj hb).2 b') h3
            · omega
            · exact absurd haj b'
    have hb : ∀ q, i < q → q < ls.length → o q = s q := fun q _ h2 => hk ls.length q h2 (by omega)
    have := hk ls.length i hi (by omega)
    exact .inr (.inl ⟨a, (far_part hl hi a hb).2 b, by omega⟩)
  · refine .inr (.inr (.inl ⟨a, fun hf => b (grow_far hl hg hi a hf), ?_⟩))
    omega
  · refine .inr (.inr (.inr ⟨a, b, ?_⟩))
    rcases h2 with h2 | ⟨h2, h3⟩
    · omega
    · exact h3

/-- The answer to a question, the register being r. -/
def asksW (p : Wd) (r : Int) : Bool := if p.1 = 3 then r == p.2.1 else if p.1 = 4 then decide (p.2.1 < r) else if p.1 = 5 then decide (p.2.1 ≤ r) else bits .and .i64 r p.2.1 != 0

/-- How many words are passed over. -/
def overW (p : Wd) (r : Int) : Int := if 3 ≤ p.1 ∧ p.1 ≤ 6 then (if asksW p r = true then p.2.2.1 else p.2.2.2) else if p.1 = 7 then p.2.1 else 0

/-- The register behind a word; F tells the fields. -/
def regW (F : Int → Int) (p : Wd) (r : Int) : Int := if p.1 = 1 then F p.2.1 else if p.1 = 2 then bits .and .i64 r p.2.1 else r

theorem over_ways (p : Wd) (r : Int) : overW p r = yesW p ∨ overW p r = noW p := by
  unfold overW yesW noW
  split
  · split
    · exact .inl rfl
    · exact .inr rfl
  · exact .inl rfl

/-- From place i on, the register being r, s words done: the result and how many words are done then (within f steps). -/
def Runs (ws : List Wd) (F : Int → Int) : Nat → Nat → Int → Nat → Int → Nat → Prop
  | 0, _, _, _, _, _ => False
  | f + 1, i, r, s, res, m => ((ws.getD i zeroW).1 = 8 ∧ res = (ws.getD i zeroW).2.1 ∧ m = s + 1) ∨ ((ws.getD i zeroW).1 ≠ 8 ∧ Runs ws F f (i + 1 + (overW (ws.getD i zeroW) r).toNat) (regW F (ws.getD i zeroW) r) (s + 1) res m)

theorem next_lt {ws : List Wd} (hc : checkP ws = true) {i : Nat} (hi : i < ws.length) (h8 : (ws.getD i zeroW).1 ≠ 8) (r : Int) : i + 1 + (overW (ws.getD i zeroW) r).toNat < ws.length ∧ 0 ≤ overW (ws.getD i zeroW) r := by
  obtain ⟨_, h0, h1, h2, h3⟩ := check_ways hc hi h8
  rcases over_ways (ws.getD i zeroW) r with h | h <;> rw [h] <;> omega

theorem runs_some {ws : List Wd} (F : Int → Int) (hc : checkP ws = true) : ∀ (f i : Nat) (r : Int) (s : Nat), i < ws.length → ws.length ≤ f + i → ∃ res m, Runs ws F f i r s res m
  | 0, i, r, s, hi, hf => by omega
  | f + 1, i, r, s, hi, hf => by
    by_cases h8 : (ws.getD i zeroW).1 = 8
    · exact ⟨_, _, .inl ⟨h8, rfl, rfl⟩⟩
    · have hn := next_lt hc hi h8 r
      obtain ⟨res, m, h⟩ := runs_some F hc f (i + 1 + (overW (ws.getD i zeroW) r).toNat) (regW F (ws.getD i zeroW) r) (s + 1) hn.1 (by omega)
      exact ⟨res, m, .inr ⟨h8, h⟩⟩

theorem runs_ret {ws : List Wd} {F : Int → Int} {f i : Nat} {r : Int} {s : Nat} {res : Int} {m : Nat} (h : Runs ws F f i r s res m) (h8 : (ws.getD i zeroW).1 = 8) : res = (ws.getD i zeroW).2.1 ∧ m = s + 1 := by
  cases f with
  | zero => cases h
  | succ f =>
    rcases h with ⟨_, hr, hm⟩ | ⟨h, _⟩
    · exact ⟨hr, hm⟩
    · exact absurd h8 h

theorem runs_next {ws : List Wd} {F : Int → Int} {f i : Nat} {r : Int} {s : Nat} {res : Int} {m : Nat} (h : Runs ws F f i r s res m) (h8 : (ws.getD i zeroW).1 ≠ 8) : ∃ f', Runs ws F f' (i + 1 + (overW (ws.getD i zeroW) r).toNat) (regW F (ws.getD i zeroW) r) (s + 1) res m := by
  cases f with
  | zero => cases h
  | succ f =>
    rcases h with ⟨h, _⟩ | ⟨_, h⟩
    · exact absurd h h8
    · exact ⟨f, h⟩

end Go.Proofs.YthflflhcbnianaaDoor
