/- What DrawLines answers; where the ways of lines lead, by their labels. -/
import Derived.Test.YtakcmiijnckaaaaLlPack23
import Derived.Test.YtakcmiijnckaaaaLlPack24
import Derived.Test.YtakcmiijnckaaaaLlPack22
import Derived.Deep.Cut
import Derived.Deep.CutRange
import Derived.Deep.CutBlock
namespace Go.Proofs.Ytakcmiijnckaaaa
open Go.RowKit
set_option linter.unusedVariables false

theorem drawLines_any (a : Option Addr) (len cap : Nat) (w : World) (hC : Came w a len) :
    Calls Try.prog 9 #[.slice a len cap] w fun e w' => ∃ q l c, e = .returned (.slice q l.length c) ∧ Lns w' q l ∧ linesP l ∧ l.length ≤ 106 ∧ (∀ j, j < l.length → shortL (l.getD j zeroL)) ∧ Ext w w' := by
  have HC : Hid (Came w a len) := hC
  clear hC
  go_enter Try.func9, Try.ntmps9
  go_wp2_with fail
  refine (new_any a len cap _ HC.out).mono ?_
  rintro e w1 ⟨rfl, hc1, hb1⟩
  have HB1 : Hid (Below w.heap.size w w1) := hb1
  have HC1 : Hid (Cur w1 w.heap.size a len cap) := hc1
  clear hb1 hc1
  go_wp2_with fail
  refine (drawnLines_any w.heap.size a len cap _ HC1.out).mono ?_
  rintro e w2 ⟨v, l, rfl, ⟨hown, _, hg⟩, hlp, hl, hsh⟩
  have HX : Hid (Ext w w2) := below_new HB1.out hg
  obtain ⟨q, c, rfl, _, hlns, _⟩ := hown.lns
  have HR : Hid (Lns w2 q l ∧ linesP l ∧ l.length ≤ 106 ∧ ∀ j, j < l.length → shortL (l.getD j zeroL)) := ⟨hlns, hlp, hl, hsh⟩
  clear hown hg hlp hl hsh hlns
  generalize hn : l.length = n at *
  go_wp2
  go_ret
  exact ⟨q, l, c, by rw [hn]; rfl, HR.out.1, HR.out.2.1, by have := HR.out.2.2.1; omega, fun j hj => HR.out.2.2.2 j (by omega), HX.out⟩

theorem short_texts {l : List Ln} (h : ∀ j, j < l.length → shortL (l.getD j zeroL)) : TextsP l := fun j hj => by
  obtain ⟨a, b, c⟩ := h j hj
  exact ⟨by omega, by omega, by omega⟩

theorem cnt_le3 {ls : List Ln} {s : Nat → Nat} (hs : sizesP ls s) : ∀ {n : Nat}, n ≤ ls.length → cnt s n ≤ 3 * n
  | 0, _ => Nat.le_refl _
  | n + 1, hn => by
    have := cnt_le3 hs (n := n) (by omega)
    have hc : cnt s (n + 1) = cnt s n + s n := rfl
    rcases size_cases hs (i := n) (by omega) with h | h | h <;> omega

/-- The way that is taken: a label, or none. -/
def wayL (ls : List Ln) (i : Nat) (r : Int) : ByteArray :=
  if 3 ≤ (ls.getD i zeroL).wd.1 ∧ (ls.getD i zeroL).wd.1 ≤ 6 then (if asksW (ls.getD i zeroL).wd r = true then (ls.getD i zeroL).yes else (ls.getD i zeroL).no)
  else if (ls.getD i zeroL).wd.1 = 7 then (ls.getD i zeroL).yes else noText

theorem lab_at {ls : List Ln} {i : Nat} {lab : ByteArray} (h : onP ls i lab) : (ls.getD (pos ls lab) zeroL).lab = lab := (isAt_op (pos_at h.2)).2

theorem lab_some {ls : List Ln} (hl : linesP ls) {i : Nat} {lab : ByteArray} (h : onP ls i lab) : 1 ≤ lab.size := by
  have h0 := (isAt_op (pos_at h.2)).1
  have h1 := lab_at h
  rcases hl.2.2 _ h.2 with ⟨_, a, _⟩ | ⟨a, _⟩
  · rw [h1] at a; exact a.1
  · exact absurd (isAt_true.1 (pos_at h.2)).1 a

theorem lab_not {ls : List Ln} (hl : linesP ls) {i j : Nat} {lab : ByteArray} (h : onP ls i lab) (hj : j < pos ls lab) : (ls.getD j zeroL).lab ≠ lab := by
  intro he
  have hn := pos_not hj
  have h1 := lab_some hl h
  have hjn : j < ls.length := by have := h.2; omega
  rcases hl.2.2 j hjn with ⟨a, _⟩ | ⟨_, a, _⟩
  · rw [isAt_true.2 ⟨a, he⟩] at hn; cases hn
  · rw [← he, a] at h1
    exact absurd h1 (by decide)

/-- The next line: the next one, or the place of the way. -/
theorem next_way {ls : List Ln} (hl : linesP ls) {i : Nat} (hi : i < ls.length) (r : Int) : (wayL ls i r = noText ∧ nextL ls i r = i + 1) ∨ (onP ls i (wayL ls i r) ∧ nextL ls i r = pos ls (wayL ls i r)) := by
  unfold wayL nextL
  by_cases ha : 3 ≤ (ls.getD i zeroL).wd.1 ∧ (ls.getD i zeroL).wd.1 ≤ 6
  · have hon := ask_on hl hi ha
    rw [if_pos ha, if_pos ha]
    by_cases hb : asksW (ls.getD i zeroL).wd r = true
    · rw [if_pos hb, if_pos hb]; exact .inr ⟨hon.1, rfl⟩
    · rw [if_neg hb, if_neg hb]; exact .inr ⟨hon.2, rfl⟩
  · rw [if_neg ha, if_neg ha]
    by_cases h7 : (ls.getD i zeroL).wd.1 = 7
    · rw [if_pos h7, if_pos h7]; exact .inr ⟨jump_on hl hi h7, rfl⟩
    · rw [if_neg h7, if_neg h7]; exact .inl ⟨rfl, rfl⟩

/-- Behind a line that is no OpRet there is one more. -/
theorem next_len {ls : List Ln} (hl : linesP ls) {i : Nat} (hi : i < ls.length) (h8 : (ls.getD i zeroL).wd.1 ≠ 8) (r : Int) : i < nextL ls i r ∧ nextL ls i r < ls.length := by
  rcases next_way hl hi r with ⟨_, h⟩ | ⟨h, h2⟩
  · rw [h]; exact ⟨by omega, last_op hl hi h8⟩
  · rw [h2]; exact h

end Go.Proofs.Ytakcmiijnckaaaa
