/- What spec's Sizes answers: the sizes that must be. -/
import Derived.Test.YtakcmiijnckaaaaBeginsS
namespace Go.Proofs.Ytakcmiijnckaaaa
open Go.RowKit
set_option linter.unusedVariables false

/-- What is tried first. -/
def one0 (ls : List Ln) (i : Nat) : Nat := if (ls.getD i zeroL).wd = zeroW then 0 else 1

theorem one0_grow {ls : List Ln} (hl : linesP ls) {s : Nat → Nat} (hs : sizesP ls s) : growP ls s (one0 ls) := fun i hi => by
  unfold one0
  have hz := lineP_zero (hl.2.2 i hi)
  rcases hs i hi with ⟨a, b⟩ | ⟨a, b, c⟩ | ⟨a, b, c⟩ | ⟨a, b, c⟩
  · rw [if_pos (hz.1 a)]; omega
  · rw [if_neg (fun h => by have := hz.2 h; unfold askP at a; omega)]
    exact ⟨by omega, .inr ⟨a, rfl⟩⟩
  · rw [if_neg (fun h => by have := hz.2 h; unfold askP at a; omega)]
    exact ⟨by omega, .inr ⟨a, rfl⟩⟩
  · rw [if_neg (fun h => a (hz.2 h))]; omega

/-- How many of the first n have grown. -/
def thr (o : Nat → Nat) : Nat → Nat
  | 0 => 0
  | n + 1 => thr o n + (if o n = 3 then 1 else 0)

theorem thr_le (o : Nat → Nat) (n : Nat) : thr o n ≤ n := by
  induction n with
  | zero => exact Nat.le_refl _
  | succ n ih =>
    show thr o n + (if o n = 3 then 1 else 0) ≤ n + 1
    split <;> omega

def setN (o : Nat → Nat) (i v : Nat) : Nat → Nat := fun j => if j = i then v else o j

theorem thr_set {o : Nat → Nat} {i : Nat} (h : o i ≠ 3) : ∀ n, thr (setN o i 3) n = thr o n + (if i < n then 1 else 0)
  | 0 => rfl
  | n + 1 => by
    have ih := thr_set h n
    show thr (setN o i 3) n + (if setN o i 3 n = 3 then 1 else 0) = thr o n + (if o n = 3 then 1 else 0) + (if i < n + 1 then 1 else 0)
    rw [ih]
    unfold setN
    by_cases e : n = i
    · subst e
      rw [if_pos rfl, if_pos rfl, if_neg h, if_neg (Nat.lt_irrefl _), if_pos (Nat.lt_succ_self _)]
    · rw [if_neg e]
      by_cases hlt : i < n
      · rw [if_pos hlt, if_pos (show i < n + 1 by omega)]; omega
      · rw [if_neg hlt, if_neg (show ¬ i < n + 1 by omega)]; omega

/-- What is known within one going through: o what it began with, p what is there, b whether some has grown. -/
def goneP (ls : List Ln) (s o p : Nat → Nat) (k : Nat) (b : Bool) : Prop :=
  growP ls s o ∧ growP ls s p ∧ (∀ j, k ≤ j → p j = o j) ∧ (b = false → (∀ j, j < ls.length → p j = o j) ∧ ∀ j, j < k → askP (ls.getD j zeroL).wd.1 → o j = 3 ∨ ¬ farL ls o j) ∧ (b = true → thr o ls.length < thr p ls.length) ∧ thr o ls.length ≤ thr p ls.length

theorem gone_start {ls : List Ln} {s o : Nat → Nat} (h : growP ls s o) : goneP ls s o o 0 false :=
  ⟨h, h, fun _ _ => rfl, fun _ => ⟨fun _ _ => rfl, fun j hj => by omega⟩, fun h => by (cases h), Nat.le_refl _⟩

/-- A line that nothing is asked of, or that has grown, or whose ways are not too far. -/
theorem gone_pass {ls : List Ln} {s o p : Nat → Nat} {k : Nat} {b : Bool} (h : goneP ls s o p k b) (hk : k < ls.length) (hp : askP (ls.getD k zeroL).wd.1 → p k = 3 ∨ ¬ farL ls o k) : goneP ls s o p (k + 1) b := by
  obtain ⟨h1, h2, h3, h4, h5, h6⟩ := h
  refine ⟨h1, h2, fun j hj => h3 j (by omega), fun hb => ⟨(h4 hb).1, fun j hj ha => ?_⟩, h5, h6⟩
  rcases Nat.lt_or_ge j k with hjk | hjk
  · exact (h4 hb).2 j hjk ha
  · obtain rfl : j = k := by omega
    rw [h3 j (Nat.le_refl _)] at hp
    exact hp ha

/-- A line that grows. -/
theorem gone_grow {ls : List Ln} (hl : linesP ls) {s o p : Nat → Nat} (hs : sizesP ls s) {k : Nat} {b : Bool} (h : goneP ls s o p k b) (hk : k < ls.length) (ha : askP (ls.getD k zeroL).wd.1) (h3 : p k ≠ 3) (hf : farL ls o k) : goneP ls s o (setN p k 3) (k + 1) true := by
  obtain ⟨h1, h2, h3', h4, h5, h6⟩ := h
  have ht := thr_set h3 ls.length
  rw [if_pos hk] at ht
  refine ⟨h1, fun j hj => ?_, fun j hj => ?_, fun hb => (by cases hb), fun _ => by omega, by omega⟩
  · unfold setN
    by_cases e : j = k
    · subst e
      rw [if_pos rfl]
      rcases hs j hj with ⟨a, _⟩ | ⟨_, _, c⟩ | ⟨_, b', _⟩ | ⟨_, b', _⟩
      · unfold askP at ha; omega
      · exact ⟨by omega, .inl c.symm⟩
      · exact absurd (grow_far hl h1 hj ha hf) b'
      · exact absurd ha b'
    · rw [if_neg e]; exact h2 j hj
  · unfold setN
    rw [if_neg (by omega)]
    exact h3' j (by omega)

/-- What the two differences of beginnings tell. -/
theorem far_begins {ls : List Ln} (hl : linesP ls) {s o : Nat → Nat} (hg : growP ls s o) (hs : sizesP ls s) {k : Nat} (hk : k < ls.length) (ha : askP (ls.getD k zeroL).wd.1) (h3 : o k ≠ 3) :
    farL ls o k ↔ 15 < (cnt o (pos ls (ls.getD k zeroL).yes) : Int) - (cnt o k : Int) - 1 ∨ 15 < (cnt o (pos ls (ls.getD k zeroL).no) : Int) - (cnt o k : Int) - 1 := by
  obtain ⟨⟨y1, y2⟩, ⟨n1, n2⟩⟩ := ask_on hl hk ha
  have e1 : o k = 1 := by
    obtain ⟨g1, g2⟩ := hg k hk
    rcases hs k hk with ⟨a, _⟩ | ⟨_, _, c⟩ | ⟨_, _, c⟩ | ⟨_, b, _⟩
    · unfold askP at ha; omega
    · omega
    · omega
    · exact absurd ha b
  have hc : cnt o (k + 1) = cnt o k + 1 := by show cnt o k + o k = _; rw [e1]
  have m1 := cnt_mono o (a := k + 1) (b := pos ls (ls.getD k zeroL).yes) y1
  have m2 := cnt_mono o (a := k + 1) (b := pos ls (ls.getD k zeroL).no) n1
  unfold farL overL
  omega

theorem grow_le {ls : List Ln} {s o : Nat → Nat} (hs : sizesP ls s) (hg : growP ls s o) : ∀ i, i < ls.length → o i ≤ 3 := fun i hi => by
  have := (hg i hi).1
  have := size_le hs hi
  omega

theorem wayV_on {ls : List Ln} {s : ByteArray} {i : Nat} (hl : linesP ls) (h : onP ls i s) : wayV ls s = (pos ls s : Int) := by
  have hne : s ≠ noText := fun e => by
    have h1 := isAt_op (pos_at h.2)
    rcases hl.2.2 _ h.2 with ⟨_, h2, _⟩ | ⟨h2, _⟩
    · rw [h1.2, e] at h2
      simp [noText, ByteArray.size] at h2
    · exact h2 ((lineP_zero (hl.2.2 _ h.2)).1 h1.1)
  unfold wayV atV
  rw [if_neg hne, if_pos h.2]

end Go.Proofs.Ytakcmiijnckaaaa
