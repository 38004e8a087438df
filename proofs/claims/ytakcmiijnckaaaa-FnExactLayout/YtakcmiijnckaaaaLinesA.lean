/- Lines in memory: rows of them. -/
import Derived.Test.YtakcmiijnckaaaaMapKit
import Derived.Deep.SlicePairs
namespace Go.Proofs.Ytakcmiijnckaaaa
open Go.ChangeShapes Go.WideShapes Go.ChangeAt Go.RowKit Go.Joins Go.Deep
set_option linter.unusedVariables false

/-- A line's seven cells. -/
def Hept (w : World) (b o : Nat) (l : Ln) : Prop :=
  w.cell? ⟨b, o, none⟩ = some (.string l.lab) ∧ w.cell? ⟨b, o + 1, none⟩ = some (.int .i64 l.wd.1) ∧ w.cell? ⟨b, o + 2, none⟩ = some (.int .i64 l.wd.2.1) ∧ w.cell? ⟨b, o + 3, none⟩ = some (.int .i64 l.wd.2.2.1) ∧ w.cell? ⟨b, o + 4, none⟩ = some (.int .i64 l.wd.2.2.2) ∧ w.cell? ⟨b, o + 5, none⟩ = some (.string l.yes) ∧ w.cell? ⟨b, o + 6, none⟩ = some (.string l.no)

theorem Hept.below {w w' : World} {b o B : Nat} {l : Ln} (h : Hept w b o l) (hb : Below B w w') (hB : b < B) : Hept w' b o l :=
  ⟨(hb.cell (p := ⟨b, o, none⟩) hB).trans h.1, (hb.cell (p := ⟨b, o + 1, none⟩) hB).trans h.2.1, (hb.cell (p := ⟨b, o + 2, none⟩) hB).trans h.2.2.1, (hb.cell (p := ⟨b, o + 3, none⟩) hB).trans h.2.2.2.1, (hb.cell (p := ⟨b, o + 4, none⟩) hB).trans h.2.2.2.2.1, (hb.cell (p := ⟨b, o + 5, none⟩) hB).trans h.2.2.2.2.2.1, (hb.cell (p := ⟨b, o + 6, none⟩) hB).trans h.2.2.2.2.2.2⟩

theorem Hept.lt {w : World} {b o : Nat} {l : Ln} (h : Hept w b o l) : b < w.heap.size := World.block_lt_of_cell? w _ h.1

theorem Hept.ext {w w' : World} {b o : Nat} {l : Ln} (h : Hept w b o l) (hE : Ext w w') : Hept w' b o l := h.below hE h.lt

/-- A line laid in a block of its own. -/
theorem hept_box (w : World) (l : Ln) (T : TypeId) : Hept (w.alloc (.cells #[.string l.lab, .int .i64 l.wd.1, .int .i64 l.wd.2.1, .int .i64 l.wd.2.2.1, .int .i64 l.wd.2.2.2, .string l.yes, .string l.no] T)) w.heap.size 0 l :=
  ⟨by simp [go_sem], by simp [go_sem], by simp [go_sem], by simp [go_sem], by simp [go_sem], by simp [go_sem], by simp [go_sem]⟩

/-- These lines lie in a row from there on. -/
def Lns (w : World) (a : Option Addr) (ls : List Ln) : Prop := 0 < ls.length → ∃ b off, a = some ⟨b, off, none⟩ ∧ ∀ j, j < ls.length → Hept w b (off + j * 7) (ls.getD j zeroL)

theorem Lns.below {w w' : World} {a : Option Addr} {ls : List Ln} {B : Nat} (h : Lns w a ls) (hb : Below B w w') (hB : w.heap.size ≤ B) : Lns w' a ls := fun hp => by
  obtain ⟨b, off, ha, hc⟩ := h hp
  exact ⟨b, off, ha, fun j hj => (hc j hj).below hb (Nat.lt_of_lt_of_le (hc j hj).lt hB)⟩

theorem Lns.ext {w w' : World} {a : Option Addr} {ls : List Ln} (h : Lns w a ls) (hE : Ext w w') : Lns w' a ls := h.below hE (Nat.le_refl _)

theorem Lns.hept {w : World} {a : Option Addr} {ls : List Ln} (h : Lns w a ls) {k : Nat} (hk : k < ls.length) {l : Ln} (hl : l = ls.getD k zeroL) : ∃ b off, a = some ⟨b, off, none⟩ ∧ Hept w b (off + k * 7) l := by
  obtain ⟨b, off, ha, hc⟩ := h (by omega)
  exact ⟨b, off, ha, by rw [hl]; exact hc k hk⟩

/-- Their texts are no longer than that. -/
def TextsP (ls : List Ln) : Prop := ∀ j, j < ls.length → (ls.getD j zeroL).lab.size ≤ 1048576 ∧ (ls.getD j zeroL).yes.size ≤ 1048576 ∧ (ls.getD j zeroL).no.size ≤ 1048576

/-- The map of the first n lines' places. -/
def upTo (ls : List Ln) : Nat → ByteArray → Option Nat
  | 0 => fun _ => none
  | n + 1 => if (ls.getD n zeroL).wd.1 = 0 then putM (upTo ls n) (ls.getD n zeroL).lab n else upTo ls n

theorem upTo_succ (ls : List Ln) (n : Nat) : upTo ls (n + 1) = if (ls.getD n zeroL).wd.1 = 0 then putM (upTo ls n) (ls.getD n zeroL).lab n else upTo ls n := rfl

theorem upTo_some {ls : List Ln} : ∀ {n : Nat} {s : ByteArray} {j : Nat}, upTo ls n s = some j → j < n ∧ opAt (ls.getD j zeroL) s
  | 0, s, j, h => by cases h
  | n + 1, s, j, h => by
    unfold upTo at h
    by_cases h0 : (ls.getD n zeroL).wd.1 = 0
    · rw [if_pos h0] at h
      unfold putM at h
      by_cases e : s = (ls.getD n zeroL).lab
      · rw [if_pos e] at h
        injection h with h
        subst h
        exact ⟨Nat.lt_succ_self _, h0, e.symm⟩
      · rw [if_neg e] at h
        have := upTo_some h
        exact ⟨by omega, this.2⟩
    · rw [if_neg h0] at h
      have := upTo_some h
      exact ⟨by omega, this.2⟩

theorem upTo_none {ls : List Ln} : ∀ {n : Nat} {s : ByteArray}, upTo ls n s = none → ∀ j, j < n → ¬ opAt (ls.getD j zeroL) s
  | 0, s, h, j, hj, _ => by omega
  | n + 1, s, h, j, hj, ho => by
    unfold upTo at h
    by_cases h0 : (ls.getD n zeroL).wd.1 = 0
    · rw [if_pos h0] at h
      unfold putM at h
      by_cases e : s = (ls.getD n zeroL).lab
      · rw [if_pos e] at h
        cases h
      · rw [if_neg e] at h
        rcases Nat.lt_or_ge j n with hjn | hjn
        · exact upTo_none h j hjn ho
        · obtain rfl : j = n := by omega
          exact e ho.2.symm
    · rw [if_neg h0] at h
      rcases Nat.lt_or_ge j n with hjn | hjn
      · exact upTo_none h j hjn ho
      · obtain rfl : j = n := by omega
        exact h0 ho.1

/-- What the whole map has: where each way's label stands. -/
theorem upTo_pos {ls : List Ln} (hl : linesP ls) {s : ByteArray} {i : Nat} (h : onP ls i s) : upTo ls ls.length s = some (pos ls s) := by
  cases e : upTo ls ls.length s with
  | none => exact absurd (isAt_op (pos_at h.2)) (upTo_none e _ h.2)
  | some j =>
    obtain ⟨hj, ho⟩ := upTo_some e
    have h0 := (lineP_zero (hl.2.2 j hj)).1 ho.1
    rcases hl.2.2 j hj with ⟨_, _, _, _, hp⟩ | ⟨hz, _⟩
    · rw [ho.2] at hp
      rw [hp]
    · exact absurd h0 hz

theorem once_next {ls : List Ln} {n : Nat} (h : oncePto ls n) (hs : (ls.getD n zeroL).wd.1 = 0 → upTo ls n (ls.getD n zeroL).lab = none) : oncePto ls (n + 1) := by
  intro i j hij hj h0 h1 he
  rcases Nat.lt_or_ge j n with hjn | hjn
  · exact h i j hij hjn h0 h1 he
  · obtain rfl : j = n := by omega
    exact upTo_none (hs h1) i hij ⟨h0, he⟩

theorem once_not {ls : List Ln} {n j : Nat} (hn : n < ls.length) (h0 : (ls.getD n zeroL).wd.1 = 0) (hs : upTo ls n (ls.getD n zeroL).lab = some j) : ¬ oncePto ls ls.length := fun h => by
  obtain ⟨hj, ho⟩ := upTo_some hs
  exact h j n hj hn ho.1 h0 ho.2

/-- Just these labels are told: those of places from i on. -/
def BehM (ls : List Ln) (i : Nat) (M : ByteArray → Option Nat) : Prop := ∀ s, (M s).isSome = true ↔ behP ls i s

theorem behM_start (ls : List Ln) : BehM ls 0 (upTo ls ls.length) := fun s => by
  constructor
  · intro h
    obtain ⟨j, hj⟩ := Option.isSome_iff_exists.1 h
    obtain ⟨h1, h2⟩ := upTo_some hj
    exact ⟨j, Nat.zero_le _, h1, h2⟩
  · rintro ⟨j, _, hj, ho⟩
    cases e : upTo ls ls.length s with
    | none => exact absurd ho (upTo_none e j hj)
    | some k => rfl

theorem behM_pass {ls : List Ln} {i : Nat} {M : ByteArray → Option Nat} (h : BehM ls i M) (h0 : (ls.getD i zeroL).wd.1 ≠ 0) : BehM ls (i + 1) M := fun s => by
  rw [h s]
  constructor
  · rintro ⟨j, hij, hj, ho⟩
    refine ⟨j, ?_, hj, ho⟩
    rcases Nat.lt_or_ge i j with hlt | hge
    · exact hlt
    · obtain rfl : j = i := by omega
      exact absurd ho.1 h0
  · rintro ⟨j, hij, hj, ho⟩
    exact ⟨j, by omega, hj, ho⟩

theorem behM_strike {ls : List Ln} {i : Nat} {M : ByteArray → Option Nat} (h : BehM ls i M) (hi : i < ls.length) (h0 : (ls.getD i zeroL).wd.1 = 0) (honce : oncePto ls ls.length) : BehM ls (i + 1) (delM M (ls.getD i zeroL).lab) := fun s => by
  unfold delM
  by_cases e : s = (ls.getD i zeroL).lab
  · rw [if_pos e]
    constructor
    · intro hh; cases hh
    · rintro ⟨j, hij, hj, ho⟩
      exact absurd (ho.2.trans e).symm (honce i j hij hj h0 ho.1)
  · rw [if_neg e, h s]
    constructor
    · rintro ⟨j, hij, hj, ho⟩
      refine ⟨j, ?_, hj, ho⟩
      rcases Nat.lt_or_ge i j with hlt | hge
      · exact hlt
      · obtain rfl : j = i := by omega
        exact absurd ho.2.symm e
    · rintro ⟨j, hij, hj, ho⟩
      exact ⟨j, by omega, hj, ho⟩

end Go.Proofs.Ytakcmiijnckaaaa
