/- Plain facts on decimal figures: the figures of a number, and that figures without a needless nought come back. -/
import Derived.Test.YthflflhcbnianaaFigMath
import Derived.Laws.Concat
namespace Go.Proofs.Ythflflhcbnianaa
open Go.RowKit

def decG : Nat → Nat → List UInt8
  | 0, _ => []
  | f + 1, n => if n = 0 then [] else decG f (n / 10) ++ [hexD (n % 10)]

theorem decG_fuel : ∀ f g n : Nat, n ≤ f → n ≤ g → decG f n = decG g n
  | 0, 0, _, _, _ => rfl
  | 0, g + 1, n, h, _ => by simp [decG]; omega
  | f + 1, 0, n, _, h => by simp [decG]; omega
  | f + 1, g + 1, n, h, k => by
    simp only [decG]
    by_cases hn : n = 0
    · rw [if_pos hn, if_pos hn]
    · rw [if_neg hn, if_neg hn, decG_fuel f g (n / 10) (by omega) (by omega)]

def dec (n : Nat) : List UInt8 := decG n n

theorem dec_zero : dec 0 = [] := rfl

theorem dec_pos (n : Nat) (h : 0 < n) : dec n = dec (n / 10) ++ [hexD (n % 10)] := by
  unfold dec
  match n, h with
  | n + 1, h => simp only [decG]; rw [if_neg (by omega), decG_fuel n ((n + 1) / 10) ((n + 1) / 10) (by omega) (by omega)]

def decS (n : Nat) : List UInt8 := if n = 0 then [48] else dec n

theorem add_cons {P : Program} (wx : World) (b : UInt8) (l : List UInt8) (h : l.length + 1 ≤ 9223372036854775807) :
    (Op.stringOp .add ⟨#[b]⟩ ⟨l.toArray⟩).run P wx = .ok (.string ⟨(b :: l).toArray⟩) wx := by
  rw [run_string_add_sum wx _ _ (by simp [ByteArray.size]; omega)]
  have : (⟨#[b]⟩ : ByteArray) = ⟨[b].toArray⟩ := rfl
  rw [this, ByteArray.mk_append_mk]
  rfl

theorem numF_snoc (base : Nat) (c : UInt8) : ∀ (u : List UInt8) (n : Nat), numF base (u ++ [c]) n = match numF base u n with
    | none => none
    | some m => match fig base c with
      | none => none
      | some d => some (m * base + d)
  | [], n => by simp only [List.nil_append, numF]; cases fig base c <;> rfl
  | b :: u, n => by
    simp only [List.cons_append, numF]
    cases fig base b with
    | none => rfl
    | some d => exact numF_snoc base c u _

theorem fig10 (b : UInt8) (d : Nat) (h : fig 10 b = some d) : d < 10 ∧ b = hexD d := by
  unfold fig at h
  by_cases h1 : 48 ≤ b.toNat ∧ b.toNat ≤ 57 ∧ b.toNat - 48 < 10
  · rw [if_pos h1] at h
    have := Option.some.inj h
    refine ⟨by omega, UInt8.toNat_inj.1 ?_⟩
    rw [hexD_nat d (by omega)]
    unfold hexN
    rw [if_pos (by omega)]
    omega
  · rw [if_neg h1] at h
    rw [if_neg (by omega)] at h
    cases h

theorem fig10_in (b : UInt8) (h1 : 48 ≤ b.toNat) (h2 : b.toNat ≤ 57) : fig 10 b = some (b.toNat - 48) := by
  unfold fig; rw [if_pos (by omega)]

theorem fig10_out (b : UInt8) (h : b.toNat < 48 ∨ 57 < b.toNat) : fig 10 b = none := by
  unfold fig; rw [if_neg (by omega), if_neg (by omega)]

theorem hexD_zero : hexD 0 = 48 := rfl

theorem hexD_ne (d : Nat) (h : 0 < d) (h' : d < 10) : hexD d ≠ 48 := by
  intro e
  have := congrArg UInt8.toNat e
  rw [hexD_nat d (by omega)] at this
  unfold hexN at this
  rw [if_pos h'] at this
  simp at this
  omega

/-- Figures come back: those that do not begin with a nought; by the text's own length. -/
theorem dec_numF : ∀ (k : Nat) (t : List UInt8) (n : Nat), t.length = k → t ≠ [] → t.head? ≠ some 48 → numF 10 t 0 = some n → 0 < n ∧ dec n = t := by
  intro k
  induction k with
  | zero => intro t n hk h0; exact absurd (List.length_eq_zero_iff.1 hk) h0
  | succ k ih =>
    intro t n hk h0 hh hn
    obtain ⟨u, c, rfl⟩ : ∃ u c, t = u ++ [c] := ⟨t.dropLast, t.getLast h0, (List.dropLast_concat_getLast h0).symm⟩
    rw [numF_snoc] at hn
    by_cases hu : u = []
    · subst hu
      simp only [numF] at hn
      cases hf : fig 10 c with
      | none => rw [hf] at hn; cases hn
      | some d =>
        rw [hf] at hn
        obtain ⟨hd, hc⟩ := fig10 c d hf
        simp at hn hh
        subst hn
        have hd0 : d ≠ 0 := fun e => hh (by rw [hc, e]; rfl)
        refine ⟨by omega, ?_⟩
        rw [dec_pos d (by omega), show d / 10 = 0 by omega, dec_zero, show d % 10 = d by omega, hc]
    · cases hm : numF 10 u 0 with
      | none => rw [hm] at hn; cases hn
      | some m =>
        rw [hm] at hn
        have hl : u.length = k := by simpa using hk
        have hh' : u.head? ≠ some 48 := by
          cases u with
          | nil => exact absurd rfl hu
          | cons x r => simpa using hh
        obtain ⟨hm0, hdm⟩ := ih u m hl hu hh' hm
        cases hf : fig 10 c with
        | none => rw [hf] at hn; cases hn
        | some d =>
          rw [hf] at hn
          obtain ⟨hd, hc⟩ := fig10 c d hf
          have hn' : m * 10 + d = n := Option.some.inj hn
          refine ⟨by omega, ?_⟩
          rw [dec_pos n (by omega), show n / 10 = m by omega, hdm, show n % 10 = d by omega, hc]

theorem dec_head : ∀ (k n : Nat), n ≤ k → 0 < n → ∃ x r, dec n = x :: r ∧ x ≠ 48 := by
  intro k
  induction k with
  | zero => intro n h h0; omega
  | succ k ih =>
    intro n h h0
    rw [dec_pos n h0]
    by_cases hq : n / 10 = 0
    · rw [hq, dec_zero]
      exact ⟨_, [], rfl, hexD_ne _ (by omega) (by omega)⟩
    · obtain ⟨x, r, e, hx⟩ := ih (n / 10) (by omega) (by omega)
      rw [e]
      exact ⟨x, _, rfl, hx⟩

def RD (t : List UInt8) : Option Nat := if 10 < t.length then none else match numF 10 t 0 with
  | none => none
  | some n => if n ≤ 1000000000 ∧ decS n = t then some n else none

theorem RD_long (t : List UInt8) (h : 10 < t.length) : RD t = none := by unfold RD; rw [if_pos h]
theorem RD_nil : RD [] = none := by unfold RD; rfl
theorem RD_none (t : List UInt8) (h : numF 10 t 0 = none) : RD t = none := by unfold RD; rw [h]; split <;> rfl
theorem RD_big (t : List UInt8) (n : Nat) (h : numF 10 t 0 = some n) (hn : 1000000000 < n) : RD t = none := by
  unfold RD; rw [h]; split
  · rfl
  · simp; omega
theorem RD_unlike (t : List UInt8) (n : Nat) (h : numF 10 t 0 = some n) (hn : decS n ≠ t) : RD t = none := by
  unfold RD; rw [h]; split
  · rfl
  · simp [hn]
theorem RD_some (t : List UInt8) (n : Nat) (hl : t.length ≤ 10) (h : numF 10 t 0 = some n) (hn : n ≤ 1000000000) (hd : decS n = t) : RD t = some n := by
  unfold RD; rw [h, if_neg (by omega)]; simp [hn, hd]

theorem decS_nought (t : List UInt8) (n : Nat) (r : List UInt8) (x : UInt8) (ht : t = 48 :: x :: r) : decS n ≠ t := by
  subst ht
  unfold decS
  by_cases h0 : n = 0
  · rw [if_pos h0]; simp
  · rw [if_neg h0]
    obtain ⟨y, q, e, hy⟩ := dec_head n n (Nat.le_refl _) (by omega)
    rw [e]
    intro e2
    exact hy (List.cons.inj e2).1

theorem RD_nought (t : List UInt8) (h : t.head? = some 48) (hl : 1 < t.length) : RD t = none := by
  cases t with
  | nil => simp at h
  | cons y r =>
    cases r with
    | nil => simp at hl
    | cons x r =>
      simp at h
      subst h
      cases hn : numF 10 (48 :: x :: r) 0 with
      | none => exact RD_none _ hn
      | some n => exact RD_unlike _ n hn (decS_nought _ n r x rfl)

theorem RD_right (t : List UInt8) (n : Nat) (hl : t.length ≤ 10) (h0 : t ≠ []) (hz : t.head? ≠ some 48 ∨ t.length ≤ 1) (h : numF 10 t 0 = some n) (hn : n ≤ 1000000000) : RD t = some n := by
  refine RD_some t n hl h hn ?_
  by_cases hh : t.head? = some 48
  · rcases hz with hz | hz
    · exact absurd hh hz
    · cases t with
      | nil => exact absurd rfl h0
      | cons y r =>
        simp at hh hz
        subst hh; subst hz
        have : numF 10 [48] 0 = some 0 := by decide
        rw [this] at h
        obtain rfl := Option.some.inj h
        rfl
  · obtain ⟨hp, hd⟩ := dec_numF _ t n rfl h0 hh h
    unfold decS
    rw [if_neg (by omega)]
    exact hd

theorem NS.next10 {t : List UInt8} {i n : Nat} (h : NS 10 t i n) (hi : i < t.length) (h1 : 48 ≤ t[i].toNat) (h2 : t[i].toNat ≤ 57) : NS 10 t (i + 1) (n * 10 + (t[i].toNat - 48)) := by
  refine ⟨?_, ?_⟩
  · rw [h.1, List.drop_eq_getElem_cons hi]
    simp only [numF]
    rw [fig10_in _ h1 h2]
  · rw [Nat.pow_succ]
    have h2 := h.2
    omega

theorem NS.none10 {t : List UInt8} {i n : Nat} (h : NS 10 t i n) (hi : i < t.length) (hb : t[i].toNat < 48 ∨ 57 < t[i].toNat) : numF 10 t 0 = Option.none := by
  rw [h.1, List.drop_eq_getElem_cons hi]
  simp only [numF]
  rw [fig10_out _ hb]

end Go.Proofs.Ythflflhcbnianaa
