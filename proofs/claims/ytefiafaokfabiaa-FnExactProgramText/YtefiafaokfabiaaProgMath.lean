/- Words and programs as bytes, in plain lists: what is written is read back, and what is read is written again. -/
import Derived.Test.YtefiafaokfabiaaInsMath
import Derived.Test.YtefiafaokfabiaaOrMath
import Derived.Test.YtefiafaokfabiaaInsText0
namespace Go.Proofs.Ytefiafaokfabiaa
open Go.RowKit
set_option linter.unusedVariables false

/-- A word: Op, K, Yes, No. -/
abbrev Wd := Int × Int × Int × Int

def Wd.val (p : Wd) : Value := .agg #[.int .i64 p.1, .int .i64 p.2.1, .int .i64 p.2.2.1, .int .i64 p.2.2.2]

def zeroW : Wd := (0, 0, 0, 0)

def okW (p : Wd) : Bool := insB p.1 p.2.1 p.2.2.1 p.2.2.2

/-- The seven bytes of a word. -/
def bytesW (p : Wd) : List UInt8 := insL p.1.toNat p.2.1.toNat p.2.2.1.toNat p.2.2.2.toNat

theorem bytesW_length (p : Wd) : (bytesW p).length = 7 := insL_length _ _ _ _

/-- The word of seven bytes. -/
def wordL (l : List UInt8) : Wd := ((l.getD 0 0).toNat, kOf (l.getD 3 0).toNat (l.getD 4 0).toNat (l.getD 5 0).toNat (l.getD 6 0).toNat, (l.getD 1 0).toNat, (l.getD 2 0).toNat)

def readW (l : List UInt8) : Option Wd := if l.length = 7 ∧ okW (wordL l) = true then some (wordL l) else none

def textW (p : Wd) : Option (List UInt8) := if okW p then some (bytesW p) else none

theorem seven {l : List UInt8} (h : l.length = 7) : ∃ c0 c1 c2 c3 c4 c5 c6, l = [c0, c1, c2, c3, c4, c5, c6] := by
  match l, h with
  | [a, b, c, d, e, f, g], _ => exact ⟨a, b, c, d, e, f, g, rfl⟩

theorem byte_low (n : Nat) (c : UInt8) (h : n % 256 = c.toNat) : UInt8.ofNat n = c := by
  apply UInt8.toNat_inj.1
  simp [h]

theorem wordL_text {l : List UInt8} (h : l.length = 7) : bytesW (wordL l) = l := by
  obtain ⟨c0, c1, c2, c3, c4, c5, c6, rfl⟩ := seven h
  have h3 := c3.toNat_lt
  have h4 := c4.toNat_lt
  have h5 := c5.toNat_lt
  have h6 := c6.toNat_lt
  simp only [bytesW, wordL, insL, beN, kOf, List.getD_eq_getElem?_getD, List.getElem?_cons_zero, List.getElem?_cons_succ, Option.getD_some, Int.toNat_natCast, List.cons_append, List.nil_append]
  have h0 := c0.toNat_lt
  have h1 := c1.toNat_lt
  have h2 := c2.toNat_lt
  simp only [List.cons.injEq, and_true, Nat.reduceMul, Nat.reducePow]
  exact ⟨byte_low _ _ (by omega), byte_low _ _ (by omega), byte_low _ _ (by omega), byte_low _ _ (by omega), byte_low _ _ (by omega), byte_low _ _ (by omega), byte_low _ _ (by omega)⟩

theorem wordL_bytes {p : Wd} (h : okW p = true) : wordL (bytesW p) = p := by
  obtain ⟨o, k, y, n⟩ := p
  unfold okW at h
  rw [insB_true] at h
  unfold insP at h
  simp only at h
  obtain ⟨o', rfl⟩ : ∃ o' : Nat, o = o' := ⟨o.toNat, by omega⟩
  obtain ⟨k', rfl⟩ : ∃ k' : Nat, k = k' := ⟨k.toNat, by omega⟩
  obtain ⟨y', rfl⟩ : ∃ y' : Nat, y = y' := ⟨y.toNat, by omega⟩
  obtain ⟨n', rfl⟩ : ∃ n' : Nat, n = n' := ⟨n.toNat, by omega⟩
  simp only [bytesW, wordL, insL, beN, kOf, List.getD_eq_getElem?_getD, List.getElem?_cons_zero, List.getElem?_cons_succ, Option.getD_some, Int.toNat_natCast, List.cons_append, List.nil_append, UInt8.toNat_ofNat', Prod.mk.injEq]
  refine ⟨by omega, ?_, by omega, by omega⟩
  have : k' < 4294967296 := by omega
  simp only [Nat.reducePow, Nat.reduceMul]
  omega

theorem readW_some {l : List UInt8} {p : Wd} (h : readW l = some p) : l.length = 7 ∧ okW p = true ∧ p = wordL l ∧ bytesW p = l := by
  unfold readW at h
  split at h
  · rename_i hh
    cases h
    exact ⟨hh.1, hh.2, rfl, wordL_text hh.1⟩
  · cases h

theorem readW_bytes {p : Wd} (h : okW p = true) : readW (bytesW p) = some p := by
  unfold readW
  rw [wordL_bytes h, if_pos ⟨bytesW_length p, h⟩]

theorem textW_some {p : Wd} (h : okW p = true) : textW p = some (bytesW p) := by simp [textW, h]

theorem textW_none {p : Wd} (h : okW p = false) : textW p = none := by simp [textW, h]

/-- The bytes of a program. -/
def bytesP (ws : List Wd) : List UInt8 := ws.flatMap bytesW

theorem bytesP_length : ∀ ws : List Wd, (bytesP ws).length = 7 * ws.length
  | [] => rfl
  | p :: ws => by
    have := bytesP_length ws
    simp only [bytesP, List.flatMap_cons, List.length_append, bytesW_length, List.length_cons] at *
    omega

def textP (ws : List Wd) : Option (List UInt8) := if 1 ≤ ws.length ∧ ws.length ≤ 400 ∧ ws.all okW = true then some (bytesP ws) else none

/-- Word j of these bytes. -/
def wordAt (l : List UInt8) (j : Nat) : Wd := wordL ((l.drop (7 * j)).take 7)

/-- The first n words of these bytes. -/
def headW (l : List UInt8) (n : Nat) : List Wd := (List.range n).map (wordAt l)

theorem headW_length (l : List UInt8) (n : Nat) : (headW l n).length = n := by simp [headW]

theorem headW_succ (l : List UInt8) (n : Nat) : headW l (n + 1) = headW l n ++ [wordAt l n] := by simp [headW, List.range_succ]

def readP (l : List UInt8) : Option (List Wd) := if l.length % 7 = 0 ∧ 1 ≤ l.length / 7 ∧ l.length / 7 ≤ 400 ∧ (headW l (l.length / 7)).all okW = true then some (headW l (l.length / 7)) else none

theorem bytesP_first (l : List UInt8) : ∀ n, 7 * n ≤ l.length → bytesP (headW l n) = l.take (7 * n)
  | 0, _ => by simp [headW, bytesP]
  | n + 1, h => by
    have ih := bytesP_first l n (by omega)
    rw [headW_succ, bytesP, List.flatMap_append]
    rw [bytesP] at ih
    rw [ih]
    simp only [List.flatMap_cons, List.flatMap_nil, List.append_nil, wordAt]
    rw [wordL_text (by simp; omega), show 7 * (n + 1) = 7 * n + 7 by omega, List.take_add]

theorem wordAt_bytes : ∀ (ws : List Wd) (j : Nat) (hj : j < ws.length), ws.all okW = true → wordAt (bytesP ws) j = ws[j]
  | p :: ws, 0, _, h => by
    simp only [List.all_cons, Bool.and_eq_true] at h
    simp only [wordAt, bytesP, List.flatMap_cons, Nat.mul_zero, List.drop_zero, List.getElem_cons_zero]
    rw [List.take_left' (bytesW_length p), wordL_bytes h.1]
  | p :: ws, j + 1, hj, h => by
    simp only [List.all_cons, Bool.and_eq_true] at h
    have ih := wordAt_bytes ws j (by simpa using hj) h.2
    simp only [List.getElem_cons_succ]
    rw [← ih]
    simp only [wordAt, bytesP, List.flatMap_cons]
    rw [show 7 * (j + 1) = 7 + 7 * j by omega, ← List.drop_drop, List.drop_left' (bytesW_length p)]

theorem headW_bytes (ws : List Wd) (h : ws.all okW = true) : headW (bytesP ws) ws.length = ws := by
  apply List.ext_getElem
  · simp [headW]
  · intro i h1 h2
    simp only [headW, List.getElem_map, List.getElem_range]
    exact wordAt_bytes ws i h2 h

theorem readP_text {ws : List Wd} {l : List UInt8} (h : textP ws = some l) : readP l = some ws := by
  unfold textP at h
  split at h
  · rename_i hh
    cases h
    have hl := bytesP_length ws
    have hd : (bytesP ws).length / 7 = ws.length := by omega
    unfold readP
    rw [hd, headW_bytes ws hh.2.2, if_pos ⟨by omega, hh.1, hh.2.1, hh.2.2⟩]
  · cases h

theorem textP_read {ws : List Wd} {l : List UInt8} (h : readP l = some ws) : textP ws = some l := by
  unfold readP at h
  split at h
  · rename_i hh
    cases h
    unfold textP
    rw [headW_length, if_pos hh.2, bytesP_first l _ (by omega), List.take_of_length_le (by omega)]
  · cases h

end Go.Proofs.Ytefiafaokfabiaa
