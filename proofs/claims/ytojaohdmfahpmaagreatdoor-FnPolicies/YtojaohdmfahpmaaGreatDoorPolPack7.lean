/- Signs of a text in plain lists of bytes: what one sign is, what a text's signs are, and that pieces which are as long as they may be tell the same. -/
import Derived.Test.YtojaohdmfahpmaaGreatDoorPolPack4
import Derived.Laws.Concat
/- Plain facts on decimal figures: the figures of a number, and that figures without a needless nought come back. -/
namespace Go.Proofs.YtojaohdmfahpmaaGreatDoor
open Go.RowKit
set_option linter.unusedVariables false

def decG : Nat → Nat → List UInt8
  | 0, _ => []
  | f + 1, n => if n = 0 then [] else decG f (n / 10) ++ [hexD (n % 10)]

theorem decG_fuel : ∀ f g n : Nat, n ≤ f → n ≤ g → decG f n = decG g n
  | 0, 0, _, _, _ => rfl
  | 0, g + 1, n, h, _ => by simp [decG]; omega
  | f + 1, 0, n, _, h => by simp [decG]; omega
  | f + 1, g + 1, n, h, k => by
    simp only [decG]
    by_cases hn : n = 0
    · rw [if_pos hn, if_pos hn]
    · rw [if_neg hn, if_neg hn, decG_fuel f g (n / 10) (by omega) (by omega)]

def dec (n : Nat) : List UInt8 := decG n n

theorem dec_zero : dec 0 = [] := rfl

theorem dec_pos (n : Nat) (h : 0 < n) : dec n = dec (n / 10) ++ [hexD (n % 10)] := by
  unfold dec
  match n, h with
  | n + 1, h => simp only [decG]; rw [if_neg (by omega), decG_fuel n ((n + 1) / 10) ((n + 1) / 10) (by omega) (by omega)]

def decS (n : Nat) : List UInt8 := if n = 0 then [48] else dec n

theorem add_cons {P : Program} (wx : World) (b : UInt8) (l : List UInt8) (h : l.length + 1 ≤ 9223372036854775807) :
    (Op.stringOp .add ⟨#[b]⟩ ⟨l.toArray⟩).run P wx = .ok (.string ⟨(b :: l).toArray⟩) wx := by
  rw [run_string_add_sum wx _ _ (by simp [ByteArray.size]; omega)]
  have : (⟨#[b]⟩ : ByteArray) = ⟨[b].toArray⟩ := rfl
  rw [this, ByteArray.mk_append_mk]
  rfl

theorem numF_snoc (base : Nat) (c : UInt8) : ∀ (u : List UInt8) (n : Nat), numF base (u ++ [c]) n = match numF base u n with
    | none => none
    | some m => match fig base c with
      | none => none
      | some d => some (m * base + d)
  | [], n => by simp only [List.nil_append, numF]; cases fig base c <;> rfl
  | b :: u, n => by
    simp only [List.cons_append, numF]
    cases fig base b with
    | none => rfl
    | some d => exact numF_snoc base c u _

theorem fig10_in (b : UInt8) (h1 : 48 ≤ b.toNat) (h2 : b.toNat ≤ 57) : fig 10 b = some (b.toNat - 48) := by
  unfold fig; rw [if_pos (by omega)]

theorem NS.next10 {t : List UInt8} {i n : Nat} (h : NS 10 t i n) (hi : i < t.length) (h1 : 48 ≤ t[i].toNat) (h2 : t[i].toNat ≤ 57) : NS 10 t (i + 1) (n * 10 + (t[i].toNat - 48)) := by
  refine ⟨?_, ?_⟩
  · rw [h.1, List.drop_eq_getElem_cons hi]
    simp only [numF]
    rw [fig10_in _ h1 h2]
  · rw [Nat.pow_succ]
    have h2 := h.2
    omega

/-- A sign: its kind, its text, its number. -/
abbrev Sg : Type := Int × List UInt8 × Int

def zeroG : Sg := (0, [], 0)

def kindB (b : UInt8) : Nat := if b.toNat = 32 ∨ b.toNat = 10 then 0 else if 97 ≤ b.toNat ∧ b.toNat ≤ 122 then 1 else if 48 ≤ b.toNat ∧ b.toNat ≤ 57 then 2 else 3

theorem kindB_le (b : UInt8) : kindB b ≤ 3 := by unfold kindB; split <;> (try split) <;> (try split) <;> omega
theorem kindB_0 {b : UInt8} : kindB b = 0 ↔ b.toNat = 32 ∨ b.toNat = 10 := by unfold kindB; split <;> (try split) <;> (try split) <;> simp_all
theorem kindB_1 {b : UInt8} : kindB b = 1 ↔ 97 ≤ b.toNat ∧ b.toNat ≤ 122 := by
  unfold kindB
  split
  · constructor <;> intro h <;> omega
  · split
    · simp_all
    · split <;> constructor <;> intro h <;> omega
theorem kindB_2 {b : UInt8} : kindB b = 2 ↔ 48 ≤ b.toNat ∧ b.toNat ≤ 57 := by
  unfold kindB
  split
  · constructor <;> intro h <;> omega
  · split
    · constructor <;> intro h <;> omega
    · split <;> constructor <;> intro h <;> omega
theorem kindB_high {b : UInt8} (h : 128 ≤ b.toNat) : kindB b = 3 := by
  unfold kindB
  rw [if_neg (by omega), if_neg (by omega), if_neg (by omega)]

def markL : List (List UInt8) := [[61, 61], [33, 61], [60, 61], [62, 61], [60], [62], [38], [58], [59], [44]]

def isMarkL (l : List UInt8) : Bool := markL.contains l

/-- The first mark of the list that stands at the head; nothing: none. -/
def markAt (l : List UInt8) : List UInt8 := (markL.find? fun m => l.take m.length == m).getD []

def runL (k : Nat) (l : List UInt8) : Nat := (l.takeWhile fun b => kindB b == k).length

/-- What sign a piece of a kind is. -/
def signOf (k : Nat) (l : List UInt8) : Option Sg :=
  if k = 1 then (if l.length ≤ 12 then some (1, l, 0) else none)
  else if k = 2 then (match numF 10 l 0 with
    | some n => if l.length ≤ 10 ∧ n ≤ 4294967295 then some (2, [], (n : Int)) else none
    | none => none)
  else if isMarkL l = true then some (3, l, 0) else none

/-- How long what stands at the head is. -/
def wideL (b : UInt8) (r : List UInt8) : Nat := if kindB b = 3 then (markAt (b :: r)).length else runL (kindB b) (b :: r)

def SGf : Nat → List UInt8 → Option (List Sg)
  | 0, _ => some []
  | _ + 1, [] => some []
  | f + 1, b :: r =>
    if kindB b = 0 then SGf f r
    else match signOf (kindB b) ((b :: r).take (wideL b r)) with
      | none => none
      | some s => (SGf f ((b :: r).drop (wideL b r))).map (s :: ·)

def SG (l : List UInt8) : Option (List Sg) := SGf l.length l

theorem isMarkL_nil : isMarkL [] = false := by decide

theorem wide_pos {b : UInt8} {r : List UInt8} {s : Sg} (h0 : ¬ kindB b = 0) (h : signOf (kindB b) ((b :: r).take (wideL b r)) = some s) : 1 ≤ wideL b r := by
  by_cases h3 : kindB b = 3
  · rcases Nat.eq_zero_or_pos (wideL b r) with hz | hz
    · rw [hz, h3, List.take_zero] at h
      simp [signOf, isMarkL_nil] at h
    · exact hz
  · unfold wideL runL
    rw [if_neg h3]
    simp

theorem SGf_fuel : ∀ f g l, l.length ≤ f → l.length ≤ g → SGf f l = SGf g l
  | 0, 0, _, _, _ => rfl
  | 0, g + 1, l, h, _ => by obtain rfl : l = [] := List.length_eq_zero_iff.1 (by omega); rfl
  | f + 1, 0, l, _, h => by obtain rfl : l = [] := List.length_eq_zero_iff.1 (by omega); rfl
  | f + 1, g + 1, [], _, _ => rfl
  | f + 1, g + 1, b :: r, h, k => by
    simp only [List.length_cons] at h k
    simp only [SGf]
    by_cases h0 : kindB b = 0
    · rw [if_pos h0, if_pos h0, SGf_fuel f g r (by omega) (by omega)]
    · rw [if_neg h0, if_neg h0]
      cases hs : signOf (kindB b) ((b :: r).take (wideL b r)) with
      | none => rfl
      | some s =>
        have hw := wide_pos h0 hs
        have hl : ((b :: r).drop (wideL b r)).length ≤ r.length := by simp; omega
        simp only
        rw [SGf_fuel f g _ (by omega) (by omega)]

theorem SG_nil : SG [] = some [] := rfl

theorem SG_blank {b : UInt8} {r : List UInt8} (h : kindB b = 0) : SG (b :: r) = SG r := by
  unfold SG
  rw [List.length_cons]
  simp only [SGf]
  rw [if_pos h]

theorem SG_none {b : UInt8} {r : List UInt8} (h0 : ¬ kindB b = 0) (h : signOf (kindB b) ((b :: r).take (wideL b r)) = none) : SG (b :: r) = none := by
  unfold SG
  rw [List.length_cons]
  simp only [SGf]
  rw [if_neg h0, h]

theorem SG_some {b : UInt8} {r : List UInt8} {s : Sg} (h0 : ¬ kindB b = 0) (h : signOf (kindB b) ((b :: r).take (wideL b r)) = some s) : SG (b :: r) = (SG ((b :: r).drop (wideL b r))).map (s :: ·) := by
  have hw := wide_pos h0 h
  unfold SG
  rw [List.length_cons]
  simp only [SGf]
  rw [if_neg h0, h]
  simp only
  rw [SGf_fuel r.length ((b :: r).drop (wideL b r)).length _ (by simp; omega) (Nat.le_refl _)]

theorem drop_at {l : List UInt8} {a : Nat} (h : a < l.length) : l.drop a = l[a] :: l.drop (a + 1) := List.drop_eq_getElem_cons h

/-- Signs that were told, and those of the rest. -/
def behind (out : List Sg) (o : Option (List Sg)) : Option (List Sg) := o.map (out ++ ·)

theorem behind_nil (o : Option (List Sg)) : behind [] o = o := by cases o <;> rfl
theorem behind_snoc (out : List Sg) (s : Sg) (o : Option (List Sg)) : behind out (o.map (s :: ·)) = behind (out ++ [s]) o := by cases o <;> simp [behind]
theorem behind_none (out : List Sg) : behind out none = none := rfl
theorem behind_end (out : List Sg) : behind out (SG []) = some out := by simp [behind, SG_nil]

/-- What pieces tell. -/
def SP : List (Nat × List UInt8) → Option (List Sg)
  | [] => some []
  | (k, t) :: r => if k = 0 then SP r else match signOf k t with
    | none => none
    | some s => (SP r).map (s :: ·)

theorem SP_append : ∀ (P Q : List (Nat × List UInt8)), SP (P ++ Q) = (SP P).bind fun o => behind o (SP Q)
  | [], Q => by simp [SP, behind_nil]
  | (k, t) :: r, Q => by
    simp only [List.cons_append, SP]
    by_cases h : k = 0
    · rw [if_pos h, if_pos h, SP_append r Q]
    · rw [if_neg h, if_neg h]
      cases signOf k t with
      | none => rfl
      | some s =>
        simp only
        rw [SP_append r Q]
        cases SP r with
        | none => rfl
        | some o => cases SP Q <;> simp [behind]

/-- The bytes from f to a. -/
def cutL (l : List UInt8) (f a : Nat) : List UInt8 := (l.drop f).take (a - f)

/-- The piece from f to a of a kind. -/
def PieceOk (l : List UInt8) (f k a : Nat) : Prop :=
  (k = 3 ∧ f < a ∧ ∃ b, l[f]? = some b ∧ 128 ≤ b.toNat) ∨
  (f ≤ a ∧ a ≤ l.length ∧ ((k = 0 ∧ ∀ b ∈ cutL l f a, kindB b = 0) ∨ ((k = 1 ∨ k = 2) ∧ f < a ∧ ∀ b ∈ cutL l f a, kindB b = k) ∨
    (k = 3 ∧ (∃ b, l[f]? = some b ∧ kindB b = 3 ∧ b.toNat < 128) ∧ (a = f + 1 ∨ (a = f + 2 ∧ isMarkL (cutL l f a) = true)))))

/-- Nothing more belongs to it. -/
def PieceStops (l : List UInt8) (f k a : Nat) : Prop := a = l.length ∨ ∃ b, l[a]? = some b ∧ (¬ kindB b = k ∨ (k = 3 ∧ isMarkL (cutL l f a ++ [b]) = false))

theorem SG_blanks : ∀ (m : Nat) (l : List UInt8), m ≤ l.length → (∀ b ∈ l.take m, kindB b = 0) → SG l = SG (l.drop m)
  | 0, _, _, _ => rfl
  | m + 1, [], h, _ => by simp at h
  | m + 1, b :: r, h, ha => by
    rw [SG_blank (ha b (by simp)), List.drop_succ_cons]
    exact SG_blanks m r (by simpa using h) fun x hx => ha x (by simp [hx])

theorem runL_of {k m : Nat} : ∀ {l : List UInt8}, (∀ b ∈ l.take m, kindB b = k) → (m = l.length ∨ ∃ b, l[m]? = some b ∧ ¬ kindB b = k) → m ≤ l.length → runL k l = m := by
  induction m with
  | zero =>
    intro l _ h _
    unfold runL
    cases l with
    | nil => rfl
    | cons b r =>
      rcases h with h | ⟨x, hx, hk⟩
      · simp at h
      · simp only [List.getElem?_cons_zero, Option.some.injEq] at hx
        subst hx
        rw [List.takeWhile_cons_of_neg (by simpa using hk)]
        rfl
  | succ m ih =>
    intro l ha h hl
    cases l with
    | nil => simp at hl
    | cons b r =>
      have hb := ha b (by simp)
      unfold runL
      rw [List.takeWhile_cons_of_pos (by simpa using hb), List.length_cons]
      have := ih (l := r) (fun x hx => ha x (by simp [hx])) (by simpa using h) (by simpa using hl)
      unfold runL at this
      rw [this]

theorem behind_sign (s : Sg) (o : Option (List Sg)) : behind [s] o = o.map (s :: ·) := by cases o <;> rfl

theorem marks_head : ∀ m ∈ markL, (m.headD 0).toNat < 128 := by decide
theorem marks_second : ∀ m ∈ markL, (m.getD 1 0).toNat < 128 ∧ (1 < m.length → kindB (m.getD 1 0) = 3) := by decide
theorem marks_short : ∀ m ∈ markL, m.length ≤ 2 ∧ 1 ≤ m.length := by decide

theorem isMark_mem {l : List UInt8} (h : isMarkL l = true) : l ∈ markL := by unfold isMarkL at h; simpa using h
theorem isMark_of {l : List UInt8} (h : l ∈ markL) : isMarkL l = true := by unfold isMarkL; simpa using h

theorem isMarkL_head {b : UInt8} {r : List UInt8} (h : isMarkL (b :: r) = true) : b.toNat < 128 := marks_head _ (isMark_mem h)
theorem isMarkL_short {l : List UInt8} (h : isMarkL l = true) : l.length ≤ 2 := (marks_short _ (isMark_mem h)).1
theorem isMarkL_second {b c : UInt8} (h : isMarkL [b, c] = true) : c.toNat < 128 ∧ kindB c = 3 := ⟨(marks_second _ (isMark_mem h)).1, (marks_second _ (isMark_mem h)).2 (by simp)⟩

theorem markAt_high {b : UInt8} {r : List UInt8} (h : 128 ≤ b.toNat) : markAt (b :: r) = [] := by
  unfold markAt
  have : markL.find? (fun m => (b :: r).take m.length == m) = none := by
    rw [List.find?_eq_none]
    intro m hm hc
    have hc' : (b :: r).take m.length = m := by simpa using hc
    have hs := marks_short m hm
    cases m with
    | nil => simp at hs
    | cons c t =>
      rw [List.length_cons, List.take_succ_cons] at hc'
      injection hc' with h1 h2
      have := marks_head _ hm
      simp only [List.headD_cons] at this
      rw [← h1] at this
      omega
  rw [this]
  rfl

def marks2 : List (List UInt8) := [[61, 61], [33, 61], [60, 61], [62, 61]]
def marks1 : List (List UInt8) := [[60], [62], [38], [58], [59], [44]]
theorem markL_parts : markL = marks2 ++ marks1 := rfl
theorem marks2_len : ∀ m ∈ marks2, m.length = 2 := by decide
theorem marks1_len : ∀ m ∈ marks1, m.length = 1 := by decide
theorem mem_marks2 {l : List UInt8} (h : l ∈ markL) (hl : l.length = 2) : l ∈ marks2 := by
  rw [markL_parts, List.mem_append] at h
  rcases h with h | h
  · exact h
  · have := marks1_len _ h; omega
theorem mem_marks1 {l : List UInt8} (h : l ∈ markL) (hl : l.length = 1) : l ∈ marks1 := by
  rw [markL_parts, List.mem_append] at h
  rcases h with h | h
  · have := marks2_len _ h; omega
  · exact h

theorem markAt_two {b c : UInt8} {r : List UInt8} (h : isMarkL [b, c] = true) : markAt (b :: c :: r) = [b, c] := by
  have hm := mem_marks2 (isMark_mem h) rfl
  unfold marks2 at hm
  simp only [List.mem_cons, List.cons.injEq, List.not_mem_nil, or_false, and_true] at hm
  rcases hm with ⟨rfl, rfl⟩ | ⟨rfl, rfl⟩ | ⟨rfl, rfl⟩ | ⟨rfl, rfl⟩ <;> simp [markAt, markL]

theorem markAt_one {b : UInt8} {r : List UInt8} (h : ∀ c, r[0]? = some c → isMarkL [b, c] = false) : markAt (b :: r) = if isMarkL [b] = true then [b] else [] := by
  have h2 : marks2.find? (fun m => (b :: r).take m.length == m) = none := by
    rw [List.find?_eq_none]
    intro m hm hc
    have hc' : (b :: r).take m.length = m := by simpa using hc
    have hl := marks2_len m hm
    rw [hl] at hc'
    cases r with
    | nil => rw [← hc'] at hl; simp at hl
    | cons c t =>
      have e : m = [b, c] := by rw [← hc']; simp
      have := h c rfl
      rw [isMark_of (by rw [markL_parts, ← e]; exact List.mem_append_left _ hm)] at this
      cases this
  unfold markAt
  rw [markL_parts, List.find?_append, h2, Option.none_or]
  by_cases hb : isMarkL [b] = true
  · rw [if_pos hb]
    have hm := mem_marks1 (isMark_mem hb) rfl
    unfold marks1 at hm
    simp only [List.mem_cons, List.cons.injEq, List.not_mem_nil, or_false, and_true] at hm
    rcases hm with rfl | rfl | rfl | rfl | rfl | rfl <;> simp [marks1]
  · rw [if_neg hb]
    have h1 : marks1.find? (fun m => (b :: r).take m.length == m) = none := by
      rw [List.find?_eq_none]
      intro m hm hc
      have hc' : (b :: r).take m.length = m := by simpa using hc
      have hl := marks1_len m hm
      rw [hl] at hc'
      simp only [List.take_succ_cons, List.take_zero] at hc'
      exact hb (isMark_of (by rw [markL_parts, hc']; exact List.mem_append_right _ hm))
    rw [h1]
    rfl

theorem cut_cons {l : List UInt8} {f a : Nat} (hf : f < l.length) (ha : f < a) : cutL l f a = l[f] :: cutL l (f + 1) a := by
  unfold cutL
  rw [drop_at hf, show a - f = (a - (f + 1)) + 1 by omega, List.take_succ_cons]

/-- The piece's sign, and the signs of the rest. -/
theorem piece_end {l : List UInt8} {f k a : Nat} (h : PieceOk l f k a) (hs : PieceStops l f k a) (ha : a ≤ l.length) : SG (l.drop f) = (SP [(k, cutL l f a)]).bind fun o => behind o (SG (l.drop a)) := by
  rcases h with ⟨rfl, hfa, b, hb, h128⟩ | ⟨hfa, hal, hk⟩
  · obtain ⟨hf, hbf⟩ := List.getElem?_eq_some_iff.1 hb
    have hcut := cut_cons hf hfa
    have hk3 := kindB_high h128
    have e1 : SG (l.drop f) = none := by
      rw [drop_at hf, hbf]
      refine SG_none (by rw [hk3]; decide) ?_
      unfold wideL
      rw [if_pos hk3, hk3, markAt_high h128]
      simp [signOf, isMarkL_nil]
    have e2 : isMarkL (cutL l f a) = false := by
      cases hc : isMarkL (cutL l f a)
      · rfl
      · rw [hcut, hbf] at hc
        have := isMarkL_head hc
        omega
    rw [e1]
    simp [SP, signOf, e2]
  · rcases hk with ⟨rfl, hall⟩ | ⟨hk, hlt, hall⟩ | ⟨rfl, ⟨b, hb, hb3, h128⟩, hw⟩
    · have := SG_blanks (a - f) (l.drop f) (by simp; omega) hall
      rw [this, List.drop_drop, show f + (a - f) = a by omega]
      simp [SP, behind_nil]
    · have hf : f < l.length := by omega
      have h3 : ¬ k = 3 := by omega
      have h0 : ¬ k = 0 := by omega
      have hkb : kindB l[f] = k := hall _ (by rw [cut_cons hf hlt]; simp)
      have hrun : runL k (l.drop f) = a - f := by
        refine runL_of (m := a - f) hall ?_ (by simp; omega)
        rcases hs with hs | ⟨x, hx, hxk⟩
        · left; simp; omega
        · right
          refine ⟨x, ?_, ?_⟩
          · rw [List.getElem?_drop, show f + (a - f) = a by omega]; exact hx
          · rcases hxk with hxk | ⟨h, _⟩
            · exact hxk
            · exact absurd h h3
      have hwd : wideL l[f] (l.drop (f + 1)) = a - f := by
        unfold wideL
        rw [if_neg (by rw [hkb]; exact h3), ← drop_at hf, hkb, hrun]
      have htk : (l[f] :: l.drop (f + 1)).take (wideL l[f] (l.drop (f + 1))) = cutL l f a := by rw [hwd, ← drop_at hf]; rfl
      have hdr : (l[f] :: l.drop (f + 1)).drop (wideL l[f] (l.drop (f + 1))) = l.drop a := by rw [hwd, ← drop_at hf, List.drop_drop, show f + (a - f) = a by omega]
      rw [drop_at hf]
      cases hsg : signOf k (cutL l f a) with
      | none =>
        rw [SG_none (by rw [hkb]; exact h0) (by rw [hkb, htk]; exact hsg)]
        simp [SP, hsg, h0]
      | some s =>
        rw [SG_some (by rw [hkb]; exact h0) (by rw [hkb, htk]; exact hsg), hdr]
        simp [SP, hsg, h0, behind_sign]
    · obtain ⟨hf, hbf⟩ := List.getElem?_eq_some_iff.1 hb
      have hk3 : kindB l[f] = 3 := by rw [hbf]; exact hb3
      have hma : markAt (l[f] :: l.drop (f + 1)) = if isMarkL (cutL l f a) = true then cutL l f a else [] := by
        rcases hw with rfl | ⟨rfl, hmk⟩
        · have ec : cutL l f (f + 1) = [l[f]] := by rw [cut_cons hf (by omega)]; simp [cutL]
          rw [ec]
          refine markAt_one fun c hc => ?_
          rw [List.getElem?_drop, Nat.add_zero] at hc
          rcases hs with hs | ⟨x, hx, hxk⟩
          · rw [List.getElem?_eq_none (by omega)] at hc; cases hc
          · rw [hx] at hc
            obtain rfl := Option.some.inj hc
            rcases hxk with hxk | ⟨_, hxk⟩
            · cases hm : isMarkL [l[f], x]
              · rfl
              · exact absurd (isMarkL_second hm).2 hxk
            · rw [ec] at hxk
              exact hxk
        · have hf1 : f + 1 < l.length := by omega
          have ec : cutL l f (f + 2) = [l[f], l[f + 1]] := by rw [cut_cons hf (by omega), cut_cons hf1 (by omega)]; simp [cutL]
          rw [if_pos hmk, ec, drop_at hf1]
          rw [ec] at hmk
          exact markAt_two hmk
      rw [drop_at hf]
      by_cases hmk : isMarkL (cutL l f a) = true
      · rw [if_pos hmk] at hma
        have hwd : wideL l[f] (l.drop (f + 1)) = a - f := by
          unfold wideL
          rw [if_pos hk3, hma]
          simp [cutL]; omega
        have htk : (l[f] :: l.drop (f + 1)).take (wideL l[f] (l.drop (f + 1))) = cutL l f a := by rw [hwd, ← drop_at hf]; rfl
        have hdr : (l[f] :: l.drop (f + 1)).drop (wideL l[f] (l.drop (f + 1))) = l.drop a := by rw [hwd, ← drop_at hf, List.drop_drop, show f + (a - f) = a by omega]
        have hsg : signOf 3 (cutL l f a) = some (3, cutL l f a, 0) := by simp [signOf, hmk]
        rw [SG_some (by rw [hk3]; decide) (by rw [hk3, htk]; exact hsg), hdr]
        simp [SP, hsg, behind_sign]
      · rw [if_neg hmk] at hma
        have hwd : wideL l[f] (l.drop (f + 1)) = 0 := by unfold wideL; rw [if_pos hk3, hma]; rfl
        rw [SG_none (by rw [hk3]; decide) (by rw [hk3, hwd]; simp [signOf, isMarkL_nil])]
        simp [SP, signOf, hmk]

/-- The state of pieces: those that ended, and the one that goes on. -/
def PS8 (l : List UInt8) (P : List (Nat × List UInt8)) (f k a : Nat) : Prop := SG l = ((SP P).bind fun o => behind o (SG (l.drop f))) ∧ PieceOk l f k a

theorem PS8.start (l : List UInt8) : PS8 l [] 0 0 0 := ⟨by simp [SP, behind_nil], .inr ⟨by omega, by omega, .inl ⟨rfl, fun b hb => by simp [cutL] at hb⟩⟩⟩

theorem bind_behind (x y : Option (List Sg)) (z : Option (List Sg)) : (x.bind fun o => behind o (y.bind fun o' => behind o' z)) = ((x.bind fun o => behind o y).bind fun o => behind o z) := by
  cases x <;> cases y <;> cases z <;> simp [behind]

theorem PS8.cut {l : List UInt8} {P : List (Nat × List UInt8)} {f k a : Nat} (h : PS8 l P f k a) (hs : PieceStops l f k a) (ha : a ≤ l.length) : SG l = ((SP (P ++ [(k, cutL l f a)])).bind fun o => behind o (SG (l.drop a))) := by
  rw [h.1, piece_end h.2 hs ha, bind_behind, ← SP_append]

/-- A piece ends, the next one begins. -/
theorem PS8.next {l : List UInt8} {P : List (Nat × List UInt8)} {f k a : Nat} (h : PS8 l P f k a) {b : UInt8} (hb : l[a]? = some b) (hs : ¬ kindB b = k ∨ (k = 3 ∧ isMarkL (cutL l f a ++ [b]) = false)) {d : Nat} (hd : 1 ≤ d) (h1 : b.toNat < 128 → d = 1) :
    PS8 l (P ++ [(k, cutL l f a)]) a (kindB b) (a + d) := by
  obtain ⟨ha, hba⟩ := List.getElem?_eq_some_iff.1 hb
  refine ⟨h.cut (.inr ⟨b, hb, hs⟩) (by omega), ?_⟩
  by_cases h128 : b.toNat < 128
  · obtain rfl := h1 h128
    have ec : cutL l a (a + 1) = [b] := by rw [cut_cons ha (by omega), hba]; simp [cutL]
    refine .inr ⟨by omega, by omega, ?_⟩
    rw [ec]
    have := kindB_le b
    rcases (by omega : kindB b = 0 ∨ (kindB b = 1 ∨ kindB b = 2) ∨ kindB b = 3) with e | e | e
    · exact .inl ⟨e, fun x hx => by simp at hx; rw [hx]; exact e⟩
    · exact .inr (.inl ⟨e, by omega, fun x hx => by simp at hx; rw [hx]⟩)
    · exact .inr (.inr ⟨e, ⟨b, hb, e, h128⟩, .inl rfl⟩)
  · exact .inl ⟨kindB_high (by omega), by omega, b, hb, by omega⟩

theorem cut_snoc {l : List UInt8} {f a : Nat} {b : UInt8} (hb : l[a]? = some b) (hf : f ≤ a) : cutL l f (a + 1) = cutL l f a ++ [b] := by
  unfold cutL
  rw [show a + 1 - f = (a - f) + 1 by omega, List.take_add_one, List.getElem?_drop, show f + (a - f) = a by omega, hb]
  rfl

/-- A piece goes on. -/
theorem PS8.more {l : List UInt8} {P : List (Nat × List UInt8)} {f k a : Nat} (h : PS8 l P f k a) {b : UInt8} (hb : l[a]? = some b) (h128 : b.toNat < 128) (hk : kindB b = k) (hm : k = 3 → isMarkL (cutL l f a ++ [b]) = true) :
    PS8 l P f k (a + 1) := by
  obtain ⟨ha, hba⟩ := List.getElem?_eq_some_iff.1 hb
  refine ⟨h.1, ?_⟩
  rcases h.2 with ⟨rfl, hfa, c, hc, hc128⟩ | ⟨hfa, hal, hh⟩
  · exact .inl ⟨rfl, by omega, c, hc, hc128⟩
  · have es := cut_snoc hb hfa
    refine .inr ⟨by omega, by omega, ?_⟩
    rcases hh with ⟨rfl, hall⟩ | ⟨h12, hlt, hall⟩ | ⟨rfl, hh, hw⟩
    · refine .inl ⟨rfl, fun x hx => ?_⟩
      rw [es, List.mem_append] at hx
      rcases hx with hx | hx
      · exact hall x hx
      · simp at hx; rw [hx]; exact hk
    · refine .inr (.inl ⟨h12, by omega, fun x hx => ?_⟩)
      rw [es, List.mem_append] at hx
      rcases hx with hx | hx
      · exact hall x hx
      · simp at hx; rw [hx]; exact hk
    · have hm' := hm rfl
      rw [← es] at hm'
      have hsh := isMarkL_short hm'
      have hlen : (cutL l f (a + 1)).length = a + 1 - f := by unfold cutL; simp; omega
      refine .inr (.inr ⟨rfl, hh, .inr ⟨by omega, hm'⟩⟩)

/-- All pieces. -/
theorem PS8.done {l : List UInt8} {P : List (Nat × List UInt8)} {f k a : Nat} (h : PS8 l P f k a) (ha : l.length ≤ a) : SG l = SP (P ++ [(k, l.drop f)]) := by
  have h' : PS8 l P f k l.length := by
    refine ⟨h.1, ?_⟩
    rcases h.2 with ⟨rfl, hfa, c, hc, hc128⟩ | ⟨hfa, hal, hh⟩
    · obtain ⟨hf, _⟩ := List.getElem?_eq_some_iff.1 hc
      exact .inl ⟨rfl, hf, c, hc, hc128⟩
    · obtain rfl : a = l.length := by omega
      exact .inr ⟨hfa, hal, hh⟩
  have := h'.cut (.inl rfl) (Nat.le_refl _)
  rw [List.drop_length] at this
  have ec : cutL l f l.length = l.drop f := by unfold cutL; rw [List.take_of_length_le (by simp)]
  rw [ec] at this
  rw [this]
  cases SP (P ++ [(k, l.drop f)]) <;> simp [behind, SG_nil]

end Go.Proofs.YtojaohdmfahpmaaGreatDoor
