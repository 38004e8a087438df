/- Proved: at every []laws.Line the law FnExactLayout answers true, so impl.Layout answers as spec.Layout, in memory of its own, and leaves its argument as it was (the law itself passes lists beyond 1<<20 lines and bytes by); no condition. -/
import Derived.Test.YtakcmiijnckaaaaRows
import Derived.Test.YtakcmiijnckaaaaBase
import Derived.WalkKit
import Derived.Laws.Concat
import Derived.WalkSpells
import Derived.WalkSmall
import Derived.BigQuiet
import Derived.Deep.QuietTactic
import Derived.Deep.RegionHeld3
import Derived.LoopN
import Derived.Test.YtakcmiijnckaaaaSizesI
import Derived.Deep.Cut
import Derived.Test.YtakcmiijnckaaaaLineSl
import Derived.Test.YtakcmiijnckaaaaLayB
import Derived.ProofKit
import Derived.OpenShut
import Derived.ShutString
import Derived.ChangeOld
import Derived.Below
import Derived.Deep.RegionWith
/- A slice of one new byte makes the text of that byte. -/
namespace Go.Proofs.Ytakcmiijnckaaaa
open Go.RowKit

/-- 'string([]byte{x})': the one byte. -/
theorem conv_one (wr : World) (x : Int) (b : UInt8) (h : x = (b.toNat : Int)) :
    (convert 22 9 (.slice (some ⟨wr.heap.size, 0, none⟩) 1 1)).run Try.prog (wr.alloc (.cells #[.int .u8 x] 5)) = .ok (.string ⟨#[b]⟩) (wr.alloc (.cells #[.int .u8 x] 5)) := by
  have ho : (wr.alloc (.cells #[.int .u8 x] 5)).ownsRow wr.heap.size 5 1 (.slice (some ⟨wr.heap.size, 0, none⟩) 1 1) 1 (bytesV [b]) := by
    have := World.ownsRow_lit (base := wr.heap.size) (e := 5) (size := 1) wr #[.int .u8 x] 1 (Nat.le_refl _) (by decide) rfl
    simpa [bytesV, h] using this
  have := own_convert (P := Try.prog) ho Try.underlying22 Try.underlying5 Try.underlying9
  exact this

end Go.Proofs.Ytakcmiijnckaaaa

/- Plain facts on figures: two figures a byte, the higher half first. -/
namespace Go.Proofs.Ytakcmiijnckaaaa
open Go.RowKit

def hexN (q : Nat) : Nat := if q < 10 then 48 + q else 87 + q
def hexD (q : Nat) : UInt8 := UInt8.ofNat (hexN q)

def hexOf : List UInt8 → List UInt8
  | [] => []
  | b :: r => hexD (b.toNat / 16) :: hexD (b.toNat % 16) :: hexOf r

theorem hexOf_snoc (b : UInt8) : ∀ l : List UInt8, hexOf (l ++ [b]) = hexOf l ++ [hexD (b.toNat / 16), hexD (b.toNat % 16)]
  | [] => rfl
  | c :: l => by simp [hexOf, hexOf_snoc b l]

theorem hexOf_length : ∀ l : List UInt8, (hexOf l).length = 2 * l.length
  | [] => rfl
  | c :: l => by simp [hexOf, hexOf_length l]; omega

theorem hexD_toNat (q : Nat) (h : q < 16) : ((hexD q).toNat : Int) = (hexN q : Nat) := by
  unfold hexD; rw [← byte_of]; unfold hexN; split <;> omega

theorem take_snoc (s : ByteArray) (k : Nat) (h : k < s.size) : s.data.toList.take (k + 1) = s.data.toList.take k ++ [s[k]] := by
  rw [List.take_succ_eq_append_getElem (by simpa using h)]; rfl

theorem hex_take (s : ByteArray) (k : Nat) (h : k < s.size) : hexOf (s.data.toList.take (k + 1)) = hexOf (s.data.toList.take k) ++ [hexD (s[k].toNat / 16), hexD (s[k].toNat % 16)] := by
  rw [take_snoc s k h, hexOf_snoc]

theorem figs_at : ∀ p : Fin 16, ((⟨#[48, 49, 50, 51, 52, 53, 54, 55, 56, 57, 97, 98, 99, 100, 101, 102]⟩ : ByteArray)[p.val]'(p.isLt)) = hexD p.val := by decide

theorem figs_val (p : Nat) (h : p < 16) (h' : p < (⟨#[48, 49, 50, 51, 52, 53, 54, 55, 56, 57, 97, 98, 99, 100, 101, 102]⟩ : ByteArray).size) :
    ((⟨#[48, 49, 50, 51, 52, 53, 54, 55, 56, 57, 97, 98, 99, 100, 101, 102]⟩ : ByteArray)[p]'h') = hexD p := figs_at ⟨p, h⟩

theorem tdiv_in (n m q : Nat) (h : q = n / m) : ((n : Int)).tdiv (m : Int) = (q : Int) := by
  subst h; rw [Int.tdiv_eq_ediv_of_nonneg (by omega)]; simp

theorem tmod_in (n m q : Nat) (h : q = n % m) : ((n : Int)).tmod (m : Int) = (q : Int) := by
  subst h; rw [Int.tmod_eq_emod_of_nonneg (by omega)]; simp

abbrev figs : ByteArray := ⟨#[48, 49, 50, 51, 52, 53, 54, 55, 56, 57, 97, 98, 99, 100, 101, 102]⟩

theorem figs_push (l : List UInt8) (p q : Nat) (hp : p < 16) (hq : q < 16) (h1 : p < figs.size) (h2 : q < figs.size) :
    bytesV l ++ [.int .u8 ((figs[p]'h1).toNat : Int), .int .u8 ((figs[q]'h2).toNat : Int)] = bytesV (l ++ [hexD p, hexD q]) := by
  rw [bytesV_push2 l (hexD p) (hexD q) _ _ (by rw [figs_val p hp]) (by rw [figs_val q hq])]

theorem u8_in (x : Int) (p : Nat) (h : x = (p : Int)) (hp : p < 256) : IntKind.u8.wrap x = (p : Int) := by
  subst h; exact IntWalk.u8_in _ (by omega)

end Go.Proofs.Ytakcmiijnckaaaa

/- Plain facts on figures read back: what a figure is worth below a base, and the number that figures tell. -/
namespace Go.Proofs.Ytakcmiijnckaaaa
open Go.RowKit

def fig (base : Nat) (b : UInt8) : Option Nat :=
  if 48 ≤ b.toNat ∧ b.toNat ≤ 57 ∧ b.toNat - 48 < base then some (b.toNat - 48)
  else if 97 ≤ b.toNat ∧ b.toNat ≤ 102 ∧ b.toNat - 87 < base then some (b.toNat - 87)
  else none

def numF (base : Nat) : List UInt8 → Nat → Option Nat
  | [], n => some n
  | b :: r, n => match fig base b with
    | none => none
    | some d => numF base r (n * base + d)

theorem hexD_nat (d : Nat) (h : d < 16) : (hexD d).toNat = hexN d := by
  have := hexD_toNat d h; omega

theorem fig_some (base d : Nat) (b : UInt8) (h16 : base ≤ 16) (hd : d < base) (h : b.toNat = (hexD d).toNat) : fig base b = some d := by
  rw [hexD_nat d (by omega)] at h
  unfold hexN at h
  unfold fig
  by_cases h10 : d < 10
  · rw [if_pos h10] at h
    rw [if_pos (by omega)]
    congr 1
    omega
  · rw [if_neg h10] at h
    rw [if_neg (by omega), if_pos (by omega)]
    congr 1
    omega

theorem fig_none (base : Nat) (b : UInt8) (h16 : base ≤ 16) (h : ∀ d, d < base → ¬ b.toNat = (hexD d).toNat) : fig base b = none := by
  unfold fig
  by_cases h1 : 48 ≤ b.toNat ∧ b.toNat ≤ 57 ∧ b.toNat - 48 < base
  · exfalso
    refine h (b.toNat - 48) h1.2.2 ?_
    rw [hexD_nat _ (by omega)]
    unfold hexN
    rw [if_pos (by omega)]
    omega
  · rw [if_neg h1]
    by_cases h2 : 97 ≤ b.toNat ∧ b.toNat ≤ 102 ∧ b.toNat - 87 < base
    · exfalso
      refine h (b.toNat - 87) h2.2.2 ?_
      rw [hexD_nat _ (by omega)]
      unfold hexN
      rw [if_neg (by omega)]
      omega
    · rw [if_neg h2]

def numV : Option Nat → Value
  | none => .tuple #[.int .i64 0, .bool false]
  | some n => .tuple #[.int .i64 (n : Int), .bool true]

/-- The outer loop's state: i figures are read, they tell n. -/
def NS (base : Nat) (t : List UInt8) (i n : Nat) : Prop := numF base t 0 = numF base (t.drop i) n ∧ n < 16 ^ i

theorem NS.start (base : Nat) (t : List UInt8) : NS base t 0 0 := ⟨by simp, by simp⟩

theorem NS.next {base : Nat} {t : List UInt8} {i n d : Nat} (h : NS base t i n) (hi : i < t.length) (h16 : base ≤ 16) (hd : d < base) (hb : t[i].toNat = (hexD d).toNat) : NS base t (i + 1) (n * base + d) := by
  refine ⟨?_, ?_⟩
  · rw [h.1, List.drop_eq_getElem_cons hi]
    simp only [numF]
    rw [fig_some base d _ h16 hd hb]
  · rw [Nat.pow_succ]
    have h2 := h.2
    have : n * base ≤ n * 16 := Nat.mul_le_mul_left _ h16
    omega

theorem NS.none {base : Nat} {t : List UInt8} {i n : Nat} (h : NS base t i n) (hi : i < t.length) (h16 : base ≤ 16) (hb : ∀ d, d < base → ¬ t[i].toNat = (hexD d).toNat) : numF base t 0 = none := by
  rw [h.1, List.drop_eq_getElem_cons hi]
  simp only [numF]
  rw [fig_none base _ h16 hb]

theorem NS.done {base : Nat} {t : List UInt8} {i n : Nat} (h : NS base t i n) (hi : ¬ i < t.length) : numF base t 0 = some n := by
  rw [h.1, List.drop_eq_nil_of_le (by omega)]
  rfl

theorem NS.bound {base : Nat} {t : List UInt8} {i n : Nat} (h : NS base t i n) (hi : i ≤ 14) (h16 : base ≤ 16) : n < 72057594037927936 ∧ (0 : Int) ≤ (n : Int) * (base : Int) ∧ (n : Int) * (base : Int) ≤ 1152921504606846976 := by
  have h2 := h.2
  have h3 : 16 ^ i ≤ 16 ^ 14 := Nat.pow_le_pow_right (by omega) hi
  have h4 : (16 : Nat) ^ 14 = 72057594037927936 := by decide
  have hn : n < 72057594037927936 := by omega
  have h5 : n * base ≤ 72057594037927936 * 16 := Nat.mul_le_mul (by omega) h16
  have e : (n : Int) * (base : Int) = ((n * base : Nat) : Int) := by push_cast; rfl
  omega

end Go.Proofs.Ytakcmiijnckaaaa

/- Plain facts on decimal figures: the figures of a number, and that figures without a needless nought come back. -/
namespace Go.Proofs.Ytakcmiijnckaaaa
open Go.RowKit

def decG : Nat → Nat → List UInt8
  | 0, _ => []
  | f + 1, n => if n = 0 then [] else decG f (n / 10) ++ [hexD (n % 10)]

theorem decG_fuel : ∀ f g n : Nat, n ≤ f → n ≤ g → decG f n = decG g n
  | 0, 0, _, _, _ => rfl
  | 0, g + 1, n, h, _ => by simp [decG]; omega
  | f + 1, 0, n, _, h => by simp [decG]; omega
  | f + 1, g + 1, n, h, k => by
    simp only [decG]
    by_cases hn : n = 0
    · rw [if_pos hn, if_pos hn]
    · rw [if_neg hn, if_neg hn, decG_fuel f g (n / 10) (by omega) (by omega)]

def dec (n : Nat) : List UInt8 := decG n n

theorem dec_zero : dec 0 = [] := rfl

theorem dec_pos (n : Nat) (h : 0 < n) : dec n = dec (n / 10) ++ [hexD (n % 10)] := by
  unfold dec
  match n, h with
  | n + 1, h => simp only [decG]; rw [if_neg (by omega), decG_fuel n ((n + 1) / 10) ((n + 1) / 10) (by omega) (by omega)]

def decS (n : Nat) : List UInt8 := if n = 0 then [48] else dec n

theorem add_cons {P : Program} (wx : World) (b : UInt8) (l : List UInt8) (h : l.length + 1 ≤ 9223372036854775807) :
    (Op.stringOp .add ⟨#[b]⟩ ⟨l.toArray⟩).run P wx = .ok (.string ⟨(b :: l).toArray⟩) wx := by
  rw [run_string_add_sum wx _ _ (by simp [ByteArray.size]; omega)]
  have : (⟨#[b]⟩ : ByteArray) = ⟨[b].toArray⟩ := rfl
  rw [this, ByteArray.mk_append_mk]
  rfl

theorem numF_snoc (base : Nat) (c : UInt8) : ∀ (u : List UInt8) (n : Nat), numF base (u ++ [c]) n = match numF base u n with
    | none => none
    | some m => match fig base c with
      | none => none
      | some d => some (m * base + d)
  | [], n => by simp only [List.nil_append, numF]; cases fig base c <;> rfl
  | b :: u, n => by
    simp only [List.cons_append, numF]
    cases fig base b with
    | none => rfl
    | some d => exact numF_snoc base c u _

theorem fig10 (b : UInt8) (d : Nat) (h : fig 10 b = some d) : d < 10 ∧ b = hexD d := by
  unfold fig at h
  by_cases h1 : 48 ≤ b.toNat ∧ b.toNat ≤ 57 ∧ b.toNat - 48 < 10
  · rw [if_pos h1] at h
    have := Option.some.inj h
    refine ⟨by omega, UInt8.toNat_inj.1 ?_⟩
    rw [hexD_nat d (by omega)]
    unfold hexN
    rw [if_pos (by omega)]
    omega
  · rw [if_neg h1] at h
    rw [if_neg (by omega)] at h
    cases h

theorem fig10_in (b : UInt8) (h1 : 48 ≤ b.toNat) (h2 : b.toNat ≤ 57) : fig 10 b = some (b.toNat - 48) := by
  unfold fig; rw [if_pos (by omega)]

theorem fig10_out (b : UInt8) (h : b.toNat < 48 ∨ 57 < b.toNat) : fig 10 b = none := by
  unfold fig; rw [if_neg (by omega), if_neg (by omega)]

theorem hexD_zero : hexD 0 = 48 := rfl

theorem hexD_ne (d : Nat) (h : 0 < d) (h' : d < 10) : hexD d ≠ 48 := by
  intro e
  have := congrArg UInt8.toNat e
  rw [hexD_nat d (by omega)] at this
  unfold hexN at this
  rw [if_pos h'] at this
  simp at this
  omega

/-- Figures come back: those that do not begin with a nought; by the text's own length. -/
theorem dec_numF : ∀ (k : Nat) (t : List UInt8) (n : Nat), t.length = k → t ≠ [] → t.head? ≠ some 48 → numF 10 t 0 = some n → 0 < n ∧ dec n = t := by
  intro k
  induction k with
  | zero => intro t n hk h0; exact absurd (List.length_eq_zero_iff.1 hk) h0
  | succ k ih =>
    intro t n hk h0 hh hn
    obtain ⟨u, c, rfl⟩ : ∃ u c, t = u ++ [c] := ⟨t.dropLast, t.getLast h0, (List.dropLast_concat_getLast h0).symm⟩
    rw [numF_snoc] at hn
    by_cases hu : u = []
    · subst hu
      simp only [numF] at hn
      cases hf : fig 10 c with
      | none => rw [hf] at hn; cases hn
      | some d =>
        rw [hf] at hn
        obtain ⟨hd, hc⟩ := fig10 c d hf
        simp at hn hh
        subst hn
        have hd0 : d ≠ 0 := fun e => hh (by rw [hc, e]; rfl)
        refine ⟨by omega, ?_⟩
        rw [dec_pos d (by omega), show d / 10 = 0 by omega, dec_zero, show d % 10 = d by omega, hc]
    · cases hm : numF 10 u 0 with
      | none => rw [hm] at hn; cases hn
      | some m =>
        rw [hm] at hn
        have hl : u.length = k := by simpa using hk
        have hh' : u.head? ≠ some 48 := by
          cases u with
          | nil => exact absurd rfl hu
          | cons x r => simpa using hh
        obtain ⟨hm0, hdm⟩ := ih u m hl hu hh' hm
        cases hf : fig 10 c with
        | none => rw [hf] at hn; cases hn
        | some d =>
          rw [hf] at hn
          obtain ⟨hd, hc⟩ := fig10 c d hf
          have hn' : m * 10 + d = n := Option.some.inj hn
          refine ⟨by omega, ?_⟩
          rw [dec_pos n (by omega), show n / 10 = m by omega, hdm, show n % 10 = d by omega, hc]

theorem dec_head : ∀ (k n : Nat), n ≤ k → 0 < n → ∃ x r, dec n = x :: r ∧ x ≠ 48 := by
  intro k
  induction k with
  | zero => intro n h h0; omega
  | succ k ih =>
    intro n h h0
    rw [dec_pos n h0]
    by_cases hq : n / 10 = 0
    · rw [hq, dec_zero]
      exact ⟨_, [], rfl, hexD_ne _ (by omega) (by omega)⟩
    · obtain ⟨x, r, e, hx⟩ := ih (n / 10) (by omega) (by omega)
      rw [e]
      exact ⟨x, _, rfl, hx⟩

def RD (t : List UInt8) : Option Nat := if 10 < t.length then none else match numF 10 t 0 with
  | none => none
  | some n => if n ≤ 1000000000 ∧ decS n = t then some n else none

theorem RD_long (t : List UInt8) (h : 10 < t.length) : RD t = none := by unfold RD; rw [if_pos h]
theorem RD_nil : RD [] = none := by unfold RD; rfl
theorem RD_none (t : List UInt8) (h : numF 10 t 0 = none) : RD t = none := by unfold RD; rw [h]; split <;> rfl
theorem RD_big (t : List UInt8) (n : Nat) (h : numF 10 t 0 = some n) (hn : 1000000000 < n) : RD t = none := by
  unfold RD; rw [h]; split
  · rfl
  · simp; omega
theorem RD_unlike (t : List UInt8) (n : Nat) (h : numF 10 t 0 = some n) (hn : decS n ≠ t) : RD t = none := by
  unfold RD; rw [h]; split
  · rfl
  · simp [hn]
theorem RD_some (t : List UInt8) (n : Nat) (hl : t.length ≤ 10) (h : numF 10 t 0 = some n) (hn : n ≤ 1000000000) (hd : decS n = t) : RD t = some n := by
  unfold RD; rw [h, if_neg (by omega)]; simp [hn, hd]

theorem decS_nought (t : List UInt8) (n : Nat) (r : List UInt8) (x : UInt8) (ht : t = 48 :: x :: r) : decS n ≠ t := by
  subst ht
  unfold decS
  by_cases h0 : n = 0
  · rw [if_pos h0]; simp
  · rw [if_neg h0]
    obtain ⟨y, q, e, hy⟩ := dec_head n n (Nat.le_refl _) (by omega)
    rw [e]
    intro e2
    exact hy (List.cons.inj e2).1

theorem RD_nought (t : List UInt8) (h : t.head? = some 48) (hl : 1 < t.length) : RD t = none := by
  cases t with
  | nil => simp at h
  | cons y r =>
    cases r with
    | nil => simp at hl
    | cons x r =>
      simp at h
      subst h
      cases hn : numF 10 (48 :: x :: r) 0 with
      | none => exact RD_none _ hn
      | some n => exact RD_unlike _ n hn (decS_nought _ n r x rfl)

theorem RD_right (t : List UInt8) (n : Nat) (hl : t.length ≤ 10) (h0 : t ≠ []) (hz : t.head? ≠ some 48 ∨ t.length ≤ 1) (h : numF 10 t 0 = some n) (hn : n ≤ 1000000000) : RD t = some n := by
  refine RD_some t n hl h hn ?_
  by_cases hh : t.head? = some 48
  · rcases hz with hz | hz
    · exact absurd hh hz
    · cases t with
      | nil => exact absurd rfl h0
      | cons y r =>
        simp at hh hz
        subst hh; subst hz
        have : numF 10 [48] 0 = some 0 := by decide
        rw [this] at h
        obtain rfl := Option.some.inj h
        rfl
  · obtain ⟨hp, hd⟩ := dec_numF _ t n rfl h0 hh h
    unfold decS
    rw [if_neg (by omega)]
    exact hd

theorem NS.next10 {t : List UInt8} {i n : Nat} (h : NS 10 t i n) (hi : i < t.length) (h1 : 48 ≤ t[i].toNat) (h2 : t[i].toNat ≤ 57) : NS 10 t (i + 1) (n * 10 + (t[i].toNat - 48)) := by
  refine ⟨?_, ?_⟩
  · rw [h.1, List.drop_eq_getElem_cons hi]
    simp only [numF]
    rw [fig10_in _ h1 h2]
  · rw [Nat.pow_succ]
    have h2 := h.2
    omega

theorem NS.none10 {t : List UInt8} {i n : Nat} (h : NS 10 t i n) (hi : i < t.length) (hb : t[i].toNat < 48 ∨ 57 < t[i].toNat) : numF 10 t 0 = Option.none := by
  rw [h.1, List.drop_eq_getElem_cons hi]
  simp only [numF]
  rw [fig10_out _ hb]

end Go.Proofs.Ytakcmiijnckaaaa

/- What the laws' own helper markText answers. -/
namespace Go.Proofs.Ytakcmiijnckaaaa
open Go.RowKit
set_option linter.unusedVariables false

def markB (k : Nat) : ByteArray := ⟨(109 :: dec k).toArray⟩

set_option maxRecDepth 100000 in
set_option maxHeartbeats 1000000 in
theorem markT_any (n0 : Nat) (w : World) (h0 : 0 < n0) (hn : n0 ≤ 1000000000) :
    Calls Try.prog 59 #[.int .i64 n0] w fun e w' => e = .returned (.string (markB n0)) ∧ Below w.heap.size w w' := by
  go_enter Try.func59, Try.ntmps59
  go_wp2
  go_loopw [0, 3] (fun n s wr => ∃ (m : Nat) (l : List UInt8), n = .int .i64 m ∧ s = .string ⟨l.toArray⟩ ∧ l.length + m ≤ n0 ∧ Hid (dec n0 = dec m ++ l) ∧ Below w.heap.size w wr)
    (fun n _ _ => (intOf n).toNat)
  case atStart => exact ⟨n0, [], rfl, rfl, by simp, by simp [Hid], Below.refl _ _⟩
  case round =>
    obtain ⟨m, l, rfl, rfl, hm, hD, hb⟩ := hrel
    have hbs := hb.size
    by_cases h : m = 0
    · subst h
      have e : Hid (markB n0 = ⟨(109 :: l).toArray⟩) := by unfold Hid markB; rw [hD.out, dec_zero]; rfl
      have hadd := fun wx => add_cons (P := Try.prog) wx 109 l (by omega)
      go_wp2
      go_ret
      exact ⟨by rw [e.out]; rfl, hb⟩
    · have hmp : 0 < m := by omega
      obtain ⟨b, hbb⟩ : ∃ b, b = hexD (m % 10) := ⟨_, rfl⟩
      have hD' : Hid (dec n0 = dec (m / 10) ++ (b :: l)) := by unfold Hid; rw [hD.out, dec_pos m (by omega), hbb]; simp
      have hcv := conv_one wr (48 + (m : Int) % 10) b (by rw [hbb, hexD_toNat _ (by omega)]; unfold hexN; rw [if_pos (by omega)]; omega)
      have hadd := fun wx => add_cons (P := Try.prog) wx b l (by omega)
      clear hbb hD
      go_wp2
      go_roundw
      case rel => exact ⟨m / 10, b :: l, by go_num, rfl, by simp; omega, hD', hb.alloc hbs _⟩
      case measure => simp [intOf]; omega

end Go.Proofs.Ytakcmiijnckaaaa

/- What the laws' markLineS does to a row of lines: only that row is written. -/
namespace Go.Proofs.Ytakcmiijnckaaaa
open Go.RowKit
set_option linter.unusedVariables false

/-- These cells are there and may be written. -/
def Slots (W : World) (g n : Nat) : Prop := g < W.heap.size ∧ ∀ j, j < n → (∃ v, W.cell? ⟨g, j, none⟩ = some v) ∧ W.frozen? ⟨g, j, none⟩ = false

theorem Slots.ext {W W' : World} {g n : Nat} (h : Slots W g n) (hE : Ext W W') : Slots W' g n :=
  ⟨Nat.lt_of_lt_of_le h.1 hE.size, fun j hj => ⟨by obtain ⟨v, hv⟩ := (h.2 j hj).1; exact ⟨v, (hE.cell (p := ⟨g, j, none⟩) h.1).trans hv⟩, (hE.frozen (p := ⟨g, j, none⟩) h.1).trans (h.2 j hj).2⟩⟩

theorem Slots.set {W : World} {g n : Nat} (h : Slots W g n) (i : Nat) (v : Value) : Slots (W.setCell ⟨g, i, none⟩ v) g n := by
  refine ⟨by rw [World.size_setCell]; exact h.1, fun j hj => ⟨?_, by rw [World.frozen?_setCell]; exact (h.2 j hj).2⟩⟩
  obtain ⟨u, hu⟩ := (h.2 j hj).1
  exact ⟨_, cell_set W g i j u v hu⟩

theorem grown_ext {w W W' : World} {g : Nat} (h : w.grownBy W (some g)) (hE : Ext W W') : w.grownBy W' (some g) :=
  ⟨hE.os.trans h.os, hE.tape.trans h.tape, hE.output.trans h.output, Nat.le_trans h.size hE.size, fun i hi hne => (hE.block i (Nat.lt_of_lt_of_le hi h.size)).trans (h.block i hi hne)⟩

theorem grown_put {w W : World} {g : Nat} (h : w.grownBy W (some g)) (i : Nat) (v : Value) : w.grownBy (W.setCell ⟨g, i, none⟩ v) (some g) :=
  ⟨h.os, h.tape, h.output, by rw [World.size_setCell]; exact h.size, fun j hj hne => (Below.heap_setCell _ _ _ _ (fun e => hne (by rw [e]))).trans (h.block j hj hne)⟩

set_option maxRecDepth 100000 in
set_option maxHeartbeats 8000000 in
theorem markLn_any (g n cap : Nat) (w : World) (hn : n ≤ 1048576) (h : Slots w g (n * 7)) :
    Calls Try.prog 29 #[.slice (some ⟨g, 0, none⟩) n cap, .int .i64 1] w fun e w' => ∃ K : Nat, e = .returned (.int .i64 (K : Int)) ∧ K ≤ 10000000 ∧ w.grownBy w' (some g) := by
  have HA : Hid (Slots w g (n * 7)) := h
  clear h
  go_enter Try.func29, Try.ntmps29
  go_wp2_with fail
  go_loopw [1, 5] (fun kv i wr => ∃ j K : Nat, i = .int .i64 j ∧ kv = .int .i64 K ∧ j ≤ n ∧ K ≤ 10000000 ∧ 0 < K ∧ Hid (K = 7 * j + 1 ∧ w.grownBy wr (some g) ∧ Slots wr g (n * 7))) (fun _ i _ => n - (intOf i).toNat)
  case atStart => exact ⟨0, 1, rfl, rfl, by omega, by omega, by omega, rfl, grown_refl _ _, HA.out⟩
  case round =>
    obtain ⟨j, K, rfl, rfl, hj, hK, hK0, HR⟩ := hrel
    by_cases hlt : j < n
    · have bk : (j : Int) < (n : Int) := by omega
      go_wp2_with fail
      refine (markT_any K _ hK0 (by omega)).mono ?_
      rintro e w2 ⟨rfl, e2⟩
      have HR2 : Hid (w.grownBy w2 (some g) ∧ Slots w2 g (n * 7)) := ⟨grown_ext HR.out.2.1 e2, HR.out.2.2.ext e2⟩
      obtain ⟨⟨v0, c0⟩, f0⟩ := HR2.out.2.2 (j * 7) (by omega)
      obtain ⟨⟨v1, c1⟩, f1⟩ := HR2.out.2.2 (j * 7 + 1) (by omega)
      obtain ⟨⟨v2, c2⟩, f2⟩ := HR2.out.2.2 (j * 7 + 2) (by omega)
      obtain ⟨⟨v3, c3⟩, f3⟩ := HR2.out.2.2 (j * 7 + 3) (by omega)
      obtain ⟨⟨v4, c4⟩, f4⟩ := HR2.out.2.2 (j * 7 + 4) (by omega)
      clear e2
      have HM5 : Hid (∀ w, Calls Try.prog 59 #[.int .i64 ((K : Int) + 1 + 1 + 1 + 1 + 1)] w fun e w' => e = .returned (.string (markB (K + 5))) ∧ Below w.heap.size w w') := fun w => by
        have := markT_any (K + 5) w (by omega) (by omega)
        rw [show ((K + 5 : Nat) : Int) = (K : Int) + 1 + 1 + 1 + 1 + 1 by omega] at this
        exact this
      have HM6 : Hid (∀ w, Calls Try.prog 59 #[.int .i64 ((K : Int) + 1 + 1 + 1 + 1 + 1 + 1)] w fun e w' => e = .returned (.string (markB (K + 6))) ∧ Below w.heap.size w w') := fun w => by
        have := markT_any (K + 6) w (by omega) (by omega)
        rw [show ((K + 6 : Nat) : Int) = (K : Int) + 1 + 1 + 1 + 1 + 1 + 1 by omega] at this
        exact this
      go_wp2_with fail
      refine (HM5.out _).mono ?_
      rintro e w3 ⟨rfl, e3⟩
      have HR3 : Hid (w.grownBy w3 (some g) ∧ Slots w3 g (n * 7)) := ⟨grown_ext (grown_put (grown_put (grown_put (grown_put (grown_put HR2.out.1 _ _) _ _) _ _) _ _) _ _) e3, (((((HR2.out.2.set _ _).set _ _).set _ _).set _ _).set _ _).ext e3⟩
      obtain ⟨⟨v5, c5⟩, f5⟩ := HR3.out.2.2 (j * 7 + 5) (by omega)
      clear e3 c0 c1 c2 c3 c4 f0 f1 f2 f3 f4 HR2 HM5
      go_wp2_with fail
      refine (HM6.out _).mono ?_
      rintro e w4 ⟨rfl, e4⟩
      have HR4 : Hid (w.grownBy w4 (some g) ∧ Slots w4 g (n * 7)) := ⟨grown_ext (grown_put HR3.out.1 _ _) e4, (HR3.out.2.set _ _).ext e4⟩
      obtain ⟨⟨v6, c6⟩, f6⟩ := HR4.out.2.2 (j * 7 + 6) (by omega)
      have HK : Hid (K = 7 * j + 1) := HR.out.1
      clear e4 c5 f5 HR3 HM6 HR
      go_wp2
      go_roundw
      case rel =>
        refine ⟨j + 1, K + 7, by go_num, ?_, by omega, by have := HK.out; omega, by omega, by have := HK.out; omega, grown_put HR4.out.1 _ _, HR4.out.2.set _ _⟩
        rw [show ((K + 7 : Nat) : Int) = (K : Int) + 1 + 1 + 1 + 1 + 1 + 1 + 1 by omega]
      case measure => simp [intOf]; omega
    · have bk : ¬ ((j : Int) < (n : Int)) := by omega
      go_wp2
      go_ret
      exact ⟨K, rfl, hK, HR.out.2.1⟩

end Go.Proofs.Ytakcmiijnckaaaa

namespace Go.Proofs.Ytakcmiijnckaaaa.Layout
open Go.ChangeShapes Go.WideShapes Go.ChangeAt Go.RowKit
open Go.ChangeMaps (open_string shut_string)
set_option linter.unusedVariables false

theorem own : ownKnob Try.prog.godebug = none := by kernel_rfl
theorem laidOut : laidOutB Try.prog = true := by kernel_rfl

set_option maxRecDepth 100000 in
set_option maxHeartbeats 8000000 in
theorem walk (a : Option Addr) (cap : Nat) (ls : List Ln) (w : World) (h : Lns w a ls) (hf : LongP ls) (hm : ls.length ≤ 9223372036854775807) :
    Calls Try.prog 7 #[.slice a ls.length cap] w fun e w' => e = .returned (.bool true) ∧ Below w.heap.size w w' := by
  obtain ⟨n, hn⟩ : ∃ n, n = ls.length := ⟨_, rfl⟩
  have HA : Hid (Lns w a ls ∧ n = ls.length) := ⟨h, hn⟩
  have HS : Hid (Calls Try.prog 25 #[.slice a n cap, .int .i64 1048576] w fun e w' => ((e = .returned (.int .i64 (-1))) ∨ ∃ m : Nat, e = .returned (.int .i64 (m : Int)) ∧ m ≤ 1048576 ∧ n ≤ 1048576 ∧ TextsP ls) ∧ Ext w w') := by
    have := szLineS_any a cap ls w hm hf h
    rw [← hn] at this
    exact this
  rw [← hn]
  clear h hf hm hn
  go_enter Try.func7, Try.ntmps7
  go_wp2_with fail
  refine HS.out.mono ?_
  rintro e w1 ⟨hor, x1⟩
  have X1 : Hid (Ext w w1) := x1
  clear x1 HS
  rcases hor with rfl | ⟨m, rfl, hm, hn, ht⟩
  · go_wp2
    go_ret
    exact ⟨rfl, X1.out⟩
  have hm0 : ¬ (m : Int) < 0 := by omega
  have HT : Hid (∀ W, Ext w W → Calls Try.prog 26 #[.slice a n cap] W fun e w' => ∃ g, e = .returned (.slice (some ⟨g, 0, none⟩) n n) ∧ W.heap.size ≤ g ∧ g < w'.heap.size ∧ Free7 w' g n ∧ Lns w' (some ⟨g, 0, none⟩) ls ∧ Ext W w') := fun W hE => by
    have := toLineS_any a cap ls W (by have := HA.out.2; omega) (HA.out.1.ext hE)
    rw [← HA.out.2] at this
    exact this
  have HTX : Hid (TextsP ls ∧ n ≤ 1048576) := ⟨ht, hn⟩
  obtain ⟨ws, z, hz, hsp, him⟩ := layout_both ls (by have := HA.out.2; omega) ht
  rw [← HA.out.2] at hsp him
  have HZ : Hid (ws.length ≤ 400) := hz
  have HSP : Hid (∀ (a : Option Addr) (cap : Nat) (w : World), Lns w a ls → Calls Try.prog 20 #[.slice a n cap] w fun e w' => ∃ v, e = .returned (.tuple #[v, .bool z]) ∧ Own4 w' w.heap.size v ws ∧ Ext w w') := hsp
  have HIM : Hid (∀ (a : Option Addr) (cap : Nat) (w : World), Lns w a ls → Calls Try.prog 11 #[.slice a n cap] w fun e w' => ∃ v, e = .returned (.tuple #[v, .bool z]) ∧ Own4 w' w.heap.size v ws ∧ Ext w w') := him
  clear ht hz hsp him
  go_wp2_with fail
  refine (HT.out _ X1.out).mono ?_
  rintro e w2 ⟨g2, rfl, hg2, hs2, hf2, l2, x2⟩
  have X2 : Hid (Ext w w2) := X1.out.trans x2
  have HL2 : Hid (Lns w2 (some ⟨g2, 0, none⟩) ls) := l2
  clear hg2 hs2 hf2 l2 x2 X1
  go_wp2_with fail
  refine (HSP.out _ _ _ HL2.out).mono ?_
  rintro e w3 ⟨v0, rfl, i0, x3⟩
  have X3 : Hid (Ext w w3 ∧ Own4 w3 0 v0 ws) := ⟨X2.out.trans x3, own_lower i0 (Nat.zero_le _)⟩
  clear i0 x3 HL2 X2 HSP
  go_wp2_with fail
  refine (HT.out _ X3.out.1).mono ?_
  rintro e w4 ⟨gx, rfl, hgx, hsx, hfx, lx, x4⟩
  have X4 : Hid (Ext w w4 ∧ Own4 w4 0 v0 ws ∧ (∀ x, v0.ownBlock = some x → x < gx) ∧ gx < w4.heap.size ∧ Free7 w4 gx n ∧ Lns w4 (some ⟨gx, 0, none⟩) ls ∧ w.heap.size ≤ gx) := ⟨X3.out.1.trans x4, X3.out.2.ext x4, fun x hx => Nat.lt_of_lt_of_le (X3.out.2.lt x hx).2 hgx, hsx, hfx, lx, Nat.le_trans X3.out.1.size hgx⟩
  clear hgx hsx hfx lx x4 X3
  obtain ⟨B1, hB1⟩ : ∃ b, b = w4.heap.size := ⟨_, rfl⟩
  have HB1 : Hid (B1 = w4.heap.size) := hB1
  clear hB1
  go_wp2_with fail
  refine (HIM.out _ _ _ X4.out.2.2.2.2.2.1).mono ?_
  rintro e w5 ⟨v1, rfl, i1, x5⟩
  have X5 : Hid (Ext w w5 ∧ Own4 w5 0 v0 ws ∧ (∀ x, v0.ownBlock = some x → x < gx) ∧ gx < w5.heap.size ∧ Free7 w5 gx n ∧ Lns w5 (some ⟨gx, 0, none⟩) ls ∧ Own4 w5 B1 v1 ws ∧ gx < B1 ∧ w.heap.size ≤ gx) :=
    ⟨X4.out.1.trans x5, X4.out.2.1.ext x5, X4.out.2.2.1, Nat.lt_of_lt_of_le X4.out.2.2.2.1 x5.size, fun j hj => (x5.frozen (p := ⟨gx, j, none⟩) X4.out.2.2.2.1).trans (X4.out.2.2.2.2.1 j hj), X4.out.2.2.2.2.2.1.ext x5, by rw [HB1.out]; exact i1, by have := X4.out.2.2.2.1; have := HB1.out; omega, X4.out.2.2.2.2.2.2⟩
  clear i1 x5 X4 HB1
  go_wp2_with fail
  refine (eqIns4 B1 0 v1 v0 ws _ HZ.out X5.out.2.2.2.2.2.2.1 X5.out.2.1).mono ?_
  rintro e w6 ⟨rfl, x6⟩
  have X6 : Hid (Ext w w6 ∧ Own4 w6 0 v0 ws ∧ (∀ x, v0.ownBlock = some x → x < gx) ∧ gx < w6.heap.size ∧ Free7 w6 gx n ∧ Lns w6 (some ⟨gx, 0, none⟩) ls ∧ Own4 w6 B1 v1 ws ∧ gx < B1 ∧ w.heap.size ≤ gx) :=
    ⟨X5.out.1.trans x6, X5.out.2.1.ext x6, X5.out.2.2.1, Nat.lt_of_lt_of_le X5.out.2.2.2.1 x6.size, fun j hj => (x6.frozen (p := ⟨gx, j, none⟩) X5.out.2.2.2.1).trans (X5.out.2.2.2.2.1 j hj), X5.out.2.2.2.2.2.1.ext x6, X5.out.2.2.2.2.2.2.1.ext x6, X5.out.2.2.2.2.2.2.2⟩
  clear x6 X5
  go_wp2_with fail
  refine (HT.out _ X6.out.1).mono ?_
  rintro e w7 ⟨g7, rfl, hg7, hs7, hf7, l7, x7⟩
  have X7 : Hid (Ext w w7 ∧ Own4 w7 0 v0 ws ∧ (∀ x, v0.ownBlock = some x → x < gx) ∧ gx < w7.heap.size ∧ Free7 w7 gx n ∧ Lns w7 (some ⟨gx, 0, none⟩) ls ∧ Own4 w7 B1 v1 ws ∧ gx < B1 ∧ w.heap.size ≤ gx) :=
    ⟨X6.out.1.trans x7, X6.out.2.1.ext x7, X6.out.2.2.1, Nat.lt_of_lt_of_le X6.out.2.2.2.1 x7.size, fun j hj => (x7.frozen (p := ⟨gx, j, none⟩) X6.out.2.2.2.1).trans (X6.out.2.2.2.2.1 j hj), X6.out.2.2.2.2.2.1.ext x7, X6.out.2.2.2.2.2.2.1.ext x7, X6.out.2.2.2.2.2.2.2⟩
  have HE7 : Hid (Calls Try.prog 27 #[.slice (some ⟨gx, 0, none⟩) n n, .slice (some ⟨g7, 0, none⟩) n n] w7 fun e w' => e = .returned (.bool true) ∧ Ext w7 w') := by
    have := eqLineS_same (some ⟨gx, 0, none⟩) (some ⟨g7, 0, none⟩) n n ls w7 (by have := HA.out.2; have := HTX.out.2; omega) X7.out.2.2.2.2.2.1 l7
    rw [← HA.out.2] at this
    exact this
  clear hg7 hs7 hf7 l7 x7 X6
  go_wp2_with fail
  refine HE7.out.mono ?_
  rintro e w8 ⟨rfl, x8⟩
  have X8 : Hid (Ext w w8 ∧ Own4 w8 0 v0 ws ∧ (∀ x, v0.ownBlock = some x → x < gx) ∧ Slots w8 gx (n * 7) ∧ Own4 w8 B1 v1 ws ∧ gx < B1 ∧ w.heap.size ≤ gx) := by
    obtain ⟨h1, h2, h3, h4, h5, h6, h7, h8, h9⟩ := X7.out
    refine ⟨h1.trans x8, h2.ext x8, h3, ⟨Nat.lt_of_lt_of_le h4 x8.size, fun j hj => ⟨?_, (x8.frozen (p := ⟨gx, j, none⟩) h4).trans (h5 j hj)⟩⟩, h7.ext x8, h8, h9⟩
    have hj7 : j / 7 < ls.length := by have := HA.out.2; omega
    obtain ⟨b', off', ha, hq⟩ := h6 (by omega)
    injection ha with ha
    injection ha with ha1 ha2
    subst ha1
    subst ha2
    have hc := (hq (j / 7) hj7).ext x8
    simp only [Nat.zero_add] at hc
    obtain ⟨c0, c1, c2, c3, c4, c5, c6⟩ := hc
    have hr : j = j / 7 * 7 ∨ j = j / 7 * 7 + 1 ∨ j = j / 7 * 7 + 2 ∨ j = j / 7 * 7 + 3 ∨ j = j / 7 * 7 + 4 ∨ j = j / 7 * 7 + 5 ∨ j = j / 7 * 7 + 6 := by omega
    rcases hr with e | e | e | e | e | e | e
    · rw [e]; exact ⟨_, c0⟩
    · rw [e]; exact ⟨_, c1⟩
    · rw [e]; exact ⟨_, c2⟩
    · rw [e]; exact ⟨_, c3⟩
    · rw [e]; exact ⟨_, c4⟩
    · rw [e]; exact ⟨_, c5⟩
    · rw [e]; exact ⟨_, c6⟩
  clear x8 X7 HE7
  go_wp2_with fail
  refine (markLn_any gx n n _ HTX.out.2 X8.out.2.2.2.1).mono ?_
  rintro e w9 ⟨K, rfl, hK, g9⟩
  have hK0 : ¬ (K : Int) < 0 := by omega
  have X9 : Hid (Ext w w9 ∧ Own4 w9 0 v0 ws ∧ Own4 w9 B1 v1 ws ∧ (∀ x, v0.ownBlock = some x → x < B1) ∧ w.heap.size ≤ B1) := by
    obtain ⟨h1, h2, h3, h4, h5, h6, h7⟩ := X8.out
    exact ⟨ext_row h1 g9 (fun x hx => by injection hx with hx; omega), h2.grown g9 (fun x hx => by have := h3 x hx; omega), h5.grown g9 (fun x hx => by have := own_from h5 hx; omega), fun x hx => by have := h3 x hx; omega, by omega⟩
  clear g9 X8
  go_wp2_with fail
  refine (eqIns4 B1 0 v1 v0 ws _ HZ.out X9.out.2.2.1 X9.out.2.1).mono ?_
  rintro e wa ⟨rfl, xa⟩
  have XA : Hid (Ext w wa ∧ Own4 wa 0 v0 ws ∧ Own4 wa B1 v1 ws ∧ (∀ x, v0.ownBlock = some x → x < B1) ∧ w.heap.size ≤ B1) := ⟨X9.out.1.trans xa, X9.out.2.1.ext xa, X9.out.2.2.1.ext xa, X9.out.2.2.2⟩
  clear xa X9
  go_wp2_with fail
  refine (markIns_any B1 v1 ws _ (by have := HZ.out; omega) XA.out.2.2.1).mono ?_
  rintro e wb ⟨rfl, ⟨a1, cap1, hv1, ib⟩, gb⟩
  subst hv1
  have XB : Hid (Ext w wb ∧ Own4 wb 0 v0 ws ∧ Words wb a1 (marksW ws.length)) := by
    obtain ⟨h1, h2, h3, h4, h5⟩ := XA.out
    exact ⟨⟨gb.os.trans h1.os, gb.tape.trans h1.tape, gb.output.trans h1.output, Nat.le_trans h1.size gb.size, fun i hi => (gb.block i (Nat.lt_of_lt_of_le hi h5)).trans (h1.block i hi)⟩, h2.under gb h4, ib⟩
  clear ib gb XA
  go_wp2_with fail
  refine (heldIns_any a1 ws.length cap1 _ (by have := HZ.out; omega) XB.out.2.2).mono ?_
  rintro e wc ⟨rfl, rfl⟩
  have hl0 : ¬ (4 * (ws.length : Int) + 1) < 0 := by omega
  go_wp2_with fail
  refine (HT.out _ XB.out.1).mono ?_
  rintro e wd ⟨gd, rfl, hgd, hsd, hfd, ld, xd⟩
  have XD : Hid (Ext w wd ∧ Own4 wd 0 v0 ws ∧ Words wd a1 (marksW ws.length) ∧ Lns wd (some ⟨gd, 0, none⟩) ls) := ⟨XB.out.1.trans xd, XB.out.2.1.ext xd, XB.out.2.2.ext xd, ld⟩
  clear hgd hsd hfd ld xd XB
  go_wp2_with fail
  refine (HIM.out _ _ _ XD.out.2.2.2).mono ?_
  rintro e we ⟨v2, rfl, i2, xe⟩
  have XE : Hid (Ext w we ∧ Own4 we 0 v0 ws ∧ Words we a1 (marksW ws.length) ∧ Own4 we 0 v2 ws) := ⟨XD.out.1.trans xe, XD.out.2.1.ext xe, XD.out.2.2.1.ext xe, own_lower i2 (Nat.zero_le _)⟩
  clear i2 xe XD
  go_wp2_with fail
  refine (eqIns4 0 0 v2 v0 ws _ HZ.out XE.out.2.2.2 XE.out.2.1).mono ?_
  rintro e wf ⟨rfl, xf⟩
  have XF : Hid (Ext w wf ∧ Words wf a1 (marksW ws.length)) := ⟨XE.out.1.trans xf, XE.out.2.2.1.ext xf⟩
  clear xf XE
  go_wp2_with fail
  refine (heldIns_any a1 ws.length cap1 _ (by have := HZ.out; omega) XF.out.2).mono ?_
  rintro e wg ⟨rfl, rfl⟩
  go_wp2
  go_ret
  exact ⟨rfl, XF.out.1⟩

set_option maxRecDepth 100000 in
theorem lifted (os : Os) (started : os.Started) (H : Type) (enc : TypeId × Value → H) :
    ReturnsInHanded {} Try.checked os 7 .any (Rows.fnExactLayoutSpec.pre6 enc Try.prog Try.f7 Rows.fnExactLayoutRow.domain false) (Rows.fnExactLayoutSpec.post enc Try.prog Try.f7 false true false false) := by
  refine returnsInHanded_of_change (C := Try.checked) own started (by kernel_rfl) Try.func7
    (ChangeSpec.witness6 (enc := enc) (C := Try.checked) false ⟨#[], #[.slice none 0 0], []⟩ 8 (by kernel_rfl) (by kernel_rfl) (by kernel_rfl) (by kernel_rfl)) ?_
  intro W base args ds gs before hval0 hW hcnd _
  have hval : ∀ (j : Nat) t v, Try.f7.params[j]? = some t → args[j]? = some v → Value.okWide Try.prog W .any base t v := hval0
  have hW' := hW
  obtain ⟨p, q, hA0, hV, rfl, hfz, hnd⟩ := hW
  have hA : DataW.TrodAll enc Try.prog W 0 (fun _ => true) true Try.f7.params.toList args.toList ds p := hA0
  rw [Try.params7] at hA hval
  obtain ⟨v0, vs0, d0, ds0, p0, q0, hargs, rfl, rfl, h0, r0⟩ := trodAll_cons hA
  obtain ⟨rfl, rfl, rfl⟩ := trodAll_nil r0
  obtain rfl : args = #[v0] := by cases args; simp_all
  obtain ⟨rfl, rfl⟩ := trodVars_none hV
  have lt0 : ∀ x ∈ p0, x.block < W.heap.size := by obtain ⟨m, hm⟩ := h0; exact DataW.trod_lt m _ _ _ hm
  obtain ⟨a0, cap0, xs0, rfl, hxs0, hlg0, hlm0⟩ := open_lines (hval 0 47 v0 rfl rfl) h0
  clear hA0 hval0
  refine (walk a0 cap0 xs0 W hxs0 hlg0 hlm0).mono fun e W' ⟨he, bel⟩ => ?_
  subst he
  exact ⟨_, rfl, _, _, _, [], _, [], hW', trodAll_mk1 (shut_bool Try.underlying4 _), (trodAll_cons_mk (Below.trod laidOut (by kernel_rfl) (of_decide_eq_true (by kernel_rfl)) h0 bel lt0) trodAll_mk0), rfl, bel.frame _, fun h => by cases h⟩

end Go.Proofs.Ytakcmiijnckaaaa.Layout
namespace Go.Proofs.Ytakcmiijnckaaaa
open Go.ChangeShapes Go.WideShapes Go.ChangeAt Go.RowKit

theorem layout : Rows.FnExactLayoutSaid :=
  OpenClaim.holds_of_wide 7 Try.f7 rfl rfl rfl rfl rfl rfl rfl ⟨rfl, rfl, rfl, rfl, rfl⟩ rfl rfl rfl rfl rfl (by kernel_rfl) Try.func7 (by kernel_rfl)
    (of_decide_eq_true (by kernel_rfl)) (by unfold Func.isWrapper; first | (rw [if_pos (by decide +kernel)]; kernel_rfl) | (rw [if_neg (by decide +kernel)]; exact ⟨rfl, rfl⟩))
    (fun os started H enc _ => Layout.lifted os started H enc)
#print axioms layout
end Go.Proofs.Ytakcmiijnckaaaa
