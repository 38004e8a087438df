/- Impl's reader of signs: conditions, numbers, and their rows. -/
import Derived.Test.YtojaohdmfahpmaaGreatDoorPolPack21
import Derived.Test.YtojaohdmfahpmaaGreatDoorPolPack16
import Derived.Test.YtojaohdmfahpmaaGreatDoorPolPack5
import Derived.Lib.AppendStr
import Derived.Test.YtojaohdmfahpmaaGreatDoorPolPack8
import Derived.Laws.Concat
import Derived.Test.YtojaohdmfahpmaaGreatDoorPolPack10
import Derived.Test.YtojaohdmfahpmaaGreatDoorPolPack17
import Derived.Test.YtojaohdmfahpmaaGreatDoorPolPack3
import Derived.Test.YtojaohdmfahpmaaGreatDoorPolPack15
/- What impl's and spec's SignText answer of every row of signs: their texts, with a blank between. -/
namespace Go.Proofs.YtojaohdmfahpmaaGreatDoor
open Go.RowKit
set_option linter.unusedVariables false

/-- A sign's text. -/
def txL (p : Sg) : List UInt8 := if p.1 = 2 then decS p.2.2.toNat else p.2.1

/-- The texts of the first k signs. -/
def textN (ps : List Sg) : Nat → List UInt8
  | 0 => []
  | k + 1 => textN ps k ++ ((if k = 0 then [] else [32]) ++ txL (ps.getD k zeroG))

theorem decS_len (n : Nat) (h : n < 10 ^ 19) : (decS n).length ≤ 19 := by
  unfold decS
  split
  · simp
  · have key : ∀ k n : Nat, n < 10 ^ k → (dec n).length ≤ k := by
      intro k
      induction k with
      | zero => intro n h; obtain rfl : n = 0 := by simpa using h
                simp [dec_zero]
      | succ k ih =>
        intro n h
        by_cases h0 : n = 0
        · subst h0; simp [dec_zero]
        · rw [dec_pos n (by omega)]
          have := ih (n / 10) (by rw [Nat.pow_succ] at h; omega)
          simp
          omega
    exact key 19 n h

theorem dec_step (n : Nat) (h : 9 < n) : decS n = decS (n / 10) ++ [hexD (n % 10)] := by
  unfold decS
  rw [if_neg (by omega), if_neg (by omega), dec_pos n (by omega)]

theorem decS_one (n : Nat) (h : n ≤ 9) : decS n = [hexD n] := by
  unfold decS
  by_cases h0 : n = 0
  · subst h0; rfl
  · rw [if_neg h0, dec_pos n (by omega), show n / 10 = 0 by omega, dec_zero, show n % 10 = n by omega]; rfl

set_option maxRecDepth 100000 in
set_option maxHeartbeats 1000000 in
theorem figures_nat (n0 : Nat) (w : World) (hn : n0 ≤ 9223372036854775807) :
    Calls Tryz.prog 40 #[.int .i64 (n0 : Int)] w fun e w' => e = .returned (.string (txt (decS n0))) ∧ Ext w w' := by
  have h20 : (decS n0).length ≤ 19 := decS_len n0 (by have : (10 : Nat) ^ 19 = 10000000000000000000 := by decide
                                                      omega)
  have H20 : Hid ((decS n0).length ≤ 19) := h20
  clear h20
  have d0 : decide ((n0 : Int) < 0) = false := by simp
  go_enter Tryz.func40, Tryz.ntmps40
  go_wp2
  go_loopw [0, 3] (fun n s wr => ∃ (m : Nat) (l : List UInt8), n = .int .i64 m ∧ s = .string (txt l) ∧ m ≤ n0 ∧ Hid (decS n0 = decS m ++ l) ∧ Ext w wr)
    (fun n _ _ => (intOf n).toNat)
  case atStart => exact ⟨n0, [], rfl, rfl, by omega, by simp [Hid], Ext.refl _⟩
  case round =>
    obtain ⟨m, l, rfl, rfl, hm, hD, hb⟩ := hrel
    have hl : l.length ≤ 19 := by have h1 := congrArg List.length hD.out; have := H20.out; simp at h1; omega
    unfold txt
    by_cases h : 9 < m
    · have hmi : (9 : Int) < (m : Int) := by omega
      obtain ⟨b, hbb⟩ : ∃ b, b = hexD (m % 10) := ⟨_, rfl⟩
      have hD' : Hid (decS n0 = decS (m / 10) ++ (b :: l)) := by unfold Hid; rw [hD.out, dec_step m h, hbb]; simp
      have hcv := conv_one wr (48 + (m : Int) % 10) b (by rw [hbb, hexD_toNat _ (by omega)]; unfold hexN; rw [if_pos (by omega)]; omega)
      have hadd := fun wx => add_cons (P := Tryz.prog) wx b l (by omega)
      clear hbb hD
      go_wp2
      go_roundw
      case rel => exact ⟨m / 10, b :: l, by go_num, rfl, by omega, hD', hb.alloc _⟩
      case measure => simp [intOf]; omega
    · have hmi : ¬ (9 : Int) < (m : Int) := by omega
      obtain ⟨b, hbb⟩ : ∃ b, b = hexD m := ⟨_, rfl⟩
      have HF : Hid (decS n0 = b :: l) := by unfold Hid; rw [hD.out, decS_one m (by omega), hbb]; rfl
      have hcv := conv_one wr (48 + (m : Int)) b (by rw [hbb, hexD_toNat _ (by omega)]; unfold hexN; rw [if_pos (by omega)]; omega)
      have hadd := fun wx => add_cons (P := Tryz.prog) wx b l (by omega)
      clear hbb hD
      go_wp2
      go_ret
      exact ⟨by rw [HF.out]; rfl, hb.alloc _⟩

theorem figures_neg (n : Int) (w : World) (hn : n < 0) :
    Calls Tryz.prog 40 #[.int .i64 n] w fun e w' => e = .returned (.string (txt (decS 0))) ∧ Ext w w' := by
  have hcv := conv_one w 48 48 rfl
  have hadd := fun wx => add_cons (P := Tryz.prog) wx 48 [] (by simp)
  go_enter Tryz.func40, Tryz.ntmps40
  go_wp2
  refine wp_loop_rounds 1 ?_
  rw [rounds_succ]
  go_wp2
  go_ret
  exact ⟨rfl, Ext.one _ _⟩

theorem figures_any (n : Int) (w : World) (h1 : n ≤ 9223372036854775807) :
    Calls Tryz.prog 40 #[.int .i64 n] w fun e w' => e = .returned (.string (txt (decS n.toNat))) ∧ Ext w w' := by
  by_cases h : n < 0
  · rw [show n.toNat = 0 by omega]
    exact figures_neg n w h
  · obtain ⟨m, rfl⟩ : ∃ m : Nat, n = (m : Int) := ⟨n.toNat, by omega⟩
    have := figures_nat m w (by omega)
    simpa using this

theorem gTab8 : Tryz.prog.globalNamed "internal/strconv.uint64pow10" = some 1 := by kernel_rfl

/-- The library's table of powers holds what its text lays. -/
def Pow (w : World) : Prop := Lib.TabIs Tryz.prog w "internal/strconv.uint64pow10" .u64 Lib.pow10Tab ∧ 1 < w.heap.size

theorem Pow.ext {w w' : World} (h : Pow w) (hE : Ext w w') : Pow w' := ⟨var?_below hE gTab8 h.2 h.1, Nat.lt_of_lt_of_le h.2 hE.size⟩

theorem itoa_nat (m : Nat) : Lib.itoa (m : Int) = decS m := by
  rw [decS_digits m m (Nat.le_refl _)]
  unfold Lib.itoa
  rw [if_neg (by omega)]
  simp

theorem dec_nat (m : Nat) (w : World) (h1 : m ≤ 9223372036854775807) (hP : Pow w) : Calls Tryz.prog 23 #[.int .i64 (m : Int)] w fun e w' => e = .returned (.string (txt (decS m))) ∧ Ext w w' := by
  have := iDec_any (m : Int) w (by omega) (by omega) hP.1
  rw [itoa_nat] at this
  exact this

/-- A sign that a text can have. -/
def SgR (p : Sg) : Prop :=
  (p.1 = 1 ∧ p.2.2 = 0 ∧ 1 ≤ p.2.1.length ∧ p.2.1.length ≤ 12 ∧ ∀ b ∈ p.2.1, kindB b = 1) ∨
  (p.1 = 2 ∧ p.2.1 = [] ∧ 0 ≤ p.2.2 ∧ p.2.2 ≤ 4294967295) ∨
  (p.1 = 3 ∧ p.2.2 = 0 ∧ isMarkL p.2.1 = true)

theorem fig_hexD8 (base d : Nat) (h16 : base ≤ 16) (hd : d < base) : fig base (hexD d) = some d := fig_some base d (hexD d) h16 hd rfl

theorem numF_dec8 : ∀ k n : Nat, n ≤ k → numF 10 (dec n) 0 = some n := by
  intro k
  induction k with
  | zero =>
    intro n h
    obtain rfl : n = 0 := by omega
    rfl
  | succ k ih =>
    intro n h
    by_cases h0 : n = 0
    · subst h0; rfl
    · rw [dec_pos n (by omega), numF_snoc, ih (n / 10) (by omega), fig_hexD8 10 _ (by omega) (by omega)]
      simp only []
      congr 1
      omega

theorem dec_len8 : ∀ k n : Nat, n < 10 ^ k → (dec n).length ≤ k := by
  intro k
  induction k with
  | zero => intro n h; obtain rfl : n = 0 := by simpa using h
            simp [dec_zero]
  | succ k ih =>
    intro n h
    by_cases h0 : n = 0
    · subst h0; simp [dec_zero]
    · rw [dec_pos n (by omega)]
      have := ih (n / 10) (by rw [Nat.pow_succ] at h; omega)
      simp
      omega

theorem numF_decS8 (n : Nat) : numF 10 (decS n) 0 = some n := by
  unfold decS
  split
  · rename_i h; subst h; decide
  · exact numF_dec8 n n (Nat.le_refl _)

theorem decS_len8 (n : Nat) (h : n ≤ 4294967295) : (decS n).length ≤ 10 := by
  unfold decS
  split
  · simp
  · exact dec_len8 10 n (by omega)

theorem hexD_kind (d : Nat) (h : d < 10) : kindB (hexD d) = 2 := by
  have key : ∀ p : Fin 10, kindB (hexD p.val) = 2 := by decide
  exact key ⟨d, h⟩

theorem dec_kind : ∀ k n : Nat, n ≤ k → ∀ b ∈ dec n, kindB b = 2 := by
  intro k
  induction k with
  | zero =>
    intro n h b hb
    obtain rfl : n = 0 := by omega
    simp [dec_zero] at hb
  | succ k ih =>
    intro n h b hb
    by_cases h0 : n = 0
    · subst h0; simp [dec_zero] at hb
    · rw [dec_pos n (by omega)] at hb
      rcases List.mem_append.1 hb with h1 | h1
      · exact ih (n / 10) (by omega) b h1
      · simp at h1
        rw [h1]
        exact hexD_kind _ (by omega)

theorem decS_kind (n : Nat) : ∀ b ∈ decS n, kindB b = 2 := by
  unfold decS
  split
  · intro b hb; simp at hb; subst hb; decide
  · exact dec_kind n n (Nat.le_refl _)

theorem decS_pos (n : Nat) : 1 ≤ (decS n).length := by
  unfold decS
  split
  · simp
  · rename_i h
    rw [dec_pos n (by omega)]
    simp

/-- Nothing, or a blank first. -/
def Blank (r : List UInt8) : Prop := r = [] ∨ ∃ x q, r = x :: q ∧ kindB x = 0

/-- A run of one kind ends where a blank stands. -/
theorem runL_word {k : Nat} {l r : List UInt8} (hk : ¬ k = 0) (hl : ∀ b ∈ l, kindB b = k) (hr : Blank r) : runL k (l ++ r) = l.length := by
  refine runL_of (by simpa using hl) ?_ (by simp)
  rcases hr with rfl | ⟨x, q, rfl, hx⟩
  · left; simp
  · right
    refine ⟨x, by simp, ?_⟩
    omega

theorem SG_word {k : Nat} {l r : List UInt8} {s : Sg} (hk0 : ¬ k = 0) (hk3 : ¬ k = 3) (h1 : 1 ≤ l.length) (hl : ∀ b ∈ l, kindB b = k) (hr : Blank r) (hs : signOf k l = some s) : SG (l ++ r) = (SG r).map (s :: ·) := by
  have hw := runL_word (r := r) hk0 hl hr
  cases l with
  | nil => simp at h1
  | cons b t =>
    have hb : kindB b = k := hl b (by simp)
    have hwide : wideL b (t ++ r) = (b :: t).length := by
      unfold wideL
      rw [hb, if_neg hk3]
      exact hw
    have ht : (b :: (t ++ r)).take (b :: t).length = b :: t := by
      rw [← List.cons_append]; simp
    have hd : (b :: (t ++ r)).drop (b :: t).length = r := by
      rw [← List.cons_append]; simp
    rw [List.cons_append, SG_some (b := b) (r := t ++ r) (s := s) (by omega) (by rw [hwide, ht, hb]; exact hs), hwide, hd]

theorem mark_kind : ∀ m ∈ markL, ∀ b ∈ m, kindB b = 3 := by decide

theorem mark_shape {l : List UInt8} (h : isMarkL l = true) : (∃ b, l = [b]) ∨ ∃ b c, l = [b, c] := by
  have h1 := marks_short _ (isMark_mem h)
  match l, h1 with
  | [b], _ => exact .inl ⟨b, rfl⟩
  | [b, c], _ => exact .inr ⟨b, c, rfl⟩

theorem SG_mark {l r : List UInt8} (h : isMarkL l = true) (hr : Blank r) : SG (l ++ r) = (SG r).map ((3, l, 0) :: ·) := by
  have hs : signOf 3 l = some (3, l, 0) := by unfold signOf; simp [h]
  rcases mark_shape h with ⟨b, rfl⟩ | ⟨b, c, rfl⟩
  · have hb : kindB b = 3 := mark_kind _ (isMark_mem h) b (by simp)
    have hm : markAt (b :: r) = [b] := by
      rw [markAt_one (fun c hc => ?_), if_pos h]
      rcases hr with rfl | ⟨x, q, rfl, hx⟩
      · simp at hc
      · simp at hc
        subst hc
        cases hq : isMarkL [b, x]
        · rfl
        · have := (isMarkL_second hq).2
          omega
    have hw : wideL b r = 1 := by unfold wideL; rw [if_pos hb, hm]; rfl
    rw [List.singleton_append, SG_some (b := b) (r := r) (s := (3, [b], 0)) (by omega) (by rw [hw, hb]; exact hs), hw]
    rfl
  · have hb : kindB b = 3 := mark_kind _ (isMark_mem h) b (by simp)
    have hm : markAt (b :: c :: r) = [b, c] := markAt_two h
    have hw : wideL b (c :: r) = 2 := by unfold wideL; rw [if_pos hb, hm]; rfl
    show SG (b :: c :: r) = _
    rw [SG_some (b := b) (r := c :: r) (s := (3, [b, c], 0)) (by omega) (by rw [hw, hb]; exact hs), hw]
    rfl

theorem SG_one {p : Sg} {r : List UInt8} (h : SgR p) (hr : Blank r) : SG (txL p ++ r) = (SG r).map (p :: ·) := by
  obtain ⟨k, l, n⟩ := p
  rcases h with ⟨h1, h2, h3, h4, h5⟩ | ⟨h1, h2, h3, h4⟩ | ⟨h1, h2, h3⟩
  · simp only at h1 h2 h3 h4 h5
    subst h1; subst h2
    have e : txL (1, l, 0) = l := by unfold txL; simp
    rw [e]
    exact SG_word (k := 1) (by omega) (by omega) h3 h5 hr (by unfold signOf; simp [h4])
  · simp only at h1 h2 h3 h4
    subst h1; subst h2
    obtain ⟨m, rfl⟩ : ∃ m : Nat, n = (m : Int) := ⟨n.toNat, by omega⟩
    have e : txL (2, [], (m : Int)) = decS m := by unfold txL; simp
    have hm : m ≤ 4294967295 := by omega
    rw [e]
    refine SG_word (k := 2) (by omega) (by omega) (decS_pos m) (decS_kind m) hr ?_
    unfold signOf
    rw [if_neg (by omega), if_pos rfl, numF_decS8 m]
    simp only []
    rw [if_pos ⟨decS_len8 m hm, hm⟩]
  · simp only at h1 h2 h3
    subst h1; subst h2
    have e : txL (3, l, 0) = l := by unfold txL; simp
    rw [e]
    exact SG_mark h3 hr

theorem SG_textN (ps : List Sg) (h : ∀ p ∈ ps, SgR p) : ∀ k, k ≤ ps.length → ∀ r, Blank r → SG (textN ps k ++ r) = behind (ps.take k) (SG r)
  | 0, _, r, _ => by simp [textN, behind_nil]
  | k + 1, hk, r, hr => by
    have hkl : k < ps.length := by omega
    have hg : ps.getD k zeroG = ps[k] := by rw [List.getD_eq_getElem?_getD, List.getElem?_eq_getElem hkl]; rfl
    have hp := h ps[k] (List.getElem_mem hkl)
    have ht : ps.take (k + 1) = ps.take k ++ [ps[k]] := by simp
    have h1 := SG_one hp hr
    rw [textN, hg, ht]
    by_cases h0 : k = 0
    · subst h0
      simp only [textN, if_true, List.nil_append, List.take_zero]
      rw [h1, behind_sign]
    · rw [if_neg h0]
      have ih := SG_textN ps h k (by omega) (32 :: (txL ps[k] ++ r)) (.inr ⟨_, _, rfl, by decide⟩)
      have e : textN ps k ++ ([32] ++ txL ps[k]) ++ r = textN ps k ++ (32 :: (txL ps[k] ++ r)) := by simp
      rw [e, ih, SG_blank (by decide), h1, behind_snoc]

/-- The text of right signs, blanks ahead and behind. -/
theorem SG_back (ps : List Sg) (h : ∀ p ∈ ps, SgR p) (a b : List UInt8) (ha : ∀ x ∈ a, kindB x = 0) (hb : ∀ x ∈ b, kindB x = 0) : SG (a ++ textN ps ps.length ++ b) = some ps := by
  have e1 := SG_blanks a.length (a ++ (textN ps ps.length ++ b)) (by simp) (by simpa using ha)
  have hbl : Blank b := by
    cases b with
    | nil => exact .inl rfl
    | cons x q => exact .inr ⟨x, q, rfl, hb x (by simp)⟩
  have e2 : SG b = some [] := by
    have := SG_blanks b.length b (by simp) (by simpa using hb)
    rw [this]
    simp [SG_nil]
  rw [List.append_assoc, e1]
  simp only [List.drop_left]
  rw [SG_textN ps h ps.length (Nat.le_refl _) b hbl, e2]
  simp [behind]

/-- The sign at a place; behind the last one there is one of no kind. -/
def sgA (G : List Sg) (i : Nat) : Sg := G.getD i zeroG

def isT (G : List Sg) (i : Nat) (t : List UInt8) : Bool := (sgA G i).2.1 == t

def numAt (G : List Sg) (i : Nat) : Bool := (sgA G i).1 == 2

abbrev tArch : List UInt8 := [97, 114, 99, 104]
abbrev tDefault : List UInt8 := [100, 101, 102, 97, 117, 108, 116]
abbrev tOn : List UInt8 := [111, 110]
abbrev tAny : List UInt8 := [97, 110, 121]
abbrev tIf : List UInt8 := [105, 102]
abbrev tAnd : List UInt8 := [97, 110, 100]
abbrev tDo : List UInt8 := [100, 111]
abbrev tArg : List UInt8 := [97, 114, 103]
abbrev tSemi : List UInt8 := [59]
abbrev tComma : List UInt8 := [44]
abbrev tAmp : List UInt8 := [38]
abbrev tColon : List UInt8 := [58]

def actL : List (List UInt8) := [[107, 105, 108, 108], [116, 114, 97, 112], [101, 114, 114], [116, 114, 97, 99, 101], [108, 111, 103], [97, 108, 108, 111, 119]]

def cmL : List (List UInt8) := [[61, 61], [33, 61], [60], [60, 61], [62], [62, 61]]

def findT (L : List (List UInt8)) (t : List UInt8) : Option Nat := L.findIdx? (· == t)

/- What impl's reader does, in plain lists: the value and the place behind it; nothing: a wrong sign. -/

def rPass (G : List Sg) (i : Nat) (t : List UInt8) : Option Nat := if isT G i t then some (i + 1) else none

def rNum (G : List Sg) (i : Nat) : Option (Int × Nat) := if numAt G i then some ((sgA G i).2.2, i + 1) else none

def rAct (G : List Sg) (i : Nat) : Option (Int × Nat) := (findT actL (sgA G i).2.1).map fun (k : Nat) => ((k : Int), i + 1)

def rOut (G : List Sg) (i : Nat) : Option ((Int × Int) × Nat) :=
  match rAct G i with
  | none => none
  | some (a, j) => if numAt G j then some ((a, (sgA G j).2.2), j + 1) else some ((a, 0), j)

def rWide (G : List Sg) (i : Nat) : Option ((Int × Int) × Nat) :=
  match rNum G i with
  | none => none
  | some (n, j) => if isT G j tColon then (match rNum G (j + 1) with
    | none => none
    | some (m, k) => some ((n, m), k)) else some ((0, n), j)

def rMask (G : List Sg) (i : Nat) : Option ((Int × Int) × Nat) := if isT G i tAmp then rWide G (i + 1) else some ((4294967295, 4294967295), i)

def rCmp (G : List Sg) (i : Nat) : Option (Int × Nat) := (findT cmL (sgA G i).2.1).map fun (k : Nat) => ((k : Int) + 1, i + 1)

def rCond (G : List Sg) (i : Nat) : Option (CN × Nat) :=
  match rPass G i tArg with
  | none => none
  | some i1 => match rNum G i1 with
    | none => none
    | some (a, i2) => match rMask G i2 with
      | none => none
      | some (m, i3) => match rCmp G i3 with
        | none => none
        | some (c, i4) => match rWide G i4 with
          | none => none
          | some (v, i5) => some (⟨a, m.1, m.2, c, v.1, v.2⟩, i5)

/-- Conditions, each behind 'and'. -/
def rAndF : Nat → List Sg → Nat → Option (List CN × Nat)
  | 0, _, i => some ([], i)
  | f + 1, G, i => if isT G i tAnd then (match rCond G (i + 1) with
    | none => none
    | some (c, j) => (rAndF f G j).map fun p => (c :: p.1, p.2)) else some ([], i)

def rConds (G : List Sg) (i : Nat) : Option (List CN × Nat) :=
  if isT G i tIf then (match rCond G (i + 1) with
    | none => none
    | some (c, j) => (rAndF G.length G j).map fun p => (c :: p.1, p.2)) else some ([], i)

def rCall (G : List Sg) (i : Nat) : Option (Int × Nat) :=
  if numAt G i then some ((sgA G i).2.2, i + 1) else if callN (sgA G i).2.1 < 0 then none else some (callN (sgA G i).2.1, i + 1)

/-- Calls, each behind a comma. -/
def rCommaF : Nat → List Sg → Nat → Option (List Int × Nat)
  | 0, _, i => some ([], i)
  | f + 1, G, i => if isT G i tComma then (match rCall G (i + 1) with
    | none => none
    | some (c, j) => (rCommaF f G j).map fun p => (c :: p.1, p.2)) else some ([], i)

def sortZ (l : List Int) : List Int := l.mergeSort fun x y => decide (x ≤ y)

def rNums (G : List Sg) (i : Nat) : Option (List Int × Nat) :=
  if isT G i tAny then some ([], i + 1) else (match rCall G i with
    | none => none
    | some (c, j) => (rCommaF G.length G j).map fun p => (sortZ (c :: p.1), p.2))

def rRule (G : List Sg) (i : Nat) : Option (RN × Nat) :=
  match rPass G i tOn with
  | none => none
  | some i1 => match rNums G i1 with
    | none => none
    | some (zs, i2) => match rConds G i2 with
      | none => none
      | some (cs, i3) => match rPass G i3 tDo with
        | none => none
        | some i4 => match rOut G i4 with
          | none => none
          | some (o, i5) => match rPass G i5 tSemi with
            | none => none
            | some i6 => some (⟨zs, cs, o.1, o.2⟩, i6)

def rRulesF : Nat → List Sg → Nat → Option (List RN)
  | 0, _, _ => some []
  | f + 1, G, i => if i = G.length then some [] else (match rRule G i with
    | none => none
    | some (r, j) => (rRulesF f G j).map (r :: ·))

/-- Arch, action, data, and the place of the first rule. -/
def rHead (G : List Sg) : Option ((Int × Int × Int) × Nat) :=
  match rPass G 0 tArch with
  | none => none
  | some i1 => match rNum G i1 with
    | none => none
    | some (a, i2) => match rPass G i2 tSemi with
      | none => none
      | some i3 => match rPass G i3 tDefault with
        | none => none
        | some i4 => match rOut G i4 with
          | none => none
          | some (o, i5) => match rPass G i5 tSemi with
            | none => none
            | some i6 => some ((a, o.1, o.2), i6)

def rPolicy (G : List Sg) : Option PN :=
  match rHead G with
  | none => none
  | some (h, i) => (rRulesF G.length G i).map fun rs => ⟨h.1, h.2.1, h.2.2, rs⟩

/- What spec's reader does: its state is the place, or nothing when it is bad. -/

def nx (s : Option Nat) : Option Nat := s.map (· + 1)

def sIs (G : List Sg) (s : Option Nat) (k : Int) (t : List UInt8) : Bool :=
  match s with
  | none => false
  | some i => decide (i < G.length) && ((sgA G i).1 == k) && ((sgA G i).2.1 == t)

def sTk (G : List Sg) (s : Option Nat) (k : Int) (t : List UInt8) : Option Nat := if sIs G s k t then nx s else s

def sWt (G : List Sg) (s : Option Nat) (k : Int) (t : List UInt8) : Option Nat := if sIs G s k t then nx s else none

def sHas (G : List Sg) (s : Option Nat) : Bool :=
  match s with
  | none => false
  | some i => decide (i < G.length) && ((sgA G i).1 == 2)

def sNum (G : List Sg) (s : Option Nat) : Int × Option Nat :=
  match s with
  | none => (0, none)
  | some i => if sHas G s then ((sgA G i).2.2, some (i + 1)) else (0, none)

def sName (G : List Sg) (s : Option Nat) : List UInt8 × Option Nat :=
  match s with
  | none => ([], none)
  | some i => if decide (i < G.length) && ((sgA G i).1 == 1) then ((sgA G i).2.1, some (i + 1)) else ([], none)

def sAct (G : List Sg) (s : Option Nat) : (Int × Int) × Option Nat :=
  match findT actL (sName G s).1 with
  | none => ((0, 0), none)
  | some k => if sHas G (sName G s).2 then (((k : Int), (sNum G (sName G s).2).1), (sNum G (sName G s).2).2) else (((k : Int), 0), (sName G s).2)

def sWide (G : List Sg) (s : Option Nat) : (Int × Int) × Option Nat :=
  if sIs G (sNum G s).2 3 tColon then (((sNum G s).1, (sNum G (nx (sNum G s).2)).1), (sNum G (nx (sNum G s).2)).2) else ((0, (sNum G s).1), (sNum G s).2)

def sMask (G : List Sg) (s : Option Nat) : (Int × Int) × Option Nat := if sIs G s 3 tAmp then sWide G (nx s) else ((4294967295, 4294967295), s)

def sCmp (G : List Sg) (s : Option Nat) : Int × Option Nat :=
  match s with
  | none => (0, none)
  | some i => if decide (i < G.length) && ((sgA G i).1 == 3) then (match findT cmL (sgA G i).2.1 with
    | none => (0, some i)
    | some k => ((k : Int) + 1, some (i + 1))) else (0, some i)

def sCond (G : List Sg) (s : Option Nat) : CN × Option Nat :=
  let a := sNum G (sWt G s 1 tArg)
  let m := sMask G a.2
  let c := sCmp G m.2
  let v := sWide G c.2
  (⟨a.1, m.1.1, m.1.2, c.1, v.1.1, v.1.2⟩, v.2)

/-- The loop of conditions. -/
def sAndF : Nat → List Sg → List CN → Option Nat → List CN × Option Nat
  | 0, _, acc, s => (acc, s)
  | f + 1, G, acc, s => match s with
    | none => (acc, none)
    | some i => if sIs G (sCond G (some i)).2 1 tAnd then sAndF f G (acc ++ [(sCond G (some i)).1]) (nx (sCond G (some i)).2) else (acc ++ [(sCond G (some i)).1], (sCond G (some i)).2)

def sConds (G : List Sg) (s : Option Nat) : List CN × Option Nat := if sIs G s 1 tIf then sAndF (G.length + 1) G [] (nx s) else ([], s)

def putZ (l : List Int) (n : Int) : List Int := if l.contains n then l else l.filter (fun x => decide (x < n)) ++ [n] ++ l.filter (fun x => decide (n < x))

def sCall (G : List Sg) (s : Option Nat) : Int × Option Nat := if sHas G s then sNum G s else (callN (sName G s).1, (sName G s).2)

/-- What is left of the state behind a number: it is none, or was there. -/
def sGot (G : List Sg) (acc : List Int) (s : Option Nat) : Option Nat := if decide ((sCall G s).1 < 0) || acc.contains (sCall G s).1 then none else (sCall G s).2

def sNumsF : Nat → List Sg → List Int → Option Nat → List Int × Option Nat
  | 0, _, acc, s => (acc, s)
  | f + 1, G, acc, s => match s with
    | none => (acc, none)
    | some i => if sIs G (sGot G acc (some i)) 3 tComma then sNumsF f G (putZ acc (sCall G (some i)).1) (nx (sGot G acc (some i))) else (putZ acc (sCall G (some i)).1, sGot G acc (some i))

def sNums (G : List Sg) (s : Option Nat) : List Int × Option Nat := if sIs G s 1 tAny then ([], nx s) else sNumsF (G.length + 1) G [] s

def sRule (G : List Sg) (s : Option Nat) : RN × Option Nat :=
  let z := sNums G (sWt G s 1 tOn)
  let c := sConds G z.2
  let o := sAct G (sWt G c.2 1 tDo)
  (⟨z.1, c.1, o.1.1, o.1.2⟩, sWt G o.2 3 tSemi)

def sRulesF : Nat → List Sg → List RN → Option Nat → List RN × Option Nat
  | 0, _, acc, s => (acc, s)
  | f + 1, G, acc, s => match s with
    | none => (acc, none)
    | some i => if i < G.length then sRulesF f G (acc ++ [(sRule G (some i)).1]) (sRule G (some i)).2 else (acc, some i)

def sHead (G : List Sg) : (Int × Int × Int) × Option Nat :=
  let a := sNum G (sWt G (some 0) 1 tArch)
  let o := sAct G (sWt G (sWt G a.2 3 tSemi) 1 tDefault)
  ((a.1, o.1.1, o.1.2), sWt G o.2 3 tSemi)

def sPolicy (G : List Sg) : PN × Option Nat :=
  let h := sHead G
  let r := sRulesF (G.length + 1) G [] h.2
  (⟨h.1.1, h.1.2.1, h.1.2.2, r.1⟩, r.2)

/- Both are one. -/

def Good (G : List Sg) : Prop := ∀ p ∈ G, SgR p

theorem sgA_cases {G : List Sg} (h : Good G) (i : Nat) : (i < G.length ∧ SgR (sgA G i)) ∨ (G.length ≤ i ∧ sgA G i = zeroG) := by
  unfold sgA
  by_cases hi : i < G.length
  · exact .inl ⟨hi, by rw [List.getD_eq_getElem?_getD, List.getElem?_eq_getElem hi]; exact h _ (List.getElem_mem hi)⟩
  · exact .inr ⟨by omega, by rw [List.getD_eq_getElem?_getD, List.getElem?_eq_none (by omega)]; rfl⟩

/-- A sign's kind is that of its text's first byte. -/
theorem good_kind {p : Sg} (h : SgR p) {b : UInt8} {r : List UInt8} (hp : p.2.1 = b :: r) : p.1 = (kindB b : Int) := by
  rcases h with ⟨h1, _, _, _, h5⟩ | ⟨_, h2, _⟩ | ⟨h1, _, h3⟩
  · rw [h1, h5 b (by rw [hp]; simp)]; rfl
  · rw [hp] at h2; cases h2
  · rw [h1, mark_kind p.2.1 (by simpa [isMarkL] using h3) b (by rw [hp]; simp)]; rfl

/-- A text whose first byte is of this kind. -/
def HdK (k : Nat) (t : List UInt8) : Prop := ∃ b r, t = b :: r ∧ kindB b = k

theorem sIs_isT {G : List Sg} (h : Good G) (i : Nat) {k : Nat} {t : List UInt8} (ht : HdK k t) : sIs G (some i) (k : Int) t = isT G i t := by
  obtain ⟨b, r, rfl, hk⟩ := ht
  unfold sIs isT
  rcases sgA_cases h i with ⟨hi, hg⟩ | ⟨hi, hz⟩
  · simp only [hi, decide_true, Bool.true_and]
    cases e : (sgA G i).2.1 == (b :: r)
    · simp
    · have := good_kind hg (by simpa using e)
      rw [this, hk]; simp
  · have : ¬ i < G.length := by omega
    rw [hz]; simp [zeroG, this]

theorem isT_lt {G : List Sg} {i : Nat} {t : List UInt8} (ht : t ≠ []) (h : isT G i t = true) : i < G.length := by
  by_cases hi : i < G.length
  · exact hi
  · unfold isT sgA at h
    rw [List.getD_eq_getElem?_getD, List.getElem?_eq_none (by omega)] at h
    simp [zeroG] at h
    exact absurd h ht

theorem numAt_lt {G : List Sg} {i : Nat} (h : numAt G i = true) : i < G.length := by
  by_cases hi : i < G.length
  · exact hi
  · unfold numAt sgA at h
    rw [List.getD_eq_getElem?_getD, List.getElem?_eq_none (by omega)] at h
    simp [zeroG] at h

theorem sHas_numAt (G : List Sg) (i : Nat) : sHas G (some i) = numAt G i := by
  by_cases hi : i < G.length
  · simp [sHas, numAt, hi]
  · unfold sHas
    simp only [hi, decide_false, Bool.false_and]
    cases e : numAt G i
    · rfl
    · exact absurd (numAt_lt e) hi

/-- What spec's reader tells when impl's tells o. -/
def Rel {α : Type} (o : Option (α × Nat)) (x : α × Option Nat) : Prop := match o with
  | some (v, j) => x = (v, some j)
  | none => x.2 = none

theorem sNum_rel (G : List Sg) (i : Nat) : Rel (rNum G i) (sNum G (some i)) := by
  unfold rNum sNum
  rw [sHas_numAt]
  cases numAt G i <;> simp [Rel]

theorem hd1 : HdK 1 tArch ∧ HdK 1 tDefault ∧ HdK 1 tOn ∧ HdK 1 tAny ∧ HdK 1 tIf ∧ HdK 1 tAnd ∧ HdK 1 tDo ∧ HdK 1 tArg :=
  ⟨⟨_, _, rfl, by decide⟩, ⟨_, _, rfl, by decide⟩, ⟨_, _, rfl, by decide⟩, ⟨_, _, rfl, by decide⟩, ⟨_, _, rfl, by decide⟩, ⟨_, _, rfl, by decide⟩, ⟨_, _, rfl, by decide⟩, ⟨_, _, rfl, by decide⟩⟩

theorem hd3 : HdK 3 tSemi ∧ HdK 3 tComma ∧ HdK 3 tAmp ∧ HdK 3 tColon :=
  ⟨⟨_, _, rfl, by decide⟩, ⟨_, _, rfl, by decide⟩, ⟨_, _, rfl, by decide⟩, ⟨_, _, rfl, by decide⟩⟩

theorem findT_mem {L : List (List UInt8)} {t : List UInt8} {k : Nat} (h : findT L t = some k) : t ∈ L := by
  obtain ⟨hk, h2, _⟩ := List.findIdx?_eq_some_iff_getElem.1 h
  have : L[k] = t := by simpa using h2
  rw [← this]; exact List.getElem_mem hk

theorem actL_hd : ∀ t ∈ actL, HdK 1 t := by
  have h : ∀ t ∈ actL, (t.head?.map kindB) = some 1 := by decide
  intro t ht
  have := h t ht
  cases t with
  | nil => simp at this
  | cons b r => exact ⟨b, r, rfl, by simpa using this⟩

theorem cmL_hd : ∀ t ∈ cmL, HdK 3 t := by
  have h : ∀ t ∈ cmL, (t.head?.map kindB) = some 3 := by decide
  intro t ht
  have := h t ht
  cases t with
  | nil => simp at this
  | cons b r => exact ⟨b, r, rfl, by simpa using this⟩

theorem nameL_hd : ∀ t ∈ nameL, HdK 1 t := by
  have h : ∀ t ∈ nameL, (t.head?.map kindB) = some 1 := by decide
  intro t ht
  have := h t ht
  cases t with
  | nil => simp at this
  | cons b r => exact ⟨b, r, rfl, by simpa using this⟩

theorem hd_kind {G : List Sg} (h : Good G) {i : Nat} {k : Nat} (ht : HdK k (sgA G i).2.1) : i < G.length ∧ (sgA G i).1 = (k : Int) := by
  obtain ⟨b, r, e, hk⟩ := ht
  rcases sgA_cases h i with ⟨hi, hg⟩ | ⟨hi, hz⟩
  · exact ⟨hi, by rw [good_kind hg e, hk]⟩
  · rw [hz] at e; simp [zeroG] at e

theorem callN_nil : callN [] = -1 := by decide
theorem findT_act_nil : findT actL [] = none := by decide

theorem callN_mem {t : List UInt8} (h : ¬ callN t < 0) : t ∈ nameL := by
  unfold callN at h
  cases e : nameL.findIdx? (· == t) with
  | none => rw [e] at h; simp at h
  | some k => exact findT_mem (L := nameL) e

theorem sAct_rel {G : List Sg} (h : Good G) (i : Nat) : Rel (rOut G i) (sAct G (some i)) := by
  unfold rOut rAct
  cases e : findT actL (sgA G i).2.1 with
  | none =>
    simp only [Option.map_none, Rel]
    have : (findT actL (sName G (some i)).1) = none := by
      unfold sName
      simp only
      split
      · exact e
      · exact findT_act_nil
    unfold sAct
    rw [this]
  | some k =>
    obtain ⟨hi, hk⟩ := hd_kind h (actL_hd _ (findT_mem e))
    have hn : sName G (some i) = ((sgA G i).2.1, some (i + 1)) := by simp [sName, hi, hk]
    simp only [Option.map_some]
    unfold sAct
    rw [hn]
    simp only [e]
    rw [sHas_numAt]
    cases e2 : numAt G (i + 1)
    · simp [Rel]
    · simp [Rel, sNum, sHas_numAt, e2]

theorem sNum_none (G : List Sg) : sNum G none = (0, none) := rfl
theorem sIs_none (G : List Sg) (k : Int) (t : List UInt8) : sIs G none k t = false := rfl
theorem sHas_none (G : List Sg) : sHas G none = false := rfl
theorem sWt_none (G : List Sg) (k : Int) (t : List UInt8) : sWt G none k t = none := rfl
theorem sName_none (G : List Sg) : sName G none = ([], none) := rfl
theorem sAct_none (G : List Sg) : sAct G none = ((0, 0), none) := by simp [sAct, sName_none, findT_act_nil]
theorem sWide_none (G : List Sg) : sWide G none = ((0, 0), none) := by simp [sWide, sNum_none, sIs_none]
theorem sMask_none (G : List Sg) : (sMask G none).2 = none := by simp [sMask, sIs_none]
theorem sCmp_none (G : List Sg) : sCmp G none = (0, none) := rfl

theorem sWt_rel {G : List Sg} (h : Good G) (i : Nat) {k : Nat} {t : List UInt8} (ht : HdK k t) : sWt G (some i) (k : Int) t = rPass G i t := by
  unfold sWt rPass
  rw [sIs_isT h i ht]
  rfl

theorem sWide_rel {G : List Sg} (h : Good G) (i : Nat) : Rel (rWide G i) (sWide G (some i)) := by
  have h1 := sNum_rel G i
  unfold rWide
  cases e : rNum G i with
  | none =>
    rw [e] at h1
    simp only [Rel] at h1 ⊢
    unfold sWide
    rw [h1, sIs_none]
    simp
  | some x =>
    obtain ⟨n, j⟩ := x
    rw [e] at h1
    simp only [Rel] at h1
    simp only
    unfold sWide
    rw [h1]
    simp only
    rw [show sIs G (some j) 3 tColon = isT G j tColon from sIs_isT h j hd3.2.2.2]
    cases isT G j tColon
    · simp [Rel]
    · simp only [if_true, nx, Option.map_some]
      have h2 := sNum_rel G (j + 1)
      cases e2 : rNum G (j + 1) with
      | none => rw [e2] at h2; simpa [Rel] using h2
      | some y => rw [e2] at h2; simp only [Rel] at h2; rw [h2]; simp [Rel]

theorem sMask_rel {G : List Sg} (h : Good G) (i : Nat) : Rel (rMask G i) (sMask G (some i)) := by
  unfold rMask sMask
  rw [show sIs G (some i) 3 tAmp = isT G i tAmp from sIs_isT h i hd3.2.2.1]
  cases isT G i tAmp
  · simp [Rel]
  · exact sWide_rel h (i + 1)

theorem sCmp_rel {G : List Sg} (h : Good G) (i : Nat) : (∀ c j, rCmp G i = some (c, j) → sCmp G (some i) = (c, some j)) ∧ (rCmp G i = none → (sCmp G (some i)).1 = 0) := by
  unfold rCmp sCmp
  cases e : findT cmL (sgA G i).2.1 with
  | none =>
    refine ⟨fun c j hc => by simp at hc, fun _ => ?_⟩
    simp only
    split <;> simp [e]
  | some k =>
    obtain ⟨hi, hk⟩ := hd_kind h (cmL_hd _ (findT_mem e))
    refine ⟨fun c j hc => ?_, fun hc => by simp at hc⟩
    simp at hc
    simp [hi, hk, e, hc.1, hc.2]

theorem sCond_rel {G : List Sg} (h : Good G) (i : Nat) : (∀ c j, rCond G i = some (c, j) → sCond G (some i) = (c, some j)) ∧ (rCond G i = none → (sCond G (some i)).2 = none ∨ (sCond G (some i)).1.cm = 0) := by
  unfold rCond sCond
  simp only
  rw [show sWt G (some i) 1 tArg = rPass G i tArg from sWt_rel h i hd1.2.2.2.2.2.2.2]
  cases rPass G i tArg with
  | none => simp only [sNum_none, sMask_none, sCmp_none, sWide_none]; simp
  | some i1 =>
    simp only
    have h1 := sNum_rel G i1
    cases e1 : rNum G i1 with
    | none =>
      rw [e1] at h1
      simp only [Rel] at h1
      simp only [h1, sMask_none, sCmp_none, sWide_none]; simp
    | some x =>
      obtain ⟨a, i2⟩ := x
      rw [e1] at h1
      simp only [Rel] at h1
      simp only [h1]
      have h2 := sMask_rel h i2
      cases e2 : rMask G i2 with
      | none =>
        rw [e2] at h2
        simp only [Rel] at h2
        simp only [h2, sCmp_none, sWide_none]; simp
      | some x =>
        obtain ⟨m, i3⟩ := x
        rw [e2] at h2
        simp only [Rel] at h2
        simp only [h2]
        obtain ⟨h3, h4⟩ := sCmp_rel h i3
        cases e3 : rCmp G i3 with
        | none => simp [h4 e3]
        | some x =>
          obtain ⟨c, i4⟩ := x
          simp only [h3 c i4 e3]
          have h5 := sWide_rel h i4
          cases e5 : rWide G i4 with
          | none =>
            rw [e5] at h5
            simp only [Rel] at h5
            simp [h5]
          | some x =>
            obtain ⟨v, i5⟩ := x
            rw [e5] at h5
            simp only [Rel] at h5
            simp only [h5]
            simp

theorem rNum_lt {G : List Sg} {i j : Nat} {n : Int} (h : rNum G i = some (n, j)) : j = i + 1 ∧ i < G.length := by
  unfold rNum at h
  cases e : numAt G i
  · rw [e] at h; simp at h
  · rw [e] at h
    simp at h
    exact ⟨h.2.symm, numAt_lt e⟩

theorem rWide_lt {G : List Sg} {i j : Nat} {n : Int × Int} (h : rWide G i = some (n, j)) : i < j ∧ j ≤ G.length := by
  unfold rWide at h
  cases e : rNum G i with
  | none => rw [e] at h; simp at h
  | some x =>
    obtain ⟨m, k⟩ := x
    rw [e] at h
    obtain ⟨rfl, hk⟩ := rNum_lt e
    simp only at h
    cases e2 : isT G (i + 1) tColon
    · rw [e2] at h; simp at h; omega
    · rw [e2] at h
      simp only [if_true] at h
      cases e3 : rNum G (i + 1 + 1) with
      | none => rw [e3] at h; simp at h
      | some y =>
        obtain ⟨m', k'⟩ := y
        rw [e3] at h
        obtain ⟨rfl, hk⟩ := rNum_lt e3
        simp at h
        omega

theorem rMask_lt {G : List Sg} {i j : Nat} {n : Int × Int} (h : rMask G i = some (n, j)) : i ≤ j := by
  unfold rMask at h
  cases e : isT G i tAmp
  · rw [e] at h; simp at h; omega
  · rw [e] at h
    simp only [if_true] at h
    have := rWide_lt h
    omega

theorem rPass_lt {G : List Sg} {i j : Nat} {t : List UInt8} (ht : t ≠ []) (h : rPass G i t = some j) : j = i + 1 ∧ i < G.length := by
  unfold rPass at h
  cases e : isT G i t
  · rw [e] at h; simp at h
  · rw [e] at h
    simp at h
    exact ⟨h.symm, isT_lt ht e⟩

theorem rCond_lt {G : List Sg} {i j : Nat} {c : CN} (h : rCond G i = some (c, j)) : i < j ∧ j ≤ G.length := by
  unfold rCond at h
  cases e0 : rPass G i tArg with
  | none => rw [e0] at h; simp at h
  | some i1 =>
    rw [e0] at h
    simp only at h
    have a0 := rPass_lt (by decide) e0
    cases e1 : rNum G i1 with
    | none => rw [e1] at h; simp at h
    | some x =>
      obtain ⟨a, i2⟩ := x
      rw [e1] at h
      simp only at h
      have a1 := rNum_lt e1
      cases e2 : rMask G i2 with
      | none => rw [e2] at h; simp at h
      | some x =>
        obtain ⟨m, i3⟩ := x
        rw [e2] at h
        simp only at h
        have a2 := rMask_lt e2
        cases e3 : rCmp G i3 with
        | none => rw [e3] at h; simp at h
        | some x =>
          obtain ⟨cm, i4⟩ := x
          rw [e3] at h
          simp only at h
          have a3 : i4 = i3 + 1 := by
            unfold rCmp at e3
            cases e : findT cmL (sgA G i3).2.1 with
            | none => rw [e] at e3; simp at e3
            | some k => rw [e] at e3; simp at e3; omega
          cases e4 : rWide G i4 with
          | none => rw [e4] at h; simp at h
          | some x =>
            obtain ⟨v, i5⟩ := x
            rw [e4] at h
            have a4 := rWide_lt e4
            simp at h
            omega

/-- One condition, and those behind 'and'. -/
def rOnesF (f : Nat) (G : List Sg) (i : Nat) : Option (List CN × Nat) :=
  match rCond G i with
  | none => none
  | some (c, j) => (rAndF f G j).map fun p => (c :: p.1, p.2)

theorem rAndF_one (f : Nat) (G : List Sg) (i : Nat) : rAndF (f + 1) G i = if isT G i tAnd then rOnesF f G (i + 1) else some ([], i) := rfl

theorem sAndF_keeps (G : List Sg) (c : CN) : ∀ (g : Nat) (acc : List CN) (s : Option Nat), c ∈ acc → c ∈ (sAndF g G acc s).1
  | 0, _, _, h => h
  | g + 1, acc, none, h => h
  | g + 1, acc, some i, h => by
    rw [sAndF]
    split
    · exact sAndF_keeps G c g _ _ (by simp [h])
    · simp [h]

theorem sAndF_none (g : Nat) (G : List Sg) (acc : List CN) : sAndF g G acc none = (acc, none) := by cases g <;> rfl

theorem sAndF_rel {G : List Sg} (h : Good G) : ∀ (g f : Nat) (acc : List CN) (i : Nat), G.length ≤ i + f → G.length + 1 ≤ i + g → i ≤ G.length →
    (∀ l j, rOnesF f G i = some (l, j) → sAndF g G acc (some i) = (acc ++ l, some j)) ∧ (rOnesF f G i = none → (sAndF g G acc (some i)).2 = none ∨ ∃ c ∈ (sAndF g G acc (some i)).1, c.cm = 0)
  | 0, f, acc, i, hf, hg, hi => absurd hg (by omega)
  | g + 1, f, acc, i, hf, hg, hi => by
    obtain ⟨h1, h2⟩ := sCond_rel h i
    unfold rOnesF
    rw [sAndF]
    cases e : rCond G i with
    | none =>
      refine ⟨fun l j hl => by simp at hl, fun _ => ?_⟩
      rcases h2 e with hn | hc
      · rw [hn, sIs_none]; simp
      · right
        split
        · exact ⟨_, sAndF_keeps G _ g _ _ (by simp), hc⟩
        · exact ⟨_, by simp, hc⟩
    | some x =>
      obtain ⟨c, j⟩ := x
      have hlt := rCond_lt e
      rw [h1 c j e]
      simp only
      rw [show sIs G (some j) 1 tAnd = isT G j tAnd from sIs_isT h j hd1.2.2.2.2.2.1]
      cases ea : isT G j tAnd
      · have hr : rAndF f G j = some ([], j) := by
          cases f with
          | zero => rfl
          | succ f => rw [rAndF_one, ea]; rfl
        rw [hr]
        simp
      · have hj := isT_lt (by decide) ea
        obtain ⟨f, rfl⟩ : ∃ f', f = f' + 1 := ⟨f - 1, by omega⟩
        obtain ⟨h3, h4⟩ := sAndF_rel h g f (acc ++ [c]) (j + 1) (by omega) (by omega) (by omega)
        rw [rAndF_one, ea]
        simp only [if_true, nx, Option.map_some]
        cases er : rOnesF f G (j + 1) with
        | none => refine ⟨fun l k hl => by simp at hl, fun _ => h4 er⟩
        | some y =>
          obtain ⟨l, k⟩ := y
          rw [h3 l k er]
          refine ⟨fun l' j' hl => ?_, fun hn => by simp at hn⟩
          simp at hl
          obtain ⟨rfl, rfl⟩ := hl
          simp

theorem sConds_rel {G : List Sg} (h : Good G) (i : Nat) (hi : i ≤ G.length) :
    (∀ l j, rConds G i = some (l, j) → sConds G (some i) = (l, some j)) ∧ (rConds G i = none → (sConds G (some i)).2 = none ∨ ∃ c ∈ (sConds G (some i)).1, c.cm = 0) := by
  unfold rConds sConds
  rw [show sIs G (some i) 1 tIf = isT G i tIf from sIs_isT h i hd1.2.2.2.2.1]
  cases e : isT G i tIf
  · simp
  · have hl := isT_lt (by decide) e
    obtain ⟨h1, h2⟩ := sAndF_rel h (G.length + 1) G.length [] (i + 1) (by omega) (by omega) (by omega)
    simp only [if_true, nx, Option.map_some]
    exact ⟨fun l j hl => by rw [h1 l j hl]; simp, h2⟩

theorem sConds_none (G : List Sg) : sConds G none = ([], none) := rfl

/- Numbers. -/

theorem sCall_rel {G : List Sg} (h : Good G) (i : Nat) : (∀ n j, rCall G i = some (n, j) → sCall G (some i) = (n, some j) ∧ 0 ≤ n ∧ j = i + 1 ∧ i < G.length) ∧ (rCall G i = none → (sCall G (some i)).1 < 0) := by
  unfold rCall sCall
  rw [sHas_numAt]
  cases e : numAt G i
  · simp only [Bool.false_eq_true, if_false]
    by_cases hc : callN (sgA G i).2.1 < 0
    · rw [if_pos hc]
      refine ⟨fun n j hn => by simp at hn, fun _ => ?_⟩
      unfold sName
      simp only
      split
      · exact hc
      · rw [callN_nil]; decide
    · rw [if_neg hc]
      obtain ⟨hi, hk⟩ := hd_kind h (nameL_hd _ (callN_mem hc))
      have hn : sName G (some i) = ((sgA G i).2.1, some (i + 1)) := by simp [sName, hi, hk]
      rw [hn]
      refine ⟨fun n j hn => ?_, fun hn => by simp at hn⟩
      simp at hn
      obtain ⟨rfl, rfl⟩ := hn
      exact ⟨rfl, by omega, rfl, hi⟩
  · simp only [if_true]
    refine ⟨fun n j hn => ?_, fun hn => by simp at hn⟩
    simp at hn
    obtain ⟨rfl, rfl⟩ := hn
    refine ⟨by simp [sNum, sHas_numAt, e], ?_, rfl, numAt_lt e⟩
    rcases sgA_cases h i with ⟨hi, hg⟩ | ⟨hi, hz⟩
    · have hk : (sgA G i).1 = 2 := by simpa [numAt] using e
      rcases hg with ⟨h1, _⟩ | ⟨_, _, h3, _⟩ | ⟨h1, _⟩
      · omega
      · exact h3
      · omega
    · rw [hz]; simp [zeroG]

theorem sortZ_perm (l : List Int) : (sortZ l).Perm l := List.mergeSort_perm l _

theorem sortZ_up (l : List Int) : (sortZ l).Pairwise (· ≤ ·) := by
  have := List.pairwise_mergeSort (le := fun (x y : Int) => decide (x ≤ y)) (by intro a b c; simp; omega) (by intro a b; simp; omega) l
  exact this.imp (by intro a b; simp)

theorem up_eq {l m : List Int} (h1 : l.Pairwise (· ≤ ·)) (h2 : m.Pairwise (· ≤ ·)) (h : l.Perm m) : l = m :=
  List.Perm.eq_of_pairwise (fun a b _ _ h1 h2 => Int.le_antisymm h1 h2) h1 h2 h

theorem filter_parts (n : Int) : ∀ (l : List Int), n ∉ l → (l.filter (fun x => decide (x < n)) ++ [n] ++ l.filter (fun x => decide (n < x))).Perm (l ++ [n])
  | [], _ => by simp
  | a :: l, h => by
    have ih := filter_parts n l (fun hm => h (by simp [hm]))
    have ha : ¬ n = a := fun e => h (by simp [e])
    by_cases hlt : a < n
    · have h2 : ¬ n < a := by omega
      simp only [List.filter_cons, hlt, h2, decide_true, decide_false, if_true, Bool.false_eq_true, if_false]
      simpa using ih
    · have h2 : n < a := by omega
      simp only [List.filter_cons, hlt, h2, decide_true, decide_false, if_true, Bool.false_eq_true, if_false]
      refine (List.perm_middle (a := a)).trans ?_
      simpa using ih

theorem putZ_sort {ys : List Int} {n : Int} (h : n ∉ ys) : putZ (sortZ ys) n = sortZ (ys ++ [n]) := by
  have hm : n ∉ sortZ ys := fun hm => h ((sortZ_perm ys).mem_iff.1 hm)
  unfold putZ
  rw [if_neg (by simpa using hm)]
  refine up_eq ?_ (sortZ_up _) ?_
  · have hu := sortZ_up ys
    simp only [List.append_assoc, List.singleton_append]
    rw [List.pairwise_append]
    refine ⟨hu.filter _, ?_, ?_⟩
    · rw [List.pairwise_cons]
      exact ⟨fun a ha => by simp at ha; omega, hu.filter _⟩
    · intro a ha b hb
      simp at ha hb
      rcases hb with rfl | hb <;> omega
  · exact (filter_parts n _ hm).trans (((sortZ_perm ys).append_right [n]).trans (sortZ_perm _).symm)

def rOneN (f : Nat) (G : List Sg) (i : Nat) : Option (List Int × Nat) :=
  match rCall G i with
  | none => none
  | some (c, j) => (rCommaF f G j).map fun p => (c :: p.1, p.2)

theorem rCommaF_one (f : Nat) (G : List Sg) (i : Nat) : rCommaF (f + 1) G i = if isT G i tComma then rOneN f G (i + 1) else some ([], i) := rfl

theorem sNumsF_none (g : Nat) (G : List Sg) (acc : List Int) : sNumsF g G acc none = (acc, none) := by cases g <;> rfl

theorem sNumsF_rel {G : List Sg} (h : Good G) : ∀ (g f : Nat) (ys : List Int) (i : Nat), G.length ≤ i + f → G.length + 1 ≤ i + g → i ≤ G.length → ys.Nodup →
    (∀ l j, rOneN f G i = some (l, j) → ((ys ++ l).Nodup ∧ sNumsF g G (sortZ ys) (some i) = (sortZ (ys ++ l), some j)) ∨ (¬ (ys ++ l).Nodup ∧ (sNumsF g G (sortZ ys) (some i)).2 = none)) ∧ (rOneN f G i = none → (sNumsF g G (sortZ ys) (some i)).2 = none)
  | 0, f, ys, i, hf, hg, hi, hy => absurd hg (by omega)
  | g + 1, f, ys, i, hf, hg, hi, hy => by
    obtain ⟨h1, h2⟩ := sCall_rel h i
    unfold rOneN
    rw [sNumsF]
    cases e : rCall G i with
    | none =>
      refine ⟨fun l j hl => by simp at hl, fun _ => ?_⟩
      have hn := h2 e
      have hs : sGot G (sortZ ys) (some i) = none := by simp [sGot, hn]
      rw [hs, sIs_none]
      simp
    | some x =>
      obtain ⟨c, j⟩ := x
      obtain ⟨hc, h0, hj, hl⟩ := h1 c j e
      have hx : sGot G (sortZ ys) (some i) = if c ∈ ys then none else some j := by
        unfold sGot
        rw [hc]
        have hn : ¬ c < 0 := by omega
        have hm : (sortZ ys).contains c = decide (c ∈ ys) := by
          rw [Bool.eq_iff_iff]
          simp [(sortZ_perm ys).mem_iff]
        rw [hm]
        simp [hn]
      rw [hx, hc]
      simp only
      by_cases hd : c ∈ ys
      · rw [if_pos hd, sIs_none]
        refine ⟨fun l k hl => .inr ⟨fun hnd => ?_, by simp⟩, fun _ => by simp⟩
        cases er : rCommaF f G j with
        | none => rw [er] at hl; simp at hl
        | some y =>
          rw [er] at hl
          simp at hl
          rw [← hl.1] at hnd
          rw [List.nodup_append] at hnd
          exact hnd.2.2 c hd c (by simp) rfl
      · rw [if_neg hd]
        rw [show sIs G (some j) 3 tComma = isT G j tComma from sIs_isT h j hd3.2.1]
        rw [putZ_sort hd]
        have hy2 : (ys ++ [c]).Nodup := by
          rw [List.nodup_append]
          refine ⟨hy, by simp, fun a ha b hb => ?_⟩
          simp at hb
          subst hb
          exact fun e => hd (e ▸ ha)
        cases ea : isT G j tComma
        · have hr : rCommaF f G j = some ([], j) := by
            cases f with
            | zero => rfl
            | succ f => rw [rCommaF_one, ea]; rfl
          rw [hr]
          refine ⟨fun l k hl => ?_, fun hn => by simp at hn⟩
          simp at hl
          obtain ⟨rfl, rfl⟩ := hl
          exact .inl ⟨hy2, by simp⟩
        · have hj2 := isT_lt (by decide) ea
          obtain ⟨f, rfl⟩ : ∃ f', f = f' + 1 := ⟨f - 1, by omega⟩
          obtain ⟨h3, h4⟩ := sNumsF_rel h g f (ys ++ [c]) (j + 1) (by omega) (by omega) (by omega) hy2
          rw [rCommaF_one, ea]
          simp only [if_true, nx, Option.map_some]
          cases er : rOneN f G (j + 1) with
          | none => exact ⟨fun l k hl => by simp at hl, fun _ => h4 er⟩
          | some y =>
            obtain ⟨l, k⟩ := y
            refine ⟨fun l' j' hl => ?_, fun hn => by simp at hn⟩
            simp at hl
            obtain ⟨rfl, rfl⟩ := hl
            have := h3 l k er
            simpa using this

theorem numsB_nodup {l : List Int} (h : numsB l = true) : l.Pairwise (· < ·) := by
  unfold numsB at h
  simp only [Bool.and_eq_true, List.all_eq_true, List.mem_range, Bool.or_eq_true, decide_eq_true_eq] at h
  have hs : ∀ j, j + 1 < l.length → l.getD j 0 < l.getD (j + 1) 0 := fun j hj => by
    rcases (h.2 (j + 1) hj).2 with h0 | h1
    · omega
    · simpa using h1
  rw [List.pairwise_iff_getElem]
  intro i j hi hj hij
  have hg : ∀ d, i + 1 + d < l.length → l.getD i 0 < l.getD (i + 1 + d) 0 := by
    intro d
    induction d with
    | zero => intro hd; exact hs i hd
    | succ d ih => intro hd; exact Int.lt_trans (ih (by omega)) (hs (i + 1 + d) hd)
  have := hg (j - (i + 1)) (by omega)
  rw [show i + 1 + (j - (i + 1)) = j by omega] at this
  simpa [List.getD_eq_getElem?_getD, hi, hj] using this

theorem numsB_dup {zs : List Int} (h : ¬ zs.Nodup) : numsB (sortZ zs) = false := by
  rw [Bool.eq_false_iff]
  intro hn
  have := numsB_nodup hn
  exact h ((sortZ_perm zs).nodup (this.imp (by intro a b hab; omega)))

theorem sNums_rel {G : List Sg} (h : Good G) (i : Nat) (hi : i ≤ G.length) :
    (∀ l j, rNums G i = some (l, j) → sNums G (some i) = (l, some j) ∨ (numsB l = false ∧ (sNums G (some i)).2 = none)) ∧ (rNums G i = none → (sNums G (some i)).2 = none) := by
  unfold rNums sNums
  rw [show sIs G (some i) 1 tAny = isT G i tAny from sIs_isT h i hd1.2.2.2.1]
  cases e : isT G i tAny
  · simp only [Bool.false_eq_true, if_false]
    obtain ⟨h1, h2⟩ := sNumsF_rel h (G.length + 1) G.length [] i (by omega) (by omega) hi List.nodup_nil
    have hsz : sortZ [] = [] := by simp [sortZ]
    rw [hsz] at h1 h2
    unfold rOneN at h1 h2
    cases er : rCall G i with
    | none => rw [er] at h2; exact ⟨fun l j hl => by simp at hl, fun _ => h2 rfl⟩
    | some x =>
      obtain ⟨c, j⟩ := x
      rw [er] at h1 h2
      simp only at h1 h2 ⊢
      cases ec : rCommaF G.length G j with
      | none => rw [ec] at h2; exact ⟨fun l j hl => by simp at hl, fun _ => h2 (by simp)⟩
      | some y =>
        rw [ec] at h1
        refine ⟨fun l k hl => ?_, fun hn => by simp at hn⟩
        simp at hl
        obtain ⟨rfl, rfl⟩ := hl
        rcases h1 (c :: y.1) y.2 (by simp) with ⟨hd, hs⟩ | ⟨hd, hs⟩
        · left; simpa using hs
        · right; exact ⟨numsB_dup (by simpa using hd), hs⟩
  · simp [nx]

theorem sNums_none (G : List Sg) : sNums G none = ([], none) := rfl

theorem rCommaF_lt {G : List Sg} (h : Good G) : ∀ (f i : Nat) {l : List Int} {j : Nat}, i ≤ G.length → rCommaF f G i = some (l, j) → i ≤ j ∧ j ≤ G.length ∧ l.length + i ≤ j
  | 0, i, l, j, hi, e => by simp [rCommaF] at e; obtain ⟨rfl, rfl⟩ := e; simp; omega
  | f + 1, i, l, j, hi, e => by
    rw [rCommaF] at e
    cases ea : isT G i tComma
    · rw [ea] at e; simp at e; obtain ⟨rfl, rfl⟩ := e; simp; omega
    · rw [ea] at e
      simp only [if_true] at e
      cases er : rCall G (i + 1) with
      | none => rw [er] at e; simp at e
      | some x =>
        obtain ⟨c, k⟩ := x
        rw [er] at e
        obtain ⟨_, _, hk, hl⟩ := (sCall_rel h (i + 1)).1 c k er
        simp only at e
        cases ec : rCommaF f G k with
        | none => rw [ec] at e; simp at e
        | some y =>
          rw [ec] at e
          obtain ⟨y1, y2⟩ := y
          obtain ⟨a1, a2, a3⟩ := rCommaF_lt h f k (by omega) ec
          simp at e
          obtain ⟨rfl, rfl⟩ := e
          simp
          omega

theorem rNums_lt {G : List Sg} (h : Good G) {i : Nat} {l : List Int} {j : Nat} (e : rNums G i = some (l, j)) : i < j ∧ j ≤ G.length ∧ l.length + i ≤ j := by
  unfold rNums at e
  cases ea : isT G i tAny
  · rw [ea] at e
    simp only [Bool.false_eq_true, if_false] at e
    cases er : rCall G i with
    | none => rw [er] at e; simp at e
    | some x =>
      obtain ⟨c, k⟩ := x
      rw [er] at e
      obtain ⟨_, _, hk, hl⟩ := (sCall_rel h i).1 c k er
      simp only at e
      cases ec : rCommaF G.length G k with
      | none => rw [ec] at e; simp at e
      | some y =>
        rw [ec] at e
        obtain ⟨y1, y2⟩ := y
        obtain ⟨a1, a2, a3⟩ := rCommaF_lt h _ k (by omega) ec
        simp at e
        obtain ⟨rfl, rfl⟩ := e
        have : (sortZ (c :: y1)).length = y1.length + 1 := by simp [sortZ]
        omega
  · rw [ea] at e
    have := isT_lt (by decide) ea
    simp at e
    obtain ⟨rfl, rfl⟩ := e
    simp; omega

theorem rAndF_lt {G : List Sg} : ∀ (f i : Nat) {l : List CN} {j : Nat}, i ≤ G.length → rAndF f G i = some (l, j) → i ≤ j ∧ j ≤ G.length ∧ l.length + i ≤ j
  | 0, i, l, j, hi, e => by simp [rAndF] at e; obtain ⟨rfl, rfl⟩ := e; simp; omega
  | f + 1, i, l, j, hi, e => by
    rw [rAndF] at e
    cases ea : isT G i tAnd
    · rw [ea] at e; simp at e; obtain ⟨rfl, rfl⟩ := e; simp; omega
    · rw [ea] at e
      simp only [if_true] at e
      cases er : rCond G (i + 1) with
      | none => rw [er] at e; simp at e
      | some x =>
        obtain ⟨c, k⟩ := x
        rw [er] at e
        have := rCond_lt er
        simp only at e
        cases ec : rAndF f G k with
        | none => rw [ec] at e; simp at e
        | some y =>
          rw [ec] at e
          obtain ⟨y1, y2⟩ := y
          obtain ⟨a1, a2, a3⟩ := rAndF_lt f k (by omega) ec
          simp at e
          obtain ⟨rfl, rfl⟩ := e
          simp
          omega

theorem rConds_lt {G : List Sg} {i : Nat} (hi : i ≤ G.length) {l : List CN} {j : Nat} (e : rConds G i = some (l, j)) : i ≤ j ∧ j ≤ G.length ∧ l.length + i ≤ j := by
  unfold rConds at e
  cases ea : isT G i tIf
  · rw [ea] at e; simp at e; obtain ⟨rfl, rfl⟩ := e; simp; omega
  · rw [ea] at e
    simp only [if_true] at e
    cases er : rCond G (i + 1) with
    | none => rw [er] at e; simp at e
    | some x =>
      obtain ⟨c, k⟩ := x
      rw [er] at e
      have := rCond_lt er
      simp only at e
      cases ec : rAndF G.length G k with
      | none => rw [ec] at e; simp at e
      | some y =>
        rw [ec] at e
        obtain ⟨y1, y2⟩ := y
        obtain ⟨a1, a2, a3⟩ := rAndF_lt _ k (by omega) ec
        simp at e
        obtain ⟨rfl, rfl⟩ := e
        simp
        omega

theorem rOut_lt {G : List Sg} (h : Good G) {i j : Nat} {o : Int × Int} (e : rOut G i = some (o, j)) : i < j ∧ j ≤ G.length := by
  unfold rOut rAct at e
  cases ef : findT actL (sgA G i).2.1 with
  | none => rw [ef] at e; simp at e
  | some k =>
    obtain ⟨hi, _⟩ := hd_kind h (actL_hd _ (findT_mem ef))
    rw [ef] at e
    simp only [Option.map_some] at e
    cases en : numAt G (i + 1)
    · rw [en] at e; simp at e; omega
    · rw [en] at e
      have := numAt_lt en
      simp at e; omega

theorem condsB_lost {l : List CN} (h : ∃ c ∈ l, c.cm = 0) : condsB l = false := by
  obtain ⟨c, hc, h0⟩ := h
  unfold condsB
  have : l.all condB = false := by
    rw [List.all_eq_false]
    refine ⟨c, hc, ?_⟩
    simp [condB, h0, inB]
  rw [this]; simp

theorem ruleB_nums {r : RN} (h : numsB r.nums = false) : ruleB r = false := by simp [ruleB, h]
theorem ruleB_conds {r : RN} (h : condsB r.conds = false) : ruleB r = false := by simp [ruleB, h]

theorem sRule_rel {G : List Sg} (h : Good G) (i : Nat) :
    (∀ r j, rRule G i = some (r, j) → sRule G (some i) = (r, some j) ∨ (ruleB r = false ∧ (sRule G (some i)).2 = none)) ∧ (rRule G i = none → (sRule G (some i)).2 = none ∨ ruleB (sRule G (some i)).1 = false) := by
  unfold rRule sRule
  simp only
  rw [show sWt G (some i) 1 tOn = rPass G i tOn from sWt_rel h i hd1.2.2.1]
  cases e0 : rPass G i tOn with
  | none => simp only [sNums_none, sConds_none, sWt_none, sAct_none]; simp
  | some i1 =>
    have a0 := rPass_lt (by decide) e0
    simp only
    obtain ⟨h1, h2⟩ := sNums_rel h i1 (by omega)
    cases e1 : rNums G i1 with
    | none => simp only [h2 e1, sConds_none, sWt_none, sAct_none]; simp
    | some x =>
      obtain ⟨zs, i2⟩ := x
      simp only
      have a1 := rNums_lt h e1
      rcases h1 zs i2 e1 with hz | ⟨hd, hz⟩
      · simp only [hz]
        obtain ⟨h3, h4⟩ := sConds_rel h i2 (by omega)
        cases e2 : rConds G i2 with
        | none =>
          refine ⟨fun r j hr => by simp at hr, fun _ => ?_⟩
          rcases h4 e2 with hn | hc
          · left; simp only [hn, sWt_none, sAct_none]
          · right; exact ruleB_conds (condsB_lost hc)
        | some x =>
          obtain ⟨cs, i3⟩ := x
          have a2 := rConds_lt (by omega) e2
          simp only [h3 cs i3 e2]
          rw [show sWt G (some i3) 1 tDo = rPass G i3 tDo from sWt_rel h i3 hd1.2.2.2.2.2.2.1]
          cases e3 : rPass G i3 tDo with
          | none => simp only [sAct_none, sWt_none]; simp
          | some i4 =>
            simp only
            have h5 := sAct_rel h i4
            cases e4 : rOut G i4 with
            | none =>
              rw [e4] at h5
              simp only [Rel] at h5
              simp only [h5, sWt_none]; simp
            | some x =>
              obtain ⟨o, i5⟩ := x
              rw [e4] at h5
              simp only [Rel] at h5
              simp only [h5]
              rw [show sWt G (some i5) 3 tSemi = rPass G i5 tSemi from sWt_rel h i5 hd3.1]
              cases e5 : rPass G i5 tSemi with
              | none => simp
              | some i6 =>
                simp only
                refine ⟨fun r j hr => ?_, fun hr => by simp at hr⟩
                simp at hr
                left
                rw [← hr.1, ← hr.2]
      · simp only [hz, sConds_none, sWt_none, sAct_none]
        refine ⟨fun r j hr => .inr ⟨?_, by first | rfl | trivial⟩, fun _ => .inl (by first | rfl | trivial)⟩
        cases e2 : rConds G i2 with
        | none => rw [e2] at hr; simp at hr
        | some x =>
          obtain ⟨cs, i3⟩ := x
          rw [e2] at hr
          simp only at hr
          cases e3 : rPass G i3 tDo with
          | none => rw [e3] at hr; simp at hr
          | some i4 =>
            rw [e3] at hr
            simp only at hr
            cases e4 : rOut G i4 with
            | none => rw [e4] at hr; simp at hr
            | some x =>
              obtain ⟨o, i5⟩ := x
              rw [e4] at hr
              simp only at hr
              cases e5 : rPass G i5 tSemi with
              | none => rw [e5] at hr; simp at hr
              | some i6 =>
                rw [e5] at hr
                simp at hr
                rw [← hr.1]
                exact ruleB_nums hd

theorem rRule_lt {G : List Sg} (h : Good G) {i j : Nat} {r : RN} (hr : rRule G i = some (r, j)) : i < j ∧ j ≤ G.length ∧ r.nums.length + i ≤ j ∧ r.conds.length + i ≤ j := by
  unfold rRule at hr
  cases e0 : rPass G i tOn with
  | none => rw [e0] at hr; simp at hr
  | some i1 =>
    have a0 := rPass_lt (by decide) e0
    rw [e0] at hr
    simp only at hr
    cases e1 : rNums G i1 with
    | none => rw [e1] at hr; simp at hr
    | some x =>
      obtain ⟨zs, i2⟩ := x
      have a1 := rNums_lt h e1
      rw [e1] at hr
      simp only at hr
      cases e2 : rConds G i2 with
      | none => rw [e2] at hr; simp at hr
      | some x =>
        obtain ⟨cs, i3⟩ := x
        have a2 := rConds_lt (by omega) e2
        rw [e2] at hr
        simp only at hr
        cases e3 : rPass G i3 tDo with
        | none => rw [e3] at hr; simp at hr
        | some i4 =>
          have a3 := rPass_lt (by decide) e3
          rw [e3] at hr
          simp only at hr
          cases e4 : rOut G i4 with
          | none => rw [e4] at hr; simp at hr
          | some x =>
            obtain ⟨o, i5⟩ := x
            have a4 := rOut_lt h e4
            rw [e4] at hr
            simp only at hr
            cases e5 : rPass G i5 tSemi with
            | none => rw [e5] at hr; simp at hr
            | some i6 =>
              have a5 := rPass_lt (by decide) e5
              rw [e5] at hr
              simp at hr
              obtain ⟨rfl, rfl⟩ := hr
              simp only
              omega

theorem sRulesF_none (g : Nat) (G : List Sg) (acc : List RN) : sRulesF g G acc none = (acc, none) := by cases g <;> rfl

theorem sRulesF_keeps (G : List Sg) (c : RN) : ∀ (g : Nat) (acc : List RN) (s : Option Nat), c ∈ acc → c ∈ (sRulesF g G acc s).1
  | 0, _, _, h => h
  | g + 1, acc, none, h => h
  | g + 1, acc, some i, h => by
    rw [sRulesF]
    split
    · exact sRulesF_keeps G c g _ _ (by simp [h])
    · exact h

theorem rules_lost {rs : List RN} {r : RN} (h : r ∈ rs) (hb : ruleB r = false) : rs.all ruleB = false := by
  rw [List.all_eq_false]
  exact ⟨r, h, by simp [hb]⟩

theorem sRulesF_rel {G : List Sg} (h : Good G) : ∀ (g f : Nat) (acc : List RN) (i : Nat), G.length ≤ i + f → G.length + 1 ≤ i + g → i ≤ G.length →
    (∀ l, rRulesF f G i = some l → sRulesF g G acc (some i) = (acc ++ l, some G.length) ∨ (l.all ruleB = false ∧ ((sRulesF g G acc (some i)).2 = none ∨ (sRulesF g G acc (some i)).1.all ruleB = false))) ∧
    (rRulesF f G i = none → (sRulesF g G acc (some i)).2 = none ∨ (sRulesF g G acc (some i)).1.all ruleB = false)
  | 0, f, acc, i, hf, hg, hi => absurd hg (by omega)
  | g + 1, f, acc, i, hf, hg, hi => by
    obtain ⟨h1, h2⟩ := sRule_rel h i
    rw [sRulesF]
    by_cases hlt : i < G.length
    · rw [if_pos hlt]
      obtain ⟨f, rfl⟩ : ∃ f', f = f' + 1 := ⟨f - 1, by omega⟩
      rw [rRulesF, if_neg (by omega)]
      cases e : rRule G i with
      | none =>
        refine ⟨fun l hl => by simp at hl, fun _ => ?_⟩
        rcases h2 e with hn | hb
        · rw [hn, sRulesF_none]; simp
        · right
          exact rules_lost (sRulesF_keeps G _ g _ _ (List.mem_append_right _ (List.mem_singleton.2 rfl))) hb
      | some x =>
        obtain ⟨r, j⟩ := x
        have a0 := rRule_lt h e
        simp only
        rcases h1 r j e with hr | ⟨hb, hn⟩
        · rw [hr]
          simp only
          obtain ⟨h3, h4⟩ := sRulesF_rel h g f (acc ++ [r]) j (by omega) (by omega) (by omega)
          cases er : rRulesF f G j with
          | none => exact ⟨fun l hl => by simp at hl, fun _ => h4 er⟩
          | some l =>
            refine ⟨fun l' hl => ?_, fun hn => by simp at hn⟩
            simp at hl
            subst hl
            rcases h3 l er with hx | ⟨hx, hy⟩
            · left; rw [hx]; simp
            · right; exact ⟨by simp [hx], hy⟩
        · rw [hn, sRulesF_none]
          refine ⟨fun l hl => .inr ⟨?_, .inl rfl⟩, fun _ => .inl rfl⟩
          cases er : rRulesF f G j with
          | none => rw [er] at hl; simp at hl
          | some l' =>
            rw [er] at hl
            simp at hl
            subst hl
            simp [hb]
    · rw [if_neg hlt]
      have hi2 : i = G.length := by omega
      have hr : rRulesF f G i = some [] := by
        cases f with
        | zero => rfl
        | succ f => rw [rRulesF, if_pos hi2]
      rw [hr]
      refine ⟨fun l hl => ?_, fun hn => by simp at hn⟩
      simp at hl
      subst hl
      left; simp [hi2]

theorem sHead_rel {G : List Sg} (h : Good G) : Rel (rHead G) (sHead G) := by
  unfold rHead sHead
  simp only
  rw [show sWt G (some 0) 1 tArch = rPass G 0 tArch from sWt_rel h 0 hd1.1]
  cases e0 : rPass G 0 tArch with
  | none => simp only [sNum_none, sWt_none, sAct_none, Rel]
  | some i1 =>
    simp only
    have h1 := sNum_rel G i1
    cases e1 : rNum G i1 with
    | none =>
      rw [e1] at h1
      simp only [Rel] at h1
      simp only [h1, sWt_none, sAct_none, Rel]
    | some x =>
      obtain ⟨a, i2⟩ := x
      rw [e1] at h1
      simp only [Rel] at h1
      simp only [h1]
      rw [show sWt G (some i2) 3 tSemi = rPass G i2 tSemi from sWt_rel h i2 hd3.1]
      cases e2 : rPass G i2 tSemi with
      | none => simp only [sWt_none, sAct_none, Rel]
      | some i3 =>
        simp only
        rw [show sWt G (some i3) 1 tDefault = rPass G i3 tDefault from sWt_rel h i3 hd1.2.1]
        cases e3 : rPass G i3 tDefault with
        | none => simp only [sWt_none, sAct_none, Rel]
        | some i4 =>
          simp only
          have h5 := sAct_rel h i4
          cases e4 : rOut G i4 with
          | none =>
            rw [e4] at h5
            simp only [Rel] at h5
            simp only [h5, sWt_none, Rel]
          | some x =>
            obtain ⟨o, i5⟩ := x
            rw [e4] at h5
            simp only [Rel] at h5
            simp only [h5]
            rw [show sWt G (some i5) 3 tSemi = rPass G i5 tSemi from sWt_rel h i5 hd3.1]
            cases e5 : rPass G i5 tSemi with
            | none => simp [Rel]
            | some i6 => simp [Rel]

theorem rHead_lt {G : List Sg} {x : Int × Int × Int} {i : Nat} (e : rHead G = some (x, i)) : i ≤ G.length ∧ 1 ≤ G.length := by
  unfold rHead at e
  cases e0 : rPass G 0 tArch with
  | none => rw [e0] at e; simp at e
  | some i1 =>
    have a0 := rPass_lt (by decide) e0
    rw [e0] at e
    simp only at e
    cases e1 : rNum G i1 with
    | none => rw [e1] at e; simp at e
    | some x =>
      obtain ⟨a, i2⟩ := x
      rw [e1] at e
      simp only at e
      cases e2 : rPass G i2 tSemi with
      | none => rw [e2] at e; simp at e
      | some i3 =>
        rw [e2] at e
        simp only at e
        cases e3 : rPass G i3 tDefault with
        | none => rw [e3] at e; simp at e
        | some i4 =>
          rw [e3] at e
          simp only at e
          cases e4 : rOut G i4 with
          | none => rw [e4] at e; simp at e
          | some x =>
            obtain ⟨o, i5⟩ := x
            rw [e4] at e
            simp only at e
            cases e5 : rPass G i5 tSemi with
            | none => rw [e5] at e; simp at e
            | some i6 =>
              have a5 := rPass_lt (by decide) e5
              rw [e5] at e
              simp at e
              omega

/-- What is read of signs: a policy that is right, or nothing. -/
def readG (G : List Sg) : Option PN := match rPolicy G with
  | none => none
  | some p => if policyB p then some p else none

theorem policyB_lost {p : PN} (h : p.rules.all ruleB = false) : policyB p = false := by simp [policyB, h]

theorem sPolicy_read {G : List Sg} (h : Good G) : readG G = (match (sPolicy G).2 with
    | none => none
    | some _ => if policyB (sPolicy G).1 then some (sPolicy G).1 else none) := by
  unfold readG rPolicy sPolicy
  simp only
  have h1 := sHead_rel h
  cases e : rHead G with
  | none =>
    rw [e] at h1
    simp only [Rel] at h1
    rw [h1, sRulesF_none]
  | some x =>
    obtain ⟨x, i⟩ := x
    rw [e] at h1
    simp only [Rel] at h1
    rw [h1]
    simp only
    have a0 := rHead_lt e
    obtain ⟨h2, h3⟩ := sRulesF_rel h (G.length + 1) G.length [] i (by omega) (by omega) a0.1
    have lost : ∀ (o : PN × Option Nat), o.2 = none ∨ o.1.rules.all ruleB = false → none = (match o.2 with
      | none => none
      | some _ => if policyB o.1 then some o.1 else none) := fun o ho => by
      rcases ho with ho | ho
      · rw [ho]
      · cases o.2 with
        | none => rfl
        | some _ => simp only [policyB_lost ho]; simp
    cases er : rRulesF G.length G i with
    | none => exact lost (⟨x.1, x.2.1, x.2.2, (sRulesF (G.length + 1) G [] (some i)).1⟩, (sRulesF (G.length + 1) G [] (some i)).2) (h3 er)
    | some l =>
      simp only [Option.map_some]
      rcases h2 l er with hx | ⟨hx, hy⟩
      · rw [hx]; simp
      · rw [policyB_lost (p := ⟨x.1, x.2.1, x.2.2, l⟩) hx]
        exact lost (⟨x.1, x.2.1, x.2.2, (sRulesF (G.length + 1) G [] (some i)).1⟩, (sRulesF (G.length + 1) G [] (some i)).2) hy

/- Texts. -/

def numT (n : Int) : List UInt8 := decS n.toNat

def outT (a d : Int) : List UInt8 := actL.getD a.toNat [] ++ [32] ++ numT d

def wideT (h l : Int) : List UInt8 := numT h ++ [32, 58, 32] ++ numT l

def condT (c : CN) : List UInt8 :=
  [97, 114, 103, 32] ++ numT c.arg ++ [32, 38, 32] ++ wideT c.mh c.ml ++ [32] ++ cmL.getD (c.cm.toNat - 1) [] ++ [32] ++ wideT c.vh c.vl

/-- Each of these numbers behind a comma. -/
def commaT (l : List Int) : List UInt8 := l.flatMap fun n => [32, 44, 32] ++ numT n

def numsT : List Int → List UInt8
  | [] => [97, 110, 121]
  | n :: l => numT n ++ commaT l

/-- Each of these conditions behind 'and'. -/
def andT (l : List CN) : List UInt8 := l.flatMap fun c => [32, 97, 110, 100, 32] ++ condT c

def condsT : List CN → List UInt8
  | [] => []
  | c :: l => [32, 105, 102, 32] ++ condT c ++ andT l

def ruleT (r : RN) : List UInt8 :=
  [111, 110, 32] ++ numsT r.nums ++ condsT r.conds ++ [32, 100, 111, 32] ++ outT r.act r.data ++ [32, 59]

def rulesT (l : List RN) : List UInt8 := l.flatMap fun r => 32 :: ruleT r

def headT (p : PN) : List UInt8 :=
  [97, 114, 99, 104, 32] ++ numT p.arch ++ [32, 59, 32, 100, 101, 102, 97, 117, 108, 116, 32] ++ outT p.act p.data ++ [32, 59]

def showL (p : PN) : List UInt8 := headT p ++ rulesT p.rules

/-- What is shown: the text, and whether there is one. -/
def showR (p : PN) : List UInt8 × Bool := if policyB p then (if 1200 < (showL p).length then ([], false) else (showL p, true)) else ([], false)

/- The same as signs. -/

def gN (n : Int) : Sg := (2, [], n)
def gW (t : List UInt8) : Sg := (1, t, 0)
def gM (t : List UInt8) : Sg := (3, t, 0)

def outG (a d : Int) : List Sg := [gW (actL.getD a.toNat []), gN d]

def wideG (h l : Int) : List Sg := [gN h, gM tColon, gN l]

def condG (c : CN) : List Sg := [gW tArg, gN c.arg, gM tAmp] ++ wideG c.mh c.ml ++ [gM (cmL.getD (c.cm.toNat - 1) [])] ++ wideG c.vh c.vl

def commaG (l : List Int) : List Sg := l.flatMap fun n => [gM tComma, gN n]

def numsG : List Int → List Sg
  | [] => [gW tAny]
  | n :: l => gN n :: commaG l

def andG (l : List CN) : List Sg := l.flatMap fun c => gW tAnd :: condG c

def condsG : List CN → List Sg
  | [] => []
  | c :: l => gW tIf :: (condG c ++ andG l)

def ruleG (r : RN) : List Sg := gW tOn :: (numsG r.nums ++ condsG r.conds ++ gW tDo :: (outG r.act r.data ++ [gM tSemi]))

def rulesG (l : List RN) : List Sg := l.flatMap ruleG

def polG (p : PN) : List Sg := [gW tArch, gN p.arch, gM tSemi, gW tDefault] ++ outG p.act p.data ++ [gM tSemi] ++ rulesG p.rules

/-- Texts of signs, a blank ahead of each. -/
def blT (L : List Sg) : List UInt8 := L.flatMap fun p => 32 :: txL p

theorem blT_append (a b : List Sg) : blT (a ++ b) = blT a ++ blT b := by simp [blT]
theorem blT_cons (p : Sg) (b : List Sg) : blT (p :: b) = 32 :: txL p ++ blT b := by simp [blT]
theorem blT_nil : blT [] = [] := rfl

theorem txL_N (n : Int) : txL (gN n) = numT n := by simp [txL, gN, numT]
theorem txL_W (t : List UInt8) : txL (gW t) = t := by simp [txL, gW]
theorem txL_M (t : List UInt8) : txL (gM t) = t := by simp [txL, gM]

theorem textN_take (p : Sg) (L : List Sg) : ∀ k, k ≤ L.length → textN (p :: L) (k + 1) = txL p ++ blT (L.take k)
  | 0, _ => by simp [textN, blT]
  | k + 1, h => by
    rw [textN, textN_take p L k (by omega)]
    have hk : k < L.length := by omega
    rw [List.take_succ_eq_append_getElem hk, blT_append]
    simp [blT, List.getD_eq_getElem?_getD, hk]

theorem textN_all (p : Sg) (L : List Sg) : textN (p :: L) (p :: L).length = txL p ++ blT L := by
  have := textN_take p L L.length (Nat.le_refl _)
  simpa using this

theorem blT_flat {α : Type} (l : List α) (f : α → List Sg) (g : α → List UInt8) (h : ∀ a, blT (f a) = g a) : blT (l.flatMap f) = l.flatMap g := by
  induction l with
  | nil => rfl
  | cons a l ih => simp [blT_append, h, ih]

theorem bl_out (a d : Int) : blT (outG a d) = 32 :: outT a d := by simp [outG, blT_cons, blT_nil, txL_N, txL_W, outT]
theorem bl_wide (h l : Int) : blT (wideG h l) = 32 :: wideT h l := by simp [wideG, blT_cons, blT_nil, txL_N, txL_M, wideT]
theorem bl_cond (c : CN) : blT (condG c) = 32 :: condT c := by
  simp [condG, blT_cons, blT_append, txL_N, txL_W, txL_M, bl_wide, condT]
theorem bl_comma (l : List Int) : blT (commaG l) = commaT l := blT_flat l _ _ fun n => by simp [blT_cons, blT_nil, txL_N, txL_M]
theorem bl_nums (l : List Int) : blT (numsG l) = 32 :: numsT l := by
  cases l with
  | nil => simp [numsG, numsT, blT_cons, blT_nil, txL_W]
  | cons n l => simp [numsG, numsT, blT_cons, txL_N, bl_comma]
theorem bl_and (l : List CN) : blT (andG l) = andT l := blT_flat l _ _ fun c => by simp [blT_cons, txL_W, bl_cond]
theorem bl_conds (l : List CN) : blT (condsG l) = condsT l := by
  cases l with
  | nil => rfl
  | cons c l => simp [condsG, condsT, blT_cons, blT_append, txL_W, bl_cond, bl_and]
theorem bl_rule (r : RN) : blT (ruleG r) = 32 :: ruleT r := by
  simp [ruleG, ruleT, blT_cons, blT_nil, blT_append, txL_W, txL_M, bl_nums, bl_conds, bl_out]
theorem bl_rules (l : List RN) : blT (rulesG l) = rulesT l := blT_flat l _ _ bl_rule

theorem text_pol (p : PN) : textN (polG p) (polG p).length = showL p := by
  have := textN_all (gW tArch) ([gN p.arch, gM tSemi, gW tDefault] ++ outG p.act p.data ++ [gM tSemi] ++ rulesG p.rules)
  have e : polG p = gW tArch :: ([gN p.arch, gM tSemi, gW tDefault] ++ outG p.act p.data ++ [gM tSemi] ++ rulesG p.rules) := by simp [polG]
  rw [e, this]
  simp [showL, headT, blT_cons, blT_append, txL_W, txL_M, txL_N, bl_out, bl_rules]

/- The signs are right. -/

theorem gR_N {n : Int} (h : halfB n = true) : SgR (gN n) := by
  simp [halfB] at h
  exact .inr (.inl ⟨rfl, rfl, h.1, h.2⟩)

theorem gR_W {t : List UInt8} (h : 1 ≤ t.length ∧ t.length ≤ 12 ∧ ∀ b ∈ t, kindB b = 1) : SgR (gW t) := .inl ⟨rfl, rfl, h.1, h.2.1, h.2.2⟩

theorem gR_M {t : List UInt8} (h : isMarkL t = true) : SgR (gM t) := .inr (.inr ⟨rfl, rfl, h⟩)

theorem words_ok : ∀ t ∈ [tArch, tDefault, tOn, tAny, tIf, tAnd, tDo, tArg], 1 ≤ t.length ∧ t.length ≤ 12 ∧ ∀ b ∈ t, kindB b = 1 := by decide
theorem acts_ok : ∀ k, k < 6 → 1 ≤ (actL.getD k []).length ∧ (actL.getD k []).length ≤ 12 ∧ ∀ b ∈ actL.getD k [], kindB b = 1 := by decide
theorem marks_ok : ∀ t ∈ [tSemi, tComma, tAmp, tColon], isMarkL t = true := by decide
theorem cms_ok : ∀ k, k < 6 → isMarkL (cmL.getD k []) = true := by decide

theorem half_small {n : Int} {m : Int} (hm : m ≤ 4294967295) (h : inB n 0 m = true) : halfB n = true := by
  simp [inB] at h; simp [halfB]; omega

theorem out_ok {a d : Int} (h : outB a d = true) : ∀ p ∈ outG a d, SgR p := by
  simp only [outB, Bool.and_eq_true] at h
  obtain ⟨h1, h2⟩ := h
  intro p hp
  simp [outG] at hp
  rcases hp with rfl | rfl
  · simp [inB] at h1
    exact gR_W (acts_ok a.toNat (by omega))
  · exact gR_N (half_small (by decide) h2)

theorem wide_ok {h l : Int} (hw : wideB (h, l) = true) : ∀ p ∈ wideG h l, SgR p := by
  simp only [wideB, Bool.and_eq_true] at hw
  intro p hp
  simp [wideG] at hp
  rcases hp with rfl | rfl | rfl
  · exact gR_N hw.1
  · exact gR_M (marks_ok _ (by simp))
  · exact gR_N hw.2

theorem cond_ok {c : CN} (h : condB c = true) : ∀ p ∈ condG c, SgR p := by
  simp only [condB, Bool.and_eq_true] at h
  obtain ⟨⟨⟨h1, h2⟩, h3⟩, h4⟩ := h
  intro p hp
  simp only [condG, List.mem_append, List.mem_cons, List.not_mem_nil, or_false] at hp
  rcases hp with ((hp | hp) | hp) | hp
  · rcases hp with rfl | rfl | rfl
    · exact gR_W (words_ok _ (by simp))
    · exact gR_N (half_small (by decide) h1)
    · exact gR_M (marks_ok _ (by simp))
  · exact wide_ok h3 p hp
  · subst hp
    simp [inB] at h2
    exact gR_M (cms_ok _ (by omega))
  · exact wide_ok h4 p hp

theorem numsB_halves {l : List Int} (h : numsB l = true) : ∀ n ∈ l, halfB n = true := by
  intro n hn
  unfold numsB at h
  simp only [Bool.and_eq_true, List.all_eq_true, List.mem_range] at h
  obtain ⟨i, hi, rfl⟩ := List.getElem_of_mem hn
  have := (h.2 i hi).1
  simpa [List.getD_eq_getElem?_getD, hi] using this

theorem comma_ok {l : List Int} (h : ∀ n ∈ l, halfB n = true) : ∀ p ∈ commaG l, SgR p := by
  intro p hp
  simp only [commaG, List.mem_flatMap, List.mem_cons, List.not_mem_nil, or_false] at hp
  obtain ⟨n, hn, rfl | rfl⟩ := hp
  · exact gR_M (marks_ok _ (by simp))
  · exact gR_N (h n hn)

theorem nums_ok {l : List Int} (h : ∀ n ∈ l, halfB n = true) : ∀ p ∈ numsG l, SgR p := by
  cases l with
  | nil =>
    intro p hp
    simp [numsG] at hp
    subst hp
    exact gR_W (words_ok _ (by simp))
  | cons n l =>
    intro p hp
    simp only [numsG, List.mem_cons] at hp
    rcases hp with rfl | hp
    · exact gR_N (h n (by simp))
    · exact comma_ok (fun m hm => h m (by simp [hm])) p hp

theorem and_ok {l : List CN} (h : ∀ c ∈ l, condB c = true) : ∀ p ∈ andG l, SgR p := by
  intro p hp
  simp only [andG, List.mem_flatMap, List.mem_cons] at hp
  obtain ⟨c, hc, rfl | hp⟩ := hp
  · exact gR_W (words_ok _ (by simp))
  · exact cond_ok (h c hc) p hp

theorem conds_ok {l : List CN} (h : ∀ c ∈ l, condB c = true) : ∀ p ∈ condsG l, SgR p := by
  cases l with
  | nil => intro p hp; simp [condsG] at hp
  | cons c l =>
    intro p hp
    simp only [condsG, List.mem_cons, List.mem_append] at hp
    rcases hp with rfl | hp | hp
    · exact gR_W (words_ok _ (by simp))
    · exact cond_ok (h c (by simp)) p hp
    · exact and_ok (fun d hd => h d (by simp [hd])) p hp

theorem ruleB_parts {r : RN} (h : ruleB r = true) : outB r.act r.data = true ∧ numsB r.nums = true ∧ (∀ c ∈ r.conds, condB c = true) := by
  simp only [ruleB, Bool.and_eq_true, condsB, List.all_eq_true] at h
  exact ⟨h.1.1, h.1.2, h.2.2⟩

theorem rule_ok {r : RN} (h : ruleB r = true) : ∀ p ∈ ruleG r, SgR p := by
  obtain ⟨h1, h2, h3⟩ := ruleB_parts h
  intro p hp
  simp only [ruleG, List.mem_cons, List.mem_append, List.not_mem_nil, or_false] at hp
  rcases hp with rfl | (hp | hp) | rfl | hp | rfl
  · exact gR_W (words_ok _ (by simp))
  · exact nums_ok (numsB_halves h2) p hp
  · exact conds_ok h3 p hp
  · exact gR_W (words_ok _ (by simp))
  · exact out_ok h1 p hp
  · exact gR_M (marks_ok _ (by simp))

theorem policyB_parts {p : PN} (h : policyB p = true) : halfB p.arch = true ∧ outB p.act p.data = true ∧ (∀ r ∈ p.rules, ruleB r = true) := by
  simp only [policyB, Bool.and_eq_true, List.all_eq_true] at h
  exact ⟨h.1.1.1, h.1.1.2, h.2⟩

theorem pol_ok {p : PN} (h : policyB p = true) : Good (polG p) := by
  obtain ⟨h1, h2, h3⟩ := policyB_parts h
  intro q hq
  simp only [polG, rulesG, List.mem_cons, List.mem_append, List.not_mem_nil, or_false, List.mem_flatMap] at hq
  rcases hq with (((rfl | rfl | rfl | rfl) | hq) | rfl) | ⟨r, hr, hq⟩
  · exact gR_W (words_ok _ (by simp))
  · exact gR_N h1
  · exact gR_M (marks_ok _ (by simp))
  · exact gR_W (words_ok _ (by simp))
  · exact out_ok h2 q hq
  · exact gR_M (marks_ok _ (by simp))
  · exact rule_ok (h3 r hr) q hq

/- The signs are read. -/

theorem at_drop {G : List Sg} {i : Nat} {p : Sg} {R : List Sg} (h : G.drop i = p :: R) : sgA G i = p ∧ G.drop (i + 1) = R := by
  have hi : i < G.length := by
    rcases Nat.lt_or_ge i G.length with h1 | h1
    · exact h1
    · rw [List.drop_of_length_le h1] at h; cases h
  rw [List.drop_eq_getElem_cons hi] at h
  injection h with h1 h2
  exact ⟨by simp [sgA, List.getD_eq_getElem?_getD, hi, h1], h2⟩

theorem pass_at {G : List Sg} {i : Nat} {k : Int} {t : List UInt8} {n : Int} {R : List Sg} (h : G.drop i = (k, t, n) :: R) : rPass G i t = some (i + 1) ∧ G.drop (i + 1) = R := by
  obtain ⟨h1, h2⟩ := at_drop h
  exact ⟨by simp [rPass, isT, h1], h2⟩

theorem isT_at {G : List Sg} {i : Nat} {k : Int} {t u : List UInt8} {n : Int} {R : List Sg} (h : G.drop i = (k, t, n) :: R) : isT G i u = (t == u) := by
  simp [isT, (at_drop h).1]

theorem num_at {G : List Sg} {i : Nat} {n : Int} {R : List Sg} (h : G.drop i = gN n :: R) : rNum G i = some (n, i + 1) ∧ numAt G i = true ∧ (sgA G i).2.2 = n ∧ G.drop (i + 1) = R := by
  obtain ⟨h1, h2⟩ := at_drop h
  simp [rNum, numAt, h1, gN, h2]

theorem acts_at : ∀ k, k < 6 → findT actL (actL.getD k []) = some k := by decide
theorem cms_at : ∀ k, k < 6 → findT cmL (cmL.getD k []) = some k := by decide

theorem out_at {G : List Sg} {i : Nat} {a d : Int} {R : List Sg} (ho : outB a d = true) (h : G.drop i = outG a d ++ R) : rOut G i = some ((a, d), i + 2) ∧ G.drop (i + 2) = R := by
  simp only [outB, Bool.and_eq_true] at ho
  obtain ⟨h1, h2⟩ := ho
  simp [inB] at h1
  obtain ⟨e1, e2⟩ := at_drop (show G.drop i = gW (actL.getD a.toNat []) :: (gN d :: R) from h)
  obtain ⟨_, e3, e4, e5⟩ := num_at e2
  refine ⟨?_, e5⟩
  unfold rOut rAct
  rw [e1]
  simp only [gW]
  rw [acts_at a.toNat (by omega)]
  simp only [Option.map_some]
  rw [e3, e4]
  simp
  omega

theorem wide_at {G : List Sg} {i : Nat} {x y : Int} {R : List Sg} (h : G.drop i = wideG x y ++ R) : rWide G i = some ((x, y), i + 3) ∧ G.drop (i + 3) = R := by
  obtain ⟨e1, _, _, e2⟩ := num_at (show G.drop i = gN x :: (gM tColon :: gN y :: R) from h)
  obtain ⟨_, e3⟩ := at_drop e2
  obtain ⟨e4, _, _, e5⟩ := num_at e3
  refine ⟨?_, e5⟩
  unfold rWide
  rw [e1]
  simp only
  rw [isT_at (k := 3) (t := tColon) (n := 0) e2]
  simp only [beq_self_eq_true, if_true]
  rw [e4]

theorem cond_at {G : List Sg} {i : Nat} {c : CN} {R : List Sg} (hc : condB c = true) (h : G.drop i = condG c ++ R) : rCond G i = some (c, i + 10) ∧ G.drop (i + 10) = R := by
  simp only [condB, Bool.and_eq_true] at hc
  obtain ⟨⟨⟨_, h2⟩, _⟩, _⟩ := hc
  simp [inB] at h2
  obtain ⟨p1, e1⟩ := pass_at (show G.drop i = gW tArg :: (gN c.arg :: gM tAmp :: (wideG c.mh c.ml ++ (gM (cmL.getD (c.cm.toNat - 1) []) :: (wideG c.vh c.vl ++ R)))) from by rw [h]; simp [condG])
  obtain ⟨p2, _, _, e2⟩ := num_at e1
  obtain ⟨_, e3⟩ := at_drop e2
  obtain ⟨p4, e4⟩ := wide_at e3
  obtain ⟨p5, e5⟩ := at_drop e4
  obtain ⟨p6, e6⟩ := wide_at e5
  refine ⟨?_, e6⟩
  unfold rCond
  rw [p1]
  simp only
  rw [p2]
  simp only
  have hm : rMask G (i + 1 + 1) = some ((c.mh, c.ml), i + 1 + 1 + 1 + 3) := by
    unfold rMask
    rw [isT_at (k := 3) (t := tAmp) (n := 0) e2]
    simp only [beq_self_eq_true, if_true]
    rw [p4]
  rw [hm]
  simp only
  have hcm : rCmp G (i + 1 + 1 + 1 + 3) = some (c.cm, i + 1 + 1 + 1 + 3 + 1) := by
    unfold rCmp
    rw [p5]
    simp only [gM]
    rw [cms_at _ (by omega)]
    simp
    omega
  rw [hcm]
  simp only
  rw [p6]

theorem and_at {G : List Sg} {x : Sg} {R : List Sg} (hx : x.2.1 ≠ tAnd) : ∀ (l : List CN) (f i : Nat), l.length ≤ f → (∀ c ∈ l, condB c = true) → G.drop i = andG l ++ x :: R →
    ∃ j, rAndF f G i = some (l, j) ∧ G.drop j = x :: R
  | [], f, i, _, _, h => by
    refine ⟨i, ?_, h⟩
    cases f with
    | zero => rfl
    | succ f =>
      obtain ⟨k, t, n⟩ := x
      rw [rAndF, isT_at (k := k) (t := t) (n := n) (R := R) h]
      have : (t == tAnd) = false := by simpa using hx
      rw [this]; rfl
  | c :: l, f, i, hf, hc, h => by
    obtain ⟨f, rfl⟩ : ∃ g, f = g + 1 := ⟨f - 1, by simp at hf; omega⟩
    have h1 : G.drop i = gW tAnd :: (condG c ++ (andG l ++ x :: R)) := by rw [h]; simp [andG]
    obtain ⟨_, e1⟩ := at_drop h1
    obtain ⟨e2, e3⟩ := cond_at (hc c (by simp)) e1
    obtain ⟨j, e4, e5⟩ := and_at hx l f (i + 1 + 10) (by simp at hf; omega) (fun d hd => hc d (by simp [hd])) e3
    refine ⟨j, ?_, e5⟩
    rw [rAndF, isT_at (k := 1) (t := tAnd) (n := 0) h1]
    simp only [beq_self_eq_true, if_true]
    rw [e2]
    simp only
    rw [e4]
    rfl

theorem andG_length : ∀ l : List CN, l.length ≤ (andG l).length
  | [] => by simp [andG]
  | c :: l => by
    have := andG_length l
    have e : andG (c :: l) = gW tAnd :: (condG c ++ andG l) := by simp [andG]
    rw [e]; simp; omega

theorem drop_le {G A : List Sg} {i : Nat} (h : G.drop i = A) : A.length ≤ G.length := by rw [← h]; simp

theorem conds_at {G : List Sg} {x : Sg} {R : List Sg} (hx : x.2.1 ≠ tAnd) (hy : x.2.1 ≠ tIf) {l : List CN} {i : Nat} (hl : ∀ c ∈ l, condB c = true) (h : G.drop i = condsG l ++ x :: R) :
    ∃ j, rConds G i = some (l, j) ∧ G.drop j = x :: R := by
  cases l with
  | nil =>
    obtain ⟨k, t, n⟩ := x
    refine ⟨i, ?_, h⟩
    unfold rConds
    rw [isT_at (k := k) (t := t) (n := n) (R := R) h]
    have : (t == tIf) = false := by simpa using hy
    rw [this]; rfl
  | cons c l =>
    have h1 : G.drop i = gW tIf :: (condG c ++ (andG l ++ x :: R)) := by rw [h]; simp [condsG]
    obtain ⟨_, e1⟩ := at_drop h1
    obtain ⟨e2, e3⟩ := cond_at (hl c (by simp)) e1
    have hf : l.length ≤ G.length := by
      have := drop_le e3
      have h2 := andG_length l
      simp at this
      omega
    obtain ⟨j, e4, e5⟩ := and_at hx l G.length (i + 1 + 10) hf (fun d hd => hl d (by simp [hd])) e3
    refine ⟨j, ?_, e5⟩
    unfold rConds
    rw [isT_at (k := 1) (t := tIf) (n := 0) h1]
    simp only [beq_self_eq_true, if_true]
    rw [e2]
    simp only
    rw [e4]
    rfl

theorem comma_at {G : List Sg} {x : Sg} {R : List Sg} (hx : x.2.1 ≠ tComma) : ∀ (l : List Int) (f i : Nat), l.length ≤ f → G.drop i = commaG l ++ x :: R →
    ∃ j, rCommaF f G i = some (l, j) ∧ G.drop j = x :: R
  | [], f, i, _, h => by
    refine ⟨i, ?_, h⟩
    cases f with
    | zero => rfl
    | succ f =>
      obtain ⟨k, t, n⟩ := x
      rw [rCommaF, isT_at (k := k) (t := t) (n := n) (R := R) h]
      have : (t == tComma) = false := by simpa using hx
      rw [this]; rfl
  | c :: l, f, i, hf, h => by
    obtain ⟨f, rfl⟩ : ∃ g, f = g + 1 := ⟨f - 1, by simp at hf; omega⟩
    have h1 : G.drop i = gM tComma :: (gN c :: (commaG l ++ x :: R)) := by rw [h]; simp [commaG]
    obtain ⟨_, e1⟩ := at_drop h1
    obtain ⟨_, e2, e3, e4⟩ := num_at e1
    obtain ⟨j, e5, e6⟩ := comma_at hx l f (i + 1 + 1) (by simp at hf; omega) e4
    refine ⟨j, ?_, e6⟩
    rw [rCommaF, isT_at (k := 3) (t := tComma) (n := 0) h1]
    simp only [beq_self_eq_true, if_true]
    have : rCall G (i + 1) = some (c, i + 1 + 1) := by simp [rCall, e2, e3]
    rw [this]
    simp only
    rw [e5]
    rfl

theorem commaG_length : ∀ l : List Int, l.length ≤ (commaG l).length
  | [] => by simp [commaG]
  | c :: l => by
    have := commaG_length l
    have e : commaG (c :: l) = gM tComma :: gN c :: commaG l := by simp [commaG]
    rw [e]; simp; omega

theorem nums_at {G : List Sg} {x : Sg} {R : List Sg} (hx : x.2.1 ≠ tComma) {l : List Int} {i : Nat} (hl : numsB l = true) (h : G.drop i = numsG l ++ x :: R) :
    ∃ j, rNums G i = some (l, j) ∧ G.drop j = x :: R := by
  cases l with
  | nil =>
    refine ⟨i + 1, ?_, (at_drop (show G.drop i = gW tAny :: x :: R from h)).2⟩
    unfold rNums
    rw [isT_at (k := 1) (t := tAny) (n := 0) (R := x :: R) h]
    rfl
  | cons n l =>
    have h1 : G.drop i = gN n :: (commaG l ++ x :: R) := by rw [h]; simp [numsG]
    obtain ⟨_, e2, e3, e4⟩ := num_at h1
    have hf : l.length ≤ G.length := by
      have := drop_le e4
      have h2 := commaG_length l
      simp at this
      omega
    obtain ⟨j, e5, e6⟩ := comma_at hx l G.length (i + 1) hf e4
    refine ⟨j, ?_, e6⟩
    unfold rNums
    rw [isT_at (k := 2) (t := []) (n := n) h1]
    have : rCall G i = some (n, i + 1) := by simp [rCall, e2, e3]
    rw [this, show (([] : List UInt8) == tAny) = false from rfl]
    simp only [Bool.false_eq_true, if_false]
    rw [e5]
    simp only [Option.map_some]
    have hs : sortZ (n :: l) = n :: l := up_eq (sortZ_up _) ((numsB_nodup hl).imp (by intro a b hab; omega)) (sortZ_perm _)
    rw [hs]

theorem rule_at {G : List Sg} {R : List Sg} {r : RN} {i : Nat} (hr : ruleB r = true) (h : G.drop i = ruleG r ++ R) :
    ∃ j, rRule G i = some (r, j) ∧ G.drop j = R := by
  obtain ⟨h1, h2, h3⟩ := ruleB_parts hr
  have a0 : G.drop i = gW tOn :: (numsG r.nums ++ (condsG r.conds ++ gW tDo :: (outG r.act r.data ++ (gM tSemi :: R)))) := by rw [h]; simp [ruleG]
  obtain ⟨p1, a1⟩ := pass_at (k := 1) (t := tOn) (n := 0) a0
  obtain ⟨y, Y, hy, hyc, _⟩ : ∃ y Y, condsG r.conds ++ gW tDo :: (outG r.act r.data ++ (gM tSemi :: R)) = y :: Y ∧ y.2.1 ≠ tComma ∧ True := by
    cases r.conds with
    | nil => exact ⟨_, _, rfl, by decide, trivial⟩
    | cons c l => exact ⟨_, _, rfl, by decide, trivial⟩
  rw [hy] at a1
  obtain ⟨j2, p2, a2⟩ := nums_at hyc h2 a1
  rw [← hy] at a2
  obtain ⟨j3, p3, a3⟩ := conds_at (x := gW tDo) (by decide) (by decide) h3 a2
  obtain ⟨p4, a4⟩ := pass_at (k := 1) (t := tDo) (n := 0) a3
  obtain ⟨p5, a5⟩ := out_at h1 a4
  obtain ⟨p6, a6⟩ := pass_at (k := 3) (t := tSemi) (n := 0) a5
  refine ⟨_, ?_, a6⟩
  unfold rRule
  rw [p1]
  simp only
  rw [p2]
  simp only
  rw [p3]
  simp only
  rw [p4]
  simp only
  rw [p5]
  simp only
  rw [p6]

theorem rules_at {G : List Sg} (hg : Good G) : ∀ (l : List RN) (f i : Nat), l.length ≤ f → i ≤ G.length → (∀ r ∈ l, ruleB r = true) → G.drop i = rulesG l → rRulesF f G i = some l
  | [], f, i, _, hi, _, h => by
    cases f with
    | zero => rfl
    | succ f =>
      have : G.length ≤ i := by
        have e : (G.drop i).length = 0 := by rw [h]; rfl
        simp at e; omega
      rw [rRulesF, if_pos (by omega)]
  | r :: l, f, i, hf, hi, hr, h => by
    obtain ⟨f, rfl⟩ : ∃ g, f = g + 1 := ⟨f - 1, by simp at hf; omega⟩
    have h1 : G.drop i = ruleG r ++ rulesG l := by rw [h]; simp [rulesG]
    obtain ⟨j, e1, e2⟩ := rule_at (hr r (by simp)) h1
    have hj := rRule_lt hg e1
    rw [rRulesF, if_neg (by omega), e1]
    simp only
    rw [rules_at hg l f j (by simp at hf; omega) hj.2.1 (fun d hd => hr d (by simp [hd])) e2]
    rfl

theorem rulesG_length : ∀ l : List RN, l.length ≤ (rulesG l).length
  | [] => by simp [rulesG]
  | r :: l => by
    have := rulesG_length l
    have e : rulesG (r :: l) = ruleG r ++ rulesG l := by simp [rulesG]
    rw [e]; simp [ruleG]; omega

theorem pol_read {p : PN} (h : policyB p = true) : readG (polG p) = some p := by
  obtain ⟨h1, h2, h3⟩ := policyB_parts h
  obtain ⟨G, hG⟩ : ∃ G, G = polG p := ⟨_, rfl⟩
  have a0 : G.drop 0 = gW tArch :: (gN p.arch :: (gM tSemi :: (gW tDefault :: (outG p.act p.data ++ (gM tSemi :: rulesG p.rules))))) := by rw [hG]; simp [polG]
  obtain ⟨p1, a1⟩ := pass_at (k := 1) (t := tArch) (n := 0) a0
  obtain ⟨p2, _, _, a2⟩ := num_at a1
  obtain ⟨p3, a3⟩ := pass_at (k := 3) (t := tSemi) (n := 0) a2
  obtain ⟨p4, a4⟩ := pass_at (k := 1) (t := tDefault) (n := 0) a3
  obtain ⟨p5, a5⟩ := out_at h2 a4
  obtain ⟨p6, a6⟩ := pass_at (k := 3) (t := tSemi) (n := 0) a5
  have hh : rHead G = some ((p.arch, p.act, p.data), 0 + 1 + 1 + 1 + 1 + 2 + 1) := by
    unfold rHead
    rw [p1]
    simp only
    rw [p2]
    simp only
    rw [p3]
    simp only
    rw [p4]
    simp only
    rw [p5]
    simp only
    rw [p6]
  have hl := rHead_lt hh
  have hr : rRulesF G.length G (0 + 1 + 1 + 1 + 1 + 2 + 1) = some p.rules :=
    rules_at (by rw [hG]; exact pol_ok h) p.rules G.length _ (by have := drop_le a6; have := rulesG_length p.rules; omega) hl.1 h3 a6
  rw [← hG]
  unfold readG rPolicy
  rw [hh]
  simp only
  rw [hr]
  simp only [Option.map_some]
  rw [if_pos h]

/-- The text of the first k numbers. -/
def numsP (l : List Int) : Nat → List UInt8
  | 0 => []
  | k + 1 => numsP l k ++ ((if k = 0 then [] else [32, 44, 32]) ++ numT (l.getD k 0))

/-- The text of the first k conditions. -/
def condsP (l : List CN) : Nat → List UInt8
  | 0 => []
  | k + 1 => condsP l k ++ ((if k = 0 then [32, 105, 102, 32] else [32, 97, 110, 100, 32]) ++ condT (l.getD k c0))

/-- The text of the first k rules. -/
def rulesP (l : List RN) : Nat → List UInt8
  | 0 => []
  | k + 1 => rulesP l k ++ (32 :: ruleT (l.getD k r0))

theorem flat_take {α : Type} (f : α → List UInt8) (l : List α) (k : Nat) (h : k < l.length) : (l.take (k + 1)).flatMap f = (l.take k).flatMap f ++ f l[k] := by
  rw [List.take_succ_eq_append_getElem h, List.flatMap_append, List.flatMap_cons, List.flatMap_nil, List.append_nil]

theorem numsP_take (n : Int) (l : List Int) : ∀ k, k ≤ l.length → numsP (n :: l) (k + 1) = numT n ++ commaT (l.take k)
  | 0, _ => by simp [numsP, commaT]
  | k + 1, h => by
    have hk : k < l.length := by omega
    rw [numsP, numsP_take n l k (by omega), if_neg (by omega)]
    unfold commaT
    rw [flat_take _ l k hk]
    simp [List.getD_eq_getElem?_getD, hk]

theorem numsP_all {l : List Int} (h : 0 < l.length) : numsP l l.length = numsT l := by
  cases l with
  | nil => simp at h
  | cons n l =>
    have := numsP_take n l l.length (Nat.le_refl _)
    simpa [numsT] using this

theorem condsP_take (c : CN) (l : List CN) : ∀ k, k ≤ l.length → condsP (c :: l) (k + 1) = [32, 105, 102, 32] ++ condT c ++ andT (l.take k)
  | 0, _ => by simp [condsP, andT]
  | k + 1, h => by
    have hk : k < l.length := by omega
    rw [condsP, condsP_take c l k (by omega), if_neg (by omega)]
    unfold andT
    rw [flat_take _ l k hk]
    simp [List.getD_eq_getElem?_getD, hk]

theorem condsP_all (l : List CN) : condsP l l.length = condsT l := by
  cases l with
  | nil => rfl
  | cons c l =>
    have := condsP_take c l l.length (Nat.le_refl _)
    simpa [condsT] using this

theorem rulesP_take (l : List RN) : ∀ k, k ≤ l.length → rulesP l k = rulesT (l.take k)
  | 0, _ => by simp [rulesP, rulesT]
  | k + 1, h => by
    have hk : k < l.length := by omega
    rw [rulesP, rulesP_take l k (by omega)]
    unfold rulesT
    rw [flat_take _ l k hk]
    simp [List.getD_eq_getElem?_getD, hk]

theorem rulesP_all (l : List RN) : rulesP l l.length = rulesT l := by rw [rulesP_take l _ (Nat.le_refl _)]; simp

theorem numT_len {n : Int} (h : halfB n = true) : (numT n).length ≤ 10 := by
  simp [halfB] at h
  exact decS_len8 n.toNat (by omega)

theorem actL_len : ∀ k, (actL.getD k []).length ≤ 5 := by
  intro k
  by_cases hk : k < 6
  · revert k; decide
  · have : actL.getD k [] = [] := by
      rw [List.getD_eq_getElem?_getD, List.getElem?_eq_none (by simp [actL]; omega)]; rfl
    rw [this]; simp

theorem cmL_len : ∀ k, (cmL.getD k []).length ≤ 2 := by
  intro k
  by_cases hk : k < 6
  · revert k; decide
  · have : cmL.getD k [] = [] := by
      rw [List.getD_eq_getElem?_getD, List.getElem?_eq_none (by simp [cmL]; omega)]; rfl
    rw [this]; simp

theorem outB_half {a d : Int} (h : outB a d = true) : halfB a = true ∧ halfB d = true ∧ 0 ≤ a ∧ a ≤ 5 := by
  simp only [outB, Bool.and_eq_true] at h
  refine ⟨half_small (by decide) h.1, half_small (by decide) h.2, ?_⟩
  have := h.1
  simp [inB] at this
  omega

theorem outT_len {a d : Int} (h : outB a d = true) : (outT a d).length ≤ 16 := by
  have h1 := numT_len (outB_half h).2.1
  have h2 := actL_len a.toNat
  simp only [outT, List.length_append, List.length_cons, List.length_nil]
  omega

theorem wideT_len {x y : Int} (h : wideB (x, y) = true) : (wideT x y).length ≤ 23 := by
  simp only [wideB, Bool.and_eq_true] at h
  have h1 := numT_len h.1
  have h2 := numT_len h.2
  simp only [wideT, List.length_append, List.length_cons, List.length_nil]
  omega

theorem condB_pieces {c : CN} (h : condB c = true) : halfB c.arg = true ∧ 1 ≤ c.cm ∧ c.cm ≤ 6 ∧ wideB (c.mh, c.ml) = true ∧ wideB (c.vh, c.vl) = true := by
  simp only [condB, Bool.and_eq_true] at h
  obtain ⟨⟨⟨h1, h2⟩, h3⟩, h4⟩ := h
  simp [inB] at h2
  exact ⟨half_small (by decide) h1, h2.1, h2.2, h3, h4⟩

theorem condT_len {c : CN} (h : condB c = true) : (condT c).length ≤ 67 := by
  obtain ⟨h1, _, _, h3, h4⟩ := condB_pieces h
  have a1 := numT_len h1
  have a2 := wideT_len h3
  have a3 := wideT_len h4
  have a4 := cmL_len (c.cm.toNat - 1)
  simp only [condT, List.length_append, List.length_cons, List.length_nil]
  omega

theorem numsP_len {l : List Int} (h : ∀ n ∈ l, halfB n = true) : ∀ k, k ≤ l.length → (numsP l k).length ≤ 13 * k
  | 0, _ => by simp [numsP]
  | k + 1, hk => by
    have ih := numsP_len h k (by omega)
    have hg : l.getD k 0 = l[k] := by rw [List.getD_eq_getElem?_getD, List.getElem?_eq_getElem (by omega)]; rfl
    have h1 := numT_len (h l[k] (List.getElem_mem (by omega)))
    rw [numsP, hg]
    split <;> simp only [List.length_append, List.length_cons, List.length_nil] <;> omega

theorem condsP_len {l : List CN} (h : ∀ c ∈ l, condB c = true) : ∀ k, k ≤ l.length → (condsP l k).length ≤ 72 * k
  | 0, _ => by simp [condsP]
  | k + 1, hk => by
    have ih := condsP_len h k (by omega)
    have hg : l.getD k c0 = l[k] := by rw [List.getD_eq_getElem?_getD, List.getElem?_eq_getElem (by omega)]; rfl
    have h1 := condT_len (h l[k] (List.getElem_mem (by omega)))
    rw [condsP, hg]
    split <;> simp only [List.length_append, List.length_cons, List.length_nil] <;> omega

theorem ruleB_lens {r : RN} (h : ruleB r = true) : r.nums.length ≤ 4 ∧ r.conds.length ≤ 3 := by
  simp only [ruleB, Bool.and_eq_true, numsB, condsB, decide_eq_true_eq] at h
  exact ⟨h.1.2.1, h.2.1⟩

theorem numsT_len {l : List Int} (h : ∀ n ∈ l, halfB n = true) : (numsT l).length ≤ 13 * l.length + 3 := by
  by_cases h0 : 0 < l.length
  · have := numsP_len h l.length (Nat.le_refl _)
    rw [numsP_all h0] at this
    omega
  · have : l = [] := List.length_eq_zero_iff.1 (by omega)
    rw [this]; simp [numsT]

theorem ruleT_len {r : RN} (h : ruleB r = true) : (ruleT r).length ≤ 500 := by
  obtain ⟨h1, h2, h3⟩ := ruleB_parts h
  obtain ⟨l1, l2⟩ := ruleB_lens h
  have a1 := numsT_len (numsB_halves h2)
  have a2 := condsP_len h3 r.conds.length (Nat.le_refl _)
  rw [condsP_all] at a2
  have a3 := outT_len h1
  simp only [ruleT, List.length_append, List.length_cons, List.length_nil]
  omega

theorem rulesP_len {l : List RN} (h : ∀ r ∈ l, ruleB r = true) : ∀ k, k ≤ l.length → (rulesP l k).length ≤ 501 * k
  | 0, _ => by simp [rulesP]
  | k + 1, hk => by
    have ih := rulesP_len h k (by omega)
    have hg : l.getD k r0 = l[k] := by rw [List.getD_eq_getElem?_getD, List.getElem?_eq_getElem (by omega)]; rfl
    have h1 := ruleT_len (h l[k] (List.getElem_mem (by omega)))
    rw [rulesP, hg]
    simp only [List.length_append, List.length_cons]
    omega

theorem headT_len {p : PN} (h : policyB p = true) : (headT p).length ≤ 50 := by
  obtain ⟨h1, h2, _⟩ := policyB_parts h
  have a1 := numT_len h1
  have a2 := outT_len h2
  simp only [headT, List.length_append, List.length_cons, List.length_nil]
  omega

theorem nameV_actL {a : Int} (h0 : 0 ≤ a) (h5 : a ≤ 5) : nameV a = ⟨(actL.getD a.toNat []).toArray⟩ := by
  have : a = 0 ∨ a = 1 ∨ a = 2 ∨ a = 3 ∨ a = 4 ∨ a = 5 := by omega
  rcases this with rfl | rfl | rfl | rfl | rfl | rfl <;> rfl

/-- The marks of the comparisons, the first being of none. -/
def cmT (k : Nat) : List UInt8 := ([] :: cmL).getD k []

/-- The program's own table of marks holds what its text lays. -/
def Cms (w : World) : Prop := (∀ k, k < 7 → w.cell? ⟨0, k, none⟩ = some (.string (txt (cmT k)))) ∧ 0 < w.heap.size

theorem Cms.ext {w w' : World} (h : Cms w) (hE : Ext w w') : Cms w' := ⟨fun k hk => (hE.cell (p := ⟨0, k, none⟩) h.2).trans (h.1 k hk), Nat.lt_of_lt_of_le h.2 hE.size⟩

theorem signOf_right {b : UInt8} {r : List UInt8} {s : Sg} (h0 : ¬ kindB b = 0) (h : signOf (kindB b) ((b :: r).take (wideL b r)) = some s) : SgR s := by
  unfold signOf at h
  by_cases h1 : kindB b = 1
  · have hw : wideL b r = runL 1 (b :: r) := by unfold wideL; rw [h1]; simp
    rw [if_pos h1, hw] at h
    by_cases hl : ((b :: r).take (runL 1 (b :: r))).length ≤ 12
    · rw [if_pos hl] at h
      simp only [Option.some.injEq] at h
      subst h
      refine .inl ⟨rfl, rfl, ?_, hl, fun x hx => runL_all hx⟩
      have := runL_pos (r := r) h1
      simp
      omega
    · rw [if_neg hl] at h; cases h
  · rw [if_neg h1] at h
    by_cases h2 : kindB b = 2
    · rw [if_pos h2] at h
      cases e : numF 10 ((b :: r).take (wideL b r)) 0 with
      | none => rw [e] at h; cases h
      | some n =>
        rw [e] at h
        simp only at h
        split at h
        · rename_i hn
          simp only [Option.some.injEq] at h
          subst h
          exact .inr (.inl ⟨rfl, rfl, by simp, by have := hn.2; simp; omega⟩)
        · cases h
    · rw [if_neg h2] at h
      split at h
      · rename_i hm
        simp only [Option.some.injEq] at h
        subst h
        exact .inr (.inr ⟨rfl, rfl, hm⟩)
      · cases h

theorem SGf_good : ∀ (f : Nat) (l : List UInt8) (G : List Sg), SGf f l = some G → Good G
  | 0, l, G, h => by
    simp only [SGf, Option.some.injEq] at h
    subst h
    intro p hp; cases hp
  | f + 1, [], G, h => by
    simp only [SGf, Option.some.injEq] at h
    subst h
    intro p hp; cases hp
  | f + 1, b :: r, G, h => by
    simp only [SGf] at h
    by_cases h0 : kindB b = 0
    · rw [if_pos h0] at h
      exact SGf_good f r G h
    · rw [if_neg h0] at h
      cases e : signOf (kindB b) ((b :: r).take (wideL b r)) with
      | none => rw [e] at h; cases h
      | some s =>
        rw [e] at h
        simp only at h
        cases e2 : SGf f ((b :: r).drop (wideL b r)) with
        | none => rw [e2] at h; cases h
        | some H =>
          rw [e2] at h
          simp only [Option.map_some, Option.some.injEq] at h
          subst h
          intro p hp
          rcases List.mem_cons.1 hp with rfl | hp
          · exact signOf_right h0 e
          · exact SGf_good f _ H e2 p hp

theorem signsR_good {l : List UInt8} {G : List Sg} (h : signsR l = some G) : Good G := by
  unfold signsR at h
  split at h
  · cases h
  · exact SGf_good _ _ _ h

/-- What is read of a text: a right policy, or nothing. -/
def readL (l : List UInt8) : Option PN := match signsR l with
  | none => none
  | some G => readG G

/-- What is shown is read. -/
theorem show_read {p : PN} (h : policyB p = true) (hl : (showL p).length ≤ 1200) : readL (showL p) = some p := by
  have := SG_back (polG p) (pol_ok h) [] [] (by simp) (by simp)
  rw [text_pol, List.nil_append, List.append_nil] at this
  unfold readL signsR
  rw [if_neg (by omega), this]
  exact pol_read h

/-- All of old memory but block p is as it was. -/
abbrev GB (p : Nat) (w w' : World) : Prop := w.grownBy w' (some p)

theorem gb_refl (p : Nat) (w : World) : GB p w w := ⟨rfl, rfl, rfl, Nat.le_refl _, fun _ _ _ => rfl⟩
theorem gb_trans {p : Nat} {a b c : World} (h : GB p a b) (k : GB p b c) : GB p a c :=
  ⟨k.os.trans h.os, k.tape.trans h.tape, k.output.trans h.output, Nat.le_trans h.size k.size, fun i hi hne => (k.block i (Nat.lt_of_lt_of_le hi h.size) hne).trans (h.block i hi hne)⟩
theorem gb_ext {p : Nat} {a b : World} (h : Ext a b) : GB p a b := ⟨h.os, h.tape, h.output, h.size, fun i hi _ => h.block i hi⟩
theorem gb_set (p j : Nat) (w : World) (v : Value) : GB p w (w.setCell ⟨p, j, none⟩ v) :=
  ⟨rfl, rfl, rfl, by simp [World.setCell], fun k _ hk => Below.heap_setCell _ _ _ _ (fun e => hk (by rw [e]))⟩

/-- A reader at block p: the signs, the place. -/
def RdI (W : World) (p : Nat) (a : Option Addr) (cap : Nat) (G : List Sg) (i : Nat) : Prop :=
  Kn W p [.slice a G.length cap, .int .i64 (i : Int)] 59 ∧ i ≤ G.length ∧ G.length ≤ 1200 ∧ Signs W a G ∧ ∀ b o s, a = some ⟨b, o, s⟩ → b ≠ p

theorem RdI.step {w w' : World} {p : Nat} {a : Option Addr} {cap : Nat} {G : List Sg} {i : Nat} (h : RdI w p a cap G i) (hE : Ext w w') : RdI w' p a cap G i :=
  ⟨h.1.ext hE, h.2.1, h.2.2.1, h.2.2.2.1.ext hE, h.2.2.2.2⟩

theorem Signs.gb {w w' : World} {p : Nat} {a : Option Addr} {G : List Sg} (h : Signs w a G) (hp : ∀ b o s, a = some ⟨b, o, s⟩ → b ≠ p) (hG : GB p w w') : Signs w' a G := fun h0 => by
  obtain ⟨b, off, e, hc⟩ := h h0
  have hb : b ≠ p := hp b off none e
  refine ⟨b, off, e, fun j hj => ?_⟩
  obtain ⟨c1, c2, c3⟩ := hc j hj
  exact ⟨hG.cell c1 (fun e => hb (Option.some.inj e)), hG.cell c2 (fun e => hb (Option.some.inj e)), hG.cell c3 (fun e => hb (Option.some.inj e))⟩

theorem RdI.set {w : World} {p : Nat} {a : Option Addr} {cap : Nat} {G : List Sg} {i : Nat} (h : RdI w p a cap G i) {j : Nat} (hj : j ≤ G.length) : RdI (w.setCell ⟨p, 1, none⟩ (.int .i64 (j : Int))) p a cap G j :=
  ⟨h.1.set 1 _, hj, h.2.2.1, h.2.2.2.1.gb h.2.2.2.2 (gb_set _ _ _ _), h.2.2.2.2⟩

/-- What a wrong sign panics with. -/
abbrev Bad : Ending := .panicked [{ v := .iface 103 (.agg #[]), recovered := false }]

set_option maxRecDepth 100000 in
theorem atEnd_any {w : World} {p : Nat} {a : Option Addr} {cap : Nat} {G : List Sg} {i : Nat} (h : RdI w p a cap G i) :
    Calls Tryz.prog 65 #[.pointer (some ⟨p, 0, none⟩)] w fun e w' => e = .returned (.bool (decide (i = G.length))) ∧ Ext w w' := by
  obtain ⟨z, hz⟩ : ∃ z, z = decide (i = G.length) := ⟨_, rfl⟩
  have hzz : ((i : Int) == (G.length : Int)) = z := by rw [hz, Bool.eq_iff_iff]; simp; omega
  rw [← hz]
  have c0 := h.1.cell 0 _ rfl
  have c1 := h.1.cell 1 _ rfl
  clear hz h
  generalize G.length = n at *
  go_enter Tryz.func65, Tryz.ntmps65
  go_wp2
  go_quiet (fail)
  go_wp2
  go_ret
  exact ⟨rfl, ⟨rfl, rfl, rfl, Nat.le_refl _, fun _ _ => rfl⟩⟩

theorem bad_panic {P : Program} {fn : Func} {R : Ending → World → Prop} {a : Act} {w : World} {ch : List PanicEntry} (hd : a.defers = []) (h : R (.panicked ch) w) : bodyPost P fn R (.panic ch) a w := ⟨hd, h⟩

theorem fld0 (a b c : Value) (wx : World) : (Instr.field 98 (.agg #[a, b, c]) 0).run Tryz.prog wx = .ok a wx := by simp [go_sem, Instr.field, asAgg, part, Tryz.isAgg3]
theorem fld1 (a b c : Value) (wx : World) : (Instr.field 98 (.agg #[a, b, c]) 1).run Tryz.prog wx = .ok b wx := by simp [go_sem, Instr.field, asAgg, part, Tryz.isAgg9]
theorem fld2 (a b c : Value) (wx : World) : (Instr.field 98 (.agg #[a, b, c]) 2).run Tryz.prog wx = .ok c wx := by simp [go_sem, Instr.field, asAgg, part, Tryz.isAgg3]

theorem zero_sgV : sgV zeroG = .agg #[.int .i64 0, .string ⟨#[]⟩, .int .i64 0] := rfl

set_option maxRecDepth 100000 in
theorem next_any {w : World} {p : Nat} {a : Option Addr} {cap : Nat} {G : List Sg} {i : Nat} (h : RdI w p a cap G i) :
    Calls Tryz.prog 106 #[.pointer (some ⟨p, 0, none⟩)] w fun e w' => e = .returned (sgV (sgA G i)) ∧ Ext w w' := by
  have X0 : Hid (Ext w (w.alloc (.cells #[.int .i64 0, .string ⟨#[]⟩, .int .i64 0] 98))) := Ext.one _ _
  have K0 : Hid (Kn (w.alloc (.cells #[.int .i64 0, .string ⟨#[]⟩, .int .i64 0] 98)) w.heap.size [.int .i64 0, .string ⟨#[]⟩, .int .i64 0] 98) := Kn.new w _ _
  have h1 : Hid (RdI (w.alloc (.cells #[.int .i64 0, .string ⟨#[]⟩, .int .i64 0] 98)) p a cap G i) := h.step X0.out
  by_cases hi : i = G.length
  · have HV : Hid (sgA G i = zeroG) := by unfold Hid sgA; rw [List.getD_eq_getElem?_getD, List.getElem?_eq_none (by omega)]; rfl
    have HE : Hid (∀ {W : World}, RdI W p a cap G i → Calls Tryz.prog 65 #[.pointer (some ⟨p, 0, none⟩)] W fun e w' => e = .returned (.bool true) ∧ Ext W w') := fun {W} h => by
      have := atEnd_any h
      rw [decide_eq_true hi] at this
      exact this
    clear h hi
    rw [HV.out, zero_sgV]
    go_enter Tryz.func106, Tryz.ntmps106
    go_wp2_with fail
    generalize w.alloc (.cells #[.int .i64 0, .string ⟨#[]⟩, .int .i64 0] 98) = W0 at *
    refine (HE.out h1.out).mono ?_
    rintro e w1 ⟨rfl, x1⟩
    have X1 : Hid (Ext w w1) := X0.out.trans x1
    have K1 := K0.out.ext x1
    have f1 := K1.free
    obtain ⟨c0, c1, c2⟩ := (⟨K1.cell 0 _ rfl, K1.cell 1 _ rfl, K1.cell 2 _ rfl⟩ : _ ∧ _ ∧ _)
    have KN : Hid (Kn w1 w.heap.size [.int .i64 0, .string ⟨#[]⟩, .int .i64 0] 98) := K1
    have hs1 := K1.lt
    clear x1 HE K1
    go_wp2
    refine bodyPost_ret (v := .agg #[.int .i64 0, .string ⟨#[]⟩, .int .i64 0]) (by simp [results, Tryz.results106, go_sem, *]) rfl ?_
    exact ⟨rfl, ((X1.out.set (Nat.le_refl _) _ _).set (Nat.le_refl _) _ _).set (Nat.le_refl _) _ _⟩
  · have hlt : i < G.length := by have := h.2.1; omega
    have HE : Hid (∀ {W : World}, RdI W p a cap G i → Calls Tryz.prog 65 #[.pointer (some ⟨p, 0, none⟩)] W fun e w' => e = .returned (.bool false) ∧ Ext W w') := fun {W} h => by
      have := atEnd_any h
      rw [decide_eq_false hi] at this
      exact this
    obtain ⟨b, off, rfl, ht⟩ := h.2.2.2.1.tri hlt
    obtain ⟨k, t, m⟩ : True ∧ True ∧ True := ⟨trivial, trivial, trivial⟩
    obtain ⟨sk, hsk⟩ : ∃ k, k = (sgA G i).1 := ⟨_, rfl⟩
    obtain ⟨st, hst⟩ : ∃ k, k = txt (sgA G i).2.1 := ⟨_, rfl⟩
    obtain ⟨sn, hsn⟩ : ∃ k, k = (sgA G i).2.2 := ⟨_, rfl⟩
    have hv : sgV (sgA G i) = .agg #[.int .i64 sk, .string st, .int .i64 sn] := by rw [hsk, hst, hsn]; rfl
    rw [hv]
    have HT : Hid (Tri w b (off + i * 3) sk st sn) := by rw [hsk, hst, hsn]; exact ht
    have bi : (i : Int) < (G.length : Int) := by omega
    clear h hi ht hsk hst hsn hv
    obtain ⟨n, hn⟩ : ∃ n, n = G.length := ⟨_, rfl⟩
    go_enter Tryz.func106, Tryz.ntmps106
    go_wp2_with fail
    generalize w.alloc (.cells #[.int .i64 0, .string ⟨#[]⟩, .int .i64 0] 98) = W0 at *
    refine (HE.out h1.out).mono ?_
    rintro e w1 ⟨rfl, x1⟩
    have X1 : Hid (Ext w w1) := X0.out.trans x1
    have K1 : Hid (Kn w1 w.heap.size [.int .i64 0, .string ⟨#[]⟩, .int .i64 0] 98) := K0.out.ext x1
    have R1 : Hid (Kn w1 p [.slice (some ⟨b, off, none⟩) G.length cap, .int .i64 (i : Int)] 59) := (h1.out.step x1).1
    have T1 : Hid (Tri w1 b (off + i * 3) sk st sn) := HT.out.ext X1.out
    clear x1 HE
    rw [← hn] at R1 bi
    clear hn h1
    go_wp2_with fail
    refine' wp_region_loose_tail 10 (.inl _ :: .inl _ :: .inl _ :: .inl _ :: .inl _ :: .inl _ :: .inl _ :: .inl _ :: .inl _ :: .inl _ :: []) (fun w' => Kn w' w.heap.size [.int .i64 0, .string ⟨#[]⟩, .int .i64 0] 98 ∧ Kn w' p [.slice (some ⟨b, off, none⟩) n cap, .int .i64 (i : Int)] 59 ∧ Tri w' b (off + i * 3) sk st sn) (by kernel_rfl) (by kernel_rfl) (⟨K1.out.drew, R1.out.drew, T1.out⟩) (fun _ _ h hE => ⟨h.1.ext hE, h.2.1.ext hE, h.2.2.ext hE⟩) ?hAa ?hla ?hMa
    case' hMa => skip
    simp only [List.take_succ_cons, List.take_zero, List.drop_succ_cons, List.drop_zero]
    apply wpLoose_val rfl rfl
    case hs =>
      intro w1 hC hd Q1 hQ1
      obtain ⟨hE, hS⟩ := hC
      dsimp only [bare]
      obtain ⟨q0, q1, t0, t1, t2⟩ := (⟨hS.2.1.cell 0 _ rfl, hS.2.1.cell 1 _ rfl, hS.2.2.1, hS.2.2.2.1, hS.2.2.2.2⟩ : _ ∧ _ ∧ _ ∧ _ ∧ _)
      clear hd hE
      try clear hS
      go_wp2
      exact Ext.refl _
    case ha => rfl
    apply wpLoose_val rfl rfl
    case hs =>
      intro w1 hC hd Q1 hQ1
      obtain ⟨hE, hS⟩ := hC
      dsimp only [bare]
      obtain ⟨q0, q1, t0, t1, t2⟩ := (⟨hS.2.1.cell 0 _ rfl, hS.2.1.cell 1 _ rfl, hS.2.2.1, hS.2.2.2.1, hS.2.2.2.2⟩ : _ ∧ _ ∧ _ ∧ _ ∧ _)
      clear hd hE
      try clear hS
      go_wp2
      exact Ext.refl _
    case ha => rfl
    apply wpLoose_val rfl rfl
    case hs =>
      intro w1 hC hd Q1 hQ1
      obtain ⟨hE, hS⟩ := hC
      dsimp only [bare]
      obtain ⟨q0, q1, t0, t1, t2⟩ := (⟨hS.2.1.cell 0 _ rfl, hS.2.1.cell 1 _ rfl, hS.2.2.1, hS.2.2.2.1, hS.2.2.2.2⟩ : _ ∧ _ ∧ _ ∧ _ ∧ _)
      clear hd hE
      try clear hS
      go_wp2
      exact Ext.refl _
    case ha => rfl
    apply wpLoose_val rfl rfl
    case hs =>
      intro w1 hC hd Q1 hQ1
      obtain ⟨hE, hS⟩ := hC
      dsimp only [bare]
      obtain ⟨q0, q1, t0, t1, t2⟩ := (⟨hS.2.1.cell 0 _ rfl, hS.2.1.cell 1 _ rfl, hS.2.2.1, hS.2.2.2.1, hS.2.2.2.2⟩ : _ ∧ _ ∧ _ ∧ _ ∧ _)
      clear hd hE
      try clear hS
      go_wp2
      exact Ext.refl _
    case ha => rfl
    apply wpLoose_val rfl rfl
    case hs =>
      intro w1 hC hd Q1 hQ1
      obtain ⟨hE, hS⟩ := hC
      dsimp only [bare]
      obtain ⟨q0, q1, t0, t1, t2⟩ := (⟨hS.2.1.cell 0 _ rfl, hS.2.1.cell 1 _ rfl, hS.2.2.1, hS.2.2.2.1, hS.2.2.2.2⟩ : _ ∧ _ ∧ _ ∧ _ ∧ _)
      clear hd hE
      try clear hS
      go_wp2
      exact Ext.refl _
    case ha => rfl
    apply wpLoose_val rfl rfl
    case hs =>
      intro w1 hC hd Q1 hQ1
      obtain ⟨hE, hS⟩ := hC
      dsimp only [bare]
      obtain ⟨q0, q1, t0, t1, t2⟩ := (⟨hS.2.1.cell 0 _ rfl, hS.2.1.cell 1 _ rfl, hS.2.2.1, hS.2.2.2.1, hS.2.2.2.2⟩ : _ ∧ _ ∧ _ ∧ _ ∧ _)
      clear hd hE
      try clear hS
      go_wp2
      exact Ext.refl _
    case ha => rfl
    apply wpLoose_val rfl rfl
    case hs =>
      intro w1 hC hd Q1 hQ1
      obtain ⟨hE, hS⟩ := hC
      dsimp only [bare]
      obtain ⟨q0, q1, t0, t1, t2⟩ := (⟨hS.2.1.cell 0 _ rfl, hS.2.1.cell 1 _ rfl, hS.2.2.1, hS.2.2.2.1, hS.2.2.2.2⟩ : _ ∧ _ ∧ _ ∧ _ ∧ _)
      clear hd hE
      try clear hS
      go_wp2
      exact Ext.refl _
    case ha => rfl
    apply wpLoose_val rfl rfl
    case hs =>
      intro w1 hC hd Q1 hQ1
      obtain ⟨hE, hS⟩ := hC
      dsimp only [bare]
      obtain ⟨q0, q1, t0, t1, t2⟩ := (⟨hS.2.1.cell 0 _ rfl, hS.2.1.cell 1 _ rfl, hS.2.2.1, hS.2.2.2.1, hS.2.2.2.2⟩ : _ ∧ _ ∧ _ ∧ _ ∧ _)
      clear hd hE
      try clear hS
      go_wp2
      exact Ext.refl _
    case ha => rfl
    apply wpLoose_val rfl rfl
    case hs =>
      intro w1 hC hd Q1 hQ1
      obtain ⟨hE, hS⟩ := hC
      dsimp only [bare]
      obtain ⟨q0, q1, t0, t1, t2⟩ := (⟨hS.2.1.cell 0 _ rfl, hS.2.1.cell 1 _ rfl, hS.2.2.1, hS.2.2.2.1, hS.2.2.2.2⟩ : _ ∧ _ ∧ _ ∧ _ ∧ _)
      clear hd hE
      try clear hS
      go_wp2
      exact Ext.refl _
    case ha => rfl
    apply wpLoose_val rfl rfl
    case hs =>
      intro w1 hC hd Q1 hQ1
      obtain ⟨hE, hS⟩ := hC
      dsimp only [bare]
      obtain ⟨q0, q1, t0, t1, t2⟩ := (⟨hS.2.1.cell 0 _ rfl, hS.2.1.cell 1 _ rfl, hS.2.2.1, hS.2.2.2.1, hS.2.2.2.2⟩ : _ ∧ _ ∧ _ ∧ _ ∧ _)
      clear hd hE
      try clear hS
      go_wp2
      exact Ext.refl _
    case ha => rfl
    refine wpLoose_nil ?_
    intro wa hEa hSa hFa
    · have XA : Hid (Ext w wa) := X1.out.drew.trans hEa
      have KA := hSa.1
      have f1 := KA.free
      obtain ⟨c0, c1, c2⟩ := (⟨KA.cell 0 _ rfl, KA.cell 1 _ rfl, KA.cell 2 _ rfl⟩ : _ ∧ _ ∧ _)
      have KB : Hid (Kn (((wa.setCell ⟨w.heap.size, 0, none⟩ (.int .i64 sk)).setCell ⟨w.heap.size, 1, none⟩ (.string st)).setCell ⟨w.heap.size, 2, none⟩ (.int .i64 sn)) w.heap.size [.int .i64 sk, .string st, .int .i64 sn] 98) := ((KA.set 0 _).set 1 _).set 2 _
      have XB : Hid (Ext w (((wa.setCell ⟨w.heap.size, 0, none⟩ (.int .i64 sk)).setCell ⟨w.heap.size, 1, none⟩ (.string st)).setCell ⟨w.heap.size, 2, none⟩ (.int .i64 sn))) := ((XA.out.set (Nat.le_refl _) _ _).set (Nat.le_refl _) _ _).set (Nat.le_refl _) _ _
      clear hEa hSa hFa KA
      go_wp2
      generalize ((wa.setCell ⟨w.heap.size, 0, none⟩ (.int .i64 sk)).setCell ⟨w.heap.size, 1, none⟩ (.string st)).setCell ⟨w.heap.size, 2, none⟩ (.int .i64 sn) = WB at *
      clear c0 c1 c2 f1
      obtain ⟨c0, c1, c2⟩ := (⟨KB.out.cell 0 _ rfl, KB.out.cell 1 _ rfl, KB.out.cell 2 _ rfl⟩ : _ ∧ _ ∧ _)
      refine bodyPost_ret (v := .agg #[.int .i64 sk, .string st, .int .i64 sn]) (by simp [results, Tryz.results106, go_sem, *]) rfl ?_
      exact ⟨rfl, XB.out⟩
    case hAa => kernel_rfl
    case hla => exact ⟨trivial, trivial, trivial, trivial, trivial, trivial, trivial, trivial, trivial, trivial, trivial⟩

set_option maxRecDepth 100000 in
/-- A name or a mark where it stands: behind it. -/
theorem passes_any {w : World} {p : Nat} {a : Option Addr} {cap : Nat} {G : List Sg} {i : Nat} (t : List UInt8) (ht : t ≠ []) (h : RdI w p a cap G i) :
    Calls Tryz.prog 104 #[.pointer (some ⟨p, 0, none⟩), .string (txt t)] w fun e w' => e = .returned (.bool (isT G i t)) ∧ RdI w' p a cap G (if isT G i t then i + 1 else i) ∧ GB p w w' := by
  have HN : Hid (Calls Tryz.prog 106 #[.pointer (some ⟨p, 0, none⟩)] w fun e w' => e = .returned (sgV (sgA G i)) ∧ Ext w w') := next_any h
  have HR : Hid (∀ W, Ext w W → RdI W p a cap G i) := fun W hE => h.step hE
  obtain ⟨sk, hsk⟩ : ∃ k, k = (sgA G i).1 := ⟨_, rfl⟩
  obtain ⟨st, hst⟩ : ∃ k, k = txt (sgA G i).2.1 := ⟨_, rfl⟩
  obtain ⟨sn, hsn⟩ : ∃ k, k = (sgA G i).2.2 := ⟨_, rfl⟩
  have hv : sgV (sgA G i) = .agg #[.int .i64 sk, .string st, .int .i64 sn] := by rw [hsk, hst, hsn]; rfl
  rw [hv] at HN
  obtain ⟨T, hT⟩ : ∃ T, T = txt t := ⟨_, rfl⟩
  rw [← hT]
  have heq : (st.toList == T.toList) = isT G i t := by
    rw [hst, hT]
    unfold isT
    rw [Bool.eq_iff_iff]
    simp only [beq_iff_eq]
    exact ⟨fun e => txt_inj (ByteArray.ext (Array.toList_inj.1 (by simpa [ByteArray.toList_eq] using e))), fun e => by rw [e]⟩
  have hlt : isT G i t = true → i + 1 ≤ G.length := fun e => isT_lt ht e
  obtain ⟨z, hz⟩ : ∃ z, z = isT G i t := ⟨_, rfl⟩
  have HL : Hid (z = true → i + 1 ≤ G.length) := by rw [hz]; exact hlt
  rw [← hz] at heq ⊢
  clear hsk hst hsn hv hT hlt hz h
  have hfld := fld1 (.int .i64 sk) (.string st) (.int .i64 sn)
  cases z
  · go_enter Tryz.func104, Tryz.ntmps104
    go_wp2_with fail
    refine HN.out.mono ?_
    rintro e w1 ⟨rfl, x1⟩
    have X1 : Hid (Ext w w1) := x1
    clear x1 HN
    go_wp2
    go_ret
    exact ⟨rfl, HR.out _ X1.out, gb_ext X1.out⟩
  · go_enter Tryz.func104, Tryz.ntmps104
    go_wp2_with fail
    refine HN.out.mono ?_
    rintro e w1 ⟨rfl, x1⟩
    have X1 : Hid (Ext w w1) := x1
    have R1 : Hid (RdI w1 p a cap G i) := HR.out _ x1
    have c1 := R1.out.1.cell 1 _ rfl
    have f1 := R1.out.1.free
    clear x1 HN
    have hb : i ≤ 1200 := by have := R1.out.2.1; have := R1.out.2.2.1; omega
    go_wp2
    go_ret
    exact ⟨rfl, R1.out.set (HL.out (by first | rfl | trivial)), gb_trans (gb_ext X1.out) (gb_set _ _ _ _)⟩

set_option maxRecDepth 100000 in
theorem mustPass_any {w : World} {p : Nat} {a : Option Addr} {cap : Nat} {G : List Sg} {i : Nat} (t : List UInt8) (ht : t ≠ []) (h : RdI w p a cap G i) :
    Calls Tryz.prog 62 #[.pointer (some ⟨p, 0, none⟩), .string (txt t)] w fun e w' => (match rPass G i t with
      | some j => e = .returned (.tuple #[]) ∧ RdI w' p a cap G j
      | none => e = Bad) ∧ GB p w w' := by
  have HP := passes_any t ht h
  unfold rPass
  obtain ⟨z, hz⟩ : ∃ z, z = isT G i t := ⟨_, rfl⟩
  obtain ⟨T, hT⟩ : ∃ T, T = txt t := ⟨_, rfl⟩
  rw [← hz, ← hT] at HP
  rw [← hz, ← hT]
  clear hz hT h
  have H1 : Hid _ := HP
  clear HP
  cases z
  · go_enter Tryz.func62, Tryz.ntmps62
    go_wp2_with fail
    refine (show Calls Tryz.prog 104 _ _ _ from H1.out).mono ?_
    rintro e w1 ⟨rfl, x1, y1⟩
    have X1 : Hid (GB p w w1) := y1
    clear x1 H1 y1
    go_wp2
    exact bad_panic rfl ⟨rfl, X1.out⟩
  · go_enter Tryz.func62, Tryz.ntmps62
    go_wp2_with fail
    refine (show Calls Tryz.prog 104 _ _ _ from H1.out).mono ?_
    rintro e w1 ⟨rfl, x1, y1⟩
    have X1 : Hid (RdI w1 p a cap G (i + 1) ∧ GB p w w1) := ⟨x1, y1⟩
    clear x1 H1 y1
    go_wp2
    go_end0
    exact ⟨⟨rfl, X1.out.1⟩, X1.out.2⟩

set_option maxRecDepth 100000 in
theorem numberStands_any {w : World} {p : Nat} {a : Option Addr} {cap : Nat} {G : List Sg} {i : Nat} (h : RdI w p a cap G i) :
    Calls Tryz.prog 105 #[.pointer (some ⟨p, 0, none⟩)] w fun e w' => e = .returned (.bool (numAt G i)) ∧ Ext w w' := by
  have HN : Hid (Calls Tryz.prog 106 #[.pointer (some ⟨p, 0, none⟩)] w fun e w' => e = .returned (sgV (sgA G i)) ∧ Ext w w') := next_any h
  obtain ⟨z, hz⟩ : ∃ z, z = numAt G i := ⟨_, rfl⟩
  obtain ⟨sk, hsk⟩ : ∃ k, k = (sgA G i).1 := ⟨_, rfl⟩
  have heq : (sk == 2) = z := by rw [hz, hsk]; rfl
  rw [show sgV (sgA G i) = .agg #[.int .i64 (sgA G i).1, .string (txt (sgA G i).2.1), .int .i64 (sgA G i).2.2] from rfl, ← hsk] at HN
  rw [← hz]
  clear hz hsk h
  generalize txt (sgA G i).2.1 = st at *
  generalize (sgA G i).2.2 = sn at *
  have hfld := fld0 (.int .i64 sk) (.string st) (.int .i64 sn)
  go_enter Tryz.func105, Tryz.ntmps105
  go_wp2_with fail
  refine HN.out.mono ?_
  rintro e w1 ⟨rfl, x1⟩
  have X1 : Hid (Ext w w1) := x1
  clear x1 HN
  go_wp2
  go_ret
  exact ⟨rfl, X1.out⟩

set_option maxRecDepth 100000 in
theorem number_any {w : World} {p : Nat} {a : Option Addr} {cap : Nat} {G : List Sg} {i : Nat} (h : RdI w p a cap G i) :
    Calls Tryz.prog 63 #[.pointer (some ⟨p, 0, none⟩)] w fun e w' => (match rNum G i with
      | some (n, j) => e = .returned (.int .i64 n) ∧ RdI w' p a cap G j
      | none => e = Bad) ∧ GB p w w' := by
  have HS : Hid (Calls Tryz.prog 105 #[.pointer (some ⟨p, 0, none⟩)] w fun e w' => e = .returned (.bool (numAt G i)) ∧ Ext w w') := numberStands_any h
  have HN : Hid (∀ W, Ext w W → Calls Tryz.prog 106 #[.pointer (some ⟨p, 0, none⟩)] W fun e w' => e = .returned (.agg #[.int .i64 (sgA G i).1, .string (txt (sgA G i).2.1), .int .i64 (sgA G i).2.2]) ∧ Ext W w') := fun W hE => next_any (h.step hE)
  have HR : Hid (∀ W, Ext w W → RdI W p a cap G i) := fun W hE => h.step hE
  unfold rNum
  have hlt : numAt G i = true → i + 1 ≤ G.length := fun e => numAt_lt e
  obtain ⟨z, hz⟩ : ∃ z, z = numAt G i := ⟨_, rfl⟩
  have HL : Hid (z = true → i + 1 ≤ G.length) := by rw [hz]; exact hlt
  rw [← hz] at HS ⊢
  generalize (sgA G i).1 = sk at *
  generalize txt (sgA G i).2.1 = st at *
  generalize (sgA G i).2.2 = sn at *
  clear hz hlt h
  have hfld := fld2 (.int .i64 sk) (.string st) (.int .i64 sn)
  cases z
  · go_enter Tryz.func63, Tryz.ntmps63
    go_wp2_with fail
    refine HS.out.mono ?_
    rintro e w1 ⟨rfl, x1⟩
    have X1 : Hid (Ext w w1) := x1
    clear x1 HS HN
    go_wp2
    exact bad_panic rfl ⟨rfl, gb_ext X1.out⟩
  · go_enter Tryz.func63, Tryz.ntmps63
    go_wp2_with fail
    refine HS.out.mono ?_
    rintro e w1 ⟨rfl, x1⟩
    have X1 : Hid (Ext w w1) := x1
    clear x1 HS
    go_wp2_with fail
    refine (HN.out _ X1.out).mono ?_
    rintro e w2 ⟨rfl, x2⟩
    have X2 : Hid (Ext w w2) := X1.out.trans x2
    have R2 : Hid (RdI w2 p a cap G i) := HR.out _ X2.out
    have c1 := R2.out.1.cell 1 _ rfl
    have f1 := R2.out.1.free
    clear x2 HN
    have hb : i ≤ 1200 := by have := R2.out.2.1; have := R2.out.2.2.1; omega
    go_wp2
    go_ret
    exact ⟨⟨rfl, R2.out.set (HL.out (by first | rfl | trivial))⟩, gb_trans (gb_ext X2.out) (gb_set _ _ _ _)⟩

theorem Kn.gb {w w' : World} {p k : Nat} {l : List Value} {t : TypeId} (h : Kn w k l t) (hk : k ≠ p) (hG : GB p w w') : Kn w' k l t :=
  (hG.block k h.lt (fun e => hk (Option.some.inj e))).trans h

/-- What a reader's function leaves: a value and the place behind it, or the panic. -/
def Got {α : Type} (val : α → Value) (o : Option (α × Nat)) (p : Nat) (a : Option Addr) (cap : Nat) (G : List Sg) (e : Ending) (w' : World) : Prop :=
  match o with
  | some (v, j) => e = .returned (val v) ∧ RdI w' p a cap G j
  | none => e = Bad

theorem got_some {α : Type} {val : α → Value} {o : Option (α × Nat)} {v : α} {j p : Nat} {a : Option Addr} {cap : Nat} {G : List Sg} {e : Ending} {w' : World} (h : o = some (v, j)) (he : e = .returned (val v)) (hr : RdI w' p a cap G j) : Got val o p a cap G e w' := by
  subst h; exact ⟨he, hr⟩
theorem got_none {α : Type} {val : α → Value} {o : Option (α × Nat)} {p : Nat} {a : Option Addr} {cap : Nat} {G : List Sg} {e : Ending} {w' : World} (h : o = none) (he : e = Bad) : Got val o p a cap G e w' := by
  subst h; exact he
theorem got_of_some {α : Type} {val : α → Value} {o : Option (α × Nat)} {v : α} {j p : Nat} {a : Option Addr} {cap : Nat} {G : List Sg} {e : Ending} {w' : World} (h : o = some (v, j)) (hg : Got val o p a cap G e w') : e = .returned (val v) ∧ RdI w' p a cap G j := by
  subst h; exact hg
theorem got_of_none {α : Type} {val : α → Value} {o : Option (α × Nat)} {p : Nat} {a : Option Addr} {cap : Nat} {G : List Sg} {e : Ending} {w' : World} (h : o = none) (hg : Got val o p a cap G e w') : e = Bad := by
  subst h; exact hg

/-- A call that answers v and leaves the reader at j; a call that panics. -/
abbrev Gives (f p : Nat) (a : Option Addr) (cap : Nat) (G : List Sg) (w : World) (v : Value) (j : Nat) : Prop :=
  Calls Tryz.prog f #[.pointer (some ⟨p, 0, none⟩)] w fun e w' => (e = .returned v ∧ RdI w' p a cap G j) ∧ GB p w w'
abbrev Fails (f p : Nat) (w : World) : Prop :=
  Calls Tryz.prog f #[.pointer (some ⟨p, 0, none⟩)] w fun e w' => e = Bad ∧ GB p w w'

theorem gives_of {α : Type} {val : α → Value} {o : Option (α × Nat)} {v : α} {j f p : Nat} {a : Option Addr} {cap : Nat} {G : List Sg} {w : World} (h : o = some (v, j))
    (hc : Calls Tryz.prog f #[.pointer (some ⟨p, 0, none⟩)] w fun e w' => Got val o p a cap G e w' ∧ GB p w w') : Gives f p a cap G w (val v) j :=
  hc.mono fun e w' ⟨hg, hb⟩ => ⟨got_of_some h hg, hb⟩
theorem fails_of {α : Type} {val : α → Value} {o : Option (α × Nat)} {f p : Nat} {a : Option Addr} {cap : Nat} {G : List Sg} {w : World} (h : o = none)
    (hc : Calls Tryz.prog f #[.pointer (some ⟨p, 0, none⟩)] w fun e w' => Got val o p a cap G e w' ∧ GB p w w') : Fails f p w :=
  hc.mono fun e w' ⟨hg, hb⟩ => ⟨got_of_none h hg, hb⟩

def intV (n : Int) : Value := .int .i64 n
def pairV (o : Int × Int) : Value := .tuple #[.int .i64 o.1, .int .i64 o.2]
def wideV (o : Int × Int) : Value := .agg #[.int .i64 o.1, .int .i64 o.2]

theorem rnumber_got {w : World} {p : Nat} {a : Option Addr} {cap : Nat} {G : List Sg} {i : Nat} (h : RdI w p a cap G i) :
    Calls Tryz.prog 63 #[.pointer (some ⟨p, 0, none⟩)] w fun e w' => Got intV (rNum G i) p a cap G e w' ∧ GB p w w' := by
  refine (number_any h).mono fun e w' ⟨hg, hb⟩ => ⟨?_, hb⟩
  cases er : rNum G i with
  | none => rw [er] at hg; exact hg
  | some x => rw [er] at hg; exact hg

theorem RdI.lt {w : World} {p : Nat} {a : Option Addr} {cap : Nat} {G : List Sg} {i : Nat} (h : RdI w p a cap G i) : p < w.heap.size := h.1.lt

theorem Cms.gb {w w' : World} {p : Nat} (h : Cms w) (hp : p ≠ 0) (hG : GB p w w') : Cms w' :=
  ⟨fun k hk => hG.cell (h.1 k hk) (fun e => hp (Option.some.inj e).symm), Nat.lt_of_lt_of_le h.2 hG.size⟩

theorem findT_first {L : List (List UInt8)} {t : List UInt8} {k : Nat} (hk : k < L.length) (h : L.getD k [] = t) (hn : ∀ j, j < k → ¬ L.getD j [] = t) : findT L t = some k := by
  unfold findT
  rw [List.findIdx?_eq_some_iff_getElem]
  refine ⟨hk, ?_, fun j hj => ?_⟩
  · rw [List.getD_eq_getElem?_getD, List.getElem?_eq_getElem hk] at h
    simpa using h
  · have := hn j hj
    rw [List.getD_eq_getElem?_getD, List.getElem?_eq_getElem (by omega)] at this
    simpa using this

theorem findT_no {L : List (List UInt8)} {t : List UInt8} (hn : ∀ j, j < L.length → ¬ L.getD j [] = t) : findT L t = none := by
  unfold findT
  rw [List.findIdx?_eq_none_iff]
  intro x hx
  obtain ⟨k, hk, rfl⟩ := List.getElem_of_mem hx
  have := hn k hk
  rw [List.getD_eq_getElem?_getD, List.getElem?_eq_getElem hk] at this
  simpa using this

theorem isT_iff (G : List Sg) (i : Nat) (t : List UInt8) : isT G i t = true ↔ t = (sgA G i).2.1 := by
  unfold isT
  simp only [beq_iff_eq]
  exact ⟨fun h => h.symm, fun h => h.symm⟩

theorem actL_ne : ∀ k, k < 6 → actL.getD k [] ≠ [] := by decide
theorem cmL_ne : ∀ k, k < 6 → cmL.getD k [] ≠ [] := by decide

theorem nameV_act {k : Nat} (h : k < 6) : nameV (k : Int) = txt (actL.getD k []) := by
  have : k = 0 ∨ k = 1 ∨ k = 2 ∨ k = 3 ∨ k = 4 ∨ k = 5 := by omega
  rcases this with rfl | rfl | rfl | rfl | rfl | rfl <;> rfl

set_option maxRecDepth 100000 in
theorem action_any {w : World} {p : Nat} {a : Option Addr} {cap : Nat} {G : List Sg} {i : Nat} (h : RdI w p a cap G i) :
    Calls Tryz.prog 107 #[.pointer (some ⟨p, 0, none⟩)] w fun e w' => Got intV (rAct G i) p a cap G e w' ∧ GB p w w' := by
  have HR : Hid (RdI w p a cap G i) := h
  clear h
  go_enter Tryz.func107, Tryz.ntmps107
  go_wp2_with fail
  go_loopw [3] (fun v wr => ∃ k : Nat, v = .int .i64 k ∧ k ≤ 6 ∧ Hid (RdI wr p a cap G i ∧ GB p w wr) ∧ Hid (∀ j, j < k → ¬ actL.getD j [] = (sgA G i).2.1)) (fun v _ => 6 - (intOf v).toNat)
  case atStart => exact ⟨0, rfl, by omega, ⟨HR.out, gb_refl _ _⟩, fun j hj => by omega⟩
  case round =>
    obtain ⟨k, rfl, hk, hX, hn⟩ := hrel
    by_cases hlt : k < 6
    · have bk : (k : Int) ≤ 5 := by omega
      have HN : Hid (∀ W, Calls Tryz.prog 56 #[.int .i64 (k : Int)] W fun e w' => e = .returned (.string (txt (actL.getD k []))) ∧ W = w') := fun W => by rw [← nameV_act hlt]; exact iName_any _ W
      have HP : Hid (Calls Tryz.prog 104 #[.pointer (some ⟨p, 0, none⟩), .string (txt (actL.getD k []))] wr fun e w' => e = .returned (.bool (isT G i (actL.getD k []))) ∧ RdI w' p a cap G (if isT G i (actL.getD k []) then i + 1 else i) ∧ GB p wr w') := passes_any _ (actL_ne k hlt) hX.out.1
      have HI : Hid (isT G i (actL.getD k []) = true ↔ actL.getD k [] = (sgA G i).2.1) := isT_iff G i _
      obtain ⟨z, hz⟩ : ∃ z, z = isT G i (actL.getD k []) := ⟨_, rfl⟩
      rw [← hz] at HP HI
      have HL : Hid (actL.getD k [] = actL.getD k []) := rfl
      obtain ⟨T, hT⟩ : ∃ T, T = txt (actL.getD k []) := ⟨_, rfl⟩
      rw [← hT] at HP HN
      clear hz hT
      cases z
      · go_wp2_with fail
        refine (HN.out _).mono ?_
        rintro e w1 ⟨rfl, rfl⟩
        go_wp2_with fail
        refine (show Calls Tryz.prog 104 _ _ _ from HP.out).mono ?_
        rintro e w2 ⟨rfl, r2, g2⟩
        have X2 : Hid (RdI w2 p a cap G i ∧ GB p w w2) := ⟨r2, gb_trans hX.out.2 g2⟩
        have HT : Hid (∀ j, j < k + 1 → ¬ actL.getD j [] = (sgA G i).2.1) := fun j hj => by
          rcases Nat.lt_succ_iff_lt_or_eq.1 hj with h | rfl
          · exact hn.out j h
          · intro he
            have := HI.out.2 he
            simp at this
        clear r2 g2 hX hn HP HN HI HR
        go_wp2
        go_roundw
        case rel => exact ⟨k + 1, by go_num, by omega, X2, HT⟩
        case measure => simp [intOf]; omega
      · go_wp2_with fail
        refine (HN.out _).mono ?_
        rintro e w1 ⟨rfl, rfl⟩
        go_wp2_with fail
        refine (show Calls Tryz.prog 104 _ _ _ from HP.out).mono ?_
        rintro e w2 ⟨rfl, r2, g2⟩
        have X2 : Hid (RdI w2 p a cap G (i + 1) ∧ GB p w w2) := ⟨r2, gb_trans hX.out.2 g2⟩
        have HM : Hid (rAct G i = some ((k : Int), i + 1)) := by
          unfold Hid rAct
          rw [findT_first (k := k) (by simpa [actL] using hlt) (HI.out.1 (by first | rfl | trivial)) hn.out]
          rfl
        clear r2 g2 hX hn HP HN HI HR
        go_wp2
        go_ret
        exact ⟨got_some HM.out rfl X2.out.1, X2.out.2⟩
    · obtain rfl : k = 6 := by omega
      have HM : Hid (rAct G i = none) := by
        unfold Hid rAct
        rw [findT_no (fun j hj => hn.out j (by simpa [actL] using hj))]
        rfl
      clear hn HR
      go_wp2
      exact bad_panic rfl ⟨got_none HM.out rfl, hX.out.2⟩

set_option maxRecDepth 100000 in
theorem outcome_any {w : World} {p : Nat} {a : Option Addr} {cap : Nat} {G : List Sg} {i : Nat} (h : RdI w p a cap G i) :
    Calls Tryz.prog 64 #[.pointer (some ⟨p, 0, none⟩)] w fun e w' => Got pairV (rOut G i) p a cap G e w' ∧ GB p w w' := by
  have HA := action_any h
  cases ea : rAct G i with
  | none =>
    have H1 : Hid (Fails 107 p w) := fails_of ea HA
    have HM : Hid (rOut G i = none) := by unfold Hid rOut; rw [ea]
    clear HA h ea
    go_enter Tryz.func64, Tryz.ntmps64
    go_wp2_with fail
    refine (show Calls Tryz.prog 107 _ _ _ from H1.out).mono ?_
    rintro e w1 ⟨rfl, g1⟩
    have X1 : Hid (GB p w w1) := g1
    clear g1 H1
    go_wp2
    exact bad_panic rfl ⟨got_none HM.out rfl, X1.out⟩
  | some x =>
    obtain ⟨n, j⟩ := x
    have H1 : Hid (Gives 107 p a cap G w (.int .i64 n) j) := gives_of ea HA
    clear HA h
    cases en : numAt G j
    · have HM : Hid (rOut G i = some ((n, 0), j)) := by unfold Hid rOut; rw [ea]; simp [en]
      clear ea
      go_enter Tryz.func64, Tryz.ntmps64
      go_wp2_with fail
      refine (show Calls Tryz.prog 107 _ _ _ from H1.out).mono ?_
      rintro e w1 ⟨⟨rfl, r1⟩, g1⟩
      have H2 : Hid (Calls Tryz.prog 105 #[.pointer (some ⟨p, 0, none⟩)] w1 fun e w' => e = .returned (.bool false) ∧ Ext w1 w') := by rw [← en]; exact numberStands_any r1
      have R1 : Hid (RdI w1 p a cap G j) := r1
      have X1 : Hid (GB p w w1) := g1
      clear g1 r1 H1
      go_wp2_with fail
      refine H2.out.mono ?_
      rintro e w2 ⟨rfl, x2⟩
      have X2 : Hid (RdI w2 p a cap G j ∧ GB p w w2) := ⟨R1.out.step x2, gb_trans X1.out (gb_ext x2)⟩
      clear x2 H2
      go_wp2
      go_ret2
      exact ⟨got_some HM.out rfl X2.out.1, X2.out.2⟩
    · have hnum : rNum G j = some ((sgA G j).2.2, j + 1) := by unfold rNum; rw [en]; rfl
      have HM : Hid (rOut G i = some ((n, (sgA G j).2.2), j + 1)) := by unfold Hid rOut; rw [ea]; simp [en]
      clear ea
      go_enter Tryz.func64, Tryz.ntmps64
      go_wp2_with fail
      refine (show Calls Tryz.prog 107 _ _ _ from H1.out).mono ?_
      rintro e w1 ⟨⟨rfl, r1⟩, g1⟩
      have H2 : Hid (Calls Tryz.prog 105 #[.pointer (some ⟨p, 0, none⟩)] w1 fun e w' => e = .returned (.bool true) ∧ Ext w1 w') := by rw [← en]; exact numberStands_any r1
      have R1 : Hid (RdI w1 p a cap G j) := r1
      have X1 : Hid (GB p w w1) := g1
      clear g1 r1 H1
      go_wp2_with fail
      refine H2.out.mono ?_
      rintro e w2 ⟨rfl, x2⟩
      have X2 : Hid (RdI w2 p a cap G j ∧ GB p w w2) := ⟨R1.out.step x2, gb_trans X1.out (gb_ext x2)⟩
      have H3 : Hid (Gives 63 p a cap G w2 (.int .i64 (sgA G j).2.2) (j + 1)) := gives_of hnum (rnumber_got X2.out.1)
      clear x2 H2 hnum en
      generalize (sgA G j).2.2 = d at *
      go_wp2_with fail
      refine (show Calls Tryz.prog 63 _ _ _ from H3.out).mono ?_
      rintro e w3 ⟨⟨rfl, r3⟩, g3⟩
      have X3 : Hid (RdI w3 p a cap G (j + 1) ∧ GB p w w3) := ⟨r3, gb_trans X2.out.2 g3⟩
      clear r3 g3 H3
      go_wp2
      go_ret2
      exact ⟨got_some HM.out rfl X3.out.1, X3.out.2⟩

theorem gb_fresh {p r k : Nat} {w W : World} {v : Value} (h : GB p w W) (hr : w.heap.size ≤ r) : GB p w (W.setCell ⟨r, k, none⟩ v) :=
  ⟨h.os, h.tape, h.output, by rw [World.size_setCell]; exact h.size, fun i hi hne => (Below.heap_setCell _ _ _ _ (by show i ≠ r; omega)).trans (h.block i hi hne)⟩

theorem gb_alloc {p : Nat} {w W : World} (h : GB p w W) (o : Obj) : GB p w (W.alloc o) := gb_trans h (gb_ext (Ext.one _ _))

theorem RdI.fresh {w0 w : World} {p r k : Nat} {a : Option Addr} {cap : Nat} {G : List Sg} {i0 i : Nat} {v : Value} (h0 : RdI w0 p a cap G i0) (h : RdI w p a cap G i) (hr : w0.heap.size ≤ r) : RdI (w.setCell ⟨r, k, none⟩ v) p a cap G i := by
  have hp := h0.lt
  refine ⟨h.1.other (by omega) _ _, h.2.1, h.2.2.1, fun hl => ?_, h.2.2.2.2⟩
  obtain ⟨b, off, e, hc⟩ := h.2.2.2.1 hl
  obtain ⟨b0, off0, e0, hc0⟩ := h0.2.2.2.1 hl
  have hb : b = b0 := by rw [e] at e0; injection e0 with e0; injection e0
  have hlt := (hc0 0 hl).lt
  refine ⟨b, off, e, fun j hj => ?_⟩
  obtain ⟨c1, c2, c3⟩ := hc j hj
  have far : ∀ o, (⟨r, k, none⟩ : Addr) ≠ ⟨b, o, none⟩ := fun o e => by injection e with e1; omega
  exact ⟨by rw [World.cell?_setCell_other _ _ _ _ (far _)]; exact c1, by rw [World.cell?_setCell_other _ _ _ _ (far _)]; exact c2, by rw [World.cell?_setCell_other _ _ _ _ (far _)]; exact c3⟩

set_option maxRecDepth 100000 in
theorem rwide_any {w : World} {p : Nat} {a : Option Addr} {cap : Nat} {G : List Sg} {i : Nat} (h : RdI w p a cap G i) :
    Calls Tryz.prog 142 #[.pointer (some ⟨p, 0, none⟩)] w fun e w' => Got wideV (rWide G i) p a cap G e w' ∧ GB p w w' := by
  have hp := h.lt
  have X0 : Hid (RdI (w.alloc (.cells #[.int .i64 0, .int .i64 0] 76)) p a cap G i ∧ GB p w (w.alloc (.cells #[.int .i64 0, .int .i64 0] 76)) ∧ Kn (w.alloc (.cells #[.int .i64 0, .int .i64 0] 76)) w.heap.size [.int .i64 0, .int .i64 0] 76) := ⟨h.step (Ext.one _ _), gb_ext (Ext.one _ _), Kn.new w _ _⟩
  have H0 : Hid (RdI w p a cap G i ∧ p < w.heap.size) := ⟨h, hp⟩
  clear h hp
  cases ea : rNum G i with
  | none =>
    have H1 : Hid (∀ {W}, RdI W p a cap G i → Fails 63 p W) := fun {W} hW => fails_of ea (rnumber_got hW)
    have HM : Hid (rWide G i = none) := by unfold Hid rWide; rw [ea]
    clear ea
    go_enter Tryz.func142, Tryz.ntmps142
    go_wp2_with fail
    generalize w.alloc (.cells #[.int .i64 0, .int .i64 0] 76) = W0 at *
    refine (show Calls Tryz.prog 63 _ _ _ from H1.out X0.out.1).mono ?_
    rintro e w1 ⟨rfl, g1⟩
    have X1 : Hid (GB p w w1) := gb_trans X0.out.2.1 g1
    clear g1 H1
    go_wp2
    exact bad_panic rfl ⟨got_none HM.out rfl, X1.out⟩
  | some x =>
    obtain ⟨n, j⟩ := x
    have H1 : Hid (∀ {W}, RdI W p a cap G i → Gives 63 p a cap G W (.int .i64 n) j) := fun {W} hW => gives_of ea (rnumber_got hW)
    have H2 : Hid (∀ {W}, RdI W p a cap G j → Calls Tryz.prog 104 #[.pointer (some ⟨p, 0, none⟩), .string ⟨#[58]⟩] W fun e w' => e = .returned (.bool (isT G j tColon)) ∧ RdI w' p a cap G (if isT G j tColon then j + 1 else j) ∧ GB p W w') := fun {W} hW => passes_any tColon (by decide) hW
    have HM : Hid (rWide G i = (if isT G j tColon then (match rNum G (j + 1) with
      | none => none
      | some (m, k) => some ((n, m), k)) else some ((0, n), j))) := by unfold Hid rWide; rw [ea] <;> rfl
    clear ea
    obtain ⟨z, hz⟩ : ∃ z, z = isT G j tColon := ⟨_, rfl⟩
    rw [← hz] at H2 HM
    clear hz
    cases z
    · have HM2 : Hid (rWide G i = some ((0, n), j)) := HM.out
      clear HM
      go_enter Tryz.func142, Tryz.ntmps142
      go_wp2_with fail
      generalize w.alloc (.cells #[.int .i64 0, .int .i64 0] 76) = W0 at *
      refine (show Calls Tryz.prog 63 _ _ _ from H1.out X0.out.1).mono ?_
      rintro e w1 ⟨⟨rfl, r1⟩, g1⟩
      have X1 : Hid (RdI w1 p a cap G j ∧ GB p w w1 ∧ Kn w1 w.heap.size [.int .i64 0, .int .i64 0] 76) := ⟨r1, gb_trans X0.out.2.1 g1, X0.out.2.2.gb (by have := H0.out.2; omega) g1⟩
      clear r1 g1 H1 X0
      go_wp2_with fail
      refine (show Calls Tryz.prog 104 _ _ _ from H2.out X1.out.1).mono ?_
      rintro e w2 ⟨rfl, r2, g2⟩
      have X2 : Hid (RdI w2 p a cap G j ∧ GB p w w2 ∧ Kn w2 w.heap.size [.int .i64 0, .int .i64 0] 76) := ⟨r2, gb_trans X1.out.2.1 g2, X1.out.2.2.gb (by have := H0.out.2; omega) g2⟩
      clear r2 g2 H2 X1
      have K2 := X2.out.2.2
      have f1 := K2.free
      obtain ⟨c0, c1⟩ := (⟨K2.cell 0 _ rfl, K2.cell 1 _ rfl⟩ : _ ∧ _)
      have XB : Hid (RdI ((w2.setCell ⟨w.heap.size, 0, none⟩ (.int .i64 0)).setCell ⟨w.heap.size, 1, none⟩ (.int .i64 n)) p a cap G j ∧ GB p w ((w2.setCell ⟨w.heap.size, 0, none⟩ (.int .i64 0)).setCell ⟨w.heap.size, 1, none⟩ (.int .i64 n)) ∧ Kn ((w2.setCell ⟨w.heap.size, 0, none⟩ (.int .i64 0)).setCell ⟨w.heap.size, 1, none⟩ (.int .i64 n)) w.heap.size [.int .i64 0, .int .i64 n] 76) :=
        ⟨H0.out.1.fresh (H0.out.1.fresh X2.out.1 (Nat.le_refl _)) (Nat.le_refl _), gb_fresh (gb_fresh X2.out.2.1 (Nat.le_refl _)) (Nat.le_refl _), (K2.set 0 _).set 1 _⟩
      clear X2 K2
      go_wp2
      generalize (w2.setCell ⟨w.heap.size, 0, none⟩ (.int .i64 0)).setCell ⟨w.heap.size, 1, none⟩ (.int .i64 n) = WB at *
      clear c0 c1 f1
      obtain ⟨c0, c1⟩ := (⟨XB.out.2.2.cell 0 _ rfl, XB.out.2.2.cell 1 _ rfl⟩ : _ ∧ _)
      refine bodyPost_ret (v := .agg #[.int .i64 0, .int .i64 n]) (by simp [results, Tryz.results142, go_sem, *]) rfl ?_
      exact ⟨got_some HM2.out rfl XB.out.1, XB.out.2.1⟩
    · have HM1 : Hid (rWide G i = (match rNum G (j + 1) with
        | none => none
        | some (m, k) => some ((n, m), k))) := HM.out
      clear HM
      cases eb : rNum G (j + 1) with
      | none =>
        have HM2 : Hid (rWide G i = none) := by unfold Hid; rw [HM1.out, eb]
        have H3 : Hid (∀ {W}, RdI W p a cap G (j + 1) → Fails 63 p W) := fun {W} hW => fails_of eb (rnumber_got hW)
        clear HM1 eb
        go_enter Tryz.func142, Tryz.ntmps142
        go_wp2_with fail
        generalize w.alloc (.cells #[.int .i64 0, .int .i64 0] 76) = W0 at *
        refine (show Calls Tryz.prog 63 _ _ _ from H1.out X0.out.1).mono ?_
        rintro e w1 ⟨⟨rfl, r1⟩, g1⟩
        have X1 : Hid (RdI w1 p a cap G j ∧ GB p w w1) := ⟨r1, gb_trans X0.out.2.1 g1⟩
        clear r1 g1 H1 X0
        go_wp2_with fail
        refine (show Calls Tryz.prog 104 _ _ _ from H2.out X1.out.1).mono ?_
        rintro e w2 ⟨rfl, r2, g2⟩
        have X2 : Hid (RdI w2 p a cap G (j + 1) ∧ GB p w w2) := ⟨r2, gb_trans X1.out.2 g2⟩
        clear r2 g2 H2 X1
        go_wp2_with fail
        refine (show Calls Tryz.prog 63 _ _ _ from H3.out X2.out.1).mono ?_
        rintro e w3 ⟨rfl, g3⟩
        have X3 : Hid (GB p w w3) := gb_trans X2.out.2 g3
        clear g3 H3
        go_wp2
        exact bad_panic rfl ⟨got_none HM2.out rfl, X3.out⟩
      | some y =>
        obtain ⟨m, k⟩ := y
        have HM2 : Hid (rWide G i = some ((n, m), k)) := by unfold Hid; rw [HM1.out, eb]
        have H3 : Hid (∀ {W}, RdI W p a cap G (j + 1) → Gives 63 p a cap G W (.int .i64 m) k) := fun {W} hW => gives_of eb (rnumber_got hW)
        clear HM1 eb
        go_enter Tryz.func142, Tryz.ntmps142
        go_wp2_with fail
        generalize w.alloc (.cells #[.int .i64 0, .int .i64 0] 76) = W0 at *
        refine (show Calls Tryz.prog 63 _ _ _ from H1.out X0.out.1).mono ?_
        rintro e w1 ⟨⟨rfl, r1⟩, g1⟩
        have X1 : Hid (RdI w1 p a cap G j ∧ GB p w w1 ∧ Kn w1 w.heap.size [.int .i64 0, .int .i64 0] 76) := ⟨r1, gb_trans X0.out.2.1 g1, X0.out.2.2.gb (by have := H0.out.2; omega) g1⟩
        clear r1 g1 H1 X0
        go_wp2_with fail
        refine (show Calls Tryz.prog 104 _ _ _ from H2.out X1.out.1).mono ?_
        rintro e w2 ⟨rfl, r2, g2⟩
        have X2 : Hid (RdI w2 p a cap G (j + 1) ∧ GB p w w2 ∧ Kn w2 w.heap.size [.int .i64 0, .int .i64 0] 76) := ⟨r2, gb_trans X1.out.2.1 g2, X1.out.2.2.gb (by have := H0.out.2; omega) g2⟩
        clear r2 g2 H2 X1
        go_wp2_with fail
        refine (show Calls Tryz.prog 63 _ _ _ from H3.out X2.out.1).mono ?_
        rintro e w3 ⟨⟨rfl, r3⟩, g3⟩
        have X3 : Hid (RdI w3 p a cap G k ∧ GB p w w3 ∧ Kn w3 w.heap.size [.int .i64 0, .int .i64 0] 76) := ⟨r3, gb_trans X2.out.2.1 g3, X2.out.2.2.gb (by have := H0.out.2; omega) g3⟩
        clear r3 g3 H3 X2
        have K2 := X3.out.2.2
        have f1 := K2.free
        obtain ⟨c0, c1⟩ := (⟨K2.cell 0 _ rfl, K2.cell 1 _ rfl⟩ : _ ∧ _)
        have XB : Hid (RdI ((w3.setCell ⟨w.heap.size, 0, none⟩ (.int .i64 n)).setCell ⟨w.heap.size, 1, none⟩ (.int .i64 m)) p a cap G k ∧ GB p w ((w3.setCell ⟨w.heap.size, 0, none⟩ (.int .i64 n)).setCell ⟨w.heap.size, 1, none⟩ (.int .i64 m)) ∧ Kn ((w3.setCell ⟨w.heap.size, 0, none⟩ (.int .i64 n)).setCell ⟨w.heap.size, 1, none⟩ (.int .i64 m)) w.heap.size [.int .i64 n, .int .i64 m] 76) :=
          ⟨H0.out.1.fresh (H0.out.1.fresh X3.out.1 (Nat.le_refl _)) (Nat.le_refl _), gb_fresh (gb_fresh X3.out.2.1 (Nat.le_refl _)) (Nat.le_refl _), (K2.set 0 _).set 1 _⟩
        clear X3 K2
        go_wp2
        generalize (w3.setCell ⟨w.heap.size, 0, none⟩ (.int .i64 n)).setCell ⟨w.heap.size, 1, none⟩ (.int .i64 m) = WB at *
        clear c0 c1 f1
        obtain ⟨c0, c1⟩ := (⟨XB.out.2.2.cell 0 _ rfl, XB.out.2.2.cell 1 _ rfl⟩ : _ ∧ _)
        refine bodyPost_ret (v := .agg #[.int .i64 n, .int .i64 m]) (by simp [results, Tryz.results142, go_sem, *]) rfl ?_
        exact ⟨got_some HM2.out rfl XB.out.1, XB.out.2.1⟩

set_option maxRecDepth 100000 in
theorem rmask_any {w : World} {p : Nat} {a : Option Addr} {cap : Nat} {G : List Sg} {i : Nat} (h : RdI w p a cap G i) :
    Calls Tryz.prog 140 #[.pointer (some ⟨p, 0, none⟩)] w fun e w' => Got wideV (rMask G i) p a cap G e w' ∧ GB p w w' := by
  have hp := h.lt
  have X0 : Hid (RdI (w.alloc (.cells #[.int .i64 0, .int .i64 0] 76)) p a cap G i ∧ GB p w (w.alloc (.cells #[.int .i64 0, .int .i64 0] 76)) ∧ Kn (w.alloc (.cells #[.int .i64 0, .int .i64 0] 76)) w.heap.size [.int .i64 0, .int .i64 0] 76) := ⟨h.step (Ext.one _ _), gb_ext (Ext.one _ _), Kn.new w _ _⟩
  have H0 : Hid (RdI w p a cap G i ∧ p < w.heap.size) := ⟨h, hp⟩
  clear h hp
  have H2 : Hid (∀ {W}, RdI W p a cap G i → Calls Tryz.prog 104 #[.pointer (some ⟨p, 0, none⟩), .string ⟨#[38]⟩] W fun e w' => e = .returned (.bool (isT G i tAmp)) ∧ RdI w' p a cap G (if isT G i tAmp then i + 1 else i) ∧ GB p W w') := fun {W} hW => passes_any tAmp (by decide) hW
  have HM : Hid (rMask G i = (if isT G i tAmp then rWide G (i + 1) else some ((4294967295, 4294967295), i))) := rfl
  obtain ⟨z, hz⟩ : ∃ z, z = isT G i tAmp := ⟨_, rfl⟩
  rw [← hz] at H2 HM
  clear hz
  cases z
  · have HM2 : Hid (rMask G i = some ((4294967295, 4294967295), i)) := HM.out
    clear HM
    go_enter Tryz.func140, Tryz.ntmps140
    go_wp2_with fail
    generalize w.alloc (.cells #[.int .i64 0, .int .i64 0] 76) = W0 at *
    refine (show Calls Tryz.prog 104 _ _ _ from H2.out X0.out.1).mono ?_
    rintro e w2 ⟨rfl, r2, g2⟩
    have X2 : Hid (RdI w2 p a cap G i ∧ GB p w w2 ∧ Kn w2 w.heap.size [.int .i64 0, .int .i64 0] 76) := ⟨r2, gb_trans X0.out.2.1 g2, X0.out.2.2.gb (by have := H0.out.2; omega) g2⟩
    clear r2 g2 H2 X0
    have K2 := X2.out.2.2
    have f1 := K2.free
    obtain ⟨c0, c1⟩ := (⟨K2.cell 0 _ rfl, K2.cell 1 _ rfl⟩ : _ ∧ _)
    have XB : Hid (RdI ((w2.setCell ⟨w.heap.size, 0, none⟩ (.int .i64 4294967295)).setCell ⟨w.heap.size, 1, none⟩ (.int .i64 4294967295)) p a cap G i ∧ GB p w ((w2.setCell ⟨w.heap.size, 0, none⟩ (.int .i64 4294967295)).setCell ⟨w.heap.size, 1, none⟩ (.int .i64 4294967295)) ∧ Kn ((w2.setCell ⟨w.heap.size, 0, none⟩ (.int .i64 4294967295)).setCell ⟨w.heap.size, 1, none⟩ (.int .i64 4294967295)) w.heap.size [.int .i64 4294967295, .int .i64 4294967295] 76) :=
      ⟨H0.out.1.fresh (H0.out.1.fresh X2.out.1 (Nat.le_refl _)) (Nat.le_refl _), gb_fresh (gb_fresh X2.out.2.1 (Nat.le_refl _)) (Nat.le_refl _), (K2.set 0 _).set 1 _⟩
    clear X2 K2
    go_wp2
    generalize (w2.setCell ⟨w.heap.size, 0, none⟩ (.int .i64 4294967295)).setCell ⟨w.heap.size, 1, none⟩ (.int .i64 4294967295) = WB at *
    clear c0 c1 f1
    obtain ⟨c0, c1⟩ := (⟨XB.out.2.2.cell 0 _ rfl, XB.out.2.2.cell 1 _ rfl⟩ : _ ∧ _)
    refine bodyPost_ret (v := .agg #[.int .i64 4294967295, .int .i64 4294967295]) (by simp [results, Tryz.results140, go_sem, *]) rfl ?_
    exact ⟨got_some HM2.out rfl XB.out.1, XB.out.2.1⟩
  · have HM1 : Hid (rMask G i = rWide G (i + 1)) := HM.out
    clear HM
    cases eb : rWide G (i + 1) with
    | none =>
      have HM2 : Hid (rMask G i = none) := by unfold Hid; rw [HM1.out, eb]
      have H3 : Hid (∀ {W}, RdI W p a cap G (i + 1) → Fails 142 p W) := fun {W} hW => fails_of eb (rwide_any hW)
      clear HM1 eb
      go_enter Tryz.func140, Tryz.ntmps140
      go_wp2_with fail
      generalize w.alloc (.cells #[.int .i64 0, .int .i64 0] 76) = W0 at *
      refine (show Calls Tryz.prog 104 _ _ _ from H2.out X0.out.1).mono ?_
      rintro e w2 ⟨rfl, r2, g2⟩
      have X2 : Hid (RdI w2 p a cap G (i + 1) ∧ GB p w w2) := ⟨r2, gb_trans X0.out.2.1 g2⟩
      clear r2 g2 H2 X0
      go_wp2_with fail
      refine (show Calls Tryz.prog 142 _ _ _ from H3.out X2.out.1).mono ?_
      rintro e w3 ⟨rfl, g3⟩
      have X3 : Hid (GB p w w3) := gb_trans X2.out.2 g3
      clear g3 H3
      go_wp2
      exact bad_panic rfl ⟨got_none HM2.out rfl, X3.out⟩
    | some y =>
      obtain ⟨⟨n, m⟩, k⟩ := y
      have HM2 : Hid (rMask G i = some ((n, m), k)) := by unfold Hid; rw [HM1.out, eb]
      have H3 : Hid (∀ {W}, RdI W p a cap G (i + 1) → Gives 142 p a cap G W (.agg #[.int .i64 n, .int .i64 m]) k) := fun {W} hW => gives_of (val := wideV) eb (rwide_any hW)
      clear HM1 eb
      go_enter Tryz.func140, Tryz.ntmps140
      go_wp2_with fail
      generalize w.alloc (.cells #[.int .i64 0, .int .i64 0] 76) = W0 at *
      refine (show Calls Tryz.prog 104 _ _ _ from H2.out X0.out.1).mono ?_
      rintro e w2 ⟨rfl, r2, g2⟩
      have X2 : Hid (RdI w2 p a cap G (i + 1) ∧ GB p w w2 ∧ Kn w2 w.heap.size [.int .i64 0, .int .i64 0] 76) := ⟨r2, gb_trans X0.out.2.1 g2, X0.out.2.2.gb (by have := H0.out.2; omega) g2⟩
      clear r2 g2 H2 X0
      go_wp2_with fail
      refine (show Calls Tryz.prog 142 _ _ _ from H3.out X2.out.1).mono ?_
      rintro e w3 ⟨⟨rfl, r3⟩, g3⟩
      have X3 : Hid (RdI w3 p a cap G k ∧ GB p w w3 ∧ Kn w3 w.heap.size [.int .i64 0, .int .i64 0] 76) := ⟨r3, gb_trans X2.out.2.1 g3, X2.out.2.2.gb (by have := H0.out.2; omega) g3⟩
      clear r3 g3 H3 X2
      have K2 := X3.out.2.2
      have f1 := K2.free
      obtain ⟨c0, c1⟩ := (⟨K2.cell 0 _ rfl, K2.cell 1 _ rfl⟩ : _ ∧ _)
      have XB : Hid (RdI ((w3.setCell ⟨w.heap.size, 0, none⟩ (.int .i64 n)).setCell ⟨w.heap.size, 1, none⟩ (.int .i64 m)) p a cap G k ∧ GB p w ((w3.setCell ⟨w.heap.size, 0, none⟩ (.int .i64 n)).setCell ⟨w.heap.size, 1, none⟩ (.int .i64 m)) ∧ Kn ((w3.setCell ⟨w.heap.size, 0, none⟩ (.int .i64 n)).setCell ⟨w.heap.size, 1, none⟩ (.int .i64 m)) w.heap.size [.int .i64 n, .int .i64 m] 76) :=
        ⟨H0.out.1.fresh (H0.out.1.fresh X3.out.1 (Nat.le_refl _)) (Nat.le_refl _), gb_fresh (gb_fresh X3.out.2.1 (Nat.le_refl _)) (Nat.le_refl _), (K2.set 0 _).set 1 _⟩
      clear X3 K2
      go_wp2
      generalize (w3.setCell ⟨w.heap.size, 0, none⟩ (.int .i64 n)).setCell ⟨w.heap.size, 1, none⟩ (.int .i64 m) = WB at *
      clear c0 c1 f1
      obtain ⟨c0, c1⟩ := (⟨XB.out.2.2.cell 0 _ rfl, XB.out.2.2.cell 1 _ rfl⟩ : _ ∧ _)
      refine bodyPost_ret (v := .agg #[.int .i64 n, .int .i64 m]) (by simp [results, Tryz.results140, go_sem, *]) rfl ?_
      exact ⟨got_some HM2.out rfl XB.out.1, XB.out.2.1⟩

set_option maxRecDepth 100000 in
theorem comparison_any {w : World} {p : Nat} {a : Option Addr} {cap : Nat} {G : List Sg} {i : Nat} (h : RdI w p a cap G i) (hp : p ≠ 0) (hC : Cms w) :
    Calls Tryz.prog 141 #[.pointer (some ⟨p, 0, none⟩)] w fun e w' => Got intV (rCmp G i) p a cap G e w' ∧ GB p w w' := by
  have HR : Hid (RdI w p a cap G i) := h
  have HC : Hid (∀ W, GB p w W → Cms W) := fun W hG => hC.gb hp hG
  clear h hC hp
  go_enter Tryz.func141, Tryz.ntmps141
  go_wp2_with fail
  go_loopw [3] (fun v wr => ∃ k : Nat, v = .int .i64 k ∧ 1 ≤ k ∧ k ≤ 7 ∧ Hid (RdI wr p a cap G i ∧ GB p w wr) ∧ Hid (∀ j, j + 1 < k → ¬ cmL.getD j [] = (sgA G i).2.1)) (fun v _ => 7 - (intOf v).toNat)
  case atStart => exact ⟨1, rfl, by omega, by omega, ⟨HR.out, gb_refl _ _⟩, fun j hj => by omega⟩
  case round =>
    obtain ⟨k, rfl, hk1, hk, hX, hn⟩ := hrel
    by_cases hlt : k < 7
    · have bk : (k : Int) ≤ 6 := by omega
      have k0 : (0 : Int) ≤ (k : Int) := by omega
      have k7 : (k : Int) < 7 := by omega
      have hcell := (HC.out wr hX.out.2).1 k hlt
      obtain ⟨c, rfl⟩ : ∃ c, k = c + 1 := ⟨k - 1, by omega⟩
      rw [show cmT (c + 1) = cmL.getD c [] from rfl] at hcell
      have HP : Hid (Calls Tryz.prog 104 #[.pointer (some ⟨p, 0, none⟩), .string (txt (cmL.getD c []))] wr fun e w' => e = .returned (.bool (isT G i (cmL.getD c []))) ∧ RdI w' p a cap G (if isT G i (cmL.getD c []) then i + 1 else i) ∧ GB p wr w') := passes_any _ (cmL_ne c (by omega)) hX.out.1
      have HI : Hid (isT G i (cmL.getD c []) = true ↔ cmL.getD c [] = (sgA G i).2.1) := isT_iff G i _
      obtain ⟨z, hz⟩ : ∃ z, z = isT G i (cmL.getD c []) := ⟨_, rfl⟩
      rw [← hz] at HP HI
      obtain ⟨T, hT⟩ : ∃ T, T = txt (cmL.getD c []) := ⟨_, rfl⟩
      rw [← hT] at HP hcell
      clear hz hT
      obtain ⟨k, hkk⟩ : ∃ k, k = c + 1 := ⟨_, rfl⟩
      have HK : Hid (k = c + 1) := hkk
      rw [← hkk] at bk k0 k7 hcell hlt hn hk ⊢
      clear hkk hk1
      cases z
      · go_wp2_with fail
        refine (show Calls Tryz.prog 104 _ _ _ from HP.out).mono ?_
        rintro e w2 ⟨rfl, r2, g2⟩
        have X2 : Hid (RdI w2 p a cap G i ∧ GB p w w2) := ⟨r2, gb_trans hX.out.2 g2⟩
        have HT : Hid (∀ j, j + 1 < k + 1 → ¬ cmL.getD j [] = (sgA G i).2.1) := fun j hj => by
          by_cases h : j + 1 < k
          · exact hn.out j h
          · have : j = c := by have := HK.out; omega
            subst this
            intro he
            have := HI.out.2 he
            simp at this
        clear r2 g2 hX hn HP HI HR hcell
        go_wp2
        go_roundw
        case rel => exact ⟨k + 1, by go_num, by omega, by omega, X2, HT⟩
        case measure => simp [intOf]; omega
      · go_wp2_with fail
        refine (show Calls Tryz.prog 104 _ _ _ from HP.out).mono ?_
        rintro e w2 ⟨rfl, r2, g2⟩
        have X2 : Hid (RdI w2 p a cap G (i + 1) ∧ GB p w w2) := ⟨r2, gb_trans hX.out.2 g2⟩
        have HM : Hid (rCmp G i = some ((k : Int), i + 1)) := by
          have hc := HK.out
          unfold Hid rCmp
          rw [findT_first (k := c) (by simp [cmL]; omega) (HI.out.1 (by first | rfl | trivial)) (fun j hj => hn.out j (by omega))]
          simp
          omega
        clear r2 g2 hX hn HP HI HR hcell
        go_wp2
        go_ret
        exact ⟨got_some HM.out rfl X2.out.1, X2.out.2⟩
    · obtain rfl : k = 7 := by omega
      have HM : Hid (rCmp G i = none) := by
        unfold Hid rCmp
        rw [findT_no (fun j hj => hn.out j (by have : j < 6 := by simpa [cmL] using hj
                                               omega))]
        rfl
      clear hn HR
      go_wp2
      exact bad_panic rfl ⟨got_none HM.out rfl, hX.out.2⟩

set_option maxRecDepth 100000 in
theorem callNum_any {w : World} {p : Nat} {a : Option Addr} {cap : Nat} {G : List Sg} {i : Nat} (h : RdI w p a cap G i) (hG : Good G) :
    Calls Tryz.prog 125 #[.pointer (some ⟨p, 0, none⟩)] w fun e w' => Got intV (rCall G i) p a cap G e w' ∧ GB p w w' := by
  have HS : Hid (Calls Tryz.prog 105 #[.pointer (some ⟨p, 0, none⟩)] w fun e w' => e = .returned (.bool (numAt G i)) ∧ Ext w w') := numberStands_any h
  have HR : Hid (∀ W, Ext w W → RdI W p a cap G i) := fun W hE => h.step hE
  have HM : Hid (rCall G i = if numAt G i then some ((sgA G i).2.2, i + 1) else if callN (sgA G i).2.1 < 0 then none else some (callN (sgA G i).2.1, i + 1)) := rfl
  cases en : numAt G i
  · rw [en] at HS HM
    have HN : Hid (∀ W, Ext w W → Calls Tryz.prog 106 #[.pointer (some ⟨p, 0, none⟩)] W fun e w' => e = .returned (.agg #[.int .i64 (sgA G i).1, .string (txt (sgA G i).2.1), .int .i64 (sgA G i).2.2]) ∧ Ext W w') := fun W hE => next_any (h.step hE)
    have hsz : (txt (sgA G i).2.1).size ≤ maxLen := by
      have h1 : (sgA G i).2.1.length ≤ 12 := by
        rcases sgA_cases hG i with ⟨hi, hg⟩ | ⟨hi, hz⟩
        · rcases hg with ⟨_, _, _, h4, _⟩ | ⟨_, h2, _⟩ | ⟨_, _, h3⟩
          · exact h4
          · rw [h2]; simp
          · have := isMarkL_short h3; omega
        · rw [hz]; simp [zeroG]
      show (sgA G i).2.1.toArray.size ≤ maxLen
      simp [maxLen]; omega
    have HC : Hid (∀ W, Calls Tryz.prog 137 #[.string (txt (sgA G i).2.1)] W fun e w' => e = .returned (.int .i64 (callN (sgA G i).2.1)) ∧ Ext W w') := fun W => by
      have := iNumber_any (txt (sgA G i).2.1) W hsz
      simpa [txt] using this
    have HM2 : Hid (rCall G i = if callN (sgA G i).2.1 < 0 then none else some (callN (sgA G i).2.1, i + 1)) := HM.out
    have hfld := fld1 (.int .i64 (sgA G i).1) (.string (txt (sgA G i).2.1)) (.int .i64 (sgA G i).2.2)
    have HLT : Hid (¬ callN (sgA G i).2.1 < 0 → i + 1 ≤ G.length) := fun hc => by
      have := (hd_kind hG (nameL_hd _ (callN_mem hc))).1
      omega
    clear HM en h hsz
    generalize (sgA G i).1 = sk at *
    generalize callN (sgA G i).2.1 = c at *
    generalize txt (sgA G i).2.1 = st at *
    generalize (sgA G i).2.2 = sn at *
    by_cases hc : c < 0
    · have HM3 : Hid (rCall G i = none) := by unfold Hid; rw [HM2.out, if_pos hc]
      clear HM2
      go_enter Tryz.func125, Tryz.ntmps125
      go_wp2_with fail
      refine HS.out.mono ?_
      rintro e w1 ⟨rfl, x1⟩
      have X1 : Hid (Ext w w1) := x1
      clear x1 HS
      go_wp2_with fail
      refine (HN.out _ X1.out).mono ?_
      rintro e w2 ⟨rfl, x2⟩
      have X2 : Hid (Ext w w2) := X1.out.trans x2
      clear x2 HN
      go_wp2_with fail
      refine (HC.out _).mono ?_
      rintro e w3 ⟨rfl, x3⟩
      have X3 : Hid (Ext w w3) := X2.out.trans x3
      clear x3 HC
      go_wp2
      exact bad_panic rfl ⟨got_none HM3.out rfl, gb_ext X3.out⟩
    · have HM3 : Hid (rCall G i = some (c, i + 1)) := by unfold Hid; rw [HM2.out, if_neg hc]
      have hle := HLT.out hc
      have HLE : Hid (i + 1 ≤ G.length) := hle
      clear HM2 hle
      go_enter Tryz.func125, Tryz.ntmps125
      go_wp2_with fail
      refine HS.out.mono ?_
      rintro e w1 ⟨rfl, x1⟩
      have X1 : Hid (Ext w w1) := x1
      clear x1 HS
      go_wp2_with fail
      refine (HN.out _ X1.out).mono ?_
      rintro e w2 ⟨rfl, x2⟩
      have X2 : Hid (Ext w w2) := X1.out.trans x2
      clear x2 HN
      go_wp2_with fail
      refine (HC.out _).mono ?_
      rintro e w3 ⟨rfl, x3⟩
      have X3 : Hid (Ext w w3) := X2.out.trans x3
      have R3 : Hid (RdI w3 p a cap G i) := HR.out _ X3.out
      have c1 := R3.out.1.cell 1 _ rfl
      have f1 := R3.out.1.free
      have hb : i ≤ 1200 := by have := R3.out.2.1; have := R3.out.2.2.1; omega
      clear x3 HC
      go_wp2
      go_ret
      exact ⟨got_some HM3.out rfl (R3.out.set HLE.out), gb_trans (gb_ext X3.out) (gb_set _ _ _ _)⟩
  · rw [en] at HS HM
    have hnum : rNum G i = some ((sgA G i).2.2, i + 1) := by unfold rNum; rw [en]; rfl
    have HM2 : Hid (rCall G i = some ((sgA G i).2.2, i + 1)) := HM.out
    have H3 : Hid (∀ {W}, RdI W p a cap G i → Gives 63 p a cap G W (.int .i64 (sgA G i).2.2) (i + 1)) := fun {W} hW => gives_of (val := intV) hnum (rnumber_got hW)
    clear HM en h hnum
    generalize (sgA G i).2.2 = sn at *
    go_enter Tryz.func125, Tryz.ntmps125
    go_wp2_with fail
    refine HS.out.mono ?_
    rintro e w1 ⟨rfl, x1⟩
    have X1 : Hid (Ext w w1) := x1
    clear x1 HS
    go_wp2_with fail
    refine (show Calls Tryz.prog 63 _ _ _ from H3.out (HR.out _ X1.out)).mono ?_
    rintro e w3 ⟨⟨rfl, r3⟩, g3⟩
    have X3 : Hid (RdI w3 p a cap G (i + 1) ∧ GB p w w3) := ⟨r3, gb_trans (gb_ext X1.out) g3⟩
    clear r3 g3 H3
    go_wp2
    go_ret
    exact ⟨got_some HM2.out rfl X3.out.1, X3.out.2⟩

/-- Spec's reader at block p: the signs, the place; nothing: it is bad. -/
def RdS (W : World) (p : Nat) (a : Option Addr) (cap : Nat) (G : List Sg) (s : Option Nat) : Prop :=
  ∃ (i : Nat) (b : Bool), Kn W p [.slice a G.length cap, .int .i64 (i : Int), .bool b] 66 ∧ s = (if b then none else some i) ∧ i ≤ G.length ∧ G.length ≤ 1200 ∧ Signs W a G ∧ ∀ b o s, a = some ⟨b, o, s⟩ → b ≠ p

theorem RdS.lt {w : World} {p : Nat} {a : Option Addr} {cap : Nat} {G : List Sg} {s : Option Nat} (h : RdS w p a cap G s) : p < w.heap.size := by
  obtain ⟨i, b, h, _⟩ := h; exact h.lt

theorem RdS.step {w w' : World} {p : Nat} {a : Option Addr} {cap : Nat} {G : List Sg} {s : Option Nat} (h : RdS w p a cap G s) (hE : Ext w w') : RdS w' p a cap G s := by
  obtain ⟨i, b, h1, h2, h3, h4, h5, h6⟩ := h
  exact ⟨i, b, h1.ext hE, h2, h3, h4, h5.ext hE, h6⟩

theorem RdS.bad {w : World} {p : Nat} {a : Option Addr} {cap : Nat} {G : List Sg} {s : Option Nat} (h : RdS w p a cap G s) : RdS (w.setCell ⟨p, 2, none⟩ (.bool true)) p a cap G none := by
  obtain ⟨i, b, h1, h2, h3, h4, h5, h6⟩ := h
  exact ⟨i, true, h1.set 2 _, rfl, h3, h4, h5.gb h6 (gb_set _ _ _ _), h6⟩

theorem RdS.at {w : World} {p : Nat} {a : Option Addr} {cap : Nat} {G : List Sg} {i : Nat} (h : RdS w p a cap G (some i)) : Kn w p [.slice a G.length cap, .int .i64 (i : Int), .bool false] 66 ∧ i ≤ G.length ∧ G.length ≤ 1200 ∧ Signs w a G := by
  obtain ⟨j, b, h1, h2, h3, h4, h5, h6⟩ := h
  cases b
  · simp at h2; subst h2; exact ⟨h1, h3, h4, h5⟩
  · simp at h2

theorem RdS.lost {w : World} {p : Nat} {a : Option Addr} {cap : Nat} {G : List Sg} (h : RdS w p a cap G none) : ∃ i : Nat, Kn w p [.slice a G.length cap, .int .i64 (i : Int), .bool true] 66 ∧ i ≤ G.length := by
  obtain ⟨j, b, h1, h2, h3, h4, h5, h6⟩ := h
  cases b
  · simp at h2
  · exact ⟨j, h1, h3⟩

theorem RdS.next {w : World} {p : Nat} {a : Option Addr} {cap : Nat} {G : List Sg} {i : Nat} (h : RdS w p a cap G (some i)) {j : Nat} (hj : j ≤ G.length) : RdS (w.setCell ⟨p, 1, none⟩ (.int .i64 (j : Int))) p a cap G (some j) := by
  obtain ⟨i, b, h1, h2, h3, h4, h5, h6⟩ := h
  cases b
  · exact ⟨j, false, h1.set 1 _, rfl, hj, h4, h5.gb h6 (gb_set _ _ _ _), h6⟩
  · simp at h2

/-- Another block is written, which was not there then. -/
theorem RdS.row {w0 w w' : World} {p : Nat} {a : Option Addr} {cap : Nat} {G : List Sg} {s0 s : Option Nat} {row : Option Nat} (h0 : RdS w0 p a cap G s0) (h : RdS w p a cap G s) (hg : w.grownBy w' row) (hr : ∀ x, row = some x → w0.heap.size ≤ x) : RdS w' p a cap G s := by
  have hp := h0.lt
  have hq := h.lt
  obtain ⟨i0, b0, k1, k2, k3, k4, k5, k6⟩ := h0
  obtain ⟨i, b, h1, h2, h3, h4, h5, h6⟩ := h
  refine ⟨i, b, (hg.block p hq (fun e => by have := hr p e.symm; omega)).trans h1, h2, h3, h4, fun hl => ?_, h6⟩
  obtain ⟨b, off, e, hc⟩ := h5 hl
  obtain ⟨b0, off0, e0, hc0⟩ := k5 hl
  have hb : b = b0 := by rw [e] at e0; injection e0 with e0; injection e0
  have hlt := (hc0 0 hl).lt
  refine ⟨b, off, e, fun j hj => ?_⟩
  obtain ⟨c1, c2, c3⟩ := hc j hj
  have far : Option.some b ≠ row := fun e => by have := hr b e.symm; omega
  exact ⟨hg.cell c1 far, hg.cell c2 far, hg.cell c3 far⟩

theorem RdS.fresh {w0 w : World} {p r k : Nat} {a : Option Addr} {cap : Nat} {G : List Sg} {s0 s : Option Nat} {v : Value} (h0 : RdS w0 p a cap G s0) (h : RdS w p a cap G s) (hr : w0.heap.size ≤ r) : RdS (w.setCell ⟨r, k, none⟩ v) p a cap G s :=
  h0.row h (gb_set r k w v) (fun x hx => by injection hx with hx; omega)

/-- The sign that a place has, in memory. -/
theorem RdS.sign {w : World} {p : Nat} {a : Option Addr} {cap : Nat} {G : List Sg} {i : Nat} (h : RdS w p a cap G (some i)) (hi : i < G.length) : ∃ b off, a = some ⟨b, off, none⟩ ∧ Tri w b (off + i * 3) (sgA G i).1 (txt (sgA G i).2.1) (sgA G i).2.2 := h.at.2.2.2.tri hi

set_option maxRecDepth 100000 in
set_option maxHeartbeats 1000000 in
theorem isR_any {w : World} {p : Nat} {a : Option Addr} {cap : Nat} {G : List Sg} {s : Option Nat} (k : Int) (t : List UInt8) (h : RdS w p a cap G s) :
    Calls Tryz.prog 112 #[.pointer (some ⟨p, 0, none⟩), .int .i64 k, .string (txt t)] w fun e w' => e = .returned (.bool (sIs G s k t)) ∧ Ext w w' := by
  cases s with
  | none =>
    obtain ⟨i, hK, _⟩ := h.lost
    rw [show sIs G none k t = false from rfl]
    have c0 := hK.cell 0 _ rfl
    have c1 := hK.cell 1 _ rfl
    have c2 := hK.cell 2 _ rfl
    clear hK h
    generalize G.length = n at *
    generalize txt t = T at *
    go_enter Tryz.func112, Tryz.ntmps112
    go_wp2
    go_quiet (fail)
    go_wp2
    go_ret
    exact ⟨rfl, ⟨rfl, rfl, rfl, Nat.le_refl _, fun _ _ => rfl⟩⟩
  | some i =>
    obtain ⟨hK, hi, hl, _⟩ := h.at
    have c0 := hK.cell 0 _ rfl
    have c1 := hK.cell 1 _ rfl
    have c2 := hK.cell 2 _ rfl
    by_cases hlt : i < G.length
    · obtain ⟨b, off, rfl, q0, q1, q2⟩ := h.sign hlt
      have hz : sIs G (some i) k t = (((sgA G i).1 == k) && ((sgA G i).2.1 == t)) := by unfold sIs; simp [hlt]
      have heq : ((txt (sgA G i).2.1).toList == (txt t).toList) = ((sgA G i).2.1 == t) := by
        rw [Bool.eq_iff_iff]
        simp only [beq_iff_eq]
        exact ⟨fun e => txt_inj (ByteArray.ext (Array.toList_inj.1 (by simpa [ByteArray.toList_eq] using e))), fun e => by rw [e]⟩
      rw [hz]
      have bi : (i : Int) < (G.length : Int) := by omega
      clear hz hK h hi hl hlt
      generalize ((sgA G i).2.1 == t) = z2 at *
      generalize G.length = n at *
      generalize (sgA G i).1 = sk at *
      generalize txt (sgA G i).2.1 = st at *
      generalize (sgA G i).2.2 = sn at *
      generalize txt t = T at *
      obtain ⟨z1, hz1⟩ : ∃ z, z = (sk == k) := ⟨_, rfl⟩
      rw [← hz1]
      have hkk : (sk == k) = z1 := hz1.symm
      clear hz1
      cases z1
      · go_enter Tryz.func112, Tryz.ntmps112
        go_wp2
        go_quiet (fail)
        go_wp2
        go_ret
        exact ⟨rfl, ⟨rfl, rfl, rfl, Nat.le_refl _, fun _ _ => rfl⟩⟩
      · go_enter Tryz.func112, Tryz.ntmps112
        go_wp2
        go_quiet (fail)
        go_wp2
        go_ret
        exact ⟨rfl, ⟨rfl, rfl, rfl, Nat.le_refl _, fun _ _ => rfl⟩⟩
    · have hz : sIs G (some i) k t = false := by unfold sIs; simp [hlt]
      rw [hz]
      have bi : ¬ ((i : Int) < (G.length : Int)) := by omega
      have bd : decide (i < G.length) = false := decide_eq_false hlt
      clear hz hK h hi hl hlt
      generalize G.length = n at *
      generalize txt t = T at *
      go_enter Tryz.func112, Tryz.ntmps112
      go_wp2
      go_quiet (fail)
      go_wp2
      go_ret
      exact ⟨rfl, ⟨rfl, rfl, rfl, Nat.le_refl _, fun _ _ => rfl⟩⟩

set_option maxRecDepth 100000 in
set_option maxHeartbeats 1000000 in
theorem hasNum_any {w : World} {p : Nat} {a : Option Addr} {cap : Nat} {G : List Sg} {s : Option Nat} (h : RdS w p a cap G s) :
    Calls Tryz.prog 74 #[.pointer (some ⟨p, 0, none⟩)] w fun e w' => e = .returned (.bool (sHas G s)) ∧ Ext w w' := by
  cases s with
  | none =>
    obtain ⟨i, hK, _⟩ := h.lost
    rw [show sHas G none = false from rfl]
    have c0 := hK.cell 0 _ rfl
    have c1 := hK.cell 1 _ rfl
    have c2 := hK.cell 2 _ rfl
    clear hK h
    generalize G.length = n at *
    go_enter Tryz.func74, Tryz.ntmps74
    go_wp2
    go_quiet (fail)
    go_wp2
    go_ret
    exact ⟨rfl, ⟨rfl, rfl, rfl, Nat.le_refl _, fun _ _ => rfl⟩⟩
  | some i =>
    obtain ⟨hK, hi, hl, _⟩ := h.at
    have c0 := hK.cell 0 _ rfl
    have c1 := hK.cell 1 _ rfl
    have c2 := hK.cell 2 _ rfl
    by_cases hlt : i < G.length
    · obtain ⟨b, off, rfl, q0, q1, q2⟩ := h.sign hlt
      have hz : sHas G (some i) = ((sgA G i).1 == 2) := by unfold sHas; simp [hlt]
      rw [hz]
      have bi : (i : Int) < (G.length : Int) := by omega
      clear hz hK h hi hl hlt
      generalize G.length = n at *
      generalize (sgA G i).1 = sk at *
      generalize txt (sgA G i).2.1 = st at *
      generalize (sgA G i).2.2 = sn at *
      go_enter Tryz.func74, Tryz.ntmps74
      go_wp2
      go_quiet (fail)
      go_wp2
      go_ret
      exact ⟨rfl, ⟨rfl, rfl, rfl, Nat.le_refl _, fun _ _ => rfl⟩⟩
    · have hz : sHas G (some i) = false := by unfold sHas; simp [hlt]
      rw [hz]
      have bi : ¬ ((i : Int) < (G.length : Int)) := by omega
      have bd : decide (i < G.length) = false := decide_eq_false hlt
      clear hz hK h hi hl hlt
      generalize G.length = n at *
      go_enter Tryz.func74, Tryz.ntmps74
      go_wp2
      go_quiet (fail)
      go_wp2
      go_ret
      exact ⟨rfl, ⟨rfl, rfl, rfl, Nat.le_refl _, fun _ _ => rfl⟩⟩

theorem sIs_lt {G : List Sg} {s : Option Nat} {k : Int} {t : List UInt8} (h : sIs G s k t = true) : ∃ i, s = some i ∧ i < G.length := by
  cases s with
  | none => simp [sIs] at h
  | some i => simp [sIs] at h; exact ⟨i, rfl, h.1.1⟩

set_option maxRecDepth 100000 in
theorem takes_any {w : World} {p : Nat} {a : Option Addr} {cap : Nat} {G : List Sg} {s : Option Nat} (k : Int) (t : List UInt8) (h : RdS w p a cap G s) :
    Calls Tryz.prog 73 #[.pointer (some ⟨p, 0, none⟩), .int .i64 k, .string (txt t)] w fun e w' => e = .returned (.bool (sIs G s k t)) ∧ RdS w' p a cap G (sTk G s k t) ∧ GB p w w' := by
  have H0 : Hid (Calls Tryz.prog 112 #[.pointer (some ⟨p, 0, none⟩), .int .i64 k, .string (txt t)] w fun e w' => e = .returned (.bool (sIs G s k t)) ∧ Ext w w') := isR_any k t h
  have HR : Hid (RdS w p a cap G s) := h
  have HT : Hid (sTk G s k t = if sIs G s k t then nx s else s) := rfl
  have HL : Hid (sIs G s k t = true → ∃ i, s = some i ∧ i < G.length) := sIs_lt
  clear h
  generalize sTk G s k t = s' at *
  generalize sIs G s k t = z at *
  generalize txt t = T at *
  cases z
  · go_enter Tryz.func73, Tryz.ntmps73
    go_wp2_with fail
    refine (show Calls Tryz.prog 112 _ _ _ from H0.out).mono ?_
    rintro e w1 ⟨rfl, x1⟩
    have X1 : Hid (Ext w w1) := x1
    clear x1 H0
    go_wp2
    go_ret
    exact ⟨rfl, by rw [HT.out]; exact HR.out.step X1.out, gb_ext X1.out⟩
  · obtain ⟨i, rfl, hlt⟩ := HL.out rfl
    have HT2 : Hid (s' = some (i + 1) ∧ i + 1 ≤ G.length) := ⟨HT.out, hlt⟩
    clear HT HL
    go_enter Tryz.func73, Tryz.ntmps73
    go_wp2_with fail
    refine (show Calls Tryz.prog 112 _ _ _ from H0.out).mono ?_
    rintro e w1 ⟨rfl, x1⟩
    have X1 : Hid (Ext w w1) := x1
    have R1 : Hid (RdS w1 p a cap G (some i)) := HR.out.step x1
    have c1 := R1.out.at.1.cell 1 _ rfl
    have f1 := R1.out.at.1.free
    have hb : i ≤ 1200 := by have := R1.out.at.2; omega
    clear x1 H0 hlt
    go_wp2
    go_ret
    exact ⟨rfl, by rw [HT2.out.1]; exact R1.out.next HT2.out.2, gb_trans (gb_ext X1.out) (gb_set _ _ _ _)⟩

set_option maxRecDepth 100000 in
theorem wants_any {w : World} {p : Nat} {a : Option Addr} {cap : Nat} {G : List Sg} {s : Option Nat} (k : Int) (t : List UInt8) (h : RdS w p a cap G s) :
    Calls Tryz.prog 32 #[.pointer (some ⟨p, 0, none⟩), .int .i64 k, .string (txt t)] w fun e w' => e = .returned (.tuple #[]) ∧ RdS w' p a cap G (sWt G s k t) ∧ GB p w w' := by
  have H0 : Hid (Calls Tryz.prog 73 #[.pointer (some ⟨p, 0, none⟩), .int .i64 k, .string (txt t)] w fun e w' => e = .returned (.bool (sIs G s k t)) ∧ RdS w' p a cap G (sTk G s k t) ∧ GB p w w') := takes_any k t h
  have HT : Hid (sWt G s k t = if sIs G s k t then sTk G s k t else none) := by unfold Hid sWt sTk; cases sIs G s k t <;> rfl
  clear h
  generalize sTk G s k t = s1 at *
  generalize sWt G s k t = s' at *
  generalize sIs G s k t = z at *
  generalize txt t = T at *
  cases z
  · go_enter Tryz.func32, Tryz.ntmps32
    go_wp2_with fail
    refine (show Calls Tryz.prog 73 _ _ _ from H0.out).mono ?_
    rintro e w1 ⟨rfl, r1, g1⟩
    have X1 : Hid (RdS w1 p a cap G s1 ∧ GB p w w1) := ⟨r1, g1⟩
    obtain ⟨i, b, hK, _⟩ := r1
    have c2 := hK.cell 2 _ rfl
    have f1 := hK.free
    clear g1 H0 hK
    go_wp2
    go_end0
    exact ⟨rfl, by rw [HT.out]; exact X1.out.1.bad, gb_trans X1.out.2 (gb_set _ _ _ _)⟩
  · go_enter Tryz.func32, Tryz.ntmps32
    go_wp2_with fail
    refine (show Calls Tryz.prog 73 _ _ _ from H0.out).mono ?_
    rintro e w1 ⟨rfl, r1, g1⟩
    have X1 : Hid (RdS w1 p a cap G s1 ∧ GB p w w1) := ⟨r1, g1⟩
    clear r1 g1 H0
    go_wp2
    go_end0
    exact ⟨rfl, by rw [HT.out]; exact X1.out.1, X1.out.2⟩

theorem sHas_lt {G : List Sg} {s : Option Nat} (h : sHas G s = true) : ∃ i, s = some i ∧ i < G.length := by
  cases s with
  | none => simp [sHas] at h
  | some i => simp [sHas] at h; exact ⟨i, rfl, h.1⟩

theorem sNum_if (G : List Sg) (s : Option Nat) : sNum G s = if sHas G s then ((sgA G (s.getD 0)).2.2, nx s) else (0, none) := by
  cases s with
  | none => rfl
  | some i => rfl

set_option maxRecDepth 100000 in
theorem xNum_any {w : World} {p : Nat} {a : Option Addr} {cap : Nat} {G : List Sg} {s : Option Nat} (h : RdS w p a cap G s) :
    Calls Tryz.prog 33 #[.pointer (some ⟨p, 0, none⟩)] w fun e w' => e = .returned (.int .i64 (sNum G s).1) ∧ RdS w' p a cap G (sNum G s).2 ∧ GB p w w' := by
  have H0 : Hid (Calls Tryz.prog 74 #[.pointer (some ⟨p, 0, none⟩)] w fun e w' => e = .returned (.bool (sHas G s)) ∧ Ext w w') := hasNum_any h
  have HR : Hid (RdS w p a cap G s) := h
  have HL : Hid (sHas G s = true → ∃ i, s = some i ∧ i < G.length) := sHas_lt
  have HT : Hid (sNum G s = if sHas G s then ((sgA G (s.getD 0)).2.2, nx s) else (0, none)) := sNum_if G s
  clear h
  generalize sNum G s = o at *
  generalize sHas G s = z at *
  cases z
  · have HO : o = (0, none) := HT.out
    subst HO
    simp only
    clear HT HL
    go_enter Tryz.func33, Tryz.ntmps33
    go_wp2_with fail
    refine H0.out.mono ?_
    rintro e w1 ⟨rfl, x1⟩
    have X1 : Hid (RdS w1 p a cap G s ∧ Ext w w1) := ⟨HR.out.step x1, x1⟩
    obtain ⟨i, b, hK, _⟩ := X1.out.1
    have c2 := hK.cell 2 _ rfl
    have f1 := hK.free
    clear x1 H0 hK
    go_wp2
    go_ret
    exact ⟨rfl, X1.out.1.bad, gb_trans (gb_ext X1.out.2) (gb_set _ _ _ _)⟩
  · obtain ⟨i, rfl, hlt⟩ := HL.out rfl
    have HO : o = ((sgA G i).2.2, some (i + 1)) := HT.out
    subst HO
    simp only
    clear HT HL
    go_enter Tryz.func33, Tryz.ntmps33
    go_wp2_with fail
    refine H0.out.mono ?_
    rintro e w1 ⟨rfl, x1⟩
    have R1 : Hid (RdS w1 p a cap G (some i) ∧ Ext w w1) := ⟨HR.out.step x1, x1⟩
    have K1 := R1.out.1.at.1
    have c1 := K1.cell 1 _ rfl
    have f1 := K1.free
    have R2 : Hid (RdS (w1.setCell ⟨p, 1, none⟩ (.int .i64 ((i : Int) + 1))) p a cap G (some (i + 1))) := by rw [← Int.natCast_one, ← Int.natCast_add]; exact R1.out.1.next hlt
    obtain ⟨b, off, rfl, S2⟩ := R2.out.at.2.2.2.tri hlt
    have hb : i ≤ 1200 := by have := R1.out.1.at.2; omega
    have bi : (i : Int) < (G.length : Int) := by omega
    have HW : Hid (GB p w (w1.setCell ⟨p, 1, none⟩ (.int .i64 ((i : Int) + 1)))) := gb_trans (gb_ext R1.out.2) (gb_set _ _ _ _)
    clear x1 H0 K1 hlt
    go_wp2_with fail
    generalize w1.setCell ⟨p, 1, none⟩ (.int .i64 ((i : Int) + 1)) = W2 at *
    clear c1 f1
    have c0 := R2.out.at.1.cell 0 _ rfl
    have c1 := R2.out.at.1.cell 1 _ rfl
    rw [Int.natCast_add, Int.natCast_one] at c1
    have q2 : W2.cell? ⟨b, off + i * 3 + 2, none⟩ = some (.int .i64 (sgA G i).2.2) := S2.2.2
    clear S2
    have HN : Hid (∀ n, Ext W2 (W2.drewN n)) := fun n => ⟨rfl, rfl, rfl, Nat.le_refl _, fun _ _ => rfl⟩
    obtain ⟨sn, hsn⟩ : ∃ sn, sn = (sgA G i).2.2 := ⟨_, rfl⟩
    rw [← hsn] at q2
    have HS : Hid (sn = (sgA G i).2.2) := hsn
    obtain ⟨n, hn⟩ : ∃ n, n = G.length := ⟨_, rfl⟩
    rw [← hn] at c0 bi
    clear hn hsn R1
    go_quiet (fail)
    go_wp2
    go_ret
    exact ⟨ret_int HS.out, R2.out.step (HN.out _), gb_trans HW.out (gb_ext (HN.out _))⟩

set_option maxRecDepth 100000 in
set_option maxHeartbeats 1000000 in
theorem xName_any {w : World} {p : Nat} {a : Option Addr} {cap : Nat} {G : List Sg} {s : Option Nat} (h : RdS w p a cap G s) :
    Calls Tryz.prog 75 #[.pointer (some ⟨p, 0, none⟩)] w fun e w' => e = .returned (.string (txt (sName G s).1)) ∧ RdS w' p a cap G (sName G s).2 ∧ GB p w w' := by
  have HN : Hid (∀ (W : World) n, Ext W (W.drewN n)) := fun W n => ⟨rfl, rfl, rfl, Nat.le_refl _, fun _ _ => rfl⟩
  have HR : Hid (RdS w p a cap G s) := h
  have lost : Hid (∀ n, RdS ((w.drewN n).setCell ⟨p, 2, none⟩ (.bool true)) p a cap G none ∧ GB p w ((w.drewN n).setCell ⟨p, 2, none⟩ (.bool true))) := fun n => ⟨(h.step (HN.out w n)).bad, gb_trans (gb_ext (HN.out w n)) (gb_set _ _ _ _)⟩
  cases s with
  | none =>
    obtain ⟨i, hK, _⟩ := h.lost
    rw [show sName G none = ([], none) from rfl]
    rw [show txt [] = ⟨#[]⟩ from rfl]
    have c0 := hK.cell 0 _ rfl
    have c1 := hK.cell 1 _ rfl
    have c2 := hK.cell 2 _ rfl
    have f1 := hK.free
    clear hK h
    obtain ⟨n, hn⟩ : ∃ n, n = G.length := ⟨_, rfl⟩
    rw [← hn] at c0
    clear hn
    go_enter Tryz.func75, Tryz.ntmps75
    go_wp2
    go_quiet (fail)
    go_wp2
    go_ret
    exact ⟨rfl, lost.out _⟩
  | some i =>
    obtain ⟨hK, hi, hl, _⟩ := h.at
    have c0 := hK.cell 0 _ rfl
    have c1 := hK.cell 1 _ rfl
    have c2 := hK.cell 2 _ rfl
    have f1 := hK.free
    by_cases hlt : i < G.length
    · obtain ⟨b, off, rfl, q0, q1, q2⟩ := h.sign hlt
      have hz : sName G (some i) = if ((sgA G i).1 == 1) then ((sgA G i).2.1, some (i + 1)) else ([], none) := by unfold sName; simp [hlt]
      have bi : (i : Int) < (G.length : Int) := by omega
      have bd : decide (G.length ≤ i) = false := decide_eq_false (by omega)
      obtain ⟨sk, hsk⟩ : ∃ sk, sk = (sgA G i).1 := ⟨_, rfl⟩
      rw [← hsk] at hz q0
      obtain ⟨n, hn⟩ : ∃ n, n = G.length := ⟨_, rfl⟩
      rw [← hn] at c0 bi bd
      obtain ⟨st, hst⟩ : ∃ st, st = txt (sgA G i).2.1 := ⟨_, rfl⟩
      rw [← hst] at q1
      have HST : Hid (st = txt (sgA G i).2.1) := hst
      have HNN : Hid (n = G.length ∧ i < G.length) := ⟨hn, hlt⟩
      clear q2 hsk hn hst hK h
      by_cases hk : sk = 1
      · have hz2 : sName G (some i) = ((sgA G i).2.1, some (i + 1)) := by rw [hz]; simp [hk]
        rw [hz2]
        simp only
        rw [← HST.out]
        clear hz hz2 hlt
        subst hk
        have R2 : Hid (∀ m, RdS ((w.drewN m).setCell ⟨p, 1, none⟩ (.int .i64 ((i : Int) + 1))) p (some ⟨b, off, none⟩) cap G (some (i + 1)) ∧ GB p w ((w.drewN m).setCell ⟨p, 1, none⟩ (.int .i64 ((i : Int) + 1)))) := fun m => ⟨by rw [← Int.natCast_one, ← Int.natCast_add]; exact (HR.out.step (HN.out w m)).next HNN.out.2, gb_trans (gb_ext (HN.out w m)) (gb_set _ _ _ _)⟩
        have hb : i ≤ 1200 := by omega
        go_enter Tryz.func75, Tryz.ntmps75
        go_wp2
        go_quiet (fail)
        have R3 := R2.out nq
        have c0' : (w.drewN nq).cell? ⟨p, 0, none⟩ = _ := c0
        have c1' : (w.drewN nq).cell? ⟨p, 1, none⟩ = _ := c1
        have c2' : (w.drewN nq).cell? ⟨p, 2, none⟩ = _ := c2
        have f1' : ∀ i, (w.drewN nq).frozen? ⟨p, i, none⟩ = false := f1
        clear c0 c1 c2 q0 q1 f1 lost R2
        generalize w.drewN nq = W1 at *
        have RR : Hid _ := R3
        clear R3
        go_wp2_with fail
        generalize W1.setCell ⟨p, 1, none⟩ (.int .i64 ((i : Int) + 1)) = W2 at *
        clear c0' c1' c2' f1'
        have c0 := RR.out.1.at.1.cell 0 _ rfl
        have c1 := RR.out.1.at.1.cell 1 _ rfl
        rw [Int.natCast_add, Int.natCast_one] at c1
        rw [← HNN.out.1] at c0
        obtain ⟨b', off', hba, S2⟩ := RR.out.1.at.2.2.2.tri HNN.out.2
        injection hba with hba
        injection hba with hb1 hb2
        subst hb1 hb2
        have q1 : W2.cell? ⟨b, off + i * 3 + 1, none⟩ = some (.string st) := by rw [HST.out]; exact S2.2.1
        clear S2
        go_quiet (fail)
        go_wp2
        go_ret
        exact ⟨rfl, RR.out.1.step (HN.out _ _), gb_trans RR.out.2 (gb_ext (HN.out _ _))⟩
      · have hz2 : sName G (some i) = ([], none) := by rw [hz]; simp [hk]
        have bk : (sk == 1) = false := by simpa using hk
        rw [hz2]
        simp only
        rw [show txt [] = ⟨#[]⟩ from rfl]
        clear hz hz2 hlt
        go_enter Tryz.func75, Tryz.ntmps75
        go_wp2
        go_quiet (fail)
        go_wp2
        go_ret
        exact ⟨rfl, lost.out _⟩
    · have hz : sName G (some i) = ([], none) := by unfold sName; simp [hlt]
      have bi : ¬ ((i : Int) < (G.length : Int)) := by omega
      have bd : decide (i < G.length) = false := decide_eq_false hlt
      have bg : decide (G.length ≤ i) = true := decide_eq_true (by omega)
      rw [hz]
      simp only
      rw [show txt [] = ⟨#[]⟩ from rfl]
      clear hz hK h
      obtain ⟨n, hn⟩ : ∃ n, n = G.length := ⟨_, rfl⟩
      rw [← hn] at c0 bd bg bi hlt
      clear hn hi hl
      go_enter Tryz.func75, Tryz.ntmps75
      go_wp2
      go_quiet (fail)
      go_wp2
      go_ret
      exact ⟨rfl, lost.out _⟩

/-- The last of the first k names that is this one. -/
def actN (t : List UInt8) : Nat → Int
  | 0 => -1
  | k + 1 => if actL.getD k [] == t then (k : Int) else actN t k

theorem actN_find (t : List UInt8) : actN t 6 = (match findT actL t with
    | none => -1
    | some k => (k : Int)) := by
  by_cases h0 : actL.getD 0 [] = t
  · subst h0; rfl
  by_cases h1 : actL.getD 1 [] = t
  · subst h1; rfl
  by_cases h2 : actL.getD 2 [] = t
  · subst h2; rfl
  by_cases h3 : actL.getD 3 [] = t
  · subst h3; rfl
  by_cases h4 : actL.getD 4 [] = t
  · subst h4; rfl
  by_cases h5 : actL.getD 5 [] = t
  · subst h5; rfl
  rw [findT_no (fun j hj => by
    have : j = 0 ∨ j = 1 ∨ j = 2 ∨ j = 3 ∨ j = 4 ∨ j = 5 := by simp [actL] at hj; omega
    rcases this with rfl | rfl | rfl | rfl | rfl | rfl <;> assumption)]
  simp only [actN]
  simp only [beq_iff_eq, h0, h1, h2, h3, h4, h5, if_false]

/-- The comparison and the reader behind the first k marks. -/
def cmS (G : List Sg) (s : Option Nat) : Nat → Int × Option Nat
  | 0 => (0, s)
  | k + 1 => if (cmS G s k).1 = 0 then (if sIs G (cmS G s k).2 3 (cmL.getD k []) then ((k : Int) + 1, nx (cmS G s k).2) else cmS G s k) else cmS G s k

theorem cmS_none (G : List Sg) : ∀ k, cmS G none k = (0, none)
  | 0 => rfl
  | k + 1 => by rw [cmS, cmS_none G k]; rfl

theorem cmS_stay (G : List Sg) (s : Option Nat) {k : Nat} (h : ∀ j, j < k → sIs G s 3 (cmL.getD j []) = false) : cmS G s k = (0, s) := by
  induction k with
  | zero => rfl
  | succ k ih =>
    rw [cmS, ih (fun j hj => h j (by omega))]
    rw [if_pos rfl]
    simp only [h k (by omega), Bool.false_eq_true, if_false]

theorem cmS_took (G : List Sg) (s : Option Nat) {k c : Nat} (hc : c < k) (h : ∀ j, j < c → sIs G s 3 (cmL.getD j []) = false) (ht : sIs G s 3 (cmL.getD c []) = true) : cmS G s k = ((c : Int) + 1, nx s) := by
  induction k with
  | zero => omega
  | succ k ih =>
    by_cases e : c = k
    · subst e
      rw [cmS, cmS_stay G s h]
      simp only [ht, if_true]
    · rw [cmS, ih (by omega)]
      rw [if_neg (by simp only; omega)]

theorem cmS_find (G : List Sg) (s : Option Nat) : cmS G s 6 = sCmp G s := by
  cases s with
  | none => exact cmS_none G 6
  | some i =>
    unfold sCmp
    simp only
    by_cases hk : (decide (i < G.length) && ((sgA G i).1 == 3)) = true
    · rw [if_pos hk]
      have hs : ∀ t, sIs G (some i) 3 t = ((sgA G i).2.1 == t) := fun t => by
        simp only [sIs]
        rw [hk, Bool.true_and]
      cases e : findT cmL (sgA G i).2.1 with
      | none =>
        simp only
        refine cmS_stay G _ (fun j hj => ?_)
        rw [hs]
        unfold findT at e
        rw [List.findIdx?_eq_none_iff] at e
        have hjl : j < cmL.length := by simp [cmL]; omega
        have := e (cmL.getD j []) (by rw [List.getD_eq_getElem?_getD, List.getElem?_eq_getElem hjl]; exact List.getElem_mem hjl)
        rw [Bool.eq_false_iff] at this ⊢
        intro hx
        exact this (by simp only [beq_iff_eq] at hx ⊢; exact hx.symm)
      | some c =>
        simp only
        unfold findT at e
        obtain ⟨hcl, h2, h3⟩ := List.findIdx?_eq_some_iff_getElem.1 e
        have hc6 : c < 6 := by simpa [cmL] using hcl
        refine cmS_took G _ hc6 (fun j hj => ?_) ?_
        · rw [hs]
          have := h3 j hj
          have hjl : j < cmL.length := by omega
          rw [List.getD_eq_getElem?_getD, List.getElem?_eq_getElem hjl]
          rw [Bool.eq_false_iff]
          intro hx
          exact this (by simp only [Option.getD_some, beq_iff_eq] at hx ⊢; exact hx.symm)
        · rw [hs, List.getD_eq_getElem?_getD, List.getElem?_eq_getElem hcl]
          simp only [Option.getD_some, beq_iff_eq] at h2 ⊢
          exact h2.symm
    · rw [if_neg hk]
      have hk2 : (decide (i < G.length) && ((sgA G i).1 == 3)) = false := by simpa using hk
      refine cmS_stay G _ (fun j hj => ?_)
      simp only [sIs]
      rw [hk2, Bool.false_and]

theorem mp_some {w : World} {p : Nat} {a : Option Addr} {cap : Nat} {G : List Sg} {i j : Nat} {t : List UInt8} (ht : t ≠ []) (e : rPass G i t = some j) (h : RdI w p a cap G i) :
    Calls Tryz.prog 62 #[.pointer (some ⟨p, 0, none⟩), .string (txt t)] w fun e w' => (e = .returned (.tuple #[]) ∧ RdI w' p a cap G j) ∧ GB p w w' := by
  have := mustPass_any t ht h
  rw [e] at this
  exact this

theorem mp_none {w : World} {p : Nat} {a : Option Addr} {cap : Nat} {G : List Sg} {i : Nat} {t : List UInt8} (ht : t ≠ []) (e : rPass G i t = none) (h : RdI w p a cap G i) :
    Calls Tryz.prog 62 #[.pointer (some ⟨p, 0, none⟩), .string (txt t)] w fun e w' => e = Bad ∧ GB p w w' := by
  have := mustPass_any t ht h
  rw [e] at this
  exact this

set_option maxRecDepth 100000 in
set_option maxHeartbeats 1000000 in
theorem rcond_any {w : World} {p : Nat} {a : Option Addr} {cap : Nat} {G : List Sg} {i : Nat} (h : RdI w p a cap G i) (hp0 : p ≠ 0) (hC : Cms w) :
    Calls Tryz.prog 127 #[.pointer (some ⟨p, 0, none⟩)] w fun e w' => Got CN.v (rCond G i) p a cap G e w' ∧ GB p w w' := by
  have hp := h.lt
  have X0 : Hid (RdI (w.alloc (.cells #[.int .i64 0, .int .i64 0, .int .i64 0, .int .i64 0, .int .i64 0, .int .i64 0] 78)) p a cap G i ∧ GB p w (w.alloc (.cells #[.int .i64 0, .int .i64 0, .int .i64 0, .int .i64 0, .int .i64 0, .int .i64 0] 78)) ∧ Kn (w.alloc (.cells #[.int .i64 0, .int .i64 0, .int .i64 0, .int .i64 0, .int .i64 0, .int .i64 0] 78)) w.heap.size [.int .i64 0, .int .i64 0, .int .i64 0, .int .i64 0, .int .i64 0, .int .i64 0] 78) := ⟨h.step (Ext.one _ _), gb_ext (Ext.one _ _), Kn.new w _ _⟩
  have H0 : Hid (RdI w p a cap G i ∧ p < w.heap.size ∧ ∀ W, GB p w W → Cms W) := ⟨h, hp, fun W hG => hC.gb hp0 hG⟩
  have HP0 : Hid (p ≠ 0) := hp0
  clear h hp hC hp0
  go_enter Tryz.func127, Tryz.ntmps127
  go_wp2_with fail
  generalize w.alloc (.cells #[.int .i64 0, .int .i64 0, .int .i64 0, .int .i64 0, .int .i64 0, .int .i64 0] 78) = W0 at *
  cases e0 : rPass G i tArg with
  | none =>
    refine (show Calls Tryz.prog 62 #[.pointer (some ⟨p, 0, none⟩), .string ⟨#[97, 114, 103]⟩] _ _ from mp_none (by decide) e0 X0.out.1).mono ?_
    rintro e w1 ⟨rfl, g1⟩
    have F1 : Hid (GB p w w1) := gb_trans X0.out.2.1 g1
    clear g1
    go_wp2
    exact bad_panic rfl ⟨got_none (by unfold rCond; rw [e0]) rfl, F1.out⟩
  | some i1 =>
    have E0 : Hid (rPass G i tArg = some i1) := e0
    refine (show Calls Tryz.prog 62 #[.pointer (some ⟨p, 0, none⟩), .string ⟨#[97, 114, 103]⟩] _ _ from mp_some (by decide) e0 X0.out.1).mono ?_
    rintro e w1 ⟨⟨rfl, r1⟩, g1⟩
    have X1 : Hid (RdI w1 p a cap G i1 ∧ GB p w w1 ∧ Kn w1 w.heap.size [.int .i64 0, .int .i64 0, .int .i64 0, .int .i64 0, .int .i64 0, .int .i64 0] 78) := ⟨r1, gb_trans X0.out.2.1 g1, X0.out.2.2.gb (by have := H0.out.2.1; omega) g1⟩
    clear r1 g1 X0 e0
    go_wp2_with fail
    cases e1 : rNum G i1 with
    | none =>
      refine (show Calls Tryz.prog 63 _ _ _ from fails_of (val := intV) e1 (rnumber_got X1.out.1)).mono ?_
      rintro e w2 ⟨rfl, g2⟩
      have F2 : Hid (GB p w w2) := gb_trans X1.out.2.1 g2
      clear g2
      go_wp2
      exact bad_panic rfl ⟨got_none (by unfold rCond; rw [E0.out]; simp only; rw [e1]) rfl, F2.out⟩
    | some x =>
      obtain ⟨n, i2⟩ := x
      have E1 : Hid (rNum G i1 = some (n, i2)) := e1
      refine (show Calls Tryz.prog 63 _ _ _ from gives_of (val := intV) e1 (rnumber_got X1.out.1)).mono ?_
      rintro e w2 ⟨⟨rfl, r2⟩, g2⟩
      have hq : w.heap.size < w2.heap.size := (X1.out.2.2.gb (by have := H0.out.2.1; omega) g2).lt
      have X2 : Hid (RdI (w2.alloc (.cells #[.int .i64 n, .int .i64 0, .int .i64 0, .int .i64 0, .int .i64 0, .int .i64 0] 78)) p a cap G i2 ∧ GB p w (w2.alloc (.cells #[.int .i64 n, .int .i64 0, .int .i64 0, .int .i64 0, .int .i64 0, .int .i64 0] 78)) ∧ Kn (w2.alloc (.cells #[.int .i64 n, .int .i64 0, .int .i64 0, .int .i64 0, .int .i64 0, .int .i64 0] 78)) w.heap.size [.int .i64 0, .int .i64 0, .int .i64 0, .int .i64 0, .int .i64 0, .int .i64 0] 78 ∧ Kn (w2.alloc (.cells #[.int .i64 n, .int .i64 0, .int .i64 0, .int .i64 0, .int .i64 0, .int .i64 0] 78)) w2.heap.size [.int .i64 n, .int .i64 0, .int .i64 0, .int .i64 0, .int .i64 0, .int .i64 0] 78) :=
        ⟨r2.step (Ext.one _ _), gb_alloc (gb_trans X1.out.2.1 g2) _, (X1.out.2.2.gb (by have := H0.out.2.1; omega) g2).alloc _, Kn.new w2 _ _⟩
      have HQ : Hid (w.heap.size < w2.heap.size) := hq
      clear r2 g2 X1 e1 hq
      unfold intV
      go_wp2_with fail
      generalize w2.alloc (.cells #[.int .i64 n, .int .i64 0, .int .i64 0, .int .i64 0, .int .i64 0, .int .i64 0] 78) = W2 at *
      generalize w2.heap.size = q at *
      have hqp : Hid (q ≠ p ∧ w.heap.size ≠ p ∧ w.heap.size ≤ q ∧ w.heap.size ≠ q) := ⟨by have := H0.out.2.1; have := HQ.out; omega, by have := H0.out.2.1; omega, by have := HQ.out; omega, by have := HQ.out; omega⟩
      cases e2 : rMask G i2 with
      | none =>
        refine (show Calls Tryz.prog 140 _ _ _ from fails_of (val := wideV) e2 (rmask_any X2.out.1)).mono ?_
        rintro e w3 ⟨rfl, g3⟩
        have F3 : Hid (GB p w w3) := gb_trans X2.out.2.1 g3
        clear g3
        go_wp2
        exact bad_panic rfl ⟨got_none (by unfold rCond; rw [E0.out]; simp only; rw [E1.out]; simp only; rw [e2]) rfl, F3.out⟩
      | some x =>
        obtain ⟨⟨mh, ml⟩, i3⟩ := x
        have E2 : Hid (rMask G i2 = some ((mh, ml), i3)) := e2
        refine (show Calls Tryz.prog 140 _ _ _ from gives_of (val := wideV) e2 (rmask_any X2.out.1)).mono ?_
        rintro e w3 ⟨⟨rfl, r3⟩, g3⟩
        have kq : Kn w3 q [.int .i64 n, .int .i64 0, .int .i64 0, .int .i64 0, .int .i64 0, .int .i64 0] 78 := X2.out.2.2.2.gb hqp.out.1 g3
        have X3 : Hid (RdI ((w3.setCell ⟨q, 1, none⟩ (.int .i64 mh)).setCell ⟨q, 2, none⟩ (.int .i64 ml)) p a cap G i3 ∧ GB p w ((w3.setCell ⟨q, 1, none⟩ (.int .i64 mh)).setCell ⟨q, 2, none⟩ (.int .i64 ml)) ∧ Kn ((w3.setCell ⟨q, 1, none⟩ (.int .i64 mh)).setCell ⟨q, 2, none⟩ (.int .i64 ml)) w.heap.size [.int .i64 0, .int .i64 0, .int .i64 0, .int .i64 0, .int .i64 0, .int .i64 0] 78 ∧ Kn ((w3.setCell ⟨q, 1, none⟩ (.int .i64 mh)).setCell ⟨q, 2, none⟩ (.int .i64 ml)) q [.int .i64 n, .int .i64 mh, .int .i64 ml, .int .i64 0, .int .i64 0, .int .i64 0] 78) :=
          ⟨H0.out.1.fresh (H0.out.1.fresh r3 hqp.out.2.2.1) hqp.out.2.2.1, gb_fresh (gb_fresh (gb_trans X2.out.2.1 g3) hqp.out.2.2.1) hqp.out.2.2.1, ((X2.out.2.2.1.gb hqp.out.2.1 g3).other hqp.out.2.2.2 _ _).other hqp.out.2.2.2 _ _, (kq.set 1 _).set 2 _⟩
        have f1 := kq.free
        obtain ⟨c0, c1, c2, c3, c4, c5⟩ := (⟨kq.cell 0 _ rfl, kq.cell 1 _ rfl, kq.cell 2 _ rfl, kq.cell 3 _ rfl, kq.cell 4 _ rfl, kq.cell 5 _ rfl⟩ : _ ∧ _ ∧ _ ∧ _ ∧ _ ∧ _)
        clear r3 g3 X2 e2 kq
        unfold wideV
        go_wp2_with fail
        generalize ((w3.setCell ⟨q, 1, none⟩ (.int .i64 mh)).setCell ⟨q, 2, none⟩ (.int .i64 ml)) = W3 at *
        clear f1 c0 c1 c2 c3 c4 c5
        cases e3 : rCmp G i3 with
        | none =>
          refine (show Calls Tryz.prog 141 _ _ _ from fails_of (val := intV) e3 (comparison_any X3.out.1 HP0.out (H0.out.2.2 _ X3.out.2.1))).mono ?_
          rintro e w4 ⟨rfl, g4⟩
          have F4 : Hid (GB p w w4) := gb_trans X3.out.2.1 g4
          clear g4
          go_wp2
          exact bad_panic rfl ⟨got_none (by unfold rCond; rw [E0.out]; simp only; rw [E1.out]; simp only; rw [E2.out]; simp only; rw [e3]) rfl, F4.out⟩
        | some x =>
          obtain ⟨cm, i4⟩ := x
          have E3 : Hid (rCmp G i3 = some (cm, i4)) := e3
          refine (show Calls Tryz.prog 141 _ _ _ from gives_of (val := intV) e3 (comparison_any X3.out.1 HP0.out (H0.out.2.2 _ X3.out.2.1))).mono ?_
          rintro e w4 ⟨⟨rfl, r4⟩, g4⟩
          have kq : Kn w4 q [.int .i64 n, .int .i64 mh, .int .i64 ml, .int .i64 0, .int .i64 0, .int .i64 0] 78 := X3.out.2.2.2.gb hqp.out.1 g4
          have X4 : Hid (RdI (w4.setCell ⟨q, 3, none⟩ (.int .i64 cm)) p a cap G i4 ∧ GB p w (w4.setCell ⟨q, 3, none⟩ (.int .i64 cm)) ∧ Kn (w4.setCell ⟨q, 3, none⟩ (.int .i64 cm)) w.heap.size [.int .i64 0, .int .i64 0, .int .i64 0, .int .i64 0, .int .i64 0, .int .i64 0] 78 ∧ Kn (w4.setCell ⟨q, 3, none⟩ (.int .i64 cm)) q [.int .i64 n, .int .i64 mh, .int .i64 ml, .int .i64 cm, .int .i64 0, .int .i64 0] 78) :=
            ⟨H0.out.1.fresh r4 hqp.out.2.2.1, gb_fresh (gb_trans X3.out.2.1 g4) hqp.out.2.2.1, (X3.out.2.2.1.gb hqp.out.2.1 g4).other hqp.out.2.2.2 _ _, kq.set 3 _⟩
          have f1 := kq.free
          obtain ⟨c0, c1, c2, c3, c4, c5⟩ := (⟨kq.cell 0 _ rfl, kq.cell 1 _ rfl, kq.cell 2 _ rfl, kq.cell 3 _ rfl, kq.cell 4 _ rfl, kq.cell 5 _ rfl⟩ : _ ∧ _ ∧ _ ∧ _ ∧ _ ∧ _)
          clear r4 g4 X3 e3 kq
          unfold intV
          go_wp2_with fail
          generalize (w4.setCell ⟨q, 3, none⟩ (.int .i64 cm)) = W4 at *
          clear f1 c0 c1 c2 c3 c4 c5
          cases e4 : rWide G i4 with
          | none =>
            refine (show Calls Tryz.prog 142 _ _ _ from fails_of (val := wideV) e4 (rwide_any X4.out.1)).mono ?_
            rintro e w5 ⟨rfl, g5⟩
            have F5 : Hid (GB p w w5) := gb_trans X4.out.2.1 g5
            clear g5
            go_wp2
            exact bad_panic rfl ⟨got_none (by unfold rCond; rw [E0.out]; simp only; rw [E1.out]; simp only; rw [E2.out]; simp only; rw [E3.out]; simp only; rw [e4]) rfl, F5.out⟩
          | some x =>
            obtain ⟨⟨vh, vl⟩, i5⟩ := x
            have HM : Hid (rCond G i = some (⟨n, mh, ml, cm, vh, vl⟩, i5)) := by unfold Hid rCond; rw [E0.out]; simp only; rw [E1.out]; simp only; rw [E2.out]; simp only; rw [E3.out]; simp only; rw [e4]
            refine (show Calls Tryz.prog 142 _ _ _ from gives_of (val := wideV) e4 (rwide_any X4.out.1)).mono ?_
            rintro e w5 ⟨⟨rfl, r5⟩, g5⟩
            have kq : Kn w5 q [.int .i64 n, .int .i64 mh, .int .i64 ml, .int .i64 cm, .int .i64 0, .int .i64 0] 78 := X4.out.2.2.2.gb hqp.out.1 g5
            have kr : Kn w5 w.heap.size [.int .i64 0, .int .i64 0, .int .i64 0, .int .i64 0, .int .i64 0, .int .i64 0] 78 := X4.out.2.2.1.gb hqp.out.2.1 g5
            have X5 : Hid (RdI ((((((((w5.setCell ⟨q, 4, none⟩ (.int .i64 vh)).setCell ⟨q, 5, none⟩ (.int .i64 vl)).setCell ⟨w.heap.size, 0, none⟩ (.int .i64 n)).setCell ⟨w.heap.size, 1, none⟩ (.int .i64 mh)).setCell ⟨w.heap.size, 2, none⟩ (.int .i64 ml)).setCell ⟨w.heap.size, 3, none⟩ (.int .i64 cm)).setCell ⟨w.heap.size, 4, none⟩ (.int .i64 vh)).setCell ⟨w.heap.size, 5, none⟩ (.int .i64 vl)) p a cap G i5 ∧ GB p w ((((((((w5.setCell ⟨q, 4, none⟩ (.int .i64 vh)).setCell ⟨q, 5, none⟩ (.int .i64 vl)).setCell ⟨w.heap.size, 0, none⟩ (.int .i64 n)).setCell ⟨w.heap.size, 1, none⟩ (.int .i64 mh)).setCell ⟨w.heap.size, 2, none⟩ (.int .i64 ml)).setCell ⟨w.heap.size, 3, none⟩ (.int .i64 cm)).setCell ⟨w.heap.size, 4, none⟩ (.int .i64 vh)).setCell ⟨w.heap.size, 5, none⟩ (.int .i64 vl)) ∧ Kn ((((((((w5.setCell ⟨q, 4, none⟩ (.int .i64 vh)).setCell ⟨q, 5, none⟩ (.int .i64 vl)).setCell ⟨w.heap.size, 0, none⟩ (.int .i64 n)).setCell ⟨w.heap.size, 1, none⟩ (.int .i64 mh)).setCell ⟨w.heap.size, 2, none⟩ (.int .i64 ml)).setCell ⟨w.heap.size, 3, none⟩ (.int .i64 cm)).setCell ⟨w.heap.size, 4, none⟩ (.int .i64 vh)).setCell ⟨w.heap.size, 5, none⟩ (.int .i64 vl)) w.heap.size [.int .i64 n, .int .i64 mh, .int .i64 ml, .int .i64 cm, .int .i64 vh, .int .i64 vl] 78) :=
              ⟨(H0.out.1.fresh (H0.out.1.fresh (H0.out.1.fresh (H0.out.1.fresh (H0.out.1.fresh (H0.out.1.fresh (H0.out.1.fresh (H0.out.1.fresh r5 hqp.out.2.2.1) hqp.out.2.2.1) (Nat.le_refl _)) (Nat.le_refl _)) (Nat.le_refl _)) (Nat.le_refl _)) (Nat.le_refl _)) (Nat.le_refl _)), (gb_fresh (gb_fresh (gb_fresh (gb_fresh (gb_fresh (gb_fresh (gb_fresh (gb_fresh (gb_trans X4.out.2.1 g5) hqp.out.2.2.1) hqp.out.2.2.1) (Nat.le_refl _)) (Nat.le_refl _)) (Nat.le_refl _)) (Nat.le_refl _)) (Nat.le_refl _)) (Nat.le_refl _)), ((((((((kr.other hqp.out.2.2.2 _ _).other hqp.out.2.2.2 _ _).set 0 _).set 1 _).set 2 _).set 3 _).set 4 _).set 5 _)⟩
            have f1 := kq.free
            obtain ⟨c0, c1, c2, c3, c4, c5⟩ := (⟨kq.cell 0 _ rfl, kq.cell 1 _ rfl, kq.cell 2 _ rfl, kq.cell 3 _ rfl, kq.cell 4 _ rfl, kq.cell 5 _ rfl⟩ : _ ∧ _ ∧ _ ∧ _ ∧ _ ∧ _)
            have f2 := kr.free
            obtain ⟨d0, d1, d2, d3, d4, d5⟩ := (⟨kr.cell 0 _ rfl, kr.cell 1 _ rfl, kr.cell 2 _ rfl, kr.cell 3 _ rfl, kr.cell 4 _ rfl, kr.cell 5 _ rfl⟩ : _ ∧ _ ∧ _ ∧ _ ∧ _ ∧ _)
            have hne := hqp.out.2.2.2
            have hne2 : ¬ q = w.heap.size := fun e => hne e.symm
            clear r5 g5 X4 e4 kq kr
            unfold wideV
            go_wp2
            generalize ((((((((w5.setCell ⟨q, 4, none⟩ (.int .i64 vh)).setCell ⟨q, 5, none⟩ (.int .i64 vl)).setCell ⟨w.heap.size, 0, none⟩ (.int .i64 n)).setCell ⟨w.heap.size, 1, none⟩ (.int .i64 mh)).setCell ⟨w.heap.size, 2, none⟩ (.int .i64 ml)).setCell ⟨w.heap.size, 3, none⟩ (.int .i64 cm)).setCell ⟨w.heap.size, 4, none⟩ (.int .i64 vh)).setCell ⟨w.heap.size, 5, none⟩ (.int .i64 vl)) = W6 at *
            clear f1 c0 c1 c2 c3 c4 c5 f2 d0 d1 d2 d3 d4 d5
            obtain ⟨d0, d1, d2, d3, d4, d5⟩ := (⟨X5.out.2.2.cell 0 _ rfl, X5.out.2.2.cell 1 _ rfl, X5.out.2.2.cell 2 _ rfl, X5.out.2.2.cell 3 _ rfl, X5.out.2.2.cell 4 _ rfl, X5.out.2.2.cell 5 _ rfl⟩ : _ ∧ _ ∧ _ ∧ _ ∧ _ ∧ _)
            refine bodyPost_ret (v := .agg #[.int .i64 n, .int .i64 mh, .int .i64 ml, .int .i64 cm, .int .i64 vh, .int .i64 vl]) (by simp [results, Tryz.results127, go_sem, *]) rfl ?_
            exact ⟨got_some HM.out rfl X5.out.1, X5.out.2.1⟩

end Go.Proofs.YtojaohdmfahpmaaGreatDoor
