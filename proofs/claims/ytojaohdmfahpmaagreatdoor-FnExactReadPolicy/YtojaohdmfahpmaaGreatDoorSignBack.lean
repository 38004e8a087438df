/- Right signs come back from their texts: in plain lists of bytes, with a blank or nothing behind. -/
import Derived.Test.YtojaohdmfahpmaaGreatDoorSignTx
namespace Go.Proofs.YtojaohdmfahpmaaGreatDoor
open Go.RowKit
set_option linter.unusedVariables false

/-- A sign that a text can have. -/
def SgR (p : Sg) : Prop :=
  (p.1 = 1 ∧ p.2.2 = 0 ∧ 1 ≤ p.2.1.length ∧ p.2.1.length ≤ 12 ∧ ∀ b ∈ p.2.1, kindB b = 1) ∨
  (p.1 = 2 ∧ p.2.1 = [] ∧ 0 ≤ p.2.2 ∧ p.2.2 ≤ 4294967295) ∨
  (p.1 = 3 ∧ p.2.2 = 0 ∧ isMarkL p.2.1 = true)

theorem fig_hexD8 (base d : Nat) (h16 : base ≤ 16) (hd : d < base) : fig base (hexD d) = some d := fig_some base d (hexD d) h16 hd rfl

theorem numF_dec8 : ∀ k n : Nat, n ≤ k → numF 10 (dec n) 0 = some n := by
  intro k
  induction k with
  | zero =>
    intro n h
    obtain rfl : n = 0 := by omega
    rfl
  | succ k ih =>
    intro n h
    by_cases h0 : n = 0
    · subst h0; rfl
    · rw [dec_pos n (by omega), numF_snoc, ih (n / 10) (by omega), fig_hexD8 10 _ (by omega) (by omega)]
      simp only []
      congr 1
      omega

theorem dec_len8 : ∀ k n : Nat, n < 10 ^ k → (dec n).length ≤ k := by
  intro k
  induction k with
  | zero => intro n h; obtain rfl : n = 0 := by simpa using h
            simp [dec_zero]
  | succ k ih =>
    intro n h
    by_cases h0 : n = 0
    · subst h0; simp [dec_zero]
    · rw [dec_pos n (by omega)]
      have := ih (n / 10) (by rw [Nat.pow_succ] at h; omega)
      simp
      omega

theorem numF_decS8 (n : Nat) : numF 10 (decS n) 0 = some n := by
  unfold decS
  split
  · rename_i h; subst h; decide
  · exact numF_dec8 n n (Nat.le_refl _)

theorem decS_len8 (n : Nat) (h : n ≤ 4294967295) : (decS n).length ≤ 10 := by
  unfold decS
  split
  · simp
  · exact dec_len8 10 n (by omega)

theorem hexD_kind (d : Nat) (h : d < 10) : kindB (hexD d) = 2 := by
  have key : ∀ p : Fin 10, kindB (hexD p.val) = 2 := by decide
  exact key ⟨d, h⟩

theorem dec_kind : ∀ k n : Nat, n ≤ k → ∀ b ∈ dec n, kindB b = 2 := by
  intro k
  induction k with
  | zero =>
    intro n h b hb
    obtain rfl : n = 0 := by omega
    simp [dec_zero] at hb
  | succ k ih =>
    intro n h b hb
    by_cases h0 : n = 0
    · subst h0; simp [dec_zero] at hb
    · rw [dec_pos n (by omega)] at hb
      rcases List.mem_append.1 hb with h1 | h1
      · exact ih (n / 10) (by omega) b h1
      · simp at h1
        rw [h1]
        exact hexD_kind _ (by omega)

theorem decS_kind (n : Nat) : ∀ b ∈ decS n, kindB b = 2 := by
  unfold decS
  split
  · intro b hb; simp at hb; subst hb; decide
  · exact dec_kind n n (Nat.le_refl _)

theorem decS_pos (n : Nat) : 1 ≤ (decS n).length := by
  unfold decS
  split
  · simp
  · rename_i h
    rw [dec_pos n (by omega)]
    simp

/-- Nothing, or a blank first. -/
def Blank (r : List UInt8) : Prop := r = [] ∨ ∃ x q, r = x :: q ∧ kindB x = 0

/-- A run of one kind ends where a blank stands. -/
theorem runL_word {k : Nat} {l r : List UInt8} (hk : ¬ k = 0) (hl : ∀ b ∈ l, kindB b = k) (hr : Blank r) : runL k (l ++ r) = l.length := by
  refine runL_of (by simpa using hl) ?_ (by simp)
  rcases hr with rfl | ⟨x, q, rfl, hx⟩
  · left; simp
  · right
    refine ⟨x, by simp, ?_⟩
    omega

theorem SG_word {k : Nat} {l r : List UInt8} {s : Sg} (hk0 : ¬ k = 0) (hk3 : ¬ k = 3) (h1 : 1 ≤ l.length) (hl : ∀ b ∈ l, kindB b = k) (hr : Blank r) (hs : signOf k l = some s) : SG (l ++ r) = (SG r).map (s :: ·) := by
  have hw := runL_word (r := r) hk0 hl hr
  cases l with
  | nil => simp at h1
  | cons b t =>
    have hb : kindB b = k := hl b (by simp)
    have hwide : wideL b (t ++ r) = (b :: t).length := by
      unfold wideL
      rw [hb, if_neg hk3]
      exact hw
    have ht : (b :: (t ++ r)).take (b :: t).length = b :: t := by
      rw [← List.cons_append]; simp
    have hd : (b :: (t ++ r)).drop (b :: t).length = r := by
      rw [← List.cons_append]; simp
    rw [List.cons_append, SG_some (b := b) (r := t ++ r) (s := s) (by omega) (by rw [hwide, ht, hb]; exact hs), hwide, hd]

theorem mark_kind : ∀ m ∈ markL, ∀ b ∈ m, kindB b = 3 := by decide

theorem mark_shape {l : List UInt8} (h : isMarkL l = true) : (∃ b, l = [b]) ∨ ∃ b c, l = [b, c] := by
  have h1 := marks_short _ (isMark_mem h)
  match l, h1 with
  | [b], _ => exact .inl ⟨b, rfl⟩
  | [b, c], _ => exact .inr ⟨b, c, rfl⟩

theorem SG_mark {l r : List UInt8} (h : isMarkL l = true) (hr : Blank r) : SG (l ++ r) = (SG r).map ((3, l, 0) :: ·) := by
  have hs : signOf 3 l = some (3, l, 0) := by unfold signOf; simp [h]
  rcases mark_shape h with ⟨b, rfl⟩ | ⟨b, c, rfl⟩
  · have hb : kindB b = 3 := mark_kind _ (isMark_mem h) b (by simp)
    have hm : markAt (b :: r) = [b] := by
      rw [markAt_one (fun c hc => ?_), if_pos h]
      rcases hr with rfl | ⟨x, q, rfl, hx⟩
      · simp at hc
      · simp at hc
        subst hc
        cases hq : isMarkL [b, x]
        · rfl
        · have := (isMarkL_second hq).2
          omega
    have hw : wideL b r = 1 := by unfold wideL; rw [if_pos hb, hm]; rfl
    rw [List.singleton_append, SG_some (b := b) (r := r) (s := (3, [b], 0)) (by omega) (by rw [hw, hb]; exact hs), hw]
    rfl
  · have hb : kindB b = 3 := mark_kind _ (isMark_mem h) b (by simp)
    have hm : markAt (b :: c :: r) = [b, c] := markAt_two h
    have hw : wideL b (c :: r) = 2 := by unfold wideL; rw [if_pos hb, hm]; rfl
    show SG (b :: c :: r) = _
    rw [SG_some (b := b) (r := c :: r) (s := (3, [b, c], 0)) (by omega) (by rw [hw, hb]; exact hs), hw]
    rfl

theorem SG_one {p : Sg} {r : List UInt8} (h : SgR p) (hr : Blank r) : SG (txL p ++ r) = (SG r).map (p :: ·) := by
  obtain ⟨k, l, n⟩ := p
  rcases h with ⟨h1, h2, h3, h4, h5⟩ | ⟨h1, h2, h3, h4⟩ | ⟨h1, h2, h3⟩
  · simp only at h1 h2 h3 h4 h5
    subst h1; subst h2
    have e : txL (1, l, 0) = l := by unfold txL; simp
    rw [e]
    exact SG_word (k := 1) (by omega) (by omega) h3 h5 hr (by unfold signOf; simp [h4])
  · simp only at h1 h2 h3 h4
    subst h1; subst h2
    obtain ⟨m, rfl⟩ : ∃ m : Nat, n = (m : Int) := ⟨n.toNat, by omega⟩
    have e : txL (2, [], (m : Int)) = decS m := by unfold txL; simp
    have hm : m ≤ 4294967295 := by omega
    rw [e]
    refine SG_word (k := 2) (by omega) (by omega) (decS_pos m) (decS_kind m) hr ?_
    unfold signOf
    rw [if_neg (by omega), if_pos rfl, numF_decS8 m]
    simp only []
    rw [if_pos ⟨decS_len8 m hm, hm⟩]
  · simp only at h1 h2 h3
    subst h1; subst h2
    have e : txL (3, l, 0) = l := by unfold txL; simp
    rw [e]
    exact SG_mark h3 hr

theorem SG_textN (ps : List Sg) (h : ∀ p ∈ ps, SgR p) : ∀ k, k ≤ ps.length → ∀ r, Blank r → SG (textN ps k ++ r) = behind (ps.take k) (SG r)
  | 0, _, r, _ => by simp [textN, behind_nil]
  | k + 1, hk, r, hr => by
    have hkl : k < ps.length := by omega
    have hg : ps.getD k zeroG = ps[k] := by rw [List.getD_eq_getElem?_getD, List.getElem?_eq_getElem hkl]; rfl
    have hp := h ps[k] (List.getElem_mem hkl)
    have ht : ps.take (k + 1) = ps.take k ++ [ps[k]] := by simp
    have h1 := SG_one hp hr
    rw [textN, hg, ht]
    by_cases h0 : k = 0
    · subst h0
      simp only [textN, if_true, List.nil_append, List.take_zero]
      rw [h1, behind_sign]
    · rw [if_neg h0]
      have ih := SG_textN ps h k (by omega) (32 :: (txL ps[k] ++ r)) (.inr ⟨_, _, rfl, by decide⟩)
      have e : textN ps k ++ ([32] ++ txL ps[k]) ++ r = textN ps k ++ (32 :: (txL ps[k] ++ r)) := by simp
      rw [e, ih, SG_blank (by decide), h1, behind_snoc]

/-- The text of right signs, blanks ahead and behind. -/
theorem SG_back (ps : List Sg) (h : ∀ p ∈ ps, SgR p) (a b : List UInt8) (ha : ∀ x ∈ a, kindB x = 0) (hb : ∀ x ∈ b, kindB x = 0) : SG (a ++ textN ps ps.length ++ b) = some ps := by
  have e1 := SG_blanks a.length (a ++ (textN ps ps.length ++ b)) (by simp) (by simpa using ha)
  have hbl : Blank b := by
    cases b with
    | nil => exact .inl rfl
    | cons x q => exact .inr ⟨x, q, rfl, hb x (by simp)⟩
  have e2 : SG b = some [] := by
    have := SG_blanks b.length b (by simp) (by simpa using hb)
    rw [this]
    simp [SG_nil]
  rw [List.append_assoc, e1]
  simp only [List.drop_left]
  rw [SG_textN ps h ps.length (Nat.le_refl _) b hbl, e2]
  simp [behind]

theorem txL_len {p : Sg} (h : SgR p) : (txL p).length ≤ 12 := by
  obtain ⟨k, l, n⟩ := p
  rcases h with ⟨h1, h2, h3, h4, h5⟩ | ⟨h1, h2, h3, h4⟩ | ⟨h1, h2, h3⟩
  · simp only at h1 h2 h3 h4 h5
    subst h1
    unfold txL; simpa using h4
  · simp only at h1 h2 h3 h4
    subst h1
    unfold txL
    have := decS_len8 n.toNat (by omega)
    simp
    omega
  · simp only at h1 h2 h3
    subst h1
    unfold txL
    have := isMarkL_short h3
    simp
    omega

theorem textR_len (ps : List Sg) (h : ∀ p ∈ ps, SgR p) : ∀ k, k ≤ ps.length → (textN ps k).length ≤ 13 * k
  | 0, _ => by simp [textN]
  | k + 1, hk => by
    have hkl : k < ps.length := by omega
    have hg : ps.getD k zeroG = ps[k] := by rw [List.getD_eq_getElem?_getD, List.getElem?_eq_getElem hkl]; rfl
    have h1 := txL_len (h ps[k] (List.getElem_mem hkl))
    have ih := textR_len ps h k (by omega)
    rw [textN, hg]
    split <;> simp <;> omega

end Go.Proofs.YtojaohdmfahpmaaGreatDoor
