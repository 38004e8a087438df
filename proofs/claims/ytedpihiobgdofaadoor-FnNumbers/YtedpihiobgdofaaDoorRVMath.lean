/- Plain facts on numbers in bytes: the number that bytes tell, the form that stands at a place of a text, and when that form is the shortest one. -/
import Derived.Test.YtedpihiobgdofaaDoorBase
namespace Go.Proofs.YtedpihiobgdofaaDoor
open Go.RowKit

def D : List UInt8 → Nat
  | [] => 0
  | b :: r => b.toNat % 128 + 128 * D r

theorem D_snoc (b : UInt8) : ∀ l : List UInt8, D (l ++ [b]) = D l + b.toNat % 128 * 128 ^ l.length
  | [] => by simp [D]
  | c :: l => by
    simp only [List.cons_append, D, D_snoc b l, List.length_cons, Nat.pow_succ, Nat.mul_add]
    have : 128 * (b.toNat % 128 * 128 ^ l.length) = b.toNat % 128 * (128 ^ l.length * 128) := by
      rw [Nat.mul_comm 128, Nat.mul_assoc]
    omega

theorem D_lt : ∀ l : List UInt8, D l < 128 ^ l.length
  | [] => by simp [D]
  | c :: l => by
    simp only [D, List.length_cons, Nat.pow_succ]
    have := D_lt l
    omega

def rv : Nat → List UInt8 → List UInt8 → Option (List UInt8)
  | 0, _, _ => none
  | _ + 1, [], _ => none
  | f + 1, b :: r, l => if b.toNat < 128 then some (l ++ [b]) else rv f r (l ++ [b])

def good (u : List UInt8) : Bool := decide (D u ≤ 1000000000) && (V (D u) == u)

def no3 : Value := .tuple #[.int .i64 0, .int .i64 0, .bool false]

def RV (t : List UInt8) : Option (List UInt8) := match rv 5 t [] with
  | none => none
  | some u => if good u then some u else none

def RVv (t : List UInt8) (a : Nat) : Value := match RV t with
  | none => no3
  | some u => .tuple #[.int .i64 (D u : Nat), .int .i64 ((a + u.length : Nat) : Int), .bool true]

/-- The loop's state: j bytes' place, the bytes l met from a on, the scale c. -/
def RS (s : List UInt8) (a j : Nat) (l : List UInt8) (c : Nat) : Prop :=
  a ≤ j ∧ j ≤ a + 5 ∧ l.length = j - a ∧ c = 128 ^ (j - a) ∧ l = (s.drop a).take (j - a) ∧ (∀ b ∈ l, 128 ≤ b.toNat) ∧ rv 5 (s.drop a) [] = rv (5 - (j - a)) (s.drop j) l

theorem RS.start (s : List UInt8) (a : Nat) : RS s a a [] 1 := by
  refine ⟨Nat.le_refl _, by omega, by simp, by simp, by simp, by simp, by simp⟩

theorem RS.bounds {s : List UInt8} {a j : Nat} {l : List UInt8} {c : Nat} (h : RS s a j l c) (hj : j < a + 5) : D l < 268435456 ∧ 1 ≤ c ∧ c ≤ 268435456 ∧ D l < c := by
  obtain ⟨h1, h2, h3, h4, _⟩ := h
  have hd := D_lt l
  rw [h3, ← h4] at hd
  have : c ≤ 268435456 ∧ 1 ≤ c := by
    rw [h4]
    obtain ⟨k, hk⟩ : ∃ k, k = j - a := ⟨_, rfl⟩
    rw [← hk]
    have : k = 0 ∨ k = 1 ∨ k = 2 ∨ k = 3 ∨ k = 4 := by omega
    rcases this with rfl | rfl | rfl | rfl | rfl <;> simp
  omega

theorem RS.value {s : List UInt8} {a j : Nat} {l : List UInt8} {c : Nat} (h : RS s a j l c) (b : UInt8) : D (l ++ [b]) = D l + b.toNat % 128 * c := by
  rw [D_snoc, h.2.2.1, h.2.2.2.1]

theorem RS.take {s : List UInt8} {a j : Nat} {l : List UInt8} {c : Nat} (h : RS s a j l c) (hj : j < s.length) : l ++ [s[j]] = (s.drop a).take (j + 1 - a) := by
  obtain ⟨h1, h2, h3, h4, h5, h6, h7⟩ := h
  have e : j + 1 - a = (j - a) + 1 := by omega
  rw [e, List.take_succ_eq_append_getElem (by simp; omega), ← h5]
  congr 2
  simp only [List.getElem_drop]
  congr 1
  omega

theorem RS.drop {s : List UInt8} {j : Nat} (hj : j < s.length) : s.drop j = s[j] :: s.drop (j + 1) := by
  exact List.drop_eq_getElem_cons hj

theorem RS.next {s : List UInt8} {a j : Nat} {l : List UInt8} {c : Nat} (h : RS s a j l c) (hj : j < s.length) (h5 : j < a + 5) (hb : 128 ≤ s[j].toNat) : RS s a (j + 1) (l ++ [s[j]]) (c * 128) := by
  have ht := h.take hj
  obtain ⟨h1, h2, h3, h4, h5', h6, h7⟩ := h
  refine ⟨by omega, by omega, by simp; omega, ?_, ht, ?_, ?_⟩
  · rw [h4, show j + 1 - a = (j - a) + 1 by omega, Nat.pow_succ]
  · intro b hm
    rcases List.mem_append.1 hm with hm | hm
    · exact h6 b hm
    · simp at hm; subst hm; exact hb
  · rw [h7, RS.drop hj, show 5 - (j - a) = (5 - (j + 1 - a)) + 1 by omega]
    simp only [rv]
    rw [if_neg (by omega)]

theorem RS.found {s : List UInt8} {a j : Nat} {l : List UInt8} {c : Nat} (h : RS s a j l c) (hj : j < s.length) (h5 : j < a + 5) (hb : s[j].toNat < 128) : rv 5 (s.drop a) [] = some (l ++ [s[j]]) := by
  obtain ⟨h1, h2, h3, h4, h5', h6, h7⟩ := h
  rw [h7, RS.drop hj, show 5 - (j - a) = (5 - (j + 1 - a)) + 1 by omega]
  simp only [rv]
  rw [if_pos hb]

theorem RS.none {s : List UInt8} {a j : Nat} {l : List UInt8} {c : Nat} (h : RS s a j l c) (hj : ¬ (j < s.length ∧ j < a + 5)) : rv 5 (s.drop a) [] = none := by
  obtain ⟨h1, h2, h3, h4, h5', h6, h7⟩ := h
  rw [h7]
  by_cases hs : j < s.length
  · rw [show 5 - (j - a) = 0 by omega]; rfl
  · rw [List.drop_eq_nil_of_le (by omega)]
    cases 5 - (j - a) <;> rfl

theorem V_last : ∀ n : Nat, ∀ m, m ≤ n → ∀ l, V m = l ++ [0] → l = [] ∧ m = 0 := by
  intro n
  induction n with
  | zero =>
    intro m hm l h
    obtain rfl : m = 0 := by omega
    rw [V_small 0 (by omega)] at h
    cases l with
    | nil => exact ⟨rfl, rfl⟩
    | cons x r => simp at h
  | succ n ih =>
    intro m hm l h
    by_cases hb : 127 < m
    · rw [V_big m hb] at h
      cases l with
      | nil =>
        simp at h
        exfalso
        have h2 := h.2
        by_cases hq : 127 < m / 128
        · rw [V_big _ hq] at h2; simp at h2
        · rw [V_small _ (by omega)] at h2; simp at h2
      | cons x r =>
        simp at h
        have := ih (m / 128) (by omega) r h.2
        omega
    · rw [V_small m (by omega)] at h
      cases l with
      | nil =>
        simp at h
        have h' := congrArg UInt8.toNat h
        simp at h'
        exact ⟨rfl, by omega⟩
      | cons x r => simp at h

theorem D_pos : ∀ l : List UInt8, ∀ b : UInt8, b.toNat < 128 → b ≠ 0 → 1 ≤ D (l ++ [b])
  | [], b, h, h0 => by
    simp [D]
    have : b.toNat ≠ 0 := fun e => h0 (UInt8.toNat_inj.1 (by simpa using e))
    omega
  | c :: l, b, h, h0 => by
    have := D_pos l b h h0
    simp only [List.cons_append, D]
    omega

theorem ofNat_toNat (b : UInt8) (n : Nat) (h : n = b.toNat) : UInt8.ofNat n = b := by subst h; simp

theorem V_D : ∀ l : List UInt8, ∀ b : UInt8, b.toNat < 128 → (b ≠ 0 ∨ l = []) → (∀ x ∈ l, 128 ≤ x.toNat) → V (D (l ++ [b])) = l ++ [b]
  | [], b, h, _, _ => by
    simp only [List.nil_append, D]
    rw [V_small _ (by omega)]
    rw [ofNat_toNat b _ (by omega)]
  | c :: l, b, h, h0, hl => by
    have hb : b ≠ 0 := by
      rcases h0 with h0 | h0
      · exact h0
      · cases h0
    have hp := D_pos l b h hb
    have ih := V_D l b h (Or.inl hb) (fun x hx => hl x (List.mem_cons_of_mem _ hx))
    have hc := hl c (List.mem_cons_self ..)
    have hc2 : c.toNat < 256 := c.toNat_lt
    simp only [List.cons_append, D]
    rw [V_big _ (by omega), show (c.toNat % 128 + 128 * D (l ++ [b])) / 128 = D (l ++ [b]) by omega, ih]
    rw [ofNat_toNat c _ (by omega)]

/-- The form is the shortest just when it is not a longer one. -/
theorem V_D_iff (l : List UInt8) (b : UInt8) (h : b.toNat < 128) (hl : ∀ x ∈ l, 128 ≤ x.toNat) : (V (D (l ++ [b])) == l ++ [b]) = !(decide (b.toNat = 0) && decide (0 < l.length)) := by
  by_cases h0 : b.toNat = 0
  · have hb : b = 0 := UInt8.toNat_inj.1 (by simpa using h0)
    subst hb
    by_cases hz : 0 < l.length
    · have : ¬ V (D (l ++ [0])) = l ++ [0] := fun e => by
        have := (V_last _ _ (Nat.le_refl _) l e).1
        subst this
        simp at hz
      simp [this, hz]
    · have : l = [] := List.length_eq_zero_iff.1 (by omega)
      subst this
      have := V_D [] 0 h (Or.inr rfl) hl
      rw [this]
      simp
  · have hb : b ≠ 0 := fun e => h0 (by subst e; rfl)
    have := V_D l b h (Or.inl hb) hl
    simp [this, h0]

theorem RS.good {s : List UInt8} {a j : Nat} {l : List UInt8} {c : Nat} (h : RS s a j l c) (b : UInt8) (hb : b.toNat < 128) :
    good (l ++ [b]) = (decide (D l + b.toNat % 128 * c ≤ 1000000000) && !(decide (b.toNat = 0) && decide (a < j))) := by
  unfold Go.Proofs.YtedpihiobgdofaaDoor.good
  rw [V_D_iff l b hb h.2.2.2.2.2.1, h.value b, h.2.2.1]
  congr 3
  have := h.1
  simp only [decide_eq_decide]
  omega

theorem prod_bd (x c : Nat) (hc : c ≤ 268435456) : 0 ≤ (x : Int) % 128 * (c : Int) ∧ (x : Int) % 128 * (c : Int) ≤ 34091302912 := by
  have h1 : x % 128 * c ≤ 127 * 268435456 := Nat.mul_le_mul (by omega) hc
  have e : (x : Int) % 128 * (c : Int) = ((x % 128 * c : Nat) : Int) := by push_cast; rfl
  omega

theorem prod_cast (d x c : Nat) : ((d + x % 128 * c : Nat) : Int) = (d : Int) + (x : Int) % 128 * (c : Int) := by push_cast; rfl

theorem RS.badz {s : List UInt8} {a j : Nat} {l : List UInt8} {c : Nat} (h : RS s a j l c) (b : UInt8) (hb : b.toNat < 128) (h0 : b.toNat = 0) (haj : a < j) : Go.Proofs.YtedpihiobgdofaaDoor.good (l ++ [b]) = false := by
  rw [h.good b hb]; simp [h0, haj]

theorem RS.badm {s : List UInt8} {a j : Nat} {l : List UInt8} {c : Nat} (h : RS s a j l c) (b : UInt8) (hb : b.toNat < 128) (hm : 1000000000 < (D l : Int) + (b.toNat : Int) % 128 * (c : Int)) : Go.Proofs.YtedpihiobgdofaaDoor.good (l ++ [b]) = false := by
  rw [h.good b hb]
  have := prod_cast (D l) b.toNat c
  have : ¬ D l + b.toNat % 128 * c ≤ 1000000000 := by omega
  simp [this]

theorem RS.okay {s : List UInt8} {a j : Nat} {l : List UInt8} {c : Nat} (h : RS s a j l c) (b : UInt8) (hb : b.toNat < 128) (hz : ¬ b.toNat = 0 ∨ ¬ a < j) (hm : (D l : Int) + (b.toNat : Int) % 128 * (c : Int) ≤ 1000000000) : Go.Proofs.YtedpihiobgdofaaDoor.good (l ++ [b]) = true := by
  rw [h.good b hb]
  have := prod_cast (D l) b.toNat c
  have : D l + b.toNat % 128 * c ≤ 1000000000 := by omega
  rcases hz with hz | hz <;> simp [this, hz]

theorem RVv_none {t : List UInt8} {a : Nat} (h : rv 5 t [] = none) : RVv t a = no3 := by simp [RVv, RV, h]

theorem RVv_bad {t : List UInt8} {a : Nat} {u : List UInt8} (h : rv 5 t [] = some u) (hg : good u = false) : RVv t a = no3 := by simp [RVv, RV, h, hg]

theorem RVv_good {t : List UInt8} {a : Nat} {u : List UInt8} {x y : Int} (h : rv 5 t [] = some u) (hg : good u = true) (hx : (D u : Int) = x) (hy : ((a + u.length : Nat) : Int) = y) :
    RVv t a = .tuple #[.int .i64 x, .int .i64 y, .bool true] := by subst hx; subst hy; simp [RVv, RV, h, hg]

theorem RVv_form (t : List UInt8) (a : Nat) : RVv t a = .tuple #[.int .i64 0, .int .i64 0, .bool false] ∨ ∃ x y : Nat, RVv t a = .tuple #[.int .i64 (x : Int), .int .i64 (y : Int), .bool true] := by
  unfold RVv
  cases RV t with
  | none => exact Or.inl rfl
  | some u => exact Or.inr ⟨_, _, rfl⟩

theorem rv_length : ∀ (f : Nat) (t l u : List UInt8), rv f t l = some u → l.length ≤ u.length ∧ u.length ≤ l.length + t.length
  | 0, _, _, _, h => by simp [rv] at h
  | _ + 1, [], _, _, h => by simp [rv] at h
  | f + 1, b :: r, l, u, h => by
    simp only [rv] at h
    by_cases hb : b.toNat < 128
    · rw [if_pos hb] at h
      obtain rfl := Option.some.inj h
      simp
    · rw [if_neg hb] at h
      have := rv_length f r (l ++ [b]) u h
      simp at this ⊢
      omega

theorem RVv_form2 (t : List UInt8) (a : Nat) : RVv t a = no3 ∨ ∃ x y : Nat, RVv t a = .tuple #[.int .i64 (x : Int), .int .i64 (y : Int), .bool true] ∧ x ≤ 1000000000 ∧ a ≤ y ∧ y ≤ a + t.length := by
  unfold RVv RV
  cases h : rv 5 t [] with
  | none => exact Or.inl rfl
  | some u =>
    by_cases hg : good u = true
    · right
      have hl := rv_length 5 t [] u h
      have hd : D u ≤ 1000000000 := by unfold good at hg; simp at hg; exact hg.1
      simp only [hg, if_true]
      exact ⟨_, _, rfl, hd, by omega, by simp at hl; omega⟩
    · left
      simp [hg]

end Go.Proofs.YtedpihiobgdofaaDoor
