/- Plain facts on sums: half of a number (down), exclusive-or the great odd number when it was odd; four times at once by a table of 16; that each step is one to one; four bytes of a sum, the highest first. -/
import Derived.Test.YtjanhiaadjbleaaDoorBase
import Derived.Laws.BitsAllLaws
namespace Go.Proofs.YtjanhiaadjbleaaDoor
open Go.RowKit

def hP (r : Nat) : Nat := if r = 1 then 3558460437 else 0
def half1 (s : Nat) : Nat := s / 2 ^^^ hP (s % 2)

theorem hP_lt (r : Nat) : hP r < 4294967296 := by unfold hP; split <;> omega

theorem half1_lt (s : Nat) (h : s < 4294967296) : half1 s < 4294967296 := by
  unfold half1
  have h1 : s / 2 < 2 ^ 32 := by omega
  have h2 : hP (s % 2) < 2 ^ 32 := by have := hP_lt (s % 2); omega
  have := Nat.xor_lt_two_pow h1 h2
  omega

theorem half1_xor (a b : Nat) : half1 (a ^^^ b) = half1 a ^^^ half1 b := by
  unfold half1
  have h1 : (a ^^^ b) / 2 = a / 2 ^^^ b / 2 := Nat.xor_div_two
  have h2 : hP ((a ^^^ b) % 2) = hP (a % 2) ^^^ hP (b % 2) := by
    have e : (a ^^^ b) % 2 = (a + b) % 2 := by
      have hx : (a ^^^ b) % 2 = (a % 2) ^^^ (b % 2) := by
        have := Nat.xor_mod_two_pow (a := a) (b := b) (n := 1)
        simpa using this
      rw [hx]
      rcases Nat.mod_two_eq_zero_or_one a with ha | ha <;> rcases Nat.mod_two_eq_zero_or_one b with hb | hb
      · rw [show (a + b) % 2 = 0 by omega, ha, hb]; decide
      · rw [show (a + b) % 2 = 1 by omega, ha, hb]; decide
      · rw [show (a + b) % 2 = 1 by omega, ha, hb]; decide
      · rw [show (a + b) % 2 = 0 by omega, ha, hb]; decide
    rw [e]
    rcases Nat.mod_two_eq_zero_or_one a with ha | ha <;> rcases Nat.mod_two_eq_zero_or_one b with hb | hb
    · rw [show (a + b) % 2 = 0 by omega, ha, hb]; decide
    · rw [show (a + b) % 2 = 1 by omega, ha, hb]; decide
    · rw [show (a + b) % 2 = 1 by omega, ha, hb]; decide
    · rw [show (a + b) % 2 = 0 by omega, ha, hb]; decide
  rw [h1, h2]
  ac_rfl

def halfN : Nat → Nat → Nat
  | 0, s => s
  | k + 1, s => half1 (halfN k s)

theorem halfN_lt (s : Nat) (h : s < 4294967296) : ∀ k, halfN k s < 4294967296
  | 0 => h
  | k + 1 => half1_lt _ (halfN_lt s h k)

def tabN : List Nat := [0, 1166650509, 2333301018, 3466261911, 3189058079, 4221339282, 889615109, 1888477064, 3558460437, 2442158232, 1594529039, 444807554, 1779230218, 797264519, 3776954128, 2761298845]

theorem tab_at : ∀ r : Fin 16, hP (r.val / 8 % 2) ^^^ (half1 (hP (r.val / 4 % 2)) ^^^ (half1 (half1 (hP (r.val / 2 % 2))) ^^^ half1 (half1 (half1 (hP (r.val % 2)))))) = tabN.getD r.val 0 := by decide

theorem half4 (s : Nat) : halfN 4 s = s / 16 ^^^ tabN.getD (s % 16) 0 := by
  have u : ∀ x, half1 x = x / 2 ^^^ hP (x % 2) := fun _ => rfl
  have t := tab_at ⟨s % 16, by omega⟩
  simp only [] at t
  rw [show s % 16 / 8 % 2 = s / 8 % 2 by omega, show s % 16 / 4 % 2 = s / 4 % 2 by omega, show s % 16 / 2 % 2 = s / 2 % 2 by omega, show s % 16 % 2 = s % 2 by omega] at t
  rw [← t]
  show half1 (half1 (half1 (half1 s))) = _
  have e1 : half1 (half1 (half1 (half1 s))) = half1 (half1 (half1 (s / 2))) ^^^ half1 (half1 (half1 (hP (s % 2)))) := by
    rw [u s, half1_xor, half1_xor, half1_xor]
  have e2 : half1 (half1 (half1 (s / 2))) = half1 (half1 (s / 4)) ^^^ half1 (half1 (hP (s / 2 % 2))) := by
    rw [u (s / 2), half1_xor, half1_xor, Nat.div_div_eq_div_mul]
  have e3 : half1 (half1 (s / 4)) = half1 (s / 8) ^^^ half1 (hP (s / 4 % 2)) := by
    rw [u (s / 4), half1_xor, Nat.div_div_eq_div_mul]
  have e4 : half1 (s / 8) = s / 16 ^^^ hP (s / 8 % 2) := by
    rw [u (s / 8), Nat.div_div_eq_div_mul]
  rw [e1, e2, e3, e4]
  ac_rfl

theorem halfN_add (s : Nat) : ∀ a b, halfN (a + b) s = halfN a (halfN b s)
  | 0, b => by simp [halfN]
  | a + 1, b => by rw [show a + 1 + b = (a + b) + 1 by omega]; simp only [halfN]; rw [halfN_add s a b]

/-- One byte more. -/
def sumB (s : Nat) (b : UInt8) : Nat := halfN 8 (s ^^^ b.toNat)

theorem xor_byte_lt (s : Nat) (b : UInt8) (h : s < 4294967296) : s ^^^ b.toNat < 4294967296 := by
  have h1 : s < 2 ^ 32 := by omega
  have h2 : b.toNat < 2 ^ 32 := by have := b.toNat_lt; omega
  have := Nat.xor_lt_two_pow h1 h2
  omega

theorem sumB_lt (s : Nat) (b : UInt8) (h : s < 4294967296) : sumB s b < 4294967296 := halfN_lt _ (xor_byte_lt s b h) 8

theorem sumB_tab (s x y : Nat) (b : UInt8) (hx : x = s ^^^ b.toNat) (hy : y = x / 16 ^^^ tabN.getD (x % 16) 0) : sumB s b = y / 16 ^^^ tabN.getD (y % 16) 0 := by
  unfold sumB
  rw [← hx, show (8 : Nat) = 4 + 4 from rfl, halfN_add, half4 x, ← hy, half4 y]

def sumL (s : Nat) (l : List UInt8) : Nat := l.foldl sumB s

theorem sumL_lt : ∀ (l : List UInt8) (s : Nat), s < 4294967296 → sumL s l < 4294967296
  | [], _, h => h
  | b :: l, s, h => sumL_lt l (sumB s b) (sumB_lt s b h)

theorem sumL_append (s : Nat) (l m : List UInt8) : sumL s (l ++ m) = sumL (sumL s l) m := by simp [sumL]

theorem sumL_snoc (s : Nat) (l : List UInt8) (b : UInt8) : sumL s (l ++ [b]) = sumB (sumL s l) b := by simp [sumL]

theorem sumL_take (s : Nat) (t : ByteArray) (k : Nat) (h : k < t.size) : sumL s (t.data.toList.take (k + 1)) = sumB (sumL s (t.data.toList.take k)) t[k] := by
  rw [List.take_succ_eq_append_getElem (by simpa using h), sumL_snoc]
  rfl

/-- A step is one to one below 2^32: its highest bit tells whether the number was odd. -/
theorem half1_inj (a b : Nat) (ha : a < 4294967296) (hb : b < 4294967296) (h : half1 a = half1 b) : a = b := by
  have key : ∀ x, x < 4294967296 → ((half1 x).testBit 31 = decide (x % 2 = 1)) := by
    intro x hx
    unfold half1
    rw [Nat.testBit_xor, Nat.testBit_lt_two_pow (show x / 2 < 2 ^ 31 by omega)]
    rcases Nat.mod_two_eq_zero_or_one x with h | h
    · rw [h]; decide
    · rw [h]; decide
  have hm : a % 2 = b % 2 := by
    have k1 := key a ha
    have k2 := key b hb
    rw [h, k2] at k1
    have : (b % 2 = 1) ↔ (a % 2 = 1) := by simpa using k1
    omega
  unfold half1 at h
  rw [hm] at h
  have hd : a / 2 = b / 2 := by
    have := congrArg (· ^^^ hP (b % 2)) h
    simpa [Nat.xor_assoc] using this
  omega

theorem halfN_inj (a b : Nat) (ha : a < 4294967296) (hb : b < 4294967296) : ∀ k, halfN k a = halfN k b → a = b
  | 0, h => h
  | k + 1, h => halfN_inj a b ha hb k (half1_inj _ _ (halfN_lt a ha k) (halfN_lt b hb k) h)

theorem xor_right_inj (a b c : Nat) (h : a ^^^ c = b ^^^ c) : a = b := by
  have := congrArg (· ^^^ c) h
  simpa [Nat.xor_assoc] using this

theorem xor_left_inj (a b c : Nat) (h : c ^^^ a = c ^^^ b) : a = b := by
  rw [Nat.xor_comm c a, Nat.xor_comm c b] at h
  exact xor_right_inj a b c h

theorem sumB_inj_sum (a b : Nat) (c : UInt8) (ha : a < 4294967296) (hb : b < 4294967296) (h : sumB a c = sumB b c) : a = b :=
  xor_right_inj a b c.toNat (halfN_inj _ _ (xor_byte_lt a c ha) (xor_byte_lt b c hb) 8 h)

theorem sumB_inj_byte (a : Nat) (c d : UInt8) (ha : a < 4294967296) (h : sumB a c = sumB a d) : c = d :=
  UInt8.toNat_inj.1 (xor_left_inj _ _ a (halfN_inj _ _ (xor_byte_lt a c ha) (xor_byte_lt a d ha) 8 h))

theorem sumL_inj_sum : ∀ (l : List UInt8) (a b : Nat), a < 4294967296 → b < 4294967296 → sumL a l = sumL b l → a = b
  | [], _, _, _, _, h => h
  | c :: l, a, b, ha, hb, h => sumB_inj_sum a b c ha hb (sumL_inj_sum l _ _ (sumB_lt a c ha) (sumB_lt b c hb) h)

/-- One byte turned turns the sum. -/
theorem sumL_turned (s : Nat) (hs : s < 4294967296) (l r : List UInt8) (c d : UInt8) (h : sumL s (l ++ c :: r) = sumL s (l ++ d :: r)) : c = d := by
  rw [sumL_append, sumL_append] at h
  have hl := sumL_lt l s hs
  exact sumB_inj_byte _ c d hl (sumL_inj_sum r _ _ (sumB_lt _ c hl) (sumB_lt _ d hl) h)

/-- A sum's four bytes, the highest first. -/
def four (x : Nat) : List UInt8 := [UInt8.ofNat (x / 16777216 % 256), UInt8.ofNat (x / 65536 % 256), UInt8.ofNat (x / 256 % 256), UInt8.ofNat (x % 256)]

theorem four_length (x : Nat) : (four x).length = 4 := rfl

theorem ofNat_inj (a b : Nat) (ha : a < 256) (hb : b < 256) (h : UInt8.ofNat a = UInt8.ofNat b) : a = b := by
  have k1 := byte_of a ha
  have k2 := byte_of b hb
  rw [h] at k1
  omega

theorem four_inj (a b : Nat) (ha : a < 4294967296) (hb : b < 4294967296) (h : four a = four b) : a = b := by
  unfold four at h
  simp only [List.cons.injEq, and_true] at h
  obtain ⟨h1, h2, h3, h4⟩ := h
  have e1 := ofNat_inj _ _ (by omega) (by omega) h1
  have e2 := ofNat_inj _ _ (by omega) (by omega) h2
  have e3 := ofNat_inj _ _ (by omega) (by omega) h3
  have e4 := ofNat_inj _ _ (by omega) (by omega) h4
  omega

end Go.Proofs.YtjanhiaadjbleaaDoor
