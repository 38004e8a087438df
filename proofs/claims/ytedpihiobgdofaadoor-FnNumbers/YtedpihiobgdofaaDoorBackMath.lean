/- Plain facts: what VarText, Decimal, ShortText and Hex write is read back. -/
import Derived.Test.YtedpihiobgdofaaDoorRVMath
import Derived.Test.YtedpihiobgdofaaDoorDecMath
import Derived.Test.YtedpihiobgdofaaDoorUnhexMath
import Derived.Lib.Strings
namespace Go.Proofs.YtedpihiobgdofaaDoor
open Go.RowKit

theorem D_V : ∀ k n : Nat, n ≤ k → D (V n) = n := by
  intro k
  induction k with
  | zero =>
    intro n h
    obtain rfl : n = 0 := by omega
    rw [V_small 0 (by omega)]
    rfl
  | succ k ih =>
    intro n h
    by_cases hb : 127 < n
    · rw [V_big n hb]
      simp only [D]
      rw [ih (n / 128) (by omega)]
      have : (UInt8.ofNat (n % 128 + 128)).toNat = n % 128 + 128 := by have := byte_of (n % 128 + 128) (by omega); omega
      rw [this]
      omega
    · rw [V_small n (by omega)]
      simp only [D]
      have : (UInt8.ofNat n).toNat = n := by have := byte_of n (by omega); omega
      rw [this]
      omega

theorem rv_V : ∀ (f n : Nat) (t l : List UInt8), n < 128 ^ f → 0 < f → rv f (V n ++ t) l = some (l ++ V n) := by
  intro f
  induction f with
  | zero => intro n t l _ h; omega
  | succ f ih =>
    intro n t l h _
    by_cases hb : 127 < n
    · have hf : 0 < f := by
        cases f with
        | zero => simp at h; omega
        | succ f => omega
      have ht : (UInt8.ofNat (n % 128 + 128)).toNat = n % 128 + 128 := by have := byte_of (n % 128 + 128) (by omega); omega
      rw [V_big n hb]
      simp only [List.cons_append, rv]
      rw [if_neg (by omega), ih (n / 128) t _ (by rw [Nat.pow_succ] at h; omega) hf]
      simp
    · have ht : (UInt8.ofNat n).toNat = n := by have := byte_of n (by omega); omega
      rw [V_small n (by omega)]
      simp only [List.cons_append, List.nil_append, rv]
      rw [if_pos (by omega)]

theorem good_V (n : Nat) (h : n ≤ 1000000000) : good (V n) = true := by
  unfold good
  rw [D_V n n (Nat.le_refl _)]
  simp [h]

/-- A number's bytes, whatever follows, are read back. -/
theorem RVv_V (n a : Nat) (t : List UInt8) (h : n ≤ 1000000000) : RVv (V n ++ t) a = .tuple #[.int .i64 (n : Int), .int .i64 ((a + (V n).length : Nat) : Int), .bool true] := by
  have hf : rv 5 (V n ++ t) [] = some (V n) := by
    have := rv_V 5 n t [] (by have : (128 : Nat) ^ 5 = 34359738368 := by decide
                              omega) (by omega)
    simpa using this
  exact RVv_good hf (good_V n h) (by rw [D_V n n (Nat.le_refl _)]) rfl

theorem fig_hexD (base d : Nat) (h16 : base ≤ 16) (hd : d < base) : fig base (hexD d) = some d := fig_some base d (hexD d) h16 hd rfl

theorem numF_dec : ∀ k n : Nat, n ≤ k → numF 10 (dec n) 0 = some n := by
  intro k
  induction k with
  | zero =>
    intro n h
    obtain rfl : n = 0 := by omega
    rfl
  | succ k ih =>
    intro n h
    by_cases h0 : n = 0
    · subst h0; rfl
    · rw [dec_pos n (by omega), numF_snoc, ih (n / 10) (by omega), fig_hexD 10 _ (by omega) (by omega)]
      simp only []
      congr 1
      omega

theorem dec_len : ∀ k n : Nat, n < 10 ^ k → (dec n).length ≤ k := by
  intro k
  induction k with
  | zero => intro n h; obtain rfl : n = 0 := by simpa using h
            simp [dec_zero]
  | succ k ih =>
    intro n h
    by_cases h0 : n = 0
    · subst h0; simp [dec_zero]
    · rw [dec_pos n (by omega)]
      have := ih (n / 10) (by rw [Nat.pow_succ] at h; omega)
      simp
      omega

theorem RD_decS (n : Nat) (h : n ≤ 1000000000) : RD (decS n) = some n := by
  have hp : (10 : Nat) ^ 10 = 10000000000 := by decide
  refine RD_some _ n ?_ ?_ h rfl
  · unfold decS
    split
    · simp
    · exact dec_len 10 n (by omega)
  · unfold decS
    split
    · subst_vars; decide
    · exact numF_dec n n (Nat.le_refl _)

theorem unhex_hex : ∀ (l acc : List UInt8), unhexA (hexOf l) acc = some (acc ++ l)
  | [], acc => by simp [hexOf, unhexA]
  | b :: l, acc => by
    have hb : b.toNat < 256 := b.toNat_lt
    simp only [hexOf, unhexA]
    rw [fig_hexD 16 _ (by omega) (by omega), fig_hexD 16 _ (by omega) (by omega)]
    simp only []
    rw [unhex_hex l]
    have : UInt8.ofNat (16 * (b.toNat / 16) + b.toNat % 16) = b := ofNat_toNat b _ (by omega)
    rw [this]
    simp

theorem add_snoc {P : Program} (wx : World) (l : List UInt8) (b : UInt8) (h : l.length + 1 ≤ 9223372036854775807) :
    (Op.stringOp .add ⟨l.toArray⟩ ⟨#[b]⟩).run P wx = .ok (.string ⟨(l ++ [b]).toArray⟩) wx := by
  rw [run_string_add_sum wx _ _ (by simp [ByteArray.size]; omega)]
  have : (⟨#[b]⟩ : ByteArray) = ⟨[b].toArray⟩ := rfl
  rw [this, ByteArray.mk_append_mk]

theorem V_length (n : Nat) (h : n ≤ 1000000000) : (V n).length ≤ 5 := by
  have hf : rv 5 (V n ++ []) [] = some (V n) := by
    have := rv_V 5 n [] [] (by have : (128 : Nat) ^ 5 = 34359738368 := by decide
                               omega) (by omega)
    simpa using this
  have hlen : ∀ (f : Nat) (t l u : List UInt8), rv f t l = some u → u.length ≤ l.length + f := by
    intro f
    induction f with
    | zero => intro t l u h; simp [rv] at h
    | succ f ih =>
      intro t l u h
      cases t with
      | nil => simp [rv] at h
      | cons b r =>
        simp only [rv] at h
        by_cases hb : b.toNat < 128
        · rw [if_pos hb] at h
          obtain rfl := Option.some.inj h
          simp
        · rw [if_neg hb] at h
          have := ih r (l ++ [b]) u h
          simp at this
          omega
  have := hlen 5 _ _ _ hf
  simpa using this

/-- Behind its length a text is cut out as it was. -/
theorem extract_short (k : Nat) (s : ByteArray) (v : List UInt8) (hk : k = s.size) : ((⟨v.toArray⟩ : ByteArray) ++ s).extract v.length (v.length + k) = s := by
  apply ByteArray.ext
  apply Array.toList_inj.1
  rw [Lib.extract_data]
  have hl : s.data.toList.length = s.size := by simp
  simp only [ByteArray.data_append, Array.toList_append]
  rw [List.drop_append_of_le_length (by simp)]
  simp
  rw [List.take_of_length_le (by simp; omega)]

end Go.Proofs.YtedpihiobgdofaaDoor
