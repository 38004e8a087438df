/- Plain facts on figures read back: what a figure is worth below a base, and the number that figures tell. -/
import Derived.WalkKit
import Derived.ProofKit
import Derived.Laws.IdiomStrings
import Derived.Laws.BytesArg
import Derived.Laws.OwnMore
/- Plain facts that the proofs of this seat share: what a number in bytes is, and that an owned row of bytes makes the text of those bytes. -/
namespace Go.Proofs.YtojaohdmfahpmaaGreatDoor
open Go.RowKit

def bytesV (l : List UInt8) : List Value := l.map fun b => .int .u8 (b.toNat : Int)

theorem bytesV_push (l : List UInt8) (b : UInt8) (x : Int) (h : x = (b.toNat : Int)) : bytesV l ++ [.int .u8 x] = bytesV (l ++ [b]) := by
  subst h; simp [bytesV]

theorem own_convert {P : Program} {w : World} {base : Nat} {src dst e : TypeId} {v : Value} {l : List UInt8} {n : Nat} (h : w.ownsRow base e 1 v n (bytesV l))
    (hs : P.underlying src = some (.slice e)) (he : P.underlying e = some (.int .u8)) (hd : P.underlying dst = some .string) :
    (convert src dst v).run P w = .ok (.string ⟨l.toArray⟩) w := by
  have hn : n = l.length := by have := h.1; simpa [bytesV] using this.symm
  subst hn
  have h' := h
  rcases h.2 with ⟨rfl, h0⟩ | ⟨g, cap, cur, rfl, hg, hh, hnc, hcp, hcs, htake⟩
  · obtain rfl := List.length_eq_zero_iff.1 h0
    rw [run_convert_bytes_nil w src e hs he 0 0 dst hd]
    rfl
  · exact run_convert_bytes_back w src dst e ⟨g, 0, none⟩ cap l hs he hd (fun j hj => by
      rw [Addr.add_lit, Nat.zero_add, h'.cellAt j (by omega)]
      simp [bytesV, hj])

theorem own_below {w w' : World} {base e size : Nat} {v : Value} {n : Nat} {xs : List Value} (h : w.ownsRow base e size v n xs) (hb : Below w.heap.size w w') : w'.ownsRow base e size v n xs := by
  refine ⟨h.1, ?_⟩
  rcases h.2 with hn | ⟨g, cap, cur, rfl, hg, hh, rest⟩
  · exact .inl hn
  · exact .inr ⟨g, cap, cur, rfl, hg, (hb.block g (Array.getElem?_eq_some_iff.1 hh).1).trans hh, rest⟩

theorem ret_int {k : IntKind} {a b : Int} (h : a = b) : Ending.returned (.int k a) = .returned (.int k b) := by rw [h]

theorem byte_of (n : Nat) (h : n < 256) : (n : Int) = ((UInt8.ofNat n).toNat : Int) := by
  simp; omega

def vb : Nat → Nat → List UInt8
  | 0, n => [UInt8.ofNat n]
  | f + 1, n => if 127 < n then UInt8.ofNat (n % 128 + 128) :: vb f (n / 128) else [UInt8.ofNat n]

def V (n : Nat) : List UInt8 := vb n n

def hexN (q : Nat) : Nat := if q < 10 then 48 + q else 87 + q
def hexD (q : Nat) : UInt8 := UInt8.ofNat (hexN q)

theorem hexD_toNat (q : Nat) (h : q < 16) : ((hexD q).toNat : Int) = (hexN q : Nat) := by
  unfold hexD; rw [← byte_of]; unfold hexN; split <;> omega

theorem figs_at : ∀ p : Fin 16, ((⟨#[48, 49, 50, 51, 52, 53, 54, 55, 56, 57, 97, 98, 99, 100, 101, 102]⟩ : ByteArray)[p.val]'(p.isLt)) = hexD p.val := by decide

theorem figs_val (p : Nat) (h : p < 16) (h' : p < (⟨#[48, 49, 50, 51, 52, 53, 54, 55, 56, 57, 97, 98, 99, 100, 101, 102]⟩ : ByteArray).size) :
    ((⟨#[48, 49, 50, 51, 52, 53, 54, 55, 56, 57, 97, 98, 99, 100, 101, 102]⟩ : ByteArray)[p]'h') = hexD p := figs_at ⟨p, h⟩

abbrev figs : ByteArray := ⟨#[48, 49, 50, 51, 52, 53, 54, 55, 56, 57, 97, 98, 99, 100, 101, 102]⟩

def fig (base : Nat) (b : UInt8) : Option Nat :=
  if 48 ≤ b.toNat ∧ b.toNat ≤ 57 ∧ b.toNat - 48 < base then some (b.toNat - 48)
  else if 97 ≤ b.toNat ∧ b.toNat ≤ 102 ∧ b.toNat - 87 < base then some (b.toNat - 87)
  else none

def numF (base : Nat) : List UInt8 → Nat → Option Nat
  | [], n => some n
  | b :: r, n => match fig base b with
    | none => none
    | some d => numF base r (n * base + d)

theorem hexD_nat (d : Nat) (h : d < 16) : (hexD d).toNat = hexN d := by
  have := hexD_toNat d h; omega

theorem fig_some (base d : Nat) (b : UInt8) (h16 : base ≤ 16) (hd : d < base) (h : b.toNat = (hexD d).toNat) : fig base b = some d := by
  rw [hexD_nat d (by omega)] at h
  unfold hexN at h
  unfold fig
  by_cases h10 : d < 10
  · rw [if_pos h10] at h
    rw [if_pos (by omega)]
    congr 1
    omega
  · rw [if_neg h10] at h
    rw [if_neg (by omega), if_pos (by omega)]
    congr 1
    omega

theorem fig_none (base : Nat) (b : UInt8) (h16 : base ≤ 16) (h : ∀ d, d < base → ¬ b.toNat = (hexD d).toNat) : fig base b = none := by
  unfold fig
  by_cases h1 : 48 ≤ b.toNat ∧ b.toNat ≤ 57 ∧ b.toNat - 48 < base
  · exfalso
    refine h (b.toNat - 48) h1.2.2 ?_
    rw [hexD_nat _ (by omega)]
    unfold hexN
    rw [if_pos (by omega)]
    omega
  · rw [if_neg h1]
    by_cases h2 : 97 ≤ b.toNat ∧ b.toNat ≤ 102 ∧ b.toNat - 87 < base
    · exfalso
      refine h (b.toNat - 87) h2.2.2 ?_
      rw [hexD_nat _ (by omega)]
      unfold hexN
      rw [if_neg (by omega)]
      omega
    · rw [if_neg h2]

def numV : Option Nat → Value
  | none => .tuple #[.int .i64 0, .bool false]
  | some n => .tuple #[.int .i64 (n : Int), .bool true]

/-- The outer loop's state: i figures are read, they tell n. -/
def NS (base : Nat) (t : List UInt8) (i n : Nat) : Prop := numF base t 0 = numF base (t.drop i) n ∧ n < 16 ^ i

theorem NS.start (base : Nat) (t : List UInt8) : NS base t 0 0 := ⟨by simp, by simp⟩

theorem NS.next {base : Nat} {t : List UInt8} {i n d : Nat} (h : NS base t i n) (hi : i < t.length) (h16 : base ≤ 16) (hd : d < base) (hb : t[i].toNat = (hexD d).toNat) : NS base t (i + 1) (n * base + d) := by
  refine ⟨?_, ?_⟩
  · rw [h.1, List.drop_eq_getElem_cons hi]
    simp only [numF]
    rw [fig_some base d _ h16 hd hb]
  · rw [Nat.pow_succ]
    have h2 := h.2
    have : n * base ≤ n * 16 := Nat.mul_le_mul_left _ h16
    omega

theorem NS.none {base : Nat} {t : List UInt8} {i n : Nat} (h : NS base t i n) (hi : i < t.length) (h16 : base ≤ 16) (hb : ∀ d, d < base → ¬ t[i].toNat = (hexD d).toNat) : numF base t 0 = none := by
  rw [h.1, List.drop_eq_getElem_cons hi]
  simp only [numF]
  rw [fig_none base _ h16 hb]

theorem NS.done {base : Nat} {t : List UInt8} {i n : Nat} (h : NS base t i n) (hi : ¬ i < t.length) : numF base t 0 = some n := by
  rw [h.1, List.drop_eq_nil_of_le (by omega)]
  rfl

theorem NS.bound {base : Nat} {t : List UInt8} {i n : Nat} (h : NS base t i n) (hi : i ≤ 14) (h16 : base ≤ 16) : n < 72057594037927936 ∧ (0 : Int) ≤ (n : Int) * (base : Int) ∧ (n : Int) * (base : Int) ≤ 1152921504606846976 := by
  have h2 := h.2
  have h3 : 16 ^ i ≤ 16 ^ 14 := Nat.pow_le_pow_right (by omega) hi
  have h4 : (16 : Nat) ^ 14 = 72057594037927936 := by decide
  have hn : n < 72057594037927936 := by omega
  have h5 : n * base ≤ 72057594037927936 * 16 := Nat.mul_le_mul (by omega) h16
  have e : (n : Int) * (base : Int) = ((n * base : Nat) : Int) := by push_cast; rfl
  omega

end Go.Proofs.YtojaohdmfahpmaaGreatDoor
