/- Plain facts on figures: two figures a byte, the higher half first. -/
import Derived.Test.YthflflhcbnianaaBase
namespace Go.Proofs.Ythflflhcbnianaa
open Go.RowKit

def hexN (q : Nat) : Nat := if q < 10 then 48 + q else 87 + q
def hexD (q : Nat) : UInt8 := UInt8.ofNat (hexN q)

def hexOf : List UInt8 → List UInt8
  | [] => []
  | b :: r => hexD (b.toNat / 16) :: hexD (b.toNat % 16) :: hexOf r

theorem hexOf_snoc (b : UInt8) : ∀ l : List UInt8, hexOf (l ++ [b]) = hexOf l ++ [hexD (b.toNat / 16), hexD (b.toNat % 16)]
  | [] => rfl
  | c :: l => by simp [hexOf, hexOf_snoc b l]

theorem hexOf_length : ∀ l : List UInt8, (hexOf l).length = 2 * l.length
  | [] => rfl
  | c :: l => by simp [hexOf, hexOf_length l]; omega

theorem hexD_toNat (q : Nat) (h : q < 16) : ((hexD q).toNat : Int) = (hexN q : Nat) := by
  unfold hexD; rw [← byte_of]; unfold hexN; split <;> omega

theorem take_snoc (s : ByteArray) (k : Nat) (h : k < s.size) : s.data.toList.take (k + 1) = s.data.toList.take k ++ [s[k]] := by
  rw [List.take_succ_eq_append_getElem (by simpa using h)]; rfl

theorem hex_take (s : ByteArray) (k : Nat) (h : k < s.size) : hexOf (s.data.toList.take (k + 1)) = hexOf (s.data.toList.take k) ++ [hexD (s[k].toNat / 16), hexD (s[k].toNat % 16)] := by
  rw [take_snoc s k h, hexOf_snoc]

theorem figs_at : ∀ p : Fin 16, ((⟨#[48, 49, 50, 51, 52, 53, 54, 55, 56, 57, 97, 98, 99, 100, 101, 102]⟩ : ByteArray)[p.val]'(p.isLt)) = hexD p.val := by decide

theorem figs_val (p : Nat) (h : p < 16) (h' : p < (⟨#[48, 49, 50, 51, 52, 53, 54, 55, 56, 57, 97, 98, 99, 100, 101, 102]⟩ : ByteArray).size) :
    ((⟨#[48, 49, 50, 51, 52, 53, 54, 55, 56, 57, 97, 98, 99, 100, 101, 102]⟩ : ByteArray)[p]'h') = hexD p := figs_at ⟨p, h⟩

theorem tdiv_in (n m q : Nat) (h : q = n / m) : ((n : Int)).tdiv (m : Int) = (q : Int) := by
  subst h; rw [Int.tdiv_eq_ediv_of_nonneg (by omega)]; simp

theorem tmod_in (n m q : Nat) (h : q = n % m) : ((n : Int)).tmod (m : Int) = (q : Int) := by
  subst h; rw [Int.tmod_eq_emod_of_nonneg (by omega)]; simp

abbrev figs : ByteArray := ⟨#[48, 49, 50, 51, 52, 53, 54, 55, 56, 57, 97, 98, 99, 100, 101, 102]⟩

theorem figs_push (l : List UInt8) (p q : Nat) (hp : p < 16) (hq : q < 16) (h1 : p < figs.size) (h2 : q < figs.size) :
    bytesV l ++ [.int .u8 ((figs[p]'h1).toNat : Int), .int .u8 ((figs[q]'h2).toNat : Int)] = bytesV (l ++ [hexD p, hexD q]) := by
  rw [bytesV_push2 l (hexD p) (hexD q) _ _ (by rw [figs_val p hp]) (by rw [figs_val q hq])]

theorem u8_in (x : Int) (p : Nat) (h : x = (p : Int)) (hp : p < 256) : IntKind.u8.wrap x = (p : Int) := by
  subst h; exact IntWalk.u8_in _ (by omega)

end Go.Proofs.Ythflflhcbnianaa
