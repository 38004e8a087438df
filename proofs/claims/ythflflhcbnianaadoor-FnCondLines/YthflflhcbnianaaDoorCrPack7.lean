/- Plain facts on the draws' numbers: what is masked by 255 is a byte's number. -/
import Derived.Test.YthflflhcbnianaaDoorCrPack5
import Derived.Laws.BitsAllLaws
namespace Go.Proofs.YthflflhcbnianaaDoor
open Go.RowKit

theorem and255 (n : Int) : bits .and .i64 n 255 = n % 256 := by
  have e : (BitVec.ofInt 64 255).toNat = 2 ^ 8 - 1 := by decide
  have k : (BitVec.ofInt 64 n &&& BitVec.ofInt 64 255).toNat = (n % ((2 ^ 64 : Nat) : Int)).toNat % 2 ^ 8 := by
    rw [BitVec.toNat_and, BitVec.toNat_ofInt, e, Nat.and_two_pow_sub_one_eq_mod]
  show IntKind.i64.wrap ((BitVec.ofInt 64 n &&& BitVec.ofInt 64 255).toNat : Nat) = n % 256
  rw [k, IntKind.wrap_i64]
  omega

theorem and255_byte (n : Int) : ∃ x : Nat, x ≤ 255 ∧ bits .and .i64 n 255 = (x : Int) :=
  ⟨(n % 256).toNat, by omega, by rw [and255]; omega⟩

end Go.Proofs.YthflflhcbnianaaDoor
