/- Plain facts on figures read back: what a figure is worth below a base, and the number that figures tell. -/
import Derived.WalkKit
import Derived.ProofKit
import Derived.Laws.IdiomStrings
import Derived.Laws.BytesArg
import Derived.Laws.OwnMore
/- Plain facts that the proofs of this seat share: what a number in bytes is, and that an owned row of bytes makes the text of those bytes. -/
namespace Go.Proofs.YthflflhcbnianaaDoor
open Go.RowKit

theorem own_below {w w' : World} {base e size : Nat} {v : Value} {n : Nat} {xs : List Value} (h : w.ownsRow base e size v n xs) (hb : Below w.heap.size w w') : w'.ownsRow base e size v n xs := by
  refine ⟨h.1, ?_⟩
  rcases h.2 with hn | ⟨g, cap, cur, rfl, hg, hh, rest⟩
  · exact .inl hn
  · exact .inr ⟨g, cap, cur, rfl, hg, (hb.block g (Array.getElem?_eq_some_iff.1 hh).1).trans hh, rest⟩

theorem ret_int {k : IntKind} {a b : Int} (h : a = b) : Ending.returned (.int k a) = .returned (.int k b) := by rw [h]

def vb : Nat → Nat → List UInt8
  | 0, n => [UInt8.ofNat n]
  | f + 1, n => if 127 < n then UInt8.ofNat (n % 128 + 128) :: vb f (n / 128) else [UInt8.ofNat n]

def hexN (q : Nat) : Nat := if q < 10 then 48 + q else 87 + q
def hexD (q : Nat) : UInt8 := UInt8.ofNat (hexN q)



end Go.Proofs.YthflflhcbnianaaDoor
