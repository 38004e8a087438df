/- Plain facts on figures read back: what a figure is worth below a base, and the number that figures tell. -/
import Derived.WalkKit
import Derived.ProofKit
import Derived.Laws.IdiomStrings
import Derived.Laws.BytesArg
import Derived.Laws.OwnMore
/- Plain facts that the proofs of this seat share: what a number in bytes is, and that an owned row of bytes makes the text of those bytes. -/
namespace Go.Proofs.YthflflhcbnianaaDoor
open Go.RowKit

def bytesV (l : List UInt8) : List Value := l.map fun b => .int .u8 (b.toNat : Int)

theorem own_convert {P : Program} {w : World} {base : Nat} {src dst e : TypeId} {v : Value} {l : List UInt8} {n : Nat} (h : w.ownsRow base e 1 v n (bytesV l))
    (hs : P.underlying src = some (.slice e)) (he : P.underlying e = some (.int .u8)) (hd : P.underlying dst = some .string) :
    (convert src dst v).run P w = .ok (.string ⟨l.toArray⟩) w := by
  have hn : n = l.length := by have := h.1; simpa [bytesV] using this.symm
  subst hn
  have h' := h
  rcases h.2 with ⟨rfl, h0⟩ | ⟨g, cap, cur, rfl, hg, hh, hnc, hcp, hcs, htake⟩
  · obtain rfl := List.length_eq_zero_iff.1 h0
    rw [run_convert_bytes_nil w src e hs he 0 0 dst hd]
    rfl
  · exact run_convert_bytes_back w src dst e ⟨g, 0, none⟩ cap l hs he hd (fun j hj => by
      rw [Addr.add_lit, Nat.zero_add, h'.cellAt j (by omega)]
      simp [bytesV, hj])

theorem own_below {w w' : World} {base e size : Nat} {v : Value} {n : Nat} {xs : List Value} (h : w.ownsRow base e size v n xs) (hb : Below w.heap.size w w') : w'.ownsRow base e size v n xs := by
  refine ⟨h.1, ?_⟩
  rcases h.2 with hn | ⟨g, cap, cur, rfl, hg, hh, rest⟩
  · exact .inl hn
  · exact .inr ⟨g, cap, cur, rfl, hg, (hb.block g (Array.getElem?_eq_some_iff.1 hh).1).trans hh, rest⟩

theorem ret_int {k : IntKind} {a b : Int} (h : a = b) : Ending.returned (.int k a) = .returned (.int k b) := by rw [h]

theorem byte_of (n : Nat) (h : n < 256) : (n : Int) = ((UInt8.ofNat n).toNat : Int) := by
  simp; omega

def hexN (q : Nat) : Nat := if q < 10 then 48 + q else 87 + q
def hexD (q : Nat) : UInt8 := UInt8.ofNat (hexN q)

theorem hexD_toNat (q : Nat) (h : q < 16) : ((hexD q).toNat : Int) = (hexN q : Nat) := by
  unfold hexD; rw [← byte_of]; unfold hexN; split <;> omega



end Go.Proofs.YthflflhcbnianaaDoor
