/- Plain facts that the proofs of this seat share: what a number in bytes is, and that an owned row of bytes makes the text of those bytes. -/
import Derived.WalkKit
import Derived.ProofKit
import Derived.Laws.IdiomStrings
import Derived.Laws.BytesArg
import Derived.Laws.OwnMore
namespace Go.Proofs.Ythflflhcbnianaa
open Go.RowKit

def bytesV (l : List UInt8) : List Value := l.map fun b => .int .u8 (b.toNat : Int)

theorem bytesV_length (l : List UInt8) : (bytesV l).length = l.length := by simp [bytesV]

theorem bytesV_push (l : List UInt8) (b : UInt8) (x : Int) (h : x = (b.toNat : Int)) : bytesV l ++ [.int .u8 x] = bytesV (l ++ [b]) := by
  subst h; simp [bytesV]

theorem bytesV_push2 (l : List UInt8) (b c : UInt8) (x y : Int) (h : x = (b.toNat : Int)) (k : y = (c.toNat : Int)) : bytesV l ++ [.int .u8 x, .int .u8 y] = bytesV (l ++ [b, c]) := by
  subst h; subst k; simp [bytesV]

theorem own_convert {P : Program} {w : World} {base : Nat} {src dst e : TypeId} {v : Value} {l : List UInt8} {n : Nat} (h : w.ownsRow base e 1 v n (bytesV l))
    (hs : P.underlying src = some (.slice e)) (he : P.underlying e = some (.int .u8)) (hd : P.underlying dst = some .string) :
    (convert src dst v).run P w = .ok (.string ⟨l.toArray⟩) w := by
  have hn : n = l.length := by have := h.1; simpa [bytesV] using this.symm
  subst hn
  have h' := h
  rcases h.2 with ⟨rfl, h0⟩ | ⟨g, cap, cur, rfl, hg, hh, hnc, hcp, hcs, htake⟩
  · obtain rfl := List.length_eq_zero_iff.1 h0
    rw [run_convert_bytes_nil w src e hs he 0 0 dst hd]
    rfl
  · exact run_convert_bytes_back w src dst e ⟨g, 0, none⟩ cap l hs he hd (fun j hj => by
      rw [Addr.add_lit, Nat.zero_add, h'.cellAt j (by omega)]
      simp [bytesV, hj])

theorem own_below {w w' : World} {base e size : Nat} {v : Value} {n : Nat} {xs : List Value} (h : w.ownsRow base e size v n xs) (hb : Below w.heap.size w w') : w'.ownsRow base e size v n xs := by
  refine ⟨h.1, ?_⟩
  rcases h.2 with hn | ⟨g, cap, cur, rfl, hg, hh, rest⟩
  · exact .inl hn
  · exact .inr ⟨g, cap, cur, rfl, hg, (hb.block g (Array.getElem?_eq_some_iff.1 hh).1).trans hh, rest⟩

theorem ret_int {k : IntKind} {a b : Int} (h : a = b) : Ending.returned (.int k a) = .returned (.int k b) := by rw [h]

theorem byte_of (n : Nat) (h : n < 256) : (n : Int) = ((UInt8.ofNat n).toNat : Int) := by
  simp; omega

def vb : Nat → Nat → List UInt8
  | 0, n => [UInt8.ofNat n]
  | f + 1, n => if 127 < n then UInt8.ofNat (n % 128 + 128) :: vb f (n / 128) else [UInt8.ofNat n]

theorem vb_fuel : ∀ f g n : Nat, n ≤ f → n ≤ g → vb f n = vb g n
  | 0, 0, _, _, _ => rfl
  | 0, g + 1, n, h, _ => by simp [vb]; omega
  | f + 1, 0, n, _, h => by simp [vb]; omega
  | f + 1, g + 1, n, h, k => by
    simp only [vb]
    by_cases hn : 127 < n
    · rw [if_pos hn, if_pos hn, vb_fuel f g (n / 128) (by omega) (by omega)]
    · rw [if_neg hn, if_neg hn]

def V (n : Nat) : List UInt8 := vb n n

theorem V_big (n : Nat) (h : 127 < n) : V n = UInt8.ofNat (n % 128 + 128) :: V (n / 128) := by
  unfold V
  match n, h with
  | n + 1, h => simp only [vb]; rw [if_pos h, vb_fuel n ((n + 1) / 128) ((n + 1) / 128) (by omega) (by omega)]

theorem V_small (n : Nat) (h : n ≤ 127) : V n = [UInt8.ofNat n] := by
  unfold V
  match n, h with
  | 0, _ => rfl
  | n + 1, h => simp only [vb]; rw [if_neg (by omega)]

theorem V_len : ∀ f n : Nat, (vb f n).length ≤ f + 1
  | 0, _ => by simp [vb]
  | f + 1, n => by
    simp only [vb]
    by_cases h : 127 < n
    · rw [if_pos h]
      have := V_len f (n / 128)
      simp
      omega
    · rw [if_neg h]; simp

end Go.Proofs.Ythflflhcbnianaa
