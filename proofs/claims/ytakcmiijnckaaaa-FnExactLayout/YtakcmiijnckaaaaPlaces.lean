/- What DrawPlaces answers: twelve numbers below 10000, in new memory. -/
import Derived.Test.YtakcmiijnckaaaaDraws2
namespace Go.Proofs.Ytakcmiijnckaaaa
open Go.RowKit
set_option linter.unusedVariables false

theorem Try.infoI : (Try.prog.info? 3).map (fun i => (i.zero, i.size, i.bytes)) = some (some (.int .i64 0), 1, 8) := by kernel_rfl

def intsV (l : List Nat) : List Value := l.map fun (z : Nat) => Value.int .i64 (z : Int)

theorem intsV_push (l : List Nat) (z : Nat) : intsV l ++ [Value.int .i64 (z : Int)] = intsV (l ++ [z]) := by simp [intsV]

theorem own_lower {w : World} {base base' e size : Nat} {v : Value} {n : Nat} {xs : List Value} (h : w.ownsRow base e size v n xs) (hb : base' ≤ base) : w.ownsRow base' e size v n xs := by
  refine ⟨h.1, ?_⟩
  rcases h.2 with hn | ⟨g, cap, cur, rfl, hg, rest⟩
  · exact .inl hn
  · exact .inr ⟨g, cap, cur, rfl, Nat.le_trans hb hg, rest⟩

end Go.Proofs.Ytakcmiijnckaaaa
