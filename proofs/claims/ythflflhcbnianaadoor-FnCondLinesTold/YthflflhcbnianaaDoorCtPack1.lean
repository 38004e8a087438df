/- Words of a machine in plain numbers: which are right. -/

namespace Go.Proofs.YthflflhcbnianaaDoor

def insB (o k y n : Int) : Bool :=
  decide (1 ≤ o ∧ o ≤ 8 ∧ 0 ≤ k ∧ k ≤ 4294967295 ∧ 0 ≤ y ∧ y ≤ 15 ∧ 0 ≤ n ∧ n ≤ 15 ∧ ((3 ≤ o ∧ o ≤ 6) ∨ (y = 0 ∧ n = 0)) ∧ (o = 1 → k ≤ 7) ∧ (o = 7 → k ≤ 399))

end Go.Proofs.YthflflhcbnianaaDoor
