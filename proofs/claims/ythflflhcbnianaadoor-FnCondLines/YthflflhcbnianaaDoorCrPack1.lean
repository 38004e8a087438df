/- Words of a machine in plain numbers: which are right. -/

namespace Go.Proofs.YthflflhcbnianaaDoor

/-- In lo .. hi. -/
def inB (n lo hi : Int) : Bool := decide (lo ≤ n) && decide (n ≤ hi)

theorem inB_true {n lo hi : Int} : inB n lo hi = true ↔ lo ≤ n ∧ n ≤ hi := by simp [inB]

theorem inB_false {n lo hi : Int} : inB n lo hi = false ↔ n < lo ∨ hi < n := by
  cases h : inB n lo hi
  · simp [inB] at h
    simp; omega
  · rw [inB_true] at h
    simp; omega

/-- A word that is right: Op o, K k, Yes y, No n. -/
def insP (o k y n : Int) : Prop :=
  1 ≤ o ∧ o ≤ 8 ∧ 0 ≤ k ∧ k ≤ 4294967295 ∧ 0 ≤ y ∧ y ≤ 15 ∧ 0 ≤ n ∧ n ≤ 15 ∧ ((3 ≤ o ∧ o ≤ 6) ∨ (y = 0 ∧ n = 0)) ∧ (o = 1 → k ≤ 7) ∧ (o = 7 → k ≤ 399)

def insB (o k y n : Int) : Bool :=
  decide (1 ≤ o ∧ o ≤ 8 ∧ 0 ≤ k ∧ k ≤ 4294967295 ∧ 0 ≤ y ∧ y ≤ 15 ∧ 0 ≤ n ∧ n ≤ 15 ∧ ((3 ≤ o ∧ o ≤ 6) ∨ (y = 0 ∧ n = 0)) ∧ (o = 1 → k ≤ 7) ∧ (o = 7 → k ≤ 399))

theorem insB_true {o k y n : Int} : insB o k y n = true ↔ insP o k y n := decide_eq_true_iff

theorem insB_false {o k y n : Int} : insB o k y n = false ↔ ¬ insP o k y n := decide_eq_false_iff_not

end Go.Proofs.YthflflhcbnianaaDoor
