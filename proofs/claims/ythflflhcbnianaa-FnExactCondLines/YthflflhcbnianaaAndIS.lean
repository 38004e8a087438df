/- What impl's and spec's WideAnd answer, of any numbers. -/
import Derived.Test.YthflflhcbnianaaWideIS
namespace Go.Proofs.Ythflflhcbnianaa
open Go.RowKit
set_option linter.unusedVariables false

/-- Half by half, bit by bit; nothing when one is not right. -/
def andW (p q : Int × Int) : Int × Int := if wideB p && wideB q then (bits .and .i64 p.1 q.1, bits .and .i64 p.2 q.2) else (0, 0)

theorem andW_yes {a b c d : Int} (h : wideB (a, b) = true) (k : wideB (c, d) = true) : andW (a, b) (c, d) = (bits .and .i64 a c, bits .and .i64 b d) := by simp [andW, h, k]

theorem andW_no1 {a b c d : Int} (h : wideB (a, b) = false) : andW (a, b) (c, d) = (0, 0) := by simp [andW, h]

theorem andW_no2 {a b c d : Int} (h : wideB (c, d) = false) : andW (a, b) (c, d) = (0, 0) := by simp [andW, h]

theorem bcell {W w1 : World} (hb : Below W.heap.size W w1) : (∀ b o, b < W.heap.size → w1.cell? ⟨b, o, none⟩ = W.cell? ⟨b, o, none⟩) ∧ (∀ b o, b < W.heap.size → w1.frozen? ⟨b, o, none⟩ = W.frozen? ⟨b, o, none⟩) :=
  ⟨fun b o h => hb.cell (p := ⟨b, o, none⟩) h, fun b o h => hb.frozen (p := ⟨b, o, none⟩) h⟩

end Go.Proofs.Ythflflhcbnianaa
