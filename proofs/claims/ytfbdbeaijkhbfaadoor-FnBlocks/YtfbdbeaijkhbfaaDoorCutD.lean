/- What impl.CutDigest and spec.CutDigest answer at every text of at most 1048576 bytes and every number. -/
import Derived.Test.YtfbdbeaijkhbfaaDoorDigestI
import Derived.Test.YtfbdbeaijkhbfaaDoorDigestS
import Derived.Test.YtfbdbeaijkhbfaaDoorVar
namespace Go.Proofs.YtfbdbeaijkhbfaaDoor
open Go.RowKit
set_option linter.unusedVariables false

theorem iCut_out (s : ByteArray) (n : Int) (w : World) (hn : n < 1 ∨ 32 < n) :
    Calls Tryd.prog 13 #[.string s, .int .i64 n] w fun e w' => e = .returned (.string ⟨#[]⟩) ∧ Below w.heap.size w w' := by
  by_cases h1 : n < 1
  · go_enter Tryd.func13, Tryd.ntmps13
    go_wp2
    go_ret
    exact ⟨rfl, Below.refl _ _⟩
  · have h2 : 32 < n := by omega
    go_enter Tryd.func13, Tryd.ntmps13
    go_wp2
    go_ret
    exact ⟨rfl, Below.refl _ _⟩

theorem iCut_in (s X : ByteArray) (n : Nat) (w : World) (hs : s.size ≤ 1048576) (h1 : 1 ≤ n) (h2 : n ≤ 32) (hK : TabK w) (hB : TabB w) (hX : (⟨(digestL s.data.toList).toArray⟩ : ByteArray).extract 0 n = X) :
    Calls Tryd.prog 13 #[.string s, .int .i64 (n : Int)] w fun e w' => e = .returned (.string X) ∧ Below w.heap.size w w' := by
  have HT : Hid (TabK w ∧ TabB w) := ⟨hK, hB⟩
  obtain ⟨D, hD⟩ : ∃ D : ByteArray, D = ⟨(digestL s.data.toList).toArray⟩ := ⟨_, rfl⟩
  have hDs : D.size = 32 := by rw [hD]; show (digestL s.data.toList).toArray.size = 32; rw [List.size_toArray]; rfl
  rw [← hD] at hX
  have b1 : ¬ ((n : Int) < 1) := by omega
  have b2 : ¬ ((32 : Int) < (n : Int)) := by omega
  have b3 : (n : Int) ≤ (D.size : Int) := by omega
  have b4 : (0 : Int) ≤ (n : Int) := by omega
  clear hK hB hDs
  go_enter Tryd.func13, Tryd.ntmps13
  go_wp2_with fail
  refine (iDigest_any s _ hs HT.out.1 HT.out.2).mono ?_
  rintro e w1 ⟨rfl, c1⟩
  rw [← hD]
  clear hD
  go_wp2
  go_ret
  exact ⟨rfl, c1⟩

end Go.Proofs.YtfbdbeaijkhbfaaDoor
