/- What impl.DigestHex and spec.DigestHex answer at every text of at most 1048576 bytes. -/
import Derived.Test.YtfbdbeaijkhbfaaDoorDigestI
import Derived.Test.YtfbdbeaijkhbfaaDoorDigestS
import Derived.Test.YtfbdbeaijkhbfaaDoorHexI
import Derived.Test.YtfbdbeaijkhbfaaDoorHexS
namespace Go.Proofs.YtfbdbeaijkhbfaaDoor
open Go.RowKit
set_option linter.unusedVariables false

theorem digestL_length (l : List UInt8) : (digestL l).length = 32 := rfl

theorem iDigestHex_any (s : ByteArray) (w : World) (hs : s.size ≤ 1048576) (hK : TabK w) (hB : TabB w) :
    Calls Tryd.prog 18 #[.string s] w fun e w' => e = .returned (.string ⟨(hexOf (digestL s.data.toList)).toArray⟩) ∧ Below w.heap.size w w' := by
  have HT : Hid (TabK w ∧ TabB w) := ⟨hK, hB⟩
  obtain ⟨D, hD⟩ : ∃ D : ByteArray, D = ⟨(digestL s.data.toList).toArray⟩ := ⟨_, rfl⟩
  have hDs : D.size = 32 := by rw [hD]; show (digestL s.data.toList).toArray.size = 32; rw [List.size_toArray, digestL_length]
  have HD : Hid (D = ⟨(digestL s.data.toList).toArray⟩ ∧ D.size = 32) := ⟨hD, hDs⟩
  clear hK hB hDs
  go_enter Tryd.func18, Tryd.ntmps18
  go_wp2_with fail
  refine (iDigest_any s _ hs HT.out.1 HT.out.2).mono ?_
  rintro e w1 ⟨rfl, b1⟩
  rw [← hD]
  clear hD
  go_wp2_with fail
  refine (iHex_in D _ (by have := HD.out.2; omega)).mono ?_
  rintro e w2 ⟨rfl, b2⟩
  have b3 := b1.trans (b2.mono b1.size)
  clear b1 b2
  go_wp2
  go_ret
  exact ⟨by rw [HD.out.1]; rfl, b3⟩

end Go.Proofs.YtfbdbeaijkhbfaaDoor
