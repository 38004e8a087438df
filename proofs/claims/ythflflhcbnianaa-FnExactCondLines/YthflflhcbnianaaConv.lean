/- A slice of one new byte makes the text of that byte. -/
import Derived.Test.YthflflhcbnianaaRows
import Derived.Test.YthflflhcbnianaaBase
import Derived.WalkKit
namespace Go.Proofs.Ythflflhcbnianaa
open Go.RowKit

/-- 'string([]byte{x})': the one byte. -/
theorem conv_one (wr : World) (x : Int) (b : UInt8) (h : x = (b.toNat : Int)) :
    (convert 52 9 (.slice (some ⟨wr.heap.size, 0, none⟩) 1 1)).run Try.prog (wr.alloc (.cells #[.int .u8 x] 5)) = .ok (.string ⟨#[b]⟩) (wr.alloc (.cells #[.int .u8 x] 5)) := by
  have ho : (wr.alloc (.cells #[.int .u8 x] 5)).ownsRow wr.heap.size 5 1 (.slice (some ⟨wr.heap.size, 0, none⟩) 1 1) 1 (bytesV [b]) := by
    have := World.ownsRow_lit (base := wr.heap.size) (e := 5) (size := 1) wr #[.int .u8 x] 1 (Nat.le_refl _) (by decide) rfl
    simpa [bytesV, h] using this
  have := own_convert (P := Try.prog) ho Try.underlying52 Try.underlying5 Try.underlying9
  exact this

end Go.Proofs.Ythflflhcbnianaa
