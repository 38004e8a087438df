/- A slice of one new byte makes the text of that byte. -/
import Derived.Test.YthflflhcbnianaaDoorRows
import Derived.Test.YthflflhcbnianaaDoorCtPack5
import Derived.WalkKit
/- What the program's table says of a byte's type. -/
namespace Go.Proofs.YthflflhcbnianaaDoor
open Go.RowKit

theorem figure_any (p : Nat) (w : World) (hp : p < 16) :
    Calls Tryd.prog 86 #[.int .i64 (p : Int)] w fun e w' => e = .returned (.int .u8 (hexN p : Nat)) ∧ w = w' := by
  by_cases h : p < 10
  · go_enter Tryd.func86, Tryd.ntmps86
    go_wp2
    go_ret
    exact ⟨by unfold hexN; rw [if_pos h]; simp, rfl⟩
  · go_enter Tryd.func86, Tryd.ntmps86
    go_wp2
    go_ret
    exact ⟨ret_int (a := 97 + (p : Int) - 10) (by unfold hexN; rw [if_neg h]; omega), rfl⟩

/-- 'string([]byte{x})': the one byte. -/
theorem conv_one (wr : World) (x : Int) (b : UInt8) (h : x = (b.toNat : Int)) :
    (convert 22 9 (.slice (some ⟨wr.heap.size, 0, none⟩) 1 1)).run Tryd.prog (wr.alloc (.cells #[.int .u8 x] 5)) = .ok (.string ⟨#[b]⟩) (wr.alloc (.cells #[.int .u8 x] 5)) := by
  have ho : (wr.alloc (.cells #[.int .u8 x] 5)).ownsRow wr.heap.size 5 1 (.slice (some ⟨wr.heap.size, 0, none⟩) 1 1) 1 (bytesV [b]) := by
    have := World.ownsRow_lit (base := wr.heap.size) (e := 5) (size := 1) wr #[.int .u8 x] 1 (Nat.le_refl _) (by decide) rfl
    simpa [bytesV, h] using this
  have := own_convert (P := Tryd.prog) ho Tryd.underlying22 Tryd.underlying5 Tryd.underlying9
  exact this

end Go.Proofs.YthflflhcbnianaaDoor
