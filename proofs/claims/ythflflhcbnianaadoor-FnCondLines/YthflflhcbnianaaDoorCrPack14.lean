/- What impl.Decimal answers at every int, where the library's table of powers holds what its text lays. -/
import Derived.Test.YthflflhcbnianaaDoorRows
import Derived.Test.YthflflhcbnianaaDoorCrPack9
import Derived.WalkKit
import Derived.WalkSmall
import Derived.Sort.Grow
namespace Go.Proofs.YthflflhcbnianaaDoor
open Go.RowKit

theorem grow_below (w : World) (q : Nat) (os : Array Obj) : Below w.heap.size w (Sort.grow (w.drewN q) os) :=
  ⟨rfl, rfl, rfl, by simp [Sort.grow], fun k hk => by simp [Sort.grow, Array.getElem?_append_left hk]⟩

theorem iDec_any (n : Int) (w : World) (h0 : -9223372036854775808 ≤ n) (h1 : n ≤ 9223372036854775807) (ht : Lib.TabIs Tryd.prog w "internal/strconv.uint64pow10" .u64 Lib.pow10Tab) :
    Calls Tryd.prog 44 #[.int .i64 n] w fun e w' => e = .returned (.string ⟨(Lib.itoa n).toArray⟩) ∧ Below w.heap.size w w' := by
  go_enter Tryd.func44, Tryd.ntmps44
  go_wp2_with fail
  refine (Tryd.strconv_Itoa n h0 h1 _ ht).mono ?_
  rintro e w' ⟨rfl, k, os, rfl⟩
  go_wp2
  go_ret
  exact ⟨rfl, grow_below w k os⟩

end Go.Proofs.YthflflhcbnianaaDoor
