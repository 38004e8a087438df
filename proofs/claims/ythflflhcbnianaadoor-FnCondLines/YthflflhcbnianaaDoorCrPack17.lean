/- What the laws' own turned answers: a text with one byte another; and what the draws of texts answer. -/
import Derived.Test.YthflflhcbnianaaDoorCrPack12
import Derived.Test.YthflflhcbnianaaDoorCrPack6
import Derived.Deep.RegionHeld3
import Derived.Lib.ConvBytes
namespace Go.Proofs.YthflflhcbnianaaDoor
open Go.RowKit
set_option linter.unusedVariables false

set_option maxRecDepth 100000 in
set_option maxHeartbeats 1000000 in
theorem pick_at (n : Nat) (cs : Array Value) (q : Nat) (p : Nat) (a : Option Addr) (len cap : Nat) (w : World) (zs : List Int) (hC : Cur w p a len cap) (hq : w.heap[q]? = some (.cells cs 3 (0, 0))) (hqp : q ≠ p) (h0 : 0 < n) (hn : n ≤ 256)
    (hall : ∀ j, j < n → ∃ z : Int, z ∈ zs ∧ cs[j]? = some (.int .i64 z)) :
    Calls Tryd.prog 67 #[.pointer (some ⟨p, 0, none⟩), .slice (some ⟨q, 0, none⟩) n n] w fun e w' => ∃ z : Int, z ∈ zs ∧ e = .returned (.int .i64 z) ∧ Cur w' p a len cap ∧ w.grownBy w' (some p) := by
  have HC : Hid (Cur w p a len cap) := hC
  have HA : Hid (∀ j, j < n → ∃ z : Int, z ∈ zs ∧ cs[j]? = some (.int .i64 z)) := hall
  have HQ : Hid (w.heap[q]? = some (.cells cs 3 (0, 0))) := hq
  clear hC hall hq
  go_enter Tryd.func67, Tryd.ntmps67
  go_wp2_with fail
  refine (below_any n p a len cap _ HC.out (by omega)).mono ?_
  rintro e w1 ⟨x, hx, _, _, rfl, hc1, hg1⟩
  have hxn := hx h0
  obtain ⟨z, z1, hz⟩ := HA.out x hxn
  have hq1 : w1.heap[q]? = some (.cells cs 3 (0, 0)) := (hg1.block q (Array.getElem?_eq_some_iff.1 HQ.out).1 (by simpa using hqp)).trans HQ.out
  have hcell : w1.cell? ⟨q, x, none⟩ = some (.int .i64 z) := cell_in hq1 hz
  have hxi : (x : Int) < (n : Int) := by omega
  clear hq1 hx hz
  go_wp2
  go_ret
  exact ⟨z, z1, rfl, hc1, hg1⟩

end Go.Proofs.YthflflhcbnianaaDoor
