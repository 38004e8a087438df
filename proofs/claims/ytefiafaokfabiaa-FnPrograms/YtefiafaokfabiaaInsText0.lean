/- The text of a word in plain bytes; what spec's l06Four answers. -/
import Derived.Test.YtefiafaokfabiaaInsOkA
import Derived.Test.YtefiafaokfabiaaWithNum
import Derived.Test.YtefiafaokfabiaaConv
namespace Go.Proofs.Ytefiafaokfabiaa
open Go.RowKit
set_option linter.unusedVariables false

/-- A slice of these bytes, in a block of its own. -/
def SliceOf (L : List UInt8) (v : Value) (w : World) : Prop := ∃ g, v = .slice (some ⟨g, 0, none⟩) L.length L.length ∧ CellsAt w g (bytesV L)

theorem SliceOf.step {L : List UInt8} {v : Value} {w w' : World} (h : SliceOf L v w) (hE : Ext w w') : SliceOf L v w' := by
  obtain ⟨g, hv, hc⟩ := h
  exact ⟨g, hv, hc.step hE⟩

theorem SliceOf.conv {L : List UInt8} {v : Value} {w : World} (h : SliceOf L v w) : (convert 22 9 v).run Try.prog w = .ok (.string ⟨L.toArray⟩) w := by
  obtain ⟨g, rfl, hc⟩ := h
  exact run_convert_bytes_back w 22 9 5 ⟨g, 0, none⟩ L.length L Try.underlying22 Try.underlying5 Try.underlying9 (fun j hj => by
      rw [Addr.add_lit, Nat.zero_add]
      exact hc.2 j _ (by simp [bytesV, hj]))

theorem SliceOf.new (w : World) (L : List UInt8) (m : Nat) (l : List Value) (hl : l = bytesV L) (hm : m = L.length) : SliceOf L (.slice (some ⟨w.heap.size, 0, none⟩) m m) (w.alloc (.cells l.toArray 5)) := by
  subst hl hm
  exact ⟨_, rfl, CellsAt.new w _ _⟩

/-- The bytes of a word: Op, Yes and No in one each, K in four. -/
def insL (o k y n : Nat) : List UInt8 := [UInt8.ofNat o, UInt8.ofNat y, UInt8.ofNat n] ++ beN 4 k

theorem insL_length (o k y n : Nat) : (insL o k y n).length = 7 := by simp [insL, beN_length]

theorem four_cells (k : Nat) (hk : k ≤ 4294967295) : ([.int .u8 ((k : Int) / 16777216), .int .u8 ((k : Int) / 65536 % 256), .int .u8 ((k : Int) / 256 % 256), .int .u8 ((k : Int) % 256)] : List Value) = bytesV (beN 4 k) := by
  have h3 : (k : Int) / 16777216 = (k : Int) / 16777216 % 256 := by omega
  rw [h3]
  simp [beN, bytesV]

theorem four_any (k : Nat) (w : World) (hk : k ≤ 4294967295) : Calls Try.prog 46 #[.int .i64 (k : Int)] w fun e w' => e = .returned (.string ⟨(beN 4 k).toArray⟩) ∧ Ext w w' := by
  have hq := (SliceOf.new w (beN 4 k) 4 _ (four_cells k hk) (by simp [beN_length])).conv
  have hk' : (k : Int) ≤ 4294967295 := by omega
  clear hk
  go_enter Try.func46, Try.ntmps46
  go_wp2
  go_ret
  exact ⟨rfl, Ext.one _ _⟩

end Go.Proofs.Ytefiafaokfabiaa
