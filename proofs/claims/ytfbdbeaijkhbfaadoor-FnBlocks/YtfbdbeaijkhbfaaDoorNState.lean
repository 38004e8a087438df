/- What (shaNumbers).state answers: eight ints cut down to words of 32 bits. -/
import Derived.Test.YtfbdbeaijkhbfaaDoorNumbers8
namespace Go.Proofs.YtfbdbeaijkhbfaaDoor
open Go.RowKit
set_option linter.unusedVariables false

def zV (zs : List Int) : List Value := zs.map (Value.int .i64)

/-- The block b holds the ints zs. -/
def ZRow (w : World) (b : Nat) (t : TypeId) (zs : List Int) : Prop := w.heap[b]? = some (.cells (zV zs).toArray t (0, 0))

theorem ZRow.lt {w : World} {b t : Nat} {zs : List Int} (h : ZRow w b t zs) : b < w.heap.size := (Array.getElem?_eq_some_iff.1 h).1

theorem ZRow.alloc {w : World} {b t : Nat} {zs : List Int} (h : ZRow w b t zs) (o : Obj) : ZRow (w.alloc o) b t zs := (Below.heap_alloc w o b h.lt).trans h

theorem ZRow.other {w : World} {b c t j : Nat} {v : Value} {zs : List Int} (h : ZRow w b t zs) (hc : b ≠ c) : ZRow (w.setCell ⟨c, j, none⟩ v) b t zs :=
  (heap_setCell_other w ⟨c, j, none⟩ b v hc).trans h

theorem ZRow.below {w w' : World} {b t B : Nat} {zs : List Int} (h : ZRow w b t zs) (hb : Below B w w') (hB : b < B) : ZRow w' b t zs := (hb.block b hB).trans h

theorem ZRow.cell {w : World} {b t : Nat} {zs : List Int} (h : ZRow w b t zs) (j : Nat) (hj : j < zs.length) : w.cell? ⟨b, j, none⟩ = some (.int .i64 (zs.getD j 0)) := by
  rw [cell_of_row w b j _ t _ h]
  simp [zV, hj]

def w32 (z : Int) : Nat := (z % 4294967296).toNat

theorem w32_lt (z : Int) : w32 z < 4294967296 := by unfold w32; omega

theorem w32_eq (z : Int) : z % 4294967296 = ((w32 z : Nat) : Int) := by unfold w32; omega

theorem index_rowZ {P : Program} (t e : TypeId) (n : Nat) (l : List Int) (i : Nat) (w : World) (hu : P.underlying t = some (.array n e)) (he : P.underlying e = some (.int .i64)) (hz : ∀ w, (sizeOf e).run P w = .ok 1 w) (hi : i < n) (hl : i < l.length) :
    (Instr.index t (.agg (zV l).toArray) (.int .i64 (i : Int))).run P w = .ok (.int .i64 (l.getD i 0)) w := by
  have h1 : (0 : Int) ≤ (i : Int) ∧ (i : Int) < (n : Int) := by omega
  simp [Instr.index, run_underlying hu, run_underlying he, asIntOf, h1, hz, part, isAgg, zV, hl, go_sem]
  intro h; omega

structure NstW (w wr : World) (zs : List Int) (l : List Nat) : Prop where
  row : ZRow wr w.heap.size 43 zs
  out : Row wr (w.heap.size + 1) 47 .u32 (List.replicate 8 0)
  wrd : Row wr (w.heap.size + 1 + 1) 47 .u32 l
  below : Below w.heap.size w wr

set_option maxRecDepth 100000 in
set_option maxHeartbeats 1000000 in
theorem nState_any (zs : List Int) (w : World) (hlen : zs.length = 8) :
    Calls Tryd.prog 38 #[.agg (zV zs).toArray] w fun e w' => e = .returned (.agg (kV .u32 (zs.map w32)).toArray) ∧ Below w.heap.size w w' := by
  obtain ⟨l0, hl0⟩ : ∃ l, l = zs.map w32 := ⟨_, rfl⟩
  have hll : l0.length = 8 := by rw [hl0, List.length_map, hlen]
  rw [← hl0]
  have HL0 : Hid (zs.length = 8 ∧ l0 = zs.map w32 ∧ l0.length = 8) := ⟨hlen, hl0, hll⟩
  have HI8 : Hid ((Tryd.prog.info? 41).map (·.size) = some (zV zs).toArray.size ∧ (Tryd.prog.info? 47).map (·.size) = some (kV .u32 l0).toArray.size ∧ (kV .u32 (List.replicate 8 0)).toArray.size = (kV .u32 l0).toArray.size) := by
    refine ⟨?_, ?_, by simp [kV, hll]⟩
    · rw [show (zV zs).toArray.size = 8 by simp [zV, hlen]]; kernel_rfl
    · rw [show (kV .u32 l0).toArray.size = 8 by simp [kV, hll]]; kernel_rfl
  clear hlen hl0 hll
  obtain ⟨w0, hw0⟩ : ∃ w0, w0 = ((w.alloc (.cells (zV zs).toArray 43)).alloc (.cells (kV .u32 (List.replicate 8 0)).toArray 47)).alloc (.cells (kV .u32 (List.replicate 8 0)).toArray 47) := ⟨_, rfl⟩
  have hW0 : NstW w w0 zs (List.replicate 8 0) := by
    rw [hw0]
    have h1 : ZRow (w.alloc (.cells (zV zs).toArray 43)) w.heap.size 43 zs := _root_.Go.heap_alloc_last w _
    refine ⟨(h1.alloc _).alloc _, ?_, ?_, (((Below.refl _ w).alloc (Nat.le_refl _) _).alloc (by simp only [sz_alloc]; omega) _).alloc (by simp only [sz_alloc]; omega) _⟩
    · have h2 : Row _ (w.heap.size + 1) 47 .u32 (List.replicate 8 0) := alloc2_last w (.cells (zV zs).toArray 43) (.cells (kV .u32 (List.replicate 8 0)).toArray 47)
      exact h2.alloc _
    · exact alloc3_last w (.cells (zV zs).toArray 43) (.cells (kV .u32 (List.replicate 8 0)).toArray 47) (.cells (kV .u32 (List.replicate 8 0)).toArray 47)
  have r0 : w0.heap[w.heap.size]? = some (.cells (zV zs).toArray 43 (0, 0)) := hW0.row
  rw [hw0] at r0
  go_enter Tryd.func38, Tryd.ntmps38
  go_wp2_with (refine wpList_load_row rfl 41 (.tmp 6) rfl w.heap.size rfl 43 (zV zs).toArray (0, 0) _ r0 Tryd.underlying41 rfl HI8.out.1 ?_)
  rw [zeros8, ← hw0]
  clear hw0 r0
  go_loopw [8] (fun i wr => ∃ k : Nat, i = .int .i64 k ∧ k ≤ 8 ∧ NstW w wr zs (padZ 8 (l0.take k))) (fun i _ => 8 - (intOf i).toNat)
  case atStart => exact ⟨0, rfl, by omega, hW0⟩
  case round =>
    obtain ⟨k, rfl, hk, hW⟩ := hrel
    clear hW0
    have htl : (l0.take k).length = k := by rw [List.length_take, HL0.out.2.2]; omega
    by_cases hlt : k < 8
    · have bk : (k : Int) < 8 := by omega
      obtain ⟨z, hz⟩ : ∃ z, z = zs.getD k 0 := ⟨_, rfl⟩
      have hidx : (Instr.index 41 (.agg (zV zs).toArray) (.int .i64 (k : Int))).run Tryd.prog wr = .ok (.int .i64 z) wr := by
        rw [hz]; exact index_rowZ 41 3 8 zs k wr Tryd.underlying41 Tryd.underlying3 Tryd.sizeOf3 hlt (by rw [HL0.out.1]; exact hlt)
      have ck := hW.wrd.cell k (by rw [padZ_length _ _ (by omega)]; exact hlt)
      have fk := hW.wrd.frozen k
      have HW : Hid (NstW w wr zs (padZ 8 (l0.take k)) ∧ z = zs.getD k 0 ∧ (l0.take k).length = k) := ⟨hW, hz, htl⟩
      clear hW hz htl
      go_wp2
      go_roundw
      case rel =>
        obtain ⟨hW, hz, htl⟩ := HW.out
        refine ⟨k + 1, by go_num, by omega, ⟨hW.row.other (by omega), hW.out.other (by omega), ?_, hW.below.setCell (by show w.heap.size ≤ w.heap.size + 1 + 1; omega) _⟩⟩
        have hset := padZ_set 8 (l0.take k) (w32 z) (by omega)
        rw [htl] at hset
        have e2 : l0.take (k + 1) = l0.take k ++ [w32 z] := by
          have h1 : k < l0.length := by rw [HL0.out.2.2]; exact hlt
          have h2 : k < zs.length := by rw [HL0.out.1]; exact hlt
          rw [List.take_add_one, hz, HL0.out.2.1]; simp [List.getElem?_eq_getElem h2]
        rw [e2, ← hset]
        exact hW.wrd.set k (w32 z) _ (w32_eq z)
      case measure => simp [intOf]; omega
    · have hk8 : k = 8 := by omega
      have bk : ¬ ((k : Int) < 8) := by omega
      have e3 : padZ 8 (l0.take k) = l0 := by
        rw [hk8, List.take_of_length_le (by rw [HL0.out.2.2]; omega)]; exact padZ_full 8 l0 HL0.out.2.2
      rw [e3] at hW
      have hnum : wr.heap[w.heap.size + 1 + 1]? = some (.cells (kV .u32 l0).toArray 47 (0, 0)) := hW.wrd
      have hout : wr.heap[w.heap.size + 1]? = some (.cells (kV .u32 (List.replicate 8 0)).toArray 47 (0, 0)) := hW.out
      have HW : Hid (NstW w wr zs l0) := hW
      clear hW hk8 e3 htl
      go_wp2_with (first
        | (refine wpList_load_row rfl 47 (.tmp 3) rfl (w.heap.size + 1 + 1) rfl 47 (kV .u32 l0).toArray (0, 0) _ hnum Tryd.underlying47 rfl HI8.out.2.1 ?_)
        | (refine wpList_store_row rfl 47 (.tmp 2) (.tmp 18) rfl (w.heap.size + 1) (kV .u32 l0).toArray rfl rfl 47 _ hout HI8.out.2.1 HI8.out.2.2 (kV_one _ _) ?_))
      exact bodyPost_ret (results_cell_row Tryd.results38 _ _ (w.heap.size + 1) 47 (kV .u32 l0).toArray (0, 0) _ rfl (Row.stored HW.out.out) Tryd.underlying47 rfl HI8.out.2.1) rfl ⟨rfl, below_setRow HW.out.below (by omega) _⟩

end Go.Proofs.YtfbdbeaijkhbfaaDoor
