/- What (shaState).numbers answers: the eight words as ints. -/
import Derived.Test.YtfbdbeaijkhbfaaDoorBlkFacts
namespace Go.Proofs.YtfbdbeaijkhbfaaDoor
open Go.RowKit
set_option linter.unusedVariables false

theorem zeros8i : (#[.int .i64 0, .int .i64 0, .int .i64 0, .int .i64 0, .int .i64 0, .int .i64 0, .int .i64 0, .int .i64 0] : Array Value) = (kV .i64 (List.replicate 8 0)).toArray := rfl

structure NumW (w wr : World) (l0 l : List Nat) : Prop where
  row : Row wr w.heap.size 47 .u32 l0
  out : Row wr (w.heap.size + 1) 43 .i64 (List.replicate 8 0)
  num : Row wr (w.heap.size + 1 + 1) 43 .i64 l
  below : Below w.heap.size w wr

set_option maxRecDepth 100000 in
set_option maxHeartbeats 1000000 in
theorem numbers_any (l0 : List Nat) (w : World) (hlen : l0.length = 8) (hall : ∀ x ∈ l0, x < 4294967296) :
    Calls Tryd.prog 22 #[.agg (kV .u32 l0).toArray] w fun e w' => e = .returned (.agg (kV .i64 l0).toArray) ∧ Below w.heap.size w w' := by
  have HL0 : Hid (l0.length = 8 ∧ ∀ x ∈ l0, x < 4294967296) := ⟨hlen, hall⟩
  have HI8 : Hid ((Tryd.prog.info? 45).map (·.size) = some (kV .u32 l0).toArray.size ∧ (Tryd.prog.info? 43).map (·.size) = some (kV .i64 l0).toArray.size ∧ (kV .i64 (List.replicate 8 0)).toArray.size = (kV .i64 l0).toArray.size) := by
    refine ⟨?_, ?_, by simp [kV, hlen]⟩
    · rw [show (kV .u32 l0).toArray.size = 8 by simp [kV, hlen]]; kernel_rfl
    · rw [show (kV .i64 l0).toArray.size = 8 by simp [kV, hlen]]; kernel_rfl
  clear hlen hall
  obtain ⟨w0, hw0⟩ : ∃ w0, w0 = ((w.alloc (.cells (kV .u32 l0).toArray 47)).alloc (.cells (kV .i64 (List.replicate 8 0)).toArray 43)).alloc (.cells (kV .i64 (List.replicate 8 0)).toArray 43) := ⟨_, rfl⟩
  have hW0 : NumW w w0 l0 (List.replicate 8 0) := by
    rw [hw0]
    refine ⟨((Row.new w 47 .u32 l0).alloc _).alloc _, ?_, ?_, (((Below.refl _ w).alloc (Nat.le_refl _) _).alloc (by simp only [sz_alloc]; omega) _).alloc (by simp only [sz_alloc]; omega) _⟩
    · have h2 : Row _ (w.heap.size + 1) 43 .i64 (List.replicate 8 0) := alloc2_last w (.cells (kV .u32 l0).toArray 47) (.cells (kV .i64 (List.replicate 8 0)).toArray 43)
      exact h2.alloc _
    · exact alloc3_last w (.cells (kV .u32 l0).toArray 47) (.cells (kV .i64 (List.replicate 8 0)).toArray 43) (.cells (kV .i64 (List.replicate 8 0)).toArray 43)
  have r0 : w0.heap[w.heap.size]? = some (.cells (kV .u32 l0).toArray 47 (0, 0)) := hW0.row
  rw [hw0] at r0
  go_enter Tryd.func22, Tryd.ntmps22
  go_wp2_with (refine wpList_load_row rfl 45 (.tmp 6) rfl w.heap.size rfl 47 (kV .u32 l0).toArray (0, 0) _ r0 Tryd.underlying45 rfl HI8.out.1 ?_)
  rw [zeros8i, ← hw0]
  clear hw0 r0
  go_loopw [8] (fun i wr => ∃ k : Nat, i = .int .i64 k ∧ k ≤ 8 ∧ NumW w wr l0 (padZ 8 (l0.take k))) (fun i _ => 8 - (intOf i).toNat)
  case atStart => exact ⟨0, rfl, by omega, hW0⟩
  case round =>
    obtain ⟨k, rfl, hk, hW⟩ := hrel
    clear hW0
    have htl : (l0.take k).length = k := by rw [List.length_take, HL0.out.1]; omega
    by_cases hlt : k < 8
    · have bk : (k : Int) < 8 := by omega
      obtain ⟨x, hx⟩ : ∃ x, x = l0.getD k 0 := ⟨_, rfl⟩
      have hidx : (Instr.index 45 (.agg (kV .u32 l0).toArray) (.int .i64 (k : Int))).run Tryd.prog wr = .ok (.int .u32 (x : Int)) wr := by
        rw [hx]; exact index_row 45 44 8 .u32 l0 k wr Tryd.underlying45 Tryd.underlying44 Tryd.sizeOf44 hlt (by rw [HL0.out.1]; exact hlt)
      have hx32 : x < 4294967296 := by rw [hx]; exact getD_lt32 HL0.out.2 _
      have ck := hW.num.cell k (by rw [padZ_length _ _ (by omega)]; exact hlt)
      have fk := hW.num.frozen k
      have HW : Hid (NumW w wr l0 (padZ 8 (l0.take k)) ∧ x = l0.getD k 0 ∧ (l0.take k).length = k) := ⟨hW, hx, htl⟩
      clear hW hx htl
      go_wp2
      go_roundw
      case rel =>
        obtain ⟨hW, hx, htl⟩ := HW.out
        refine ⟨k + 1, by go_num, by omega, ⟨hW.row.other (by omega), hW.out.other (by omega), ?_, hW.below.setCell (by show w.heap.size ≤ w.heap.size + 1 + 1; omega) _⟩⟩
        have hset := padZ_set 8 (l0.take k) x (by omega)
        rw [htl] at hset
        have e2 : l0.take (k + 1) = l0.take k ++ [x] := by
          have : k < l0.length := by rw [HL0.out.1]; exact hlt
          rw [List.take_add_one, hx]; simp [List.getElem?_eq_getElem this]
        rw [e2, ← hset]
        exact hW.num.set k x _ rfl
      case measure => simp [intOf]; omega
    · have hk8 : k = 8 := by omega
      have bk : ¬ ((k : Int) < 8) := by omega
      have e3 : padZ 8 (l0.take k) = l0 := by
        rw [hk8, List.take_of_length_le (by rw [HL0.out.1]; omega)]; exact padZ_full 8 l0 HL0.out.1
      rw [e3] at hW
      have hnum : wr.heap[w.heap.size + 1 + 1]? = some (.cells (kV .i64 l0).toArray 43 (0, 0)) := hW.num
      have hout : wr.heap[w.heap.size + 1]? = some (.cells (kV .i64 (List.replicate 8 0)).toArray 43 (0, 0)) := hW.out
      have HW : Hid (NumW w wr l0 l0) := hW
      clear hW hk8 e3 htl
      go_wp2_with (first
        | (refine wpList_load_row rfl 43 (.tmp 3) rfl (w.heap.size + 1 + 1) rfl 43 (kV .i64 l0).toArray (0, 0) _ hnum Tryd.underlying43 rfl HI8.out.2.1 ?_)
        | (refine wpList_store_row rfl 43 (.tmp 2) (.tmp 18) rfl (w.heap.size + 1) (kV .i64 l0).toArray rfl rfl 43 _ hout HI8.out.2.1 HI8.out.2.2 (kV_one _ _) ?_))
      exact bodyPost_ret (results_cell_row Tryd.results22 _ _ (w.heap.size + 1) 43 (kV .i64 l0).toArray (0, 0) _ rfl (Row.stored HW.out.out) Tryd.underlying43 rfl HI8.out.2.1) rfl ⟨rfl, below_setRow HW.out.below (by omega) _⟩

end Go.Proofs.YtfbdbeaijkhbfaaDoor
