/- What spec.l03First and spec.l03Keys answer: SHA-256's first words and its keys. -/
import Derived.Test.YtfbdbeaijkhbfaaDoorBlkFacts
namespace Go.Proofs.YtfbdbeaijkhbfaaDoor
open Go.RowKit
set_option linter.unusedVariables false

set_option maxRecDepth 100000 in
set_option maxHeartbeats 1000000 in
theorem l03First_any (w : World) :
    Calls Tryd.prog 31 #[] w fun e w' => e = .returned (.agg (kV .u32 begin8.list).toArray) ∧ Below w.heap.size w w' := by
  go_enter Tryd.func31, Tryd.ntmps31
  go_wp2
  exact bodyPost_ret (results_cell_row Tryd.results31 _ _ w.heap.size 45 (kV .u32 begin8.list).toArray (0, 0) _ rfl (heap_alloc_last w _) Tryd.underlying45 rfl (by kernel_rfl)) rfl ⟨rfl, (Below.refl _ _).alloc (Nat.le_refl _) _⟩

theorem keysHz : ((Tryd.prog.info? 58).bind (·.zero)).map (·.cells.size) = some keysZ.length := by kernel_rfl

theorem keysHs : (Tryd.prog.info? 44).map (·.size) = some 1 := by kernel_rfl

theorem keysV : (keysZ.map (Value.int .u32)).toArray = (kV .u32 keysN).toArray := rfl

theorem keysI : (Tryd.prog.info? 58).map (·.size) = some (keysZ.map (Value.int .u32)).toArray.size := by kernel_rfl

set_option maxRecDepth 100000 in
set_option maxHeartbeats 1000000 in
theorem l03Keys_any (w : World) :
    Calls Tryd.prog 32 #[] w fun e w' => e = .returned (.agg (kV .u32 keysN).toArray) ∧ Below w.heap.size w w' := by
  have hi := keysI
  have hsz : Hid (64 = (keysZ.map (Value.int .u32)).toArray.size) := by unfold Hid; rfl
  have h1 : Hid ((keysZ.map (Value.int .u32)).toArray.all (·.oneCell') = true) := by unfold Hid; rw [keysV]; exact kV_one _ _
  obtain ⟨K, hK⟩ : ∃ K, K = (keysZ.map (Value.int .u32)).toArray := ⟨_, rfl⟩
  have HH : Hid ((Tryd.prog.info? 58).map (·.size) = some K.size ∧ 64 = K.size ∧ K.all (·.oneCell') = true ∧ K = (kV .u32 keysN).toArray) := by rw [hK]; exact ⟨hi, hsz.out, h1.out, keysV⟩
  clear hi hsz h1
  go_enter Tryd.func32, Tryd.ntmps32
  go_wp2_with (first
    | (refine wpList_buildFlatArrTo rfl 58 44 64 _ rfl .u32 keysZ (some 1) rfl Tryd.underlying58 keysHs keysHz (by kernel_rfl) ?_; rw [← hK])
    | (refine wpList_store_row rfl 58 (.tmp 0) (.tmp 1) rfl w.heap.size K rfl rfl 58 _ (heap_alloc_last w _) HH.out.1 HH.out.2.1 HH.out.2.2.1 ?_))
  exact bodyPost_ret (results_cell_row Tryd.results32 _ _ w.heap.size 58 K (0, 0) _ rfl (setRow_heap _ _ _ _ _ _ (heap_alloc_last w _)) Tryd.underlying58 rfl HH.out.1) rfl ⟨by rw [HH.out.2.2.2], below_setRow ((Below.refl _ _).alloc (Nat.le_refl _) _) (Nat.le_refl _) _⟩

end Go.Proofs.YtfbdbeaijkhbfaaDoor
