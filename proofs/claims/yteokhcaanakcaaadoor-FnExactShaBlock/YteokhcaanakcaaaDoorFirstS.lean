/- What spec.l03First and spec.l03Keys answer: SHA-256's first words and its keys. -/
import Derived.Test.YteokhcaanakcaaaDoorBlkFacts
namespace Go.Proofs.YteokhcaanakcaaaDoor
open Go.RowKit
set_option linter.unusedVariables false

set_option maxRecDepth 100000 in
set_option maxHeartbeats 1000000 in
theorem l03First_any (w : World) :
    Calls Tryd.prog 33 #[] w fun e w' => e = .returned (.agg (kV .u32 begin8.list).toArray) ∧ Below w.heap.size w w' := by
  go_enter Tryd.func33, Tryd.ntmps33
  go_wp2
  exact bodyPost_ret (results_cell_row Tryd.results33 _ _ w.heap.size 42 (kV .u32 begin8.list).toArray (0, 0) _ rfl (heap_alloc_last w _) Tryd.underlying42 rfl (by kernel_rfl)) rfl ⟨rfl, (Below.refl _ _).alloc (Nat.le_refl _) _⟩

theorem keysHz : ((Tryd.prog.info? 45).bind (·.zero)).map (·.cells.size) = some keysZ.length := by kernel_rfl

theorem keysHs : (Tryd.prog.info? 41).map (·.size) = some 1 := by kernel_rfl

theorem keysV : (keysZ.map (Value.int .u32)).toArray = (kV .u32 keysN).toArray := rfl

theorem keysI : (Tryd.prog.info? 45).map (·.size) = some (keysZ.map (Value.int .u32)).toArray.size := by kernel_rfl

set_option maxRecDepth 100000 in
set_option maxHeartbeats 1000000 in
theorem l03Keys_any (w : World) :
    Calls Tryd.prog 28 #[] w fun e w' => e = .returned (.agg (kV .u32 keysN).toArray) ∧ Below w.heap.size w w' := by
  have hi := keysI
  have hsz : Hid (64 = (keysZ.map (Value.int .u32)).toArray.size) := by unfold Hid; rfl
  have h1 : Hid ((keysZ.map (Value.int .u32)).toArray.all (·.oneCell') = true) := by unfold Hid; rw [keysV]; exact kV_one _ _
  obtain ⟨K, hK⟩ : ∃ K, K = (keysZ.map (Value.int .u32)).toArray := ⟨_, rfl⟩
  have HH : Hid ((Tryd.prog.info? 45).map (·.size) = some K.size ∧ 64 = K.size ∧ K.all (·.oneCell') = true ∧ K = (kV .u32 keysN).toArray) := by rw [hK]; exact ⟨hi, hsz.out, h1.out, keysV⟩
  clear hi hsz h1
  go_enter Tryd.func28, Tryd.ntmps28
  go_wp2_with (first
    | (refine wpList_buildFlatArrTo rfl 45 41 64 _ rfl .u32 keysZ (some 1) rfl Tryd.underlying45 keysHs keysHz (by kernel_rfl) ?_; rw [← hK])
    | (refine wpList_store_row rfl 45 (.tmp 0) (.tmp 1) rfl w.heap.size K rfl rfl 45 _ (heap_alloc_last w _) HH.out.1 HH.out.2.1 HH.out.2.2.1 ?_))
  exact bodyPost_ret (results_cell_row Tryd.results28 _ _ w.heap.size 45 K (0, 0) _ rfl (setRow_heap _ _ _ _ _ _ (heap_alloc_last w _)) Tryd.underlying45 rfl HH.out.1) rfl ⟨by rw [HH.out.2.2.2], below_setRow ((Below.refl _ _).alloc (Nat.le_refl _) _) (Nat.le_refl _) _⟩

end Go.Proofs.YteokhcaanakcaaaDoor
