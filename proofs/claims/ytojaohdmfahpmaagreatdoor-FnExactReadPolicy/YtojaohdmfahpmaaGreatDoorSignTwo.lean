/- What impl's sign answers of a piece. -/
import Derived.Test.YtojaohdmfahpmaaGreatDoorSignOne
namespace Go.Proofs.YtojaohdmfahpmaaGreatDoor
open Go.RowKit
set_option linter.unusedVariables false

set_option maxRecDepth 100000 in
set_option maxHeartbeats 1000000 in
theorem sign_1 (T : ByteArray) (w : World) (hT : T.size ≤ 281474976710656) :
    Calls Tryz.prog 60 #[.agg #[.int .i64 1, .string T]] w fun e w' => e = .returned (.tuple #[.agg #[.int .i64 1, .string T, .int .i64 0], .bool (decide ((T.size : Int) ≤ 12))]) ∧ Ext w w' := by
  obtain ⟨W, hW⟩ : ∃ W, W = (w.alloc (.cells #[.int .i64 1, .string T] 96)).alloc (.cells #[.int .i64 0, .string ⟨#[]⟩, .int .i64 0] 98) := ⟨_, rfl⟩
  have c0 : CellsAt W w.heap.size [.int .i64 1, .string T] := by rw [hW]; exact (CellsAt.new w _ _).step (Ext.one _ _)
  have c1 : CellsAt W (w.heap.size + 1) [.int .i64 0, .string ⟨#[]⟩, .int .i64 0] := by rw [hW]; exact CellsAt.new' _ _ _ _ (by simp)
  have f1 : ∀ j, W.frozen? ⟨w.heap.size + 1, j, none⟩ = false := fun j => by rw [hW]; exact free_new8 _ _ _ _ _ (by simp)
  have E0 : Hid (Ext w W) := by rw [hW]; exact (Ext.one _ _).alloc _
  go_enter Tryz.func60, Tryz.ntmps60
  go_wp2_with fail
  rw [← hW]
  clear hW
  obtain ⟨p0, p1⟩ := (⟨c0.drew.2 0 _ rfl, c0.drew.2 1 _ rfl⟩ : _ ∧ _)
  have cd0 : CellsAt W.drew w.heap.size [.int .i64 1, .string T] := c0
  have cd1 : CellsAt W.drew (w.heap.size + 1) [.int .i64 0, .string ⟨#[]⟩, .int .i64 0] := c1
  have fd1 : ∀ j, W.drew.frozen? ⟨w.heap.size + 1, j, none⟩ = false := f1
  go_region_with (go_at_call 101; refine (worded_any 1 T _ hT).mono ?_; rintro e w1 ⟨rfl, e1⟩; have c2 := CellsAt.step cd0 e1; have c3 := CellsAt.step cd1 e1; have r1 := c2.2 1 _ rfl; have r2 := c3.2 0 _ rfl; have r3 := c3.2 1 _ rfl; have r4 := c3.2 2 _ rfl; have r5 : ∀ j, w1.frozen? ⟨w.heap.size + 1, j, none⟩ = false := fun j => (e1.frozen (p := ⟨_, j, none⟩) cd1.1).trans (fd1 j); have E1 : Hid (Ext w w1) := E0.out.trans (Ext.ofDrew e1); have hsz : w.heap.size + 1 < w1.heap.size := c3.1; clear e1 c2 c3)
  all_goals
    clear c0 c1 f1 E0 p0 p1 cd0 cd1 fd1
    dsimp [Act.put]
    go_wp2
    refine bodyPost_ret (v := .tuple #[.agg #[.int .i64 1, .string T, .int .i64 0], .bool (decide ((T.size : Int) ≤ 12))]) (by simp [results, Tryz.results60, go_sem, *]) rfl ⟨rfl, ?_⟩
    exact ((Below.setCell E1.out (by simp) _).setCell (by simp) _).setCell (by simp) _

set_option maxRecDepth 100000 in
set_option maxHeartbeats 1000000 in
theorem sign_3 (T : ByteArray) (w : World) (hT : T.size ≤ 281474976710656) :
    Calls Tryz.prog 60 #[.agg #[.int .i64 3, .string T]] w fun e w' => e = .returned (.tuple #[.agg #[.int .i64 3, .string T, .int .i64 0], .bool (isMarkL T.data.toList)]) ∧ Ext w w' := by
  obtain ⟨W, hW⟩ : ∃ W, W = (w.alloc (.cells #[.int .i64 3, .string T] 96)).alloc (.cells #[.int .i64 0, .string ⟨#[]⟩, .int .i64 0] 98) := ⟨_, rfl⟩
  have c0 : CellsAt W w.heap.size [.int .i64 3, .string T] := by rw [hW]; exact (CellsAt.new w _ _).step (Ext.one _ _)
  have c1 : CellsAt W (w.heap.size + 1) [.int .i64 0, .string ⟨#[]⟩, .int .i64 0] := by rw [hW]; exact CellsAt.new' _ _ _ _ (by simp)
  have f1 : ∀ j, W.frozen? ⟨w.heap.size + 1, j, none⟩ = false := fun j => by rw [hW]; exact free_new8 _ _ _ _ _ (by simp)
  have E0 : Hid (Ext w W) := by rw [hW]; exact (Ext.one _ _).alloc _
  go_enter Tryz.func60, Tryz.ntmps60
  go_wp2_with fail
  rw [← hW]
  clear hW
  refine' wp_region_loose_tail 5 (.inl _ :: .inl _ :: .inl _ :: .inl _ :: .inl _ :: []) (fun w' => CellsAt w' w.heap.size [.int .i64 3, .string T] ∧ CellsAt w' (w.heap.size + 1) [.int .i64 0, .string ⟨#[]⟩, .int .i64 0] ∧ (∀ j, w'.frozen? ⟨w.heap.size + 1, j, none⟩ = false)) (by kernel_rfl) (by kernel_rfl) (⟨c0.drew, c1.drew, f1⟩) (fun _ _ h hE => ⟨h.1.step hE, h.2.1.step hE, fun j => (hE.frozen (p := ⟨_, j, none⟩) h.2.1.1).trans (h.2.2 j)⟩) ?hAa ?hla ?hMa
  case' hMa => skip
  simp only [List.take_succ_cons, List.take_zero, List.drop_succ_cons, List.drop_zero]
  apply wpLoose_val rfl rfl
  case hs =>
    intro w1 hC hd Q1 hQ1
    obtain ⟨hE, hS⟩ := hC
    dsimp only [bare]
    obtain ⟨q0, q1⟩ := (⟨hS.1.2 0 _ rfl, hS.1.2 1 _ rfl⟩ : _ ∧ _)
    clear hd hE
    try clear hS
    go_wp2
    exact Ext.refl _
  case ha => rfl
  apply wpLoose_val rfl rfl
  case hs =>
    intro w1 hC hd Q1 hQ1
    obtain ⟨hE, hS⟩ := hC
    dsimp only [bare]
    clear hd
    go_wp2_with fail
    refine (worded_any 3 T _ hT).mono ?_
    rintro e w2 ⟨rfl, hb⟩
    go_wp2_with fail
    exact hb
  case ha => rfl
  apply wpLoose_val rfl rfl
  case hs =>
    intro w1 hC hd Q1 hQ1
    obtain ⟨hE, hS⟩ := hC
    dsimp only [bare]
    obtain ⟨q0, q1⟩ := (⟨hS.1.2 0 _ rfl, hS.1.2 1 _ rfl⟩ : _ ∧ _)
    clear hd hE
    try clear hS
    go_wp2
    exact Ext.refl _
  case ha => rfl
  apply wpLoose_val rfl rfl
  case hs =>
    intro w1 hC hd Q1 hQ1
    obtain ⟨hE, hS⟩ := hC
    dsimp only [bare]
    obtain ⟨q0, q1⟩ := (⟨hS.1.2 0 _ rfl, hS.1.2 1 _ rfl⟩ : _ ∧ _)
    clear hd hE
    try clear hS
    go_wp2
    exact Ext.refl _
  case ha => rfl
  apply wpLoose_val rfl rfl
  case hs =>
    intro w1 hC hd Q1 hQ1
    obtain ⟨hE, hS⟩ := hC
    dsimp only [bare]
    clear hd
    go_wp2_with fail
    refine (isMark_any T _).mono ?_
    rintro e w2 ⟨rfl, rfl⟩
    go_wp2_with fail
    exact Ext.refl _
  case ha => rfl
  refine wpLoose_nil ?_
  intro wa hEa hSa hFa
  have E1 : Hid (Ext w wa) := E0.out.trans (Ext.ofDrew hEa)
  obtain ⟨q0, q1, q2⟩ := (⟨hSa.2.1.2 0 _ rfl, hSa.2.1.2 1 _ rfl, hSa.2.1.2 2 _ rfl⟩ : _ ∧ _ ∧ _)
  have ff := hSa.2.2
  have hsz : w.heap.size + 1 < wa.heap.size := hSa.2.1.1
  clear hFa hEa c0 c1 f1 E0 hSa
  go_wp2
  refine bodyPost_ret (v := .tuple #[.agg #[.int .i64 3, .string T, .int .i64 0], .bool (isMarkL T.data.toList)]) (by simp [results, Tryz.results60, go_sem, *]) rfl ⟨rfl, ?_⟩
  exact ((Below.setCell E1.out (by simp) _).setCell (by simp) _).setCell (by simp) _
  case hAa => kernel_rfl
  case hla => exact ⟨trivial, trivial, trivial, trivial, trivial, trivial⟩

set_option maxRecDepth 100000 in
set_option maxHeartbeats 1000000 in
theorem sign_2 (T : ByteArray) (w : World) :
    Calls Tryz.prog 60 #[.agg #[.int .i64 2, .string T]] w fun e w' => e = .returned (.tuple #[.agg #[.int .i64 2, .string ⟨#[]⟩, .int .i64 ((halfR T.data.toList).1 : Int)], .bool (halfR T.data.toList).2]) ∧ Ext w w' := by
  obtain ⟨⟨n, b⟩, hp⟩ : ∃ p, p = halfR T.data.toList := ⟨_, rfl⟩
  have HH : Hid (∀ w : World, Calls Tryz.prog 102 #[.string T] w fun e w' => e = .returned (.tuple #[.int .i64 (n : Int), .bool b]) ∧ Ext w w') := fun w => by
    have := halfIn_any T w
    rw [← hp] at this
    exact this
  rw [← hp]
  clear hp
  obtain ⟨W, hW⟩ : ∃ W, W = (w.alloc (.cells #[.int .i64 2, .string T] 96)).alloc (.cells #[.int .i64 0, .string ⟨#[]⟩, .int .i64 0] 98) := ⟨_, rfl⟩
  have c0 : CellsAt W w.heap.size [.int .i64 2, .string T] := by rw [hW]; exact (CellsAt.new w _ _).step (Ext.one _ _)
  have c1 : CellsAt W (w.heap.size + 1) [.int .i64 0, .string ⟨#[]⟩, .int .i64 0] := by rw [hW]; exact CellsAt.new' _ _ _ _ (by simp)
  have f1 : ∀ j, W.frozen? ⟨w.heap.size + 1, j, none⟩ = false := fun j => by rw [hW]; exact free_new8 _ _ _ _ _ (by simp)
  have E0 : Hid (Ext w W) := by rw [hW]; exact (Ext.one _ _).alloc _
  go_enter Tryz.func60, Tryz.ntmps60
  go_wp2_with fail
  rw [← hW]
  clear hW
  refine (HH.out _).mono ?_
  rintro e w1 ⟨rfl, e1⟩
  have E1 : Hid (Ext w w1) := E0.out.trans e1
  have c2 := c1.step e1
  obtain ⟨q0, q1, q2⟩ := (⟨c2.2 0 _ rfl, c2.2 1 _ rfl, c2.2 2 _ rfl⟩ : _ ∧ _ ∧ _)
  have ff : ∀ j, w1.frozen? ⟨w.heap.size + 1, j, none⟩ = false := fun j => (e1.frozen (p := ⟨_, j, none⟩) c1.1).trans (f1 j)
  have hsz : w.heap.size + 1 < w1.heap.size := c2.1
  clear e1 E0 c0 c1 f1 c2
  go_wp2
  refine bodyPost_ret (v := .tuple #[.agg #[.int .i64 2, .string ⟨#[]⟩, .int .i64 (n : Int)], .bool b]) (by simp [results, Tryz.results60, go_sem, *]) rfl ⟨rfl, ?_⟩
  exact ((Below.setCell E1.out (by simp) _).setCell (by simp) _).setCell (by simp) _

/-- What sign a piece is, and whether it is one. -/
theorem sign_any (k : Nat) (T : ByteArray) (w : World) (hT : T.size ≤ 281474976710656) (hk : k = 1 ∨ k = 2 ∨ k = 3) :
    Calls Tryz.prog 60 #[.agg #[.int .i64 (k : Int), .string T]] w fun e w' => ∃ p : Sg, e = .returned (.tuple #[sgV p, .bool (signOf k T.data.toList).isSome]) ∧ (∀ s, signOf k T.data.toList = some s → p = s) ∧ Ext w w' := by
  have hlen : T.data.toList.length = T.size := by simp
  rcases hk with rfl | rfl | rfl
  · refine (sign_1 T w hT).mono ?_
    rintro e w' ⟨rfl, hE⟩
    refine ⟨(1, T.data.toList, 0), ?_, ?_, hE⟩
    · rw [sgV, txt_data]
      by_cases h : T.size ≤ 12
      · rw [decide_eq_true (by omega)]; simp [signOf, hlen, h]
      · rw [decide_eq_false (by omega)]; simp [signOf, hlen, h]
    · intro s hs
      simp only [signOf, if_true] at hs
      split at hs
      · exact (Option.some.inj hs)
      · cases hs
  · refine (sign_2 T w).mono ?_
    rintro e w' ⟨rfl, hE⟩
    refine ⟨(2, [], ((halfR T.data.toList).1 : Int)), ?_, ?_, hE⟩
    · have : (halfR T.data.toList).2 = (signOf 2 T.data.toList).isSome := by
        unfold halfR signOf
        rw [if_neg (show ¬ (2 : Nat) = 1 by decide), if_pos (show (2 : Nat) = 2 from rfl)]
        by_cases h : 10 < T.data.toList.length
        · rw [if_pos h]
          cases numF 10 T.data.toList 0 with
          | none => rfl
          | some n => have : ¬ (T.data.toList.length ≤ 10 ∧ n ≤ 4294967295) := (by omega); simp only [this]; rfl
        · rw [if_neg h]
          cases numF 10 T.data.toList 0 with
          | none => rfl
          | some n =>
            by_cases hn : n ≤ 4294967295
            · have : T.data.toList.length ≤ 10 ∧ n ≤ 4294967295 := ⟨by omega, hn⟩
              simp only [this]; simp
            · have : ¬ (T.data.toList.length ≤ 10 ∧ n ≤ 4294967295) := fun h => hn h.2
              simp [hn]
      rw [this]
      rfl
    · intro s hs
      unfold signOf at hs
      rw [if_neg (show ¬ (2 : Nat) = 1 by decide), if_pos (show (2 : Nat) = 2 from rfl)] at hs
      unfold halfR
      cases hn : numF 10 T.data.toList 0 with
      | none => rw [hn] at hs; cases hs
      | some n =>
        rw [hn] at hs
        simp only at hs
        split at hs
        · rename_i h
          rw [if_neg (by omega)]
          exact Option.some.inj hs
        · cases hs
  · refine (sign_3 T w hT).mono ?_
    rintro e w' ⟨rfl, hE⟩
    refine ⟨(3, T.data.toList, 0), ?_, ?_, hE⟩
    · rw [sgV, txt_data]
      cases h : isMarkL T.data.toList <;> simp [signOf, h]
    · intro s hs
      cases h : isMarkL T.data.toList
      · simp [signOf, h] at hs
      · simp [signOf, h] at hs; exact hs

end Go.Proofs.YtojaohdmfahpmaaGreatDoor
