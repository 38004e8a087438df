/- What the laws' helpers over lines answer: eqLineS at two rows of the same lines, markLineS and heldLineS at a row of the call's own. (Written by mkeq12.py.) -/
import Derived.Test.YthflflhcbnianaaDoorRlPack28
import Derived.Test.YthflflhcbnianaaDoorRlPack17
import Derived.Deep.RegionHeld3
/- What the laws' markLineS and heldLineS do to a row of lines: every cell bears its mark, and is found with it. (Written by mkheld.py.) -/
namespace Go.Proofs.YthflflhcbnianaaDoor
open Go.RowKit
set_option linter.unusedVariables false

/-- The mark of the cell i. -/
def mkV (i : Nat) : Value := if i % 7 = 0 ∨ i % 7 = 5 ∨ i % 7 = 6 then .string (markB (i + 1)) else .int .i64 ((i + 1 : Nat) : Int)

def Slot7 (W : World) (g n : Nat) : Prop := g < W.heap.size ∧ ∀ j, j < n → (∃ v, W.cell? ⟨g, j, none⟩ = some v) ∧ W.frozen? ⟨g, j, none⟩ = false

theorem Slot7.ext {W W' : World} {g n : Nat} (h : Slot7 W g n) (hE : Ext W W') : Slot7 W' g n :=
  ⟨Nat.lt_of_lt_of_le h.1 hE.size, fun j hj => ⟨by obtain ⟨v, hv⟩ := (h.2 j hj).1; exact ⟨v, (hE.cell (p := ⟨g, j, none⟩) h.1).trans hv⟩, (hE.frozen (p := ⟨g, j, none⟩) h.1).trans (h.2 j hj).2⟩⟩

theorem cell_put (W : World) (g i j : Nat) (u v : Value) (h : W.cell? ⟨g, j, none⟩ = some u) : (W.setCell ⟨g, i, none⟩ v).cell? ⟨g, j, none⟩ = some (if j = i then v else u) := by
  by_cases e : j = i
  · subst e; rw [if_pos rfl]; exact World.cell?_setCell_same _ _ _ h
  · rw [if_neg e, World.cell?_setCell_other _ _ _ _ (fun hh => e (by injection hh with _ h2; exact h2.symm))]; exact h

theorem Slot7.set {W : World} {g n : Nat} (h : Slot7 W g n) (i : Nat) (v : Value) : Slot7 (W.setCell ⟨g, i, none⟩ v) g n := by
  refine ⟨by rw [World.size_setCell]; exact h.1, fun j hj => ⟨?_, by rw [World.frozen?_setCell]; exact (h.2 j hj).2⟩⟩
  obtain ⟨u, hu⟩ := (h.2 j hj).1
  exact ⟨_, cell_put W g i j u v hu⟩

/-- The first k cells bear their marks. -/
def Done7 (W : World) (g k : Nat) : Prop := g < W.heap.size ∧ ∀ i, i < k → W.cell? ⟨g, i, none⟩ = some (mkV i)

theorem Done7.ext {W W' : World} {g k : Nat} (h : Done7 W g k) (hE : Ext W W') : Done7 W' g k :=
  ⟨Nat.lt_of_lt_of_le h.1 hE.size, fun i hi => (hE.cell (p := ⟨g, i, none⟩) h.1).trans (h.2 i hi)⟩

theorem Done7.set {W : World} {g k n : Nat} (h : Done7 W g k) (hs : Slot7 W g n) (hk : k < n) {v : Value} (hv : v = mkV k) : Done7 (W.setCell ⟨g, k, none⟩ v) g (k + 1) := by
  refine ⟨by rw [World.size_setCell]; exact h.1, fun i hi => ?_⟩
  by_cases e : i = k
  · subst e
    obtain ⟨u, hu⟩ := (hs.2 i hk).1
    rw [World.cell?_setCell_same _ _ _ hu, hv]
  · rw [World.cell?_setCell_other _ _ _ _ (fun hh => e (by injection hh with _ h2; exact h2.symm))]
    exact h.2 i (by omega)

/-- What holds in a round: the marks so far, the slots, what is left as it was. -/
def Mk7 (w W : World) (g n k : Nat) : Prop := w.grownBy W (some g) ∧ Slot7 W g (n * 7) ∧ Done7 W g k

theorem Mk7.ext {w W W' : World} {g n k : Nat} (h : Mk7 w W g n k) (hE : Ext W W') : Mk7 w W' g n k :=
  ⟨⟨hE.os.trans h.1.os, hE.tape.trans h.1.tape, hE.output.trans h.1.output, Nat.le_trans h.1.size hE.size, fun i hi hne => (hE.block i (Nat.lt_of_lt_of_le hi h.1.size)).trans (h.1.block i hi hne)⟩, h.2.1.ext hE, h.2.2.ext hE⟩

theorem Mk7.set {w W : World} {g n k : Nat} (h : Mk7 w W g n k) (hk : k < n * 7) {v : Value} (hv : v = mkV k) : Mk7 w (W.setCell ⟨g, k, none⟩ v) g n (k + 1) :=
  ⟨⟨h.1.os, h.1.tape, h.1.output, by rw [World.size_setCell]; exact h.1.size, fun j hj hne => (Below.heap_setCell _ _ _ _ (fun e => hne (by rw [e]))).trans (h.1.block j hj hne)⟩, h.2.1.set k v, h.2.2.set h.2.1 hk hv⟩

theorem mkV_text {j i : Nat} (h : i = 0 ∨ i = 5 ∨ i = 6) : mkV (j * 7 + i) = .string (markB (j * 7 + i + 1)) := by
  unfold mkV; rw [if_pos]; omega

theorem mkV_int {j i : Nat} (h : i = 1 ∨ i = 2 ∨ i = 3 ∨ i = 4) : mkV (j * 7 + i) = .int .i64 ((j * 7 + i + 1 : Nat) : Int) := by
  unfold mkV; rw [if_neg]; omega

set_option maxRecDepth 100000 in
set_option maxHeartbeats 8000000 in
theorem mark7_any (g n cap : Nat) (w : World) (hn : n ≤ 100000000) (h : Slot7 w g (n * 7)) :
    Calls Tryd.prog 26 #[.slice (some ⟨g, 0, none⟩) n cap, .int .i64 1] w fun e w' => e = .returned (.int .i64 ((n * 7 + 1 : Nat) : Int)) ∧ Mk7 w w' g n (n * 7) := by
  have HA : Hid (Mk7 w w g n 0) := ⟨⟨rfl, rfl, rfl, Nat.le_refl _, fun _ _ _ => rfl⟩, h, h.1, fun i hi => by omega⟩
  clear h
  go_enter Tryd.func26, Tryd.ntmps26
  go_wp2_with fail
  go_loopw [1, 5] (fun kv i wr => ∃ j K : Nat, i = .int .i64 j ∧ kv = .int .i64 K ∧ j ≤ n ∧ K = j * 7 + 1 ∧ Hid (Mk7 w wr g n (j * 7))) (fun _ i _ => n - (intOf i).toNat)
  case atStart => exact ⟨0, 1, rfl, rfl, by omega, by omega, by rw [Nat.zero_mul]; exact HA.out⟩
  case round =>
    obtain ⟨j, K, rfl, rfl, hj, hK, HR⟩ := hrel
    by_cases hlt : j < n
    · have bk : (j : Int) < (n : Int) := by omega
      have hK0 : 0 < K := by omega
      have hK9 : K + 6 ≤ 1000000000 := by omega
      have HK : Hid (K = j * 7 + 1 ∧ j < n) := ⟨hK, hlt⟩
      have HM5 : Hid (∀ w, Calls Tryd.prog 64 #[.int .i64 ((K : Int) + 1 + 1 + 1 + 1 + 1)] w fun e w' => e = .returned (.string (markB (K + 5))) ∧ Below w.heap.size w w') := fun w => by
        have := markT_any (K + 5) w (by omega) (by omega)
        rw [show ((K + 5 : Nat) : Int) = (K : Int) + 1 + 1 + 1 + 1 + 1 by omega] at this
        exact this
      have HM6 : Hid (∀ w, Calls Tryd.prog 64 #[.int .i64 ((K : Int) + 1 + 1 + 1 + 1 + 1 + 1)] w fun e w' => e = .returned (.string (markB (K + 6))) ∧ Below w.heap.size w w') := fun w => by
        have := markT_any (K + 6) w (by omega) (by omega)
        rw [show ((K + 6 : Nat) : Int) = (K : Int) + 1 + 1 + 1 + 1 + 1 + 1 by omega] at this
        exact this
      clear hK
      go_wp2_with fail
      refine (markT_any K _ hK0 (by omega)).mono ?_
      rintro e w2 ⟨rfl, e2⟩
      have HR2 : Hid (Mk7 w w2 g n (j * 7)) := HR.out.ext e2
      obtain ⟨⟨v0, c0⟩, f0⟩ := HR2.out.2.1.2 (j * 7) (by omega)
      obtain ⟨⟨v1, c1⟩, f1⟩ := HR2.out.2.1.2 (j * 7 + 1) (by omega)
      obtain ⟨⟨v2, c2⟩, f2⟩ := HR2.out.2.1.2 (j * 7 + 2) (by omega)
      obtain ⟨⟨v3, c3⟩, f3⟩ := HR2.out.2.1.2 (j * 7 + 3) (by omega)
      obtain ⟨⟨v4, c4⟩, f4⟩ := HR2.out.2.1.2 (j * 7 + 4) (by omega)
      clear e2 HR
      go_wp2_with fail
      refine (HM5.out _).mono ?_
      rintro e w3 ⟨rfl, e3⟩
      have HR3 : Hid (Mk7 w w3 g n (j * 7 + 5)) := by
        have hk := HK.out
        exact (((((HR2.out.set (by omega) (by rw [show K = j * 7 + 0 + 1 by omega]; exact (mkV_text (i := 0) (.inl rfl)).symm)).set (by omega) (by rw [mkV_int (i := 1) (.inl rfl)]; congr 1; omega)).set (by omega) (by rw [show j * 7 + 1 + 1 = j * 7 + 2 by omega, mkV_int (i := 2) (by omega)]; congr 1; omega)).set (by omega) (by rw [show j * 7 + 1 + 1 + 1 = j * 7 + 3 by omega, mkV_int (i := 3) (by omega)]; congr 1; omega)).set (by omega) (by rw [show j * 7 + 1 + 1 + 1 + 1 = j * 7 + 4 by omega, mkV_int (i := 4) (by omega)]; congr 1; omega)).ext e3
      obtain ⟨⟨v5, c5⟩, f5⟩ := HR3.out.2.1.2 (j * 7 + 5) (by omega)
      clear e3 c0 c1 c2 c3 c4 f0 f1 f2 f3 f4 HR2 HM5
      go_wp2_with fail
      refine (HM6.out _).mono ?_
      rintro e w4 ⟨rfl, e4⟩
      have HR4 : Hid (Mk7 w w4 g n (j * 7 + 6)) := by
        have hk := HK.out
        exact (HR3.out.set (by omega) (by rw [mkV_text (i := 5) (by omega), show K + 5 = j * 7 + 5 + 1 by omega])).ext e4
      obtain ⟨⟨v6, c6⟩, f6⟩ := HR4.out.2.1.2 (j * 7 + 6) (by omega)
      clear e4 c5 f5 HR3 HM6
      go_wp2
      go_roundw
      case rel =>
        have hk := HK.out
        refine ⟨j + 1, K + 7, by go_num, ?_, by omega, by omega, ?_⟩
        · rw [show ((K + 7 : Nat) : Int) = (K : Int) + 1 + 1 + 1 + 1 + 1 + 1 + 1 by omega]
        · have := HR4.out.set (v := .string (markB (K + 6))) (by omega) (by rw [mkV_text (i := 6) (by omega), show K + 6 = j * 7 + 6 + 1 by omega])
          rw [show (j + 1) * 7 = j * 7 + 6 + 1 by omega]
          exact this
      case measure => simp [intOf]; omega
    · have hjn : j = n := by omega
      have bk : ¬ ((j : Int) < (n : Int)) := by omega
      subst hjn
      go_wp2
      go_ret
      exact ⟨by first | rfl | simp, HR.out⟩

set_option maxRecDepth 100000 in
set_option maxHeartbeats 8000000 in
theorem held7_any (g n cap : Nat) (w : World) (hn : n ≤ 100000000) (h : Done7 w g (n * 7)) :
    Calls Tryd.prog 27 #[.slice (some ⟨g, 0, none⟩) n cap, .int .i64 1] w fun e w' => e = .returned (.int .i64 ((n * 7 + 1 : Nat) : Int)) ∧ Ext w w' := by
  have HA : Hid (Done7 w g (n * 7)) := h
  clear h
  go_enter Tryd.func27, Tryd.ntmps27
  go_wp2_with fail
  go_loopw [1, 5] (fun kv i wr => ∃ j K : Nat, i = .int .i64 j ∧ kv = .int .i64 K ∧ j ≤ n ∧ K = j * 7 + 1 ∧ Hid (Ext w wr)) (fun _ i _ => n - (intOf i).toNat)
  case atStart => exact ⟨0, 1, rfl, rfl, by omega, by omega, Ext.refl _⟩
  case round =>
    obtain ⟨j, K, rfl, rfl, hj, hK, HE⟩ := hrel
    by_cases hlt : j < n
    · have bk : (j : Int) < (n : Int) := by omega
      have hK0 : 0 < K := by omega
      have hK9 : K + 6 ≤ 1000000000 := by omega
      have HK : Hid (K = j * 7 + 1 ∧ j < n) := ⟨hK, hlt⟩
      have HD : Hid (Done7 wr g (n * 7)) := HA.out.ext HE.out
      have s0 : Hid (wr.cell? ⟨g, j * 7, none⟩ = some (.string (markB K))) := by
        show _ = _
        have := mkV_text (j := j) (i := 0) (by omega)
        rw [HD.out.2 (j * 7) (by omega)]
        rw [Nat.add_zero] at this
        rw [this, hK]
      have HM5 : Hid (∀ w, Calls Tryd.prog 64 #[.int .i64 ((K : Int) + 1 + 1 + 1 + 1 + 1)] w fun e w' => e = .returned (.string (markB (K + 5))) ∧ Below w.heap.size w w') := fun w => by
        have := markT_any (K + 5) w (by omega) (by omega)
        rw [show ((K + 5 : Nat) : Int) = (K : Int) + 1 + 1 + 1 + 1 + 1 by omega] at this
        exact this
      have HM6 : Hid (∀ w, Calls Tryd.prog 64 #[.int .i64 ((K : Int) + 1 + 1 + 1 + 1 + 1 + 1)] w fun e w' => e = .returned (.string (markB (K + 6))) ∧ Below w.heap.size w w') := fun w => by
        have := markT_any (K + 6) w (by omega) (by omega)
        rw [show ((K + 6 : Nat) : Int) = (K : Int) + 1 + 1 + 1 + 1 + 1 + 1 by omega] at this
        exact this
      clear hK
      go_wp2_with fail
      refine' wp_region_loose (.inl _ :: .inl _ :: .inl _ :: .inl _ :: .inl _ :: .inl _ :: .inl _ :: .inl _ :: []) (fun w' => w'.cell? ⟨g, j * 7, none⟩ = some (.string (markB (K)))) (by kernel_rfl) (by kernel_rfl) (s0.out) (fun _ _ h hE => (hE.cell (World.block_lt_of_cell? _ _ h)).trans h) ?hAa ?hla ?hMa
      case' hMa => skip
      apply wpLoose_val rfl rfl
      case hs =>
        intro w1 hC hd Q1 hQ1
        obtain ⟨hE, hS⟩ := hC
        dsimp only [bare]
        have q0 := hS
        clear hd hE
        try clear hS
        go_wp2
        exact Ext.refl _
      case ha => rfl
      apply wpLoose_val rfl rfl
      case hs =>
        intro w1 hC hd Q1 hQ1
        obtain ⟨hE, hS⟩ := hC
        dsimp only [bare]
        have q0 := hS
        clear hd hE
        try clear hS
        go_wp2
        exact Ext.refl _
      case ha => rfl
      apply wpLoose_val rfl rfl
      case hs =>
        intro w1 hC hd Q1 hQ1
        obtain ⟨hE, hS⟩ := hC
        dsimp only [bare]
        have q0 := hS
        clear hd hE
        try clear hS
        go_wp2
        exact Ext.refl _
      case ha => rfl
      apply wpLoose_val rfl rfl
      case hs =>
        intro w1 hC hd Q1 hQ1
        obtain ⟨hE, hS⟩ := hC
        dsimp only [bare]
        have q0 := hS
        clear hd hE
        try clear hS
        go_wp2
        exact Ext.refl _
      case ha => rfl
      apply wpLoose_val rfl rfl
      case hs =>
        intro w1 hC hd Q1 hQ1
        obtain ⟨hE, hS⟩ := hC
        dsimp only [bare]
        have q0 := hS
        clear hd hE
        try clear hS
        go_wp2
        exact Ext.refl _
      case ha => rfl
      apply wpLoose_val rfl rfl
      case hs =>
        intro w1 hC hd Q1 hQ1
        obtain ⟨hE, hS⟩ := hC
        dsimp only [bare]
        have q0 := hS
        clear hd hE
        try clear hS
        go_wp2
        exact Ext.refl _
      case ha => rfl
      apply wpLoose_val rfl rfl
      case hs =>
        intro w1 hC hd Q1 hQ1
        obtain ⟨hE, hS⟩ := hC
        dsimp only [bare]
        clear hd
        go_wp2_with fail
        refine (markT_any K _ hK0 (by omega)).mono ?_
        rintro e w2 ⟨rfl, hb⟩
        go_wp2_with fail
        exact hb
      case ha => rfl
      apply wpLoose_val rfl rfl
      case hs =>
        intro w1 hC hd Q1 hQ1
        obtain ⟨hE, hS⟩ := hC
        dsimp only [bare]
        have q0 := hS
        clear hd hE
        try clear hS
        go_wp2
        exact Ext.refl _
      case ha => rfl
      refine wpLoose_nil ?_
      intro wa hEa hSa hFa
      have HDa : Hid (Ext wr wa) := (Ext.refl wr).drew.trans hEa
      have ints : ∀ i, i = 1 ∨ i = 2 ∨ i = 3 ∨ i = 4 → wa.cell? ⟨g, j * 7 + i, none⟩ = some (.int .i64 ((K + i : Nat) : Int)) := fun i hi => by
        have hk := HK.out
        rw [(HD.out.ext HDa.out).2 (j * 7 + i) (by omega), mkV_int hi, show j * 7 + i + 1 = K + i by omega]
      have c1 := ints 1 (by omega)
      have c2 := ints 2 (by omega)
      have c3 := ints 3 (by omega)
      have c4 := ints 4 (by omega)
      rw [show ((K + 1 : Nat) : Int) = (K : Int) + 1 by omega] at c1
      rw [show ((K + 2 : Nat) : Int) = (K : Int) + 1 + 1 by omega] at c2
      rw [show ((K + 3 : Nat) : Int) = (K : Int) + 1 + 1 + 1 by omega] at c3
      rw [show ((K + 4 : Nat) : Int) = (K : Int) + 1 + 1 + 1 + 1 by omega] at c4
      have s5 : Hid (wa.cell? ⟨g, j * 7 + 5, none⟩ = some (.string (markB (K + 5)))) := by
        have hk := HK.out
        show _ = _
        rw [(HD.out.ext HDa.out).2 (j * 7 + 5) (by omega), mkV_text (i := 5) (by omega), show j * 7 + 5 + 1 = K + 5 by omega]
      clear hFa hSa hEa ints s0
      go_wp2_with fail
      refine' wp_region_loose (.inl _ :: .inl _ :: .inl _ :: .inl _ :: .inl _ :: .inl _ :: .inl _ :: .inl _ :: []) (fun w' => w'.cell? ⟨g, j * 7 + 5, none⟩ = some (.string (markB (K + 5)))) (by kernel_rfl) (by kernel_rfl) (s5.out) (fun _ _ h hE => (hE.cell (World.block_lt_of_cell? _ _ h)).trans h) ?hAb ?hlb ?hMb
      case' hMb => skip
      apply wpLoose_val rfl rfl
      case hs =>
        intro w1 hC hd Q1 hQ1
        obtain ⟨hE, hS⟩ := hC
        dsimp only [bare]
        have q0 := hS
        clear hd hE
        try clear hS
        go_wp2
        exact Ext.refl _
      case ha => rfl
      apply wpLoose_val rfl rfl
      case hs =>
        intro w1 hC hd Q1 hQ1
        obtain ⟨hE, hS⟩ := hC
        dsimp only [bare]
        have q0 := hS
        clear hd hE
        try clear hS
        go_wp2
        exact Ext.refl _
      case ha => rfl
      apply wpLoose_val rfl rfl
      case hs =>
        intro w1 hC hd Q1 hQ1
        obtain ⟨hE, hS⟩ := hC
        dsimp only [bare]
        have q0 := hS
        clear hd hE
        try clear hS
        go_wp2
        exact Ext.refl _
      case ha => rfl
      apply wpLoose_val rfl rfl
      case hs =>
        intro w1 hC hd Q1 hQ1
        obtain ⟨hE, hS⟩ := hC
        dsimp only [bare]
        have q0 := hS
        clear hd hE
        try clear hS
        go_wp2
        exact Ext.refl _
      case ha => rfl
      apply wpLoose_val rfl rfl
      case hs =>
        intro w1 hC hd Q1 hQ1
        obtain ⟨hE, hS⟩ := hC
        dsimp only [bare]
        have q0 := hS
        clear hd hE
        try clear hS
        go_wp2
        exact Ext.refl _
      case ha => rfl
      apply wpLoose_val rfl rfl
      case hs =>
        intro w1 hC hd Q1 hQ1
        obtain ⟨hE, hS⟩ := hC
        dsimp only [bare]
        have q0 := hS
        clear hd hE
        try clear hS
        go_wp2
        exact Ext.refl _
      case ha => rfl
      apply wpLoose_val rfl rfl
      case hs =>
        intro w1 hC hd Q1 hQ1
        obtain ⟨hE, hS⟩ := hC
        dsimp only [bare]
        clear hd
        go_wp2_with fail
        refine (HM5.out _).mono ?_
        rintro e w2 ⟨rfl, hb⟩
        go_wp2_with fail
        exact hb
      case ha => rfl
      apply wpLoose_val rfl rfl
      case hs =>
        intro w1 hC hd Q1 hQ1
        obtain ⟨hE, hS⟩ := hC
        dsimp only [bare]
        have q0 := hS
        clear hd hE
        try clear hS
        go_wp2
        exact Ext.refl _
      case ha => rfl
      refine wpLoose_nil ?_
      intro wb hEb hSb hFb
      have HDb : Hid (Ext wr wb) := HDa.out.trans ((Ext.refl wa).drew.trans hEb)
      have s6 : Hid (wb.cell? ⟨g, j * 7 + 6, none⟩ = some (.string (markB (K + 6)))) := by
        have hk := HK.out
        show _ = _
        rw [(HD.out.ext HDb.out).2 (j * 7 + 6) (by omega), mkV_text (i := 6) (by omega), show j * 7 + 6 + 1 = K + 6 by omega]
      clear hFb hSb hEb s5 c1 c2 c3 c4 HDa
      go_wp2_with fail
      refine' wp_region_loose (.inl _ :: .inl _ :: .inl _ :: .inl _ :: .inl _ :: .inl _ :: .inl _ :: .inl _ :: []) (fun w' => w'.cell? ⟨g, j * 7 + 6, none⟩ = some (.string (markB (K + 6)))) (by kernel_rfl) (by kernel_rfl) (s6.out) (fun _ _ h hE => (hE.cell (World.block_lt_of_cell? _ _ h)).trans h) ?hAc ?hlc ?hMc
      case' hMc => skip
      apply wpLoose_val rfl rfl
      case hs =>
        intro w1 hC hd Q1 hQ1
        obtain ⟨hE, hS⟩ := hC
        dsimp only [bare]
        have q0 := hS
        clear hd hE
        try clear hS
        go_wp2
        exact Ext.refl _
      case ha => rfl
      apply wpLoose_val rfl rfl
      case hs =>
        intro w1 hC hd Q1 hQ1
        obtain ⟨hE, hS⟩ := hC
        dsimp only [bare]
        have q0 := hS
        clear hd hE
        try clear hS
        go_wp2
        exact Ext.refl _
      case ha => rfl
      apply wpLoose_val rfl rfl
      case hs =>
        intro w1 hC hd Q1 hQ1
        obtain ⟨hE, hS⟩ := hC
        dsimp only [bare]
        have q0 := hS
        clear hd hE
        try clear hS
        go_wp2
        exact Ext.refl _
      case ha => rfl
      apply wpLoose_val rfl rfl
      case hs =>
        intro w1 hC hd Q1 hQ1
        obtain ⟨hE, hS⟩ := hC
        dsimp only [bare]
        have q0 := hS
        clear hd hE
        try clear hS
        go_wp2
        exact Ext.refl _
      case ha => rfl
      apply wpLoose_val rfl rfl
      case hs =>
        intro w1 hC hd Q1 hQ1
        obtain ⟨hE, hS⟩ := hC
        dsimp only [bare]
        have q0 := hS
        clear hd hE
        try clear hS
        go_wp2
        exact Ext.refl _
      case ha => rfl
      apply wpLoose_val rfl rfl
      case hs =>
        intro w1 hC hd Q1 hQ1
        obtain ⟨hE, hS⟩ := hC
        dsimp only [bare]
        have q0 := hS
        clear hd hE
        try clear hS
        go_wp2
        exact Ext.refl _
      case ha => rfl
      apply wpLoose_val rfl rfl
      case hs =>
        intro w1 hC hd Q1 hQ1
        obtain ⟨hE, hS⟩ := hC
        dsimp only [bare]
        clear hd
        go_wp2_with fail
        refine (HM6.out _).mono ?_
        rintro e w2 ⟨rfl, hb⟩
        go_wp2_with fail
        exact hb
      case ha => rfl
      apply wpLoose_val rfl rfl
      case hs =>
        intro w1 hC hd Q1 hQ1
        obtain ⟨hE, hS⟩ := hC
        dsimp only [bare]
        have q0 := hS
        clear hd hE
        try clear hS
        go_wp2
        exact Ext.refl _
      case ha => rfl
      refine wpLoose_nil ?_
      intro wc hEc hSc hFc
      have HDc : Hid (Ext w wc) := HE.out.trans (HDb.out.trans ((Ext.refl wb).drew.trans hEc))
      clear hFc hSc hEc s6 HDb
      go_wp2
      go_roundw
      case rel =>
        have hk := HK.out
        refine ⟨j + 1, K + 7, by go_num, ?_, by omega, by omega, HDc.out⟩
        rw [show ((K + 7 : Nat) : Int) = (K : Int) + 1 + 1 + 1 + 1 + 1 + 1 + 1 by omega]
      case measure => simp [intOf]; omega
      case hAc => kernel_rfl
      case hlc => exact ⟨trivial, trivial, trivial, trivial, trivial, trivial, trivial, trivial, trivial⟩
      case hAb => kernel_rfl
      case hlb => exact ⟨trivial, trivial, trivial, trivial, trivial, trivial, trivial, trivial, trivial⟩
      case hAa => kernel_rfl
      case hla => exact ⟨trivial, trivial, trivial, trivial, trivial, trivial, trivial, trivial, trivial⟩
    · have hjn : j = n := by omega
      have bk : ¬ ((j : Int) < (n : Int)) := by omega
      subst hjn
      go_wp2
      go_ret
      exact ⟨by first | rfl | simp, HE.out⟩

set_option maxRecDepth 100000 in
set_option maxHeartbeats 4000000 in
theorem eqLines_any (a1 a2 : Option Addr) (c1 c2 : Nat) (ls : List Ln) (w : World) (hl : ls.length ≤ 100000000) (h1 : Lns w a1 ls) (h2 : Lns w a2 ls) :
    Calls Tryd.prog 23 #[.slice a1 ls.length c1, .slice a2 ls.length c2] w fun e w' => e = .returned (.bool true) ∧ Ext w w' := by
  obtain ⟨n, hn⟩ : ∃ n, n = ls.length := ⟨_, rfl⟩
  have HA : Hid (Lns w a1 ls ∧ Lns w a2 ls ∧ n = ls.length) := ⟨h1, h2, hn⟩
  rw [← hn]
  have hl' : n ≤ 100000000 := by omega
  clear h1 h2 hn hl
  go_enter Tryd.func23, Tryd.ntmps23
  go_wp2_with fail
  go_loopw [5] (fun i wr => ∃ k : Nat, i = .int .i64 k ∧ k ≤ n ∧ Below w.heap.size w wr) (fun i _ => n - (intOf i).toNat)
  case atStart => exact ⟨0, rfl, by omega, Below.refl _ _⟩
  case round =>
    obtain ⟨k, rfl, hk, hb⟩ := hrel
    by_cases hlt : k < n
    · have bk : (k : Int) < (n : Int) := by omega
      obtain ⟨⟨lab, ⟨o, kk, y, nn⟩, yes, no⟩, hp⟩ : ∃ p, p = ls.getD k zeroL := ⟨_, rfl⟩
      obtain ⟨b1, o1, rfl, p1⟩ := (HA.out.1.below hb (Nat.le_refl _)).hept (k := k) (by have := HA.out.2.2; omega) hp
      obtain ⟨b2, o2, rfl, p2⟩ := (HA.out.2.1.below hb (Nat.le_refl _)).hept (k := k) (by have := HA.out.2.2; omega) hp
      clear hp
      have HB : Hid (Below w.heap.size w wr) := hb
      clear hb
      go_wp2_with fail
      refine' wp_region_loose (.inl _ :: .inl _ :: .inl _ :: .inl _ :: .inl _ :: .inl _ :: .inl _ :: .inl _ :: .inl _ :: .inl _ :: []) (fun w' => Hept w' b1 (o1 + k * 7) ⟨lab, (o, kk, y, nn), yes, no⟩ ∧ Hept w' b2 (o2 + k * 7) ⟨lab, (o, kk, y, nn), yes, no⟩) (by kernel_rfl) (by kernel_rfl) (⟨p1, p2⟩) (fun _ _ h hE => ⟨h.1.below hE h.1.lt, h.2.below hE h.2.lt⟩) ?hAa ?hla ?hMa
      case' hMa => skip
      apply wpLoose_val rfl rfl
      case hs =>
        intro w1 hC hd Q1 hQ1
        obtain ⟨hE, hS⟩ := hC
        dsimp only [bare]
        obtain ⟨⟨q1, q2, q3, q4, q5, q6, q7⟩, ⟨t1, t2, t3, t4, t5, t6, t7⟩⟩ := hS; simp only at q1 q2 q3 q4 q5 q6 q7 t1 t2 t3 t4 t5 t6 t7
        clear hd hE
        try clear hS
        go_wp2
        exact Ext.refl _
      case ha => rfl
      apply wpLoose_val rfl rfl
      case hs =>
        intro w1 hC hd Q1 hQ1
        obtain ⟨hE, hS⟩ := hC
        dsimp only [bare]
        obtain ⟨⟨q1, q2, q3, q4, q5, q6, q7⟩, ⟨t1, t2, t3, t4, t5, t6, t7⟩⟩ := hS; simp only at q1 q2 q3 q4 q5 q6 q7 t1 t2 t3 t4 t5 t6 t7
        clear hd hE
        try clear hS
        go_wp2
        exact Ext.refl _
      case ha => rfl
      apply wpLoose_val rfl rfl
      case hs =>
        intro w1 hC hd Q1 hQ1
        obtain ⟨hE, hS⟩ := hC
        dsimp only [bare]
        obtain ⟨⟨q1, q2, q3, q4, q5, q6, q7⟩, ⟨t1, t2, t3, t4, t5, t6, t7⟩⟩ := hS; simp only at q1 q2 q3 q4 q5 q6 q7 t1 t2 t3 t4 t5 t6 t7
        clear hd hE
        try clear hS
        go_wp2
        exact Ext.refl _
      case ha => rfl
      apply wpLoose_val rfl rfl
      case hs =>
        intro w1 hC hd Q1 hQ1
        obtain ⟨hE, hS⟩ := hC
        dsimp only [bare]
        obtain ⟨⟨q1, q2, q3, q4, q5, q6, q7⟩, ⟨t1, t2, t3, t4, t5, t6, t7⟩⟩ := hS; simp only at q1 q2 q3 q4 q5 q6 q7 t1 t2 t3 t4 t5 t6 t7
        clear hd hE
        try clear hS
        go_wp2
        exact Ext.refl _
      case ha => rfl
      apply wpLoose_val rfl rfl
      case hs =>
        intro w1 hC hd Q1 hQ1
        obtain ⟨hE, hS⟩ := hC
        dsimp only [bare]
        obtain ⟨⟨q1, q2, q3, q4, q5, q6, q7⟩, ⟨t1, t2, t3, t4, t5, t6, t7⟩⟩ := hS; simp only at q1 q2 q3 q4 q5 q6 q7 t1 t2 t3 t4 t5 t6 t7
        clear hd hE
        try clear hS
        go_wp2
        exact Ext.refl _
      case ha => rfl
      apply wpLoose_val rfl rfl
      case hs =>
        intro w1 hC hd Q1 hQ1
        obtain ⟨hE, hS⟩ := hC
        dsimp only [bare]
        obtain ⟨⟨q1, q2, q3, q4, q5, q6, q7⟩, ⟨t1, t2, t3, t4, t5, t6, t7⟩⟩ := hS; simp only at q1 q2 q3 q4 q5 q6 q7 t1 t2 t3 t4 t5 t6 t7
        clear hd hE
        try clear hS
        go_wp2
        exact Ext.refl _
      case ha => rfl
      apply wpLoose_val rfl rfl
      case hs =>
        intro w1 hC hd Q1 hQ1
        obtain ⟨hE, hS⟩ := hC
        dsimp only [bare]
        obtain ⟨⟨q1, q2, q3, q4, q5, q6, q7⟩, ⟨t1, t2, t3, t4, t5, t6, t7⟩⟩ := hS; simp only at q1 q2 q3 q4 q5 q6 q7 t1 t2 t3 t4 t5 t6 t7
        clear hd hE
        try clear hS
        go_wp2
        exact Ext.refl _
      case ha => rfl
      apply wpLoose_val rfl rfl
      case hs =>
        intro w1 hC hd Q1 hQ1
        obtain ⟨hE, hS⟩ := hC
        dsimp only [bare]
        obtain ⟨⟨q1, q2, q3, q4, q5, q6, q7⟩, ⟨t1, t2, t3, t4, t5, t6, t7⟩⟩ := hS; simp only at q1 q2 q3 q4 q5 q6 q7 t1 t2 t3 t4 t5 t6 t7
        clear hd hE
        try clear hS
        go_wp2
        exact Ext.refl _
      case ha => rfl
      apply wpLoose_val rfl rfl
      case hs =>
        intro w1 hC hd Q1 hQ1
        obtain ⟨hE, hS⟩ := hC
        dsimp only [bare]
        clear hd
        go_wp2_with fail
        refine (eqLine_same lab yes no o kk y nn _).mono ?_
        rintro e w2 ⟨rfl, hb⟩
        go_wp2_with fail
        exact hb
      case ha => rfl
      apply wpLoose_val rfl rfl
      case hs =>
        intro w1 hC hd Q1 hQ1
        obtain ⟨hE, hS⟩ := hC
        dsimp only [bare]
        obtain ⟨⟨q1, q2, q3, q4, q5, q6, q7⟩, ⟨t1, t2, t3, t4, t5, t6, t7⟩⟩ := hS; simp only at q1 q2 q3 q4 q5 q6 q7 t1 t2 t3 t4 t5 t6 t7
        clear hd hE
        try clear hS
        go_wp2
        exact Ext.refl _
      case ha => rfl
      refine wpLoose_nil ?_
      intro wa hEa hSa hFa
      have HB2 : Hid (Below w.heap.size w wa) := (HB.out.drew).trans (Below.mono hEa HB.out.size)
      clear hFa hSa hEa p1 p2 HB
      go_wp2
      go_roundw
      case rel => exact ⟨k + 1, by go_num, by omega, HB2.out⟩
      case measure => simp [intOf]; omega
      case hAa => kernel_rfl
      case hla => exact ⟨trivial, trivial, trivial, trivial, trivial, trivial, trivial, trivial, trivial, trivial, trivial⟩
    · have bk : ¬ ((k : Int) < (n : Int)) := by omega
      go_wp2
      go_ret
      exact ⟨rfl, hb⟩

theorem OwnL.lt {w : World} {B : Nat} {v : Value} {ls : List Ln} (h : OwnL w B v ls) {x : Nat} (hx : v.ownBlock = some x) : x < w.heap.size := by
  have hown : w.ownsRow B 38 7 v ls.length (flatL ls) := h
  rcases hown.2 with ⟨rfl, h0⟩ | ⟨g, cap, cur, rfl, hg, hh, _⟩
  · cases hx
  · obtain rfl : g = x := Option.some.inj hx
    exact (Array.getElem?_eq_some_iff.1 hh).1

/-- A row is as it was where another one, from C on, is written. -/
theorem OwnL.far {w w' : World} {B C : Nat} {v u : Value} {ls : List Ln} (h : OwnL w B v ls) (hg : w.grownBy w' u.ownBlock) (hu : ∀ x, u.ownBlock = some x → C ≤ x) (hv : ∀ x, v.ownBlock = some x → x < C) : OwnL w' B v ls := by
  have hown : w.ownsRow B 38 7 v ls.length (flatL ls) := h
  refine ⟨hown.1, ?_⟩
  rcases hown.2 with hn | ⟨g, cap, cur, rfl, hg2, hh, rest⟩
  · exact .inl hn
  · refine .inr ⟨g, cap, cur, rfl, hg2, (hg.block g (Array.getElem?_eq_some_iff.1 hh).1 (fun e => ?_)).trans hh, rest⟩
    have h1 := hu g e.symm
    have h2 := hv g rfl
    omega

/-- A row of n lines that bear their marks. -/
def Marked (W : World) (v : Value) (n : Nat) : Prop := ∃ a cap, v = .slice a n cap ∧ (0 < n → ∃ g, a = some ⟨g, 0, none⟩ ∧ Done7 W g (n * 7))

theorem Marked.ext {W W' : World} {v : Value} {n : Nat} (h : Marked W v n) (hE : Ext W W') : Marked W' v n := by
  obtain ⟨a, cap, e, h⟩ := h
  exact ⟨a, cap, e, fun hp => by obtain ⟨g, e1, h1⟩ := h hp; exact ⟨g, e1, h1.ext hE⟩⟩

theorem mark0_any (a : Option Addr) (cap : Nat) (w : World) : Calls Tryd.prog 26 #[.slice a 0 cap, .int .i64 1] w fun e w' => e = .returned (.int .i64 1) ∧ w = w' := by
  go_enter Tryd.func26, Tryd.ntmps26
  go_wp2
  refine wp_loop_rounds 1 ?_
  rw [rounds_succ]
  go_wp2
  go_ret
  exact ⟨rfl, rfl⟩

theorem held0_any (a : Option Addr) (cap : Nat) (w : World) : Calls Tryd.prog 27 #[.slice a 0 cap, .int .i64 1] w fun e w' => e = .returned (.int .i64 1) ∧ w = w' := by
  go_enter Tryd.func27, Tryd.ntmps27
  go_wp2
  refine wp_loop_rounds 1 ?_
  rw [rounds_succ]
  go_wp2
  go_ret
  exact ⟨rfl, rfl⟩

theorem mark_own {B : Nat} {v : Value} {ls : List Ln} {w : World} (h : OwnL w B v ls) (hn : ls.length ≤ 100000000) : Calls Tryd.prog 26 #[v, .int .i64 1] w fun e w' => e = .returned (.int .i64 ((ls.length * 7 + 1 : Nat) : Int)) ∧ w.grownBy w' v.ownBlock ∧ Marked w' v ls.length := by
  obtain ⟨a, cap, rfl, hc, _, h2⟩ := h.lns
  by_cases h0 : ls.length = 0
  · rw [h0]
    refine (mark0_any a cap w).mono ?_
    rintro e w' ⟨rfl, rfl⟩
    exact ⟨rfl, ⟨rfl, rfl, rfl, Nat.le_refl _, fun _ _ _ => rfl⟩, a, cap, rfl, fun hp => by omega⟩
  · obtain ⟨g, rfl, _, hg, hf⟩ := h2 (by omega)
    refine (mark7_any g ls.length cap w hn ⟨hg, fun j hj => ⟨?_, hf j⟩⟩).mono ?_
    · have hj' : j < (flatL ls).length := by rw [flatL_length]; exact hj
      exact ⟨(flatL ls)[j], h.cell j _ (List.getElem?_eq_getElem hj')⟩
    · rintro e w' ⟨rfl, hm⟩
      exact ⟨rfl, hm.1, _, cap, rfl, fun _ => ⟨g, rfl, hm.2.2⟩⟩

theorem held_own {v : Value} {n : Nat} {w : World} (h : Marked w v n) (hn : n ≤ 100000000) : Calls Tryd.prog 27 #[v, .int .i64 1] w fun e w' => e = .returned (.int .i64 ((n * 7 + 1 : Nat) : Int)) ∧ Ext w w' := by
  obtain ⟨a, cap, rfl, h2⟩ := h
  by_cases h0 : n = 0
  · subst h0
    refine (held0_any a cap w).mono ?_
    rintro e w' ⟨rfl, rfl⟩
    exact ⟨rfl, Ext.refl _⟩
  · obtain ⟨g, rfl, hd⟩ := h2 (by omega)
    exact held7_any g n cap w hn hd

theorem eq_own {B C : Nat} {u v : Value} {ls : List Ln} {w : World} (h1 : OwnL w B u ls) (h2 : OwnL w C v ls) (hn : ls.length ≤ 100000000) : Calls Tryd.prog 23 #[u, v] w fun e w' => e = .returned (.bool true) ∧ Ext w w' := by
  obtain ⟨a, c, rfl, _, k1, _⟩ := h1.lns
  obtain ⟨a', c', rfl, _, k2, _⟩ := h2.lns
  exact eqLines_any a a' c c' ls w hn k1 k2

end Go.Proofs.YthflflhcbnianaaDoor
