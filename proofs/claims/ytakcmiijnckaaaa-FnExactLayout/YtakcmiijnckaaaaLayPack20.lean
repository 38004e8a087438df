/- What the laws' markLineS does to a row of lines: only that row is written. -/
import Derived.Test.YtakcmiijnckaaaaLayPack18
import Derived.Test.YtakcmiijnckaaaaLayPack11
import Derived.Deep.Cut
namespace Go.Proofs.Ytakcmiijnckaaaa
open Go.RowKit
set_option linter.unusedVariables false

/-- These cells are there and may be written. -/
def Slots (W : World) (g n : Nat) : Prop := g < W.heap.size ∧ ∀ j, j < n → (∃ v, W.cell? ⟨g, j, none⟩ = some v) ∧ W.frozen? ⟨g, j, none⟩ = false

theorem Slots.ext {W W' : World} {g n : Nat} (h : Slots W g n) (hE : Ext W W') : Slots W' g n :=
  ⟨Nat.lt_of_lt_of_le h.1 hE.size, fun j hj => ⟨by obtain ⟨v, hv⟩ := (h.2 j hj).1; exact ⟨v, (hE.cell (p := ⟨g, j, none⟩) h.1).trans hv⟩, (hE.frozen (p := ⟨g, j, none⟩) h.1).trans (h.2 j hj).2⟩⟩

theorem Slots.set {W : World} {g n : Nat} (h : Slots W g n) (i : Nat) (v : Value) : Slots (W.setCell ⟨g, i, none⟩ v) g n := by
  refine ⟨by rw [World.size_setCell]; exact h.1, fun j hj => ⟨?_, by rw [World.frozen?_setCell]; exact (h.2 j hj).2⟩⟩
  obtain ⟨u, hu⟩ := (h.2 j hj).1
  exact ⟨_, cell_set W g i j u v hu⟩

theorem grown_ext {w W W' : World} {g : Nat} (h : w.grownBy W (some g)) (hE : Ext W W') : w.grownBy W' (some g) :=
  ⟨hE.os.trans h.os, hE.tape.trans h.tape, hE.output.trans h.output, Nat.le_trans h.size hE.size, fun i hi hne => (hE.block i (Nat.lt_of_lt_of_le hi h.size)).trans (h.block i hi hne)⟩

theorem grown_put {w W : World} {g : Nat} (h : w.grownBy W (some g)) (i : Nat) (v : Value) : w.grownBy (W.setCell ⟨g, i, none⟩ v) (some g) :=
  ⟨h.os, h.tape, h.output, by rw [World.size_setCell]; exact h.size, fun j hj hne => (Below.heap_setCell _ _ _ _ (fun e => hne (by rw [e]))).trans (h.block j hj hne)⟩

set_option maxRecDepth 100000 in
set_option maxHeartbeats 8000000 in
theorem markLn_any (g n cap : Nat) (w : World) (hn : n ≤ 1048576) (h : Slots w g (n * 7)) :
    Calls Try.prog 29 #[.slice (some ⟨g, 0, none⟩) n cap, .int .i64 1] w fun e w' => ∃ K : Nat, e = .returned (.int .i64 (K : Int)) ∧ K ≤ 10000000 ∧ w.grownBy w' (some g) := by
  have HA : Hid (Slots w g (n * 7)) := h
  clear h
  go_enter Try.func29, Try.ntmps29
  go_wp2_with fail
  go_loopw [1, 5] (fun kv i wr => ∃ j K : Nat, i = .int .i64 j ∧ kv = .int .i64 K ∧ j ≤ n ∧ K ≤ 10000000 ∧ 0 < K ∧ Hid (K = 7 * j + 1 ∧ w.grownBy wr (some g) ∧ Slots wr g (n * 7))) (fun _ i _ => n - (intOf i).toNat)
  case atStart => exact ⟨0, 1, rfl, rfl, by omega, by omega, by omega, rfl, grown_refl _ _, HA.out⟩
  case round =>
    obtain ⟨j, K, rfl, rfl, hj, hK, hK0, HR⟩ := hrel
    by_cases hlt : j < n
    · have bk : (j : Int) < (n : Int) := by omega
      go_wp2_with fail
      refine (markT_any K _ hK0 (by omega)).mono ?_
      rintro e w2 ⟨rfl, e2⟩
      have HR2 : Hid (w.grownBy w2 (some g) ∧ Slots w2 g (n * 7)) := ⟨grown_ext HR.out.2.1 e2, HR.out.2.2.ext e2⟩
      obtain ⟨⟨v0, c0⟩, f0⟩ := HR2.out.2.2 (j * 7) (by omega)
      obtain ⟨⟨v1, c1⟩, f1⟩ := HR2.out.2.2 (j * 7 + 1) (by omega)
      obtain ⟨⟨v2, c2⟩, f2⟩ := HR2.out.2.2 (j * 7 + 2) (by omega)
      obtain ⟨⟨v3, c3⟩, f3⟩ := HR2.out.2.2 (j * 7 + 3) (by omega)
      obtain ⟨⟨v4, c4⟩, f4⟩ := HR2.out.2.2 (j * 7 + 4) (by omega)
      clear e2
      have HM5 : Hid (∀ w, Calls Try.prog 59 #[.int .i64 ((K : Int) + 1 + 1 + 1 + 1 + 1)] w fun e w' => e = .returned (.string (markB (K + 5))) ∧ Below w.heap.size w w') := fun w => by
        have := markT_any (K + 5) w (by omega) (by omega)
        rw [show ((K + 5 : Nat) : Int) = (K : Int) + 1 + 1 + 1 + 1 + 1 by omega] at this
        exact this
      have HM6 : Hid (∀ w, Calls Try.prog 59 #[.int .i64 ((K : Int) + 1 + 1 + 1 + 1 + 1 + 1)] w fun e w' => e = .returned (.string (markB (K + 6))) ∧ Below w.heap.size w w') := fun w => by
        have := markT_any (K + 6) w (by omega) (by omega)
        rw [show ((K + 6 : Nat) : Int) = (K : Int) + 1 + 1 + 1 + 1 + 1 + 1 by omega] at this
        exact this
      go_wp2_with fail
      refine (HM5.out _).mono ?_
      rintro e w3 ⟨rfl, e3⟩
      have HR3 : Hid (w.grownBy w3 (some g) ∧ Slots w3 g (n * 7)) := ⟨grown_ext (grown_put (grown_put (grown_put (grown_put (grown_put HR2.out.1 _ _) _ _) _ _) _ _) _ _) e3, (((((HR2.out.2.set _ _).set _ _).set _ _).set _ _).set _ _).ext e3⟩
      obtain ⟨⟨v5, c5⟩, f5⟩ := HR3.out.2.2 (j * 7 + 5) (by omega)
      clear e3 c0 c1 c2 c3 c4 f0 f1 f2 f3 f4 HR2 HM5
      go_wp2_with fail
      refine (HM6.out _).mono ?_
      rintro e w4 ⟨rfl, e4⟩
      have HR4 : Hid (w.grownBy w4 (some g) ∧ Slots w4 g (n * 7)) := ⟨grown_ext (grown_put HR3.out.1 _ _) e4, (HR3.out.2.set _ _).ext e4⟩
      obtain ⟨⟨v6, c6⟩, f6⟩ := HR4.out.2.2 (j * 7 + 6) (by omega)
      have HK : Hid (K = 7 * j + 1) := HR.out.1
      clear e4 c5 f5 HR3 HM6 HR
      go_wp2
      go_roundw
      case rel =>
        refine ⟨j + 1, K + 7, by go_num, ?_, by omega, by have := HK.out; omega, by omega, by have := HK.out; omega, grown_put HR4.out.1 _ _, HR4.out.2.set _ _⟩
        rw [show ((K + 7 : Nat) : Int) = (K : Int) + 1 + 1 + 1 + 1 + 1 + 1 + 1 by omega]
      case measure => simp [intOf]; omega
    · have bk : ¬ ((j : Int) < (n : Int)) := by omega
      go_wp2
      go_ret
      exact ⟨K, rfl, hK, HR.out.2.1⟩

end Go.Proofs.Ytakcmiijnckaaaa
