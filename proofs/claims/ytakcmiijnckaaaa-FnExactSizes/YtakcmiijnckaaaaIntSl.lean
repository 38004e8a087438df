/- Slices of ints of the call's own: what the laws' own helpers eqIntS, markIntS, heldIntS answer. -/
import Derived.Test.YtakcmiijnckaaaaRows
import Derived.Test.YtakcmiijnckaaaaBase
import Derived.WalkKit
import Derived.WalkSpells
import Derived.WalkSmall
import Derived.Below
import Derived.BigRegion
import Derived.BigQuiet
import Derived.Deep.QuietTactic
namespace Go.Proofs.Ytakcmiijnckaaaa
open Go.RowKit
set_option linter.unusedVariables false

/-- v is a slice that is not nil, at block g's head, of the numbers zs, which may be written. -/
def OwnI (w : World) (g : Nat) (v : Value) (zs : List Int) : Prop :=
  (∃ cap, v = .slice (some ⟨g, 0, none⟩) zs.length cap) ∧ g < w.heap.size ∧ ∀ j, j < zs.length → w.cell? ⟨g, j, none⟩ = some (.int .i64 (zs.getD j 0)) ∧ w.frozen? ⟨g, j, none⟩ = false

theorem OwnI.block {w w' : World} {g : Nat} {v : Value} {zs : List Int} (h : OwnI w g v zs) (hb : w'.heap[g]? = w.heap[g]?) (hs : w.heap.size ≤ w'.heap.size) : OwnI w' g v zs :=
  ⟨h.1, by have := h.2.1; omega, fun j hj => ⟨(World.cell?_of_block (w := w) (a := ⟨g, j, none⟩) hb).trans (h.2.2 j hj).1, (World.frozen?_of_block (w := w) (a := ⟨g, j, none⟩) hb).trans (h.2.2 j hj).2⟩⟩

theorem OwnI.below {w w' : World} {g B : Nat} {v : Value} {zs : List Int} (h : OwnI w g v zs) (hb : Below B w w') (hB : g < B) : OwnI w' g v zs :=
  h.block (hb.block g hB) hb.size

theorem OwnI.drewN {w : World} {g : Nat} {v : Value} {zs : List Int} (h : OwnI w g v zs) (n : Nat) : OwnI (w.drewN n) g v zs := h

set_option maxHeartbeats 800000 in
theorem eqIntS_same (g1 g2 : Nat) (v1 v2 : Value) (zs : List Int) (w : World) (hl : zs.length ≤ 1048576) (h1 : OwnI w g1 v1 zs) (h2 : OwnI w g2 v2 zs) :
    Calls Try.prog 28 #[v1, v2] w fun e w' => e = .returned (.bool true) ∧ ∃ n, w' = w.drewN n := by
  obtain ⟨c1, rfl⟩ := h1.1
  obtain ⟨c2, rfl⟩ := h2.1
  have H1 : Hid (∀ j, j < zs.length → w.cell? ⟨g1, j, none⟩ = some (.int .i64 (zs.getD j 0)) ∧ w.frozen? ⟨g1, j, none⟩ = false) := h1.2.2
  have H2 : Hid (∀ j, j < zs.length → w.cell? ⟨g2, j, none⟩ = some (.int .i64 (zs.getD j 0)) ∧ w.frozen? ⟨g2, j, none⟩ = false) := h2.2.2
  clear h1 h2
  obtain ⟨n, hn⟩ : ∃ n, n = zs.length := ⟨_, rfl⟩
  rw [← hn] at hl H1 H2 ⊢
  go_enter Try.func28, Try.ntmps28
  go_wp2
  go_loopw [5] (fun i wr => ∃ (k m : Nat), i = .int .i64 k ∧ k ≤ n ∧ wr = w.drewN m) (fun i _ => n - (intOf i).toNat)
  case atStart => exact ⟨0, 0, rfl, by omega, rfl⟩
  case round =>
    obtain ⟨k, m, rfl, hk, rfl⟩ := hrel
    by_cases hlt : k < n
    · have bk : (k : Int) < (n : Int) := by omega
      obtain ⟨z, hz⟩ : ∃ z, z = zs.getD k 0 := ⟨_, rfl⟩
      have d1 : (w.drewN m).cell? ⟨g1, k, none⟩ = some (.int .i64 z) := by rw [hz]; exact (H1.out k hlt).1
      have d2 : (w.drewN m).cell? ⟨g2, k, none⟩ = some (.int .i64 z) := by rw [hz]; exact (H2.out k hlt).1
      clear hz
      obtain ⟨w1, hw1⟩ : ∃ w1, w1 = w.drewN m := ⟨_, rfl⟩
      rw [← hw1] at d1 d2 ⊢
      have HW : Hid (w1 = w.drewN m) := hw1
      clear hw1
      go_wp2_with fail
      go_quiet (fail)
      obtain ⟨w2, hw2⟩ : ∃ w2, w2 = w1.drewN nq := ⟨_, rfl⟩
      rw [← hw2]
      have HW2 : Hid (∃ m, w2 = w.drewN m) := by rw [hw2, HW.out]; exact ⟨m + nq, by simp [World.drewN, Nat.add_assoc]⟩
      clear hw2 d1 d2 HW
      go_wp2
      go_roundw
      case rel => obtain ⟨m2, hm2⟩ := HW2.out; exact ⟨k + 1, m2, by go_num, by omega, hm2⟩
      case measure => simp [intOf]; omega
    · have bk : ¬ ((k : Int) < (n : Int)) := by omega
      go_wp2
      go_ret
      exact ⟨rfl, m, rfl⟩

/-- k, k + 1, .. -/
def marks (k : Int) (n : Nat) : List Int := (List.range n).map fun (j : Nat) => k + ((j : Nat) : Int)

theorem marks_length (k : Int) (n : Nat) : (marks k n).length = n := by simp [marks]

theorem marks_getD (k : Int) (n j : Nat) (h : j < n) : (marks k n).getD j 0 = k + (j : Int) := by simp [marks, h]

set_option maxHeartbeats 800000 in
theorem markIntS_any (g : Nat) (v : Value) (zs : List Int) (w : World) (hl : zs.length ≤ 1048576) (h : OwnI w g v zs) :
    Calls Try.prog 30 #[v, .int .i64 1] w fun e w' => e = .returned (.int .i64 ((zs.length : Int) + 1)) ∧ OwnI w' g v (marks 1 zs.length) ∧ Below g w w' ∧ w'.heap.size = w.heap.size ∧ ∀ b, b ≠ g → w'.heap[b]? = w.heap[b]? := by
  obtain ⟨c, rfl⟩ := h.1
  obtain ⟨n, hn⟩ : ∃ n, n = zs.length := ⟨_, rfl⟩
  rw [← hn]
  have HH : Hid (OwnI w g (.slice (some ⟨g, 0, none⟩) zs.length c) zs ∧ n = zs.length) := ⟨h, hn⟩
  have hl' : n ≤ 1048576 := by omega
  clear h hn hl
  go_enter Try.func30, Try.ntmps30
  go_wp2
  go_loopw [1, 5] (fun kv i wr => ∃ k : Nat, kv = .int .i64 ((k : Int) + 1) ∧ i = .int .i64 k ∧ k ≤ n ∧ wr.heap.size = w.heap.size ∧ (∀ b, b ≠ g → wr.heap[b]? = w.heap[b]?) ∧ Below g w wr ∧
      (∀ j, j < n → ∃ z, wr.cell? ⟨g, j, none⟩ = some (.int .i64 z) ∧ wr.frozen? ⟨g, j, none⟩ = false ∧ (j < k → z = 1 + (j : Int)))) (fun _ i _ => n - (intOf i).toNat)
  case atStart =>
    refine ⟨0, rfl, rfl, by omega, rfl, fun _ _ => rfl, Below.refl _ _, fun j hj => ?_⟩
    obtain ⟨h, hn⟩ := HH.out
    exact ⟨zs.getD j 0, (h.2.2 j (by omega)).1, (h.2.2 j (by omega)).2, fun h0 => by omega⟩
  case round =>
    obtain ⟨k, rfl, rfl, hk, hsz, hoth, hb, hcell⟩ := hrel
    by_cases hlt : k < n
    · have bk : (k : Int) < (n : Int) := by omega
      obtain ⟨z, cz, fz, _⟩ := hcell k hlt
      have HC : Hid ((∀ b, b ≠ g → wr.heap[b]? = w.heap[b]?) ∧ Below g w wr ∧ (∀ j, j < n → ∃ z, wr.cell? ⟨g, j, none⟩ = some (.int .i64 z) ∧ wr.frozen? ⟨g, j, none⟩ = false ∧ (j < k → z = 1 + (j : Int)))) := ⟨hoth, hb, hcell⟩
      have HZ : Hid (wr.heap.size = w.heap.size) := hsz
      clear hcell hoth hb hsz
      go_wp2
      go_roundw
      case rel =>
        obtain ⟨hoth, hb, hcell⟩ := HC.out
        refine ⟨k + 1, by congr 1, by go_num, by omega, by rw [World.size_setCell]; exact HZ.out, fun b hbg => (Below.heap_setCell wr ⟨g, k, none⟩ _ b hbg).trans (hoth b hbg), hb.setCell (Nat.le_refl _) _, fun j hj => ?_⟩
        obtain ⟨y, cy, fy, hy⟩ := hcell j hj
        by_cases hjk : j = k
        · subst hjk
          exact ⟨_, World.cell?_setCell_same _ _ _ cy, by rw [World.frozen?_setCell]; exact fy, fun _ => by omega⟩
        · refine ⟨y, ?_, by rw [World.frozen?_setCell]; exact fy, fun h2 => hy (by omega)⟩
          rw [World.cell?_setCell_other _ _ _ _ (fun e => hjk (by simpa using (congrArg Addr.off e).symm))]
          exact cy
      case measure => simp [intOf]; omega
    · have hkn : k = n := by omega
      have bk : ¬ ((k : Int) < (n : Int)) := by omega
      have HF : Hid (wr.heap.size = w.heap.size ∧ (∀ b, b ≠ g → wr.heap[b]? = w.heap[b]?) ∧ Below g w wr ∧ OwnI wr g (.slice (some ⟨g, 0, none⟩) n c) (marks 1 n)) := by
        refine ⟨hsz, hoth, hb, ⟨c, by rw [marks_length]⟩, by have := HH.out.1.2.1; omega, fun j hj => ?_⟩
        rw [marks_length] at hj
        obtain ⟨y, cy, fy, hy⟩ := hcell j hj
        rw [marks_getD _ _ _ hj, cy, hy (by omega)]
        exact ⟨rfl, fy⟩
      have HK : Hid (k = n) := hkn
      clear hcell hoth hb hsz hkn
      go_wp2
      go_ret
      refine ⟨?_, ?_⟩
      · rw [HK.out]; rfl
      · obtain ⟨x1, x2, x3, x4⟩ := HF.out
        exact ⟨x4, x3, x1, x2⟩

set_option maxHeartbeats 800000 in
theorem heldIntS_any (g : Nat) (v : Value) (n : Nat) (w : World) (hl : n ≤ 1048576) (h : OwnI w g v (marks 1 n)) :
    Calls Try.prog 31 #[v, .int .i64 1] w fun e w' => e = .returned (.int .i64 ((n : Int) + 1)) ∧ w = w' := by
  obtain ⟨c, rfl⟩ := h.1
  have H : Hid (∀ j, j < n → w.cell? ⟨g, j, none⟩ = some (.int .i64 ((j : Int) + 1))) := fun j hj => by
    have := (h.2.2 j (by rw [marks_length]; exact hj)).1
    rw [marks_getD _ _ _ hj] at this
    rw [this, Int.add_comm]
  rw [marks_length]
  clear h
  go_enter Try.func31, Try.ntmps31
  go_wp2
  go_loop [1, 5] (fun kv i => ∃ k : Nat, kv = .int .i64 ((k : Int) + 1) ∧ i = .int .i64 k ∧ k ≤ n) (fun _ i => n - (intOf i).toNat)
  case atStart => exact ⟨0, rfl, rfl, by omega⟩
  case round =>
    obtain ⟨k, rfl, rfl, hk⟩ := hrel
    by_cases hlt : k < n
    · have bk : (k : Int) < (n : Int) := by omega
      have ck := H.out k hlt
      go_wp2
      go_round
      case rel => exact ⟨k + 1, by congr 1, by go_num, by omega⟩
      case measure => simp [intOf]; omega
    · have hkn : k = n := by omega
      have bk : ¬ ((k : Int) < (n : Int)) := by omega
      have HK : Hid (k = n) := hkn
      clear hkn
      go_wp2
      go_ret
      exact ⟨by rw [HK.out]; rfl, rfl⟩

end Go.Proofs.Ytakcmiijnckaaaa
