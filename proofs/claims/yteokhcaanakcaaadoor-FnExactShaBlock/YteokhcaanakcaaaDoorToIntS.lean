/- What the law's helper toIntS answers at a slice that came in: the same ints, in memory of its own. -/
import Derived.Test.YteokhcaanakcaaaDoorStartIS
namespace Go.Proofs.YteokhcaanakcaaaDoor
open Go.RowKit
set_option linter.unusedVariables false

/-- A slice of ints that came in. -/
def ArgI (w : World) (a : Option Addr) (zs : List Int) : Prop :=
  0 < zs.length → ∃ b off, a = some ⟨b, off, none⟩ ∧ b < w.heap.size ∧ ∀ j, j < zs.length → w.cell? ⟨b, off + j, none⟩ = some (.int .i64 (zs.getD j 0))

theorem ArgI.below {w w' : World} {a : Option Addr} {zs : List Int} (h : ArgI w a zs) (hb : Below w.heap.size w w') : ArgI w' a zs := fun hp => by
  obtain ⟨b, off, h1, h2, h3⟩ := h hp
  exact ⟨b, off, h1, Nat.lt_of_lt_of_le h2 hb.size, fun j hj => (hb.cell (p := ⟨b, off + j, none⟩) h2).trans (h3 j hj)⟩

theorem made_cells {w : World} {base g n c : Nat} (h : w.ownsRow base 3 1 (.slice (some ⟨g, 0, none⟩) n c) n (madeCells (Value.int IntKind.i64 0).cells (n * 1)).toList) :
    g < w.heap.size ∧ ∀ j, j < n → w.cell? ⟨g, j, none⟩ = some (.int .i64 0) ∧ w.frozen? ⟨g, j, none⟩ = false := by
  rcases h.2 with ⟨hn, _⟩ | ⟨g', cap, cur, hv, _, hh, _, _, hs, ht⟩
  · cases hn
  · obtain ⟨rfl, _⟩ : g = g' ∧ c = cap := by injection hv with h1 h2 h3; injection h1 with h1; injection h1 with a b c; exact ⟨a, h3⟩
    refine ⟨(Array.getElem?_eq_some_iff.1 hh).1, fun j hj => ⟨?_, frozen_of_row w g j cur 3 hh⟩⟩
    rw [cell_of_row w g j cur 3 _ hh]
    have : (madeCells (Value.int IntKind.i64 0).cells (n * 1)).toList[j]? = some (.int .i64 0) := by
      simp [madeCells, Value.cells, Nat.mod_one, hj]
    rw [← ht, List.getElem?_take] at this
    split at this
    · simpa using this
    · cases this

set_option maxHeartbeats 1000000 in
theorem toIntS_any (a : Option Addr) (cap : Nat) (zs : List Int) (w : World) (hl : zs.length ≤ 1048576) (h : ArgI w a zs) :
    Calls Tryd.prog 12 #[.slice a zs.length cap] w fun e w' => ∃ g v, e = .returned v ∧ w.heap.size ≤ g ∧ OwnI w' g v zs ∧ Below w.heap.size w w' := by
  obtain ⟨i0, hi, hz0, hz1, hz2⟩ := info_parts Tryd.infoI
  obtain ⟨n, hn⟩ : ∃ n, n = zs.length := ⟨_, rfl⟩
  have HA : Hid (ArgI w a zs ∧ n = zs.length) := ⟨h, hn⟩
  rw [← hn]
  have hl' : n ≤ 1048576 := by omega
  clear h hn hl
  go_enter Tryd.func12, Tryd.ntmps12
  go_wp2_with (at_make; refine wpList_make_full _ rfl _ _ 24 rfl w.heap.size 3 i0 (.int .i64 0) 1 Tryd.underlying24 hi hz0 hz1 _ _ _ _ n rfl rfl (by omega) (by omega) (by rw [hz2]; omega) (by unfold maxLen; omega) (Nat.le_refl _) ?_; intro w0 hown0 hgrow0)
  have b0 : Below w.heap.size w w0 := (Below.refl _ w).grown hgrow0 (Nat.le_refl _) (fun k hk => by cases hk)
  have m0 := made_cells hown0
  clear hown0 hgrow0
  obtain ⟨g, hg⟩ : ∃ g, g = w.heap.size := ⟨_, rfl⟩
  rw [← hg] at m0 ⊢
  have HM : Hid (∀ j, j < n → w0.cell? ⟨g, j, none⟩ = some (.int .i64 0) ∧ w0.frozen? ⟨g, j, none⟩ = false) := m0.2
  have hg0 := m0.1
  clear m0
  go_loopw [4] (fun i wr => ∃ k : Nat, i = .int .i64 k ∧ k ≤ n ∧ Below w.heap.size w wr ∧ g < wr.heap.size ∧ (∀ j, j < n → ∃ z, wr.cell? ⟨g, j, none⟩ = some (.int .i64 z) ∧ wr.frozen? ⟨g, j, none⟩ = false ∧ (j < k → z = zs.getD j 0))) (fun i _ => n - (intOf i).toNat)
  case atStart => exact ⟨0, rfl, by omega, b0, hg0, fun j hj => ⟨0, (HM.out j hj).1, (HM.out j hj).2, fun h => by omega⟩⟩
  case round =>
    obtain ⟨k, rfl, hk, hb, hgs, hcell⟩ := hrel
    clear b0 hg0 HM
    by_cases hlt : k < n
    · have bk : (k : Int) < (n : Int) := by omega
      obtain ⟨b, off, ha, hbw, hsrc⟩ := HA.out.1 (by have := HA.out.2; omega)
      subst ha
      obtain ⟨x, hx⟩ : ∃ x, x = zs.getD k 0 := ⟨_, rfl⟩
      have cx : wr.cell? ⟨b, off + k, none⟩ = some (.int .i64 x) := by rw [hx]; exact (hb.cell (p := ⟨b, off + k, none⟩) hbw).trans (hsrc k (by have := HA.out.2; omega))
      obtain ⟨y, cy, fy, _⟩ := hcell k hlt
      have HC : Hid (Below w.heap.size w wr ∧ (∀ j, j < n → ∃ z, wr.cell? ⟨g, j, none⟩ = some (.int .i64 z) ∧ wr.frozen? ⟨g, j, none⟩ = false ∧ (j < k → z = zs.getD j 0)) ∧ x = zs.getD k 0 ∧ g = w.heap.size) := ⟨hb, hcell, hx, hg⟩
      clear hb hcell hx hsrc hg
      go_wp2
      go_roundw
      case rel =>
        obtain ⟨hb, hcell, hx, hg⟩ := HC.out
        refine ⟨k + 1, by go_num, by omega, hb.setCell (by show w.heap.size ≤ g; omega) _, by rw [World.size_setCell]; exact hgs, fun j hj => ?_⟩
        obtain ⟨y2, cy2, fy2, hy2⟩ := hcell j hj
        by_cases hjk : j = k
        · subst hjk
          exact ⟨_, World.cell?_setCell_same _ _ _ cy2, by rw [World.frozen?_setCell]; exact fy2, fun _ => by rw [← hx]⟩
        · refine ⟨y2, ?_, by rw [World.frozen?_setCell]; exact fy2, fun h2 => hy2 (by omega)⟩
          rw [World.cell?_setCell_other _ _ _ _ (fun e => hjk (by simpa using (congrArg Addr.off e).symm))]
          exact cy2
      case measure => simp [intOf]; omega
    · have hkn : k = n := by omega
      have bk : ¬ ((k : Int) < (n : Int)) := by omega
      have HE : Hid (OwnI wr g (.slice (some ⟨g, 0, none⟩) n n) zs) := by
        refine ⟨⟨n, by rw [← HA.out.2]⟩, hgs, fun j hj => ?_⟩
        obtain ⟨z, h1, h2, h3⟩ := hcell j (by have := HA.out.2; omega)
        rw [h1, h3 (by have := HA.out.2; omega)]
        exact ⟨rfl, h2⟩
      have HG : Hid (w.heap.size ≤ g) := by unfold Hid; omega
      clear hcell hkn hgs hg
      go_wp2
      go_ret
      exact ⟨g, _, rfl, HG.out, HE.out, hb⟩

end Go.Proofs.YteokhcaanakcaaaDoor
