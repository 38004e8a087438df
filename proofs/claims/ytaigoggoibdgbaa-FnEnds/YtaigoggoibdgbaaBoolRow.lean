/- Rows of flags in memory; what the laws' helpers over them answer: eqBoolS, markBoolS, heldBoolS. -/
import Derived.Test.YtaigoggoibdgbaaInsSl
import Derived.Test.YtaigoggoibdgbaaCheckIS
import Derived.BigQuiet
import Derived.Deep.QuietTactic
namespace Go.Proofs.Ytaigoggoibdgbaa
open Go.RowKit
set_option linter.unusedVariables false

theorem Try.infoT : (Try.prog.info? 4).map (fun i => (i.zero, i.size, i.bytes)) = some (some (.bool false), 1, 1) := by kernel_rfl

/-- These flags lie in block g from its head on, and may be written. -/
def Bools (w : World) (g : Nat) (bs : List Bool) : Prop := g < w.heap.size ∧ ∀ j, j < bs.length → w.cell? ⟨g, j, none⟩ = some (.bool (bs.getD j false)) ∧ w.frozen? ⟨g, j, none⟩ = false

theorem Bools.below {w w' : World} {g B : Nat} {bs : List Bool} (h : Bools w g bs) (hb : Below B w w') (hB : g < B) : Bools w' g bs :=
  ⟨Nat.lt_of_lt_of_le h.1 hb.size, fun j hj => ⟨(hb.cell (p := ⟨g, j, none⟩) hB).trans (h.2 j hj).1, (hb.frozen (p := ⟨g, j, none⟩) hB).trans (h.2 j hj).2⟩⟩

theorem Bools.ext {w w' : World} {g : Nat} {bs : List Bool} (h : Bools w g bs) (hE : Ext w w') : Bools w' g bs := h.below hE h.1

theorem Bools.grown {w w' : World} {g k : Nat} {bs : List Bool} (h : Bools w g bs) (hg : w.grownBy w' (some k)) (hk : g ≠ k) : Bools w' g bs := by
  have hb : w'.heap[g]? = w.heap[g]? := hg.block g h.1 (fun e => hk (Option.some.inj e))
  refine ⟨Nat.lt_of_lt_of_le h.1 hg.size, fun j hj => ⟨?_, ?_⟩⟩
  · rw [World.cell?_of_block (w := w) (w' := w') (a := ⟨g, j, none⟩) hb]; exact (h.2 j hj).1
  · rw [World.frozen?_of_block (w := w) (w' := w') (a := ⟨g, j, none⟩) hb]; exact (h.2 j hj).2

theorem Bools.set {w : World} {g i : Nat} {bs : List Bool} (h : Bools w g bs) (hi : i < bs.length) (b : Bool) : Bools (w.setCell ⟨g, i, none⟩ (.bool b)) g (bs.set i b) := by
  refine ⟨by rw [World.size_setCell]; exact h.1, fun j hj => ⟨?_, by rw [World.frozen?_setCell]; rw [List.length_set] at hj; exact (h.2 j hj).2⟩⟩
  rw [List.length_set] at hj
  by_cases hji : j = i
  · subst hji
    rw [set_same _ (h.2 j hj).1]
    simp [List.getD_eq_getElem?_getD, hj]
  · rw [set_far (off_ne hji), (h.2 j hj).1]
    simp [List.getD_eq_getElem?_getD, Ne.symm hji]

/-- The value v is the list bs, in a block not below B. -/
def RepB (B : Nat) (bs : List Bool) (v : Value) (w : World) : Prop := ∃ a cap, v = .slice a bs.length cap ∧ (0 < bs.length → ∃ g, a = some ⟨g, 0, none⟩ ∧ B ≤ g ∧ Bools w g bs)

theorem RepB.step {B : Nat} {bs : List Bool} {v : Value} {w w' : World} (h : RepB B bs v w) (hE : Ext w w') : RepB B bs v w' := by
  obtain ⟨a, cap, rfl, hg⟩ := h
  refine ⟨a, cap, rfl, fun hp => ?_⟩
  obtain ⟨g, ha, hB, hb⟩ := hg hp
  exact ⟨g, ha, hB, hb.ext hE⟩

theorem RepB.nil (B : Nat) (a : Option Addr) (cap : Nat) (w : World) : RepB B [] (.slice a 0 cap) w := ⟨a, cap, rfl, fun hp => by simp at hp⟩

theorem RepB.grown {B k : Nat} {bs : List Bool} {v : Value} {w w' : World} (h : RepB B bs v w) (hg : w.grownBy w' (some k)) (hk : k < B) : RepB B bs v w' := by
  obtain ⟨a, cap, rfl, hx⟩ := h
  refine ⟨a, cap, rfl, fun hp => ?_⟩
  obtain ⟨g, ha, hB, hb⟩ := hx hp
  exact ⟨g, ha, hB, hb.grown hg (by omega)⟩

/-- What make lays for a slice of flags: false ones that may be written. -/
theorem made_bools {w : World} {base g n c : Nat} (h : w.ownsRow base 4 1 (.slice (some ⟨g, 0, none⟩) n c) n (madeCells (Value.bool false).cells (n * 1)).toList) : Bools w g (List.replicate n false) := by
  rcases h.2 with ⟨hn, _⟩ | ⟨g', cap, cur, hv, _, hh, _, _, hs, ht⟩
  · cases hn
  · obtain ⟨rfl, _⟩ : g = g' ∧ c = cap := by injection hv with h1 h2 h3; injection h1 with h1; injection h1 with a b c; exact ⟨a, h3⟩
    refine ⟨(Array.getElem?_eq_some_iff.1 hh).1, fun j hj => ⟨?_, frozen_of_row w g j cur 4 hh⟩⟩
    rw [List.length_replicate] at hj
    rw [cell_of_row w g j cur 4 _ hh]
    have : (madeCells (Value.bool false).cells (n * 1)).toList[j]? = some (.bool false) := by simp [madeCells, Value.cells, hj, Nat.mod_one]
    rw [← ht, List.getElem?_take, if_pos (by omega)] at this
    simp [List.getD_eq_getElem?_getD, hj]
    simpa using this

set_option maxRecDepth 100000 in
set_option maxHeartbeats 2000000 in
theorem eqBools_some (g1 g2 c1 c2 n : Nat) (bs : List Bool) (w : World) (hn : n = bs.length) (hl : bs.length ≤ 1048576) (h1 : Bools w g1 bs) (h2 : Bools w g2 bs) :
    Calls Try.prog 27 #[.slice (some ⟨g1, 0, none⟩) n c1, .slice (some ⟨g2, 0, none⟩) n c2] w fun e w' => e = .returned (.bool true) ∧ Ext w w' := by
  have HA : Hid (n = bs.length ∧ Bools w g1 bs ∧ Bools w g2 bs) := ⟨hn, h1, h2⟩
  have hl' : n ≤ 1048576 := by omega
  clear hn hl h1 h2
  go_enter Try.func27, Try.ntmps27
  go_wp2_with fail
  go_loopw [5] (fun i wr => ∃ k : Nat, i = .int .i64 k ∧ k ≤ n ∧ Hid (Ext w wr)) (fun i _ => n - (intOf i).toNat)
  case atStart => exact ⟨0, rfl, by omega, Ext.refl _⟩
  case round =>
    obtain ⟨k, rfl, hk, HR⟩ := hrel
    by_cases hlt : k < n
    · have bk : (k : Int) < (n : Int) := by omega
      obtain ⟨z, hz⟩ : ∃ z, z = bs.getD k false := ⟨_, rfl⟩
      have p1 := ((HA.out.2.1.ext HR.out).2 k (by have := HA.out.1; omega)).1
      have p2 := ((HA.out.2.2.ext HR.out).2 k (by have := HA.out.1; omega)).1
      rw [← hz] at p1 p2
      clear hz
      go_wp2
      go_quiet (fail)
      go_wp2
      go_roundw
      case rel => exact ⟨k + 1, by go_num, by omega, Ext.drewN HR.out _⟩
      case measure => simp [intOf]; omega
    · have bk : ¬ ((k : Int) < (n : Int)) := by omega
      go_wp2
      go_ret
      exact ⟨rfl, HR.out⟩

theorem eqBools_none (a1 a2 : Option Addr) (c1 c2 : Nat) (w : World) : Calls Try.prog 27 #[.slice a1 0 c1, .slice a2 0 c2] w fun e w' => e = .returned (.bool true) ∧ Ext w w' := by
  go_enter Try.func27, Try.ntmps27
  go_wp2_with fail
  go_loopw [5] (fun i wr => i = .int .i64 0 ∧ w = wr) (fun _ _ => 0)
  case atStart => exact ⟨rfl, rfl⟩
  case round =>
    obtain ⟨rfl, rfl⟩ := hrel
    go_wp2
    go_ret
    exact ⟨rfl, Ext.refl _⟩

theorem eqBools_rep (B1 B2 : Nat) (bs : List Bool) (v1 v2 : Value) (w : World) (hl : bs.length ≤ 1048576) (h1 : RepB B1 bs v1 w) (h2 : RepB B2 bs v2 w) :
    Calls Try.prog 27 #[v1, v2] w fun e w' => e = .returned (.bool true) ∧ Ext w w' := by
  obtain ⟨a1, c1, rfl, g1⟩ := h1
  obtain ⟨a2, c2, rfl, g2⟩ := h2
  by_cases h0 : bs.length = 0
  · rw [h0]; exact eqBools_none a1 a2 c1 c2 w
  · obtain ⟨k1, rfl, _, b1⟩ := g1 (by omega)
    obtain ⟨k2, rfl, _, b2⟩ := g2 (by omega)
    exact eqBools_some k1 k2 c1 c2 bs.length bs w rfl hl b1 b2

/-- The flag that a mark is. -/
def flagB (K : Int) : Bool := K % 3 == 0

def marksB (n : Nat) : List Bool := (List.range n).map fun (j : Nat) => flagB ((j : Int) + 1)

theorem marksB_length (n : Nat) : (marksB n).length = n := by simp [marksB]

theorem marksB_getD (n j : Nat) (h : j < n) : (marksB n).getD j false = flagB ((j : Int) + 1) := by simp [marksB, List.getD_eq_getElem?_getD, h]

set_option maxRecDepth 100000 in
set_option maxHeartbeats 2000000 in
theorem markBools_some (g c n : Nat) (bs : List Bool) (w : World) (hn : n = bs.length) (hl : bs.length ≤ 1048576) (h : Bools w g bs) :
    Calls Try.prog 29 #[.slice (some ⟨g, 0, none⟩) n c, .int .i64 1] w fun e w' => e = .returned (.int .i64 ((n : Int) + 1)) ∧ Bools w' g (marksB n) ∧ w.grownBy w' (some g) := by
  have HA : Hid (n = bs.length ∧ Bools w g bs) := ⟨hn, h⟩
  have hl' : n ≤ 1048576 := by omega
  clear hn hl h
  go_enter Try.func29, Try.ntmps29
  go_wp2_with fail
  go_loopw [1, 5] (fun kv i wr => ∃ (j : Nat) (K : Int), i = .int .i64 j ∧ kv = .int .i64 K ∧ j ≤ n ∧ K ≤ 5000000 ∧ 0 ≤ K ∧ Hid (K = (j : Int) + 1 ∧ (∃ xs : List Bool, xs.length = n ∧ Bools wr g xs ∧ ∀ i, i < j → xs.getD i false = flagB ((i : Int) + 1)) ∧ w.grownBy wr (some g))) (fun _ i _ => n - (intOf i).toNat)
  case atStart => exact ⟨0, 1, rfl, rfl, by omega, by omega, by omega, rfl, ⟨bs, HA.out.1.symm, HA.out.2, fun i hi => by omega⟩, grown_refl _ _⟩
  case round =>
    obtain ⟨j, K, rfl, rfl, hj, hK, hK0, HR⟩ := hrel
    by_cases hlt : j < n
    · have bk : (j : Int) < (n : Int) := by omega
      obtain ⟨xs, hxl, hxs, hx⟩ := HR.out.2.1
      have HX : Hid (xs.length = n ∧ Bools wr g xs ∧ ∀ i, i < j → xs.getD i false = flagB ((i : Int) + 1)) := ⟨hxl, hxs, hx⟩
      obtain ⟨z, hz⟩ : ∃ z, z = xs.getD j false := ⟨_, rfl⟩
      obtain ⟨c0, f0⟩ := hxs.2 j (by omega)
      rw [← hz] at c0
      clear hxl hxs hx hz
      go_wp2
      go_roundw
      case rel =>
        obtain ⟨hKe, _, hgr⟩ := HR.out
        obtain ⟨hxl, hxs, hx⟩ := HX.out
        refine ⟨j + 1, K + 1, by go_num, rfl, by omega, by omega, by omega, by omega, ⟨xs.set j (K % 3 == 0), by rw [List.length_set]; exact hxl, hxs.set (by omega) _, fun i hi => ?_⟩, grown_trans hgr grown_set⟩
        by_cases hij : i = j
        · subst hij
          rw [hKe]
          simp [List.getD_eq_getElem?_getD, hxl, hlt, flagB]
        · rw [← hx i (by omega)]
          simp [List.getD_eq_getElem?_getD, Ne.symm hij]
      case measure => simp [intOf]; omega
    · have bk : ¬ ((j : Int) < (n : Int)) := by omega
      have hjn : j = n := by omega
      have HZ : Hid (K = (n : Int) + 1 ∧ Bools wr g (marksB n) ∧ w.grownBy wr (some g)) := by
        obtain ⟨hk, ⟨xs, hxl, hxs, hx⟩, hg⟩ := HR.out
        refine ⟨by omega, ?_, hg⟩
        have : xs = marksB n := by
          apply List.ext_getElem (by rw [hxl, marksB_length])
          intro i h1 h2
          have e1 := hx i (by omega)
          have e2 := marksB_getD n i (by omega)
          rw [List.getD_eq_getElem?_getD, List.getElem?_eq_getElem (by omega)] at e1 e2
          simp only [Option.getD_some] at e1 e2
          rw [e1, e2]
        rw [← this]; exact hxs
      clear hjn HR
      go_wp2
      go_ret
      exact ⟨by rw [HZ.out.1]; rfl, HZ.out.2⟩

theorem markBools_none (a : Option Addr) (c : Nat) (w : World) : Calls Try.prog 29 #[.slice a 0 c, .int .i64 1] w fun e w' => e = .returned (.int .i64 1) ∧ w = w' := by
  go_enter Try.func29, Try.ntmps29
  go_wp2_with fail
  go_loopw [1, 5] (fun kv i wr => i = .int .i64 0 ∧ kv = .int .i64 1 ∧ w = wr) (fun _ i _ => 0)
  case atStart => exact ⟨rfl, rfl, rfl⟩
  case round =>
    obtain ⟨rfl, rfl, rfl⟩ := hrel
    go_wp2
    go_ret
    exact ⟨rfl, rfl⟩

/-- Marked: what is there then, and that nothing below B was written. -/
theorem markBools_rep (B n : Nat) (bs : List Bool) (v : Value) (w : World) (hn : n = bs.length) (hl : bs.length ≤ 1048576) (h : RepB B bs v w) :
    Calls Try.prog 29 #[v, .int .i64 1] w fun e w' => e = .returned (.int .i64 ((n : Int) + 1)) ∧ RepB B (marksB n) v w' ∧ Below B w w' := by
  obtain ⟨a, c, rfl, hg⟩ := h
  by_cases h0 : n = 0
  · rw [← hn, h0]
    refine (markBools_none a c w).mono ?_
    rintro e w' ⟨rfl, rfl⟩
    exact ⟨rfl, RepB.nil _ _ _ _, Below.refl _ _⟩
  · obtain ⟨k, rfl, hB, b⟩ := hg (by omega)
    rw [← hn]
    refine (markBools_some k c n bs w hn hl b).mono ?_
    rintro e w' ⟨rfl, hb, hgr⟩
    exact ⟨rfl, ⟨_, c, by rw [marksB_length], fun _ => ⟨k, rfl, hB, hb⟩⟩, ⟨hgr.os, hgr.tape, hgr.output, hgr.size, fun i hi => hgr.block i (by have := b.1; omega) (fun e => by have := Option.some.inj e; omega)⟩⟩

set_option maxRecDepth 100000 in
set_option maxHeartbeats 2000000 in
theorem heldBools_some (g c n : Nat) (w : World) (hl : n ≤ 1048576) (h : Bools w g (marksB n)) :
    Calls Try.prog 30 #[.slice (some ⟨g, 0, none⟩) n c, .int .i64 1] w fun e w' => e = .returned (.int .i64 ((n : Int) + 1)) ∧ w = w' := by
  have HA : Hid (Bools w g (marksB n)) := h
  clear h
  go_enter Try.func30, Try.ntmps30
  go_wp2_with fail
  go_loopw [1, 5] (fun kv i wr => ∃ (j : Nat) (K : Int), i = .int .i64 j ∧ kv = .int .i64 K ∧ j ≤ n ∧ K ≤ 5000000 ∧ 0 ≤ K ∧ Hid (K = (j : Int) + 1) ∧ w = wr) (fun _ i _ => n - (intOf i).toNat)
  case atStart => exact ⟨0, 1, rfl, rfl, by omega, by omega, by omega, rfl, rfl⟩
  case round =>
    obtain ⟨j, K, rfl, rfl, hj, hK, hK0, HR, rfl⟩ := hrel
    by_cases hlt : j < n
    · have bk : (j : Int) < (n : Int) := by omega
      obtain ⟨z, hz⟩ : ∃ z, z = (K % 3 == 0) := ⟨_, rfl⟩
      have c0 : w.cell? ⟨g, j, none⟩ = some (.bool z) := by
        rw [(HA.out.2 j (by rw [marksB_length]; exact hlt)).1, marksB_getD n j hlt, hz, HR.out]
        rfl
      have hz' : (K % 3 == 0) = z := hz.symm
      clear hz
      go_wp2
      go_roundw
      case rel =>
        have hKe : K = (j : Int) + 1 := HR.out
        exact ⟨j + 1, K + 1, by go_num, rfl, by omega, by omega, by omega, by unfold Hid; omega, trivial⟩
      case measure => simp [intOf]; omega
    · have bk : ¬ ((j : Int) < (n : Int)) := by omega
      have HZ : Hid (K = (n : Int) + 1) := by have := HR.out; unfold Hid; omega
      go_wp2
      go_ret
      exact ⟨by rw [HZ.out]; rfl, rfl⟩

theorem heldBools_none (a : Option Addr) (c : Nat) (w : World) : Calls Try.prog 30 #[.slice a 0 c, .int .i64 1] w fun e w' => e = .returned (.int .i64 1) ∧ w = w' := by
  go_enter Try.func30, Try.ntmps30
  go_wp2_with fail
  go_loopw [1, 5] (fun kv i wr => i = .int .i64 0 ∧ kv = .int .i64 1 ∧ w = wr) (fun _ i _ => 0)
  case atStart => exact ⟨rfl, rfl, rfl⟩
  case round =>
    obtain ⟨rfl, rfl, rfl⟩ := hrel
    go_wp2
    go_ret
    exact ⟨rfl, rfl⟩

theorem heldBools_rep (B n : Nat) (v : Value) (w : World) (hl : n ≤ 1048576) (h : RepB B (marksB n) v w) :
    Calls Try.prog 30 #[v, .int .i64 1] w fun e w' => e = .returned (.int .i64 ((n : Int) + 1)) ∧ w = w' := by
  obtain ⟨a, c, rfl, hg⟩ := h
  rw [marksB_length] at hg ⊢
  by_cases h0 : n = 0
  · rw [h0]; exact heldBools_none a c w
  · obtain ⟨k, rfl, _, b⟩ := hg (by omega)
    exact heldBools_some k c n w hl b

end Go.Proofs.Ytaigoggoibdgbaa
