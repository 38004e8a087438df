/- What the laws' helpers over slices of wide numbers and over calls answer: szWideS, toWideS, eqWideS, szCall, toCall, eqCall. -/
import Derived.Test.YtoknlaaghjlnaaaToWide
import Derived.Test.YtoknlaaghjlnaaaLoose
import Derived.Test.YtoknlaaghjlnaaaCallIS
import Derived.Deep.RegionHeld3
import Derived.Handy
namespace Go.Proofs.Ytoknlaaghjlnaaa
open Go.RowKit
set_option linter.unusedVariables false

theorem Try.infoW : (Try.prog.info? 42).map (fun i => (i.zero, i.size, i.bytes)) = some (some (.agg #[.int .i64 0, .int .i64 0]), 2, 16) := by kernel_rfl

/-- What make lays for a slice of wide numbers: noughts that may be written. -/
theorem made_wides {w : World} {base g n c : Nat} (h : w.ownsRow base 42 2 (.slice (some ⟨g, 0, none⟩) n c) n (madeCells (Value.agg #[.int .i64 0, .int .i64 0]).cells (n * 2)).toList) :
    g < w.heap.size ∧ ∀ j, j < n * 2 → w.cell? ⟨g, j, none⟩ = some (.int .i64 0) ∧ w.frozen? ⟨g, j, none⟩ = false := by
  rcases h.2 with ⟨hn, _⟩ | ⟨g', cap, cur, hv, _, hh, _, _, hs, ht⟩
  · cases hn
  · obtain ⟨rfl, _⟩ : g = g' ∧ c = cap := by injection hv with h1 h2 h3; injection h1 with h1; injection h1 with a b c; exact ⟨a, h3⟩
    refine ⟨(Array.getElem?_eq_some_iff.1 hh).1, fun j hj => ⟨?_, frozen_of_row w g j cur 42 hh⟩⟩
    rw [cell_of_row w g j cur 42 _ hh]
    have : (madeCells (Value.agg #[.int .i64 0, .int .i64 0]).cells (n * 2)).toList[j]? = some (.int .i64 0) := by
      have h2 : j % 2 = 0 ∨ j % 2 = 1 := by omega
      rcases h2 with h2 | h2 <;> simp [madeCells, Value.cells, hj, h2]
    rw [← ht, List.getElem?_take, if_pos hj] at this
    simpa using this

theorem szWideS_any (a : Option Addr) (cap n : Nat) (w : World) (hl : n ≤ 1048576) :
    Calls Try.prog 72 #[.slice a n cap, .int .i64 1048576] w fun e w' => e = .returned (.int .i64 (1048576 - (n : Int))) ∧ w = w' := by
  go_enter Try.func72, Try.ntmps72
  go_wp2
  go_ret
  exact ⟨rfl, rfl⟩

theorem szWideS_big (a : Option Addr) (cap n : Nat) (w : World) (hl : 1048576 < n) (hm : n ≤ 9223372036854775807) :
    Calls Try.prog 72 #[.slice a n cap, .int .i64 1048576] w fun e w' => e = .returned (.int .i64 (-1)) ∧ w = w' := by
  go_enter Try.func72, Try.ntmps72
  go_wp2
  go_ret
  exact ⟨rfl, rfl⟩

set_option maxRecDepth 100000 in
set_option maxHeartbeats 2000000 in
theorem toWideS_any (a : Option Addr) (cap : Nat) (ws : List (Int × Int)) (w : World) (hl : ws.length ≤ 1048576) (h : Wides w a ws) :
    Calls Try.prog 73 #[.slice a ws.length cap] w fun e w' => ∃ g, e = .returned (.slice (some ⟨g, 0, none⟩) ws.length ws.length) ∧ w.heap.size ≤ g ∧ Wides w' (some ⟨g, 0, none⟩) ws ∧ Below w.heap.size w w' := by
  obtain ⟨i0, hi, hz0, hz1, hz2⟩ := info_parts Try.infoW
  obtain ⟨n, hn⟩ : ∃ n, n = ws.length := ⟨_, rfl⟩
  have HA : Hid (Wides w a ws ∧ n = ws.length) := ⟨h, hn⟩
  rw [← hn]
  have hl' : n ≤ 1048576 := by omega
  clear h hn hl
  go_enter Try.func73, Try.ntmps73
  go_wp2_with (at_make; refine wpList_make_full _ rfl _ _ 27 rfl w.heap.size 42 i0 (.agg #[.int .i64 0, .int .i64 0]) 2 Try.underlying27 hi hz0 hz1 _ _ _ _ n rfl rfl (by omega) (by omega) (by rw [hz2]; omega) (by unfold maxLen; omega) (Nat.le_refl _) ?_; intro w0 hown0 hgrow0)
  have b0 : Below w.heap.size w w0 := (Below.refl _ w).grown hgrow0 (Nat.le_refl _) (fun k hk => by cases hk)
  have m0 := made_wides hown0
  clear hown0 hgrow0
  obtain ⟨g, hg⟩ : ∃ g, g = w.heap.size := ⟨_, rfl⟩
  rw [← hg] at m0 ⊢
  have HM : Hid (∀ j, j < n * 2 → w0.cell? ⟨g, j, none⟩ = some (.int .i64 0) ∧ w0.frozen? ⟨g, j, none⟩ = false) := m0.2
  have hg0 := m0.1
  clear m0
  go_loopw [4] (fun i wr => ∃ k : Nat, i = .int .i64 k ∧ k ≤ n ∧ Below w.heap.size w wr ∧ g < wr.heap.size ∧ (∀ j, j < n → ∃ x y, wr.cell? ⟨g, j * 2, none⟩ = some (.int .i64 x) ∧ wr.cell? ⟨g, j * 2 + 1, none⟩ = some (.int .i64 y) ∧ wr.frozen? ⟨g, j * 2, none⟩ = false ∧ wr.frozen? ⟨g, j * 2 + 1, none⟩ = false ∧ (j < k → (x, y) = ws.getD j (0, 0)))) (fun i _ => n - (intOf i).toNat)
  case atStart => exact ⟨0, rfl, by omega, b0, hg0, fun j hj => ⟨0, 0, (HM.out _ (by omega)).1, (HM.out _ (by omega)).1, (HM.out _ (by omega)).2, (HM.out _ (by omega)).2, fun h => by omega⟩⟩
  case round =>
    obtain ⟨k, rfl, hk, hb, hgs, hcell⟩ := hrel
    clear b0 hg0 HM
    by_cases hlt : k < n
    · have bk : (k : Int) < (n : Int) := by omega
      obtain ⟨b, off, ha, hbw, hsrc⟩ := HA.out.1 (by have := HA.out.2; omega)
      subst ha
      obtain ⟨p, hp⟩ : ∃ p, p = ws.getD k (0, 0) := ⟨_, rfl⟩
      obtain ⟨x, y⟩ := p
      have cx : wr.cell? ⟨b, off + k * 2, none⟩ = some (.int .i64 x) := by
        have := (hsrc k (by have := HA.out.2; omega)).1
        rw [← hp] at this
        exact (hb.cell (p := ⟨b, off + k * 2, none⟩) hbw).trans this
      have cy : wr.cell? ⟨b, off + k * 2 + 1, none⟩ = some (.int .i64 y) := by
        have := (hsrc k (by have := HA.out.2; omega)).2
        rw [← hp] at this
        exact (hb.cell (p := ⟨b, off + k * 2 + 1, none⟩) hbw).trans this
      have HC : Hid (Below w.heap.size w wr ∧ (∀ j, j < n → ∃ x y, wr.cell? ⟨g, j * 2, none⟩ = some (.int .i64 x) ∧ wr.cell? ⟨g, j * 2 + 1, none⟩ = some (.int .i64 y) ∧ wr.frozen? ⟨g, j * 2, none⟩ = false ∧ wr.frozen? ⟨g, j * 2 + 1, none⟩ = false ∧ (j < k → (x, y) = ws.getD j (0, 0))) ∧ (x, y) = ws.getD k (0, 0) ∧ g = w.heap.size ∧ g < wr.heap.size) := ⟨hb, hcell, hp, hg, hgs⟩
      clear hb hcell hp hsrc hg hgs
      go_wp2_with fail
      refine (toWide_any x y _).mono ?_
      rintro e w2 ⟨rfl, hb2⟩
      have HC2 : Hid (Below w.heap.size w w2 ∧ g < w2.heap.size ∧ (∀ j, j < n → ∃ x y, w2.cell? ⟨g, j * 2, none⟩ = some (.int .i64 x) ∧ w2.cell? ⟨g, j * 2 + 1, none⟩ = some (.int .i64 y) ∧ w2.frozen? ⟨g, j * 2, none⟩ = false ∧ w2.frozen? ⟨g, j * 2 + 1, none⟩ = false ∧ (j < k → (x, y) = ws.getD j (0, 0))) ∧ (x, y) = ws.getD k (0, 0) ∧ g = w.heap.size) := by
        obtain ⟨hb, hcell, hp, hg, hgs⟩ := HC.out
        refine ⟨hb.trans (hb2.mono hb.size), Nat.lt_of_lt_of_le hgs hb2.size, fun j hj => ?_, hp, hg⟩
        obtain ⟨x1, y1, e1, e2, e3, e4, e5⟩ := hcell j hj
        exact ⟨x1, y1, (hb2.cell (p := ⟨g, j * 2, none⟩) hgs).trans e1, (hb2.cell (p := ⟨g, j * 2 + 1, none⟩) hgs).trans e2, (hb2.frozen (p := ⟨g, j * 2, none⟩) hgs).trans e3, (hb2.frozen (p := ⟨g, j * 2 + 1, none⟩) hgs).trans e4, e5⟩
      obtain ⟨x2, y2, dx, dy, fx, fy, _⟩ := HC2.out.2.2.1 k hlt
      clear hb2 HC cx cy
      go_wp2
      go_roundw
      case rel =>
        obtain ⟨hb, hgs, hcell, hp, hg⟩ := HC2.out
        refine ⟨k + 1, by go_num, by omega, (hb.setCell (by show w.heap.size ≤ g; omega) _).setCell (by show w.heap.size ≤ g; omega) _, by rw [World.size_setCell, World.size_setCell]; exact hgs, fun j hj => ?_⟩
        obtain ⟨x3, y3, e1, e2, e3, e4, e5⟩ := hcell j hj
        by_cases hjk : j = k
        · subst hjk
          refine ⟨x, y, ?_, ?_, by rw [World.frozen?_setCell, World.frozen?_setCell]; exact e3, by rw [World.frozen?_setCell, World.frozen?_setCell]; exact e4, fun _ => hp⟩
          · rw [World.cell?_setCell_other _ _ _ _ (by simp)]
            exact World.cell?_setCell_same _ _ _ e1
          · have e6 : (w2.setCell ⟨g, j * 2, none⟩ (.int .i64 x)).cell? ⟨g, j * 2 + 1, none⟩ = some (.int .i64 y3) := by
              rw [World.cell?_setCell_other _ _ _ _ (by simp)]
              exact e2
            exact World.cell?_setCell_same _ _ _ e6
        · refine ⟨x3, y3, ?_, ?_, by rw [World.frozen?_setCell, World.frozen?_setCell]; exact e3, by rw [World.frozen?_setCell, World.frozen?_setCell]; exact e4, fun h => e5 (by omega)⟩
          · rw [World.cell?_setCell_other _ _ _ _ (by first | (simp; done) | (simp; omega)), World.cell?_setCell_other _ _ _ _ (by first | (simp; done) | (simp; omega))]
            exact e1
          · rw [World.cell?_setCell_other _ _ _ _ (by first | (simp; done) | (simp; omega)), World.cell?_setCell_other _ _ _ _ (by first | (simp; done) | (simp; omega))]
            exact e2
      case measure => simp [intOf]; omega
    · have hkn : k = n := by omega
      have bk : ¬ ((k : Int) < (n : Int)) := by omega
      have HE : Hid (Wides wr (some ⟨g, 0, none⟩) ws) := fun hp => by
        refine ⟨g, 0, rfl, hgs, fun j hj => ?_⟩
        obtain ⟨x, y, e1, e2, _, _, e5⟩ := hcell j (by have := HA.out.2; omega)
        rw [← e5 (by have := HA.out.2; omega), Nat.zero_add]
        exact ⟨e1, e2⟩
      have HG : Hid (w.heap.size ≤ g) := by unfold Hid; omega
      clear hcell hkn hgs hg
      go_wp2
      go_ret
      exact ⟨g, rfl, HG.out, HE.out, hb⟩

/-- Two numbers lie side by side in an old block. -/
def Pair (w : World) (b o : Nat) (x y : Int) : Prop := b < w.heap.size ∧ w.cell? ⟨b, o, none⟩ = some (.int .i64 x) ∧ w.cell? ⟨b, o + 1, none⟩ = some (.int .i64 y)

theorem Pair.step {w w' : World} {b o : Nat} {x y : Int} (h : Pair w b o x y) (hE : Ext w w') : Pair w' b o x y :=
  ⟨Nat.lt_of_lt_of_le h.1 hE.size, (hE.cell (p := ⟨b, o, none⟩) h.1).trans h.2.1, (hE.cell (p := ⟨b, o + 1, none⟩) h.1).trans h.2.2⟩

theorem Wides.pair {w : World} {a : Option Addr} {ws : List (Int × Int)} (h : Wides w a ws) {k : Nat} (hk : k < ws.length) {x y : Int} (hp : (x, y) = ws.getD k (0, 0)) : ∃ b off, a = some ⟨b, off, none⟩ ∧ Pair w b (off + k * 2) x y := by
  obtain ⟨b, off, ha, hb, hc⟩ := h (by omega)
  refine ⟨b, off, ha, hb, ?_⟩
  have := hc k hk
  rw [← hp] at this
  exact this

theorem Wides.set {w : World} {g o : Nat} {ws : List (Int × Int)} (h : Wides w (some ⟨g, o, none⟩) ws) {k : Nat} (i : Nat) (hk : k ≠ g) (v : Value) : Wides (w.setCell ⟨k, i, none⟩ v) (some ⟨g, o, none⟩) ws := fun hp => by
  obtain ⟨b, off, ha, hb, hc⟩ := h hp
  have hbg : g = b := by injection ha with ha; injection ha
  subst hbg
  refine ⟨g, off, ha, by rw [World.size_setCell]; exact hb, fun j hj => ?_⟩
  obtain ⟨e1, e2⟩ := hc j hj
  exact ⟨by rw [World.cell?_setCell_other _ _ _ _ (by simp; try omega)]; exact e1, by rw [World.cell?_setCell_other _ _ _ _ (by simp; try omega)]; exact e2⟩

set_option maxRecDepth 100000 in
set_option maxHeartbeats 2000000 in
theorem eqWideS_same (a1 a2 : Option Addr) (c1 c2 : Nat) (ws : List (Int × Int)) (w : World) (hl : ws.length ≤ 1048576) (h1 : Wides w a1 ws) (h2 : Wides w a2 ws) :
    Calls Try.prog 74 #[.slice a1 ws.length c1, .slice a2 ws.length c2] w fun e w' => e = .returned (.bool true) ∧ Below w.heap.size w w' := by
  obtain ⟨n, hn⟩ : ∃ n, n = ws.length := ⟨_, rfl⟩
  have HA : Hid (Wides w a1 ws ∧ Wides w a2 ws ∧ n = ws.length) := ⟨h1, h2, hn⟩
  rw [← hn]
  have hl' : n ≤ 1048576 := by omega
  clear h1 h2 hn hl
  go_enter Try.func74, Try.ntmps74
  go_wp2_with fail
  go_loopw [5] (fun i wr => ∃ k : Nat, i = .int .i64 k ∧ k ≤ n ∧ Below w.heap.size w wr) (fun i _ => n - (intOf i).toNat)
  case atStart => exact ⟨0, rfl, by omega, Below.refl _ _⟩
  case round =>
    obtain ⟨k, rfl, hk, hb⟩ := hrel
    by_cases hlt : k < n
    · have bk : (k : Int) < (n : Int) := by omega
      obtain ⟨p, hp⟩ : ∃ p, p = ws.getD k (0, 0) := ⟨_, rfl⟩
      obtain ⟨x, y⟩ := p
      obtain ⟨b1, o1, rfl, p1⟩ := (HA.out.1.below hb (Nat.le_refl _)).pair (k := k) (by have := HA.out.2.2; omega) hp
      obtain ⟨b2, o2, rfl, p2⟩ := (HA.out.2.1.below hb (Nat.le_refl _)).pair (k := k) (by have := HA.out.2.2; omega) hp
      clear hp
      have HB : Hid (Below w.heap.size w wr) := hb
      clear hb
      go_wp2_with fail
      refine' wp_region_loose (.inl _ :: .inl _ :: .inl _ :: .inl _ :: .inl _ :: .inl _ :: .inl _ :: .inl _ :: .inl _ :: .inl _ :: []) (fun w' => Pair w' b1 (o1 + k * 2) x y ∧ Pair w' b2 (o2 + k * 2) x y) (by kernel_rfl) (by kernel_rfl) (⟨p1, p2⟩) (fun _ _ h hE => ⟨h.1.step hE, h.2.step hE⟩) ?hAa ?hla ?hMa
      case' hMa => skip
      apply wpLoose_val rfl rfl
      case hs =>
        intro w1 hC hd Q1 hQ1
        obtain ⟨hE, hS⟩ := hC
        dsimp only [bare]
        obtain ⟨⟨_, q1, q2⟩, ⟨_, q3, q4⟩⟩ := hS
        clear hd hE
        try clear hS
        go_wp2
        exact Ext.refl _
      case ha => rfl
      apply wpLoose_val rfl rfl
      case hs =>
        intro w1 hC hd Q1 hQ1
        obtain ⟨hE, hS⟩ := hC
        dsimp only [bare]
        obtain ⟨⟨_, q1, q2⟩, ⟨_, q3, q4⟩⟩ := hS
        clear hd hE
        try clear hS
        go_wp2
        exact Ext.refl _
      case ha => rfl
      apply wpLoose_val rfl rfl
      case hs =>
        intro w1 hC hd Q1 hQ1
        obtain ⟨hE, hS⟩ := hC
        dsimp only [bare]
        obtain ⟨⟨_, q1, q2⟩, ⟨_, q3, q4⟩⟩ := hS
        clear hd hE
        try clear hS
        go_wp2
        exact Ext.refl _
      case ha => rfl
      apply wpLoose_val rfl rfl
      case hs =>
        intro w1 hC hd Q1 hQ1
        obtain ⟨hE, hS⟩ := hC
        dsimp only [bare]
        obtain ⟨⟨_, q1, q2⟩, ⟨_, q3, q4⟩⟩ := hS
        clear hd hE
        try clear hS
        go_wp2
        exact Ext.refl _
      case ha => rfl
      apply wpLoose_val rfl rfl
      case hs =>
        intro w1 hC hd Q1 hQ1
        obtain ⟨hE, hS⟩ := hC
        dsimp only [bare]
        obtain ⟨⟨_, q1, q2⟩, ⟨_, q3, q4⟩⟩ := hS
        clear hd hE
        try clear hS
        go_wp2
        exact Ext.refl _
      case ha => rfl
      apply wpLoose_val rfl rfl
      case hs =>
        intro w1 hC hd Q1 hQ1
        obtain ⟨hE, hS⟩ := hC
        dsimp only [bare]
        obtain ⟨⟨_, q1, q2⟩, ⟨_, q3, q4⟩⟩ := hS
        clear hd hE
        try clear hS
        go_wp2
        exact Ext.refl _
      case ha => rfl
      apply wpLoose_val rfl rfl
      case hs =>
        intro w1 hC hd Q1 hQ1
        obtain ⟨hE, hS⟩ := hC
        dsimp only [bare]
        obtain ⟨⟨_, q1, q2⟩, ⟨_, q3, q4⟩⟩ := hS
        clear hd hE
        try clear hS
        go_wp2
        exact Ext.refl _
      case ha => rfl
      apply wpLoose_val rfl rfl
      case hs =>
        intro w1 hC hd Q1 hQ1
        obtain ⟨hE, hS⟩ := hC
        dsimp only [bare]
        obtain ⟨⟨_, q1, q2⟩, ⟨_, q3, q4⟩⟩ := hS
        clear hd hE
        try clear hS
        go_wp2
        exact Ext.refl _
      case ha => rfl
      apply wpLoose_val rfl rfl
      case hs =>
        intro w1 hC hd Q1 hQ1
        obtain ⟨hE, hS⟩ := hC
        dsimp only [bare]
        clear hd
        go_wp2_with fail
        refine (eqWide_same x y _).mono ?_
        rintro e w2 ⟨rfl, hb⟩
        go_wp2_with fail
        exact hb
      case ha => rfl
      apply wpLoose_val rfl rfl
      case hs =>
        intro w1 hC hd Q1 hQ1
        obtain ⟨hE, hS⟩ := hC
        dsimp only [bare]
        obtain ⟨⟨_, q1, q2⟩, ⟨_, q3, q4⟩⟩ := hS
        clear hd hE
        try clear hS
        go_wp2
        exact Ext.refl _
      case ha => rfl
      refine wpLoose_nil ?_
      intro wa hEa hSa hFa
      have HB2 : Hid (Below w.heap.size w wa) := (HB.out.drew).trans (hEa.mono HB.out.size)
      clear hFa hSa hEa p1 p2 HB
      go_wp2
      go_roundw
      case rel => exact ⟨k + 1, by go_num, by omega, HB2.out⟩
      case measure => simp [intOf]; omega
      case hAa => kernel_rfl
      case hla => exact ⟨trivial, trivial, trivial, trivial, trivial, trivial, trivial, trivial, trivial, trivial, trivial⟩
    · have bk : ¬ ((k : Int) < (n : Int)) := by omega
      go_wp2
      go_ret
      exact ⟨rfl, hb⟩

set_option maxRecDepth 100000 in
set_option maxHeartbeats 2000000 in
theorem toCall_any (arch num : Int) (a : Option Addr) (cap : Nat) (ws : List (Int × Int)) (w : World) (hl : ws.length ≤ 1048576) (h : Wides w a ws) :
    Calls Try.prog 34 #[.agg #[.int .i64 arch, .int .i64 num, .slice a ws.length cap]] w fun e w' => ∃ g, e = .returned (.agg #[.int .i64 arch, .int .i64 num, .slice (some ⟨g, 0, none⟩) ws.length ws.length]) ∧ w.heap.size ≤ g ∧ Wides w' (some ⟨g, 0, none⟩) ws ∧ Below w.heap.size w w' := by
  obtain ⟨n, hn⟩ : ∃ n, n = ws.length := ⟨_, rfl⟩
  have HN : Hid (n = ws.length) := hn
  have hto := fun (w1 : World) (h1 : Below w.heap.size w w1) => toWideS_any a cap ws w1 hl (h.below h1 (Nat.le_refl _))
  rw [← hn] at hto
  rw [← hn]
  have HT : Hid (∀ w1 : World, Below w.heap.size w w1 → Calls Try.prog 73 #[.slice a n cap] w1 fun e w' => ∃ g, e = .returned (.slice (some ⟨g, 0, none⟩) n n) ∧ w1.heap.size ≤ g ∧ Wides w' (some ⟨g, 0, none⟩) ws ∧ Below w1.heap.size w1 w') := hto
  clear hto hn h hl
  go_enter Try.func34, Try.ntmps34
  go_wp2_with fail
  refine (HT.out _ ?_).mono ?_
  · go_grown
  rintro e w1 ⟨g, rfl, hg, hws, hb⟩
  have hsz : w.heap.size + 3 ≤ w1.heap.size := by have := hb.size; simp at this; omega
  have hgw : w.heap.size + 3 ≤ g := by simp at hg; omega
  obtain ⟨hc, hf⟩ := bcell hb
  have HW : Hid (Below w.heap.size w w1) := Below.trans (by go_grown) (hb.mono (by simp; omega))
  have HWS : Hid (Wides w1 (some ⟨g, 0, none⟩) ws) := hws
  have o1 : w1.cell? ⟨w.heap.size + 1 + 1, 0, none⟩ = some (.int .i64 arch) := by rw [hc _ _ (by go_size)]; simp [go_sem]
  have o2 : w1.cell? ⟨w.heap.size + 1 + 1, 1, none⟩ = some (.int .i64 num) := by rw [hc _ _ (by go_size)]; simp [go_sem]
  have o3 : w1.cell? ⟨w.heap.size + 1 + 1, 2, none⟩ = some (.slice none 0 0) := by rw [hc _ _ (by go_size)]; simp [go_sem]
  have p1 : w1.cell? ⟨w.heap.size + 1, 0, none⟩ = some (.int .i64 0) := by rw [hc _ _ (by go_size)]; simp [go_sem]
  have p2 : w1.cell? ⟨w.heap.size + 1, 1, none⟩ = some (.int .i64 0) := by rw [hc _ _ (by go_size)]; simp [go_sem]
  have p3 : w1.cell? ⟨w.heap.size + 1, 2, none⟩ = some (.slice none 0 0) := by rw [hc _ _ (by go_size)]; simp [go_sem]
  have f1 : ∀ o, w1.frozen? ⟨w.heap.size + 1 + 1, o, none⟩ = false := fun o => by rw [hf _ _ (by go_size)]; simp [go_sem]
  have f2 : ∀ o, w1.frozen? ⟨w.heap.size + 1, o, none⟩ = false := fun o => by rw [hf _ _ (by go_size)]; simp [go_sem]
  clear hb hc hf hws hg
  go_wp2
  refine bodyPost_ret (v := .agg #[.int .i64 arch, .int .i64 num, .slice (some ⟨g, 0, none⟩) n n]) (by simp [results, Try.results34, go_sem, *]) rfl ?_
  refine ⟨g, rfl, by omega, (((HWS.out.set _ (by omega) _).set _ (by omega) _).set _ (by omega) _).set _ (by omega) _, ?_⟩
  have hw := HW.out
  go_grown

theorem eqCall_same (arch num : Int) (a1 a2 : Option Addr) (c1 c2 : Nat) (ws : List (Int × Int)) (w : World) (hl : ws.length ≤ 1048576) (h1 : Wides w a1 ws) (h2 : Wides w a2 ws) :
    Calls Try.prog 35 #[.agg #[.int .i64 arch, .int .i64 num, .slice a1 ws.length c1], .agg #[.int .i64 arch, .int .i64 num, .slice a2 ws.length c2]] w fun e w' => e = .returned (.bool true) ∧ Below w.heap.size w w' := by
  obtain ⟨n, hn⟩ : ∃ n, n = ws.length := ⟨_, rfl⟩
  have heq := fun (w1 : World) (hb : Below w.heap.size w w1) => eqWideS_same a1 a2 c1 c2 ws w1 hl (h1.below hb (Nat.le_refl _)) (h2.below hb (Nat.le_refl _))
  rw [← hn] at heq ⊢
  have HE : Hid (∀ w1 : World, Below w.heap.size w w1 → Calls Try.prog 74 #[.slice a1 n c1, .slice a2 n c2] w1 fun e w' => e = .returned (.bool true) ∧ Below w1.heap.size w1 w') := heq
  clear heq hn h1 h2 hl
  go_enter Try.func35, Try.ntmps35
  go_wp2_with fail
  refine (HE.out _ (by go_grown)).mono ?_
  rintro e w1 ⟨rfl, hb⟩
  have HB : Hid (Below w.heap.size w w1) := Below.trans (by go_grown) (hb.mono (by simp; omega))
  clear hb
  go_wp2
  go_ret
  exact ⟨rfl, HB.out⟩

theorem szCall_any (arch num : Int) (a : Option Addr) (cap n : Nat) (w : World) (hl : n ≤ 1048576) :
    Calls Try.prog 33 #[.agg #[.int .i64 arch, .int .i64 num, .slice a n cap], .int .i64 1048576] w fun e w' => e = .returned (.int .i64 (1048576 - (n : Int))) ∧ Below w.heap.size w w' := by
  go_enter Try.func33, Try.ntmps33
  go_wp2_with (go_at_call 72; refine (szWideS_any _ _ _ _ hl).mono ?_; rintro e w' ⟨rfl, rfl⟩)
  go_ret
  exact ⟨rfl, by go_grown⟩

theorem szCall_big (arch num : Int) (a : Option Addr) (cap n : Nat) (w : World) (hl : 1048576 < n) (hm : n ≤ 9223372036854775807) :
    Calls Try.prog 33 #[.agg #[.int .i64 arch, .int .i64 num, .slice a n cap], .int .i64 1048576] w fun e w' => e = .returned (.int .i64 (-1)) ∧ Below w.heap.size w w' := by
  go_enter Try.func33, Try.ntmps33
  go_wp2_with (go_at_call 72; refine (szWideS_big _ _ _ _ hl hm).mono ?_; rintro e w' ⟨rfl, rfl⟩)
  go_ret
  exact ⟨rfl, by go_grown⟩

end Go.Proofs.Ytoknlaaghjlnaaa
