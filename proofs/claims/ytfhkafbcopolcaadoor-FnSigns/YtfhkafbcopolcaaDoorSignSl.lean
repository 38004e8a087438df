/- What the laws' eqSign, eqSignS, markSignS and heldSignS do to a row of signs. -/
import Derived.Test.YtfhkafbcopolcaaDoorSignsI
import Derived.Deep.RegionHeld3
namespace Go.Proofs.YtfhkafbcopolcaaDoor
open Go.RowKit
set_option linter.unusedVariables false

/-- A sign lies at o of block g. -/
def Tri (W : World) (g o : Nat) (k : Int) (t : ByteArray) (n : Int) : Prop := W.cell? ⟨g, o, none⟩ = some (.int .i64 k) ∧ W.cell? ⟨g, o + 1, none⟩ = some (.string t) ∧ W.cell? ⟨g, o + 2, none⟩ = some (.int .i64 n)

theorem Tri.lt {W : World} {g o : Nat} {k : Int} {t : ByteArray} {n : Int} (h : Tri W g o k t n) : g < W.heap.size := World.block_lt_of_cell? W _ h.1

theorem Tri.below {W W' : World} {B g o : Nat} {k : Int} {t : ByteArray} {n : Int} (h : Tri W g o k t n) (hb : Below B W W') (hg : g < B) : Tri W' g o k t n :=
  ⟨(hb.cell (p := ⟨g, o, none⟩) hg).trans h.1, (hb.cell (p := ⟨g, o + 1, none⟩) hg).trans h.2.1, (hb.cell (p := ⟨g, o + 2, none⟩) hg).trans h.2.2⟩

theorem Tri.ext {W W' : World} {g o : Nat} {k : Int} {t : ByteArray} {n : Int} (h : Tri W g o k t n) (hE : Ext W W') : Tri W' g o k t n := h.below hE h.lt

/-- These signs lie in a row. -/
def Signs (W : World) (a : Option Addr) (ps : List Sg) : Prop := 0 < ps.length → ∃ b off, a = some ⟨b, off, none⟩ ∧ ∀ j, j < ps.length → Tri W b (off + j * 3) (ps.getD j zeroG).1 (txt (ps.getD j zeroG).2.1) (ps.getD j zeroG).2.2

theorem Signs.ext {W W' : World} {a : Option Addr} {ps : List Sg} (h : Signs W a ps) (hE : Ext W W') : Signs W' a ps := fun hp => by
  obtain ⟨b, off, hb, hq⟩ := h hp
  exact ⟨b, off, hb, fun j hj => (hq j hj).ext hE⟩

theorem Signs.tri {W : World} {a : Option Addr} {ps : List Sg} (h : Signs W a ps) {k : Nat} (hk : k < ps.length) : ∃ b off, a = some ⟨b, off, none⟩ ∧ Tri W b (off + k * 3) (ps.getD k zeroG).1 (txt (ps.getD k zeroG).2.1) (ps.getD k zeroG).2.2 := by
  obtain ⟨b, off, hb, hq⟩ := h (by omega)
  exact ⟨b, off, hb, hq k hk⟩

theorem Own3.signs {w : World} {B : Nat} {v : Value} {ps : List Sg} (h : Own3 w B v ps) : ∃ a cap, v = .slice a ps.length cap ∧ Signs w a ps ∧ (0 < ps.length → ∃ g, a = some ⟨g, 0, none⟩ ∧ B ≤ g ∧ ∀ j, w.frozen? ⟨g, j, none⟩ = false) := by
  have hown : w.ownsRow B 44 3 v ps.length (flatG ps) := h
  rcases h.2 with ⟨rfl, h0⟩ | ⟨g, cap, cur, rfl, hg, hh, hnc, hcp, hcs, htake⟩
  · exact ⟨none, 0, by rw [h0], fun hp => by omega, fun hp => by omega⟩
  · refine ⟨_, cap, rfl, fun hp => ⟨g, 0, rfl, fun j hj => ?_⟩, fun hp => ⟨g, rfl, hg, fun j => frozen_of_row w g j cur 44 hh⟩⟩
    obtain ⟨e0, e1, e2⟩ := flatG_at ps j hj
    have cell : ∀ i v, (flatG ps)[i]? = some v → w.cell? ⟨g, i, none⟩ = some v := fun i v hv => by
      have hc := hown.cells (g := g) rfl i v hv
      rwa [Addr.add_lit, Nat.zero_add] at hc
    rw [Nat.zero_add]
    exact ⟨cell _ _ e0, cell _ _ e1, cell _ _ e2⟩

theorem eqSign_same (k : Int) (t : ByteArray) (n : Int) (w : World) : Calls Tryd.prog 38 #[.agg #[.int .i64 k, .string t, .int .i64 n], .agg #[.int .i64 k, .string t, .int .i64 n]] w fun e w' => e = .returned (.bool true) ∧ Ext w w' := by
  go_enter Tryd.func38, Tryd.ntmps38
  go_wp2
  go_ret
  exact ⟨rfl, (Ext.one _ _).alloc _⟩

set_option maxRecDepth 100000 in
set_option maxHeartbeats 2000000 in
theorem eqSignS_same (a1 a2 : Option Addr) (c1 c2 : Nat) (ps : List Sg) (w : World) (hl : ps.length ≤ 1048576) (h1 : Signs w a1 ps) (h2 : Signs w a2 ps) :
    Calls Tryd.prog 20 #[.slice a1 ps.length c1, .slice a2 ps.length c2] w fun e w' => e = .returned (.bool true) ∧ Ext w w' := by
  obtain ⟨n, hn⟩ : ∃ n, n = ps.length := ⟨_, rfl⟩
  have HA : Hid (Signs w a1 ps ∧ Signs w a2 ps ∧ n = ps.length) := ⟨h1, h2, hn⟩
  rw [← hn]
  have hl' : n ≤ 1048576 := by omega
  clear h1 h2 hn hl
  go_enter Tryd.func20, Tryd.ntmps20
  go_wp2_with fail
  go_loopw [5] (fun i wr => ∃ k : Nat, i = .int .i64 k ∧ k ≤ n ∧ Ext w wr) (fun i _ => n - (intOf i).toNat)
  case atStart => exact ⟨0, rfl, by omega, Ext.refl _⟩
  case round =>
    obtain ⟨k, rfl, hk, hb⟩ := hrel
    by_cases hlt : k < n
    · have bk : (k : Int) < (n : Int) := by omega
      obtain ⟨⟨kd, tl, nm⟩, hp⟩ : ∃ p, p = ps.getD k zeroG := ⟨_, rfl⟩
      obtain ⟨b1, o1, rfl, p1⟩ := (HA.out.1.ext hb).tri (k := k) (by have := HA.out.2.2; omega)
      obtain ⟨b2, o2, rfl, p2⟩ := (HA.out.2.1.ext hb).tri (k := k) (by have := HA.out.2.2; omega)
      rw [← hp] at p1 p2
      simp only at p1 p2
      obtain ⟨T, hT⟩ : ∃ T, T = txt tl := ⟨_, rfl⟩
      rw [← hT] at p1 p2
      clear hp hT
      have HB : Hid (Ext w wr) := hb
      clear hb
      go_wp2_with fail
      refine' wp_region_loose (.inl _ :: .inl _ :: .inl _ :: .inl _ :: .inl _ :: .inl _ :: .inl _ :: .inl _ :: .inl _ :: .inl _ :: []) (fun w' => Tri w' b1 (o1 + k * 3) kd T nm ∧ Tri w' b2 (o2 + k * 3) kd T nm) (by kernel_rfl) (by kernel_rfl) (⟨p1, p2⟩) (fun _ _ h hE => ⟨h.1.ext hE, h.2.ext hE⟩) ?hAa ?hla ?hMa
      case' hMa => skip
      apply wpLoose_val rfl rfl
      case hs =>
        intro w1 hC hd Q1 hQ1
        obtain ⟨hE, hS⟩ := hC
        dsimp only [bare]
        obtain ⟨⟨q1, q2, q3⟩, ⟨q4, q5, q6⟩⟩ := hS
        clear hd hE
        try clear hS
        go_wp2
        exact Ext.refl _
      case ha => rfl
      apply wpLoose_val rfl rfl
      case hs =>
        intro w1 hC hd Q1 hQ1
        obtain ⟨hE, hS⟩ := hC
        dsimp only [bare]
        obtain ⟨⟨q1, q2, q3⟩, ⟨q4, q5, q6⟩⟩ := hS
        clear hd hE
        try clear hS
        go_wp2
        exact Ext.refl _
      case ha => rfl
      apply wpLoose_val rfl rfl
      case hs =>
        intro w1 hC hd Q1 hQ1
        obtain ⟨hE, hS⟩ := hC
        dsimp only [bare]
        obtain ⟨⟨q1, q2, q3⟩, ⟨q4, q5, q6⟩⟩ := hS
        clear hd hE
        try clear hS
        go_wp2
        exact Ext.refl _
      case ha => rfl
      apply wpLoose_val rfl rfl
      case hs =>
        intro w1 hC hd Q1 hQ1
        obtain ⟨hE, hS⟩ := hC
        dsimp only [bare]
        obtain ⟨⟨q1, q2, q3⟩, ⟨q4, q5, q6⟩⟩ := hS
        clear hd hE
        try clear hS
        go_wp2
        exact Ext.refl _
      case ha => rfl
      apply wpLoose_val rfl rfl
      case hs =>
        intro w1 hC hd Q1 hQ1
        obtain ⟨hE, hS⟩ := hC
        dsimp only [bare]
        obtain ⟨⟨q1, q2, q3⟩, ⟨q4, q5, q6⟩⟩ := hS
        clear hd hE
        try clear hS
        go_wp2
        exact Ext.refl _
      case ha => rfl
      apply wpLoose_val rfl rfl
      case hs =>
        intro w1 hC hd Q1 hQ1
        obtain ⟨hE, hS⟩ := hC
        dsimp only [bare]
        obtain ⟨⟨q1, q2, q3⟩, ⟨q4, q5, q6⟩⟩ := hS
        clear hd hE
        try clear hS
        go_wp2
        exact Ext.refl _
      case ha => rfl
      apply wpLoose_val rfl rfl
      case hs =>
        intro w1 hC hd Q1 hQ1
        obtain ⟨hE, hS⟩ := hC
        dsimp only [bare]
        obtain ⟨⟨q1, q2, q3⟩, ⟨q4, q5, q6⟩⟩ := hS
        clear hd hE
        try clear hS
        go_wp2
        exact Ext.refl _
      case ha => rfl
      apply wpLoose_val rfl rfl
      case hs =>
        intro w1 hC hd Q1 hQ1
        obtain ⟨hE, hS⟩ := hC
        dsimp only [bare]
        obtain ⟨⟨q1, q2, q3⟩, ⟨q4, q5, q6⟩⟩ := hS
        clear hd hE
        try clear hS
        go_wp2
        exact Ext.refl _
      case ha => rfl
      apply wpLoose_val rfl rfl
      case hs =>
        intro w1 hC hd Q1 hQ1
        obtain ⟨hE, hS⟩ := hC
        dsimp only [bare]
        clear hd
        go_wp2_with fail
        refine (eqSign_same kd T nm _).mono ?_
        rintro e w2 ⟨rfl, hb⟩
        go_wp2_with fail
        exact hb
      case ha => rfl
      apply wpLoose_val rfl rfl
      case hs =>
        intro w1 hC hd Q1 hQ1
        obtain ⟨hE, hS⟩ := hC
        dsimp only [bare]
        obtain ⟨⟨q1, q2, q3⟩, ⟨q4, q5, q6⟩⟩ := hS
        clear hd hE
        try clear hS
        go_wp2
        exact Ext.refl _
      case ha => rfl
      refine wpLoose_nil ?_
      intro wa hEa hSa hFa
      have HB2 : Hid (Ext w wa) := (HB.out.drew).trans hEa
      clear hFa hSa hEa p1 p2 HB
      go_wp2
      go_roundw
      case rel => exact ⟨k + 1, by go_num, by omega, HB2.out⟩
      case measure => simp [intOf]; omega
      case hAa => kernel_rfl
      case hla => exact ⟨trivial, trivial, trivial, trivial, trivial, trivial, trivial, trivial, trivial, trivial, trivial⟩
    · have bk : ¬ ((k : Int) < (n : Int)) := by omega
      go_wp2
      go_ret
      exact ⟨rfl, hb⟩

end Go.Proofs.YtfhkafbcopolcaaDoor
