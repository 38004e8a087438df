/- What the laws' helpers over slices of words answer: szInsS, toInsS, eqInsS. -/
import Derived.Test.YtaigoggoibdgbaaWordsA
import Derived.Deep.RegionHeld3
import Derived.Handy
namespace Go.Proofs.Ytaigoggoibdgbaa
open Go.RowKit
set_option linter.unusedVariables false

theorem Try.infoN : (Try.prog.info? 34).map (fun i => (i.zero, i.size, i.bytes)) = some (some (.agg #[.int .i64 0, .int .i64 0, .int .i64 0, .int .i64 0]), 4, 32) := by kernel_rfl

/-- What make lays for a slice of words: noughts that may be written. -/
theorem made_words {w : World} {base g n c : Nat} (h : w.ownsRow base 34 4 (.slice (some ⟨g, 0, none⟩) n c) n (madeCells (Value.agg #[.int .i64 0, .int .i64 0, .int .i64 0, .int .i64 0]).cells (n * 4)).toList) :
    g < w.heap.size ∧ ∀ j, j < n * 4 → w.cell? ⟨g, j, none⟩ = some (.int .i64 0) ∧ w.frozen? ⟨g, j, none⟩ = false := by
  rcases h.2 with ⟨hn, _⟩ | ⟨g', cap, cur, hv, _, hh, _, _, hs, ht⟩
  · cases hn
  · obtain ⟨rfl, _⟩ : g = g' ∧ c = cap := by injection hv with h1 h2 h3; injection h1 with h1; injection h1 with a b c; exact ⟨a, h3⟩
    refine ⟨(Array.getElem?_eq_some_iff.1 hh).1, fun j hj => ⟨?_, frozen_of_row w g j cur 34 hh⟩⟩
    rw [cell_of_row w g j cur 34 _ hh]
    have : (madeCells (Value.agg #[.int .i64 0, .int .i64 0, .int .i64 0, .int .i64 0]).cells (n * 4)).toList[j]? = some (.int .i64 0) := by
      have h2 : j % 4 = 0 ∨ j % 4 = 1 ∨ j % 4 = 2 ∨ j % 4 = 3 := by omega
      rcases h2 with h2 | h2 | h2 | h2 <;> simp [madeCells, Value.cells, hj, h2]
    rw [← ht, List.getElem?_take, if_pos hj] at this
    simpa using this

theorem szInsS_any (a : Option Addr) (cap n : Nat) (w : World) (hl : n ≤ 1048576) :
    Calls Try.prog 21 #[.slice a n cap, .int .i64 1048576] w fun e w' => e = .returned (.int .i64 (1048576 - (n : Int))) ∧ w = w' := by
  go_enter Try.func21, Try.ntmps21
  go_wp2
  go_ret
  exact ⟨rfl, rfl⟩

theorem szInsS_big (a : Option Addr) (cap n : Nat) (w : World) (hl : 1048576 < n) (hm : n ≤ 9223372036854775807) :
    Calls Try.prog 21 #[.slice a n cap, .int .i64 1048576] w fun e w' => e = .returned (.int .i64 (-1)) ∧ w = w' := by
  go_enter Try.func21, Try.ntmps21
  go_wp2
  go_ret
  exact ⟨rfl, rfl⟩

/-- A word is stored into four cells of a row. -/
def put4 (W : World) (g o : Nat) (p : Wd) : World := (((W.setCell ⟨g, o, none⟩ (.int .i64 p.1)).setCell ⟨g, o + 1, none⟩ (.int .i64 p.2.1)).setCell ⟨g, o + 2, none⟩ (.int .i64 p.2.2.1)).setCell ⟨g, o + 3, none⟩ (.int .i64 p.2.2.2)

theorem put4_size (W : World) (g o : Nat) (p : Wd) : (put4 W g o p).heap.size = W.heap.size := by unfold put4; simp [World.size_setCell]

theorem put4_frozen (W : World) (g o : Nat) (p : Wd) (q : Addr) : (put4 W g o p).frozen? q = W.frozen? q := by unfold put4; simp only [World.frozen?_setCell]

theorem set_same {W : World} {a : Addr} {u : Value} (v : Value) (h : W.cell? a = some u) : (W.setCell a v).cell? a = some v := World.cell?_setCell_same _ _ _ h

theorem set_far {W : World} {a q : Addr} {v : Value} (h : q ≠ a) : (W.setCell a v).cell? q = W.cell? q := World.cell?_setCell_other _ _ _ _ (Ne.symm h)

theorem off_ne {g i j : Nat} (h : i ≠ j) : (⟨g, i, none⟩ : Addr) ≠ ⟨g, j, none⟩ := fun e => h (by injection e)

theorem put4_far (W : World) (g o : Nat) (p : Wd) (q : Addr) (h : ∀ i, i < 4 → q ≠ ⟨g, o + i, none⟩) : (put4 W g o p).cell? q = W.cell? q := by
  unfold put4
  rw [set_far (h 3 (by omega)), set_far (h 2 (by omega)), set_far (h 1 (by omega))]
  exact set_far (h 0 (by omega))

theorem put4_quad (W : World) (g o : Nat) (p q : Wd) (h : Quad W g o q) : Quad (put4 W g o p) g o p := by
  unfold put4
  refine ⟨?_, ?_, ?_, ?_⟩
  · rw [set_far (off_ne (by omega)), set_far (off_ne (by omega)), set_far (off_ne (by omega))]
    exact set_same _ h.1
  · rw [set_far (off_ne (by omega)), set_far (off_ne (by omega))]
    refine set_same (u := .int .i64 q.2.1) _ ?_
    rw [set_far (off_ne (by omega))]
    exact h.2.1
  · rw [set_far (off_ne (by omega))]
    refine set_same (u := .int .i64 q.2.2.1) _ ?_
    rw [set_far (off_ne (by omega)), set_far (off_ne (by omega))]
    exact h.2.2.1
  · refine set_same (u := .int .i64 q.2.2.2) _ ?_
    rw [set_far (off_ne (by omega)), set_far (off_ne (by omega)), set_far (off_ne (by omega))]
    exact h.2.2.2

theorem Below.put4 {B : Nat} {w W : World} (h : Below B w W) {g : Nat} (hg : B ≤ g) (o : Nat) (p : Wd) : Below B w (put4 W g o p) :=
  (((Below.setCell h (show B ≤ g from hg) _).setCell (show B ≤ g from hg) _).setCell (show B ≤ g from hg) _).setCell (show B ≤ g from hg) _

/-- A row of n words that may be written. -/
def Free4 (W : World) (g n : Nat) : Prop := ∀ j, j < n * 4 → W.frozen? ⟨g, j, none⟩ = false

set_option maxRecDepth 100000 in
set_option maxHeartbeats 2000000 in
theorem toInsS_any (a : Option Addr) (cap : Nat) (ws : List Wd) (w : World) (hl : ws.length ≤ 1048576) (h : Words w a ws) :
    Calls Try.prog 22 #[.slice a ws.length cap] w fun e w' => ∃ g, e = .returned (.slice (some ⟨g, 0, none⟩) ws.length ws.length) ∧ w.heap.size ≤ g ∧ Words w' (some ⟨g, 0, none⟩) ws ∧ Below w.heap.size w w' := by
  obtain ⟨i0, hi, hz0, hz1, hz2⟩ := info_parts Try.infoN
  obtain ⟨n, hn⟩ : ∃ n, n = ws.length := ⟨_, rfl⟩
  have HA : Hid (Words w a ws ∧ n = ws.length) := ⟨h, hn⟩
  rw [← hn]
  have hl' : n ≤ 1048576 := by omega
  clear h hn hl
  go_enter Try.func22, Try.ntmps22
  go_wp2_with (at_make; refine wpList_make_full _ rfl _ _ 24 rfl w.heap.size 34 i0 (.agg #[.int .i64 0, .int .i64 0, .int .i64 0, .int .i64 0]) 4 Try.underlying24 hi hz0 hz1 _ _ _ _ n rfl rfl (by omega) (by omega) (by rw [hz2]; omega) (by unfold maxLen; omega) (Nat.le_refl _) ?_; intro w0 hown0 hgrow0)
  have b0 : Below w.heap.size w w0 := (Below.refl _ w).grown hgrow0 (Nat.le_refl _) (fun k hk => by cases hk)
  have m0 := made_words hown0
  clear hown0 hgrow0
  obtain ⟨g, hg⟩ : ∃ g, g = w.heap.size := ⟨_, rfl⟩
  rw [← hg] at m0 ⊢
  have hg0 := m0.1
  have HM : Hid (Free4 w0 g n ∧ ∀ j, j < n → Quad w0 g (j * 4) zeroW) := ⟨fun j hj => (m0.2 j hj).2, fun j hj => ⟨(m0.2 _ (by omega)).1, (m0.2 _ (by omega)).1, (m0.2 _ (by omega)).1, (m0.2 _ (by omega)).1⟩⟩
  clear m0
  go_loopw [4] (fun i wr => ∃ k : Nat, i = .int .i64 k ∧ k ≤ n ∧ Hid (Below w.heap.size w wr ∧ g < wr.heap.size ∧ Free4 wr g n ∧ ∀ j, j < n → ∃ q, Quad wr g (j * 4) q ∧ (j < k → q = ws.getD j zeroW))) (fun i _ => n - (intOf i).toNat)
  case atStart => exact ⟨0, rfl, by omega, b0, hg0, HM.out.1, fun j hj => ⟨zeroW, HM.out.2 j hj, fun h => by omega⟩⟩
  case round =>
    obtain ⟨k, rfl, hk, HR⟩ := hrel
    clear b0 hg0 HM
    by_cases hlt : k < n
    · have bk : (k : Int) < (n : Int) := by omega
      obtain ⟨⟨o, kk, y, nn⟩, hp⟩ : ∃ p, p = ws.getD k zeroW := ⟨_, rfl⟩
      obtain ⟨b, off, ha, hq⟩ := (HA.out.1.below HR.out.1 (Nat.le_refl _)).quad (k := k) (by have := HA.out.2; omega) hp
      subst ha
      obtain ⟨c0, c1, c2, c3⟩ := hq
      simp only at c0 c1 c2 c3
      have HP : Hid ((o, kk, y, nn) = ws.getD k zeroW) := hp
      have HG : Hid (g = w.heap.size) := hg
      clear hp hg
      go_wp2_with fail
      refine (toIns_any o kk y nn _).mono ?_
      rintro e w2 ⟨rfl, hb2⟩
      have HC2 : Hid (Below w.heap.size w w2 ∧ g < w2.heap.size ∧ Free4 w2 g n ∧ ∀ j, j < n → ∃ q, Quad w2 g (j * 4) q ∧ (j < k → q = ws.getD j zeroW)) := by
        obtain ⟨hb, hgs, hfr, hcell⟩ := HR.out
        refine ⟨hb.trans (Below.mono hb2 hb.size), Nat.lt_of_lt_of_le hgs hb2.size, fun j hj => (hb2.frozen (p := ⟨g, j, none⟩) hgs).trans (hfr j hj), fun j hj => ?_⟩
        obtain ⟨q, e1, e2⟩ := hcell j hj
        exact ⟨q, e1.below hb2 hgs, e2⟩
      obtain ⟨q, ⟨d0, d1, d2, d3⟩, _⟩ := HC2.out.2.2.2 k hlt
      have f0 := HC2.out.2.2.1 (k * 4) (by omega)
      have f1 := HC2.out.2.2.1 (k * 4 + 1) (by omega)
      have f2 := HC2.out.2.2.1 (k * 4 + 2) (by omega)
      have f3 := HC2.out.2.2.1 (k * 4 + 3) (by omega)
      clear hb2 HR c0 c1 c2 c3
      go_wp2
      go_roundw
      case rel =>
        obtain ⟨hb, hgs, hfr, hcell⟩ := HC2.out
        have hgw : w.heap.size ≤ g := by have := HG.out; omega
        refine ⟨k + 1, by go_num, by omega, Below.put4 hb hgw (k * 4) (o, kk, y, nn), by have := put4_size w2 g (k * 4) (o, kk, y, nn); unfold put4 at this; rw [this]; exact hgs, fun j hj => (put4_frozen w2 g (k * 4) (o, kk, y, nn) _).trans (hfr j hj), fun j hj => ?_⟩
        obtain ⟨q, e1, e2⟩ := hcell j hj
        by_cases hjk : j = k
        · subst hjk
          exact ⟨(o, kk, y, nn), put4_quad w2 g (j * 4) (o, kk, y, nn) q e1, fun _ => HP.out⟩
        · have hf := put4_far w2 g (k * 4) (o, kk, y, nn)
          exact ⟨q, ⟨(hf _ (fun i hi => off_ne (by omega))).trans e1.1, (hf _ (fun i hi => off_ne (by omega))).trans e1.2.1, (hf _ (fun i hi => off_ne (by omega))).trans e1.2.2.1, (hf _ (fun i hi => off_ne (by omega))).trans e1.2.2.2⟩, fun h => e2 (by omega)⟩
      case measure => simp [intOf]; omega
    · have hkn : k = n := by omega
      have bk : ¬ ((k : Int) < (n : Int)) := by omega
      obtain ⟨hb, hgs, _, hcell⟩ := HR.out
      have HE : Hid (Words wr (some ⟨g, 0, none⟩) ws) := fun hp => by
        refine ⟨g, 0, rfl, fun j hj => ?_⟩
        obtain ⟨q, e1, e2⟩ := hcell j (by have := HA.out.2; omega)
        rw [← e2 (by have := HA.out.2; omega), Nat.zero_add]
        exact e1
      have HG : Hid (w.heap.size ≤ g) := by unfold Hid; omega
      have HB : Hid (Below w.heap.size w wr) := hb
      clear hcell hkn hgs hg hb HR
      go_wp2
      go_ret
      exact ⟨g, rfl, HG.out, HE.out, HB.out⟩

set_option maxRecDepth 100000 in
set_option maxHeartbeats 2000000 in
theorem eqInsS_same (a1 a2 : Option Addr) (c1 c2 : Nat) (ws : List Wd) (w : World) (hl : ws.length ≤ 1048576) (h1 : Words w a1 ws) (h2 : Words w a2 ws) :
    Calls Try.prog 23 #[.slice a1 ws.length c1, .slice a2 ws.length c2] w fun e w' => e = .returned (.bool true) ∧ Below w.heap.size w w' := by
  obtain ⟨n, hn⟩ : ∃ n, n = ws.length := ⟨_, rfl⟩
  have HA : Hid (Words w a1 ws ∧ Words w a2 ws ∧ n = ws.length) := ⟨h1, h2, hn⟩
  rw [← hn]
  have hl' : n ≤ 1048576 := by omega
  clear h1 h2 hn hl
  go_enter Try.func23, Try.ntmps23
  go_wp2_with fail
  go_loopw [5] (fun i wr => ∃ k : Nat, i = .int .i64 k ∧ k ≤ n ∧ Below w.heap.size w wr) (fun i _ => n - (intOf i).toNat)
  case atStart => exact ⟨0, rfl, by omega, Below.refl _ _⟩
  case round =>
    obtain ⟨k, rfl, hk, hb⟩ := hrel
    by_cases hlt : k < n
    · have bk : (k : Int) < (n : Int) := by omega
      obtain ⟨⟨o, kk, y, nn⟩, hp⟩ : ∃ p, p = ws.getD k zeroW := ⟨_, rfl⟩
      obtain ⟨b1, o1, rfl, p1⟩ := (HA.out.1.below hb (Nat.le_refl _)).quad (k := k) (by have := HA.out.2.2; omega) hp
      obtain ⟨b2, o2, rfl, p2⟩ := (HA.out.2.1.below hb (Nat.le_refl _)).quad (k := k) (by have := HA.out.2.2; omega) hp
      clear hp
      have HB : Hid (Below w.heap.size w wr) := hb
      clear hb
      go_wp2_with fail
      refine' wp_region_loose (.inl _ :: .inl _ :: .inl _ :: .inl _ :: .inl _ :: .inl _ :: .inl _ :: .inl _ :: .inl _ :: .inl _ :: []) (fun w' => Quad w' b1 (o1 + k * 4) (o, kk, y, nn) ∧ Quad w' b2 (o2 + k * 4) (o, kk, y, nn)) (by kernel_rfl) (by kernel_rfl) (⟨p1, p2⟩) (fun _ _ h hE => ⟨h.1.below hE h.1.lt, h.2.below hE h.2.lt⟩) ?hAa ?hla ?hMa
      case' hMa => skip
      apply wpLoose_val rfl rfl
      case hs =>
        intro w1 hC hd Q1 hQ1
        obtain ⟨hE, hS⟩ := hC
        dsimp only [bare]
        obtain ⟨⟨q1, q2, q3, q4⟩, ⟨q5, q6, q7, q8⟩⟩ := hS; simp only at q1 q2 q3 q4 q5 q6 q7 q8
        clear hd hE
        try clear hS
        go_wp2
        exact Ext.refl _
      case ha => rfl
      apply wpLoose_val rfl rfl
      case hs =>
        intro w1 hC hd Q1 hQ1
        obtain ⟨hE, hS⟩ := hC
        dsimp only [bare]
        obtain ⟨⟨q1, q2, q3, q4⟩, ⟨q5, q6, q7, q8⟩⟩ := hS; simp only at q1 q2 q3 q4 q5 q6 q7 q8
        clear hd hE
        try clear hS
        go_wp2
        exact Ext.refl _
      case ha => rfl
      apply wpLoose_val rfl rfl
      case hs =>
        intro w1 hC hd Q1 hQ1
        obtain ⟨hE, hS⟩ := hC
        dsimp only [bare]
        obtain ⟨⟨q1, q2, q3, q4⟩, ⟨q5, q6, q7, q8⟩⟩ := hS; simp only at q1 q2 q3 q4 q5 q6 q7 q8
        clear hd hE
        try clear hS
        go_wp2
        exact Ext.refl _
      case ha => rfl
      apply wpLoose_val rfl rfl
      case hs =>
        intro w1 hC hd Q1 hQ1
        obtain ⟨hE, hS⟩ := hC
        dsimp only [bare]
        obtain ⟨⟨q1, q2, q3, q4⟩, ⟨q5, q6, q7, q8⟩⟩ := hS; simp only at q1 q2 q3 q4 q5 q6 q7 q8
        clear hd hE
        try clear hS
        go_wp2
        exact Ext.refl _
      case ha => rfl
      apply wpLoose_val rfl rfl
      case hs =>
        intro w1 hC hd Q1 hQ1
        obtain ⟨hE, hS⟩ := hC
        dsimp only [bare]
        obtain ⟨⟨q1, q2, q3, q4⟩, ⟨q5, q6, q7, q8⟩⟩ := hS; simp only at q1 q2 q3 q4 q5 q6 q7 q8
        clear hd hE
        try clear hS
        go_wp2
        exact Ext.refl _
      case ha => rfl
      apply wpLoose_val rfl rfl
      case hs =>
        intro w1 hC hd Q1 hQ1
        obtain ⟨hE, hS⟩ := hC
        dsimp only [bare]
        obtain ⟨⟨q1, q2, q3, q4⟩, ⟨q5, q6, q7, q8⟩⟩ := hS; simp only at q1 q2 q3 q4 q5 q6 q7 q8
        clear hd hE
        try clear hS
        go_wp2
        exact Ext.refl _
      case ha => rfl
      apply wpLoose_val rfl rfl
      case hs =>
        intro w1 hC hd Q1 hQ1
        obtain ⟨hE, hS⟩ := hC
        dsimp only [bare]
        obtain ⟨⟨q1, q2, q3, q4⟩, ⟨q5, q6, q7, q8⟩⟩ := hS; simp only at q1 q2 q3 q4 q5 q6 q7 q8
        clear hd hE
        try clear hS
        go_wp2
        exact Ext.refl _
      case ha => rfl
      apply wpLoose_val rfl rfl
      case hs =>
        intro w1 hC hd Q1 hQ1
        obtain ⟨hE, hS⟩ := hC
        dsimp only [bare]
        obtain ⟨⟨q1, q2, q3, q4⟩, ⟨q5, q6, q7, q8⟩⟩ := hS; simp only at q1 q2 q3 q4 q5 q6 q7 q8
        clear hd hE
        try clear hS
        go_wp2
        exact Ext.refl _
      case ha => rfl
      apply wpLoose_val rfl rfl
      case hs =>
        intro w1 hC hd Q1 hQ1
        obtain ⟨hE, hS⟩ := hC
        dsimp only [bare]
        clear hd
        go_wp2_with fail
        refine (eqIns_same o kk y nn _).mono ?_
        rintro e w2 ⟨rfl, hb⟩
        go_wp2_with fail
        exact hb
      case ha => rfl
      apply wpLoose_val rfl rfl
      case hs =>
        intro w1 hC hd Q1 hQ1
        obtain ⟨hE, hS⟩ := hC
        dsimp only [bare]
        obtain ⟨⟨q1, q2, q3, q4⟩, ⟨q5, q6, q7, q8⟩⟩ := hS; simp only at q1 q2 q3 q4 q5 q6 q7 q8
        clear hd hE
        try clear hS
        go_wp2
        exact Ext.refl _
      case ha => rfl
      refine wpLoose_nil ?_
      intro wa hEa hSa hFa
      have HB2 : Hid (Below w.heap.size w wa) := (HB.out.drew).trans (Below.mono hEa HB.out.size)
      clear hFa hSa hEa p1 p2 HB
      go_wp2
      go_roundw
      case rel => exact ⟨k + 1, by go_num, by omega, HB2.out⟩
      case measure => simp [intOf]; omega
      case hAa => kernel_rfl
      case hla => exact ⟨trivial, trivial, trivial, trivial, trivial, trivial, trivial, trivial, trivial, trivial, trivial⟩
    · have bk : ¬ ((k : Int) < (n : Int)) := by omega
      go_wp2
      go_ret
      exact ⟨rfl, hb⟩

end Go.Proofs.Ytaigoggoibdgbaa
