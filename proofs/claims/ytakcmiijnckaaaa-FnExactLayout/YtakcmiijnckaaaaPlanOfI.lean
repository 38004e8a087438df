/- What impl's planOf answers: the plan of right lines. -/
import Derived.Test.YtakcmiijnckaaaaSizeOfI
namespace Go.Proofs.Ytakcmiijnckaaaa
open Go.RowKit
set_option linter.unusedVariables false

/-- What make lays for a slice of numbers. -/
theorem made_nums {w : World} {base g n c : Nat} (h : w.ownsRow base 3 1 (.slice (some ⟨g, 0, none⟩) n c) n (madeCells (Value.int .i64 0).cells (n * 1)).toList) : RowF w g n (fun _ => 0) := by
  rcases h.2 with ⟨hn, _⟩ | ⟨g', cap, cur, hv, _, hh, _, _, hs, ht⟩
  · cases hn
  · obtain ⟨rfl, _⟩ : g = g' ∧ c = cap := by injection hv with h1 h2 h3; injection h1 with h1; injection h1 with a b c; exact ⟨a, h3⟩
    refine ⟨(Array.getElem?_eq_some_iff.1 hh).1, fun j hj => ⟨?_, frozen_of_row w g j cur 3 hh⟩⟩
    rw [cell_of_row w g j cur 3 _ hh]
    have : (madeCells (Value.int .i64 0).cells (n * 1)).toList[j]? = some (.int .i64 0) := by simp [madeCells, Value.cells, hj, Nat.mod_one]
    rw [← ht, List.getElem?_take, if_pos (by omega)] at this
    simpa using this

theorem PlanP.step {W : World} {ls : List Ln} {s : Nat → Nat} {B g j : Nat} (h : PlanP W ls s B g (j + 1)) (hj : j < ls.length) (hne : B ≠ g) : PlanP (W.setCell ⟨g, j, none⟩ (.int .i64 ((cnt s ls.length : Int) - (cnt s (j + 1) : Int) + (s j : Int)))) ls s B g j := by
  obtain ⟨hm, f, hr, hf⟩ := h
  refine ⟨?_, _, hr.set (by omega) _, fun i hi hin => ?_⟩
  · obtain ⟨D, h1, h2⟩ := hm
    exact ⟨D, h1.setCell (a := ⟨g, j, none⟩) hne _, h2⟩
  · unfold setF
    by_cases e : i = j
    · subst e
      rw [if_pos rfl]
      show (cnt s ls.length : Int) - ((cnt s i + s i : Nat) : Int) + (s i : Int) = _
      omega
    · rw [if_neg e]
      exact hf i (by omega) hin

/-- A block of two cells that may be written. -/
def Two (W : World) (b : Nat) (v0 v1 : Value) : Prop := b < W.heap.size ∧ W.cell? ⟨b, 0, none⟩ = some v0 ∧ W.cell? ⟨b, 1, none⟩ = some v1 ∧ W.frozen? ⟨b, 0, none⟩ = false ∧ W.frozen? ⟨b, 1, none⟩ = false

theorem Two.ext {W W' : World} {b : Nat} {v0 v1 : Value} (h : Two W b v0 v1) (hE : Ext W W') : Two W' b v0 v1 :=
  ⟨Nat.lt_of_lt_of_le h.1 hE.size, (hE.cell (p := ⟨b, 0, none⟩) h.1).trans h.2.1, (hE.cell (p := ⟨b, 1, none⟩) h.1).trans h.2.2.1, (hE.frozen (p := ⟨b, 0, none⟩) h.1).trans h.2.2.2.1, (hE.frozen (p := ⟨b, 1, none⟩) h.1).trans h.2.2.2.2⟩

theorem Two.far {W : World} {b g i : Nat} {v0 v1 : Value} (h : Two W b v0 v1) (hne : b ≠ g) (v : Value) : Two (W.setCell ⟨g, i, none⟩ v) b v0 v1 :=
  ⟨by rw [World.size_setCell]; exact h.1, by rw [set_far (fun e => hne (by injection e))]; exact h.2.1, by rw [set_far (fun e => hne (by injection e))]; exact h.2.2.1, by rw [World.frozen?_setCell]; exact h.2.2.2.1, by rw [World.frozen?_setCell]; exact h.2.2.2.2⟩

set_option maxRecDepth 100000 in
set_option maxHeartbeats 8000000 in
theorem planOf_any (a : Option Addr) (cap : Nat) (ls : List Ln) (s : Nat → Nat) (w : World) (hl : linesP ls) (hs : sizesP ls s) (ht : TextsP ls) (h : Lns w a ls) :
    Calls Try.prog 38 #[.slice a ls.length cap] w fun e w' => ∃ B g, e = .returned (.agg #[.map (some B), .slice (some ⟨g, 0, none⟩) (ls.length + 1) (ls.length + 1)]) ∧ PlanP w' ls s B g 0 ∧ Ext w w' := by
  obtain ⟨i0, hi, hz0, hz1, hz2⟩ := info_parts Try.infoI
  obtain ⟨n, hn⟩ : ∃ n, n = ls.length := ⟨_, rfl⟩
  have hn6 : n ≤ 600 := by have := hl.1; omega
  have hn1 : 1 ≤ n := by have := hl.1; omega
  have HA : Hid (Lns w a ls ∧ n = ls.length ∧ linesP ls ∧ sizesP ls s ∧ TextsP ls) := ⟨h, hn, hl, hs, ht⟩
  have HPL : Hid (∀ w1, Ext w w1 → Calls Try.prog 46 #[.slice a n cap] w1 fun e w' => ∃ B, e = .returned (.tuple #[mapV true B, .bool true]) ∧ Ext w1 w' ∧ (true = true → w1.heap.size ≤ B ∧ MapOf w' B n (upTo ls n))) := fun w1 hE => by
    have := places_any a cap ls true w1 (by omega) ht (h.ext hE) ⟨fun _ => ((lines_once ls).1 hl).2.2.1, fun _ => rfl⟩
    rw [← hn] at this
    exact this
  rw [← hn]
  clear h hn hl hs ht
  go_enter Try.func38, Try.ntmps38
  go_wp2_with fail
  refine (HPL.out _ (Ext.one _ _)).mono ?_
  rintro e w2 ⟨B, rfl, e2, hB⟩
  obtain ⟨hB1, hm2⟩ := hB trivial
  simp only [mapV, if_true]
  have X2 : Hid (Ext w w2 ∧ w.heap.size + 1 ≤ B ∧ MapOf w2 B n (upTo ls n) ∧ w.heap.size + 1 ≤ w2.heap.size) := ⟨(Ext.one _ _).trans e2, by simpa using hB1, hm2, by have := e2.size; simpa using this⟩
  have r0 : Two w2 w.heap.size (.map none) (.slice none 0 0) := Two.ext ⟨by simp, by simp [go_sem], by simp [go_sem], by simp [go_sem], by simp [go_sem]⟩ e2
  have HR0 : Hid (Two w2 w.heap.size (.map none) (.slice none 0 0)) := r0
  clear hB hB1 hm2 e2 HPL r0
  go_wp2_with (at_make; refine wpList_make_full _ rfl _ _ 42 rfl w2.heap.size 3 i0 (.int .i64 0) 1 Try.underlying42 hi hz0 hz1 _ _ _ _ (n + 1) rfl rfl (by omega) (by omega) (by rw [hz2]; omega) (by unfold maxLen; omega) (Nat.le_refl _) ?_; intro w3 hown3 hgrow3)
  have x3 : Ext w2 w3 := (Ext.refl w2).grown hgrow3 (Nat.le_refl _) (fun k hk => by cases hk)
  have m3 := made_nums hown3
  obtain ⟨g, hg⟩ : ∃ g, g = w2.heap.size := ⟨_, rfl⟩
  rw [← hg] at m3 ⊢
  obtain ⟨bp, hbp⟩ : ∃ b, b = w3.heap.size := ⟨_, rfl⟩
  have HG : Hid (B ≠ g ∧ w.heap.size ≠ g ∧ bp ≠ g ∧ w.heap.size ≠ bp ∧ w.heap.size ≤ g ∧ w.heap.size ≠ B) := by
    have := X2.out.2.1
    have := X2.out.2.2.1.lt
    have := X2.out.2.2.2
    have := m3.1
    refine ⟨by omega, by omega, by omega, by omega, by omega, by omega⟩
  have HX : Hid (PlanP (w3.alloc (.cells #[.map (some B), .slice (some ⟨g, 0, none⟩) (n + 1) (n + 1)] 61)) ls s B g n ∧ Two (w3.alloc (.cells #[.map (some B), .slice (some ⟨g, 0, none⟩) (n + 1) (n + 1)] 61)) w.heap.size (.map none) (.slice none 0 0) ∧ Two (w3.alloc (.cells #[.map (some B), .slice (some ⟨g, 0, none⟩) (n + 1) (n + 1)] 61)) bp (.map (some B)) (.slice (some ⟨g, 0, none⟩) (n + 1) (n + 1)) ∧ Ext w (w3.alloc (.cells #[.map (some B), .slice (some ⟨g, 0, none⟩) (n + 1) (n + 1)] 61))) := by
    refine ⟨⟨?_, fun _ => 0, ?_, fun j h1 h2 => ?_⟩, (HR0.out.ext x3).ext (Ext.one _ _), ?_, (X2.out.1.trans x3).alloc _⟩
    · rw [← HA.out.2.1]
      exact (X2.out.2.2.1.ext x3).ext (Ext.one _ _)
    · rw [← HA.out.2.1]
      exact m3.ext (Ext.one _ _)
    · have : j = ls.length := by have := HA.out.2.1; omega
      rw [this]
      show (0 : Int) = _
      omega
    · rw [hbp]
      exact ⟨by simp, by simp [go_sem], by simp [go_sem], by simp [go_sem], by simp [go_sem]⟩
  rw [← hbp]
  generalize w3.alloc (.cells #[.map (some B), .slice (some ⟨g, 0, none⟩) (n + 1) (n + 1)] 61) = W4 at *
  have HSO : Hid (∀ (i : Nat) (lab yes no : ByteArray) (o kk y nn : Int) (w1 : World), PlanP w1 ls s B g (i + 1) → i < n → Ln.mk lab (o, kk, y, nn) yes no = ls.getD i zeroL → Calls Try.prog 70 #[.agg #[.map (some B), .slice (some ⟨g, 0, none⟩) (n + 1) (n + 1)], .int .i64 (i : Int), .agg #[.string lab, .int .i64 o, .int .i64 kk, .int .i64 y, .int .i64 nn, .string yes, .string no]] w1 fun e w' => e = .returned (.int .i64 (s i : Nat)) ∧ Ext w1 w') := fun i lab yes no o kk y nn w1 h1 h2 h3 => by
    have ht := HA.out.2.2.2.2 i (by have := HA.out.2.1; omega)
    rw [← h3] at ht
    have := sizeOf_any ls s B g (i + 1) (n + 1) i lab yes no o kk y nn w1 HA.out.2.2.1 HA.out.2.2.2.1 h1 (Nat.le_refl _) (by have := HA.out.2.1; omega) h3 ht.2
    rw [← HA.out.2.1] at this
    exact this
  clear hg hbp m3 x3 hown3 hgrow3 HR0 X2
  go_loopw [6] (fun iv wr => ∃ k : Nat, iv = .int .i64 ((k : Int) - 1) ∧ k ≤ n ∧ Hid (PlanP wr ls s B g k ∧ Two wr w.heap.size (.map none) (.slice none 0 0) ∧ Two wr bp (.map (some B)) (.slice (some ⟨g, 0, none⟩) (n + 1) (n + 1)) ∧ Ext w wr)) (fun iv _ => ((intOf iv) + 1).toNat)
  case atStart => exact ⟨n, rfl, by omega, HX.out⟩
  case round =>
    obtain ⟨k, rfl, hk, HX⟩ := hrel
    cases k with
    | zero =>
      have HR : Hid (PlanP wr ls s B g 0 ∧ Ext w wr) := ⟨HX.out.1, HX.out.2.2.2⟩
      have t0 := HX.out.2.1
      have t1 := HX.out.2.2.1
      obtain ⟨_, t2, t3, t4, t5⟩ := t0
      obtain ⟨_, t6, t7, _, _⟩ := t1
      have HGG : Hid (w.heap.size ≠ g ∧ w.heap.size ≠ B) := ⟨HG.out.2.1, HG.out.2.2.2.2.2⟩
      clear HX HSO
      go_wp2
      refine bodyPost_ret (v := .agg #[.map (some B), .slice (some ⟨g, 0, none⟩) (n + 1) (n + 1)]) (by simp [results, Try.results38, go_sem, *]) rfl ⟨B, g, rfl, ?_, ?_⟩
      · obtain ⟨⟨D, m1, m2⟩, f, r1, r2⟩ := HR.out.1
        refine ⟨⟨D, ?_, m2⟩, f, (r1.far (Ne.symm HGG.out.1) _).far (Ne.symm HGG.out.1) _, r2⟩
        exact (m1.setCell (a := ⟨w.heap.size, 0, none⟩) (Ne.symm HGG.out.2) _).setCell (a := ⟨w.heap.size, 1, none⟩) (Ne.symm HGG.out.2) _
      · exact Below.setCell (Below.setCell HR.out.2 (show w.heap.size ≤ w.heap.size from Nat.le_refl _) _) (show w.heap.size ≤ w.heap.size from Nat.le_refl _) _
    | succ j =>
      have ej : ((j + 1 : Nat) : Int) - 1 = (j : Int) := by omega
      rw [ej]
      have hjn : j < n := by omega
      have bj : (j : Int) < (n : Int) := by omega
      have bj1 : (j : Int) < (n : Int) + 1 := by omega
      have bj2 : (j : Int) + 1 < (n : Int) + 1 := by omega
      obtain ⟨⟨lab, ⟨o, kk, y, nn⟩, yes, no⟩, hp⟩ : ∃ p, p = ls.getD j zeroL := ⟨_, rfl⟩
      obtain ⟨b, off, rfl, hq⟩ := (HA.out.1.ext HX.out.2.2.2).hept (k := j) (by have := HA.out.2.1; omega) hp
      have HP : Hid (Ln.mk lab (o, kk, y, nn) yes no = ls.getD j zeroL) := hp
      obtain ⟨_, t6, t7, _, _⟩ := HX.out.2.2.1
      obtain ⟨u, hu⟩ : ∃ u, u = (cnt s ls.length : Int) - (cnt s (j + 1) : Int) := ⟨_, rfl⟩
      have x1 : wr.cell? ⟨g, j + 1, none⟩ = some (.int .i64 u) := by
        obtain ⟨_, f, r1, r2⟩ := HX.out.1
        have := (r1.2 (j + 1) (by have := HA.out.2.1; omega)).1
        rw [r2 (j + 1) (Nat.le_refl _) (by have := HA.out.2.1; omega), ← hu] at this
        exact this
      have hub : -1800 ≤ u ∧ u ≤ 1800 := by
        have h1 := cnt_le HA.out.2.2.2.1 (n := ls.length) (Nat.le_refl _)
        have h2 := cnt_le HA.out.2.2.2.1 (n := j + 1) (by have := HA.out.2.1; omega)
        have h3 := HA.out.2.1
        omega
      have hsj : s j ≤ 3 := size_le HA.out.2.2.2.1 (by have := HA.out.2.1; omega)
      have HU : Hid (u = (cnt s ls.length : Int) - (cnt s (j + 1) : Int)) := hu
      clear hp hu
      go_wp2_with fail
      refine' wp_region_loose_tail 18 (.inl _ :: .inl _ :: .inl _ :: .inl _ :: .inl _ :: .inl _ :: .inl _ :: .inl _ :: .inl _ :: .inl _ :: .inl _ :: .inl _ :: .inl _ :: .inl _ :: .inl _ :: .inl _ :: .inl _ :: .inl _ :: []) (fun w' => PlanP w' ls s B g (j + 1) ∧ w'.cell? ⟨bp, 0, none⟩ = some (.map (some B)) ∧ w'.cell? ⟨bp, 1, none⟩ = some (.slice (some ⟨g, 0, none⟩) (n + 1) (n + 1)) ∧ w'.cell? ⟨g, j + 1, none⟩ = some (.int .i64 u) ∧ Hept w' b (off + j * 7) ⟨lab, (o, kk, y, nn), yes, no⟩) (by kernel_rfl) (by kernel_rfl) (⟨HX.out.1, t6, t7, x1, hq⟩) (fun _ _ h hE => ⟨h.1.ext hE, (hE.cell (p := ⟨bp, 0, none⟩) (World.block_lt_of_cell? _ _ h.2.1)).trans h.2.1, (hE.cell (p := ⟨bp, 1, none⟩) (World.block_lt_of_cell? _ _ h.2.2.1)).trans h.2.2.1, (hE.cell (p := ⟨g, j + 1, none⟩) (World.block_lt_of_cell? _ _ h.2.2.2.1)).trans h.2.2.2.1, h.2.2.2.2.ext hE⟩) ?hAa ?hla ?hMa
      case' hMa => skip
      simp only [List.take_succ_cons, List.take_zero, List.drop_succ_cons, List.drop_zero]
      apply wpLoose_val rfl rfl
      case hs =>
        intro w1 hC hd Q1 hQ1
        obtain ⟨hE, hS⟩ := hC
        dsimp only [bare]
        obtain ⟨_, q1, q2, q3, c0, c1, c2, c3, c4, c5, c6⟩ := hS; simp only at c0 c1 c2 c3 c4 c5 c6
        clear hd hE
        try clear hS
        go_wp2
        exact Ext.refl _
      case ha => rfl
      apply wpLoose_val rfl rfl
      case hs =>
        intro w1 hC hd Q1 hQ1
        obtain ⟨hE, hS⟩ := hC
        dsimp only [bare]
        obtain ⟨_, q1, q2, q3, c0, c1, c2, c3, c4, c5, c6⟩ := hS; simp only at c0 c1 c2 c3 c4 c5 c6
        clear hd hE
        try clear hS
        go_wp2
        exact Ext.refl _
      case ha => rfl
      apply wpLoose_val rfl rfl
      case hs =>
        intro w1 hC hd Q1 hQ1
        obtain ⟨hE, hS⟩ := hC
        dsimp only [bare]
        obtain ⟨_, q1, q2, q3, c0, c1, c2, c3, c4, c5, c6⟩ := hS; simp only at c0 c1 c2 c3 c4 c5 c6
        clear hd hE
        try clear hS
        go_wp2
        exact Ext.refl _
      case ha => rfl
      apply wpLoose_val rfl rfl
      case hs =>
        intro w1 hC hd Q1 hQ1
        obtain ⟨hE, hS⟩ := hC
        dsimp only [bare]
        obtain ⟨_, q1, q2, q3, c0, c1, c2, c3, c4, c5, c6⟩ := hS; simp only at c0 c1 c2 c3 c4 c5 c6
        clear hd hE
        try clear hS
        go_wp2
        exact Ext.refl _
      case ha => rfl
      apply wpLoose_val rfl rfl
      case hs =>
        intro w1 hC hd Q1 hQ1
        obtain ⟨hE, hS⟩ := hC
        dsimp only [bare]
        obtain ⟨_, q1, q2, q3, c0, c1, c2, c3, c4, c5, c6⟩ := hS; simp only at c0 c1 c2 c3 c4 c5 c6
        clear hd hE
        try clear hS
        go_wp2
        exact Ext.refl _
      case ha => rfl
      apply wpLoose_val rfl rfl
      case hs =>
        intro w1 hC hd Q1 hQ1
        obtain ⟨hE, hS⟩ := hC
        dsimp only [bare]
        obtain ⟨_, q1, q2, q3, c0, c1, c2, c3, c4, c5, c6⟩ := hS; simp only at c0 c1 c2 c3 c4 c5 c6
        clear hd hE
        try clear hS
        go_wp2
        exact Ext.refl _
      case ha => rfl
      apply wpLoose_val rfl rfl
      case hs =>
        intro w1 hC hd Q1 hQ1
        obtain ⟨hE, hS⟩ := hC
        dsimp only [bare]
        obtain ⟨_, q1, q2, q3, c0, c1, c2, c3, c4, c5, c6⟩ := hS; simp only at c0 c1 c2 c3 c4 c5 c6
        clear hd hE
        try clear hS
        go_wp2
        exact Ext.refl _
      case ha => rfl
      apply wpLoose_val rfl rfl
      case hs =>
        intro w1 hC hd Q1 hQ1
        obtain ⟨hE, hS⟩ := hC
        dsimp only [bare]
        obtain ⟨_, q1, q2, q3, c0, c1, c2, c3, c4, c5, c6⟩ := hS; simp only at c0 c1 c2 c3 c4 c5 c6
        clear hd hE
        try clear hS
        go_wp2
        exact Ext.refl _
      case ha => rfl
      apply wpLoose_val rfl rfl
      case hs =>
        intro w1 hC hd Q1 hQ1
        obtain ⟨hE, hS⟩ := hC
        dsimp only [bare]
        obtain ⟨_, q1, q2, q3, c0, c1, c2, c3, c4, c5, c6⟩ := hS; simp only at c0 c1 c2 c3 c4 c5 c6
        clear hd hE
        try clear hS
        go_wp2
        exact Ext.refl _
      case ha => rfl
      apply wpLoose_val rfl rfl
      case hs =>
        intro w1 hC hd Q1 hQ1
        obtain ⟨hE, hS⟩ := hC
        dsimp only [bare]
        obtain ⟨_, q1, q2, q3, c0, c1, c2, c3, c4, c5, c6⟩ := hS; simp only at c0 c1 c2 c3 c4 c5 c6
        clear hd hE
        try clear hS
        go_wp2
        exact Ext.refl _
      case ha => rfl
      apply wpLoose_val rfl rfl
      case hs =>
        intro w1 hC hd Q1 hQ1
        obtain ⟨hE, hS⟩ := hC
        dsimp only [bare]
        obtain ⟨_, q1, q2, q3, c0, c1, c2, c3, c4, c5, c6⟩ := hS; simp only at c0 c1 c2 c3 c4 c5 c6
        clear hd hE
        try clear hS
        go_wp2
        exact Ext.refl _
      case ha => rfl
      apply wpLoose_val rfl rfl
      case hs =>
        intro w1 hC hd Q1 hQ1
        obtain ⟨hE, hS⟩ := hC
        dsimp only [bare]
        obtain ⟨_, q1, q2, q3, c0, c1, c2, c3, c4, c5, c6⟩ := hS; simp only at c0 c1 c2 c3 c4 c5 c6
        clear hd hE
        try clear hS
        go_wp2
        exact Ext.refl _
      case ha => rfl
      apply wpLoose_val rfl rfl
      case hs =>
        intro w1 hC hd Q1 hQ1
        obtain ⟨hE, hS⟩ := hC
        dsimp only [bare]
        obtain ⟨_, q1, q2, q3, c0, c1, c2, c3, c4, c5, c6⟩ := hS; simp only at c0 c1 c2 c3 c4 c5 c6
        clear hd hE
        try clear hS
        go_wp2
        exact Ext.refl _
      case ha => rfl
      apply wpLoose_val rfl rfl
      case hs =>
        intro w1 hC hd Q1 hQ1
        obtain ⟨hE, hS⟩ := hC
        dsimp only [bare]
        obtain ⟨_, q1, q2, q3, c0, c1, c2, c3, c4, c5, c6⟩ := hS; simp only at c0 c1 c2 c3 c4 c5 c6
        clear hd hE
        try clear hS
        go_wp2
        exact Ext.refl _
      case ha => rfl
      apply wpLoose_val rfl rfl
      case hs =>
        intro w1 hC hd Q1 hQ1
        obtain ⟨hE, hS⟩ := hC
        dsimp only [bare]
        obtain ⟨_, q1, q2, q3, c0, c1, c2, c3, c4, c5, c6⟩ := hS; simp only at c0 c1 c2 c3 c4 c5 c6
        clear hd hE
        try clear hS
        go_wp2
        exact Ext.refl _
      case ha => rfl
      apply wpLoose_val rfl rfl
      case hs =>
        intro w1 hC hd Q1 hQ1
        obtain ⟨hE, hS⟩ := hC
        dsimp only [bare]
        clear hd
        go_wp2_with fail
        refine (HSO.out j lab yes no o kk y nn _ hS.1 hjn HP.out).mono ?_
        rintro e w2 ⟨rfl, hb⟩
        go_wp2_with fail
        exact hb
      case ha => rfl
      apply wpLoose_val rfl rfl
      case hs =>
        intro w1 hC hd Q1 hQ1
        obtain ⟨hE, hS⟩ := hC
        dsimp only [bare]
        obtain ⟨_, q1, q2, q3, c0, c1, c2, c3, c4, c5, c6⟩ := hS; simp only at c0 c1 c2 c3 c4 c5 c6
        clear hd hE
        try clear hS
        go_wp2
        exact Ext.refl _
      case ha => rfl
      apply wpLoose_val rfl rfl
      case hs =>
        intro w1 hC hd Q1 hQ1
        obtain ⟨hE, hS⟩ := hC
        dsimp only [bare]
        obtain ⟨_, q1, q2, q3, c0, c1, c2, c3, c4, c5, c6⟩ := hS; simp only at c0 c1 c2 c3 c4 c5 c6
        clear hd hE
        try clear hS
        go_wp2
        exact Ext.refl _
      case ha => rfl
      refine wpLoose_nil ?_
      intro wa hEa hSa hFa
      have HX5 : Hid (PlanP wa ls s B g (j + 1) ∧ Two wa w.heap.size (.map none) (.slice none 0 0) ∧ Two wa bp (.map (some B)) (.slice (some ⟨g, 0, none⟩) (n + 1) (n + 1)) ∧ Ext w wa) :=
        ⟨PlanP.ext (W := wr.drew) HX.out.1 hEa, Two.ext (W := wr.drew) HX.out.2.1 hEa, Two.ext (W := wr.drew) HX.out.2.2.1 hEa, HX.out.2.2.2.drew.trans hEa⟩
      obtain ⟨y0, y1⟩ : (∃ v, wa.cell? ⟨g, j, none⟩ = some (.int .i64 v)) ∧ wa.frozen? ⟨g, j, none⟩ = false := by
        obtain ⟨_, f, r1, _⟩ := HX5.out.1
        have := r1.2 j (by have := HA.out.2.1; omega)
        exact ⟨⟨_, this.1⟩, this.2⟩
      obtain ⟨v0, y0⟩ := y0
      clear hFa hSa hEa x1 hq t6 t7 HX
      go_wp2
      go_roundw
      case rel =>
        refine ⟨j, by go_num, by omega, ?_, HX5.out.2.1.far HG.out.2.1 _, HX5.out.2.2.1.far HG.out.2.2.1 _, Below.setCell HX5.out.2.2.2 (show w.heap.size ≤ g from HG.out.2.2.2.2.1) _⟩
        have := HX5.out.1.step (by have := HA.out.2.1; omega) HG.out.1
        rw [← HU.out] at this
        exact this
      case measure => simp [intOf]
      case hAa => kernel_rfl
      case hla => exact ⟨trivial, trivial, trivial, trivial, trivial, trivial, trivial, trivial, trivial, trivial, trivial, trivial, trivial, trivial, trivial, trivial, trivial, trivial, trivial⟩

end Go.Proofs.Ytakcmiijnckaaaa
