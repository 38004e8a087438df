/- What impl's wordsOf answers: the words of a line. -/
import Derived.Test.YtakcmiijnckaaaaLayMath
import Derived.Deep.Cut
namespace Go.Proofs.Ytakcmiijnckaaaa
open Go.RowKit
set_option linter.unusedVariables false

/-- What the three boxes hold: the plan, the line, the word. -/
def Box3 (W : World) (ls : List Ln) (s : Nat → Nat) (B g n cap b : Nat) (l : Ln) : Prop :=
  PlanP W ls s B g 0 ∧ W.cell? ⟨b, 0, none⟩ = some (.map (some B)) ∧ W.cell? ⟨b, 1, none⟩ = some (.slice (some ⟨g, 0, none⟩) (n + 1) cap) ∧ Hept W (b + 1) 0 l

theorem Box3.ext {W W' : World} {ls : List Ln} {s : Nat → Nat} {B g n cap b : Nat} {l : Ln} (h : Box3 W ls s B g n cap b l) (hE : Ext W W') : Box3 W' ls s B g n cap b l :=
  ⟨h.1.ext hE, (hE.cell (p := ⟨b, 0, none⟩) (World.block_lt_of_cell? _ _ h.2.1)).trans h.2.1, (hE.cell (p := ⟨b, 1, none⟩) (World.block_lt_of_cell? _ _ h.2.2.1)).trans h.2.2.1, h.2.2.2.ext hE⟩

theorem Box3.far {W : World} {ls : List Ln} {s : Nat → Nat} {B g n cap b k i : Nat} {l : Ln} (h : Box3 W ls s B g n cap b l) (v : Value) (h1 : B ≠ k) (h2 : g ≠ k) (h3 : b ≠ k) (h4 : b + 1 ≠ k) : Box3 (W.setCell ⟨k, i, none⟩ v) ls s B g n cap b l := by
  obtain ⟨⟨⟨D, m1, m2⟩, f, r1, r2⟩, c0, c1, ⟨d0, d1, d2, d3, d4, d5, d6⟩⟩ := h
  have hf : ∀ {x : Nat}, x ≠ k → ∀ o, (W.setCell ⟨k, i, none⟩ v).cell? ⟨x, o, none⟩ = W.cell? ⟨x, o, none⟩ := fun hx o => set_far fun e => hx (by injection e)
  exact ⟨⟨⟨D, m1.setCell (a := ⟨k, i, none⟩) h1 _, m2⟩, f, r1.far h2 _, r2⟩, (hf h3 _).trans c0, (hf h3 _).trans c1, (hf h4 _).trans d0, (hf h4 _).trans d1, (hf h4 _).trans d2, (hf h4 _).trans d3, (hf h4 _).trans d4, (hf h4 _).trans d5, (hf h4 _).trans d6⟩

theorem Quad.put {W : World} {b i : Nat} {p q : Wd} (h : Quad W b 0 p) (v : Int) (hq : q = (if i = 0 then v else p.1, if i = 1 then v else p.2.1, if i = 2 then v else p.2.2.1, if i = 3 then v else p.2.2.2)) : Quad (W.setCell ⟨b, i, none⟩ (.int .i64 v)) b 0 q := by
  obtain ⟨h0, h1, h2, h3⟩ := h
  simp only [Nat.zero_add] at h0 h1 h2 h3
  subst hq
  refine ⟨?_, ?_, ?_, ?_⟩
  · rw [cell_set W b i 0 _ _ h0]; by_cases e : i = 0
    · subst e; rfl
    · rw [if_neg (Ne.symm e)]; simp only [if_neg e]
  · rw [cell_set W b i 1 _ _ h1]; by_cases e : i = 1
    · subst e; rfl
    · rw [if_neg (Ne.symm e)]; simp only [if_neg e]
  · rw [cell_set W b i 2 _ _ h2]; by_cases e : i = 2
    · subst e; rfl
    · rw [if_neg (Ne.symm e)]; simp only [if_neg e]
  · rw [cell_set W b i 3 _ _ h3]; by_cases e : i = 3
    · subst e; rfl
    · rw [if_neg (Ne.symm e)]; simp only [if_neg e]

/-- No words, or a row of them from a block's head on. -/
def WordsV (W : World) (v : Value) (ws : List Wd) : Prop := (ws = [] ∧ v = .slice none 0 0) ∨ ∃ g c, v = .slice (some ⟨g, 0, none⟩) ws.length c ∧ ws ≠ [] ∧ Words W (some ⟨g, 0, none⟩) ws

set_option maxRecDepth 100000 in
set_option maxHeartbeats 8000000 in
theorem wordsOf_any (ls : List Ln) (s : Nat → Nat) (B g cap i : Nat) (lab yes no : ByteArray) (o kk y nn : Int) (w : World) (hl : linesP ls) (hs : sizesP ls s) (h : PlanP w ls s B g 0) (hi : i < ls.length) (hp : Ln.mk lab (o, kk, y, nn) yes no = ls.getD i zeroL) (ht : yes.size ≤ 1048576 ∧ no.size ≤ 1048576) :
    Calls Try.prog 40 #[.agg #[.map (some B), .slice (some ⟨g, 0, none⟩) (ls.length + 1) cap], .int .i64 (i : Int), .agg #[.string lab, .int .i64 o, .int .i64 kk, .int .i64 y, .int .i64 nn, .string yes, .string no]] w fun e w' => ∃ u, e = .returned u ∧ WordsV w' u (wordsL ls s i) ∧ Ext w w' := by
  obtain ⟨n, hn⟩ : ∃ n, n = ls.length := ⟨_, rfl⟩
  have HOV : Hid (∀ (lb : ByteArray) (w1 : World), onP ls i lb → lb.size ≤ 1048576 → PlanP w1 ls s B g 0 → Calls Try.prog 71 #[.agg #[.map (some B), .slice (some ⟨g, 0, none⟩) (n + 1) cap], .int .i64 (i : Int), .string lb] w1 fun e w' => e = .returned (.int .i64 (overL ls s i lb : Nat)) ∧ Ext w1 w') := fun lb w1 h1 h2 h3 => by rw [hn]; exact over_any ls s B g 0 cap i lb w1 hl hs h3 (Nat.zero_le _) h1 h2
  have hW : ∃ ws, ws = wordsL ls s i := ⟨_, rfl⟩
  obtain ⟨ws, hws⟩ := hW
  rw [← hws, ← hn]
  have HWS : Hid (ws = wordsL ls s i) := hws
  have hc := size_cases hs hi
  have hoy := over_le hs hl i yes
  have hon' := over_le hs hl i no
  have HH : Hid (linesP ls ∧ sizesP ls s ∧ i < ls.length ∧ n = ls.length ∧ Ln.mk lab (o, kk, y, nn) yes no = ls.getD i zeroL ∧ yes.size ≤ 1048576 ∧ no.size ≤ 1048576) := ⟨hl, hs, hi, hn, hp, ht⟩
  obtain ⟨W, hW⟩ : ∃ W, W = (((w.alloc (.cells #[.map (some B), .slice (some ⟨g, 0, none⟩) (n + 1) cap] 61)).alloc (.cells #[.string lab, .int .i64 o, .int .i64 kk, .int .i64 y, .int .i64 nn, .string yes, .string no] 37)).alloc (.cells #[.int .i64 o, .int .i64 kk, .int .i64 y, .int .i64 nn] 35)) := ⟨_, rfl⟩
  have hx : Ext w W := by rw [hW]; exact ((Ext.one _ _).alloc _).alloc _
  have HB : Hid (Box3 W ls s B g n cap w.heap.size ⟨lab, (o, kk, y, nn), yes, no⟩ ∧ Quad W (w.heap.size + 2) 0 (o, kk, y, nn) ∧ (∀ j, W.frozen? ⟨w.heap.size + 2, j, none⟩ = false) ∧ Ext w W) := by
    refine ⟨⟨h.ext hx, ?_, ?_, ?_⟩, ?_, ?_, hx⟩
    · rw [hW]; simp [go_sem]
    · rw [hW]; simp [go_sem]
    · have := (hept_box (w.alloc (.cells #[.map (some B), .slice (some ⟨g, 0, none⟩) (n + 1) cap] 61)) ⟨lab, (o, kk, y, nn), yes, no⟩ 37).ext (Ext.one _ (.cells #[.int .i64 o, .int .i64 kk, .int .i64 y, .int .i64 nn] 35))
      rw [hW]
      simpa using this
    · rw [hW]
      exact ⟨by simp [go_sem], by simp [go_sem], by simp [go_sem], by simp [go_sem]⟩
    · rw [hW]
      intro j
      simp [go_sem]
  have HLT : Hid (B < w.heap.size ∧ g < w.heap.size) := by
    obtain ⟨hm, f, hr, _⟩ := h
    exact ⟨hm.lt, hr.1⟩
  obtain ⟨u, v, x1, x2, huv, hu1, hu2, hv1, hv2⟩ : ∃ u v, W.cell? ⟨g, i, none⟩ = some (.int .i64 u) ∧ W.cell? ⟨g, i + 1, none⟩ = some (.int .i64 v) ∧ u - v = (s i : Int) ∧ -1800 ≤ u ∧ u ≤ 1800 ∧ -1800 ≤ v ∧ v ≤ 1800 := by
    obtain ⟨_, f, r1, r2⟩ := HB.out.1.1
    have h6 := hl.1.2
    refine ⟨_, _, (r1.2 i (by omega)).1, (r1.2 (i + 1) (by omega)).1, ?_⟩
    rw [r2 i (by omega) (by omega), r2 (i + 1) (by omega) (by omega)]
    have h1 := cnt_le hs (n := ls.length) (Nat.le_refl _)
    have h2 := cnt_le hs (n := i + 1) (by omega)
    have h3 : cnt s (i + 1) = cnt s i + s i := rfl
    omega
  have hn6 : n ≤ 600 := by have := hl.1.2; omega
  have bi : (i : Int) < (n : Int) + 1 := by omega
  have bi1 : (i : Int) + 1 < (n : Int) + 1 := by omega
  have z1 := HB.out.1.2.1
  have z2 := HB.out.1.2.2.1
  generalize hsv : s i = v0 at *
  have HSV : Hid (s i = v0) := hsv
  clear hsv
  clear h hl hs hi hp ht hn hws
  go_enter Try.func40, Try.ntmps40
  go_upto_region 2 with fail
  rw [← hW]
  clear hW hx
  go_wp2_with fail
  refine' wp_region_loose (.inl _ :: .inl _ :: .inl _ :: .inl _ :: .inl _ :: .inl _ :: .inl _ :: .inl _ :: .inl _ :: .inl _ :: .inl _ :: .inl _ :: .inl _ :: []) (fun w' => w'.cell? ⟨w.heap.size, 0, none⟩ = some (.map (some B)) ∧ w'.cell? ⟨w.heap.size, 1, none⟩ = some (.slice (some ⟨g, 0, none⟩) (n + 1) cap) ∧ w'.cell? ⟨g, i, none⟩ = some (.int .i64 u) ∧ w'.cell? ⟨g, i + 1, none⟩ = some (.int .i64 v)) (by kernel_rfl) (by kernel_rfl) (⟨z1, z2, x1, x2⟩) (fun _ _ h hE => ⟨(hE.cell (p := ⟨w.heap.size, 0, none⟩) (World.block_lt_of_cell? _ _ h.1)).trans h.1, (hE.cell (p := ⟨w.heap.size, 1, none⟩) (World.block_lt_of_cell? _ _ h.2.1)).trans h.2.1, (hE.cell (p := ⟨g, i, none⟩) (World.block_lt_of_cell? _ _ h.2.2.1)).trans h.2.2.1, (hE.cell (p := ⟨g, i + 1, none⟩) (World.block_lt_of_cell? _ _ h.2.2.2)).trans h.2.2.2⟩) ?hAa ?hla ?hMa
  case' hMa => skip
  apply wpLoose_val rfl rfl
  case hs =>
    intro w1 hC hd Q1 hQ1
    obtain ⟨hE, hS⟩ := hC
    dsimp only [bare]
    obtain ⟨q1, q2, q3, q4⟩ := hS
    clear hd hE
    try clear hS
    go_wp2
    exact Ext.refl _
  case ha => rfl
  apply wpLoose_val rfl rfl
  case hs =>
    intro w1 hC hd Q1 hQ1
    obtain ⟨hE, hS⟩ := hC
    dsimp only [bare]
    obtain ⟨q1, q2, q3, q4⟩ := hS
    clear hd hE
    try clear hS
    go_wp2
    exact Ext.refl _
  case ha => rfl
  apply wpLoose_val rfl rfl
  case hs =>
    intro w1 hC hd Q1 hQ1
    obtain ⟨hE, hS⟩ := hC
    dsimp only [bare]
    obtain ⟨q1, q2, q3, q4⟩ := hS
    clear hd hE
    try clear hS
    go_wp2
    exact Ext.refl _
  case ha => rfl
  apply wpLoose_val rfl rfl
  case hs =>
    intro w1 hC hd Q1 hQ1
    obtain ⟨hE, hS⟩ := hC
    dsimp only [bare]
    obtain ⟨q1, q2, q3, q4⟩ := hS
    clear hd hE
    try clear hS
    go_wp2
    exact Ext.refl _
  case ha => rfl
  apply wpLoose_val rfl rfl
  case hs =>
    intro w1 hC hd Q1 hQ1
    obtain ⟨hE, hS⟩ := hC
    dsimp only [bare]
    obtain ⟨q1, q2, q3, q4⟩ := hS
    clear hd hE
    try clear hS
    go_wp2
    exact Ext.refl _
  case ha => rfl
  apply wpLoose_val rfl rfl
  case hs =>
    intro w1 hC hd Q1 hQ1
    obtain ⟨hE, hS⟩ := hC
    dsimp only [bare]
    obtain ⟨q1, q2, q3, q4⟩ := hS
    clear hd hE
    try clear hS
    go_wp2
    exact Ext.refl _
  case ha => rfl
  apply wpLoose_val rfl rfl
  case hs =>
    intro w1 hC hd Q1 hQ1
    obtain ⟨hE, hS⟩ := hC
    dsimp only [bare]
    obtain ⟨q1, q2, q3, q4⟩ := hS
    clear hd hE
    try clear hS
    go_wp2
    exact Ext.refl _
  case ha => rfl
  apply wpLoose_val rfl rfl
  case hs =>
    intro w1 hC hd Q1 hQ1
    obtain ⟨hE, hS⟩ := hC
    dsimp only [bare]
    obtain ⟨q1, q2, q3, q4⟩ := hS
    clear hd hE
    try clear hS
    go_wp2
    exact Ext.refl _
  case ha => rfl
  apply wpLoose_val rfl rfl
  case hs =>
    intro w1 hC hd Q1 hQ1
    obtain ⟨hE, hS⟩ := hC
    dsimp only [bare]
    obtain ⟨q1, q2, q3, q4⟩ := hS
    clear hd hE
    try clear hS
    go_wp2
    exact Ext.refl _
  case ha => rfl
  apply wpLoose_val rfl rfl
  case hs =>
    intro w1 hC hd Q1 hQ1
    obtain ⟨hE, hS⟩ := hC
    dsimp only [bare]
    obtain ⟨q1, q2, q3, q4⟩ := hS
    clear hd hE
    try clear hS
    go_wp2
    exact Ext.refl _
  case ha => rfl
  apply wpLoose_val rfl rfl
  case hs =>
    intro w1 hC hd Q1 hQ1
    obtain ⟨hE, hS⟩ := hC
    dsimp only [bare]
    obtain ⟨q1, q2, q3, q4⟩ := hS
    clear hd hE
    try clear hS
    go_wp2
    exact Ext.refl _
  case ha => rfl
  apply wpLoose_val rfl rfl
  case hs =>
    intro w1 hC hd Q1 hQ1
    obtain ⟨hE, hS⟩ := hC
    dsimp only [bare]
    obtain ⟨q1, q2, q3, q4⟩ := hS
    clear hd hE
    try clear hS
    go_wp2
    exact Ext.refl _
  case ha => rfl
  apply wpLoose_val rfl rfl
  case hs =>
    intro w1 hC hd Q1 hQ1
    obtain ⟨hE, hS⟩ := hC
    dsimp only [bare]
    obtain ⟨q1, q2, q3, q4⟩ := hS
    clear hd hE
    try clear hS
    go_wp2
    exact Ext.refl _
  case ha => rfl
  refine wpLoose_nil ?_
  intro wa hEa hSa hFa
  have HB2 : Hid (Box3 wa ls s B g n cap w.heap.size ⟨lab, (o, kk, y, nn), yes, no⟩ ∧ Quad wa (w.heap.size + 2) 0 (o, kk, y, nn) ∧ (∀ j, wa.frozen? ⟨w.heap.size + 2, j, none⟩ = false) ∧ Ext w wa) := by
    obtain ⟨h1, h2, h3, h4⟩ := HB.out
    exact ⟨Box3.ext (W := W.drew) h1 hEa, Quad.below (w := W.drew) h2 hEa h2.lt, fun j => (hEa.frozen (p := ⟨w.heap.size + 2, j, none⟩) h2.lt).trans (h3 j), h4.drew.trans hEa⟩
  clear hFa hSa hEa x1 x2 z1 z2 HB
  rcases hc with rfl | rfl | rfl
  · have HW : Hid (ws = []) := by
      show _ = _
      rw [HWS.out]
      unfold wordsL
      rw [if_pos HSV.out]
    have HX : Hid (Ext w wa) := HB2.out.2.2.2
    clear HB2 HOV
    go_wp2
    go_ret
    exact ⟨_, rfl, .inl ⟨HW.out, rfl⟩, HX.out⟩
  · obtain ⟨z, hz⟩ : ∃ z, z = askB o := ⟨_, rfl⟩
    have HQI : Hid (∀ w, Calls Try.prog 72 #[.agg #[.string lab, .int .i64 o, .int .i64 kk, .int .i64 y, .int .i64 nn, .string yes, .string no]] w fun e w' => e = .returned (.bool z) ∧ Ext w w') := fun w => by rw [hz]; exact iAsk_any ⟨lab, (o, kk, y, nn), yes, no⟩ w
    obtain ⟨⟨_, _, _, t0, t1, t2, t3, t4, t5, t6⟩, _, _, _⟩ := HB2.out
    simp only [Nat.zero_add] at t0 t1 t2 t3 t4 t5 t6
    go_wp2_with fail
    refine (HQI.out _).mono ?_
    rintro e w4 ⟨rfl, e4⟩
    have HB4 : Hid (Box3 w4 ls s B g n cap w.heap.size ⟨lab, (o, kk, y, nn), yes, no⟩ ∧ Quad w4 (w.heap.size + 2) 0 (o, kk, y, nn) ∧ (∀ j, w4.frozen? ⟨w.heap.size + 2, j, none⟩ = false) ∧ Ext w w4) := by
      obtain ⟨h1, h2, h3, h4⟩ := HB2.out
      exact ⟨h1.ext e4, h2.below e4 h2.lt, fun j => (e4.frozen (p := ⟨w.heap.size + 2, j, none⟩) h2.lt).trans (h3 j), h4.trans e4⟩
    clear e4 HB2 HQI t0 t1 t2 t3 t4 t5 t6
    cases z with
    | true =>
      have HQ : Hid (onP ls i yes ∧ onP ls i no ∧ ws = [(o, kk, (overL ls s i yes : Int), (overL ls s i no : Int))]) := by
        obtain ⟨hl, hs, hi, hn, hp, ht1, ht2⟩ := HH.out
        have ha : askP (ls.getD i zeroL).wd.1 := by rw [← hp]; exact askB_true.1 hz.symm
        have hon := ask_on hl hi ha
        rw [← hp] at hon
        refine ⟨hon.1, hon.2, ?_⟩
        rw [HWS.out]
        unfold wordsL
        rw [if_neg (by rw [HSV.out]; decide), if_neg (by rw [HSV.out]; decide), ← hp, if_pos hz.symm]
      have HO1 : Hid (∀ w1, PlanP w1 ls s B g 0 → Calls Try.prog 71 #[.agg #[.map (some B), .slice (some ⟨g, 0, none⟩) (n + 1) cap], .int .i64 (i : Int), .string yes] w1 fun e w' => e = .returned (.int .i64 (overL ls s i yes : Nat)) ∧ Ext w1 w') := fun w1 h1 => HOV.out yes w1 HQ.out.1 HH.out.2.2.2.2.2.1 h1
      have HO2 : Hid (∀ w1, PlanP w1 ls s B g 0 → Calls Try.prog 71 #[.agg #[.map (some B), .slice (some ⟨g, 0, none⟩) (n + 1) cap], .int .i64 (i : Int), .string no] w1 fun e w' => e = .returned (.int .i64 (overL ls s i no : Nat)) ∧ Ext w1 w') := fun w1 h1 => HOV.out no w1 HQ.out.2.1 HH.out.2.2.2.2.2.2 h1
      have HWW : Hid (ws = [(o, kk, (overL ls s i yes : Int), (overL ls s i no : Int))]) := HQ.out.2.2
      clear HOV HQ hz
      generalize overL ls s i yes = c1 at *
      generalize overL ls s i no = c2 at *
      go_wp2_with fail
      refine' wp_region_loose_tail 11 (.inl _ :: .inl _ :: .inl _ :: .inl _ :: .inl _ :: .inl _ :: .inl _ :: .inl _ :: .inl _ :: .inl _ :: .inl _ :: []) (fun w' => Box3 w' ls s B g n cap w.heap.size ⟨lab, (o, kk, y, nn), yes, no⟩ ∧ Quad w' (w.heap.size + 2) 0 (o, kk, y, nn)) (by kernel_rfl) (by kernel_rfl) (⟨HB4.out.1, HB4.out.2.1⟩) (fun _ _ h hE => ⟨h.1.ext hE, h.2.below hE h.2.lt⟩) ?hAc ?hlc ?hMc
      case' hMc => skip
      simp only [List.take_succ_cons, List.take_zero, List.drop_succ_cons, List.drop_zero]
      apply wpLoose_val rfl rfl
      case hs =>
        intro w1 hC hd Q1 hQ1
        obtain ⟨hE, hS⟩ := hC
        dsimp only [bare]
        obtain ⟨⟨_, q1, q2, t0, t1, t2, t3, t4, t5, t6⟩, r0, r1, r2, r3⟩ := hS; simp only [Nat.zero_add] at t0 t1 t2 t3 t4 t5 t6 r0 r1 r2 r3
        clear hd hE
        try clear hS
        go_wp2
        exact Ext.refl _
      case ha => rfl
      apply wpLoose_val rfl rfl
      case hs =>
        intro w1 hC hd Q1 hQ1
        obtain ⟨hE, hS⟩ := hC
        dsimp only [bare]
        obtain ⟨⟨_, q1, q2, t0, t1, t2, t3, t4, t5, t6⟩, r0, r1, r2, r3⟩ := hS; simp only [Nat.zero_add] at t0 t1 t2 t3 t4 t5 t6 r0 r1 r2 r3
        clear hd hE
        try clear hS
        go_wp2
        exact Ext.refl _
      case ha => rfl
      apply wpLoose_val rfl rfl
      case hs =>
        intro w1 hC hd Q1 hQ1
        obtain ⟨hE, hS⟩ := hC
        dsimp only [bare]
        obtain ⟨⟨_, q1, q2, t0, t1, t2, t3, t4, t5, t6⟩, r0, r1, r2, r3⟩ := hS; simp only [Nat.zero_add] at t0 t1 t2 t3 t4 t5 t6 r0 r1 r2 r3
        clear hd hE
        try clear hS
        go_wp2
        exact Ext.refl _
      case ha => rfl
      apply wpLoose_val rfl rfl
      case hs =>
        intro w1 hC hd Q1 hQ1
        obtain ⟨hE, hS⟩ := hC
        dsimp only [bare]
        obtain ⟨⟨_, q1, q2, t0, t1, t2, t3, t4, t5, t6⟩, r0, r1, r2, r3⟩ := hS; simp only [Nat.zero_add] at t0 t1 t2 t3 t4 t5 t6 r0 r1 r2 r3
        clear hd hE
        try clear hS
        go_wp2
        exact Ext.refl _
      case ha => rfl
      apply wpLoose_val rfl rfl
      case hs =>
        intro w1 hC hd Q1 hQ1
        obtain ⟨hE, hS⟩ := hC
        dsimp only [bare]
        clear hd
        go_wp2_with fail
        refine (HO1.out _ hS.1.1).mono ?_
        rintro e w2 ⟨rfl, hb⟩
        go_wp2_with fail
        exact hb
      case ha => rfl
      apply wpLoose_val rfl rfl
      case hs =>
        intro w1 hC hd Q1 hQ1
        obtain ⟨hE, hS⟩ := hC
        dsimp only [bare]
        obtain ⟨⟨_, q1, q2, t0, t1, t2, t3, t4, t5, t6⟩, r0, r1, r2, r3⟩ := hS; simp only [Nat.zero_add] at t0 t1 t2 t3 t4 t5 t6 r0 r1 r2 r3
        clear hd hE
        try clear hS
        go_wp2
        exact Ext.refl _
      case ha => rfl
      apply wpLoose_val rfl rfl
      case hs =>
        intro w1 hC hd Q1 hQ1
        obtain ⟨hE, hS⟩ := hC
        dsimp only [bare]
        obtain ⟨⟨_, q1, q2, t0, t1, t2, t3, t4, t5, t6⟩, r0, r1, r2, r3⟩ := hS; simp only [Nat.zero_add] at t0 t1 t2 t3 t4 t5 t6 r0 r1 r2 r3
        clear hd hE
        try clear hS
        go_wp2
        exact Ext.refl _
      case ha => rfl
      apply wpLoose_val rfl rfl
      case hs =>
        intro w1 hC hd Q1 hQ1
        obtain ⟨hE, hS⟩ := hC
        dsimp only [bare]
        obtain ⟨⟨_, q1, q2, t0, t1, t2, t3, t4, t5, t6⟩, r0, r1, r2, r3⟩ := hS; simp only [Nat.zero_add] at t0 t1 t2 t3 t4 t5 t6 r0 r1 r2 r3
        clear hd hE
        try clear hS
        go_wp2
        exact Ext.refl _
      case ha => rfl
      apply wpLoose_val rfl rfl
      case hs =>
        intro w1 hC hd Q1 hQ1
        obtain ⟨hE, hS⟩ := hC
        dsimp only [bare]
        obtain ⟨⟨_, q1, q2, t0, t1, t2, t3, t4, t5, t6⟩, r0, r1, r2, r3⟩ := hS; simp only [Nat.zero_add] at t0 t1 t2 t3 t4 t5 t6 r0 r1 r2 r3
        clear hd hE
        try clear hS
        go_wp2
        exact Ext.refl _
      case ha => rfl
      apply wpLoose_val rfl rfl
      case hs =>
        intro w1 hC hd Q1 hQ1
        obtain ⟨hE, hS⟩ := hC
        dsimp only [bare]
        clear hd
        go_wp2_with fail
        refine (HO2.out _ hS.1.1).mono ?_
        rintro e w2 ⟨rfl, hb⟩
        go_wp2_with fail
        exact hb
      case ha => rfl
      apply wpLoose_val rfl rfl
      case hs =>
        intro w1 hC hd Q1 hQ1
        obtain ⟨hE, hS⟩ := hC
        dsimp only [bare]
        obtain ⟨⟨_, q1, q2, t0, t1, t2, t3, t4, t5, t6⟩, r0, r1, r2, r3⟩ := hS; simp only [Nat.zero_add] at t0 t1 t2 t3 t4 t5 t6 r0 r1 r2 r3
        clear hd hE
        try clear hS
        go_wp2
        exact Ext.refl _
      case ha => rfl
      refine wpLoose_nil ?_
      intro wc hEc hSc hFc
      have HX : Hid (Ext w wc ∧ Quad wc (w.heap.size + 2) 0 (o, kk, y, nn) ∧ ∀ j, wc.frozen? ⟨w.heap.size + 2, j, none⟩ = false) := ⟨HB4.out.2.2.2.drew.trans hEc, Quad.below (w := w4.drew) HB4.out.2.1 hEc HB4.out.2.1.lt, fun j => (hEc.frozen (p := ⟨w.heap.size + 2, j, none⟩) HB4.out.2.1.lt).trans (HB4.out.2.2.1 j)⟩
      obtain ⟨_, ⟨p0, p1, p2, p3⟩, fz⟩ := HX.out
      simp only [Nat.zero_add] at p0 p1 p2 p3
      have f2 := fz 2
      have f3 := fz 3
      clear fz hFc hSc hEc HB4
      go_wp2
      go_ret
      refine ⟨_, rfl, .inr ⟨wc.heap.size, 1, by rw [HWW.out]; rfl, by rw [HWW.out]; simp, ?_⟩, ?_⟩
      · rw [HWW.out]
        intro _
        refine ⟨wc.heap.size, 0, rfl, fun j hj => ?_⟩
        obtain rfl : j = 0 := by simp at hj; omega
        exact ⟨by simp [go_sem], by simp [go_sem], by simp [go_sem], by simp [go_sem]⟩
      · exact (Below.setCell (Below.setCell HX.out.1 (show w.heap.size ≤ w.heap.size + 2 by omega) _) (show w.heap.size ≤ w.heap.size + 2 by omega) _).alloc (by simp only [World.size_setCell]; exact HX.out.1.size) _
      case hAc => kernel_rfl
      case hlc => exact ⟨trivial, trivial, trivial, trivial, trivial, trivial, trivial, trivial, trivial, trivial, trivial, trivial⟩
    | false =>
      obtain ⟨⟨_, z1, z2, t0, t1, t2, t3, t4, t5, t6⟩, ⟨p0, p1, p2, p3⟩, fz, _⟩ := HB4.out
      simp only [Nat.zero_add] at t0 t1 t2 t3 t4 t5 t6 p0 p1 p2 p3
      by_cases h7 : o = 7
      · have HQ : Hid (onP ls i yes ∧ ws = [(o, (overL ls s i yes : Int), y, nn)]) := by
          obtain ⟨hl, hs, hi, hn, hp, ht1, ht2⟩ := HH.out
          have hon := jump_on hl hi (by rw [← hp]; exact h7)
          rw [← hp] at hon
          refine ⟨hon, ?_⟩
          rw [HWS.out]
          unfold wordsL
          rw [if_neg (by rw [HSV.out]; decide), if_neg (by rw [HSV.out]; decide), ← hp, if_neg (by rw [← hz]; decide), if_pos h7]
        have HO1 : Hid (∀ w1, PlanP w1 ls s B g 0 → Calls Try.prog 71 #[.agg #[.map (some B), .slice (some ⟨g, 0, none⟩) (n + 1) cap], .int .i64 (i : Int), .string yes] w1 fun e w' => e = .returned (.int .i64 (overL ls s i yes : Nat)) ∧ Ext w1 w') := fun w1 h1 => HOV.out yes w1 HQ.out.1 HH.out.2.2.2.2.2.1 h1
        have HWW : Hid (ws = [(o, (overL ls s i yes : Int), y, nn)]) := HQ.out.2
        clear HOV HQ hz
        generalize overL ls s i yes = c1 at *
        subst h7
        go_wp2_with fail
        refine (HO1.out _ HB4.out.1.1).mono ?_
        rintro e w5 ⟨rfl, e5⟩
        have HX : Hid (Ext w w5 ∧ Quad w5 (w.heap.size + 2) 0 (7, kk, y, nn) ∧ ∀ j, w5.frozen? ⟨w.heap.size + 2, j, none⟩ = false) := ⟨HB4.out.2.2.2.trans e5, HB4.out.2.1.below e5 HB4.out.2.1.lt, fun j => (e5.frozen (p := ⟨w.heap.size + 2, j, none⟩) HB4.out.2.1.lt).trans (HB4.out.2.2.1 j)⟩
        clear t0 t1 t2 t3 t4 t5 t6 p0 p1 p2 p3 fz e5 HB4 z1 z2
        obtain ⟨_, ⟨p0, p1, p2, p3⟩, fz⟩ := HX.out
        simp only [Nat.zero_add] at p0 p1 p2 p3
        have f1 := fz 1
        clear fz
        go_wp2
        go_ret
        refine ⟨_, rfl, .inr ⟨w5.heap.size, 1, by rw [HWW.out]; rfl, by rw [HWW.out]; simp, ?_⟩, ?_⟩
        · rw [HWW.out]
          intro _
          refine ⟨w5.heap.size, 0, rfl, fun j hj => ?_⟩
          obtain rfl : j = 0 := by simp at hj; omega
          exact ⟨by simp [go_sem], by simp [go_sem], by simp [go_sem], by simp [go_sem]⟩
        · exact (Below.setCell HX.out.1 (show w.heap.size ≤ w.heap.size + 2 by omega) _).alloc (by simp only [World.size_setCell]; exact HX.out.1.size) _
      · have q7 : (o == 7) = false := by simpa using h7
        have HWW : Hid (ws = [(o, kk, y, nn)]) := by
          obtain ⟨hl, hs, hi, hn, hp, ht1, ht2⟩ := HH.out
          show _ = _
          rw [HWS.out]
          unfold wordsL
          rw [if_neg (by rw [HSV.out]; decide), if_neg (by rw [HSV.out]; decide), ← hp, if_neg (by rw [← hz]; decide), if_neg h7]
        have HX : Hid (Ext w w4) := HB4.out.2.2.2
        clear HOV hz h7 fz HB4
        go_wp2
        go_ret
        refine ⟨_, rfl, .inr ⟨w4.heap.size, 1, by rw [HWW.out]; rfl, by rw [HWW.out]; simp, ?_⟩, HX.out.alloc _⟩
        rw [HWW.out]
        intro _
        refine ⟨w4.heap.size, 0, rfl, fun j hj => ?_⟩
        obtain rfl : j = 0 := by simp at hj; omega
        exact ⟨by simp [go_sem], by simp [go_sem], by simp [go_sem], by simp [go_sem]⟩
  · have HQ : Hid (onP ls i yes ∧ onP ls i no ∧ ws = [(o, kk, 0, 1), (7, 1 + (overL ls s i yes : Int), 0, 0), (7, (overL ls s i no : Int), 0, 0)]) := by
      obtain ⟨hl, hs, hi, hn, hp, ht1, ht2⟩ := HH.out
      have ha : askP (ls.getD i zeroL).wd.1 := by
        have h3 := HSV.out
        rcases hs i hi with ⟨_, h⟩ | ⟨h, _⟩ | ⟨h, _⟩ | ⟨_, _, h⟩
        · omega
        · exact h
        · exact h
        · omega
      have hon := ask_on hl hi ha
      rw [← hp] at hon
      refine ⟨hon.1, hon.2, ?_⟩
      rw [HWS.out]
      unfold wordsL
      rw [if_neg (by rw [HSV.out]; decide), if_pos HSV.out, ← hp]
    have HO1 : Hid (∀ w1, PlanP w1 ls s B g 0 → Calls Try.prog 71 #[.agg #[.map (some B), .slice (some ⟨g, 0, none⟩) (n + 1) cap], .int .i64 (i : Int), .string yes] w1 fun e w' => e = .returned (.int .i64 (overL ls s i yes : Nat)) ∧ Ext w1 w') := fun w1 h1 => HOV.out yes w1 HQ.out.1 HH.out.2.2.2.2.2.1 h1
    have HO2 : Hid (∀ w1, PlanP w1 ls s B g 0 → Calls Try.prog 71 #[.agg #[.map (some B), .slice (some ⟨g, 0, none⟩) (n + 1) cap], .int .i64 (i : Int), .string no] w1 fun e w' => e = .returned (.int .i64 (overL ls s i no : Nat)) ∧ Ext w1 w') := fun w1 h1 => HOV.out no w1 HQ.out.2.1 HH.out.2.2.2.2.2.2 h1
    have HWW : Hid (ws = [(o, kk, 0, 1), (7, 1 + (overL ls s i yes : Int), 0, 0), (7, (overL ls s i no : Int), 0, 0)]) := HQ.out.2.2
    clear HOV HQ
    generalize overL ls s i yes = c1 at *
    generalize overL ls s i no = c2 at *
    obtain ⟨_, ⟨p0, p1, p2, p3⟩, fz, _⟩ := HB2.out
    simp only [Nat.zero_add] at p0 p1 p2 p3
    have f2 := fz 2
    have f3 := fz 3
    clear fz
    go_upto_region 7 with fail
    have HB3 : Hid (Box3 ((wa.setCell ⟨w.heap.size + 2, 2, none⟩ (.int .i64 0)).setCell ⟨w.heap.size + 2, 3, none⟩ (.int .i64 1)) ls s B g n cap w.heap.size ⟨lab, (o, kk, y, nn), yes, no⟩ ∧ Quad ((wa.setCell ⟨w.heap.size + 2, 2, none⟩ (.int .i64 0)).setCell ⟨w.heap.size + 2, 3, none⟩ (.int .i64 1)) (w.heap.size + 2) 0 (o, kk, 0, 1) ∧ Ext w ((wa.setCell ⟨w.heap.size + 2, 2, none⟩ (.int .i64 0)).setCell ⟨w.heap.size + 2, 3, none⟩ (.int .i64 1))) := by
      obtain ⟨h1, h2, h3, h4⟩ := HB2.out
      have := HLT.out
      exact ⟨(h1.far _ (by omega) (by omega) (by omega) (by omega)).far _ (by omega) (by omega) (by omega) (by omega), (h2.put (q := (o, kk, 0, nn)) 0 rfl).put 1 rfl, Below.setCell (Below.setCell h4 (show w.heap.size ≤ w.heap.size + 2 by omega) _) (show w.heap.size ≤ w.heap.size + 2 by omega) _⟩
    clear p0 p1 p2 p3 f2 f3 HB2
    generalize (wa.setCell ⟨w.heap.size + 2, 2, none⟩ (.int .i64 0)).setCell ⟨w.heap.size + 2, 3, none⟩ (.int .i64 1) = W6 at *
    refine' wp_region_loose_tail 14 (.inl _ :: .inl _ :: .inl _ :: .inl _ :: .inl _ :: .inl _ :: .inl _ :: .inl _ :: .inl _ :: .inl _ :: .inl _ :: .inl _ :: .inl _ :: .inl _ :: []) (fun w' => Box3 w' ls s B g n cap w.heap.size ⟨lab, (o, kk, y, nn), yes, no⟩ ∧ Quad w' (w.heap.size + 2) 0 (o, kk, 0, 1)) (by kernel_rfl) (by kernel_rfl) (⟨HB3.out.1, HB3.out.2.1⟩) (fun _ _ h hE => ⟨h.1.ext hE, h.2.below hE h.2.lt⟩) ?hAb ?hlb ?hMb
    case' hMb => skip
    simp only [List.take_succ_cons, List.take_zero, List.drop_succ_cons, List.drop_zero]
    apply wpLoose_val rfl rfl
    case hs =>
      intro w1 hC hd Q1 hQ1
      obtain ⟨hE, hS⟩ := hC
      dsimp only [bare]
      obtain ⟨⟨_, q1, q2, t0, t1, t2, t3, t4, t5, t6⟩, r0, r1, r2, r3⟩ := hS; simp only [Nat.zero_add] at t0 t1 t2 t3 t4 t5 t6 r0 r1 r2 r3
      clear hd hE
      try clear hS
      go_wp2
      exact Ext.refl _
    case ha => rfl
    apply wpLoose_val rfl rfl
    case hs =>
      intro w1 hC hd Q1 hQ1
      obtain ⟨hE, hS⟩ := hC
      dsimp only [bare]
      obtain ⟨⟨_, q1, q2, t0, t1, t2, t3, t4, t5, t6⟩, r0, r1, r2, r3⟩ := hS; simp only [Nat.zero_add] at t0 t1 t2 t3 t4 t5 t6 r0 r1 r2 r3
      clear hd hE
      try clear hS
      go_wp2
      exact Ext.refl _
    case ha => rfl
    apply wpLoose_val rfl rfl
    case hs =>
      intro w1 hC hd Q1 hQ1
      obtain ⟨hE, hS⟩ := hC
      dsimp only [bare]
      obtain ⟨⟨_, q1, q2, t0, t1, t2, t3, t4, t5, t6⟩, r0, r1, r2, r3⟩ := hS; simp only [Nat.zero_add] at t0 t1 t2 t3 t4 t5 t6 r0 r1 r2 r3
      clear hd hE
      try clear hS
      go_wp2
      exact Ext.refl _
    case ha => rfl
    apply wpLoose_val rfl rfl
    case hs =>
      intro w1 hC hd Q1 hQ1
      obtain ⟨hE, hS⟩ := hC
      dsimp only [bare]
      obtain ⟨⟨_, q1, q2, t0, t1, t2, t3, t4, t5, t6⟩, r0, r1, r2, r3⟩ := hS; simp only [Nat.zero_add] at t0 t1 t2 t3 t4 t5 t6 r0 r1 r2 r3
      clear hd hE
      try clear hS
      go_wp2
      exact Ext.refl _
    case ha => rfl
    apply wpLoose_val rfl rfl
    case hs =>
      intro w1 hC hd Q1 hQ1
      obtain ⟨hE, hS⟩ := hC
      dsimp only [bare]
      obtain ⟨⟨_, q1, q2, t0, t1, t2, t3, t4, t5, t6⟩, r0, r1, r2, r3⟩ := hS; simp only [Nat.zero_add] at t0 t1 t2 t3 t4 t5 t6 r0 r1 r2 r3
      clear hd hE
      try clear hS
      go_wp2
      exact Ext.refl _
    case ha => rfl
    apply wpLoose_val rfl rfl
    case hs =>
      intro w1 hC hd Q1 hQ1
      obtain ⟨hE, hS⟩ := hC
      dsimp only [bare]
      clear hd
      go_wp2_with fail
      refine (HO1.out _ hS.1.1).mono ?_
      rintro e w2 ⟨rfl, hb⟩
      go_wp2_with fail
      exact hb
    case ha => rfl
    apply wpLoose_val rfl rfl
    case hs =>
      intro w1 hC hd Q1 hQ1
      obtain ⟨hE, hS⟩ := hC
      dsimp only [bare]
      obtain ⟨⟨_, q1, q2, t0, t1, t2, t3, t4, t5, t6⟩, r0, r1, r2, r3⟩ := hS; simp only [Nat.zero_add] at t0 t1 t2 t3 t4 t5 t6 r0 r1 r2 r3
      clear hd hE
      try clear hS
      go_wp2
      exact Ext.refl _
    case ha => rfl
    apply wpLoose_val rfl rfl
    case hs =>
      intro w1 hC hd Q1 hQ1
      obtain ⟨hE, hS⟩ := hC
      dsimp only [bare]
      obtain ⟨⟨_, q1, q2, t0, t1, t2, t3, t4, t5, t6⟩, r0, r1, r2, r3⟩ := hS; simp only [Nat.zero_add] at t0 t1 t2 t3 t4 t5 t6 r0 r1 r2 r3
      clear hd hE
      try clear hS
      go_wp2
      exact Ext.refl _
    case ha => rfl
    apply wpLoose_val rfl rfl
    case hs =>
      intro w1 hC hd Q1 hQ1
      obtain ⟨hE, hS⟩ := hC
      dsimp only [bare]
      obtain ⟨⟨_, q1, q2, t0, t1, t2, t3, t4, t5, t6⟩, r0, r1, r2, r3⟩ := hS; simp only [Nat.zero_add] at t0 t1 t2 t3 t4 t5 t6 r0 r1 r2 r3
      clear hd hE
      try clear hS
      go_wp2
      exact Ext.refl _
    case ha => rfl
    apply wpLoose_val rfl rfl
    case hs =>
      intro w1 hC hd Q1 hQ1
      obtain ⟨hE, hS⟩ := hC
      dsimp only [bare]
      obtain ⟨⟨_, q1, q2, t0, t1, t2, t3, t4, t5, t6⟩, r0, r1, r2, r3⟩ := hS; simp only [Nat.zero_add] at t0 t1 t2 t3 t4 t5 t6 r0 r1 r2 r3
      clear hd hE
      try clear hS
      go_wp2
      exact Ext.refl _
    case ha => rfl
    apply wpLoose_val rfl rfl
    case hs =>
      intro w1 hC hd Q1 hQ1
      obtain ⟨hE, hS⟩ := hC
      dsimp only [bare]
      obtain ⟨⟨_, q1, q2, t0, t1, t2, t3, t4, t5, t6⟩, r0, r1, r2, r3⟩ := hS; simp only [Nat.zero_add] at t0 t1 t2 t3 t4 t5 t6 r0 r1 r2 r3
      clear hd hE
      try clear hS
      go_wp2
      exact Ext.refl _
    case ha => rfl
    apply wpLoose_val rfl rfl
    case hs =>
      intro w1 hC hd Q1 hQ1
      obtain ⟨hE, hS⟩ := hC
      dsimp only [bare]
      obtain ⟨⟨_, q1, q2, t0, t1, t2, t3, t4, t5, t6⟩, r0, r1, r2, r3⟩ := hS; simp only [Nat.zero_add] at t0 t1 t2 t3 t4 t5 t6 r0 r1 r2 r3
      clear hd hE
      try clear hS
      go_wp2
      exact Ext.refl _
    case ha => rfl
    apply wpLoose_val rfl rfl
    case hs =>
      intro w1 hC hd Q1 hQ1
      obtain ⟨hE, hS⟩ := hC
      dsimp only [bare]
      clear hd
      go_wp2_with fail
      refine (HO2.out _ hS.1.1).mono ?_
      rintro e w2 ⟨rfl, hb⟩
      go_wp2_with fail
      exact hb
    case ha => rfl
    apply wpLoose_val rfl rfl
    case hs =>
      intro w1 hC hd Q1 hQ1
      obtain ⟨hE, hS⟩ := hC
      dsimp only [bare]
      obtain ⟨⟨_, q1, q2, t0, t1, t2, t3, t4, t5, t6⟩, r0, r1, r2, r3⟩ := hS; simp only [Nat.zero_add] at t0 t1 t2 t3 t4 t5 t6 r0 r1 r2 r3
      clear hd hE
      try clear hS
      go_wp2
      exact Ext.refl _
    case ha => rfl
    refine wpLoose_nil ?_
    intro wb hEb hSb hFb
    have HX : Hid (Ext w wb) := HB3.out.2.2.drew.trans hEb
    clear hFb hSb hEb HB3
    go_wp2
    go_ret
    refine ⟨_, rfl, .inr ⟨wb.heap.size, 3, by rw [HWW.out]; rfl, by rw [HWW.out]; simp, ?_⟩, HX.out.alloc _⟩
    rw [HWW.out]
    intro _
    refine ⟨wb.heap.size, 0, rfl, fun j hj => ?_⟩
    have hj3 : j = 0 ∨ j = 1 ∨ j = 2 := by simp at hj; omega
    rcases hj3 with rfl | rfl | rfl
    · exact ⟨by simp [go_sem], by simp [go_sem], by simp [go_sem], by simp [go_sem]⟩
    · exact ⟨by simp [go_sem], by simp [go_sem], by simp [go_sem], by simp [go_sem]⟩
    · exact ⟨by simp [go_sem], by simp [go_sem], by simp [go_sem], by simp [go_sem]⟩
    case hAb => kernel_rfl
    case hlb => exact ⟨trivial, trivial, trivial, trivial, trivial, trivial, trivial, trivial, trivial, trivial, trivial, trivial, trivial, trivial, trivial⟩
  case hAa => kernel_rfl
  case hla => exact ⟨trivial, trivial, trivial, trivial, trivial, trivial, trivial, trivial, trivial, trivial, trivial, trivial, trivial, trivial⟩

end Go.Proofs.Ytakcmiijnckaaaa
