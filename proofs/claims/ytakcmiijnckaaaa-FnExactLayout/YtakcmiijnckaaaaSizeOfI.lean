/- What impl's sizeOf answers: a line's size. -/
import Derived.Test.YtakcmiijnckaaaaOverI
namespace Go.Proofs.Ytakcmiijnckaaaa
open Go.RowKit
set_option linter.unusedVariables false

set_option maxRecDepth 100000 in
set_option maxHeartbeats 4000000 in
theorem sizeOf_any (ls : List Ln) (s : Nat → Nat) (B g k cap i : Nat) (lab yes no : ByteArray) (o kk y nn : Int) (w : World) (hl : linesP ls) (hs : sizesP ls s) (h : PlanP w ls s B g k) (hk : k ≤ i + 1) (hi : i < ls.length) (hp : Ln.mk lab (o, kk, y, nn) yes no = ls.getD i zeroL) (ht : yes.size ≤ 1048576 ∧ no.size ≤ 1048576) :
    Calls Try.prog 70 #[.agg #[.map (some B), .slice (some ⟨g, 0, none⟩) (ls.length + 1) cap], .int .i64 (i : Int), .agg #[.string lab, .int .i64 o, .int .i64 kk, .int .i64 y, .int .i64 nn, .string yes, .string no]] w fun e w' => e = .returned (.int .i64 (s i : Nat)) ∧ Ext w w' := by
  obtain ⟨W, hW⟩ : ∃ W, W = (w.alloc (.cells #[.map (some B), .slice (some ⟨g, 0, none⟩) (ls.length + 1) cap] 61)).alloc (.cells #[.string lab, .int .i64 o, .int .i64 kk, .int .i64 y, .int .i64 nn, .string yes, .string no] 37) := ⟨_, rfl⟩
  have hx : Ext w W := by rw [hW]; exact (Ext.one _ _).alloc _
  have hb : Hept W (w.heap.size + 1) 0 ⟨lab, (o, kk, y, nn), yes, no⟩ := by
    rw [hW]
    have := hept_box (w.alloc (.cells #[.map (some B), .slice (some ⟨g, 0, none⟩) (ls.length + 1) cap] 61)) ⟨lab, (o, kk, y, nn), yes, no⟩ 37
    simpa using this
  have z1 : W.cell? ⟨w.heap.size, 0, none⟩ = some (.map (some B)) := by rw [hW]; simp [go_sem]
  have z2 : W.cell? ⟨w.heap.size, 1, none⟩ = some (.slice (some ⟨g, 0, none⟩) (ls.length + 1) cap) := by rw [hW]; simp [go_sem]
  have HS : Hid (∀ w1, Ext W w1 → Hept w1 (w.heap.size + 1) 0 ⟨lab, (o, kk, y, nn), yes, no⟩ ∧ w1.cell? ⟨w.heap.size, 0, none⟩ = some (.map (some B)) ∧ w1.cell? ⟨w.heap.size, 1, none⟩ = some (.slice (some ⟨g, 0, none⟩) (ls.length + 1) cap) ∧ PlanP w1 ls s B g k ∧ Ext w w1) := fun w1 hE => ⟨hb.ext hE, (hE.cell (p := ⟨w.heap.size, 0, none⟩) (World.block_lt_of_cell? _ _ z1)).trans z1, (hE.cell (p := ⟨w.heap.size, 1, none⟩) (World.block_lt_of_cell? _ _ z2)).trans z2, (h.ext hx).ext hE, hx.trans hE⟩
  have HOV : Hid (∀ (lb : ByteArray) (w1 : World), onP ls i lb → lb.size ≤ 1048576 → PlanP w1 ls s B g k → Calls Try.prog 71 #[.agg #[.map (some B), .slice (some ⟨g, 0, none⟩) (ls.length + 1) cap], .int .i64 (i : Int), .string lb] w1 fun e w' => e = .returned (.int .i64 (overL ls s i lb : Nat)) ∧ Ext w1 w') := fun lb w1 h1 h2 h3 => over_any ls s B g k cap i lb w1 hl hs h3 hk h1 h2
  have hsz := hs i hi
  unfold sizeP farL at hsz
  have hon := ask_on hl hi
  rw [← hp] at hsz hon
  simp only at hsz hon
  have HT : Hid (yes.size ≤ 1048576 ∧ no.size ≤ 1048576) := ht
  clear hb z1 z2 h hs hl hp hi hk ht hx
  generalize s i = v at *
  have HP : Hid (∀ w, Calls Try.prog 49 #[.agg #[.string lab, .int .i64 o, .int .i64 kk, .int .i64 y, .int .i64 nn, .string yes, .string no]] w fun e w' => e = .returned (.bool (o == 0)) ∧ Ext w w') := fun w => iPlace_any ⟨lab, (o, kk, y, nn), yes, no⟩ w
  have HQ : Hid (∀ w, Calls Try.prog 72 #[.agg #[.string lab, .int .i64 o, .int .i64 kk, .int .i64 y, .int .i64 nn, .string yes, .string no]] w fun e w' => e = .returned (.bool (askB o)) ∧ Ext w w') := fun w => iAsk_any ⟨lab, (o, kk, y, nn), yes, no⟩ w
  go_enter Try.func70, Try.ntmps70
  go_wp2_with fail
  rw [← hW]
  refine (HP.out _).mono ?_
  rintro e w2 ⟨rfl, e2⟩
  have S2 := HS.out w2 e2
  clear hW HP
  by_cases h0 : o = 0
  · have HV : Hid (v = 0) := by
      rcases hsz with ⟨_, h⟩ | ⟨h, _⟩ | ⟨h, _⟩ | ⟨h, _⟩
      · exact h
      · unfold askP at h; omega
      · unfold askP at h; omega
      · exact absurd h0 h
    subst h0
    have X : Hid (Ext w w2) := S2.2.2.2.2
    clear hsz hon S2 e2 HQ HOV
    go_wp2
    go_ret
    exact ⟨by rw [HV.out]; rfl, X.out⟩
  have q0 : (o == 0) = false := by simpa using h0
  cases ha : askB o with
  | false =>
    have HV : Hid (v = 1) := by
      have hna := askB_false.1 ha
      rcases hsz with ⟨h, _⟩ | ⟨h, _⟩ | ⟨h, _⟩ | ⟨_, _, h⟩
      · exact absurd h h0
      · exact absurd h hna
      · exact absurd h hna
      · exact h
    rw [ha] at HQ
    obtain ⟨⟨d0, d1, d2, d3, d4, d5, d6⟩, _, _, _, X⟩ := S2
    simp only [Nat.zero_add] at d0 d1 d2 d3 d4 d5 d6
    have X2 : Hid (Ext w w2) := X
    clear hsz hon X e2 HOV ha h0
    go_wp2_with fail
    refine' wp_region_loose (.inl _ :: .inl _ :: .inl _ :: .inl undef :: .inl undef :: .inl undef :: .inl undef :: .inl undef :: .inl undef :: .inl undef :: .inl undef :: .inl undef :: .inl undef :: .inl undef :: .inl undef :: .inl _ :: .inl _ :: []) (fun w' => Hept w' (w.heap.size + 1) 0 ⟨lab, (o, kk, y, nn), yes, no⟩) (by kernel_rfl) (by kernel_rfl) (by refine ⟨?_, ?_, ?_, ?_, ?_, ?_, ?_⟩ <;> simp only [Nat.zero_add] <;> assumption) (fun _ _ h hE => h.ext hE) ?hAa ?hla ?hMa
    case' hMa => skip
    apply wpLoose_val rfl rfl
    case hs =>
      intro w1 hC hd Q1 hQ1
      obtain ⟨hE, hS⟩ := hC
      dsimp only [bare]
      obtain ⟨q0, q1, q2, q3, q4, q5, q6⟩ := hS; simp only [Nat.zero_add] at q0 q1 q2 q3 q4 q5 q6
      clear hd hE
      try clear hS
      go_wp2
      exact Ext.refl _
    case ha => rfl
    apply wpLoose_val rfl rfl
    case hs =>
      intro w1 hC hd Q1 hQ1
      obtain ⟨hE, hS⟩ := hC
      dsimp only [bare]
      clear hd
      go_wp2_with fail
      refine (HQ.out _).mono ?_
      rintro e w2 ⟨rfl, hb⟩
      go_wp2_with fail
      exact hb
    case ha => rfl
    apply wpLoose_val rfl rfl
    case hs =>
      intro w1 hC hd Q1 hQ1
      obtain ⟨hE, hS⟩ := hC
      dsimp only [bare]
      obtain ⟨q0, q1, q2, q3, q4, q5, q6⟩ := hS; simp only [Nat.zero_add] at q0 q1 q2 q3 q4 q5 q6
      clear hd hE
      try clear hS
      go_wp2
      exact Ext.refl _
    case ha => rfl
    refine wpLoose_skip rfl rfl ?_
    try simp only [Act.put, List.setIfInBounds_toArray, List.set_cons_succ, List.set_cons_zero]
    refine wpLoose_skip rfl rfl ?_
    try simp only [Act.put, List.setIfInBounds_toArray, List.set_cons_succ, List.set_cons_zero]
    refine wpLoose_skip rfl rfl ?_
    try simp only [Act.put, List.setIfInBounds_toArray, List.set_cons_succ, List.set_cons_zero]
    refine wpLoose_skip rfl rfl ?_
    try simp only [Act.put, List.setIfInBounds_toArray, List.set_cons_succ, List.set_cons_zero]
    refine wpLoose_skip rfl rfl ?_
    try simp only [Act.put, List.setIfInBounds_toArray, List.set_cons_succ, List.set_cons_zero]
    refine wpLoose_skip rfl rfl ?_
    try simp only [Act.put, List.setIfInBounds_toArray, List.set_cons_succ, List.set_cons_zero]
    refine wpLoose_skip rfl rfl ?_
    try simp only [Act.put, List.setIfInBounds_toArray, List.set_cons_succ, List.set_cons_zero]
    refine wpLoose_skip rfl rfl ?_
    try simp only [Act.put, List.setIfInBounds_toArray, List.set_cons_succ, List.set_cons_zero]
    refine wpLoose_skip rfl rfl ?_
    try simp only [Act.put, List.setIfInBounds_toArray, List.set_cons_succ, List.set_cons_zero]
    refine wpLoose_skip rfl rfl ?_
    try simp only [Act.put, List.setIfInBounds_toArray, List.set_cons_succ, List.set_cons_zero]
    refine wpLoose_skip rfl rfl ?_
    try simp only [Act.put, List.setIfInBounds_toArray, List.set_cons_succ, List.set_cons_zero]
    refine wpLoose_skip rfl rfl ?_
    try simp only [Act.put, List.setIfInBounds_toArray, List.set_cons_succ, List.set_cons_zero]
    apply wpLoose_val rfl rfl
    case hs =>
      intro w1 hC hd Q1 hQ1
      obtain ⟨hE, hS⟩ := hC
      dsimp only [bare]
      obtain ⟨q0, q1, q2, q3, q4, q5, q6⟩ := hS; simp only [Nat.zero_add] at q0 q1 q2 q3 q4 q5 q6
      clear hd hE
      try clear hS
      go_wp2
      exact Ext.refl _
    case ha => rfl
    apply wpLoose_val rfl rfl
    case hs =>
      intro w1 hC hd Q1 hQ1
      obtain ⟨hE, hS⟩ := hC
      dsimp only [bare]
      obtain ⟨q0, q1, q2, q3, q4, q5, q6⟩ := hS; simp only [Nat.zero_add] at q0 q1 q2 q3 q4 q5 q6
      clear hd hE
      try clear hS
      go_wp2
      exact Ext.refl _
    case ha => rfl
    refine wpLoose_nil ?_
    intro wa hEa hSa hFa
    have E2 : Hid (Ext w wa) := X2.out.drew.trans hEa
    clear hFa hSa hEa
    go_wp2
    go_ret
    exact ⟨by rw [HV.out]; rfl, E2.out⟩
    case hAa => kernel_rfl
    case hla => exact ⟨trivial, trivial, trivial, trivial, trivial, trivial, trivial, trivial, trivial, trivial, trivial, trivial, trivial, trivial, trivial, trivial, trivial, trivial⟩
  | true =>
    obtain ⟨on1, on2⟩ := hon (askB_true.1 ha)
    have HO1 : Hid (onP ls i yes) := on1
    have HO2 : Hid (onP ls i no) := on2
    have hV : (15 < overL ls s i yes ∨ 15 < overL ls s i no) ∧ v = 3 ∨ ¬ (15 < overL ls s i yes ∨ 15 < overL ls s i no) ∧ v = 1 := by
      have hya := askB_true.1 ha
      rcases hsz with ⟨h, _⟩ | ⟨_, h1, h2⟩ | ⟨_, h1, h2⟩ | ⟨_, h, _⟩
      · exact absurd h h0
      · exact .inl ⟨h1, h2⟩
      · exact .inr ⟨h1, h2⟩
      · exact absurd hya h
    rw [ha] at HQ
    clear hon hsz ha h0 on1 on2
    have HOV1 : Hid (∀ w1, PlanP w1 ls s B g k → Calls Try.prog 71 #[.agg #[.map (some B), .slice (some ⟨g, 0, none⟩) (ls.length + 1) cap], .int .i64 (i : Int), .string yes] w1 fun e w' => e = .returned (.int .i64 (overL ls s i yes : Nat)) ∧ Ext w1 w') := fun w1 h1 => HOV.out yes w1 HO1.out HT.out.1 h1
    have HOV2 : Hid (∀ w1, PlanP w1 ls s B g k → Calls Try.prog 71 #[.agg #[.map (some B), .slice (some ⟨g, 0, none⟩) (ls.length + 1) cap], .int .i64 (i : Int), .string no] w1 fun e w' => e = .returned (.int .i64 (overL ls s i no : Nat)) ∧ Ext w1 w') := fun w1 h1 => HOV.out no w1 HO2.out HT.out.2 h1
    generalize overL ls s i yes = v1 at *
    generalize overL ls s i no = v2 at *
    by_cases hyn : (v1 : Int) < (v2 : Int)
    · obtain ⟨z, hz⟩ : ∃ z, z = decide (15 < (v2 : Int)) := ⟨_, rfl⟩
      have HV : Hid (v = if z = true then 3 else 1) := by
        show _ = _
        rw [hz]
        rcases hV with ⟨h, e⟩ | ⟨h, e⟩
        · rw [if_pos (by simp; omega), e]
        · rw [if_neg (by simp; omega), e]
      obtain ⟨⟨d0, d1, d2, d3, d4, d5, d6⟩, z1, z2, hpl, X⟩ := S2
      simp only [Nat.zero_add] at d0 d1 d2 d3 d4 d5 d6
      have X2 : Hid (Ext w w2) := X
      have hfd := hz.symm
      clear hV X e2 HOV hz
      generalize ls.length = n at *
      go_wp2_with fail
      refine' wp_region_loose (.inl _ :: .inl _ :: .inl _ :: .inl _ :: .inl _ :: .inl _ :: .inl _ :: .inl _ :: .inl _ :: .inl _ :: .inl _ :: .inl _ :: .inl _ :: .inl _ :: .inl _ :: .inl _ :: .inl _ :: []) (fun w' => Hept w' (w.heap.size + 1) 0 ⟨lab, (o, kk, y, nn), yes, no⟩ ∧ w'.cell? ⟨w.heap.size, 0, none⟩ = some (.map (some B)) ∧ w'.cell? ⟨w.heap.size, 1, none⟩ = some (.slice (some ⟨g, 0, none⟩) (n + 1) cap) ∧ PlanP w' ls s B g k) (by kernel_rfl) (by kernel_rfl) (⟨by refine ⟨?_, ?_, ?_, ?_, ?_, ?_, ?_⟩ <;> simp only [Nat.zero_add] <;> assumption, z1, z2, hpl⟩) (fun _ _ h hE => ⟨h.1.ext hE, (hE.cell (p := ⟨w.heap.size, 0, none⟩) (World.block_lt_of_cell? _ _ h.2.1)).trans h.2.1, (hE.cell (p := ⟨w.heap.size, 1, none⟩) (World.block_lt_of_cell? _ _ h.2.2.1)).trans h.2.2.1, h.2.2.2.ext hE⟩) ?hAb ?hlb ?hMb
      case' hMb => skip
      apply wpLoose_val rfl rfl
      case hs =>
        intro w1 hC hd Q1 hQ1
        obtain ⟨hE, hS⟩ := hC
        dsimp only [bare]
        obtain ⟨⟨q0, q1, q2, q3, q4, q5, q6⟩, q7, q8, _⟩ := hS; simp only [Nat.zero_add] at q0 q1 q2 q3 q4 q5 q6
        clear hd hE
        try clear hS
        go_wp2
        exact Ext.refl _
      case ha => rfl
      apply wpLoose_val rfl rfl
      case hs =>
        intro w1 hC hd Q1 hQ1
        obtain ⟨hE, hS⟩ := hC
        dsimp only [bare]
        clear hd
        go_wp2_with fail
        refine (HQ.out _).mono ?_
        rintro e w2 ⟨rfl, hb⟩
        go_wp2_with fail
        exact hb
      case ha => rfl
      apply wpLoose_val rfl rfl
      case hs =>
        intro w1 hC hd Q1 hQ1
        obtain ⟨hE, hS⟩ := hC
        dsimp only [bare]
        obtain ⟨⟨q0, q1, q2, q3, q4, q5, q6⟩, q7, q8, _⟩ := hS; simp only [Nat.zero_add] at q0 q1 q2 q3 q4 q5 q6
        clear hd hE
        try clear hS
        go_wp2
        exact Ext.refl _
      case ha => rfl
      apply wpLoose_val rfl rfl
      case hs =>
        intro w1 hC hd Q1 hQ1
        obtain ⟨hE, hS⟩ := hC
        dsimp only [bare]
        obtain ⟨⟨q0, q1, q2, q3, q4, q5, q6⟩, q7, q8, _⟩ := hS; simp only [Nat.zero_add] at q0 q1 q2 q3 q4 q5 q6
        clear hd hE
        try clear hS
        go_wp2
        exact Ext.refl _
      case ha => rfl
      apply wpLoose_val rfl rfl
      case hs =>
        intro w1 hC hd Q1 hQ1
        obtain ⟨hE, hS⟩ := hC
        dsimp only [bare]
        obtain ⟨⟨q0, q1, q2, q3, q4, q5, q6⟩, q7, q8, _⟩ := hS; simp only [Nat.zero_add] at q0 q1 q2 q3 q4 q5 q6
        clear hd hE
        try clear hS
        go_wp2
        exact Ext.refl _
      case ha => rfl
      apply wpLoose_val rfl rfl
      case hs =>
        intro w1 hC hd Q1 hQ1
        obtain ⟨hE, hS⟩ := hC
        dsimp only [bare]
        obtain ⟨⟨q0, q1, q2, q3, q4, q5, q6⟩, q7, q8, _⟩ := hS; simp only [Nat.zero_add] at q0 q1 q2 q3 q4 q5 q6
        clear hd hE
        try clear hS
        go_wp2
        exact Ext.refl _
      case ha => rfl
      apply wpLoose_val rfl rfl
      case hs =>
        intro w1 hC hd Q1 hQ1
        obtain ⟨hE, hS⟩ := hC
        dsimp only [bare]
        obtain ⟨⟨q0, q1, q2, q3, q4, q5, q6⟩, q7, q8, _⟩ := hS; simp only [Nat.zero_add] at q0 q1 q2 q3 q4 q5 q6
        clear hd hE
        try clear hS
        go_wp2
        exact Ext.refl _
      case ha => rfl
      apply wpLoose_val rfl rfl
      case hs =>
        intro w1 hC hd Q1 hQ1
        obtain ⟨hE, hS⟩ := hC
        dsimp only [bare]
        clear hd
        go_wp2_with fail
        refine (HOV1.out _ hS.2.2.2).mono ?_
        rintro e w2 ⟨rfl, hb⟩
        go_wp2_with fail
        exact hb
      case ha => rfl
      apply wpLoose_val rfl rfl
      case hs =>
        intro w1 hC hd Q1 hQ1
        obtain ⟨hE, hS⟩ := hC
        dsimp only [bare]
        obtain ⟨⟨q0, q1, q2, q3, q4, q5, q6⟩, q7, q8, _⟩ := hS; simp only [Nat.zero_add] at q0 q1 q2 q3 q4 q5 q6
        clear hd hE
        try clear hS
        go_wp2
        exact Ext.refl _
      case ha => rfl
      apply wpLoose_val rfl rfl
      case hs =>
        intro w1 hC hd Q1 hQ1
        obtain ⟨hE, hS⟩ := hC
        dsimp only [bare]
        obtain ⟨⟨q0, q1, q2, q3, q4, q5, q6⟩, q7, q8, _⟩ := hS; simp only [Nat.zero_add] at q0 q1 q2 q3 q4 q5 q6
        clear hd hE
        try clear hS
        go_wp2
        exact Ext.refl _
      case ha => rfl
      apply wpLoose_val rfl rfl
      case hs =>
        intro w1 hC hd Q1 hQ1
        obtain ⟨hE, hS⟩ := hC
        dsimp only [bare]
        obtain ⟨⟨q0, q1, q2, q3, q4, q5, q6⟩, q7, q8, _⟩ := hS; simp only [Nat.zero_add] at q0 q1 q2 q3 q4 q5 q6
        clear hd hE
        try clear hS
        go_wp2
        exact Ext.refl _
      case ha => rfl
      apply wpLoose_val rfl rfl
      case hs =>
        intro w1 hC hd Q1 hQ1
        obtain ⟨hE, hS⟩ := hC
        dsimp only [bare]
        obtain ⟨⟨q0, q1, q2, q3, q4, q5, q6⟩, q7, q8, _⟩ := hS; simp only [Nat.zero_add] at q0 q1 q2 q3 q4 q5 q6
        clear hd hE
        try clear hS
        go_wp2
        exact Ext.refl _
      case ha => rfl
      apply wpLoose_val rfl rfl
      case hs =>
        intro w1 hC hd Q1 hQ1
        obtain ⟨hE, hS⟩ := hC
        dsimp only [bare]
        clear hd
        go_wp2_with fail
        refine (HOV2.out _ hS.2.2.2).mono ?_
        rintro e w2 ⟨rfl, hb⟩
        go_wp2_with fail
        exact hb
      case ha => rfl
      apply wpLoose_val rfl rfl
      case hs =>
        intro w1 hC hd Q1 hQ1
        obtain ⟨hE, hS⟩ := hC
        dsimp only [bare]
        obtain ⟨⟨q0, q1, q2, q3, q4, q5, q6⟩, q7, q8, _⟩ := hS; simp only [Nat.zero_add] at q0 q1 q2 q3 q4 q5 q6
        clear hd hE
        try clear hS
        go_wp2
        exact Ext.refl _
      case ha => rfl
      apply wpLoose_val rfl rfl
      case hs =>
        intro w1 hC hd Q1 hQ1
        obtain ⟨hE, hS⟩ := hC
        dsimp only [bare]
        obtain ⟨⟨q0, q1, q2, q3, q4, q5, q6⟩, q7, q8, _⟩ := hS; simp only [Nat.zero_add] at q0 q1 q2 q3 q4 q5 q6
        clear hd hE
        try clear hS
        go_wp2
        exact Ext.refl _
      case ha => rfl
      apply wpLoose_val rfl rfl
      case hs =>
        intro w1 hC hd Q1 hQ1
        obtain ⟨hE, hS⟩ := hC
        dsimp only [bare]
        obtain ⟨⟨q0, q1, q2, q3, q4, q5, q6⟩, q7, q8, _⟩ := hS; simp only [Nat.zero_add] at q0 q1 q2 q3 q4 q5 q6
        clear hd hE
        try clear hS
        go_wp2
        exact Ext.refl _
      case ha => rfl
      apply wpLoose_val rfl rfl
      case hs =>
        intro w1 hC hd Q1 hQ1
        obtain ⟨hE, hS⟩ := hC
        dsimp only [bare]
        obtain ⟨⟨q0, q1, q2, q3, q4, q5, q6⟩, q7, q8, _⟩ := hS; simp only [Nat.zero_add] at q0 q1 q2 q3 q4 q5 q6
        clear hd hE
        try clear hS
        go_wp2
        exact Ext.refl _
      case ha => rfl
      refine wpLoose_nil ?_
      intro wb hEb hSb hFb
      have E2 : Hid (Ext w wb) := X2.out.drew.trans hEb
      clear hFb hSb hEb d0 d1 d2 d3 d4 d5 d6 z1 z2 hpl HOV1 HOV2 HQ
      cases z
      · go_wp2
        go_ret
        exact ⟨by rw [HV.out]; rfl, E2.out⟩
      · go_wp2
        go_ret
        exact ⟨by rw [HV.out]; rfl, E2.out⟩
      case hAb => kernel_rfl
      case hlb => exact ⟨trivial, trivial, trivial, trivial, trivial, trivial, trivial, trivial, trivial, trivial, trivial, trivial, trivial, trivial, trivial, trivial, trivial, trivial⟩
    · obtain ⟨z, hz⟩ : ∃ z, z = decide (15 < (v1 : Int)) := ⟨_, rfl⟩
      have HV : Hid (v = if z = true then 3 else 1) := by
        show _ = _
        rw [hz]
        rcases hV with ⟨h, e⟩ | ⟨h, e⟩
        · rw [if_pos (by simp; omega), e]
        · rw [if_neg (by simp; omega), e]
      obtain ⟨⟨d0, d1, d2, d3, d4, d5, d6⟩, z1, z2, hpl, X⟩ := S2
      simp only [Nat.zero_add] at d0 d1 d2 d3 d4 d5 d6
      have X2 : Hid (Ext w w2) := X
      have hfd := hz.symm
      clear hV X e2 HOV hz
      generalize ls.length = n at *
      go_wp2_with fail
      refine' wp_region_loose (.inl _ :: .inl _ :: .inl _ :: .inl _ :: .inl _ :: .inl _ :: .inl _ :: .inl _ :: .inl _ :: .inl _ :: .inl _ :: .inl _ :: .inl _ :: .inl _ :: .inl _ :: .inl _ :: .inl _ :: []) (fun w' => Hept w' (w.heap.size + 1) 0 ⟨lab, (o, kk, y, nn), yes, no⟩ ∧ w'.cell? ⟨w.heap.size, 0, none⟩ = some (.map (some B)) ∧ w'.cell? ⟨w.heap.size, 1, none⟩ = some (.slice (some ⟨g, 0, none⟩) (n + 1) cap) ∧ PlanP w' ls s B g k) (by kernel_rfl) (by kernel_rfl) (⟨by refine ⟨?_, ?_, ?_, ?_, ?_, ?_, ?_⟩ <;> simp only [Nat.zero_add] <;> assumption, z1, z2, hpl⟩) (fun _ _ h hE => ⟨h.1.ext hE, (hE.cell (p := ⟨w.heap.size, 0, none⟩) (World.block_lt_of_cell? _ _ h.2.1)).trans h.2.1, (hE.cell (p := ⟨w.heap.size, 1, none⟩) (World.block_lt_of_cell? _ _ h.2.2.1)).trans h.2.2.1, h.2.2.2.ext hE⟩) ?hAc ?hlc ?hMc
      case' hMc => skip
      apply wpLoose_val rfl rfl
      case hs =>
        intro w1 hC hd Q1 hQ1
        obtain ⟨hE, hS⟩ := hC
        dsimp only [bare]
        obtain ⟨⟨q0, q1, q2, q3, q4, q5, q6⟩, q7, q8, _⟩ := hS; simp only [Nat.zero_add] at q0 q1 q2 q3 q4 q5 q6
        clear hd hE
        try clear hS
        go_wp2
        exact Ext.refl _
      case ha => rfl
      apply wpLoose_val rfl rfl
      case hs =>
        intro w1 hC hd Q1 hQ1
        obtain ⟨hE, hS⟩ := hC
        dsimp only [bare]
        clear hd
        go_wp2_with fail
        refine (HQ.out _).mono ?_
        rintro e w2 ⟨rfl, hb⟩
        go_wp2_with fail
        exact hb
      case ha => rfl
      apply wpLoose_val rfl rfl
      case hs =>
        intro w1 hC hd Q1 hQ1
        obtain ⟨hE, hS⟩ := hC
        dsimp only [bare]
        obtain ⟨⟨q0, q1, q2, q3, q4, q5, q6⟩, q7, q8, _⟩ := hS; simp only [Nat.zero_add] at q0 q1 q2 q3 q4 q5 q6
        clear hd hE
        try clear hS
        go_wp2
        exact Ext.refl _
      case ha => rfl
      apply wpLoose_val rfl rfl
      case hs =>
        intro w1 hC hd Q1 hQ1
        obtain ⟨hE, hS⟩ := hC
        dsimp only [bare]
        obtain ⟨⟨q0, q1, q2, q3, q4, q5, q6⟩, q7, q8, _⟩ := hS; simp only [Nat.zero_add] at q0 q1 q2 q3 q4 q5 q6
        clear hd hE
        try clear hS
        go_wp2
        exact Ext.refl _
      case ha => rfl
      apply wpLoose_val rfl rfl
      case hs =>
        intro w1 hC hd Q1 hQ1
        obtain ⟨hE, hS⟩ := hC
        dsimp only [bare]
        obtain ⟨⟨q0, q1, q2, q3, q4, q5, q6⟩, q7, q8, _⟩ := hS; simp only [Nat.zero_add] at q0 q1 q2 q3 q4 q5 q6
        clear hd hE
        try clear hS
        go_wp2
        exact Ext.refl _
      case ha => rfl
      apply wpLoose_val rfl rfl
      case hs =>
        intro w1 hC hd Q1 hQ1
        obtain ⟨hE, hS⟩ := hC
        dsimp only [bare]
        obtain ⟨⟨q0, q1, q2, q3, q4, q5, q6⟩, q7, q8, _⟩ := hS; simp only [Nat.zero_add] at q0 q1 q2 q3 q4 q5 q6
        clear hd hE
        try clear hS
        go_wp2
        exact Ext.refl _
      case ha => rfl
      apply wpLoose_val rfl rfl
      case hs =>
        intro w1 hC hd Q1 hQ1
        obtain ⟨hE, hS⟩ := hC
        dsimp only [bare]
        obtain ⟨⟨q0, q1, q2, q3, q4, q5, q6⟩, q7, q8, _⟩ := hS; simp only [Nat.zero_add] at q0 q1 q2 q3 q4 q5 q6
        clear hd hE
        try clear hS
        go_wp2
        exact Ext.refl _
      case ha => rfl
      apply wpLoose_val rfl rfl
      case hs =>
        intro w1 hC hd Q1 hQ1
        obtain ⟨hE, hS⟩ := hC
        dsimp only [bare]
        clear hd
        go_wp2_with fail
        refine (HOV1.out _ hS.2.2.2).mono ?_
        rintro e w2 ⟨rfl, hb⟩
        go_wp2_with fail
        exact hb
      case ha => rfl
      apply wpLoose_val rfl rfl
      case hs =>
        intro w1 hC hd Q1 hQ1
        obtain ⟨hE, hS⟩ := hC
        dsimp only [bare]
        obtain ⟨⟨q0, q1, q2, q3, q4, q5, q6⟩, q7, q8, _⟩ := hS; simp only [Nat.zero_add] at q0 q1 q2 q3 q4 q5 q6
        clear hd hE
        try clear hS
        go_wp2
        exact Ext.refl _
      case ha => rfl
      apply wpLoose_val rfl rfl
      case hs =>
        intro w1 hC hd Q1 hQ1
        obtain ⟨hE, hS⟩ := hC
        dsimp only [bare]
        obtain ⟨⟨q0, q1, q2, q3, q4, q5, q6⟩, q7, q8, _⟩ := hS; simp only [Nat.zero_add] at q0 q1 q2 q3 q4 q5 q6
        clear hd hE
        try clear hS
        go_wp2
        exact Ext.refl _
      case ha => rfl
      apply wpLoose_val rfl rfl
      case hs =>
        intro w1 hC hd Q1 hQ1
        obtain ⟨hE, hS⟩ := hC
        dsimp only [bare]
        obtain ⟨⟨q0, q1, q2, q3, q4, q5, q6⟩, q7, q8, _⟩ := hS; simp only [Nat.zero_add] at q0 q1 q2 q3 q4 q5 q6
        clear hd hE
        try clear hS
        go_wp2
        exact Ext.refl _
      case ha => rfl
      apply wpLoose_val rfl rfl
      case hs =>
        intro w1 hC hd Q1 hQ1
        obtain ⟨hE, hS⟩ := hC
        dsimp only [bare]
        obtain ⟨⟨q0, q1, q2, q3, q4, q5, q6⟩, q7, q8, _⟩ := hS; simp only [Nat.zero_add] at q0 q1 q2 q3 q4 q5 q6
        clear hd hE
        try clear hS
        go_wp2
        exact Ext.refl _
      case ha => rfl
      apply wpLoose_val rfl rfl
      case hs =>
        intro w1 hC hd Q1 hQ1
        obtain ⟨hE, hS⟩ := hC
        dsimp only [bare]
        clear hd
        go_wp2_with fail
        refine (HOV2.out _ hS.2.2.2).mono ?_
        rintro e w2 ⟨rfl, hb⟩
        go_wp2_with fail
        exact hb
      case ha => rfl
      apply wpLoose_val rfl rfl
      case hs =>
        intro w1 hC hd Q1 hQ1
        obtain ⟨hE, hS⟩ := hC
        dsimp only [bare]
        obtain ⟨⟨q0, q1, q2, q3, q4, q5, q6⟩, q7, q8, _⟩ := hS; simp only [Nat.zero_add] at q0 q1 q2 q3 q4 q5 q6
        clear hd hE
        try clear hS
        go_wp2
        exact Ext.refl _
      case ha => rfl
      apply wpLoose_val rfl rfl
      case hs =>
        intro w1 hC hd Q1 hQ1
        obtain ⟨hE, hS⟩ := hC
        dsimp only [bare]
        obtain ⟨⟨q0, q1, q2, q3, q4, q5, q6⟩, q7, q8, _⟩ := hS; simp only [Nat.zero_add] at q0 q1 q2 q3 q4 q5 q6
        clear hd hE
        try clear hS
        go_wp2
        exact Ext.refl _
      case ha => rfl
      apply wpLoose_val rfl rfl
      case hs =>
        intro w1 hC hd Q1 hQ1
        obtain ⟨hE, hS⟩ := hC
        dsimp only [bare]
        obtain ⟨⟨q0, q1, q2, q3, q4, q5, q6⟩, q7, q8, _⟩ := hS; simp only [Nat.zero_add] at q0 q1 q2 q3 q4 q5 q6
        clear hd hE
        try clear hS
        go_wp2
        exact Ext.refl _
      case ha => rfl
      apply wpLoose_val rfl rfl
      case hs =>
        intro w1 hC hd Q1 hQ1
        obtain ⟨hE, hS⟩ := hC
        dsimp only [bare]
        obtain ⟨⟨q0, q1, q2, q3, q4, q5, q6⟩, q7, q8, _⟩ := hS; simp only [Nat.zero_add] at q0 q1 q2 q3 q4 q5 q6
        clear hd hE
        try clear hS
        go_wp2
        exact Ext.refl _
      case ha => rfl
      refine wpLoose_nil ?_
      intro wc hEc hSc hFc
      have E2 : Hid (Ext w wc) := X2.out.drew.trans hEc
      clear hFc hSc hEc d0 d1 d2 d3 d4 d5 d6 z1 z2 hpl HOV1 HOV2 HQ
      cases z
      · go_wp2
        go_ret
        exact ⟨by rw [HV.out]; rfl, E2.out⟩
      · go_wp2
        go_ret
        exact ⟨by rw [HV.out]; rfl, E2.out⟩
      case hAc => kernel_rfl
      case hlc => exact ⟨trivial, trivial, trivial, trivial, trivial, trivial, trivial, trivial, trivial, trivial, trivial, trivial, trivial, trivial, trivial, trivial, trivial, trivial⟩

end Go.Proofs.Ytakcmiijnckaaaa
