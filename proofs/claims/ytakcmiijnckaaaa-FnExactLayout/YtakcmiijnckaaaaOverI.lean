/- What impl's plan answers: over, sizeOf. -/
import Derived.Test.YtakcmiijnckaaaaSizesS2
namespace Go.Proofs.Ytakcmiijnckaaaa
open Go.RowKit
set_option linter.unusedVariables false

/-- A plan of these lines, known from line k on: the map in block B, in block g how many words a line and all behind it become. -/
def PlanP (W : World) (ls : List Ln) (s : Nat → Nat) (B g k : Nat) : Prop :=
  MapOf W B ls.length (upTo ls ls.length) ∧ ∃ f : Nat → Int, RowF W g (ls.length + 1) f ∧ ∀ j, k ≤ j → j ≤ ls.length → f j = (cnt s ls.length : Int) - (cnt s j : Int)

theorem PlanP.ext {W W' : World} {ls : List Ln} {s : Nat → Nat} {B g k : Nat} (h : PlanP W ls s B g k) (hE : Ext W W') : PlanP W' ls s B g k := by
  obtain ⟨h1, f, h2, h3⟩ := h
  exact ⟨h1.ext hE, f, h2.ext hE, h3⟩

def planV (B g n cap : Nat) : Value := .agg #[.map (some B), .slice (some ⟨g, 0, none⟩) (n + 1) cap]

set_option maxRecDepth 100000 in
set_option maxHeartbeats 4000000 in
theorem over_any (ls : List Ln) (s : Nat → Nat) (B g k cap i : Nat) (lab : ByteArray) (w : World) (hl : linesP ls) (hs : sizesP ls s) (h : PlanP w ls s B g k) (hk : k ≤ i + 1) (hon : onP ls i lab) (hlab : lab.size ≤ 1048576) :
    Calls Try.prog 71 #[.agg #[.map (some B), .slice (some ⟨g, 0, none⟩) (ls.length + 1) cap], .int .i64 (i : Int), .string lab] w fun e w' => e = .returned (.int .i64 (overL ls s i lab : Nat)) ∧ Ext w w' := by
  obtain ⟨hm, f, hr, hf⟩ := h
  obtain ⟨o1, o2⟩ := hon
  have hM : upTo ls ls.length lab = some (pos ls lab) := upTo_pos hl ⟨o1, o2⟩
  have hu1 := hf (i + 1) hk (by omega)
  have hu2 := hf (pos ls lab) (by omega) (by omega)
  have x1 := (hr.2 (i + 1) (by omega)).1
  have x2 := (hr.2 (pos ls lab) (by omega)).1
  have HV : Hid (f (i + 1) - f (pos ls lab) = (overL ls s i lab : Nat)) := by
    have := cnt_mono s (a := i + 1) (b := pos ls lab) o1
    show _ = _
    unfold overL
    omega
  have hc1 := cnt_le hs (n := ls.length) (Nat.le_refl _)
  have hc2 := cnt_le hs (n := i + 1) (by omega)
  have hc3 := cnt_le hs (n := pos ls lab) (by omega)
  have hn6 := hl.1.2
  generalize f (i + 1) = u1 at *
  generalize f (pos ls lab) = u2 at *
  have v1 : -1800 ≤ u1 ∧ u1 ≤ 1800 := by omega
  have v2 : -1800 ≤ u2 ∧ u2 ≤ 1800 := by omega
  clear hu1 hu2 hc1 hc2 hc3
  generalize overL ls s i lab = v at *
  generalize pos ls lab = p at *
  have HM : Hid (upTo ls ls.length lab = some p) := hM
  have HLB : Hid (lab.size ≤ maxLen) := by show _ ≤ _; unfold maxLen; omega
  generalize upTo ls ls.length = M at *
  generalize ls.length = n at *
  have bi : (i : Int) + 1 < (n : Int) + 1 := by omega
  have bp : (p : Int) < (n : Int) + 1 := by omega
  have m1 : MapOf (w.alloc (.cells #[.map (some B), .slice (some ⟨g, 0, none⟩) (n + 1) cap] 61)) B n M := hm.below (Below.alloc (Below.refl _ w) (Nat.le_refl _) _) hm.lt
  have y1 : (w.alloc (.cells #[.map (some B), .slice (some ⟨g, 0, none⟩) (n + 1) cap] 61)).cell? ⟨g, i + 1, none⟩ = some (.int .i64 u1) := ((Ext.one w _).cell (p := ⟨g, i + 1, none⟩) (World.block_lt_of_cell? _ _ x1)).trans x1
  have y2 : (w.alloc (.cells #[.map (some B), .slice (some ⟨g, 0, none⟩) (n + 1) cap] 61)).cell? ⟨g, p, none⟩ = some (.int .i64 u2) := ((Ext.one w _).cell (p := ⟨g, p, none⟩) (World.block_lt_of_cell? _ _ x2)).trans x2
  have z1 : (w.alloc (.cells #[.map (some B), .slice (some ⟨g, 0, none⟩) (n + 1) cap] 61)).cell? ⟨w.heap.size, 0, none⟩ = some (.map (some B)) := by simp [go_sem]
  have z2 : (w.alloc (.cells #[.map (some B), .slice (some ⟨g, 0, none⟩) (n + 1) cap] 61)).cell? ⟨w.heap.size, 1, none⟩ = some (.slice (some ⟨g, 0, none⟩) (n + 1) cap) := by simp [go_sem]
  clear hm hr hf hs hl x1 x2 hM o1 o2 hk hlab
  go_enter Try.func71, Try.ntmps71
  go_wp2_with fail
  generalize hW : w.alloc (.cells #[.map (some B), .slice (some ⟨g, 0, none⟩) (n + 1) cap] 61) = W at *
  have HW : Hid (Ext w W) := by rw [← hW]; exact Ext.one _ _
  generalize hb : w.heap.size = b at *
  refine' wp_region_loose (.inl _ :: .inl _ :: .inl _ :: .inl _ :: .inl _ :: .inl _ :: .inl _ :: .inl _ :: .inl _ :: .inl _ :: .inl _ :: .inl _ :: .inl _ :: .inl _ :: .inl _ :: .inl _ :: []) (fun w' => MapOf w' B n M ∧ w'.cell? ⟨g, i + 1, none⟩ = some (.int .i64 u1) ∧ w'.cell? ⟨g, p, none⟩ = some (.int .i64 u2) ∧ w'.cell? ⟨b, 0, none⟩ = some (.map (some B)) ∧ w'.cell? ⟨b, 1, none⟩ = some (.slice (some ⟨g, 0, none⟩) (n + 1) cap)) (by kernel_rfl) (by kernel_rfl) (⟨m1, y1, y2, z1, z2⟩) (fun _ _ h hE => ⟨h.1.ext hE, (hE.cell (p := ⟨g, i + 1, none⟩) (World.block_lt_of_cell? _ _ h.2.1)).trans h.2.1, (hE.cell (p := ⟨g, p, none⟩) (World.block_lt_of_cell? _ _ h.2.2.1)).trans h.2.2.1, (hE.cell (p := ⟨b, 0, none⟩) (World.block_lt_of_cell? _ _ h.2.2.2.1)).trans h.2.2.2.1, (hE.cell (p := ⟨b, 1, none⟩) (World.block_lt_of_cell? _ _ h.2.2.2.2)).trans h.2.2.2.2⟩) ?hAa ?hla ?hMa
  case' hMa => skip
  apply wpLoose_val rfl rfl
  case hs =>
    intro w1 hC hd Q1 hQ1
    obtain ⟨hE, hS⟩ := hC
    dsimp only [bare]
    obtain ⟨qm, q1, q2, q3, q4⟩ := hS; have hlk := qm.look HLB.out; rw [HM.out] at hlk; simp only [Option.getD_some] at hlk; clear qm
    clear hd hE
    try clear hS
    go_wp2
    exact Ext.refl _
  case ha => rfl
  apply wpLoose_val rfl rfl
  case hs =>
    intro w1 hC hd Q1 hQ1
    obtain ⟨hE, hS⟩ := hC
    dsimp only [bare]
    obtain ⟨qm, q1, q2, q3, q4⟩ := hS; have hlk := qm.look HLB.out; rw [HM.out] at hlk; simp only [Option.getD_some] at hlk; clear qm
    clear hd hE
    try clear hS
    go_wp2
    exact Ext.refl _
  case ha => rfl
  apply wpLoose_val rfl rfl
  case hs =>
    intro w1 hC hd Q1 hQ1
    obtain ⟨hE, hS⟩ := hC
    dsimp only [bare]
    obtain ⟨qm, q1, q2, q3, q4⟩ := hS; have hlk := qm.look HLB.out; rw [HM.out] at hlk; simp only [Option.getD_some] at hlk; clear qm
    clear hd hE
    try clear hS
    go_wp2
    exact Ext.refl _
  case ha => rfl
  apply wpLoose_val rfl rfl
  case hs =>
    intro w1 hC hd Q1 hQ1
    obtain ⟨hE, hS⟩ := hC
    dsimp only [bare]
    obtain ⟨qm, q1, q2, q3, q4⟩ := hS; have hlk := qm.look HLB.out; rw [HM.out] at hlk; simp only [Option.getD_some] at hlk; clear qm
    clear hd hE
    try clear hS
    go_wp2
    exact Ext.refl _
  case ha => rfl
  apply wpLoose_val rfl rfl
  case hs =>
    intro w1 hC hd Q1 hQ1
    obtain ⟨hE, hS⟩ := hC
    dsimp only [bare]
    obtain ⟨qm, q1, q2, q3, q4⟩ := hS; have hlk := qm.look HLB.out; rw [HM.out] at hlk; simp only [Option.getD_some] at hlk; clear qm
    clear hd hE
    try clear hS
    go_wp2
    exact Ext.refl _
  case ha => rfl
  apply wpLoose_val rfl rfl
  case hs =>
    intro w1 hC hd Q1 hQ1
    obtain ⟨hE, hS⟩ := hC
    dsimp only [bare]
    obtain ⟨qm, q1, q2, q3, q4⟩ := hS; have hlk := qm.look HLB.out; rw [HM.out] at hlk; simp only [Option.getD_some] at hlk; clear qm
    clear hd hE
    try clear hS
    go_wp2
    exact Ext.refl _
  case ha => rfl
  apply wpLoose_val rfl rfl
  case hs =>
    intro w1 hC hd Q1 hQ1
    obtain ⟨hE, hS⟩ := hC
    dsimp only [bare]
    obtain ⟨qm, q1, q2, q3, q4⟩ := hS; have hlk := qm.look HLB.out; rw [HM.out] at hlk; simp only [Option.getD_some] at hlk; clear qm
    clear hd hE
    try clear hS
    go_wp2
    exact Ext.refl _
  case ha => rfl
  apply wpLoose_val rfl rfl
  case hs =>
    intro w1 hC hd Q1 hQ1
    obtain ⟨hE, hS⟩ := hC
    dsimp only [bare]
    obtain ⟨qm, q1, q2, q3, q4⟩ := hS; have hlk := qm.look HLB.out; rw [HM.out] at hlk; simp only [Option.getD_some] at hlk; clear qm
    clear hd hE
    try clear hS
    go_wp2
    exact Ext.refl _
  case ha => rfl
  apply wpLoose_val rfl rfl
  case hs =>
    intro w1 hC hd Q1 hQ1
    obtain ⟨hE, hS⟩ := hC
    dsimp only [bare]
    obtain ⟨qm, q1, q2, q3, q4⟩ := hS; have hlk := qm.look HLB.out; rw [HM.out] at hlk; simp only [Option.getD_some] at hlk; clear qm
    clear hd hE
    try clear hS
    go_wp2
    exact Ext.refl _
  case ha => rfl
  apply wpLoose_val rfl rfl
  case hs =>
    intro w1 hC hd Q1 hQ1
    obtain ⟨hE, hS⟩ := hC
    dsimp only [bare]
    obtain ⟨qm, q1, q2, q3, q4⟩ := hS; have hlk := qm.look HLB.out; rw [HM.out] at hlk; simp only [Option.getD_some] at hlk; clear qm
    clear hd hE
    try clear hS
    go_wp2
    exact Ext.refl _
  case ha => rfl
  apply wpLoose_val rfl rfl
  case hs =>
    intro w1 hC hd Q1 hQ1
    obtain ⟨hE, hS⟩ := hC
    dsimp only [bare]
    obtain ⟨qm, q1, q2, q3, q4⟩ := hS; have hlk := qm.look HLB.out; rw [HM.out] at hlk; simp only [Option.getD_some] at hlk; clear qm
    clear hd hE
    try clear hS
    go_wp2
    exact Ext.refl _
  case ha => rfl
  apply wpLoose_val rfl rfl
  case hs =>
    intro w1 hC hd Q1 hQ1
    obtain ⟨hE, hS⟩ := hC
    dsimp only [bare]
    obtain ⟨qm, q1, q2, q3, q4⟩ := hS; have hlk := qm.look HLB.out; rw [HM.out] at hlk; simp only [Option.getD_some] at hlk; clear qm
    clear hd hE
    try clear hS
    go_wp2
    exact Ext.refl _
  case ha => rfl
  apply wpLoose_val rfl rfl
  case hs =>
    intro w1 hC hd Q1 hQ1
    obtain ⟨hE, hS⟩ := hC
    dsimp only [bare]
    obtain ⟨qm, q1, q2, q3, q4⟩ := hS; have hlk := qm.look HLB.out; rw [HM.out] at hlk; simp only [Option.getD_some] at hlk; clear qm
    clear hd hE
    try clear hS
    go_wp2
    exact Ext.refl _
  case ha => rfl
  apply wpLoose_val rfl rfl
  case hs =>
    intro w1 hC hd Q1 hQ1
    obtain ⟨hE, hS⟩ := hC
    dsimp only [bare]
    obtain ⟨qm, q1, q2, q3, q4⟩ := hS; have hlk := qm.look HLB.out; rw [HM.out] at hlk; simp only [Option.getD_some] at hlk; clear qm
    clear hd hE
    try clear hS
    go_wp2
    exact Ext.refl _
  case ha => rfl
  apply wpLoose_val rfl rfl
  case hs =>
    intro w1 hC hd Q1 hQ1
    obtain ⟨hE, hS⟩ := hC
    dsimp only [bare]
    obtain ⟨qm, q1, q2, q3, q4⟩ := hS; have hlk := qm.look HLB.out; rw [HM.out] at hlk; simp only [Option.getD_some] at hlk; clear qm
    clear hd hE
    try clear hS
    go_wp2
    exact Ext.refl _
  case ha => rfl
  apply wpLoose_val rfl rfl
  case hs =>
    intro w1 hC hd Q1 hQ1
    obtain ⟨hE, hS⟩ := hC
    dsimp only [bare]
    obtain ⟨qm, q1, q2, q3, q4⟩ := hS; have hlk := qm.look HLB.out; rw [HM.out] at hlk; simp only [Option.getD_some] at hlk; clear qm
    clear hd hE
    try clear hS
    go_wp2
    exact Ext.refl _
  case ha => rfl
  refine wpLoose_nil ?_
  intro wa hEa hSa hFa
  have E2 : Hid (Ext w wa) := HW.out.drew.trans hEa
  clear hFa hSa hEa m1 y1 y2 z1 z2 hW hb
  go_wp2
  go_ret
  exact ⟨by rw [← HV.out]; rfl, E2.out⟩
  case hAa => kernel_rfl
  case hla => exact ⟨trivial, trivial, trivial, trivial, trivial, trivial, trivial, trivial, trivial, trivial, trivial, trivial, trivial, trivial, trivial, trivial, trivial⟩

end Go.Proofs.Ytakcmiijnckaaaa
