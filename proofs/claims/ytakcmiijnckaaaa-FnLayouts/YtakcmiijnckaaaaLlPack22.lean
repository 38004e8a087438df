/- Lines as they are drawn, block by block: each is right. -/
import Derived.Test.YtakcmiijnckaaaaLlPack21
import Derived.Test.YtakcmiijnckaaaaLlPack10
import Derived.Deep.AppendLies
import Derived.Deep.RegionHeld3
import Derived.Deep.Cut
/- Rows of numbers that a call made itself, each number told by its place. -/
namespace Go.Proofs.Ytakcmiijnckaaaa
open Go.RowKit
set_option linter.unusedVariables false

/-- Block g holds n numbers from its head on, f told, which may be written. -/
def RowF (w : World) (g n : Nat) (f : Nat → Int) : Prop := g < w.heap.size ∧ ∀ j, j < n → w.cell? ⟨g, j, none⟩ = some (.int .i64 (f j)) ∧ w.frozen? ⟨g, j, none⟩ = false

theorem RowF.below {w w' : World} {g n B : Nat} {f : Nat → Int} (h : RowF w g n f) (hb : Below B w w') (hB : g < B) : RowF w' g n f :=
  ⟨Nat.lt_of_lt_of_le h.1 hb.size, fun j hj => ⟨(hb.cell (p := ⟨g, j, none⟩) hB).trans (h.2 j hj).1, (hb.frozen (p := ⟨g, j, none⟩) hB).trans (h.2 j hj).2⟩⟩

theorem RowF.ext {w w' : World} {g n : Nat} {f : Nat → Int} (h : RowF w g n f) (hE : Ext w w') : RowF w' g n f := h.below hE h.1

theorem RowF.as {w : World} {g n : Nat} {f t : Nat → Int} (h : RowF w g n f) (he : ∀ j, j < n → f j = t j) : RowF w g n t :=
  ⟨h.1, fun j hj => ⟨by rw [← he j hj]; exact (h.2 j hj).1, (h.2 j hj).2⟩⟩

/-- One number is written. -/
def setF (f : Nat → Int) (i : Nat) (v : Int) : Nat → Int := fun j => if j = i then v else f j

theorem RowF.set {w : World} {g n : Nat} {f : Nat → Int} (h : RowF w g n f) {i : Nat} (hi : i < n) (v : Int) : RowF (w.setCell ⟨g, i, none⟩ (.int .i64 v)) g n (setF f i v) := by
  refine ⟨by rw [World.size_setCell]; exact h.1, fun j hj => ⟨?_, by rw [World.frozen?_setCell]; exact (h.2 j hj).2⟩⟩
  unfold setF
  by_cases e : j = i
  · subst e; rw [if_pos rfl]; exact set_same _ (h.2 j hj).1
  · rw [if_neg e, set_far (off_ne e)]; exact (h.2 j hj).1

theorem RowF.far {w : World} {g n : Nat} {f : Nat → Int} (h : RowF w g n f) {k i : Nat} (hk : g ≠ k) (v : Value) : RowF (w.setCell ⟨k, i, none⟩ v) g n f :=
  ⟨by rw [World.size_setCell]; exact h.1, fun j hj => ⟨by rw [set_far (fun e => hk (by injection e))]; exact (h.2 j hj).1, by rw [World.frozen?_setCell]; exact (h.2 j hj).2⟩⟩

/-- The values of the first n. -/
def valsF (f : Nat → Int) (n : Nat) : List Value := (List.range n).map fun i => .int .i64 (f i)

theorem ext_row {w W W' : World} {row : Option Nat} (h : Ext w W) (hg : W.grownBy W' row) (hr : ∀ x, row = some x → w.heap.size ≤ x) : Ext w W' :=
  ⟨hg.os.trans h.os, hg.tape.trans h.tape, hg.output.trans h.output, Nat.le_trans h.size hg.size, fun i hi => (hg.block i (Nat.lt_of_lt_of_le hi h.size) (fun e => by have := hr i e.symm; omega)).trans (h.block i hi)⟩

theorem own_from {w : World} {base e size : Nat} {v : Value} {n : Nat} {xs : List Value} (h : w.ownsRow base e size v n xs) {x : Nat} (hx : v.ownBlock = some x) : base ≤ x := (h.lt x hx).1

/-- Where a way leads: -1 without one. -/
def wayV (ls : List Ln) (s : ByteArray) : Int := if s = noText then -1 else atV ls s

/-- Two rows of their own, of k numbers each: where the ways of the first k lines lead. -/
def TwoF (ls : List Ln) (w W : World) (k g1 c1 g2 c2 : Nat) : Prop :=
  W.ownsRow w.heap.size 3 1 (.slice (some ⟨g1, 0, none⟩) k c1) k (valsF (fun i => wayV ls (ls.getD i zeroL).yes) k) ∧ W.ownsRow w.heap.size 3 1 (.slice (some ⟨g2, 0, none⟩) k c2) k (valsF (fun i => wayV ls (ls.getD i zeroL).no) k) ∧ g1 ≠ g2 ∧ Ext w W

theorem TwoF.ext {ls : List Ln} {w W W' : World} {k g1 c1 g2 c2 : Nat} (h : TwoF ls w W k g1 c1 g2 c2) (hE : Ext W W') : TwoF ls w W' k g1 c1 g2 c2 :=
  ⟨own_below h.1 hE, own_below h.2.1 hE, h.2.2.1, h.2.2.2.trans hE⟩

/-- A plan of these lines, known from line k on: the map in block B, in block g how many words a line and all behind it become. -/
def PlanP (W : World) (ls : List Ln) (s : Nat → Nat) (B g k : Nat) : Prop :=
  MapOf W B ls.length (upTo ls ls.length) ∧ ∃ f : Nat → Int, RowF W g (ls.length + 1) f ∧ ∀ j, k ≤ j → j ≤ ls.length → f j = (cnt s ls.length : Int) - (cnt s j : Int)

theorem PlanP.ext {W W' : World} {ls : List Ln} {s : Nat → Nat} {B g k : Nat} (h : PlanP W ls s B g k) (hE : Ext W W') : PlanP W' ls s B g k := by
  obtain ⟨h1, f, h2, h3⟩ := h
  exact ⟨h1.ext hE, f, h2.ext hE, h3⟩

set_option maxRecDepth 100000 in
set_option maxHeartbeats 4000000 in
theorem over_any (ls : List Ln) (s : Nat → Nat) (B g k cap i : Nat) (lab : ByteArray) (w : World) (hl : linesP ls) (hs : sizesP ls s) (h : PlanP w ls s B g k) (hk : k ≤ i + 1) (hon : onP ls i lab) (hlab : lab.size ≤ 1048576) :
    Calls Try.prog 71 #[.agg #[.map (some B), .slice (some ⟨g, 0, none⟩) (ls.length + 1) cap], .int .i64 (i : Int), .string lab] w fun e w' => e = .returned (.int .i64 (overL ls s i lab : Nat)) ∧ Ext w w' := by
  obtain ⟨hm, f, hr, hf⟩ := h
  obtain ⟨o1, o2⟩ := hon
  have hM : upTo ls ls.length lab = some (pos ls lab) := upTo_pos hl ⟨o1, o2⟩
  have hu1 := hf (i + 1) hk (by omega)
  have hu2 := hf (pos ls lab) (by omega) (by omega)
  have x1 := (hr.2 (i + 1) (by omega)).1
  have x2 := (hr.2 (pos ls lab) (by omega)).1
  have HV : Hid (f (i + 1) - f (pos ls lab) = (overL ls s i lab : Nat)) := by
    have := cnt_mono s (a := i + 1) (b := pos ls lab) o1
    show _ = _
    unfold overL
    omega
  have hc1 := cnt_le hs (n := ls.length) (Nat.le_refl _)
  have hc2 := cnt_le hs (n := i + 1) (by omega)
  have hc3 := cnt_le hs (n := pos ls lab) (by omega)
  have hn6 := hl.1.2
  generalize f (i + 1) = u1 at *
  generalize f (pos ls lab) = u2 at *
  have v1 : -1800 ≤ u1 ∧ u1 ≤ 1800 := by omega
  have v2 : -1800 ≤ u2 ∧ u2 ≤ 1800 := by omega
  clear hu1 hu2 hc1 hc2 hc3
  generalize overL ls s i lab = v at *
  generalize pos ls lab = p at *
  have HM : Hid (upTo ls ls.length lab = some p) := hM
  have HLB : Hid (lab.size ≤ maxLen) := by show _ ≤ _; unfold maxLen; omega
  generalize upTo ls ls.length = M at *
  generalize ls.length = n at *
  have bi : (i : Int) + 1 < (n : Int) + 1 := by omega
  have bp : (p : Int) < (n : Int) + 1 := by omega
  have m1 : MapOf (w.alloc (.cells #[.map (some B), .slice (some ⟨g, 0, none⟩) (n + 1) cap] 61)) B n M := hm.below (Below.alloc (Below.refl _ w) (Nat.le_refl _) _) hm.lt
  have y1 : (w.alloc (.cells #[.map (some B), .slice (some ⟨g, 0, none⟩) (n + 1) cap] 61)).cell? ⟨g, i + 1, none⟩ = some (.int .i64 u1) := ((Ext.one w _).cell (p := ⟨g, i + 1, none⟩) (World.block_lt_of_cell? _ _ x1)).trans x1
  have y2 : (w.alloc (.cells #[.map (some B), .slice (some ⟨g, 0, none⟩) (n + 1) cap] 61)).cell? ⟨g, p, none⟩ = some (.int .i64 u2) := ((Ext.one w _).cell (p := ⟨g, p, none⟩) (World.block_lt_of_cell? _ _ x2)).trans x2
  have z1 : (w.alloc (.cells #[.map (some B), .slice (some ⟨g, 0, none⟩) (n + 1) cap] 61)).cell? ⟨w.heap.size, 0, none⟩ = some (.map (some B)) := by simp [go_sem]
  have z2 : (w.alloc (.cells #[.map (some B), .slice (some ⟨g, 0, none⟩) (n + 1) cap] 61)).cell? ⟨w.heap.size, 1, none⟩ = some (.slice (some ⟨g, 0, none⟩) (n + 1) cap) := by simp [go_sem]
  clear hm hr hf hs hl x1 x2 hM o1 o2 hk hlab
  go_enter Try.func71, Try.ntmps71
  go_wp2_with fail
  generalize hW : w.alloc (.cells #[.map (some B), .slice (some ⟨g, 0, none⟩) (n + 1) cap] 61) = W at *
  have HW : Hid (Ext w W) := by rw [← hW]; exact Ext.one _ _
  generalize hb : w.heap.size = b at *
  refine' wp_region_loose (.inl _ :: .inl _ :: .inl _ :: .inl _ :: .inl _ :: .inl _ :: .inl _ :: .inl _ :: .inl _ :: .inl _ :: .inl _ :: .inl _ :: .inl _ :: .inl _ :: .inl _ :: .inl _ :: []) (fun w' => MapOf w' B n M ∧ w'.cell? ⟨g, i + 1, none⟩ = some (.int .i64 u1) ∧ w'.cell? ⟨g, p, none⟩ = some (.int .i64 u2) ∧ w'.cell? ⟨b, 0, none⟩ = some (.map (some B)) ∧ w'.cell? ⟨b, 1, none⟩ = some (.slice (some ⟨g, 0, none⟩) (n + 1) cap)) (by kernel_rfl) (by kernel_rfl) (⟨m1, y1, y2, z1, z2⟩) (fun _ _ h hE => ⟨h.1.ext hE, (hE.cell (p := ⟨g, i + 1, none⟩) (World.block_lt_of_cell? _ _ h.2.1)).trans h.2.1, (hE.cell (p := ⟨g, p, none⟩) (World.block_lt_of_cell? _ _ h.2.2.1)).trans h.2.2.1, (hE.cell (p := ⟨b, 0, none⟩) (World.block_lt_of_cell? _ _ h.2.2.2.1)).trans h.2.2.2.1, (hE.cell (p := ⟨b, 1, none⟩) (World.block_lt_of_cell? _ _ h.2.2.2.2)).trans h.2.2.2.2⟩) ?hAa ?hla ?hMa
  case' hMa => skip
  apply wpLoose_val rfl rfl
  case hs =>
    intro w1 hC hd Q1 hQ1
    obtain ⟨hE, hS⟩ := hC
    dsimp only [bare]
    obtain ⟨qm, q1, q2, q3, q4⟩ := hS; have hlk := qm.look HLB.out; rw [HM.out] at hlk; simp only [Option.getD_some] at hlk; clear qm
    clear hd hE
    try clear hS
    go_wp2
    exact Ext.refl _
  case ha => rfl
  apply wpLoose_val rfl rfl
  case hs =>
    intro w1 hC hd Q1 hQ1
    obtain ⟨hE, hS⟩ := hC
    dsimp only [bare]
    obtain ⟨qm, q1, q2, q3, q4⟩ := hS; have hlk := qm.look HLB.out; rw [HM.out] at hlk; simp only [Option.getD_some] at hlk; clear qm
    clear hd hE
    try clear hS
    go_wp2
    exact Ext.refl _
  case ha => rfl
  apply wpLoose_val rfl rfl
  case hs =>
    intro w1 hC hd Q1 hQ1
    obtain ⟨hE, hS⟩ := hC
    dsimp only [bare]
    obtain ⟨qm, q1, q2, q3, q4⟩ := hS; have hlk := qm.look HLB.out; rw [HM.out] at hlk; simp only [Option.getD_some] at hlk; clear qm
    clear hd hE
    try clear hS
    go_wp2
    exact Ext.refl _
  case ha => rfl
  apply wpLoose_val rfl rfl
  case hs =>
    intro w1 hC hd Q1 hQ1
    obtain ⟨hE, hS⟩ := hC
    dsimp only [bare]
    obtain ⟨qm, q1, q2, q3, q4⟩ := hS; have hlk := qm.look HLB.out; rw [HM.out] at hlk; simp only [Option.getD_some] at hlk; clear qm
    clear hd hE
    try clear hS
    go_wp2
    exact Ext.refl _
  case ha => rfl
  apply wpLoose_val rfl rfl
  case hs =>
    intro w1 hC hd Q1 hQ1
    obtain ⟨hE, hS⟩ := hC
    dsimp only [bare]
    obtain ⟨qm, q1, q2, q3, q4⟩ := hS; have hlk := qm.look HLB.out; rw [HM.out] at hlk; simp only [Option.getD_some] at hlk; clear qm
    clear hd hE
    try clear hS
    go_wp2
    exact Ext.refl _
  case ha => rfl
  apply wpLoose_val rfl rfl
  case hs =>
    intro w1 hC hd Q1 hQ1
    obtain ⟨hE, hS⟩ := hC
    dsimp only [bare]
    obtain ⟨qm, q1, q2, q3, q4⟩ := hS; have hlk := qm.look HLB.out; rw [HM.out] at hlk; simp only [Option.getD_some] at hlk; clear qm
    clear hd hE
    try clear hS
    go_wp2
    exact Ext.refl _
  case ha => rfl
  apply wpLoose_val rfl rfl
  case hs =>
    intro w1 hC hd Q1 hQ1
    obtain ⟨hE, hS⟩ := hC
    dsimp only [bare]
    obtain ⟨qm, q1, q2, q3, q4⟩ := hS; have hlk := qm.look HLB.out; rw [HM.out] at hlk; simp only [Option.getD_some] at hlk; clear qm
    clear hd hE
    try clear hS
    go_wp2
    exact Ext.refl _
  case ha => rfl
  apply wpLoose_val rfl rfl
  case hs =>
    intro w1 hC hd Q1 hQ1
    obtain ⟨hE, hS⟩ := hC
    dsimp only [bare]
    obtain ⟨qm, q1, q2, q3, q4⟩ := hS; have hlk := qm.look HLB.out; rw [HM.out] at hlk; simp only [Option.getD_some] at hlk; clear qm
    clear hd hE
    try clear hS
    go_wp2
    exact Ext.refl _
  case ha => rfl
  apply wpLoose_val rfl rfl
  case hs =>
    intro w1 hC hd Q1 hQ1
    obtain ⟨hE, hS⟩ := hC
    dsimp only [bare]
    obtain ⟨qm, q1, q2, q3, q4⟩ := hS; have hlk := qm.look HLB.out; rw [HM.out] at hlk; simp only [Option.getD_some] at hlk; clear qm
    clear hd hE
    try clear hS
    go_wp2
    exact Ext.refl _
  case ha => rfl
  apply wpLoose_val rfl rfl
  case hs =>
    intro w1 hC hd Q1 hQ1
    obtain ⟨hE, hS⟩ := hC
    dsimp only [bare]
    obtain ⟨qm, q1, q2, q3, q4⟩ := hS; have hlk := qm.look HLB.out; rw [HM.out] at hlk; simp only [Option.getD_some] at hlk; clear qm
    clear hd hE
    try clear hS
    go_wp2
    exact Ext.refl _
  case ha => rfl
  apply wpLoose_val rfl rfl
  case hs =>
    intro w1 hC hd Q1 hQ1
    obtain ⟨hE, hS⟩ := hC
    dsimp only [bare]
    obtain ⟨qm, q1, q2, q3, q4⟩ := hS; have hlk := qm.look HLB.out; rw [HM.out] at hlk; simp only [Option.getD_some] at hlk; clear qm
    clear hd hE
    try clear hS
    go_wp2
    exact Ext.refl _
  case ha => rfl
  apply wpLoose_val rfl rfl
  case hs =>
    intro w1 hC hd Q1 hQ1
    obtain ⟨hE, hS⟩ := hC
    dsimp only [bare]
    obtain ⟨qm, q1, q2, q3, q4⟩ := hS; have hlk := qm.look HLB.out; rw [HM.out] at hlk; simp only [Option.getD_some] at hlk; clear qm
    clear hd hE
    try clear hS
    go_wp2
    exact Ext.refl _
  case ha => rfl
  apply wpLoose_val rfl rfl
  case hs =>
    intro w1 hC hd Q1 hQ1
    obtain ⟨hE, hS⟩ := hC
    dsimp only [bare]
    obtain ⟨qm, q1, q2, q3, q4⟩ := hS; have hlk := qm.look HLB.out; rw [HM.out] at hlk; simp only [Option.getD_some] at hlk; clear qm
    clear hd hE
    try clear hS
    go_wp2
    exact Ext.refl _
  case ha => rfl
  apply wpLoose_val rfl rfl
  case hs =>
    intro w1 hC hd Q1 hQ1
    obtain ⟨hE, hS⟩ := hC
    dsimp only [bare]
    obtain ⟨qm, q1, q2, q3, q4⟩ := hS; have hlk := qm.look HLB.out; rw [HM.out] at hlk; simp only [Option.getD_some] at hlk; clear qm
    clear hd hE
    try clear hS
    go_wp2
    exact Ext.refl _
  case ha => rfl
  apply wpLoose_val rfl rfl
  case hs =>
    intro w1 hC hd Q1 hQ1
    obtain ⟨hE, hS⟩ := hC
    dsimp only [bare]
    obtain ⟨qm, q1, q2, q3, q4⟩ := hS; have hlk := qm.look HLB.out; rw [HM.out] at hlk; simp only [Option.getD_some] at hlk; clear qm
    clear hd hE
    try clear hS
    go_wp2
    exact Ext.refl _
  case ha => rfl
  apply wpLoose_val rfl rfl
  case hs =>
    intro w1 hC hd Q1 hQ1
    obtain ⟨hE, hS⟩ := hC
    dsimp only [bare]
    obtain ⟨qm, q1, q2, q3, q4⟩ := hS; have hlk := qm.look HLB.out; rw [HM.out] at hlk; simp only [Option.getD_some] at hlk; clear qm
    clear hd hE
    try clear hS
    go_wp2
    exact Ext.refl _
  case ha => rfl
  refine wpLoose_nil ?_
  intro wa hEa hSa hFa
  have E2 : Hid (Ext w wa) := HW.out.drew.trans hEa
  clear hFa hSa hEa m1 y1 y2 z1 z2 hW hb
  go_wp2
  go_ret
  exact ⟨by rw [← HV.out]; rfl, E2.out⟩
  case hAa => kernel_rfl
  case hla => exact ⟨trivial, trivial, trivial, trivial, trivial, trivial, trivial, trivial, trivial, trivial, trivial, trivial, trivial, trivial, trivial, trivial, trivial⟩

set_option maxRecDepth 100000 in
set_option maxHeartbeats 4000000 in
theorem sizeOf_any (ls : List Ln) (s : Nat → Nat) (B g k cap i : Nat) (lab yes no : ByteArray) (o kk y nn : Int) (w : World) (hl : linesP ls) (hs : sizesP ls s) (h : PlanP w ls s B g k) (hk : k ≤ i + 1) (hi : i < ls.length) (hp : Ln.mk lab (o, kk, y, nn) yes no = ls.getD i zeroL) (ht : yes.size ≤ 1048576 ∧ no.size ≤ 1048576) :
    Calls Try.prog 70 #[.agg #[.map (some B), .slice (some ⟨g, 0, none⟩) (ls.length + 1) cap], .int .i64 (i : Int), .agg #[.string lab, .int .i64 o, .int .i64 kk, .int .i64 y, .int .i64 nn, .string yes, .string no]] w fun e w' => e = .returned (.int .i64 (s i : Nat)) ∧ Ext w w' := by
  obtain ⟨W, hW⟩ : ∃ W, W = (w.alloc (.cells #[.map (some B), .slice (some ⟨g, 0, none⟩) (ls.length + 1) cap] 61)).alloc (.cells #[.string lab, .int .i64 o, .int .i64 kk, .int .i64 y, .int .i64 nn, .string yes, .string no] 37) := ⟨_, rfl⟩
  have hx : Ext w W := by rw [hW]; exact (Ext.one _ _).alloc _
  have hb : Hept W (w.heap.size + 1) 0 ⟨lab, (o, kk, y, nn), yes, no⟩ := by
    rw [hW]
    have := hept_box (w.alloc (.cells #[.map (some B), .slice (some ⟨g, 0, none⟩) (ls.length + 1) cap] 61)) ⟨lab, (o, kk, y, nn), yes, no⟩ 37
    simpa using this
  have z1 : W.cell? ⟨w.heap.size, 0, none⟩ = some (.map (some B)) := by rw [hW]; simp [go_sem]
  have z2 : W.cell? ⟨w.heap.size, 1, none⟩ = some (.slice (some ⟨g, 0, none⟩) (ls.length + 1) cap) := by rw [hW]; simp [go_sem]
  have HS : Hid (∀ w1, Ext W w1 → Hept w1 (w.heap.size + 1) 0 ⟨lab, (o, kk, y, nn), yes, no⟩ ∧ w1.cell? ⟨w.heap.size, 0, none⟩ = some (.map (some B)) ∧ w1.cell? ⟨w.heap.size, 1, none⟩ = some (.slice (some ⟨g, 0, none⟩) (ls.length + 1) cap) ∧ PlanP w1 ls s B g k ∧ Ext w w1) := fun w1 hE => ⟨hb.ext hE, (hE.cell (p := ⟨w.heap.size, 0, none⟩) (World.block_lt_of_cell? _ _ z1)).trans z1, (hE.cell (p := ⟨w.heap.size, 1, none⟩) (World.block_lt_of_cell? _ _ z2)).trans z2, (h.ext hx).ext hE, hx.trans hE⟩
  have HOV : Hid (∀ (lb : ByteArray) (w1 : World), onP ls i lb → lb.size ≤ 1048576 → PlanP w1 ls s B g k → Calls Try.prog 71 #[.agg #[.map (some B), .slice (some ⟨g, 0, none⟩) (ls.length + 1) cap], .int .i64 (i : Int), .string lb] w1 fun e w' => e = .returned (.int .i64 (overL ls s i lb : Nat)) ∧ Ext w1 w') := fun lb w1 h1 h2 h3 => over_any ls s B g k cap i lb w1 hl hs h3 hk h1 h2
  have hsz := hs i hi
  unfold sizeP farL at hsz
  have hon := ask_on hl hi
  rw [← hp] at hsz hon
  simp only at hsz hon
  have HT : Hid (yes.size ≤ 1048576 ∧ no.size ≤ 1048576) := ht
  clear hb z1 z2 h hs hl hp hi hk ht hx
  generalize s i = v at *
  have HP : Hid (∀ w, Calls Try.prog 49 #[.agg #[.string lab, .int .i64 o, .int .i64 kk, .int .i64 y, .int .i64 nn, .string yes, .string no]] w fun e w' => e = .returned (.bool (o == 0)) ∧ Ext w w') := fun w => iPlace_any ⟨lab, (o, kk, y, nn), yes, no⟩ w
  have HQ : Hid (∀ w, Calls Try.prog 72 #[.agg #[.string lab, .int .i64 o, .int .i64 kk, .int .i64 y, .int .i64 nn, .string yes, .string no]] w fun e w' => e = .returned (.bool (askB o)) ∧ Ext w w') := fun w => iAsk_any ⟨lab, (o, kk, y, nn), yes, no⟩ w
  go_enter Try.func70, Try.ntmps70
  go_wp2_with fail
  rw [← hW]
  refine (HP.out _).mono ?_
  rintro e w2 ⟨rfl, e2⟩
  have S2 := HS.out w2 e2
  clear hW HP
  by_cases h0 : o = 0
  · have HV : Hid (v = 0) := by
      rcases hsz with ⟨_, h⟩ | ⟨h, _⟩ | ⟨h, _⟩ | ⟨h, _⟩
      · exact h
      · unfold askP at h; omega
      · unfold askP at h; omega
      · exact absurd h0 h
    subst h0
    have X : Hid (Ext w w2) := S2.2.2.2.2
    clear hsz hon S2 e2 HQ HOV
    go_wp2
    go_ret
    exact ⟨by rw [HV.out]; rfl, X.out⟩
  have q0 : (o == 0) = false := by simpa using h0
  cases ha : askB o with
  | false =>
    have HV : Hid (v = 1) := by
      have hna := askB_false.1 ha
      rcases hsz with ⟨h, _⟩ | ⟨h, _⟩ | ⟨h, _⟩ | ⟨_, _, h⟩
      · exact absurd h h0
      · exact absurd h hna
      · exact absurd h hna
      · exact h
    rw [ha] at HQ
    obtain ⟨⟨d0, d1, d2, d3, d4, d5, d6⟩, _, _, _, X⟩ := S2
    simp only [Nat.zero_add] at d0 d1 d2 d3 d4 d5 d6
    have X2 : Hid (Ext w w2) := X
    clear hsz hon X e2 HOV ha h0
    go_wp2_with fail
    refine' wp_region_loose (.inl _ :: .inl _ :: .inl _ :: .inl undef :: .inl undef :: .inl undef :: .inl undef :: .inl undef :: .inl undef :: .inl undef :: .inl undef :: .inl undef :: .inl undef :: .inl undef :: .inl undef :: .inl _ :: .inl _ :: []) (fun w' => Hept w' (w.heap.size + 1) 0 ⟨lab, (o, kk, y, nn), yes, no⟩) (by kernel_rfl) (by kernel_rfl) (by refine ⟨?_, ?_, ?_, ?_, ?_, ?_, ?_⟩ <;> simp only [Nat.zero_add] <;> assumption) (fun _ _ h hE => h.ext hE) ?hAa ?hla ?hMa
    case' hMa => skip
    apply wpLoose_val rfl rfl
    case hs =>
      intro w1 hC hd Q1 hQ1
      obtain ⟨hE, hS⟩ := hC
      dsimp only [bare]
      obtain ⟨q0, q1, q2, q3, q4, q5, q6⟩ := hS; simp only [Nat.zero_add] at q0 q1 q2 q3 q4 q5 q6
      clear hd hE
      try clear hS
      go_wp2
      exact Ext.refl _
    case ha => rfl
    apply wpLoose_val rfl rfl
    case hs =>
      intro w1 hC hd Q1 hQ1
      obtain ⟨hE, hS⟩ := hC
      dsimp only [bare]
      clear hd
      go_wp2_with fail
      refine (HQ.out _).mono ?_
      rintro e w2 ⟨rfl, hb⟩
      go_wp2_with fail
      exact hb
    case ha => rfl
    apply wpLoose_val rfl rfl
    case hs =>
      intro w1 hC hd Q1 hQ1
      obtain ⟨hE, hS⟩ := hC
      dsimp only [bare]
      obtain ⟨q0, q1, q2, q3, q4, q5, q6⟩ := hS; simp only [Nat.zero_add] at q0 q1 q2 q3 q4 q5 q6
      clear hd hE
      try clear hS
      go_wp2
      exact Ext.refl _
    case ha => rfl
    refine wpLoose_skip rfl rfl ?_
    try simp only [Act.put, List.setIfInBounds_toArray, List.set_cons_succ, List.set_cons_zero]
    refine wpLoose_skip rfl rfl ?_
    try simp only [Act.put, List.setIfInBounds_toArray, List.set_cons_succ, List.set_cons_zero]
    refine wpLoose_skip rfl rfl ?_
    try simp only [Act.put, List.setIfInBounds_toArray, List.set_cons_succ, List.set_cons_zero]
    refine wpLoose_skip rfl rfl ?_
    try simp only [Act.put, List.setIfInBounds_toArray, List.set_cons_succ, List.set_cons_zero]
    refine wpLoose_skip rfl rfl ?_
    try simp only [Act.put, List.setIfInBounds_toArray, List.set_cons_succ, List.set_cons_zero]
    refine wpLoose_skip rfl rfl ?_
    try simp only [Act.put, List.setIfInBounds_toArray, List.set_cons_succ, List.set_cons_zero]
    refine wpLoose_skip rfl rfl ?_
    try simp only [Act.put, List.setIfInBounds_toArray, List.set_cons_succ, List.set_cons_zero]
    refine wpLoose_skip rfl rfl ?_
    try simp only [Act.put, List.setIfInBounds_toArray, List.set_cons_succ, List.set_cons_zero]
    refine wpLoose_skip rfl rfl ?_
    try simp only [Act.put, List.setIfInBounds_toArray, List.set_cons_succ, List.set_cons_zero]
    refine wpLoose_skip rfl rfl ?_
    try simp only [Act.put, List.setIfInBounds_toArray, List.set_cons_succ, List.set_cons_zero]
    refine wpLoose_skip rfl rfl ?_
    try simp only [Act.put, List.setIfInBounds_toArray, List.set_cons_succ, List.set_cons_zero]
    refine wpLoose_skip rfl rfl ?_
    try simp only [Act.put, List.setIfInBounds_toArray, List.set_cons_succ, List.set_cons_zero]
    apply wpLoose_val rfl rfl
    case hs =>
      intro w1 hC hd Q1 hQ1
      obtain ⟨hE, hS⟩ := hC
      dsimp only [bare]
      obtain ⟨q0, q1, q2, q3, q4, q5, q6⟩ := hS; simp only [Nat.zero_add] at q0 q1 q2 q3 q4 q5 q6
      clear hd hE
      try clear hS
      go_wp2
      exact Ext.refl _
    case ha => rfl
    apply wpLoose_val rfl rfl
    case hs =>
      intro w1 hC hd Q1 hQ1
      obtain ⟨hE, hS⟩ := hC
      dsimp only [bare]
      obtain ⟨q0, q1, q2, q3, q4, q5, q6⟩ := hS; simp only [Nat.zero_add] at q0 q1 q2 q3 q4 q5 q6
      clear hd hE
      try clear hS
      go_wp2
      exact Ext.refl _
    case ha => rfl
    refine wpLoose_nil ?_
    intro wa hEa hSa hFa
    have E2 : Hid (Ext w wa) := X2.out.drew.trans hEa
    clear hFa hSa hEa
    go_wp2
    go_ret
    exact ⟨by rw [HV.out]; rfl, E2.out⟩
    case hAa => kernel_rfl
    case hla => exact ⟨trivial, trivial, trivial, trivial, trivial, trivial, trivial, trivial, trivial, trivial, trivial, trivial, trivial, trivial, trivial, trivial, trivial, trivial⟩
  | true =>
    obtain ⟨on1, on2⟩ := hon (askB_true.1 ha)
    have HO1 : Hid (onP ls i yes) := on1
    have HO2 : Hid (onP ls i no) := on2
    have hV : (15 < overL ls s i yes ∨ 15 < overL ls s i no) ∧ v = 3 ∨ ¬ (15 < overL ls s i yes ∨ 15 < overL ls s i no) ∧ v = 1 := by
      have hya := askB_true.1 ha
      rcases hsz with ⟨h, _⟩ | ⟨_, h1, h2⟩ | ⟨_, h1, h2⟩ | ⟨_, h, _⟩
      · exact absurd h h0
      · exact .inl ⟨h1, h2⟩
      · exact .inr ⟨h1, h2⟩
      · exact absurd hya h
    rw [ha] at HQ
    clear hon hsz ha h0 on1 on2
    have HOV1 : Hid (∀ w1, PlanP w1 ls s B g k → Calls Try.prog 71 #[.agg #[.map (some B), .slice (some ⟨g, 0, none⟩) (ls.length + 1) cap], .int .i64 (i : Int), .string yes] w1 fun e w' => e = .returned (.int .i64 (overL ls s i yes : Nat)) ∧ Ext w1 w') := fun w1 h1 => HOV.out yes w1 HO1.out HT.out.1 h1
    have HOV2 : Hid (∀ w1, PlanP w1 ls s B g k → Calls Try.prog 71 #[.agg #[.map (some B), .slice (some ⟨g, 0, none⟩) (ls.length + 1) cap], .int .i64 (i : Int), .string no] w1 fun e w' => e = .returned (.int .i64 (overL ls s i no : Nat)) ∧ Ext w1 w') := fun w1 h1 => HOV.out no w1 HO2.out HT.out.2 h1
    generalize overL ls s i yes = v1 at *
    generalize overL ls s i no = v2 at *
    by_cases hyn : (v1 : Int) < (v2 : Int)
    · obtain ⟨z, hz⟩ : ∃ z, z = decide (15 < (v2 : Int)) := ⟨_, rfl⟩
      have HV : Hid (v = if z = true then 3 else 1) := by
        show _ = _
        rw [hz]
        rcases hV with ⟨h, e⟩ | ⟨h, e⟩
        · rw [if_pos (by simp; omega), e]
        · rw [if_neg (by simp; omega), e]
      obtain ⟨⟨d0, d1, d2, d3, d4, d5, d6⟩, z1, z2, hpl, X⟩ := S2
      simp only [Nat.zero_add] at d0 d1 d2 d3 d4 d5 d6
      have X2 : Hid (Ext w w2) := X
      have hfd := hz.symm
      clear hV X e2 HOV hz
      generalize ls.length = n at *
      go_wp2_with fail
      refine' wp_region_loose (.inl _ :: .inl _ :: .inl _ :: .inl _ :: .inl _ :: .inl _ :: .inl _ :: .inl _ :: .inl _ :: .inl _ :: .inl _ :: .inl _ :: .inl _ :: .inl _ :: .inl _ :: .inl _ :: .inl _ :: []) (fun w' => Hept w' (w.heap.size + 1) 0 ⟨lab, (o, kk, y, nn), yes, no⟩ ∧ w'.cell? ⟨w.heap.size, 0, none⟩ = some (.map (some B)) ∧ w'.cell? ⟨w.heap.size, 1, none⟩ = some (.slice (some ⟨g, 0, none⟩) (n + 1) cap) ∧ PlanP w' ls s B g k) (by kernel_rfl) (by kernel_rfl) (⟨by refine ⟨?_, ?_, ?_, ?_, ?_, ?_, ?_⟩ <;> simp only [Nat.zero_add] <;> assumption, z1, z2, hpl⟩) (fun _ _ h hE => ⟨h.1.ext hE, (hE.cell (p := ⟨w.heap.size, 0, none⟩) (World.block_lt_of_cell? _ _ h.2.1)).trans h.2.1, (hE.cell (p := ⟨w.heap.size, 1, none⟩) (World.block_lt_of_cell? _ _ h.2.2.1)).trans h.2.2.1, h.2.2.2.ext hE⟩) ?hAb ?hlb ?hMb
      case' hMb => skip
      apply wpLoose_val rfl rfl
      case hs =>
        intro w1 hC hd Q1 hQ1
        obtain ⟨hE, hS⟩ := hC
        dsimp only [bare]
        obtain ⟨⟨q0, q1, q2, q3, q4, q5, q6⟩, q7, q8, _⟩ := hS; simp only [Nat.zero_add] at q0 q1 q2 q3 q4 q5 q6
        clear hd hE
        try clear hS
        go_wp2
        exact Ext.refl _
      case ha => rfl
      apply wpLoose_val rfl rfl
      case hs =>
        intro w1 hC hd Q1 hQ1
        obtain ⟨hE, hS⟩ := hC
        dsimp only [bare]
        clear hd
        go_wp2_with fail
        refine (HQ.out _).mono ?_
        rintro e w2 ⟨rfl, hb⟩
        go_wp2_with fail
        exact hb
      case ha => rfl
      apply wpLoose_val rfl rfl
      case hs =>
        intro w1 hC hd Q1 hQ1
        obtain ⟨hE, hS⟩ := hC
        dsimp only [bare]
        obtain ⟨⟨q0, q1, q2, q3, q4, q5, q6⟩, q7, q8, _⟩ := hS; simp only [Nat.zero_add] at q0 q1 q2 q3 q4 q5 q6
        clear hd hE
        try clear hS
        go_wp2
        exact Ext.refl _
      case ha => rfl
      apply wpLoose_val rfl rfl
      case hs =>
        intro w1 hC hd Q1 hQ1
        obtain ⟨hE, hS⟩ := hC
        dsimp only [bare]
        obtain ⟨⟨q0, q1, q2, q3, q4, q5, q6⟩, q7, q8, _⟩ := hS; simp only [Nat.zero_add] at q0 q1 q2 q3 q4 q5 q6
        clear hd hE
        try clear hS
        go_wp2
        exact Ext.refl _
      case ha => rfl
      apply wpLoose_val rfl rfl
      case hs =>
        intro w1 hC hd Q1 hQ1
        obtain ⟨hE, hS⟩ := hC
        dsimp only [bare]
        obtain ⟨⟨q0, q1, q2, q3, q4, q5, q6⟩, q7, q8, _⟩ := hS; simp only [Nat.zero_add] at q0 q1 q2 q3 q4 q5 q6
        clear hd hE
        try clear hS
        go_wp2
        exact Ext.refl _
      case ha => rfl
      apply wpLoose_val rfl rfl
      case hs =>
        intro w1 hC hd Q1 hQ1
        obtain ⟨hE, hS⟩ := hC
        dsimp only [bare]
        obtain ⟨⟨q0, q1, q2, q3, q4, q5, q6⟩, q7, q8, _⟩ := hS; simp only [Nat.zero_add] at q0 q1 q2 q3 q4 q5 q6
        clear hd hE
        try clear hS
        go_wp2
        exact Ext.refl _
      case ha => rfl
      apply wpLoose_val rfl rfl
      case hs =>
        intro w1 hC hd Q1 hQ1
        obtain ⟨hE, hS⟩ := hC
        dsimp only [bare]
        obtain ⟨⟨q0, q1, q2, q3, q4, q5, q6⟩, q7, q8, _⟩ := hS; simp only [Nat.zero_add] at q0 q1 q2 q3 q4 q5 q6
        clear hd hE
        try clear hS
        go_wp2
        exact Ext.refl _
      case ha => rfl
      apply wpLoose_val rfl rfl
      case hs =>
        intro w1 hC hd Q1 hQ1
        obtain ⟨hE, hS⟩ := hC
        dsimp only [bare]
        clear hd
        go_wp2_with fail
        refine (HOV1.out _ hS.2.2.2).mono ?_
        rintro e w2 ⟨rfl, hb⟩
        go_wp2_with fail
        exact hb
      case ha => rfl
      apply wpLoose_val rfl rfl
      case hs =>
        intro w1 hC hd Q1 hQ1
        obtain ⟨hE, hS⟩ := hC
        dsimp only [bare]
        obtain ⟨⟨q0, q1, q2, q3, q4, q5, q6⟩, q7, q8, _⟩ := hS; simp only [Nat.zero_add] at q0 q1 q2 q3 q4 q5 q6
        clear hd hE
        try clear hS
        go_wp2
        exact Ext.refl _
      case ha => rfl
      apply wpLoose_val rfl rfl
      case hs =>
        intro w1 hC hd Q1 hQ1
        obtain ⟨hE, hS⟩ := hC
        dsimp only [bare]
        obtain ⟨⟨q0, q1, q2, q3, q4, q5, q6⟩, q7, q8, _⟩ := hS; simp only [Nat.zero_add] at q0 q1 q2 q3 q4 q5 q6
        clear hd hE
        try clear hS
        go_wp2
        exact Ext.refl _
      case ha => rfl
      apply wpLoose_val rfl rfl
      case hs =>
        intro w1 hC hd Q1 hQ1
        obtain ⟨hE, hS⟩ := hC
        dsimp only [bare]
        obtain ⟨⟨q0, q1, q2, q3, q4, q5, q6⟩, q7, q8, _⟩ := hS; simp only [Nat.zero_add] at q0 q1 q2 q3 q4 q5 q6
        clear hd hE
        try clear hS
        go_wp2
        exact Ext.refl _
      case ha => rfl
      apply wpLoose_val rfl rfl
      case hs =>
        intro w1 hC hd Q1 hQ1
        obtain ⟨hE, hS⟩ := hC
        dsimp only [bare]
        obtain ⟨⟨q0, q1, q2, q3, q4, q5, q6⟩, q7, q8, _⟩ := hS; simp only [Nat.zero_add] at q0 q1 q2 q3 q4 q5 q6
        clear hd hE
        try clear hS
        go_wp2
        exact Ext.refl _
      case ha => rfl
      apply wpLoose_val rfl rfl
      case hs =>
        intro w1 hC hd Q1 hQ1
        obtain ⟨hE, hS⟩ := hC
        dsimp only [bare]
        clear hd
        go_wp2_with fail
        refine (HOV2.out _ hS.2.2.2).mono ?_
        rintro e w2 ⟨rfl, hb⟩
        go_wp2_with fail
        exact hb
      case ha => rfl
      apply wpLoose_val rfl rfl
      case hs =>
        intro w1 hC hd Q1 hQ1
        obtain ⟨hE, hS⟩ := hC
        dsimp only [bare]
        obtain ⟨⟨q0, q1, q2, q3, q4, q5, q6⟩, q7, q8, _⟩ := hS; simp only [Nat.zero_add] at q0 q1 q2 q3 q4 q5 q6
        clear hd hE
        try clear hS
        go_wp2
        exact Ext.refl _
      case ha => rfl
      apply wpLoose_val rfl rfl
      case hs =>
        intro w1 hC hd Q1 hQ1
        obtain ⟨hE, hS⟩ := hC
        dsimp only [bare]
        obtain ⟨⟨q0, q1, q2, q3, q4, q5, q6⟩, q7, q8, _⟩ := hS; simp only [Nat.zero_add] at q0 q1 q2 q3 q4 q5 q6
        clear hd hE
        try clear hS
        go_wp2
        exact Ext.refl _
      case ha => rfl
      apply wpLoose_val rfl rfl
      case hs =>
        intro w1 hC hd Q1 hQ1
        obtain ⟨hE, hS⟩ := hC
        dsimp only [bare]
        obtain ⟨⟨q0, q1, q2, q3, q4, q5, q6⟩, q7, q8, _⟩ := hS; simp only [Nat.zero_add] at q0 q1 q2 q3 q4 q5 q6
        clear hd hE
        try clear hS
        go_wp2
        exact Ext.refl _
      case ha => rfl
      apply wpLoose_val rfl rfl
      case hs =>
        intro w1 hC hd Q1 hQ1
        obtain ⟨hE, hS⟩ := hC
        dsimp only [bare]
        obtain ⟨⟨q0, q1, q2, q3, q4, q5, q6⟩, q7, q8, _⟩ := hS; simp only [Nat.zero_add] at q0 q1 q2 q3 q4 q5 q6
        clear hd hE
        try clear hS
        go_wp2
        exact Ext.refl _
      case ha => rfl
      refine wpLoose_nil ?_
      intro wb hEb hSb hFb
      have E2 : Hid (Ext w wb) := X2.out.drew.trans hEb
      clear hFb hSb hEb d0 d1 d2 d3 d4 d5 d6 z1 z2 hpl HOV1 HOV2 HQ
      cases z
      · go_wp2
        go_ret
        exact ⟨by rw [HV.out]; rfl, E2.out⟩
      · go_wp2
        go_ret
        exact ⟨by rw [HV.out]; rfl, E2.out⟩
      case hAb => kernel_rfl
      case hlb => exact ⟨trivial, trivial, trivial, trivial, trivial, trivial, trivial, trivial, trivial, trivial, trivial, trivial, trivial, trivial, trivial, trivial, trivial, trivial⟩
    · obtain ⟨z, hz⟩ : ∃ z, z = decide (15 < (v1 : Int)) := ⟨_, rfl⟩
      have HV : Hid (v = if z = true then 3 else 1) := by
        show _ = _
        rw [hz]
        rcases hV with ⟨h, e⟩ | ⟨h, e⟩
        · rw [if_pos (by simp; omega), e]
        · rw [if_neg (by simp; omega), e]
      obtain ⟨⟨d0, d1, d2, d3, d4, d5, d6⟩, z1, z2, hpl, X⟩ := S2
      simp only [Nat.zero_add] at d0 d1 d2 d3 d4 d5 d6
      have X2 : Hid (Ext w w2) := X
      have hfd := hz.symm
      clear hV X e2 HOV hz
      generalize ls.length = n at *
      go_wp2_with fail
      refine' wp_region_loose (.inl _ :: .inl _ :: .inl _ :: .inl _ :: .inl _ :: .inl _ :: .inl _ :: .inl _ :: .inl _ :: .inl _ :: .inl _ :: .inl _ :: .inl _ :: .inl _ :: .inl _ :: .inl _ :: .inl _ :: []) (fun w' => Hept w' (w.heap.size + 1) 0 ⟨lab, (o, kk, y, nn), yes, no⟩ ∧ w'.cell? ⟨w.heap.size, 0, none⟩ = some (.map (some B)) ∧ w'.cell? ⟨w.heap.size, 1, none⟩ = some (.slice (some ⟨g, 0, none⟩) (n + 1) cap) ∧ PlanP w' ls s B g k) (by kernel_rfl) (by kernel_rfl) (⟨by refine ⟨?_, ?_, ?_, ?_, ?_, ?_, ?_⟩ <;> simp only [Nat.zero_add] <;> assumption, z1, z2, hpl⟩) (fun _ _ h hE => ⟨h.1.ext hE, (hE.cell (p := ⟨w.heap.size, 0, none⟩) (World.block_lt_of_cell? _ _ h.2.1)).trans h.2.1, (hE.cell (p := ⟨w.heap.size, 1, none⟩) (World.block_lt_of_cell? _ _ h.2.2.1)).trans h.2.2.1, h.2.2.2.ext hE⟩) ?hAc ?hlc ?hMc
      case' hMc => skip
      apply wpLoose_val rfl rfl
      case hs =>
        intro w1 hC hd Q1 hQ1
        obtain ⟨hE, hS⟩ := hC
        dsimp only [bare]
        obtain ⟨⟨q0, q1, q2, q3, q4, q5, q6⟩, q7, q8, _⟩ := hS; simp only [Nat.zero_add] at q0 q1 q2 q3 q4 q5 q6
        clear hd hE
        try clear hS
        go_wp2
        exact Ext.refl _
      case ha => rfl
      apply wpLoose_val rfl rfl
      case hs =>
        intro w1 hC hd Q1 hQ1
        obtain ⟨hE, hS⟩ := hC
        dsimp only [bare]
        clear hd
        go_wp2_with fail
        refine (HQ.out _).mono ?_
        rintro e w2 ⟨rfl, hb⟩
        go_wp2_with fail
        exact hb
      case ha => rfl
      apply wpLoose_val rfl rfl
      case hs =>
        intro w1 hC hd Q1 hQ1
        obtain ⟨hE, hS⟩ := hC
        dsimp only [bare]
        obtain ⟨⟨q0, q1, q2, q3, q4, q5, q6⟩, q7, q8, _⟩ := hS; simp only [Nat.zero_add] at q0 q1 q2 q3 q4 q5 q6
        clear hd hE
        try clear hS
        go_wp2
        exact Ext.refl _
      case ha => rfl
      apply wpLoose_val rfl rfl
      case hs =>
        intro w1 hC hd Q1 hQ1
        obtain ⟨hE, hS⟩ := hC
        dsimp only [bare]
        obtain ⟨⟨q0, q1, q2, q3, q4, q5, q6⟩, q7, q8, _⟩ := hS; simp only [Nat.zero_add] at q0 q1 q2 q3 q4 q5 q6
        clear hd hE
        try clear hS
        go_wp2
        exact Ext.refl _
      case ha => rfl
      apply wpLoose_val rfl rfl
      case hs =>
        intro w1 hC hd Q1 hQ1
        obtain ⟨hE, hS⟩ := hC
        dsimp only [bare]
        obtain ⟨⟨q0, q1, q2, q3, q4, q5, q6⟩, q7, q8, _⟩ := hS; simp only [Nat.zero_add] at q0 q1 q2 q3 q4 q5 q6
        clear hd hE
        try clear hS
        go_wp2
        exact Ext.refl _
      case ha => rfl
      apply wpLoose_val rfl rfl
      case hs =>
        intro w1 hC hd Q1 hQ1
        obtain ⟨hE, hS⟩ := hC
        dsimp only [bare]
        obtain ⟨⟨q0, q1, q2, q3, q4, q5, q6⟩, q7, q8, _⟩ := hS; simp only [Nat.zero_add] at q0 q1 q2 q3 q4 q5 q6
        clear hd hE
        try clear hS
        go_wp2
        exact Ext.refl _
      case ha => rfl
      apply wpLoose_val rfl rfl
      case hs =>
        intro w1 hC hd Q1 hQ1
        obtain ⟨hE, hS⟩ := hC
        dsimp only [bare]
        obtain ⟨⟨q0, q1, q2, q3, q4, q5, q6⟩, q7, q8, _⟩ := hS; simp only [Nat.zero_add] at q0 q1 q2 q3 q4 q5 q6
        clear hd hE
        try clear hS
        go_wp2
        exact Ext.refl _
      case ha => rfl
      apply wpLoose_val rfl rfl
      case hs =>
        intro w1 hC hd Q1 hQ1
        obtain ⟨hE, hS⟩ := hC
        dsimp only [bare]
        clear hd
        go_wp2_with fail
        refine (HOV1.out _ hS.2.2.2).mono ?_
        rintro e w2 ⟨rfl, hb⟩
        go_wp2_with fail
        exact hb
      case ha => rfl
      apply wpLoose_val rfl rfl
      case hs =>
        intro w1 hC hd Q1 hQ1
        obtain ⟨hE, hS⟩ := hC
        dsimp only [bare]
        obtain ⟨⟨q0, q1, q2, q3, q4, q5, q6⟩, q7, q8, _⟩ := hS; simp only [Nat.zero_add] at q0 q1 q2 q3 q4 q5 q6
        clear hd hE
        try clear hS
        go_wp2
        exact Ext.refl _
      case ha => rfl
      apply wpLoose_val rfl rfl
      case hs =>
        intro w1 hC hd Q1 hQ1
        obtain ⟨hE, hS⟩ := hC
        dsimp only [bare]
        obtain ⟨⟨q0, q1, q2, q3, q4, q5, q6⟩, q7, q8, _⟩ := hS; simp only [Nat.zero_add] at q0 q1 q2 q3 q4 q5 q6
        clear hd hE
        try clear hS
        go_wp2
        exact Ext.refl _
      case ha => rfl
      apply wpLoose_val rfl rfl
      case hs =>
        intro w1 hC hd Q1 hQ1
        obtain ⟨hE, hS⟩ := hC
        dsimp only [bare]
        obtain ⟨⟨q0, q1, q2, q3, q4, q5, q6⟩, q7, q8, _⟩ := hS; simp only [Nat.zero_add] at q0 q1 q2 q3 q4 q5 q6
        clear hd hE
        try clear hS
        go_wp2
        exact Ext.refl _
      case ha => rfl
      apply wpLoose_val rfl rfl
      case hs =>
        intro w1 hC hd Q1 hQ1
        obtain ⟨hE, hS⟩ := hC
        dsimp only [bare]
        obtain ⟨⟨q0, q1, q2, q3, q4, q5, q6⟩, q7, q8, _⟩ := hS; simp only [Nat.zero_add] at q0 q1 q2 q3 q4 q5 q6
        clear hd hE
        try clear hS
        go_wp2
        exact Ext.refl _
      case ha => rfl
      apply wpLoose_val rfl rfl
      case hs =>
        intro w1 hC hd Q1 hQ1
        obtain ⟨hE, hS⟩ := hC
        dsimp only [bare]
        clear hd
        go_wp2_with fail
        refine (HOV2.out _ hS.2.2.2).mono ?_
        rintro e w2 ⟨rfl, hb⟩
        go_wp2_with fail
        exact hb
      case ha => rfl
      apply wpLoose_val rfl rfl
      case hs =>
        intro w1 hC hd Q1 hQ1
        obtain ⟨hE, hS⟩ := hC
        dsimp only [bare]
        obtain ⟨⟨q0, q1, q2, q3, q4, q5, q6⟩, q7, q8, _⟩ := hS; simp only [Nat.zero_add] at q0 q1 q2 q3 q4 q5 q6
        clear hd hE
        try clear hS
        go_wp2
        exact Ext.refl _
      case ha => rfl
      apply wpLoose_val rfl rfl
      case hs =>
        intro w1 hC hd Q1 hQ1
        obtain ⟨hE, hS⟩ := hC
        dsimp only [bare]
        obtain ⟨⟨q0, q1, q2, q3, q4, q5, q6⟩, q7, q8, _⟩ := hS; simp only [Nat.zero_add] at q0 q1 q2 q3 q4 q5 q6
        clear hd hE
        try clear hS
        go_wp2
        exact Ext.refl _
      case ha => rfl
      apply wpLoose_val rfl rfl
      case hs =>
        intro w1 hC hd Q1 hQ1
        obtain ⟨hE, hS⟩ := hC
        dsimp only [bare]
        obtain ⟨⟨q0, q1, q2, q3, q4, q5, q6⟩, q7, q8, _⟩ := hS; simp only [Nat.zero_add] at q0 q1 q2 q3 q4 q5 q6
        clear hd hE
        try clear hS
        go_wp2
        exact Ext.refl _
      case ha => rfl
      apply wpLoose_val rfl rfl
      case hs =>
        intro w1 hC hd Q1 hQ1
        obtain ⟨hE, hS⟩ := hC
        dsimp only [bare]
        obtain ⟨⟨q0, q1, q2, q3, q4, q5, q6⟩, q7, q8, _⟩ := hS; simp only [Nat.zero_add] at q0 q1 q2 q3 q4 q5 q6
        clear hd hE
        try clear hS
        go_wp2
        exact Ext.refl _
      case ha => rfl
      refine wpLoose_nil ?_
      intro wc hEc hSc hFc
      have E2 : Hid (Ext w wc) := X2.out.drew.trans hEc
      clear hFc hSc hEc d0 d1 d2 d3 d4 d5 d6 z1 z2 hpl HOV1 HOV2 HQ
      cases z
      · go_wp2
        go_ret
        exact ⟨by rw [HV.out]; rfl, E2.out⟩
      · go_wp2
        go_ret
        exact ⟨by rw [HV.out]; rfl, E2.out⟩
      case hAc => kernel_rfl
      case hlc => exact ⟨trivial, trivial, trivial, trivial, trivial, trivial, trivial, trivial, trivial, trivial, trivial, trivial, trivial, trivial, trivial, trivial, trivial, trivial⟩

/-- What make lays for a slice of numbers. -/
theorem made_nums {w : World} {base g n c : Nat} (h : w.ownsRow base 3 1 (.slice (some ⟨g, 0, none⟩) n c) n (madeCells (Value.int .i64 0).cells (n * 1)).toList) : RowF w g n (fun _ => 0) := by
  rcases h.2 with ⟨hn, _⟩ | ⟨g', cap, cur, hv, _, hh, _, _, hs, ht⟩
  · cases hn
  · obtain ⟨rfl, _⟩ : g = g' ∧ c = cap := by injection hv with h1 h2 h3; injection h1 with h1; injection h1 with a b c; exact ⟨a, h3⟩
    refine ⟨(Array.getElem?_eq_some_iff.1 hh).1, fun j hj => ⟨?_, frozen_of_row w g j cur 3 hh⟩⟩
    rw [cell_of_row w g j cur 3 _ hh]
    have : (madeCells (Value.int .i64 0).cells (n * 1)).toList[j]? = some (.int .i64 0) := by simp [madeCells, Value.cells, hj, Nat.mod_one]
    rw [← ht, List.getElem?_take, if_pos (by omega)] at this
    simpa using this

theorem PlanP.step {W : World} {ls : List Ln} {s : Nat → Nat} {B g j : Nat} (h : PlanP W ls s B g (j + 1)) (hj : j < ls.length) (hne : B ≠ g) : PlanP (W.setCell ⟨g, j, none⟩ (.int .i64 ((cnt s ls.length : Int) - (cnt s (j + 1) : Int) + (s j : Int)))) ls s B g j := by
  obtain ⟨hm, f, hr, hf⟩ := h
  refine ⟨?_, _, hr.set (by omega) _, fun i hi hin => ?_⟩
  · obtain ⟨D, h1, h2⟩ := hm
    exact ⟨D, h1.setCell (a := ⟨g, j, none⟩) hne _, h2⟩
  · unfold setF
    by_cases e : i = j
    · subst e
      rw [if_pos rfl]
      show (cnt s ls.length : Int) - ((cnt s i + s i : Nat) : Int) + (s i : Int) = _
      omega
    · rw [if_neg e]
      exact hf i (by omega) hin

/-- A block of two cells that may be written. -/
def Two (W : World) (b : Nat) (v0 v1 : Value) : Prop := b < W.heap.size ∧ W.cell? ⟨b, 0, none⟩ = some v0 ∧ W.cell? ⟨b, 1, none⟩ = some v1 ∧ W.frozen? ⟨b, 0, none⟩ = false ∧ W.frozen? ⟨b, 1, none⟩ = false

theorem Two.ext {W W' : World} {b : Nat} {v0 v1 : Value} (h : Two W b v0 v1) (hE : Ext W W') : Two W' b v0 v1 :=
  ⟨Nat.lt_of_lt_of_le h.1 hE.size, (hE.cell (p := ⟨b, 0, none⟩) h.1).trans h.2.1, (hE.cell (p := ⟨b, 1, none⟩) h.1).trans h.2.2.1, (hE.frozen (p := ⟨b, 0, none⟩) h.1).trans h.2.2.2.1, (hE.frozen (p := ⟨b, 1, none⟩) h.1).trans h.2.2.2.2⟩

theorem Two.far {W : World} {b g i : Nat} {v0 v1 : Value} (h : Two W b v0 v1) (hne : b ≠ g) (v : Value) : Two (W.setCell ⟨g, i, none⟩ v) b v0 v1 :=
  ⟨by rw [World.size_setCell]; exact h.1, by rw [set_far (fun e => hne (by injection e))]; exact h.2.1, by rw [set_far (fun e => hne (by injection e))]; exact h.2.2.1, by rw [World.frozen?_setCell]; exact h.2.2.2.1, by rw [World.frozen?_setCell]; exact h.2.2.2.2⟩

set_option maxRecDepth 100000 in
set_option maxHeartbeats 8000000 in
theorem planOf_any (a : Option Addr) (cap : Nat) (ls : List Ln) (s : Nat → Nat) (w : World) (hl : linesP ls) (hs : sizesP ls s) (ht : TextsP ls) (h : Lns w a ls) :
    Calls Try.prog 38 #[.slice a ls.length cap] w fun e w' => ∃ B g, e = .returned (.agg #[.map (some B), .slice (some ⟨g, 0, none⟩) (ls.length + 1) (ls.length + 1)]) ∧ PlanP w' ls s B g 0 ∧ Ext w w' := by
  obtain ⟨i0, hi, hz0, hz1, hz2⟩ := info_parts Try.infoI
  obtain ⟨n, hn⟩ : ∃ n, n = ls.length := ⟨_, rfl⟩
  have hn6 : n ≤ 600 := by have := hl.1; omega
  have hn1 : 1 ≤ n := by have := hl.1; omega
  have HA : Hid (Lns w a ls ∧ n = ls.length ∧ linesP ls ∧ sizesP ls s ∧ TextsP ls) := ⟨h, hn, hl, hs, ht⟩
  have HPL : Hid (∀ w1, Ext w w1 → Calls Try.prog 46 #[.slice a n cap] w1 fun e w' => ∃ B, e = .returned (.tuple #[mapV true B, .bool true]) ∧ Ext w1 w' ∧ (true = true → w1.heap.size ≤ B ∧ MapOf w' B n (upTo ls n))) := fun w1 hE => by
    have := places_any a cap ls true w1 (by omega) ht (h.ext hE) ⟨fun _ => ((lines_once ls).1 hl).2.2.1, fun _ => rfl⟩
    rw [← hn] at this
    exact this
  rw [← hn]
  clear h hn hl hs ht
  go_enter Try.func38, Try.ntmps38
  go_wp2_with fail
  refine (HPL.out _ (Ext.one _ _)).mono ?_
  rintro e w2 ⟨B, rfl, e2, hB⟩
  obtain ⟨hB1, hm2⟩ := hB trivial
  simp only [mapV, if_true]
  have X2 : Hid (Ext w w2 ∧ w.heap.size + 1 ≤ B ∧ MapOf w2 B n (upTo ls n) ∧ w.heap.size + 1 ≤ w2.heap.size) := ⟨(Ext.one _ _).trans e2, by simpa using hB1, hm2, by have := e2.size; simpa using this⟩
  have r0 : Two w2 w.heap.size (.map none) (.slice none 0 0) := Two.ext ⟨by simp, by simp [go_sem], by simp [go_sem], by simp [go_sem], by simp [go_sem]⟩ e2
  have HR0 : Hid (Two w2 w.heap.size (.map none) (.slice none 0 0)) := r0
  clear hB hB1 hm2 e2 HPL r0
  go_wp2_with (at_make; refine wpList_make_full _ rfl _ _ 42 rfl w2.heap.size 3 i0 (.int .i64 0) 1 Try.underlying42 hi hz0 hz1 _ _ _ _ (n + 1) rfl rfl (by omega) (by omega) (by rw [hz2]; omega) (by unfold maxLen; omega) (Nat.le_refl _) ?_; intro w3 hown3 hgrow3)
  have x3 : Ext w2 w3 := (Ext.refl w2).grown hgrow3 (Nat.le_refl _) (fun k hk => by cases hk)
  have m3 := made_nums hown3
  obtain ⟨g, hg⟩ : ∃ g, g = w2.heap.size := ⟨_, rfl⟩
  rw [← hg] at m3 ⊢
  obtain ⟨bp, hbp⟩ : ∃ b, b = w3.heap.size := ⟨_, rfl⟩
  have HG : Hid (B ≠ g ∧ w.heap.size ≠ g ∧ bp ≠ g ∧ w.heap.size ≠ bp ∧ w.heap.size ≤ g ∧ w.heap.size ≠ B) := by
    have := X2.out.2.1
    have := X2.out.2.2.1.lt
    have := X2.out.2.2.2
    have := m3.1
    refine ⟨by omega, by omega, by omega, by omega, by omega, by omega⟩
  have HX : Hid (PlanP (w3.alloc (.cells #[.map (some B), .slice (some ⟨g, 0, none⟩) (n + 1) (n + 1)] 61)) ls s B g n ∧ Two (w3.alloc (.cells #[.map (some B), .slice (some ⟨g, 0, none⟩) (n + 1) (n + 1)] 61)) w.heap.size (.map none) (.slice none 0 0) ∧ Two (w3.alloc (.cells #[.map (some B), .slice (some ⟨g, 0, none⟩) (n + 1) (n + 1)] 61)) bp (.map (some B)) (.slice (some ⟨g, 0, none⟩) (n + 1) (n + 1)) ∧ Ext w (w3.alloc (.cells #[.map (some B), .slice (some ⟨g, 0, none⟩) (n + 1) (n + 1)] 61))) := by
    refine ⟨⟨?_, fun _ => 0, ?_, fun j h1 h2 => ?_⟩, (HR0.out.ext x3).ext (Ext.one _ _), ?_, (X2.out.1.trans x3).alloc _⟩
    · rw [← HA.out.2.1]
      exact (X2.out.2.2.1.ext x3).ext (Ext.one _ _)
    · rw [← HA.out.2.1]
      exact m3.ext (Ext.one _ _)
    · have : j = ls.length := by have := HA.out.2.1; omega
      rw [this]
      show (0 : Int) = _
      omega
    · rw [hbp]
      exact ⟨by simp, by simp [go_sem], by simp [go_sem], by simp [go_sem], by simp [go_sem]⟩
  rw [← hbp]
  generalize w3.alloc (.cells #[.map (some B), .slice (some ⟨g, 0, none⟩) (n + 1) (n + 1)] 61) = W4 at *
  have HSO : Hid (∀ (i : Nat) (lab yes no : ByteArray) (o kk y nn : Int) (w1 : World), PlanP w1 ls s B g (i + 1) → i < n → Ln.mk lab (o, kk, y, nn) yes no = ls.getD i zeroL → Calls Try.prog 70 #[.agg #[.map (some B), .slice (some ⟨g, 0, none⟩) (n + 1) (n + 1)], .int .i64 (i : Int), .agg #[.string lab, .int .i64 o, .int .i64 kk, .int .i64 y, .int .i64 nn, .string yes, .string no]] w1 fun e w' => e = .returned (.int .i64 (s i : Nat)) ∧ Ext w1 w') := fun i lab yes no o kk y nn w1 h1 h2 h3 => by
    have ht := HA.out.2.2.2.2 i (by have := HA.out.2.1; omega)
    rw [← h3] at ht
    have := sizeOf_any ls s B g (i + 1) (n + 1) i lab yes no o kk y nn w1 HA.out.2.2.1 HA.out.2.2.2.1 h1 (Nat.le_refl _) (by have := HA.out.2.1; omega) h3 ht.2
    rw [← HA.out.2.1] at this
    exact this
  clear hg hbp m3 x3 hown3 hgrow3 HR0 X2
  go_loopw [6] (fun iv wr => ∃ k : Nat, iv = .int .i64 ((k : Int) - 1) ∧ k ≤ n ∧ Hid (PlanP wr ls s B g k ∧ Two wr w.heap.size (.map none) (.slice none 0 0) ∧ Two wr bp (.map (some B)) (.slice (some ⟨g, 0, none⟩) (n + 1) (n + 1)) ∧ Ext w wr)) (fun iv _ => ((intOf iv) + 1).toNat)
  case atStart => exact ⟨n, rfl, by omega, HX.out⟩
  case round =>
    obtain ⟨k, rfl, hk, HX⟩ := hrel
    cases k with
    | zero =>
      have HR : Hid (PlanP wr ls s B g 0 ∧ Ext w wr) := ⟨HX.out.1, HX.out.2.2.2⟩
      have t0 := HX.out.2.1
      have t1 := HX.out.2.2.1
      obtain ⟨_, t2, t3, t4, t5⟩ := t0
      obtain ⟨_, t6, t7, _, _⟩ := t1
      have HGG : Hid (w.heap.size ≠ g ∧ w.heap.size ≠ B) := ⟨HG.out.2.1, HG.out.2.2.2.2.2⟩
      clear HX HSO
      go_wp2
      refine bodyPost_ret (v := .agg #[.map (some B), .slice (some ⟨g, 0, none⟩) (n + 1) (n + 1)]) (by simp [results, Try.results38, go_sem, *]) rfl ⟨B, g, rfl, ?_, ?_⟩
      · obtain ⟨⟨D, m1, m2⟩, f, r1, r2⟩ := HR.out.1
        refine ⟨⟨D, ?_, m2⟩, f, (r1.far (Ne.symm HGG.out.1) _).far (Ne.symm HGG.out.1) _, r2⟩
        exact (m1.setCell (a := ⟨w.heap.size, 0, none⟩) (Ne.symm HGG.out.2) _).setCell (a := ⟨w.heap.size, 1, none⟩) (Ne.symm HGG.out.2) _
      · exact Below.setCell (Below.setCell HR.out.2 (show w.heap.size ≤ w.heap.size from Nat.le_refl _) _) (show w.heap.size ≤ w.heap.size from Nat.le_refl _) _
    | succ j =>
      have ej : ((j + 1 : Nat) : Int) - 1 = (j : Int) := by omega
      rw [ej]
      have hjn : j < n := by omega
      have bj : (j : Int) < (n : Int) := by omega
      have bj1 : (j : Int) < (n : Int) + 1 := by omega
      have bj2 : (j : Int) + 1 < (n : Int) + 1 := by omega
      obtain ⟨⟨lab, ⟨o, kk, y, nn⟩, yes, no⟩, hp⟩ : ∃ p, p = ls.getD j zeroL := ⟨_, rfl⟩
      obtain ⟨b, off, rfl, hq⟩ := (HA.out.1.ext HX.out.2.2.2).hept (k := j) (by have := HA.out.2.1; omega) hp
      have HP : Hid (Ln.mk lab (o, kk, y, nn) yes no = ls.getD j zeroL) := hp
      obtain ⟨_, t6, t7, _, _⟩ := HX.out.2.2.1
      obtain ⟨u, hu⟩ : ∃ u, u = (cnt s ls.length : Int) - (cnt s (j + 1) : Int) := ⟨_, rfl⟩
      have x1 : wr.cell? ⟨g, j + 1, none⟩ = some (.int .i64 u) := by
        obtain ⟨_, f, r1, r2⟩ := HX.out.1
        have := (r1.2 (j + 1) (by have := HA.out.2.1; omega)).1
        rw [r2 (j + 1) (Nat.le_refl _) (by have := HA.out.2.1; omega), ← hu] at this
        exact this
      have hub : -1800 ≤ u ∧ u ≤ 1800 := by
        have h1 := cnt_le HA.out.2.2.2.1 (n := ls.length) (Nat.le_refl _)
        have h2 := cnt_le HA.out.2.2.2.1 (n := j + 1) (by have := HA.out.2.1; omega)
        have h3 := HA.out.2.1
        omega
      have hsj : s j ≤ 3 := size_le HA.out.2.2.2.1 (by have := HA.out.2.1; omega)
      have HU : Hid (u = (cnt s ls.length : Int) - (cnt s (j + 1) : Int)) := hu
      clear hp hu
      go_wp2_with fail
      refine' wp_region_loose_tail 18 (.inl _ :: .inl _ :: .inl _ :: .inl _ :: .inl _ :: .inl _ :: .inl _ :: .inl _ :: .inl _ :: .inl _ :: .inl _ :: .inl _ :: .inl _ :: .inl _ :: .inl _ :: .inl _ :: .inl _ :: .inl _ :: []) (fun w' => PlanP w' ls s B g (j + 1) ∧ w'.cell? ⟨bp, 0, none⟩ = some (.map (some B)) ∧ w'.cell? ⟨bp, 1, none⟩ = some (.slice (some ⟨g, 0, none⟩) (n + 1) (n + 1)) ∧ w'.cell? ⟨g, j + 1, none⟩ = some (.int .i64 u) ∧ Hept w' b (off + j * 7) ⟨lab, (o, kk, y, nn), yes, no⟩) (by kernel_rfl) (by kernel_rfl) (⟨HX.out.1, t6, t7, x1, hq⟩) (fun _ _ h hE => ⟨h.1.ext hE, (hE.cell (p := ⟨bp, 0, none⟩) (World.block_lt_of_cell? _ _ h.2.1)).trans h.2.1, (hE.cell (p := ⟨bp, 1, none⟩) (World.block_lt_of_cell? _ _ h.2.2.1)).trans h.2.2.1, (hE.cell (p := ⟨g, j + 1, none⟩) (World.block_lt_of_cell? _ _ h.2.2.2.1)).trans h.2.2.2.1, h.2.2.2.2.ext hE⟩) ?hAa ?hla ?hMa
      case' hMa => skip
      simp only [List.take_succ_cons, List.take_zero, List.drop_succ_cons, List.drop_zero]
      apply wpLoose_val rfl rfl
      case hs =>
        intro w1 hC hd Q1 hQ1
        obtain ⟨hE, hS⟩ := hC
        dsimp only [bare]
        obtain ⟨_, q1, q2, q3, c0, c1, c2, c3, c4, c5, c6⟩ := hS; simp only at c0 c1 c2 c3 c4 c5 c6
        clear hd hE
        try clear hS
        go_wp2
        exact Ext.refl _
      case ha => rfl
      apply wpLoose_val rfl rfl
      case hs =>
        intro w1 hC hd Q1 hQ1
        obtain ⟨hE, hS⟩ := hC
        dsimp only [bare]
        obtain ⟨_, q1, q2, q3, c0, c1, c2, c3, c4, c5, c6⟩ := hS; simp only at c0 c1 c2 c3 c4 c5 c6
        clear hd hE
        try clear hS
        go_wp2
        exact Ext.refl _
      case ha => rfl
      apply wpLoose_val rfl rfl
      case hs =>
        intro w1 hC hd Q1 hQ1
        obtain ⟨hE, hS⟩ := hC
        dsimp only [bare]
        obtain ⟨_, q1, q2, q3, c0, c1, c2, c3, c4, c5, c6⟩ := hS; simp only at c0 c1 c2 c3 c4 c5 c6
        clear hd hE
        try clear hS
        go_wp2
        exact Ext.refl _
      case ha => rfl
      apply wpLoose_val rfl rfl
      case hs =>
        intro w1 hC hd Q1 hQ1
        obtain ⟨hE, hS⟩ := hC
        dsimp only [bare]
        obtain ⟨_, q1, q2, q3, c0, c1, c2, c3, c4, c5, c6⟩ := hS; simp only at c0 c1 c2 c3 c4 c5 c6
        clear hd hE
        try clear hS
        go_wp2
        exact Ext.refl _
      case ha => rfl
      apply wpLoose_val rfl rfl
      case hs =>
        intro w1 hC hd Q1 hQ1
        obtain ⟨hE, hS⟩ := hC
        dsimp only [bare]
        obtain ⟨_, q1, q2, q3, c0, c1, c2, c3, c4, c5, c6⟩ := hS; simp only at c0 c1 c2 c3 c4 c5 c6
        clear hd hE
        try clear hS
        go_wp2
        exact Ext.refl _
      case ha => rfl
      apply wpLoose_val rfl rfl
      case hs =>
        intro w1 hC hd Q1 hQ1
        obtain ⟨hE, hS⟩ := hC
        dsimp only [bare]
        obtain ⟨_, q1, q2, q3, c0, c1, c2, c3, c4, c5, c6⟩ := hS; simp only at c0 c1 c2 c3 c4 c5 c6
        clear hd hE
        try clear hS
        go_wp2
        exact Ext.refl _
      case ha => rfl
      apply wpLoose_val rfl rfl
      case hs =>
        intro w1 hC hd Q1 hQ1
        obtain ⟨hE, hS⟩ := hC
        dsimp only [bare]
        obtain ⟨_, q1, q2, q3, c0, c1, c2, c3, c4, c5, c6⟩ := hS; simp only at c0 c1 c2 c3 c4 c5 c6
        clear hd hE
        try clear hS
        go_wp2
        exact Ext.refl _
      case ha => rfl
      apply wpLoose_val rfl rfl
      case hs =>
        intro w1 hC hd Q1 hQ1
        obtain ⟨hE, hS⟩ := hC
        dsimp only [bare]
        obtain ⟨_, q1, q2, q3, c0, c1, c2, c3, c4, c5, c6⟩ := hS; simp only at c0 c1 c2 c3 c4 c5 c6
        clear hd hE
        try clear hS
        go_wp2
        exact Ext.refl _
      case ha => rfl
      apply wpLoose_val rfl rfl
      case hs =>
        intro w1 hC hd Q1 hQ1
        obtain ⟨hE, hS⟩ := hC
        dsimp only [bare]
        obtain ⟨_, q1, q2, q3, c0, c1, c2, c3, c4, c5, c6⟩ := hS; simp only at c0 c1 c2 c3 c4 c5 c6
        clear hd hE
        try clear hS
        go_wp2
        exact Ext.refl _
      case ha => rfl
      apply wpLoose_val rfl rfl
      case hs =>
        intro w1 hC hd Q1 hQ1
        obtain ⟨hE, hS⟩ := hC
        dsimp only [bare]
        obtain ⟨_, q1, q2, q3, c0, c1, c2, c3, c4, c5, c6⟩ := hS; simp only at c0 c1 c2 c3 c4 c5 c6
        clear hd hE
        try clear hS
        go_wp2
        exact Ext.refl _
      case ha => rfl
      apply wpLoose_val rfl rfl
      case hs =>
        intro w1 hC hd Q1 hQ1
        obtain ⟨hE, hS⟩ := hC
        dsimp only [bare]
        obtain ⟨_, q1, q2, q3, c0, c1, c2, c3, c4, c5, c6⟩ := hS; simp only at c0 c1 c2 c3 c4 c5 c6
        clear hd hE
        try clear hS
        go_wp2
        exact Ext.refl _
      case ha => rfl
      apply wpLoose_val rfl rfl
      case hs =>
        intro w1 hC hd Q1 hQ1
        obtain ⟨hE, hS⟩ := hC
        dsimp only [bare]
        obtain ⟨_, q1, q2, q3, c0, c1, c2, c3, c4, c5, c6⟩ := hS; simp only at c0 c1 c2 c3 c4 c5 c6
        clear hd hE
        try clear hS
        go_wp2
        exact Ext.refl _
      case ha => rfl
      apply wpLoose_val rfl rfl
      case hs =>
        intro w1 hC hd Q1 hQ1
        obtain ⟨hE, hS⟩ := hC
        dsimp only [bare]
        obtain ⟨_, q1, q2, q3, c0, c1, c2, c3, c4, c5, c6⟩ := hS; simp only at c0 c1 c2 c3 c4 c5 c6
        clear hd hE
        try clear hS
        go_wp2
        exact Ext.refl _
      case ha => rfl
      apply wpLoose_val rfl rfl
      case hs =>
        intro w1 hC hd Q1 hQ1
        obtain ⟨hE, hS⟩ := hC
        dsimp only [bare]
        obtain ⟨_, q1, q2, q3, c0, c1, c2, c3, c4, c5, c6⟩ := hS; simp only at c0 c1 c2 c3 c4 c5 c6
        clear hd hE
        try clear hS
        go_wp2
        exact Ext.refl _
      case ha => rfl
      apply wpLoose_val rfl rfl
      case hs =>
        intro w1 hC hd Q1 hQ1
        obtain ⟨hE, hS⟩ := hC
        dsimp only [bare]
        obtain ⟨_, q1, q2, q3, c0, c1, c2, c3, c4, c5, c6⟩ := hS; simp only at c0 c1 c2 c3 c4 c5 c6
        clear hd hE
        try clear hS
        go_wp2
        exact Ext.refl _
      case ha => rfl
      apply wpLoose_val rfl rfl
      case hs =>
        intro w1 hC hd Q1 hQ1
        obtain ⟨hE, hS⟩ := hC
        dsimp only [bare]
        clear hd
        go_wp2_with fail
        refine (HSO.out j lab yes no o kk y nn _ hS.1 hjn HP.out).mono ?_
        rintro e w2 ⟨rfl, hb⟩
        go_wp2_with fail
        exact hb
      case ha => rfl
      apply wpLoose_val rfl rfl
      case hs =>
        intro w1 hC hd Q1 hQ1
        obtain ⟨hE, hS⟩ := hC
        dsimp only [bare]
        obtain ⟨_, q1, q2, q3, c0, c1, c2, c3, c4, c5, c6⟩ := hS; simp only at c0 c1 c2 c3 c4 c5 c6
        clear hd hE
        try clear hS
        go_wp2
        exact Ext.refl _
      case ha => rfl
      apply wpLoose_val rfl rfl
      case hs =>
        intro w1 hC hd Q1 hQ1
        obtain ⟨hE, hS⟩ := hC
        dsimp only [bare]
        obtain ⟨_, q1, q2, q3, c0, c1, c2, c3, c4, c5, c6⟩ := hS; simp only at c0 c1 c2 c3 c4 c5 c6
        clear hd hE
        try clear hS
        go_wp2
        exact Ext.refl _
      case ha => rfl
      refine wpLoose_nil ?_
      intro wa hEa hSa hFa
      have HX5 : Hid (PlanP wa ls s B g (j + 1) ∧ Two wa w.heap.size (.map none) (.slice none 0 0) ∧ Two wa bp (.map (some B)) (.slice (some ⟨g, 0, none⟩) (n + 1) (n + 1)) ∧ Ext w wa) :=
        ⟨PlanP.ext (W := wr.drew) HX.out.1 hEa, Two.ext (W := wr.drew) HX.out.2.1 hEa, Two.ext (W := wr.drew) HX.out.2.2.1 hEa, HX.out.2.2.2.drew.trans hEa⟩
      obtain ⟨y0, y1⟩ : (∃ v, wa.cell? ⟨g, j, none⟩ = some (.int .i64 v)) ∧ wa.frozen? ⟨g, j, none⟩ = false := by
        obtain ⟨_, f, r1, _⟩ := HX5.out.1
        have := r1.2 j (by have := HA.out.2.1; omega)
        exact ⟨⟨_, this.1⟩, this.2⟩
      obtain ⟨v0, y0⟩ := y0
      clear hFa hSa hEa x1 hq t6 t7 HX
      go_wp2
      go_roundw
      case rel =>
        refine ⟨j, by go_num, by omega, ?_, HX5.out.2.1.far HG.out.2.1 _, HX5.out.2.2.1.far HG.out.2.2.1 _, Below.setCell HX5.out.2.2.2 (show w.heap.size ≤ g from HG.out.2.2.2.2.1) _⟩
        have := HX5.out.1.step (by have := HA.out.2.1; omega) HG.out.1
        rw [← HU.out] at this
        exact this
      case measure => simp [intOf]
      case hAa => kernel_rfl
      case hla => exact ⟨trivial, trivial, trivial, trivial, trivial, trivial, trivial, trivial, trivial, trivial, trivial, trivial, trivial, trivial, trivial, trivial, trivial, trivial, trivial⟩

set_option maxRecDepth 100000 in
set_option maxHeartbeats 8000000 in
theorem iSizes_yes (a : Option Addr) (cap : Nat) (ls : List Ln) (s : Nat → Nat) (w : World) (hl : linesP ls) (hs : sizesP ls s) (ht : TextsP ls) (h : Lns w a ls) :
    Calls Try.prog 15 #[.slice a ls.length cap] w fun e w' => ∃ g, e = .returned (.slice (some ⟨g, 0, none⟩) ls.length ls.length) ∧ w.heap.size ≤ g ∧ RowF w' g ls.length (fun i => (s i : Int)) ∧ Ext w w' := by
  obtain ⟨i0, hi, hz0, hz1, hz2⟩ := info_parts Try.infoI
  obtain ⟨n, hn⟩ : ∃ n, n = ls.length := ⟨_, rfl⟩
  have hn6 : n ≤ 600 := by have := hl.1; omega
  have hn1 : 1 ≤ n := by have := hl.1; omega
  have HA : Hid (n = ls.length ∧ sizesP ls s) := ⟨hn, hs⟩
  have HL : Hid (Calls Try.prog 16 #[.slice a n cap] w fun e w' => e = .returned (.bool true) ∧ Ext w w') := by rw [hn]; exact iLines_any a cap ls true w (by omega) ht h (by simp [hl])
  have HPL : Hid (∀ w1, Ext w w1 → Calls Try.prog 38 #[.slice a n cap] w1 fun e w' => ∃ B g, e = .returned (.agg #[.map (some B), .slice (some ⟨g, 0, none⟩) (n + 1) (n + 1)]) ∧ PlanP w' ls s B g 0 ∧ Ext w1 w') := fun w1 hE => by rw [hn]; exact planOf_any a cap ls s w1 hl hs ht (h.ext hE)
  rw [← hn]
  clear h hn hl hs ht
  go_enter Try.func15, Try.ntmps15
  go_wp2_with fail
  refine HL.out.mono ?_
  rintro e w2 ⟨rfl, e2⟩
  have X2 : Hid (Ext w w2) := e2
  clear e2 HL
  go_wp2_with fail
  refine (HPL.out _ X2.out).mono ?_
  rintro e w3 ⟨B, g, rfl, hp3, e3⟩
  have HX : Hid (PlanP (w3.alloc (.cells #[.map (some B), .slice (some ⟨g, 0, none⟩) (n + 1) (n + 1)] 61)) ls s B g 0 ∧ Two (w3.alloc (.cells #[.map (some B), .slice (some ⟨g, 0, none⟩) (n + 1) (n + 1)] 61)) w3.heap.size (.map (some B)) (.slice (some ⟨g, 0, none⟩) (n + 1) (n + 1)) ∧ Ext w (w3.alloc (.cells #[.map (some B), .slice (some ⟨g, 0, none⟩) (n + 1) (n + 1)] 61))) :=
    ⟨hp3.ext (Ext.one _ _), ⟨by simp, by simp [go_sem], by simp [go_sem], by simp [go_sem], by simp [go_sem]⟩, (X2.out.trans e3).alloc _⟩
  clear hp3 e3 HPL X2
  obtain ⟨W4, hW4⟩ : ∃ W, W = w3.alloc (.cells #[.map (some B), .slice (some ⟨g, 0, none⟩) (n + 1) (n + 1)] 61) := ⟨_, rfl⟩
  rw [← hW4] at HX
  have HS4 : Hid (W4.heap.size = w3.heap.size + 1) := by show _ = _; rw [hW4]; simp
  go_wp2_with (at_make; rw [← hW4]; refine wpList_make_full _ rfl _ _ 42 rfl W4.heap.size 3 i0 (.int .i64 0) 1 Try.underlying42 hi hz0 hz1 _ _ _ _ n rfl rfl (by omega) (by omega) (by rw [hz2]; omega) (by unfold maxLen; omega) (Nat.le_refl _) ?_; intro w5 hown5 hgrow5)
  clear hW4
  generalize w3.heap.size = bp at *
  have x5 : Ext W4 w5 := (Ext.refl W4).grown hgrow5 (Nat.le_refl _) (fun k hk => by cases hk)
  have m5 := made_nums hown5
  rw [HS4.out] at m5
  obtain ⟨q, hq⟩ : ∃ q, q = bp + 1 := ⟨_, rfl⟩
  rw [← hq] at m5 ⊢
  have HG : Hid (g ≠ q ∧ bp ≠ q ∧ w.heap.size ≤ q ∧ B ≠ q) := by
    obtain ⟨⟨hm, f, hr, _⟩, ht, hx⟩ := HX.out
    have h1 := hr.1
    have h2 := ht.1
    have h3 := hx.size
    have h4 := hm.lt
    have h5 := HS4.out
    exact ⟨by omega, by omega, by omega, by omega⟩
  have HX5 : Hid (PlanP w5 ls s B g 0 ∧ Two w5 bp (.map (some B)) (.slice (some ⟨g, 0, none⟩) (n + 1) (n + 1)) ∧ RowF w5 q n (fun _ => 0) ∧ Ext w w5) := ⟨HX.out.1.ext x5, HX.out.2.1.ext x5, m5, HX.out.2.2.trans x5⟩
  clear hq x5 m5 hown5 hgrow5 HX HS4
  go_loopw [16] (fun iv wr => ∃ k : Nat, iv = .int .i64 k ∧ k ≤ n ∧ Hid (PlanP wr ls s B g 0 ∧ Two wr bp (.map (some B)) (.slice (some ⟨g, 0, none⟩) (n + 1) (n + 1)) ∧ (∃ f, RowF wr q n f ∧ ∀ j, j < k → f j = (s j : Int)) ∧ Ext w wr)) (fun iv _ => n - (intOf iv).toNat)
  case atStart => exact ⟨0, rfl, by omega, HX5.out.1, HX5.out.2.1, ⟨_, HX5.out.2.2.1, fun j hj => by omega⟩, HX5.out.2.2.2⟩
  case round =>
    obtain ⟨k, rfl, hk, HX⟩ := hrel
    clear HX5
    by_cases hlt : k < n
    · have bk : (k : Int) < (n : Int) := by omega
      have bk1 : (k : Int) < (n : Int) + 1 := by omega
      have bk2 : (k : Int) + 1 < (n : Int) + 1 := by omega
      obtain ⟨_, t6, t7, _, _⟩ := HX.out.2.1
      obtain ⟨u, v, x1, x2, huv⟩ : ∃ u v, wr.cell? ⟨g, k, none⟩ = some (.int .i64 u) ∧ wr.cell? ⟨g, k + 1, none⟩ = some (.int .i64 v) ∧ (u - v = (s k : Int) ∧ -1800 ≤ u ∧ u ≤ 1800 ∧ -1800 ≤ v ∧ v ≤ 1800) := by
        obtain ⟨_, f, r1, r2⟩ := HX.out.1
        have h0 := HA.out.1
        refine ⟨_, _, (r1.2 k (by omega)).1, (r1.2 (k + 1) (by omega)).1, ?_⟩
        rw [r2 k (by omega) (by omega), r2 (k + 1) (by omega) (by omega)]
        have h1 := cnt_le HA.out.2 (n := ls.length) (Nat.le_refl _)
        have h2 := cnt_le HA.out.2 (n := k + 1) (by omega)
        have h3 : cnt s (k + 1) = cnt s k + s k := rfl
        omega
      have HU : Hid (u - v = (s k : Int)) := huv.1
      obtain ⟨_, hu1, hu2, hv1, hv2⟩ := huv
      go_wp2_with fail
      refine' wp_region_loose_tail 15 (.inl _ :: .inl _ :: .inl _ :: .inl _ :: .inl _ :: .inl _ :: .inl _ :: .inl _ :: .inl _ :: .inl _ :: .inl _ :: .inl _ :: .inl _ :: .inl _ :: .inl _ :: []) (fun w' => w'.cell? ⟨bp, 0, none⟩ = some (.map (some B)) ∧ w'.cell? ⟨bp, 1, none⟩ = some (.slice (some ⟨g, 0, none⟩) (n + 1) (n + 1)) ∧ w'.cell? ⟨g, k, none⟩ = some (.int .i64 u) ∧ w'.cell? ⟨g, k + 1, none⟩ = some (.int .i64 v)) (by kernel_rfl) (by kernel_rfl) (⟨t6, t7, x1, x2⟩) (fun _ _ h hE => ⟨(hE.cell (p := ⟨bp, 0, none⟩) (World.block_lt_of_cell? _ _ h.1)).trans h.1, (hE.cell (p := ⟨bp, 1, none⟩) (World.block_lt_of_cell? _ _ h.2.1)).trans h.2.1, (hE.cell (p := ⟨g, k, none⟩) (World.block_lt_of_cell? _ _ h.2.2.1)).trans h.2.2.1, (hE.cell (p := ⟨g, k + 1, none⟩) (World.block_lt_of_cell? _ _ h.2.2.2)).trans h.2.2.2⟩) ?hAa ?hla ?hMa
      case' hMa => skip
      simp only [List.take_succ_cons, List.take_zero, List.drop_succ_cons, List.drop_zero]
      apply wpLoose_val rfl rfl
      case hs =>
        intro w1 hC hd Q1 hQ1
        obtain ⟨hE, hS⟩ := hC
        dsimp only [bare]
        obtain ⟨q1, q2, q3, q4⟩ := hS
        clear hd hE
        try clear hS
        go_wp2
        exact Ext.refl _
      case ha => rfl
      apply wpLoose_val rfl rfl
      case hs =>
        intro w1 hC hd Q1 hQ1
        obtain ⟨hE, hS⟩ := hC
        dsimp only [bare]
        obtain ⟨q1, q2, q3, q4⟩ := hS
        clear hd hE
        try clear hS
        go_wp2
        exact Ext.refl _
      case ha => rfl
      apply wpLoose_val rfl rfl
      case hs =>
        intro w1 hC hd Q1 hQ1
        obtain ⟨hE, hS⟩ := hC
        dsimp only [bare]
        obtain ⟨q1, q2, q3, q4⟩ := hS
        clear hd hE
        try clear hS
        go_wp2
        exact Ext.refl _
      case ha => rfl
      apply wpLoose_val rfl rfl
      case hs =>
        intro w1 hC hd Q1 hQ1
        obtain ⟨hE, hS⟩ := hC
        dsimp only [bare]
        obtain ⟨q1, q2, q3, q4⟩ := hS
        clear hd hE
        try clear hS
        go_wp2
        exact Ext.refl _
      case ha => rfl
      apply wpLoose_val rfl rfl
      case hs =>
        intro w1 hC hd Q1 hQ1
        obtain ⟨hE, hS⟩ := hC
        dsimp only [bare]
        obtain ⟨q1, q2, q3, q4⟩ := hS
        clear hd hE
        try clear hS
        go_wp2
        exact Ext.refl _
      case ha => rfl
      apply wpLoose_val rfl rfl
      case hs =>
        intro w1 hC hd Q1 hQ1
        obtain ⟨hE, hS⟩ := hC
        dsimp only [bare]
        obtain ⟨q1, q2, q3, q4⟩ := hS
        clear hd hE
        try clear hS
        go_wp2
        exact Ext.refl _
      case ha => rfl
      apply wpLoose_val rfl rfl
      case hs =>
        intro w1 hC hd Q1 hQ1
        obtain ⟨hE, hS⟩ := hC
        dsimp only [bare]
        obtain ⟨q1, q2, q3, q4⟩ := hS
        clear hd hE
        try clear hS
        go_wp2
        exact Ext.refl _
      case ha => rfl
      apply wpLoose_val rfl rfl
      case hs =>
        intro w1 hC hd Q1 hQ1
        obtain ⟨hE, hS⟩ := hC
        dsimp only [bare]
        obtain ⟨q1, q2, q3, q4⟩ := hS
        clear hd hE
        try clear hS
        go_wp2
        exact Ext.refl _
      case ha => rfl
      apply wpLoose_val rfl rfl
      case hs =>
        intro w1 hC hd Q1 hQ1
        obtain ⟨hE, hS⟩ := hC
        dsimp only [bare]
        obtain ⟨q1, q2, q3, q4⟩ := hS
        clear hd hE
        try clear hS
        go_wp2
        exact Ext.refl _
      case ha => rfl
      apply wpLoose_val rfl rfl
      case hs =>
        intro w1 hC hd Q1 hQ1
        obtain ⟨hE, hS⟩ := hC
        dsimp only [bare]
        obtain ⟨q1, q2, q3, q4⟩ := hS
        clear hd hE
        try clear hS
        go_wp2
        exact Ext.refl _
      case ha => rfl
      apply wpLoose_val rfl rfl
      case hs =>
        intro w1 hC hd Q1 hQ1
        obtain ⟨hE, hS⟩ := hC
        dsimp only [bare]
        obtain ⟨q1, q2, q3, q4⟩ := hS
        clear hd hE
        try clear hS
        go_wp2
        exact Ext.refl _
      case ha => rfl
      apply wpLoose_val rfl rfl
      case hs =>
        intro w1 hC hd Q1 hQ1
        obtain ⟨hE, hS⟩ := hC
        dsimp only [bare]
        obtain ⟨q1, q2, q3, q4⟩ := hS
        clear hd hE
        try clear hS
        go_wp2
        exact Ext.refl _
      case ha => rfl
      apply wpLoose_val rfl rfl
      case hs =>
        intro w1 hC hd Q1 hQ1
        obtain ⟨hE, hS⟩ := hC
        dsimp only [bare]
        obtain ⟨q1, q2, q3, q4⟩ := hS
        clear hd hE
        try clear hS
        go_wp2
        exact Ext.refl _
      case ha => rfl
      apply wpLoose_val rfl rfl
      case hs =>
        intro w1 hC hd Q1 hQ1
        obtain ⟨hE, hS⟩ := hC
        dsimp only [bare]
        obtain ⟨q1, q2, q3, q4⟩ := hS
        clear hd hE
        try clear hS
        go_wp2
        exact Ext.refl _
      case ha => rfl
      apply wpLoose_val rfl rfl
      case hs =>
        intro w1 hC hd Q1 hQ1
        obtain ⟨hE, hS⟩ := hC
        dsimp only [bare]
        obtain ⟨q1, q2, q3, q4⟩ := hS
        clear hd hE
        try clear hS
        go_wp2
        exact Ext.refl _
      case ha => rfl
      refine wpLoose_nil ?_
      intro wa hEa hSa hFa
      have HX5 : Hid (PlanP wa ls s B g 0 ∧ Two wa bp (.map (some B)) (.slice (some ⟨g, 0, none⟩) (n + 1) (n + 1)) ∧ (∃ f, RowF wa q n f ∧ ∀ j, j < k → f j = (s j : Int)) ∧ Ext w wa) := by
        obtain ⟨h1, h2, ⟨f, h3, h4⟩, h5⟩ := HX.out
        exact ⟨PlanP.ext (W := wr.drew) h1 hEa, Two.ext (W := wr.drew) h2 hEa, ⟨f, RowF.ext (w := wr.drew) h3 hEa, h4⟩, h5.drew.trans hEa⟩
      obtain ⟨v0, y0, y1⟩ : ∃ v, wa.cell? ⟨q, k, none⟩ = some (.int .i64 v) ∧ wa.frozen? ⟨q, k, none⟩ = false := by
        obtain ⟨_, _, ⟨f, h3, _⟩, _⟩ := HX5.out
        exact ⟨_, h3.2 k hlt⟩
      clear hFa hSa hEa x1 x2 t6 t7 HX
      go_wp2
      go_roundw
      case rel =>
        obtain ⟨⟨⟨D, m1, m2⟩, f0, r1, r2⟩, h2, ⟨f, h3, h4⟩, h5⟩ := HX5.out
        refine ⟨k + 1, by go_num, by omega, ⟨⟨D, m1.setCell (a := ⟨q, k, none⟩) HG.out.2.2.2 _, m2⟩, f0, r1.far HG.out.1 _, r2⟩, h2.far HG.out.2.1 _, ⟨_, h3.set hlt _, fun j hj => ?_⟩, Below.setCell h5 (show w.heap.size ≤ q from HG.out.2.2.1) _⟩
        unfold setF
        by_cases e : j = k
        · subst e; rw [if_pos rfl]; try exact HU.out
        · rw [if_neg e]; exact h4 j (by omega)
      case measure => simp [intOf]; omega
      case hAa => kernel_rfl
      case hla => exact ⟨trivial, trivial, trivial, trivial, trivial, trivial, trivial, trivial, trivial, trivial, trivial, trivial, trivial, trivial, trivial, trivial⟩
    · have hkn : k = n := by omega
      have bk : ¬ ((k : Int) < (n : Int)) := by omega
      have HR : Hid (w.heap.size ≤ q ∧ RowF wr q n (fun i => (s i : Int)) ∧ Ext w wr) := by
        obtain ⟨_, _, ⟨f, h3, h4⟩, h5⟩ := HX.out
        exact ⟨HG.out.2.2.1, h3.as fun j hj => h4 j (by omega), h5⟩
      clear HX hkn
      go_wp2
      go_ret
      exact ⟨q, rfl, HR.out⟩

/-- The words of the line at i. -/
def wordsL (ls : List Ln) (s : Nat → Nat) (i : Nat) : List Wd :=
  if s i = 0 then []
  else if s i = 3 then [((ls.getD i zeroL).wd.1, (ls.getD i zeroL).wd.2.1, 0, 1), (7, 1 + (overL ls s i (ls.getD i zeroL).yes : Int), 0, 0), (7, (overL ls s i (ls.getD i zeroL).no : Int), 0, 0)]
  else if askB (ls.getD i zeroL).wd.1 = true then [((ls.getD i zeroL).wd.1, (ls.getD i zeroL).wd.2.1, (overL ls s i (ls.getD i zeroL).yes : Int), (overL ls s i (ls.getD i zeroL).no : Int))]
  else if (ls.getD i zeroL).wd.1 = 7 then [((ls.getD i zeroL).wd.1, (overL ls s i (ls.getD i zeroL).yes : Int), (ls.getD i zeroL).wd.2.2.1, (ls.getD i zeroL).wd.2.2.2)]
  else [(ls.getD i zeroL).wd]

/-- The words of the first n lines. -/
def layL (ls : List Ln) (s : Nat → Nat) : Nat → List Wd
  | 0 => []
  | n + 1 => layL ls s n ++ wordsL ls s n

theorem size_cases {ls : List Ln} {s : Nat → Nat} (hs : sizesP ls s) {i : Nat} (hi : i < ls.length) : s i = 0 ∨ s i = 1 ∨ s i = 3 := by
  rcases hs i hi with h | h | h | h <;> omega

theorem wordsL_length {ls : List Ln} {s : Nat → Nat} (hs : sizesP ls s) {i : Nat} (hi : i < ls.length) : (wordsL ls s i).length = s i := by
  unfold wordsL
  rcases size_cases hs hi with h | h | h <;> rw [h]
  · rfl
  · rw [if_neg (by decide), if_neg (by decide)]
    split
    · rfl
    · split <;> rfl
  · rfl

theorem layL_length {ls : List Ln} {s : Nat → Nat} (hs : sizesP ls s) : ∀ {n : Nat}, n ≤ ls.length → (layL ls s n).length = cnt s n
  | 0, _ => rfl
  | n + 1, h => by
    show (layL ls s n ++ wordsL ls s n).length = cnt s n + s n
    rw [List.length_append, layL_length hs (by omega), wordsL_length hs (by omega)]

theorem over_le {ls : List Ln} {s : Nat → Nat} (hs : sizesP ls s) (hl : linesP ls) (i : Nat) (lab : ByteArray) : overL ls s i lab ≤ 1800 := by
  have := cnt_le hs (n := pos ls lab) (pos_le ls lab)
  have := pos_le ls lab
  have := hl.1.2
  unfold overL
  omega

/-- What the three boxes hold: the plan, the line, the word. -/
def Box3 (W : World) (ls : List Ln) (s : Nat → Nat) (B g n cap b : Nat) (l : Ln) : Prop :=
  PlanP W ls s B g 0 ∧ W.cell? ⟨b, 0, none⟩ = some (.map (some B)) ∧ W.cell? ⟨b, 1, none⟩ = some (.slice (some ⟨g, 0, none⟩) (n + 1) cap) ∧ Hept W (b + 1) 0 l

theorem Box3.ext {W W' : World} {ls : List Ln} {s : Nat → Nat} {B g n cap b : Nat} {l : Ln} (h : Box3 W ls s B g n cap b l) (hE : Ext W W') : Box3 W' ls s B g n cap b l :=
  ⟨h.1.ext hE, (hE.cell (p := ⟨b, 0, none⟩) (World.block_lt_of_cell? _ _ h.2.1)).trans h.2.1, (hE.cell (p := ⟨b, 1, none⟩) (World.block_lt_of_cell? _ _ h.2.2.1)).trans h.2.2.1, h.2.2.2.ext hE⟩

theorem Box3.far {W : World} {ls : List Ln} {s : Nat → Nat} {B g n cap b k i : Nat} {l : Ln} (h : Box3 W ls s B g n cap b l) (v : Value) (h1 : B ≠ k) (h2 : g ≠ k) (h3 : b ≠ k) (h4 : b + 1 ≠ k) : Box3 (W.setCell ⟨k, i, none⟩ v) ls s B g n cap b l := by
  obtain ⟨⟨⟨D, m1, m2⟩, f, r1, r2⟩, c0, c1, ⟨d0, d1, d2, d3, d4, d5, d6⟩⟩ := h
  have hf : ∀ {x : Nat}, x ≠ k → ∀ o, (W.setCell ⟨k, i, none⟩ v).cell? ⟨x, o, none⟩ = W.cell? ⟨x, o, none⟩ := fun hx o => set_far fun e => hx (by injection e)
  exact ⟨⟨⟨D, m1.setCell (a := ⟨k, i, none⟩) h1 _, m2⟩, f, r1.far h2 _, r2⟩, (hf h3 _).trans c0, (hf h3 _).trans c1, (hf h4 _).trans d0, (hf h4 _).trans d1, (hf h4 _).trans d2, (hf h4 _).trans d3, (hf h4 _).trans d4, (hf h4 _).trans d5, (hf h4 _).trans d6⟩

theorem Quad.put {W : World} {b i : Nat} {p q : Wd} (h : Quad W b 0 p) (v : Int) (hq : q = (if i = 0 then v else p.1, if i = 1 then v else p.2.1, if i = 2 then v else p.2.2.1, if i = 3 then v else p.2.2.2)) : Quad (W.setCell ⟨b, i, none⟩ (.int .i64 v)) b 0 q := by
  obtain ⟨h0, h1, h2, h3⟩ := h
  simp only [Nat.zero_add] at h0 h1 h2 h3
  subst hq
  refine ⟨?_, ?_, ?_, ?_⟩
  · rw [cell_set W b i 0 _ _ h0]; by_cases e : i = 0
    · subst e; rfl
    · rw [if_neg (Ne.symm e)]; simp only [if_neg e]
  · rw [cell_set W b i 1 _ _ h1]; by_cases e : i = 1
    · subst e; rfl
    · rw [if_neg (Ne.symm e)]; simp only [if_neg e]
  · rw [cell_set W b i 2 _ _ h2]; by_cases e : i = 2
    · subst e; rfl
    · rw [if_neg (Ne.symm e)]; simp only [if_neg e]
  · rw [cell_set W b i 3 _ _ h3]; by_cases e : i = 3
    · subst e; rfl
    · rw [if_neg (Ne.symm e)]; simp only [if_neg e]

/-- No words, or a row of them from a block's head on. -/
def WordsV (W : World) (v : Value) (ws : List Wd) : Prop := (ws = [] ∧ v = .slice none 0 0) ∨ ∃ g c, v = .slice (some ⟨g, 0, none⟩) ws.length c ∧ ws ≠ [] ∧ Words W (some ⟨g, 0, none⟩) ws

set_option maxRecDepth 100000 in
set_option maxHeartbeats 8000000 in
theorem wordsOf_any (ls : List Ln) (s : Nat → Nat) (B g cap i : Nat) (lab yes no : ByteArray) (o kk y nn : Int) (w : World) (hl : linesP ls) (hs : sizesP ls s) (h : PlanP w ls s B g 0) (hi : i < ls.length) (hp : Ln.mk lab (o, kk, y, nn) yes no = ls.getD i zeroL) (ht : yes.size ≤ 1048576 ∧ no.size ≤ 1048576) :
    Calls Try.prog 40 #[.agg #[.map (some B), .slice (some ⟨g, 0, none⟩) (ls.length + 1) cap], .int .i64 (i : Int), .agg #[.string lab, .int .i64 o, .int .i64 kk, .int .i64 y, .int .i64 nn, .string yes, .string no]] w fun e w' => ∃ u, e = .returned u ∧ WordsV w' u (wordsL ls s i) ∧ Ext w w' := by
  obtain ⟨n, hn⟩ : ∃ n, n = ls.length := ⟨_, rfl⟩
  have HOV : Hid (∀ (lb : ByteArray) (w1 : World), onP ls i lb → lb.size ≤ 1048576 → PlanP w1 ls s B g 0 → Calls Try.prog 71 #[.agg #[.map (some B), .slice (some ⟨g, 0, none⟩) (n + 1) cap], .int .i64 (i : Int), .string lb] w1 fun e w' => e = .returned (.int .i64 (overL ls s i lb : Nat)) ∧ Ext w1 w') := fun lb w1 h1 h2 h3 => by rw [hn]; exact over_any ls s B g 0 cap i lb w1 hl hs h3 (Nat.zero_le _) h1 h2
  have hW : ∃ ws, ws = wordsL ls s i := ⟨_, rfl⟩
  obtain ⟨ws, hws⟩ := hW
  rw [← hws, ← hn]
  have HWS : Hid (ws = wordsL ls s i) := hws
  have hc := size_cases hs hi
  have hoy := over_le hs hl i yes
  have hon' := over_le hs hl i no
  have HH : Hid (linesP ls ∧ sizesP ls s ∧ i < ls.length ∧ n = ls.length ∧ Ln.mk lab (o, kk, y, nn) yes no = ls.getD i zeroL ∧ yes.size ≤ 1048576 ∧ no.size ≤ 1048576) := ⟨hl, hs, hi, hn, hp, ht⟩
  obtain ⟨W, hW⟩ : ∃ W, W = (((w.alloc (.cells #[.map (some B), .slice (some ⟨g, 0, none⟩) (n + 1) cap] 61)).alloc (.cells #[.string lab, .int .i64 o, .int .i64 kk, .int .i64 y, .int .i64 nn, .string yes, .string no] 37)).alloc (.cells #[.int .i64 o, .int .i64 kk, .int .i64 y, .int .i64 nn] 35)) := ⟨_, rfl⟩
  have hx : Ext w W := by rw [hW]; exact ((Ext.one _ _).alloc _).alloc _
  have HB : Hid (Box3 W ls s B g n cap w.heap.size ⟨lab, (o, kk, y, nn), yes, no⟩ ∧ Quad W (w.heap.size + 2) 0 (o, kk, y, nn) ∧ (∀ j, W.frozen? ⟨w.heap.size + 2, j, none⟩ = false) ∧ Ext w W) := by
    refine ⟨⟨h.ext hx, ?_, ?_, ?_⟩, ?_, ?_, hx⟩
    · rw [hW]; simp [go_sem]
    · rw [hW]; simp [go_sem]
    · have := (hept_box (w.alloc (.cells #[.map (some B), .slice (some ⟨g, 0, none⟩) (n + 1) cap] 61)) ⟨lab, (o, kk, y, nn), yes, no⟩ 37).ext (Ext.one _ (.cells #[.int .i64 o, .int .i64 kk, .int .i64 y, .int .i64 nn] 35))
      rw [hW]
      simpa using this
    · rw [hW]
      exact ⟨by simp [go_sem], by simp [go_sem], by simp [go_sem], by simp [go_sem]⟩
    · rw [hW]
      intro j
      simp [go_sem]
  have HLT : Hid (B < w.heap.size ∧ g < w.heap.size) := by
    obtain ⟨hm, f, hr, _⟩ := h
    exact ⟨hm.lt, hr.1⟩
  obtain ⟨u, v, x1, x2, huv, hu1, hu2, hv1, hv2⟩ : ∃ u v, W.cell? ⟨g, i, none⟩ = some (.int .i64 u) ∧ W.cell? ⟨g, i + 1, none⟩ = some (.int .i64 v) ∧ u - v = (s i : Int) ∧ -1800 ≤ u ∧ u ≤ 1800 ∧ -1800 ≤ v ∧ v ≤ 1800 := by
    obtain ⟨_, f, r1, r2⟩ := HB.out.1.1
    have h6 := hl.1.2
    refine ⟨_, _, (r1.2 i (by omega)).1, (r1.2 (i + 1) (by omega)).1, ?_⟩
    rw [r2 i (by omega) (by omega), r2 (i + 1) (by omega) (by omega)]
    have h1 := cnt_le hs (n := ls.length) (Nat.le_refl _)
    have h2 := cnt_le hs (n := i + 1) (by omega)
    have h3 : cnt s (i + 1) = cnt s i + s i := rfl
    omega
  have hn6 : n ≤ 600 := by have := hl.1.2; omega
  have bi : (i : Int) < (n : Int) + 1 := by omega
  have bi1 : (i : Int) + 1 < (n : Int) + 1 := by omega
  have z1 := HB.out.1.2.1
  have z2 := HB.out.1.2.2.1
  generalize hsv : s i = v0 at *
  have HSV : Hid (s i = v0) := hsv
  clear hsv
  clear h hl hs hi hp ht hn hws
  go_enter Try.func40, Try.ntmps40
  go_upto_region 2 with fail
  rw [← hW]
  clear hW hx
  go_wp2_with fail
  refine' wp_region_loose (.inl _ :: .inl _ :: .inl _ :: .inl _ :: .inl _ :: .inl _ :: .inl _ :: .inl _ :: .inl _ :: .inl _ :: .inl _ :: .inl _ :: .inl _ :: []) (fun w' => w'.cell? ⟨w.heap.size, 0, none⟩ = some (.map (some B)) ∧ w'.cell? ⟨w.heap.size, 1, none⟩ = some (.slice (some ⟨g, 0, none⟩) (n + 1) cap) ∧ w'.cell? ⟨g, i, none⟩ = some (.int .i64 u) ∧ w'.cell? ⟨g, i + 1, none⟩ = some (.int .i64 v)) (by kernel_rfl) (by kernel_rfl) (⟨z1, z2, x1, x2⟩) (fun _ _ h hE => ⟨(hE.cell (p := ⟨w.heap.size, 0, none⟩) (World.block_lt_of_cell? _ _ h.1)).trans h.1, (hE.cell (p := ⟨w.heap.size, 1, none⟩) (World.block_lt_of_cell? _ _ h.2.1)).trans h.2.1, (hE.cell (p := ⟨g, i, none⟩) (World.block_lt_of_cell? _ _ h.2.2.1)).trans h.2.2.1, (hE.cell (p := ⟨g, i + 1, none⟩) (World.block_lt_of_cell? _ _ h.2.2.2)).trans h.2.2.2⟩) ?hAa ?hla ?hMa
  case' hMa => skip
  apply wpLoose_val rfl rfl
  case hs =>
    intro w1 hC hd Q1 hQ1
    obtain ⟨hE, hS⟩ := hC
    dsimp only [bare]
    obtain ⟨q1, q2, q3, q4⟩ := hS
    clear hd hE
    try clear hS
    go_wp2
    exact Ext.refl _
  case ha => rfl
  apply wpLoose_val rfl rfl
  case hs =>
    intro w1 hC hd Q1 hQ1
    obtain ⟨hE, hS⟩ := hC
    dsimp only [bare]
    obtain ⟨q1, q2, q3, q4⟩ := hS
    clear hd hE
    try clear hS
    go_wp2
    exact Ext.refl _
  case ha => rfl
  apply wpLoose_val rfl rfl
  case hs =>
    intro w1 hC hd Q1 hQ1
    obtain ⟨hE, hS⟩ := hC
    dsimp only [bare]
    obtain ⟨q1, q2, q3, q4⟩ := hS
    clear hd hE
    try clear hS
    go_wp2
    exact Ext.refl _
  case ha => rfl
  apply wpLoose_val rfl rfl
  case hs =>
    intro w1 hC hd Q1 hQ1
    obtain ⟨hE, hS⟩ := hC
    dsimp only [bare]
    obtain ⟨q1, q2, q3, q4⟩ := hS
    clear hd hE
    try clear hS
    go_wp2
    exact Ext.refl _
  case ha => rfl
  apply wpLoose_val rfl rfl
  case hs =>
    intro w1 hC hd Q1 hQ1
    obtain ⟨hE, hS⟩ := hC
    dsimp only [bare]
    obtain ⟨q1, q2, q3, q4⟩ := hS
    clear hd hE
    try clear hS
    go_wp2
    exact Ext.refl _
  case ha => rfl
  apply wpLoose_val rfl rfl
  case hs =>
    intro w1 hC hd Q1 hQ1
    obtain ⟨hE, hS⟩ := hC
    dsimp only [bare]
    obtain ⟨q1, q2, q3, q4⟩ := hS
    clear hd hE
    try clear hS
    go_wp2
    exact Ext.refl _
  case ha => rfl
  apply wpLoose_val rfl rfl
  case hs =>
    intro w1 hC hd Q1 hQ1
    obtain ⟨hE, hS⟩ := hC
    dsimp only [bare]
    obtain ⟨q1, q2, q3, q4⟩ := hS
    clear hd hE
    try clear hS
    go_wp2
    exact Ext.refl _
  case ha => rfl
  apply wpLoose_val rfl rfl
  case hs =>
    intro w1 hC hd Q1 hQ1
    obtain ⟨hE, hS⟩ := hC
    dsimp only [bare]
    obtain ⟨q1, q2, q3, q4⟩ := hS
    clear hd hE
    try clear hS
    go_wp2
    exact Ext.refl _
  case ha => rfl
  apply wpLoose_val rfl rfl
  case hs =>
    intro w1 hC hd Q1 hQ1
    obtain ⟨hE, hS⟩ := hC
    dsimp only [bare]
    obtain ⟨q1, q2, q3, q4⟩ := hS
    clear hd hE
    try clear hS
    go_wp2
    exact Ext.refl _
  case ha => rfl
  apply wpLoose_val rfl rfl
  case hs =>
    intro w1 hC hd Q1 hQ1
    obtain ⟨hE, hS⟩ := hC
    dsimp only [bare]
    obtain ⟨q1, q2, q3, q4⟩ := hS
    clear hd hE
    try clear hS
    go_wp2
    exact Ext.refl _
  case ha => rfl
  apply wpLoose_val rfl rfl
  case hs =>
    intro w1 hC hd Q1 hQ1
    obtain ⟨hE, hS⟩ := hC
    dsimp only [bare]
    obtain ⟨q1, q2, q3, q4⟩ := hS
    clear hd hE
    try clear hS
    go_wp2
    exact Ext.refl _
  case ha => rfl
  apply wpLoose_val rfl rfl
  case hs =>
    intro w1 hC hd Q1 hQ1
    obtain ⟨hE, hS⟩ := hC
    dsimp only [bare]
    obtain ⟨q1, q2, q3, q4⟩ := hS
    clear hd hE
    try clear hS
    go_wp2
    exact Ext.refl _
  case ha => rfl
  apply wpLoose_val rfl rfl
  case hs =>
    intro w1 hC hd Q1 hQ1
    obtain ⟨hE, hS⟩ := hC
    dsimp only [bare]
    obtain ⟨q1, q2, q3, q4⟩ := hS
    clear hd hE
    try clear hS
    go_wp2
    exact Ext.refl _
  case ha => rfl
  refine wpLoose_nil ?_
  intro wa hEa hSa hFa
  have HB2 : Hid (Box3 wa ls s B g n cap w.heap.size ⟨lab, (o, kk, y, nn), yes, no⟩ ∧ Quad wa (w.heap.size + 2) 0 (o, kk, y, nn) ∧ (∀ j, wa.frozen? ⟨w.heap.size + 2, j, none⟩ = false) ∧ Ext w wa) := by
    obtain ⟨h1, h2, h3, h4⟩ := HB.out
    exact ⟨Box3.ext (W := W.drew) h1 hEa, Quad.below (w := W.drew) h2 hEa h2.lt, fun j => (hEa.frozen (p := ⟨w.heap.size + 2, j, none⟩) h2.lt).trans (h3 j), h4.drew.trans hEa⟩
  clear hFa hSa hEa x1 x2 z1 z2 HB
  rcases hc with rfl | rfl | rfl
  · have HW : Hid (ws = []) := by
      show _ = _
      rw [HWS.out]
      unfold wordsL
      rw [if_pos HSV.out]
    have HX : Hid (Ext w wa) := HB2.out.2.2.2
    clear HB2 HOV
    go_wp2
    go_ret
    exact ⟨_, rfl, .inl ⟨HW.out, rfl⟩, HX.out⟩
  · obtain ⟨z, hz⟩ : ∃ z, z = askB o := ⟨_, rfl⟩
    have HQI : Hid (∀ w, Calls Try.prog 72 #[.agg #[.string lab, .int .i64 o, .int .i64 kk, .int .i64 y, .int .i64 nn, .string yes, .string no]] w fun e w' => e = .returned (.bool z) ∧ Ext w w') := fun w => by rw [hz]; exact iAsk_any ⟨lab, (o, kk, y, nn), yes, no⟩ w
    obtain ⟨⟨_, _, _, t0, t1, t2, t3, t4, t5, t6⟩, _, _, _⟩ := HB2.out
    simp only [Nat.zero_add] at t0 t1 t2 t3 t4 t5 t6
    go_wp2_with fail
    refine (HQI.out _).mono ?_
    rintro e w4 ⟨rfl, e4⟩
    have HB4 : Hid (Box3 w4 ls s B g n cap w.heap.size ⟨lab, (o, kk, y, nn), yes, no⟩ ∧ Quad w4 (w.heap.size + 2) 0 (o, kk, y, nn) ∧ (∀ j, w4.frozen? ⟨w.heap.size + 2, j, none⟩ = false) ∧ Ext w w4) := by
      obtain ⟨h1, h2, h3, h4⟩ := HB2.out
      exact ⟨h1.ext e4, h2.below e4 h2.lt, fun j => (e4.frozen (p := ⟨w.heap.size + 2, j, none⟩) h2.lt).trans (h3 j), h4.trans e4⟩
    clear e4 HB2 HQI t0 t1 t2 t3 t4 t5 t6
    cases z with
    | true =>
      have HQ : Hid (onP ls i yes ∧ onP ls i no ∧ ws = [(o, kk, (overL ls s i yes : Int), (overL ls s i no : Int))]) := by
        obtain ⟨hl, hs, hi, hn, hp, ht1, ht2⟩ := HH.out
        have ha : askP (ls.getD i zeroL).wd.1 := by rw [← hp]; exact askB_true.1 hz.symm
        have hon := ask_on hl hi ha
        rw [← hp] at hon
        refine ⟨hon.1, hon.2, ?_⟩
        rw [HWS.out]
        unfold wordsL
        rw [if_neg (by rw [HSV.out]; decide), if_neg (by rw [HSV.out]; decide), ← hp, if_pos hz.symm]
      have HO1 : Hid (∀ w1, PlanP w1 ls s B g 0 → Calls Try.prog 71 #[.agg #[.map (some B), .slice (some ⟨g, 0, none⟩) (n + 1) cap], .int .i64 (i : Int), .string yes] w1 fun e w' => e = .returned (.int .i64 (overL ls s i yes : Nat)) ∧ Ext w1 w') := fun w1 h1 => HOV.out yes w1 HQ.out.1 HH.out.2.2.2.2.2.1 h1
      have HO2 : Hid (∀ w1, PlanP w1 ls s B g 0 → Calls Try.prog 71 #[.agg #[.map (some B), .slice (some ⟨g, 0, none⟩) (n + 1) cap], .int .i64 (i : Int), .string no] w1 fun e w' => e = .returned (.int .i64 (overL ls s i no : Nat)) ∧ Ext w1 w') := fun w1 h1 => HOV.out no w1 HQ.out.2.1 HH.out.2.2.2.2.2.2 h1
      have HWW : Hid (ws = [(o, kk, (overL ls s i yes : Int), (overL ls s i no : Int))]) := HQ.out.2.2
      clear HOV HQ hz
      generalize overL ls s i yes = c1 at *
      generalize overL ls s i no = c2 at *
      go_wp2_with fail
      refine' wp_region_loose_tail 11 (.inl _ :: .inl _ :: .inl _ :: .inl _ :: .inl _ :: .inl _ :: .inl _ :: .inl _ :: .inl _ :: .inl _ :: .inl _ :: []) (fun w' => Box3 w' ls s B g n cap w.heap.size ⟨lab, (o, kk, y, nn), yes, no⟩ ∧ Quad w' (w.heap.size + 2) 0 (o, kk, y, nn)) (by kernel_rfl) (by kernel_rfl) (⟨HB4.out.1, HB4.out.2.1⟩) (fun _ _ h hE => ⟨h.1.ext hE, h.2.below hE h.2.lt⟩) ?hAc ?hlc ?hMc
      case' hMc => skip
      simp only [List.take_succ_cons, List.take_zero, List.drop_succ_cons, List.drop_zero]
      apply wpLoose_val rfl rfl
      case hs =>
        intro w1 hC hd Q1 hQ1
        obtain ⟨hE, hS⟩ := hC
        dsimp only [bare]
        obtain ⟨⟨_, q1, q2, t0, t1, t2, t3, t4, t5, t6⟩, r0, r1, r2, r3⟩ := hS; simp only [Nat.zero_add] at t0 t1 t2 t3 t4 t5 t6 r0 r1 r2 r3
        clear hd hE
        try clear hS
        go_wp2
        exact Ext.refl _
      case ha => rfl
      apply wpLoose_val rfl rfl
      case hs =>
        intro w1 hC hd Q1 hQ1
        obtain ⟨hE, hS⟩ := hC
        dsimp only [bare]
        obtain ⟨⟨_, q1, q2, t0, t1, t2, t3, t4, t5, t6⟩, r0, r1, r2, r3⟩ := hS; simp only [Nat.zero_add] at t0 t1 t2 t3 t4 t5 t6 r0 r1 r2 r3
        clear hd hE
        try clear hS
        go_wp2
        exact Ext.refl _
      case ha => rfl
      apply wpLoose_val rfl rfl
      case hs =>
        intro w1 hC hd Q1 hQ1
        obtain ⟨hE, hS⟩ := hC
        dsimp only [bare]
        obtain ⟨⟨_, q1, q2, t0, t1, t2, t3, t4, t5, t6⟩, r0, r1, r2, r3⟩ := hS; simp only [Nat.zero_add] at t0 t1 t2 t3 t4 t5 t6 r0 r1 r2 r3
        clear hd hE
        try clear hS
        go_wp2
        exact Ext.refl _
      case ha => rfl
      apply wpLoose_val rfl rfl
      case hs =>
        intro w1 hC hd Q1 hQ1
        obtain ⟨hE, hS⟩ := hC
        dsimp only [bare]
        obtain ⟨⟨_, q1, q2, t0, t1, t2, t3, t4, t5, t6⟩, r0, r1, r2, r3⟩ := hS; simp only [Nat.zero_add] at t0 t1 t2 t3 t4 t5 t6 r0 r1 r2 r3
        clear hd hE
        try clear hS
        go_wp2
        exact Ext.refl _
      case ha => rfl
      apply wpLoose_val rfl rfl
      case hs =>
        intro w1 hC hd Q1 hQ1
        obtain ⟨hE, hS⟩ := hC
        dsimp only [bare]
        clear hd
        go_wp2_with fail
        refine (HO1.out _ hS.1.1).mono ?_
        rintro e w2 ⟨rfl, hb⟩
        go_wp2_with fail
        exact hb
      case ha => rfl
      apply wpLoose_val rfl rfl
      case hs =>
        intro w1 hC hd Q1 hQ1
        obtain ⟨hE, hS⟩ := hC
        dsimp only [bare]
        obtain ⟨⟨_, q1, q2, t0, t1, t2, t3, t4, t5, t6⟩, r0, r1, r2, r3⟩ := hS; simp only [Nat.zero_add] at t0 t1 t2 t3 t4 t5 t6 r0 r1 r2 r3
        clear hd hE
        try clear hS
        go_wp2
        exact Ext.refl _
      case ha => rfl
      apply wpLoose_val rfl rfl
      case hs =>
        intro w1 hC hd Q1 hQ1
        obtain ⟨hE, hS⟩ := hC
        dsimp only [bare]
        obtain ⟨⟨_, q1, q2, t0, t1, t2, t3, t4, t5, t6⟩, r0, r1, r2, r3⟩ := hS; simp only [Nat.zero_add] at t0 t1 t2 t3 t4 t5 t6 r0 r1 r2 r3
        clear hd hE
        try clear hS
        go_wp2
        exact Ext.refl _
      case ha => rfl
      apply wpLoose_val rfl rfl
      case hs =>
        intro w1 hC hd Q1 hQ1
        obtain ⟨hE, hS⟩ := hC
        dsimp only [bare]
        obtain ⟨⟨_, q1, q2, t0, t1, t2, t3, t4, t5, t6⟩, r0, r1, r2, r3⟩ := hS; simp only [Nat.zero_add] at t0 t1 t2 t3 t4 t5 t6 r0 r1 r2 r3
        clear hd hE
        try clear hS
        go_wp2
        exact Ext.refl _
      case ha => rfl
      apply wpLoose_val rfl rfl
      case hs =>
        intro w1 hC hd Q1 hQ1
        obtain ⟨hE, hS⟩ := hC
        dsimp only [bare]
        obtain ⟨⟨_, q1, q2, t0, t1, t2, t3, t4, t5, t6⟩, r0, r1, r2, r3⟩ := hS; simp only [Nat.zero_add] at t0 t1 t2 t3 t4 t5 t6 r0 r1 r2 r3
        clear hd hE
        try clear hS
        go_wp2
        exact Ext.refl _
      case ha => rfl
      apply wpLoose_val rfl rfl
      case hs =>
        intro w1 hC hd Q1 hQ1
        obtain ⟨hE, hS⟩ := hC
        dsimp only [bare]
        clear hd
        go_wp2_with fail
        refine (HO2.out _ hS.1.1).mono ?_
        rintro e w2 ⟨rfl, hb⟩
        go_wp2_with fail
        exact hb
      case ha => rfl
      apply wpLoose_val rfl rfl
      case hs =>
        intro w1 hC hd Q1 hQ1
        obtain ⟨hE, hS⟩ := hC
        dsimp only [bare]
        obtain ⟨⟨_, q1, q2, t0, t1, t2, t3, t4, t5, t6⟩, r0, r1, r2, r3⟩ := hS; simp only [Nat.zero_add] at t0 t1 t2 t3 t4 t5 t6 r0 r1 r2 r3
        clear hd hE
        try clear hS
        go_wp2
        exact Ext.refl _
      case ha => rfl
      refine wpLoose_nil ?_
      intro wc hEc hSc hFc
      have HX : Hid (Ext w wc ∧ Quad wc (w.heap.size + 2) 0 (o, kk, y, nn) ∧ ∀ j, wc.frozen? ⟨w.heap.size + 2, j, none⟩ = false) := ⟨HB4.out.2.2.2.drew.trans hEc, Quad.below (w := w4.drew) HB4.out.2.1 hEc HB4.out.2.1.lt, fun j => (hEc.frozen (p := ⟨w.heap.size + 2, j, none⟩) HB4.out.2.1.lt).trans (HB4.out.2.2.1 j)⟩
      obtain ⟨_, ⟨p0, p1, p2, p3⟩, fz⟩ := HX.out
      simp only [Nat.zero_add] at p0 p1 p2 p3
      have f2 := fz 2
      have f3 := fz 3
      clear fz hFc hSc hEc HB4
      go_wp2
      go_ret
      refine ⟨_, rfl, .inr ⟨wc.heap.size, 1, by rw [HWW.out]; rfl, by rw [HWW.out]; simp, ?_⟩, ?_⟩
      · rw [HWW.out]
        intro _
        refine ⟨wc.heap.size, 0, rfl, fun j hj => ?_⟩
        obtain rfl : j = 0 := by simp at hj; omega
        exact ⟨by simp [go_sem], by simp [go_sem], by simp [go_sem], by simp [go_sem]⟩
      · exact (Below.setCell (Below.setCell HX.out.1 (show w.heap.size ≤ w.heap.size + 2 by omega) _) (show w.heap.size ≤ w.heap.size + 2 by omega) _).alloc (by simp only [World.size_setCell]; exact HX.out.1.size) _
      case hAc => kernel_rfl
      case hlc => exact ⟨trivial, trivial, trivial, trivial, trivial, trivial, trivial, trivial, trivial, trivial, trivial, trivial⟩
    | false =>
      obtain ⟨⟨_, z1, z2, t0, t1, t2, t3, t4, t5, t6⟩, ⟨p0, p1, p2, p3⟩, fz, _⟩ := HB4.out
      simp only [Nat.zero_add] at t0 t1 t2 t3 t4 t5 t6 p0 p1 p2 p3
      by_cases h7 : o = 7
      · have HQ : Hid (onP ls i yes ∧ ws = [(o, (overL ls s i yes : Int), y, nn)]) := by
          obtain ⟨hl, hs, hi, hn, hp, ht1, ht2⟩ := HH.out
          have hon := jump_on hl hi (by rw [← hp]; exact h7)
          rw [← hp] at hon
          refine ⟨hon, ?_⟩
          rw [HWS.out]
          unfold wordsL
          rw [if_neg (by rw [HSV.out]; decide), if_neg (by rw [HSV.out]; decide), ← hp, if_neg (by rw [← hz]; decide), if_pos h7]
        have HO1 : Hid (∀ w1, PlanP w1 ls s B g 0 → Calls Try.prog 71 #[.agg #[.map (some B), .slice (some ⟨g, 0, none⟩) (n + 1) cap], .int .i64 (i : Int), .string yes] w1 fun e w' => e = .returned (.int .i64 (overL ls s i yes : Nat)) ∧ Ext w1 w') := fun w1 h1 => HOV.out yes w1 HQ.out.1 HH.out.2.2.2.2.2.1 h1
        have HWW : Hid (ws = [(o, (overL ls s i yes : Int), y, nn)]) := HQ.out.2
        clear HOV HQ hz
        generalize overL ls s i yes = c1 at *
        subst h7
        go_wp2_with fail
        refine (HO1.out _ HB4.out.1.1).mono ?_
        rintro e w5 ⟨rfl, e5⟩
        have HX : Hid (Ext w w5 ∧ Quad w5 (w.heap.size + 2) 0 (7, kk, y, nn) ∧ ∀ j, w5.frozen? ⟨w.heap.size + 2, j, none⟩ = false) := ⟨HB4.out.2.2.2.trans e5, HB4.out.2.1.below e5 HB4.out.2.1.lt, fun j => (e5.frozen (p := ⟨w.heap.size + 2, j, none⟩) HB4.out.2.1.lt).trans (HB4.out.2.2.1 j)⟩
        clear t0 t1 t2 t3 t4 t5 t6 p0 p1 p2 p3 fz e5 HB4 z1 z2
        obtain ⟨_, ⟨p0, p1, p2, p3⟩, fz⟩ := HX.out
        simp only [Nat.zero_add] at p0 p1 p2 p3
        have f1 := fz 1
        clear fz
        go_wp2
        go_ret
        refine ⟨_, rfl, .inr ⟨w5.heap.size, 1, by rw [HWW.out]; rfl, by rw [HWW.out]; simp, ?_⟩, ?_⟩
        · rw [HWW.out]
          intro _
          refine ⟨w5.heap.size, 0, rfl, fun j hj => ?_⟩
          obtain rfl : j = 0 := by simp at hj; omega
          exact ⟨by simp [go_sem], by simp [go_sem], by simp [go_sem], by simp [go_sem]⟩
        · exact (Below.setCell HX.out.1 (show w.heap.size ≤ w.heap.size + 2 by omega) _).alloc (by simp only [World.size_setCell]; exact HX.out.1.size) _
      · have q7 : (o == 7) = false := by simpa using h7
        have HWW : Hid (ws = [(o, kk, y, nn)]) := by
          obtain ⟨hl, hs, hi, hn, hp, ht1, ht2⟩ := HH.out
          show _ = _
          rw [HWS.out]
          unfold wordsL
          rw [if_neg (by rw [HSV.out]; decide), if_neg (by rw [HSV.out]; decide), ← hp, if_neg (by rw [← hz]; decide), if_neg h7]
        have HX : Hid (Ext w w4) := HB4.out.2.2.2
        clear HOV hz h7 fz HB4
        go_wp2
        go_ret
        refine ⟨_, rfl, .inr ⟨w4.heap.size, 1, by rw [HWW.out]; rfl, by rw [HWW.out]; simp, ?_⟩, HX.out.alloc _⟩
        rw [HWW.out]
        intro _
        refine ⟨w4.heap.size, 0, rfl, fun j hj => ?_⟩
        obtain rfl : j = 0 := by simp at hj; omega
        exact ⟨by simp [go_sem], by simp [go_sem], by simp [go_sem], by simp [go_sem]⟩
  · have HQ : Hid (onP ls i yes ∧ onP ls i no ∧ ws = [(o, kk, 0, 1), (7, 1 + (overL ls s i yes : Int), 0, 0), (7, (overL ls s i no : Int), 0, 0)]) := by
      obtain ⟨hl, hs, hi, hn, hp, ht1, ht2⟩ := HH.out
      have ha : askP (ls.getD i zeroL).wd.1 := by
        have h3 := HSV.out
        rcases hs i hi with ⟨_, h⟩ | ⟨h, _⟩ | ⟨h, _⟩ | ⟨_, _, h⟩
        · omega
        · exact h
        · exact h
        · omega
      have hon := ask_on hl hi ha
      rw [← hp] at hon
      refine ⟨hon.1, hon.2, ?_⟩
      rw [HWS.out]
      unfold wordsL
      rw [if_neg (by rw [HSV.out]; decide), if_pos HSV.out, ← hp]
    have HO1 : Hid (∀ w1, PlanP w1 ls s B g 0 → Calls Try.prog 71 #[.agg #[.map (some B), .slice (some ⟨g, 0, none⟩) (n + 1) cap], .int .i64 (i : Int), .string yes] w1 fun e w' => e = .returned (.int .i64 (overL ls s i yes : Nat)) ∧ Ext w1 w') := fun w1 h1 => HOV.out yes w1 HQ.out.1 HH.out.2.2.2.2.2.1 h1
    have HO2 : Hid (∀ w1, PlanP w1 ls s B g 0 → Calls Try.prog 71 #[.agg #[.map (some B), .slice (some ⟨g, 0, none⟩) (n + 1) cap], .int .i64 (i : Int), .string no] w1 fun e w' => e = .returned (.int .i64 (overL ls s i no : Nat)) ∧ Ext w1 w') := fun w1 h1 => HOV.out no w1 HQ.out.2.1 HH.out.2.2.2.2.2.2 h1
    have HWW : Hid (ws = [(o, kk, 0, 1), (7, 1 + (overL ls s i yes : Int), 0, 0), (7, (overL ls s i no : Int), 0, 0)]) := HQ.out.2.2
    clear HOV HQ
    generalize overL ls s i yes = c1 at *
    generalize overL ls s i no = c2 at *
    obtain ⟨_, ⟨p0, p1, p2, p3⟩, fz, _⟩ := HB2.out
    simp only [Nat.zero_add] at p0 p1 p2 p3
    have f2 := fz 2
    have f3 := fz 3
    clear fz
    go_upto_region 7 with fail
    have HB3 : Hid (Box3 ((wa.setCell ⟨w.heap.size + 2, 2, none⟩ (.int .i64 0)).setCell ⟨w.heap.size + 2, 3, none⟩ (.int .i64 1)) ls s B g n cap w.heap.size ⟨lab, (o, kk, y, nn), yes, no⟩ ∧ Quad ((wa.setCell ⟨w.heap.size + 2, 2, none⟩ (.int .i64 0)).setCell ⟨w.heap.size + 2, 3, none⟩ (.int .i64 1)) (w.heap.size + 2) 0 (o, kk, 0, 1) ∧ Ext w ((wa.setCell ⟨w.heap.size + 2, 2, none⟩ (.int .i64 0)).setCell ⟨w.heap.size + 2, 3, none⟩ (.int .i64 1))) := by
      obtain ⟨h1, h2, h3, h4⟩ := HB2.out
      have := HLT.out
      exact ⟨(h1.far _ (by omega) (by omega) (by omega) (by omega)).far _ (by omega) (by omega) (by omega) (by omega), (h2.put (q := (o, kk, 0, nn)) 0 rfl).put 1 rfl, Below.setCell (Below.setCell h4 (show w.heap.size ≤ w.heap.size + 2 by omega) _) (show w.heap.size ≤ w.heap.size + 2 by omega) _⟩
    clear p0 p1 p2 p3 f2 f3 HB2
    generalize (wa.setCell ⟨w.heap.size + 2, 2, none⟩ (.int .i64 0)).setCell ⟨w.heap.size + 2, 3, none⟩ (.int .i64 1) = W6 at *
    refine' wp_region_loose_tail 14 (.inl _ :: .inl _ :: .inl _ :: .inl _ :: .inl _ :: .inl _ :: .inl _ :: .inl _ :: .inl _ :: .inl _ :: .inl _ :: .inl _ :: .inl _ :: .inl _ :: []) (fun w' => Box3 w' ls s B g n cap w.heap.size ⟨lab, (o, kk, y, nn), yes, no⟩ ∧ Quad w' (w.heap.size + 2) 0 (o, kk, 0, 1)) (by kernel_rfl) (by kernel_rfl) (⟨HB3.out.1, HB3.out.2.1⟩) (fun _ _ h hE => ⟨h.1.ext hE, h.2.below hE h.2.lt⟩) ?hAb ?hlb ?hMb
    case' hMb => skip
    simp only [List.take_succ_cons, List.take_zero, List.drop_succ_cons, List.drop_zero]
    apply wpLoose_val rfl rfl
    case hs =>
      intro w1 hC hd Q1 hQ1
      obtain ⟨hE, hS⟩ := hC
      dsimp only [bare]
      obtain ⟨⟨_, q1, q2, t0, t1, t2, t3, t4, t5, t6⟩, r0, r1, r2, r3⟩ := hS; simp only [Nat.zero_add] at t0 t1 t2 t3 t4 t5 t6 r0 r1 r2 r3
      clear hd hE
      try clear hS
      go_wp2
      exact Ext.refl _
    case ha => rfl
    apply wpLoose_val rfl rfl
    case hs =>
      intro w1 hC hd Q1 hQ1
      obtain ⟨hE, hS⟩ := hC
      dsimp only [bare]
      obtain ⟨⟨_, q1, q2, t0, t1, t2, t3, t4, t5, t6⟩, r0, r1, r2, r3⟩ := hS; simp only [Nat.zero_add] at t0 t1 t2 t3 t4 t5 t6 r0 r1 r2 r3
      clear hd hE
      try clear hS
      go_wp2
      exact Ext.refl _
    case ha => rfl
    apply wpLoose_val rfl rfl
    case hs =>
      intro w1 hC hd Q1 hQ1
      obtain ⟨hE, hS⟩ := hC
      dsimp only [bare]
      obtain ⟨⟨_, q1, q2, t0, t1, t2, t3, t4, t5, t6⟩, r0, r1, r2, r3⟩ := hS; simp only [Nat.zero_add] at t0 t1 t2 t3 t4 t5 t6 r0 r1 r2 r3
      clear hd hE
      try clear hS
      go_wp2
      exact Ext.refl _
    case ha => rfl
    apply wpLoose_val rfl rfl
    case hs =>
      intro w1 hC hd Q1 hQ1
      obtain ⟨hE, hS⟩ := hC
      dsimp only [bare]
      obtain ⟨⟨_, q1, q2, t0, t1, t2, t3, t4, t5, t6⟩, r0, r1, r2, r3⟩ := hS; simp only [Nat.zero_add] at t0 t1 t2 t3 t4 t5 t6 r0 r1 r2 r3
      clear hd hE
      try clear hS
      go_wp2
      exact Ext.refl _
    case ha => rfl
    apply wpLoose_val rfl rfl
    case hs =>
      intro w1 hC hd Q1 hQ1
      obtain ⟨hE, hS⟩ := hC
      dsimp only [bare]
      obtain ⟨⟨_, q1, q2, t0, t1, t2, t3, t4, t5, t6⟩, r0, r1, r2, r3⟩ := hS; simp only [Nat.zero_add] at t0 t1 t2 t3 t4 t5 t6 r0 r1 r2 r3
      clear hd hE
      try clear hS
      go_wp2
      exact Ext.refl _
    case ha => rfl
    apply wpLoose_val rfl rfl
    case hs =>
      intro w1 hC hd Q1 hQ1
      obtain ⟨hE, hS⟩ := hC
      dsimp only [bare]
      clear hd
      go_wp2_with fail
      refine (HO1.out _ hS.1.1).mono ?_
      rintro e w2 ⟨rfl, hb⟩
      go_wp2_with fail
      exact hb
    case ha => rfl
    apply wpLoose_val rfl rfl
    case hs =>
      intro w1 hC hd Q1 hQ1
      obtain ⟨hE, hS⟩ := hC
      dsimp only [bare]
      obtain ⟨⟨_, q1, q2, t0, t1, t2, t3, t4, t5, t6⟩, r0, r1, r2, r3⟩ := hS; simp only [Nat.zero_add] at t0 t1 t2 t3 t4 t5 t6 r0 r1 r2 r3
      clear hd hE
      try clear hS
      go_wp2
      exact Ext.refl _
    case ha => rfl
    apply wpLoose_val rfl rfl
    case hs =>
      intro w1 hC hd Q1 hQ1
      obtain ⟨hE, hS⟩ := hC
      dsimp only [bare]
      obtain ⟨⟨_, q1, q2, t0, t1, t2, t3, t4, t5, t6⟩, r0, r1, r2, r3⟩ := hS; simp only [Nat.zero_add] at t0 t1 t2 t3 t4 t5 t6 r0 r1 r2 r3
      clear hd hE
      try clear hS
      go_wp2
      exact Ext.refl _
    case ha => rfl
    apply wpLoose_val rfl rfl
    case hs =>
      intro w1 hC hd Q1 hQ1
      obtain ⟨hE, hS⟩ := hC
      dsimp only [bare]
      obtain ⟨⟨_, q1, q2, t0, t1, t2, t3, t4, t5, t6⟩, r0, r1, r2, r3⟩ := hS; simp only [Nat.zero_add] at t0 t1 t2 t3 t4 t5 t6 r0 r1 r2 r3
      clear hd hE
      try clear hS
      go_wp2
      exact Ext.refl _
    case ha => rfl
    apply wpLoose_val rfl rfl
    case hs =>
      intro w1 hC hd Q1 hQ1
      obtain ⟨hE, hS⟩ := hC
      dsimp only [bare]
      obtain ⟨⟨_, q1, q2, t0, t1, t2, t3, t4, t5, t6⟩, r0, r1, r2, r3⟩ := hS; simp only [Nat.zero_add] at t0 t1 t2 t3 t4 t5 t6 r0 r1 r2 r3
      clear hd hE
      try clear hS
      go_wp2
      exact Ext.refl _
    case ha => rfl
    apply wpLoose_val rfl rfl
    case hs =>
      intro w1 hC hd Q1 hQ1
      obtain ⟨hE, hS⟩ := hC
      dsimp only [bare]
      obtain ⟨⟨_, q1, q2, t0, t1, t2, t3, t4, t5, t6⟩, r0, r1, r2, r3⟩ := hS; simp only [Nat.zero_add] at t0 t1 t2 t3 t4 t5 t6 r0 r1 r2 r3
      clear hd hE
      try clear hS
      go_wp2
      exact Ext.refl _
    case ha => rfl
    apply wpLoose_val rfl rfl
    case hs =>
      intro w1 hC hd Q1 hQ1
      obtain ⟨hE, hS⟩ := hC
      dsimp only [bare]
      obtain ⟨⟨_, q1, q2, t0, t1, t2, t3, t4, t5, t6⟩, r0, r1, r2, r3⟩ := hS; simp only [Nat.zero_add] at t0 t1 t2 t3 t4 t5 t6 r0 r1 r2 r3
      clear hd hE
      try clear hS
      go_wp2
      exact Ext.refl _
    case ha => rfl
    apply wpLoose_val rfl rfl
    case hs =>
      intro w1 hC hd Q1 hQ1
      obtain ⟨hE, hS⟩ := hC
      dsimp only [bare]
      clear hd
      go_wp2_with fail
      refine (HO2.out _ hS.1.1).mono ?_
      rintro e w2 ⟨rfl, hb⟩
      go_wp2_with fail
      exact hb
    case ha => rfl
    apply wpLoose_val rfl rfl
    case hs =>
      intro w1 hC hd Q1 hQ1
      obtain ⟨hE, hS⟩ := hC
      dsimp only [bare]
      obtain ⟨⟨_, q1, q2, t0, t1, t2, t3, t4, t5, t6⟩, r0, r1, r2, r3⟩ := hS; simp only [Nat.zero_add] at t0 t1 t2 t3 t4 t5 t6 r0 r1 r2 r3
      clear hd hE
      try clear hS
      go_wp2
      exact Ext.refl _
    case ha => rfl
    refine wpLoose_nil ?_
    intro wb hEb hSb hFb
    have HX : Hid (Ext w wb) := HB3.out.2.2.drew.trans hEb
    clear hFb hSb hEb HB3
    go_wp2
    go_ret
    refine ⟨_, rfl, .inr ⟨wb.heap.size, 3, by rw [HWW.out]; rfl, by rw [HWW.out]; simp, ?_⟩, HX.out.alloc _⟩
    rw [HWW.out]
    intro _
    refine ⟨wb.heap.size, 0, rfl, fun j hj => ?_⟩
    have hj3 : j = 0 ∨ j = 1 ∨ j = 2 := by simp at hj; omega
    rcases hj3 with rfl | rfl | rfl
    · exact ⟨by simp [go_sem], by simp [go_sem], by simp [go_sem], by simp [go_sem]⟩
    · exact ⟨by simp [go_sem], by simp [go_sem], by simp [go_sem], by simp [go_sem]⟩
    · exact ⟨by simp [go_sem], by simp [go_sem], by simp [go_sem], by simp [go_sem]⟩
    case hAb => kernel_rfl
    case hlb => exact ⟨trivial, trivial, trivial, trivial, trivial, trivial, trivial, trivial, trivial, trivial, trivial, trivial, trivial, trivial, trivial⟩
  case hAa => kernel_rfl
  case hla => exact ⟨trivial, trivial, trivial, trivial, trivial, trivial, trivial, trivial, trivial, trivial, trivial, trivial, trivial, trivial⟩

def labA (i : Nat) : ByteArray := ⟨#[97, UInt8.ofNat (48 + i)]⟩
def labB (i : Nat) : ByteArray := ⟨#[98, UInt8.ofNat (48 + i)]⟩

theorem labs_ne {i j : Nat} (hi : i < 4) (hj : j < 4) : (i ≠ j → labA i ≠ labA j ∧ labB i ≠ labB j) ∧ labA i ≠ labB j := by
  have h : (i = 0 ∨ i = 1 ∨ i = 2 ∨ i = 3) ∧ (j = 0 ∨ j = 1 ∨ j = 2 ∨ j = 3) := by omega
  obtain ⟨h1, h2⟩ := h
  rcases h1 with rfl | rfl | rfl | rfl <;> rcases h2 with rfl | rfl | rfl | rfl <;> decide

theorem labs_size (i : Nat) : (labA i).size = 2 ∧ (labB i).size = 2 := ⟨rfl, rfl⟩

theorem getD_left {l m : List Ln} {i : Nat} (h : i < l.length) : (l ++ m).getD i zeroL = l.getD i zeroL := by
  simp only [List.getD_eq_getElem?_getD]
  rw [List.getElem?_append_left h]

theorem getD_right {l m : List Ln} {i : Nat} : (l ++ m).getD (l.length + i) zeroL = m.getD i zeroL := by
  simp only [List.getD_eq_getElem?_getD]
  rw [List.getElem?_append_right (by omega), Nat.add_sub_cancel_left]

theorem beh_more {l m : List Ln} {i : Nat} {s : ByteArray} (h : behP l i s) : behP (l ++ m) i s := by
  obtain ⟨j, h1, h2, h3⟩ := h
  exact ⟨j, h1, by simp; omega, by rw [getD_left h2]; exact h3⟩

theorem lead_more {l m : List Ln} {i : Nat} {x : Ln} (h : leadP l i x) : leadP (l ++ m) i x := by
  rcases h with ⟨a, b, c⟩ | ⟨a, b, c, d⟩ | ⟨a, b, c, d⟩
  · exact .inl ⟨a, beh_more b, beh_more c⟩
  · exact .inr (.inl ⟨a, b, beh_more c, d⟩)
  · exact .inr (.inr ⟨a, b, c, d⟩)

/-- Short texts. -/
def shortL (x : Ln) : Prop := x.lab.size ≤ 12 ∧ x.yes.size ≤ 12 ∧ x.no.size ≤ 12

/-- What is drawn after i blocks. -/
structure PreP (i : Nat) (l : List Ln) : Prop where
  len : l.length ≤ 1 + 26 * i
  pos : 1 ≤ l.length
  fits : ∀ j, j < l.length → fitsP (l.getD j zeroL) ∧ leadP l j (l.getD j zeroL) ∧ shortL (l.getD j zeroL)
  once : oncePto l l.length
  labs : ∀ j, j < l.length → (l.getD j zeroL).wd.1 = 0 → ∃ q, q < i ∧ ((l.getD j zeroL).lab = labA q ∨ (l.getD j zeroL).lab = labB q)

/-- A word that is no place and leads to the two places of its block at most. -/
def midL (a b : ByteArray) (x : Ln) : Prop :=
  x.wd.1 ≠ 0 ∧ fitsP x ∧ shortL x ∧ ((askP x.wd.1 ∧ x.yes = a ∧ x.no = b) ∨ (¬ askP x.wd.1 ∧ x.wd.1 = 7 ∧ x.yes = b ∧ x.no = noText) ∨ (¬ askP x.wd.1 ∧ x.wd.1 ≠ 7 ∧ x.yes = noText ∧ x.no = noText))

/-- Within block i: what was ahead, and k words. -/
def MidP (i k : Nat) (l : List Ln) : Prop := ∃ l0 m, l = l0 ++ m ∧ PreP i l0 ∧ m.length = k ∧ ∀ x ∈ m, midL (labA i) (labB i) x

theorem MidP.start {i : Nat} {l : List Ln} (h : PreP i l) : MidP i 0 l := ⟨l, [], by simp, h, rfl, fun x hx => by cases hx⟩

theorem MidP.push {i k : Nat} {l : List Ln} (h : MidP i k l) {x : Ln} (hx : midL (labA i) (labB i) x) : MidP i (k + 1) (l ++ [x]) := by
  obtain ⟨l0, m, rfl, h1, h2, h3⟩ := h
  exact ⟨l0, m ++ [x], by simp, h1, by simp [h2], fun y hy => by
    rcases List.mem_append.1 hy with hy | hy
    · exact h3 y hy
    · rw [List.mem_singleton.1 hy]; exact hx⟩

theorem MidP.len {i k : Nat} {l : List Ln} (h : MidP i k l) : l.length ≤ 1 + 26 * i + k := by
  obtain ⟨l0, m, rfl, h1, h2, _⟩ := h
  have := h1.len
  simp
  omega

theorem noText_short : noText.size ≤ 12 := by decide

def plainL (o k : Int) : Ln := ⟨noText, (o, k, 0, 0), noText, noText⟩
def placeL (s : ByteArray) : Ln := ⟨s, zeroW, noText, noText⟩

theorem plain_fits {o k : Int} (ho : o = 1 ∧ 0 ≤ k ∧ k ≤ 7 ∨ o = 2 ∧ 0 ≤ k ∧ k ≤ 4294967295 ∨ o = 8 ∧ 0 ≤ k ∧ k ≤ 4294967295) : (plainL o k).wd.1 ≠ 0 ∧ fitsP (plainL o k) ∧ shortL (plainL o k) ∧ ¬ askP (plainL o k).wd.1 ∧ (plainL o k).wd.1 ≠ 7 := by
  have h0 : o ≠ 0 := by omega
  refine ⟨h0, .inr ⟨h0, rfl, ?_, ?_, ?_⟩, ⟨noText_short, noText_short, noText_short⟩, ?_, ?_⟩
  · show okW (o, k, 0, 0) = true
    rw [okW_P]
    show insP o k 0 0
    exact ⟨by omega, by omega, by omega, by omega, by omega, by omega, by omega, by omega, .inr ⟨rfl, rfl⟩, fun h => by omega, fun h => by omega⟩
  · show yesW (o, k, 0, 0) = 0
    unfold yesW
    simp only
    rw [if_neg (by omega), if_neg (by omega)]
  · show noW (o, k, 0, 0) = 0
    unfold noW
    simp only
    rw [if_neg (by omega), if_neg (by omega)]
  · show ¬ askP o
    unfold askP
    omega
  · show o ≠ 7
    omega

theorem mid_plain {i : Nat} {k : Int} (hk : 0 ≤ k ∧ k ≤ 4294967295) : midL (labA i) (labB i) (plainL 2 k) := by
  obtain ⟨h1, h2, h3, h4, h5⟩ := plain_fits (o := 2) (k := k) (by omega)
  exact ⟨h1, h2, h3, .inr (.inr ⟨h4, h5, rfl, rfl⟩)⟩

theorem mid_ask {i : Nat} {o k : Int} (ho : 3 ≤ o ∧ o ≤ 6) (hk : 0 ≤ k ∧ k ≤ 4294967295) : midL (labA i) (labB i) ⟨noText, (o, k, 0, 0), labA i, labB i⟩ := by
  have h0 : o ≠ 0 := by omega
  refine ⟨h0, .inr ⟨h0, rfl, ?_, ?_, ?_⟩, ⟨noText_short, by have := (labs_size i).1; simp only; omega, by have := (labs_size i).2; simp only; omega⟩, .inl ⟨ho, rfl, rfl⟩⟩
  · show okW (o, k, 0, 0) = true
    rw [okW_P]
    unfold insP
    simp only
    omega
  · show yesW (o, k, 0, 0) = 0
    unfold yesW
    simp only
    rw [if_pos ho]
  · show noW (o, k, 0, 0) = 0
    unfold noW
    simp only
    rw [if_pos ho]

theorem mid_jump {i : Nat} : midL (labA i) (labB i) ⟨noText, (7, 0, 0, 0), labB i, noText⟩ := by
  have h7 : (7 : Int) ≠ 0 := by decide
  have hk : okW (7, 0, 0, 0) = true := by decide
  have hy : yesW (7, 0, 0, 0) = 0 := by decide
  have hn : noW (7, 0, 0, 0) = 0 := by decide
  exact ⟨h7, .inr ⟨h7, rfl, hk, hy, hn⟩, ⟨noText_short, by have := (labs_size i).2; simp only; omega, noText_short⟩, .inr (.inl ⟨by unfold askP; simp, rfl, rfl, rfl⟩)⟩

theorem place_fits {s : ByteArray} (h : s.size = 2) : fitsP (placeL s) ∧ shortL (placeL s) ∧ (placeL s).wd.1 = 0 := ⟨.inl ⟨rfl, by show 1 ≤ s.size ∧ s.size ≤ 12; omega, rfl, rfl, rfl⟩, ⟨by show s.size ≤ 12; omega, noText_short, noText_short⟩, rfl⟩

/-- A block's end: the two places, a word behind each. -/
theorem MidP.close {i k : Nat} {l : List Ln} (hi : i < 4) (h : MidP i k l) (hk : k ≤ 22) {u v : Int} (hu : 0 ≤ u ∧ u ≤ 7) (hv : 0 ≤ v ∧ v ≤ 4294967295) :
    PreP (i + 1) (l ++ [placeL (labA i), plainL 1 u] ++ [placeL (labB i), plainL 2 v]) := by
  obtain ⟨l0, m, rfl, h1, h2, h3⟩ := h
  obtain ⟨hl, hp, hf, ho, hlab⟩ := h1
  have e : l0 ++ m ++ [placeL (labA i), plainL 1 u] ++ [placeL (labB i), plainL 2 v] = l0 ++ (m ++ [placeL (labA i), plainL 1 u, placeL (labB i), plainL 2 v]) := by simp
  rw [e]
  have hm : ∀ j, j < m.length → (m ++ [placeL (labA i), plainL 1 u, placeL (labB i), plainL 2 v]).getD j zeroL = m.getD j zeroL ∧ m.getD j zeroL ∈ m := fun j hj => ⟨getD_left hj, by
    rw [List.getD_eq_getElem?_getD, List.getElem?_eq_getElem hj]; exact List.getElem_mem hj⟩
  have h4 : ∀ j, (m ++ [placeL (labA i), plainL 1 u, placeL (labB i), plainL 2 v]).getD (m.length + j) zeroL = [placeL (labA i), plainL 1 u, placeL (labB i), plainL 2 v].getD j zeroL := fun j => getD_right
  have hbA : ∀ j, j ≤ l0.length + m.length → behP (l0 ++ (m ++ [placeL (labA i), plainL 1 u, placeL (labB i), plainL 2 v])) j (labA i) := fun j hj => ⟨l0.length + (m.length + 0), by omega, by simp, by rw [getD_right, h4]; exact ⟨rfl, rfl⟩⟩
  have hbB : ∀ j, j ≤ l0.length + m.length → behP (l0 ++ (m ++ [placeL (labA i), plainL 1 u, placeL (labB i), plainL 2 v])) j (labB i) := fun j hj => ⟨l0.length + (m.length + 2), by omega, by simp, by rw [getD_right, h4]; exact ⟨rfl, rfl⟩⟩
  have pu := plain_fits (o := 1) (k := u) (by omega)
  have pv := plain_fits (o := 2) (k := v) (by omega)
  have leadPl : ∀ {o k : Int} {ls : List Ln} {j : Nat}, ¬ askP (plainL o k).wd.1 → (plainL o k).wd.1 ≠ 7 → leadP ls j (plainL o k) := fun a b => .inr (.inr ⟨a, b, rfl, rfl⟩)
  have leadPc : ∀ {s : ByteArray} {ls : List Ln} {j : Nat}, leadP ls j (placeL s) := .inr (.inr ⟨by unfold askP placeL zeroW; simp, by unfold placeL zeroW; simp, rfl, rfl⟩)
  have part : ∀ j, j < (l0 ++ (m ++ [placeL (labA i), plainL 1 u, placeL (labB i), plainL 2 v])).length → j < l0.length ∨ (∃ q, q < m.length ∧ j = l0.length + q) ∨ ∃ q, q < 4 ∧ j = l0.length + (m.length + q) := fun j hj => by
    simp at hj
    rcases Nat.lt_or_ge j l0.length with h | h
    · exact .inl h
    · rcases Nat.lt_or_ge j (l0.length + m.length) with h' | h'
      · exact .inr (.inl ⟨j - l0.length, by omega, by omega⟩)
      · exact .inr (.inr ⟨j - l0.length - m.length, by omega, by omega⟩)
  have zero : ∀ j, j < (l0 ++ (m ++ [placeL (labA i), plainL 1 u, placeL (labB i), plainL 2 v])).length → ((l0 ++ (m ++ [placeL (labA i), plainL 1 u, placeL (labB i), plainL 2 v])).getD j zeroL).wd.1 = 0 → (j < l0.length) ∨ (j = l0.length + (m.length + 0) ∧ ((l0 ++ (m ++ [placeL (labA i), plainL 1 u, placeL (labB i), plainL 2 v])).getD j zeroL).lab = labA i) ∨ (j = l0.length + (m.length + 2) ∧ ((l0 ++ (m ++ [placeL (labA i), plainL 1 u, placeL (labB i), plainL 2 v])).getD j zeroL).lab = labB i) := fun j hj h0 => by
    rcases part j hj with h | ⟨q, hq, rfl⟩ | ⟨q, hq, rfl⟩
    · exact .inl h
    · rw [getD_right, (hm q hq).1] at h0
      exact absurd h0 (h3 _ (hm q hq).2).1
    · rw [getD_right, h4] at h0 ⊢
      have : q = 0 ∨ q = 1 ∨ q = 2 ∨ q = 3 := by omega
      rcases this with rfl | rfl | rfl | rfl
      · exact .inr (.inl ⟨rfl, rfl⟩)
      · exact absurd h0 pu.1
      · exact .inr (.inr ⟨rfl, rfl⟩)
      · exact absurd h0 pv.1
  refine ⟨by simp; omega, by simp; omega, fun j hj => ?_, ?_, fun j hj h0 => ?_⟩
  · rcases part j hj with h | ⟨q, hq, rfl⟩ | ⟨q, hq, rfl⟩
    · rw [getD_left h]
      exact ⟨(hf j h).1, lead_more (hf j h).2.1, (hf j h).2.2⟩
    · rw [getD_right, (hm q hq).1]
      obtain ⟨g1, g2, g3, g4⟩ := h3 _ (hm q hq).2
      refine ⟨g2, ?_, g3⟩
      rcases g4 with ⟨a, b, c⟩ | ⟨a, b, c, d⟩ | ⟨a, b, c, d⟩
      · exact .inl ⟨a, by rw [b]; exact hbA _ (by omega), by rw [c]; exact hbB _ (by omega)⟩
      · exact .inr (.inl ⟨a, b, by rw [c]; exact hbB _ (by omega), d⟩)
      · exact .inr (.inr ⟨a, b, c, d⟩)
    · rw [getD_right, h4]
      have : q = 0 ∨ q = 1 ∨ q = 2 ∨ q = 3 := by omega
      rcases this with rfl | rfl | rfl | rfl
      · exact ⟨(place_fits (labs_size i).1).1, leadPc, (place_fits (labs_size i).1).2.1⟩
      · exact ⟨pu.2.1, leadPl pu.2.2.2.1 pu.2.2.2.2, pu.2.2.1⟩
      · exact ⟨(place_fits (labs_size i).2).1, leadPc, (place_fits (labs_size i).2).2.1⟩
      · exact ⟨pv.2.1, leadPl pv.2.2.2.1 pv.2.2.2.2, pv.2.2.1⟩
  · intro j j' hjj hj' h0 h0' he
    have hj : j < (l0 ++ (m ++ [placeL (labA i), plainL 1 u, placeL (labB i), plainL 2 v])).length := by omega
    have old : ∀ t, t < l0.length → ((l0 ++ (m ++ [placeL (labA i), plainL 1 u, placeL (labB i), plainL 2 v])).getD t zeroL).wd.1 = 0 → ((l0 ++ (m ++ [placeL (labA i), plainL 1 u, placeL (labB i), plainL 2 v])).getD t zeroL).lab ≠ labA i ∧ ((l0 ++ (m ++ [placeL (labA i), plainL 1 u, placeL (labB i), plainL 2 v])).getD t zeroL).lab ≠ labB i := fun t ht h => by
      rw [getD_left ht] at h ⊢
      obtain ⟨q, hq, hql⟩ := hlab t ht h
      have n1 := labs_ne (i := q) (j := i) (by omega) hi
      have n2 := labs_ne (i := i) (j := q) hi (by omega)
      rcases hql with hql | hql
      · rw [hql]; exact ⟨(n1.1 (by omega)).1, n1.2⟩
      · rw [hql]; exact ⟨Ne.symm n2.2, (n1.1 (by omega)).2⟩
    rcases zero j hj h0 with z | ⟨z, zl⟩ | ⟨z, zl⟩ <;> rcases zero j' hj' h0' with z' | ⟨z', zl'⟩ | ⟨z', zl'⟩
    · rw [getD_left z] at h0 he
      rw [getD_left z'] at h0' he
      exact ho j j' hjj z' h0 h0' he
    · exact (old j z h0).1 (he.trans zl')
    · exact (old j z h0).2 (he.trans zl')
    · omega
    · omega
    · rw [zl, zl'] at he
      exact (labs_ne hi hi).2 he
    · omega
    · omega
    · omega
  · rcases zero j hj h0 with z | ⟨_, zl⟩ | ⟨_, zl⟩
    · rw [getD_left z] at h0 ⊢
      obtain ⟨q, hq, hql⟩ := hlab j z h0
      exact ⟨q, by omega, hql⟩
    · exact ⟨i, by omega, .inl zl⟩
    · exact ⟨i, by omega, .inr zl⟩

theorem PreP.start : PreP 0 [plainL 1 0] := by
  have pu := plain_fits (o := 1) (k := 0) (by omega)
  refine ⟨by simp, by simp, fun j hj => ?_, fun i j hij hj => by simp at hj; omega, fun j hj h0 => ?_⟩
  · obtain rfl : j = 0 := by simp at hj; omega
    exact ⟨pu.2.1, .inr (.inr ⟨pu.2.2.2.1, pu.2.2.2.2, rfl, rfl⟩), pu.2.2.1⟩
  · obtain rfl : j = 0 := by simp at hj; omega
    exact absurd h0 pu.1

/-- With the last word they are right. -/
theorem PreP.done {i : Nat} {l : List Ln} (h : PreP i l) (hi : i ≤ 4) {k : Int} (hk : 0 ≤ k ∧ k ≤ 4294967295) : linesP (l ++ [plainL 8 k]) ∧ (l ++ [plainL 8 k]).length ≤ 106 ∧ ∀ j, j < (l ++ [plainL 8 k]).length → shortL ((l ++ [plainL 8 k]).getD j zeroL) := by
  obtain ⟨hl, hp, hf, ho, _⟩ := h
  have pk := plain_fits (o := 8) (k := k) (by omega)
  have hlast : (l ++ [plainL 8 k]).getD l.length zeroL = plainL 8 k := by
    have := getD_right (l := l) (m := [plainL 8 k]) (i := 0)
    rw [Nat.add_zero] at this
    rw [this]; rfl
  refine ⟨(lines_once _).2 ⟨by simp; omega, ?_, fun j j' hjj hj' h0 h0' he => ?_, fun j hj => ?_⟩, by simp; omega, fun j hj => ?_⟩
  · rw [show (l ++ [plainL 8 k]).length - 1 = l.length by simp, hlast]
    rfl
  · simp at hj'
    rcases Nat.lt_or_ge j' l.length with h | h
    · rw [getD_left (by omega : j < l.length)] at h0 he
      rw [getD_left h] at h0' he
      exact ho j j' hjj h h0 h0' he
    · obtain rfl : j' = l.length := by omega
      rw [hlast] at h0'
      exact absurd h0' pk.1
  · simp at hj
    rcases Nat.lt_or_ge j l.length with h | h
    · rw [getD_left h]
      exact ⟨(hf j h).1, lead_more (hf j h).2.1⟩
    · obtain rfl : j = l.length := by omega
      rw [hlast]
      exact ⟨pk.2.1, .inr (.inr ⟨pk.2.2.2.1, pk.2.2.2.2, rfl, rfl⟩)⟩
  · simp at hj
    rcases Nat.lt_or_ge j l.length with h | h
    · rw [getD_left h]
      exact (hf j h).2.2
    · obtain rfl : j = l.length := by omega
      rw [hlast]
      exact pk.2.2.1

end Go.Proofs.Ytakcmiijnckaaaa
