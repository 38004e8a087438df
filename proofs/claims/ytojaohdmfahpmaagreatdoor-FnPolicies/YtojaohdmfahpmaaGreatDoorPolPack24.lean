/- What spec's ShowPolicy answers, of any policy. -/
import Derived.Test.YtojaohdmfahpmaaGreatDoorPolPack22
import Derived.Test.YtojaohdmfahpmaaGreatDoorPolPack10
import Derived.Test.YtojaohdmfahpmaaGreatDoorPolPack15
import Derived.Deep.Strs
/- What impl's functions that show a policy's parts answer. -/
namespace Go.Proofs.YtojaohdmfahpmaaGreatDoor
open Go.RowKit
set_option linter.unusedVariables false

theorem addT {P : Program} (wx : World) {A B C : ByteArray} {a b : List UInt8} (hA : A = txt a) (hB : B = txt b) (hC : C = txt (a ++ b)) (h : a.length + b.length ≤ 9223372036854775807) :
    (Op.stringOp .add A B).run P wx = .ok (.string C) wx := by
  subst hA hB hC
  unfold txt
  rw [run_string_add_sum wx _ _ (by simp [ByteArray.size]; omega), ByteArray.mk_append_mk]

theorem half_nat {n : Int} (h : halfB n = true) : ∃ m : Nat, n = (m : Int) ∧ m ≤ 4294967295 := by
  simp [halfB] at h
  exact ⟨n.toNat, by omega, by omega⟩

theorem decT {n : Int} {w : World} (h : halfB n = true) (hP : Pow w) : Calls Tryz.prog 23 #[.int .i64 n] w fun e w' => e = .returned (.string (txt (numT n))) ∧ Ext w w' := by
  obtain ⟨m, rfl, hm⟩ := half_nat h
  have := dec_nat m w (by omega) hP
  simpa [numT] using this

theorem figT {n : Int} {w : World} (h : halfB n = true) : Calls Tryz.prog 40 #[.int .i64 n] w fun e w' => e = .returned (.string (txt (numT n))) ∧ Ext w w' := by
  obtain ⟨m, rfl, hm⟩ := half_nat h
  exact figures_any (m : Int) w (by omega)

theorem cmT_pos {k : Nat} (h : 1 ≤ k) : cmT k = cmL.getD (k - 1) [] := by
  obtain ⟨j, rfl⟩ : ∃ j, k = j + 1 := ⟨k - 1, by omega⟩
  simp [cmT]

set_option maxRecDepth 100000 in
set_option maxHeartbeats 1600000 in
theorem wideText_any (x y : Int) (w : World) (h : wideB (x, y) = true) (hP : Pow w) :
    Calls Tryz.prog 122 #[.agg #[.int .i64 x, .int .i64 y]] w fun e w' => e = .returned (.string (txt (wideT x y))) ∧ Ext w w' := by
  obtain ⟨hx, hy⟩ : halfB x = true ∧ halfB y = true := by simpa [wideB] using h
  have lx := numT_len hx
  have ly := numT_len hy
  obtain ⟨U, hU⟩ : ∃ U, U = txt (numT x) := ⟨_, rfl⟩
  obtain ⟨V, hV⟩ : ∃ V, V = txt (numT y) := ⟨_, rfl⟩
  obtain ⟨Z, hZ⟩ : ∃ Z, Z = txt (wideT x y) := ⟨_, rfl⟩
  obtain ⟨S1, hS1⟩ : ∃ S, S = txt (numT x ++ [32, 58, 32]) := ⟨_, rfl⟩
  have SA1 : ∀ wx, (Op.stringOp .add U ⟨#[32, 58, 32]⟩).run Tryz.prog wx = .ok (.string S1) wx := fun wx => addT wx hU rfl hS1 (by simp only [List.length_cons, List.length_nil]; omega)
  have SA2 : ∀ wx, (Op.stringOp .add S1 V).run Tryz.prog wx = .ok (.string Z) wx := fun wx => addT wx hS1 hV (hZ.trans (congrArg txt (rfl))) (by simp only [List.length_append, List.length_cons, List.length_nil]; omega)
  clear hS1
  have H1 : Hid (∀ W, Ext w W → Calls Tryz.prog 23 #[.int .i64 x] W fun e w' => e = .returned (.string U) ∧ Ext W w') := fun W hE => by rw [hU]; exact decT hx (hP.ext hE)
  have H2 : Hid (∀ W, Ext w W → Calls Tryz.prog 23 #[.int .i64 y] W fun e w' => e = .returned (.string V) ∧ Ext W w') := fun W hE => by rw [hV]; exact decT hy (hP.ext hE)
  rw [← hZ]
  have X : Hid (Ext w (w.alloc (.cells #[.int .i64 x, .int .i64 y] 76))) := Ext.one _ _
  have C0 : Hid (CellsAt (w.alloc (.cells #[.int .i64 x, .int .i64 y] 76)) w.heap.size [.int .i64 x, .int .i64 y]) := CellsAt.new w _ _
  clear hU hV hZ hx hy h lx ly
  go_enter Tryz.func122, Tryz.ntmps122
  go_wp2_with fail
  generalize w.alloc (.cells #[.int .i64 x, .int .i64 y] 76) = W0 at *
  refine' wp_region_loose (.inl _ :: .inl _ :: .inl _ :: .inl _ :: .inl _ :: .inl _ :: .inl _ :: .inl _ :: .inl _ :: []) (fun w' => CellsAt w' w.heap.size [.int .i64 x, .int .i64 y]) (by kernel_rfl) (by kernel_rfl) (C0.out) (fun _ _ h hE => h.step hE) ?hAa ?hla ?hMa
  case' hMa => skip
  apply wpLoose_val rfl rfl
  case hs =>
    intro w1 hC hd Q1 hQ1
    obtain ⟨hE, hS⟩ := hC
    dsimp only [bare]
    obtain ⟨p0, p1⟩ := (⟨hS.2 0 _ rfl, hS.2 1 _ rfl⟩ : _ ∧ _)
    clear hd hE
    try clear hS
    go_wp2
    exact Ext.refl _
  case ha => rfl
  apply wpLoose_val rfl rfl
  case hs =>
    intro w1 hC hd Q1 hQ1
    obtain ⟨hE, hS⟩ := hC
    dsimp only [bare]
    obtain ⟨p0, p1⟩ := (⟨hS.2 0 _ rfl, hS.2 1 _ rfl⟩ : _ ∧ _)
    clear hd hE
    try clear hS
    go_wp2
    exact Ext.refl _
  case ha => rfl
  apply wpLoose_val rfl rfl
  case hs =>
    intro w1 hC hd Q1 hQ1
    obtain ⟨hE, hS⟩ := hC
    dsimp only [bare]
    clear hd
    go_wp2_with fail
    refine (H1.out _ (X.out.drew.trans hE)).mono ?_
    rintro e w2 ⟨rfl, hb⟩
    go_wp2_with fail
    exact hb
  case ha => rfl
  apply wpLoose_val rfl rfl
  case hs =>
    intro w1 hC hd Q1 hQ1
    obtain ⟨hE, hS⟩ := hC
    dsimp only [bare]
    obtain ⟨p0, p1⟩ := (⟨hS.2 0 _ rfl, hS.2 1 _ rfl⟩ : _ ∧ _)
    clear hd hE
    try clear hS
    go_wp2
    exact Ext.refl _
  case ha => rfl
  apply wpLoose_val rfl rfl
  case hs =>
    intro w1 hC hd Q1 hQ1
    obtain ⟨hE, hS⟩ := hC
    dsimp only [bare]
    obtain ⟨p0, p1⟩ := (⟨hS.2 0 _ rfl, hS.2 1 _ rfl⟩ : _ ∧ _)
    clear hd hE
    try clear hS
    go_wp2
    exact Ext.refl _
  case ha => rfl
  apply wpLoose_val rfl rfl
  case hs =>
    intro w1 hC hd Q1 hQ1
    obtain ⟨hE, hS⟩ := hC
    dsimp only [bare]
    obtain ⟨p0, p1⟩ := (⟨hS.2 0 _ rfl, hS.2 1 _ rfl⟩ : _ ∧ _)
    clear hd hE
    try clear hS
    go_wp2
    exact Ext.refl _
  case ha => rfl
  apply wpLoose_val rfl rfl
  case hs =>
    intro w1 hC hd Q1 hQ1
    obtain ⟨hE, hS⟩ := hC
    dsimp only [bare]
    clear hd
    go_wp2_with fail
    refine (H2.out _ (X.out.drew.trans hE)).mono ?_
    rintro e w2 ⟨rfl, hb⟩
    go_wp2_with fail
    exact hb
  case ha => rfl
  apply wpLoose_val rfl rfl
  case hs =>
    intro w1 hC hd Q1 hQ1
    obtain ⟨hE, hS⟩ := hC
    dsimp only [bare]
    obtain ⟨p0, p1⟩ := (⟨hS.2 0 _ rfl, hS.2 1 _ rfl⟩ : _ ∧ _)
    clear hd hE
    try clear hS
    go_wp2
    exact Ext.refl _
  case ha => rfl
  apply wpLoose_val rfl rfl
  case hs =>
    intro w1 hC hd Q1 hQ1
    obtain ⟨hE, hS⟩ := hC
    dsimp only [bare]
    obtain ⟨p0, p1⟩ := (⟨hS.2 0 _ rfl, hS.2 1 _ rfl⟩ : _ ∧ _)
    clear hd hE
    try clear hS
    go_wp2
    exact Ext.refl _
  case ha => rfl
  refine wpLoose_nil ?_
  intro wa hEa hSa hFa
  · have XE : Hid (Ext w wa) := X.out.drew.trans hEa
    clear hEa hSa hFa
    go_wp2
    go_ret
    exact ⟨rfl, XE.out⟩
  case hAa => kernel_rfl
  case hla => exact ⟨trivial, trivial, trivial, trivial, trivial, trivial, trivial, trivial, trivial, trivial⟩

set_option maxRecDepth 100000 in
set_option maxHeartbeats 1600000 in
theorem outcomeText_any (a d : Int) (w : World) (h : outB a d = true) (hP : Pow w) :
    Calls Tryz.prog 24 #[.int .i64 a, .int .i64 d] w fun e w' => e = .returned (.string (txt (outT a d))) ∧ Ext w w' := by
  obtain ⟨_, hd, h0, h5⟩ := outB_half h
  have lx := actL_len a.toNat
  have ly := numT_len hd
  obtain ⟨U, hU⟩ : ∃ U, U = txt (actL.getD a.toNat []) := ⟨_, rfl⟩
  obtain ⟨V, hV⟩ : ∃ V, V = txt (numT d) := ⟨_, rfl⟩
  obtain ⟨Z, hZ⟩ : ∃ Z, Z = txt (outT a d) := ⟨_, rfl⟩
  obtain ⟨S1, hS1⟩ : ∃ S, S = txt (actL.getD a.toNat [] ++ [32]) := ⟨_, rfl⟩
  have SA1 : ∀ wx, (Op.stringOp .add U ⟨#[32]⟩).run Tryz.prog wx = .ok (.string S1) wx := fun wx => addT wx hU rfl hS1 (by simp only [List.length_cons, List.length_nil]; omega)
  have SA2 : ∀ wx, (Op.stringOp .add S1 V).run Tryz.prog wx = .ok (.string Z) wx := fun wx => addT wx hS1 hV (hZ.trans (congrArg txt (rfl))) (by simp only [List.length_append, List.length_cons, List.length_nil]; omega)
  clear hS1
  have H1 : Hid (∀ W, Ext w W → Calls Tryz.prog 56 #[.int .i64 a] W fun e w' => e = .returned (.string U) ∧ Ext W w') := fun W hE => by
    have := iName_any a W
    rw [nameV_actL h0 h5] at this
    rw [hU]
    exact this.mono (by rintro e w' ⟨rfl, hb⟩; first | exact ⟨rfl, hb⟩ | exact ⟨rfl, hb ▸ Ext.refl _⟩)
  have H2 : Hid (∀ W, Ext w W → Calls Tryz.prog 23 #[.int .i64 d] W fun e w' => e = .returned (.string V) ∧ Ext W w') := fun W hE => by rw [hV]; exact decT hd (hP.ext hE)
  rw [← hZ]
  clear hU hV hZ hd h lx ly h0 h5
  go_enter Tryz.func24, Tryz.ntmps24
  go_wp2_with fail
  refine (H1.out _ (Ext.refl _)).mono ?_
  rintro e w1 ⟨rfl, x1⟩
  have X1 : Hid (Ext w w1) := x1
  clear x1
  go_wp2_with fail
  refine (H2.out _ X1.out).mono ?_
  rintro e w2 ⟨rfl, x2⟩
  have X2 : Hid (Ext w w2) := X1.out.trans x2
  clear x2
  go_wp2
  go_ret
  exact ⟨rfl, X2.out⟩

set_option maxRecDepth 100000 in
set_option maxHeartbeats 1600000 in
theorem condText_any (c : CN) (w : World) (h : condB c = true) (hP : Pow w) (hC : Cms w) :
    Calls Tryz.prog 98 #[c.v] w fun e w' => e = .returned (.string (txt (condT c))) ∧ Ext w w' := by
  obtain ⟨ha, c1, c6, hm, hv⟩ := condB_pieces h
  have lx := numT_len ha
  have ly := wideT_len hm
  have lz := wideT_len hv
  have lm := cmL_len (c.cm.toNat - 1)
  obtain ⟨U, hU⟩ : ∃ U, U = txt (numT c.arg) := ⟨_, rfl⟩
  obtain ⟨V, hV⟩ : ∃ V, V = txt (wideT c.mh c.ml) := ⟨_, rfl⟩
  obtain ⟨M, hM⟩ : ∃ M, M = txt (cmL.getD (c.cm.toNat - 1) []) := ⟨_, rfl⟩
  obtain ⟨T, hT⟩ : ∃ T, T = txt (wideT c.vh c.vl) := ⟨_, rfl⟩
  obtain ⟨Z, hZ⟩ : ∃ Z, Z = txt (condT c) := ⟨_, rfl⟩
  obtain ⟨S1, hS1⟩ : ∃ S, S = txt ([97, 114, 103, 32] ++ numT (c.arg)) := ⟨_, rfl⟩
  have SA1 : ∀ wx, (Op.stringOp .add ⟨#[97, 114, 103, 32]⟩ U).run Tryz.prog wx = .ok (.string S1) wx := fun wx => addT wx rfl hU hS1 (by simp only [List.length_cons, List.length_nil]; omega)
  obtain ⟨S2, hS2⟩ : ∃ S, S = txt (([97, 114, 103, 32] ++ numT (c.arg)) ++ [32, 38, 32]) := ⟨_, rfl⟩
  have SA2 : ∀ wx, (Op.stringOp .add S1 ⟨#[32, 38, 32]⟩).run Tryz.prog wx = .ok (.string S2) wx := fun wx => addT wx hS1 rfl hS2 (by simp only [List.length_append, List.length_cons, List.length_nil]; omega)
  obtain ⟨S3, hS3⟩ : ∃ S, S = txt ((([97, 114, 103, 32] ++ numT (c.arg)) ++ [32, 38, 32]) ++ wideT c.mh c.ml) := ⟨_, rfl⟩
  have SA3 : ∀ wx, (Op.stringOp .add S2 V).run Tryz.prog wx = .ok (.string S3) wx := fun wx => addT wx hS2 hV hS3 (by simp only [List.length_append, List.length_cons, List.length_nil]; omega)
  obtain ⟨S4, hS4⟩ : ∃ S, S = txt (((([97, 114, 103, 32] ++ numT (c.arg)) ++ [32, 38, 32]) ++ wideT c.mh c.ml) ++ [32]) := ⟨_, rfl⟩
  have SA4 : ∀ wx, (Op.stringOp .add S3 ⟨#[32]⟩).run Tryz.prog wx = .ok (.string S4) wx := fun wx => addT wx hS3 rfl hS4 (by simp only [List.length_append, List.length_cons, List.length_nil]; omega)
  obtain ⟨S5, hS5⟩ : ∃ S, S = txt ((((([97, 114, 103, 32] ++ numT (c.arg)) ++ [32, 38, 32]) ++ wideT c.mh c.ml) ++ [32]) ++ cmL.getD (c.cm.toNat - 1) []) := ⟨_, rfl⟩
  have SA5 : ∀ wx, (Op.stringOp .add S4 M).run Tryz.prog wx = .ok (.string S5) wx := fun wx => addT wx hS4 hM hS5 (by simp only [List.length_append, List.length_cons, List.length_nil]; omega)
  obtain ⟨S6, hS6⟩ : ∃ S, S = txt (((((([97, 114, 103, 32] ++ numT (c.arg)) ++ [32, 38, 32]) ++ wideT c.mh c.ml) ++ [32]) ++ cmL.getD (c.cm.toNat - 1) []) ++ [32]) := ⟨_, rfl⟩
  have SA6 : ∀ wx, (Op.stringOp .add S5 ⟨#[32]⟩).run Tryz.prog wx = .ok (.string S6) wx := fun wx => addT wx hS5 rfl hS6 (by simp only [List.length_append, List.length_cons, List.length_nil]; omega)
  have SA7 : ∀ wx, (Op.stringOp .add S6 T).run Tryz.prog wx = .ok (.string Z) wx := fun wx => addT wx hS6 hT (hZ.trans (congrArg txt (rfl))) (by simp only [List.length_append, List.length_cons, List.length_nil]; omega)
  clear hS1 hS2 hS3 hS4 hS5 hS6
  have H1 : Hid (∀ W, Ext w W → Calls Tryz.prog 23 #[.int .i64 c.arg] W fun e w' => e = .returned (.string U) ∧ Ext W w') := fun W hE => by rw [hU]; exact decT ha (hP.ext hE)
  have H2 : Hid (∀ W, Ext w W → Calls Tryz.prog 122 #[.agg #[.int .i64 c.mh, .int .i64 c.ml]] W fun e w' => e = .returned (.string V) ∧ Ext W w') := fun W hE => by rw [hV]; exact wideText_any _ _ W hm (hP.ext hE)
  have H3 : Hid (∀ W, Ext w W → Calls Tryz.prog 122 #[.agg #[.int .i64 c.vh, .int .i64 c.vl]] W fun e w' => e = .returned (.string T) ∧ Ext W w') := fun W hE => by rw [hT]; exact wideText_any _ _ W hv (hP.ext hE)
  have HM : Hid (∀ W, Ext w W → W.cell? ⟨0, c.cm.toNat, none⟩ = some (.string M)) := fun W hE => by
    rw [hM, ← cmT_pos (by omega)]; exact (hC.ext hE).1 _ (by omega)
  rw [← hZ]
  clear hU hV hM hT hZ ha hm hv h lx ly lz lm hP hC
  obtain ⟨ag, mh, ml, cm, vh, vl⟩ := c
  simp only at *
  obtain ⟨k, rfl⟩ : ∃ k : Nat, cm = (k : Int) := ⟨cm.toNat, by omega⟩
  simp only [Int.toNat_natCast] at HM
  have k7 : (k : Int) < 7 := by omega
  have k0 : (0 : Int) ≤ (k : Int) := by omega
  unfold CN.v
  simp only
  have X : Hid (Ext w (w.alloc (.cells #[.int .i64 ag, .int .i64 mh, .int .i64 ml, .int .i64 k, .int .i64 vh, .int .i64 vl] 78))) := Ext.one _ _
  have C0 : Hid (CellsAt (w.alloc (.cells #[.int .i64 ag, .int .i64 mh, .int .i64 ml, .int .i64 k, .int .i64 vh, .int .i64 vl] 78)) w.heap.size [.int .i64 ag, .int .i64 mh, .int .i64 ml, .int .i64 k, .int .i64 vh, .int .i64 vl]) := CellsAt.new w _ _
  go_enter Tryz.func98, Tryz.ntmps98
  go_wp2_with fail
  generalize w.alloc (.cells #[.int .i64 ag, .int .i64 mh, .int .i64 ml, .int .i64 k, .int .i64 vh, .int .i64 vl] 78) = W0 at *
  refine' wp_region_loose (.inl _ :: .inl _ :: .inl _ :: .inl _ :: .inl _ :: .inl _ :: .inl _ :: .inl _ :: .inl _ :: .inl _ :: .inl _ :: .inl _ :: .inl _ :: .inl _ :: .inl _ :: .inl _ :: .inl _ :: .inl _ :: .inl _ :: .inl _ :: .inl _ :: []) (fun w' => CellsAt w' w.heap.size [.int .i64 ag, .int .i64 mh, .int .i64 ml, .int .i64 k, .int .i64 vh, .int .i64 vl] ∧ (0 < w'.heap.size ∧ w'.cell? ⟨0, k, none⟩ = some (.string M))) (by kernel_rfl) (by kernel_rfl) (⟨C0.out, by have := HM.out _ X.out; exact ⟨World.block_lt_of_cell? _ _ this, this⟩⟩) (fun _ _ h hE => ⟨h.1.step hE, Nat.lt_of_lt_of_le h.2.1 hE.size, (hE.cell (p := ⟨0, k, none⟩) h.2.1).trans h.2.2⟩) ?hAa ?hla ?hMa
  case' hMa => skip
  apply wpLoose_val rfl rfl
  case hs =>
    intro w1 hC hd Q1 hQ1
    obtain ⟨hE, hS⟩ := hC
    dsimp only [bare]
    obtain ⟨p0, p1, p2, p3, p4, p5, pm⟩ := (⟨hS.1.2 0 _ rfl, hS.1.2 1 _ rfl, hS.1.2 2 _ rfl, hS.1.2 3 _ rfl, hS.1.2 4 _ rfl, hS.1.2 5 _ rfl, hS.2.2⟩ : _ ∧ _ ∧ _ ∧ _ ∧ _ ∧ _ ∧ _)
    clear hd hE
    try clear hS
    go_wp2
    exact Ext.refl _
  case ha => rfl
  apply wpLoose_val rfl rfl
  case hs =>
    intro w1 hC hd Q1 hQ1
    obtain ⟨hE, hS⟩ := hC
    dsimp only [bare]
    obtain ⟨p0, p1, p2, p3, p4, p5, pm⟩ := (⟨hS.1.2 0 _ rfl, hS.1.2 1 _ rfl, hS.1.2 2 _ rfl, hS.1.2 3 _ rfl, hS.1.2 4 _ rfl, hS.1.2 5 _ rfl, hS.2.2⟩ : _ ∧ _ ∧ _ ∧ _ ∧ _ ∧ _ ∧ _)
    clear hd hE
    try clear hS
    go_wp2
    exact Ext.refl _
  case ha => rfl
  apply wpLoose_val rfl rfl
  case hs =>
    intro w1 hC hd Q1 hQ1
    obtain ⟨hE, hS⟩ := hC
    dsimp only [bare]
    clear hd
    go_wp2_with fail
    refine (H1.out _ (X.out.drew.trans hE)).mono ?_
    rintro e w2 ⟨rfl, hb⟩
    go_wp2_with fail
    exact hb
  case ha => rfl
  apply wpLoose_val rfl rfl
  case hs =>
    intro w1 hC hd Q1 hQ1
    obtain ⟨hE, hS⟩ := hC
    dsimp only [bare]
    obtain ⟨p0, p1, p2, p3, p4, p5, pm⟩ := (⟨hS.1.2 0 _ rfl, hS.1.2 1 _ rfl, hS.1.2 2 _ rfl, hS.1.2 3 _ rfl, hS.1.2 4 _ rfl, hS.1.2 5 _ rfl, hS.2.2⟩ : _ ∧ _ ∧ _ ∧ _ ∧ _ ∧ _ ∧ _)
    clear hd hE
    try clear hS
    go_wp2
    exact Ext.refl _
  case ha => rfl
  apply wpLoose_val rfl rfl
  case hs =>
    intro w1 hC hd Q1 hQ1
    obtain ⟨hE, hS⟩ := hC
    dsimp only [bare]
    obtain ⟨p0, p1, p2, p3, p4, p5, pm⟩ := (⟨hS.1.2 0 _ rfl, hS.1.2 1 _ rfl, hS.1.2 2 _ rfl, hS.1.2 3 _ rfl, hS.1.2 4 _ rfl, hS.1.2 5 _ rfl, hS.2.2⟩ : _ ∧ _ ∧ _ ∧ _ ∧ _ ∧ _ ∧ _)
    clear hd hE
    try clear hS
    go_wp2
    exact Ext.refl _
  case ha => rfl
  apply wpLoose_val rfl rfl
  case hs =>
    intro w1 hC hd Q1 hQ1
    obtain ⟨hE, hS⟩ := hC
    dsimp only [bare]
    obtain ⟨p0, p1, p2, p3, p4, p5, pm⟩ := (⟨hS.1.2 0 _ rfl, hS.1.2 1 _ rfl, hS.1.2 2 _ rfl, hS.1.2 3 _ rfl, hS.1.2 4 _ rfl, hS.1.2 5 _ rfl, hS.2.2⟩ : _ ∧ _ ∧ _ ∧ _ ∧ _ ∧ _ ∧ _)
    clear hd hE
    try clear hS
    go_wp2
    exact Ext.refl _
  case ha => rfl
  apply wpLoose_val rfl rfl
  case hs =>
    intro w1 hC hd Q1 hQ1
    obtain ⟨hE, hS⟩ := hC
    dsimp only [bare]
    obtain ⟨p0, p1, p2, p3, p4, p5, pm⟩ := (⟨hS.1.2 0 _ rfl, hS.1.2 1 _ rfl, hS.1.2 2 _ rfl, hS.1.2 3 _ rfl, hS.1.2 4 _ rfl, hS.1.2 5 _ rfl, hS.2.2⟩ : _ ∧ _ ∧ _ ∧ _ ∧ _ ∧ _ ∧ _)
    clear hd hE
    try clear hS
    go_wp2
    exact Ext.refl _
  case ha => rfl
  apply wpLoose_val rfl rfl
  case hs =>
    intro w1 hC hd Q1 hQ1
    obtain ⟨hE, hS⟩ := hC
    dsimp only [bare]
    clear hd
    go_wp2_with fail
    refine (H2.out _ (X.out.drew.trans hE)).mono ?_
    rintro e w2 ⟨rfl, hb⟩
    go_wp2_with fail
    exact hb
  case ha => rfl
  apply wpLoose_val rfl rfl
  case hs =>
    intro w1 hC hd Q1 hQ1
    obtain ⟨hE, hS⟩ := hC
    dsimp only [bare]
    obtain ⟨p0, p1, p2, p3, p4, p5, pm⟩ := (⟨hS.1.2 0 _ rfl, hS.1.2 1 _ rfl, hS.1.2 2 _ rfl, hS.1.2 3 _ rfl, hS.1.2 4 _ rfl, hS.1.2 5 _ rfl, hS.2.2⟩ : _ ∧ _ ∧ _ ∧ _ ∧ _ ∧ _ ∧ _)
    clear hd hE
    try clear hS
    go_wp2
    exact Ext.refl _
  case ha => rfl
  apply wpLoose_val rfl rfl
  case hs =>
    intro w1 hC hd Q1 hQ1
    obtain ⟨hE, hS⟩ := hC
    dsimp only [bare]
    obtain ⟨p0, p1, p2, p3, p4, p5, pm⟩ := (⟨hS.1.2 0 _ rfl, hS.1.2 1 _ rfl, hS.1.2 2 _ rfl, hS.1.2 3 _ rfl, hS.1.2 4 _ rfl, hS.1.2 5 _ rfl, hS.2.2⟩ : _ ∧ _ ∧ _ ∧ _ ∧ _ ∧ _ ∧ _)
    clear hd hE
    try clear hS
    go_wp2
    exact Ext.refl _
  case ha => rfl
  apply wpLoose_val rfl rfl
  case hs =>
    intro w1 hC hd Q1 hQ1
    obtain ⟨hE, hS⟩ := hC
    dsimp only [bare]
    obtain ⟨p0, p1, p2, p3, p4, p5, pm⟩ := (⟨hS.1.2 0 _ rfl, hS.1.2 1 _ rfl, hS.1.2 2 _ rfl, hS.1.2 3 _ rfl, hS.1.2 4 _ rfl, hS.1.2 5 _ rfl, hS.2.2⟩ : _ ∧ _ ∧ _ ∧ _ ∧ _ ∧ _ ∧ _)
    clear hd hE
    try clear hS
    go_wp2
    exact Ext.refl _
  case ha => rfl
  apply wpLoose_val rfl rfl
  case hs =>
    intro w1 hC hd Q1 hQ1
    obtain ⟨hE, hS⟩ := hC
    dsimp only [bare]
    obtain ⟨p0, p1, p2, p3, p4, p5, pm⟩ := (⟨hS.1.2 0 _ rfl, hS.1.2 1 _ rfl, hS.1.2 2 _ rfl, hS.1.2 3 _ rfl, hS.1.2 4 _ rfl, hS.1.2 5 _ rfl, hS.2.2⟩ : _ ∧ _ ∧ _ ∧ _ ∧ _ ∧ _ ∧ _)
    clear hd hE
    try clear hS
    go_wp2
    exact Ext.refl _
  case ha => rfl
  apply wpLoose_val rfl rfl
  case hs =>
    intro w1 hC hd Q1 hQ1
    obtain ⟨hE, hS⟩ := hC
    dsimp only [bare]
    obtain ⟨p0, p1, p2, p3, p4, p5, pm⟩ := (⟨hS.1.2 0 _ rfl, hS.1.2 1 _ rfl, hS.1.2 2 _ rfl, hS.1.2 3 _ rfl, hS.1.2 4 _ rfl, hS.1.2 5 _ rfl, hS.2.2⟩ : _ ∧ _ ∧ _ ∧ _ ∧ _ ∧ _ ∧ _)
    clear hd hE
    try clear hS
    go_wp2
    exact Ext.refl _
  case ha => rfl
  apply wpLoose_val rfl rfl
  case hs =>
    intro w1 hC hd Q1 hQ1
    obtain ⟨hE, hS⟩ := hC
    dsimp only [bare]
    obtain ⟨p0, p1, p2, p3, p4, p5, pm⟩ := (⟨hS.1.2 0 _ rfl, hS.1.2 1 _ rfl, hS.1.2 2 _ rfl, hS.1.2 3 _ rfl, hS.1.2 4 _ rfl, hS.1.2 5 _ rfl, hS.2.2⟩ : _ ∧ _ ∧ _ ∧ _ ∧ _ ∧ _ ∧ _)
    clear hd hE
    try clear hS
    go_wp2
    exact Ext.refl _
  case ha => rfl
  apply wpLoose_val rfl rfl
  case hs =>
    intro w1 hC hd Q1 hQ1
    obtain ⟨hE, hS⟩ := hC
    dsimp only [bare]
    obtain ⟨p0, p1, p2, p3, p4, p5, pm⟩ := (⟨hS.1.2 0 _ rfl, hS.1.2 1 _ rfl, hS.1.2 2 _ rfl, hS.1.2 3 _ rfl, hS.1.2 4 _ rfl, hS.1.2 5 _ rfl, hS.2.2⟩ : _ ∧ _ ∧ _ ∧ _ ∧ _ ∧ _ ∧ _)
    clear hd hE
    try clear hS
    go_wp2
    exact Ext.refl _
  case ha => rfl
  apply wpLoose_val rfl rfl
  case hs =>
    intro w1 hC hd Q1 hQ1
    obtain ⟨hE, hS⟩ := hC
    dsimp only [bare]
    obtain ⟨p0, p1, p2, p3, p4, p5, pm⟩ := (⟨hS.1.2 0 _ rfl, hS.1.2 1 _ rfl, hS.1.2 2 _ rfl, hS.1.2 3 _ rfl, hS.1.2 4 _ rfl, hS.1.2 5 _ rfl, hS.2.2⟩ : _ ∧ _ ∧ _ ∧ _ ∧ _ ∧ _ ∧ _)
    clear hd hE
    try clear hS
    go_wp2
    exact Ext.refl _
  case ha => rfl
  apply wpLoose_val rfl rfl
  case hs =>
    intro w1 hC hd Q1 hQ1
    obtain ⟨hE, hS⟩ := hC
    dsimp only [bare]
    obtain ⟨p0, p1, p2, p3, p4, p5, pm⟩ := (⟨hS.1.2 0 _ rfl, hS.1.2 1 _ rfl, hS.1.2 2 _ rfl, hS.1.2 3 _ rfl, hS.1.2 4 _ rfl, hS.1.2 5 _ rfl, hS.2.2⟩ : _ ∧ _ ∧ _ ∧ _ ∧ _ ∧ _ ∧ _)
    clear hd hE
    try clear hS
    go_wp2
    exact Ext.refl _
  case ha => rfl
  apply wpLoose_val rfl rfl
  case hs =>
    intro w1 hC hd Q1 hQ1
    obtain ⟨hE, hS⟩ := hC
    dsimp only [bare]
    obtain ⟨p0, p1, p2, p3, p4, p5, pm⟩ := (⟨hS.1.2 0 _ rfl, hS.1.2 1 _ rfl, hS.1.2 2 _ rfl, hS.1.2 3 _ rfl, hS.1.2 4 _ rfl, hS.1.2 5 _ rfl, hS.2.2⟩ : _ ∧ _ ∧ _ ∧ _ ∧ _ ∧ _ ∧ _)
    clear hd hE
    try clear hS
    go_wp2
    exact Ext.refl _
  case ha => rfl
  apply wpLoose_val rfl rfl
  case hs =>
    intro w1 hC hd Q1 hQ1
    obtain ⟨hE, hS⟩ := hC
    dsimp only [bare]
    clear hd
    go_wp2_with fail
    refine (H3.out _ (X.out.drew.trans hE)).mono ?_
    rintro e w2 ⟨rfl, hb⟩
    go_wp2_with fail
    exact hb
  case ha => rfl
  apply wpLoose_val rfl rfl
  case hs =>
    intro w1 hC hd Q1 hQ1
    obtain ⟨hE, hS⟩ := hC
    dsimp only [bare]
    obtain ⟨p0, p1, p2, p3, p4, p5, pm⟩ := (⟨hS.1.2 0 _ rfl, hS.1.2 1 _ rfl, hS.1.2 2 _ rfl, hS.1.2 3 _ rfl, hS.1.2 4 _ rfl, hS.1.2 5 _ rfl, hS.2.2⟩ : _ ∧ _ ∧ _ ∧ _ ∧ _ ∧ _ ∧ _)
    clear hd hE
    try clear hS
    go_wp2
    exact Ext.refl _
  case ha => rfl
  apply wpLoose_val rfl rfl
  case hs =>
    intro w1 hC hd Q1 hQ1
    obtain ⟨hE, hS⟩ := hC
    dsimp only [bare]
    obtain ⟨p0, p1, p2, p3, p4, p5, pm⟩ := (⟨hS.1.2 0 _ rfl, hS.1.2 1 _ rfl, hS.1.2 2 _ rfl, hS.1.2 3 _ rfl, hS.1.2 4 _ rfl, hS.1.2 5 _ rfl, hS.2.2⟩ : _ ∧ _ ∧ _ ∧ _ ∧ _ ∧ _ ∧ _)
    clear hd hE
    try clear hS
    go_wp2
    exact Ext.refl _
  case ha => rfl
  refine wpLoose_nil ?_
  intro wa hEa hSa hFa
  · have XE : Hid (Ext w wa) := X.out.drew.trans hEa
    clear hEa hSa hFa
    go_wp2
    go_ret
    exact ⟨rfl, XE.out⟩
  case hAa => kernel_rfl
  case hla => exact ⟨trivial, trivial, trivial, trivial, trivial, trivial, trivial, trivial, trivial, trivial, trivial, trivial, trivial, trivial, trivial, trivial, trivial, trivial, trivial, trivial, trivial, trivial⟩

set_option maxRecDepth 100000 in
set_option maxHeartbeats 1600000 in
theorem numsText_any (a : Option Addr) (cap n : Nat) (l : List Int) (w : World) (hn : n = l.length) (hl : n ≤ 4) (hcap : n ≤ cap) (hh : ∀ z ∈ l, halfB z = true) (h : Nums w a l) (hP : Pow w) :
    Calls Tryz.prog 57 #[.slice a n cap] w fun e w' => e = .returned (.string (txt (numsT l))) ∧ Ext w w' := by
  have HA : Hid (∀ W, Ext w W → Nums W a l ∧ Pow W) := fun W hE => ⟨h.step hE, hP.ext hE⟩
  have HL : Hid (n = l.length ∧ (∀ z ∈ l, halfB z = true)) := ⟨hn, hh⟩
  clear h hP
  by_cases h0 : n = 0
  · subst h0
    have HZ : Hid (numsT l = [97, 110, 121]) := by
      have : l = [] := List.length_eq_zero_iff.1 hn.symm
      rw [this]; rfl
    clear hn hh
    rw [HZ.out]
    go_enter Tryz.func57, Tryz.ntmps57
    go_wp2
    go_ret
    exact ⟨rfl, Ext.refl _⟩
  · obtain ⟨m, rfl⟩ : ∃ m, n = m + 1 := ⟨n - 1, by omega⟩
    obtain ⟨d, rfl⟩ : ∃ d, cap = d + 1 := ⟨cap - 1, by omega⟩
    obtain ⟨Z, hZ⟩ : ∃ Z, Z = txt (numsT l) := ⟨_, rfl⟩
    have HZ : Hid (Z = txt (numsP l (m + 1))) := by rw [hZ, hn, numsP_all (by omega)]; rfl
    rw [← hZ]
    clear hZ
    obtain ⟨b, off, rfl, hb, c0⟩ := (HA.out w (Ext.refl w)).1.at (k := 0) (by omega)
    rw [Nat.add_zero] at c0
    obtain ⟨z, hz⟩ : ∃ z, z = l.getD 0 0 := ⟨_, rfl⟩
    have hzm : z ∈ l := by rw [hz, List.getD_eq_getElem?_getD, List.getElem?_eq_getElem (by omega)]; exact List.getElem_mem (by omega)
    obtain ⟨U, hU⟩ : ∃ U, U = txt (numT z) := ⟨_, rfl⟩
    have HU : Hid (U = txt (numsP l 1)) := by unfold Hid; rw [hU, hz]; simp [numsP]
    rw [← hz] at c0
    have H1 : Hid (Calls Tryz.prog 23 #[.int .i64 z] w fun e w' => e = .returned (.string U) ∧ Ext w w') := by rw [hU]; exact decT (hh z hzm) (HA.out w (Ext.refl w)).2
    have hc1 : ((m : Int) + 1 == 0) = false := by simp; omega
    have hc2 : (0 : Int) ≤ (m : Int) := by omega
    have hc3 : (0 : Int) < (m : Int) + 1 := by omega
    have hml : m ≤ 3 := by omega
    clear hn hh hz hzm hU h0 hl
    rcases Nat.eq_zero_or_pos m with rfl | hm
    · by_cases hd : d = 0
      · subst hd
        go_enter Tryz.func57, Tryz.ntmps57
        go_wp2_with fail
        refine H1.out.mono ?_
        rintro e w1 ⟨rfl, x1⟩
        have X1 : Hid (Ext w w1) := x1
        clear x1 H1 c0
        go_wp2_with fail
        go_loopw [3, 16] (fun v i wr => i = .int .i64 0 ∧ v = .string U ∧ Hid (Ext w wr)) (fun _ i _ => 0 - (intOf i).toNat)
        case atStart => exact ⟨rfl, rfl, X1.out⟩
        case round =>
          obtain ⟨rfl, rfl, hE⟩ := hrel
          go_wp2
          go_ret
          exact ⟨by rw [HZ.out, HU.out]; rfl, hE.out⟩
      · go_enter Tryz.func57, Tryz.ntmps57
        go_wp2_with fail
        refine H1.out.mono ?_
        rintro e w1 ⟨rfl, x1⟩
        have X1 : Hid (Ext w w1) := x1
        clear x1 H1 c0
        go_wp2_with fail
        go_loopw [3, 16] (fun v i wr => i = .int .i64 0 ∧ v = .string U ∧ Hid (Ext w wr)) (fun _ i _ => 0 - (intOf i).toNat)
        case atStart => exact ⟨rfl, rfl, X1.out⟩
        case round =>
          obtain ⟨rfl, rfl, hE⟩ := hrel
          go_wp2
          go_ret
          exact ⟨by rw [HZ.out, HU.out]; rfl, hE.out⟩
    · obtain ⟨d, rfl⟩ : ∃ f, d = f + 1 := ⟨d - 1, by omega⟩
      go_enter Tryz.func57, Tryz.ntmps57
      go_wp2_with fail
      refine H1.out.mono ?_
      rintro e w1 ⟨rfl, x1⟩
      have X1 : Hid (Ext w w1) := x1
      clear x1 H1 c0 hc1 hc2 hc3
      go_wp2_with fail
      go_loopw [3, 16] (fun v i wr => ∃ (k : Nat) (S : ByteArray), i = .int .i64 k ∧ v = .string S ∧ k ≤ m ∧ Hid (S = txt (numsP l (k + 1))) ∧ Hid (Ext w wr)) (fun _ i _ => m - (intOf i).toNat)
      case atStart => exact ⟨0, U, rfl, rfl, by omega, HU, X1⟩
      case round =>
        obtain ⟨k, S, rfl, rfl, hk, HS, hE⟩ := hrel
        by_cases hlt : k < m
        · have bk : (k : Int) < (m : Int) := by omega
          obtain ⟨b', off', e', _, cz⟩ := (HA.out wr hE.out).1.at (k := k + 1) (by have := HL.out.1; omega)
          obtain ⟨rfl, rfl⟩ : b = b' ∧ off = off' := by injection e' with e'; injection e' with e1 e2; exact ⟨e1, e2⟩
          clear e'
          rw [show off + (k + 1) = off + 1 + k by omega] at cz
          obtain ⟨z2, hz2⟩ : ∃ z, z = l.getD (k + 1) 0 := ⟨_, rfl⟩
          have hzm : z2 ∈ l := by have := HL.out.1; rw [hz2, List.getD_eq_getElem?_getD, List.getElem?_eq_getElem (by omega)]; exact List.getElem_mem (by omega)
          rw [← hz2] at cz
          have hh := HL.out.2 z2 hzm
          have lz := numT_len hh
          have ls := numsP_len HL.out.2 (k + 1) (by have := HL.out.1; omega)
          have hS : S = txt (numsP l (k + 1)) := HS.out
          obtain ⟨V, hV⟩ : ∃ V, V = txt (numT z2) := ⟨_, rfl⟩
          obtain ⟨Y, hY⟩ : ∃ Y, Y = txt ([32, 44, 32] ++ numT z2) := ⟨_, rfl⟩
          obtain ⟨T, hT⟩ : ∃ T, T = txt (numsP l (k + 1) ++ ([32, 44, 32] ++ numT z2)) := ⟨_, rfl⟩
          have A1 : ∀ wx, (Op.stringOp .add ⟨#[32, 44, 32]⟩ V).run Tryz.prog wx = .ok (.string Y) wx := fun wx => addT wx rfl hV hY (by simp only [List.length_cons, List.length_nil]; omega)
          have A2 : ∀ wx, (Op.stringOp .add S Y).run Tryz.prog wx = .ok (.string T) wx := fun wx => addT wx hS hY hT (by simp only [List.length_append, List.length_cons, List.length_nil]; omega)
          have HT : Hid (T = txt (numsP l (k + 1 + 1))) := by
            unfold Hid
            show T = txt (numsP l (k + 1) ++ ((if k + 1 = 0 then [] else [32, 44, 32]) ++ numT (l.getD (k + 1) 0)))
            rw [hT, if_neg (by omega), ← hz2]
          have H2 : Hid (Calls Tryz.prog 23 #[.int .i64 z2] wr fun e w' => e = .returned (.string V) ∧ Ext wr w') := by rw [hV]; exact decT hh (HA.out wr hE.out).2
          clear hz2 hzm hh lz ls hS hV hY hT HS
          go_wp2_with fail
          refine H2.out.mono ?_
          rintro e w2 ⟨rfl, x2⟩
          have X2 : Hid (Ext w w2) := hE.out.trans x2
          clear x2 H2 cz
          go_wp2
          go_roundw
          case rel => exact ⟨k + 1, T, by go_num, rfl, by omega, HT, X2⟩
          case measure => simp [intOf]; omega
        · obtain rfl : k = m := by omega
          have bk : ¬ ((k : Int) < (k : Int)) := by omega
          go_wp2
          go_ret
          exact ⟨by rw [HZ.out, HS.out]; rfl, hE.out⟩

set_option maxRecDepth 100000 in
set_option maxHeartbeats 1600000 in
theorem condsText_any (a : Option Addr) (cap n : Nat) (l : List CN) (w : World) (hn : n = l.length) (hl : n ≤ 3) (hh : ∀ c ∈ l, condB c = true) (h : Conds w a l) (hP : Pow w) (hC : Cms w) :
    Calls Tryz.prog 58 #[.slice a n cap] w fun e w' => e = .returned (.string (txt (condsT l))) ∧ Ext w w' := by
  have HA : Hid (∀ W, Ext w W → Conds W a l ∧ Pow W ∧ Cms W) := fun W hE => ⟨h.step hE, hP.ext hE, hC.ext hE⟩
  have HL : Hid (n = l.length ∧ (∀ z ∈ l, condB z = true)) := ⟨hn, hh⟩
  obtain ⟨Z, hZ⟩ : ∃ Z, Z = txt (condsT l) := ⟨_, rfl⟩
  have HZ : Hid (Z = txt (condsP l n)) := by rw [hZ, hn, condsP_all]; rfl
  rw [← hZ]
  clear hZ h hP hC hn hh
  go_enter Tryz.func58, Tryz.ntmps58
  go_wp2_with fail
  go_loopw [3, 4, 9] (fun v u i wr => ∃ (k : Nat) (S H : ByteArray), i = .int .i64 k ∧ v = .string S ∧ u = .string H ∧ k ≤ n ∧ Hid (S = txt (condsP l k)) ∧ Hid (H = txt (if k = 0 then [32, 105, 102, 32] else [32, 97, 110, 100, 32])) ∧ Hid (Ext w wr)) (fun _ _ i _ => n - (intOf i).toNat)
  case atStart => exact ⟨0, _, _, rfl, rfl, rfl, by omega, rfl, rfl, Ext.refl _⟩
  case round =>
    obtain ⟨k, S, H, rfl, rfl, rfl, hk, HS, HH, hE⟩ := hrel
    by_cases hlt : k < n
    · have bk : (k : Int) < (n : Int) := by omega
      obtain ⟨c, hc⟩ : ∃ c, c = l.getD k c0 := ⟨_, rfl⟩
      obtain ⟨b, off, rfl, hb, cz⟩ := (HA.out wr hE.out).1.at (k := k) (by have := HL.out.1; omega) hc
      have hcm : c ∈ l := by have := HL.out.1; rw [hc, List.getD_eq_getElem?_getD, List.getElem?_eq_getElem (by omega)]; exact List.getElem_mem (by omega)
      have hh := HL.out.2 c hcm
      have lz := condT_len hh
      have ls := condsP_len HL.out.2 k (by have := HL.out.1; omega)
      have hS : S = txt (condsP l k) := HS.out
      obtain ⟨hd, hhd⟩ : ∃ hd : List UInt8, hd = (if k = 0 then [32, 105, 102, 32] else [32, 97, 110, 100, 32]) := ⟨_, rfl⟩
      have lh : hd.length ≤ 5 := by rw [hhd]; split <;> simp
      have hH : H = txt hd := by rw [hhd]; exact HH.out
      obtain ⟨V, hV⟩ : ∃ V, V = txt (condT c) := ⟨_, rfl⟩
      obtain ⟨Y, hY⟩ : ∃ Y, Y = txt (hd ++ condT c) := ⟨_, rfl⟩
      obtain ⟨T, hT⟩ : ∃ T, T = txt (condsP l k ++ (hd ++ condT c)) := ⟨_, rfl⟩
      have A1 : ∀ wx, (Op.stringOp .add H V).run Tryz.prog wx = .ok (.string Y) wx := fun wx => addT wx hH hV hY (by omega)
      have A2 : ∀ wx, (Op.stringOp .add S Y).run Tryz.prog wx = .ok (.string T) wx := fun wx => addT wx hS hY hT (by simp only [List.length_append]; omega)
      have HT : Hid (T = txt (condsP l (k + 1))) := by
        unfold Hid
        rw [hT, condsP, hhd, ← hc]
      have H2 : Hid (∀ W, Ext wr W → Calls Tryz.prog 98 #[c.v] W fun e w' => e = .returned (.string V) ∧ Ext W w') := fun W hx => by
        rw [hV]; exact condText_any c W hh (HA.out W (hE.out.trans hx)).2.1 (HA.out W (hE.out.trans hx)).2.2
      clear hc hcm hh lz ls hS hH hhd lh hV hY hT HS HH
      obtain ⟨ag, mh, ml, cm, vh, vl⟩ := c
      obtain ⟨p0, p1, p2, p3, p4, p5⟩ := cz.six
      unfold CN.v at H2
      simp only at H2 p0 p1 p2 p3 p4 p5
      clear cz
      go_wp2_with fail
      refine (H2.out _ (Ext.one _ _)).mono ?_
      rintro e w2 ⟨rfl, x2⟩
      have X2 : Hid (Ext w w2) := (hE.out.alloc _).trans x2
      clear x2 H2 p0 p1 p2 p3 p4 p5
      go_wp2
      go_roundw
      case rel => exact ⟨k + 1, T, _, by go_num, rfl, rfl, by omega, HT, rfl, X2⟩
      case measure => simp [intOf]; omega
    · obtain rfl : k = n := by omega
      have bk : ¬ ((k : Int) < (k : Int)) := by omega
      go_wp2
      go_ret
      exact ⟨by rw [HZ.out, HS.out]; rfl, hE.out⟩

set_option maxRecDepth 100000 in
set_option maxHeartbeats 1600000 in
theorem ruleText_any (r : RN) (a1 a2 : Option Addr) (n1 d1 n2 d2 : Nat) (w : World) (hr : ruleB r = true) (e1 : n1 = r.nums.length) (e2 : n2 = r.conds.length) (hcap : n1 ≤ d1) (h1 : Nums w a1 r.nums) (h2 : Conds w a2 r.conds) (hP : Pow w) (hC : Cms w) :
    Calls Tryz.prog 25 #[.agg #[.slice a1 n1 d1, .slice a2 n2 d2, .int .i64 r.act, .int .i64 r.data]] w fun e w' => e = .returned (.string (txt (ruleT r))) ∧ Ext w w' := by
  obtain ⟨ho, hn, hc⟩ := ruleB_parts hr
  obtain ⟨l1, l2⟩ := ruleB_lens hr
  have lx := numsT_len (numsB_halves hn)
  have ly := condsP_len hc r.conds.length (Nat.le_refl _)
  rw [condsP_all] at ly
  have lz := outT_len ho
  obtain ⟨U, hU⟩ : ∃ U, U = txt (numsT r.nums) := ⟨_, rfl⟩
  obtain ⟨V, hV⟩ : ∃ V, V = txt (condsT r.conds) := ⟨_, rfl⟩
  obtain ⟨T, hT⟩ : ∃ T, T = txt (outT r.act r.data) := ⟨_, rfl⟩
  obtain ⟨Z, hZ⟩ : ∃ Z, Z = txt (ruleT r) := ⟨_, rfl⟩
  obtain ⟨S1, hS1⟩ : ∃ S, S = txt ([111, 110, 32] ++ numsT r.nums) := ⟨_, rfl⟩
  have SA1 : ∀ wx, (Op.stringOp .add ⟨#[111, 110, 32]⟩ U).run Tryz.prog wx = .ok (.string S1) wx := fun wx => addT wx rfl hU hS1 (by simp only [List.length_cons, List.length_nil]; omega)
  obtain ⟨S2, hS2⟩ : ∃ S, S = txt (([111, 110, 32] ++ numsT r.nums) ++ condsT r.conds) := ⟨_, rfl⟩
  have SA2 : ∀ wx, (Op.stringOp .add S1 V).run Tryz.prog wx = .ok (.string S2) wx := fun wx => addT wx hS1 hV hS2 (by simp only [List.length_append, List.length_cons, List.length_nil]; omega)
  obtain ⟨S3, hS3⟩ : ∃ S, S = txt ((([111, 110, 32] ++ numsT r.nums) ++ condsT r.conds) ++ [32, 100, 111, 32]) := ⟨_, rfl⟩
  have SA3 : ∀ wx, (Op.stringOp .add S2 ⟨#[32, 100, 111, 32]⟩).run Tryz.prog wx = .ok (.string S3) wx := fun wx => addT wx hS2 rfl hS3 (by simp only [List.length_append, List.length_cons, List.length_nil]; omega)
  obtain ⟨S4, hS4⟩ : ∃ S, S = txt (((([111, 110, 32] ++ numsT r.nums) ++ condsT r.conds) ++ [32, 100, 111, 32]) ++ outT r.act r.data) := ⟨_, rfl⟩
  have SA4 : ∀ wx, (Op.stringOp .add S3 T).run Tryz.prog wx = .ok (.string S4) wx := fun wx => addT wx hS3 hT hS4 (by simp only [List.length_append, List.length_cons, List.length_nil]; omega)
  have SA5 : ∀ wx, (Op.stringOp .add S4 ⟨#[32, 59]⟩).run Tryz.prog wx = .ok (.string Z) wx := fun wx => addT wx hS4 rfl (hZ.trans (congrArg txt (rfl))) (by simp only [List.length_append, List.length_cons, List.length_nil]; omega)
  clear hS1 hS2 hS3 hS4
  have H1 : Hid (∀ W, Ext w W → Calls Tryz.prog 57 #[.slice a1 n1 d1] W fun e w' => e = .returned (.string U) ∧ Ext W w') := fun W hE => by rw [hU]; exact numsText_any a1 d1 n1 _ W e1 (by omega) hcap (numsB_halves hn) (h1.step hE) (hP.ext hE)
  have H2 : Hid (∀ W, Ext w W → Calls Tryz.prog 58 #[.slice a2 n2 d2] W fun e w' => e = .returned (.string V) ∧ Ext W w') := fun W hE => by rw [hV]; exact condsText_any a2 d2 n2 _ W e2 (by omega) hc (h2.step hE) (hP.ext hE) (hC.ext hE)
  have H3 : Hid (∀ W, Ext w W → Calls Tryz.prog 24 #[.int .i64 r.act, .int .i64 r.data] W fun e w' => e = .returned (.string T) ∧ Ext W w') := fun W hE => by rw [hT]; exact outcomeText_any _ _ W ho (hP.ext hE)
  rw [← hZ]
  clear hU hV hT hZ ho hn hc l1 l2 lx ly lz h1 h2 hP hC hr e1 e2 hcap
  generalize r.act = ra at *
  generalize r.data = rd at *
  have X : Hid (Ext w (w.alloc (.cells #[.slice a1 n1 d1, .slice a2 n2 d2, .int .i64 ra, .int .i64 rd] 53))) := Ext.one _ _
  have C0 : Hid (CellsAt (w.alloc (.cells #[.slice a1 n1 d1, .slice a2 n2 d2, .int .i64 ra, .int .i64 rd] 53)) w.heap.size [.slice a1 n1 d1, .slice a2 n2 d2, .int .i64 ra, .int .i64 rd]) := CellsAt.new w _ _
  go_enter Tryz.func25, Tryz.ntmps25
  go_wp2_with fail
  generalize w.alloc (.cells #[.slice a1 n1 d1, .slice a2 n2 d2, .int .i64 ra, .int .i64 rd] 53) = W0 at *
  refine' wp_region_loose (.inl _ :: .inl _ :: .inl _ :: .inl _ :: .inl _ :: .inl _ :: .inl _ :: .inl _ :: .inl _ :: .inl _ :: .inl _ :: .inl _ :: .inl _ :: .inl _ :: .inl _ :: .inl _ :: .inl _ :: []) (fun w' => CellsAt w' w.heap.size [.slice a1 n1 d1, .slice a2 n2 d2, .int .i64 ra, .int .i64 rd]) (by kernel_rfl) (by kernel_rfl) (C0.out) (fun _ _ h hE => h.step hE) ?hAa ?hla ?hMa
  case' hMa => skip
  apply wpLoose_val rfl rfl
  case hs =>
    intro w1 hC hd Q1 hQ1
    obtain ⟨hE, hS⟩ := hC
    dsimp only [bare]
    obtain ⟨p0, p1, p2, p3⟩ := (⟨hS.2 0 _ rfl, hS.2 1 _ rfl, hS.2 2 _ rfl, hS.2 3 _ rfl⟩ : _ ∧ _ ∧ _ ∧ _)
    clear hd hE
    try clear hS
    go_wp2
    exact Ext.refl _
  case ha => rfl
  apply wpLoose_val rfl rfl
  case hs =>
    intro w1 hC hd Q1 hQ1
    obtain ⟨hE, hS⟩ := hC
    dsimp only [bare]
    obtain ⟨p0, p1, p2, p3⟩ := (⟨hS.2 0 _ rfl, hS.2 1 _ rfl, hS.2 2 _ rfl, hS.2 3 _ rfl⟩ : _ ∧ _ ∧ _ ∧ _)
    clear hd hE
    try clear hS
    go_wp2
    exact Ext.refl _
  case ha => rfl
  apply wpLoose_val rfl rfl
  case hs =>
    intro w1 hC hd Q1 hQ1
    obtain ⟨hE, hS⟩ := hC
    dsimp only [bare]
    clear hd
    go_wp2_with fail
    refine (H1.out _ (X.out.drew.trans hE)).mono ?_
    rintro e w2 ⟨rfl, hb⟩
    go_wp2_with fail
    exact hb
  case ha => rfl
  apply wpLoose_val rfl rfl
  case hs =>
    intro w1 hC hd Q1 hQ1
    obtain ⟨hE, hS⟩ := hC
    dsimp only [bare]
    obtain ⟨p0, p1, p2, p3⟩ := (⟨hS.2 0 _ rfl, hS.2 1 _ rfl, hS.2 2 _ rfl, hS.2 3 _ rfl⟩ : _ ∧ _ ∧ _ ∧ _)
    clear hd hE
    try clear hS
    go_wp2
    exact Ext.refl _
  case ha => rfl
  apply wpLoose_val rfl rfl
  case hs =>
    intro w1 hC hd Q1 hQ1
    obtain ⟨hE, hS⟩ := hC
    dsimp only [bare]
    obtain ⟨p0, p1, p2, p3⟩ := (⟨hS.2 0 _ rfl, hS.2 1 _ rfl, hS.2 2 _ rfl, hS.2 3 _ rfl⟩ : _ ∧ _ ∧ _ ∧ _)
    clear hd hE
    try clear hS
    go_wp2
    exact Ext.refl _
  case ha => rfl
  apply wpLoose_val rfl rfl
  case hs =>
    intro w1 hC hd Q1 hQ1
    obtain ⟨hE, hS⟩ := hC
    dsimp only [bare]
    obtain ⟨p0, p1, p2, p3⟩ := (⟨hS.2 0 _ rfl, hS.2 1 _ rfl, hS.2 2 _ rfl, hS.2 3 _ rfl⟩ : _ ∧ _ ∧ _ ∧ _)
    clear hd hE
    try clear hS
    go_wp2
    exact Ext.refl _
  case ha => rfl
  apply wpLoose_val rfl rfl
  case hs =>
    intro w1 hC hd Q1 hQ1
    obtain ⟨hE, hS⟩ := hC
    dsimp only [bare]
    clear hd
    go_wp2_with fail
    refine (H2.out _ (X.out.drew.trans hE)).mono ?_
    rintro e w2 ⟨rfl, hb⟩
    go_wp2_with fail
    exact hb
  case ha => rfl
  apply wpLoose_val rfl rfl
  case hs =>
    intro w1 hC hd Q1 hQ1
    obtain ⟨hE, hS⟩ := hC
    dsimp only [bare]
    obtain ⟨p0, p1, p2, p3⟩ := (⟨hS.2 0 _ rfl, hS.2 1 _ rfl, hS.2 2 _ rfl, hS.2 3 _ rfl⟩ : _ ∧ _ ∧ _ ∧ _)
    clear hd hE
    try clear hS
    go_wp2
    exact Ext.refl _
  case ha => rfl
  apply wpLoose_val rfl rfl
  case hs =>
    intro w1 hC hd Q1 hQ1
    obtain ⟨hE, hS⟩ := hC
    dsimp only [bare]
    obtain ⟨p0, p1, p2, p3⟩ := (⟨hS.2 0 _ rfl, hS.2 1 _ rfl, hS.2 2 _ rfl, hS.2 3 _ rfl⟩ : _ ∧ _ ∧ _ ∧ _)
    clear hd hE
    try clear hS
    go_wp2
    exact Ext.refl _
  case ha => rfl
  apply wpLoose_val rfl rfl
  case hs =>
    intro w1 hC hd Q1 hQ1
    obtain ⟨hE, hS⟩ := hC
    dsimp only [bare]
    obtain ⟨p0, p1, p2, p3⟩ := (⟨hS.2 0 _ rfl, hS.2 1 _ rfl, hS.2 2 _ rfl, hS.2 3 _ rfl⟩ : _ ∧ _ ∧ _ ∧ _)
    clear hd hE
    try clear hS
    go_wp2
    exact Ext.refl _
  case ha => rfl
  apply wpLoose_val rfl rfl
  case hs =>
    intro w1 hC hd Q1 hQ1
    obtain ⟨hE, hS⟩ := hC
    dsimp only [bare]
    obtain ⟨p0, p1, p2, p3⟩ := (⟨hS.2 0 _ rfl, hS.2 1 _ rfl, hS.2 2 _ rfl, hS.2 3 _ rfl⟩ : _ ∧ _ ∧ _ ∧ _)
    clear hd hE
    try clear hS
    go_wp2
    exact Ext.refl _
  case ha => rfl
  apply wpLoose_val rfl rfl
  case hs =>
    intro w1 hC hd Q1 hQ1
    obtain ⟨hE, hS⟩ := hC
    dsimp only [bare]
    obtain ⟨p0, p1, p2, p3⟩ := (⟨hS.2 0 _ rfl, hS.2 1 _ rfl, hS.2 2 _ rfl, hS.2 3 _ rfl⟩ : _ ∧ _ ∧ _ ∧ _)
    clear hd hE
    try clear hS
    go_wp2
    exact Ext.refl _
  case ha => rfl
  apply wpLoose_val rfl rfl
  case hs =>
    intro w1 hC hd Q1 hQ1
    obtain ⟨hE, hS⟩ := hC
    dsimp only [bare]
    obtain ⟨p0, p1, p2, p3⟩ := (⟨hS.2 0 _ rfl, hS.2 1 _ rfl, hS.2 2 _ rfl, hS.2 3 _ rfl⟩ : _ ∧ _ ∧ _ ∧ _)
    clear hd hE
    try clear hS
    go_wp2
    exact Ext.refl _
  case ha => rfl
  apply wpLoose_val rfl rfl
  case hs =>
    intro w1 hC hd Q1 hQ1
    obtain ⟨hE, hS⟩ := hC
    dsimp only [bare]
    clear hd
    go_wp2_with fail
    refine (H3.out _ (X.out.drew.trans hE)).mono ?_
    rintro e w2 ⟨rfl, hb⟩
    go_wp2_with fail
    exact hb
  case ha => rfl
  apply wpLoose_val rfl rfl
  case hs =>
    intro w1 hC hd Q1 hQ1
    obtain ⟨hE, hS⟩ := hC
    dsimp only [bare]
    obtain ⟨p0, p1, p2, p3⟩ := (⟨hS.2 0 _ rfl, hS.2 1 _ rfl, hS.2 2 _ rfl, hS.2 3 _ rfl⟩ : _ ∧ _ ∧ _ ∧ _)
    clear hd hE
    try clear hS
    go_wp2
    exact Ext.refl _
  case ha => rfl
  apply wpLoose_val rfl rfl
  case hs =>
    intro w1 hC hd Q1 hQ1
    obtain ⟨hE, hS⟩ := hC
    dsimp only [bare]
    obtain ⟨p0, p1, p2, p3⟩ := (⟨hS.2 0 _ rfl, hS.2 1 _ rfl, hS.2 2 _ rfl, hS.2 3 _ rfl⟩ : _ ∧ _ ∧ _ ∧ _)
    clear hd hE
    try clear hS
    go_wp2
    exact Ext.refl _
  case ha => rfl
  apply wpLoose_val rfl rfl
  case hs =>
    intro w1 hC hd Q1 hQ1
    obtain ⟨hE, hS⟩ := hC
    dsimp only [bare]
    obtain ⟨p0, p1, p2, p3⟩ := (⟨hS.2 0 _ rfl, hS.2 1 _ rfl, hS.2 2 _ rfl, hS.2 3 _ rfl⟩ : _ ∧ _ ∧ _ ∧ _)
    clear hd hE
    try clear hS
    go_wp2
    exact Ext.refl _
  case ha => rfl
  refine wpLoose_nil ?_
  intro wa hEa hSa hFa
  · have XE : Hid (Ext w wa) := X.out.drew.trans hEa
    clear hEa hSa hFa
    go_wp2
    go_ret
    exact ⟨rfl, XE.out⟩
  case hAa => kernel_rfl
  case hla => exact ⟨trivial, trivial, trivial, trivial, trivial, trivial, trivial, trivial, trivial, trivial, trivial, trivial, trivial, trivial, trivial, trivial, trivial, trivial⟩

set_option maxRecDepth 100000 in
set_option maxHeartbeats 1600000 in
theorem iShow_any {p : PN} {v : Value} {w : World} (hs : SmallR p.rules) (h : RepPolC p v w) (hP : Pow w) (hC : Cms w) :
    Calls Tryz.prog 7 #[v] w fun e w' => e = .returned (.tuple #[.string (txt (showR p).1), .bool (showR p).2]) ∧ Ext w w' := by
  obtain ⟨Z, hZ⟩ : ∃ Z, Z = txt (showR p).1 := ⟨_, rfl⟩
  obtain ⟨z, hz⟩ : ∃ z, z = (showR p).2 := ⟨_, rfl⟩
  obtain ⟨q, hq⟩ : ∃ q, q = policyB p := ⟨_, rfl⟩
  have HO : Hid (∀ W, Ext w W → Calls Tryz.prog 22 #[v] W fun e w' => e = .returned (.bool q) ∧ Ext W w') := fun W hE => by rw [hq]; exact iPolicyOk_rep hs (h.pol.step hE)
  obtain ⟨a, cap, rfl, hr⟩ := h
  rw [← hZ, ← hz]
  cases q
  case false =>
    have HZ : Hid (Z = txt [] ∧ z = false) := by rw [hZ, hz]; simp [showR, ← hq, Hid]
    clear hZ hz hq hr
    generalize p.arch = ar at *
    generalize p.act = ac at *
    generalize p.data = da at *
    generalize p.rules.length = n at *
    go_enter Tryz.func7, Tryz.ntmps7
    go_wp2_with fail
    refine (HO.out _ (Ext.one _ _)).mono ?_
    rintro e w1 ⟨rfl, x1⟩
    have X1 : Hid (Ext w w1) := (Ext.one _ _).trans x1
    clear x1 HO
    go_wp2
    go_ret2
    exact ⟨by rw [HZ.out.1, HZ.out.2]; rfl, X1.out⟩
  case true =>
    obtain ⟨hb1, hb2, hb3⟩ := policyB_parts hq.symm
    obtain ⟨_, hd, g0, g5⟩ := outB_half hb2
    have lh := headT_len hq.symm
    have lx := numT_len hb1
    have lz := outT_len hb2
    obtain ⟨U, hU⟩ : ∃ U, U = txt (numT p.arch) := ⟨_, rfl⟩
    obtain ⟨T, hT⟩ : ∃ T, T = txt (outT p.act p.data) := ⟨_, rfl⟩
    obtain ⟨H0, hH⟩ : ∃ H0, H0 = txt (headT p) := ⟨_, rfl⟩
    obtain ⟨S1, hS1⟩ : ∃ S, S = txt ([97, 114, 99, 104, 32] ++ numT p.arch) := ⟨_, rfl⟩
    have SA1 : ∀ wx, (Op.stringOp .add ⟨#[97, 114, 99, 104, 32]⟩ U).run Tryz.prog wx = .ok (.string S1) wx := fun wx => addT wx rfl hU hS1 (by simp only [List.length_cons, List.length_nil]; omega)
    obtain ⟨S2, hS2⟩ : ∃ S, S = txt (([97, 114, 99, 104, 32] ++ numT p.arch) ++ [32, 59, 32, 100, 101, 102, 97, 117, 108, 116, 32]) := ⟨_, rfl⟩
    have SA2 : ∀ wx, (Op.stringOp .add S1 ⟨#[32, 59, 32, 100, 101, 102, 97, 117, 108, 116, 32]⟩).run Tryz.prog wx = .ok (.string S2) wx := fun wx => addT wx hS1 rfl hS2 (by simp only [List.length_append, List.length_cons, List.length_nil]; omega)
    obtain ⟨S3, hS3⟩ : ∃ S, S = txt ((([97, 114, 99, 104, 32] ++ numT p.arch) ++ [32, 59, 32, 100, 101, 102, 97, 117, 108, 116, 32]) ++ outT p.act p.data) := ⟨_, rfl⟩
    have SA3 : ∀ wx, (Op.stringOp .add S2 T).run Tryz.prog wx = .ok (.string S3) wx := fun wx => addT wx hS2 hT hS3 (by simp only [List.length_append, List.length_cons, List.length_nil]; omega)
    have SA4 : ∀ wx, (Op.stringOp .add S3 ⟨#[32, 59]⟩).run Tryz.prog wx = .ok (.string H0) wx := fun wx => addT wx hS3 rfl (hH.trans (congrArg txt (rfl))) (by simp only [List.length_append, List.length_cons, List.length_nil]; omega)
    clear hS1 hS2 hS3
    obtain ⟨n, hn⟩ : ∃ n, n = p.rules.length := ⟨_, rfl⟩
    have hn10 : n ≤ 10 := by
      have := hq.symm
      simp only [policyB, Bool.and_eq_true, decide_eq_true_eq] at this
      omega
    have HZ : Hid (Z = txt (if 1200 < (headT p ++ rulesP p.rules n).length then [] else headT p ++ rulesP p.rules n) ∧ z = !decide (1200 < (headT p ++ rulesP p.rules n).length)) := by
      have e : headT p ++ rulesP p.rules n = showL p := by rw [hn, rulesP_all]; rfl
      rw [e, hZ, hz]
      unfold showR
      rw [← hq]
      by_cases hl : 1200 < (showL p).length
      · simp [hl, Hid]
      · simp [hl, Hid]
    have H1 : Hid (∀ W, Ext w W → Calls Tryz.prog 23 #[.int .i64 p.arch] W fun e w' => e = .returned (.string U) ∧ Ext W w') := fun W hE => by rw [hU]; exact decT hb1 (hP.ext hE)
    have H2 : Hid (∀ W, Ext w W → Calls Tryz.prog 24 #[.int .i64 p.act, .int .i64 p.data] W fun e w' => e = .returned (.string T) ∧ Ext W w') := fun W hE => by rw [hT]; exact outcomeText_any _ _ W hb2 (hP.ext hE)
    have HR : Hid (∀ W, Ext w W → RulesC W a p.rules) := fun W hE => hr.step hE
    have HB : Hid (n = p.rules.length ∧ (∀ r ∈ p.rules, ruleB r = true) ∧ (headT p).length ≤ 50 ∧ H0 = txt (headT p)) := ⟨hn, hb3, lh, hH⟩
    have HC : Hid (∀ W, Ext w W → Pow W ∧ Cms W) := fun W hE => ⟨hP.ext hE, hC.ext hE⟩
    rw [← hn] at HO ⊢
    clear hZ hz hq hr hb1 hb2 hb3 hd g0 g5 lh lx lz hU hT hH hn hs
    generalize p.arch = ar at *
    generalize p.act = ac at *
    generalize p.data = da at *
    have X : Hid (Ext w (w.alloc (.cells #[.int .i64 ar, .int .i64 ac, .int .i64 da, .slice a n cap] 26))) := Ext.one _ _
    have C0 : Hid (CellsAt (w.alloc (.cells #[.int .i64 ar, .int .i64 ac, .int .i64 da, .slice a n cap] 26)) w.heap.size [.int .i64 ar, .int .i64 ac, .int .i64 da, .slice a n cap]) := CellsAt.new w _ _
    go_enter Tryz.func7, Tryz.ntmps7
    go_wp2_with fail
    generalize w.alloc (.cells #[.int .i64 ar, .int .i64 ac, .int .i64 da, .slice a n cap] 26) = W0 at *
    refine (HO.out _ X.out).mono ?_
    rintro e w1 ⟨rfl, x1⟩
    have X1 : Hid (Ext w w1) := X.out.trans x1
    have C1 : Hid (CellsAt w1 w.heap.size [.int .i64 ar, .int .i64 ac, .int .i64 da, .slice a n cap]) := C0.out.step x1
    clear x1 HO X C0
    go_wp2_with fail
    refine' wp_region_loose (.inl _ :: .inl _ :: .inl _ :: .inl _ :: .inl _ :: .inl _ :: .inl _ :: .inl _ :: .inl _ :: .inl _ :: .inl _ :: .inl _ :: .inl _ :: []) (fun w' => CellsAt w' w.heap.size [.int .i64 ar, .int .i64 ac, .int .i64 da, .slice a n cap]) (by kernel_rfl) (by kernel_rfl) (C1.out) (fun _ _ h hE => h.step hE) ?hAiShow ?hliShow ?hMiShow
    case' hMiShow => skip
    apply wpLoose_val rfl rfl
    case hs =>
      intro w1 hC hd Q1 hQ1
      obtain ⟨hE, hS⟩ := hC
      dsimp only [bare]
      obtain ⟨p0, p1, p2, p3⟩ := (⟨hS.2 0 _ rfl, hS.2 1 _ rfl, hS.2 2 _ rfl, hS.2 3 _ rfl⟩ : _ ∧ _ ∧ _ ∧ _)
      clear hd hE
      try clear hS
      go_wp2
      exact Ext.refl _
    case ha => rfl
    apply wpLoose_val rfl rfl
    case hs =>
      intro w1 hC hd Q1 hQ1
      obtain ⟨hE, hS⟩ := hC
      dsimp only [bare]
      obtain ⟨p0, p1, p2, p3⟩ := (⟨hS.2 0 _ rfl, hS.2 1 _ rfl, hS.2 2 _ rfl, hS.2 3 _ rfl⟩ : _ ∧ _ ∧ _ ∧ _)
      clear hd hE
      try clear hS
      go_wp2
      exact Ext.refl _
    case ha => rfl
    apply wpLoose_val rfl rfl
    case hs =>
      intro w1 hC hd Q1 hQ1
      obtain ⟨hE, hS⟩ := hC
      dsimp only [bare]
      clear hd
      go_wp2_with fail
      refine (H1.out _ (X1.out.drew.trans hE)).mono ?_
      rintro e w2 ⟨rfl, hb⟩
      go_wp2_with fail
      exact hb
    case ha => rfl
    apply wpLoose_val rfl rfl
    case hs =>
      intro w1 hC hd Q1 hQ1
      obtain ⟨hE, hS⟩ := hC
      dsimp only [bare]
      obtain ⟨p0, p1, p2, p3⟩ := (⟨hS.2 0 _ rfl, hS.2 1 _ rfl, hS.2 2 _ rfl, hS.2 3 _ rfl⟩ : _ ∧ _ ∧ _ ∧ _)
      clear hd hE
      try clear hS
      go_wp2
      exact Ext.refl _
    case ha => rfl
    apply wpLoose_val rfl rfl
    case hs =>
      intro w1 hC hd Q1 hQ1
      obtain ⟨hE, hS⟩ := hC
      dsimp only [bare]
      obtain ⟨p0, p1, p2, p3⟩ := (⟨hS.2 0 _ rfl, hS.2 1 _ rfl, hS.2 2 _ rfl, hS.2 3 _ rfl⟩ : _ ∧ _ ∧ _ ∧ _)
      clear hd hE
      try clear hS
      go_wp2
      exact Ext.refl _
    case ha => rfl
    apply wpLoose_val rfl rfl
    case hs =>
      intro w1 hC hd Q1 hQ1
      obtain ⟨hE, hS⟩ := hC
      dsimp only [bare]
      obtain ⟨p0, p1, p2, p3⟩ := (⟨hS.2 0 _ rfl, hS.2 1 _ rfl, hS.2 2 _ rfl, hS.2 3 _ rfl⟩ : _ ∧ _ ∧ _ ∧ _)
      clear hd hE
      try clear hS
      go_wp2
      exact Ext.refl _
    case ha => rfl
    apply wpLoose_val rfl rfl
    case hs =>
      intro w1 hC hd Q1 hQ1
      obtain ⟨hE, hS⟩ := hC
      dsimp only [bare]
      obtain ⟨p0, p1, p2, p3⟩ := (⟨hS.2 0 _ rfl, hS.2 1 _ rfl, hS.2 2 _ rfl, hS.2 3 _ rfl⟩ : _ ∧ _ ∧ _ ∧ _)
      clear hd hE
      try clear hS
      go_wp2
      exact Ext.refl _
    case ha => rfl
    apply wpLoose_val rfl rfl
    case hs =>
      intro w1 hC hd Q1 hQ1
      obtain ⟨hE, hS⟩ := hC
      dsimp only [bare]
      obtain ⟨p0, p1, p2, p3⟩ := (⟨hS.2 0 _ rfl, hS.2 1 _ rfl, hS.2 2 _ rfl, hS.2 3 _ rfl⟩ : _ ∧ _ ∧ _ ∧ _)
      clear hd hE
      try clear hS
      go_wp2
      exact Ext.refl _
    case ha => rfl
    apply wpLoose_val rfl rfl
    case hs =>
      intro w1 hC hd Q1 hQ1
      obtain ⟨hE, hS⟩ := hC
      dsimp only [bare]
      obtain ⟨p0, p1, p2, p3⟩ := (⟨hS.2 0 _ rfl, hS.2 1 _ rfl, hS.2 2 _ rfl, hS.2 3 _ rfl⟩ : _ ∧ _ ∧ _ ∧ _)
      clear hd hE
      try clear hS
      go_wp2
      exact Ext.refl _
    case ha => rfl
    apply wpLoose_val rfl rfl
    case hs =>
      intro w1 hC hd Q1 hQ1
      obtain ⟨hE, hS⟩ := hC
      dsimp only [bare]
      clear hd
      go_wp2_with fail
      refine (H2.out _ (X1.out.drew.trans hE)).mono ?_
      rintro e w2 ⟨rfl, hb⟩
      go_wp2_with fail
      exact hb
    case ha => rfl
    apply wpLoose_val rfl rfl
    case hs =>
      intro w1 hC hd Q1 hQ1
      obtain ⟨hE, hS⟩ := hC
      dsimp only [bare]
      obtain ⟨p0, p1, p2, p3⟩ := (⟨hS.2 0 _ rfl, hS.2 1 _ rfl, hS.2 2 _ rfl, hS.2 3 _ rfl⟩ : _ ∧ _ ∧ _ ∧ _)
      clear hd hE
      try clear hS
      go_wp2
      exact Ext.refl _
    case ha => rfl
    apply wpLoose_val rfl rfl
    case hs =>
      intro w1 hC hd Q1 hQ1
      obtain ⟨hE, hS⟩ := hC
      dsimp only [bare]
      obtain ⟨p0, p1, p2, p3⟩ := (⟨hS.2 0 _ rfl, hS.2 1 _ rfl, hS.2 2 _ rfl, hS.2 3 _ rfl⟩ : _ ∧ _ ∧ _ ∧ _)
      clear hd hE
      try clear hS
      go_wp2
      exact Ext.refl _
    case ha => rfl
    apply wpLoose_val rfl rfl
    case hs =>
      intro w1 hC hd Q1 hQ1
      obtain ⟨hE, hS⟩ := hC
      dsimp only [bare]
      obtain ⟨p0, p1, p2, p3⟩ := (⟨hS.2 0 _ rfl, hS.2 1 _ rfl, hS.2 2 _ rfl, hS.2 3 _ rfl⟩ : _ ∧ _ ∧ _ ∧ _)
      clear hd hE
      try clear hS
      go_wp2
      exact Ext.refl _
    case ha => rfl
    refine wpLoose_nil ?_
    intro wiShow hEiShow hSiShow hFiShow
    · have X2 : Hid (Ext w wiShow) := X1.out.drew.trans hEiShow
      have C2 : Hid (CellsAt wiShow w.heap.size [.int .i64 ar, .int .i64 ac, .int .i64 da, .slice a n cap]) := hSiShow
      clear hEiShow hSiShow hFiShow X1 C1 H1 H2
      have p3 := C2.out.2 3 _ rfl
      go_wp2_with fail
      clear p3
      generalize wiShow = W2 at *
      go_loopw [4, 25] (fun v i wr => ∃ (k : Nat) (S : ByteArray), i = .int .i64 k ∧ v = .string S ∧ k ≤ n ∧ Hid (S = txt (headT p ++ rulesP p.rules k)) ∧ Hid (Ext w wr)) (fun _ i _ => n - (intOf i).toNat)
      case atStart => exact ⟨0, H0, rfl, rfl, by omega, by unfold Hid; rw [HB.out.2.2.2]; simp [rulesP], X2.out⟩
      case round =>
        obtain ⟨k, S, rfl, rfl, hk, HS, hE⟩ := hrel
        have lk := rulesP_len HB.out.2.1 k (by have := HB.out.1; omega)
        by_cases hlt : k < n
        · have bk : (k : Int) < (n : Int) := by omega
          obtain ⟨b, off, l, rfl, ⟨hbl, hseg⟩, hL⟩ := (HR.out wr hE.out).1.at (k := k) (by have := HB.out.1; omega)
          obtain ⟨r, hr⟩ : ∃ r, r = p.rules.getD k r0 := ⟨_, rfl⟩
          rw [← hr] at hL
          have hrm : r ∈ p.rules := by have := HB.out.1; rw [hr, List.getD_eq_getElem?_getD, List.getElem?_eq_getElem (by omega)]; exact List.getElem_mem (by omega)
          have hrb := HB.out.2.1 r hrm
          obtain ⟨a1, n1, d1, a2, n2, d2, rfl, e1, e2, N1, K1⟩ := hL
          obtain ⟨q0, q1, q2, q3⟩ := hseg.four
          have hcap := (HR.out wr hE.out).2 b off k a1 n1 d1 rfl (by have := HB.out.1; omega) q0
          have lr := ruleT_len hrb
          have lh := HB.out.2.2.1
          have hS : S = txt (headT p ++ rulesP p.rules k) := HS.out
          obtain ⟨V, hV⟩ : ∃ V, V = txt (ruleT r) := ⟨_, rfl⟩
          obtain ⟨Y, hY⟩ : ∃ Y, Y = txt ([32] ++ ruleT r) := ⟨_, rfl⟩
          obtain ⟨G, hG⟩ : ∃ G, G = txt ((headT p ++ rulesP p.rules k) ++ ([32] ++ ruleT r)) := ⟨_, rfl⟩
          have A1 : ∀ wx, (Op.stringOp .add ⟨#[32]⟩ V).run Tryz.prog wx = .ok (.string Y) wx := fun wx => addT wx rfl hV hY (by simp only [List.length_cons, List.length_nil]; omega)
          have A2 : ∀ wx, (Op.stringOp .add S Y).run Tryz.prog wx = .ok (.string G) wx := fun wx => addT wx hS hY hG (by simp only [List.length_append, List.length_cons, List.length_nil]; omega)
          have HT : Hid (G = txt (headT p ++ rulesP p.rules (k + 1))) := by
            unfold Hid
            rw [hG, rulesP, ← hr]
            simp
          have H3 : Hid (∀ W, Ext wr W → Calls Tryz.prog 25 #[.agg #[.slice a1 n1 d1, .slice a2 n2 d2, .int .i64 r.act, .int .i64 r.data]] W fun e w' => e = .returned (.string V) ∧ Ext W w') := fun W hx => by
            rw [hV]; exact ruleText_any r a1 a2 n1 d1 n2 d2 W hrb e1 e2 hcap (N1.step hx) (K1.step hx) (HC.out W (hE.out.trans hx)).1 (HC.out W (hE.out.trans hx)).2
          clear hr hrm hrb e1 e2 N1 K1 hcap lr lh hS hV hY hG HS lk hbl hseg
          generalize r.act = ra at *
          generalize r.data = rd at *
          go_wp2_with fail
          refine (H3.out _ (Ext.one _ _)).mono ?_
          rintro e w2 ⟨rfl, x2⟩
          have X3 : Hid (Ext w w2) := (hE.out.alloc _).trans x2
          clear x2 H3 q0 q1 q2 q3
          go_wp2
          go_roundw
          case rel => exact ⟨k + 1, G, by go_num, rfl, by omega, HT, X3⟩
          case measure => simp [intOf]; omega
        · obtain rfl : k = n := by omega
          have bk : ¬ ((k : Int) < (k : Int)) := by omega
          obtain ⟨L, hL⟩ : ∃ L, L = headT p ++ rulesP p.rules k := ⟨_, rfl⟩
          have hS : S = txt L := by rw [hL]; exact HS.out
          have hSs : S.size = L.length := by rw [hS]; show L.toArray.size = _; simp
          rw [← hL] at HZ
          have HSL : Hid (S = txt L) := hS
          clear hL HS lk hS
          by_cases hl : 1200 < L.length
          · have hl' : (1200 : Int) < (S.size : Int) := by omega
            clear hSs
            go_wp2
            go_ret2
            exact ⟨by rw [HZ.out.1, HZ.out.2, if_pos hl]; simp [hl, txt], hE.out⟩
          · have hl' : ¬ (1200 : Int) < (S.size : Int) := by omega
            clear hSs
            go_wp2
            go_ret2
            exact ⟨by rw [HZ.out.1, HZ.out.2, if_neg hl]; simp [hl, HSL.out], hE.out⟩
    case hAiShow => kernel_rfl
    case hliShow => exact ⟨trivial, trivial, trivial, trivial, trivial, trivial, trivial, trivial, trivial, trivial, trivial, trivial, trivial, trivial⟩

set_option maxRecDepth 100000 in
set_option maxHeartbeats 1600000 in
theorem l10Wide_any (x y : Int) (w : World) (h : wideB (x, y) = true) :
    Calls Tryz.prog 82 #[.agg #[.int .i64 x, .int .i64 y]] w fun e w' => e = .returned (.string (txt (wideT x y))) ∧ Ext w w' := by
  obtain ⟨hx, hy⟩ : halfB x = true ∧ halfB y = true := by simpa [wideB] using h
  have lx := numT_len hx
  have ly := numT_len hy
  obtain ⟨U, hU⟩ : ∃ U, U = txt (numT x) := ⟨_, rfl⟩
  obtain ⟨V, hV⟩ : ∃ V, V = txt (numT y) := ⟨_, rfl⟩
  obtain ⟨Z, hZ⟩ : ∃ Z, Z = txt (wideT x y) := ⟨_, rfl⟩
  obtain ⟨S1, hS1⟩ : ∃ S, S = txt (numT x ++ [32, 58, 32]) := ⟨_, rfl⟩
  have SA1 : ∀ wx, (Op.stringOp .add U ⟨#[32, 58, 32]⟩).run Tryz.prog wx = .ok (.string S1) wx := fun wx => addT wx hU rfl hS1 (by simp only [List.length_cons, List.length_nil]; omega)
  have SA2 : ∀ wx, (Op.stringOp .add S1 V).run Tryz.prog wx = .ok (.string Z) wx := fun wx => addT wx hS1 hV (hZ.trans (congrArg txt (rfl))) (by simp only [List.length_append, List.length_cons, List.length_nil]; omega)
  clear hS1
  have H1 : Hid (∀ W, Ext w W → Calls Tryz.prog 40 #[.int .i64 x] W fun e w' => e = .returned (.string U) ∧ Ext W w') := fun W hE => by rw [hU]; exact figT hx
  have H2 : Hid (∀ W, Ext w W → Calls Tryz.prog 40 #[.int .i64 y] W fun e w' => e = .returned (.string V) ∧ Ext W w') := fun W hE => by rw [hV]; exact figT hy
  rw [← hZ]
  have X : Hid (Ext w (w.alloc (.cells #[.int .i64 x, .int .i64 y] 76))) := Ext.one _ _
  have C0 : Hid (CellsAt (w.alloc (.cells #[.int .i64 x, .int .i64 y] 76)) w.heap.size [.int .i64 x, .int .i64 y]) := CellsAt.new w _ _
  clear hU hV hZ hx hy h lx ly
  go_enter Tryz.func82, Tryz.ntmps82
  go_wp2_with fail
  generalize w.alloc (.cells #[.int .i64 x, .int .i64 y] 76) = W0 at *
  refine' wp_region_loose (.inl _ :: .inl _ :: .inl _ :: .inl _ :: .inl _ :: .inl _ :: .inl _ :: .inl _ :: .inl _ :: []) (fun w' => CellsAt w' w.heap.size [.int .i64 x, .int .i64 y]) (by kernel_rfl) (by kernel_rfl) (C0.out) (fun _ _ h hE => h.step hE) ?hAa ?hla ?hMa
  case' hMa => skip
  apply wpLoose_val rfl rfl
  case hs =>
    intro w1 hC hd Q1 hQ1
    obtain ⟨hE, hS⟩ := hC
    dsimp only [bare]
    obtain ⟨p0, p1⟩ := (⟨hS.2 0 _ rfl, hS.2 1 _ rfl⟩ : _ ∧ _)
    clear hd hE
    try clear hS
    go_wp2
    exact Ext.refl _
  case ha => rfl
  apply wpLoose_val rfl rfl
  case hs =>
    intro w1 hC hd Q1 hQ1
    obtain ⟨hE, hS⟩ := hC
    dsimp only [bare]
    obtain ⟨p0, p1⟩ := (⟨hS.2 0 _ rfl, hS.2 1 _ rfl⟩ : _ ∧ _)
    clear hd hE
    try clear hS
    go_wp2
    exact Ext.refl _
  case ha => rfl
  apply wpLoose_val rfl rfl
  case hs =>
    intro w1 hC hd Q1 hQ1
    obtain ⟨hE, hS⟩ := hC
    dsimp only [bare]
    clear hd
    go_wp2_with fail
    refine (H1.out _ (X.out.drew.trans hE)).mono ?_
    rintro e w2 ⟨rfl, hb⟩
    go_wp2_with fail
    exact hb
  case ha => rfl
  apply wpLoose_val rfl rfl
  case hs =>
    intro w1 hC hd Q1 hQ1
    obtain ⟨hE, hS⟩ := hC
    dsimp only [bare]
    obtain ⟨p0, p1⟩ := (⟨hS.2 0 _ rfl, hS.2 1 _ rfl⟩ : _ ∧ _)
    clear hd hE
    try clear hS
    go_wp2
    exact Ext.refl _
  case ha => rfl
  apply wpLoose_val rfl rfl
  case hs =>
    intro w1 hC hd Q1 hQ1
    obtain ⟨hE, hS⟩ := hC
    dsimp only [bare]
    obtain ⟨p0, p1⟩ := (⟨hS.2 0 _ rfl, hS.2 1 _ rfl⟩ : _ ∧ _)
    clear hd hE
    try clear hS
    go_wp2
    exact Ext.refl _
  case ha => rfl
  apply wpLoose_val rfl rfl
  case hs =>
    intro w1 hC hd Q1 hQ1
    obtain ⟨hE, hS⟩ := hC
    dsimp only [bare]
    obtain ⟨p0, p1⟩ := (⟨hS.2 0 _ rfl, hS.2 1 _ rfl⟩ : _ ∧ _)
    clear hd hE
    try clear hS
    go_wp2
    exact Ext.refl _
  case ha => rfl
  apply wpLoose_val rfl rfl
  case hs =>
    intro w1 hC hd Q1 hQ1
    obtain ⟨hE, hS⟩ := hC
    dsimp only [bare]
    clear hd
    go_wp2_with fail
    refine (H2.out _ (X.out.drew.trans hE)).mono ?_
    rintro e w2 ⟨rfl, hb⟩
    go_wp2_with fail
    exact hb
  case ha => rfl
  apply wpLoose_val rfl rfl
  case hs =>
    intro w1 hC hd Q1 hQ1
    obtain ⟨hE, hS⟩ := hC
    dsimp only [bare]
    obtain ⟨p0, p1⟩ := (⟨hS.2 0 _ rfl, hS.2 1 _ rfl⟩ : _ ∧ _)
    clear hd hE
    try clear hS
    go_wp2
    exact Ext.refl _
  case ha => rfl
  apply wpLoose_val rfl rfl
  case hs =>
    intro w1 hC hd Q1 hQ1
    obtain ⟨hE, hS⟩ := hC
    dsimp only [bare]
    obtain ⟨p0, p1⟩ := (⟨hS.2 0 _ rfl, hS.2 1 _ rfl⟩ : _ ∧ _)
    clear hd hE
    try clear hS
    go_wp2
    exact Ext.refl _
  case ha => rfl
  refine wpLoose_nil ?_
  intro wa hEa hSa hFa
  · have XE : Hid (Ext w wa) := X.out.drew.trans hEa
    clear hEa hSa hFa
    go_wp2
    go_ret
    exact ⟨rfl, XE.out⟩
  case hAa => kernel_rfl
  case hla => exact ⟨trivial, trivial, trivial, trivial, trivial, trivial, trivial, trivial, trivial, trivial⟩

set_option maxRecDepth 100000 in
set_option maxHeartbeats 1600000 in
theorem l10Act_any (a d : Int) (w : World) (h : outB a d = true) :
    Calls Tryz.prog 41 #[.int .i64 a, .int .i64 d] w fun e w' => e = .returned (.string (txt (outT a d))) ∧ Ext w w' := by
  obtain ⟨_, hd, h0, h5⟩ := outB_half h
  have lx := actL_len a.toNat
  have ly := numT_len hd
  obtain ⟨U, hU⟩ : ∃ U, U = txt (actL.getD a.toNat []) := ⟨_, rfl⟩
  obtain ⟨V, hV⟩ : ∃ V, V = txt (numT d) := ⟨_, rfl⟩
  obtain ⟨Z, hZ⟩ : ∃ Z, Z = txt (outT a d) := ⟨_, rfl⟩
  obtain ⟨S1, hS1⟩ : ∃ S, S = txt (actL.getD a.toNat [] ++ [32]) := ⟨_, rfl⟩
  have SA1 : ∀ wx, (Op.stringOp .add U ⟨#[32]⟩).run Tryz.prog wx = .ok (.string S1) wx := fun wx => addT wx hU rfl hS1 (by simp only [List.length_cons, List.length_nil]; omega)
  have SA2 : ∀ wx, (Op.stringOp .add S1 V).run Tryz.prog wx = .ok (.string Z) wx := fun wx => addT wx hS1 hV (hZ.trans (congrArg txt (rfl))) (by simp only [List.length_append, List.length_cons, List.length_nil]; omega)
  clear hS1
  have H1 : Hid (∀ W, Ext w W → Calls Tryz.prog 81 #[.int .i64 a] W fun e w' => e = .returned (.string U) ∧ Ext W w') := fun W hE => by
    have := sName_any a W
    rw [nameV_actL h0 h5] at this
    rw [hU]
    exact this.mono (by rintro e w' ⟨rfl, hb⟩; first | exact ⟨rfl, hb⟩ | exact ⟨rfl, hb ▸ Ext.refl _⟩)
  have H2 : Hid (∀ W, Ext w W → Calls Tryz.prog 40 #[.int .i64 d] W fun e w' => e = .returned (.string V) ∧ Ext W w') := fun W hE => by rw [hV]; exact figT hd
  rw [← hZ]
  clear hU hV hZ hd h lx ly h0 h5
  go_enter Tryz.func41, Tryz.ntmps41
  go_wp2_with fail
  refine (H1.out _ (Ext.refl _)).mono ?_
  rintro e w1 ⟨rfl, x1⟩
  have X1 : Hid (Ext w w1) := x1
  clear x1
  go_wp2_with fail
  refine (H2.out _ X1.out).mono ?_
  rintro e w2 ⟨rfl, x2⟩
  have X2 : Hid (Ext w w2) := X1.out.trans x2
  clear x2
  go_wp2
  go_ret
  exact ⟨rfl, X2.out⟩

/-- The marks of the comparisons as a slice of the call's own. -/
def CmsAt (v : Value) (W : World) : Prop := ∃ g, v = .slice (some ⟨g, 0, none⟩) 7 7 ∧ g < W.heap.size ∧ ∀ k, k < 7 → W.cell? ⟨g, k, none⟩ = some (.string (txt (cmT k)))

theorem CmsAt.step {v : Value} {W W' : World} (h : CmsAt v W) (hE : Ext W W') : CmsAt v W' := by
  obtain ⟨g, e, hg, hc⟩ := h
  exact ⟨g, e, Nat.lt_of_lt_of_le hg hE.size, fun k hk => (hE.cell (p := ⟨g, k, none⟩) hg).trans (hc k hk)⟩

/-- Where one of them lies. -/
def CmAt (k : Nat) (M : ByteArray) (v : Value) (W : World) : Prop := ∃ g, v = .pointer (some ⟨g, k, none⟩) ∧ g < W.heap.size ∧ W.cell? ⟨g, k, none⟩ = some (.string M)

theorem CmAt.step {k : Nat} {M : ByteArray} {v : Value} {W W' : World} (h : CmAt k M v W) (hE : Ext W W') : CmAt k M v W' := by
  obtain ⟨g, e, hg, hc⟩ := h
  exact ⟨g, e, Nat.lt_of_lt_of_le hg hE.size, (hE.cell (p := ⟨g, k, none⟩) hg).trans hc⟩

theorem l10Cms_any (w : World) : Calls Tryz.prog 83 #[] w fun e w' => ∃ v, e = .returned v ∧ CmsAt v w' ∧ Ext w w' := by
  go_enter Tryz.func83, Tryz.ntmps83
  go_wp2
  go_ret
  refine ⟨_, rfl, ⟨w.heap.size, rfl, by simp, ?_⟩, Ext.one _ _⟩
  have h := CellsAt.new w (([] :: cmL).map fun t => Value.string (txt t)) 9
  intro k hk
  exact h.2 k _ (by rw [List.getElem?_map, List.getElem?_eq_getElem (by simpa [cmL] using hk)]; simp [cmT, List.getD_eq_getElem?_getD, List.getElem?_eq_getElem (show k < ([] :: cmL).length by simpa [cmL] using hk)])

set_option maxRecDepth 100000 in
set_option maxHeartbeats 3200000 in
theorem l10Rule_any (r : RN) (a1 a2 : Option Addr) (n1 d1 n2 d2 : Nat) (w : World) (hr : ruleB r = true) (e1 : n1 = r.nums.length) (e2 : n2 = r.conds.length) (h1 : Nums w a1 r.nums) (h2 : Conds w a2 r.conds) :
    Calls Tryz.prog 42 #[.agg #[.slice a1 n1 d1, .slice a2 n2 d2, .int .i64 r.act, .int .i64 r.data]] w fun e w' => e = .returned (.string (txt (ruleT r))) ∧ Ext w w' := by
  obtain ⟨ho, hn, hc⟩ := ruleB_parts hr
  obtain ⟨l1, l2⟩ := ruleB_lens hr
  have HL : Hid (n1 = r.nums.length ∧ n2 = r.conds.length ∧ (∀ z ∈ r.nums, halfB z = true) ∧ (∀ c ∈ r.conds, condB c = true)) := ⟨e1, e2, numsB_halves hn, hc⟩
  have HA : Hid (∀ W, Ext w W → Nums W a1 r.nums ∧ Conds W a2 r.conds) := fun W hE => ⟨h1.step hE, h2.step hE⟩
  have hl1 : n1 ≤ 4 := by omega
  have hl2 : n2 ≤ 3 := by omega
  obtain ⟨Z, hZ⟩ : ∃ Z, Z = txt (ruleT r) := ⟨_, rfl⟩
  have HZ : Hid (Z = txt (ruleT r)) := hZ
  rw [← hZ]
  obtain ⟨O1, hO1⟩ : ∃ O1, O1 = [111, 110, 32] ++ numsT r.nums := ⟨_, rfl⟩
  have HL2 : Hid (outB r.act r.data = true ∧ O1 = [111, 110, 32] ++ numsT r.nums) := ⟨ho, hO1⟩
  have HO1 : Hid (O1.length ≤ 60) := by
    have := numsT_len (numsB_halves hn)
    unfold Hid
    rw [hO1]
    simp only [List.length_append, List.length_cons, List.length_nil]
    omega
  have HV : Hid (Value.int .i64 r.act = .int .i64 r.act) := rfl
  have X : Hid (Ext w (w.alloc (.cells #[.slice a1 n1 d1, .slice a2 n2 d2, .int .i64 r.act, .int .i64 r.data] 53))) := Ext.one _ _
  have C0 : Hid (CellsAt (w.alloc (.cells #[.slice a1 n1 d1, .slice a2 n2 d2, .int .i64 r.act, .int .i64 r.data] 53)) w.heap.size [.slice a1 n1 d1, .slice a2 n2 d2, .int .i64 r.act, .int .i64 r.data]) := CellsAt.new w _ _
  by_cases h0 : n1 = 0
  · obtain ⟨O0, hO0⟩ : ∃ O0 : List UInt8, O0 = [111, 110, 32, 97, 110, 121] := ⟨_, rfl⟩
    obtain ⟨B, hB⟩ : ∃ B, B = txt O0 := ⟨_, rfl⟩
    have HO0 : Hid (B = txt O0 ∧ O0.length ≤ 6) := ⟨hB, by rw [hO0]; simp⟩
    have HO01 : Hid (O1 = O0 ++ numsP r.nums n1) := by
      have : r.nums = [] := List.length_eq_zero_iff.1 (by omega)
      unfold Hid
      rw [hO1, hO0, this, h0]; rfl
    have A0 : ∀ wx, (Op.stringOp .add ⟨#[111, 110, 32]⟩ ⟨#[97, 110, 121]⟩).run Tryz.prog wx = .ok (.string B) wx := fun wx => addT wx (a := [111, 110, 32]) (b := [97, 110, 121]) rfl rfl (by rw [hB, hO0]; rfl) (by simp)
    have dn : ((n1 : Int) == 0) = true := by simp; omega
    clear hr e1 e2 h1 h2 ho hn hc l1 l2 hZ hO1 hO0 hB h0
    go_enter Tryz.func42, Tryz.ntmps42
    go_wp2_with fail
    generalize hW0 : w.alloc (.cells #[.slice a1 n1 d1, .slice a2 n2 d2, .int .i64 r.act, .int .i64 r.data] 53) = W0 at *
    clear A0 dn hW0
    go_loopw [3, 4] (fun v i wr => ∃ (k : Nat) (S : ByteArray), i = .int .i64 k ∧ v = .string S ∧ k ≤ n1 ∧ Hid (S = txt (O0 ++ numsP r.nums k)) ∧ Hid (Ext W0 wr)) (fun _ i _ => n1 - (intOf i).toNat)
    case atStart => exact ⟨0, _, rfl, rfl, by omega, by unfold Hid; rw [HO0.out.1]; simp [numsP], Ext.refl _⟩
    case round =>
      obtain ⟨k, S, rfl, rfl, hk, HS, hE⟩ := hrel
      have p0 := (C0.out.step hE.out).2 0 _ rfl
      by_cases hlt : k < n1
      · have bk : (k : Int) < (n1 : Int) := by omega
        obtain ⟨b, off, rfl, hb, cz⟩ := (HA.out wr (X.out.trans hE.out)).1.at (k := k) (by have := HL.out.1; omega)
        obtain ⟨z2, hz2⟩ : ∃ z, z = r.nums.getD k 0 := ⟨_, rfl⟩
        have hzm : z2 ∈ r.nums := by have := HL.out.1; rw [hz2, List.getD_eq_getElem?_getD, List.getElem?_eq_getElem (by omega)]; exact List.getElem_mem (by omega)
        rw [← hz2] at cz
        have hh := HL.out.2.2.1 z2 hzm
        have lz := numT_len hh
        have ls := numsP_len HL.out.2.2.1 k (by have := HL.out.1; omega)
        have lo := HO0.out.2
        have hS : S = txt (O0 ++ numsP r.nums k) := HS.out
        obtain ⟨V, hV⟩ : ∃ V, V = txt (numT z2) := ⟨_, rfl⟩
        obtain ⟨T, hT⟩ : ∃ T, T = txt (O0 ++ numsP r.nums (k + 1)) := ⟨_, rfl⟩
        have HT : Hid (T = txt (O0 ++ numsP r.nums (k + 1))) := hT
        have H2 : Hid (∀ W, Calls Tryz.prog 40 #[.int .i64 z2] W fun e w' => e = .returned (.string V) ∧ Ext W w') := fun W => by rw [hV]; exact figT hh
        by_cases hk0 : k = 0
        · have A2 : ∀ wx, (Op.stringOp .add S V).run Tryz.prog wx = .ok (.string T) wx := fun wx => addT wx hS hV (hT.trans (congrArg txt (by rw [numsP, if_pos hk0, ← hz2]; simp))) (by simp only [List.length_append]; omega)
          have dk : ¬ (0 : Int) < (k : Int) := by omega
          clear hz2 hzm hh lz ls lo hS hV hT HS hk0
          go_wp2_with fail
          refine (H2.out _).mono ?_
          rintro e w2 ⟨rfl, x2⟩
          have X2 : Hid (Ext W0 w2) := hE.out.trans x2
          clear x2 H2 cz p0
          go_wp2
          go_roundw
          case rel => exact ⟨k + 1, T, by go_num, rfl, by omega, HT, X2⟩
          case measure => simp [intOf]; omega
        · obtain ⟨Y, hY⟩ : ∃ Y, Y = txt ((O0 ++ numsP r.nums k) ++ [32, 44, 32]) := ⟨_, rfl⟩
          have A1 : ∀ wx, (Op.stringOp .add S ⟨#[32, 44, 32]⟩).run Tryz.prog wx = .ok (.string Y) wx := fun wx => addT wx hS rfl hY (by simp only [List.length_append, List.length_cons, List.length_nil]; omega)
          have A2 : ∀ wx, (Op.stringOp .add Y V).run Tryz.prog wx = .ok (.string T) wx := fun wx => addT wx hY hV (hT.trans (congrArg txt (by rw [numsP, if_neg hk0, ← hz2]; simp))) (by simp only [List.length_append, List.length_cons, List.length_nil]; omega)
          have dk : (0 : Int) < (k : Int) := by omega
          clear hz2 hzm hh lz ls lo hS hV hT HS hk0 hY
          go_wp2_with fail
          refine (H2.out _).mono ?_
          rintro e w2 ⟨rfl, x2⟩
          have X2 : Hid (Ext W0 w2) := hE.out.trans x2
          clear x2 H2 cz p0
          go_wp2
          go_roundw
          case rel => exact ⟨k + 1, T, by go_num, rfl, by omega, HT, X2⟩
          case measure => simp [intOf]; omega
      · obtain rfl : k = n1 := by omega
        have bk : ¬ ((k : Int) < (k : Int)) := by omega
        have H01 : Hid (S = txt O1) := by unfold Hid; rw [HO01.out]; exact HS.out
        have XO : Hid (Ext W0 wr) := hE
        clear HS
        go_wp2_with fail
        clear p0 bk hE
        go_loopw [3, 5] (fun v i wr => ∃ (k : Nat) (S : ByteArray), i = .int .i64 k ∧ v = .string S ∧ k ≤ n2 ∧ Hid (S = txt (O1 ++ condsP r.conds k)) ∧ Hid (Ext W0 wr)) (fun _ i _ => n2 - (intOf i).toNat)
        case atStart => exact ⟨0, _, rfl, rfl, by omega, by unfold Hid; rw [H01.out]; simp [condsP], XO.out⟩
        case round =>
          obtain ⟨k, S, rfl, rfl, hk, HS, hE⟩ := hrel
          have c1 := (C0.out.step hE.out).2 1 _ rfl
          by_cases hlt : k < n2
          · have bk : (k : Int) < (n2 : Int) := by omega
            obtain ⟨c, hc⟩ : ∃ c, c = r.conds.getD k c0 := ⟨_, rfl⟩
            obtain ⟨b, off, rfl, hb, cz⟩ := (HA.out wr (X.out.trans hE.out)).2.at (k := k) (by have := HL.out.2.1; omega) hc
            have hcm : c ∈ r.conds := by have := HL.out.2.1; rw [hc, List.getD_eq_getElem?_getD, List.getElem?_eq_getElem (by omega)]; exact List.getElem_mem (by omega)
            have hh := HL.out.2.2.2 c hcm
            obtain ⟨ha, g1, g6, hm, hv⟩ := condB_pieces hh
            have l1 := numT_len ha
            have l2 := wideT_len hm
            have l3 := wideT_len hv
            have l4 := cmL_len (c.cm.toNat - 1)
            have l5 := condsP_len HL.out.2.2.2 k (by have := HL.out.2.1; omega)
            have l6 := HO1.out
            obtain ⟨hd, hhd⟩ : ∃ hd : List UInt8, hd = (if k = 0 then [32, 105, 102, 32] else [32, 97, 110, 100, 32]) := ⟨_, rfl⟩
            have l7 : hd.length ≤ 5 := by rw [hhd]; split <;> simp
            have hS : S = txt (O1 ++ condsP r.conds k) := HS.out
            obtain ⟨P, hP⟩ : ∃ P, P = txt ((O1 ++ condsP r.conds k) ++ hd) := ⟨_, rfl⟩
            have A0 : (k = 0 → ∀ wx, (Op.stringOp .add S ⟨#[32, 105, 102, 32]⟩).run Tryz.prog wx = .ok (.string P) wx) ∧ (¬ k = 0 → ∀ wx, (Op.stringOp .add S ⟨#[32, 97, 110, 100, 32]⟩).run Tryz.prog wx = .ok (.string P) wx) :=
              ⟨fun h wx => addT wx hS (by rw [hhd, if_pos h]; rfl) hP (by simp only [List.length_append]; omega), fun h wx => addT wx hS (by rw [hhd, if_neg h]; rfl) hP (by simp only [List.length_append]; omega)⟩
            obtain ⟨U, hU⟩ : ∃ U, U = txt (numT c.arg) := ⟨_, rfl⟩
            obtain ⟨V, hV⟩ : ∃ V, V = txt (wideT c.mh c.ml) := ⟨_, rfl⟩
            obtain ⟨M, hM⟩ : ∃ M, M = txt (cmL.getD (c.cm.toNat - 1) []) := ⟨_, rfl⟩
            obtain ⟨T, hT⟩ : ∃ T, T = txt (wideT c.vh c.vl) := ⟨_, rfl⟩
            obtain ⟨Z2, hZ2⟩ : ∃ Z2, Z2 = txt (O1 ++ condsP r.conds (k + 1)) := ⟨_, rfl⟩
            obtain ⟨S1, hS1⟩ : ∃ S, S = txt (((O1 ++ condsP r.conds k) ++ hd) ++ [97, 114, 103, 32]) := ⟨_, rfl⟩
            have SA1 : ∀ wx, (Op.stringOp .add P ⟨#[97, 114, 103, 32]⟩).run Tryz.prog wx = .ok (.string S1) wx := fun wx => addT wx hP rfl hS1 (by simp only [List.length_append, List.length_cons, List.length_nil]; omega)
            obtain ⟨S2, hS2⟩ : ∃ S, S = txt ((((O1 ++ condsP r.conds k) ++ hd) ++ [97, 114, 103, 32]) ++ numT c.arg) := ⟨_, rfl⟩
            have SA2 : ∀ wx, (Op.stringOp .add S1 U).run Tryz.prog wx = .ok (.string S2) wx := fun wx => addT wx hS1 hU hS2 (by simp only [List.length_append, List.length_cons, List.length_nil]; omega)
            obtain ⟨S3, hS3⟩ : ∃ S, S = txt (((((O1 ++ condsP r.conds k) ++ hd) ++ [97, 114, 103, 32]) ++ numT c.arg) ++ [32, 38, 32]) := ⟨_, rfl⟩
            have SA3 : ∀ wx, (Op.stringOp .add S2 ⟨#[32, 38, 32]⟩).run Tryz.prog wx = .ok (.string S3) wx := fun wx => addT wx hS2 rfl hS3 (by simp only [List.length_append, List.length_cons, List.length_nil]; omega)
            obtain ⟨S4, hS4⟩ : ∃ S, S = txt ((((((O1 ++ condsP r.conds k) ++ hd) ++ [97, 114, 103, 32]) ++ numT c.arg) ++ [32, 38, 32]) ++ wideT c.mh c.ml) := ⟨_, rfl⟩
            have SA4 : ∀ wx, (Op.stringOp .add S3 V).run Tryz.prog wx = .ok (.string S4) wx := fun wx => addT wx hS3 hV hS4 (by simp only [List.length_append, List.length_cons, List.length_nil]; omega)
            obtain ⟨S5, hS5⟩ : ∃ S, S = txt (((((((O1 ++ condsP r.conds k) ++ hd) ++ [97, 114, 103, 32]) ++ numT c.arg) ++ [32, 38, 32]) ++ wideT c.mh c.ml) ++ [32]) := ⟨_, rfl⟩
            have SA5 : ∀ wx, (Op.stringOp .add S4 ⟨#[32]⟩).run Tryz.prog wx = .ok (.string S5) wx := fun wx => addT wx hS4 rfl hS5 (by simp only [List.length_append, List.length_cons, List.length_nil]; omega)
            obtain ⟨S6, hS6⟩ : ∃ S, S = txt ((((((((O1 ++ condsP r.conds k) ++ hd) ++ [97, 114, 103, 32]) ++ numT c.arg) ++ [32, 38, 32]) ++ wideT c.mh c.ml) ++ [32]) ++ cmL.getD (c.cm.toNat - 1) []) := ⟨_, rfl⟩
            have SA6 : ∀ wx, (Op.stringOp .add S5 M).run Tryz.prog wx = .ok (.string S6) wx := fun wx => addT wx hS5 hM hS6 (by simp only [List.length_append, List.length_cons, List.length_nil]; omega)
            obtain ⟨S7, hS7⟩ : ∃ S, S = txt (((((((((O1 ++ condsP r.conds k) ++ hd) ++ [97, 114, 103, 32]) ++ numT c.arg) ++ [32, 38, 32]) ++ wideT c.mh c.ml) ++ [32]) ++ cmL.getD (c.cm.toNat - 1) []) ++ [32]) := ⟨_, rfl⟩
            have SA7 : ∀ wx, (Op.stringOp .add S6 ⟨#[32]⟩).run Tryz.prog wx = .ok (.string S7) wx := fun wx => addT wx hS6 rfl hS7 (by simp only [List.length_append, List.length_cons, List.length_nil]; omega)
            have SA8 : ∀ wx, (Op.stringOp .add S7 T).run Tryz.prog wx = .ok (.string Z2) wx := fun wx => addT wx hS7 hT (hZ2.trans (congrArg txt (by rw [condsP, ← hhd, ← hc]; simp [condT]))) (by simp only [List.length_append, List.length_cons, List.length_nil]; omega)
            clear hS1 hS2 hS3 hS4 hS5 hS6 hS7
            have HT2 : Hid (Z2 = txt (O1 ++ condsP r.conds (k + 1))) := hZ2
            have H1 : Hid (∀ W, Calls Tryz.prog 40 #[.int .i64 c.arg] W fun e w' => e = .returned (.string U) ∧ Ext W w') := fun W => by rw [hU]; exact figT ha
            have H2 : Hid (∀ W, Calls Tryz.prog 82 #[.agg #[.int .i64 c.mh, .int .i64 c.ml]] W fun e w' => e = .returned (.string V) ∧ Ext W w') := fun W => by rw [hV]; exact l10Wide_any _ _ W hm
            have H3 : Hid (∀ W, Calls Tryz.prog 82 #[.agg #[.int .i64 c.vh, .int .i64 c.vl]] W fun e w' => e = .returned (.string T) ∧ Ext W w') := fun W => by rw [hT]; exact l10Wide_any _ _ W hv
            have HM : Hid (txt (cmT c.cm.toNat) = M) := by unfold Hid; rw [hM, ← cmT_pos (by omega)]
            clear hc hcm hh ha hm hv l1 l2 l3 l4 l5 l6 l7 hS hhd hP hU hV hM hT hZ2 HS
            obtain ⟨ag, mh, ml, cm, vh, vl⟩ := c
            simp only at g1 g6 H1 H2 H3 HM cz
            obtain ⟨m, rfl⟩ : ∃ m : Nat, cm = (m : Int) := ⟨cm.toNat, by omega⟩
            simp only [Int.toNat_natCast] at HM
            have k7 : (m : Int) < 7 := by omega
            have k0 : (0 : Int) ≤ (m : Int) := by omega
            obtain ⟨p0, p1, p2, p3, p4, p5⟩ := cz.six
            simp only at p0 p1 p2 p3 p4 p5
            clear cz g1 g6
            have B0 : Hid (CellsAt (wr.alloc (.cells #[.int .i64 ag, .int .i64 mh, .int .i64 ml, .int .i64 m, .int .i64 vh, .int .i64 vl] 78)) wr.heap.size [.int .i64 ag, .int .i64 mh, .int .i64 ml, .int .i64 m, .int .i64 vh, .int .i64 vl]) := CellsAt.new wr _ _
            have XB : Hid (Ext W0 (wr.alloc (.cells #[.int .i64 ag, .int .i64 mh, .int .i64 ml, .int .i64 m, .int .i64 vh, .int .i64 vl] 78))) := hE.out.alloc _
            by_cases hk0 : k = 0
            · have A := A0.1 hk0
              have dk : ((k : Int) == 0) = true := by simp; omega
              clear A0 hk0
              go_wp2_with fail
              generalize wr.alloc (.cells #[.int .i64 ag, .int .i64 mh, .int .i64 ml, .int .i64 m, .int .i64 vh, .int .i64 vl] 78) = W3 at *
              clear p0 p1 p2 p3 p4 p5 c1 bk
              generalize wr.heap.size = g at *
              refine' wp_region_loose (.inl _ :: .inl _ :: .inl _ :: .inl _ :: .inl _ :: .inl _ :: .inl _ :: .inl _ :: .inl _ :: .inl _ :: .inl _ :: .inl _ :: .inr CmsAt :: .inl _ :: .inl _ :: .inr (CmAt m M) :: .inl (.string M) :: .inl _ :: .inl _ :: .inl _ :: .inl _ :: .inl _ :: .inl _ :: .inl _ :: []) (fun w' => CellsAt w' g [.int .i64 ag, .int .i64 mh, .int .i64 ml, .int .i64 m, .int .i64 vh, .int .i64 vl]) (by kernel_rfl) (by kernel_rfl) (B0.out) (fun _ _ h hE => h.step hE) ?hAx1 ?hlx1 ?hMx1
              case' hMx1 => skip
              apply wpLoose_val rfl rfl
              case hs =>
                intro w1 hC hd Q1 hQ1
                obtain ⟨hE, hS⟩ := hC
                dsimp only [bare]
                obtain ⟨p0, p1, p2, p3, p4, p5⟩ := (⟨hS.2 0 _ rfl, hS.2 1 _ rfl, hS.2 2 _ rfl, hS.2 3 _ rfl, hS.2 4 _ rfl, hS.2 5 _ rfl⟩ : _ ∧ _ ∧ _ ∧ _ ∧ _ ∧ _)
                clear hd hE
                try clear hS
                go_wp2
                exact Ext.refl _
              case ha => rfl
              apply wpLoose_val rfl rfl
              case hs =>
                intro w1 hC hd Q1 hQ1
                obtain ⟨hE, hS⟩ := hC
                dsimp only [bare]
                obtain ⟨p0, p1, p2, p3, p4, p5⟩ := (⟨hS.2 0 _ rfl, hS.2 1 _ rfl, hS.2 2 _ rfl, hS.2 3 _ rfl, hS.2 4 _ rfl, hS.2 5 _ rfl⟩ : _ ∧ _ ∧ _ ∧ _ ∧ _ ∧ _)
                clear hd hE
                try clear hS
                go_wp2
                exact Ext.refl _
              case ha => rfl
              apply wpLoose_val rfl rfl
              case hs =>
                intro w1 hC hd Q1 hQ1
                obtain ⟨hE, hS⟩ := hC
                dsimp only [bare]
                obtain ⟨p0, p1, p2, p3, p4, p5⟩ := (⟨hS.2 0 _ rfl, hS.2 1 _ rfl, hS.2 2 _ rfl, hS.2 3 _ rfl, hS.2 4 _ rfl, hS.2 5 _ rfl⟩ : _ ∧ _ ∧ _ ∧ _ ∧ _ ∧ _)
                clear hd hE
                try clear hS
                go_wp2
                exact Ext.refl _
              case ha => rfl
              apply wpLoose_val rfl rfl
              case hs =>
                intro w1 hC hd Q1 hQ1
                obtain ⟨hE, hS⟩ := hC
                dsimp only [bare]
                obtain ⟨p0, p1, p2, p3, p4, p5⟩ := (⟨hS.2 0 _ rfl, hS.2 1 _ rfl, hS.2 2 _ rfl, hS.2 3 _ rfl, hS.2 4 _ rfl, hS.2 5 _ rfl⟩ : _ ∧ _ ∧ _ ∧ _ ∧ _ ∧ _)
                clear hd hE
                try clear hS
                go_wp2
                exact Ext.refl _
              case ha => rfl
              apply wpLoose_val rfl rfl
              case hs =>
                intro w1 hC hd Q1 hQ1
                obtain ⟨hE, hS⟩ := hC
                dsimp only [bare]
                clear hd
                go_wp2_with fail
                refine (H1.out _).mono ?_
                rintro e w2 ⟨rfl, hb⟩
                go_wp2_with fail
                exact hb
              case ha => rfl
              apply wpLoose_val rfl rfl
              case hs =>
                intro w1 hC hd Q1 hQ1
                obtain ⟨hE, hS⟩ := hC
                dsimp only [bare]
                obtain ⟨p0, p1, p2, p3, p4, p5⟩ := (⟨hS.2 0 _ rfl, hS.2 1 _ rfl, hS.2 2 _ rfl, hS.2 3 _ rfl, hS.2 4 _ rfl, hS.2 5 _ rfl⟩ : _ ∧ _ ∧ _ ∧ _ ∧ _ ∧ _)
                clear hd hE
                try clear hS
                go_wp2
                exact Ext.refl _
              case ha => rfl
              apply wpLoose_val rfl rfl
              case hs =>
                intro w1 hC hd Q1 hQ1
                obtain ⟨hE, hS⟩ := hC
                dsimp only [bare]
                obtain ⟨p0, p1, p2, p3, p4, p5⟩ := (⟨hS.2 0 _ rfl, hS.2 1 _ rfl, hS.2 2 _ rfl, hS.2 3 _ rfl, hS.2 4 _ rfl, hS.2 5 _ rfl⟩ : _ ∧ _ ∧ _ ∧ _ ∧ _ ∧ _)
                clear hd hE
                try clear hS
                go_wp2
                exact Ext.refl _
              case ha => rfl
              apply wpLoose_val rfl rfl
              case hs =>
                intro w1 hC hd Q1 hQ1
                obtain ⟨hE, hS⟩ := hC
                dsimp only [bare]
                obtain ⟨p0, p1, p2, p3, p4, p5⟩ := (⟨hS.2 0 _ rfl, hS.2 1 _ rfl, hS.2 2 _ rfl, hS.2 3 _ rfl, hS.2 4 _ rfl, hS.2 5 _ rfl⟩ : _ ∧ _ ∧ _ ∧ _ ∧ _ ∧ _)
                clear hd hE
                try clear hS
                go_wp2
                exact Ext.refl _
              case ha => rfl
              apply wpLoose_val rfl rfl
              case hs =>
                intro w1 hC hd Q1 hQ1
                obtain ⟨hE, hS⟩ := hC
                dsimp only [bare]
                obtain ⟨p0, p1, p2, p3, p4, p5⟩ := (⟨hS.2 0 _ rfl, hS.2 1 _ rfl, hS.2 2 _ rfl, hS.2 3 _ rfl, hS.2 4 _ rfl, hS.2 5 _ rfl⟩ : _ ∧ _ ∧ _ ∧ _ ∧ _ ∧ _)
                clear hd hE
                try clear hS
                go_wp2
                exact Ext.refl _
              case ha => rfl
              apply wpLoose_val rfl rfl
              case hs =>
                intro w1 hC hd Q1 hQ1
                obtain ⟨hE, hS⟩ := hC
                dsimp only [bare]
                clear hd
                go_wp2_with fail
                refine (H2.out _).mono ?_
                rintro e w2 ⟨rfl, hb⟩
                go_wp2_with fail
                exact hb
              case ha => rfl
              apply wpLoose_val rfl rfl
              case hs =>
                intro w1 hC hd Q1 hQ1
                obtain ⟨hE, hS⟩ := hC
                dsimp only [bare]
                obtain ⟨p0, p1, p2, p3, p4, p5⟩ := (⟨hS.2 0 _ rfl, hS.2 1 _ rfl, hS.2 2 _ rfl, hS.2 3 _ rfl, hS.2 4 _ rfl, hS.2 5 _ rfl⟩ : _ ∧ _ ∧ _ ∧ _ ∧ _ ∧ _)
                clear hd hE
                try clear hS
                go_wp2
                exact Ext.refl _
              case ha => rfl
              apply wpLoose_val rfl rfl
              case hs =>
                intro w1 hC hd Q1 hQ1
                obtain ⟨hE, hS⟩ := hC
                dsimp only [bare]
                obtain ⟨p0, p1, p2, p3, p4, p5⟩ := (⟨hS.2 0 _ rfl, hS.2 1 _ rfl, hS.2 2 _ rfl, hS.2 3 _ rfl, hS.2 4 _ rfl, hS.2 5 _ rfl⟩ : _ ∧ _ ∧ _ ∧ _ ∧ _ ∧ _)
                clear hd hE
                try clear hS
                go_wp2
                exact Ext.refl _
              case ha => rfl
              refine wpLoose_rel rfl rfl ?_ (fun vx1_12 => ?_)
              · intro w1 hC hd Q1 hQ1
                obtain ⟨hE, hS⟩ := hC
                dsimp only [bare]
                clear hd hS
                go_wp2_with fail
                refine (l10Cms_any _).mono ?_
                rintro e w2 ⟨u2, rfl, r2, x2⟩
                go_wp2_with fail
                exact hQ1 _ _ x2 r2
              apply wpLoose_val rfl rfl
              case hs =>
                intro w1 hC hd Q1 hQ1
                obtain ⟨hE, hS⟩ := hC
                dsimp only [bare]
                obtain ⟨p0, p1, p2, p3, p4, p5⟩ := (⟨hS.2 0 _ rfl, hS.2 1 _ rfl, hS.2 2 _ rfl, hS.2 3 _ rfl, hS.2 4 _ rfl, hS.2 5 _ rfl⟩ : _ ∧ _ ∧ _ ∧ _ ∧ _ ∧ _)
                clear hd hE
                try clear hS
                go_wp2
                exact Ext.refl _
              case ha => rfl
              apply wpLoose_val rfl rfl
              case hs =>
                intro w1 hC hd Q1 hQ1
                obtain ⟨hE, hS⟩ := hC
                dsimp only [bare]
                obtain ⟨p0, p1, p2, p3, p4, p5⟩ := (⟨hS.2 0 _ rfl, hS.2 1 _ rfl, hS.2 2 _ rfl, hS.2 3 _ rfl, hS.2 4 _ rfl, hS.2 5 _ rfl⟩ : _ ∧ _ ∧ _ ∧ _ ∧ _ ∧ _)
                clear hd hE
                try clear hS
                go_wp2
                exact Ext.refl _
              case ha => rfl
              refine wpLoose_rel rfl rfl ?_ (fun vx1_15 => ?_)
              · intro w1 hC hd Q1 hQ1
                obtain ⟨hE, hS⟩ := hC
                dsimp only [bare]
                have h1 : CmsAt vx1_12 w1 := hd ⟨12, .data⟩ (by simp) rfl _ rfl (by simp)
                obtain ⟨g', rfl, hg', hc'⟩ := h1
                have hcc := hc' m (by omega)
                rw [HM.out] at hcc
                clear hd hS hc'
                have HCC : Hid (CmAt m M (.pointer (some ⟨g', m, none⟩)) w1) := ⟨g', rfl, hg', hcc⟩
                clear hcc hg'
                go_wp2_with fail
                exact hQ1 _ _ (Ext.refl _) HCC.out
              apply wpLoose_val rfl rfl
              case ha => rfl
              case hs =>
                intro w1 hC hd Q1 hQ1
                obtain ⟨hE, hS⟩ := hC
                dsimp only [bare]
                have h1 : CmAt m M vx1_15 w1 := hd ⟨15, .data⟩ (by simp) rfl _ rfl (by simp [Act.put])
                obtain ⟨g', rfl, hg', hcc⟩ := h1
                clear hd hS hE hg'
                go_wp2
                first | exact Ext.refl _ | exact hQ1 _ (Ext.refl _)
              apply wpLoose_val rfl rfl
              case hs =>
                intro w1 hC hd Q1 hQ1
                obtain ⟨hE, hS⟩ := hC
                dsimp only [bare]
                obtain ⟨p0, p1, p2, p3, p4, p5⟩ := (⟨hS.2 0 _ rfl, hS.2 1 _ rfl, hS.2 2 _ rfl, hS.2 3 _ rfl, hS.2 4 _ rfl, hS.2 5 _ rfl⟩ : _ ∧ _ ∧ _ ∧ _ ∧ _ ∧ _)
                clear hd hE
                try clear hS
                go_wp2
                exact Ext.refl _
              case ha => rfl
              apply wpLoose_val rfl rfl
              case hs =>
                intro w1 hC hd Q1 hQ1
                obtain ⟨hE, hS⟩ := hC
                dsimp only [bare]
                obtain ⟨p0, p1, p2, p3, p4, p5⟩ := (⟨hS.2 0 _ rfl, hS.2 1 _ rfl, hS.2 2 _ rfl, hS.2 3 _ rfl, hS.2 4 _ rfl, hS.2 5 _ rfl⟩ : _ ∧ _ ∧ _ ∧ _ ∧ _ ∧ _)
                clear hd hE
                try clear hS
                go_wp2
                exact Ext.refl _
              case ha => rfl
              apply wpLoose_val rfl rfl
              case hs =>
                intro w1 hC hd Q1 hQ1
                obtain ⟨hE, hS⟩ := hC
                dsimp only [bare]
                obtain ⟨p0, p1, p2, p3, p4, p5⟩ := (⟨hS.2 0 _ rfl, hS.2 1 _ rfl, hS.2 2 _ rfl, hS.2 3 _ rfl, hS.2 4 _ rfl, hS.2 5 _ rfl⟩ : _ ∧ _ ∧ _ ∧ _ ∧ _ ∧ _)
                clear hd hE
                try clear hS
                go_wp2
                exact Ext.refl _
              case ha => rfl
              apply wpLoose_val rfl rfl
              case hs =>
                intro w1 hC hd Q1 hQ1
                obtain ⟨hE, hS⟩ := hC
                dsimp only [bare]
                obtain ⟨p0, p1, p2, p3, p4, p5⟩ := (⟨hS.2 0 _ rfl, hS.2 1 _ rfl, hS.2 2 _ rfl, hS.2 3 _ rfl, hS.2 4 _ rfl, hS.2 5 _ rfl⟩ : _ ∧ _ ∧ _ ∧ _ ∧ _ ∧ _)
                clear hd hE
                try clear hS
                go_wp2
                exact Ext.refl _
              case ha => rfl
              apply wpLoose_val rfl rfl
              case hs =>
                intro w1 hC hd Q1 hQ1
                obtain ⟨hE, hS⟩ := hC
                dsimp only [bare]
                clear hd
                go_wp2_with fail
                refine (H3.out _).mono ?_
                rintro e w2 ⟨rfl, hb⟩
                go_wp2_with fail
                exact hb
              case ha => rfl
              apply wpLoose_val rfl rfl
              case hs =>
                intro w1 hC hd Q1 hQ1
                obtain ⟨hE, hS⟩ := hC
                dsimp only [bare]
                obtain ⟨p0, p1, p2, p3, p4, p5⟩ := (⟨hS.2 0 _ rfl, hS.2 1 _ rfl, hS.2 2 _ rfl, hS.2 3 _ rfl, hS.2 4 _ rfl, hS.2 5 _ rfl⟩ : _ ∧ _ ∧ _ ∧ _ ∧ _ ∧ _)
                clear hd hE
                try clear hS
                go_wp2
                exact Ext.refl _
              case ha => rfl
              apply wpLoose_val rfl rfl
              case hs =>
                intro w1 hC hd Q1 hQ1
                obtain ⟨hE, hS⟩ := hC
                dsimp only [bare]
                obtain ⟨p0, p1, p2, p3, p4, p5⟩ := (⟨hS.2 0 _ rfl, hS.2 1 _ rfl, hS.2 2 _ rfl, hS.2 3 _ rfl, hS.2 4 _ rfl, hS.2 5 _ rfl⟩ : _ ∧ _ ∧ _ ∧ _ ∧ _ ∧ _)
                clear hd hE
                try clear hS
                go_wp2
                exact Ext.refl _
              case ha => rfl
              refine wpLoose_nil ?_
              intro wx1 hEx1 hSx1 hFx1
              · have XE : Hid (Ext W0 wx1) := XB.out.drew.trans hEx1
                clear hEx1 hSx1 hFx1 H1 H2 H3 XB
                go_wp2
                go_roundw
                case rel => exact ⟨k + 1, Z2, by go_num, rfl, by omega, HT2, XE⟩
                case measure => simp [intOf]; omega
              case hAx1 => kernel_rfl
              case hlx1 => exact ⟨trivial, trivial, trivial, trivial, trivial, trivial, trivial, trivial, trivial, trivial, trivial, trivial, fun _ _ _ h hE => h.step hE, trivial, trivial, fun _ _ _ h hE => h.step hE, trivial, trivial, trivial, trivial, trivial, trivial, trivial, trivial, trivial⟩
            · have A := A0.2 hk0
              have dk : ((k : Int) == 0) = false := by simp; omega
              clear A0 hk0
              go_wp2_with fail
              generalize wr.alloc (.cells #[.int .i64 ag, .int .i64 mh, .int .i64 ml, .int .i64 m, .int .i64 vh, .int .i64 vl] 78) = W3 at *
              clear p0 p1 p2 p3 p4 p5 c1 bk
              generalize wr.heap.size = g at *
              refine' wp_region_loose (.inl _ :: .inl _ :: .inl _ :: .inl _ :: .inl _ :: .inl _ :: .inl _ :: .inl _ :: .inl _ :: .inl _ :: .inl _ :: .inl _ :: .inr CmsAt :: .inl _ :: .inl _ :: .inr (CmAt m M) :: .inl (.string M) :: .inl _ :: .inl _ :: .inl _ :: .inl _ :: .inl _ :: .inl _ :: .inl _ :: []) (fun w' => CellsAt w' g [.int .i64 ag, .int .i64 mh, .int .i64 ml, .int .i64 m, .int .i64 vh, .int .i64 vl]) (by kernel_rfl) (by kernel_rfl) (B0.out) (fun _ _ h hE => h.step hE) ?hAy1 ?hly1 ?hMy1
              case' hMy1 => skip
              apply wpLoose_val rfl rfl
              case hs =>
                intro w1 hC hd Q1 hQ1
                obtain ⟨hE, hS⟩ := hC
                dsimp only [bare]
                obtain ⟨p0, p1, p2, p3, p4, p5⟩ := (⟨hS.2 0 _ rfl, hS.2 1 _ rfl, hS.2 2 _ rfl, hS.2 3 _ rfl, hS.2 4 _ rfl, hS.2 5 _ rfl⟩ : _ ∧ _ ∧ _ ∧ _ ∧ _ ∧ _)
                clear hd hE
                try clear hS
                go_wp2
                exact Ext.refl _
              case ha => rfl
              apply wpLoose_val rfl rfl
              case hs =>
                intro w1 hC hd Q1 hQ1
                obtain ⟨hE, hS⟩ := hC
                dsimp only [bare]
                obtain ⟨p0, p1, p2, p3, p4, p5⟩ := (⟨hS.2 0 _ rfl, hS.2 1 _ rfl, hS.2 2 _ rfl, hS.2 3 _ rfl, hS.2 4 _ rfl, hS.2 5 _ rfl⟩ : _ ∧ _ ∧ _ ∧ _ ∧ _ ∧ _)
                clear hd hE
                try clear hS
                go_wp2
                exact Ext.refl _
              case ha => rfl
              apply wpLoose_val rfl rfl
              case hs =>
                intro w1 hC hd Q1 hQ1
                obtain ⟨hE, hS⟩ := hC
                dsimp only [bare]
                obtain ⟨p0, p1, p2, p3, p4, p5⟩ := (⟨hS.2 0 _ rfl, hS.2 1 _ rfl, hS.2 2 _ rfl, hS.2 3 _ rfl, hS.2 4 _ rfl, hS.2 5 _ rfl⟩ : _ ∧ _ ∧ _ ∧ _ ∧ _ ∧ _)
                clear hd hE
                try clear hS
                go_wp2
                exact Ext.refl _
              case ha => rfl
              apply wpLoose_val rfl rfl
              case hs =>
                intro w1 hC hd Q1 hQ1
                obtain ⟨hE, hS⟩ := hC
                dsimp only [bare]
                obtain ⟨p0, p1, p2, p3, p4, p5⟩ := (⟨hS.2 0 _ rfl, hS.2 1 _ rfl, hS.2 2 _ rfl, hS.2 3 _ rfl, hS.2 4 _ rfl, hS.2 5 _ rfl⟩ : _ ∧ _ ∧ _ ∧ _ ∧ _ ∧ _)
                clear hd hE
                try clear hS
                go_wp2
                exact Ext.refl _
              case ha => rfl
              apply wpLoose_val rfl rfl
              case hs =>
                intro w1 hC hd Q1 hQ1
                obtain ⟨hE, hS⟩ := hC
                dsimp only [bare]
                clear hd
                go_wp2_with fail
                refine (H1.out _).mono ?_
                rintro e w2 ⟨rfl, hb⟩
                go_wp2_with fail
                exact hb
              case ha => rfl
              apply wpLoose_val rfl rfl
              case hs =>
                intro w1 hC hd Q1 hQ1
                obtain ⟨hE, hS⟩ := hC
                dsimp only [bare]
                obtain ⟨p0, p1, p2, p3, p4, p5⟩ := (⟨hS.2 0 _ rfl, hS.2 1 _ rfl, hS.2 2 _ rfl, hS.2 3 _ rfl, hS.2 4 _ rfl, hS.2 5 _ rfl⟩ : _ ∧ _ ∧ _ ∧ _ ∧ _ ∧ _)
                clear hd hE
                try clear hS
                go_wp2
                exact Ext.refl _
              case ha => rfl
              apply wpLoose_val rfl rfl
              case hs =>
                intro w1 hC hd Q1 hQ1
                obtain ⟨hE, hS⟩ := hC
                dsimp only [bare]
                obtain ⟨p0, p1, p2, p3, p4, p5⟩ := (⟨hS.2 0 _ rfl, hS.2 1 _ rfl, hS.2 2 _ rfl, hS.2 3 _ rfl, hS.2 4 _ rfl, hS.2 5 _ rfl⟩ : _ ∧ _ ∧ _ ∧ _ ∧ _ ∧ _)
                clear hd hE
                try clear hS
                go_wp2
                exact Ext.refl _
              case ha => rfl
              apply wpLoose_val rfl rfl
              case hs =>
                intro w1 hC hd Q1 hQ1
                obtain ⟨hE, hS⟩ := hC
                dsimp only [bare]
                obtain ⟨p0, p1, p2, p3, p4, p5⟩ := (⟨hS.2 0 _ rfl, hS.2 1 _ rfl, hS.2 2 _ rfl, hS.2 3 _ rfl, hS.2 4 _ rfl, hS.2 5 _ rfl⟩ : _ ∧ _ ∧ _ ∧ _ ∧ _ ∧ _)
                clear hd hE
                try clear hS
                go_wp2
                exact Ext.refl _
              case ha => rfl
              apply wpLoose_val rfl rfl
              case hs =>
                intro w1 hC hd Q1 hQ1
                obtain ⟨hE, hS⟩ := hC
                dsimp only [bare]
                obtain ⟨p0, p1, p2, p3, p4, p5⟩ := (⟨hS.2 0 _ rfl, hS.2 1 _ rfl, hS.2 2 _ rfl, hS.2 3 _ rfl, hS.2 4 _ rfl, hS.2 5 _ rfl⟩ : _ ∧ _ ∧ _ ∧ _ ∧ _ ∧ _)
                clear hd hE
                try clear hS
                go_wp2
                exact Ext.refl _
              case ha => rfl
              apply wpLoose_val rfl rfl
              case hs =>
                intro w1 hC hd Q1 hQ1
                obtain ⟨hE, hS⟩ := hC
                dsimp only [bare]
                clear hd
                go_wp2_with fail
                refine (H2.out _).mono ?_
                rintro e w2 ⟨rfl, hb⟩
                go_wp2_with fail
                exact hb
              case ha => rfl
              apply wpLoose_val rfl rfl
              case hs =>
                intro w1 hC hd Q1 hQ1
                obtain ⟨hE, hS⟩ := hC
                dsimp only [bare]
                obtain ⟨p0, p1, p2, p3, p4, p5⟩ := (⟨hS.2 0 _ rfl, hS.2 1 _ rfl, hS.2 2 _ rfl, hS.2 3 _ rfl, hS.2 4 _ rfl, hS.2 5 _ rfl⟩ : _ ∧ _ ∧ _ ∧ _ ∧ _ ∧ _)
                clear hd hE
                try clear hS
                go_wp2
                exact Ext.refl _
              case ha => rfl
              apply wpLoose_val rfl rfl
              case hs =>
                intro w1 hC hd Q1 hQ1
                obtain ⟨hE, hS⟩ := hC
                dsimp only [bare]
                obtain ⟨p0, p1, p2, p3, p4, p5⟩ := (⟨hS.2 0 _ rfl, hS.2 1 _ rfl, hS.2 2 _ rfl, hS.2 3 _ rfl, hS.2 4 _ rfl, hS.2 5 _ rfl⟩ : _ ∧ _ ∧ _ ∧ _ ∧ _ ∧ _)
                clear hd hE
                try clear hS
                go_wp2
                exact Ext.refl _
              case ha => rfl
              refine wpLoose_rel rfl rfl ?_ (fun vy1_12 => ?_)
              · intro w1 hC hd Q1 hQ1
                obtain ⟨hE, hS⟩ := hC
                dsimp only [bare]
                clear hd hS
                go_wp2_with fail
                refine (l10Cms_any _).mono ?_
                rintro e w2 ⟨u2, rfl, r2, x2⟩
                go_wp2_with fail
                exact hQ1 _ _ x2 r2
              apply wpLoose_val rfl rfl
              case hs =>
                intro w1 hC hd Q1 hQ1
                obtain ⟨hE, hS⟩ := hC
                dsimp only [bare]
                obtain ⟨p0, p1, p2, p3, p4, p5⟩ := (⟨hS.2 0 _ rfl, hS.2 1 _ rfl, hS.2 2 _ rfl, hS.2 3 _ rfl, hS.2 4 _ rfl, hS.2 5 _ rfl⟩ : _ ∧ _ ∧ _ ∧ _ ∧ _ ∧ _)
                clear hd hE
                try clear hS
                go_wp2
                exact Ext.refl _
              case ha => rfl
              apply wpLoose_val rfl rfl
              case hs =>
                intro w1 hC hd Q1 hQ1
                obtain ⟨hE, hS⟩ := hC
                dsimp only [bare]
                obtain ⟨p0, p1, p2, p3, p4, p5⟩ := (⟨hS.2 0 _ rfl, hS.2 1 _ rfl, hS.2 2 _ rfl, hS.2 3 _ rfl, hS.2 4 _ rfl, hS.2 5 _ rfl⟩ : _ ∧ _ ∧ _ ∧ _ ∧ _ ∧ _)
                clear hd hE
                try clear hS
                go_wp2
                exact Ext.refl _
              case ha => rfl
              refine wpLoose_rel rfl rfl ?_ (fun vy1_15 => ?_)
              · intro w1 hC hd Q1 hQ1
                obtain ⟨hE, hS⟩ := hC
                dsimp only [bare]
                have h1 : CmsAt vy1_12 w1 := hd ⟨12, .data⟩ (by simp) rfl _ rfl (by simp)
                obtain ⟨g', rfl, hg', hc'⟩ := h1
                have hcc := hc' m (by omega)
                rw [HM.out] at hcc
                clear hd hS hc'
                have HCC : Hid (CmAt m M (.pointer (some ⟨g', m, none⟩)) w1) := ⟨g', rfl, hg', hcc⟩
                clear hcc hg'
                go_wp2_with fail
                exact hQ1 _ _ (Ext.refl _) HCC.out
              apply wpLoose_val rfl rfl
              case ha => rfl
              case hs =>
                intro w1 hC hd Q1 hQ1
                obtain ⟨hE, hS⟩ := hC
                dsimp only [bare]
                have h1 : CmAt m M vy1_15 w1 := hd ⟨15, .data⟩ (by simp) rfl _ rfl (by simp [Act.put])
                obtain ⟨g', rfl, hg', hcc⟩ := h1
                clear hd hS hE hg'
                go_wp2
                first | exact Ext.refl _ | exact hQ1 _ (Ext.refl _)
              apply wpLoose_val rfl rfl
              case hs =>
                intro w1 hC hd Q1 hQ1
                obtain ⟨hE, hS⟩ := hC
                dsimp only [bare]
                obtain ⟨p0, p1, p2, p3, p4, p5⟩ := (⟨hS.2 0 _ rfl, hS.2 1 _ rfl, hS.2 2 _ rfl, hS.2 3 _ rfl, hS.2 4 _ rfl, hS.2 5 _ rfl⟩ : _ ∧ _ ∧ _ ∧ _ ∧ _ ∧ _)
                clear hd hE
                try clear hS
                go_wp2
                exact Ext.refl _
              case ha => rfl
              apply wpLoose_val rfl rfl
              case hs =>
                intro w1 hC hd Q1 hQ1
                obtain ⟨hE, hS⟩ := hC
                dsimp only [bare]
                obtain ⟨p0, p1, p2, p3, p4, p5⟩ := (⟨hS.2 0 _ rfl, hS.2 1 _ rfl, hS.2 2 _ rfl, hS.2 3 _ rfl, hS.2 4 _ rfl, hS.2 5 _ rfl⟩ : _ ∧ _ ∧ _ ∧ _ ∧ _ ∧ _)
                clear hd hE
                try clear hS
                go_wp2
                exact Ext.refl _
              case ha => rfl
              apply wpLoose_val rfl rfl
              case hs =>
                intro w1 hC hd Q1 hQ1
                obtain ⟨hE, hS⟩ := hC
                dsimp only [bare]
                obtain ⟨p0, p1, p2, p3, p4, p5⟩ := (⟨hS.2 0 _ rfl, hS.2 1 _ rfl, hS.2 2 _ rfl, hS.2 3 _ rfl, hS.2 4 _ rfl, hS.2 5 _ rfl⟩ : _ ∧ _ ∧ _ ∧ _ ∧ _ ∧ _)
                clear hd hE
                try clear hS
                go_wp2
                exact Ext.refl _
              case ha => rfl
              apply wpLoose_val rfl rfl
              case hs =>
                intro w1 hC hd Q1 hQ1
                obtain ⟨hE, hS⟩ := hC
                dsimp only [bare]
                obtain ⟨p0, p1, p2, p3, p4, p5⟩ := (⟨hS.2 0 _ rfl, hS.2 1 _ rfl, hS.2 2 _ rfl, hS.2 3 _ rfl, hS.2 4 _ rfl, hS.2 5 _ rfl⟩ : _ ∧ _ ∧ _ ∧ _ ∧ _ ∧ _)
                clear hd hE
                try clear hS
                go_wp2
                exact Ext.refl _
              case ha => rfl
              apply wpLoose_val rfl rfl
              case hs =>
                intro w1 hC hd Q1 hQ1
                obtain ⟨hE, hS⟩ := hC
                dsimp only [bare]
                clear hd
                go_wp2_with fail
                refine (H3.out _).mono ?_
                rintro e w2 ⟨rfl, hb⟩
                go_wp2_with fail
                exact hb
              case ha => rfl
              apply wpLoose_val rfl rfl
              case hs =>
                intro w1 hC hd Q1 hQ1
                obtain ⟨hE, hS⟩ := hC
                dsimp only [bare]
                obtain ⟨p0, p1, p2, p3, p4, p5⟩ := (⟨hS.2 0 _ rfl, hS.2 1 _ rfl, hS.2 2 _ rfl, hS.2 3 _ rfl, hS.2 4 _ rfl, hS.2 5 _ rfl⟩ : _ ∧ _ ∧ _ ∧ _ ∧ _ ∧ _)
                clear hd hE
                try clear hS
                go_wp2
                exact Ext.refl _
              case ha => rfl
              apply wpLoose_val rfl rfl
              case hs =>
                intro w1 hC hd Q1 hQ1
                obtain ⟨hE, hS⟩ := hC
                dsimp only [bare]
                obtain ⟨p0, p1, p2, p3, p4, p5⟩ := (⟨hS.2 0 _ rfl, hS.2 1 _ rfl, hS.2 2 _ rfl, hS.2 3 _ rfl, hS.2 4 _ rfl, hS.2 5 _ rfl⟩ : _ ∧ _ ∧ _ ∧ _ ∧ _ ∧ _)
                clear hd hE
                try clear hS
                go_wp2
                exact Ext.refl _
              case ha => rfl
              refine wpLoose_nil ?_
              intro wy1 hEy1 hSy1 hFy1
              · have XE : Hid (Ext W0 wy1) := XB.out.drew.trans hEy1
                clear hEy1 hSy1 hFy1 H1 H2 H3 XB
                go_wp2
                go_roundw
                case rel => exact ⟨k + 1, Z2, by go_num, rfl, by omega, HT2, XE⟩
                case measure => simp [intOf]; omega
              case hAy1 => kernel_rfl
              case hly1 => exact ⟨trivial, trivial, trivial, trivial, trivial, trivial, trivial, trivial, trivial, trivial, trivial, trivial, fun _ _ _ h hE => h.step hE, trivial, trivial, fun _ _ _ h hE => h.step hE, trivial, trivial, trivial, trivial, trivial, trivial, trivial, trivial, trivial⟩
          · obtain rfl : k = n2 := by omega
            have bk : ¬ ((k : Int) < (k : Int)) := by omega
            have c2 := (C0.out.step hE.out).2 2 _ rfl
            have c3 := (C0.out.step hE.out).2 3 _ rfl
            have l5 := condsP_len HL.out.2.2.2 k (by have := HL.out.2.1; omega)
            have l6 := HO1.out
            have l8 := outT_len HL2.out.1
            have hS : S = txt (O1 ++ condsP r.conds k) := HS.out
            obtain ⟨V, hV⟩ : ∃ V, V = txt (outT r.act r.data) := ⟨_, rfl⟩
            have hZ : Z = txt (ruleT r) := HZ.out
            obtain ⟨E1, hE1⟩ : ∃ S, S = txt ((O1 ++ condsP r.conds k) ++ [32, 100, 111, 32]) := ⟨_, rfl⟩
            have EA1 : ∀ wx, (Op.stringOp .add S ⟨#[32, 100, 111, 32]⟩).run Tryz.prog wx = .ok (.string E1) wx := fun wx => addT wx hS rfl hE1 (by simp only [List.length_append, List.length_cons, List.length_nil]; omega)
            obtain ⟨E2, hE2⟩ : ∃ S, S = txt (((O1 ++ condsP r.conds k) ++ [32, 100, 111, 32]) ++ outT r.act r.data) := ⟨_, rfl⟩
            have EA2 : ∀ wx, (Op.stringOp .add E1 V).run Tryz.prog wx = .ok (.string E2) wx := fun wx => addT wx hE1 hV hE2 (by simp only [List.length_append, List.length_cons, List.length_nil]; omega)
            have EA3 : ∀ wx, (Op.stringOp .add E2 ⟨#[32, 59]⟩).run Tryz.prog wx = .ok (.string Z) wx := fun wx => addT wx hE2 rfl (hZ.trans (congrArg txt (by rw [HL2.out.2, show k = r.conds.length from HL.out.2.1, condsP_all]; simp [ruleT]))) (by simp only [List.length_append, List.length_cons, List.length_nil]; omega)
            clear hE1 hE2
            have H3 : Hid (∀ W, Calls Tryz.prog 41 #[.int .i64 r.act, .int .i64 r.data] W fun e w' => e = .returned (.string V) ∧ Ext W w') := fun W => by rw [hV]; exact l10Act_any _ _ W HL2.out.1
            clear hS hV hZ l5 l6 l8 HS
            go_wp2_with fail
            refine (H3.out _).mono ?_
            rintro e w2 ⟨rfl, x2⟩
            have X3 : Hid (Ext w w2) := (X.out.trans hE.out).trans x2
            clear x2 H3 c1 c2 c3
            go_wp2
            go_ret
            exact ⟨rfl, X3.out⟩
  · obtain ⟨O0, hO0⟩ : ∃ O0 : List UInt8, O0 = [111, 110, 32] := ⟨_, rfl⟩
    have HO0 : Hid (⟨#[111, 110, 32]⟩ = txt O0 ∧ O0.length ≤ 6) := ⟨by rw [hO0]; rfl, by rw [hO0]; simp⟩
    have HO01 : Hid (O1 = O0 ++ numsP r.nums n1) := by
      unfold Hid
      rw [hO1, hO0, e1, numsP_all (by omega)]
    have dn : ((n1 : Int) == 0) = false := by simp; omega
    clear hr e1 e2 h1 h2 ho hn hc l1 l2 hZ hO1 hO0 h0
    go_enter Tryz.func42, Tryz.ntmps42
    go_wp2_with fail
    generalize hW0 : w.alloc (.cells #[.slice a1 n1 d1, .slice a2 n2 d2, .int .i64 r.act, .int .i64 r.data] 53) = W0 at *
    clear dn hW0
    go_loopw [3, 4] (fun v i wr => ∃ (k : Nat) (S : ByteArray), i = .int .i64 k ∧ v = .string S ∧ k ≤ n1 ∧ Hid (S = txt (O0 ++ numsP r.nums k)) ∧ Hid (Ext W0 wr)) (fun _ i _ => n1 - (intOf i).toNat)
    case atStart => exact ⟨0, _, rfl, rfl, by omega, by unfold Hid; rw [HO0.out.1]; simp [numsP], Ext.refl _⟩
    case round =>
      obtain ⟨k, S, rfl, rfl, hk, HS, hE⟩ := hrel
      have p0 := (C0.out.step hE.out).2 0 _ rfl
      by_cases hlt : k < n1
      · have bk : (k : Int) < (n1 : Int) := by omega
        obtain ⟨b, off, rfl, hb, cz⟩ := (HA.out wr (X.out.trans hE.out)).1.at (k := k) (by have := HL.out.1; omega)
        obtain ⟨z2, hz2⟩ : ∃ z, z = r.nums.getD k 0 := ⟨_, rfl⟩
        have hzm : z2 ∈ r.nums := by have := HL.out.1; rw [hz2, List.getD_eq_getElem?_getD, List.getElem?_eq_getElem (by omega)]; exact List.getElem_mem (by omega)
        rw [← hz2] at cz
        have hh := HL.out.2.2.1 z2 hzm
        have lz := numT_len hh
        have ls := numsP_len HL.out.2.2.1 k (by have := HL.out.1; omega)
        have lo := HO0.out.2
        have hS : S = txt (O0 ++ numsP r.nums k) := HS.out
        obtain ⟨V, hV⟩ : ∃ V, V = txt (numT z2) := ⟨_, rfl⟩
        obtain ⟨T, hT⟩ : ∃ T, T = txt (O0 ++ numsP r.nums (k + 1)) := ⟨_, rfl⟩
        have HT : Hid (T = txt (O0 ++ numsP r.nums (k + 1))) := hT
        have H2 : Hid (∀ W, Calls Tryz.prog 40 #[.int .i64 z2] W fun e w' => e = .returned (.string V) ∧ Ext W w') := fun W => by rw [hV]; exact figT hh
        by_cases hk0 : k = 0
        · have A2 : ∀ wx, (Op.stringOp .add S V).run Tryz.prog wx = .ok (.string T) wx := fun wx => addT wx hS hV (hT.trans (congrArg txt (by rw [numsP, if_pos hk0, ← hz2]; simp))) (by simp only [List.length_append]; omega)
          have dk : ¬ (0 : Int) < (k : Int) := by omega
          clear hz2 hzm hh lz ls lo hS hV hT HS hk0
          go_wp2_with fail
          refine (H2.out _).mono ?_
          rintro e w2 ⟨rfl, x2⟩
          have X2 : Hid (Ext W0 w2) := hE.out.trans x2
          clear x2 H2 cz p0
          go_wp2
          go_roundw
          case rel => exact ⟨k + 1, T, by go_num, rfl, by omega, HT, X2⟩
          case measure => simp [intOf]; omega
        · obtain ⟨Y, hY⟩ : ∃ Y, Y = txt ((O0 ++ numsP r.nums k) ++ [32, 44, 32]) := ⟨_, rfl⟩
          have A1 : ∀ wx, (Op.stringOp .add S ⟨#[32, 44, 32]⟩).run Tryz.prog wx = .ok (.string Y) wx := fun wx => addT wx hS rfl hY (by simp only [List.length_append, List.length_cons, List.length_nil]; omega)
          have A2 : ∀ wx, (Op.stringOp .add Y V).run Tryz.prog wx = .ok (.string T) wx := fun wx => addT wx hY hV (hT.trans (congrArg txt (by rw [numsP, if_neg hk0, ← hz2]; simp))) (by simp only [List.length_append, List.length_cons, List.length_nil]; omega)
          have dk : (0 : Int) < (k : Int) := by omega
          clear hz2 hzm hh lz ls lo hS hV hT HS hk0 hY
          go_wp2_with fail
          refine (H2.out _).mono ?_
          rintro e w2 ⟨rfl, x2⟩
          have X2 : Hid (Ext W0 w2) := hE.out.trans x2
          clear x2 H2 cz p0
          go_wp2
          go_roundw
          case rel => exact ⟨k + 1, T, by go_num, rfl, by omega, HT, X2⟩
          case measure => simp [intOf]; omega
      · obtain rfl : k = n1 := by omega
        have bk : ¬ ((k : Int) < (k : Int)) := by omega
        have H01 : Hid (S = txt O1) := by unfold Hid; rw [HO01.out]; exact HS.out
        have XO : Hid (Ext W0 wr) := hE
        clear HS
        go_wp2_with fail
        clear p0 bk hE
        go_loopw [3, 5] (fun v i wr => ∃ (k : Nat) (S : ByteArray), i = .int .i64 k ∧ v = .string S ∧ k ≤ n2 ∧ Hid (S = txt (O1 ++ condsP r.conds k)) ∧ Hid (Ext W0 wr)) (fun _ i _ => n2 - (intOf i).toNat)
        case atStart => exact ⟨0, _, rfl, rfl, by omega, by unfold Hid; rw [H01.out]; simp [condsP], XO.out⟩
        case round =>
          obtain ⟨k, S, rfl, rfl, hk, HS, hE⟩ := hrel
          have c1 := (C0.out.step hE.out).2 1 _ rfl
          by_cases hlt : k < n2
          · have bk : (k : Int) < (n2 : Int) := by omega
            obtain ⟨c, hc⟩ : ∃ c, c = r.conds.getD k c0 := ⟨_, rfl⟩
            obtain ⟨b, off, rfl, hb, cz⟩ := (HA.out wr (X.out.trans hE.out)).2.at (k := k) (by have := HL.out.2.1; omega) hc
            have hcm : c ∈ r.conds := by have := HL.out.2.1; rw [hc, List.getD_eq_getElem?_getD, List.getElem?_eq_getElem (by omega)]; exact List.getElem_mem (by omega)
            have hh := HL.out.2.2.2 c hcm
            obtain ⟨ha, g1, g6, hm, hv⟩ := condB_pieces hh
            have l1 := numT_len ha
            have l2 := wideT_len hm
            have l3 := wideT_len hv
            have l4 := cmL_len (c.cm.toNat - 1)
            have l5 := condsP_len HL.out.2.2.2 k (by have := HL.out.2.1; omega)
            have l6 := HO1.out
            obtain ⟨hd, hhd⟩ : ∃ hd : List UInt8, hd = (if k = 0 then [32, 105, 102, 32] else [32, 97, 110, 100, 32]) := ⟨_, rfl⟩
            have l7 : hd.length ≤ 5 := by rw [hhd]; split <;> simp
            have hS : S = txt (O1 ++ condsP r.conds k) := HS.out
            obtain ⟨P, hP⟩ : ∃ P, P = txt ((O1 ++ condsP r.conds k) ++ hd) := ⟨_, rfl⟩
            have A0 : (k = 0 → ∀ wx, (Op.stringOp .add S ⟨#[32, 105, 102, 32]⟩).run Tryz.prog wx = .ok (.string P) wx) ∧ (¬ k = 0 → ∀ wx, (Op.stringOp .add S ⟨#[32, 97, 110, 100, 32]⟩).run Tryz.prog wx = .ok (.string P) wx) :=
              ⟨fun h wx => addT wx hS (by rw [hhd, if_pos h]; rfl) hP (by simp only [List.length_append]; omega), fun h wx => addT wx hS (by rw [hhd, if_neg h]; rfl) hP (by simp only [List.length_append]; omega)⟩
            obtain ⟨U, hU⟩ : ∃ U, U = txt (numT c.arg) := ⟨_, rfl⟩
            obtain ⟨V, hV⟩ : ∃ V, V = txt (wideT c.mh c.ml) := ⟨_, rfl⟩
            obtain ⟨M, hM⟩ : ∃ M, M = txt (cmL.getD (c.cm.toNat - 1) []) := ⟨_, rfl⟩
            obtain ⟨T, hT⟩ : ∃ T, T = txt (wideT c.vh c.vl) := ⟨_, rfl⟩
            obtain ⟨Z2, hZ2⟩ : ∃ Z2, Z2 = txt (O1 ++ condsP r.conds (k + 1)) := ⟨_, rfl⟩
            obtain ⟨S1, hS1⟩ : ∃ S, S = txt (((O1 ++ condsP r.conds k) ++ hd) ++ [97, 114, 103, 32]) := ⟨_, rfl⟩
            have SA1 : ∀ wx, (Op.stringOp .add P ⟨#[97, 114, 103, 32]⟩).run Tryz.prog wx = .ok (.string S1) wx := fun wx => addT wx hP rfl hS1 (by simp only [List.length_append, List.length_cons, List.length_nil]; omega)
            obtain ⟨S2, hS2⟩ : ∃ S, S = txt ((((O1 ++ condsP r.conds k) ++ hd) ++ [97, 114, 103, 32]) ++ numT c.arg) := ⟨_, rfl⟩
            have SA2 : ∀ wx, (Op.stringOp .add S1 U).run Tryz.prog wx = .ok (.string S2) wx := fun wx => addT wx hS1 hU hS2 (by simp only [List.length_append, List.length_cons, List.length_nil]; omega)
            obtain ⟨S3, hS3⟩ : ∃ S, S = txt (((((O1 ++ condsP r.conds k) ++ hd) ++ [97, 114, 103, 32]) ++ numT c.arg) ++ [32, 38, 32]) := ⟨_, rfl⟩
            have SA3 : ∀ wx, (Op.stringOp .add S2 ⟨#[32, 38, 32]⟩).run Tryz.prog wx = .ok (.string S3) wx := fun wx => addT wx hS2 rfl hS3 (by simp only [List.length_append, List.length_cons, List.length_nil]; omega)
            obtain ⟨S4, hS4⟩ : ∃ S, S = txt ((((((O1 ++ condsP r.conds k) ++ hd) ++ [97, 114, 103, 32]) ++ numT c.arg) ++ [32, 38, 32]) ++ wideT c.mh c.ml) := ⟨_, rfl⟩
            have SA4 : ∀ wx, (Op.stringOp .add S3 V).run Tryz.prog wx = .ok (.string S4) wx := fun wx => addT wx hS3 hV hS4 (by simp only [List.length_append, List.length_cons, List.length_nil]; omega)
            obtain ⟨S5, hS5⟩ : ∃ S, S = txt (((((((O1 ++ condsP r.conds k) ++ hd) ++ [97, 114, 103, 32]) ++ numT c.arg) ++ [32, 38, 32]) ++ wideT c.mh c.ml) ++ [32]) := ⟨_, rfl⟩
            have SA5 : ∀ wx, (Op.stringOp .add S4 ⟨#[32]⟩).run Tryz.prog wx = .ok (.string S5) wx := fun wx => addT wx hS4 rfl hS5 (by simp only [List.length_append, List.length_cons, List.length_nil]; omega)
            obtain ⟨S6, hS6⟩ : ∃ S, S = txt ((((((((O1 ++ condsP r.conds k) ++ hd) ++ [97, 114, 103, 32]) ++ numT c.arg) ++ [32, 38, 32]) ++ wideT c.mh c.ml) ++ [32]) ++ cmL.getD (c.cm.toNat - 1) []) := ⟨_, rfl⟩
            have SA6 : ∀ wx, (Op.stringOp .add S5 M).run Tryz.prog wx = .ok (.string S6) wx := fun wx => addT wx hS5 hM hS6 (by simp only [List.length_append, List.length_cons, List.length_nil]; omega)
            obtain ⟨S7, hS7⟩ : ∃ S, S = txt (((((((((O1 ++ condsP r.conds k) ++ hd) ++ [97, 114, 103, 32]) ++ numT c.arg) ++ [32, 38, 32]) ++ wideT c.mh c.ml) ++ [32]) ++ cmL.getD (c.cm.toNat - 1) []) ++ [32]) := ⟨_, rfl⟩
            have SA7 : ∀ wx, (Op.stringOp .add S6 ⟨#[32]⟩).run Tryz.prog wx = .ok (.string S7) wx := fun wx => addT wx hS6 rfl hS7 (by simp only [List.length_append, List.length_cons, List.length_nil]; omega)
            have SA8 : ∀ wx, (Op.stringOp .add S7 T).run Tryz.prog wx = .ok (.string Z2) wx := fun wx => addT wx hS7 hT (hZ2.trans (congrArg txt (by rw [condsP, ← hhd, ← hc]; simp [condT]))) (by simp only [List.length_append, List.length_cons, List.length_nil]; omega)
            clear hS1 hS2 hS3 hS4 hS5 hS6 hS7
            have HT2 : Hid (Z2 = txt (O1 ++ condsP r.conds (k + 1))) := hZ2
            have H1 : Hid (∀ W, Calls Tryz.prog 40 #[.int .i64 c.arg] W fun e w' => e = .returned (.string U) ∧ Ext W w') := fun W => by rw [hU]; exact figT ha
            have H2 : Hid (∀ W, Calls Tryz.prog 82 #[.agg #[.int .i64 c.mh, .int .i64 c.ml]] W fun e w' => e = .returned (.string V) ∧ Ext W w') := fun W => by rw [hV]; exact l10Wide_any _ _ W hm
            have H3 : Hid (∀ W, Calls Tryz.prog 82 #[.agg #[.int .i64 c.vh, .int .i64 c.vl]] W fun e w' => e = .returned (.string T) ∧ Ext W w') := fun W => by rw [hT]; exact l10Wide_any _ _ W hv
            have HM : Hid (txt (cmT c.cm.toNat) = M) := by unfold Hid; rw [hM, ← cmT_pos (by omega)]
            clear hc hcm hh ha hm hv l1 l2 l3 l4 l5 l6 l7 hS hhd hP hU hV hM hT hZ2 HS
            obtain ⟨ag, mh, ml, cm, vh, vl⟩ := c
            simp only at g1 g6 H1 H2 H3 HM cz
            obtain ⟨m, rfl⟩ : ∃ m : Nat, cm = (m : Int) := ⟨cm.toNat, by omega⟩
            simp only [Int.toNat_natCast] at HM
            have k7 : (m : Int) < 7 := by omega
            have k0 : (0 : Int) ≤ (m : Int) := by omega
            obtain ⟨p0, p1, p2, p3, p4, p5⟩ := cz.six
            simp only at p0 p1 p2 p3 p4 p5
            clear cz g1 g6
            have B0 : Hid (CellsAt (wr.alloc (.cells #[.int .i64 ag, .int .i64 mh, .int .i64 ml, .int .i64 m, .int .i64 vh, .int .i64 vl] 78)) wr.heap.size [.int .i64 ag, .int .i64 mh, .int .i64 ml, .int .i64 m, .int .i64 vh, .int .i64 vl]) := CellsAt.new wr _ _
            have XB : Hid (Ext W0 (wr.alloc (.cells #[.int .i64 ag, .int .i64 mh, .int .i64 ml, .int .i64 m, .int .i64 vh, .int .i64 vl] 78))) := hE.out.alloc _
            by_cases hk0 : k = 0
            · have A := A0.1 hk0
              have dk : ((k : Int) == 0) = true := by simp; omega
              clear A0 hk0
              go_wp2_with fail
              generalize wr.alloc (.cells #[.int .i64 ag, .int .i64 mh, .int .i64 ml, .int .i64 m, .int .i64 vh, .int .i64 vl] 78) = W3 at *
              clear p0 p1 p2 p3 p4 p5 c1 bk
              generalize wr.heap.size = g at *
              refine' wp_region_loose (.inl _ :: .inl _ :: .inl _ :: .inl _ :: .inl _ :: .inl _ :: .inl _ :: .inl _ :: .inl _ :: .inl _ :: .inl _ :: .inl _ :: .inr CmsAt :: .inl _ :: .inl _ :: .inr (CmAt m M) :: .inl (.string M) :: .inl _ :: .inl _ :: .inl _ :: .inl _ :: .inl _ :: .inl _ :: .inl _ :: []) (fun w' => CellsAt w' g [.int .i64 ag, .int .i64 mh, .int .i64 ml, .int .i64 m, .int .i64 vh, .int .i64 vl]) (by kernel_rfl) (by kernel_rfl) (B0.out) (fun _ _ h hE => h.step hE) ?hAx2 ?hlx2 ?hMx2
              case' hMx2 => skip
              apply wpLoose_val rfl rfl
              case hs =>
                intro w1 hC hd Q1 hQ1
                obtain ⟨hE, hS⟩ := hC
                dsimp only [bare]
                obtain ⟨p0, p1, p2, p3, p4, p5⟩ := (⟨hS.2 0 _ rfl, hS.2 1 _ rfl, hS.2 2 _ rfl, hS.2 3 _ rfl, hS.2 4 _ rfl, hS.2 5 _ rfl⟩ : _ ∧ _ ∧ _ ∧ _ ∧ _ ∧ _)
                clear hd hE
                try clear hS
                go_wp2
                exact Ext.refl _
              case ha => rfl
              apply wpLoose_val rfl rfl
              case hs =>
                intro w1 hC hd Q1 hQ1
                obtain ⟨hE, hS⟩ := hC
                dsimp only [bare]
                obtain ⟨p0, p1, p2, p3, p4, p5⟩ := (⟨hS.2 0 _ rfl, hS.2 1 _ rfl, hS.2 2 _ rfl, hS.2 3 _ rfl, hS.2 4 _ rfl, hS.2 5 _ rfl⟩ : _ ∧ _ ∧ _ ∧ _ ∧ _ ∧ _)
                clear hd hE
                try clear hS
                go_wp2
                exact Ext.refl _
              case ha => rfl
              apply wpLoose_val rfl rfl
              case hs =>
                intro w1 hC hd Q1 hQ1
                obtain ⟨hE, hS⟩ := hC
                dsimp only [bare]
                obtain ⟨p0, p1, p2, p3, p4, p5⟩ := (⟨hS.2 0 _ rfl, hS.2 1 _ rfl, hS.2 2 _ rfl, hS.2 3 _ rfl, hS.2 4 _ rfl, hS.2 5 _ rfl⟩ : _ ∧ _ ∧ _ ∧ _ ∧ _ ∧ _)
                clear hd hE
                try clear hS
                go_wp2
                exact Ext.refl _
              case ha => rfl
              apply wpLoose_val rfl rfl
              case hs =>
                intro w1 hC hd Q1 hQ1
                obtain ⟨hE, hS⟩ := hC
                dsimp only [bare]
                obtain ⟨p0, p1, p2, p3, p4, p5⟩ := (⟨hS.2 0 _ rfl, hS.2 1 _ rfl, hS.2 2 _ rfl, hS.2 3 _ rfl, hS.2 4 _ rfl, hS.2 5 _ rfl⟩ : _ ∧ _ ∧ _ ∧ _ ∧ _ ∧ _)
                clear hd hE
                try clear hS
                go_wp2
                exact Ext.refl _
              case ha => rfl
              apply wpLoose_val rfl rfl
              case hs =>
                intro w1 hC hd Q1 hQ1
                obtain ⟨hE, hS⟩ := hC
                dsimp only [bare]
                clear hd
                go_wp2_with fail
                refine (H1.out _).mono ?_
                rintro e w2 ⟨rfl, hb⟩
                go_wp2_with fail
                exact hb
              case ha => rfl
              apply wpLoose_val rfl rfl
              case hs =>
                intro w1 hC hd Q1 hQ1
                obtain ⟨hE, hS⟩ := hC
                dsimp only [bare]
                obtain ⟨p0, p1, p2, p3, p4, p5⟩ := (⟨hS.2 0 _ rfl, hS.2 1 _ rfl, hS.2 2 _ rfl, hS.2 3 _ rfl, hS.2 4 _ rfl, hS.2 5 _ rfl⟩ : _ ∧ _ ∧ _ ∧ _ ∧ _ ∧ _)
                clear hd hE
                try clear hS
                go_wp2
                exact Ext.refl _
              case ha => rfl
              apply wpLoose_val rfl rfl
              case hs =>
                intro w1 hC hd Q1 hQ1
                obtain ⟨hE, hS⟩ := hC
                dsimp only [bare]
                obtain ⟨p0, p1, p2, p3, p4, p5⟩ := (⟨hS.2 0 _ rfl, hS.2 1 _ rfl, hS.2 2 _ rfl, hS.2 3 _ rfl, hS.2 4 _ rfl, hS.2 5 _ rfl⟩ : _ ∧ _ ∧ _ ∧ _ ∧ _ ∧ _)
                clear hd hE
                try clear hS
                go_wp2
                exact Ext.refl _
              case ha => rfl
              apply wpLoose_val rfl rfl
              case hs =>
                intro w1 hC hd Q1 hQ1
                obtain ⟨hE, hS⟩ := hC
                dsimp only [bare]
                obtain ⟨p0, p1, p2, p3, p4, p5⟩ := (⟨hS.2 0 _ rfl, hS.2 1 _ rfl, hS.2 2 _ rfl, hS.2 3 _ rfl, hS.2 4 _ rfl, hS.2 5 _ rfl⟩ : _ ∧ _ ∧ _ ∧ _ ∧ _ ∧ _)
                clear hd hE
                try clear hS
                go_wp2
                exact Ext.refl _
              case ha => rfl
              apply wpLoose_val rfl rfl
              case hs =>
                intro w1 hC hd Q1 hQ1
                obtain ⟨hE, hS⟩ := hC
                dsimp only [bare]
                obtain ⟨p0, p1, p2, p3, p4, p5⟩ := (⟨hS.2 0 _ rfl, hS.2 1 _ rfl, hS.2 2 _ rfl, hS.2 3 _ rfl, hS.2 4 _ rfl, hS.2 5 _ rfl⟩ : _ ∧ _ ∧ _ ∧ _ ∧ _ ∧ _)
                clear hd hE
                try clear hS
                go_wp2
                exact Ext.refl _
              case ha => rfl
              apply wpLoose_val rfl rfl
              case hs =>
                intro w1 hC hd Q1 hQ1
                obtain ⟨hE, hS⟩ := hC
                dsimp only [bare]
                clear hd
                go_wp2_with fail
                refine (H2.out _).mono ?_
                rintro e w2 ⟨rfl, hb⟩
                go_wp2_with fail
                exact hb
              case ha => rfl
              apply wpLoose_val rfl rfl
              case hs =>
                intro w1 hC hd Q1 hQ1
                obtain ⟨hE, hS⟩ := hC
                dsimp only [bare]
                obtain ⟨p0, p1, p2, p3, p4, p5⟩ := (⟨hS.2 0 _ rfl, hS.2 1 _ rfl, hS.2 2 _ rfl, hS.2 3 _ rfl, hS.2 4 _ rfl, hS.2 5 _ rfl⟩ : _ ∧ _ ∧ _ ∧ _ ∧ _ ∧ _)
                clear hd hE
                try clear hS
                go_wp2
                exact Ext.refl _
              case ha => rfl
              apply wpLoose_val rfl rfl
              case hs =>
                intro w1 hC hd Q1 hQ1
                obtain ⟨hE, hS⟩ := hC
                dsimp only [bare]
                obtain ⟨p0, p1, p2, p3, p4, p5⟩ := (⟨hS.2 0 _ rfl, hS.2 1 _ rfl, hS.2 2 _ rfl, hS.2 3 _ rfl, hS.2 4 _ rfl, hS.2 5 _ rfl⟩ : _ ∧ _ ∧ _ ∧ _ ∧ _ ∧ _)
                clear hd hE
                try clear hS
                go_wp2
                exact Ext.refl _
              case ha => rfl
              refine wpLoose_rel rfl rfl ?_ (fun vx2_12 => ?_)
              · intro w1 hC hd Q1 hQ1
                obtain ⟨hE, hS⟩ := hC
                dsimp only [bare]
                clear hd hS
                go_wp2_with fail
                refine (l10Cms_any _).mono ?_
                rintro e w2 ⟨u2, rfl, r2, x2⟩
                go_wp2_with fail
                exact hQ1 _ _ x2 r2
              apply wpLoose_val rfl rfl
              case hs =>
                intro w1 hC hd Q1 hQ1
                obtain ⟨hE, hS⟩ := hC
                dsimp only [bare]
                obtain ⟨p0, p1, p2, p3, p4, p5⟩ := (⟨hS.2 0 _ rfl, hS.2 1 _ rfl, hS.2 2 _ rfl, hS.2 3 _ rfl, hS.2 4 _ rfl, hS.2 5 _ rfl⟩ : _ ∧ _ ∧ _ ∧ _ ∧ _ ∧ _)
                clear hd hE
                try clear hS
                go_wp2
                exact Ext.refl _
              case ha => rfl
              apply wpLoose_val rfl rfl
              case hs =>
                intro w1 hC hd Q1 hQ1
                obtain ⟨hE, hS⟩ := hC
                dsimp only [bare]
                obtain ⟨p0, p1, p2, p3, p4, p5⟩ := (⟨hS.2 0 _ rfl, hS.2 1 _ rfl, hS.2 2 _ rfl, hS.2 3 _ rfl, hS.2 4 _ rfl, hS.2 5 _ rfl⟩ : _ ∧ _ ∧ _ ∧ _ ∧ _ ∧ _)
                clear hd hE
                try clear hS
                go_wp2
                exact Ext.refl _
              case ha => rfl
              refine wpLoose_rel rfl rfl ?_ (fun vx2_15 => ?_)
              · intro w1 hC hd Q1 hQ1
                obtain ⟨hE, hS⟩ := hC
                dsimp only [bare]
                have h1 : CmsAt vx2_12 w1 := hd ⟨12, .data⟩ (by simp) rfl _ rfl (by simp)
                obtain ⟨g', rfl, hg', hc'⟩ := h1
                have hcc := hc' m (by omega)
                rw [HM.out] at hcc
                clear hd hS hc'
                have HCC : Hid (CmAt m M (.pointer (some ⟨g', m, none⟩)) w1) := ⟨g', rfl, hg', hcc⟩
                clear hcc hg'
                go_wp2_with fail
                exact hQ1 _ _ (Ext.refl _) HCC.out
              apply wpLoose_val rfl rfl
              case ha => rfl
              case hs =>
                intro w1 hC hd Q1 hQ1
                obtain ⟨hE, hS⟩ := hC
                dsimp only [bare]
                have h1 : CmAt m M vx2_15 w1 := hd ⟨15, .data⟩ (by simp) rfl _ rfl (by simp [Act.put])
                obtain ⟨g', rfl, hg', hcc⟩ := h1
                clear hd hS hE hg'
                go_wp2
                first | exact Ext.refl _ | exact hQ1 _ (Ext.refl _)
              apply wpLoose_val rfl rfl
              case hs =>
                intro w1 hC hd Q1 hQ1
                obtain ⟨hE, hS⟩ := hC
                dsimp only [bare]
                obtain ⟨p0, p1, p2, p3, p4, p5⟩ := (⟨hS.2 0 _ rfl, hS.2 1 _ rfl, hS.2 2 _ rfl, hS.2 3 _ rfl, hS.2 4 _ rfl, hS.2 5 _ rfl⟩ : _ ∧ _ ∧ _ ∧ _ ∧ _ ∧ _)
                clear hd hE
                try clear hS
                go_wp2
                exact Ext.refl _
              case ha => rfl
              apply wpLoose_val rfl rfl
              case hs =>
                intro w1 hC hd Q1 hQ1
                obtain ⟨hE, hS⟩ := hC
                dsimp only [bare]
                obtain ⟨p0, p1, p2, p3, p4, p5⟩ := (⟨hS.2 0 _ rfl, hS.2 1 _ rfl, hS.2 2 _ rfl, hS.2 3 _ rfl, hS.2 4 _ rfl, hS.2 5 _ rfl⟩ : _ ∧ _ ∧ _ ∧ _ ∧ _ ∧ _)
                clear hd hE
                try clear hS
                go_wp2
                exact Ext.refl _
              case ha => rfl
              apply wpLoose_val rfl rfl
              case hs =>
                intro w1 hC hd Q1 hQ1
                obtain ⟨hE, hS⟩ := hC
                dsimp only [bare]
                obtain ⟨p0, p1, p2, p3, p4, p5⟩ := (⟨hS.2 0 _ rfl, hS.2 1 _ rfl, hS.2 2 _ rfl, hS.2 3 _ rfl, hS.2 4 _ rfl, hS.2 5 _ rfl⟩ : _ ∧ _ ∧ _ ∧ _ ∧ _ ∧ _)
                clear hd hE
                try clear hS
                go_wp2
                exact Ext.refl _
              case ha => rfl
              apply wpLoose_val rfl rfl
              case hs =>
                intro w1 hC hd Q1 hQ1
                obtain ⟨hE, hS⟩ := hC
                dsimp only [bare]
                obtain ⟨p0, p1, p2, p3, p4, p5⟩ := (⟨hS.2 0 _ rfl, hS.2 1 _ rfl, hS.2 2 _ rfl, hS.2 3 _ rfl, hS.2 4 _ rfl, hS.2 5 _ rfl⟩ : _ ∧ _ ∧ _ ∧ _ ∧ _ ∧ _)
                clear hd hE
                try clear hS
                go_wp2
                exact Ext.refl _
              case ha => rfl
              apply wpLoose_val rfl rfl
              case hs =>
                intro w1 hC hd Q1 hQ1
                obtain ⟨hE, hS⟩ := hC
                dsimp only [bare]
                clear hd
                go_wp2_with fail
                refine (H3.out _).mono ?_
                rintro e w2 ⟨rfl, hb⟩
                go_wp2_with fail
                exact hb
              case ha => rfl
              apply wpLoose_val rfl rfl
              case hs =>
                intro w1 hC hd Q1 hQ1
                obtain ⟨hE, hS⟩ := hC
                dsimp only [bare]
                obtain ⟨p0, p1, p2, p3, p4, p5⟩ := (⟨hS.2 0 _ rfl, hS.2 1 _ rfl, hS.2 2 _ rfl, hS.2 3 _ rfl, hS.2 4 _ rfl, hS.2 5 _ rfl⟩ : _ ∧ _ ∧ _ ∧ _ ∧ _ ∧ _)
                clear hd hE
                try clear hS
                go_wp2
                exact Ext.refl _
              case ha => rfl
              apply wpLoose_val rfl rfl
              case hs =>
                intro w1 hC hd Q1 hQ1
                obtain ⟨hE, hS⟩ := hC
                dsimp only [bare]
                obtain ⟨p0, p1, p2, p3, p4, p5⟩ := (⟨hS.2 0 _ rfl, hS.2 1 _ rfl, hS.2 2 _ rfl, hS.2 3 _ rfl, hS.2 4 _ rfl, hS.2 5 _ rfl⟩ : _ ∧ _ ∧ _ ∧ _ ∧ _ ∧ _)
                clear hd hE
                try clear hS
                go_wp2
                exact Ext.refl _
              case ha => rfl
              refine wpLoose_nil ?_
              intro wx2 hEx2 hSx2 hFx2
              · have XE : Hid (Ext W0 wx2) := XB.out.drew.trans hEx2
                clear hEx2 hSx2 hFx2 H1 H2 H3 XB
                go_wp2
                go_roundw
                case rel => exact ⟨k + 1, Z2, by go_num, rfl, by omega, HT2, XE⟩
                case measure => simp [intOf]; omega
              case hAx2 => kernel_rfl
              case hlx2 => exact ⟨trivial, trivial, trivial, trivial, trivial, trivial, trivial, trivial, trivial, trivial, trivial, trivial, fun _ _ _ h hE => h.step hE, trivial, trivial, fun _ _ _ h hE => h.step hE, trivial, trivial, trivial, trivial, trivial, trivial, trivial, trivial, trivial⟩
            · have A := A0.2 hk0
              have dk : ((k : Int) == 0) = false := by simp; omega
              clear A0 hk0
              go_wp2_with fail
              generalize wr.alloc (.cells #[.int .i64 ag, .int .i64 mh, .int .i64 ml, .int .i64 m, .int .i64 vh, .int .i64 vl] 78) = W3 at *
              clear p0 p1 p2 p3 p4 p5 c1 bk
              generalize wr.heap.size = g at *
              refine' wp_region_loose (.inl _ :: .inl _ :: .inl _ :: .inl _ :: .inl _ :: .inl _ :: .inl _ :: .inl _ :: .inl _ :: .inl _ :: .inl _ :: .inl _ :: .inr CmsAt :: .inl _ :: .inl _ :: .inr (CmAt m M) :: .inl (.string M) :: .inl _ :: .inl _ :: .inl _ :: .inl _ :: .inl _ :: .inl _ :: .inl _ :: []) (fun w' => CellsAt w' g [.int .i64 ag, .int .i64 mh, .int .i64 ml, .int .i64 m, .int .i64 vh, .int .i64 vl]) (by kernel_rfl) (by kernel_rfl) (B0.out) (fun _ _ h hE => h.step hE) ?hAy2 ?hly2 ?hMy2
              case' hMy2 => skip
              apply wpLoose_val rfl rfl
              case hs =>
                intro w1 hC hd Q1 hQ1
                obtain ⟨hE, hS⟩ := hC
                dsimp only [bare]
                obtain ⟨p0, p1, p2, p3, p4, p5⟩ := (⟨hS.2 0 _ rfl, hS.2 1 _ rfl, hS.2 2 _ rfl, hS.2 3 _ rfl, hS.2 4 _ rfl, hS.2 5 _ rfl⟩ : _ ∧ _ ∧ _ ∧ _ ∧ _ ∧ _)
                clear hd hE
                try clear hS
                go_wp2
                exact Ext.refl _
              case ha => rfl
              apply wpLoose_val rfl rfl
              case hs =>
                intro w1 hC hd Q1 hQ1
                obtain ⟨hE, hS⟩ := hC
                dsimp only [bare]
                obtain ⟨p0, p1, p2, p3, p4, p5⟩ := (⟨hS.2 0 _ rfl, hS.2 1 _ rfl, hS.2 2 _ rfl, hS.2 3 _ rfl, hS.2 4 _ rfl, hS.2 5 _ rfl⟩ : _ ∧ _ ∧ _ ∧ _ ∧ _ ∧ _)
                clear hd hE
                try clear hS
                go_wp2
                exact Ext.refl _
              case ha => rfl
              apply wpLoose_val rfl rfl
              case hs =>
                intro w1 hC hd Q1 hQ1
                obtain ⟨hE, hS⟩ := hC
                dsimp only [bare]
                obtain ⟨p0, p1, p2, p3, p4, p5⟩ := (⟨hS.2 0 _ rfl, hS.2 1 _ rfl, hS.2 2 _ rfl, hS.2 3 _ rfl, hS.2 4 _ rfl, hS.2 5 _ rfl⟩ : _ ∧ _ ∧ _ ∧ _ ∧ _ ∧ _)
                clear hd hE
                try clear hS
                go_wp2
                exact Ext.refl _
              case ha => rfl
              apply wpLoose_val rfl rfl
              case hs =>
                intro w1 hC hd Q1 hQ1
                obtain ⟨hE, hS⟩ := hC
                dsimp only [bare]
                obtain ⟨p0, p1, p2, p3, p4, p5⟩ := (⟨hS.2 0 _ rfl, hS.2 1 _ rfl, hS.2 2 _ rfl, hS.2 3 _ rfl, hS.2 4 _ rfl, hS.2 5 _ rfl⟩ : _ ∧ _ ∧ _ ∧ _ ∧ _ ∧ _)
                clear hd hE
                try clear hS
                go_wp2
                exact Ext.refl _
              case ha => rfl
              apply wpLoose_val rfl rfl
              case hs =>
                intro w1 hC hd Q1 hQ1
                obtain ⟨hE, hS⟩ := hC
                dsimp only [bare]
                clear hd
                go_wp2_with fail
                refine (H1.out _).mono ?_
                rintro e w2 ⟨rfl, hb⟩
                go_wp2_with fail
                exact hb
              case ha => rfl
              apply wpLoose_val rfl rfl
              case hs =>
                intro w1 hC hd Q1 hQ1
                obtain ⟨hE, hS⟩ := hC
                dsimp only [bare]
                obtain ⟨p0, p1, p2, p3, p4, p5⟩ := (⟨hS.2 0 _ rfl, hS.2 1 _ rfl, hS.2 2 _ rfl, hS.2 3 _ rfl, hS.2 4 _ rfl, hS.2 5 _ rfl⟩ : _ ∧ _ ∧ _ ∧ _ ∧ _ ∧ _)
                clear hd hE
                try clear hS
                go_wp2
                exact Ext.refl _
              case ha => rfl
              apply wpLoose_val rfl rfl
              case hs =>
                intro w1 hC hd Q1 hQ1
                obtain ⟨hE, hS⟩ := hC
                dsimp only [bare]
                obtain ⟨p0, p1, p2, p3, p4, p5⟩ := (⟨hS.2 0 _ rfl, hS.2 1 _ rfl, hS.2 2 _ rfl, hS.2 3 _ rfl, hS.2 4 _ rfl, hS.2 5 _ rfl⟩ : _ ∧ _ ∧ _ ∧ _ ∧ _ ∧ _)
                clear hd hE
                try clear hS
                go_wp2
                exact Ext.refl _
              case ha => rfl
              apply wpLoose_val rfl rfl
              case hs =>
                intro w1 hC hd Q1 hQ1
                obtain ⟨hE, hS⟩ := hC
                dsimp only [bare]
                obtain ⟨p0, p1, p2, p3, p4, p5⟩ := (⟨hS.2 0 _ rfl, hS.2 1 _ rfl, hS.2 2 _ rfl, hS.2 3 _ rfl, hS.2 4 _ rfl, hS.2 5 _ rfl⟩ : _ ∧ _ ∧ _ ∧ _ ∧ _ ∧ _)
                clear hd hE
                try clear hS
                go_wp2
                exact Ext.refl _
              case ha => rfl
              apply wpLoose_val rfl rfl
              case hs =>
                intro w1 hC hd Q1 hQ1
                obtain ⟨hE, hS⟩ := hC
                dsimp only [bare]
                obtain ⟨p0, p1, p2, p3, p4, p5⟩ := (⟨hS.2 0 _ rfl, hS.2 1 _ rfl, hS.2 2 _ rfl, hS.2 3 _ rfl, hS.2 4 _ rfl, hS.2 5 _ rfl⟩ : _ ∧ _ ∧ _ ∧ _ ∧ _ ∧ _)
                clear hd hE
                try clear hS
                go_wp2
                exact Ext.refl _
              case ha => rfl
              apply wpLoose_val rfl rfl
              case hs =>
                intro w1 hC hd Q1 hQ1
                obtain ⟨hE, hS⟩ := hC
                dsimp only [bare]
                clear hd
                go_wp2_with fail
                refine (H2.out _).mono ?_
                rintro e w2 ⟨rfl, hb⟩
                go_wp2_with fail
                exact hb
              case ha => rfl
              apply wpLoose_val rfl rfl
              case hs =>
                intro w1 hC hd Q1 hQ1
                obtain ⟨hE, hS⟩ := hC
                dsimp only [bare]
                obtain ⟨p0, p1, p2, p3, p4, p5⟩ := (⟨hS.2 0 _ rfl, hS.2 1 _ rfl, hS.2 2 _ rfl, hS.2 3 _ rfl, hS.2 4 _ rfl, hS.2 5 _ rfl⟩ : _ ∧ _ ∧ _ ∧ _ ∧ _ ∧ _)
                clear hd hE
                try clear hS
                go_wp2
                exact Ext.refl _
              case ha => rfl
              apply wpLoose_val rfl rfl
              case hs =>
                intro w1 hC hd Q1 hQ1
                obtain ⟨hE, hS⟩ := hC
                dsimp only [bare]
                obtain ⟨p0, p1, p2, p3, p4, p5⟩ := (⟨hS.2 0 _ rfl, hS.2 1 _ rfl, hS.2 2 _ rfl, hS.2 3 _ rfl, hS.2 4 _ rfl, hS.2 5 _ rfl⟩ : _ ∧ _ ∧ _ ∧ _ ∧ _ ∧ _)
                clear hd hE
                try clear hS
                go_wp2
                exact Ext.refl _
              case ha => rfl
              refine wpLoose_rel rfl rfl ?_ (fun vy2_12 => ?_)
              · intro w1 hC hd Q1 hQ1
                obtain ⟨hE, hS⟩ := hC
                dsimp only [bare]
                clear hd hS
                go_wp2_with fail
                refine (l10Cms_any _).mono ?_
                rintro e w2 ⟨u2, rfl, r2, x2⟩
                go_wp2_with fail
                exact hQ1 _ _ x2 r2
              apply wpLoose_val rfl rfl
              case hs =>
                intro w1 hC hd Q1 hQ1
                obtain ⟨hE, hS⟩ := hC
                dsimp only [bare]
                obtain ⟨p0, p1, p2, p3, p4, p5⟩ := (⟨hS.2 0 _ rfl, hS.2 1 _ rfl, hS.2 2 _ rfl, hS.2 3 _ rfl, hS.2 4 _ rfl, hS.2 5 _ rfl⟩ : _ ∧ _ ∧ _ ∧ _ ∧ _ ∧ _)
                clear hd hE
                try clear hS
                go_wp2
                exact Ext.refl _
              case ha => rfl
              apply wpLoose_val rfl rfl
              case hs =>
                intro w1 hC hd Q1 hQ1
                obtain ⟨hE, hS⟩ := hC
                dsimp only [bare]
                obtain ⟨p0, p1, p2, p3, p4, p5⟩ := (⟨hS.2 0 _ rfl, hS.2 1 _ rfl, hS.2 2 _ rfl, hS.2 3 _ rfl, hS.2 4 _ rfl, hS.2 5 _ rfl⟩ : _ ∧ _ ∧ _ ∧ _ ∧ _ ∧ _)
                clear hd hE
                try clear hS
                go_wp2
                exact Ext.refl _
              case ha => rfl
              refine wpLoose_rel rfl rfl ?_ (fun vy2_15 => ?_)
              · intro w1 hC hd Q1 hQ1
                obtain ⟨hE, hS⟩ := hC
                dsimp only [bare]
                have h1 : CmsAt vy2_12 w1 := hd ⟨12, .data⟩ (by simp) rfl _ rfl (by simp)
                obtain ⟨g', rfl, hg', hc'⟩ := h1
                have hcc := hc' m (by omega)
                rw [HM.out] at hcc
                clear hd hS hc'
                have HCC : Hid (CmAt m M (.pointer (some ⟨g', m, none⟩)) w1) := ⟨g', rfl, hg', hcc⟩
                clear hcc hg'
                go_wp2_with fail
                exact hQ1 _ _ (Ext.refl _) HCC.out
              apply wpLoose_val rfl rfl
              case ha => rfl
              case hs =>
                intro w1 hC hd Q1 hQ1
                obtain ⟨hE, hS⟩ := hC
                dsimp only [bare]
                have h1 : CmAt m M vy2_15 w1 := hd ⟨15, .data⟩ (by simp) rfl _ rfl (by simp [Act.put])
                obtain ⟨g', rfl, hg', hcc⟩ := h1
                clear hd hS hE hg'
                go_wp2
                first | exact Ext.refl _ | exact hQ1 _ (Ext.refl _)
              apply wpLoose_val rfl rfl
              case hs =>
                intro w1 hC hd Q1 hQ1
                obtain ⟨hE, hS⟩ := hC
                dsimp only [bare]
                obtain ⟨p0, p1, p2, p3, p4, p5⟩ := (⟨hS.2 0 _ rfl, hS.2 1 _ rfl, hS.2 2 _ rfl, hS.2 3 _ rfl, hS.2 4 _ rfl, hS.2 5 _ rfl⟩ : _ ∧ _ ∧ _ ∧ _ ∧ _ ∧ _)
                clear hd hE
                try clear hS
                go_wp2
                exact Ext.refl _
              case ha => rfl
              apply wpLoose_val rfl rfl
              case hs =>
                intro w1 hC hd Q1 hQ1
                obtain ⟨hE, hS⟩ := hC
                dsimp only [bare]
                obtain ⟨p0, p1, p2, p3, p4, p5⟩ := (⟨hS.2 0 _ rfl, hS.2 1 _ rfl, hS.2 2 _ rfl, hS.2 3 _ rfl, hS.2 4 _ rfl, hS.2 5 _ rfl⟩ : _ ∧ _ ∧ _ ∧ _ ∧ _ ∧ _)
                clear hd hE
                try clear hS
                go_wp2
                exact Ext.refl _
              case ha => rfl
              apply wpLoose_val rfl rfl
              case hs =>
                intro w1 hC hd Q1 hQ1
                obtain ⟨hE, hS⟩ := hC
                dsimp only [bare]
                obtain ⟨p0, p1, p2, p3, p4, p5⟩ := (⟨hS.2 0 _ rfl, hS.2 1 _ rfl, hS.2 2 _ rfl, hS.2 3 _ rfl, hS.2 4 _ rfl, hS.2 5 _ rfl⟩ : _ ∧ _ ∧ _ ∧ _ ∧ _ ∧ _)
                clear hd hE
                try clear hS
                go_wp2
                exact Ext.refl _
              case ha => rfl
              apply wpLoose_val rfl rfl
              case hs =>
                intro w1 hC hd Q1 hQ1
                obtain ⟨hE, hS⟩ := hC
                dsimp only [bare]
                obtain ⟨p0, p1, p2, p3, p4, p5⟩ := (⟨hS.2 0 _ rfl, hS.2 1 _ rfl, hS.2 2 _ rfl, hS.2 3 _ rfl, hS.2 4 _ rfl, hS.2 5 _ rfl⟩ : _ ∧ _ ∧ _ ∧ _ ∧ _ ∧ _)
                clear hd hE
                try clear hS
                go_wp2
                exact Ext.refl _
              case ha => rfl
              apply wpLoose_val rfl rfl
              case hs =>
                intro w1 hC hd Q1 hQ1
                obtain ⟨hE, hS⟩ := hC
                dsimp only [bare]
                clear hd
                go_wp2_with fail
                refine (H3.out _).mono ?_
                rintro e w2 ⟨rfl, hb⟩
                go_wp2_with fail
                exact hb
              case ha => rfl
              apply wpLoose_val rfl rfl
              case hs =>
                intro w1 hC hd Q1 hQ1
                obtain ⟨hE, hS⟩ := hC
                dsimp only [bare]
                obtain ⟨p0, p1, p2, p3, p4, p5⟩ := (⟨hS.2 0 _ rfl, hS.2 1 _ rfl, hS.2 2 _ rfl, hS.2 3 _ rfl, hS.2 4 _ rfl, hS.2 5 _ rfl⟩ : _ ∧ _ ∧ _ ∧ _ ∧ _ ∧ _)
                clear hd hE
                try clear hS
                go_wp2
                exact Ext.refl _
              case ha => rfl
              apply wpLoose_val rfl rfl
              case hs =>
                intro w1 hC hd Q1 hQ1
                obtain ⟨hE, hS⟩ := hC
                dsimp only [bare]
                obtain ⟨p0, p1, p2, p3, p4, p5⟩ := (⟨hS.2 0 _ rfl, hS.2 1 _ rfl, hS.2 2 _ rfl, hS.2 3 _ rfl, hS.2 4 _ rfl, hS.2 5 _ rfl⟩ : _ ∧ _ ∧ _ ∧ _ ∧ _ ∧ _)
                clear hd hE
                try clear hS
                go_wp2
                exact Ext.refl _
              case ha => rfl
              refine wpLoose_nil ?_
              intro wy2 hEy2 hSy2 hFy2
              · have XE : Hid (Ext W0 wy2) := XB.out.drew.trans hEy2
                clear hEy2 hSy2 hFy2 H1 H2 H3 XB
                go_wp2
                go_roundw
                case rel => exact ⟨k + 1, Z2, by go_num, rfl, by omega, HT2, XE⟩
                case measure => simp [intOf]; omega
              case hAy2 => kernel_rfl
              case hly2 => exact ⟨trivial, trivial, trivial, trivial, trivial, trivial, trivial, trivial, trivial, trivial, trivial, trivial, fun _ _ _ h hE => h.step hE, trivial, trivial, fun _ _ _ h hE => h.step hE, trivial, trivial, trivial, trivial, trivial, trivial, trivial, trivial, trivial⟩
          · obtain rfl : k = n2 := by omega
            have bk : ¬ ((k : Int) < (k : Int)) := by omega
            have c2 := (C0.out.step hE.out).2 2 _ rfl
            have c3 := (C0.out.step hE.out).2 3 _ rfl
            have l5 := condsP_len HL.out.2.2.2 k (by have := HL.out.2.1; omega)
            have l6 := HO1.out
            have l8 := outT_len HL2.out.1
            have hS : S = txt (O1 ++ condsP r.conds k) := HS.out
            obtain ⟨V, hV⟩ : ∃ V, V = txt (outT r.act r.data) := ⟨_, rfl⟩
            have hZ : Z = txt (ruleT r) := HZ.out
            obtain ⟨E1, hE1⟩ : ∃ S, S = txt ((O1 ++ condsP r.conds k) ++ [32, 100, 111, 32]) := ⟨_, rfl⟩
            have EA1 : ∀ wx, (Op.stringOp .add S ⟨#[32, 100, 111, 32]⟩).run Tryz.prog wx = .ok (.string E1) wx := fun wx => addT wx hS rfl hE1 (by simp only [List.length_append, List.length_cons, List.length_nil]; omega)
            obtain ⟨E2, hE2⟩ : ∃ S, S = txt (((O1 ++ condsP r.conds k) ++ [32, 100, 111, 32]) ++ outT r.act r.data) := ⟨_, rfl⟩
            have EA2 : ∀ wx, (Op.stringOp .add E1 V).run Tryz.prog wx = .ok (.string E2) wx := fun wx => addT wx hE1 hV hE2 (by simp only [List.length_append, List.length_cons, List.length_nil]; omega)
            have EA3 : ∀ wx, (Op.stringOp .add E2 ⟨#[32, 59]⟩).run Tryz.prog wx = .ok (.string Z) wx := fun wx => addT wx hE2 rfl (hZ.trans (congrArg txt (by rw [HL2.out.2, show k = r.conds.length from HL.out.2.1, condsP_all]; simp [ruleT]))) (by simp only [List.length_append, List.length_cons, List.length_nil]; omega)
            clear hE1 hE2
            have H3 : Hid (∀ W, Calls Tryz.prog 41 #[.int .i64 r.act, .int .i64 r.data] W fun e w' => e = .returned (.string V) ∧ Ext W w') := fun W => by rw [hV]; exact l10Act_any _ _ W HL2.out.1
            clear hS hV hZ l5 l6 l8 HS
            go_wp2_with fail
            refine (H3.out _).mono ?_
            rintro e w2 ⟨rfl, x2⟩
            have X3 : Hid (Ext w w2) := (X.out.trans hE.out).trans x2
            clear x2 H3 c1 c2 c3
            go_wp2
            go_ret
            exact ⟨rfl, X3.out⟩

set_option maxRecDepth 100000 in
set_option maxHeartbeats 1600000 in
theorem sShow_any {p : PN} {v : Value} {w : World} (hs : SmallR p.rules) (h : RepPol p v w) :
    Calls Tryz.prog 13 #[v] w fun e w' => e = .returned (.tuple #[.string (txt (showR p).1), .bool (showR p).2]) ∧ Ext w w' := by
  obtain ⟨Z, hZ⟩ : ∃ Z, Z = txt (showR p).1 := ⟨_, rfl⟩
  obtain ⟨z, hz⟩ : ∃ z, z = (showR p).2 := ⟨_, rfl⟩
  obtain ⟨q, hq⟩ : ∃ q, q = policyB p := ⟨_, rfl⟩
  have HO : Hid (∀ W, Ext w W → Calls Tryz.prog 36 #[v] W fun e w' => e = .returned (.bool q) ∧ Ext W w') := fun W hE => by rw [hq]; exact sPolicyOk_rep hs (h.step hE)
  obtain ⟨a, cap, rfl, hr⟩ := h
  rw [← hZ, ← hz]
  cases q
  case false =>
    have HZ : Hid (Z = txt [] ∧ z = false) := by rw [hZ, hz]; simp [showR, ← hq, Hid]
    clear hZ hz hq hr
    generalize p.arch = ar at *
    generalize p.act = ac at *
    generalize p.data = da at *
    generalize p.rules.length = n at *
    go_enter Tryz.func13, Tryz.ntmps13
    go_wp2_with fail
    refine (HO.out _ (Ext.one _ _)).mono ?_
    rintro e w1 ⟨rfl, x1⟩
    have X1 : Hid (Ext w w1) := (Ext.one _ _).trans x1
    clear x1 HO
    go_wp2
    go_ret2
    exact ⟨by rw [HZ.out.1, HZ.out.2]; rfl, X1.out⟩
  case true =>
    obtain ⟨hb1, hb2, hb3⟩ := policyB_parts hq.symm
    obtain ⟨_, hd, g0, g5⟩ := outB_half hb2
    have lh := headT_len hq.symm
    have lx := numT_len hb1
    have lz := outT_len hb2
    obtain ⟨U, hU⟩ : ∃ U, U = txt (numT p.arch) := ⟨_, rfl⟩
    obtain ⟨T, hT⟩ : ∃ T, T = txt (outT p.act p.data) := ⟨_, rfl⟩
    obtain ⟨H0, hH⟩ : ∃ H0, H0 = txt (headT p) := ⟨_, rfl⟩
    obtain ⟨S1, hS1⟩ : ∃ S, S = txt ([97, 114, 99, 104, 32] ++ numT p.arch) := ⟨_, rfl⟩
    have SA1 : ∀ wx, (Op.stringOp .add ⟨#[97, 114, 99, 104, 32]⟩ U).run Tryz.prog wx = .ok (.string S1) wx := fun wx => addT wx rfl hU hS1 (by simp only [List.length_cons, List.length_nil]; omega)
    obtain ⟨S2, hS2⟩ : ∃ S, S = txt (([97, 114, 99, 104, 32] ++ numT p.arch) ++ [32, 59, 32, 100, 101, 102, 97, 117, 108, 116, 32]) := ⟨_, rfl⟩
    have SA2 : ∀ wx, (Op.stringOp .add S1 ⟨#[32, 59, 32, 100, 101, 102, 97, 117, 108, 116, 32]⟩).run Tryz.prog wx = .ok (.string S2) wx := fun wx => addT wx hS1 rfl hS2 (by simp only [List.length_append, List.length_cons, List.length_nil]; omega)
    obtain ⟨S3, hS3⟩ : ∃ S, S = txt ((([97, 114, 99, 104, 32] ++ numT p.arch) ++ [32, 59, 32, 100, 101, 102, 97, 117, 108, 116, 32]) ++ outT p.act p.data) := ⟨_, rfl⟩
    have SA3 : ∀ wx, (Op.stringOp .add S2 T).run Tryz.prog wx = .ok (.string S3) wx := fun wx => addT wx hS2 hT hS3 (by simp only [List.length_append, List.length_cons, List.length_nil]; omega)
    have SA4 : ∀ wx, (Op.stringOp .add S3 ⟨#[32, 59]⟩).run Tryz.prog wx = .ok (.string H0) wx := fun wx => addT wx hS3 rfl (hH.trans (congrArg txt (rfl))) (by simp only [List.length_append, List.length_cons, List.length_nil]; omega)
    clear hS1 hS2 hS3
    obtain ⟨n, hn⟩ : ∃ n, n = p.rules.length := ⟨_, rfl⟩
    have hn10 : n ≤ 10 := by
      have := hq.symm
      simp only [policyB, Bool.and_eq_true, decide_eq_true_eq] at this
      omega
    have HZ : Hid (Z = txt (if 1200 < (headT p ++ rulesP p.rules n).length then [] else headT p ++ rulesP p.rules n) ∧ z = !decide (1200 < (headT p ++ rulesP p.rules n).length)) := by
      have e : headT p ++ rulesP p.rules n = showL p := by rw [hn, rulesP_all]; rfl
      rw [e, hZ, hz]
      unfold showR
      rw [← hq]
      by_cases hl : 1200 < (showL p).length
      · simp [hl, Hid]
      · simp [hl, Hid]
    have H1 : Hid (∀ W, Ext w W → Calls Tryz.prog 40 #[.int .i64 p.arch] W fun e w' => e = .returned (.string U) ∧ Ext W w') := fun W hE => by rw [hU]; exact figT hb1
    have H2 : Hid (∀ W, Ext w W → Calls Tryz.prog 41 #[.int .i64 p.act, .int .i64 p.data] W fun e w' => e = .returned (.string T) ∧ Ext W w') := fun W hE => by rw [hT]; exact l10Act_any _ _ W hb2
    have HR : Hid (∀ W, Ext w W → Rules W a p.rules) := fun W hE => hr.step hE
    have HB : Hid (n = p.rules.length ∧ (∀ r ∈ p.rules, ruleB r = true) ∧ (headT p).length ≤ 50 ∧ H0 = txt (headT p)) := ⟨hn, hb3, lh, hH⟩
    skip
    rw [← hn] at HO ⊢
    clear hZ hz hq hr hb1 hb2 hb3 hd g0 g5 lh lx lz hU hT hH hn hs
    generalize p.arch = ar at *
    generalize p.act = ac at *
    generalize p.data = da at *
    have X : Hid (Ext w (w.alloc (.cells #[.int .i64 ar, .int .i64 ac, .int .i64 da, .slice a n cap] 26))) := Ext.one _ _
    have C0 : Hid (CellsAt (w.alloc (.cells #[.int .i64 ar, .int .i64 ac, .int .i64 da, .slice a n cap] 26)) w.heap.size [.int .i64 ar, .int .i64 ac, .int .i64 da, .slice a n cap]) := CellsAt.new w _ _
    go_enter Tryz.func13, Tryz.ntmps13
    go_wp2_with fail
    generalize w.alloc (.cells #[.int .i64 ar, .int .i64 ac, .int .i64 da, .slice a n cap] 26) = W0 at *
    refine (HO.out _ X.out).mono ?_
    rintro e w1 ⟨rfl, x1⟩
    have X1 : Hid (Ext w w1) := X.out.trans x1
    have C1 : Hid (CellsAt w1 w.heap.size [.int .i64 ar, .int .i64 ac, .int .i64 da, .slice a n cap]) := C0.out.step x1
    clear x1 HO X C0
    go_wp2_with fail
    refine' wp_region_loose (.inl _ :: .inl _ :: .inl _ :: .inl _ :: .inl _ :: .inl _ :: .inl _ :: .inl _ :: .inl _ :: .inl _ :: .inl _ :: .inl _ :: .inl _ :: []) (fun w' => CellsAt w' w.heap.size [.int .i64 ar, .int .i64 ac, .int .i64 da, .slice a n cap]) (by kernel_rfl) (by kernel_rfl) (C1.out) (fun _ _ h hE => h.step hE) ?hAsShow ?hlsShow ?hMsShow
    case' hMsShow => skip
    apply wpLoose_val rfl rfl
    case hs =>
      intro w1 hC hd Q1 hQ1
      obtain ⟨hE, hS⟩ := hC
      dsimp only [bare]
      obtain ⟨p0, p1, p2, p3⟩ := (⟨hS.2 0 _ rfl, hS.2 1 _ rfl, hS.2 2 _ rfl, hS.2 3 _ rfl⟩ : _ ∧ _ ∧ _ ∧ _)
      clear hd hE
      try clear hS
      go_wp2
      exact Ext.refl _
    case ha => rfl
    apply wpLoose_val rfl rfl
    case hs =>
      intro w1 hC hd Q1 hQ1
      obtain ⟨hE, hS⟩ := hC
      dsimp only [bare]
      obtain ⟨p0, p1, p2, p3⟩ := (⟨hS.2 0 _ rfl, hS.2 1 _ rfl, hS.2 2 _ rfl, hS.2 3 _ rfl⟩ : _ ∧ _ ∧ _ ∧ _)
      clear hd hE
      try clear hS
      go_wp2
      exact Ext.refl _
    case ha => rfl
    apply wpLoose_val rfl rfl
    case hs =>
      intro w1 hC hd Q1 hQ1
      obtain ⟨hE, hS⟩ := hC
      dsimp only [bare]
      clear hd
      go_wp2_with fail
      refine (H1.out _ (X1.out.drew.trans hE)).mono ?_
      rintro e w2 ⟨rfl, hb⟩
      go_wp2_with fail
      exact hb
    case ha => rfl
    apply wpLoose_val rfl rfl
    case hs =>
      intro w1 hC hd Q1 hQ1
      obtain ⟨hE, hS⟩ := hC
      dsimp only [bare]
      obtain ⟨p0, p1, p2, p3⟩ := (⟨hS.2 0 _ rfl, hS.2 1 _ rfl, hS.2 2 _ rfl, hS.2 3 _ rfl⟩ : _ ∧ _ ∧ _ ∧ _)
      clear hd hE
      try clear hS
      go_wp2
      exact Ext.refl _
    case ha => rfl
    apply wpLoose_val rfl rfl
    case hs =>
      intro w1 hC hd Q1 hQ1
      obtain ⟨hE, hS⟩ := hC
      dsimp only [bare]
      obtain ⟨p0, p1, p2, p3⟩ := (⟨hS.2 0 _ rfl, hS.2 1 _ rfl, hS.2 2 _ rfl, hS.2 3 _ rfl⟩ : _ ∧ _ ∧ _ ∧ _)
      clear hd hE
      try clear hS
      go_wp2
      exact Ext.refl _
    case ha => rfl
    apply wpLoose_val rfl rfl
    case hs =>
      intro w1 hC hd Q1 hQ1
      obtain ⟨hE, hS⟩ := hC
      dsimp only [bare]
      obtain ⟨p0, p1, p2, p3⟩ := (⟨hS.2 0 _ rfl, hS.2 1 _ rfl, hS.2 2 _ rfl, hS.2 3 _ rfl⟩ : _ ∧ _ ∧ _ ∧ _)
      clear hd hE
      try clear hS
      go_wp2
      exact Ext.refl _
    case ha => rfl
    apply wpLoose_val rfl rfl
    case hs =>
      intro w1 hC hd Q1 hQ1
      obtain ⟨hE, hS⟩ := hC
      dsimp only [bare]
      obtain ⟨p0, p1, p2, p3⟩ := (⟨hS.2 0 _ rfl, hS.2 1 _ rfl, hS.2 2 _ rfl, hS.2 3 _ rfl⟩ : _ ∧ _ ∧ _ ∧ _)
      clear hd hE
      try clear hS
      go_wp2
      exact Ext.refl _
    case ha => rfl
    apply wpLoose_val rfl rfl
    case hs =>
      intro w1 hC hd Q1 hQ1
      obtain ⟨hE, hS⟩ := hC
      dsimp only [bare]
      obtain ⟨p0, p1, p2, p3⟩ := (⟨hS.2 0 _ rfl, hS.2 1 _ rfl, hS.2 2 _ rfl, hS.2 3 _ rfl⟩ : _ ∧ _ ∧ _ ∧ _)
      clear hd hE
      try clear hS
      go_wp2
      exact Ext.refl _
    case ha => rfl
    apply wpLoose_val rfl rfl
    case hs =>
      intro w1 hC hd Q1 hQ1
      obtain ⟨hE, hS⟩ := hC
      dsimp only [bare]
      obtain ⟨p0, p1, p2, p3⟩ := (⟨hS.2 0 _ rfl, hS.2 1 _ rfl, hS.2 2 _ rfl, hS.2 3 _ rfl⟩ : _ ∧ _ ∧ _ ∧ _)
      clear hd hE
      try clear hS
      go_wp2
      exact Ext.refl _
    case ha => rfl
    apply wpLoose_val rfl rfl
    case hs =>
      intro w1 hC hd Q1 hQ1
      obtain ⟨hE, hS⟩ := hC
      dsimp only [bare]
      clear hd
      go_wp2_with fail
      refine (H2.out _ (X1.out.drew.trans hE)).mono ?_
      rintro e w2 ⟨rfl, hb⟩
      go_wp2_with fail
      exact hb
    case ha => rfl
    apply wpLoose_val rfl rfl
    case hs =>
      intro w1 hC hd Q1 hQ1
      obtain ⟨hE, hS⟩ := hC
      dsimp only [bare]
      obtain ⟨p0, p1, p2, p3⟩ := (⟨hS.2 0 _ rfl, hS.2 1 _ rfl, hS.2 2 _ rfl, hS.2 3 _ rfl⟩ : _ ∧ _ ∧ _ ∧ _)
      clear hd hE
      try clear hS
      go_wp2
      exact Ext.refl _
    case ha => rfl
    apply wpLoose_val rfl rfl
    case hs =>
      intro w1 hC hd Q1 hQ1
      obtain ⟨hE, hS⟩ := hC
      dsimp only [bare]
      obtain ⟨p0, p1, p2, p3⟩ := (⟨hS.2 0 _ rfl, hS.2 1 _ rfl, hS.2 2 _ rfl, hS.2 3 _ rfl⟩ : _ ∧ _ ∧ _ ∧ _)
      clear hd hE
      try clear hS
      go_wp2
      exact Ext.refl _
    case ha => rfl
    apply wpLoose_val rfl rfl
    case hs =>
      intro w1 hC hd Q1 hQ1
      obtain ⟨hE, hS⟩ := hC
      dsimp only [bare]
      obtain ⟨p0, p1, p2, p3⟩ := (⟨hS.2 0 _ rfl, hS.2 1 _ rfl, hS.2 2 _ rfl, hS.2 3 _ rfl⟩ : _ ∧ _ ∧ _ ∧ _)
      clear hd hE
      try clear hS
      go_wp2
      exact Ext.refl _
    case ha => rfl
    refine wpLoose_nil ?_
    intro wsShow hEsShow hSsShow hFsShow
    · have X2 : Hid (Ext w wsShow) := X1.out.drew.trans hEsShow
      have C2 : Hid (CellsAt wsShow w.heap.size [.int .i64 ar, .int .i64 ac, .int .i64 da, .slice a n cap]) := hSsShow
      clear hEsShow hSsShow hFsShow X1 C1 H1 H2
      go_wp2_with fail
      generalize wsShow = W2 at *
      go_loopw [4, 5] (fun v i wr => ∃ (k : Nat) (S : ByteArray), i = .int .i64 k ∧ v = .string S ∧ k ≤ n ∧ Hid (S = txt (headT p ++ rulesP p.rules k)) ∧ Hid (Ext W2 wr)) (fun _ i _ => n - (intOf i).toNat)
      case atStart => exact ⟨0, H0, rfl, rfl, by omega, by unfold Hid; rw [HB.out.2.2.2]; simp [rulesP], Ext.refl _⟩
      case round =>
        obtain ⟨k, S, rfl, rfl, hk, HS, hE2⟩ := hrel
        have hE : Hid (Ext w wr) := X2.out.trans hE2.out
        have p3 := (C2.out.step hE2.out).2 3 _ rfl
        have lk := rulesP_len HB.out.2.1 k (by have := HB.out.1; omega)
        by_cases hlt : k < n
        · have bk : (k : Int) < (n : Int) := by omega
          obtain ⟨b, off, l, rfl, ⟨hbl, hseg⟩, hL⟩ := (HR.out wr hE.out).at (k := k) (by have := HB.out.1; omega)
          obtain ⟨r, hr⟩ : ∃ r, r = p.rules.getD k r0 := ⟨_, rfl⟩
          rw [← hr] at hL
          have hrm : r ∈ p.rules := by have := HB.out.1; rw [hr, List.getD_eq_getElem?_getD, List.getElem?_eq_getElem (by omega)]; exact List.getElem_mem (by omega)
          have hrb := HB.out.2.1 r hrm
          obtain ⟨a1, n1, d1, a2, n2, d2, rfl, e1, e2, N1, K1⟩ := hL
          obtain ⟨q0, q1, q2, q3⟩ := hseg.four
          have lr := ruleT_len hrb
          have lh := HB.out.2.2.1
          have hS : S = txt (headT p ++ rulesP p.rules k) := HS.out
          obtain ⟨V, hV⟩ : ∃ V, V = txt (ruleT r) := ⟨_, rfl⟩
          obtain ⟨Y, hY⟩ : ∃ Y, Y = txt ((headT p ++ rulesP p.rules k) ++ [32]) := ⟨_, rfl⟩
          obtain ⟨G, hG⟩ : ∃ G, G = txt (((headT p ++ rulesP p.rules k) ++ [32]) ++ ruleT r) := ⟨_, rfl⟩
          have A1 : ∀ wx, (Op.stringOp .add S ⟨#[32]⟩).run Tryz.prog wx = .ok (.string Y) wx := fun wx => addT wx hS rfl hY (by simp only [List.length_append, List.length_cons, List.length_nil]; omega)
          have A2 : ∀ wx, (Op.stringOp .add Y V).run Tryz.prog wx = .ok (.string G) wx := fun wx => addT wx hY hV hG (by simp only [List.length_append, List.length_cons, List.length_nil]; omega)
          have HT : Hid (G = txt (headT p ++ rulesP p.rules (k + 1))) := by
            unfold Hid
            rw [hG, rulesP, ← hr]
            simp
          have H3 : Hid (∀ W, Ext wr W → Calls Tryz.prog 42 #[.agg #[.slice a1 n1 d1, .slice a2 n2 d2, .int .i64 r.act, .int .i64 r.data]] W fun e w' => e = .returned (.string V) ∧ Ext W w') := fun W hx => by
            rw [hV]; exact l10Rule_any r a1 a2 n1 d1 n2 d2 W hrb e1 e2 (N1.step hx) (K1.step hx)
          clear hr hrm hrb e1 e2 N1 K1 lr lh hS hV hY hG HS lk hbl hseg
          generalize r.act = ra at *
          generalize r.data = rd at *
          go_wp2_with fail
          refine (H3.out _ (Ext.refl _)).mono ?_
          rintro e w2 ⟨rfl, x2⟩
          have X3 : Hid (Ext W2 w2) := hE2.out.trans x2
          clear x2 H3 q0 q1 q2 q3 p3
          go_wp2
          go_roundw
          case rel => exact ⟨k + 1, G, by go_num, rfl, by omega, HT, X3⟩
          case measure => simp [intOf]; omega
        · obtain rfl : k = n := by omega
          have bk : ¬ ((k : Int) < (k : Int)) := by omega
          obtain ⟨L, hL⟩ : ∃ L, L = headT p ++ rulesP p.rules k := ⟨_, rfl⟩
          have hS : S = txt L := by rw [hL]; exact HS.out
          have hSs : S.size = L.length := by rw [hS]; show L.toArray.size = _; simp
          rw [← hL] at HZ
          have HSL : Hid (S = txt L) := hS
          clear hL HS lk hS
          by_cases hl : 1200 < L.length
          · have hl' : (1200 : Int) < (S.size : Int) := by omega
            clear hSs
            go_wp2
            go_ret2
            exact ⟨by rw [HZ.out.1, HZ.out.2, if_pos hl]; simp [hl, txt], hE.out⟩
          · have hl' : ¬ (1200 : Int) < (S.size : Int) := by omega
            clear hSs
            go_wp2
            go_ret2
            exact ⟨by rw [HZ.out.1, HZ.out.2, if_neg hl]; simp [hl, HSL.out], hE.out⟩
    case hAsShow => kernel_rfl
    case hlsShow => exact ⟨trivial, trivial, trivial, trivial, trivial, trivial, trivial, trivial, trivial, trivial, trivial, trivial, trivial, trivial⟩

end Go.Proofs.YtojaohdmfahpmaaGreatDoor
