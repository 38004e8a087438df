/- What impl's functions that show a policy's parts answer. -/
import Derived.Test.YtojaohdmfahpmaaDoorShowLen
import Derived.Test.YtojaohdmfahpmaaDoorNameIS
import Derived.Test.YtojaohdmfahpmaaDoorToPolicy
import Derived.Deep.Strs
namespace Go.Proofs.YtojaohdmfahpmaaDoor
open Go.RowKit
set_option linter.unusedVariables false

theorem addT {P : Program} (wx : World) {A B C : ByteArray} {a b : List UInt8} (hA : A = txt a) (hB : B = txt b) (hC : C = txt (a ++ b)) (h : a.length + b.length ≤ 9223372036854775807) :
    (Op.stringOp .add A B).run P wx = .ok (.string C) wx := by
  subst hA hB hC
  unfold txt
  rw [run_string_add_sum wx _ _ (by simp [ByteArray.size]; omega), ByteArray.mk_append_mk]

theorem half_nat {n : Int} (h : halfB n = true) : ∃ m : Nat, n = (m : Int) ∧ m ≤ 4294967295 := by
  simp [halfB] at h
  exact ⟨n.toNat, by omega, by omega⟩

theorem decT {n : Int} {w : World} (h : halfB n = true) (hP : Pow w) : Calls Tryd.prog 16 #[.int .i64 n] w fun e w' => e = .returned (.string (txt (numT n))) ∧ Ext w w' := by
  obtain ⟨m, rfl, hm⟩ := half_nat h
  have := dec_nat m w (by omega) hP
  simpa [numT] using this

theorem figT {n : Int} {w : World} (h : halfB n = true) : Calls Tryd.prog 11 #[.int .i64 n] w fun e w' => e = .returned (.string (txt (numT n))) ∧ Ext w w' := by
  obtain ⟨m, rfl, hm⟩ := half_nat h
  exact figures_any (m : Int) w (by omega)

/-- The marks of the comparisons, the first being of none. -/
def cmT (k : Nat) : List UInt8 := ([] :: cmL).getD k []

theorem cmT_pos {k : Nat} (h : 1 ≤ k) : cmT k = cmL.getD (k - 1) [] := by
  obtain ⟨j, rfl⟩ : ∃ j, k = j + 1 := ⟨k - 1, by omega⟩
  simp [cmT]

/-- The program's own table of marks holds what its text lays. -/
def Cms (w : World) : Prop := (∀ k, k < 7 → w.cell? ⟨0, k, none⟩ = some (.string (txt (cmT k)))) ∧ 0 < w.heap.size

theorem Cms.ext {w w' : World} (h : Cms w) (hE : Ext w w') : Cms w' := ⟨fun k hk => (hE.cell (p := ⟨0, k, none⟩) h.2).trans (h.1 k hk), Nat.lt_of_lt_of_le h.2 hE.size⟩

set_option maxRecDepth 100000 in
set_option maxHeartbeats 1600000 in
theorem wideText_any (x y : Int) (w : World) (h : wideB (x, y) = true) (hP : Pow w) :
    Calls Tryd.prog 55 #[.agg #[.int .i64 x, .int .i64 y]] w fun e w' => e = .returned (.string (txt (wideT x y))) ∧ Ext w w' := by
  obtain ⟨hx, hy⟩ : halfB x = true ∧ halfB y = true := by simpa [wideB] using h
  have lx := numT_len hx
  have ly := numT_len hy
  obtain ⟨U, hU⟩ : ∃ U, U = txt (numT x) := ⟨_, rfl⟩
  obtain ⟨V, hV⟩ : ∃ V, V = txt (numT y) := ⟨_, rfl⟩
  obtain ⟨Z, hZ⟩ : ∃ Z, Z = txt (wideT x y) := ⟨_, rfl⟩
  obtain ⟨S1, hS1⟩ : ∃ S, S = txt (numT x ++ [32, 58, 32]) := ⟨_, rfl⟩
  have SA1 : ∀ wx, (Op.stringOp .add U ⟨#[32, 58, 32]⟩).run Tryd.prog wx = .ok (.string S1) wx := fun wx => addT wx hU rfl hS1 (by simp only [List.length_cons, List.length_nil]; omega)
  have SA2 : ∀ wx, (Op.stringOp .add S1 V).run Tryd.prog wx = .ok (.string Z) wx := fun wx => addT wx hS1 hV (hZ.trans (congrArg txt (rfl))) (by simp only [List.length_append, List.length_cons, List.length_nil]; omega)
  clear hS1
  have H1 : Hid (∀ W, Ext w W → Calls Tryd.prog 16 #[.int .i64 x] W fun e w' => e = .returned (.string U) ∧ Ext W w') := fun W hE => by rw [hU]; exact decT hx (hP.ext hE)
  have H2 : Hid (∀ W, Ext w W → Calls Tryd.prog 16 #[.int .i64 y] W fun e w' => e = .returned (.string V) ∧ Ext W w') := fun W hE => by rw [hV]; exact decT hy (hP.ext hE)
  rw [← hZ]
  have X : Hid (Ext w (w.alloc (.cells #[.int .i64 x, .int .i64 y] 54))) := Ext.one _ _
  have C0 : Hid (CellsAt (w.alloc (.cells #[.int .i64 x, .int .i64 y] 54)) w.heap.size [.int .i64 x, .int .i64 y]) := CellsAt.new w _ _
  clear hU hV hZ hx hy h lx ly
  go_enter Tryd.func55, Tryd.ntmps55
  go_wp2_with fail
  generalize w.alloc (.cells #[.int .i64 x, .int .i64 y] 54) = W0 at *
  refine' wp_region_loose (.inl _ :: .inl _ :: .inl _ :: .inl _ :: .inl _ :: .inl _ :: .inl _ :: .inl _ :: .inl _ :: []) (fun w' => CellsAt w' w.heap.size [.int .i64 x, .int .i64 y]) (by kernel_rfl) (by kernel_rfl) (C0.out) (fun _ _ h hE => h.step hE) ?hAa ?hla ?hMa
  case' hMa => skip
  apply wpLoose_val rfl rfl
  case hs =>
    intro w1 hC hd Q1 hQ1
    obtain ⟨hE, hS⟩ := hC
    dsimp only [bare]
    obtain ⟨p0, p1⟩ := (⟨hS.2 0 _ rfl, hS.2 1 _ rfl⟩ : _ ∧ _)
    clear hd hE
    try clear hS
    go_wp2
    exact Ext.refl _
  case ha => rfl
  apply wpLoose_val rfl rfl
  case hs =>
    intro w1 hC hd Q1 hQ1
    obtain ⟨hE, hS⟩ := hC
    dsimp only [bare]
    obtain ⟨p0, p1⟩ := (⟨hS.2 0 _ rfl, hS.2 1 _ rfl⟩ : _ ∧ _)
    clear hd hE
    try clear hS
    go_wp2
    exact Ext.refl _
  case ha => rfl
  apply wpLoose_val rfl rfl
  case hs =>
    intro w1 hC hd Q1 hQ1
    obtain ⟨hE, hS⟩ := hC
    dsimp only [bare]
    clear hd
    go_wp2_with fail
    refine (H1.out _ (X.out.drew.trans hE)).mono ?_
    rintro e w2 ⟨rfl, hb⟩
    go_wp2_with fail
    exact hb
  case ha => rfl
  apply wpLoose_val rfl rfl
  case hs =>
    intro w1 hC hd Q1 hQ1
    obtain ⟨hE, hS⟩ := hC
    dsimp only [bare]
    obtain ⟨p0, p1⟩ := (⟨hS.2 0 _ rfl, hS.2 1 _ rfl⟩ : _ ∧ _)
    clear hd hE
    try clear hS
    go_wp2
    exact Ext.refl _
  case ha => rfl
  apply wpLoose_val rfl rfl
  case hs =>
    intro w1 hC hd Q1 hQ1
    obtain ⟨hE, hS⟩ := hC
    dsimp only [bare]
    obtain ⟨p0, p1⟩ := (⟨hS.2 0 _ rfl, hS.2 1 _ rfl⟩ : _ ∧ _)
    clear hd hE
    try clear hS
    go_wp2
    exact Ext.refl _
  case ha => rfl
  apply wpLoose_val rfl rfl
  case hs =>
    intro w1 hC hd Q1 hQ1
    obtain ⟨hE, hS⟩ := hC
    dsimp only [bare]
    obtain ⟨p0, p1⟩ := (⟨hS.2 0 _ rfl, hS.2 1 _ rfl⟩ : _ ∧ _)
    clear hd hE
    try clear hS
    go_wp2
    exact Ext.refl _
  case ha => rfl
  apply wpLoose_val rfl rfl
  case hs =>
    intro w1 hC hd Q1 hQ1
    obtain ⟨hE, hS⟩ := hC
    dsimp only [bare]
    clear hd
    go_wp2_with fail
    refine (H2.out _ (X.out.drew.trans hE)).mono ?_
    rintro e w2 ⟨rfl, hb⟩
    go_wp2_with fail
    exact hb
  case ha => rfl
  apply wpLoose_val rfl rfl
  case hs =>
    intro w1 hC hd Q1 hQ1
    obtain ⟨hE, hS⟩ := hC
    dsimp only [bare]
    obtain ⟨p0, p1⟩ := (⟨hS.2 0 _ rfl, hS.2 1 _ rfl⟩ : _ ∧ _)
    clear hd hE
    try clear hS
    go_wp2
    exact Ext.refl _
  case ha => rfl
  apply wpLoose_val rfl rfl
  case hs =>
    intro w1 hC hd Q1 hQ1
    obtain ⟨hE, hS⟩ := hC
    dsimp only [bare]
    obtain ⟨p0, p1⟩ := (⟨hS.2 0 _ rfl, hS.2 1 _ rfl⟩ : _ ∧ _)
    clear hd hE
    try clear hS
    go_wp2
    exact Ext.refl _
  case ha => rfl
  refine wpLoose_nil ?_
  intro wa hEa hSa hFa
  · have XE : Hid (Ext w wa) := X.out.drew.trans hEa
    clear hEa hSa hFa
    go_wp2
    go_ret
    exact ⟨rfl, XE.out⟩
  case hAa => kernel_rfl
  case hla => exact ⟨trivial, trivial, trivial, trivial, trivial, trivial, trivial, trivial, trivial, trivial⟩

set_option maxRecDepth 100000 in
set_option maxHeartbeats 1600000 in
theorem outcomeText_any (a d : Int) (w : World) (h : outB a d = true) (hP : Pow w) :
    Calls Tryd.prog 17 #[.int .i64 a, .int .i64 d] w fun e w' => e = .returned (.string (txt (outT a d))) ∧ Ext w w' := by
  obtain ⟨_, hd, h0, h5⟩ := outB_half h
  have lx := actL_len a.toNat
  have ly := numT_len hd
  obtain ⟨U, hU⟩ : ∃ U, U = txt (actL.getD a.toNat []) := ⟨_, rfl⟩
  obtain ⟨V, hV⟩ : ∃ V, V = txt (numT d) := ⟨_, rfl⟩
  obtain ⟨Z, hZ⟩ : ∃ Z, Z = txt (outT a d) := ⟨_, rfl⟩
  obtain ⟨S1, hS1⟩ : ∃ S, S = txt (actL.getD a.toNat [] ++ [32]) := ⟨_, rfl⟩
  have SA1 : ∀ wx, (Op.stringOp .add U ⟨#[32]⟩).run Tryd.prog wx = .ok (.string S1) wx := fun wx => addT wx hU rfl hS1 (by simp only [List.length_cons, List.length_nil]; omega)
  have SA2 : ∀ wx, (Op.stringOp .add S1 V).run Tryd.prog wx = .ok (.string Z) wx := fun wx => addT wx hS1 hV (hZ.trans (congrArg txt (rfl))) (by simp only [List.length_append, List.length_cons, List.length_nil]; omega)
  clear hS1
  have H1 : Hid (∀ W, Ext w W → Calls Tryd.prog 32 #[.int .i64 a] W fun e w' => e = .returned (.string U) ∧ Ext W w') := fun W hE => by
    have := iName_any a W
    rw [nameV_actL h0 h5] at this
    rw [hU]
    exact this.mono (by rintro e w' ⟨rfl, hb⟩; first | exact ⟨rfl, hb⟩ | exact ⟨rfl, hb ▸ Ext.refl _⟩)
  have H2 : Hid (∀ W, Ext w W → Calls Tryd.prog 16 #[.int .i64 d] W fun e w' => e = .returned (.string V) ∧ Ext W w') := fun W hE => by rw [hV]; exact decT hd (hP.ext hE)
  rw [← hZ]
  clear hU hV hZ hd h lx ly h0 h5
  go_enter Tryd.func17, Tryd.ntmps17
  go_wp2_with fail
  refine (H1.out _ (Ext.refl _)).mono ?_
  rintro e w1 ⟨rfl, x1⟩
  have X1 : Hid (Ext w w1) := x1
  clear x1
  go_wp2_with fail
  refine (H2.out _ X1.out).mono ?_
  rintro e w2 ⟨rfl, x2⟩
  have X2 : Hid (Ext w w2) := X1.out.trans x2
  clear x2
  go_wp2
  go_ret
  exact ⟨rfl, X2.out⟩

set_option maxRecDepth 100000 in
set_option maxHeartbeats 1600000 in
theorem condText_any (c : CN) (w : World) (h : condB c = true) (hP : Pow w) (hC : Cms w) :
    Calls Tryd.prog 48 #[c.v] w fun e w' => e = .returned (.string (txt (condT c))) ∧ Ext w w' := by
  obtain ⟨ha, c1, c6, hm, hv⟩ := condB_pieces h
  have lx := numT_len ha
  have ly := wideT_len hm
  have lz := wideT_len hv
  have lm := cmL_len (c.cm.toNat - 1)
  obtain ⟨U, hU⟩ : ∃ U, U = txt (numT c.arg) := ⟨_, rfl⟩
  obtain ⟨V, hV⟩ : ∃ V, V = txt (wideT c.mh c.ml) := ⟨_, rfl⟩
  obtain ⟨M, hM⟩ : ∃ M, M = txt (cmL.getD (c.cm.toNat - 1) []) := ⟨_, rfl⟩
  obtain ⟨T, hT⟩ : ∃ T, T = txt (wideT c.vh c.vl) := ⟨_, rfl⟩
  obtain ⟨Z, hZ⟩ : ∃ Z, Z = txt (condT c) := ⟨_, rfl⟩
  obtain ⟨S1, hS1⟩ : ∃ S, S = txt ([97, 114, 103, 32] ++ numT (c.arg)) := ⟨_, rfl⟩
  have SA1 : ∀ wx, (Op.stringOp .add ⟨#[97, 114, 103, 32]⟩ U).run Tryd.prog wx = .ok (.string S1) wx := fun wx => addT wx rfl hU hS1 (by simp only [List.length_cons, List.length_nil]; omega)
  obtain ⟨S2, hS2⟩ : ∃ S, S = txt (([97, 114, 103, 32] ++ numT (c.arg)) ++ [32, 38, 32]) := ⟨_, rfl⟩
  have SA2 : ∀ wx, (Op.stringOp .add S1 ⟨#[32, 38, 32]⟩).run Tryd.prog wx = .ok (.string S2) wx := fun wx => addT wx hS1 rfl hS2 (by simp only [List.length_append, List.length_cons, List.length_nil]; omega)
  obtain ⟨S3, hS3⟩ : ∃ S, S = txt ((([97, 114, 103, 32] ++ numT (c.arg)) ++ [32, 38, 32]) ++ wideT c.mh c.ml) := ⟨_, rfl⟩
  have SA3 : ∀ wx, (Op.stringOp .add S2 V).run Tryd.prog wx = .ok (.string S3) wx := fun wx => addT wx hS2 hV hS3 (by simp only [List.length_append, List.length_cons, List.length_nil]; omega)
  obtain ⟨S4, hS4⟩ : ∃ S, S = txt (((([97, 114, 103, 32] ++ numT (c.arg)) ++ [32, 38, 32]) ++ wideT c.mh c.ml) ++ [32]) := ⟨_, rfl⟩
  have SA4 : ∀ wx, (Op.stringOp .add S3 ⟨#[32]⟩).run Tryd.prog wx = .ok (.string S4) wx := fun wx => addT wx hS3 rfl hS4 (by simp only [List.length_append, List.length_cons, List.length_nil]; omega)
  obtain ⟨S5, hS5⟩ : ∃ S, S = txt ((((([97, 114, 103, 32] ++ numT (c.arg)) ++ [32, 38, 32]) ++ wideT c.mh c.ml) ++ [32]) ++ cmL.getD (c.cm.toNat - 1) []) := ⟨_, rfl⟩
  have SA5 : ∀ wx, (Op.stringOp .add S4 M).run Tryd.prog wx = .ok (.string S5) wx := fun wx => addT wx hS4 hM hS5 (by simp only [List.length_append, List.length_cons, List.length_nil]; omega)
  obtain ⟨S6, hS6⟩ : ∃ S, S = txt (((((([97, 114, 103, 32] ++ numT (c.arg)) ++ [32, 38, 32]) ++ wideT c.mh c.ml) ++ [32]) ++ cmL.getD (c.cm.toNat - 1) []) ++ [32]) := ⟨_, rfl⟩
  have SA6 : ∀ wx, (Op.stringOp .add S5 ⟨#[32]⟩).run Tryd.prog wx = .ok (.string S6) wx := fun wx => addT wx hS5 rfl hS6 (by simp only [List.length_append, List.length_cons, List.length_nil]; omega)
  have SA7 : ∀ wx, (Op.stringOp .add S6 T).run Tryd.prog wx = .ok (.string Z) wx := fun wx => addT wx hS6 hT (hZ.trans (congrArg txt (rfl))) (by simp only [List.length_append, List.length_cons, List.length_nil]; omega)
  clear hS1 hS2 hS3 hS4 hS5 hS6
  have H1 : Hid (∀ W, Ext w W → Calls Tryd.prog 16 #[.int .i64 c.arg] W fun e w' => e = .returned (.string U) ∧ Ext W w') := fun W hE => by rw [hU]; exact decT ha (hP.ext hE)
  have H2 : Hid (∀ W, Ext w W → Calls Tryd.prog 55 #[.agg #[.int .i64 c.mh, .int .i64 c.ml]] W fun e w' => e = .returned (.string V) ∧ Ext W w') := fun W hE => by rw [hV]; exact wideText_any _ _ W hm (hP.ext hE)
  have H3 : Hid (∀ W, Ext w W → Calls Tryd.prog 55 #[.agg #[.int .i64 c.vh, .int .i64 c.vl]] W fun e w' => e = .returned (.string T) ∧ Ext W w') := fun W hE => by rw [hT]; exact wideText_any _ _ W hv (hP.ext hE)
  have HM : Hid (∀ W, Ext w W → W.cell? ⟨0, c.cm.toNat, none⟩ = some (.string M)) := fun W hE => by
    rw [hM, ← cmT_pos (by omega)]; exact (hC.ext hE).1 _ (by omega)
  rw [← hZ]
  clear hU hV hM hT hZ ha hm hv h lx ly lz lm hP hC
  obtain ⟨ag, mh, ml, cm, vh, vl⟩ := c
  simp only at *
  obtain ⟨k, rfl⟩ : ∃ k : Nat, cm = (k : Int) := ⟨cm.toNat, by omega⟩
  simp only [Int.toNat_natCast] at HM
  have k7 : (k : Int) < 7 := by omega
  have k0 : (0 : Int) ≤ (k : Int) := by omega
  unfold CN.v
  simp only
  have X : Hid (Ext w (w.alloc (.cells #[.int .i64 ag, .int .i64 mh, .int .i64 ml, .int .i64 k, .int .i64 vh, .int .i64 vl] 56))) := Ext.one _ _
  have C0 : Hid (CellsAt (w.alloc (.cells #[.int .i64 ag, .int .i64 mh, .int .i64 ml, .int .i64 k, .int .i64 vh, .int .i64 vl] 56)) w.heap.size [.int .i64 ag, .int .i64 mh, .int .i64 ml, .int .i64 k, .int .i64 vh, .int .i64 vl]) := CellsAt.new w _ _
  go_enter Tryd.func48, Tryd.ntmps48
  go_wp2_with fail
  generalize w.alloc (.cells #[.int .i64 ag, .int .i64 mh, .int .i64 ml, .int .i64 k, .int .i64 vh, .int .i64 vl] 56) = W0 at *
  refine' wp_region_loose (.inl _ :: .inl _ :: .inl _ :: .inl _ :: .inl _ :: .inl _ :: .inl _ :: .inl _ :: .inl _ :: .inl _ :: .inl _ :: .inl _ :: .inl _ :: .inl _ :: .inl _ :: .inl _ :: .inl _ :: .inl _ :: .inl _ :: .inl _ :: .inl _ :: []) (fun w' => CellsAt w' w.heap.size [.int .i64 ag, .int .i64 mh, .int .i64 ml, .int .i64 k, .int .i64 vh, .int .i64 vl] ∧ (0 < w'.heap.size ∧ w'.cell? ⟨0, k, none⟩ = some (.string M))) (by kernel_rfl) (by kernel_rfl) (⟨C0.out, by have := HM.out _ X.out; exact ⟨World.block_lt_of_cell? _ _ this, this⟩⟩) (fun _ _ h hE => ⟨h.1.step hE, Nat.lt_of_lt_of_le h.2.1 hE.size, (hE.cell (p := ⟨0, k, none⟩) h.2.1).trans h.2.2⟩) ?hAa ?hla ?hMa
  case' hMa => skip
  apply wpLoose_val rfl rfl
  case hs =>
    intro w1 hC hd Q1 hQ1
    obtain ⟨hE, hS⟩ := hC
    dsimp only [bare]
    obtain ⟨p0, p1, p2, p3, p4, p5, pm⟩ := (⟨hS.1.2 0 _ rfl, hS.1.2 1 _ rfl, hS.1.2 2 _ rfl, hS.1.2 3 _ rfl, hS.1.2 4 _ rfl, hS.1.2 5 _ rfl, hS.2.2⟩ : _ ∧ _ ∧ _ ∧ _ ∧ _ ∧ _ ∧ _)
    clear hd hE
    try clear hS
    go_wp2
    exact Ext.refl _
  case ha => rfl
  apply wpLoose_val rfl rfl
  case hs =>
    intro w1 hC hd Q1 hQ1
    obtain ⟨hE, hS⟩ := hC
    dsimp only [bare]
    obtain ⟨p0, p1, p2, p3, p4, p5, pm⟩ := (⟨hS.1.2 0 _ rfl, hS.1.2 1 _ rfl, hS.1.2 2 _ rfl, hS.1.2 3 _ rfl, hS.1.2 4 _ rfl, hS.1.2 5 _ rfl, hS.2.2⟩ : _ ∧ _ ∧ _ ∧ _ ∧ _ ∧ _ ∧ _)
    clear hd hE
    try clear hS
    go_wp2
    exact Ext.refl _
  case ha => rfl
  apply wpLoose_val rfl rfl
  case hs =>
    intro w1 hC hd Q1 hQ1
    obtain ⟨hE, hS⟩ := hC
    dsimp only [bare]
    clear hd
    go_wp2_with fail
    refine (H1.out _ (X.out.drew.trans hE)).mono ?_
    rintro e w2 ⟨rfl, hb⟩
    go_wp2_with fail
    exact hb
  case ha => rfl
  apply wpLoose_val rfl rfl
  case hs =>
    intro w1 hC hd Q1 hQ1
    obtain ⟨hE, hS⟩ := hC
    dsimp only [bare]
    obtain ⟨p0, p1, p2, p3, p4, p5, pm⟩ := (⟨hS.1.2 0 _ rfl, hS.1.2 1 _ rfl, hS.1.2 2 _ rfl, hS.1.2 3 _ rfl, hS.1.2 4 _ rfl, hS.1.2 5 _ rfl, hS.2.2⟩ : _ ∧ _ ∧ _ ∧ _ ∧ _ ∧ _ ∧ _)
    clear hd hE
    try clear hS
    go_wp2
    exact Ext.refl _
  case ha => rfl
  apply wpLoose_val rfl rfl
  case hs =>
    intro w1 hC hd Q1 hQ1
    obtain ⟨hE, hS⟩ := hC
    dsimp only [bare]
    obtain ⟨p0, p1, p2, p3, p4, p5, pm⟩ := (⟨hS.1.2 0 _ rfl, hS.1.2 1 _ rfl, hS.1.2 2 _ rfl, hS.1.2 3 _ rfl, hS.1.2 4 _ rfl, hS.1.2 5 _ rfl, hS.2.2⟩ : _ ∧ _ ∧ _ ∧ _ ∧ _ ∧ _ ∧ _)
    clear hd hE
    try clear hS
    go_wp2
    exact Ext.refl _
  case ha => rfl
  apply wpLoose_val rfl rfl
  case hs =>
    intro w1 hC hd Q1 hQ1
    obtain ⟨hE, hS⟩ := hC
    dsimp only [bare]
    obtain ⟨p0, p1, p2, p3, p4, p5, pm⟩ := (⟨hS.1.2 0 _ rfl, hS.1.2 1 _ rfl, hS.1.2 2 _ rfl, hS.1.2 3 _ rfl, hS.1.2 4 _ rfl, hS.1.2 5 _ rfl, hS.2.2⟩ : _ ∧ _ ∧ _ ∧ _ ∧ _ ∧ _ ∧ _)
    clear hd hE
    try clear hS
    go_wp2
    exact Ext.refl _
  case ha => rfl
  apply wpLoose_val rfl rfl
  case hs =>
    intro w1 hC hd Q1 hQ1
    obtain ⟨hE, hS⟩ := hC
    dsimp only [bare]
    obtain ⟨p0, p1, p2, p3, p4, p5, pm⟩ := (⟨hS.1.2 0 _ rfl, hS.1.2 1 _ rfl, hS.1.2 2 _ rfl, hS.1.2 3 _ rfl, hS.1.2 4 _ rfl, hS.1.2 5 _ rfl, hS.2.2⟩ : _ ∧ _ ∧ _ ∧ _ ∧ _ ∧ _ ∧ _)
    clear hd hE
    try clear hS
    go_wp2
    exact Ext.refl _
  case ha => rfl
  apply wpLoose_val rfl rfl
  case hs =>
    intro w1 hC hd Q1 hQ1
    obtain ⟨hE, hS⟩ := hC
    dsimp only [bare]
    clear hd
    go_wp2_with fail
    refine (H2.out _ (X.out.drew.trans hE)).mono ?_
    rintro e w2 ⟨rfl, hb⟩
    go_wp2_with fail
    exact hb
  case ha => rfl
  apply wpLoose_val rfl rfl
  case hs =>
    intro w1 hC hd Q1 hQ1
    obtain ⟨hE, hS⟩ := hC
    dsimp only [bare]
    obtain ⟨p0, p1, p2, p3, p4, p5, pm⟩ := (⟨hS.1.2 0 _ rfl, hS.1.2 1 _ rfl, hS.1.2 2 _ rfl, hS.1.2 3 _ rfl, hS.1.2 4 _ rfl, hS.1.2 5 _ rfl, hS.2.2⟩ : _ ∧ _ ∧ _ ∧ _ ∧ _ ∧ _ ∧ _)
    clear hd hE
    try clear hS
    go_wp2
    exact Ext.refl _
  case ha => rfl
  apply wpLoose_val rfl rfl
  case hs =>
    intro w1 hC hd Q1 hQ1
    obtain ⟨hE, hS⟩ := hC
    dsimp only [bare]
    obtain ⟨p0, p1, p2, p3, p4, p5, pm⟩ := (⟨hS.1.2 0 _ rfl, hS.1.2 1 _ rfl, hS.1.2 2 _ rfl, hS.1.2 3 _ rfl, hS.1.2 4 _ rfl, hS.1.2 5 _ rfl, hS.2.2⟩ : _ ∧ _ ∧ _ ∧ _ ∧ _ ∧ _ ∧ _)
    clear hd hE
    try clear hS
    go_wp2
    exact Ext.refl _
  case ha => rfl
  apply wpLoose_val rfl rfl
  case hs =>
    intro w1 hC hd Q1 hQ1
    obtain ⟨hE, hS⟩ := hC
    dsimp only [bare]
    obtain ⟨p0, p1, p2, p3, p4, p5, pm⟩ := (⟨hS.1.2 0 _ rfl, hS.1.2 1 _ rfl, hS.1.2 2 _ rfl, hS.1.2 3 _ rfl, hS.1.2 4 _ rfl, hS.1.2 5 _ rfl, hS.2.2⟩ : _ ∧ _ ∧ _ ∧ _ ∧ _ ∧ _ ∧ _)
    clear hd hE
    try clear hS
    go_wp2
    exact Ext.refl _
  case ha => rfl
  apply wpLoose_val rfl rfl
  case hs =>
    intro w1 hC hd Q1 hQ1
    obtain ⟨hE, hS⟩ := hC
    dsimp only [bare]
    obtain ⟨p0, p1, p2, p3, p4, p5, pm⟩ := (⟨hS.1.2 0 _ rfl, hS.1.2 1 _ rfl, hS.1.2 2 _ rfl, hS.1.2 3 _ rfl, hS.1.2 4 _ rfl, hS.1.2 5 _ rfl, hS.2.2⟩ : _ ∧ _ ∧ _ ∧ _ ∧ _ ∧ _ ∧ _)
    clear hd hE
    try clear hS
    go_wp2
    exact Ext.refl _
  case ha => rfl
  apply wpLoose_val rfl rfl
  case hs =>
    intro w1 hC hd Q1 hQ1
    obtain ⟨hE, hS⟩ := hC
    dsimp only [bare]
    obtain ⟨p0, p1, p2, p3, p4, p5, pm⟩ := (⟨hS.1.2 0 _ rfl, hS.1.2 1 _ rfl, hS.1.2 2 _ rfl, hS.1.2 3 _ rfl, hS.1.2 4 _ rfl, hS.1.2 5 _ rfl, hS.2.2⟩ : _ ∧ _ ∧ _ ∧ _ ∧ _ ∧ _ ∧ _)
    clear hd hE
    try clear hS
    go_wp2
    exact Ext.refl _
  case ha => rfl
  apply wpLoose_val rfl rfl
  case hs =>
    intro w1 hC hd Q1 hQ1
    obtain ⟨hE, hS⟩ := hC
    dsimp only [bare]
    obtain ⟨p0, p1, p2, p3, p4, p5, pm⟩ := (⟨hS.1.2 0 _ rfl, hS.1.2 1 _ rfl, hS.1.2 2 _ rfl, hS.1.2 3 _ rfl, hS.1.2 4 _ rfl, hS.1.2 5 _ rfl, hS.2.2⟩ : _ ∧ _ ∧ _ ∧ _ ∧ _ ∧ _ ∧ _)
    clear hd hE
    try clear hS
    go_wp2
    exact Ext.refl _
  case ha => rfl
  apply wpLoose_val rfl rfl
  case hs =>
    intro w1 hC hd Q1 hQ1
    obtain ⟨hE, hS⟩ := hC
    dsimp only [bare]
    obtain ⟨p0, p1, p2, p3, p4, p5, pm⟩ := (⟨hS.1.2 0 _ rfl, hS.1.2 1 _ rfl, hS.1.2 2 _ rfl, hS.1.2 3 _ rfl, hS.1.2 4 _ rfl, hS.1.2 5 _ rfl, hS.2.2⟩ : _ ∧ _ ∧ _ ∧ _ ∧ _ ∧ _ ∧ _)
    clear hd hE
    try clear hS
    go_wp2
    exact Ext.refl _
  case ha => rfl
  apply wpLoose_val rfl rfl
  case hs =>
    intro w1 hC hd Q1 hQ1
    obtain ⟨hE, hS⟩ := hC
    dsimp only [bare]
    obtain ⟨p0, p1, p2, p3, p4, p5, pm⟩ := (⟨hS.1.2 0 _ rfl, hS.1.2 1 _ rfl, hS.1.2 2 _ rfl, hS.1.2 3 _ rfl, hS.1.2 4 _ rfl, hS.1.2 5 _ rfl, hS.2.2⟩ : _ ∧ _ ∧ _ ∧ _ ∧ _ ∧ _ ∧ _)
    clear hd hE
    try clear hS
    go_wp2
    exact Ext.refl _
  case ha => rfl
  apply wpLoose_val rfl rfl
  case hs =>
    intro w1 hC hd Q1 hQ1
    obtain ⟨hE, hS⟩ := hC
    dsimp only [bare]
    obtain ⟨p0, p1, p2, p3, p4, p5, pm⟩ := (⟨hS.1.2 0 _ rfl, hS.1.2 1 _ rfl, hS.1.2 2 _ rfl, hS.1.2 3 _ rfl, hS.1.2 4 _ rfl, hS.1.2 5 _ rfl, hS.2.2⟩ : _ ∧ _ ∧ _ ∧ _ ∧ _ ∧ _ ∧ _)
    clear hd hE
    try clear hS
    go_wp2
    exact Ext.refl _
  case ha => rfl
  apply wpLoose_val rfl rfl
  case hs =>
    intro w1 hC hd Q1 hQ1
    obtain ⟨hE, hS⟩ := hC
    dsimp only [bare]
    obtain ⟨p0, p1, p2, p3, p4, p5, pm⟩ := (⟨hS.1.2 0 _ rfl, hS.1.2 1 _ rfl, hS.1.2 2 _ rfl, hS.1.2 3 _ rfl, hS.1.2 4 _ rfl, hS.1.2 5 _ rfl, hS.2.2⟩ : _ ∧ _ ∧ _ ∧ _ ∧ _ ∧ _ ∧ _)
    clear hd hE
    try clear hS
    go_wp2
    exact Ext.refl _
  case ha => rfl
  apply wpLoose_val rfl rfl
  case hs =>
    intro w1 hC hd Q1 hQ1
    obtain ⟨hE, hS⟩ := hC
    dsimp only [bare]
    clear hd
    go_wp2_with fail
    refine (H3.out _ (X.out.drew.trans hE)).mono ?_
    rintro e w2 ⟨rfl, hb⟩
    go_wp2_with fail
    exact hb
  case ha => rfl
  apply wpLoose_val rfl rfl
  case hs =>
    intro w1 hC hd Q1 hQ1
    obtain ⟨hE, hS⟩ := hC
    dsimp only [bare]
    obtain ⟨p0, p1, p2, p3, p4, p5, pm⟩ := (⟨hS.1.2 0 _ rfl, hS.1.2 1 _ rfl, hS.1.2 2 _ rfl, hS.1.2 3 _ rfl, hS.1.2 4 _ rfl, hS.1.2 5 _ rfl, hS.2.2⟩ : _ ∧ _ ∧ _ ∧ _ ∧ _ ∧ _ ∧ _)
    clear hd hE
    try clear hS
    go_wp2
    exact Ext.refl _
  case ha => rfl
  apply wpLoose_val rfl rfl
  case hs =>
    intro w1 hC hd Q1 hQ1
    obtain ⟨hE, hS⟩ := hC
    dsimp only [bare]
    obtain ⟨p0, p1, p2, p3, p4, p5, pm⟩ := (⟨hS.1.2 0 _ rfl, hS.1.2 1 _ rfl, hS.1.2 2 _ rfl, hS.1.2 3 _ rfl, hS.1.2 4 _ rfl, hS.1.2 5 _ rfl, hS.2.2⟩ : _ ∧ _ ∧ _ ∧ _ ∧ _ ∧ _ ∧ _)
    clear hd hE
    try clear hS
    go_wp2
    exact Ext.refl _
  case ha => rfl
  refine wpLoose_nil ?_
  intro wa hEa hSa hFa
  · have XE : Hid (Ext w wa) := X.out.drew.trans hEa
    clear hEa hSa hFa
    go_wp2
    go_ret
    exact ⟨rfl, XE.out⟩
  case hAa => kernel_rfl
  case hla => exact ⟨trivial, trivial, trivial, trivial, trivial, trivial, trivial, trivial, trivial, trivial, trivial, trivial, trivial, trivial, trivial, trivial, trivial, trivial, trivial, trivial, trivial, trivial⟩

set_option maxRecDepth 100000 in
set_option maxHeartbeats 1600000 in
theorem numsText_any (a : Option Addr) (cap n : Nat) (l : List Int) (w : World) (hn : n = l.length) (hl : n ≤ 4) (hcap : n ≤ cap) (hh : ∀ z ∈ l, halfB z = true) (h : Nums w a l) (hP : Pow w) :
    Calls Tryd.prog 33 #[.slice a n cap] w fun e w' => e = .returned (.string (txt (numsT l))) ∧ Ext w w' := by
  have HA : Hid (∀ W, Ext w W → Nums W a l ∧ Pow W) := fun W hE => ⟨h.step hE, hP.ext hE⟩
  have HL : Hid (n = l.length ∧ (∀ z ∈ l, halfB z = true)) := ⟨hn, hh⟩
  clear h hP
  by_cases h0 : n = 0
  · subst h0
    have HZ : Hid (numsT l = [97, 110, 121]) := by
      have : l = [] := List.length_eq_zero_iff.1 hn.symm
      rw [this]; rfl
    clear hn hh
    rw [HZ.out]
    go_enter Tryd.func33, Tryd.ntmps33
    go_wp2
    go_ret
    exact ⟨rfl, Ext.refl _⟩
  · obtain ⟨m, rfl⟩ : ∃ m, n = m + 1 := ⟨n - 1, by omega⟩
    obtain ⟨d, rfl⟩ : ∃ d, cap = d + 1 := ⟨cap - 1, by omega⟩
    obtain ⟨Z, hZ⟩ : ∃ Z, Z = txt (numsT l) := ⟨_, rfl⟩
    have HZ : Hid (Z = txt (numsP l (m + 1))) := by rw [hZ, hn, numsP_all (by omega)]; rfl
    rw [← hZ]
    clear hZ
    obtain ⟨b, off, rfl, hb, c0⟩ := (HA.out w (Ext.refl w)).1.at (k := 0) (by omega)
    rw [Nat.add_zero] at c0
    obtain ⟨z, hz⟩ : ∃ z, z = l.getD 0 0 := ⟨_, rfl⟩
    have hzm : z ∈ l := by rw [hz, List.getD_eq_getElem?_getD, List.getElem?_eq_getElem (by omega)]; exact List.getElem_mem (by omega)
    obtain ⟨U, hU⟩ : ∃ U, U = txt (numT z) := ⟨_, rfl⟩
    have HU : Hid (U = txt (numsP l 1)) := by unfold Hid; rw [hU, hz]; simp [numsP]
    rw [← hz] at c0
    have H1 : Hid (Calls Tryd.prog 16 #[.int .i64 z] w fun e w' => e = .returned (.string U) ∧ Ext w w') := by rw [hU]; exact decT (hh z hzm) (HA.out w (Ext.refl w)).2
    have hc1 : ((m : Int) + 1 == 0) = false := by simp; omega
    have hc2 : (0 : Int) ≤ (m : Int) := by omega
    have hc3 : (0 : Int) < (m : Int) + 1 := by omega
    have hml : m ≤ 3 := by omega
    clear hn hh hz hzm hU h0 hl
    rcases Nat.eq_zero_or_pos m with rfl | hm
    · by_cases hd : d = 0
      · subst hd
        go_enter Tryd.func33, Tryd.ntmps33
        go_wp2_with fail
        refine H1.out.mono ?_
        rintro e w1 ⟨rfl, x1⟩
        have X1 : Hid (Ext w w1) := x1
        clear x1 H1 c0
        go_wp2_with fail
        go_loopw [3, 16] (fun v i wr => i = .int .i64 0 ∧ v = .string U ∧ Hid (Ext w wr)) (fun _ i _ => 0 - (intOf i).toNat)
        case atStart => exact ⟨rfl, rfl, X1.out⟩
        case round =>
          obtain ⟨rfl, rfl, hE⟩ := hrel
          go_wp2
          go_ret
          exact ⟨by rw [HZ.out, HU.out]; rfl, hE.out⟩
      · go_enter Tryd.func33, Tryd.ntmps33
        go_wp2_with fail
        refine H1.out.mono ?_
        rintro e w1 ⟨rfl, x1⟩
        have X1 : Hid (Ext w w1) := x1
        clear x1 H1 c0
        go_wp2_with fail
        go_loopw [3, 16] (fun v i wr => i = .int .i64 0 ∧ v = .string U ∧ Hid (Ext w wr)) (fun _ i _ => 0 - (intOf i).toNat)
        case atStart => exact ⟨rfl, rfl, X1.out⟩
        case round =>
          obtain ⟨rfl, rfl, hE⟩ := hrel
          go_wp2
          go_ret
          exact ⟨by rw [HZ.out, HU.out]; rfl, hE.out⟩
    · obtain ⟨d, rfl⟩ : ∃ f, d = f + 1 := ⟨d - 1, by omega⟩
      go_enter Tryd.func33, Tryd.ntmps33
      go_wp2_with fail
      refine H1.out.mono ?_
      rintro e w1 ⟨rfl, x1⟩
      have X1 : Hid (Ext w w1) := x1
      clear x1 H1 c0 hc1 hc2 hc3
      go_wp2_with fail
      go_loopw [3, 16] (fun v i wr => ∃ (k : Nat) (S : ByteArray), i = .int .i64 k ∧ v = .string S ∧ k ≤ m ∧ Hid (S = txt (numsP l (k + 1))) ∧ Hid (Ext w wr)) (fun _ i _ => m - (intOf i).toNat)
      case atStart => exact ⟨0, U, rfl, rfl, by omega, HU, X1⟩
      case round =>
        obtain ⟨k, S, rfl, rfl, hk, HS, hE⟩ := hrel
        by_cases hlt : k < m
        · have bk : (k : Int) < (m : Int) := by omega
          obtain ⟨b', off', e', _, cz⟩ := (HA.out wr hE.out).1.at (k := k + 1) (by have := HL.out.1; omega)
          obtain ⟨rfl, rfl⟩ : b = b' ∧ off = off' := by injection e' with e'; injection e' with e1 e2; exact ⟨e1, e2⟩
          clear e'
          rw [show off + (k + 1) = off + 1 + k by omega] at cz
          obtain ⟨z2, hz2⟩ : ∃ z, z = l.getD (k + 1) 0 := ⟨_, rfl⟩
          have hzm : z2 ∈ l := by have := HL.out.1; rw [hz2, List.getD_eq_getElem?_getD, List.getElem?_eq_getElem (by omega)]; exact List.getElem_mem (by omega)
          rw [← hz2] at cz
          have hh := HL.out.2 z2 hzm
          have lz := numT_len hh
          have ls := numsP_len HL.out.2 (k + 1) (by have := HL.out.1; omega)
          have hS : S = txt (numsP l (k + 1)) := HS.out
          obtain ⟨V, hV⟩ : ∃ V, V = txt (numT z2) := ⟨_, rfl⟩
          obtain ⟨Y, hY⟩ : ∃ Y, Y = txt ([32, 44, 32] ++ numT z2) := ⟨_, rfl⟩
          obtain ⟨T, hT⟩ : ∃ T, T = txt (numsP l (k + 1) ++ ([32, 44, 32] ++ numT z2)) := ⟨_, rfl⟩
          have A1 : ∀ wx, (Op.stringOp .add ⟨#[32, 44, 32]⟩ V).run Tryd.prog wx = .ok (.string Y) wx := fun wx => addT wx rfl hV hY (by simp only [List.length_cons, List.length_nil]; omega)
          have A2 : ∀ wx, (Op.stringOp .add S Y).run Tryd.prog wx = .ok (.string T) wx := fun wx => addT wx hS hY hT (by simp only [List.length_append, List.length_cons, List.length_nil]; omega)
          have HT : Hid (T = txt (numsP l (k + 1 + 1))) := by
            unfold Hid
            show T = txt (numsP l (k + 1) ++ ((if k + 1 = 0 then [] else [32, 44, 32]) ++ numT (l.getD (k + 1) 0)))
            rw [hT, if_neg (by omega), ← hz2]
          have H2 : Hid (Calls Tryd.prog 16 #[.int .i64 z2] wr fun e w' => e = .returned (.string V) ∧ Ext wr w') := by rw [hV]; exact decT hh (HA.out wr hE.out).2
          clear hz2 hzm hh lz ls hS hV hY hT HS
          go_wp2_with fail
          refine H2.out.mono ?_
          rintro e w2 ⟨rfl, x2⟩
          have X2 : Hid (Ext w w2) := hE.out.trans x2
          clear x2 H2 cz
          go_wp2
          go_roundw
          case rel => exact ⟨k + 1, T, by go_num, rfl, by omega, HT, X2⟩
          case measure => simp [intOf]; omega
        · obtain rfl : k = m := by omega
          have bk : ¬ ((k : Int) < (k : Int)) := by omega
          go_wp2
          go_ret
          exact ⟨by rw [HZ.out, HS.out]; rfl, hE.out⟩

set_option maxRecDepth 100000 in
set_option maxHeartbeats 1600000 in
theorem condsText_any (a : Option Addr) (cap n : Nat) (l : List CN) (w : World) (hn : n = l.length) (hl : n ≤ 3) (hh : ∀ c ∈ l, condB c = true) (h : Conds w a l) (hP : Pow w) (hC : Cms w) :
    Calls Tryd.prog 34 #[.slice a n cap] w fun e w' => e = .returned (.string (txt (condsT l))) ∧ Ext w w' := by
  have HA : Hid (∀ W, Ext w W → Conds W a l ∧ Pow W ∧ Cms W) := fun W hE => ⟨h.step hE, hP.ext hE, hC.ext hE⟩
  have HL : Hid (n = l.length ∧ (∀ z ∈ l, condB z = true)) := ⟨hn, hh⟩
  obtain ⟨Z, hZ⟩ : ∃ Z, Z = txt (condsT l) := ⟨_, rfl⟩
  have HZ : Hid (Z = txt (condsP l n)) := by rw [hZ, hn, condsP_all]; rfl
  rw [← hZ]
  clear hZ h hP hC hn hh
  go_enter Tryd.func34, Tryd.ntmps34
  go_wp2_with fail
  go_loopw [3, 4, 9] (fun v u i wr => ∃ (k : Nat) (S H : ByteArray), i = .int .i64 k ∧ v = .string S ∧ u = .string H ∧ k ≤ n ∧ Hid (S = txt (condsP l k)) ∧ Hid (H = txt (if k = 0 then [32, 105, 102, 32] else [32, 97, 110, 100, 32])) ∧ Hid (Ext w wr)) (fun _ _ i _ => n - (intOf i).toNat)
  case atStart => exact ⟨0, _, _, rfl, rfl, rfl, by omega, rfl, rfl, Ext.refl _⟩
  case round =>
    obtain ⟨k, S, H, rfl, rfl, rfl, hk, HS, HH, hE⟩ := hrel
    by_cases hlt : k < n
    · have bk : (k : Int) < (n : Int) := by omega
      obtain ⟨c, hc⟩ : ∃ c, c = l.getD k c0 := ⟨_, rfl⟩
      obtain ⟨b, off, rfl, hb, cz⟩ := (HA.out wr hE.out).1.at (k := k) (by have := HL.out.1; omega) hc
      have hcm : c ∈ l := by have := HL.out.1; rw [hc, List.getD_eq_getElem?_getD, List.getElem?_eq_getElem (by omega)]; exact List.getElem_mem (by omega)
      have hh := HL.out.2 c hcm
      have lz := condT_len hh
      have ls := condsP_len HL.out.2 k (by have := HL.out.1; omega)
      have hS : S = txt (condsP l k) := HS.out
      obtain ⟨hd, hhd⟩ : ∃ hd : List UInt8, hd = (if k = 0 then [32, 105, 102, 32] else [32, 97, 110, 100, 32]) := ⟨_, rfl⟩
      have lh : hd.length ≤ 5 := by rw [hhd]; split <;> simp
      have hH : H = txt hd := by rw [hhd]; exact HH.out
      obtain ⟨V, hV⟩ : ∃ V, V = txt (condT c) := ⟨_, rfl⟩
      obtain ⟨Y, hY⟩ : ∃ Y, Y = txt (hd ++ condT c) := ⟨_, rfl⟩
      obtain ⟨T, hT⟩ : ∃ T, T = txt (condsP l k ++ (hd ++ condT c)) := ⟨_, rfl⟩
      have A1 : ∀ wx, (Op.stringOp .add H V).run Tryd.prog wx = .ok (.string Y) wx := fun wx => addT wx hH hV hY (by omega)
      have A2 : ∀ wx, (Op.stringOp .add S Y).run Tryd.prog wx = .ok (.string T) wx := fun wx => addT wx hS hY hT (by simp only [List.length_append]; omega)
      have HT : Hid (T = txt (condsP l (k + 1))) := by
        unfold Hid
        rw [hT, condsP, hhd, ← hc]
      have H2 : Hid (∀ W, Ext wr W → Calls Tryd.prog 48 #[c.v] W fun e w' => e = .returned (.string V) ∧ Ext W w') := fun W hx => by
        rw [hV]; exact condText_any c W hh (HA.out W (hE.out.trans hx)).2.1 (HA.out W (hE.out.trans hx)).2.2
      clear hc hcm hh lz ls hS hH hhd lh hV hY hT HS HH
      obtain ⟨ag, mh, ml, cm, vh, vl⟩ := c
      obtain ⟨p0, p1, p2, p3, p4, p5⟩ := cz.six
      unfold CN.v at H2
      simp only at H2 p0 p1 p2 p3 p4 p5
      clear cz
      go_wp2_with fail
      refine (H2.out _ (Ext.one _ _)).mono ?_
      rintro e w2 ⟨rfl, x2⟩
      have X2 : Hid (Ext w w2) := (hE.out.alloc _).trans x2
      clear x2 H2 p0 p1 p2 p3 p4 p5
      go_wp2
      go_roundw
      case rel => exact ⟨k + 1, T, _, by go_num, rfl, rfl, by omega, HT, rfl, X2⟩
      case measure => simp [intOf]; omega
    · obtain rfl : k = n := by omega
      have bk : ¬ ((k : Int) < (k : Int)) := by omega
      go_wp2
      go_ret
      exact ⟨by rw [HZ.out, HS.out]; rfl, hE.out⟩

set_option maxRecDepth 100000 in
set_option maxHeartbeats 1600000 in
theorem ruleText_any (r : RN) (a1 a2 : Option Addr) (n1 d1 n2 d2 : Nat) (w : World) (hr : ruleB r = true) (e1 : n1 = r.nums.length) (e2 : n2 = r.conds.length) (hcap : n1 ≤ d1) (h1 : Nums w a1 r.nums) (h2 : Conds w a2 r.conds) (hP : Pow w) (hC : Cms w) :
    Calls Tryd.prog 18 #[.agg #[.slice a1 n1 d1, .slice a2 n2 d2, .int .i64 r.act, .int .i64 r.data]] w fun e w' => e = .returned (.string (txt (ruleT r))) ∧ Ext w w' := by
  obtain ⟨ho, hn, hc⟩ := ruleB_parts hr
  obtain ⟨l1, l2⟩ := ruleB_lens hr
  have lx := numsT_len (numsB_halves hn)
  have ly := condsP_len hc r.conds.length (Nat.le_refl _)
  rw [condsP_all] at ly
  have lz := outT_len ho
  obtain ⟨U, hU⟩ : ∃ U, U = txt (numsT r.nums) := ⟨_, rfl⟩
  obtain ⟨V, hV⟩ : ∃ V, V = txt (condsT r.conds) := ⟨_, rfl⟩
  obtain ⟨T, hT⟩ : ∃ T, T = txt (outT r.act r.data) := ⟨_, rfl⟩
  obtain ⟨Z, hZ⟩ : ∃ Z, Z = txt (ruleT r) := ⟨_, rfl⟩
  obtain ⟨S1, hS1⟩ : ∃ S, S = txt ([111, 110, 32] ++ numsT r.nums) := ⟨_, rfl⟩
  have SA1 : ∀ wx, (Op.stringOp .add ⟨#[111, 110, 32]⟩ U).run Tryd.prog wx = .ok (.string S1) wx := fun wx => addT wx rfl hU hS1 (by simp only [List.length_cons, List.length_nil]; omega)
  obtain ⟨S2, hS2⟩ : ∃ S, S = txt (([111, 110, 32] ++ numsT r.nums) ++ condsT r.conds) := ⟨_, rfl⟩
  have SA2 : ∀ wx, (Op.stringOp .add S1 V).run Tryd.prog wx = .ok (.string S2) wx := fun wx => addT wx hS1 hV hS2 (by simp only [List.length_append, List.length_cons, List.length_nil]; omega)
  obtain ⟨S3, hS3⟩ : ∃ S, S = txt ((([111, 110, 32] ++ numsT r.nums) ++ condsT r.conds) ++ [32, 100, 111, 32]) := ⟨_, rfl⟩
  have SA3 : ∀ wx, (Op.stringOp .add S2 ⟨#[32, 100, 111, 32]⟩).run Tryd.prog wx = .ok (.string S3) wx := fun wx => addT wx hS2 rfl hS3 (by simp only [List.length_append, List.length_cons, List.length_nil]; omega)
  obtain ⟨S4, hS4⟩ : ∃ S, S = txt (((([111, 110, 32] ++ numsT r.nums) ++ condsT r.conds) ++ [32, 100, 111, 32]) ++ outT r.act r.data) := ⟨_, rfl⟩
  have SA4 : ∀ wx, (Op.stringOp .add S3 T).run Tryd.prog wx = .ok (.string S4) wx := fun wx => addT wx hS3 hT hS4 (by simp only [List.length_append, List.length_cons, List.length_nil]; omega)
  have SA5 : ∀ wx, (Op.stringOp .add S4 ⟨#[32, 59]⟩).run Tryd.prog wx = .ok (.string Z) wx := fun wx => addT wx hS4 rfl (hZ.trans (congrArg txt (rfl))) (by simp only [List.length_append, List.length_cons, List.length_nil]; omega)
  clear hS1 hS2 hS3 hS4
  have H1 : Hid (∀ W, Ext w W → Calls Tryd.prog 33 #[.slice a1 n1 d1] W fun e w' => e = .returned (.string U) ∧ Ext W w') := fun W hE => by rw [hU]; exact numsText_any a1 d1 n1 _ W e1 (by omega) hcap (numsB_halves hn) (h1.step hE) (hP.ext hE)
  have H2 : Hid (∀ W, Ext w W → Calls Tryd.prog 34 #[.slice a2 n2 d2] W fun e w' => e = .returned (.string V) ∧ Ext W w') := fun W hE => by rw [hV]; exact condsText_any a2 d2 n2 _ W e2 (by omega) hc (h2.step hE) (hP.ext hE) (hC.ext hE)
  have H3 : Hid (∀ W, Ext w W → Calls Tryd.prog 17 #[.int .i64 r.act, .int .i64 r.data] W fun e w' => e = .returned (.string T) ∧ Ext W w') := fun W hE => by rw [hT]; exact outcomeText_any _ _ W ho (hP.ext hE)
  rw [← hZ]
  clear hU hV hT hZ ho hn hc l1 l2 lx ly lz h1 h2 hP hC hr e1 e2 hcap
  generalize r.act = ra at *
  generalize r.data = rd at *
  have X : Hid (Ext w (w.alloc (.cells #[.slice a1 n1 d1, .slice a2 n2 d2, .int .i64 ra, .int .i64 rd] 42))) := Ext.one _ _
  have C0 : Hid (CellsAt (w.alloc (.cells #[.slice a1 n1 d1, .slice a2 n2 d2, .int .i64 ra, .int .i64 rd] 42)) w.heap.size [.slice a1 n1 d1, .slice a2 n2 d2, .int .i64 ra, .int .i64 rd]) := CellsAt.new w _ _
  go_enter Tryd.func18, Tryd.ntmps18
  go_wp2_with fail
  generalize w.alloc (.cells #[.slice a1 n1 d1, .slice a2 n2 d2, .int .i64 ra, .int .i64 rd] 42) = W0 at *
  refine' wp_region_loose (.inl _ :: .inl _ :: .inl _ :: .inl _ :: .inl _ :: .inl _ :: .inl _ :: .inl _ :: .inl _ :: .inl _ :: .inl _ :: .inl _ :: .inl _ :: .inl _ :: .inl _ :: .inl _ :: .inl _ :: []) (fun w' => CellsAt w' w.heap.size [.slice a1 n1 d1, .slice a2 n2 d2, .int .i64 ra, .int .i64 rd]) (by kernel_rfl) (by kernel_rfl) (C0.out) (fun _ _ h hE => h.step hE) ?hAa ?hla ?hMa
  case' hMa => skip
  apply wpLoose_val rfl rfl
  case hs =>
    intro w1 hC hd Q1 hQ1
    obtain ⟨hE, hS⟩ := hC
    dsimp only [bare]
    obtain ⟨p0, p1, p2, p3⟩ := (⟨hS.2 0 _ rfl, hS.2 1 _ rfl, hS.2 2 _ rfl, hS.2 3 _ rfl⟩ : _ ∧ _ ∧ _ ∧ _)
    clear hd hE
    try clear hS
    go_wp2
    exact Ext.refl _
  case ha => rfl
  apply wpLoose_val rfl rfl
  case hs =>
    intro w1 hC hd Q1 hQ1
    obtain ⟨hE, hS⟩ := hC
    dsimp only [bare]
    obtain ⟨p0, p1, p2, p3⟩ := (⟨hS.2 0 _ rfl, hS.2 1 _ rfl, hS.2 2 _ rfl, hS.2 3 _ rfl⟩ : _ ∧ _ ∧ _ ∧ _)
    clear hd hE
    try clear hS
    go_wp2
    exact Ext.refl _
  case ha => rfl
  apply wpLoose_val rfl rfl
  case hs =>
    intro w1 hC hd Q1 hQ1
    obtain ⟨hE, hS⟩ := hC
    dsimp only [bare]
    clear hd
    go_wp2_with fail
    refine (H1.out _ (X.out.drew.trans hE)).mono ?_
    rintro e w2 ⟨rfl, hb⟩
    go_wp2_with fail
    exact hb
  case ha => rfl
  apply wpLoose_val rfl rfl
  case hs =>
    intro w1 hC hd Q1 hQ1
    obtain ⟨hE, hS⟩ := hC
    dsimp only [bare]
    obtain ⟨p0, p1, p2, p3⟩ := (⟨hS.2 0 _ rfl, hS.2 1 _ rfl, hS.2 2 _ rfl, hS.2 3 _ rfl⟩ : _ ∧ _ ∧ _ ∧ _)
    clear hd hE
    try clear hS
    go_wp2
    exact Ext.refl _
  case ha => rfl
  apply wpLoose_val rfl rfl
  case hs =>
    intro w1 hC hd Q1 hQ1
    obtain ⟨hE, hS⟩ := hC
    dsimp only [bare]
    obtain ⟨p0, p1, p2, p3⟩ := (⟨hS.2 0 _ rfl, hS.2 1 _ rfl, hS.2 2 _ rfl, hS.2 3 _ rfl⟩ : _ ∧ _ ∧ _ ∧ _)
    clear hd hE
    try clear hS
    go_wp2
    exact Ext.refl _
  case ha => rfl
  apply wpLoose_val rfl rfl
  case hs =>
    intro w1 hC hd Q1 hQ1
    obtain ⟨hE, hS⟩ := hC
    dsimp only [bare]
    obtain ⟨p0, p1, p2, p3⟩ := (⟨hS.2 0 _ rfl, hS.2 1 _ rfl, hS.2 2 _ rfl, hS.2 3 _ rfl⟩ : _ ∧ _ ∧ _ ∧ _)
    clear hd hE
    try clear hS
    go_wp2
    exact Ext.refl _
  case ha => rfl
  apply wpLoose_val rfl rfl
  case hs =>
    intro w1 hC hd Q1 hQ1
    obtain ⟨hE, hS⟩ := hC
    dsimp only [bare]
    clear hd
    go_wp2_with fail
    refine (H2.out _ (X.out.drew.trans hE)).mono ?_
    rintro e w2 ⟨rfl, hb⟩
    go_wp2_with fail
    exact hb
  case ha => rfl
  apply wpLoose_val rfl rfl
  case hs =>
    intro w1 hC hd Q1 hQ1
    obtain ⟨hE, hS⟩ := hC
    dsimp only [bare]
    obtain ⟨p0, p1, p2, p3⟩ := (⟨hS.2 0 _ rfl, hS.2 1 _ rfl, hS.2 2 _ rfl, hS.2 3 _ rfl⟩ : _ ∧ _ ∧ _ ∧ _)
    clear hd hE
    try clear hS
    go_wp2
    exact Ext.refl _
  case ha => rfl
  apply wpLoose_val rfl rfl
  case hs =>
    intro w1 hC hd Q1 hQ1
    obtain ⟨hE, hS⟩ := hC
    dsimp only [bare]
    obtain ⟨p0, p1, p2, p3⟩ := (⟨hS.2 0 _ rfl, hS.2 1 _ rfl, hS.2 2 _ rfl, hS.2 3 _ rfl⟩ : _ ∧ _ ∧ _ ∧ _)
    clear hd hE
    try clear hS
    go_wp2
    exact Ext.refl _
  case ha => rfl
  apply wpLoose_val rfl rfl
  case hs =>
    intro w1 hC hd Q1 hQ1
    obtain ⟨hE, hS⟩ := hC
    dsimp only [bare]
    obtain ⟨p0, p1, p2, p3⟩ := (⟨hS.2 0 _ rfl, hS.2 1 _ rfl, hS.2 2 _ rfl, hS.2 3 _ rfl⟩ : _ ∧ _ ∧ _ ∧ _)
    clear hd hE
    try clear hS
    go_wp2
    exact Ext.refl _
  case ha => rfl
  apply wpLoose_val rfl rfl
  case hs =>
    intro w1 hC hd Q1 hQ1
    obtain ⟨hE, hS⟩ := hC
    dsimp only [bare]
    obtain ⟨p0, p1, p2, p3⟩ := (⟨hS.2 0 _ rfl, hS.2 1 _ rfl, hS.2 2 _ rfl, hS.2 3 _ rfl⟩ : _ ∧ _ ∧ _ ∧ _)
    clear hd hE
    try clear hS
    go_wp2
    exact Ext.refl _
  case ha => rfl
  apply wpLoose_val rfl rfl
  case hs =>
    intro w1 hC hd Q1 hQ1
    obtain ⟨hE, hS⟩ := hC
    dsimp only [bare]
    obtain ⟨p0, p1, p2, p3⟩ := (⟨hS.2 0 _ rfl, hS.2 1 _ rfl, hS.2 2 _ rfl, hS.2 3 _ rfl⟩ : _ ∧ _ ∧ _ ∧ _)
    clear hd hE
    try clear hS
    go_wp2
    exact Ext.refl _
  case ha => rfl
  apply wpLoose_val rfl rfl
  case hs =>
    intro w1 hC hd Q1 hQ1
    obtain ⟨hE, hS⟩ := hC
    dsimp only [bare]
    obtain ⟨p0, p1, p2, p3⟩ := (⟨hS.2 0 _ rfl, hS.2 1 _ rfl, hS.2 2 _ rfl, hS.2 3 _ rfl⟩ : _ ∧ _ ∧ _ ∧ _)
    clear hd hE
    try clear hS
    go_wp2
    exact Ext.refl _
  case ha => rfl
  apply wpLoose_val rfl rfl
  case hs =>
    intro w1 hC hd Q1 hQ1
    obtain ⟨hE, hS⟩ := hC
    dsimp only [bare]
    clear hd
    go_wp2_with fail
    refine (H3.out _ (X.out.drew.trans hE)).mono ?_
    rintro e w2 ⟨rfl, hb⟩
    go_wp2_with fail
    exact hb
  case ha => rfl
  apply wpLoose_val rfl rfl
  case hs =>
    intro w1 hC hd Q1 hQ1
    obtain ⟨hE, hS⟩ := hC
    dsimp only [bare]
    obtain ⟨p0, p1, p2, p3⟩ := (⟨hS.2 0 _ rfl, hS.2 1 _ rfl, hS.2 2 _ rfl, hS.2 3 _ rfl⟩ : _ ∧ _ ∧ _ ∧ _)
    clear hd hE
    try clear hS
    go_wp2
    exact Ext.refl _
  case ha => rfl
  apply wpLoose_val rfl rfl
  case hs =>
    intro w1 hC hd Q1 hQ1
    obtain ⟨hE, hS⟩ := hC
    dsimp only [bare]
    obtain ⟨p0, p1, p2, p3⟩ := (⟨hS.2 0 _ rfl, hS.2 1 _ rfl, hS.2 2 _ rfl, hS.2 3 _ rfl⟩ : _ ∧ _ ∧ _ ∧ _)
    clear hd hE
    try clear hS
    go_wp2
    exact Ext.refl _
  case ha => rfl
  apply wpLoose_val rfl rfl
  case hs =>
    intro w1 hC hd Q1 hQ1
    obtain ⟨hE, hS⟩ := hC
    dsimp only [bare]
    obtain ⟨p0, p1, p2, p3⟩ := (⟨hS.2 0 _ rfl, hS.2 1 _ rfl, hS.2 2 _ rfl, hS.2 3 _ rfl⟩ : _ ∧ _ ∧ _ ∧ _)
    clear hd hE
    try clear hS
    go_wp2
    exact Ext.refl _
  case ha => rfl
  refine wpLoose_nil ?_
  intro wa hEa hSa hFa
  · have XE : Hid (Ext w wa) := X.out.drew.trans hEa
    clear hEa hSa hFa
    go_wp2
    go_ret
    exact ⟨rfl, XE.out⟩
  case hAa => kernel_rfl
  case hla => exact ⟨trivial, trivial, trivial, trivial, trivial, trivial, trivial, trivial, trivial, trivial, trivial, trivial, trivial, trivial, trivial, trivial, trivial, trivial⟩

set_option maxRecDepth 100000 in
set_option maxHeartbeats 1600000 in
theorem iShow_any {p : PN} {v : Value} {w : World} (hs : SmallR p.rules) (h : RepPolC p v w) (hP : Pow w) (hC : Cms w) :
    Calls Tryd.prog 7 #[v] w fun e w' => e = .returned (.tuple #[.string (txt (showR p).1), .bool (showR p).2]) ∧ Ext w w' := by
  obtain ⟨Z, hZ⟩ : ∃ Z, Z = txt (showR p).1 := ⟨_, rfl⟩
  obtain ⟨z, hz⟩ : ∃ z, z = (showR p).2 := ⟨_, rfl⟩
  obtain ⟨q, hq⟩ : ∃ q, q = policyB p := ⟨_, rfl⟩
  have HO : Hid (∀ W, Ext w W → Calls Tryd.prog 15 #[v] W fun e w' => e = .returned (.bool q) ∧ Ext W w') := fun W hE => by rw [hq]; exact iPolicyOk_rep hs (h.pol.step hE)
  obtain ⟨a, cap, rfl, hr⟩ := h
  rw [← hZ, ← hz]
  cases q
  case false =>
    have HZ : Hid (Z = txt [] ∧ z = false) := by rw [hZ, hz]; simp [showR, ← hq, Hid]
    clear hZ hz hq hr
    generalize p.arch = ar at *
    generalize p.act = ac at *
    generalize p.data = da at *
    generalize p.rules.length = n at *
    go_enter Tryd.func7, Tryd.ntmps7
    go_wp2_with fail
    refine (HO.out _ (Ext.one _ _)).mono ?_
    rintro e w1 ⟨rfl, x1⟩
    have X1 : Hid (Ext w w1) := (Ext.one _ _).trans x1
    clear x1 HO
    go_wp2
    go_ret2
    exact ⟨by rw [HZ.out.1, HZ.out.2]; rfl, X1.out⟩
  case true =>
    obtain ⟨hb1, hb2, hb3⟩ := policyB_parts hq.symm
    obtain ⟨_, hd, g0, g5⟩ := outB_half hb2
    have lh := headT_len hq.symm
    have lx := numT_len hb1
    have lz := outT_len hb2
    obtain ⟨U, hU⟩ : ∃ U, U = txt (numT p.arch) := ⟨_, rfl⟩
    obtain ⟨T, hT⟩ : ∃ T, T = txt (outT p.act p.data) := ⟨_, rfl⟩
    obtain ⟨H0, hH⟩ : ∃ H0, H0 = txt (headT p) := ⟨_, rfl⟩
    obtain ⟨S1, hS1⟩ : ∃ S, S = txt ([97, 114, 99, 104, 32] ++ numT p.arch) := ⟨_, rfl⟩
    have SA1 : ∀ wx, (Op.stringOp .add ⟨#[97, 114, 99, 104, 32]⟩ U).run Tryd.prog wx = .ok (.string S1) wx := fun wx => addT wx rfl hU hS1 (by simp only [List.length_cons, List.length_nil]; omega)
    obtain ⟨S2, hS2⟩ : ∃ S, S = txt (([97, 114, 99, 104, 32] ++ numT p.arch) ++ [32, 59, 32, 100, 101, 102, 97, 117, 108, 116, 32]) := ⟨_, rfl⟩
    have SA2 : ∀ wx, (Op.stringOp .add S1 ⟨#[32, 59, 32, 100, 101, 102, 97, 117, 108, 116, 32]⟩).run Tryd.prog wx = .ok (.string S2) wx := fun wx => addT wx hS1 rfl hS2 (by simp only [List.length_append, List.length_cons, List.length_nil]; omega)
    obtain ⟨S3, hS3⟩ : ∃ S, S = txt ((([97, 114, 99, 104, 32] ++ numT p.arch) ++ [32, 59, 32, 100, 101, 102, 97, 117, 108, 116, 32]) ++ outT p.act p.data) := ⟨_, rfl⟩
    have SA3 : ∀ wx, (Op.stringOp .add S2 T).run Tryd.prog wx = .ok (.string S3) wx := fun wx => addT wx hS2 hT hS3 (by simp only [List.length_append, List.length_cons, List.length_nil]; omega)
    have SA4 : ∀ wx, (Op.stringOp .add S3 ⟨#[32, 59]⟩).run Tryd.prog wx = .ok (.string H0) wx := fun wx => addT wx hS3 rfl (hH.trans (congrArg txt (rfl))) (by simp only [List.length_append, List.length_cons, List.length_nil]; omega)
    clear hS1 hS2 hS3
    obtain ⟨n, hn⟩ : ∃ n, n = p.rules.length := ⟨_, rfl⟩
    have hn10 : n ≤ 10 := by
      have := hq.symm
      simp only [policyB, Bool.and_eq_true, decide_eq_true_eq] at this
      omega
    have HZ : Hid (Z = txt (if 1200 < (headT p ++ rulesP p.rules n).length then [] else headT p ++ rulesP p.rules n) ∧ z = !decide (1200 < (headT p ++ rulesP p.rules n).length)) := by
      have e : headT p ++ rulesP p.rules n = showL p := by rw [hn, rulesP_all]; rfl
      rw [e, hZ, hz]
      unfold showR
      rw [← hq]
      by_cases hl : 1200 < (showL p).length
      · simp [hl, Hid]
      · simp [hl, Hid]
    have H1 : Hid (∀ W, Ext w W → Calls Tryd.prog 16 #[.int .i64 p.arch] W fun e w' => e = .returned (.string U) ∧ Ext W w') := fun W hE => by rw [hU]; exact decT hb1 (hP.ext hE)
    have H2 : Hid (∀ W, Ext w W → Calls Tryd.prog 17 #[.int .i64 p.act, .int .i64 p.data] W fun e w' => e = .returned (.string T) ∧ Ext W w') := fun W hE => by rw [hT]; exact outcomeText_any _ _ W hb2 (hP.ext hE)
    have HR : Hid (∀ W, Ext w W → RulesC W a p.rules) := fun W hE => hr.step hE
    have HB : Hid (n = p.rules.length ∧ (∀ r ∈ p.rules, ruleB r = true) ∧ (headT p).length ≤ 50 ∧ H0 = txt (headT p)) := ⟨hn, hb3, lh, hH⟩
    have HC : Hid (∀ W, Ext w W → Pow W ∧ Cms W) := fun W hE => ⟨hP.ext hE, hC.ext hE⟩
    rw [← hn] at HO ⊢
    clear hZ hz hq hr hb1 hb2 hb3 hd g0 g5 lh lx lz hU hT hH hn hs
    generalize p.arch = ar at *
    generalize p.act = ac at *
    generalize p.data = da at *
    have X : Hid (Ext w (w.alloc (.cells #[.int .i64 ar, .int .i64 ac, .int .i64 da, .slice a n cap] 30))) := Ext.one _ _
    have C0 : Hid (CellsAt (w.alloc (.cells #[.int .i64 ar, .int .i64 ac, .int .i64 da, .slice a n cap] 30)) w.heap.size [.int .i64 ar, .int .i64 ac, .int .i64 da, .slice a n cap]) := CellsAt.new w _ _
    go_enter Tryd.func7, Tryd.ntmps7
    go_wp2_with fail
    generalize w.alloc (.cells #[.int .i64 ar, .int .i64 ac, .int .i64 da, .slice a n cap] 30) = W0 at *
    refine (HO.out _ X.out).mono ?_
    rintro e w1 ⟨rfl, x1⟩
    have X1 : Hid (Ext w w1) := X.out.trans x1
    have C1 : Hid (CellsAt w1 w.heap.size [.int .i64 ar, .int .i64 ac, .int .i64 da, .slice a n cap]) := C0.out.step x1
    clear x1 HO X C0
    go_wp2_with fail
    refine' wp_region_loose (.inl _ :: .inl _ :: .inl _ :: .inl _ :: .inl _ :: .inl _ :: .inl _ :: .inl _ :: .inl _ :: .inl _ :: .inl _ :: .inl _ :: .inl _ :: []) (fun w' => CellsAt w' w.heap.size [.int .i64 ar, .int .i64 ac, .int .i64 da, .slice a n cap]) (by kernel_rfl) (by kernel_rfl) (C1.out) (fun _ _ h hE => h.step hE) ?hAiShow ?hliShow ?hMiShow
    case' hMiShow => skip
    apply wpLoose_val rfl rfl
    case hs =>
      intro w1 hC hd Q1 hQ1
      obtain ⟨hE, hS⟩ := hC
      dsimp only [bare]
      obtain ⟨p0, p1, p2, p3⟩ := (⟨hS.2 0 _ rfl, hS.2 1 _ rfl, hS.2 2 _ rfl, hS.2 3 _ rfl⟩ : _ ∧ _ ∧ _ ∧ _)
      clear hd hE
      try clear hS
      go_wp2
      exact Ext.refl _
    case ha => rfl
    apply wpLoose_val rfl rfl
    case hs =>
      intro w1 hC hd Q1 hQ1
      obtain ⟨hE, hS⟩ := hC
      dsimp only [bare]
      obtain ⟨p0, p1, p2, p3⟩ := (⟨hS.2 0 _ rfl, hS.2 1 _ rfl, hS.2 2 _ rfl, hS.2 3 _ rfl⟩ : _ ∧ _ ∧ _ ∧ _)
      clear hd hE
      try clear hS
      go_wp2
      exact Ext.refl _
    case ha => rfl
    apply wpLoose_val rfl rfl
    case hs =>
      intro w1 hC hd Q1 hQ1
      obtain ⟨hE, hS⟩ := hC
      dsimp only [bare]
      clear hd
      go_wp2_with fail
      refine (H1.out _ (X1.out.drew.trans hE)).mono ?_
      rintro e w2 ⟨rfl, hb⟩
      go_wp2_with fail
      exact hb
    case ha => rfl
    apply wpLoose_val rfl rfl
    case hs =>
      intro w1 hC hd Q1 hQ1
      obtain ⟨hE, hS⟩ := hC
      dsimp only [bare]
      obtain ⟨p0, p1, p2, p3⟩ := (⟨hS.2 0 _ rfl, hS.2 1 _ rfl, hS.2 2 _ rfl, hS.2 3 _ rfl⟩ : _ ∧ _ ∧ _ ∧ _)
      clear hd hE
      try clear hS
      go_wp2
      exact Ext.refl _
    case ha => rfl
    apply wpLoose_val rfl rfl
    case hs =>
      intro w1 hC hd Q1 hQ1
      obtain ⟨hE, hS⟩ := hC
      dsimp only [bare]
      obtain ⟨p0, p1, p2, p3⟩ := (⟨hS.2 0 _ rfl, hS.2 1 _ rfl, hS.2 2 _ rfl, hS.2 3 _ rfl⟩ : _ ∧ _ ∧ _ ∧ _)
      clear hd hE
      try clear hS
      go_wp2
      exact Ext.refl _
    case ha => rfl
    apply wpLoose_val rfl rfl
    case hs =>
      intro w1 hC hd Q1 hQ1
      obtain ⟨hE, hS⟩ := hC
      dsimp only [bare]
      obtain ⟨p0, p1, p2, p3⟩ := (⟨hS.2 0 _ rfl, hS.2 1 _ rfl, hS.2 2 _ rfl, hS.2 3 _ rfl⟩ : _ ∧ _ ∧ _ ∧ _)
      clear hd hE
      try clear hS
      go_wp2
      exact Ext.refl _
    case ha => rfl
    apply wpLoose_val rfl rfl
    case hs =>
      intro w1 hC hd Q1 hQ1
      obtain ⟨hE, hS⟩ := hC
      dsimp only [bare]
      obtain ⟨p0, p1, p2, p3⟩ := (⟨hS.2 0 _ rfl, hS.2 1 _ rfl, hS.2 2 _ rfl, hS.2 3 _ rfl⟩ : _ ∧ _ ∧ _ ∧ _)
      clear hd hE
      try clear hS
      go_wp2
      exact Ext.refl _
    case ha => rfl
    apply wpLoose_val rfl rfl
    case hs =>
      intro w1 hC hd Q1 hQ1
      obtain ⟨hE, hS⟩ := hC
      dsimp only [bare]
      obtain ⟨p0, p1, p2, p3⟩ := (⟨hS.2 0 _ rfl, hS.2 1 _ rfl, hS.2 2 _ rfl, hS.2 3 _ rfl⟩ : _ ∧ _ ∧ _ ∧ _)
      clear hd hE
      try clear hS
      go_wp2
      exact Ext.refl _
    case ha => rfl
    apply wpLoose_val rfl rfl
    case hs =>
      intro w1 hC hd Q1 hQ1
      obtain ⟨hE, hS⟩ := hC
      dsimp only [bare]
      obtain ⟨p0, p1, p2, p3⟩ := (⟨hS.2 0 _ rfl, hS.2 1 _ rfl, hS.2 2 _ rfl, hS.2 3 _ rfl⟩ : _ ∧ _ ∧ _ ∧ _)
      clear hd hE
      try clear hS
      go_wp2
      exact Ext.refl _
    case ha => rfl
    apply wpLoose_val rfl rfl
    case hs =>
      intro w1 hC hd Q1 hQ1
      obtain ⟨hE, hS⟩ := hC
      dsimp only [bare]
      clear hd
      go_wp2_with fail
      refine (H2.out _ (X1.out.drew.trans hE)).mono ?_
      rintro e w2 ⟨rfl, hb⟩
      go_wp2_with fail
      exact hb
    case ha => rfl
    apply wpLoose_val rfl rfl
    case hs =>
      intro w1 hC hd Q1 hQ1
      obtain ⟨hE, hS⟩ := hC
      dsimp only [bare]
      obtain ⟨p0, p1, p2, p3⟩ := (⟨hS.2 0 _ rfl, hS.2 1 _ rfl, hS.2 2 _ rfl, hS.2 3 _ rfl⟩ : _ ∧ _ ∧ _ ∧ _)
      clear hd hE
      try clear hS
      go_wp2
      exact Ext.refl _
    case ha => rfl
    apply wpLoose_val rfl rfl
    case hs =>
      intro w1 hC hd Q1 hQ1
      obtain ⟨hE, hS⟩ := hC
      dsimp only [bare]
      obtain ⟨p0, p1, p2, p3⟩ := (⟨hS.2 0 _ rfl, hS.2 1 _ rfl, hS.2 2 _ rfl, hS.2 3 _ rfl⟩ : _ ∧ _ ∧ _ ∧ _)
      clear hd hE
      try clear hS
      go_wp2
      exact Ext.refl _
    case ha => rfl
    apply wpLoose_val rfl rfl
    case hs =>
      intro w1 hC hd Q1 hQ1
      obtain ⟨hE, hS⟩ := hC
      dsimp only [bare]
      obtain ⟨p0, p1, p2, p3⟩ := (⟨hS.2 0 _ rfl, hS.2 1 _ rfl, hS.2 2 _ rfl, hS.2 3 _ rfl⟩ : _ ∧ _ ∧ _ ∧ _)
      clear hd hE
      try clear hS
      go_wp2
      exact Ext.refl _
    case ha => rfl
    refine wpLoose_nil ?_
    intro wiShow hEiShow hSiShow hFiShow
    · have X2 : Hid (Ext w wiShow) := X1.out.drew.trans hEiShow
      have C2 : Hid (CellsAt wiShow w.heap.size [.int .i64 ar, .int .i64 ac, .int .i64 da, .slice a n cap]) := hSiShow
      clear hEiShow hSiShow hFiShow X1 C1 H1 H2
      have p3 := C2.out.2 3 _ rfl
      go_wp2_with fail
      clear p3
      generalize wiShow = W2 at *
      go_loopw [4, 25] (fun v i wr => ∃ (k : Nat) (S : ByteArray), i = .int .i64 k ∧ v = .string S ∧ k ≤ n ∧ Hid (S = txt (headT p ++ rulesP p.rules k)) ∧ Hid (Ext w wr)) (fun _ i _ => n - (intOf i).toNat)
      case atStart => exact ⟨0, H0, rfl, rfl, by omega, by unfold Hid; rw [HB.out.2.2.2]; simp [rulesP], X2.out⟩
      case round =>
        obtain ⟨k, S, rfl, rfl, hk, HS, hE⟩ := hrel
        have lk := rulesP_len HB.out.2.1 k (by have := HB.out.1; omega)
        by_cases hlt : k < n
        · have bk : (k : Int) < (n : Int) := by omega
          obtain ⟨b, off, l, rfl, ⟨hbl, hseg⟩, hL⟩ := (HR.out wr hE.out).1.at (k := k) (by have := HB.out.1; omega)
          obtain ⟨r, hr⟩ : ∃ r, r = p.rules.getD k r0 := ⟨_, rfl⟩
          rw [← hr] at hL
          have hrm : r ∈ p.rules := by have := HB.out.1; rw [hr, List.getD_eq_getElem?_getD, List.getElem?_eq_getElem (by omega)]; exact List.getElem_mem (by omega)
          have hrb := HB.out.2.1 r hrm
          obtain ⟨a1, n1, d1, a2, n2, d2, rfl, e1, e2, N1, K1⟩ := hL
          obtain ⟨q0, q1, q2, q3⟩ := hseg.four
          have hcap := (HR.out wr hE.out).2 b off k a1 n1 d1 rfl (by have := HB.out.1; omega) q0
          have lr := ruleT_len hrb
          have lh := HB.out.2.2.1
          have hS : S = txt (headT p ++ rulesP p.rules k) := HS.out
          obtain ⟨V, hV⟩ : ∃ V, V = txt (ruleT r) := ⟨_, rfl⟩
          obtain ⟨Y, hY⟩ : ∃ Y, Y = txt ([32] ++ ruleT r) := ⟨_, rfl⟩
          obtain ⟨G, hG⟩ : ∃ G, G = txt ((headT p ++ rulesP p.rules k) ++ ([32] ++ ruleT r)) := ⟨_, rfl⟩
          have A1 : ∀ wx, (Op.stringOp .add ⟨#[32]⟩ V).run Tryd.prog wx = .ok (.string Y) wx := fun wx => addT wx rfl hV hY (by simp only [List.length_cons, List.length_nil]; omega)
          have A2 : ∀ wx, (Op.stringOp .add S Y).run Tryd.prog wx = .ok (.string G) wx := fun wx => addT wx hS hY hG (by simp only [List.length_append, List.length_cons, List.length_nil]; omega)
          have HT : Hid (G = txt (headT p ++ rulesP p.rules (k + 1))) := by
            unfold Hid
            rw [hG, rulesP, ← hr]
            simp
          have H3 : Hid (∀ W, Ext wr W → Calls Tryd.prog 18 #[.agg #[.slice a1 n1 d1, .slice a2 n2 d2, .int .i64 r.act, .int .i64 r.data]] W fun e w' => e = .returned (.string V) ∧ Ext W w') := fun W hx => by
            rw [hV]; exact ruleText_any r a1 a2 n1 d1 n2 d2 W hrb e1 e2 hcap (N1.step hx) (K1.step hx) (HC.out W (hE.out.trans hx)).1 (HC.out W (hE.out.trans hx)).2
          clear hr hrm hrb e1 e2 N1 K1 hcap lr lh hS hV hY hG HS lk hbl hseg
          generalize r.act = ra at *
          generalize r.data = rd at *
          go_wp2_with fail
          refine (H3.out _ (Ext.one _ _)).mono ?_
          rintro e w2 ⟨rfl, x2⟩
          have X3 : Hid (Ext w w2) := (hE.out.alloc _).trans x2
          clear x2 H3 q0 q1 q2 q3
          go_wp2
          go_roundw
          case rel => exact ⟨k + 1, G, by go_num, rfl, by omega, HT, X3⟩
          case measure => simp [intOf]; omega
        · obtain rfl : k = n := by omega
          have bk : ¬ ((k : Int) < (k : Int)) := by omega
          obtain ⟨L, hL⟩ : ∃ L, L = headT p ++ rulesP p.rules k := ⟨_, rfl⟩
          have hS : S = txt L := by rw [hL]; exact HS.out
          have hSs : S.size = L.length := by rw [hS]; show L.toArray.size = _; simp
          rw [← hL] at HZ
          have HSL : Hid (S = txt L) := hS
          clear hL HS lk hS
          by_cases hl : 1200 < L.length
          · have hl' : (1200 : Int) < (S.size : Int) := by omega
            clear hSs
            go_wp2
            go_ret2
            exact ⟨by rw [HZ.out.1, HZ.out.2, if_pos hl]; simp [hl, txt], hE.out⟩
          · have hl' : ¬ (1200 : Int) < (S.size : Int) := by omega
            clear hSs
            go_wp2
            go_ret2
            exact ⟨by rw [HZ.out.1, HZ.out.2, if_neg hl]; simp [hl, HSL.out], hE.out⟩
    case hAiShow => kernel_rfl
    case hliShow => exact ⟨trivial, trivial, trivial, trivial, trivial, trivial, trivial, trivial, trivial, trivial, trivial, trivial, trivial, trivial⟩

end Go.Proofs.YtojaohdmfahpmaaDoor
