/- Impl's reader of signs: conditions, numbers, and their rows. -/
import Derived.Test.YtojaohdmfahpmaaGreatDoorReadMath
import Derived.Test.YtojaohdmfahpmaaGreatDoorBoxes
import Derived.Test.YtojaohdmfahpmaaGreatDoorRdI
import Derived.Test.YtojaohdmfahpmaaGreatDoorNameIS
/- The program's own table of marks, in memory. -/
namespace Go.Proofs.YtojaohdmfahpmaaGreatDoor
open Go.RowKit
set_option linter.unusedVariables false

/-- The marks of the comparisons, the first being of none. -/
def cmT (k : Nat) : List UInt8 := ([] :: cmL).getD k []

/-- The program's own table of marks holds what its text lays. -/
def Cms (w : World) : Prop := (∀ k, k < 7 → w.cell? ⟨0, k, none⟩ = some (.string (txt (cmT k)))) ∧ 0 < w.heap.size

theorem Cms.ext {w w' : World} (h : Cms w) (hE : Ext w w') : Cms w' := ⟨fun k hk => (hE.cell (p := ⟨0, k, none⟩) h.2).trans (h.1 k hk), Nat.lt_of_lt_of_le h.2 hE.size⟩

end Go.Proofs.YtojaohdmfahpmaaGreatDoor

/- Impl's reader of signs: numbers of calls, actions, wide numbers, conditions. -/
namespace Go.Proofs.YtojaohdmfahpmaaGreatDoor
open Go.RowKit
set_option linter.unusedVariables false

theorem Kn.gb {w w' : World} {p k : Nat} {l : List Value} {t : TypeId} (h : Kn w k l t) (hk : k ≠ p) (hG : GB p w w') : Kn w' k l t :=
  (hG.block k h.lt (fun e => hk (Option.some.inj e))).trans h

/-- What a reader's function leaves: a value and the place behind it, or the panic. -/
def Got {α : Type} (val : α → Value) (o : Option (α × Nat)) (p : Nat) (a : Option Addr) (cap : Nat) (G : List Sg) (e : Ending) (w' : World) : Prop :=
  match o with
  | some (v, j) => e = .returned (val v) ∧ RdI w' p a cap G j
  | none => e = Bad

theorem got_some {α : Type} {val : α → Value} {o : Option (α × Nat)} {v : α} {j p : Nat} {a : Option Addr} {cap : Nat} {G : List Sg} {e : Ending} {w' : World} (h : o = some (v, j)) (he : e = .returned (val v)) (hr : RdI w' p a cap G j) : Got val o p a cap G e w' := by
  subst h; exact ⟨he, hr⟩
theorem got_none {α : Type} {val : α → Value} {o : Option (α × Nat)} {p : Nat} {a : Option Addr} {cap : Nat} {G : List Sg} {e : Ending} {w' : World} (h : o = none) (he : e = Bad) : Got val o p a cap G e w' := by
  subst h; exact he
theorem got_of_some {α : Type} {val : α → Value} {o : Option (α × Nat)} {v : α} {j p : Nat} {a : Option Addr} {cap : Nat} {G : List Sg} {e : Ending} {w' : World} (h : o = some (v, j)) (hg : Got val o p a cap G e w') : e = .returned (val v) ∧ RdI w' p a cap G j := by
  subst h; exact hg
theorem got_of_none {α : Type} {val : α → Value} {o : Option (α × Nat)} {p : Nat} {a : Option Addr} {cap : Nat} {G : List Sg} {e : Ending} {w' : World} (h : o = none) (hg : Got val o p a cap G e w') : e = Bad := by
  subst h; exact hg

/-- A call that answers v and leaves the reader at j; a call that panics. -/
abbrev Gives (f p : Nat) (a : Option Addr) (cap : Nat) (G : List Sg) (w : World) (v : Value) (j : Nat) : Prop :=
  Calls Tryz.prog f #[.pointer (some ⟨p, 0, none⟩)] w fun e w' => (e = .returned v ∧ RdI w' p a cap G j) ∧ GB p w w'
abbrev Fails (f p : Nat) (w : World) : Prop :=
  Calls Tryz.prog f #[.pointer (some ⟨p, 0, none⟩)] w fun e w' => e = Bad ∧ GB p w w'

theorem gives_of {α : Type} {val : α → Value} {o : Option (α × Nat)} {v : α} {j f p : Nat} {a : Option Addr} {cap : Nat} {G : List Sg} {w : World} (h : o = some (v, j))
    (hc : Calls Tryz.prog f #[.pointer (some ⟨p, 0, none⟩)] w fun e w' => Got val o p a cap G e w' ∧ GB p w w') : Gives f p a cap G w (val v) j :=
  hc.mono fun e w' ⟨hg, hb⟩ => ⟨got_of_some h hg, hb⟩
theorem fails_of {α : Type} {val : α → Value} {o : Option (α × Nat)} {f p : Nat} {a : Option Addr} {cap : Nat} {G : List Sg} {w : World} (h : o = none)
    (hc : Calls Tryz.prog f #[.pointer (some ⟨p, 0, none⟩)] w fun e w' => Got val o p a cap G e w' ∧ GB p w w') : Fails f p w :=
  hc.mono fun e w' ⟨hg, hb⟩ => ⟨got_of_none h hg, hb⟩

def intV (n : Int) : Value := .int .i64 n
def pairV (o : Int × Int) : Value := .tuple #[.int .i64 o.1, .int .i64 o.2]
def wideV (o : Int × Int) : Value := .agg #[.int .i64 o.1, .int .i64 o.2]

theorem rnumber_got {w : World} {p : Nat} {a : Option Addr} {cap : Nat} {G : List Sg} {i : Nat} (h : RdI w p a cap G i) :
    Calls Tryz.prog 63 #[.pointer (some ⟨p, 0, none⟩)] w fun e w' => Got intV (rNum G i) p a cap G e w' ∧ GB p w w' := by
  refine (number_any h).mono fun e w' ⟨hg, hb⟩ => ⟨?_, hb⟩
  cases er : rNum G i with
  | none => rw [er] at hg; exact hg
  | some x => rw [er] at hg; exact hg

theorem RdI.lt {w : World} {p : Nat} {a : Option Addr} {cap : Nat} {G : List Sg} {i : Nat} (h : RdI w p a cap G i) : p < w.heap.size := h.1.lt

theorem Cms.gb {w w' : World} {p : Nat} (h : Cms w) (hp : p ≠ 0) (hG : GB p w w') : Cms w' :=
  ⟨fun k hk => hG.cell (h.1 k hk) (fun e => hp (Option.some.inj e).symm), Nat.lt_of_lt_of_le h.2 hG.size⟩

theorem findT_first {L : List (List UInt8)} {t : List UInt8} {k : Nat} (hk : k < L.length) (h : L.getD k [] = t) (hn : ∀ j, j < k → ¬ L.getD j [] = t) : findT L t = some k := by
  unfold findT
  rw [List.findIdx?_eq_some_iff_getElem]
  refine ⟨hk, ?_, fun j hj => ?_⟩
  · rw [List.getD_eq_getElem?_getD, List.getElem?_eq_getElem hk] at h
    simpa using h
  · have := hn j hj
    rw [List.getD_eq_getElem?_getD, List.getElem?_eq_getElem (by omega)] at this
    simpa using this

theorem findT_no {L : List (List UInt8)} {t : List UInt8} (hn : ∀ j, j < L.length → ¬ L.getD j [] = t) : findT L t = none := by
  unfold findT
  rw [List.findIdx?_eq_none_iff]
  intro x hx
  obtain ⟨k, hk, rfl⟩ := List.getElem_of_mem hx
  have := hn k hk
  rw [List.getD_eq_getElem?_getD, List.getElem?_eq_getElem hk] at this
  simpa using this

theorem isT_iff (G : List Sg) (i : Nat) (t : List UInt8) : isT G i t = true ↔ t = (sgA G i).2.1 := by
  unfold isT
  simp only [beq_iff_eq]
  exact ⟨fun h => h.symm, fun h => h.symm⟩

theorem actL_ne : ∀ k, k < 6 → actL.getD k [] ≠ [] := by decide
theorem cmL_ne : ∀ k, k < 6 → cmL.getD k [] ≠ [] := by decide

theorem nameV_act {k : Nat} (h : k < 6) : nameV (k : Int) = txt (actL.getD k []) := by
  have : k = 0 ∨ k = 1 ∨ k = 2 ∨ k = 3 ∨ k = 4 ∨ k = 5 := by omega
  rcases this with rfl | rfl | rfl | rfl | rfl | rfl <;> rfl

set_option maxRecDepth 100000 in
theorem action_any {w : World} {p : Nat} {a : Option Addr} {cap : Nat} {G : List Sg} {i : Nat} (h : RdI w p a cap G i) :
    Calls Tryz.prog 107 #[.pointer (some ⟨p, 0, none⟩)] w fun e w' => Got intV (rAct G i) p a cap G e w' ∧ GB p w w' := by
  have HR : Hid (RdI w p a cap G i) := h
  clear h
  go_enter Tryz.func107, Tryz.ntmps107
  go_wp2_with fail
  go_loopw [3] (fun v wr => ∃ k : Nat, v = .int .i64 k ∧ k ≤ 6 ∧ Hid (RdI wr p a cap G i ∧ GB p w wr) ∧ Hid (∀ j, j < k → ¬ actL.getD j [] = (sgA G i).2.1)) (fun v _ => 6 - (intOf v).toNat)
  case atStart => exact ⟨0, rfl, by omega, ⟨HR.out, gb_refl _ _⟩, fun j hj => by omega⟩
  case round =>
    obtain ⟨k, rfl, hk, hX, hn⟩ := hrel
    by_cases hlt : k < 6
    · have bk : (k : Int) ≤ 5 := by omega
      have HN : Hid (∀ W, Calls Tryz.prog 56 #[.int .i64 (k : Int)] W fun e w' => e = .returned (.string (txt (actL.getD k []))) ∧ W = w') := fun W => by rw [← nameV_act hlt]; exact iName_any _ W
      have HP : Hid (Calls Tryz.prog 104 #[.pointer (some ⟨p, 0, none⟩), .string (txt (actL.getD k []))] wr fun e w' => e = .returned (.bool (isT G i (actL.getD k []))) ∧ RdI w' p a cap G (if isT G i (actL.getD k []) then i + 1 else i) ∧ GB p wr w') := passes_any _ (actL_ne k hlt) hX.out.1
      have HI : Hid (isT G i (actL.getD k []) = true ↔ actL.getD k [] = (sgA G i).2.1) := isT_iff G i _
      obtain ⟨z, hz⟩ : ∃ z, z = isT G i (actL.getD k []) := ⟨_, rfl⟩
      rw [← hz] at HP HI
      have HL : Hid (actL.getD k [] = actL.getD k []) := rfl
      obtain ⟨T, hT⟩ : ∃ T, T = txt (actL.getD k []) := ⟨_, rfl⟩
      rw [← hT] at HP HN
      clear hz hT
      cases z
      · go_wp2_with fail
        refine (HN.out _).mono ?_
        rintro e w1 ⟨rfl, rfl⟩
        go_wp2_with fail
        refine (show Calls Tryz.prog 104 _ _ _ from HP.out).mono ?_
        rintro e w2 ⟨rfl, r2, g2⟩
        have X2 : Hid (RdI w2 p a cap G i ∧ GB p w w2) := ⟨r2, gb_trans hX.out.2 g2⟩
        have HT : Hid (∀ j, j < k + 1 → ¬ actL.getD j [] = (sgA G i).2.1) := fun j hj => by
          rcases Nat.lt_succ_iff_lt_or_eq.1 hj with h | rfl
          · exact hn.out j h
          · intro he
            have := HI.out.2 he
            simp at this
        clear r2 g2 hX hn HP HN HI HR
        go_wp2
        go_roundw
        case rel => exact ⟨k + 1, by go_num, by omega, X2, HT⟩
        case measure => simp [intOf]; omega
      · go_wp2_with fail
        refine (HN.out _).mono ?_
        rintro e w1 ⟨rfl, rfl⟩
        go_wp2_with fail
        refine (show Calls Tryz.prog 104 _ _ _ from HP.out).mono ?_
        rintro e w2 ⟨rfl, r2, g2⟩
        have X2 : Hid (RdI w2 p a cap G (i + 1) ∧ GB p w w2) := ⟨r2, gb_trans hX.out.2 g2⟩
        have HM : Hid (rAct G i = some ((k : Int), i + 1)) := by
          unfold Hid rAct
          rw [findT_first (k := k) (by simpa [actL] using hlt) (HI.out.1 (by first | rfl | trivial)) hn.out]
          rfl
        clear r2 g2 hX hn HP HN HI HR
        go_wp2
        go_ret
        exact ⟨got_some HM.out rfl X2.out.1, X2.out.2⟩
    · obtain rfl : k = 6 := by omega
      have HM : Hid (rAct G i = none) := by
        unfold Hid rAct
        rw [findT_no (fun j hj => hn.out j (by simpa [actL] using hj))]
        rfl
      clear hn HR
      go_wp2
      exact bad_panic rfl ⟨got_none HM.out rfl, hX.out.2⟩

set_option maxRecDepth 100000 in
theorem outcome_any {w : World} {p : Nat} {a : Option Addr} {cap : Nat} {G : List Sg} {i : Nat} (h : RdI w p a cap G i) :
    Calls Tryz.prog 64 #[.pointer (some ⟨p, 0, none⟩)] w fun e w' => Got pairV (rOut G i) p a cap G e w' ∧ GB p w w' := by
  have HA := action_any h
  cases ea : rAct G i with
  | none =>
    have H1 : Hid (Fails 107 p w) := fails_of ea HA
    have HM : Hid (rOut G i = none) := by unfold Hid rOut; rw [ea]
    clear HA h ea
    go_enter Tryz.func64, Tryz.ntmps64
    go_wp2_with fail
    refine (show Calls Tryz.prog 107 _ _ _ from H1.out).mono ?_
    rintro e w1 ⟨rfl, g1⟩
    have X1 : Hid (GB p w w1) := g1
    clear g1 H1
    go_wp2
    exact bad_panic rfl ⟨got_none HM.out rfl, X1.out⟩
  | some x =>
    obtain ⟨n, j⟩ := x
    have H1 : Hid (Gives 107 p a cap G w (.int .i64 n) j) := gives_of ea HA
    clear HA h
    cases en : numAt G j
    · have HM : Hid (rOut G i = some ((n, 0), j)) := by unfold Hid rOut; rw [ea]; simp [en]
      clear ea
      go_enter Tryz.func64, Tryz.ntmps64
      go_wp2_with fail
      refine (show Calls Tryz.prog 107 _ _ _ from H1.out).mono ?_
      rintro e w1 ⟨⟨rfl, r1⟩, g1⟩
      have H2 : Hid (Calls Tryz.prog 105 #[.pointer (some ⟨p, 0, none⟩)] w1 fun e w' => e = .returned (.bool false) ∧ Ext w1 w') := by rw [← en]; exact numberStands_any r1
      have R1 : Hid (RdI w1 p a cap G j) := r1
      have X1 : Hid (GB p w w1) := g1
      clear g1 r1 H1
      go_wp2_with fail
      refine H2.out.mono ?_
      rintro e w2 ⟨rfl, x2⟩
      have X2 : Hid (RdI w2 p a cap G j ∧ GB p w w2) := ⟨R1.out.step x2, gb_trans X1.out (gb_ext x2)⟩
      clear x2 H2
      go_wp2
      go_ret2
      exact ⟨got_some HM.out rfl X2.out.1, X2.out.2⟩
    · have hnum : rNum G j = some ((sgA G j).2.2, j + 1) := by unfold rNum; rw [en]; rfl
      have HM : Hid (rOut G i = some ((n, (sgA G j).2.2), j + 1)) := by unfold Hid rOut; rw [ea]; simp [en]
      clear ea
      go_enter Tryz.func64, Tryz.ntmps64
      go_wp2_with fail
      refine (show Calls Tryz.prog 107 _ _ _ from H1.out).mono ?_
      rintro e w1 ⟨⟨rfl, r1⟩, g1⟩
      have H2 : Hid (Calls Tryz.prog 105 #[.pointer (some ⟨p, 0, none⟩)] w1 fun e w' => e = .returned (.bool true) ∧ Ext w1 w') := by rw [← en]; exact numberStands_any r1
      have R1 : Hid (RdI w1 p a cap G j) := r1
      have X1 : Hid (GB p w w1) := g1
      clear g1 r1 H1
      go_wp2_with fail
      refine H2.out.mono ?_
      rintro e w2 ⟨rfl, x2⟩
      have X2 : Hid (RdI w2 p a cap G j ∧ GB p w w2) := ⟨R1.out.step x2, gb_trans X1.out (gb_ext x2)⟩
      have H3 : Hid (Gives 63 p a cap G w2 (.int .i64 (sgA G j).2.2) (j + 1)) := gives_of hnum (rnumber_got X2.out.1)
      clear x2 H2 hnum en
      generalize (sgA G j).2.2 = d at *
      go_wp2_with fail
      refine (show Calls Tryz.prog 63 _ _ _ from H3.out).mono ?_
      rintro e w3 ⟨⟨rfl, r3⟩, g3⟩
      have X3 : Hid (RdI w3 p a cap G (j + 1) ∧ GB p w w3) := ⟨r3, gb_trans X2.out.2 g3⟩
      clear r3 g3 H3
      go_wp2
      go_ret2
      exact ⟨got_some HM.out rfl X3.out.1, X3.out.2⟩

end Go.Proofs.YtojaohdmfahpmaaGreatDoor

/- Impl's reader of signs: wide numbers, masks, comparisons, conditions, numbers of calls. -/
namespace Go.Proofs.YtojaohdmfahpmaaGreatDoor
open Go.RowKit
set_option linter.unusedVariables false

theorem gb_fresh {p r k : Nat} {w W : World} {v : Value} (h : GB p w W) (hr : w.heap.size ≤ r) : GB p w (W.setCell ⟨r, k, none⟩ v) :=
  ⟨h.os, h.tape, h.output, by rw [World.size_setCell]; exact h.size, fun i hi hne => (Below.heap_setCell _ _ _ _ (by show i ≠ r; omega)).trans (h.block i hi hne)⟩

theorem gb_alloc {p : Nat} {w W : World} (h : GB p w W) (o : Obj) : GB p w (W.alloc o) := gb_trans h (gb_ext (Ext.one _ _))

theorem RdI.fresh {w0 w : World} {p r k : Nat} {a : Option Addr} {cap : Nat} {G : List Sg} {i0 i : Nat} {v : Value} (h0 : RdI w0 p a cap G i0) (h : RdI w p a cap G i) (hr : w0.heap.size ≤ r) : RdI (w.setCell ⟨r, k, none⟩ v) p a cap G i := by
  have hp := h0.lt
  refine ⟨h.1.other (by omega) _ _, h.2.1, h.2.2.1, fun hl => ?_, h.2.2.2.2⟩
  obtain ⟨b, off, e, hc⟩ := h.2.2.2.1 hl
  obtain ⟨b0, off0, e0, hc0⟩ := h0.2.2.2.1 hl
  have hb : b = b0 := by rw [e] at e0; injection e0 with e0; injection e0
  have hlt := (hc0 0 hl).lt
  refine ⟨b, off, e, fun j hj => ?_⟩
  obtain ⟨c1, c2, c3⟩ := hc j hj
  have far : ∀ o, (⟨r, k, none⟩ : Addr) ≠ ⟨b, o, none⟩ := fun o e => by injection e with e1; omega
  exact ⟨by rw [World.cell?_setCell_other _ _ _ _ (far _)]; exact c1, by rw [World.cell?_setCell_other _ _ _ _ (far _)]; exact c2, by rw [World.cell?_setCell_other _ _ _ _ (far _)]; exact c3⟩

set_option maxRecDepth 100000 in
theorem rwide_any {w : World} {p : Nat} {a : Option Addr} {cap : Nat} {G : List Sg} {i : Nat} (h : RdI w p a cap G i) :
    Calls Tryz.prog 142 #[.pointer (some ⟨p, 0, none⟩)] w fun e w' => Got wideV (rWide G i) p a cap G e w' ∧ GB p w w' := by
  have hp := h.lt
  have X0 : Hid (RdI (w.alloc (.cells #[.int .i64 0, .int .i64 0] 76)) p a cap G i ∧ GB p w (w.alloc (.cells #[.int .i64 0, .int .i64 0] 76)) ∧ Kn (w.alloc (.cells #[.int .i64 0, .int .i64 0] 76)) w.heap.size [.int .i64 0, .int .i64 0] 76) := ⟨h.step (Ext.one _ _), gb_ext (Ext.one _ _), Kn.new w _ _⟩
  have H0 : Hid (RdI w p a cap G i ∧ p < w.heap.size) := ⟨h, hp⟩
  clear h hp
  cases ea : rNum G i with
  | none =>
    have H1 : Hid (∀ {W}, RdI W p a cap G i → Fails 63 p W) := fun {W} hW => fails_of ea (rnumber_got hW)
    have HM : Hid (rWide G i = none) := by unfold Hid rWide; rw [ea]
    clear ea
    go_enter Tryz.func142, Tryz.ntmps142
    go_wp2_with fail
    generalize w.alloc (.cells #[.int .i64 0, .int .i64 0] 76) = W0 at *
    refine (show Calls Tryz.prog 63 _ _ _ from H1.out X0.out.1).mono ?_
    rintro e w1 ⟨rfl, g1⟩
    have X1 : Hid (GB p w w1) := gb_trans X0.out.2.1 g1
    clear g1 H1
    go_wp2
    exact bad_panic rfl ⟨got_none HM.out rfl, X1.out⟩
  | some x =>
    obtain ⟨n, j⟩ := x
    have H1 : Hid (∀ {W}, RdI W p a cap G i → Gives 63 p a cap G W (.int .i64 n) j) := fun {W} hW => gives_of ea (rnumber_got hW)
    have H2 : Hid (∀ {W}, RdI W p a cap G j → Calls Tryz.prog 104 #[.pointer (some ⟨p, 0, none⟩), .string ⟨#[58]⟩] W fun e w' => e = .returned (.bool (isT G j tColon)) ∧ RdI w' p a cap G (if isT G j tColon then j + 1 else j) ∧ GB p W w') := fun {W} hW => passes_any tColon (by decide) hW
    have HM : Hid (rWide G i = (if isT G j tColon then (match rNum G (j + 1) with
      | none => none
      | some (m, k) => some ((n, m), k)) else some ((0, n), j))) := by unfold Hid rWide; rw [ea]; rfl
    clear ea
    obtain ⟨z, hz⟩ : ∃ z, z = isT G j tColon := ⟨_, rfl⟩
    rw [← hz] at H2 HM
    clear hz
    cases z
    · have HM2 : Hid (rWide G i = some ((0, n), j)) := HM.out
      clear HM
      go_enter Tryz.func142, Tryz.ntmps142
      go_wp2_with fail
      generalize w.alloc (.cells #[.int .i64 0, .int .i64 0] 76) = W0 at *
      refine (show Calls Tryz.prog 63 _ _ _ from H1.out X0.out.1).mono ?_
      rintro e w1 ⟨⟨rfl, r1⟩, g1⟩
      have X1 : Hid (RdI w1 p a cap G j ∧ GB p w w1 ∧ Kn w1 w.heap.size [.int .i64 0, .int .i64 0] 76) := ⟨r1, gb_trans X0.out.2.1 g1, X0.out.2.2.gb (by have := H0.out.2; omega) g1⟩
      clear r1 g1 H1 X0
      go_wp2_with fail
      refine (show Calls Tryz.prog 104 _ _ _ from H2.out X1.out.1).mono ?_
      rintro e w2 ⟨rfl, r2, g2⟩
      have X2 : Hid (RdI w2 p a cap G j ∧ GB p w w2 ∧ Kn w2 w.heap.size [.int .i64 0, .int .i64 0] 76) := ⟨r2, gb_trans X1.out.2.1 g2, X1.out.2.2.gb (by have := H0.out.2; omega) g2⟩
      clear r2 g2 H2 X1
      have K2 := X2.out.2.2
      have f1 := K2.free
      obtain ⟨c0, c1⟩ := (⟨K2.cell 0 _ rfl, K2.cell 1 _ rfl⟩ : _ ∧ _)
      have XB : Hid (RdI ((w2.setCell ⟨w.heap.size, 0, none⟩ (.int .i64 0)).setCell ⟨w.heap.size, 1, none⟩ (.int .i64 n)) p a cap G j ∧ GB p w ((w2.setCell ⟨w.heap.size, 0, none⟩ (.int .i64 0)).setCell ⟨w.heap.size, 1, none⟩ (.int .i64 n)) ∧ Kn ((w2.setCell ⟨w.heap.size, 0, none⟩ (.int .i64 0)).setCell ⟨w.heap.size, 1, none⟩ (.int .i64 n)) w.heap.size [.int .i64 0, .int .i64 n] 76) :=
        ⟨H0.out.1.fresh (H0.out.1.fresh X2.out.1 (Nat.le_refl _)) (Nat.le_refl _), gb_fresh (gb_fresh X2.out.2.1 (Nat.le_refl _)) (Nat.le_refl _), (K2.set 0 _).set 1 _⟩
      clear X2 K2
      go_wp2
      generalize (w2.setCell ⟨w.heap.size, 0, none⟩ (.int .i64 0)).setCell ⟨w.heap.size, 1, none⟩ (.int .i64 n) = WB at *
      clear c0 c1 f1
      obtain ⟨c0, c1⟩ := (⟨XB.out.2.2.cell 0 _ rfl, XB.out.2.2.cell 1 _ rfl⟩ : _ ∧ _)
      refine bodyPost_ret (v := .agg #[.int .i64 0, .int .i64 n]) (by simp [results, Tryz.results142, go_sem, *]) rfl ?_
      exact ⟨got_some HM2.out rfl XB.out.1, XB.out.2.1⟩
    · have HM1 : Hid (rWide G i = (match rNum G (j + 1) with
        | none => none
        | some (m, k) => some ((n, m), k))) := HM.out
      clear HM
      cases eb : rNum G (j + 1) with
      | none =>
        have HM2 : Hid (rWide G i = none) := by unfold Hid; rw [HM1.out, eb]
        have H3 : Hid (∀ {W}, RdI W p a cap G (j + 1) → Fails 63 p W) := fun {W} hW => fails_of eb (rnumber_got hW)
        clear HM1 eb
        go_enter Tryz.func142, Tryz.ntmps142
        go_wp2_with fail
        generalize w.alloc (.cells #[.int .i64 0, .int .i64 0] 76) = W0 at *
        refine (show Calls Tryz.prog 63 _ _ _ from H1.out X0.out.1).mono ?_
        rintro e w1 ⟨⟨rfl, r1⟩, g1⟩
        have X1 : Hid (RdI w1 p a cap G j ∧ GB p w w1) := ⟨r1, gb_trans X0.out.2.1 g1⟩
        clear r1 g1 H1 X0
        go_wp2_with fail
        refine (show Calls Tryz.prog 104 _ _ _ from H2.out X1.out.1).mono ?_
        rintro e w2 ⟨rfl, r2, g2⟩
        have X2 : Hid (RdI w2 p a cap G (j + 1) ∧ GB p w w2) := ⟨r2, gb_trans X1.out.2 g2⟩
        clear r2 g2 H2 X1
        go_wp2_with fail
        refine (show Calls Tryz.prog 63 _ _ _ from H3.out X2.out.1).mono ?_
        rintro e w3 ⟨rfl, g3⟩
        have X3 : Hid (GB p w w3) := gb_trans X2.out.2 g3
        clear g3 H3
        go_wp2
        exact bad_panic rfl ⟨got_none HM2.out rfl, X3.out⟩
      | some y =>
        obtain ⟨m, k⟩ := y
        have HM2 : Hid (rWide G i = some ((n, m), k)) := by unfold Hid; rw [HM1.out, eb]
        have H3 : Hid (∀ {W}, RdI W p a cap G (j + 1) → Gives 63 p a cap G W (.int .i64 m) k) := fun {W} hW => gives_of eb (rnumber_got hW)
        clear HM1 eb
        go_enter Tryz.func142, Tryz.ntmps142
        go_wp2_with fail
        generalize w.alloc (.cells #[.int .i64 0, .int .i64 0] 76) = W0 at *
        refine (show Calls Tryz.prog 63 _ _ _ from H1.out X0.out.1).mono ?_
        rintro e w1 ⟨⟨rfl, r1⟩, g1⟩
        have X1 : Hid (RdI w1 p a cap G j ∧ GB p w w1 ∧ Kn w1 w.heap.size [.int .i64 0, .int .i64 0] 76) := ⟨r1, gb_trans X0.out.2.1 g1, X0.out.2.2.gb (by have := H0.out.2; omega) g1⟩
        clear r1 g1 H1 X0
        go_wp2_with fail
        refine (show Calls Tryz.prog 104 _ _ _ from H2.out X1.out.1).mono ?_
        rintro e w2 ⟨rfl, r2, g2⟩
        have X2 : Hid (RdI w2 p a cap G (j + 1) ∧ GB p w w2 ∧ Kn w2 w.heap.size [.int .i64 0, .int .i64 0] 76) := ⟨r2, gb_trans X1.out.2.1 g2, X1.out.2.2.gb (by have := H0.out.2; omega) g2⟩
        clear r2 g2 H2 X1
        go_wp2_with fail
        refine (show Calls Tryz.prog 63 _ _ _ from H3.out X2.out.1).mono ?_
        rintro e w3 ⟨⟨rfl, r3⟩, g3⟩
        have X3 : Hid (RdI w3 p a cap G k ∧ GB p w w3 ∧ Kn w3 w.heap.size [.int .i64 0, .int .i64 0] 76) := ⟨r3, gb_trans X2.out.2.1 g3, X2.out.2.2.gb (by have := H0.out.2; omega) g3⟩
        clear r3 g3 H3 X2
        have K2 := X3.out.2.2
        have f1 := K2.free
        obtain ⟨c0, c1⟩ := (⟨K2.cell 0 _ rfl, K2.cell 1 _ rfl⟩ : _ ∧ _)
        have XB : Hid (RdI ((w3.setCell ⟨w.heap.size, 0, none⟩ (.int .i64 n)).setCell ⟨w.heap.size, 1, none⟩ (.int .i64 m)) p a cap G k ∧ GB p w ((w3.setCell ⟨w.heap.size, 0, none⟩ (.int .i64 n)).setCell ⟨w.heap.size, 1, none⟩ (.int .i64 m)) ∧ Kn ((w3.setCell ⟨w.heap.size, 0, none⟩ (.int .i64 n)).setCell ⟨w.heap.size, 1, none⟩ (.int .i64 m)) w.heap.size [.int .i64 n, .int .i64 m] 76) :=
          ⟨H0.out.1.fresh (H0.out.1.fresh X3.out.1 (Nat.le_refl _)) (Nat.le_refl _), gb_fresh (gb_fresh X3.out.2.1 (Nat.le_refl _)) (Nat.le_refl _), (K2.set 0 _).set 1 _⟩
        clear X3 K2
        go_wp2
        generalize (w3.setCell ⟨w.heap.size, 0, none⟩ (.int .i64 n)).setCell ⟨w.heap.size, 1, none⟩ (.int .i64 m) = WB at *
        clear c0 c1 f1
        obtain ⟨c0, c1⟩ := (⟨XB.out.2.2.cell 0 _ rfl, XB.out.2.2.cell 1 _ rfl⟩ : _ ∧ _)
        refine bodyPost_ret (v := .agg #[.int .i64 n, .int .i64 m]) (by simp [results, Tryz.results142, go_sem, *]) rfl ?_
        exact ⟨got_some HM2.out rfl XB.out.1, XB.out.2.1⟩

set_option maxRecDepth 100000 in
theorem rmask_any {w : World} {p : Nat} {a : Option Addr} {cap : Nat} {G : List Sg} {i : Nat} (h : RdI w p a cap G i) :
    Calls Tryz.prog 140 #[.pointer (some ⟨p, 0, none⟩)] w fun e w' => Got wideV (rMask G i) p a cap G e w' ∧ GB p w w' := by
  have hp := h.lt
  have X0 : Hid (RdI (w.alloc (.cells #[.int .i64 0, .int .i64 0] 76)) p a cap G i ∧ GB p w (w.alloc (.cells #[.int .i64 0, .int .i64 0] 76)) ∧ Kn (w.alloc (.cells #[.int .i64 0, .int .i64 0] 76)) w.heap.size [.int .i64 0, .int .i64 0] 76) := ⟨h.step (Ext.one _ _), gb_ext (Ext.one _ _), Kn.new w _ _⟩
  have H0 : Hid (RdI w p a cap G i ∧ p < w.heap.size) := ⟨h, hp⟩
  clear h hp
  have H2 : Hid (∀ {W}, RdI W p a cap G i → Calls Tryz.prog 104 #[.pointer (some ⟨p, 0, none⟩), .string ⟨#[38]⟩] W fun e w' => e = .returned (.bool (isT G i tAmp)) ∧ RdI w' p a cap G (if isT G i tAmp then i + 1 else i) ∧ GB p W w') := fun {W} hW => passes_any tAmp (by decide) hW
  have HM : Hid (rMask G i = (if isT G i tAmp then rWide G (i + 1) else some ((4294967295, 4294967295), i))) := rfl
  obtain ⟨z, hz⟩ : ∃ z, z = isT G i tAmp := ⟨_, rfl⟩
  rw [← hz] at H2 HM
  clear hz
  cases z
  · have HM2 : Hid (rMask G i = some ((4294967295, 4294967295), i)) := HM.out
    clear HM
    go_enter Tryz.func140, Tryz.ntmps140
    go_wp2_with fail
    generalize w.alloc (.cells #[.int .i64 0, .int .i64 0] 76) = W0 at *
    refine (show Calls Tryz.prog 104 _ _ _ from H2.out X0.out.1).mono ?_
    rintro e w2 ⟨rfl, r2, g2⟩
    have X2 : Hid (RdI w2 p a cap G i ∧ GB p w w2 ∧ Kn w2 w.heap.size [.int .i64 0, .int .i64 0] 76) := ⟨r2, gb_trans X0.out.2.1 g2, X0.out.2.2.gb (by have := H0.out.2; omega) g2⟩
    clear r2 g2 H2 X0
    have K2 := X2.out.2.2
    have f1 := K2.free
    obtain ⟨c0, c1⟩ := (⟨K2.cell 0 _ rfl, K2.cell 1 _ rfl⟩ : _ ∧ _)
    have XB : Hid (RdI ((w2.setCell ⟨w.heap.size, 0, none⟩ (.int .i64 4294967295)).setCell ⟨w.heap.size, 1, none⟩ (.int .i64 4294967295)) p a cap G i ∧ GB p w ((w2.setCell ⟨w.heap.size, 0, none⟩ (.int .i64 4294967295)).setCell ⟨w.heap.size, 1, none⟩ (.int .i64 4294967295)) ∧ Kn ((w2.setCell ⟨w.heap.size, 0, none⟩ (.int .i64 4294967295)).setCell ⟨w.heap.size, 1, none⟩ (.int .i64 4294967295)) w.heap.size [.int .i64 4294967295, .int .i64 4294967295] 76) :=
      ⟨H0.out.1.fresh (H0.out.1.fresh X2.out.1 (Nat.le_refl _)) (Nat.le_refl _), gb_fresh (gb_fresh X2.out.2.1 (Nat.le_refl _)) (Nat.le_refl _), (K2.set 0 _).set 1 _⟩
    clear X2 K2
    go_wp2
    generalize (w2.setCell ⟨w.heap.size, 0, none⟩ (.int .i64 4294967295)).setCell ⟨w.heap.size, 1, none⟩ (.int .i64 4294967295) = WB at *
    clear c0 c1 f1
    obtain ⟨c0, c1⟩ := (⟨XB.out.2.2.cell 0 _ rfl, XB.out.2.2.cell 1 _ rfl⟩ : _ ∧ _)
    refine bodyPost_ret (v := .agg #[.int .i64 4294967295, .int .i64 4294967295]) (by simp [results, Tryz.results140, go_sem, *]) rfl ?_
    exact ⟨got_some HM2.out rfl XB.out.1, XB.out.2.1⟩
  · have HM1 : Hid (rMask G i = rWide G (i + 1)) := HM.out
    clear HM
    cases eb : rWide G (i + 1) with
    | none =>
      have HM2 : Hid (rMask G i = none) := by unfold Hid; rw [HM1.out, eb]
      have H3 : Hid (∀ {W}, RdI W p a cap G (i + 1) → Fails 142 p W) := fun {W} hW => fails_of eb (rwide_any hW)
      clear HM1 eb
      go_enter Tryz.func140, Tryz.ntmps140
      go_wp2_with fail
      generalize w.alloc (.cells #[.int .i64 0, .int .i64 0] 76) = W0 at *
      refine (show Calls Tryz.prog 104 _ _ _ from H2.out X0.out.1).mono ?_
      rintro e w2 ⟨rfl, r2, g2⟩
      have X2 : Hid (RdI w2 p a cap G (i + 1) ∧ GB p w w2) := ⟨r2, gb_trans X0.out.2.1 g2⟩
      clear r2 g2 H2 X0
      go_wp2_with fail
      refine (show Calls Tryz.prog 142 _ _ _ from H3.out X2.out.1).mono ?_
      rintro e w3 ⟨rfl, g3⟩
      have X3 : Hid (GB p w w3) := gb_trans X2.out.2 g3
      clear g3 H3
      go_wp2
      exact bad_panic rfl ⟨got_none HM2.out rfl, X3.out⟩
    | some y =>
      obtain ⟨⟨n, m⟩, k⟩ := y
      have HM2 : Hid (rMask G i = some ((n, m), k)) := by unfold Hid; rw [HM1.out, eb]
      have H3 : Hid (∀ {W}, RdI W p a cap G (i + 1) → Gives 142 p a cap G W (.agg #[.int .i64 n, .int .i64 m]) k) := fun {W} hW => gives_of (val := wideV) eb (rwide_any hW)
      clear HM1 eb
      go_enter Tryz.func140, Tryz.ntmps140
      go_wp2_with fail
      generalize w.alloc (.cells #[.int .i64 0, .int .i64 0] 76) = W0 at *
      refine (show Calls Tryz.prog 104 _ _ _ from H2.out X0.out.1).mono ?_
      rintro e w2 ⟨rfl, r2, g2⟩
      have X2 : Hid (RdI w2 p a cap G (i + 1) ∧ GB p w w2 ∧ Kn w2 w.heap.size [.int .i64 0, .int .i64 0] 76) := ⟨r2, gb_trans X0.out.2.1 g2, X0.out.2.2.gb (by have := H0.out.2; omega) g2⟩
      clear r2 g2 H2 X0
      go_wp2_with fail
      refine (show Calls Tryz.prog 142 _ _ _ from H3.out X2.out.1).mono ?_
      rintro e w3 ⟨⟨rfl, r3⟩, g3⟩
      have X3 : Hid (RdI w3 p a cap G k ∧ GB p w w3 ∧ Kn w3 w.heap.size [.int .i64 0, .int .i64 0] 76) := ⟨r3, gb_trans X2.out.2.1 g3, X2.out.2.2.gb (by have := H0.out.2; omega) g3⟩
      clear r3 g3 H3 X2
      have K2 := X3.out.2.2
      have f1 := K2.free
      obtain ⟨c0, c1⟩ := (⟨K2.cell 0 _ rfl, K2.cell 1 _ rfl⟩ : _ ∧ _)
      have XB : Hid (RdI ((w3.setCell ⟨w.heap.size, 0, none⟩ (.int .i64 n)).setCell ⟨w.heap.size, 1, none⟩ (.int .i64 m)) p a cap G k ∧ GB p w ((w3.setCell ⟨w.heap.size, 0, none⟩ (.int .i64 n)).setCell ⟨w.heap.size, 1, none⟩ (.int .i64 m)) ∧ Kn ((w3.setCell ⟨w.heap.size, 0, none⟩ (.int .i64 n)).setCell ⟨w.heap.size, 1, none⟩ (.int .i64 m)) w.heap.size [.int .i64 n, .int .i64 m] 76) :=
        ⟨H0.out.1.fresh (H0.out.1.fresh X3.out.1 (Nat.le_refl _)) (Nat.le_refl _), gb_fresh (gb_fresh X3.out.2.1 (Nat.le_refl _)) (Nat.le_refl _), (K2.set 0 _).set 1 _⟩
      clear X3 K2
      go_wp2
      generalize (w3.setCell ⟨w.heap.size, 0, none⟩ (.int .i64 n)).setCell ⟨w.heap.size, 1, none⟩ (.int .i64 m) = WB at *
      clear c0 c1 f1
      obtain ⟨c0, c1⟩ := (⟨XB.out.2.2.cell 0 _ rfl, XB.out.2.2.cell 1 _ rfl⟩ : _ ∧ _)
      refine bodyPost_ret (v := .agg #[.int .i64 n, .int .i64 m]) (by simp [results, Tryz.results140, go_sem, *]) rfl ?_
      exact ⟨got_some HM2.out rfl XB.out.1, XB.out.2.1⟩

/-- The tables are kept by what turns the reader alone. -/
theorem Cms.rd {w0 w : World} {p : Nat} (h : Cms w0) (hp : p ≠ 0) (hG : GB p w0 w) : Cms w := h.gb hp hG

set_option maxRecDepth 100000 in
theorem comparison_any {w : World} {p : Nat} {a : Option Addr} {cap : Nat} {G : List Sg} {i : Nat} (h : RdI w p a cap G i) (hp : p ≠ 0) (hC : Cms w) :
    Calls Tryz.prog 141 #[.pointer (some ⟨p, 0, none⟩)] w fun e w' => Got intV (rCmp G i) p a cap G e w' ∧ GB p w w' := by
  have HR : Hid (RdI w p a cap G i) := h
  have HC : Hid (∀ W, GB p w W → Cms W) := fun W hG => hC.gb hp hG
  clear h hC hp
  go_enter Tryz.func141, Tryz.ntmps141
  go_wp2_with fail
  go_loopw [3] (fun v wr => ∃ k : Nat, v = .int .i64 k ∧ 1 ≤ k ∧ k ≤ 7 ∧ Hid (RdI wr p a cap G i ∧ GB p w wr) ∧ Hid (∀ j, j + 1 < k → ¬ cmL.getD j [] = (sgA G i).2.1)) (fun v _ => 7 - (intOf v).toNat)
  case atStart => exact ⟨1, rfl, by omega, by omega, ⟨HR.out, gb_refl _ _⟩, fun j hj => by omega⟩
  case round =>
    obtain ⟨k, rfl, hk1, hk, hX, hn⟩ := hrel
    by_cases hlt : k < 7
    · have bk : (k : Int) ≤ 6 := by omega
      have k0 : (0 : Int) ≤ (k : Int) := by omega
      have k7 : (k : Int) < 7 := by omega
      have hcell := (HC.out wr hX.out.2).1 k hlt
      obtain ⟨c, rfl⟩ : ∃ c, k = c + 1 := ⟨k - 1, by omega⟩
      rw [show cmT (c + 1) = cmL.getD c [] from rfl] at hcell
      have HP : Hid (Calls Tryz.prog 104 #[.pointer (some ⟨p, 0, none⟩), .string (txt (cmL.getD c []))] wr fun e w' => e = .returned (.bool (isT G i (cmL.getD c []))) ∧ RdI w' p a cap G (if isT G i (cmL.getD c []) then i + 1 else i) ∧ GB p wr w') := passes_any _ (cmL_ne c (by omega)) hX.out.1
      have HI : Hid (isT G i (cmL.getD c []) = true ↔ cmL.getD c [] = (sgA G i).2.1) := isT_iff G i _
      obtain ⟨z, hz⟩ : ∃ z, z = isT G i (cmL.getD c []) := ⟨_, rfl⟩
      rw [← hz] at HP HI
      obtain ⟨T, hT⟩ : ∃ T, T = txt (cmL.getD c []) := ⟨_, rfl⟩
      rw [← hT] at HP hcell
      clear hz hT
      obtain ⟨k, hkk⟩ : ∃ k, k = c + 1 := ⟨_, rfl⟩
      have HK : Hid (k = c + 1) := hkk
      rw [← hkk] at bk k0 k7 hcell hlt hn hk ⊢
      clear hkk hk1
      cases z
      · go_wp2_with fail
        refine (show Calls Tryz.prog 104 _ _ _ from HP.out).mono ?_
        rintro e w2 ⟨rfl, r2, g2⟩
        have X2 : Hid (RdI w2 p a cap G i ∧ GB p w w2) := ⟨r2, gb_trans hX.out.2 g2⟩
        have HT : Hid (∀ j, j + 1 < k + 1 → ¬ cmL.getD j [] = (sgA G i).2.1) := fun j hj => by
          by_cases h : j + 1 < k
          · exact hn.out j h
          · have : j = c := by have := HK.out; omega
            subst this
            intro he
            have := HI.out.2 he
            simp at this
        clear r2 g2 hX hn HP HI HR hcell
        go_wp2
        go_roundw
        case rel => exact ⟨k + 1, by go_num, by omega, by omega, X2, HT⟩
        case measure => simp [intOf]; omega
      · go_wp2_with fail
        refine (show Calls Tryz.prog 104 _ _ _ from HP.out).mono ?_
        rintro e w2 ⟨rfl, r2, g2⟩
        have X2 : Hid (RdI w2 p a cap G (i + 1) ∧ GB p w w2) := ⟨r2, gb_trans hX.out.2 g2⟩
        have HM : Hid (rCmp G i = some ((k : Int), i + 1)) := by
          have hc := HK.out
          unfold Hid rCmp
          rw [findT_first (k := c) (by simp [cmL]; omega) (HI.out.1 (by first | rfl | trivial)) (fun j hj => hn.out j (by omega))]
          simp
          omega
        clear r2 g2 hX hn HP HI HR hcell
        go_wp2
        go_ret
        exact ⟨got_some HM.out rfl X2.out.1, X2.out.2⟩
    · obtain rfl : k = 7 := by omega
      have HM : Hid (rCmp G i = none) := by
        unfold Hid rCmp
        rw [findT_no (fun j hj => hn.out j (by have : j < 6 := by simpa [cmL] using hj
                                               omega))]
        rfl
      clear hn HR
      go_wp2
      exact bad_panic rfl ⟨got_none HM.out rfl, hX.out.2⟩

set_option maxRecDepth 100000 in
theorem callNum_any {w : World} {p : Nat} {a : Option Addr} {cap : Nat} {G : List Sg} {i : Nat} (h : RdI w p a cap G i) (hG : Good G) :
    Calls Tryz.prog 125 #[.pointer (some ⟨p, 0, none⟩)] w fun e w' => Got intV (rCall G i) p a cap G e w' ∧ GB p w w' := by
  have HS : Hid (Calls Tryz.prog 105 #[.pointer (some ⟨p, 0, none⟩)] w fun e w' => e = .returned (.bool (numAt G i)) ∧ Ext w w') := numberStands_any h
  have HR : Hid (∀ W, Ext w W → RdI W p a cap G i) := fun W hE => h.step hE
  have HM : Hid (rCall G i = if numAt G i then some ((sgA G i).2.2, i + 1) else if callN (sgA G i).2.1 < 0 then none else some (callN (sgA G i).2.1, i + 1)) := rfl
  cases en : numAt G i
  · rw [en] at HS HM
    have HN : Hid (∀ W, Ext w W → Calls Tryz.prog 106 #[.pointer (some ⟨p, 0, none⟩)] W fun e w' => e = .returned (.agg #[.int .i64 (sgA G i).1, .string (txt (sgA G i).2.1), .int .i64 (sgA G i).2.2]) ∧ Ext W w') := fun W hE => next_any (h.step hE)
    have hsz : (txt (sgA G i).2.1).size ≤ maxLen := by
      have h1 : (sgA G i).2.1.length ≤ 12 := by
        rcases sgA_cases hG i with ⟨hi, hg⟩ | ⟨hi, hz⟩
        · rcases hg with ⟨_, _, _, h4, _⟩ | ⟨_, h2, _⟩ | ⟨_, _, h3⟩
          · exact h4
          · rw [h2]; simp
          · have := isMarkL_short h3; omega
        · rw [hz]; simp [zeroG]
      show (sgA G i).2.1.toArray.size ≤ maxLen
      simp [maxLen]; omega
    have HC : Hid (∀ W, Calls Tryz.prog 137 #[.string (txt (sgA G i).2.1)] W fun e w' => e = .returned (.int .i64 (callN (sgA G i).2.1)) ∧ Ext W w') := fun W => by
      have := iNumber_any (txt (sgA G i).2.1) W hsz
      simpa [txt] using this
    have HM2 : Hid (rCall G i = if callN (sgA G i).2.1 < 0 then none else some (callN (sgA G i).2.1, i + 1)) := HM.out
    have hfld := fld1 (.int .i64 (sgA G i).1) (.string (txt (sgA G i).2.1)) (.int .i64 (sgA G i).2.2)
    have HLT : Hid (¬ callN (sgA G i).2.1 < 0 → i + 1 ≤ G.length) := fun hc => by
      have := (hd_kind hG (nameL_hd _ (callN_mem hc))).1
      omega
    clear HM en h hsz
    generalize (sgA G i).1 = sk at *
    generalize callN (sgA G i).2.1 = c at *
    generalize txt (sgA G i).2.1 = st at *
    generalize (sgA G i).2.2 = sn at *
    by_cases hc : c < 0
    · have HM3 : Hid (rCall G i = none) := by unfold Hid; rw [HM2.out, if_pos hc]
      clear HM2
      go_enter Tryz.func125, Tryz.ntmps125
      go_wp2_with fail
      refine HS.out.mono ?_
      rintro e w1 ⟨rfl, x1⟩
      have X1 : Hid (Ext w w1) := x1
      clear x1 HS
      go_wp2_with fail
      refine (HN.out _ X1.out).mono ?_
      rintro e w2 ⟨rfl, x2⟩
      have X2 : Hid (Ext w w2) := X1.out.trans x2
      clear x2 HN
      go_wp2_with fail
      refine (HC.out _).mono ?_
      rintro e w3 ⟨rfl, x3⟩
      have X3 : Hid (Ext w w3) := X2.out.trans x3
      clear x3 HC
      go_wp2
      exact bad_panic rfl ⟨got_none HM3.out rfl, gb_ext X3.out⟩
    · have HM3 : Hid (rCall G i = some (c, i + 1)) := by unfold Hid; rw [HM2.out, if_neg hc]
      have hle := HLT.out hc
      have HLE : Hid (i + 1 ≤ G.length) := hle
      clear HM2 hle
      go_enter Tryz.func125, Tryz.ntmps125
      go_wp2_with fail
      refine HS.out.mono ?_
      rintro e w1 ⟨rfl, x1⟩
      have X1 : Hid (Ext w w1) := x1
      clear x1 HS
      go_wp2_with fail
      refine (HN.out _ X1.out).mono ?_
      rintro e w2 ⟨rfl, x2⟩
      have X2 : Hid (Ext w w2) := X1.out.trans x2
      clear x2 HN
      go_wp2_with fail
      refine (HC.out _).mono ?_
      rintro e w3 ⟨rfl, x3⟩
      have X3 : Hid (Ext w w3) := X2.out.trans x3
      have R3 : Hid (RdI w3 p a cap G i) := HR.out _ X3.out
      have c1 := R3.out.1.cell 1 _ rfl
      have f1 := R3.out.1.free
      have hb : i ≤ 1200 := by have := R3.out.2.1; have := R3.out.2.2.1; omega
      clear x3 HC
      go_wp2
      go_ret
      exact ⟨got_some HM3.out rfl (R3.out.set HLE.out), gb_trans (gb_ext X3.out) (gb_set _ _ _ _)⟩
  · rw [en] at HS HM
    have hnum : rNum G i = some ((sgA G i).2.2, i + 1) := by unfold rNum; rw [en]; rfl
    have HM2 : Hid (rCall G i = some ((sgA G i).2.2, i + 1)) := HM.out
    have H3 : Hid (∀ {W}, RdI W p a cap G i → Gives 63 p a cap G W (.int .i64 (sgA G i).2.2) (i + 1)) := fun {W} hW => gives_of (val := intV) hnum (rnumber_got hW)
    clear HM en h hnum
    generalize (sgA G i).2.2 = sn at *
    go_enter Tryz.func125, Tryz.ntmps125
    go_wp2_with fail
    refine HS.out.mono ?_
    rintro e w1 ⟨rfl, x1⟩
    have X1 : Hid (Ext w w1) := x1
    clear x1 HS
    go_wp2_with fail
    refine (show Calls Tryz.prog 63 _ _ _ from H3.out (HR.out _ X1.out)).mono ?_
    rintro e w3 ⟨⟨rfl, r3⟩, g3⟩
    have X3 : Hid (RdI w3 p a cap G (i + 1) ∧ GB p w w3) := ⟨r3, gb_trans (gb_ext X1.out) g3⟩
    clear r3 g3 H3
    go_wp2
    go_ret
    exact ⟨got_some HM2.out rfl X3.out.1, X3.out.2⟩

end Go.Proofs.YtojaohdmfahpmaaGreatDoor

/- Spec's reader of signs: what its small functions do, in plain lists. -/
namespace Go.Proofs.YtojaohdmfahpmaaGreatDoor
open Go.RowKit
set_option linter.unusedVariables false

/-- Spec's reader at block p: the signs, the place; nothing: it is bad. -/
def RdS (W : World) (p : Nat) (a : Option Addr) (cap : Nat) (G : List Sg) (s : Option Nat) : Prop :=
  ∃ (i : Nat) (b : Bool), Kn W p [.slice a G.length cap, .int .i64 (i : Int), .bool b] 66 ∧ s = (if b then none else some i) ∧ i ≤ G.length ∧ G.length ≤ 1200 ∧ Signs W a G ∧ ∀ b o s, a = some ⟨b, o, s⟩ → b ≠ p

theorem RdS.lt {w : World} {p : Nat} {a : Option Addr} {cap : Nat} {G : List Sg} {s : Option Nat} (h : RdS w p a cap G s) : p < w.heap.size := by
  obtain ⟨i, b, h, _⟩ := h; exact h.lt

theorem RdS.step {w w' : World} {p : Nat} {a : Option Addr} {cap : Nat} {G : List Sg} {s : Option Nat} (h : RdS w p a cap G s) (hE : Ext w w') : RdS w' p a cap G s := by
  obtain ⟨i, b, h1, h2, h3, h4, h5, h6⟩ := h
  exact ⟨i, b, h1.ext hE, h2, h3, h4, h5.ext hE, h6⟩

theorem RdS.bad {w : World} {p : Nat} {a : Option Addr} {cap : Nat} {G : List Sg} {s : Option Nat} (h : RdS w p a cap G s) : RdS (w.setCell ⟨p, 2, none⟩ (.bool true)) p a cap G none := by
  obtain ⟨i, b, h1, h2, h3, h4, h5, h6⟩ := h
  exact ⟨i, true, h1.set 2 _, rfl, h3, h4, h5.gb h6 (gb_set _ _ _ _), h6⟩

theorem RdS.at {w : World} {p : Nat} {a : Option Addr} {cap : Nat} {G : List Sg} {i : Nat} (h : RdS w p a cap G (some i)) : Kn w p [.slice a G.length cap, .int .i64 (i : Int), .bool false] 66 ∧ i ≤ G.length ∧ G.length ≤ 1200 ∧ Signs w a G := by
  obtain ⟨j, b, h1, h2, h3, h4, h5, h6⟩ := h
  cases b
  · simp at h2; subst h2; exact ⟨h1, h3, h4, h5⟩
  · simp at h2

theorem RdS.lost {w : World} {p : Nat} {a : Option Addr} {cap : Nat} {G : List Sg} (h : RdS w p a cap G none) : ∃ i : Nat, Kn w p [.slice a G.length cap, .int .i64 (i : Int), .bool true] 66 ∧ i ≤ G.length := by
  obtain ⟨j, b, h1, h2, h3, h4, h5, h6⟩ := h
  cases b
  · simp at h2
  · exact ⟨j, h1, h3⟩

theorem RdS.next {w : World} {p : Nat} {a : Option Addr} {cap : Nat} {G : List Sg} {i : Nat} (h : RdS w p a cap G (some i)) {j : Nat} (hj : j ≤ G.length) : RdS (w.setCell ⟨p, 1, none⟩ (.int .i64 (j : Int))) p a cap G (some j) := by
  obtain ⟨i, b, h1, h2, h3, h4, h5, h6⟩ := h
  cases b
  · exact ⟨j, false, h1.set 1 _, rfl, hj, h4, h5.gb h6 (gb_set _ _ _ _), h6⟩
  · simp at h2

/-- Another block is written, which was not there then. -/
theorem RdS.row {w0 w w' : World} {p : Nat} {a : Option Addr} {cap : Nat} {G : List Sg} {s0 s : Option Nat} {row : Option Nat} (h0 : RdS w0 p a cap G s0) (h : RdS w p a cap G s) (hg : w.grownBy w' row) (hr : ∀ x, row = some x → w0.heap.size ≤ x) : RdS w' p a cap G s := by
  have hp := h0.lt
  have hq := h.lt
  obtain ⟨i0, b0, k1, k2, k3, k4, k5, k6⟩ := h0
  obtain ⟨i, b, h1, h2, h3, h4, h5, h6⟩ := h
  refine ⟨i, b, (hg.block p hq (fun e => by have := hr p e.symm; omega)).trans h1, h2, h3, h4, fun hl => ?_, h6⟩
  obtain ⟨b, off, e, hc⟩ := h5 hl
  obtain ⟨b0, off0, e0, hc0⟩ := k5 hl
  have hb : b = b0 := by rw [e] at e0; injection e0 with e0; injection e0
  have hlt := (hc0 0 hl).lt
  refine ⟨b, off, e, fun j hj => ?_⟩
  obtain ⟨c1, c2, c3⟩ := hc j hj
  have far : Option.some b ≠ row := fun e => by have := hr b e.symm; omega
  exact ⟨hg.cell c1 far, hg.cell c2 far, hg.cell c3 far⟩

theorem RdS.fresh {w0 w : World} {p r k : Nat} {a : Option Addr} {cap : Nat} {G : List Sg} {s0 s : Option Nat} {v : Value} (h0 : RdS w0 p a cap G s0) (h : RdS w p a cap G s) (hr : w0.heap.size ≤ r) : RdS (w.setCell ⟨r, k, none⟩ v) p a cap G s :=
  h0.row h (gb_set r k w v) (fun x hx => by injection hx with hx; omega)

/-- A call that answers v and leaves the reader so. -/
abbrev Tells (f : Nat) (args : Array Value) (p : Nat) (a : Option Addr) (cap : Nat) (G : List Sg) (w : World) (v : Value) (s : Option Nat) : Prop :=
  Calls Tryz.prog f args w fun e w' => e = .returned v ∧ RdS w' p a cap G s ∧ GB p w w'

theorem Tells.of {f : Nat} {args : Array Value} {p : Nat} {a : Option Addr} {cap : Nat} {G : List Sg} {w : World} {v v' : Value} {s s' : Option Nat} (h : Tells f args p a cap G w v s) (hv : v = v') (hs : s = s') : Tells f args p a cap G w v' s' := by
  subst hv hs; exact h

/-- The sign that a place has, in memory. -/
theorem RdS.sign {w : World} {p : Nat} {a : Option Addr} {cap : Nat} {G : List Sg} {i : Nat} (h : RdS w p a cap G (some i)) (hi : i < G.length) : ∃ b off, a = some ⟨b, off, none⟩ ∧ Tri w b (off + i * 3) (sgA G i).1 (txt (sgA G i).2.1) (sgA G i).2.2 := h.at.2.2.2.tri hi

set_option maxRecDepth 100000 in
set_option maxHeartbeats 1000000 in
theorem isR_any {w : World} {p : Nat} {a : Option Addr} {cap : Nat} {G : List Sg} {s : Option Nat} (k : Int) (t : List UInt8) (h : RdS w p a cap G s) :
    Calls Tryz.prog 112 #[.pointer (some ⟨p, 0, none⟩), .int .i64 k, .string (txt t)] w fun e w' => e = .returned (.bool (sIs G s k t)) ∧ Ext w w' := by
  cases s with
  | none =>
    obtain ⟨i, hK, _⟩ := h.lost
    rw [show sIs G none k t = false from rfl]
    have c0 := hK.cell 0 _ rfl
    have c1 := hK.cell 1 _ rfl
    have c2 := hK.cell 2 _ rfl
    clear hK h
    generalize G.length = n at *
    generalize txt t = T at *
    go_enter Tryz.func112, Tryz.ntmps112
    go_wp2
    go_quiet (fail)
    go_wp2
    go_ret
    exact ⟨rfl, ⟨rfl, rfl, rfl, Nat.le_refl _, fun _ _ => rfl⟩⟩
  | some i =>
    obtain ⟨hK, hi, hl, _⟩ := h.at
    have c0 := hK.cell 0 _ rfl
    have c1 := hK.cell 1 _ rfl
    have c2 := hK.cell 2 _ rfl
    by_cases hlt : i < G.length
    · obtain ⟨b, off, rfl, q0, q1, q2⟩ := h.sign hlt
      have hz : sIs G (some i) k t = (((sgA G i).1 == k) && ((sgA G i).2.1 == t)) := by unfold sIs; simp [hlt]
      have heq : ((txt (sgA G i).2.1).toList == (txt t).toList) = ((sgA G i).2.1 == t) := by
        rw [Bool.eq_iff_iff]
        simp only [beq_iff_eq]
        exact ⟨fun e => txt_inj (ByteArray.ext (Array.toList_inj.1 (by simpa [ByteArray.toList_eq] using e))), fun e => by rw [e]⟩
      rw [hz]
      have bi : (i : Int) < (G.length : Int) := by omega
      clear hz hK h hi hl hlt
      generalize ((sgA G i).2.1 == t) = z2 at *
      generalize G.length = n at *
      generalize (sgA G i).1 = sk at *
      generalize txt (sgA G i).2.1 = st at *
      generalize (sgA G i).2.2 = sn at *
      generalize txt t = T at *
      obtain ⟨z1, hz1⟩ : ∃ z, z = (sk == k) := ⟨_, rfl⟩
      rw [← hz1]
      have hkk : (sk == k) = z1 := hz1.symm
      clear hz1
      cases z1
      · go_enter Tryz.func112, Tryz.ntmps112
        go_wp2
        go_quiet (fail)
        go_wp2
        go_ret
        exact ⟨rfl, ⟨rfl, rfl, rfl, Nat.le_refl _, fun _ _ => rfl⟩⟩
      · go_enter Tryz.func112, Tryz.ntmps112
        go_wp2
        go_quiet (fail)
        go_wp2
        go_ret
        exact ⟨rfl, ⟨rfl, rfl, rfl, Nat.le_refl _, fun _ _ => rfl⟩⟩
    · have hz : sIs G (some i) k t = false := by unfold sIs; simp [hlt]
      rw [hz]
      have bi : ¬ ((i : Int) < (G.length : Int)) := by omega
      have bd : decide (i < G.length) = false := decide_eq_false hlt
      clear hz hK h hi hl hlt
      generalize G.length = n at *
      generalize txt t = T at *
      go_enter Tryz.func112, Tryz.ntmps112
      go_wp2
      go_quiet (fail)
      go_wp2
      go_ret
      exact ⟨rfl, ⟨rfl, rfl, rfl, Nat.le_refl _, fun _ _ => rfl⟩⟩

set_option maxRecDepth 100000 in
set_option maxHeartbeats 1000000 in
theorem hasNum_any {w : World} {p : Nat} {a : Option Addr} {cap : Nat} {G : List Sg} {s : Option Nat} (h : RdS w p a cap G s) :
    Calls Tryz.prog 74 #[.pointer (some ⟨p, 0, none⟩)] w fun e w' => e = .returned (.bool (sHas G s)) ∧ Ext w w' := by
  cases s with
  | none =>
    obtain ⟨i, hK, _⟩ := h.lost
    rw [show sHas G none = false from rfl]
    have c0 := hK.cell 0 _ rfl
    have c1 := hK.cell 1 _ rfl
    have c2 := hK.cell 2 _ rfl
    clear hK h
    generalize G.length = n at *
    go_enter Tryz.func74, Tryz.ntmps74
    go_wp2
    go_quiet (fail)
    go_wp2
    go_ret
    exact ⟨rfl, ⟨rfl, rfl, rfl, Nat.le_refl _, fun _ _ => rfl⟩⟩
  | some i =>
    obtain ⟨hK, hi, hl, _⟩ := h.at
    have c0 := hK.cell 0 _ rfl
    have c1 := hK.cell 1 _ rfl
    have c2 := hK.cell 2 _ rfl
    by_cases hlt : i < G.length
    · obtain ⟨b, off, rfl, q0, q1, q2⟩ := h.sign hlt
      have hz : sHas G (some i) = ((sgA G i).1 == 2) := by unfold sHas; simp [hlt]
      rw [hz]
      have bi : (i : Int) < (G.length : Int) := by omega
      clear hz hK h hi hl hlt
      generalize G.length = n at *
      generalize (sgA G i).1 = sk at *
      generalize txt (sgA G i).2.1 = st at *
      generalize (sgA G i).2.2 = sn at *
      go_enter Tryz.func74, Tryz.ntmps74
      go_wp2
      go_quiet (fail)
      go_wp2
      go_ret
      exact ⟨rfl, ⟨rfl, rfl, rfl, Nat.le_refl _, fun _ _ => rfl⟩⟩
    · have hz : sHas G (some i) = false := by unfold sHas; simp [hlt]
      rw [hz]
      have bi : ¬ ((i : Int) < (G.length : Int)) := by omega
      have bd : decide (i < G.length) = false := decide_eq_false hlt
      clear hz hK h hi hl hlt
      generalize G.length = n at *
      go_enter Tryz.func74, Tryz.ntmps74
      go_wp2
      go_quiet (fail)
      go_wp2
      go_ret
      exact ⟨rfl, ⟨rfl, rfl, rfl, Nat.le_refl _, fun _ _ => rfl⟩⟩

theorem sIs_lt {G : List Sg} {s : Option Nat} {k : Int} {t : List UInt8} (h : sIs G s k t = true) : ∃ i, s = some i ∧ i < G.length := by
  cases s with
  | none => simp [sIs] at h
  | some i => simp [sIs] at h; exact ⟨i, rfl, h.1.1⟩

set_option maxRecDepth 100000 in
theorem takes_any {w : World} {p : Nat} {a : Option Addr} {cap : Nat} {G : List Sg} {s : Option Nat} (k : Int) (t : List UInt8) (h : RdS w p a cap G s) :
    Calls Tryz.prog 73 #[.pointer (some ⟨p, 0, none⟩), .int .i64 k, .string (txt t)] w fun e w' => e = .returned (.bool (sIs G s k t)) ∧ RdS w' p a cap G (sTk G s k t) ∧ GB p w w' := by
  have H0 : Hid (Calls Tryz.prog 112 #[.pointer (some ⟨p, 0, none⟩), .int .i64 k, .string (txt t)] w fun e w' => e = .returned (.bool (sIs G s k t)) ∧ Ext w w') := isR_any k t h
  have HR : Hid (RdS w p a cap G s) := h
  have HT : Hid (sTk G s k t = if sIs G s k t then nx s else s) := rfl
  have HL : Hid (sIs G s k t = true → ∃ i, s = some i ∧ i < G.length) := sIs_lt
  clear h
  generalize sTk G s k t = s' at *
  generalize sIs G s k t = z at *
  generalize txt t = T at *
  cases z
  · go_enter Tryz.func73, Tryz.ntmps73
    go_wp2_with fail
    refine (show Calls Tryz.prog 112 _ _ _ from H0.out).mono ?_
    rintro e w1 ⟨rfl, x1⟩
    have X1 : Hid (Ext w w1) := x1
    clear x1 H0
    go_wp2
    go_ret
    exact ⟨rfl, by rw [HT.out]; exact HR.out.step X1.out, gb_ext X1.out⟩
  · obtain ⟨i, rfl, hlt⟩ := HL.out rfl
    have HT2 : Hid (s' = some (i + 1) ∧ i + 1 ≤ G.length) := ⟨HT.out, hlt⟩
    clear HT HL
    go_enter Tryz.func73, Tryz.ntmps73
    go_wp2_with fail
    refine (show Calls Tryz.prog 112 _ _ _ from H0.out).mono ?_
    rintro e w1 ⟨rfl, x1⟩
    have X1 : Hid (Ext w w1) := x1
    have R1 : Hid (RdS w1 p a cap G (some i)) := HR.out.step x1
    have c1 := R1.out.at.1.cell 1 _ rfl
    have f1 := R1.out.at.1.free
    have hb : i ≤ 1200 := by have := R1.out.at.2; omega
    clear x1 H0 hlt
    go_wp2
    go_ret
    exact ⟨rfl, by rw [HT2.out.1]; exact R1.out.next HT2.out.2, gb_trans (gb_ext X1.out) (gb_set _ _ _ _)⟩

set_option maxRecDepth 100000 in
theorem wants_any {w : World} {p : Nat} {a : Option Addr} {cap : Nat} {G : List Sg} {s : Option Nat} (k : Int) (t : List UInt8) (h : RdS w p a cap G s) :
    Calls Tryz.prog 32 #[.pointer (some ⟨p, 0, none⟩), .int .i64 k, .string (txt t)] w fun e w' => e = .returned (.tuple #[]) ∧ RdS w' p a cap G (sWt G s k t) ∧ GB p w w' := by
  have H0 : Hid (Calls Tryz.prog 73 #[.pointer (some ⟨p, 0, none⟩), .int .i64 k, .string (txt t)] w fun e w' => e = .returned (.bool (sIs G s k t)) ∧ RdS w' p a cap G (sTk G s k t) ∧ GB p w w') := takes_any k t h
  have HT : Hid (sWt G s k t = if sIs G s k t then sTk G s k t else none) := by unfold Hid sWt sTk; cases sIs G s k t <;> rfl
  clear h
  generalize sTk G s k t = s1 at *
  generalize sWt G s k t = s' at *
  generalize sIs G s k t = z at *
  generalize txt t = T at *
  cases z
  · go_enter Tryz.func32, Tryz.ntmps32
    go_wp2_with fail
    refine (show Calls Tryz.prog 73 _ _ _ from H0.out).mono ?_
    rintro e w1 ⟨rfl, r1, g1⟩
    have X1 : Hid (RdS w1 p a cap G s1 ∧ GB p w w1) := ⟨r1, g1⟩
    obtain ⟨i, b, hK, _⟩ := r1
    have c2 := hK.cell 2 _ rfl
    have f1 := hK.free
    clear g1 H0 hK
    go_wp2
    go_end0
    exact ⟨rfl, by rw [HT.out]; exact X1.out.1.bad, gb_trans X1.out.2 (gb_set _ _ _ _)⟩
  · go_enter Tryz.func32, Tryz.ntmps32
    go_wp2_with fail
    refine (show Calls Tryz.prog 73 _ _ _ from H0.out).mono ?_
    rintro e w1 ⟨rfl, r1, g1⟩
    have X1 : Hid (RdS w1 p a cap G s1 ∧ GB p w w1) := ⟨r1, g1⟩
    clear r1 g1 H0
    go_wp2
    go_end0
    exact ⟨rfl, by rw [HT.out]; exact X1.out.1, X1.out.2⟩

theorem sHas_lt {G : List Sg} {s : Option Nat} (h : sHas G s = true) : ∃ i, s = some i ∧ i < G.length := by
  cases s with
  | none => simp [sHas] at h
  | some i => simp [sHas] at h; exact ⟨i, rfl, h.1⟩

theorem sNum_if (G : List Sg) (s : Option Nat) : sNum G s = if sHas G s then ((sgA G (s.getD 0)).2.2, nx s) else (0, none) := by
  cases s with
  | none => rfl
  | some i => rfl

set_option maxRecDepth 100000 in
theorem xNum_any {w : World} {p : Nat} {a : Option Addr} {cap : Nat} {G : List Sg} {s : Option Nat} (h : RdS w p a cap G s) :
    Calls Tryz.prog 33 #[.pointer (some ⟨p, 0, none⟩)] w fun e w' => e = .returned (.int .i64 (sNum G s).1) ∧ RdS w' p a cap G (sNum G s).2 ∧ GB p w w' := by
  have H0 : Hid (Calls Tryz.prog 74 #[.pointer (some ⟨p, 0, none⟩)] w fun e w' => e = .returned (.bool (sHas G s)) ∧ Ext w w') := hasNum_any h
  have HR : Hid (RdS w p a cap G s) := h
  have HL : Hid (sHas G s = true → ∃ i, s = some i ∧ i < G.length) := sHas_lt
  have HT : Hid (sNum G s = if sHas G s then ((sgA G (s.getD 0)).2.2, nx s) else (0, none)) := sNum_if G s
  clear h
  generalize sNum G s = o at *
  generalize sHas G s = z at *
  cases z
  · have HO : o = (0, none) := HT.out
    subst HO
    simp only
    clear HT HL
    go_enter Tryz.func33, Tryz.ntmps33
    go_wp2_with fail
    refine H0.out.mono ?_
    rintro e w1 ⟨rfl, x1⟩
    have X1 : Hid (RdS w1 p a cap G s ∧ Ext w w1) := ⟨HR.out.step x1, x1⟩
    obtain ⟨i, b, hK, _⟩ := X1.out.1
    have c2 := hK.cell 2 _ rfl
    have f1 := hK.free
    clear x1 H0 hK
    go_wp2
    go_ret
    exact ⟨rfl, X1.out.1.bad, gb_trans (gb_ext X1.out.2) (gb_set _ _ _ _)⟩
  · obtain ⟨i, rfl, hlt⟩ := HL.out rfl
    have HO : o = ((sgA G i).2.2, some (i + 1)) := HT.out
    subst HO
    simp only
    clear HT HL
    go_enter Tryz.func33, Tryz.ntmps33
    go_wp2_with fail
    refine H0.out.mono ?_
    rintro e w1 ⟨rfl, x1⟩
    have R1 : Hid (RdS w1 p a cap G (some i) ∧ Ext w w1) := ⟨HR.out.step x1, x1⟩
    have K1 := R1.out.1.at.1
    have c1 := K1.cell 1 _ rfl
    have f1 := K1.free
    have R2 : Hid (RdS (w1.setCell ⟨p, 1, none⟩ (.int .i64 ((i : Int) + 1))) p a cap G (some (i + 1))) := by rw [← Int.natCast_one, ← Int.natCast_add]; exact R1.out.1.next hlt
    obtain ⟨b, off, rfl, S2⟩ := R2.out.at.2.2.2.tri hlt
    have hb : i ≤ 1200 := by have := R1.out.1.at.2; omega
    have bi : (i : Int) < (G.length : Int) := by omega
    have HW : Hid (GB p w (w1.setCell ⟨p, 1, none⟩ (.int .i64 ((i : Int) + 1)))) := gb_trans (gb_ext R1.out.2) (gb_set _ _ _ _)
    clear x1 H0 K1 hlt
    go_wp2_with fail
    generalize w1.setCell ⟨p, 1, none⟩ (.int .i64 ((i : Int) + 1)) = W2 at *
    clear c1 f1
    have c0 := R2.out.at.1.cell 0 _ rfl
    have c1 := R2.out.at.1.cell 1 _ rfl
    rw [Int.natCast_add, Int.natCast_one] at c1
    have q2 : W2.cell? ⟨b, off + i * 3 + 2, none⟩ = some (.int .i64 (sgA G i).2.2) := S2.2.2
    clear S2
    have HN : Hid (∀ n, Ext W2 (W2.drewN n)) := fun n => ⟨rfl, rfl, rfl, Nat.le_refl _, fun _ _ => rfl⟩
    obtain ⟨sn, hsn⟩ : ∃ sn, sn = (sgA G i).2.2 := ⟨_, rfl⟩
    rw [← hsn] at q2
    have HS : Hid (sn = (sgA G i).2.2) := hsn
    obtain ⟨n, hn⟩ : ∃ n, n = G.length := ⟨_, rfl⟩
    rw [← hn] at c0 bi
    clear hn hsn R1
    go_quiet (fail)
    go_wp2
    go_ret
    exact ⟨ret_int HS.out, R2.out.step (HN.out _), gb_trans HW.out (gb_ext (HN.out _))⟩

set_option maxRecDepth 100000 in
set_option maxHeartbeats 1000000 in
theorem xName_any {w : World} {p : Nat} {a : Option Addr} {cap : Nat} {G : List Sg} {s : Option Nat} (h : RdS w p a cap G s) :
    Calls Tryz.prog 75 #[.pointer (some ⟨p, 0, none⟩)] w fun e w' => e = .returned (.string (txt (sName G s).1)) ∧ RdS w' p a cap G (sName G s).2 ∧ GB p w w' := by
  have HN : Hid (∀ (W : World) n, Ext W (W.drewN n)) := fun W n => ⟨rfl, rfl, rfl, Nat.le_refl _, fun _ _ => rfl⟩
  have HR : Hid (RdS w p a cap G s) := h
  have lost : Hid (∀ n, RdS ((w.drewN n).setCell ⟨p, 2, none⟩ (.bool true)) p a cap G none ∧ GB p w ((w.drewN n).setCell ⟨p, 2, none⟩ (.bool true))) := fun n => ⟨(h.step (HN.out w n)).bad, gb_trans (gb_ext (HN.out w n)) (gb_set _ _ _ _)⟩
  cases s with
  | none =>
    obtain ⟨i, hK, _⟩ := h.lost
    rw [show sName G none = ([], none) from rfl]
    rw [show txt [] = ⟨#[]⟩ from rfl]
    have c0 := hK.cell 0 _ rfl
    have c1 := hK.cell 1 _ rfl
    have c2 := hK.cell 2 _ rfl
    have f1 := hK.free
    clear hK h
    obtain ⟨n, hn⟩ : ∃ n, n = G.length := ⟨_, rfl⟩
    rw [← hn] at c0
    clear hn
    go_enter Tryz.func75, Tryz.ntmps75
    go_wp2
    go_quiet (fail)
    go_wp2
    go_ret
    exact ⟨rfl, lost.out _⟩
  | some i =>
    obtain ⟨hK, hi, hl, _⟩ := h.at
    have c0 := hK.cell 0 _ rfl
    have c1 := hK.cell 1 _ rfl
    have c2 := hK.cell 2 _ rfl
    have f1 := hK.free
    by_cases hlt : i < G.length
    · obtain ⟨b, off, rfl, q0, q1, q2⟩ := h.sign hlt
      have hz : sName G (some i) = if ((sgA G i).1 == 1) then ((sgA G i).2.1, some (i + 1)) else ([], none) := by unfold sName; simp [hlt]
      have bi : (i : Int) < (G.length : Int) := by omega
      have bd : decide (G.length ≤ i) = false := decide_eq_false (by omega)
      obtain ⟨sk, hsk⟩ : ∃ sk, sk = (sgA G i).1 := ⟨_, rfl⟩
      rw [← hsk] at hz q0
      obtain ⟨n, hn⟩ : ∃ n, n = G.length := ⟨_, rfl⟩
      rw [← hn] at c0 bi bd
      obtain ⟨st, hst⟩ : ∃ st, st = txt (sgA G i).2.1 := ⟨_, rfl⟩
      rw [← hst] at q1
      have HST : Hid (st = txt (sgA G i).2.1) := hst
      have HNN : Hid (n = G.length ∧ i < G.length) := ⟨hn, hlt⟩
      clear q2 hsk hn hst hK h
      by_cases hk : sk = 1
      · have hz2 : sName G (some i) = ((sgA G i).2.1, some (i + 1)) := by rw [hz]; simp [hk]
        rw [hz2]
        simp only
        rw [← HST.out]
        clear hz hz2 hlt
        subst hk
        have R2 : Hid (∀ m, RdS ((w.drewN m).setCell ⟨p, 1, none⟩ (.int .i64 ((i : Int) + 1))) p (some ⟨b, off, none⟩) cap G (some (i + 1)) ∧ GB p w ((w.drewN m).setCell ⟨p, 1, none⟩ (.int .i64 ((i : Int) + 1)))) := fun m => ⟨by rw [← Int.natCast_one, ← Int.natCast_add]; exact (HR.out.step (HN.out w m)).next HNN.out.2, gb_trans (gb_ext (HN.out w m)) (gb_set _ _ _ _)⟩
        have hb : i ≤ 1200 := by omega
        go_enter Tryz.func75, Tryz.ntmps75
        go_wp2
        go_quiet (fail)
        have R3 := R2.out nq
        have c0' : (w.drewN nq).cell? ⟨p, 0, none⟩ = _ := c0
        have c1' : (w.drewN nq).cell? ⟨p, 1, none⟩ = _ := c1
        have c2' : (w.drewN nq).cell? ⟨p, 2, none⟩ = _ := c2
        have f1' : ∀ i, (w.drewN nq).frozen? ⟨p, i, none⟩ = false := f1
        clear c0 c1 c2 q0 q1 f1 lost R2
        generalize w.drewN nq = W1 at *
        have RR : Hid _ := R3
        clear R3
        go_wp2_with fail
        generalize W1.setCell ⟨p, 1, none⟩ (.int .i64 ((i : Int) + 1)) = W2 at *
        clear c0' c1' c2' f1'
        have c0 := RR.out.1.at.1.cell 0 _ rfl
        have c1 := RR.out.1.at.1.cell 1 _ rfl
        rw [Int.natCast_add, Int.natCast_one] at c1
        rw [← HNN.out.1] at c0
        obtain ⟨b', off', hba, S2⟩ := RR.out.1.at.2.2.2.tri HNN.out.2
        injection hba with hba
        injection hba with hb1 hb2
        subst hb1 hb2
        have q1 : W2.cell? ⟨b, off + i * 3 + 1, none⟩ = some (.string st) := by rw [HST.out]; exact S2.2.1
        clear S2
        go_quiet (fail)
        go_wp2
        go_ret
        exact ⟨rfl, RR.out.1.step (HN.out _ _), gb_trans RR.out.2 (gb_ext (HN.out _ _))⟩
      · have hz2 : sName G (some i) = ([], none) := by rw [hz]; simp [hk]
        have bk : (sk == 1) = false := by simpa using hk
        rw [hz2]
        simp only
        rw [show txt [] = ⟨#[]⟩ from rfl]
        clear hz hz2 hlt
        go_enter Tryz.func75, Tryz.ntmps75
        go_wp2
        go_quiet (fail)
        go_wp2
        go_ret
        exact ⟨rfl, lost.out _⟩
    · have hz : sName G (some i) = ([], none) := by unfold sName; simp [hlt]
      have bi : ¬ ((i : Int) < (G.length : Int)) := by omega
      have bd : decide (i < G.length) = false := decide_eq_false hlt
      have bg : decide (G.length ≤ i) = true := decide_eq_true (by omega)
      rw [hz]
      simp only
      rw [show txt [] = ⟨#[]⟩ from rfl]
      clear hz hK h
      obtain ⟨n, hn⟩ : ∃ n, n = G.length := ⟨_, rfl⟩
      rw [← hn] at c0 bd bg bi hlt
      clear hn hi hl
      go_enter Tryz.func75, Tryz.ntmps75
      go_wp2
      go_quiet (fail)
      go_wp2
      go_ret
      exact ⟨rfl, lost.out _⟩

end Go.Proofs.YtojaohdmfahpmaaGreatDoor

/- Spec's reader in plain lists: what its loops hold round by round. -/
namespace Go.Proofs.YtojaohdmfahpmaaGreatDoor
open Go.RowKit
set_option linter.unusedVariables false

/-- The last of the first k names that is this one. -/
def actN (t : List UInt8) : Nat → Int
  | 0 => -1
  | k + 1 => if actL.getD k [] == t then (k : Int) else actN t k

theorem actN_find (t : List UInt8) : actN t 6 = (match findT actL t with
    | none => -1
    | some k => (k : Int)) := by
  by_cases h0 : actL.getD 0 [] = t
  · subst h0; rfl
  by_cases h1 : actL.getD 1 [] = t
  · subst h1; rfl
  by_cases h2 : actL.getD 2 [] = t
  · subst h2; rfl
  by_cases h3 : actL.getD 3 [] = t
  · subst h3; rfl
  by_cases h4 : actL.getD 4 [] = t
  · subst h4; rfl
  by_cases h5 : actL.getD 5 [] = t
  · subst h5; rfl
  rw [findT_no (fun j hj => by
    have : j = 0 ∨ j = 1 ∨ j = 2 ∨ j = 3 ∨ j = 4 ∨ j = 5 := by simp [actL] at hj; omega
    rcases this with rfl | rfl | rfl | rfl | rfl | rfl <;> assumption)]
  simp only [actN]
  simp only [beq_iff_eq, h0, h1, h2, h3, h4, h5, if_false]

/-- The comparison and the reader behind the first k marks. -/
def cmS (G : List Sg) (s : Option Nat) : Nat → Int × Option Nat
  | 0 => (0, s)
  | k + 1 => if (cmS G s k).1 = 0 then (if sIs G (cmS G s k).2 3 (cmL.getD k []) then ((k : Int) + 1, nx (cmS G s k).2) else cmS G s k) else cmS G s k

theorem cmS_none (G : List Sg) : ∀ k, cmS G none k = (0, none)
  | 0 => rfl
  | k + 1 => by rw [cmS, cmS_none G k]; rfl

theorem cmS_stay (G : List Sg) (s : Option Nat) {k : Nat} (h : ∀ j, j < k → sIs G s 3 (cmL.getD j []) = false) : cmS G s k = (0, s) := by
  induction k with
  | zero => rfl
  | succ k ih =>
    rw [cmS, ih (fun j hj => h j (by omega))]
    rw [if_pos rfl]
    simp only [h k (by omega), Bool.false_eq_true, if_false]

theorem cmS_took (G : List Sg) (s : Option Nat) {k c : Nat} (hc : c < k) (h : ∀ j, j < c → sIs G s 3 (cmL.getD j []) = false) (ht : sIs G s 3 (cmL.getD c []) = true) : cmS G s k = ((c : Int) + 1, nx s) := by
  induction k with
  | zero => omega
  | succ k ih =>
    by_cases e : c = k
    · subst e
      rw [cmS, cmS_stay G s h]
      simp only [ht, if_true]
    · rw [cmS, ih (by omega)]
      rw [if_neg (by simp only; omega)]

theorem cmS_find (G : List Sg) (s : Option Nat) : cmS G s 6 = sCmp G s := by
  cases s with
  | none => exact cmS_none G 6
  | some i =>
    unfold sCmp
    simp only
    by_cases hk : (decide (i < G.length) && ((sgA G i).1 == 3)) = true
    · rw [if_pos hk]
      have hs : ∀ t, sIs G (some i) 3 t = ((sgA G i).2.1 == t) := fun t => by
        simp only [sIs]
        rw [hk, Bool.true_and]
      cases e : findT cmL (sgA G i).2.1 with
      | none =>
        simp only
        refine cmS_stay G _ (fun j hj => ?_)
        rw [hs]
        unfold findT at e
        rw [List.findIdx?_eq_none_iff] at e
        have hjl : j < cmL.length := by simp [cmL]; omega
        have := e (cmL.getD j []) (by rw [List.getD_eq_getElem?_getD, List.getElem?_eq_getElem hjl]; exact List.getElem_mem hjl)
        rw [Bool.eq_false_iff] at this ⊢
        intro hx
        exact this (by simp only [beq_iff_eq] at hx ⊢; exact hx.symm)
      | some c =>
        simp only
        unfold findT at e
        obtain ⟨hcl, h2, h3⟩ := List.findIdx?_eq_some_iff_getElem.1 e
        have hc6 : c < 6 := by simpa [cmL] using hcl
        refine cmS_took G _ hc6 (fun j hj => ?_) ?_
        · rw [hs]
          have := h3 j hj
          have hjl : j < cmL.length := by omega
          rw [List.getD_eq_getElem?_getD, List.getElem?_eq_getElem hjl]
          rw [Bool.eq_false_iff]
          intro hx
          exact this (by simp only [Option.getD_some, beq_iff_eq] at hx ⊢; exact hx.symm)
        · rw [hs, List.getD_eq_getElem?_getD, List.getElem?_eq_getElem hcl]
          simp only [Option.getD_some, beq_iff_eq] at h2 ⊢
          exact h2.symm
    · rw [if_neg hk]
      have hk2 : (decide (i < G.length) && ((sgA G i).1 == 3)) = false := by simpa using hk
      refine cmS_stay G _ (fun j hj => ?_)
      simp only [sIs]
      rw [hk2, Bool.false_and]

end Go.Proofs.YtojaohdmfahpmaaGreatDoor

namespace Go.Proofs.YtojaohdmfahpmaaGreatDoor
open Go.RowKit
set_option linter.unusedVariables false

theorem mp_some {w : World} {p : Nat} {a : Option Addr} {cap : Nat} {G : List Sg} {i j : Nat} {t : List UInt8} (ht : t ≠ []) (e : rPass G i t = some j) (h : RdI w p a cap G i) :
    Calls Tryz.prog 62 #[.pointer (some ⟨p, 0, none⟩), .string (txt t)] w fun e w' => (e = .returned (.tuple #[]) ∧ RdI w' p a cap G j) ∧ GB p w w' := by
  have := mustPass_any t ht h
  rw [e] at this
  exact this

theorem mp_none {w : World} {p : Nat} {a : Option Addr} {cap : Nat} {G : List Sg} {i : Nat} {t : List UInt8} (ht : t ≠ []) (e : rPass G i t = none) (h : RdI w p a cap G i) :
    Calls Tryz.prog 62 #[.pointer (some ⟨p, 0, none⟩), .string (txt t)] w fun e w' => e = Bad ∧ GB p w w' := by
  have := mustPass_any t ht h
  rw [e] at this
  exact this

set_option maxRecDepth 100000 in
set_option maxHeartbeats 1000000 in
theorem rcond_any {w : World} {p : Nat} {a : Option Addr} {cap : Nat} {G : List Sg} {i : Nat} (h : RdI w p a cap G i) (hp0 : p ≠ 0) (hC : Cms w) :
    Calls Tryz.prog 127 #[.pointer (some ⟨p, 0, none⟩)] w fun e w' => Got CN.v (rCond G i) p a cap G e w' ∧ GB p w w' := by
  have hp := h.lt
  have X0 : Hid (RdI (w.alloc (.cells #[.int .i64 0, .int .i64 0, .int .i64 0, .int .i64 0, .int .i64 0, .int .i64 0] 78)) p a cap G i ∧ GB p w (w.alloc (.cells #[.int .i64 0, .int .i64 0, .int .i64 0, .int .i64 0, .int .i64 0, .int .i64 0] 78)) ∧ Kn (w.alloc (.cells #[.int .i64 0, .int .i64 0, .int .i64 0, .int .i64 0, .int .i64 0, .int .i64 0] 78)) w.heap.size [.int .i64 0, .int .i64 0, .int .i64 0, .int .i64 0, .int .i64 0, .int .i64 0] 78) := ⟨h.step (Ext.one _ _), gb_ext (Ext.one _ _), Kn.new w _ _⟩
  have H0 : Hid (RdI w p a cap G i ∧ p < w.heap.size ∧ ∀ W, GB p w W → Cms W) := ⟨h, hp, fun W hG => hC.gb hp0 hG⟩
  have HP0 : Hid (p ≠ 0) := hp0
  clear h hp hC hp0
  go_enter Tryz.func127, Tryz.ntmps127
  go_wp2_with fail
  generalize w.alloc (.cells #[.int .i64 0, .int .i64 0, .int .i64 0, .int .i64 0, .int .i64 0, .int .i64 0] 78) = W0 at *
  cases e0 : rPass G i tArg with
  | none =>
    refine (show Calls Tryz.prog 62 #[.pointer (some ⟨p, 0, none⟩), .string ⟨#[97, 114, 103]⟩] _ _ from mp_none (by decide) e0 X0.out.1).mono ?_
    rintro e w1 ⟨rfl, g1⟩
    have F1 : Hid (GB p w w1) := gb_trans X0.out.2.1 g1
    clear g1
    go_wp2
    exact bad_panic rfl ⟨got_none (by unfold rCond; rw [e0]) rfl, F1.out⟩
  | some i1 =>
    have E0 : Hid (rPass G i tArg = some i1) := e0
    refine (show Calls Tryz.prog 62 #[.pointer (some ⟨p, 0, none⟩), .string ⟨#[97, 114, 103]⟩] _ _ from mp_some (by decide) e0 X0.out.1).mono ?_
    rintro e w1 ⟨⟨rfl, r1⟩, g1⟩
    have X1 : Hid (RdI w1 p a cap G i1 ∧ GB p w w1 ∧ Kn w1 w.heap.size [.int .i64 0, .int .i64 0, .int .i64 0, .int .i64 0, .int .i64 0, .int .i64 0] 78) := ⟨r1, gb_trans X0.out.2.1 g1, X0.out.2.2.gb (by have := H0.out.2.1; omega) g1⟩
    clear r1 g1 X0 e0
    go_wp2_with fail
    cases e1 : rNum G i1 with
    | none =>
      refine (show Calls Tryz.prog 63 _ _ _ from fails_of (val := intV) e1 (rnumber_got X1.out.1)).mono ?_
      rintro e w2 ⟨rfl, g2⟩
      have F2 : Hid (GB p w w2) := gb_trans X1.out.2.1 g2
      clear g2
      go_wp2
      exact bad_panic rfl ⟨got_none (by unfold rCond; rw [E0.out]; simp only; rw [e1]) rfl, F2.out⟩
    | some x =>
      obtain ⟨n, i2⟩ := x
      have E1 : Hid (rNum G i1 = some (n, i2)) := e1
      refine (show Calls Tryz.prog 63 _ _ _ from gives_of (val := intV) e1 (rnumber_got X1.out.1)).mono ?_
      rintro e w2 ⟨⟨rfl, r2⟩, g2⟩
      have hq : w.heap.size < w2.heap.size := (X1.out.2.2.gb (by have := H0.out.2.1; omega) g2).lt
      have X2 : Hid (RdI (w2.alloc (.cells #[.int .i64 n, .int .i64 0, .int .i64 0, .int .i64 0, .int .i64 0, .int .i64 0] 78)) p a cap G i2 ∧ GB p w (w2.alloc (.cells #[.int .i64 n, .int .i64 0, .int .i64 0, .int .i64 0, .int .i64 0, .int .i64 0] 78)) ∧ Kn (w2.alloc (.cells #[.int .i64 n, .int .i64 0, .int .i64 0, .int .i64 0, .int .i64 0, .int .i64 0] 78)) w.heap.size [.int .i64 0, .int .i64 0, .int .i64 0, .int .i64 0, .int .i64 0, .int .i64 0] 78 ∧ Kn (w2.alloc (.cells #[.int .i64 n, .int .i64 0, .int .i64 0, .int .i64 0, .int .i64 0, .int .i64 0] 78)) w2.heap.size [.int .i64 n, .int .i64 0, .int .i64 0, .int .i64 0, .int .i64 0, .int .i64 0] 78) :=
        ⟨r2.step (Ext.one _ _), gb_alloc (gb_trans X1.out.2.1 g2) _, (X1.out.2.2.gb (by have := H0.out.2.1; omega) g2).alloc _, Kn.new w2 _ _⟩
      have HQ : Hid (w.heap.size < w2.heap.size) := hq
      clear r2 g2 X1 e1 hq
      unfold intV
      go_wp2_with fail
      generalize w2.alloc (.cells #[.int .i64 n, .int .i64 0, .int .i64 0, .int .i64 0, .int .i64 0, .int .i64 0] 78) = W2 at *
      generalize w2.heap.size = q at *
      have hqp : Hid (q ≠ p ∧ w.heap.size ≠ p ∧ w.heap.size ≤ q ∧ w.heap.size ≠ q) := ⟨by have := H0.out.2.1; have := HQ.out; omega, by have := H0.out.2.1; omega, by have := HQ.out; omega, by have := HQ.out; omega⟩
      cases e2 : rMask G i2 with
      | none =>
        refine (show Calls Tryz.prog 140 _ _ _ from fails_of (val := wideV) e2 (rmask_any X2.out.1)).mono ?_
        rintro e w3 ⟨rfl, g3⟩
        have F3 : Hid (GB p w w3) := gb_trans X2.out.2.1 g3
        clear g3
        go_wp2
        exact bad_panic rfl ⟨got_none (by unfold rCond; rw [E0.out]; simp only; rw [E1.out]; simp only; rw [e2]) rfl, F3.out⟩
      | some x =>
        obtain ⟨⟨mh, ml⟩, i3⟩ := x
        have E2 : Hid (rMask G i2 = some ((mh, ml), i3)) := e2
        refine (show Calls Tryz.prog 140 _ _ _ from gives_of (val := wideV) e2 (rmask_any X2.out.1)).mono ?_
        rintro e w3 ⟨⟨rfl, r3⟩, g3⟩
        have kq : Kn w3 q [.int .i64 n, .int .i64 0, .int .i64 0, .int .i64 0, .int .i64 0, .int .i64 0] 78 := X2.out.2.2.2.gb hqp.out.1 g3
        have X3 : Hid (RdI ((w3.setCell ⟨q, 1, none⟩ (.int .i64 mh)).setCell ⟨q, 2, none⟩ (.int .i64 ml)) p a cap G i3 ∧ GB p w ((w3.setCell ⟨q, 1, none⟩ (.int .i64 mh)).setCell ⟨q, 2, none⟩ (.int .i64 ml)) ∧ Kn ((w3.setCell ⟨q, 1, none⟩ (.int .i64 mh)).setCell ⟨q, 2, none⟩ (.int .i64 ml)) w.heap.size [.int .i64 0, .int .i64 0, .int .i64 0, .int .i64 0, .int .i64 0, .int .i64 0] 78 ∧ Kn ((w3.setCell ⟨q, 1, none⟩ (.int .i64 mh)).setCell ⟨q, 2, none⟩ (.int .i64 ml)) q [.int .i64 n, .int .i64 mh, .int .i64 ml, .int .i64 0, .int .i64 0, .int .i64 0] 78) :=
          ⟨H0.out.1.fresh (H0.out.1.fresh r3 hqp.out.2.2.1) hqp.out.2.2.1, gb_fresh (gb_fresh (gb_trans X2.out.2.1 g3) hqp.out.2.2.1) hqp.out.2.2.1, ((X2.out.2.2.1.gb hqp.out.2.1 g3).other hqp.out.2.2.2 _ _).other hqp.out.2.2.2 _ _, (kq.set 1 _).set 2 _⟩
        have f1 := kq.free
        obtain ⟨c0, c1, c2, c3, c4, c5⟩ := (⟨kq.cell 0 _ rfl, kq.cell 1 _ rfl, kq.cell 2 _ rfl, kq.cell 3 _ rfl, kq.cell 4 _ rfl, kq.cell 5 _ rfl⟩ : _ ∧ _ ∧ _ ∧ _ ∧ _ ∧ _)
        clear r3 g3 X2 e2 kq
        unfold wideV
        go_wp2_with fail
        generalize ((w3.setCell ⟨q, 1, none⟩ (.int .i64 mh)).setCell ⟨q, 2, none⟩ (.int .i64 ml)) = W3 at *
        clear f1 c0 c1 c2 c3 c4 c5
        cases e3 : rCmp G i3 with
        | none =>
          refine (show Calls Tryz.prog 141 _ _ _ from fails_of (val := intV) e3 (comparison_any X3.out.1 HP0.out (H0.out.2.2 _ X3.out.2.1))).mono ?_
          rintro e w4 ⟨rfl, g4⟩
          have F4 : Hid (GB p w w4) := gb_trans X3.out.2.1 g4
          clear g4
          go_wp2
          exact bad_panic rfl ⟨got_none (by unfold rCond; rw [E0.out]; simp only; rw [E1.out]; simp only; rw [E2.out]; simp only; rw [e3]) rfl, F4.out⟩
        | some x =>
          obtain ⟨cm, i4⟩ := x
          have E3 : Hid (rCmp G i3 = some (cm, i4)) := e3
          refine (show Calls Tryz.prog 141 _ _ _ from gives_of (val := intV) e3 (comparison_any X3.out.1 HP0.out (H0.out.2.2 _ X3.out.2.1))).mono ?_
          rintro e w4 ⟨⟨rfl, r4⟩, g4⟩
          have kq : Kn w4 q [.int .i64 n, .int .i64 mh, .int .i64 ml, .int .i64 0, .int .i64 0, .int .i64 0] 78 := X3.out.2.2.2.gb hqp.out.1 g4
          have X4 : Hid (RdI (w4.setCell ⟨q, 3, none⟩ (.int .i64 cm)) p a cap G i4 ∧ GB p w (w4.setCell ⟨q, 3, none⟩ (.int .i64 cm)) ∧ Kn (w4.setCell ⟨q, 3, none⟩ (.int .i64 cm)) w.heap.size [.int .i64 0, .int .i64 0, .int .i64 0, .int .i64 0, .int .i64 0, .int .i64 0] 78 ∧ Kn (w4.setCell ⟨q, 3, none⟩ (.int .i64 cm)) q [.int .i64 n, .int .i64 mh, .int .i64 ml, .int .i64 cm, .int .i64 0, .int .i64 0] 78) :=
            ⟨H0.out.1.fresh r4 hqp.out.2.2.1, gb_fresh (gb_trans X3.out.2.1 g4) hqp.out.2.2.1, (X3.out.2.2.1.gb hqp.out.2.1 g4).other hqp.out.2.2.2 _ _, kq.set 3 _⟩
          have f1 := kq.free
          obtain ⟨c0, c1, c2, c3, c4, c5⟩ := (⟨kq.cell 0 _ rfl, kq.cell 1 _ rfl, kq.cell 2 _ rfl, kq.cell 3 _ rfl, kq.cell 4 _ rfl, kq.cell 5 _ rfl⟩ : _ ∧ _ ∧ _ ∧ _ ∧ _ ∧ _)
          clear r4 g4 X3 e3 kq
          unfold intV
          go_wp2_with fail
          generalize (w4.setCell ⟨q, 3, none⟩ (.int .i64 cm)) = W4 at *
          clear f1 c0 c1 c2 c3 c4 c5
          cases e4 : rWide G i4 with
          | none =>
            refine (show Calls Tryz.prog 142 _ _ _ from fails_of (val := wideV) e4 (rwide_any X4.out.1)).mono ?_
            rintro e w5 ⟨rfl, g5⟩
            have F5 : Hid (GB p w w5) := gb_trans X4.out.2.1 g5
            clear g5
            go_wp2
            exact bad_panic rfl ⟨got_none (by unfold rCond; rw [E0.out]; simp only; rw [E1.out]; simp only; rw [E2.out]; simp only; rw [E3.out]; simp only; rw [e4]) rfl, F5.out⟩
          | some x =>
            obtain ⟨⟨vh, vl⟩, i5⟩ := x
            have HM : Hid (rCond G i = some (⟨n, mh, ml, cm, vh, vl⟩, i5)) := by unfold Hid rCond; rw [E0.out]; simp only; rw [E1.out]; simp only; rw [E2.out]; simp only; rw [E3.out]; simp only; rw [e4]
            refine (show Calls Tryz.prog 142 _ _ _ from gives_of (val := wideV) e4 (rwide_any X4.out.1)).mono ?_
            rintro e w5 ⟨⟨rfl, r5⟩, g5⟩
            have kq : Kn w5 q [.int .i64 n, .int .i64 mh, .int .i64 ml, .int .i64 cm, .int .i64 0, .int .i64 0] 78 := X4.out.2.2.2.gb hqp.out.1 g5
            have kr : Kn w5 w.heap.size [.int .i64 0, .int .i64 0, .int .i64 0, .int .i64 0, .int .i64 0, .int .i64 0] 78 := X4.out.2.2.1.gb hqp.out.2.1 g5
            have X5 : Hid (RdI ((((((((w5.setCell ⟨q, 4, none⟩ (.int .i64 vh)).setCell ⟨q, 5, none⟩ (.int .i64 vl)).setCell ⟨w.heap.size, 0, none⟩ (.int .i64 n)).setCell ⟨w.heap.size, 1, none⟩ (.int .i64 mh)).setCell ⟨w.heap.size, 2, none⟩ (.int .i64 ml)).setCell ⟨w.heap.size, 3, none⟩ (.int .i64 cm)).setCell ⟨w.heap.size, 4, none⟩ (.int .i64 vh)).setCell ⟨w.heap.size, 5, none⟩ (.int .i64 vl)) p a cap G i5 ∧ GB p w ((((((((w5.setCell ⟨q, 4, none⟩ (.int .i64 vh)).setCell ⟨q, 5, none⟩ (.int .i64 vl)).setCell ⟨w.heap.size, 0, none⟩ (.int .i64 n)).setCell ⟨w.heap.size, 1, none⟩ (.int .i64 mh)).setCell ⟨w.heap.size, 2, none⟩ (.int .i64 ml)).setCell ⟨w.heap.size, 3, none⟩ (.int .i64 cm)).setCell ⟨w.heap.size, 4, none⟩ (.int .i64 vh)).setCell ⟨w.heap.size, 5, none⟩ (.int .i64 vl)) ∧ Kn ((((((((w5.setCell ⟨q, 4, none⟩ (.int .i64 vh)).setCell ⟨q, 5, none⟩ (.int .i64 vl)).setCell ⟨w.heap.size, 0, none⟩ (.int .i64 n)).setCell ⟨w.heap.size, 1, none⟩ (.int .i64 mh)).setCell ⟨w.heap.size, 2, none⟩ (.int .i64 ml)).setCell ⟨w.heap.size, 3, none⟩ (.int .i64 cm)).setCell ⟨w.heap.size, 4, none⟩ (.int .i64 vh)).setCell ⟨w.heap.size, 5, none⟩ (.int .i64 vl)) w.heap.size [.int .i64 n, .int .i64 mh, .int .i64 ml, .int .i64 cm, .int .i64 vh, .int .i64 vl] 78) :=
              ⟨(H0.out.1.fresh (H0.out.1.fresh (H0.out.1.fresh (H0.out.1.fresh (H0.out.1.fresh (H0.out.1.fresh (H0.out.1.fresh (H0.out.1.fresh r5 hqp.out.2.2.1) hqp.out.2.2.1) (Nat.le_refl _)) (Nat.le_refl _)) (Nat.le_refl _)) (Nat.le_refl _)) (Nat.le_refl _)) (Nat.le_refl _)), (gb_fresh (gb_fresh (gb_fresh (gb_fresh (gb_fresh (gb_fresh (gb_fresh (gb_fresh (gb_trans X4.out.2.1 g5) hqp.out.2.2.1) hqp.out.2.2.1) (Nat.le_refl _)) (Nat.le_refl _)) (Nat.le_refl _)) (Nat.le_refl _)) (Nat.le_refl _)) (Nat.le_refl _)), ((((((((kr.other hqp.out.2.2.2 _ _).other hqp.out.2.2.2 _ _).set 0 _).set 1 _).set 2 _).set 3 _).set 4 _).set 5 _)⟩
            have f1 := kq.free
            obtain ⟨c0, c1, c2, c3, c4, c5⟩ := (⟨kq.cell 0 _ rfl, kq.cell 1 _ rfl, kq.cell 2 _ rfl, kq.cell 3 _ rfl, kq.cell 4 _ rfl, kq.cell 5 _ rfl⟩ : _ ∧ _ ∧ _ ∧ _ ∧ _ ∧ _)
            have f2 := kr.free
            obtain ⟨d0, d1, d2, d3, d4, d5⟩ := (⟨kr.cell 0 _ rfl, kr.cell 1 _ rfl, kr.cell 2 _ rfl, kr.cell 3 _ rfl, kr.cell 4 _ rfl, kr.cell 5 _ rfl⟩ : _ ∧ _ ∧ _ ∧ _ ∧ _ ∧ _)
            have hne := hqp.out.2.2.2
            have hne2 : ¬ q = w.heap.size := fun e => hne e.symm
            clear r5 g5 X4 e4 kq kr
            unfold wideV
            go_wp2
            generalize ((((((((w5.setCell ⟨q, 4, none⟩ (.int .i64 vh)).setCell ⟨q, 5, none⟩ (.int .i64 vl)).setCell ⟨w.heap.size, 0, none⟩ (.int .i64 n)).setCell ⟨w.heap.size, 1, none⟩ (.int .i64 mh)).setCell ⟨w.heap.size, 2, none⟩ (.int .i64 ml)).setCell ⟨w.heap.size, 3, none⟩ (.int .i64 cm)).setCell ⟨w.heap.size, 4, none⟩ (.int .i64 vh)).setCell ⟨w.heap.size, 5, none⟩ (.int .i64 vl)) = W6 at *
            clear f1 c0 c1 c2 c3 c4 c5 f2 d0 d1 d2 d3 d4 d5
            obtain ⟨d0, d1, d2, d3, d4, d5⟩ := (⟨X5.out.2.2.cell 0 _ rfl, X5.out.2.2.cell 1 _ rfl, X5.out.2.2.cell 2 _ rfl, X5.out.2.2.cell 3 _ rfl, X5.out.2.2.cell 4 _ rfl, X5.out.2.2.cell 5 _ rfl⟩ : _ ∧ _ ∧ _ ∧ _ ∧ _ ∧ _)
            refine bodyPost_ret (v := .agg #[.int .i64 n, .int .i64 mh, .int .i64 ml, .int .i64 cm, .int .i64 vh, .int .i64 vl]) (by simp [results, Tryz.results127, go_sem, *]) rfl ?_
            exact ⟨got_some HM.out rfl X5.out.1, X5.out.2.1⟩

end Go.Proofs.YtojaohdmfahpmaaGreatDoor
