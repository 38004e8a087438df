/- Impl's ReadPolicy: the policy that a text tells. -/
import Derived.Test.YtojaohdmfahpmaaGreatDoorPackReadPolicy49
import Derived.Test.YtojaohdmfahpmaaGreatDoorSignsI
/- Impl's reader of signs: a policy, or nothing of it where a wrong sign stands. -/
namespace Go.Proofs.YtojaohdmfahpmaaGreatDoor
open Go.RowKit
set_option linter.unusedVariables false

def GotP (o : Option PN) (B : Nat) (e : Ending) (w' : World) : Prop :=
  match o with
  | some pol => ∃ v ps, e = .returned (.tuple #[.agg #[.int .i64 pol.arch, .int .i64 pol.act, .int .i64 pol.data, v], .bool true]) ∧ pol.rules = ps.map (·.1) ∧ RulesX B w' v ps
  | none => e = .returned (.tuple #[.agg #[.int .i64 0, .int .i64 0, .int .i64 0, .slice none 0 0], .bool false])

theorem gotP_some {o : Option PN} {B : Nat} {e : Ending} {w' : World} {pol : PN} {v : Value} {ps : List (RN × List Value)} (h : o = some pol) (he : e = .returned (.tuple #[.agg #[.int .i64 pol.arch, .int .i64 pol.act, .int .i64 pol.data, v], .bool true])) (hr : pol.rules = ps.map (·.1)) (hx : RulesX B w' v ps) : GotP o B e w' := by
  subst h; exact ⟨v, ps, he, hr, hx⟩

theorem gotP_none {o : Option PN} {B : Nat} {e : Ending} {w' : World} (h : o = none) (he : e = .returned (.tuple #[.agg #[.int .i64 0, .int .i64 0, .int .i64 0, .slice none 0 0], .bool false])) : GotP o B e w' := by
  subst h; exact he

theorem mkf (fn : Fn) (first cap : Array Value) (w : World) : (Instr.makeFunc fn first cap).run Tryz.prog w = .ok (.func fn first cap) w := rfl

set_option maxRecDepth 100000 in
set_option maxHeartbeats 1600000 in
theorem rpolicy_any {w : World} {p : Nat} {a : Option Addr} {cap : Nat} {G : List Sg} (h : RdI w p a cap G 0) (hG : Good G) (hp0 : p ≠ 0) (hC : Cms w) :
    Calls Tryz.prog 27 #[.pointer (some ⟨p, 0, none⟩)] w fun e w' => GotP (rPolicy G) w.heap.size e w' ∧ GB p w w' := by
  have hmf := mkf
  obtain ⟨j0, ji, jz0, jz1, jz2⟩ := info_parts Tryz.infoRl
  have hp := h.lt
  have X0 : Hid (RdI ((w.alloc (.cells #[.int .i64 0, .int .i64 0, .int .i64 0, .slice none 0 0] 26)).alloc (.cells #[.bool false] 4)) p a cap G 0 ∧ GB p w ((w.alloc (.cells #[.int .i64 0, .int .i64 0, .int .i64 0, .slice none 0 0] 26)).alloc (.cells #[.bool false] 4)) ∧ Kn ((w.alloc (.cells #[.int .i64 0, .int .i64 0, .int .i64 0, .slice none 0 0] 26)).alloc (.cells #[.bool false] 4)) w.heap.size [.int .i64 0, .int .i64 0, .int .i64 0, .slice none 0 0] 26 ∧ Kn ((w.alloc (.cells #[.int .i64 0, .int .i64 0, .int .i64 0, .slice none 0 0] 26)).alloc (.cells #[.bool false] 4)) (w.heap.size + 1) [.bool false] 4) :=
    ⟨(h.step (Ext.one _ _)).step (Ext.one _ _), gb_alloc (gb_ext (Ext.one _ _)) _, (Kn.new w _ _).alloc _, Kn.new' _ _ _ _ (by simp)⟩
  have H0 : Hid (RdI w p a cap G 0 ∧ p < w.heap.size ∧ (∀ W, GB p w W → Cms W) ∧ Good G ∧ p ≠ 0) := ⟨h, hp, fun W hG => hC.gb hp0 hG, hG, hp0⟩
  clear h hp hC hp0 hG
  go_enter_defers Tryz.func27, Tryz.ntmps27
  go_wp2_with fail
  generalize (w.alloc (.cells #[.int .i64 0, .int .i64 0, .int .i64 0, .slice none 0 0] 26)).alloc (.cells #[.bool false] 4) = W0 at *
  cases e0 : rPass G 0 tArch with
  | none =>
    refine (show Calls Tryz.prog 62 #[.pointer (some ⟨p, 0, none⟩), .string ⟨#[97, 114, 99, 104]⟩] _ _ from mp_none (by decide) e0 X0.out.1).mono ?_
    rintro e w1 ⟨rfl, g1⟩
    have F1 : Hid (GB p w w1 ∧ Kn w1 w.heap.size [.int .i64 0, .int .i64 0, .int .i64 0, .slice none 0 0] 26 ∧ Kn w1 (w.heap.size + 1) [.bool false] 4) := ⟨gb_trans X0.out.2.1 g1, X0.out.2.2.1.gb (by have := H0.out.2.1; omega) g1, X0.out.2.2.2.gb (by have := H0.out.2.1; omega) g1⟩
    have HN : Hid (rPolicy G = none) := by unfold Hid rPolicy rHead; rw [e0]
    clear g1 X0
    go_wp2
    refine leaves_cons (f := 61) (args := #[.pointer (some ⟨w.heap.size, 0, none⟩), .pointer (some ⟨w.heap.size + 1, 0, none⟩)]) (by simp) (by simp [go_sem]) ?_
    refine (catch_wrong w.heap.size (w.heap.size + 1) [.int .i64 0, .int .i64 0, .int .i64 0, .slice none 0 0] false [] w1 rfl F1.out.2.1 F1.out.2.2 (by omega)).mono ?_
    rintro e u w9 ⟨rfl, rfl, k1, k2, hgb⟩
    have G9 : Hid (GB p w w9) := hgb p w F1.out.1 (Nat.le_refl _) (by omega)
    obtain ⟨c0, c1, c2, c3, d0⟩ := (⟨k1.cell 0 _ rfl, k1.cell 1 _ rfl, k1.cell 2 _ rfl, k1.cell 3 _ rfl, k2.cell 0 _ rfl⟩ : _ ∧ _ ∧ _ ∧ _ ∧ _)
    have POST : Hid (GotP (rPolicy G) w.heap.size (.returned (.tuple #[.agg #[.int .i64 0, .int .i64 0, .int .i64 0, .slice none 0 0], .bool false])) w9 ∧ GB p w w9) := ⟨gotP_none HN.out rfl, G9.out⟩
    clear k1 k2 hgb F1
    simp [Leaves, settle, results, Tryz.results27, go_sem, *]
    exact POST.out
  | some i1 =>
    have E0 : Hid (rPass G 0 tArch = some i1) := e0
    refine (show Calls Tryz.prog 62 #[.pointer (some ⟨p, 0, none⟩), .string ⟨#[97, 114, 99, 104]⟩] _ _ from mp_some (by decide) e0 X0.out.1).mono ?_
    rintro e w1 ⟨⟨rfl, r1⟩, g1⟩
    have X1 : Hid (RdI w1 p a cap G i1 ∧ GB p w w1 ∧ Kn w1 w.heap.size [.int .i64 0, .int .i64 0, .int .i64 0, .slice none 0 0] 26 ∧ Kn w1 (w.heap.size + 1) [.bool false] 4) := ⟨r1, gb_trans X0.out.2.1 g1, X0.out.2.2.1.gb (by have := H0.out.2.1; omega) g1, X0.out.2.2.2.gb (by have := H0.out.2.1; omega) g1⟩
    clear r1 g1 X0 e0
    go_wp2_with fail
    cases e1 : rNum G i1 with
    | none =>
      refine (show Calls Tryz.prog 63 _ _ _ from fails_of (val := intV) e1 (rnumber_got X1.out.1)).mono ?_
      rintro e w2 ⟨rfl, g2⟩
      have F2 : Hid (GB p w w2 ∧ Kn w2 w.heap.size [.int .i64 0, .int .i64 0, .int .i64 0, .slice none 0 0] 26 ∧ Kn w2 (w.heap.size + 1) [.bool false] 4) := ⟨gb_trans X1.out.2.1 g2, X1.out.2.2.1.gb (by have := H0.out.2.1; omega) g2, X1.out.2.2.2.gb (by have := H0.out.2.1; omega) g2⟩
      have HN : Hid (rPolicy G = none) := by unfold Hid rPolicy rHead; rw [E0.out]; simp only; rw [e1]
      clear g2 X1
      go_wp2
      refine leaves_cons (f := 61) (args := #[.pointer (some ⟨w.heap.size, 0, none⟩), .pointer (some ⟨w.heap.size + 1, 0, none⟩)]) (by simp) (by simp [go_sem]) ?_
      refine (catch_wrong w.heap.size (w.heap.size + 1) [.int .i64 0, .int .i64 0, .int .i64 0, .slice none 0 0] false [] w2 rfl F2.out.2.1 F2.out.2.2 (by omega)).mono ?_
      rintro e u w9 ⟨rfl, rfl, k1, k2, hgb⟩
      have G9 : Hid (GB p w w9) := hgb p w F2.out.1 (Nat.le_refl _) (by omega)
      obtain ⟨c0, c1, c2, c3, d0⟩ := (⟨k1.cell 0 _ rfl, k1.cell 1 _ rfl, k1.cell 2 _ rfl, k1.cell 3 _ rfl, k2.cell 0 _ rfl⟩ : _ ∧ _ ∧ _ ∧ _ ∧ _)
      have POST : Hid (GotP (rPolicy G) w.heap.size (.returned (.tuple #[.agg #[.int .i64 0, .int .i64 0, .int .i64 0, .slice none 0 0], .bool false])) w9 ∧ GB p w w9) := ⟨gotP_none HN.out rfl, G9.out⟩
      clear k1 k2 hgb F2
      simp [Leaves, settle, results, Tryz.results27, go_sem, *]
      exact POST.out
    | some x =>
      obtain ⟨ar, i2⟩ := x
      have E1 : Hid (rNum G i1 = some (ar, i2)) := e1
      refine (show Calls Tryz.prog 63 _ _ _ from gives_of (val := intV) e1 (rnumber_got X1.out.1)).mono ?_
      rintro e w2 ⟨⟨rfl, r2⟩, g2⟩
      have kr := X1.out.2.2.1.gb (show w.heap.size ≠ p by have := H0.out.2.1; omega) g2
      have X2 : Hid (RdI (w2.setCell ⟨w.heap.size, 0, none⟩ (.int .i64 ar)) p a cap G i2 ∧ GB p w (w2.setCell ⟨w.heap.size, 0, none⟩ (.int .i64 ar)) ∧ Kn (w2.setCell ⟨w.heap.size, 0, none⟩ (.int .i64 ar)) w.heap.size [.int .i64 ar, .int .i64 0, .int .i64 0, .slice none 0 0] 26 ∧ Kn (w2.setCell ⟨w.heap.size, 0, none⟩ (.int .i64 ar)) (w.heap.size + 1) [.bool false] 4) :=
        ⟨H0.out.1.fresh r2 (Nat.le_refl _), gb_fresh (gb_trans X1.out.2.1 g2) (Nat.le_refl _), kr.set 0 _, (X1.out.2.2.2.gb (by have := H0.out.2.1; omega) g2).other (by omega) _ _⟩
      have f1 := kr.free
      obtain ⟨c0, c1, c2, c3⟩ := (⟨kr.cell 0 _ rfl, kr.cell 1 _ rfl, kr.cell 2 _ rfl, kr.cell 3 _ rfl⟩ : _ ∧ _ ∧ _ ∧ _)
      clear r2 g2 X1 e1 kr
      unfold intV
      go_wp2_with fail
      generalize w2.setCell ⟨w.heap.size, 0, none⟩ (.int .i64 ar) = W2 at *
      clear f1 c0 c1 c2 c3
      cases e2 : rPass G i2 tSemi with
      | none =>
        refine (show Calls Tryz.prog 62 #[.pointer (some ⟨p, 0, none⟩), .string ⟨#[59]⟩] _ _ from mp_none (by decide) e2 X2.out.1).mono ?_
        rintro e w3 ⟨rfl, g3⟩
        have F3 : Hid (GB p w w3 ∧ Kn w3 w.heap.size [.int .i64 ar, .int .i64 0, .int .i64 0, .slice none 0 0] 26 ∧ Kn w3 (w.heap.size + 1) [.bool false] 4) := ⟨gb_trans X2.out.2.1 g3, X2.out.2.2.1.gb (by have := H0.out.2.1; omega) g3, X2.out.2.2.2.gb (by have := H0.out.2.1; omega) g3⟩
        have HN : Hid (rPolicy G = none) := by unfold Hid rPolicy rHead; rw [E0.out]; simp only; rw [E1.out]; simp only; rw [e2]
        clear g3 X2
        go_wp2
        refine leaves_cons (f := 61) (args := #[.pointer (some ⟨w.heap.size, 0, none⟩), .pointer (some ⟨w.heap.size + 1, 0, none⟩)]) (by simp) (by simp [go_sem]) ?_
        refine (catch_wrong w.heap.size (w.heap.size + 1) [.int .i64 ar, .int .i64 0, .int .i64 0, .slice none 0 0] false [] w3 rfl F3.out.2.1 F3.out.2.2 (by omega)).mono ?_
        rintro e u w9 ⟨rfl, rfl, k1, k2, hgb⟩
        have G9 : Hid (GB p w w9) := hgb p w F3.out.1 (Nat.le_refl _) (by omega)
        obtain ⟨c0, c1, c2, c3, d0⟩ := (⟨k1.cell 0 _ rfl, k1.cell 1 _ rfl, k1.cell 2 _ rfl, k1.cell 3 _ rfl, k2.cell 0 _ rfl⟩ : _ ∧ _ ∧ _ ∧ _ ∧ _)
        have POST : Hid (GotP (rPolicy G) w.heap.size (.returned (.tuple #[.agg #[.int .i64 0, .int .i64 0, .int .i64 0, .slice none 0 0], .bool false])) w9 ∧ GB p w w9) := ⟨gotP_none HN.out rfl, G9.out⟩
        clear k1 k2 hgb F3
        simp [Leaves, settle, results, Tryz.results27, go_sem, *]
        exact POST.out
      | some i3 =>
        have E2 : Hid (rPass G i2 tSemi = some i3) := e2
        refine (show Calls Tryz.prog 62 #[.pointer (some ⟨p, 0, none⟩), .string ⟨#[59]⟩] _ _ from mp_some (by decide) e2 X2.out.1).mono ?_
        rintro e w3 ⟨⟨rfl, r3⟩, g3⟩
        have X3 : Hid (RdI w3 p a cap G i3 ∧ GB p w w3 ∧ Kn w3 w.heap.size [.int .i64 ar, .int .i64 0, .int .i64 0, .slice none 0 0] 26 ∧ Kn w3 (w.heap.size + 1) [.bool false] 4) := ⟨r3, gb_trans X2.out.2.1 g3, X2.out.2.2.1.gb (by have := H0.out.2.1; omega) g3, X2.out.2.2.2.gb (by have := H0.out.2.1; omega) g3⟩
        clear r3 g3 X2 e2
        go_wp2_with fail
        cases e3 : rPass G i3 tDefault with
        | none =>
          refine (show Calls Tryz.prog 62 #[.pointer (some ⟨p, 0, none⟩), .string ⟨#[100, 101, 102, 97, 117, 108, 116]⟩] _ _ from mp_none (by decide) e3 X3.out.1).mono ?_
          rintro e w4 ⟨rfl, g4⟩
          have F4 : Hid (GB p w w4 ∧ Kn w4 w.heap.size [.int .i64 ar, .int .i64 0, .int .i64 0, .slice none 0 0] 26 ∧ Kn w4 (w.heap.size + 1) [.bool false] 4) := ⟨gb_trans X3.out.2.1 g4, X3.out.2.2.1.gb (by have := H0.out.2.1; omega) g4, X3.out.2.2.2.gb (by have := H0.out.2.1; omega) g4⟩
          have HN : Hid (rPolicy G = none) := by unfold Hid rPolicy rHead; rw [E0.out]; simp only; rw [E1.out]; simp only; rw [E2.out]; simp only; rw [e3]
          clear g4 X3
          go_wp2
          refine leaves_cons (f := 61) (args := #[.pointer (some ⟨w.heap.size, 0, none⟩), .pointer (some ⟨w.heap.size + 1, 0, none⟩)]) (by simp) (by simp [go_sem]) ?_
          refine (catch_wrong w.heap.size (w.heap.size + 1) [.int .i64 ar, .int .i64 0, .int .i64 0, .slice none 0 0] false [] w4 rfl F4.out.2.1 F4.out.2.2 (by omega)).mono ?_
          rintro e u w9 ⟨rfl, rfl, k1, k2, hgb⟩
          have G9 : Hid (GB p w w9) := hgb p w F4.out.1 (Nat.le_refl _) (by omega)
          obtain ⟨c0, c1, c2, c3, d0⟩ := (⟨k1.cell 0 _ rfl, k1.cell 1 _ rfl, k1.cell 2 _ rfl, k1.cell 3 _ rfl, k2.cell 0 _ rfl⟩ : _ ∧ _ ∧ _ ∧ _ ∧ _)
          have POST : Hid (GotP (rPolicy G) w.heap.size (.returned (.tuple #[.agg #[.int .i64 0, .int .i64 0, .int .i64 0, .slice none 0 0], .bool false])) w9 ∧ GB p w w9) := ⟨gotP_none HN.out rfl, G9.out⟩
          clear k1 k2 hgb F4
          simp [Leaves, settle, results, Tryz.results27, go_sem, *]
          exact POST.out
        | some i4 =>
          have E3 : Hid (rPass G i3 tDefault = some i4) := e3
          refine (show Calls Tryz.prog 62 #[.pointer (some ⟨p, 0, none⟩), .string ⟨#[100, 101, 102, 97, 117, 108, 116]⟩] _ _ from mp_some (by decide) e3 X3.out.1).mono ?_
          rintro e w4 ⟨⟨rfl, r4⟩, g4⟩
          have X4 : Hid (RdI w4 p a cap G i4 ∧ GB p w w4 ∧ Kn w4 w.heap.size [.int .i64 ar, .int .i64 0, .int .i64 0, .slice none 0 0] 26 ∧ Kn w4 (w.heap.size + 1) [.bool false] 4) := ⟨r4, gb_trans X3.out.2.1 g4, X3.out.2.2.1.gb (by have := H0.out.2.1; omega) g4, X3.out.2.2.2.gb (by have := H0.out.2.1; omega) g4⟩
          clear r4 g4 X3 e3
          go_wp2_with fail
          cases e4 : rOut G i4 with
          | none =>
            refine (show Calls Tryz.prog 64 _ _ _ from fails_of (val := pairV) e4 (outcome_any X4.out.1)).mono ?_
            rintro e w5 ⟨rfl, g5⟩
            have F5 : Hid (GB p w w5 ∧ Kn w5 w.heap.size [.int .i64 ar, .int .i64 0, .int .i64 0, .slice none 0 0] 26 ∧ Kn w5 (w.heap.size + 1) [.bool false] 4) := ⟨gb_trans X4.out.2.1 g5, X4.out.2.2.1.gb (by have := H0.out.2.1; omega) g5, X4.out.2.2.2.gb (by have := H0.out.2.1; omega) g5⟩
            have HN : Hid (rPolicy G = none) := by unfold Hid rPolicy rHead; rw [E0.out]; simp only; rw [E1.out]; simp only; rw [E2.out]; simp only; rw [E3.out]; simp only; rw [e4]
            clear g5 X4
            go_wp2
            refine leaves_cons (f := 61) (args := #[.pointer (some ⟨w.heap.size, 0, none⟩), .pointer (some ⟨w.heap.size + 1, 0, none⟩)]) (by simp) (by simp [go_sem]) ?_
            refine (catch_wrong w.heap.size (w.heap.size + 1) [.int .i64 ar, .int .i64 0, .int .i64 0, .slice none 0 0] false [] w5 rfl F5.out.2.1 F5.out.2.2 (by omega)).mono ?_
            rintro e u w9 ⟨rfl, rfl, k1, k2, hgb⟩
            have G9 : Hid (GB p w w9) := hgb p w F5.out.1 (Nat.le_refl _) (by omega)
            obtain ⟨c0, c1, c2, c3, d0⟩ := (⟨k1.cell 0 _ rfl, k1.cell 1 _ rfl, k1.cell 2 _ rfl, k1.cell 3 _ rfl, k2.cell 0 _ rfl⟩ : _ ∧ _ ∧ _ ∧ _ ∧ _)
            have POST : Hid (GotP (rPolicy G) w.heap.size (.returned (.tuple #[.agg #[.int .i64 0, .int .i64 0, .int .i64 0, .slice none 0 0], .bool false])) w9 ∧ GB p w w9) := ⟨gotP_none HN.out rfl, G9.out⟩
            clear k1 k2 hgb F5
            simp [Leaves, settle, results, Tryz.results27, go_sem, *]
            exact POST.out
          | some x =>
            obtain ⟨⟨ac, da⟩, i5⟩ := x
            have E4 : Hid (rOut G i4 = some ((ac, da), i5)) := e4
            refine (show Calls Tryz.prog 64 _ _ _ from gives_of (val := pairV) e4 (outcome_any X4.out.1)).mono ?_
            rintro e w5 ⟨⟨rfl, r5⟩, g5⟩
            have kr := X4.out.2.2.1.gb (show w.heap.size ≠ p by have := H0.out.2.1; omega) g5
            have X5 : Hid (RdI ((w5.setCell ⟨w.heap.size, 1, none⟩ (.int .i64 ac)).setCell ⟨w.heap.size, 2, none⟩ (.int .i64 da)) p a cap G i5 ∧ GB p w ((w5.setCell ⟨w.heap.size, 1, none⟩ (.int .i64 ac)).setCell ⟨w.heap.size, 2, none⟩ (.int .i64 da)) ∧ Kn ((w5.setCell ⟨w.heap.size, 1, none⟩ (.int .i64 ac)).setCell ⟨w.heap.size, 2, none⟩ (.int .i64 da)) w.heap.size [.int .i64 ar, .int .i64 ac, .int .i64 da, .slice none 0 0] 26 ∧ Kn ((w5.setCell ⟨w.heap.size, 1, none⟩ (.int .i64 ac)).setCell ⟨w.heap.size, 2, none⟩ (.int .i64 da)) (w.heap.size + 1) [.bool false] 4) :=
              ⟨H0.out.1.fresh (H0.out.1.fresh r5 (Nat.le_refl _)) (Nat.le_refl _), gb_fresh (gb_fresh (gb_trans X4.out.2.1 g5) (Nat.le_refl _)) (Nat.le_refl _), (kr.set 1 _).set 2 _, ((X4.out.2.2.2.gb (by have := H0.out.2.1; omega) g5).other (by omega) _ _).other (by omega) _ _⟩
            have f1 := kr.free
            obtain ⟨c0, c1, c2, c3⟩ := (⟨kr.cell 0 _ rfl, kr.cell 1 _ rfl, kr.cell 2 _ rfl, kr.cell 3 _ rfl⟩ : _ ∧ _ ∧ _ ∧ _)
            clear r5 g5 X4 e4 kr
            unfold pairV
            go_wp2_with fail
            generalize (w5.setCell ⟨w.heap.size, 1, none⟩ (.int .i64 ac)).setCell ⟨w.heap.size, 2, none⟩ (.int .i64 da) = W5 at *
            clear f1 c0 c1 c2 c3
            cases e5 : rPass G i5 tSemi with
            | none =>
              refine (show Calls Tryz.prog 62 #[.pointer (some ⟨p, 0, none⟩), .string ⟨#[59]⟩] _ _ from mp_none (by decide) e5 X5.out.1).mono ?_
              rintro e w6 ⟨rfl, g6⟩
              have F6 : Hid (GB p w w6 ∧ Kn w6 w.heap.size [.int .i64 ar, .int .i64 ac, .int .i64 da, .slice none 0 0] 26 ∧ Kn w6 (w.heap.size + 1) [.bool false] 4) := ⟨gb_trans X5.out.2.1 g6, X5.out.2.2.1.gb (by have := H0.out.2.1; omega) g6, X5.out.2.2.2.gb (by have := H0.out.2.1; omega) g6⟩
              have HN : Hid (rPolicy G = none) := by unfold Hid rPolicy rHead; rw [E0.out]; simp only; rw [E1.out]; simp only; rw [E2.out]; simp only; rw [E3.out]; simp only; rw [E4.out]; simp only; rw [e5]
              clear g6 X5
              go_wp2
              refine leaves_cons (f := 61) (args := #[.pointer (some ⟨w.heap.size, 0, none⟩), .pointer (some ⟨w.heap.size + 1, 0, none⟩)]) (by simp) (by simp [go_sem]) ?_
              refine (catch_wrong w.heap.size (w.heap.size + 1) [.int .i64 ar, .int .i64 ac, .int .i64 da, .slice none 0 0] false [] w6 rfl F6.out.2.1 F6.out.2.2 (by omega)).mono ?_
              rintro e u w9 ⟨rfl, rfl, k1, k2, hgb⟩
              have G9 : Hid (GB p w w9) := hgb p w F6.out.1 (Nat.le_refl _) (by omega)
              obtain ⟨c0, c1, c2, c3, d0⟩ := (⟨k1.cell 0 _ rfl, k1.cell 1 _ rfl, k1.cell 2 _ rfl, k1.cell 3 _ rfl, k2.cell 0 _ rfl⟩ : _ ∧ _ ∧ _ ∧ _ ∧ _)
              have POST : Hid (GotP (rPolicy G) w.heap.size (.returned (.tuple #[.agg #[.int .i64 0, .int .i64 0, .int .i64 0, .slice none 0 0], .bool false])) w9 ∧ GB p w w9) := ⟨gotP_none HN.out rfl, G9.out⟩
              clear k1 k2 hgb F6
              simp [Leaves, settle, results, Tryz.results27, go_sem, *]
              exact POST.out
            | some i6 =>
              have EH : Hid (rHead G = some ((ar, ac, da), i6)) := by unfold Hid rHead; rw [E0.out]; simp only; rw [E1.out]; simp only; rw [E2.out]; simp only; rw [E3.out]; simp only; rw [E4.out]; simp only; rw [e5]
              refine (show Calls Tryz.prog 62 #[.pointer (some ⟨p, 0, none⟩), .string ⟨#[59]⟩] _ _ from mp_some (by decide) e5 X5.out.1).mono ?_
              rintro e w6 ⟨⟨rfl, r6⟩, g6⟩
              have X6 : Hid (RdI w6 p a cap G i6 ∧ GB p w w6 ∧ Kn w6 w.heap.size [.int .i64 ar, .int .i64 ac, .int .i64 da, .slice none 0 0] 26 ∧ Kn w6 (w.heap.size + 1) [.bool false] 4) := ⟨r6, gb_trans X5.out.2.1 g6, X5.out.2.2.1.gb (by have := H0.out.2.1; omega) g6, X5.out.2.2.2.gb (by have := H0.out.2.1; omega) g6⟩
              clear r6 g6 X5 e5 E0 E1 E2 E3 E4
              go_wp2_with fail
              have HB0 : Hid ((w.heap.size + 2 ≤ w6.heap.size) ∧ i6 ≤ G.length) := by
                have := X6.out.2.2.2.lt
                exact ⟨by omega, X6.out.1.2.1⟩
              go_loopw [] (fun wr => ∃ (ps : List (RN × List Value)) (j f : Nat) (v : Value), Hid ((rPolicy G = (rRulesF f G j).map fun rs => (⟨ar, ac, da, ps.map (·.1) ++ rs⟩ : PN)) ∧ G.length ≤ j + f ∧ ps.length ≤ j ∧ RdI wr p a cap G j ∧ GB p w wr ∧ Kn wr w.heap.size [.int .i64 ar, .int .i64 ac, .int .i64 da, v] 26 ∧ Kn wr (w.heap.size + 1) [.bool false] 4 ∧ RulesX (w.heap.size + 2) wr v ps)) (fun W => G.length - rdAt W p)
              case atStart =>
                refine ⟨[], i6, G.length, .slice none 0 0, ?_, by omega, by simp, X6.out.1, X6.out.2.1, X6.out.2.2.1, X6.out.2.2.2, World.ownsRow_nil _ _ _ _, RowsX.nil (by have := X6.out.2.2.2.lt; omega)⟩
                unfold rPolicy
                rw [EH.out]
                rfl
              case round =>
                obtain ⟨ps, j, f, v, HI⟩ := hrel
                clear X6
                have HA : Hid (Calls Tryz.prog 65 #[.pointer (some ⟨p, 0, none⟩)] wr fun e w' => e = .returned (.bool (decide (j = G.length))) ∧ Ext wr w') := atEnd_any HI.out.2.2.2.1
                by_cases hj : j = G.length
                · rw [decide_eq_true hj] at HA
                  go_wp2_with fail
                  refine HA.out.mono ?_
                  rintro e w7 ⟨rfl, x7⟩
                  have k7 := HI.out.2.2.2.2.2.1.ext x7
                  have s7 := HI.out.2.2.2.2.2.2.1.ext x7
                  have f1 := k7.free
                  have f2 := s7.free
                  obtain ⟨c0, c1, c2, c3, d0⟩ := (⟨k7.cell 0 _ rfl, k7.cell 1 _ rfl, k7.cell 2 _ rfl, k7.cell 3 _ rfl, s7.cell 0 _ rfl⟩ : _ ∧ _ ∧ _ ∧ _ ∧ _)
                  obtain ⟨sa, sc, rfl⟩ := own_slice HI.out.2.2.2.2.2.2.2.1
                  have o7 := HI.out.2.2.2.2.2.2.2.ext x7
                  have g7 := gb_trans HI.out.2.2.2.2.1 (gb_ext x7)
                  have hR : w.heap.size ≤ w.heap.size := Nat.le_refl _
                  have hF : ∀ {B : Nat} {W : World} {o : Value} {q c : Nat} {u : Value}, RulesX B W o ps → q < B → RulesX B (W.setCell ⟨q, c, none⟩ u) o ps := fun {B W o q c u} h hq => ⟨own_set h.1 (fun x hx => by have := (own_lt9 h.1 hx).1; omega), (h.2.kept (gb_set q c W u) (fun x hx _ => by injection hx with hx; omega)).up (by rw [World.size_setCell]; exact Nat.le_refl _)⟩
                  have X8 : Hid (GB p w (((((w7.setCell ⟨w.heap.size, 0, none⟩ (.int .i64 ar)).setCell ⟨w.heap.size, 1, none⟩ (.int .i64 ac)).setCell ⟨w.heap.size, 2, none⟩ (.int .i64 da)).setCell ⟨w.heap.size, 3, none⟩ (.slice sa ps.length sc)).setCell ⟨w.heap.size + 1, 0, none⟩ (.bool true)) ∧ Kn (((((w7.setCell ⟨w.heap.size, 0, none⟩ (.int .i64 ar)).setCell ⟨w.heap.size, 1, none⟩ (.int .i64 ac)).setCell ⟨w.heap.size, 2, none⟩ (.int .i64 da)).setCell ⟨w.heap.size, 3, none⟩ (.slice sa ps.length sc)).setCell ⟨w.heap.size + 1, 0, none⟩ (.bool true)) w.heap.size [.int .i64 ar, .int .i64 ac, .int .i64 da, .slice sa ps.length sc] 26 ∧ Kn (((((w7.setCell ⟨w.heap.size, 0, none⟩ (.int .i64 ar)).setCell ⟨w.heap.size, 1, none⟩ (.int .i64 ac)).setCell ⟨w.heap.size, 2, none⟩ (.int .i64 da)).setCell ⟨w.heap.size, 3, none⟩ (.slice sa ps.length sc)).setCell ⟨w.heap.size + 1, 0, none⟩ (.bool true)) (w.heap.size + 1) [.bool true] 4 ∧ RulesX (w.heap.size + 2) (((((w7.setCell ⟨w.heap.size, 0, none⟩ (.int .i64 ar)).setCell ⟨w.heap.size, 1, none⟩ (.int .i64 ac)).setCell ⟨w.heap.size, 2, none⟩ (.int .i64 da)).setCell ⟨w.heap.size, 3, none⟩ (.slice sa ps.length sc)).setCell ⟨w.heap.size + 1, 0, none⟩ (.bool true)) (.slice sa ps.length sc) ps) :=
                    ⟨gb_fresh (gb_fresh (gb_fresh (gb_fresh (gb_fresh g7 hR) hR) hR) hR) (by omega), ((((k7.set 0 _).set 1 _).set 2 _).set 3 _).other (by omega) _ _, ((((s7.other (by omega) _ _).other (by omega) _ _).other (by omega) _ _).other (by omega) _ _).set 0 _,
                      hF (hF (hF (hF (hF o7 (by omega)) (by omega)) (by omega)) (by omega)) (by omega)⟩
                  have HN : Hid (rPolicy G = some ⟨ar, ac, da, ps.map (·.1)⟩) := by
                    unfold Hid
                    rw [HI.out.1]
                    cases f with
                    | zero => simp [rRulesF]
                    | succ f => rw [rRulesF, if_pos hj]; simp
                  go_wp2
                  generalize (((((w7.setCell ⟨w.heap.size, 0, none⟩ (.int .i64 ar)).setCell ⟨w.heap.size, 1, none⟩ (.int .i64 ac)).setCell ⟨w.heap.size, 2, none⟩ (.int .i64 da)).setCell ⟨w.heap.size, 3, none⟩ (.slice sa ps.length sc)).setCell ⟨w.heap.size + 1, 0, none⟩ (.bool true)) = W8 at *
                  show Leaves _ _ _ _ _ _ _
                  refine leaves_cons (f := 61) (args := #[.pointer (some ⟨w.heap.size, 0, none⟩), .pointer (some ⟨w.heap.size + 1, 0, none⟩)]) (by simp) (by simp [go_sem]) ?_
                  clear c0 c1 c2 c3 d0 f1 f2 k7 s7 o7 g7 hF x7
                  refine (catch_idle w.heap.size (w.heap.size + 1) W8).mono ?_
                  rintro e u w9 ⟨rfl, rfl, x9⟩
                  have k9 := X8.out.2.1.ext x9
                  have s9 := X8.out.2.2.1.ext x9
                  obtain ⟨c0, c1, c2, c3, d0⟩ := (⟨k9.cell 0 _ rfl, k9.cell 1 _ rfl, k9.cell 2 _ rfl, k9.cell 3 _ rfl, s9.cell 0 _ rfl⟩ : _ ∧ _ ∧ _ ∧ _ ∧ _)
                  have POST : Hid (GotP (rPolicy G) w.heap.size (.returned (.tuple #[.agg #[.int .i64 ar, .int .i64 ac, .int .i64 da, .slice sa ps.length sc], .bool true])) w9 ∧ GB p w w9) := ⟨gotP_some HN.out rfl rfl (RulesX.low (X8.out.2.2.2.ext x9)), gb_trans X8.out.1 (gb_ext x9)⟩
                  clear k9 s9 x9 X8
                  simp [Leaves, settle, results, Tryz.results27, go_sem, *]
                  exact POST.out
                · rw [decide_eq_false hj] at HA
                  have hlt : j < G.length := by have := HI.out.2.2.2.1.2.1; omega
                  go_wp2_with fail
                  refine HA.out.mono ?_
                  rintro e w7 ⟨rfl, x7⟩
                  have X7 : Hid (RdI w7 p a cap G j ∧ GB p w w7 ∧ Kn w7 w.heap.size [.int .i64 ar, .int .i64 ac, .int .i64 da, v] 26 ∧ Kn w7 (w.heap.size + 1) [.bool false] 4 ∧ RulesX (w.heap.size + 2) w7 v ps ∧ ps.length ≤ 1200 ∧ p < w.heap.size ∧ w.heap.size + 2 ≤ w7.heap.size ∧ (∀ x, v.ownBlock = some x → w.heap.size + 2 ≤ x ∧ x < w7.heap.size) ∧ p < w7.heap.size) := by
                    have g7 := gb_trans HI.out.2.2.2.2.1 (gb_ext x7)
                    have k7 := HI.out.2.2.2.2.2.2.1.ext x7
                    have o7 := HI.out.2.2.2.2.2.2.2.ext x7
                    have hlt := k7.lt
                    have hp := H0.out.2.1
                    exact ⟨HI.out.2.2.2.1.step x7, g7, HI.out.2.2.2.2.2.1.ext x7, k7, o7, by have := HI.out.2.2.1; have := HI.out.2.2.2.1.2.1; have := HI.out.2.2.2.1.2.2.1; omega, hp, by omega, fun x hx => own_lt9 o7.1 hx, by omega⟩
                  have HC : Hid (∀ W, RdI W p a cap G j → GB p w W → Calls Tryz.prog 66 #[.pointer (some ⟨p, 0, none⟩)] W fun e w' => GotU (RuleX W.heap.size) (rRule G j) p a cap G e w' ∧ GB p W w') := fun W hR hG => rrule_any hR H0.out.2.2.2.1 H0.out.2.2.2.2 (H0.out.2.2.1 _ hG)
                  obtain ⟨jn, hjn⟩ : ∃ jn, jn = (match rRule G j with | some (_, k) => k | none => j) := ⟨_, rfl⟩
                  have HJN : Hid (jn = (match rRule G j with | some (_, k) => k | none => j)) := hjn
                  clear hjn x7 HA
                  go_wp2_with fail
                  refine' wp_region_loosea_tail 7 (.inl _ :: .inl _ :: .inl _ :: .inr (fun vv W => ∃ (r : RN) (k : Nat) (a1 : Option Addr) (n1 c1 : Nat) (a2 : Option Addr) (n2 c2 : Nat), rRule G j = some (r, k) ∧ vv = .agg #[.slice a1 n1 c1, .slice a2 n2 c2, .int .i64 r.act, .int .i64 r.data] ∧ RuleX w7.heap.size W r [.slice a1 n1 c1, .slice a2 n2 c2, .int .i64 r.act, .int .i64 r.data]) :: .inr (fun vv W => ∃ (h : Nat) (r : RN) (k : Nat) (a1 : Option Addr) (n1 c1 : Nat) (a2 : Option Addr) (n2 c2 : Nat), rRule G j = some (r, k) ∧ vv = .slice (some ⟨h, 0, none⟩) 1 1 ∧ w7.heap.size ≤ h ∧ Kn W h [.slice a1 n1 c1, .slice a2 n2 c2, .int .i64 r.act, .int .i64 r.data] 53 ∧ RuleX w7.heap.size W r [.slice a1 n1 c1, .slice a2 n2 c2, .int .i64 r.act, .int .i64 r.data]) :: .inr (fun vv W => ∃ (g cap' Y : Nat) (r : RN) (k : Nat) (l : List Value), rRule G j = some (r, k) ∧ vv = .slice (some ⟨g, 0, none⟩) (ps.length + 1) cap' ∧ W.ownsRow (w.heap.size + 2) 53 4 (.slice (some ⟨g, 0, none⟩) (ps.length + 1) cap') (ps.length + 1) (ps.flatMap (·.2) ++ l) ∧ RowsX (w.heap.size + 2) Y W (some g) (ps ++ [(r, l)]) ∧ Y ≤ W.heap.size) :: .inl _ :: []) (CA (fun b1 b2 W => (RdI W p a cap G (plc b1 jn j) ∧ GB p w W ∧ Kn W w.heap.size [.int .i64 ar, .int .i64 ac, .int .i64 da, v] 26 ∧ Kn W (w.heap.size + 1) [.bool false] 4 ∧ RowsX (w.heap.size + 2) w7.heap.size W v.ownBlock ps ∧ w7.heap.size ≤ W.heap.size) ∧ (b2 = false → W.ownsRow (w.heap.size + 2) 53 4 v ps.length (ps.flatMap (·.2)))) 3 5) (fun ch W => ch = [{ v := .iface 103 (.agg #[]), recovered := false }] ∧ rRule G j = none ∧ GB p w W ∧ Kn W w.heap.size [.int .i64 ar, .int .i64 ac, .int .i64 da, v] 26 ∧ Kn W (w.heap.size + 1) [.bool false] 4) (fun x => ∃ y26 y27 y28 y29 y30 y31 y32, x = ⟨#[.pointer (some ⟨p, 0, none⟩), undef, .pointer (some ⟨w.heap.size, 0, none⟩), .pointer (some ⟨w.heap.size + 1, 0, none⟩), .func (.func 61) #[] #[.pointer (some ⟨w.heap.size, 0, none⟩), .pointer (some ⟨w.heap.size + 1, 0, none⟩)], .pointer (some ⟨p, 0, none⟩), .tuple #[], .pointer (some ⟨p, 0, none⟩), .int .i64 ar, .pointer (some ⟨w.heap.size, 0, none⟩), .pointer (some ⟨p, 0, none⟩), .tuple #[], .pointer (some ⟨p, 0, none⟩), .tuple #[], .tuple #[.int .i64 ac, .int .i64 da], .pointer (some ⟨p, 0, none⟩), .tuple #[.int .i64 ac, .int .i64 da], .int .i64 ac, .int .i64 da, .pointer (some ⟨w.heap.size, 1, none⟩), .pointer (some ⟨w.heap.size, 2, none⟩), .pointer (some ⟨p, 0, none⟩), .tuple #[], .pointer (some ⟨p, 0, none⟩), .bool false, .bool true, y26, y27, y28, y29, y30, y31, y32, undef], [{ target := .fn (.func 61) #[.pointer (some ⟨w.heap.size, 0, none⟩), .pointer (some ⟨w.heap.size + 1, 0, none⟩)], args := #[] }]⟩) (fun i W W' => (i = 5 → W.grownBy W' v.ownBlock) ∧ (i ≠ 5 → GB p W W')) (by kernel_rfl) (by kernel_rfl) (⟨⟨X7.out.1, gb_drew X7.out.2.1, X7.out.2.2.1, X7.out.2.2.2.1, X7.out.2.2.2.2.1.2, Nat.le_refl _⟩, fun _ => X7.out.2.2.2.2.1.1⟩) ?hIA ?hGA ?hBA (fun i ls w hi h => CA_ne (by intro e; subst e; cases hi) (by intro e; subst e; cases hi) h) ?hAA ?hlA ?hMA
                  case' hMA => skip
                  simp only [List.take_succ_cons, List.take_zero, List.drop_succ_cons, List.drop_zero]
                  apply wpLooseA_val rfl rfl (by decide) (by decide)
                  case hs =>
                    intro b1 b2 w1 hC hd Q1 hQ1 hP1
                    dsimp only [bare]
                    have q1 := hC.1.2.2.1.cell 3 _ rfl
                    clear hd hP1
                    have HCC : Hid _ := hC
                    clear hC
                    go_wp2
                    exact ⟨HCC.out, ⟨fun h => by omega, fun _ => gb_refl _ _⟩⟩
                  case ha => rfl
                  apply wpLooseA_val rfl rfl (by decide) (by decide)
                  case hs =>
                    intro b1 b2 w1 hC hd Q1 hQ1 hP1
                    dsimp only [bare]
                    have q1 := hC.1.2.2.1.cell 3 _ rfl
                    clear hd hP1
                    have HCC : Hid _ := hC
                    clear hC
                    go_wp2
                    exact ⟨HCC.out, ⟨fun h => by omega, fun _ => gb_refl _ _⟩⟩
                  case ha => rfl
                  apply wpLooseA_val rfl rfl (by decide) (by decide)
                  case hs =>
                    intro b1 b2 w1 hC hd Q1 hQ1 hP1
                    dsimp only [bare]
                    have q1 := hC.1.2.2.1.cell 3 _ rfl
                    clear hd hP1
                    have HCC : Hid _ := hC
                    clear hC
                    go_wp2
                    exact ⟨HCC.out, ⟨fun h => by omega, fun _ => gb_refl _ _⟩⟩
                  case ha => rfl
                  refine wpLooseA_s1 rfl rfl (by decide) (by decide) ?_ (fun vA_3 => ?_)
                  · intro b2 w1 hC hd Q1 hQ1 hP1
                    dsimp only [bare]
                    clear hd
                    have HCC : Hid _ := hC
                    have HQ : Hid _ := hQ1
                    have HPP : Hid _ := hP1
                    clear hC hQ1 hP1
                    go_wp2_with fail
                    refine (HC.out _ HCC.out.1.1 HCC.out.1.2.1).mono ?_
                    rintro e w8 ⟨hg, g8⟩
                    have G8 : Hid (GB p w1 w8) := g8
                    clear g8
                    have HPR : Hid (p < w.heap.size ∧ p < w7.heap.size) := ⟨X7.out.2.2.2.2.2.2.1, X7.out.2.2.2.2.2.2.2.2.2⟩
                    rcases e6 : rRule G j with _ | ⟨r, k⟩
                    · rw [e6] at hg
                      have hbad : e = Bad := hg
                      have EN : Hid (rRule G j = none) := e6
                      subst hbad
                      clear hg e6
                      go_wp2_with fail
                      obtain ⟨⟨h1, h2, h3, h4, h5, h6⟩, h7⟩ := HCC.out
                      exact HPP.out _ _ ⟨rfl, EN.out, gb_trans h2 G8.out, h3.gb (by have := HPR.out.1; omega) G8.out, h4.gb (by have := HPR.out.1; omega) G8.out⟩
                    · rw [e6] at hg
                      obtain ⟨l, rfl, hl, hr⟩ := hg
                      obtain ⟨a1, n1, c1, a2, n2, c2, rfl⟩ := hl.shape
                      have EN : Hid (rRule G j = some (r, k)) := e6
                      have HL : Hid (RuleX w1.heap.size w8 r [.slice a1 n1 c1, .slice a2 n2 c2, .int .i64 r.act, .int .i64 r.data] ∧ RdI w8 p a cap G k ∧ jn = k) := ⟨hl, hr, by rw [HJN.out, e6]⟩
                      clear hl hr e6
                      go_wp2_with fail
                      obtain ⟨⟨h1, h2, h3, h4, h5, h6⟩, h7⟩ := HCC.out
                      exact HQ.out _ _ ⟨⟨⟨(by show RdI w8 p a cap G jn; rw [HL.out.2.2]; exact HL.out.2.1 : RdI w8 p a cap G (plc true jn j)), gb_trans h2 G8.out, h3.gb (by have := HPR.out.1; omega) G8.out, h4.gb (by have := HPR.out.1; omega) G8.out, h5.kept G8.out (fun x hx _ => by injection hx with hx; have := HPR.out.1; omega), Nat.le_trans h6 G8.out.size⟩, fun hb => own_gb (h7 hb) (by have := HPR.out.1; omega) G8.out⟩, ⟨fun h => by omega, fun _ => G8.out⟩, r, k, a1, n1, c1, a2, n2, c2, EN.out, rfl, HL.out.1.mono h6⟩
                  refine wpLooseA_rel rfl rfl (by decide) (by decide) ?_ (fun vA_4 => ?_)
                  · intro b1 b2 w1 hC hd Q1 hQ1 hP1
                    dsimp only [bare]
                    have h3 : ∃ (r : RN) (k : Nat) (a1 : Option Addr) (n1 c1 : Nat) (a2 : Option Addr) (n2 c2 : Nat), rRule G j = some (r, k) ∧ vA_3 = .agg #[.slice a1 n1 c1, .slice a2 n2 c2, .int .i64 r.act, .int .i64 r.data] ∧ RuleX w7.heap.size w1 r [.slice a1 n1 c1, .slice a2 n2 c2, .int .i64 r.act, .int .i64 r.data] := hd ⟨3, .data⟩ (by simp) rfl _ rfl (by simp [Act.put])
                    clear hd hP1
                    obtain ⟨r, k, a1, n1, c1, a2, n2, c2, e1, rfl, e3⟩ := h3
                    have HCC : Hid _ := hC
                    have HQ : Hid _ := hQ1
                    have EN : Hid (rRule G j = some (r, k)) := e1
                    have RX : Hid (RuleX w7.heap.size w1 r [.slice a1 n1 c1, .slice a2 n2 c2, .int .i64 r.act, .int .i64 r.data]) := e3
                    clear hC hQ1 e1 e3
                    go_wp2_with fail
                    obtain ⟨⟨h1, h2, h3, h4, h5, h6⟩, h7⟩ := HCC.out
                    exact HQ.out _ _ ⟨⟨⟨h1.step (Ext.one _ _), gb_alloc h2 _, h3.alloc _, h4.alloc _, h5.kept (gb_ext (p := p) (Ext.one _ _)) (fun x hx _ => by injection hx with hx; have := X7.out.2.2.2.2.2.2.1; omega), by simp; omega⟩, fun hb => own_ext (h7 hb) (Ext.one _ _)⟩, ⟨fun h => by omega, fun _ => gb_ext (Ext.one _ _)⟩, w1.heap.size, r, k, a1, n1, c1, a2, n2, c2, EN.out, rfl, h6, Kn.new _ _ _, RX.out.kept (gb_ext (p := p) (Ext.one _ _)) (fun x hx e => by have := (RX.out.blocks x hx).1; have := X7.out.2.2.2.2.2.2.2.2.2; injection e with e; omega)⟩
                  refine wpLooseA_s2 rfl rfl (by decide) (by decide) ?_ (fun vA_5 => ?_)
                  · intro b1 w1 hC hd Q1 hQ1 hP1
                    dsimp only [bare]
                    have h4 : ∃ (h : Nat) (r : RN) (k : Nat) (a1 : Option Addr) (n1 c1 : Nat) (a2 : Option Addr) (n2 c2 : Nat), rRule G j = some (r, k) ∧ vA_4 = .slice (some ⟨h, 0, none⟩) 1 1 ∧ w7.heap.size ≤ h ∧ Kn w1 h [.slice a1 n1 c1, .slice a2 n2 c2, .int .i64 r.act, .int .i64 r.data] 53 ∧ RuleX w7.heap.size w1 r [.slice a1 n1 c1, .slice a2 n2 c2, .int .i64 r.act, .int .i64 r.data] := hd ⟨4, .data⟩ (by simp) rfl _ rfl (by simp [Act.put])
                    clear hd hP1
                    obtain ⟨h, r, k, a1, n1, c1, a2, n2, c2, e1, rfl, e3, e4, e5⟩ := h4
                    have HCC : Hid _ := hC
                    have HQ : Hid _ := hQ1
                    have EN : Hid (rRule G j = some (r, k)) := e1
                    have RX : Hid (RuleX w7.heap.size w1 r [.slice a1 n1 c1, .slice a2 n2 c2, .int .i64 r.act, .int .i64 r.data]) := e5
                    have HBK : Hid (Kn w1 h [.slice a1 n1 c1, .slice a2 n2 c2, .int .i64 r.act, .int .i64 r.data] 53 ∧ w.heap.size + 2 ≤ w1.heap.size) := ⟨e4, Nat.le_trans X7.out.2.2.2.2.2.2.2.1 hC.1.2.2.2.2.2⟩
                    have hlen : ps.length ≤ 1200 := X7.out.2.2.2.2.2.1
                    clear hC hQ1 e1 e3 e4 e5
                    go_wp2_with (at_builtin; refine wpList_append_lies _ rfl _ _ 24 rfl (w.heap.size + 2) 53 j0 (.agg #[.slice none 0 0, .slice none 0 0, .int .i64 0, .int .i64 0]) 4 64 Tryz.underlying24 ji jz0 jz1 jz2 rfl (by decide) _ _ _ rfl (HCC.out.2 rfl) ⟨h, 0, none⟩ 1 1 [.slice a1 n1 c1, .slice a2 n2 c2, .int .i64 r.act, .int .i64 r.data] rfl rfl ?c1 ?c2 (by omega) ?c3 ?c4 ?c5 w1.heap.size rfl ?_)
                    case c1 => exact fun j u hu => HBK.out.1.cell j u hu
                    case c2 => simp [Value.oneCell']
                    case c3 => unfold maxLen; omega
                    case c4 => omega
                    case c5 => exact HBK.out.2
                    intro g cap' w5 hown5 hgrow5 hat5 hlt5
                    obtain ⟨⟨h1, h2, h3, h4, h5, h6⟩, h7⟩ := HCC.out
                    have hv1 := X7.out.2.2.2.2.2.2.2.2.1
                    have hrow : ∀ x, v.ownBlock = some x → w.heap.size ≤ x := fun x hx => by have := (hv1 x hx).1; omega
                    have POST : Hid ((RdI w5 p a cap G (plc b1 jn j) ∧ GB p w w5 ∧ Kn w5 w.heap.size [.int .i64 ar, .int .i64 ac, .int .i64 da, v] 26 ∧ Kn w5 (w.heap.size + 1) [.bool false] 4 ∧ RowsX (w.heap.size + 2) w7.heap.size w5 v.ownBlock ps ∧ w7.heap.size ≤ w5.heap.size) ∧ w1.grownBy w5 v.ownBlock ∧ w5.ownsRow (w.heap.size + 2) 53 4 (.slice (some ⟨g, 0, none⟩) (ps.length + 1) cap') (ps.length + 1) (ps.flatMap (·.2) ++ [.slice a1 n1 c1, .slice a2 n2 c2, .int .i64 r.act, .int .i64 r.data]) ∧ RowsX (w.heap.size + 2) w1.heap.size w5 (some g) (ps ++ [(r, [.slice a1 n1 c1, .slice a2 n2 c2, .int .i64 r.act, .int .i64 r.data])]) ∧ w1.heap.size ≤ w5.heap.size) := ⟨⟨H0.out.1.row h1 hgrow5 hrow, gb_row h2 hgrow5 hrow, h3.row hgrow5 (fun e => by have := (hv1 _ e).1; omega), h4.row hgrow5 (fun e => by have := (hv1 _ e).1; omega), h5.kept hgrow5 (fun x hx hne => absurd hx hne), Nat.le_trans h6 hgrow5.size⟩, hgrow5, hown5, (h5.kept hgrow5 (fun x hx hne => absurd hx hne)).push (RX.out.kept hgrow5 (fun x hx e => by have := (RX.out.blocks x hx).1; have := (hv1 x e).2; omega)) (fun x hx => (RX.out.blocks x hx).2) h6 (fun x hx => (hv1 x hx).2) (fun x hx => by injection hx with hx; subst hx; rcases hat5 with h | h; exact .inl h; exact .inr (by omega)), hgrow5.size⟩
                    clear h1 h2 h3 h4 h5 h6 h7 hown5 hgrow5 hat5 hlt5 hv1 hrow
                    go_wp2_with fail
                    exact HQ.out _ _ ⟨⟨POST.out.1, fun hb => by cases hb⟩, ⟨fun _ => POST.out.2.1, fun h => by omega⟩, g, cap', w1.heap.size, r, k, _, EN.out, rfl, POST.out.2.2⟩
                  apply wpLooseA_val rfl rfl (by decide) (by decide)
                  case hs =>
                    intro b1 b2 w1 hC hd Q1 hQ1 hP1
                    dsimp only [bare]
                    have q1 := hC.1.2.2.1.cell 3 _ rfl
                    clear hd hP1
                    have HCC : Hid _ := hC
                    clear hC
                    go_wp2
                    exact ⟨HCC.out, ⟨fun h => by omega, fun _ => gb_refl _ _⟩⟩
                  case ha => rfl
                  refine wpLooseA_nil ?_
                  intro hJA lsA wA hlsA hCA hFA
                  simp only [CA, show lsA.getD 3 false = true from hlsA _ (by decide), show lsA.getD 5 false = true from hlsA _ (by decide)] at hCA
                  · obtain ⟨⟨h1, h2, h3, h4, h5, h6⟩, _⟩ := hCA
                    obtain ⟨g, cap', Y, r, k, l, e6, rfl, hown, hrows, hY⟩ := (hFA 5 _ rfl (by decide) (by simp) : ∃ (g cap' Y : Nat) (r : RN) (k : Nat) (l : List Value), rRule G j = some (r, k) ∧ vA_5 = .slice (some ⟨g, 0, none⟩) (ps.length + 1) cap' ∧ wA.ownsRow (w.heap.size + 2) 53 4 (.slice (some ⟨g, 0, none⟩) (ps.length + 1) cap') (ps.length + 1) (ps.flatMap (·.2) ++ l) ∧ RowsX (w.heap.size + 2) Y wA (some g) (ps ++ [(r, l)]) ∧ Y ≤ wA.heap.size)
                    have hg := (own_lt9 (x := g) hown rfl).1
                    have hjk := rRule_lt H0.out.2.2.2.1 e6
                    have HK : Hid ((rPolicy G = (rRulesF (f - 1) G k).map fun rs => (⟨ar, ac, da, (ps ++ [(r, l)]).map (·.1) ++ rs⟩ : PN)) ∧ G.length ≤ k + (f - 1) ∧ (ps ++ [(r, l)]).length ≤ k ∧ RdI (wA.setCell ⟨w.heap.size, 3, none⟩ (.slice (some ⟨g, 0, none⟩) (ps.length + 1) cap')) p a cap G k ∧ GB p w (wA.setCell ⟨w.heap.size, 3, none⟩ (.slice (some ⟨g, 0, none⟩) (ps.length + 1) cap')) ∧ Kn (wA.setCell ⟨w.heap.size, 3, none⟩ (.slice (some ⟨g, 0, none⟩) (ps.length + 1) cap')) w.heap.size [.int .i64 ar, .int .i64 ac, .int .i64 da, .slice (some ⟨g, 0, none⟩) (ps.length + 1) cap'] 26 ∧ Kn (wA.setCell ⟨w.heap.size, 3, none⟩ (.slice (some ⟨g, 0, none⟩) (ps.length + 1) cap')) (w.heap.size + 1) [.bool false] 4 ∧ RulesX (w.heap.size + 2) (wA.setCell ⟨w.heap.size, 3, none⟩ (.slice (some ⟨g, 0, none⟩) (ps.length + 1) cap')) (.slice (some ⟨g, 0, none⟩) (ps.length + 1) cap') (ps ++ [(r, l)])) := by
                      have hf := HI.out.2.1
                      refine ⟨?_, by omega, by have := HI.out.2.2.1; simp; omega, H0.out.1.fresh (by rw [show plc true jn j = k from HJN.out.trans (by rw [e6])] at h1; exact h1) (Nat.le_refl _), gb_fresh h2 (Nat.le_refl _), h3.set 3 _, h4.other (by omega) _ _, ?_, ?_⟩
                      · rw [HI.out.1, show f = (f - 1) + 1 by omega, rRulesF, if_neg hj, e6]
                        simp only [Nat.add_sub_cancel]
                        cases rRulesF (f - 1) G k <;> simp
                      · have := own_set (q := w.heap.size) (k := 3) (u := .slice (some ⟨g, 0, none⟩) (ps.length + 1) cap') hown (fun x hx => by simp [Value.ownBlock] at hx; omega)
                        simpa using this
                      · exact (hrows.kept (gb_set w.heap.size 3 wA _) (fun x hx _ => by injection hx with hx; omega)).up (by rw [World.size_setCell]; exact hY)
                    have HM : Hid (rdAt wr p = j ∧ j < k ∧ k ≤ G.length) := ⟨HI.out.2.2.2.1.place, hjk.1, hjk.2.1⟩
                    have q1 := h3.cell 3 _ rfl
                    have f3 := h3.free
                    clear h1 h2 h3 h4 h5 h6 hown hrows hFA hY HI e6 hjk X7
                    go_wp2
                    go_roundw
                    case rel => exact ⟨_, k, f - 1, _, HK.out⟩
                    case measure =>
                      have a1 := HK.out.2.2.2.1.place
                      have a2 := HM.out
                      rw [a1, a2.1]
                      omega
                  case hIA => exact ⟨_, _, _, _, _, _, _, rfl⟩
                  case hGA =>
                    rintro i oi u b hoi ⟨y26, y27, y28, y29, y30, y31, y32, rfl⟩
                    rcases i with _ | _ | _ | _ | _ | _ | _ | _ | i
                    · obtain rfl := Option.some.inj hoi; exact ⟨u, y27, y28, y29, y30, y31, y32, rfl⟩
                    · obtain rfl := Option.some.inj hoi; exact ⟨y26, u, y28, y29, y30, y31, y32, rfl⟩
                    · obtain rfl := Option.some.inj hoi; exact ⟨y26, y27, u, y29, y30, y31, y32, rfl⟩
                    · obtain rfl := Option.some.inj hoi; exact ⟨y26, y27, y28, u, y30, y31, y32, rfl⟩
                    · obtain rfl := Option.some.inj hoi; exact ⟨y26, y27, y28, y29, u, y31, y32, rfl⟩
                    · obtain rfl := Option.some.inj hoi; exact ⟨y26, y27, y28, y29, y30, u, y32, rfl⟩
                    · obtain rfl := Option.some.inj hoi; exact ⟨y26, y27, y28, y29, y30, y31, u, rfl⟩
                    · obtain rfl := Option.some.inj hoi; exact ⟨y26, y27, y28, y29, y30, y31, y32, rfl⟩
                    · cases hoi
                  case hBA =>
                    rintro b ch w10 ⟨y26, y27, y28, y29, y30, y31, y32, rfl⟩ ⟨rfl, e6, g10, k1, k2⟩
                    have F10 : Hid (GB p w w10 ∧ Kn w10 w.heap.size [.int .i64 ar, .int .i64 ac, .int .i64 da, v] 26 ∧ Kn w10 (w.heap.size + 1) [.bool false] 4) := ⟨g10, k1, k2⟩
                    have HN : Hid (rPolicy G = none) := by
                      have hf := HI.out.2.1
                      unfold Hid
                      rw [HI.out.1, show f = (f - 1) + 1 by omega, rRulesF, if_neg hj, e6]
                      rfl
                    clear g10 k1 k2 e6 HI X7
                    go_wp2
                    refine leaves_cons (f := 61) (args := #[.pointer (some ⟨w.heap.size, 0, none⟩), .pointer (some ⟨w.heap.size + 1, 0, none⟩)]) (by simp) (by simp [go_sem]) ?_
                    refine (catch_wrong w.heap.size (w.heap.size + 1) [.int .i64 ar, .int .i64 ac, .int .i64 da, v] false [] w10 rfl F10.out.2.1 F10.out.2.2 (by omega)).mono ?_
                    rintro e u w9 ⟨rfl, rfl, k1, k2, hgb⟩
                    have G9 : Hid (GB p w w9) := hgb p w F10.out.1 (Nat.le_refl _) (by omega)
                    obtain ⟨c0, c1, c2, c3, d0⟩ := (⟨k1.cell 0 _ rfl, k1.cell 1 _ rfl, k1.cell 2 _ rfl, k1.cell 3 _ rfl, k2.cell 0 _ rfl⟩ : _ ∧ _ ∧ _ ∧ _ ∧ _)
                    have POST : Hid (GotP (rPolicy G) w.heap.size (.returned (.tuple #[.agg #[.int .i64 0, .int .i64 0, .int .i64 0, .slice none 0 0], .bool false])) w9 ∧ GB p w w9) := ⟨gotP_none HN.out rfl, G9.out⟩
                    clear k1 k2 hgb F10
                    simp [Leaves, settle, results, Tryz.results27, go_sem, *]
                    exact POST.out
                  case hAA => kernel_rfl
                  case hlA => exact ⟨trivial, trivial, trivial, fun i hi vv W W' ⟨r, k, a1, n1, c1, a2, n2, c2, e1, e2, e3⟩ hT => ⟨r, k, a1, n1, c1, a2, n2, c2, e1, e2, by by_cases h5 : i = 5; exact e3.kept (hT.1 h5) (fun x hx e => by have := (e3.blocks x hx).1; have := (X7.out.2.2.2.2.2.2.2.2.1 x e).2; omega); exact e3.kept (hT.2 h5) (fun x hx e => by have := (e3.blocks x hx).1; have := X7.out.2.2.2.2.2.2.2.2.2; injection e with e; omega)⟩, fun i hi vv W W' ⟨h, r, k, a1, n1, c1, a2, n2, c2, e1, e2, e4, e5, e3⟩ hT => ⟨h, r, k, a1, n1, c1, a2, n2, c2, e1, e2, e4, by by_cases h5 : i = 5; exact e5.row (hT.1 h5) (fun e => by have := (X7.out.2.2.2.2.2.2.2.2.1 _ e).2; omega); exact e5.row (hT.2 h5) (fun e => by have := X7.out.2.2.2.2.2.2.2.2.2; injection e with e; omega), by by_cases h5 : i = 5; exact e3.kept (hT.1 h5) (fun x hx e => by have := (e3.blocks x hx).1; have := (X7.out.2.2.2.2.2.2.2.2.1 x e).2; omega); exact e3.kept (hT.2 h5) (fun x hx e => by have := (e3.blocks x hx).1; have := X7.out.2.2.2.2.2.2.2.2.2; injection e with e; omega)⟩, fun i hi vv W W' ⟨g, cap', Y, r, k, l, e1, e2, e3, e4, e5⟩ hT => ⟨g, cap', Y, r, k, l, e1, e2, own_gb e3 (by have := X7.out.2.2.2.2.2.2.1; omega) (hT.2 hi), e4.kept (hT.2 hi) (fun x hx _ => by injection hx with hx; have := X7.out.2.2.2.2.2.2.1; omega), Nat.le_trans e5 (hT.2 hi).size⟩, trivial, trivial⟩

end Go.Proofs.YtojaohdmfahpmaaGreatDoor

/- How many signs a text has: no more than it has bytes. -/
namespace Go.Proofs.YtojaohdmfahpmaaGreatDoor
open Go.RowKit
set_option linter.unusedVariables false

theorem SGf_length : ∀ f l o, SGf f l = some o → o.length ≤ f
  | 0, _, o, h => by simp only [SGf, Option.some.injEq] at h; subst h; simp
  | f + 1, [], o, h => by simp only [SGf, Option.some.injEq] at h; subst h; simp
  | f + 1, b :: r, o, h => by
    simp only [SGf] at h
    split at h
    · have := SGf_length f _ o h; omega
    · split at h
      · cases h
      · cases hx : SGf f ((b :: r).drop (wideL b r)) with
        | none => rw [hx] at h; cases h
        | some x =>
          rw [hx] at h
          simp only [Option.map_some, Option.some.injEq] at h
          subst h
          have := SGf_length f _ x hx
          simp
          omega

theorem signsR_length (l : List UInt8) : ((signsR l).getD []).length ≤ 1200 := by
  unfold signsR
  split
  · simp
  · rename_i hl
    cases h : SG l with
    | none => simp
    | some o =>
      have := SGf_length _ _ o h
      simp only [Option.getD_some]
      omega

end Go.Proofs.YtojaohdmfahpmaaGreatDoor

/- Rows of rules, all apart, as rules in memory; how long what is read may be. -/
namespace Go.Proofs.YtojaohdmfahpmaaGreatDoor
open Go.RowKit
set_option linter.unusedVariables false

theorem flat4_at : ∀ (ps : List (RN × List Value)) (j i : Nat) (q : RN × List Value) (v : Value), (∀ q ∈ ps, q.2.length = 4) → ps[j]? = some q → q.2[i]? = some v → (ps.flatMap (·.2))[j * 4 + i]? = some v
  | [], j, i, q, v, _, h, _ => by simp at h
  | x :: ps, 0, i, q, v, hl, h, hv => by
    simp at h; subst h
    have hi := (List.getElem?_eq_some_iff.1 hv).1
    rw [List.flatMap_cons, List.getElem?_append_left (by simpa using hi)]
    simpa using hv
  | x :: ps, j + 1, i, q, v, hl, h, hv => by
    have h4 : x.2.length = 4 := hl x (by simp)
    have := flat4_at ps j i q v (fun q hq => hl q (by simp [hq])) (by simpa using h) hv
    rw [List.flatMap_cons, List.getElem?_append_right (by omega)]
    rw [show (j + 1) * 4 + i - x.2.length = j * 4 + i by omega]
    exact this

theorem RuleX.rule {B : Nat} {w : World} {r : RN} {l : List Value} (h : RuleX B w r l) : RuleL w r l ∧ l.length = 4 := by
  obtain ⟨v1, v2, B2, rfl, h1, h2, h3, h4⟩ := h
  obtain ⟨a1, c1, rfl, k1, _⟩ := own_nums h1 rfl
  obtain ⟨a2, c2, rfl, k2, _⟩ := own_conds h2 rfl
  exact ⟨⟨a1, _, c1, a2, _, c2, rfl, rfl, rfl, k1, k2⟩, rfl⟩

theorem RowsX.rule {B Z : Nat} {w : World} {o : Option Nat} {ps : List (RN × List Value)} (h : RowsX B Z w o ps) {j : Nat} {q : RN × List Value} (hq : ps[j]? = some q) : RuleL w q.1 q.2 ∧ q.2.length = 4 := by
  obtain ⟨m, h1, h2, h3, h4⟩ := h
  exact (h4 j q hq).1.rule

theorem RowsX.four {B Z : Nat} {w : World} {o : Option Nat} {ps : List (RN × List Value)} (h : RowsX B Z w o ps) : ∀ q ∈ ps, q.2.length = 4 := fun q hq => by
  obtain ⟨j, hj⟩ := List.getElem?_of_mem hq
  exact (h.rule hj).2

theorem map_at {ps : List (RN × List Value)} {j : Nat} {q : RN × List Value} (h : ps[j]? = some q) : (ps.map (·.1)).getD j r0 = q.1 := by
  rw [List.getD_eq_getElem?_getD, List.getElem?_map, h]; rfl

theorem RulesX.rules {B : Nat} {w : World} {v : Value} {ps : List (RN × List Value)} (h : RulesX B w v ps) : ∃ a cap, v = .slice a ps.length cap ∧ Rules w a (ps.map (·.1)) := by
  obtain ⟨ho, hr⟩ := h
  rcases ho.2 with ⟨rfl, h0⟩ | ⟨g, cap, cur, rfl, hg, hh, hnc, hcp, hcs, htake⟩
  · exact ⟨none, 0, by rw [h0], fun hp => by simp at hp; omega⟩
  · have hlt := (Array.getElem?_eq_some_iff.1 hh).1
    refine ⟨some ⟨g, 0, none⟩, cap, rfl, fun hp => ⟨g, 0, rfl, hlt, fun j hj => ?_⟩⟩
    have hj2 : j < ps.length := by simpa using hj
    have hq : ps[j]? = some ps[j] := List.getElem?_eq_getElem hj2
    refine ⟨(ps[j]).2, fun i u hu => ?_, by rw [map_at hq]; exact (hr.rule hq).1⟩
    have h4 := (hr.rule hq).2
    have hi : i < 4 := by have := (List.getElem?_eq_some_iff.1 hu).1; omega
    have e1 := flat4_at ps j i _ u hr.four hq hu
    rw [← htake, List.getElem?_take, if_pos (by omega)] at e1
    rw [Nat.zero_add, cell_of_row w g _ cur 53 _ hh]
    simpa using e1

theorem RulesX.down {B C : Nat} {w : World} {v : Value} {ps : List (RN × List Value)} (h : RulesX B w v ps) (hC : C ≤ B) : RulesX C w v ps := by
  obtain ⟨d, rfl⟩ : ∃ d, B = C + d := ⟨B - C, by omega⟩
  exact h.low

theorem RulesX.rep {B : Nat} {w : World} {v : Value} {ps : List (RN × List Value)} (h : RulesX B w v ps) (ar ac da : Int) : RepPol ⟨ar, ac, da, ps.map (·.1)⟩ (.agg #[.int .i64 ar, .int .i64 ac, .int .i64 da, v]) w := by
  obtain ⟨a, cap, rfl, hr⟩ := h.rules
  exact ⟨a, cap, by simp, hr⟩

/- How long. -/

theorem rRulesF_small {G : List Sg} (hG : Good G) : ∀ (f i : Nat) {l : List RN}, i ≤ G.length → rRulesF f G i = some l → l.length + i ≤ G.length ∧ ∀ r ∈ l, r.nums.length ≤ G.length ∧ r.conds.length ≤ G.length
  | 0, i, l, hi, e => by simp [rRulesF] at e; subst e; simp; omega
  | f + 1, i, l, hi, e => by
    rw [rRulesF] at e
    split at e
    · simp at e; subst e; simp; omega
    · cases er : rRule G i with
      | none => rw [er] at e; simp at e
      | some x =>
        obtain ⟨r, j⟩ := x
        rw [er] at e
        have hr := rRule_lt hG er
        simp only at e
        cases ec : rRulesF f G j with
        | none => rw [ec] at e; simp at e
        | some y =>
          rw [ec] at e
          obtain ⟨h1, h2⟩ := rRulesF_small hG f j (by omega) ec
          simp at e
          subst e
          refine ⟨by simp; omega, fun q hq => ?_⟩
          rcases List.mem_cons.1 hq with rfl | hq
          · omega
          · exact h2 q hq

theorem smallR_of {rs : List RN} (hl : rs.length ≤ 1048576) (h : ∀ r ∈ rs, Small r) : SmallR rs := ⟨hl, fun k hk => by
  rw [List.getD_eq_getElem?_getD, List.getElem?_eq_getElem hk]
  exact h _ (List.getElem_mem hk)⟩

theorem rPolicy_small {G : List Sg} (hG : Good G) (hl : G.length ≤ 1200) {p : PN} (h : rPolicy G = some p) : SmallR p.rules ∧ p.rules.length ≤ 1200 := by
  unfold rPolicy at h
  cases eh : rHead G with
  | none => rw [eh] at h; simp at h
  | some x =>
    obtain ⟨x, i⟩ := x
    rw [eh] at h
    have h0 := rHead_lt eh
    simp only at h
    cases er : rRulesF G.length G i with
    | none => rw [er] at h; simp at h
    | some l =>
      rw [er] at h
      obtain ⟨h1, h2⟩ := rRulesF_small hG _ i h0.1 er
      simp at h
      subst h
      exact ⟨smallR_of (by simp only; omega) fun r hr => by have := h2 r hr; exact ⟨by omega, by omega⟩, by simp only; omega⟩

theorem sNumsF_len {G : List Sg} : ∀ (f : Nat) (acc : List Int) (t : Option Nat), acc.length ≤ G.length + 1 → (∀ i, t = some i → acc.length ≤ i ∧ i ≤ G.length) → (sNumsF f G acc t).1.length ≤ G.length + 1
  | 0, acc, t, h, _ => h
  | f + 1, acc, none, h, _ => h
  | f + 1, acc, some i, h, ht => by
    obtain ⟨h1, h2⟩ := ht i rfl
    have hp := putZ_len acc (sCall G (some i)).1
    rw [sNumsF]
    cases hz : sIs G (sGot G acc (some i)) 3 tComma
    · simp only [Bool.false_eq_true, if_false]; omega
    · simp only [if_true]
      obtain ⟨j, hj, hjl⟩ := sIs_lt hz
      have hij : i < j := by
        unfold sGot at hj
        split at hj
        · cases hj
        · exact sCall_next hj
      refine sNumsF_len f _ _ (by omega) (fun k hk => ?_)
      rw [hj] at hk
      simp [nx] at hk
      omega

theorem sAndF_len {G : List Sg} : ∀ (f : Nat) (acc : List CN) (t : Option Nat), acc.length ≤ G.length + 1 → (∀ i, t = some i → acc.length ≤ i ∧ i ≤ G.length) → (sAndF f G acc t).1.length ≤ G.length + 1
  | 0, acc, t, h, _ => h
  | f + 1, acc, none, h, _ => h
  | f + 1, acc, some i, h, ht => by
    obtain ⟨h1, h2⟩ := ht i rfl
    rw [sAndF]
    cases hz : sIs G (sCond G (some i)).2 1 tAnd
    · simp only [Bool.false_eq_true, if_false]; simp; omega
    · simp only [if_true]
      obtain ⟨j, hj, hjl⟩ := sIs_lt hz
      have hij := sCond_mono G i j hj
      refine sAndF_len f _ _ (by simp; omega) (fun k hk => ?_)
      rw [hj] at hk
      simp [nx] at hk
      simp; omega

theorem sWt_le {G : List Sg} {s : Option Nat} {k : Int} {t : List UInt8} {i : Nat} (h : sWt G s k t = some i) : i ≤ G.length := by
  unfold sWt at h
  cases hz : sIs G s k t
  · rw [hz] at h; simp at h
  · rw [hz] at h
    obtain ⟨j, rfl, hj⟩ := sIs_lt hz
    simp [nx] at h; omega

theorem sRule_small {G : List Sg} (hl : G.length ≤ 1200) (s : Option Nat) : Small (sRule G s).1 := by
  unfold sRule
  simp only
  constructor
  · simp only
    unfold sNums
    cases hz : sIs G (sWt G s 1 tOn) 1 tAny
    · simp only [Bool.false_eq_true, if_false]
      have := sNumsF_len (G := G) (G.length + 1) [] (sWt G s 1 tOn) (by simp) (fun i hi => ⟨by simp, sWt_le hi⟩)
      omega
    · simp
  · simp only
    generalize (sNums G (sWt G s 1 tOn)).2 = t
    unfold sConds
    cases hz : sIs G t 1 tIf
    · simp
    · simp only [if_true]
      obtain ⟨j, rfl, hj⟩ := sIs_lt hz
      have := sAndF_len (G := G) (G.length + 1) [] (nx (some j)) (by simp) (fun i hi => ⟨by simp, by simp [nx] at hi; omega⟩)
      omega

end Go.Proofs.YtojaohdmfahpmaaGreatDoor

namespace Go.Proofs.YtojaohdmfahpmaaGreatDoor
open Go.RowKit
set_option linter.unusedVariables false

/-- What a text tells: a policy that is right, or nothing. -/
def readT (s : ByteArray) : Option PN := match signsR s.data.toList with
  | none => none
  | some G => readG G

theorem own3_lt {w : World} {B : Nat} {v : Value} {ps : List Sg} (h : Own3 w B v ps) {a : Option Addr} {c n : Nat} (hv : v = .slice a n c) : ∀ b o s, a = some ⟨b, o, s⟩ → B ≤ b ∧ b < w.heap.size := fun b o s e => by
  have h' : w.ownsRow B 98 3 v ps.length (flatG ps) := h
  exact own_lt9 (x := b) h' (by rw [hv, e]; rfl)

set_option maxRecDepth 100000 in
set_option maxHeartbeats 1600000 in
theorem iRead_any (s : ByteArray) (w : World) (hC : Cms w) (hs : s.size ≤ 1048576) :
    Calls Tryz.prog 8 #[.string s] w fun e w' => GotP (readT s) w.heap.size e w' ∧ Ext w w' := by
  have K0 : Hid (Kn (w.alloc (.cells #[.int .i64 0, .int .i64 0, .int .i64 0, .slice none 0 0] 26)) w.heap.size [.int .i64 0, .int .i64 0, .int .i64 0, .slice none 0 0] 26 ∧ Ext w (w.alloc (.cells #[.int .i64 0, .int .i64 0, .int .i64 0, .slice none 0 0] 26))) := ⟨Kn.new w _ _, Ext.one _ _⟩
  have HC0 : Hid (Cms w) := hC
  have HS : Hid (Calls Tryz.prog 26 #[.string s] (w.alloc (.cells #[.int .i64 0, .int .i64 0, .int .i64 0, .slice none 0 0] 26)) fun e w' => ∃ v, e = .returned (.tuple #[v, .bool (signsR s.data.toList).isSome]) ∧ Own3 w' (w.alloc (.cells #[.int .i64 0, .int .i64 0, .int .i64 0, .slice none 0 0] 26)).heap.size v ((signsR s.data.toList).getD []) ∧ Ext (w.alloc (.cells #[.int .i64 0, .int .i64 0, .int .i64 0, .slice none 0 0] 26)) w') := iSigns_any s _
  have HG : Hid (readT s = match signsR s.data.toList with
    | none => none
    | some G => readG G) := rfl
  have HL : Hid (((signsR s.data.toList).getD []).length ≤ 1200) := signsR_length _
  clear hC
  cases e0 : signsR s.data.toList with
  | none =>
    rw [e0] at HS HG
    have HN : Hid (readT s = none) := HG.out
    clear HG HL e0
    simp only [Option.isSome_none, Option.getD_none] at HS
    go_enter Tryz.func8, Tryz.ntmps8
    go_wp2_with fail
    generalize w.alloc (.cells #[.int .i64 0, .int .i64 0, .int .i64 0, .slice none 0 0] 26) = W0 at *
    refine (show Calls Tryz.prog 26 _ _ _ from HS.out).mono ?_
    rintro e w1 ⟨v, rfl, o1, x1⟩
    obtain ⟨a1, e1, rfl⟩ := own_slice (show w1.ownsRow _ 98 3 v _ _ from o1)
    have kr := K0.out.1.ext x1
    have XE : Hid (Ext w w1) := K0.out.2.trans x1
    have f1 := kr.free
    obtain ⟨c0, c1, c2, c3⟩ := (⟨kr.cell 0 _ rfl, kr.cell 1 _ rfl, kr.cell 2 _ rfl, kr.cell 3 _ rfl⟩ : _ ∧ _ ∧ _ ∧ _)
    have XF : Hid (Ext w ((((w1.setCell ⟨w.heap.size, 0, none⟩ (.int .i64 0)).setCell ⟨w.heap.size, 1, none⟩ (.int .i64 0)).setCell ⟨w.heap.size, 2, none⟩ (.int .i64 0)).setCell ⟨w.heap.size, 3, none⟩ (.slice none 0 0)) ∧ Kn ((((w1.setCell ⟨w.heap.size, 0, none⟩ (.int .i64 0)).setCell ⟨w.heap.size, 1, none⟩ (.int .i64 0)).setCell ⟨w.heap.size, 2, none⟩ (.int .i64 0)).setCell ⟨w.heap.size, 3, none⟩ (.slice none 0 0)) w.heap.size [.int .i64 0, .int .i64 0, .int .i64 0, .slice none 0 0] 26) := ⟨(((XE.out.set (Nat.le_refl _) _ _).set (Nat.le_refl _) _ _).set (Nat.le_refl _) _ _).set (Nat.le_refl _) _ _, (((kr.set 0 _).set 1 _).set 2 _).set 3 _⟩
    clear kr HS o1 x1 K0
    go_wp2
    generalize ((((w1.setCell ⟨w.heap.size, 0, none⟩ (.int .i64 0)).setCell ⟨w.heap.size, 1, none⟩ (.int .i64 0)).setCell ⟨w.heap.size, 2, none⟩ (.int .i64 0)).setCell ⟨w.heap.size, 3, none⟩ (.slice none 0 0)) = WF at *
    clear f1 c0 c1 c2 c3
    obtain ⟨c0, c1, c2, c3⟩ := (⟨XF.out.2.cell 0 _ rfl, XF.out.2.cell 1 _ rfl, XF.out.2.cell 2 _ rfl, XF.out.2.cell 3 _ rfl⟩ : _ ∧ _ ∧ _ ∧ _)
    refine bodyPost_ret (v := .tuple #[.agg #[.int .i64 0, .int .i64 0, .int .i64 0, .slice none 0 0], .bool false]) (by simp [results, Tryz.results8, go_sem, *]) rfl ?_
    exact ⟨gotP_none HN.out rfl, XF.out.1⟩
  | some G =>
    have hG : Good G := signsR_good e0
    rw [e0] at HS HG HL
    have HG2 : Hid (readT s = readG G) := HG.out
    have HGL : Hid (G.length ≤ 1200 ∧ Good G) := ⟨HL.out, hG⟩
    clear HG HL e0 hG
    simp only [Option.isSome_some, Option.getD_some] at HS
    go_enter Tryz.func8, Tryz.ntmps8
    go_wp2_with fail
    generalize w.alloc (.cells #[.int .i64 0, .int .i64 0, .int .i64 0, .slice none 0 0] 26) = W0 at *
    refine (show Calls Tryz.prog 26 _ _ _ from HS.out).mono ?_
    rintro e w1 ⟨v, rfl, o1, x1⟩
    obtain ⟨a1, e1, hv, hsg, hgg⟩ := Own3.signs o1
    have hb1 := own3_lt o1 hv
    obtain ⟨gl, hgl⟩ : ∃ gl, gl = G.length := ⟨_, rfl⟩
    rw [← hgl] at hv
    subst hv
    have hR : w.heap.size < w1.heap.size := (K0.out.1.ext x1).lt
    have X2 : Hid (RdI (w1.alloc (.cells #[.slice a1 gl e1, .int .i64 0] 59)) w1.heap.size a1 e1 G 0 ∧ Ext w (w1.alloc (.cells #[.slice a1 gl e1, .int .i64 0] 59)) ∧ Kn (w1.alloc (.cells #[.slice a1 gl e1, .int .i64 0] 59)) w.heap.size [.int .i64 0, .int .i64 0, .int .i64 0, .slice none 0 0] 26) :=
      ⟨⟨by rw [hgl]; exact Kn.new w1 _ _, by omega, HGL.out.1, hsg.ext (Ext.one _ _), fun b o s e => by have := (hb1 b o s e).2; omega⟩, (K0.out.2.trans x1).trans (Ext.one _ _), (K0.out.1.ext x1).alloc _⟩
    have HP : Hid (w.heap.size < w1.heap.size ∧ w1.heap.size ≠ 0) := ⟨hR, by omega⟩
    clear o1 x1 hsg hgg hb1 hR K0 HS hgl
    go_wp2_with fail
    generalize w1.alloc (.cells #[.slice a1 gl e1, .int .i64 0] 59) = W2 at *
    generalize w1.heap.size = p at *
    have HR : Hid (Calls Tryz.prog 27 #[.pointer (some ⟨p, 0, none⟩)] W2 fun e w' => GotP (rPolicy G) W2.heap.size e w' ∧ GB p W2 w') := rpolicy_any X2.out.1 HGL.out.2 HP.out.2 (HC0.out.ext X2.out.2.1)
    have HGR : Hid (readG G = match rPolicy G with
      | none => none
      | some p => if policyB p then some p else none) := rfl
    cases e2 : rPolicy G with
    | none =>
      rw [e2] at HGR HR
      have HN : Hid (readT s = none) := by unfold Hid; rw [HG2.out, HGR.out]
      clear HG2 HGR e2
      refine (show Calls Tryz.prog 27 _ _ _ from HR.out).mono ?_
      rintro e w3 ⟨he, g3⟩
      have he2 : e = .returned (.tuple #[.agg #[.int .i64 0, .int .i64 0, .int .i64 0, .slice none 0 0], .bool false]) := he
      subst he2
      have kr := (X2.out.2.2.gb (by have := HP.out.1; omega) g3).alloc (.cells #[.int .i64 0, .int .i64 0, .int .i64 0, .slice none 0 0] 26)
      have XE : Hid (Ext w (w3.alloc (.cells #[.int .i64 0, .int .i64 0, .int .i64 0, .slice none 0 0] 26))) := (ext_row X2.out.2.1 g3 (fun x hx => by injection hx with hx; have := HP.out.1; omega)).trans (Ext.one _ _)
      clear he g3
      have f1 := kr.free
      obtain ⟨c0, c1, c2, c3⟩ := (⟨kr.cell 0 _ rfl, kr.cell 1 _ rfl, kr.cell 2 _ rfl, kr.cell 3 _ rfl⟩ : _ ∧ _ ∧ _ ∧ _)
      have XF : Hid (Ext w (((((w3.alloc (.cells #[.int .i64 0, .int .i64 0, .int .i64 0, .slice none 0 0] 26)).setCell ⟨w.heap.size, 0, none⟩ (.int .i64 0)).setCell ⟨w.heap.size, 1, none⟩ (.int .i64 0)).setCell ⟨w.heap.size, 2, none⟩ (.int .i64 0)).setCell ⟨w.heap.size, 3, none⟩ (.slice none 0 0)) ∧ Kn (((((w3.alloc (.cells #[.int .i64 0, .int .i64 0, .int .i64 0, .slice none 0 0] 26)).setCell ⟨w.heap.size, 0, none⟩ (.int .i64 0)).setCell ⟨w.heap.size, 1, none⟩ (.int .i64 0)).setCell ⟨w.heap.size, 2, none⟩ (.int .i64 0)).setCell ⟨w.heap.size, 3, none⟩ (.slice none 0 0)) w.heap.size [.int .i64 0, .int .i64 0, .int .i64 0, .slice none 0 0] 26) := ⟨(((XE.out.set (Nat.le_refl _) _ _).set (Nat.le_refl _) _ _).set (Nat.le_refl _) _ _).set (Nat.le_refl _) _ _, (((kr.set 0 _).set 1 _).set 2 _).set 3 _⟩
      clear kr HR X2
      go_wp2
      generalize (((((w3.alloc (.cells #[.int .i64 0, .int .i64 0, .int .i64 0, .slice none 0 0] 26)).setCell ⟨w.heap.size, 0, none⟩ (.int .i64 0)).setCell ⟨w.heap.size, 1, none⟩ (.int .i64 0)).setCell ⟨w.heap.size, 2, none⟩ (.int .i64 0)).setCell ⟨w.heap.size, 3, none⟩ (.slice none 0 0)) = WF at *
      clear f1 c0 c1 c2 c3
      obtain ⟨c0, c1, c2, c3⟩ := (⟨XF.out.2.cell 0 _ rfl, XF.out.2.cell 1 _ rfl, XF.out.2.cell 2 _ rfl, XF.out.2.cell 3 _ rfl⟩ : _ ∧ _ ∧ _ ∧ _)
      refine bodyPost_ret (v := .tuple #[.agg #[.int .i64 0, .int .i64 0, .int .i64 0, .slice none 0 0], .bool false]) (by simp [results, Tryz.results8, go_sem, *]) rfl ?_
      exact ⟨gotP_none HN.out rfl, XF.out.1⟩
    | some pol =>
      obtain ⟨hsm, hsl⟩ := rPolicy_small HGL.out.2 HGL.out.1 e2
      have HSM : Hid (SmallR pol.rules) := hsm
      rw [e2] at HGR HR
      have HN : Hid (readT s = if policyB pol then some pol else none) := by unfold Hid; rw [HG2.out, HGR.out]
      clear HG2 HGR e2 hsm hsl
      refine (show Calls Tryz.prog 27 _ _ _ from HR.out).mono ?_
      rintro e w3 ⟨he, g3⟩
      obtain ⟨v, ps, rfl, hps, hx⟩ : ∃ (v : Value) (ps : List (RN × List Value)), e = .returned (.tuple #[.agg #[.int .i64 pol.arch, .int .i64 pol.act, .int .i64 pol.data, v], .bool true]) ∧ pol.rules = ps.map (·.1) ∧ RulesX W2.heap.size w3 v ps := he
      obtain ⟨sa, sc, hv⟩ := own_slice hx.1
      obtain ⟨sn, hsn⟩ : ∃ sn, sn = ps.length := ⟨_, rfl⟩
      rw [← hsn] at hv
      subst hv
      obtain ⟨ar, ac, da, rs⟩ := pol
      simp only at hps
      subst hps
      clear hsn
      have X4 : Hid (Ext w (w3.alloc (.cells #[.int .i64 ar, .int .i64 ac, .int .i64 da, .slice sa sn sc] 26)) ∧ Kn (w3.alloc (.cells #[.int .i64 ar, .int .i64 ac, .int .i64 da, .slice sa sn sc] 26)) w.heap.size [.int .i64 0, .int .i64 0, .int .i64 0, .slice none 0 0] 26 ∧ RulesX (w.heap.size + 1) (w3.alloc (.cells #[.int .i64 ar, .int .i64 ac, .int .i64 da, .slice sa sn sc] 26)) (.slice sa sn sc) ps ∧ Kn (w3.alloc (.cells #[.int .i64 ar, .int .i64 ac, .int .i64 da, .slice sa sn sc] 26)) w3.heap.size [.int .i64 ar, .int .i64 ac, .int .i64 da, .slice sa sn sc] 26 ∧ w.heap.size ≠ w3.heap.size) :=
        ⟨(ext_row X2.out.2.1 g3 (fun x hx => by injection hx with hx; have := HP.out.1; omega)).trans (Ext.one _ _), (X2.out.2.2.gb (by have := HP.out.1; omega) g3).alloc _, (hx.down (by have := X2.out.2.2.lt; omega)).ext (Ext.one _ _), Kn.new w3 _ _, by have := X2.out.2.2.lt; have := g3.size; omega⟩
      clear g3 hx HR X2
      go_wp2_with fail
      generalize w3.alloc (.cells #[.int .i64 ar, .int .i64 ac, .int .i64 da, .slice sa sn sc] 26) = W4 at *
      generalize w3.heap.size = q at *
      have HOK : Hid (Calls Tryz.prog 22 #[.agg #[.int .i64 ar, .int .i64 ac, .int .i64 da, .slice sa sn sc]] W4 fun e w' => e = .returned (.bool (policyB ⟨ar, ac, da, ps.map (·.1)⟩)) ∧ Ext W4 w') := iPolicyOk_rep HSM.out (X4.out.2.2.1.rep ar ac da)
      have kq := X4.out.2.2.2.1
      obtain ⟨d0, d1, d2, d3⟩ := (⟨kq.cell 0 _ rfl, kq.cell 1 _ rfl, kq.cell 2 _ rfl, kq.cell 3 _ rfl⟩ : _ ∧ _ ∧ _ ∧ _)
      clear kq
      cases ez : policyB ⟨ar, ac, da, ps.map (·.1)⟩
      · rw [ez] at HOK HN
        have HN2 : Hid (readT s = none) := HN.out
        clear HN ez
        go_wp2_with fail
        refine (show Calls Tryz.prog 22 _ _ _ from HOK.out).mono ?_
        rintro e w5 ⟨rfl, x5⟩
        have kr := X4.out.2.1.ext x5
        have XE : Hid (Ext w w5) := X4.out.1.trans x5
        clear d0 d1 d2 d3
        have f1 := kr.free
        obtain ⟨c0, c1, c2, c3⟩ := (⟨kr.cell 0 _ rfl, kr.cell 1 _ rfl, kr.cell 2 _ rfl, kr.cell 3 _ rfl⟩ : _ ∧ _ ∧ _ ∧ _)
        have XF : Hid (Ext w ((((w5.setCell ⟨w.heap.size, 0, none⟩ (.int .i64 0)).setCell ⟨w.heap.size, 1, none⟩ (.int .i64 0)).setCell ⟨w.heap.size, 2, none⟩ (.int .i64 0)).setCell ⟨w.heap.size, 3, none⟩ (.slice none 0 0)) ∧ Kn ((((w5.setCell ⟨w.heap.size, 0, none⟩ (.int .i64 0)).setCell ⟨w.heap.size, 1, none⟩ (.int .i64 0)).setCell ⟨w.heap.size, 2, none⟩ (.int .i64 0)).setCell ⟨w.heap.size, 3, none⟩ (.slice none 0 0)) w.heap.size [.int .i64 0, .int .i64 0, .int .i64 0, .slice none 0 0] 26) := ⟨(((XE.out.set (Nat.le_refl _) _ _).set (Nat.le_refl _) _ _).set (Nat.le_refl _) _ _).set (Nat.le_refl _) _ _, (((kr.set 0 _).set 1 _).set 2 _).set 3 _⟩
        clear kr HOK x5 X4 HSM
        go_wp2
        generalize ((((w5.setCell ⟨w.heap.size, 0, none⟩ (.int .i64 0)).setCell ⟨w.heap.size, 1, none⟩ (.int .i64 0)).setCell ⟨w.heap.size, 2, none⟩ (.int .i64 0)).setCell ⟨w.heap.size, 3, none⟩ (.slice none 0 0)) = WF at *
        clear f1 c0 c1 c2 c3
        obtain ⟨c0, c1, c2, c3⟩ := (⟨XF.out.2.cell 0 _ rfl, XF.out.2.cell 1 _ rfl, XF.out.2.cell 2 _ rfl, XF.out.2.cell 3 _ rfl⟩ : _ ∧ _ ∧ _ ∧ _)
        refine bodyPost_ret (v := .tuple #[.agg #[.int .i64 0, .int .i64 0, .int .i64 0, .slice none 0 0], .bool false]) (by simp [results, Tryz.results8, go_sem, *]) rfl ?_
        exact ⟨gotP_none HN2.out rfl, XF.out.1⟩
      · rw [ez] at HOK HN
        have HN2 : Hid (readT s = some ⟨ar, ac, da, ps.map (·.1)⟩) := HN.out
        clear HN ez
        go_wp2_with fail
        refine (show Calls Tryz.prog 22 _ _ _ from HOK.out).mono ?_
        rintro e w5 ⟨rfl, x5⟩
        have kr := X4.out.2.1.ext x5
        have kq := X4.out.2.2.2.1.ext x5
        have XE : Hid (Ext w w5) := X4.out.1.trans x5
        have hne := X4.out.2.2.2.2
        have hne2 : ¬ q = w.heap.size := fun e => hne e.symm
        clear d0 d1 d2 d3
        obtain ⟨d0, d1, d2, d3⟩ := (⟨kq.cell 0 _ rfl, kq.cell 1 _ rfl, kq.cell 2 _ rfl, kq.cell 3 _ rfl⟩ : _ ∧ _ ∧ _ ∧ _)
        have f2 := kq.free
        have XR : Hid (RulesX (w.heap.size + 1) ((((w5.setCell ⟨w.heap.size, 0, none⟩ (.int .i64 ar)).setCell ⟨w.heap.size, 1, none⟩ (.int .i64 ac)).setCell ⟨w.heap.size, 2, none⟩ (.int .i64 da)).setCell ⟨w.heap.size, 3, none⟩ (.slice sa sn sc)) (.slice sa sn sc) ps) := (((((X4.out.2.2.1.ext x5).gb (Nat.lt_succ_self _) (gb_set _ _ _ _)).gb (Nat.lt_succ_self _) (gb_set _ _ _ _)).gb (Nat.lt_succ_self _) (gb_set _ _ _ _)).gb (Nat.lt_succ_self _) (gb_set _ _ _ _))
        have f1 := kr.free
        obtain ⟨c0, c1, c2, c3⟩ := (⟨kr.cell 0 _ rfl, kr.cell 1 _ rfl, kr.cell 2 _ rfl, kr.cell 3 _ rfl⟩ : _ ∧ _ ∧ _ ∧ _)
        have XF : Hid (Ext w ((((w5.setCell ⟨w.heap.size, 0, none⟩ (.int .i64 ar)).setCell ⟨w.heap.size, 1, none⟩ (.int .i64 ac)).setCell ⟨w.heap.size, 2, none⟩ (.int .i64 da)).setCell ⟨w.heap.size, 3, none⟩ (.slice sa sn sc)) ∧ Kn ((((w5.setCell ⟨w.heap.size, 0, none⟩ (.int .i64 ar)).setCell ⟨w.heap.size, 1, none⟩ (.int .i64 ac)).setCell ⟨w.heap.size, 2, none⟩ (.int .i64 da)).setCell ⟨w.heap.size, 3, none⟩ (.slice sa sn sc)) w.heap.size [.int .i64 ar, .int .i64 ac, .int .i64 da, .slice sa sn sc] 26) := ⟨(((XE.out.set (Nat.le_refl _) _ _).set (Nat.le_refl _) _ _).set (Nat.le_refl _) _ _).set (Nat.le_refl _) _ _, (((kr.set 0 _).set 1 _).set 2 _).set 3 _⟩
        clear kr HOK x5 X4 HSM kq
        go_wp2
        generalize ((((w5.setCell ⟨w.heap.size, 0, none⟩ (.int .i64 ar)).setCell ⟨w.heap.size, 1, none⟩ (.int .i64 ac)).setCell ⟨w.heap.size, 2, none⟩ (.int .i64 da)).setCell ⟨w.heap.size, 3, none⟩ (.slice sa sn sc)) = WF at *
        clear f1 c0 c1 c2 c3
        obtain ⟨c0, c1, c2, c3⟩ := (⟨XF.out.2.cell 0 _ rfl, XF.out.2.cell 1 _ rfl, XF.out.2.cell 2 _ rfl, XF.out.2.cell 3 _ rfl⟩ : _ ∧ _ ∧ _ ∧ _)
        refine bodyPost_ret (v := .tuple #[.agg #[.int .i64 ar, .int .i64 ac, .int .i64 da, .slice sa sn sc], .bool true]) (by simp [results, Tryz.results8, go_sem, *]) rfl ?_
        exact ⟨gotP_some HN2.out rfl rfl (XR.out.down (Nat.le_succ _)), XF.out.1⟩

end Go.Proofs.YtojaohdmfahpmaaGreatDoor
