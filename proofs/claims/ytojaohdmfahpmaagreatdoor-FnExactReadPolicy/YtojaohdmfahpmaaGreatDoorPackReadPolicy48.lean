/- As Loose, for a region one of whose operations may turn what was there: a condition on the world, C, lasts over each operation; of values a fact may be known that does not speak of the world. -/
import Derived.Test.YtojaohdmfahpmaaGreatDoorPackReadPolicy47
import Derived.Test.YtojaohdmfahpmaaGreatDoorPackReadPolicy46
import Derived.Recover
import Derived.Tactics2
import Derived.Test.YtojaohdmfahpmaaGreatDoorLoose
/- Impl's reader of signs: a rule. -/
namespace Go.Proofs.YtojaohdmfahpmaaGreatDoor
open Go.RowKit
set_option linter.unusedVariables false

theorem own_mono {w : World} {B C e size n : Nat} {v : Value} {xs : List Value} (h : w.ownsRow B e size v n xs) (hC : C ≤ B) : w.ownsRow C e size v n xs := by
  refine ⟨h.1, ?_⟩
  rcases h.2 with h0 | ⟨g, cap, cur, h1, h2, h3⟩
  · exact .inl h0
  · exact .inr ⟨g, cap, cur, h1, by omega, h3⟩

theorem own_set {w : World} {B e size n q k : Nat} {v u : Value} {xs : List Value} (h : w.ownsRow B e size v n xs) (hq : ∀ x, v.ownBlock = some x → x ≠ q) : (w.setCell ⟨q, k, none⟩ u).ownsRow B e size v n xs :=
  h.kept (gb_set q k w u) (by
    cases hv : v.ownBlock with
    | none => exact .inl rfl
    | some x => exact .inr (fun e => hq x hv (Option.some.inj e)))

theorem own_ext {w w' : World} {B e size n : Nat} {v : Value} {xs : List Value} (h : w.ownsRow B e size v n xs) (hE : Ext w w') : w'.ownsRow B e size v n xs :=
  h.kept (row := none) ⟨hE.os, hE.tape, hE.output, hE.size, fun i hi _ => hE.block i hi⟩ (by
    cases hv : v.ownBlock with
    | none => exact .inl rfl
    | some x => exact .inr (fun e => by cases e))

/-- A rule's four cells, its rows being the call's own from block B on, the one apart from the other. -/
def RuleX (B : Nat) (w : World) (r : RN) (l : List Value) : Prop :=
  ∃ v1 v2 B2, l = [v1, v2, .int .i64 r.act, .int .i64 r.data] ∧ OwnZ w B v1 r.nums ∧ OwnC w B2 v2 r.conds ∧ B ≤ B2 ∧ ∀ x, v1.ownBlock = some x → x < B2

def GotU {α : Type} (R : World → α → List Value → Prop) (o : Option (α × Nat)) (p : Nat) (a : Option Addr) (cap : Nat) (G : List Sg) (e : Ending) (w' : World) : Prop :=
  match o with
  | some (x, j) => ∃ l, e = .returned (.agg l.toArray) ∧ R w' x l ∧ RdI w' p a cap G j
  | none => e = Bad

theorem gotU_some {α : Type} {R : World → α → List Value → Prop} {o : Option (α × Nat)} {x : α} {l : List Value} {j p : Nat} {a : Option Addr} {cap : Nat} {G : List Sg} {e : Ending} {w' : World} (h : o = some (x, j)) (he : e = .returned (.agg l.toArray)) (ho : R w' x l) (hr : RdI w' p a cap G j) : GotU R o p a cap G e w' := by
  subst h; exact ⟨l, he, ho, hr⟩
theorem gotU_none {α : Type} {R : World → α → List Value → Prop} {o : Option (α × Nat)} {p : Nat} {a : Option Addr} {cap : Nat} {G : List Sg} {e : Ending} {w' : World} (h : o = none) (he : e = Bad) : GotU R o p a cap G e w' := by
  subst h; exact he

set_option maxRecDepth 100000 in
set_option maxHeartbeats 1600000 in
theorem rrule_any {w : World} {p : Nat} {a : Option Addr} {cap : Nat} {G : List Sg} {i : Nat} (h : RdI w p a cap G i) (hG : Good G) (hp0 : p ≠ 0) (hC : Cms w) :
    Calls Tryz.prog 66 #[.pointer (some ⟨p, 0, none⟩)] w fun e w' => GotU (RuleX w.heap.size) (rRule G i) p a cap G e w' ∧ GB p w w' := by
  have hp := h.lt
  have X0 : Hid (RdI (w.alloc (.cells #[.slice none 0 0, .slice none 0 0, .int .i64 0, .int .i64 0] 53)) p a cap G i ∧ GB p w (w.alloc (.cells #[.slice none 0 0, .slice none 0 0, .int .i64 0, .int .i64 0] 53)) ∧ Kn (w.alloc (.cells #[.slice none 0 0, .slice none 0 0, .int .i64 0, .int .i64 0] 53)) w.heap.size [.slice none 0 0, .slice none 0 0, .int .i64 0, .int .i64 0] 53) := ⟨h.step (Ext.one _ _), gb_ext (Ext.one _ _), Kn.new w _ _⟩
  have H0 : Hid (RdI w p a cap G i ∧ p < w.heap.size ∧ (∀ W, GB p w W → Cms W) ∧ Good G ∧ p ≠ 0) := ⟨h, hp, fun W hG => hC.gb hp0 hG, hG, hp0⟩
  clear h hp hC hp0 hG
  go_enter Tryz.func66, Tryz.ntmps66
  go_wp2_with fail
  generalize w.alloc (.cells #[.slice none 0 0, .slice none 0 0, .int .i64 0, .int .i64 0] 53) = W0 at *
  cases e0 : rPass G i tOn with
  | none =>
    refine (show Calls Tryz.prog 62 #[.pointer (some ⟨p, 0, none⟩), .string ⟨#[111, 110]⟩] _ _ from mp_none (by decide) e0 X0.out.1).mono ?_
    rintro e w1 ⟨rfl, g1⟩
    have F1 : Hid (GB p w w1) := gb_trans X0.out.2.1 g1
    clear g1
    go_wp2
    exact bad_panic rfl ⟨gotU_none (by unfold rRule; rw [e0]) rfl, F1.out⟩
  | some i1 =>
    have E0 : Hid (rPass G i tOn = some i1) := e0
    refine (show Calls Tryz.prog 62 #[.pointer (some ⟨p, 0, none⟩), .string ⟨#[111, 110]⟩] _ _ from mp_some (by decide) e0 X0.out.1).mono ?_
    rintro e w1 ⟨⟨rfl, r1⟩, g1⟩
    have X1 : Hid (RdI w1 p a cap G i1 ∧ GB p w w1 ∧ Kn w1 w.heap.size [.slice none 0 0, .slice none 0 0, .int .i64 0, .int .i64 0] 53) := ⟨r1, gb_trans X0.out.2.1 g1, X0.out.2.2.gb (by have := H0.out.2.1; omega) g1⟩
    clear r1 g1 X0 e0
    go_wp2_with fail
    refine (rnums_any X1.out.1 H0.out.2.2.2.1).mono ?_
    rintro e w2 ⟨hg, g2⟩
    cases e1 : rNums G i1 with
    | none =>
      rw [e1] at hg
      obtain rfl : e = Bad := hg
      have F2 : Hid (GB p w w2) := gb_trans X1.out.2.1 g2
      clear g2
      go_wp2
      exact bad_panic rfl ⟨gotU_none (by unfold rRule; rw [E0.out]; simp only; rw [e1]) rfl, F2.out⟩
    | some x =>
      obtain ⟨zs, i2⟩ := x
      have E1 : Hid (rNums G i1 = some (zs, i2)) := e1
      rw [e1] at hg
      obtain ⟨v1, rfl, o1, r2⟩ : ∃ v, e = .returned v ∧ OwnZ w2 w1.heap.size v zs ∧ RdI w2 p a cap G i2 := hg
      have hq : w.heap.size < w2.heap.size := (X1.out.2.2.gb (by have := H0.out.2.1; omega) g2).lt
      have HV1 : Hid (∀ x, v1.ownBlock = some x → w1.heap.size ≤ x ∧ x < w2.heap.size) := fun x hx => own_lt9 o1 hx
      have X2 : Hid (RdI (w2.alloc (.cells #[v1, .slice none 0 0, .int .i64 0, .int .i64 0] 53)) p a cap G i2 ∧ GB p w (w2.alloc (.cells #[v1, .slice none 0 0, .int .i64 0, .int .i64 0] 53)) ∧ Kn (w2.alloc (.cells #[v1, .slice none 0 0, .int .i64 0, .int .i64 0] 53)) w.heap.size [.slice none 0 0, .slice none 0 0, .int .i64 0, .int .i64 0] 53 ∧ Kn (w2.alloc (.cells #[v1, .slice none 0 0, .int .i64 0, .int .i64 0] 53)) w2.heap.size [v1, .slice none 0 0, .int .i64 0, .int .i64 0] 53 ∧ OwnZ (w2.alloc (.cells #[v1, .slice none 0 0, .int .i64 0, .int .i64 0] 53)) w1.heap.size v1 zs) :=
        ⟨r2.step (Ext.one _ _), gb_alloc (gb_trans X1.out.2.1 g2) _, (X1.out.2.2.gb (by have := H0.out.2.1; omega) g2).alloc _, Kn.new w2 _ _, own_ext o1 (Ext.one _ _)⟩
      have HQ : Hid (w.heap.size < w2.heap.size ∧ w.heap.size < w1.heap.size) := ⟨hq, X1.out.2.2.lt⟩
      clear r2 g2 X1 e1 hq o1
      obtain ⟨v1a, v1n, v1c, hv1⟩ : ∃ a n c, v1 = .slice a n c := by
        rcases X2.out.2.2.2.2.2 with ⟨h, _⟩ | ⟨g, c, cur, h, _⟩
        · exact ⟨_, _, _, h⟩
        · exact ⟨_, _, _, h⟩
      have hone : v1.cells = #[v1] ∧ v1.oneCell' = true := by rw [hv1]; exact ⟨rfl, rfl⟩
      subst hv1
      clear hone
      go_wp2_with fail
      have HB : Hid (w2.heap.size < (w2.alloc (.cells #[.slice v1a v1n v1c, .slice none 0 0, .int .i64 0, .int .i64 0] 53)).heap.size) := by simp [Hid]
      generalize w2.alloc (.cells #[.slice v1a v1n v1c, .slice none 0 0, .int .i64 0, .int .i64 0] 53) = W2 at *
      generalize w2.heap.size = q at *
      have hqp : Hid (q ≠ p ∧ w.heap.size ≠ p ∧ w.heap.size ≤ q ∧ w.heap.size ≠ q) := ⟨by have := H0.out.2.1; have := HQ.out; omega, by have := H0.out.2.1; omega, by have := HQ.out; omega, by have := HQ.out; omega⟩
      refine (rconds_any X2.out.1 H0.out.2.2.2.2 (H0.out.2.2.1 _ X2.out.2.1)).mono ?_
      rintro e w3 ⟨hg, g3⟩
      cases e2 : rConds G i2 with
      | none =>
        rw [e2] at hg
        obtain rfl : e = Bad := hg
        have F3 : Hid (GB p w w3) := gb_trans X2.out.2.1 g3
        clear g3
        go_wp2
        exact bad_panic rfl ⟨gotU_none (by unfold rRule; rw [E0.out]; simp only; rw [E1.out]; simp only; rw [e2]) rfl, F3.out⟩
      | some x =>
        obtain ⟨cs, i3⟩ := x
        have E2 : Hid (rConds G i2 = some (cs, i3)) := e2
        rw [e2] at hg
        obtain ⟨v2, rfl, o2, r3⟩ : ∃ v, e = .returned v ∧ OwnC w3 W2.heap.size v cs ∧ RdI w3 p a cap G i3 := hg
        have kq := X2.out.2.2.2.1.gb hqp.out.1 g3
        have hv1q : ∀ x, Value.ownBlock (.slice v1a v1n v1c) = some x → x ≠ q := fun x hx => by have := (HV1.out x hx).2; omega
        have hv2q : ∀ x, v2.ownBlock = some x → x ≠ q := fun x hx => by have := (own_lt9 o2 hx).1; have := HB.out; omega
        have X3 : Hid (RdI (w3.setCell ⟨q, 1, none⟩ v2) p a cap G i3 ∧ GB p w (w3.setCell ⟨q, 1, none⟩ v2) ∧ Kn (w3.setCell ⟨q, 1, none⟩ v2) w.heap.size [.slice none 0 0, .slice none 0 0, .int .i64 0, .int .i64 0] 53 ∧ Kn (w3.setCell ⟨q, 1, none⟩ v2) q [.slice v1a v1n v1c, v2, .int .i64 0, .int .i64 0] 53 ∧ OwnZ (w3.setCell ⟨q, 1, none⟩ v2) w1.heap.size (.slice v1a v1n v1c) zs ∧ OwnC (w3.setCell ⟨q, 1, none⟩ v2) W2.heap.size v2 cs) :=
          ⟨H0.out.1.fresh r3 hqp.out.2.2.1, gb_fresh (gb_trans X2.out.2.1 g3) hqp.out.2.2.1, (X2.out.2.2.1.gb hqp.out.2.1 g3).other hqp.out.2.2.2 _ _, kq.set 1 _, own_set (own_gb X2.out.2.2.2.2 (by have := H0.out.2.1; have := HQ.out.2; omega) g3) hv1q, own_set o2 hv2q⟩
        have f1 := kq.free
        obtain ⟨c0, c1, c2, c3⟩ := (⟨kq.cell 0 _ rfl, kq.cell 1 _ rfl, kq.cell 2 _ rfl, kq.cell 3 _ rfl⟩ : _ ∧ _ ∧ _ ∧ _)
        obtain ⟨v2a, v2n, v2c, hv2⟩ : ∃ a n c, v2 = .slice a n c := by
          rcases o2.2 with ⟨h, _⟩ | ⟨g, c, cur, h, _⟩
          · exact ⟨_, _, _, h⟩
          · exact ⟨_, _, _, h⟩
        have HV2 : Hid (∀ x, v2.ownBlock = some x → W2.heap.size ≤ x ∧ x ≠ q) := fun x hx => ⟨(own_lt9 o2 hx).1, hv2q x hx⟩
        clear r3 g3 X2 e2 kq o2 hv2q
        subst hv2
        go_wp2_with fail
        generalize w3.setCell ⟨q, 1, none⟩ (.slice v2a v2n v2c) = W3 at *
        clear f1 c0 c1 c2 c3
        cases e3 : rPass G i3 tDo with
        | none =>
          refine (show Calls Tryz.prog 62 #[.pointer (some ⟨p, 0, none⟩), .string ⟨#[100, 111]⟩] _ _ from mp_none (by decide) e3 X3.out.1).mono ?_
          rintro e w4 ⟨rfl, g4⟩
          have F4 : Hid (GB p w w4) := gb_trans X3.out.2.1 g4
          clear g4
          go_wp2
          exact bad_panic rfl ⟨gotU_none (by unfold rRule; rw [E0.out]; simp only; rw [E1.out]; simp only; rw [E2.out]; simp only; rw [e3]) rfl, F4.out⟩
        | some i4 =>
          have E3 : Hid (rPass G i3 tDo = some i4) := e3
          refine (show Calls Tryz.prog 62 #[.pointer (some ⟨p, 0, none⟩), .string ⟨#[100, 111]⟩] _ _ from mp_some (by decide) e3 X3.out.1).mono ?_
          rintro e w4 ⟨⟨rfl, r4⟩, g4⟩
          have X4 : Hid (RdI w4 p a cap G i4 ∧ GB p w w4 ∧ Kn w4 w.heap.size [.slice none 0 0, .slice none 0 0, .int .i64 0, .int .i64 0] 53 ∧ Kn w4 q [.slice v1a v1n v1c, .slice v2a v2n v2c, .int .i64 0, .int .i64 0] 53 ∧ OwnZ w4 w1.heap.size (.slice v1a v1n v1c) zs ∧ OwnC w4 W2.heap.size (.slice v2a v2n v2c) cs) :=
            ⟨r4, gb_trans X3.out.2.1 g4, X3.out.2.2.1.gb hqp.out.2.1 g4, X3.out.2.2.2.1.gb hqp.out.1 g4, own_gb X3.out.2.2.2.2.1 (by have := H0.out.2.1; have := HQ.out.2; omega) g4, own_gb X3.out.2.2.2.2.2 (by have := H0.out.2.1; have := HQ.out.2; have := HQ.out.1; have := HB.out; omega) g4⟩
          clear r4 g4 X3 e3
          go_wp2_with fail
          cases e4 : rOut G i4 with
          | none =>
            refine (show Calls Tryz.prog 64 _ _ _ from fails_of (val := pairV) e4 (outcome_any X4.out.1)).mono ?_
            rintro e w5 ⟨rfl, g5⟩
            have F5 : Hid (GB p w w5) := gb_trans X4.out.2.1 g5
            clear g5
            go_wp2
            exact bad_panic rfl ⟨gotU_none (by unfold rRule; rw [E0.out]; simp only; rw [E1.out]; simp only; rw [E2.out]; simp only; rw [E3.out]; simp only; rw [e4]) rfl, F5.out⟩
          | some x =>
            obtain ⟨⟨ac, da⟩, i5⟩ := x
            have E4 : Hid (rOut G i4 = some ((ac, da), i5)) := e4
            refine (show Calls Tryz.prog 64 _ _ _ from gives_of (val := pairV) e4 (outcome_any X4.out.1)).mono ?_
            rintro e w5 ⟨⟨rfl, r5⟩, g5⟩
            have kq := X4.out.2.2.2.1.gb hqp.out.1 g5
            have X5 : Hid (RdI ((w5.setCell ⟨q, 2, none⟩ (.int .i64 ac)).setCell ⟨q, 3, none⟩ (.int .i64 da)) p a cap G i5 ∧ GB p w ((w5.setCell ⟨q, 2, none⟩ (.int .i64 ac)).setCell ⟨q, 3, none⟩ (.int .i64 da)) ∧ Kn ((w5.setCell ⟨q, 2, none⟩ (.int .i64 ac)).setCell ⟨q, 3, none⟩ (.int .i64 da)) w.heap.size [.slice none 0 0, .slice none 0 0, .int .i64 0, .int .i64 0] 53 ∧ Kn ((w5.setCell ⟨q, 2, none⟩ (.int .i64 ac)).setCell ⟨q, 3, none⟩ (.int .i64 da)) q [.slice v1a v1n v1c, .slice v2a v2n v2c, .int .i64 ac, .int .i64 da] 53 ∧ OwnZ ((w5.setCell ⟨q, 2, none⟩ (.int .i64 ac)).setCell ⟨q, 3, none⟩ (.int .i64 da)) w1.heap.size (.slice v1a v1n v1c) zs ∧ OwnC ((w5.setCell ⟨q, 2, none⟩ (.int .i64 ac)).setCell ⟨q, 3, none⟩ (.int .i64 da)) W2.heap.size (.slice v2a v2n v2c) cs) :=
              ⟨H0.out.1.fresh (H0.out.1.fresh r5 hqp.out.2.2.1) hqp.out.2.2.1, gb_fresh (gb_fresh (gb_trans X4.out.2.1 g5) hqp.out.2.2.1) hqp.out.2.2.1, ((X4.out.2.2.1.gb hqp.out.2.1 g5).other hqp.out.2.2.2 _ _).other hqp.out.2.2.2 _ _, (kq.set 2 _).set 3 _, own_set (own_set (own_gb X4.out.2.2.2.2.1 (by have := H0.out.2.1; have := HQ.out.2; omega) g5) hv1q) hv1q, own_set (own_set (own_gb X4.out.2.2.2.2.2 (by have := H0.out.2.1; have := HQ.out.2; have := HQ.out.1; have := HB.out; omega) g5) (fun x hx => (HV2.out x hx).2)) (fun x hx => (HV2.out x hx).2)⟩
            have f1 := kq.free
            obtain ⟨c0, c1, c2, c3⟩ := (⟨kq.cell 0 _ rfl, kq.cell 1 _ rfl, kq.cell 2 _ rfl, kq.cell 3 _ rfl⟩ : _ ∧ _ ∧ _ ∧ _)
            clear r5 g5 X4 e4 kq
            unfold pairV
            go_wp2_with fail
            generalize (w5.setCell ⟨q, 2, none⟩ (.int .i64 ac)).setCell ⟨q, 3, none⟩ (.int .i64 da) = W5 at *
            clear f1 c0 c1 c2 c3
            cases e5 : rPass G i5 tSemi with
            | none =>
              refine (show Calls Tryz.prog 62 #[.pointer (some ⟨p, 0, none⟩), .string ⟨#[59]⟩] _ _ from mp_none (by decide) e5 X5.out.1).mono ?_
              rintro e w6 ⟨rfl, g6⟩
              have F6 : Hid (GB p w w6) := gb_trans X5.out.2.1 g6
              clear g6
              go_wp2
              exact bad_panic rfl ⟨gotU_none (by unfold rRule; rw [E0.out]; simp only; rw [E1.out]; simp only; rw [E2.out]; simp only; rw [E3.out]; simp only; rw [E4.out]; simp only; rw [e5]) rfl, F6.out⟩
            | some i6 =>
              have HM : Hid (rRule G i = some (⟨zs, cs, ac, da⟩, i6)) := by unfold Hid rRule; rw [E0.out]; simp only; rw [E1.out]; simp only; rw [E2.out]; simp only; rw [E3.out]; simp only; rw [E4.out]; simp only; rw [e5]
              refine (show Calls Tryz.prog 62 #[.pointer (some ⟨p, 0, none⟩), .string ⟨#[59]⟩] _ _ from mp_some (by decide) e5 X5.out.1).mono ?_
              rintro e w6 ⟨⟨rfl, r6⟩, g6⟩
              have kq := X5.out.2.2.2.1.gb hqp.out.1 g6
              have kr := X5.out.2.2.1.gb hqp.out.2.1 g6
              have hv1r : ∀ x, Value.ownBlock (.slice v1a v1n v1c) = some x → x ≠ w.heap.size := fun x hx => by have := (HV1.out x hx).1; have := HQ.out.2; omega
              have hv2r : ∀ x, Value.ownBlock (.slice v2a v2n v2c) = some x → x ≠ w.heap.size := fun x hx => by have := (HV2.out x hx).1; have := HB.out; have := HQ.out.1; omega
              have X6 : Hid (RdI ((((w6.setCell ⟨w.heap.size, 0, none⟩ (.slice v1a v1n v1c)).setCell ⟨w.heap.size, 1, none⟩ (.slice v2a v2n v2c)).setCell ⟨w.heap.size, 2, none⟩ (.int .i64 ac)).setCell ⟨w.heap.size, 3, none⟩ (.int .i64 da)) p a cap G i6 ∧ GB p w ((((w6.setCell ⟨w.heap.size, 0, none⟩ (.slice v1a v1n v1c)).setCell ⟨w.heap.size, 1, none⟩ (.slice v2a v2n v2c)).setCell ⟨w.heap.size, 2, none⟩ (.int .i64 ac)).setCell ⟨w.heap.size, 3, none⟩ (.int .i64 da)) ∧ Kn ((((w6.setCell ⟨w.heap.size, 0, none⟩ (.slice v1a v1n v1c)).setCell ⟨w.heap.size, 1, none⟩ (.slice v2a v2n v2c)).setCell ⟨w.heap.size, 2, none⟩ (.int .i64 ac)).setCell ⟨w.heap.size, 3, none⟩ (.int .i64 da)) w.heap.size [.slice v1a v1n v1c, .slice v2a v2n v2c, .int .i64 ac, .int .i64 da] 53 ∧ OwnZ ((((w6.setCell ⟨w.heap.size, 0, none⟩ (.slice v1a v1n v1c)).setCell ⟨w.heap.size, 1, none⟩ (.slice v2a v2n v2c)).setCell ⟨w.heap.size, 2, none⟩ (.int .i64 ac)).setCell ⟨w.heap.size, 3, none⟩ (.int .i64 da)) w1.heap.size (.slice v1a v1n v1c) zs ∧ OwnC ((((w6.setCell ⟨w.heap.size, 0, none⟩ (.slice v1a v1n v1c)).setCell ⟨w.heap.size, 1, none⟩ (.slice v2a v2n v2c)).setCell ⟨w.heap.size, 2, none⟩ (.int .i64 ac)).setCell ⟨w.heap.size, 3, none⟩ (.int .i64 da)) W2.heap.size (.slice v2a v2n v2c) cs) :=
                ⟨(H0.out.1.fresh (H0.out.1.fresh (H0.out.1.fresh (H0.out.1.fresh r6 (Nat.le_refl _)) (Nat.le_refl _)) (Nat.le_refl _)) (Nat.le_refl _)), (gb_fresh (gb_fresh (gb_fresh (gb_fresh (gb_trans X5.out.2.1 g6) (Nat.le_refl _)) (Nat.le_refl _)) (Nat.le_refl _)) (Nat.le_refl _)), (((kr.set 0 _).set 1 _).set 2 _).set 3 _, own_set (own_set (own_set (own_set (own_gb X5.out.2.2.2.2.1 (by have := H0.out.2.1; have := HQ.out.2; omega) g6) hv1r) hv1r) hv1r) hv1r, own_set (own_set (own_set (own_set (own_gb X5.out.2.2.2.2.2 (by have := H0.out.2.1; have := HQ.out.2; have := HQ.out.1; have := HB.out; omega) g6) hv2r) hv2r) hv2r) hv2r⟩
              have f1 := kq.free
              obtain ⟨c0, c1, c2, c3⟩ := (⟨kq.cell 0 _ rfl, kq.cell 1 _ rfl, kq.cell 2 _ rfl, kq.cell 3 _ rfl⟩ : _ ∧ _ ∧ _ ∧ _)
              have f2 := kr.free
              obtain ⟨d0, d1, d2, d3⟩ := (⟨kr.cell 0 _ rfl, kr.cell 1 _ rfl, kr.cell 2 _ rfl, kr.cell 3 _ rfl⟩ : _ ∧ _ ∧ _ ∧ _)
              have hne := hqp.out.2.2.2
              have hne2 : ¬ q = w.heap.size := fun e => hne e.symm
              clear r6 g6 X5 e5 kq kr hv1r hv2r
              go_wp2
              generalize ((((w6.setCell ⟨w.heap.size, 0, none⟩ (.slice v1a v1n v1c)).setCell ⟨w.heap.size, 1, none⟩ (.slice v2a v2n v2c)).setCell ⟨w.heap.size, 2, none⟩ (.int .i64 ac)).setCell ⟨w.heap.size, 3, none⟩ (.int .i64 da)) = W6 at *
              clear f1 c0 c1 c2 c3 f2 d0 d1 d2 d3
              obtain ⟨d0, d1, d2, d3⟩ := (⟨X6.out.2.2.1.cell 0 _ rfl, X6.out.2.2.1.cell 1 _ rfl, X6.out.2.2.1.cell 2 _ rfl, X6.out.2.2.1.cell 3 _ rfl⟩ : _ ∧ _ ∧ _ ∧ _)
              refine bodyPost_ret (v := .agg #[.slice v1a v1n v1c, .slice v2a v2n v2c, .int .i64 ac, .int .i64 da]) (by simp [results, Tryz.results66, go_sem, *]) rfl ?_
              exact ⟨gotU_some (l := [.slice v1a v1n v1c, .slice v2a v2n v2c, .int .i64 ac, .int .i64 da]) HM.out rfl ⟨_, _, W2.heap.size, rfl, own_mono X6.out.2.2.2.1 (by have := HQ.out.2; omega), X6.out.2.2.2.2, by have := HB.out; have := HQ.out.1; omega, fun x hx => by have := (HV1.out x hx).2; have := HB.out; omega⟩ X6.out.1, X6.out.2.1⟩

end Go.Proofs.YtojaohdmfahpmaaGreatDoor

/- Spec's reader of signs: a number put in its place; a rule's numbers. -/
namespace Go.Proofs.YtojaohdmfahpmaaGreatDoor
open Go.RowKit
set_option linter.unusedVariables false

theorem ext_row {w W W' : World} {row : Option Nat} (h : Ext w W) (hg : W.grownBy W' row) (hr : ∀ x, row = some x → w.heap.size ≤ x) : Ext w W' :=
  ⟨hg.os.trans h.os, hg.tape.trans h.tape, hg.output.trans h.output, Nat.le_trans h.size hg.size, fun i hi => (hg.block i (Nat.lt_of_lt_of_le hi h.size) (fun e => by have := hr i e.symm; omega)).trans (h.block i hi)⟩

theorem take_filter (zs : List Int) (f : Int → Bool) (k : Nat) (h : k < zs.length) : (zs.take (k + 1)).filter f = (zs.take k).filter f ++ (if f (zs.getD k 0) then [zs.getD k 0] else []) := by
  rw [List.take_succ_eq_append_getElem h, List.filter_append]
  congr 1
  have e : zs.getD k 0 = zs[k] := by rw [List.getD_eq_getElem?_getD, List.getElem?_eq_getElem h]; rfl
  rw [e]
  by_cases hf : f zs[k] = true
  · simp [hf]
  · simp [hf]

set_option maxRecDepth 100000 in
set_option maxHeartbeats 1600000 in
theorem put_any {w : World} {B : Nat} {v : Value} {zs : List Int} {n : Int} (hB : B ≤ w.heap.size) (hl : zs.length ≤ 1200) (h : OwnZ w B v zs) :
    Calls Tryz.prog 115 #[v, .int .i64 n] w fun e w' => ∃ u, e = .returned u ∧ OwnZ w' B u (putZ zs n) ∧ Ext w w' := by
  obtain ⟨i0, hi, hz0, hz1, hz2⟩ := info_parts Tryz.infoIn
  obtain ⟨a, cap, rfl, hN, _⟩ := own_nums h rfl
  have HI : Hid (Calls Tryz.prog 114 #[.slice a zs.length cap, .int .i64 n] w fun e w' => e = .returned (.bool (zs.contains n)) ∧ w = w') := l09In_any a cap zs n w (by omega) hN
  have HP : Hid (putZ zs n = if zs.contains n then zs else zs.filter (fun x => decide (x < n)) ++ [n] ++ zs.filter (fun x => decide (n < x))) := rfl
  have HH : Hid (OwnZ w B (.slice a zs.length cap) zs ∧ Nums w a zs ∧ B ≤ w.heap.size) := ⟨h, hN, hB⟩
  clear h hN hB
  generalize putZ zs n = out at *
  generalize zs.contains n = z at *
  obtain ⟨len, hlen⟩ : ∃ len, len = zs.length := ⟨_, rfl⟩
  have HLN : Hid (len = zs.length) := hlen
  rw [← hlen] at HI hl HH ⊢
  clear hlen
  cases z
  · have HP2 : Hid (out = zs.filter (fun x => decide (x < n)) ++ [n] ++ zs.filter (fun x => decide (n < x))) := HP.out
    clear HP
    go_enter Tryz.func115, Tryz.ntmps115
    go_wp2_with fail
    refine (show Calls Tryz.prog 114 _ _ _ from HI.out).mono ?_
    rintro e w' ⟨rfl, rfl⟩
    clear HI
    have X1 : Hid (Ext w (w.alloc (.cells #[] 3)) ∧ OwnZ (w.alloc (.cells #[] 3)) w.heap.size (.slice (some ⟨w.heap.size, 0, none⟩) 0 0) []) := ⟨Ext.one _ _, World.ownsRow_lit (e := 3) (size := 1) w #[] 0 (Nat.le_refl _) (by decide) rfl⟩
    go_wp2_with fail
    generalize w.alloc (.cells #[] 3) = W1 at *
    go_loopw [5, 6] (fun ov iv wr => ∃ k : Nat, iv = .int .i64 k ∧ k ≤ len ∧ Hid (OwnZ wr w.heap.size ov ((zs.take k).filter (fun x => decide (x < n))) ∧ Ext w wr)) (fun _ iv _ => len - (intOf iv).toNat)
    case atStart => exact ⟨0, rfl, by omega, X1.out.2, X1.out.1⟩
    case round =>
      obtain ⟨k, rfl, hk, HX⟩ := hrel
      clear X1
      by_cases hlt : k < len
      · have bk : (k : Int) < (len : Int) := by omega
        have HS : Hid ((zs.take (k + 1)).filter (fun x => decide (x < n)) = (zs.take k).filter (fun x => decide (x < n)) ++ (if decide (zs.getD k 0 < n) then [zs.getD k 0] else [])) := take_filter zs _ k (by have := HLN.out; omega)
        obtain ⟨b, off, rfl, hb, hc⟩ := (HH.out.2.1.step HX.out.2).at (k := k) (by have := HLN.out; omega)
        obtain ⟨c, hcc⟩ : ∃ c, c = zs.getD k 0 := ⟨_, rfl⟩
        rw [← hcc] at hc HS
        clear hcc
        have hlm : ((zs.take k).filter (fun x => decide (x < n))).length ≤ 1200 := by
          have h1 := List.length_filter_le (fun x => decide (x < n)) (zs.take k)
          have h2 := List.length_take_le k zs
          omega
        generalize (zs.take k).filter (fun x => decide (x < n)) = l at *
        have HK : Hid (k < len) := hlt
        by_cases hcn : c < n
        · have HS2 : Hid ((zs.take (k + 1)).filter (fun x => decide (x < n)) = l ++ [c]) := by unfold Hid; rw [HS.out]; simp [hcn]
          have hown : wr.ownsRow w.heap.size 3 1 u5 l.length (l.map (Value.int .i64)) := HX.out.1
          have hz4 : w.heap.size ≤ wr.heap.size := HX.out.2.size
          clear HS hb
          go_wp2_with (at_builtin; refine wpList_append_own _ rfl _ _ 50 rfl w.heap.size 3 i0 (.int .i64 0) 1 8 Tryz.underlying50 hi hz0 hz1 hz2 rfl (by decide) _ l.length _ rfl (hown.alloc _) ⟨wr.heap.size, 0, none⟩ 1 1 [.int .i64 c] rfl rfl ?c1 ?c2 ?c3 ?c4 ?c5 ?_)
          case c1 =>
            intro j u hu
            have := (CellsAt.new wr [.int .i64 c] 3).2 j u hu
            rw [Addr.add_lit, Nat.zero_add]
            exact this
          case c2 => intro u hu; simp at hu; rcases hu with rfl; rfl
          case c3 => unfold maxLen; omega
          case c4 => omega
          case c5 => simp; omega
          · intro v' w5 hown5 hgrow5 _
            have hrow : ∀ x, Value.ownBlock u5 = some x → w.heap.size ≤ x := fun x hx => (own_lt9 hown hx).1
            have X5 : Hid (OwnZ w5 w.heap.size v' (l ++ [c]) ∧ Ext w w5) := by
              refine ⟨?_, ext_row (HX.out.2.trans (Ext.one _ _)) hgrow5 hrow⟩
              rw [show l.map (Value.int .i64) ++ [.int .i64 c] = (l ++ [c]).map (Value.int .i64) by simp] at hown5
              unfold OwnZ
              rw [List.length_append]
              exact hown5
            clear hgrow5 hown5 hown
            clear HX
            go_wp2
            go_roundw
            case rel => exact ⟨k + 1, by go_num, by have := HK.out; omega, by rw [HS2.out]; exact X5.out⟩
            case measure => simp [intOf]; omega
        · have HS2 : Hid ((zs.take (k + 1)).filter (fun x => decide (x < n)) = l) := by unfold Hid; rw [HS.out]; simp [hcn]
          clear HS hb
          go_wp2
          go_roundw
          case rel => exact ⟨k + 1, by go_num, by have := HK.out; omega, by rw [HS2.out]; exact HX.out⟩
          case measure => simp [intOf]; omega
      · obtain rfl : len = k := by omega
        have HX2 : Hid (OwnZ wr w.heap.size u5 (zs.filter (fun x => decide (x < n))) ∧ Ext w wr) := by
          have := HX.out
          rw [HLN.out, List.take_length] at this
          exact this
        have hlm : (zs.filter (fun x => decide (x < n))).length ≤ 1200 := by
          have h1 := List.length_filter_le (fun x => decide (x < n)) zs
          have h2 := HLN.out
          omega
        clear HX
        generalize zs.filter (fun x => decide (x < n)) = l at *
        have hown : wr.ownsRow w.heap.size 3 1 u5 l.length (l.map (Value.int .i64)) := HX2.out.1
        have hz4 : w.heap.size ≤ wr.heap.size := HX2.out.2.size
        have HXE : Hid (Ext w wr) := HX2.out.2
        clear HX2
        obtain ⟨c, hcc⟩ : ∃ c, c = n := ⟨_, rfl⟩
        have HCC : Hid (c = n) := hcc
        rw [← hcc]
        rw [← hcc] at HP2
        clear hcc
        go_wp2_with (at_builtin; refine wpList_append_own _ rfl _ _ 50 rfl w.heap.size 3 i0 (.int .i64 0) 1 8 Tryz.underlying50 hi hz0 hz1 hz2 rfl (by decide) _ l.length _ rfl (hown.alloc _) ⟨wr.heap.size, 0, none⟩ 1 1 [.int .i64 c] rfl rfl ?c1 ?c2 ?c3 ?c4 ?c5 ?_)
        case c1 =>
          intro j u hu
          have := (CellsAt.new wr [.int .i64 c] 3).2 j u hu
          rw [Addr.add_lit, Nat.zero_add]
          exact this
        case c2 => intro u hu; simp at hu; rcases hu with rfl; rfl
        case c3 => unfold maxLen; omega
        case c4 => omega
        case c5 => simp; omega
        · intro v' w5 hown5 hgrow5 _
          have hrow : ∀ x, Value.ownBlock u5 = some x → w.heap.size ≤ x := fun x hx => (own_lt9 hown hx).1
          have X5 : Hid (OwnZ w5 w.heap.size v' (l ++ [c]) ∧ Ext w w5) := by
            refine ⟨?_, ext_row (HXE.out.trans (Ext.one _ _)) hgrow5 hrow⟩
            rw [show l.map (Value.int .i64) ++ [.int .i64 c] = (l ++ [c]).map (Value.int .i64) by simp] at hown5
            unfold OwnZ
            rw [List.length_append]
            exact hown5
          clear hgrow5 hown5 hown
          clear HXE
          obtain ⟨m0, hm0⟩ : ∃ m0, m0 = l ++ [c] := ⟨_, rfl⟩
          rw [← hm0] at X5 HP2
          have hm1 : m0.length ≤ 1201 := by rw [hm0]; simp; omega
          clear hm0 hlm
          go_wp2_with fail
          go_loopw [5, 7] (fun ov iv wr => ∃ k : Nat, iv = .int .i64 k ∧ k ≤ len ∧ Hid (OwnZ wr w.heap.size ov (m0 ++ (zs.take k).filter (fun x => decide (c < x))) ∧ Ext w wr)) (fun _ iv _ => len - (intOf iv).toNat)
          case atStart => exact ⟨0, rfl, by omega, by simpa using X5.out.1, X5.out.2⟩
          case round =>
            obtain ⟨k, rfl, hk, HX⟩ := hrel
            clear X5
            by_cases hlt : k < len
            · have bk : (k : Int) < (len : Int) := by omega
              have HS : Hid ((zs.take (k + 1)).filter (fun x => decide (c < x)) = (zs.take k).filter (fun x => decide (c < x)) ++ (if decide (c < zs.getD k 0) then [zs.getD k 0] else [])) := take_filter zs _ k (by have := HLN.out; omega)
              obtain ⟨b, off, rfl, hb, hc⟩ := (HH.out.2.1.step HX.out.2).at (k := k) (by have := HLN.out; omega)
              obtain ⟨d, hcc⟩ : ∃ d, d = zs.getD k 0 := ⟨_, rfl⟩
              rw [← hcc] at hc HS
              clear hcc
              have hlm : ((zs.take k).filter (fun x => decide (c < x))).length ≤ 1200 := by
                have h1 := List.length_filter_le (fun x => decide (c < x)) (zs.take k)
                have h2 := List.length_take_le k zs
                omega
              generalize (zs.take k).filter (fun x => decide (c < x)) = l1 at *
              have HK : Hid (k < len) := hlt
              by_cases hcn : c < d
              · have HS2 : Hid (m0 ++ (zs.take (k + 1)).filter (fun x => decide (c < x)) = (m0 ++ l1) ++ [d]) := by unfold Hid; rw [HS.out]; simp [hcn]
                have hown : wr.ownsRow w.heap.size 3 1 u5 (m0 ++ l1).length ((m0 ++ l1).map (Value.int .i64)) := HX.out.1
                have hz4 : w.heap.size ≤ wr.heap.size := HX.out.2.size
                have hlq : (m0 ++ l1).length ≤ 2401 := by rw [List.length_append]; omega
                obtain ⟨q, hq⟩ : ∃ q, q = m0 ++ l1 := ⟨_, rfl⟩
                have HXE : Hid (Ext w wr) := HX.out.2
                rw [← hq] at hown HS2 hlq
                clear HS hb hq HX hlm hm1
                go_wp2_with (at_builtin; refine wpList_append_own _ rfl _ _ 50 rfl w.heap.size 3 i0 (.int .i64 0) 1 8 Tryz.underlying50 hi hz0 hz1 hz2 rfl (by decide) _ q.length _ rfl (hown.alloc _) ⟨wr.heap.size, 0, none⟩ 1 1 [.int .i64 d] rfl rfl ?c1 ?c2 ?c3 ?c4 ?c5 ?_)
                case c1 =>
                  intro j u hu
                  have := (CellsAt.new wr [.int .i64 d] 3).2 j u hu
                  rw [Addr.add_lit, Nat.zero_add]
                  exact this
                case c2 => intro u hu; simp at hu; rcases hu with rfl; rfl
                case c3 => unfold maxLen; omega
                case c4 => omega
                case c5 => simp; omega
                · intro v' w5 hown5 hgrow5 _
                  have hrow : ∀ x, Value.ownBlock u5 = some x → w.heap.size ≤ x := fun x hx => (own_lt9 hown hx).1
                  have X5 : Hid (OwnZ w5 w.heap.size v' (q ++ [d]) ∧ Ext w w5) := by
                    refine ⟨?_, ext_row (HXE.out.trans (Ext.one _ _)) hgrow5 hrow⟩
                    rw [show q.map (Value.int .i64) ++ [.int .i64 d] = (q ++ [d]).map (Value.int .i64) by simp] at hown5
                    unfold OwnZ
                    rw [List.length_append]
                    exact hown5
                  clear hgrow5 hown5 hown
                  clear HXE
                  go_wp2
                  go_roundw
                  case rel => exact ⟨k + 1, by go_num, by have := HK.out; omega, by rw [HS2.out]; exact X5.out⟩
                  case measure => simp [intOf]; omega
              · have HS2 : Hid (m0 ++ (zs.take (k + 1)).filter (fun x => decide (c < x)) = m0 ++ l1) := by unfold Hid; rw [HS.out]; simp [hcn]
                clear HS hb
                go_wp2
                go_roundw
                case rel => exact ⟨k + 1, by go_num, by have := HK.out; omega, by rw [HS2.out]; exact HX.out⟩
                case measure => simp [intOf]; omega
            · obtain rfl : k = len := by omega
              have HX2 : Hid (OwnZ wr w.heap.size u5 out ∧ Ext w wr) := by
                have := HX.out
                rw [HLN.out, List.take_length] at this
                rw [HP2.out]
                exact this
              clear HX
              go_wp2
              go_ret
              exact ⟨_, rfl, own_mono HX2.out.1 HH.out.2.2, HX2.out.2⟩
  · have HP2 : Hid (out = zs) := HP.out
    clear HP
    go_enter Tryz.func115, Tryz.ntmps115
    go_wp2_with fail
    refine (show Calls Tryz.prog 114 _ _ _ from HI.out).mono ?_
    rintro e w' ⟨rfl, rfl⟩
    clear HI
    go_wp2
    go_ret
    exact ⟨_, rfl, by rw [HP2.out]; exact HH.out.1, Ext.refl _⟩

/-- How far a reader may still go. -/
def stLeft (s : Option Nat) : Nat := match s with
  | none => 0
  | some i => 1301 - i

def sLeft (W : World) (p : Nat) : Nat := match W.cell? ⟨p, 2, none⟩ with
  | some (.bool false) => (match W.cell? ⟨p, 1, none⟩ with
    | some (.int _ n) => 1301 - n.toNat
    | _ => 0)
  | _ => 0

theorem RdS.left {w : World} {p : Nat} {a : Option Addr} {cap : Nat} {G : List Sg} {s : Option Nat} (h : RdS w p a cap G s) : sLeft w p = stLeft s := by
  obtain ⟨i, b, hK, rfl, _⟩ := h
  unfold sLeft
  rw [hK.cell 2 _ rfl, hK.cell 1 _ rfl]
  cases b
  · simp [stLeft]
  · simp [stLeft]

theorem putZ_len (l : List Int) (n : Int) : (putZ l n).length ≤ l.length + 1 := by
  unfold putZ
  split
  · omega
  · rename_i h
    have h1 := (filter_parts n l (by simpa using h)).length_eq
    rw [h1]; simp

theorem sCall_next {G : List Sg} {i j : Nat} (h : (sCall G (some i)).2 = some j) : i < j := by
  unfold sCall at h
  cases hh : sHas G (some i)
  · rw [hh] at h
    simp only [Bool.false_eq_true, if_false] at h
    unfold sName at h
    simp only at h
    split at h
    · simp at h; omega
    · simp at h
  · rw [hh] at h
    simp only [if_true] at h
    unfold sNum at h
    rw [hh] at h
    simp at h; omega

set_option maxRecDepth 100000 in
set_option maxHeartbeats 1600000 in
theorem xNums_any {w : World} {p : Nat} {a : Option Addr} {cap : Nat} {G : List Sg} {s : Option Nat} (h : RdS w p a cap G s) :
    Calls Tryz.prog 77 #[.pointer (some ⟨p, 0, none⟩)] w fun e w' => ∃ v, e = .returned v ∧ OwnZ w' w.heap.size v (sNums G s).1 ∧ RdS w' p a cap G (sNums G s).2 ∧ GB p w w' := by
  obtain ⟨o, ho⟩ : ∃ o, o = sNums G s := ⟨_, rfl⟩
  rw [← ho]
  have HM : Hid (o = if sIs G s 1 tAny then ([], nx s) else sNumsF (G.length + 1) G [] s) := ho
  clear ho
  have X1 : Hid (RdS (w.alloc (.cells #[] 3)) p a cap G s ∧ GB p w (w.alloc (.cells #[] 3)) ∧ OwnZ (w.alloc (.cells #[] 3)) w.heap.size (.slice (some ⟨w.heap.size, 0, none⟩) 0 0) []) := ⟨h.step (Ext.one _ _), gb_ext (Ext.one _ _), World.ownsRow_lit (e := 3) (size := 1) w #[] 0 (Nat.le_refl _) (by decide) rfl⟩
  have H0 : Hid (RdS w p a cap G s ∧ p < w.heap.size) := ⟨h, h.lt⟩
  have H1 : Hid (Calls Tryz.prog 73 #[.pointer (some ⟨p, 0, none⟩), .int .i64 1, .string ⟨#[97, 110, 121]⟩] (w.alloc (.cells #[] 3)) fun e w' => e = .returned (.bool (sIs G s 1 tAny)) ∧ RdS w' p a cap G (sTk G s 1 tAny) ∧ GB p (w.alloc (.cells #[] 3)) w') := takes_any 1 tAny X1.out.1
  rw [show sTk G s 1 tAny = if sIs G s 1 tAny then nx s else s from rfl] at H1
  clear h
  generalize sIs G s 1 tAny = z at *
  cases z
  case true =>
    have HM2 : Hid (o = ([], nx s)) := HM.out
    clear HM
    rw [HM2.out]
    go_enter Tryz.func77, Tryz.ntmps77
    go_wp2_with fail
    refine (show Calls Tryz.prog 73 _ _ _ from H1.out).mono ?_
    rintro e w2 ⟨rfl, r2, g2⟩
    have X2 : Hid (RdS w2 p a cap G (nx s) ∧ GB p w w2 ∧ OwnZ w2 w.heap.size (.slice (some ⟨w.heap.size, 0, none⟩) 0 0) []) := ⟨r2, gb_trans X1.out.2.1 g2, own_gb X1.out.2.2 H0.out.2 g2⟩
    clear r2 g2 H1 X1
    go_wp2
    go_ret
    exact ⟨_, rfl, X2.out.2.2, X2.out.1, X2.out.2.1⟩
  case false =>
    have HM2 : Hid (o = sNumsF (G.length + 1) G [] s) := HM.out
    clear HM
    go_enter Tryz.func77, Tryz.ntmps77
    go_wp2_with fail
    refine (show Calls Tryz.prog 73 _ _ _ from H1.out).mono ?_
    rintro e w2 ⟨rfl, r2, g2⟩
    have X2 : Hid (RdS w2 p a cap G s ∧ GB p w w2 ∧ OwnZ w2 w.heap.size (.slice (some ⟨w.heap.size, 0, none⟩) 0 0) []) := ⟨r2, gb_trans X1.out.2.1 g2, own_gb X1.out.2.2 H0.out.2 g2⟩
    clear r2 g2 H1 X1
    go_wp2_with fail
    go_loopw [3] (fun ov wr => ∃ (acc : List Int) (t : Option Nat) (f : Nat), Hid (o = sNumsF f G acc t ∧ (∀ i, t = some i → G.length + 1 ≤ i + f ∧ acc.length ≤ i) ∧ RdS wr p a cap G t ∧ GB p w wr ∧ OwnZ wr w.heap.size ov acc)) (fun _ W => sLeft W p)
    case atStart => exact ⟨[], s, G.length + 1, HM2.out, fun i _ => ⟨by omega, by simp⟩, X2.out⟩
    case round =>
      obtain ⟨acc, t, f, HI⟩ := hrel
      clear X2 HM2
      cases t with
      | none =>
        obtain ⟨i7, hK, _⟩ := HI.out.2.2.1.lost
        have c2 := hK.cell 2 _ rfl
        have HO : Hid (o = (acc, none)) := by unfold Hid; rw [HI.out.1, sNumsF_none]
        clear hK
        go_wp2
        go_ret
        rw [HO.out]
        exact ⟨_, rfl, HI.out.2.2.2.2, HI.out.2.2.1, HI.out.2.2.2.1⟩
      | some i =>
        have hK := HI.out.2.2.1.at.1
        have c2 := hK.cell 2 _ rfl
        have HF : Hid (1 ≤ f ∧ sNumsF f G acc (some i) = if sIs G (sGot G acc (some i)) 3 tComma then sNumsF (f - 1) G (putZ acc (sCall G (some i)).1) (nx (sGot G acc (some i))) else (putZ acc (sCall G (some i)).1, sGot G acc (some i))) := by
          have h1 := HI.out.2.1 i rfl
          have h2 := HI.out.2.2.1.at.2
          refine ⟨by omega, ?_⟩
          obtain ⟨g, rfl⟩ : ∃ g, f = g + 1 := ⟨f - 1, by omega⟩
          rfl
        have HJ : Hid (∀ j, (sCall G (some i)).2 = some j → i < j) := fun j hj => sCall_next hj
        have HN : Hid (Calls Tryz.prog 74 #[.pointer (some ⟨p, 0, none⟩)] wr fun e w' => e = .returned (.bool (sHas G (some i))) ∧ Ext wr w') := hasNum_any HI.out.2.2.1
        have HCA : Hid (sCall G (some i) = if sHas G (some i) then sNum G (some i) else (callN (sName G (some i)).1, (sName G (some i)).2)) := rfl
        clear hK
        generalize sHas G (some i) = zh at *
        cases zh
        · have HCA2 : Hid (sCall G (some i) = (callN (sName G (some i)).1, (sName G (some i)).2)) := HCA.out
          go_wp2_with fail
          refine (show Calls Tryz.prog 74 _ _ _ from HN.out).mono ?_
          rintro e w5 ⟨rfl, x5⟩
          have HNM : Hid (Calls Tryz.prog 75 #[.pointer (some ⟨p, 0, none⟩)] w5 fun e w' => e = .returned (.string (txt (sName G (some i)).1)) ∧ RdS w' p a cap G (sName G (some i)).2 ∧ GB p w5 w') := xName_any (HI.out.2.2.1.step x5)
          have X5 : Hid (GB p w w5 ∧ OwnZ w5 w.heap.size u3 acc) := ⟨gb_trans HI.out.2.2.2.1 (gb_ext x5), own_ext HI.out.2.2.2.2 x5⟩
          clear HCA HN x5 c2
          generalize (sName G (some i)).1 = tn at *
          generalize (sName G (some i)).2 = s2 at *
          go_wp2_with fail
          refine (show Calls Tryz.prog 75 _ _ _ from HNM.out).mono ?_
          rintro e w6 ⟨rfl, r6, g6⟩
          have X6 : Hid (RdS w6 p a cap G s2 ∧ GB p w w6 ∧ OwnZ w6 w.heap.size u3 acc) := ⟨r6, gb_trans X5.out.1 g6, own_gb X5.out.2 H0.out.2 g6⟩
          have HCN : Hid (Calls Tryz.prog 113 #[.string (txt tn)] w6 fun e w' => e = .returned (.int .i64 (callN tn)) ∧ Ext w6 w') := by
            have := sNumber_any (txt tn) w6
            unfold Hid
            simpa [txt] using this
          clear HNM r6 g6 X5
          generalize txt tn = st at *
          obtain ⟨c, hc⟩ : ∃ c, c = callN tn := ⟨_, rfl⟩
          rw [← hc] at HCN HCA2
          clear hc
          go_wp2_with fail
          refine (show Calls Tryz.prog 113 _ _ _ from HCN.out).mono ?_
          rintro e w7 ⟨rfl, x7⟩
          have X7 : Hid (RdS w7 p a cap G s2 ∧ GB p w w7 ∧ OwnZ w7 w.heap.size u3 acc) := ⟨X6.out.1.step x7, gb_trans X6.out.2.1 (gb_ext x7), own_ext X6.out.2.2 x7⟩
          have HC : Hid (sCall G (some i) = (c, s2)) := HCA2.out
          clear HCN x7 X6 HCA2
          rw [HC.out] at HJ HF
          simp only at HJ HF
          have hacc : acc.length ≤ 1200 := by have := (HI.out.2.1 i rfl).2; have := HI.out.2.2.1.at.2; omega
          by_cases hc0 : c < 0
          · have HG : Hid (sGot G acc (some i) = none) := by unfold Hid sGot; rw [HC.out]; simp [hc0]
            have X8 : Hid (RdS (w7.setCell ⟨p, 2, none⟩ (.bool true)) p a cap G none ∧ GB p w (w7.setCell ⟨p, 2, none⟩ (.bool true)) ∧ OwnZ (w7.setCell ⟨p, 2, none⟩ (.bool true)) w.heap.size u3 acc) := ⟨X7.out.1.bad, gb_trans X7.out.2.1 (gb_set _ _ _ _), own_gb X7.out.2.2 H0.out.2 (gb_set _ _ _ _)⟩
            obtain ⟨i7, b7, hK, _⟩ := X7.out.1
            have f1 := hK.free
            have c2 := hK.cell 2 _ rfl
            clear hK X7
            go_wp2_with fail
            generalize w7.setCell ⟨p, 2, none⟩ (.bool true) = w8 at *
            clear f1 c2
            have HPT : Hid (Calls Tryz.prog 115 #[u3, .int .i64 c] w8 fun e w' => ∃ u, e = .returned u ∧ OwnZ w' w.heap.size u (putZ acc c) ∧ Ext w8 w') := put_any X8.out.2.1.size hacc X8.out.2.2
            have hpl : (putZ acc c).length ≤ acc.length + 1 := putZ_len acc c
            generalize putZ acc c = acc2 at *
            go_wp2_with fail
            refine (show Calls Tryz.prog 115 _ _ _ from HPT.out).mono ?_
            rintro e w9 ⟨u9, rfl, o9, x9⟩
            have X9 : Hid (RdS w9 p a cap G none ∧ GB p w w9 ∧ OwnZ w9 w.heap.size u9 acc2) := ⟨X8.out.1.step x9, gb_trans X8.out.2.1 (gb_ext x9), o9⟩
            clear x9 o9 HPT X8
            have HT : Hid (Calls Tryz.prog 73 #[.pointer (some ⟨p, 0, none⟩), .int .i64 3, .string ⟨#[44]⟩] w9 fun e w' => e = .returned (.bool (sIs G none 3 tComma)) ∧ RdS w' p a cap G (sTk G none 3 tComma) ∧ GB p w9 w') := takes_any 3 tComma X9.out.1
            rw [show sTk G none 3 tComma = if sIs G none 3 tComma then nx none else none from rfl] at HT
            rw [show sIs G none 3 tComma = false from rfl] at HT
            go_wp2_with fail
            refine (show Calls Tryz.prog 73 _ _ _ from HT.out).mono ?_
            rintro e w10 ⟨rfl, r10, g10⟩
            have X10 : Hid (RdS w10 p a cap G none ∧ GB p w w10 ∧ OwnZ w10 w.heap.size u9 acc2) := ⟨r10, gb_trans X9.out.2.1 g10, own_gb X9.out.2.2 H0.out.2 g10⟩
            have HO : Hid (o = (acc2, none)) := by
              unfold Hid
              rw [HI.out.1, HF.out.2, HG.out]
              rfl
            clear r10 g10 HT X9 HI
            go_wp2
            go_ret
            rw [HO.out]
            exact ⟨_, rfl, X10.out.2.2, X10.out.1, X10.out.2.1⟩
          · obtain ⟨ua, ucap, rfl, hN, _⟩ := own_nums X7.out.2.2 rfl
            have HIN : Hid (Calls Tryz.prog 114 #[.slice ua acc.length ucap, .int .i64 c] w7 fun e w' => e = .returned (.bool (acc.contains c)) ∧ w7 = w') := l09In_any ua ucap acc c w7 (by omega) hN
            have HG : Hid (sGot G acc (some i) = if acc.contains c then none else s2) := by unfold Hid sGot; rw [HC.out]; simp [hc0]
            clear hN
            generalize acc.contains c = zi at *
            obtain ⟨an, han⟩ : ∃ an, an = acc.length := ⟨_, rfl⟩
            have HAN : Hid (an = acc.length) := han
            rw [← han] at HIN X7
            rw [← han]
            clear han
            cases zi
            · have HG : Hid (sGot G acc (some i) = s2) := HG.out
              go_wp2_with fail
              refine (show Calls Tryz.prog 114 _ _ _ from HIN.out).mono ?_
              rintro e w8 ⟨rfl, rfl⟩
              have X8 : Hid _ := X7.out
              clear HIN X7
              have HPT : Hid (Calls Tryz.prog 115 #[.slice ua an ucap, .int .i64 c] w7 fun e w' => ∃ u, e = .returned u ∧ OwnZ w' w.heap.size u (putZ acc c) ∧ Ext w7 w') := put_any X8.out.2.1.size hacc X8.out.2.2
              have hpl : (putZ acc c).length ≤ acc.length + 1 := putZ_len acc c
              generalize putZ acc c = acc2 at *
              go_wp2_with fail
              refine (show Calls Tryz.prog 115 _ _ _ from HPT.out).mono ?_
              rintro e w9 ⟨u9, rfl, o9, x9⟩
              have X9 : Hid (RdS w9 p a cap G s2 ∧ GB p w w9 ∧ OwnZ w9 w.heap.size u9 acc2) := ⟨X8.out.1.step x9, gb_trans X8.out.2.1 (gb_ext x9), o9⟩
              clear x9 o9 HPT X8
              have HT : Hid (Calls Tryz.prog 73 #[.pointer (some ⟨p, 0, none⟩), .int .i64 3, .string ⟨#[44]⟩] w9 fun e w' => e = .returned (.bool (sIs G s2 3 tComma)) ∧ RdS w' p a cap G (sTk G s2 3 tComma) ∧ GB p w9 w') := takes_any 3 tComma X9.out.1
              rw [show sTk G s2 3 tComma = if sIs G s2 3 tComma then nx s2 else s2 from rfl] at HT
              generalize hz : sIs G s2 3 tComma = z at *
              cases z
              · go_wp2_with fail
                refine (show Calls Tryz.prog 73 _ _ _ from HT.out).mono ?_
                rintro e w10 ⟨rfl, r10, g10⟩
                have X10 : Hid (RdS w10 p a cap G s2 ∧ GB p w w10 ∧ OwnZ w10 w.heap.size u9 acc2) := ⟨r10, gb_trans X9.out.2.1 g10, own_gb X9.out.2.2 H0.out.2 g10⟩
                have HO : Hid (o = (acc2, s2)) := by
                  unfold Hid
                  rw [HI.out.1, HF.out.2, HG.out]
                  rw [hz]; rfl
                clear r10 g10 HT X9 HI
                go_wp2
                go_ret
                rw [HO.out]
                exact ⟨_, rfl, X10.out.2.2, X10.out.1, X10.out.2.1⟩
              · obtain ⟨j, rfl, hj⟩ := sIs_lt hz
                have hij := (HJ.out j rfl)
                have HO : Hid (o = sNumsF (f - 1) G acc2 (some (j + 1)) ∧ G.length + 1 ≤ j + 1 + (f - 1) ∧ acc2.length ≤ j + 1 ∧ sLeft wr p = 1301 - i ∧ i < j ∧ j < 1300) := by
                  have h1 := HI.out.2.1 i rfl
                  have h2 := HF.out.1
                  have h3 := HI.out.2.2.1.left
                  have h4 := X9.out.1.at.2
                  refine ⟨?_, by omega, by omega, h3, hij, by omega⟩
                  rw [HI.out.1, HF.out.2, HG.out, hz]
                  rfl
                clear HI hz
                go_wp2_with fail
                refine (show Calls Tryz.prog 73 _ _ _ from HT.out).mono ?_
                rintro e w10 ⟨rfl, r10, g10⟩
                have X10 : Hid (RdS w10 p a cap G (some (j + 1)) ∧ GB p w w10 ∧ OwnZ w10 w.heap.size u9 acc2) := ⟨r10, gb_trans X9.out.2.1 g10, own_gb X9.out.2.2 H0.out.2 g10⟩
                clear r10 g10 HT X9
                go_wp2
                go_roundw
                case rel => exact ⟨acc2, some (j + 1), f - 1, HO.out.1, (fun k hk => by injection hk with hk; subst hk; exact ⟨HO.out.2.1, HO.out.2.2.1⟩), X10.out⟩
                case measure =>
                  have h1 := X10.out.1.left
                  have h2 := HO.out.2.2.2
                  rw [h1, h2.1]
                  simp only [stLeft]
                  omega
            · have HG : Hid (sGot G acc (some i) = none) := HG.out
              have X8 : Hid (RdS (w7.setCell ⟨p, 2, none⟩ (.bool true)) p a cap G none ∧ GB p w (w7.setCell ⟨p, 2, none⟩ (.bool true)) ∧ OwnZ (w7.setCell ⟨p, 2, none⟩ (.bool true)) w.heap.size (.slice ua an ucap) acc) := ⟨X7.out.1.bad, gb_trans X7.out.2.1 (gb_set _ _ _ _), own_gb X7.out.2.2 H0.out.2 (gb_set _ _ _ _)⟩
              obtain ⟨i7, b7, hK, _⟩ := X7.out.1
              have f1 := hK.free
              have c2 := hK.cell 2 _ rfl
              clear hK X7
              go_wp2_with fail
              refine (show Calls Tryz.prog 114 _ _ _ from HIN.out).mono ?_
              rintro e w8 ⟨rfl, rfl⟩
              clear HIN
              go_wp2_with fail
              generalize w7.setCell ⟨p, 2, none⟩ (.bool true) = w8 at *
              clear f1 c2
              have HPT : Hid (Calls Tryz.prog 115 #[.slice ua an ucap, .int .i64 c] w8 fun e w' => ∃ u, e = .returned u ∧ OwnZ w' w.heap.size u (putZ acc c) ∧ Ext w8 w') := put_any X8.out.2.1.size hacc X8.out.2.2
              have hpl : (putZ acc c).length ≤ acc.length + 1 := putZ_len acc c
              generalize putZ acc c = acc2 at *
              go_wp2_with fail
              refine (show Calls Tryz.prog 115 _ _ _ from HPT.out).mono ?_
              rintro e w9 ⟨u9, rfl, o9, x9⟩
              have X9 : Hid (RdS w9 p a cap G none ∧ GB p w w9 ∧ OwnZ w9 w.heap.size u9 acc2) := ⟨X8.out.1.step x9, gb_trans X8.out.2.1 (gb_ext x9), o9⟩
              clear x9 o9 HPT X8
              have HT : Hid (Calls Tryz.prog 73 #[.pointer (some ⟨p, 0, none⟩), .int .i64 3, .string ⟨#[44]⟩] w9 fun e w' => e = .returned (.bool (sIs G none 3 tComma)) ∧ RdS w' p a cap G (sTk G none 3 tComma) ∧ GB p w9 w') := takes_any 3 tComma X9.out.1
              rw [show sTk G none 3 tComma = if sIs G none 3 tComma then nx none else none from rfl] at HT
              rw [show sIs G none 3 tComma = false from rfl] at HT
              go_wp2_with fail
              refine (show Calls Tryz.prog 73 _ _ _ from HT.out).mono ?_
              rintro e w10 ⟨rfl, r10, g10⟩
              have X10 : Hid (RdS w10 p a cap G none ∧ GB p w w10 ∧ OwnZ w10 w.heap.size u9 acc2) := ⟨r10, gb_trans X9.out.2.1 g10, own_gb X9.out.2.2 H0.out.2 g10⟩
              have HO : Hid (o = (acc2, none)) := by
                unfold Hid
                rw [HI.out.1, HF.out.2, HG.out]
                rfl
              clear r10 g10 HT X9 HI
              go_wp2
              go_ret
              rw [HO.out]
              exact ⟨_, rfl, X10.out.2.2, X10.out.1, X10.out.2.1⟩
        · have HCA2 : Hid (sCall G (some i) = sNum G (some i)) := HCA.out
          go_wp2_with fail
          refine (show Calls Tryz.prog 74 _ _ _ from HN.out).mono ?_
          rintro e w5 ⟨rfl, x5⟩
          have HNM : Hid (Calls Tryz.prog 33 #[.pointer (some ⟨p, 0, none⟩)] w5 fun e w' => e = .returned (.int .i64 (sNum G (some i)).1) ∧ RdS w' p a cap G (sNum G (some i)).2 ∧ GB p w5 w') := xNum_any (HI.out.2.2.1.step x5)
          have X5 : Hid (GB p w w5 ∧ OwnZ w5 w.heap.size u3 acc) := ⟨gb_trans HI.out.2.2.2.1 (gb_ext x5), own_ext HI.out.2.2.2.2 x5⟩
          clear HCA HN x5 c2
          rw [← HCA2.out] at HNM
          clear HCA2
          obtain ⟨q, hq⟩ : ∃ q, q = sCall G (some i) := ⟨_, rfl⟩
          rw [← hq] at HNM
          obtain ⟨c, s2⟩ := q
          have HC : Hid (sCall G (some i) = (c, s2)) := hq.symm
          clear hq
          simp only at HNM
          rw [HC.out] at HJ HF
          simp only at HJ HF
          go_wp2_with fail
          refine (show Calls Tryz.prog 33 _ _ _ from HNM.out).mono ?_
          rintro e w7 ⟨rfl, r7, g7⟩
          have X7 : Hid (RdS w7 p a cap G s2 ∧ GB p w w7 ∧ OwnZ w7 w.heap.size u3 acc) := ⟨r7, gb_trans X5.out.1 g7, own_gb X5.out.2 H0.out.2 g7⟩
          clear HNM r7 g7 X5
          have hacc : acc.length ≤ 1200 := by have := (HI.out.2.1 i rfl).2; have := HI.out.2.2.1.at.2; omega
          by_cases hc0 : c < 0
          · have HG : Hid (sGot G acc (some i) = none) := by unfold Hid sGot; rw [HC.out]; simp [hc0]
            have X8 : Hid (RdS (w7.setCell ⟨p, 2, none⟩ (.bool true)) p a cap G none ∧ GB p w (w7.setCell ⟨p, 2, none⟩ (.bool true)) ∧ OwnZ (w7.setCell ⟨p, 2, none⟩ (.bool true)) w.heap.size u3 acc) := ⟨X7.out.1.bad, gb_trans X7.out.2.1 (gb_set _ _ _ _), own_gb X7.out.2.2 H0.out.2 (gb_set _ _ _ _)⟩
            obtain ⟨i7, b7, hK, _⟩ := X7.out.1
            have f1 := hK.free
            have c2 := hK.cell 2 _ rfl
            clear hK X7
            go_wp2_with fail
            generalize w7.setCell ⟨p, 2, none⟩ (.bool true) = w8 at *
            clear f1 c2
            have HPT : Hid (Calls Tryz.prog 115 #[u3, .int .i64 c] w8 fun e w' => ∃ u, e = .returned u ∧ OwnZ w' w.heap.size u (putZ acc c) ∧ Ext w8 w') := put_any X8.out.2.1.size hacc X8.out.2.2
            have hpl : (putZ acc c).length ≤ acc.length + 1 := putZ_len acc c
            generalize putZ acc c = acc2 at *
            go_wp2_with fail
            refine (show Calls Tryz.prog 115 _ _ _ from HPT.out).mono ?_
            rintro e w9 ⟨u9, rfl, o9, x9⟩
            have X9 : Hid (RdS w9 p a cap G none ∧ GB p w w9 ∧ OwnZ w9 w.heap.size u9 acc2) := ⟨X8.out.1.step x9, gb_trans X8.out.2.1 (gb_ext x9), o9⟩
            clear x9 o9 HPT X8
            have HT : Hid (Calls Tryz.prog 73 #[.pointer (some ⟨p, 0, none⟩), .int .i64 3, .string ⟨#[44]⟩] w9 fun e w' => e = .returned (.bool (sIs G none 3 tComma)) ∧ RdS w' p a cap G (sTk G none 3 tComma) ∧ GB p w9 w') := takes_any 3 tComma X9.out.1
            rw [show sTk G none 3 tComma = if sIs G none 3 tComma then nx none else none from rfl] at HT
            rw [show sIs G none 3 tComma = false from rfl] at HT
            go_wp2_with fail
            refine (show Calls Tryz.prog 73 _ _ _ from HT.out).mono ?_
            rintro e w10 ⟨rfl, r10, g10⟩
            have X10 : Hid (RdS w10 p a cap G none ∧ GB p w w10 ∧ OwnZ w10 w.heap.size u9 acc2) := ⟨r10, gb_trans X9.out.2.1 g10, own_gb X9.out.2.2 H0.out.2 g10⟩
            have HO : Hid (o = (acc2, none)) := by
              unfold Hid
              rw [HI.out.1, HF.out.2, HG.out]
              rfl
            clear r10 g10 HT X9 HI
            go_wp2
            go_ret
            rw [HO.out]
            exact ⟨_, rfl, X10.out.2.2, X10.out.1, X10.out.2.1⟩
          · obtain ⟨ua, ucap, rfl, hN, _⟩ := own_nums X7.out.2.2 rfl
            have HIN : Hid (Calls Tryz.prog 114 #[.slice ua acc.length ucap, .int .i64 c] w7 fun e w' => e = .returned (.bool (acc.contains c)) ∧ w7 = w') := l09In_any ua ucap acc c w7 (by omega) hN
            have HG : Hid (sGot G acc (some i) = if acc.contains c then none else s2) := by unfold Hid sGot; rw [HC.out]; simp [hc0]
            clear hN
            generalize acc.contains c = zi at *
            obtain ⟨an, han⟩ : ∃ an, an = acc.length := ⟨_, rfl⟩
            have HAN : Hid (an = acc.length) := han
            rw [← han] at HIN X7
            rw [← han]
            clear han
            cases zi
            · have HG : Hid (sGot G acc (some i) = s2) := HG.out
              go_wp2_with fail
              refine (show Calls Tryz.prog 114 _ _ _ from HIN.out).mono ?_
              rintro e w8 ⟨rfl, rfl⟩
              have X8 : Hid _ := X7.out
              clear HIN X7
              have HPT : Hid (Calls Tryz.prog 115 #[.slice ua an ucap, .int .i64 c] w7 fun e w' => ∃ u, e = .returned u ∧ OwnZ w' w.heap.size u (putZ acc c) ∧ Ext w7 w') := put_any X8.out.2.1.size hacc X8.out.2.2
              have hpl : (putZ acc c).length ≤ acc.length + 1 := putZ_len acc c
              generalize putZ acc c = acc2 at *
              go_wp2_with fail
              refine (show Calls Tryz.prog 115 _ _ _ from HPT.out).mono ?_
              rintro e w9 ⟨u9, rfl, o9, x9⟩
              have X9 : Hid (RdS w9 p a cap G s2 ∧ GB p w w9 ∧ OwnZ w9 w.heap.size u9 acc2) := ⟨X8.out.1.step x9, gb_trans X8.out.2.1 (gb_ext x9), o9⟩
              clear x9 o9 HPT X8
              have HT : Hid (Calls Tryz.prog 73 #[.pointer (some ⟨p, 0, none⟩), .int .i64 3, .string ⟨#[44]⟩] w9 fun e w' => e = .returned (.bool (sIs G s2 3 tComma)) ∧ RdS w' p a cap G (sTk G s2 3 tComma) ∧ GB p w9 w') := takes_any 3 tComma X9.out.1
              rw [show sTk G s2 3 tComma = if sIs G s2 3 tComma then nx s2 else s2 from rfl] at HT
              generalize hz : sIs G s2 3 tComma = z at *
              cases z
              · go_wp2_with fail
                refine (show Calls Tryz.prog 73 _ _ _ from HT.out).mono ?_
                rintro e w10 ⟨rfl, r10, g10⟩
                have X10 : Hid (RdS w10 p a cap G s2 ∧ GB p w w10 ∧ OwnZ w10 w.heap.size u9 acc2) := ⟨r10, gb_trans X9.out.2.1 g10, own_gb X9.out.2.2 H0.out.2 g10⟩
                have HO : Hid (o = (acc2, s2)) := by
                  unfold Hid
                  rw [HI.out.1, HF.out.2, HG.out]
                  rw [hz]; rfl
                clear r10 g10 HT X9 HI
                go_wp2
                go_ret
                rw [HO.out]
                exact ⟨_, rfl, X10.out.2.2, X10.out.1, X10.out.2.1⟩
              · obtain ⟨j, rfl, hj⟩ := sIs_lt hz
                have hij := (HJ.out j rfl)
                have HO : Hid (o = sNumsF (f - 1) G acc2 (some (j + 1)) ∧ G.length + 1 ≤ j + 1 + (f - 1) ∧ acc2.length ≤ j + 1 ∧ sLeft wr p = 1301 - i ∧ i < j ∧ j < 1300) := by
                  have h1 := HI.out.2.1 i rfl
                  have h2 := HF.out.1
                  have h3 := HI.out.2.2.1.left
                  have h4 := X9.out.1.at.2
                  refine ⟨?_, by omega, by omega, h3, hij, by omega⟩
                  rw [HI.out.1, HF.out.2, HG.out, hz]
                  rfl
                clear HI hz
                go_wp2_with fail
                refine (show Calls Tryz.prog 73 _ _ _ from HT.out).mono ?_
                rintro e w10 ⟨rfl, r10, g10⟩
                have X10 : Hid (RdS w10 p a cap G (some (j + 1)) ∧ GB p w w10 ∧ OwnZ w10 w.heap.size u9 acc2) := ⟨r10, gb_trans X9.out.2.1 g10, own_gb X9.out.2.2 H0.out.2 g10⟩
                clear r10 g10 HT X9
                go_wp2
                go_roundw
                case rel => exact ⟨acc2, some (j + 1), f - 1, HO.out.1, (fun k hk => by injection hk with hk; subst hk; exact ⟨HO.out.2.1, HO.out.2.2.1⟩), X10.out⟩
                case measure =>
                  have h1 := X10.out.1.left
                  have h2 := HO.out.2.2.2
                  rw [h1, h2.1]
                  simp only [stLeft]
                  omega
            · have HG : Hid (sGot G acc (some i) = none) := HG.out
              have X8 : Hid (RdS (w7.setCell ⟨p, 2, none⟩ (.bool true)) p a cap G none ∧ GB p w (w7.setCell ⟨p, 2, none⟩ (.bool true)) ∧ OwnZ (w7.setCell ⟨p, 2, none⟩ (.bool true)) w.heap.size (.slice ua an ucap) acc) := ⟨X7.out.1.bad, gb_trans X7.out.2.1 (gb_set _ _ _ _), own_gb X7.out.2.2 H0.out.2 (gb_set _ _ _ _)⟩
              obtain ⟨i7, b7, hK, _⟩ := X7.out.1
              have f1 := hK.free
              have c2 := hK.cell 2 _ rfl
              clear hK X7
              go_wp2_with fail
              refine (show Calls Tryz.prog 114 _ _ _ from HIN.out).mono ?_
              rintro e w8 ⟨rfl, rfl⟩
              clear HIN
              go_wp2_with fail
              generalize w7.setCell ⟨p, 2, none⟩ (.bool true) = w8 at *
              clear f1 c2
              have HPT : Hid (Calls Tryz.prog 115 #[.slice ua an ucap, .int .i64 c] w8 fun e w' => ∃ u, e = .returned u ∧ OwnZ w' w.heap.size u (putZ acc c) ∧ Ext w8 w') := put_any X8.out.2.1.size hacc X8.out.2.2
              have hpl : (putZ acc c).length ≤ acc.length + 1 := putZ_len acc c
              generalize putZ acc c = acc2 at *
              go_wp2_with fail
              refine (show Calls Tryz.prog 115 _ _ _ from HPT.out).mono ?_
              rintro e w9 ⟨u9, rfl, o9, x9⟩
              have X9 : Hid (RdS w9 p a cap G none ∧ GB p w w9 ∧ OwnZ w9 w.heap.size u9 acc2) := ⟨X8.out.1.step x9, gb_trans X8.out.2.1 (gb_ext x9), o9⟩
              clear x9 o9 HPT X8
              have HT : Hid (Calls Tryz.prog 73 #[.pointer (some ⟨p, 0, none⟩), .int .i64 3, .string ⟨#[44]⟩] w9 fun e w' => e = .returned (.bool (sIs G none 3 tComma)) ∧ RdS w' p a cap G (sTk G none 3 tComma) ∧ GB p w9 w') := takes_any 3 tComma X9.out.1
              rw [show sTk G none 3 tComma = if sIs G none 3 tComma then nx none else none from rfl] at HT
              rw [show sIs G none 3 tComma = false from rfl] at HT
              go_wp2_with fail
              refine (show Calls Tryz.prog 73 _ _ _ from HT.out).mono ?_
              rintro e w10 ⟨rfl, r10, g10⟩
              have X10 : Hid (RdS w10 p a cap G none ∧ GB p w w10 ∧ OwnZ w10 w.heap.size u9 acc2) := ⟨r10, gb_trans X9.out.2.1 g10, own_gb X9.out.2.2 H0.out.2 g10⟩
              have HO : Hid (o = (acc2, none)) := by
                unfold Hid
                rw [HI.out.1, HF.out.2, HG.out]
                rfl
              clear r10 g10 HT X9 HI
              go_wp2
              go_ret
              rw [HO.out]
              exact ⟨_, rfl, X10.out.2.2, X10.out.1, X10.out.2.1⟩

end Go.Proofs.YtojaohdmfahpmaaGreatDoor

/- Impl's reader of signs: a policy, and what a wrong sign leaves of it. -/
namespace Go.Proofs.YtojaohdmfahpmaaGreatDoor
open Go.RowKit
set_option linter.unusedVariables false

theorem as_wrong (w : World) : (Instr.typeAssert (.iface 103 (.agg #[])) 20 103 true).run Tryz.prog w = .ok (.tuple #[.agg #[], .bool true]) w := by kernel_rfl
theorem as_none (w : World) : (Instr.typeAssert .nilIface 20 103 true).run Tryz.prog w = .ok (.tuple #[.agg #[], .bool false]) w := by kernel_rfl

set_option maxRecDepth 100000 in
set_option maxHeartbeats 1000000 in
theorem catch_wrong (r s : Nat) (l : List Value) (b : Bool) (older : List PanicEntry) (w : World) (hl : l.length = 4) (hr : Kn w r l 26) (hs : Kn w s [.bool b] 4) (hrs : r ≠ s) :
    CallsD Tryz.prog 61 #[.pointer (some ⟨r, 0, none⟩), .pointer (some ⟨s, 0, none⟩)] (.panicking ({ v := .iface 103 (.agg #[]), recovered := false } :: older)) w fun e u w' =>
      e = .returned (.tuple #[]) ∧ u = .panicking ({ v := .iface 103 (.agg #[]), recovered := true } :: older) ∧ Kn w' r [.int .i64 0, .int .i64 0, .int .i64 0, .slice none 0 0] 26 ∧ Kn w' s [.bool false] 4 ∧ ∀ (p0 : Nat) (w0 : World), GB p0 w0 w → w0.heap.size ≤ r → w0.heap.size ≤ s → GB p0 w0 w' := by
  obtain ⟨l0, l1, l2, l3, rfl⟩ : ∃ l0 l1 l2 l3, l = [l0, l1, l2, l3] := by
    match l, hl with
    | [l0, l1, l2, l3], _ => exact ⟨_, _, _, _, rfl⟩
  refine callsD_of_wpS Tryz.func61 rfl fun c₀ cs hu => ?_
  apply wpS_seq
  apply wpS_region
  simp [wpOpsS, go_sem, recoverD, hu, Tryz.ntmps61, Exit.thenS, as_wrong]
  have kr := hr.alloc (.cells #[] 103)
  have ks := hs.alloc (.cells #[] 103)
  have fr := kr.free
  have fs := ks.free
  obtain ⟨c0, c1, c2, c3, d0⟩ := (⟨kr.cell 0 _ rfl, kr.cell 1 _ rfl, kr.cell 2 _ rfl, kr.cell 3 _ rfl, ks.cell 0 _ rfl⟩ : _ ∧ _ ∧ _ ∧ _ ∧ _)
  have FIN : Hid (Kn ((((((w.alloc (.cells #[] 103)).setCell ⟨r, 0, none⟩ (.int .i64 0)).setCell ⟨r, 1, none⟩ (.int .i64 0)).setCell ⟨r, 2, none⟩ (.int .i64 0)).setCell ⟨r, 3, none⟩ (.slice none 0 0)).setCell ⟨s, 0, none⟩ (.bool false)) r [.int .i64 0, .int .i64 0, .int .i64 0, .slice none 0 0] 26 ∧ Kn ((((((w.alloc (.cells #[] 103)).setCell ⟨r, 0, none⟩ (.int .i64 0)).setCell ⟨r, 1, none⟩ (.int .i64 0)).setCell ⟨r, 2, none⟩ (.int .i64 0)).setCell ⟨r, 3, none⟩ (.slice none 0 0)).setCell ⟨s, 0, none⟩ (.bool false)) s [.bool false] 4 ∧ ∀ (p0 : Nat) (w0 : World), GB p0 w0 w → w0.heap.size ≤ r → w0.heap.size ≤ s → GB p0 w0 ((((((w.alloc (.cells #[] 103)).setCell ⟨r, 0, none⟩ (.int .i64 0)).setCell ⟨r, 1, none⟩ (.int .i64 0)).setCell ⟨r, 2, none⟩ (.int .i64 0)).setCell ⟨r, 3, none⟩ (.slice none 0 0)).setCell ⟨s, 0, none⟩ (.bool false))) :=
    ⟨((((kr.set 0 _).set 1 _).set 2 _).set 3 _).other hrs _ _, ((((ks.other (Ne.symm hrs) _ _).other (Ne.symm hrs) _ _).other (Ne.symm hrs) _ _).other (Ne.symm hrs) _ _).set 0 _, fun p0 w0 h h1 h2 => gb_fresh (gb_fresh (gb_fresh (gb_fresh (gb_fresh (gb_alloc h _) h1) h1) h1) h1) h2⟩
  clear hr hs kr ks
  generalize w.alloc (.cells #[] 103) = W1 at *
  apply wpS_seq
  apply wpS_region
  simp [wpOpsS, go_sem, Exit.thenS]
  refine wpS_cond (t := true) (by simp [Act.eval, Array.replicate]) ?_
  simp only [if_true]
  apply wpS_region
  simp [wpOpsS, go_sem, *]
  exact ⟨rfl, _, rfl, .tuple #[], by simp [results, Tryz.results61, go_sem], rfl, rfl, FIN.out⟩

set_option maxRecDepth 100000 in
set_option maxHeartbeats 1000000 in
theorem catch_idle (r s : Nat) (w : World) :
    CallsD Tryz.prog 61 #[.pointer (some ⟨r, 0, none⟩), .pointer (some ⟨s, 0, none⟩)] .returning w fun e u w' => e = .returned (.tuple #[]) ∧ u = .returning ∧ Ext w w' := by
  refine callsD_of_wpS Tryz.func61 rfl fun c₀ cs hu => ?_
  apply wpS_seq
  apply wpS_region
  simp [wpOpsS, go_sem, recoverD, hu, Tryz.ntmps61, Exit.thenS, as_none]
  have X : Hid (Ext w (w.alloc (.cells #[] 103))) := Ext.one _ _
  generalize hW : w.alloc (.cells #[] 103) = W1 at *
  apply wpS_seq
  apply wpS_region
  simp [wpOpsS, go_sem, Exit.thenS]
  refine wpS_cond (t := false) (by simp [Act.eval, Array.replicate]) ?_
  simp only [Bool.false_eq_true, if_false]
  refine wpS_of_wp (wp_skip ?_)
  cases c₀
  simp_all [bodyPostS, results, Tryz.results61, X.out]
  try exact X.out

end Go.Proofs.YtojaohdmfahpmaaGreatDoor

namespace Go.Proofs.YtojaohdmfahpmaaGreatDoor
open Go Go.RowKit
set_option linter.unusedVariables false

def LR.lastsC : LR → Prop
  | .inl _ => True
  | .inr R => ∀ v w w', R v w → R v w'

def lastsAllC : List LR → Prop
  | [] => True
  | r :: l => r.lastsC ∧ lastsAllC l

theorem lastsAllC_spec : ∀ {l : List LR}, lastsAllC l → ∀ r ∈ l, r.lastsC
  | [], _, _, h => by cases h
  | _ :: _, h, _, hr => by
    cases hr with
    | head => exact h.1
    | tail _ hr => exact lastsAllC_spec h.2 _ hr

section
variable {P : Program} {ops : Array Oper} {md : Region.Mode} {C : World → Prop} {L : Nat → LR}

def stepC (P : Program) (C : World → Prop) (o : Oper) (a : Act) (w : World) (R : Value → World → Prop) : Prop :=
  o.wp P a w (fun a' w' => ∃ v, a' = a.put o.dst v ∧ C w' ∧ R v w') (fun _ _ _ => False)

/-- The step of an operation that does not look at a slot. -/
theorem stepC_congr {o : Oper} {a b : Act} {w : World} {R : Value → World → Prop} (hs : a.tmps.size = b.tmps.size) (he : execOp a.eval o = execOp b.eval o) (h : stepC P C o a w R) : stepC P C o b w R := by
  unfold stepC Oper.wp at *
  rw [← he]
  generalize (execOp a.eval o).run P w = r at *
  cases r with
  | ok n w' =>
    cases n <;> simp only [Oper.upon] at h ⊢
    case value u => obtain ⟨v, h1, h2⟩ := h; exact ⟨v, put_same hs h1, h2⟩
    case skip => obtain ⟨v, h1, h2⟩ := h; exact ⟨v, put_same hs h1, h2⟩
    case defer d =>
      obtain ⟨v, h1, _⟩ := h
      have := congrArg (fun x : Act => x.defers.length) h1
      simp [defers_put] at this
    case enter f args =>
      refine Calls.mono h fun e w'' he => ?_
      cases e with
      | returned u => obtain ⟨v, h1, h2⟩ := he; exact ⟨v, put_same hs h1, h2⟩
      | panicked c => exact he
      | outgrown => exact he
    case row row args => exact Rows.mono h fun u w'' he => by obtain ⟨v, h1, h2⟩ := he; exact ⟨v, put_same hs h1, h2⟩
  | halt x w' => cases x <;> simp only [Oper.upon] at h ⊢

/-- What is asked of an operation in the walk. -/
def lOpC (P : Program) (md : Region.Mode) (ops : Array Oper) (C : World → Prop) (L : Nat → LR) (j : Nat) (K : Act → Prop) (a : Act) : Prop :=
  match ops[j]? with
  | none => K a
  | some o =>
    if Region.wanted o (yielded ops a.tmps) then (∀ w, C w → depRel md ops L o a w → stepC P C o a w (L j).holds) ∧ ∀ v, (L j).fits v → K (a.put o.dst v)
    else L j = .inl undef ∧ K (a.put o.dst undef)

def wpAnyC (P : Program) (md : Region.Mode) (ops : Array Oper) (C : World → Prop) (L : Nat → LR) (n : Nat) (Lq : Array Bool → Act → Prop) : Nat → Array Bool → Act → Prop
  | 0, listed, a => Lq listed a
  | f + 1, listed, a =>
    Region.ready md ops listed ≠ [] ∧ ∀ i ∈ Region.ready md ops listed, i < n ∧ lOpC P md ops C L i (wpAnyC P md ops C L n Lq f (listed.setIfInBounds i true)) a

theorem LR.slot_any {r : LR} (hl : r.lastsC) {o : Oper} {a : Act} {w w' : World} (h : r.slot o a w) : r.slot o a w' := by
  cases r with
  | inl c => simp [LR.slot]
  | inr R =>
    cases hd : o.dst with
    | none => simp [LR.slot, hd]
    | some d =>
      simp only [LR.slot, hd] at h ⊢
      exact fun hs => hl _ _ _ (h hs)

theorem allRelC_put (hA : apartB ops L = true) (hlast : ∀ k, (L k).lastsC) {listed : Array Bool} {a : Act} {w w' : World} {i : Nat} {oi : Oper} {v : Value} (hi : ops[i]? = some oi) (hall : allRel ops L listed a w) (hv : (L i).holds v w') : allRel ops L (listed.setIfInBounds i true) (a.put oi.dst v) w' := by
  intro k ok hk hl
  by_cases hki : k = i
  · subst hki
    have : ok = oi := Option.some.inj (hk.symm.trans hi)
    subst this
    cases hR : L k with
    | inl c => simp [LR.slot]
    | inr R =>
      cases hd : ok.dst with
      | none => simp [LR.slot, hd]
      | some d =>
        rw [hR] at hv
        simp only [LR.holds] at hv
        simp only [LR.slot, hd, size_put]
        intro hs
        simp [Act.put, hs]
        exact hv
  · have hl' : listed.getD k false = true := (getD_set_self hl).resolve_left hki
    exact (slot_put (fun R d hR hd => apartB_spec hA hk hi hR hd (fun hh => hki hh.symm))).2 (LR.slot_any (hlast k) (hall k ok hk hl'))

theorem wpAny_of_C {n g : Nat} {Lq : Array Bool → Act → Prop} {Q' : Exit → Act → World → Prop} (hA : apartB ops L = true) (hlast : ∀ k, (L k).lastsC)
    (hL : ∀ listed a w, Lq listed a → C w → allRel ops L listed a w → wpAny P md ops Q' g listed a w) :
    ∀ (f : Nat) (listed : Array Bool) (a : Act) (w : World), C w → allRel ops L listed a w → wpAnyC P md ops C L n Lq f listed a → wpAny P md ops Q' (f + g) listed a w
  | 0, listed, a, w, hw, hall, h => by rw [Nat.zero_add]; exact hL _ _ _ h hw hall
  | f + 1, listed, a, w, hw, hall, h => by
    rw [show f + 1 + g = (f + g) + 1 by omega]
    refine ⟨fun h0 => absurd h0 h.1, fun i hi => ?_⟩
    obtain ⟨_, oi, hoi, hdeps⟩ := mem_ready.1 hi
    have h1 := (h.2 i hi).2
    unfold lOpC at h1
    unfold wpOp
    simp only [hoi] at h1 ⊢
    split
    · rename_i hwant
      simp only [hwant, if_true] at h1
      obtain ⟨hst, hK⟩ := h1
      have hdep : depRel md ops L oi a w := fun e he hb ok hok => hall _ _ hok (hdeps e he hb)
      have hs := hst w hw hdep
      refine .inl ?_
      unfold stepC at hs
      have step : ∀ a' w', (∃ v, a' = a.put oi.dst v ∧ C w' ∧ (L i).holds v w') → wpAny P md ops Q' (f + g) (listed.setIfInBounds i true) a' w' := by
        rintro a' w' ⟨v, rfl, hE, hv⟩
        exact wpAny_of_C hA hlast hL f _ _ _ hE (allRelC_put hA hlast hoi hall hv) (hK v (LR.fits_of hv))
      unfold Oper.wp at hs ⊢
      generalize (execOp a.eval oi).run P w = r at *
      cases r with
      | ok m w' =>
        cases m <;> simp only [Oper.upon] at hs ⊢
        case enter f args =>
          refine Calls.mono hs fun e w'' he => ?_
          cases e with
          | returned u => exact step _ _ he
          | panicked c => exact he.elim
          | outgrown => obtain ⟨_, _, hh⟩ := he; exact hh.elim
        case row row args => exact Rows.mono hs fun u w'' he => step _ _ he
        all_goals exact step _ _ hs
      | halt x w' => cases x <;> simp only [Oper.upon] at hs
    · rename_i hwant
      simp only [hwant] at h1
      obtain ⟨hv, hK⟩ := h1
      exact wpAny_of_C hA hlast hL f _ _ _ hw (allRelC_put hA hlast hoi hall (by rw [hv]; rfl)) hK

def TakesC (P : Program) (md : Region.Mode) (ops : Array Oper) (C : World → Prop) (L : Nat → LR) (o : Oper) (k : Nat) (a : Act) : Prop :=
  (Region.wanted o (yielded ops a.tmps) = true ∧ ∀ w, C w → depRel md ops L o a w → stepC P C o a w (L k).holds) ∨
  (Region.wanted o (yielded ops a.tmps) = false ∧ L k = .inl undef)

theorem lOpC_mk {i : Nat} {oi : Oper} {K : Act → Prop} {a : Act} (hi : ops[i]? = some oi) (ht : TakesC P md ops C L oi i a) (hK : ∀ v, (L i).fits v → K (a.put oi.dst v)) : lOpC P md ops C L i K a := by
  unfold lOpC
  simp only [hi]
  rcases ht with ⟨hw, hs⟩ | ⟨hw, hv⟩
  · simp only [hw, if_true]; exact ⟨hs, hK⟩
  · simp only [hw, Bool.false_eq_true, if_false]; exact ⟨hv, hK _ (by rw [hv]; rfl)⟩

theorem lOpC_out {i : Nat} {oi : Oper} {K : Act → Prop} {a : Act} (hi : ops[i]? = some oi) (h : lOpC P md ops C L i K a) : TakesC P md ops C L oi i a ∧ ∀ v, (L i).fits v → K (a.put oi.dst v) := by
  unfold lOpC at h
  simp only [hi] at h
  by_cases hw : Region.wanted oi (yielded ops a.tmps) = true
  · simp only [hw, if_true] at h
    exact ⟨.inl ⟨hw, h.1⟩, h.2⟩
  · simp only [hw] at h
    refine ⟨.inr ⟨by simpa using hw, h.1⟩, fun v hv => ?_⟩
    rw [h.1] at hv
    simp only [LR.fits] at hv
    subst hv
    exact h.2

theorem TakesC_put (hA : apartB ops L = true) {i k : Nat} {oi o : Oper} {a : Act} {v : Value} (hi : ops[i]? = some oi) (hs : ∀ cs b, o.op ≠ .select cs b)
    (hl : ∀ d, oi.dst = some d → d ∉ o.looksAt ops) (hnot : ∀ e ∈ o.after, Region.binds md e = true → e.on ≠ i) : TakesC P md ops C L o k (a.put oi.dst v) ↔ TakesC P md ops C L o k a := by
  unfold TakesC
  rw [wanted_put o a oi.dst v hl]
  have hx : execOp (a.put oi.dst v).eval o = execOp a.eval o := execOp_put o hs a oi.dst v hl
  have hz := size_put a oi.dst v
  constructor
  · rintro (⟨hw, h⟩ | h)
    · exact .inl ⟨hw, fun w hC hd => stepC_congr hz hx (h w hC ((depRel_put hA hi hnot).2 hd))⟩
    · exact .inr h
  · rintro (⟨hw, h⟩ | h)
    · exact .inl ⟨hw, fun w hC hd => stepC_congr hz.symm hx.symm (h w hC ((depRel_put hA hi hnot).1 hd))⟩
    · exact .inr h

theorem wpAnyC_first {n i : Nat} {oi : Oper} {Lq : Array Bool → Act → Prop} (hA : apartB ops L = true) (hi : ops[i]? = some oi) (hsel : ∀ (j : Nat) (o : Oper) cs b, ops[j]? = some o → o.op ≠ .select cs b)
    (hT : ∀ listed, HeadInv md ops n listed → ∀ i, i < n → listed.getD i true = false → ∀ j ∈ Region.ready md ops listed, j < n) (hin : i < n)
    (hdone : ∀ listed a, Lq listed a → ∀ j ∈ Region.ready md ops listed, n ≤ j) :
    ∀ (f : Nat) (listed : Array Bool) (a : Act), HeadInv md ops n listed →
      (∀ j oj, ops[j]? = some oj → j ≠ i → listed.getD j true = false → (∀ e ∈ oj.after, Region.binds md e = true → e.on ≠ i) → oi.apart ops oj = true) →
      i ∈ Region.ready md ops listed → TakesC P md ops C L oi i a →
      (∀ v, (L i).fits v → wpAnyC P md ops C L n Lq f (listed.setIfInBounds i true) (a.put oi.dst v)) → wpAnyC P md ops C L n Lq (f + 1) listed a := by
  intro f
  induction f with
  | zero =>
    intro listed a inv _ hr hy H
    have hun := (mem_ready.1 hr).1
    refine ⟨fun h => (by rw [h] at hr; cases hr), fun j hj => ?_⟩
    have hjn : j < n := hT listed inv i hin hun j hj
    refine ⟨hjn, ?_⟩
    by_cases hji : j = i
    · subst hji; exact lOpC_mk hi hy H
    · obtain ⟨v0, hv0⟩ := (L i).fits_some
      have := hdone _ _ (H v0 hv0) j (ready_mono hj hji)
      omega
  | succ f ih =>
    intro listed a inv hfree hr hy H
    have hun := (mem_ready.1 hr).1
    refine ⟨fun h => (by rw [h] at hr; cases hr), fun j hj => ?_⟩
    have hjn : j < n := hT listed inv i hin hun j hj
    refine ⟨hjn, ?_⟩
    by_cases hji : j = i
    · subst hji; exact lOpC_mk hi hy H
    · obtain ⟨hjun, oj, hoj, hall⟩ := mem_ready.1 hj
      obtain ⟨_, oi', hoi', halli⟩ := mem_ready.1 hr
      have hoe : oi' = oi := Option.some.inj (hoi'.symm.trans hi)
      subst hoe
      have hnot : ∀ e ∈ oj.after, Region.binds md e = true → e.on ≠ i := fun e he hb heq => by
        have h1 := hall e he hb
        rw [heq, getD_both hun] at h1
        cases h1
      have hnoti : ∀ e ∈ oi'.after, Region.binds md e = true → e.on ≠ j := fun e he hb heq => by
        have h1 := halli e he hb
        rw [heq, getD_both hjun] at h1
        cases h1
      obtain ⟨a1, a2, a3⟩ := Oper.apart_spec (hfree j oj hoj hji hjun hnot)
      have h1 : ∀ v, (L i).fits v → TakesC P md ops C L oj j (a.put oi'.dst v) ∧ ∀ u, (L j).fits u → wpAnyC P md ops C L n Lq f ((listed.setIfInBounds i true).setIfInBounds j true) ((a.put oi'.dst v).put oj.dst u) :=
        fun v hv => lOpC_out hoj ((H v hv).2 j (ready_mono hj hji)).2
      obtain ⟨v0, hv0⟩ := (L i).fits_some
      have hfree' : ∀ k ok, ops[k]? = some ok → k ≠ i → (listed.setIfInBounds j true).getD k true = false →
          (∀ e ∈ ok.after, Region.binds md e = true → e.on ≠ i) → oi'.apart ops ok = true := fun k ok hk hki hun hno => by
        refine hfree k ok hk hki ?_ hno
        by_cases hjk : j = k
        · subst hjk; exact hjun
        · rw [getD_set_ne true hjk] at hun; exact hun
      refine lOpC_mk hoj ((TakesC_put hA hi (fun cs b => hsel j oj cs b hoj) a1 hnot).1 (h1 v0 hv0).1) fun u hu => ?_
      refine ih (listed.setIfInBounds j true) (a.put oj.dst u) (inv.set hj hjn) hfree' (ready_mono hr (Ne.symm hji)) ((TakesC_put hA hoj (fun cs b => hsel i oi' cs b hi) a3 hnoti).2 hy) fun v hv => ?_
      have h2 := (h1 v hv).2 u hu
      rw [Array.setIfInBounds_comm _ _ (Ne.symm hji), Act.put_comm a v u a2] at h2
      exact h2

/-- The walk in the order of the text. -/
def wpLooseC (P : Program) (md : Region.Mode) (ops : Array Oper) (C : World → Prop) (L : Nat → LR) (fin : Act → Prop) : List Oper → Nat → Act → Prop
  | [], _, a => fin a
  | o :: rest, k, a => TakesC P md ops C L o k a ∧ ∀ v, (L k).fits v → wpLooseC P md ops C L fin rest (k + 1) (a.put o.dst v)

theorem wpAnyC_lex {n g : Nat} {fin : Act → Prop} (hA : apartB ops L = true) (hsel : Region.noSelect ops = true)
    (hT : ∀ listed, HeadInv md ops n listed → ∀ i, i < n → listed.getD i true = false → ∀ j ∈ Region.ready md ops listed, j < n) :
    ∀ (l : List Oper) (k : Nat) (listed : Array Bool) (a : Act), (∀ j, j < l.length → l[j]? = ops[k + j]?) → k + l.length = n → HeadInv md ops n listed → (∀ j, j < k → listed.getD j false = true) →
    Region.lexHead md ops g l.length k listed = true → wpLooseC P md ops C L fin l k a →
    wpAnyC P md ops C L n (fun listed' a' => Region.seqB md ops g n listed' = true ∧ (∀ j, j < n → listed'.getD j false = true) ∧ fin a') l.length listed a
  | [], k, listed, a, _, hk, _, hd, hB, h => by
    have : k = n := by simpa using hk
    subst this
    exact ⟨by simpa [Region.lexHead] using hB, hd, h⟩
  | o :: l, k, listed, a, hl, hk, inv, hd, hB, h => by
    have h0 : ops[k]? = some o := by simpa using (hl 0 (by simp)).symm
    simp only [List.length_cons, Region.lexHead, Bool.and_eq_true] at hB
    obtain ⟨⟨hr, hf⟩, hB'⟩ := hB
    have hkn : k < n := by simp only [List.length_cons] at hk; omega
    have hr' : k ∈ Region.ready md ops listed := by simpa using hr
    have hks : k < listed.size := by rw [inv.size]; exact (Array.getElem?_eq_some_iff.1 h0).1
    refine wpAnyC_first hA h0 (Region.noSelect_spec hsel) hT hkn (fun listed' a' hL => seqB_ready hL.1) l.length listed a inv (Region.free_spec h0 hf) hr' h.1 fun v hv => ?_
    refine wpAnyC_lex hA hsel hT l (k + 1) _ _ (fun j hj => by have := hl (j + 1) (by simp; omega); simpa [Nat.add_assoc, Nat.add_comm 1 j] using this) (by simp only [List.length_cons] at hk; omega) (inv.set hr' hkn) (fun j hj => ?_) hB' (h.2 v hv)
    by_cases hjk : k = j
    · subst hjk; simp [hks]
    · rw [getD_set_ne false hjk]; exact hd j (by omega)

/-- Every order of all operations. -/
theorem wp_region_loosec {id : Nat} {Q : Exit → Act → World → Prop} {a : Act} {w : World} {l : List Oper} (Ls : List LR) (S : World → Prop) (hm : P.follows .mixedOrders = true) (hB : Region.lexB .any l.toArray = true)
    (hS : S w.drew) (hA : apartB l.toArray (fun k => Ls.getD k (.inl undef)) = true) (hlast : lastsAllC Ls)
    (h : wpLooseC P .any l.toArray S (fun k => Ls.getD k (.inl undef))
      (fun a' => ∀ w', S w' → (∀ k ok, l[k]? = some ok → (Ls.getD k (.inl undef)).slot ok a' w') → Q .normal a' w') l 0 a) : (Code.region id l.toArray true).wp P Q a w := by
  simp only [Region.lexB, Bool.and_eq_true] at hB
  obtain ⟨hsel, hlex⟩ := hB
  have inv0 : HeadInv .any l.toArray l.length (Array.replicate l.toArray.size false) :=
    ⟨by simp, fun j oj _ hl => (by rw [getD_replicate_false] at hl; cases hl), fun t _ ht => getD_in (by simpa using ht) (getD_replicate_false _ _)⟩
  have hT : ∀ listed, HeadInv .any l.toArray l.length listed → ∀ i, i < l.length → listed.getD i true = false → ∀ j ∈ Region.ready .any l.toArray listed, j < l.length := fun listed inv i hin hun j hj => by
    obtain ⟨_, o, ho, _⟩ := mem_ready.1 hj
    simpa using (Array.getElem?_eq_some_iff.1 ho).1
  have hlast' : ∀ k, (Ls.getD k (.inl undef)).lastsC := fun k => by
    rw [List.getD_eq_getElem?_getD]
    cases hk : Ls[k]? with
    | none => trivial
    | some r => exact lastsAllC_spec hlast r (List.mem_of_getElem? hk)
  have hlh : ∀ (f k : Nat) (listed : Array Bool), Region.lexFrom .any l.toArray f k listed = true → Region.lexHead .any l.toArray 0 f k listed = true := by
    intro f
    induction f with
    | zero => intro k listed h; simpa [Region.lexFrom, Region.lexHead, Region.seqB] using h
    | succ f ih =>
      intro k listed h
      simp only [Region.lexFrom, Region.lexHead, Bool.and_eq_true] at h ⊢
      exact ⟨h.1, ih _ _ h.2⟩
  have H := wpAnyC_lex (md := .any) (g := 0) (n := l.length) hA hsel hT l 0 _ a (fun j _ => by simp) (by simp) inv0 (fun j hj => by omega) (hlh _ _ _ (by simpa using hlex)) h
  refine wp_region_any hm ?_
  have := wpAny_of_C (Q' := Q) (g := 0) hA hlast' (fun listed a' w' hL hC hall =>
    ⟨by simpa [Region.seqB] using hL.1, hL.2.2 w' hC fun k ok hk => hall k ok (by simpa using hk) (hL.2.1 k (by rcases Nat.lt_or_ge k l.length with h | h; exact h; simp [List.getElem?_eq_none h] at hk))⟩) _ _ _ w.drew hS (fun k ok _ hl => by rw [getD_replicate_false] at hl; cases hl) H
  simpa using this

/-- One operation by the plain walk: what it yields is this. -/
theorem wpLooseC_val {fin : Act → Prop} {o : Oper} {rest : List Oper} {k : Nat} {a a' : Act} {c : Value} (hL : L k = .inl c) (hw : Region.wanted o (yielded ops a.tmps) = true)
    (hs : ∀ w, C w → depRel md ops L o a w → ∀ Q' : Exit → Act → World → Prop, (∀ w', C w' → Q' .normal a' w') → wpList P #[] Q' [bare o] a w)
    (ha : a.put o.dst c = a') (hn : wpLooseC P md ops C L fin rest (k + 1) a') : wpLooseC P md ops C L fin (o :: rest) k a := by
  refine ⟨.inl ⟨hw, fun w hC hd => ?_⟩, fun v hv => ?_⟩
  · have h1 := hs w hC hd (fun e a'' w' => e = .normal ∧ a'' = a.put o.dst c ∧ C w') (fun w' hE => ⟨rfl, ha.symm, hE⟩)
    unfold wpList at h1
    have hb : Region.wanted (bare o) (yielded #[] a.tmps) = true := rfl
    simp only [hb, if_true, bare_wp] at h1
    rcases h1 with h1 | ⟨_, _, _, h1, _⟩
    · unfold stepC Oper.wp at *
      generalize (execOp a.eval o).run P w = r at *
      rw [hL]
      cases r with
      | ok m w' =>
        cases m <;> simp only [Oper.upon] at h1 ⊢
        case enter f args =>
          refine Calls.mono h1 fun e w'' he => ?_
          cases e with
          | returned u => obtain ⟨_, h2, h3⟩ := he; exact ⟨c, h2, h3, rfl⟩
          | panicked _ => obtain ⟨h2, _⟩ := he; cases h2
          | outgrown => obtain ⟨_, _, h2, _⟩ := he; cases h2
        case row row args => exact Rows.mono h1 fun u w'' he => by obtain ⟨_, h2, h3⟩ := he; exact ⟨c, h2, h3, rfl⟩
        all_goals (obtain ⟨_, h2, h3⟩ := h1; exact ⟨c, h2, h3, rfl⟩)
      | halt x w' => cases x <;> simp only [Oper.upon] at h1 <;> (obtain ⟨h2, _⟩ := h1; cases h2)
    · cases h1
  · rw [hL] at hv
    simp only [LR.fits] at hv
    subst hv
    rw [ha]
    exact hn

/-- One operation by the plain walk: of what it yields a fact is known. -/
theorem wpLooseC_rel {fin : Act → Prop} {o : Oper} {rest : List Oper} {k : Nat} {a : Act} {R : Value → World → Prop} (hL : L k = .inr R) (hw : Region.wanted o (yielded ops a.tmps) = true)
    (hs : ∀ w, C w → depRel md ops L o a w → ∀ Q' : Exit → Act → World → Prop, (∀ v w', C w' → R v w' → Q' .normal (a.put o.dst v) w') → wpList P #[] Q' [bare o] a w)
    (hn : ∀ v, wpLooseC P md ops C L fin rest (k + 1) (a.put o.dst v)) : wpLooseC P md ops C L fin (o :: rest) k a := by
  refine ⟨.inl ⟨hw, fun w hC hd => ?_⟩, fun v _ => hn v⟩
  have h1 := hs w hC hd (fun e a'' w' => e = .normal ∧ ∃ v, a'' = a.put o.dst v ∧ C w' ∧ R v w') (fun v w' hE hR => ⟨rfl, v, rfl, hE, hR⟩)
  unfold wpList at h1
  have hb : Region.wanted (bare o) (yielded #[] a.tmps) = true := rfl
  simp only [hb, if_true, bare_wp] at h1
  rcases h1 with h1 | ⟨_, _, _, h1, _⟩
  · unfold stepC Oper.wp at *
    generalize (execOp a.eval o).run P w = r at *
    rw [hL]
    cases r with
    | ok m w' =>
      cases m <;> simp only [Oper.upon] at h1 ⊢
      case enter f args =>
        refine Calls.mono h1 fun e w'' he => ?_
        cases e with
        | returned u => exact he.2
        | panicked _ => obtain ⟨h2, _⟩ := he; cases h2
        | outgrown => obtain ⟨_, _, h2, _⟩ := he; cases h2
      case row row args => exact Rows.mono h1 fun u w'' he => he.2
      all_goals exact h1.2
    | halt x w' => cases x <;> simp only [Oper.upon] at h1 <;> (obtain ⟨h2, _⟩ := h1; cases h2)
  · cases h1

/-- One operation that is passed over. -/
theorem wpLooseC_skip {fin : Act → Prop} {o : Oper} {rest : List Oper} {k : Nat} {a : Act} (hL : L k = .inl undef) (hw : Region.wanted o (yielded ops a.tmps) = false)
    (hn : wpLooseC P md ops C L fin rest (k + 1) (a.put o.dst undef)) : wpLooseC P md ops C L fin (o :: rest) k a := by
  refine ⟨.inr ⟨hw, hL⟩, fun v hv => ?_⟩
  rw [hL] at hv
  simp only [LR.fits] at hv
  subst hv
  exact hn

theorem wpLooseC_nil {fin : Act → Prop} {k : Nat} {a : Act} (h : fin a) : wpLooseC P md ops C L fin [] k a := h

end
end Go.Proofs.YtojaohdmfahpmaaGreatDoor
