/- Spec's reader of signs: a number put in its place; a rule's numbers. -/
import Derived.Test.YtojaohdmfahpmaaGreatDoorPolPack22
import Derived.Test.YtojaohdmfahpmaaGreatDoorPolPack15
import Derived.Sort.OwnSortedInts
import Derived.Test.YtojaohdmfahpmaaGreatDoorPolPack23
/- Impl's reader of signs: rows of conditions and of numbers. -/
namespace Go.Proofs.YtojaohdmfahpmaaGreatDoor
open Go.RowKit
set_option linter.unusedVariables false

theorem Tryz.infoCd : (Tryz.prog.info? 78).map (fun i => (i.zero, i.size, i.bytes)) = some (some (.agg #[.int .i64 0, .int .i64 0, .int .i64 0, .int .i64 0, .int .i64 0, .int .i64 0]), 6, 48) := by kernel_rfl
theorem Tryz.infoIn : (Tryz.prog.info? 3).map (fun i => (i.zero, i.size, i.bytes)) = some (some (.int .i64 0), 1, 8) := by kernel_rfl

/-- The reader stays where only a fresh block is written. -/
theorem RdI.row {w0 w w' : World} {p : Nat} {a : Option Addr} {cap : Nat} {G : List Sg} {i0 i : Nat} {row : Option Nat} (h0 : RdI w0 p a cap G i0) (h : RdI w p a cap G i) (hg : w.grownBy w' row) (hr : ∀ x, row = some x → w0.heap.size ≤ x) : RdI w' p a cap G i := by
  have hp := h0.lt
  refine ⟨(hg.block p h.lt (fun e => by have := hr p e.symm; omega)).trans h.1, h.2.1, h.2.2.1, fun hl => ?_, h.2.2.2.2⟩
  obtain ⟨b, off, e, hc⟩ := h.2.2.2.1 hl
  obtain ⟨b0, off0, e0, hc0⟩ := h0.2.2.2.1 hl
  have hb : b = b0 := by rw [e] at e0; injection e0 with e0; injection e0
  have hlt := (hc0 0 hl).lt
  refine ⟨b, off, e, fun j hj => ?_⟩
  obtain ⟨c1, c2, c3⟩ := hc j hj
  have far : some b ≠ row := fun e => by have := hr b e.symm; omega
  exact ⟨hg.cell c1 far, hg.cell c2 far, hg.cell c3 far⟩

theorem gb_row {p : Nat} {w W W' : World} {row : Option Nat} (h : GB p w W) (hg : W.grownBy W' row) (hr : ∀ x, row = some x → w.heap.size ≤ x) : GB p w W' :=
  ⟨hg.os.trans h.os, hg.tape.trans h.tape, hg.output.trans h.output, Nat.le_trans h.size hg.size, fun i hi hne => (hg.block i (Nat.lt_of_lt_of_le hi h.size) (fun e => by have := hr i e.symm; omega)).trans (h.block i hi hne)⟩

theorem own_gb {w w' : World} {B e size n p : Nat} {v : Value} {xs : List Value} (h : w.ownsRow B e size v n xs) (hp : p < B) (hG : GB p w w') : w'.ownsRow B e size v n xs :=
  h.kept hG (by
    cases hv : v.ownBlock with
    | none => exact .inl rfl
    | some x => exact .inr (fun e => by have := (own_lt9 h hv).1; have := Option.some.inj e; omega))

/-- A row of conditions, or of numbers, that the call has made. -/
def OwnC (w : World) (B : Nat) (v : Value) (cs : List CN) : Prop := w.ownsRow B 78 6 v cs.length (flatC cs)
def OwnZ (w : World) (B : Nat) (v : Value) (zs : List Int) : Prop := w.ownsRow B 3 1 v zs.length (zs.map (Value.int .i64))

/-- What a reader's function leaves that makes a row. -/
def GotR {α : Type} (own : World → Value → List α → Prop) (o : Option (List α × Nat)) (p : Nat) (a : Option Addr) (cap : Nat) (G : List Sg) (e : Ending) (w' : World) : Prop :=
  match o with
  | some (l, j) => ∃ v, e = .returned v ∧ own w' v l ∧ RdI w' p a cap G j
  | none => e = Bad

theorem gotR_some {α : Type} {own : World → Value → List α → Prop} {o : Option (List α × Nat)} {l : List α} {j p : Nat} {a : Option Addr} {cap : Nat} {G : List Sg} {e : Ending} {w' : World} {v : Value} (h : o = some (l, j)) (he : e = .returned v) (ho : own w' v l) (hr : RdI w' p a cap G j) : GotR own o p a cap G e w' := by
  subst h; exact ⟨v, he, ho, hr⟩
theorem gotR_none {α : Type} {own : World → Value → List α → Prop} {o : Option (List α × Nat)} {p : Nat} {a : Option Addr} {cap : Nat} {G : List Sg} {e : Ending} {w' : World} (h : o = none) (he : e = Bad) : GotR own o p a cap G e w' := by
  subst h; exact he

/-- The reader's place, off the memory. -/
def rdAt (W : World) (p : Nat) : Nat := match W.cell? ⟨p, 1, none⟩ with
  | some (.int _ n) => n.toNat
  | _ => 0

theorem RdI.place {w : World} {p : Nat} {a : Option Addr} {cap : Nat} {G : List Sg} {i : Nat} (h : RdI w p a cap G i) : rdAt w p = i := by
  unfold rdAt
  rw [h.1.cell 1 _ rfl]
  simp

theorem and_more (f : Nat) (G : List Sg) (j : Nat) (hf : G.length ≤ j + f) :
    (isT G j tAnd = false → rAndF f G j = some ([], j)) ∧ (isT G j tAnd = true → ∃ f', f = f' + 1 ∧ G.length ≤ j + 1 + f' ∧ rAndF f G j = (match rCond G (j + 1) with
      | none => none
      | some (c, k) => (rAndF f' G k).map fun q => (c :: q.1, q.2))) := by
  refine ⟨fun h => ?_, fun h => ?_⟩
  · cases f with
    | zero => rfl
    | succ f => rw [rAndF, h]; rfl
  · have := isT_lt (by decide) h
    obtain ⟨f', rfl⟩ : ∃ f', f = f' + 1 := ⟨f - 1, by omega⟩
    exact ⟨f', rfl, by omega, by rw [rAndF, h]; rfl⟩

set_option maxRecDepth 100000 in
set_option maxHeartbeats 1600000 in
theorem rconds_any {w : World} {p : Nat} {a : Option Addr} {cap : Nat} {G : List Sg} {i : Nat} (h : RdI w p a cap G i) (hp0 : p ≠ 0) (hC : Cms w) :
    Calls Tryz.prog 109 #[.pointer (some ⟨p, 0, none⟩)] w fun e w' => GotR (fun W v l => OwnC W w.heap.size v l) (rConds G i) p a cap G e w' ∧ GB p w w' := by
  obtain ⟨i0, hi, hz0, hz1, hz2⟩ := info_parts Tryz.infoCd
  have HP := passes_any tIf (by decide) h
  have H0 : Hid (RdI w p a cap G i ∧ p < w.heap.size ∧ (∀ W, GB p w W → Cms W) ∧ p ≠ 0) := ⟨h, h.lt, fun W hG => hC.gb hp0 hG, hp0⟩
  have HM : Hid (rConds G i = if isT G i tIf then (match rCond G (i + 1) with
    | none => none
    | some (c, j) => (rAndF G.length G j).map fun q => (c :: q.1, q.2)) else some ([], i)) := rfl
  clear h hp0 hC
  obtain ⟨z, hz⟩ : ∃ z, z = isT G i tIf := ⟨_, rfl⟩
  rw [← hz] at HP HM
  have H1 : Hid (Calls Tryz.prog 104 #[.pointer (some ⟨p, 0, none⟩), .string ⟨#[105, 102]⟩] w fun e w' => e = .returned (.bool z) ∧ RdI w' p a cap G (if z then i + 1 else i) ∧ GB p w w') := HP
  clear HP hz
  cases z
  · go_enter Tryz.func109, Tryz.ntmps109
    go_wp2_with fail
    refine H1.out.mono ?_
    rintro e w1 ⟨rfl, r1, g1⟩
    have X1 : Hid (RdI w1 p a cap G i ∧ GB p w w1) := ⟨r1, g1⟩
    clear r1 g1 H1
    go_wp2
    go_ret
    exact ⟨gotR_some HM.out rfl (World.ownsRow_nil _ _ _ _) X1.out.1, X1.out.2⟩
  · have HM1 : Hid (rConds G i = (match rCond G (i + 1) with
      | none => none
      | some (c, j) => (rAndF G.length G j).map fun q => (c :: q.1, q.2))) := HM.out
    clear HM
    go_enter Tryz.func109, Tryz.ntmps109
    go_wp2_with fail
    refine H1.out.mono ?_
    rintro e w1 ⟨rfl, r1, g1⟩
    have X1 : Hid (RdI w1 p a cap G (i + 1) ∧ GB p w w1) := ⟨r1, g1⟩
    clear r1 g1 H1
    go_wp2_with fail
    cases e0 : rCond G (i + 1) with
    | none =>
      refine (show Calls Tryz.prog 127 _ _ _ from fails_of (val := CN.v) e0 (rcond_any X1.out.1 H0.out.2.2.2 (H0.out.2.2.1 _ X1.out.2))).mono ?_
      rintro e w2 ⟨rfl, g2⟩
      have F2 : Hid (GB p w w2) := gb_trans X1.out.2 g2
      have HN : Hid (rConds G i = none) := by unfold Hid; rw [HM1.out, e0]
      clear g2 e0
      go_wp2
      exact bad_panic rfl ⟨gotR_none HN.out rfl, F2.out⟩
    | some x =>
      obtain ⟨c, j⟩ := x
      have HJ : Hid (rConds G i = (rAndF G.length G j).map fun q => ([c] ++ q.1, q.2)) := by unfold Hid; rw [HM1.out, e0]; rfl
      have HL : Hid (j ≤ G.length ∧ 1 ≤ j) := by have := rCond_lt e0; exact ⟨by omega, by omega⟩
      refine (show Calls Tryz.prog 127 _ _ _ from gives_of (val := CN.v) e0 (rcond_any X1.out.1 H0.out.2.2.2 (H0.out.2.2.1 _ X1.out.2))).mono ?_
      rintro e w2 ⟨⟨rfl, r2⟩, g2⟩
      have X2 : Hid (RdI (w2.alloc (.cells c.l.toArray 78)) p a cap G j ∧ GB p w (w2.alloc (.cells c.l.toArray 78)) ∧ OwnC (w2.alloc (.cells c.l.toArray 78)) w.heap.size (.slice (some ⟨w2.heap.size, 0, none⟩) 1 1) [c]) :=
        ⟨r2.step (Ext.one _ _), gb_alloc (gb_trans X1.out.2 g2) _, World.ownsRow_lit (e := 78) (size := 6) w2 c.l.toArray 1 (Nat.le_trans X1.out.2.size g2.size) (by decide) (by simp [CN.l])⟩
      clear r2 g2 X1 HM1 e0
      obtain ⟨ag, mh, ml, cm, vh, vl⟩ := c
      unfold CN.v
      simp only [CN.l] at X2
      simp only
      go_wp2_with fail
      generalize w2.alloc (.cells #[.int .i64 ag, .int .i64 mh, .int .i64 ml, .int .i64 cm, .int .i64 vh, .int .i64 vl] 78) = W2 at *
      go_loopw [3] (fun v wr => ∃ (l : List CN) (j f : Nat), Hid ((rConds G i = (rAndF f G j).map fun q => (l ++ q.1, q.2)) ∧ G.length ≤ j + f ∧ l.length ≤ j ∧ RdI wr p a cap G j ∧ GB p w wr ∧ OwnC wr w.heap.size v l)) (fun _ W => G.length - rdAt W p)
      case atStart => exact ⟨_, j, G.length, HJ.out, by omega, by have := HL.out.2; simpa using this, X2.out⟩
      case round =>
        obtain ⟨l, j, f, HI⟩ := hrel
        have HP := passes_any tAnd (by decide) HI.out.2.2.2.1
        obtain ⟨m1, m2⟩ := and_more f G j HI.out.2.1
        obtain ⟨z, hz⟩ : ∃ z, z = isT G j tAnd := ⟨_, rfl⟩
        rw [← hz] at HP m1 m2
        have H1 : Hid (Calls Tryz.prog 104 #[.pointer (some ⟨p, 0, none⟩), .string ⟨#[97, 110, 100]⟩] wr fun e w' => e = .returned (.bool z) ∧ RdI w' p a cap G (if z then j + 1 else j) ∧ GB p wr w') := HP
        have M1 : Hid (z = false → rAndF f G j = some ([], j)) := m1
        have M2 : Hid (z = true → ∃ f', f = f' + 1 ∧ G.length ≤ j + 1 + f' ∧ rAndF f G j = (match rCond G (j + 1) with
          | none => none
          | some (c, k) => (rAndF f' G k).map fun q => (c :: q.1, q.2))) := m2
        clear HP m1 m2 hz X2 HJ HL
        cases z
        · go_wp2_with fail
          refine H1.out.mono ?_
          rintro e w3 ⟨rfl, r3, g3⟩
          have X3 : Hid (RdI w3 p a cap G j ∧ GB p w w3 ∧ OwnC w3 w.heap.size u3 l) := ⟨r3, gb_trans HI.out.2.2.2.2.1 g3, own_gb HI.out.2.2.2.2.2 H0.out.2.1 g3⟩
          have HN : Hid (rConds G i = some (l, j)) := by unfold Hid; rw [HI.out.1, M1.out (by first | rfl | trivial)]; simp
          clear r3 g3 H1 M1 M2 HI
          go_wp2
          go_ret
          exact ⟨gotR_some HN.out rfl X3.out.2.2 X3.out.1, X3.out.2.1⟩
        · go_wp2_with fail
          refine H1.out.mono ?_
          rintro e w3 ⟨rfl, r3, g3⟩
          have X3 : Hid (RdI w3 p a cap G (j + 1) ∧ GB p w w3 ∧ OwnC w3 w.heap.size u3 l) := ⟨r3, gb_trans HI.out.2.2.2.2.1 g3, own_gb HI.out.2.2.2.2.2 H0.out.2.1 g3⟩
          obtain ⟨f', hf, hf2, hf3⟩ := M2.out (by first | rfl | trivial)
          have HF : Hid (f = f' + 1 ∧ G.length ≤ j + 1 + f' ∧ rAndF f G j = (match rCond G (j + 1) with
            | none => none
            | some (c, k) => (rAndF f' G k).map fun q => (c :: q.1, q.2))) := ⟨hf, hf2, hf3⟩
          clear r3 g3 H1 M1 M2 hf hf2 hf3
          go_wp2_with fail
          cases e0 : rCond G (j + 1) with
          | none =>
            refine (show Calls Tryz.prog 127 _ _ _ from fails_of (val := CN.v) e0 (rcond_any X3.out.1 H0.out.2.2.2 (H0.out.2.2.1 _ X3.out.2.1))).mono ?_
            rintro e w4 ⟨rfl, g4⟩
            have F4 : Hid (GB p w w4) := gb_trans X3.out.2.1 g4
            have HN : Hid (rConds G i = none) := by unfold Hid; rw [HI.out.1, HF.out.2.2, e0]; rfl
            clear g4 e0
            go_wp2
            exact bad_panic rfl ⟨gotR_none HN.out rfl, F4.out⟩
          | some x =>
            obtain ⟨c, k⟩ := x
            have hlt := rCond_lt e0
            have HJ : Hid ((rConds G i = (rAndF f' G k).map fun q => ((l ++ [c]) ++ q.1, q.2)) ∧ G.length ≤ k + f' ∧ (l ++ [c]).length ≤ k ∧ j < k ∧ k ≤ G.length) := by
              refine ⟨?_, by have := HF.out.2.1; omega, by have := HI.out.2.2.1; simp; omega, by omega, hlt.2⟩
              rw [HI.out.1, HF.out.2.2, e0]
              simp only
              cases rAndF f' G k <;> simp
            have hlen : l.length ≤ 1200 := by have := HI.out.2.2.1; have := HI.out.2.2.2.1.2.1; have := HI.out.2.2.2.1.2.2.1; omega
            refine (show Calls Tryz.prog 127 _ _ _ from gives_of (val := CN.v) e0 (rcond_any X3.out.1 H0.out.2.2.2 (H0.out.2.2.1 _ X3.out.2.1))).mono ?_
            rintro e w4 ⟨⟨rfl, r4⟩, g4⟩
            have hown : w4.ownsRow w.heap.size 78 6 u3 l.length (flatC l) := own_gb X3.out.2.2 H0.out.2.1 g4
            have X4 : Hid (RdI w4 p a cap G k ∧ GB p w w4) := ⟨r4, gb_trans X3.out.2.1 g4⟩
            have hz4 : w.heap.size ≤ w4.heap.size := X4.out.2.size
            have HML : Hid (rdAt wr p = j) := HI.out.2.2.2.1.place
            clear r4 g4 X3 HI HF e0 hlt
            obtain ⟨ag, mh, ml, cm, vh, vl⟩ := c
            unfold CN.v
            simp only
            go_wp2_with (at_builtin; refine wpList_append_own _ rfl _ _ 51 rfl w.heap.size 78 i0 (.agg #[.int .i64 0, .int .i64 0, .int .i64 0, .int .i64 0, .int .i64 0, .int .i64 0]) 6 48 Tryz.underlying51 hi hz0 hz1 hz2 rfl (by decide) _ l.length _ rfl (hown.alloc _) ⟨w4.heap.size, 0, none⟩ 1 1 [.int .i64 ag, .int .i64 mh, .int .i64 ml, .int .i64 cm, .int .i64 vh, .int .i64 vl] rfl rfl ?c1 ?c2 ?c3 ?c4 ?c5 ?_)
            case c1 =>
              intro j u hu
              have := (CellsAt.new w4 [.int .i64 ag, .int .i64 mh, .int .i64 ml, .int .i64 cm, .int .i64 vh, .int .i64 vl] 78).2 j u hu
              rw [Addr.add_lit, Nat.zero_add]
              exact this
            case c2 => intro u hu; simp at hu; rcases hu with rfl | rfl | rfl | rfl | rfl | rfl <;> rfl
            case c3 => unfold maxLen; omega
            case c4 => omega
            case c5 => simp; omega
            · intro v' w5 hown5 hgrow5 _
              have hrow : ∀ x, Value.ownBlock u3 = some x → w.heap.size ≤ x := fun x hx => (own_lt9 hown hx).1
              have X5 : Hid (RdI w5 p a cap G k ∧ GB p w w5 ∧ OwnC w5 w.heap.size v' (l ++ [⟨ag, mh, ml, cm, vh, vl⟩])) := by
                refine ⟨H0.out.1.row (X4.out.1.step (Ext.one _ _)) hgrow5 hrow, gb_row (gb_alloc X4.out.2 _) hgrow5 hrow, ?_⟩
                have e := flatC_push l ⟨ag, mh, ml, cm, vh, vl⟩
                simp only [CN.l] at e
                rw [e] at hown5
                unfold OwnC
                rw [List.length_append]
                exact hown5
              clear hgrow5 hown5 hown X4
              go_wp2
              go_roundw
              case rel => exact ⟨_, k, f', HJ.out.1, HJ.out.2.1, HJ.out.2.2.1, X5.out⟩
              case measure =>
                have h1 := X5.out.1.place
                have h2 := HML.out
                have h3 := HJ.out.2.2.2
                rw [h1, h2]
                omega

theorem comma_more (f : Nat) (G : List Sg) (j : Nat) (hf : G.length ≤ j + f) :
    (isT G j tComma = false → rCommaF f G j = some ([], j)) ∧ (isT G j tComma = true → ∃ f', f = f' + 1 ∧ G.length ≤ j + 1 + f' ∧ rCommaF f G j = (match rCall G (j + 1) with
      | none => none
      | some (c, k) => (rCommaF f' G k).map fun q => (c :: q.1, q.2))) := by
  refine ⟨fun h => ?_, fun h => ?_⟩
  · cases f with
    | zero => rfl
    | succ f => rw [rCommaF, h]; rfl
  · have := isT_lt (by decide) h
    obtain ⟨f', rfl⟩ : ∃ f', f = f' + 1 := ⟨f - 1, by omega⟩
    exact ⟨f', rfl, by omega, by rw [rCommaF, h]; rfl⟩

set_option maxRecDepth 100000 in
set_option maxHeartbeats 1600000 in
theorem rnums_any {w : World} {p : Nat} {a : Option Addr} {cap : Nat} {G : List Sg} {i : Nat} (h : RdI w p a cap G i) (hG : Good G) :
    Calls Tryz.prog 108 #[.pointer (some ⟨p, 0, none⟩)] w fun e w' => GotR (fun W v l => OwnZ W w.heap.size v l) (rNums G i) p a cap G e w' ∧ GB p w w' := by
  obtain ⟨i0, hi, hz0, hz1, hz2⟩ := info_parts Tryz.infoIn
  have HP := passes_any tAny (by decide) h
  have H0 : Hid (RdI w p a cap G i ∧ p < w.heap.size ∧ Good G) := ⟨h, h.lt, hG⟩
  have HM : Hid (rNums G i = if isT G i tAny then some ([], i + 1) else (match rCall G i with
    | none => none
    | some (c, j) => (rCommaF G.length G j).map fun q => (sortZ (c :: q.1), q.2))) := rfl
  clear h hG
  obtain ⟨z, hz⟩ : ∃ z, z = isT G i tAny := ⟨_, rfl⟩
  rw [← hz] at HP HM
  have H1 : Hid (Calls Tryz.prog 104 #[.pointer (some ⟨p, 0, none⟩), .string ⟨#[97, 110, 121]⟩] w fun e w' => e = .returned (.bool z) ∧ RdI w' p a cap G (if z then i + 1 else i) ∧ GB p w w') := HP
  clear HP hz
  cases z
  case true =>
    go_enter Tryz.func108, Tryz.ntmps108
    go_wp2_with fail
    refine H1.out.mono ?_
    rintro e w1 ⟨rfl, r1, g1⟩
    have X1 : Hid (RdI w1 p a cap G (i + 1) ∧ GB p w w1) := ⟨r1, g1⟩
    clear r1 g1 H1
    go_wp2
    go_ret
    exact ⟨gotR_some HM.out rfl (World.ownsRow_nil _ _ _ _) X1.out.1, X1.out.2⟩
  case false =>
    have HM1 : Hid (rNums G i = (match rCall G i with
      | none => none
      | some (c, j) => (rCommaF G.length G j).map fun q => (sortZ (c :: q.1), q.2))) := HM.out
    clear HM
    go_enter Tryz.func108, Tryz.ntmps108
    go_wp2_with fail
    refine H1.out.mono ?_
    rintro e w1 ⟨rfl, r1, g1⟩
    have X1 : Hid (RdI w1 p a cap G i ∧ GB p w w1) := ⟨r1, g1⟩
    clear r1 g1 H1
    go_wp2_with fail
    cases e0 : rCall G i with
    | none =>
      refine (show Calls Tryz.prog 125 _ _ _ from fails_of (val := intV) e0 (callNum_any X1.out.1 H0.out.2.2)).mono ?_
      rintro e w2 ⟨rfl, g2⟩
      have F2 : Hid (GB p w w2) := gb_trans X1.out.2 g2
      have HN : Hid (rNums G i = none) := by unfold Hid; rw [HM1.out, e0]
      clear g2 e0
      go_wp2
      exact bad_panic rfl ⟨gotR_none HN.out rfl, F2.out⟩
    | some x =>
      obtain ⟨c, j⟩ := x
      have HJ : Hid (rNums G i = (rCommaF G.length G j).map fun q => (sortZ ([c] ++ q.1), q.2)) := by unfold Hid; rw [HM1.out, e0]; rfl
      have HL : Hid (j ≤ G.length ∧ 1 ≤ j) := by have := ((sCall_rel H0.out.2.2 i).1 c j e0).2.2; exact ⟨by omega, by omega⟩
      refine (show Calls Tryz.prog 125 _ _ _ from gives_of (val := intV) e0 (callNum_any X1.out.1 H0.out.2.2)).mono ?_
      rintro e w2 ⟨⟨rfl, r2⟩, g2⟩
      have X2 : Hid (RdI (w2.alloc (.cells #[.int .i64 c] 3)) p a cap G j ∧ GB p w (w2.alloc (.cells #[.int .i64 c] 3)) ∧ OwnZ (w2.alloc (.cells #[.int .i64 c] 3)) w.heap.size (.slice (some ⟨w2.heap.size, 0, none⟩) 1 1) [c]) :=
        ⟨r2.step (Ext.one _ _), gb_alloc (gb_trans X1.out.2 g2) _, World.ownsRow_lit (e := 3) (size := 1) w2 #[.int .i64 c] 1 (Nat.le_trans X1.out.2.size g2.size) (by decide) rfl⟩
      clear r2 g2 X1 HM1 e0
      unfold intV
      go_wp2_with fail
      generalize w2.alloc (.cells #[.int .i64 c] 3) = W2 at *
      go_loopw [3] (fun v wr => ∃ (l : List Int) (j f : Nat), Hid ((rNums G i = (rCommaF f G j).map fun q => (sortZ (l ++ q.1), q.2)) ∧ G.length ≤ j + f ∧ l.length ≤ j ∧ RdI wr p a cap G j ∧ GB p w wr ∧ OwnZ wr w.heap.size v l ∧ 1 ≤ l.length)) (fun _ W => G.length - rdAt W p)
      case atStart => exact ⟨_, j, G.length, HJ.out, by omega, by have := HL.out.2; simpa using this, X2.out.1, X2.out.2.1, X2.out.2.2, by simp⟩
      case round =>
        obtain ⟨l, j, f, HI⟩ := hrel
        have HP := passes_any tComma (by decide) HI.out.2.2.2.1
        obtain ⟨m1, m2⟩ := comma_more f G j HI.out.2.1
        obtain ⟨z, hz⟩ : ∃ z, z = isT G j tComma := ⟨_, rfl⟩
        rw [← hz] at HP m1 m2
        have H1 : Hid (Calls Tryz.prog 104 #[.pointer (some ⟨p, 0, none⟩), .string ⟨#[44]⟩] wr fun e w' => e = .returned (.bool z) ∧ RdI w' p a cap G (if z then j + 1 else j) ∧ GB p wr w') := HP
        have M1 : Hid (z = false → rCommaF f G j = some ([], j)) := m1
        have M2 : Hid (z = true → ∃ f', f = f' + 1 ∧ G.length ≤ j + 1 + f' ∧ rCommaF f G j = (match rCall G (j + 1) with
          | none => none
          | some (c, k) => (rCommaF f' G k).map fun q => (c :: q.1, q.2))) := m2
        clear HP m1 m2 hz X2 HJ HL
        have hlen : l.length ≤ 1200 := by have := HI.out.2.2.1; have := HI.out.2.2.2.1.2.1; have := HI.out.2.2.2.1.2.2.1; omega
        cases z
        · go_wp2_with fail
          refine H1.out.mono ?_
          rintro e w3 ⟨rfl, r3, g3⟩
          have hown : OwnZ w3 w.heap.size u3 l := own_gb HI.out.2.2.2.2.2.1 H0.out.2.1 g3
          have X3 : Hid (RdI w3 p a cap G j ∧ GB p w w3) := ⟨r3, gb_trans HI.out.2.2.2.2.1 g3⟩
          have HN : Hid (rNums G i = some (sortZ l, j)) := by unfold Hid; rw [HI.out.1, M1.out (by first | rfl | trivial)]; simp
          obtain ⟨g, cp, cur, rfl, hgb, hh, hnc, hcp, hcs, htake⟩ : ∃ g cp cur, u3 = .slice (some ⟨g, 0, none⟩) l.length cp ∧ w.heap.size ≤ g ∧ w3.heap[g]? = some (.cells cur 3 (0, 0)) ∧ l.length ≤ cp ∧ cp ≤ maxLen ∧ cur.size = cp * 1 ∧ cur.toList.take (l.length * 1) = l.map (Value.int .i64) := by
            rcases hown.2 with ⟨rfl, h0⟩ | ⟨g, cp, cur, h1, h2, h3, h4, h5, h6, h7⟩
            · have := HI.out.2.2.2.2.2.2; omega
            · exact ⟨g, cp, cur, h1, h2, h3, h4, h5, h6, h7⟩
          have HS : Hid (Calls Tryz.prog 126 #[.slice (some ⟨g, 0, none⟩) l.length cp] w3 fun e w' => e = .returned (.tuple #[]) ∧ OwnZ w' w.heap.size (.slice (some ⟨g, 0, none⟩) l.length cp) (sortZ l) ∧ w3.grownBy w' (some g)) := by
            refine (Tryz.slices_Sort_int g 0 cp l w3 (holds_of_blockI hh (by simpa using htake)) (Array.getElem?_eq_some_iff.1 hh).1 (by omega)).mono ?_
            rintro e w' ⟨rfl, n, os, rfl⟩
            refine ⟨rfl, ?_, grownBy_sortedI _⟩
            have hl : (sortZ l).length = l.length := by simp [sortZ]
            have := ownsRow_sortedI (w := w3) (base := w.heap.size) (n := n) (os := os) (ts := sortZ l) hl hgb hh hnc hcp hcs
            unfold OwnZ
            rw [hl]
            exact this
          have HG : Hid (w.heap.size ≤ g) := hgb
          clear r3 g3 H1 M1 M2 HI hown hh hnc hcp hcs htake hgb
          go_wp2_with fail
          refine HS.out.mono ?_
          rintro e w4 ⟨rfl, o4, g4⟩
          have hrow : ∀ x, some g = some x → w.heap.size ≤ x := fun x hx => by injection hx with hx; subst hx; exact HG.out
          have X4 : Hid (RdI w4 p a cap G j ∧ GB p w w4 ∧ OwnZ w4 w.heap.size (.slice (some ⟨g, 0, none⟩) l.length cp) (sortZ l)) := ⟨H0.out.1.row X3.out.1 g4 hrow, gb_row X3.out.2 g4 hrow, o4⟩
          clear o4 g4 HS hrow
          go_wp2
          go_ret
          exact ⟨gotR_some HN.out rfl X4.out.2.2 X4.out.1, X4.out.2.1⟩
        · go_wp2_with fail
          refine H1.out.mono ?_
          rintro e w3 ⟨rfl, r3, g3⟩
          have X3 : Hid (RdI w3 p a cap G (j + 1) ∧ GB p w w3 ∧ OwnZ w3 w.heap.size u3 l) := ⟨r3, gb_trans HI.out.2.2.2.2.1 g3, own_gb HI.out.2.2.2.2.2.1 H0.out.2.1 g3⟩
          obtain ⟨f', hf, hf2, hf3⟩ := M2.out (by first | rfl | trivial)
          have HF : Hid (f = f' + 1 ∧ G.length ≤ j + 1 + f' ∧ rCommaF f G j = (match rCall G (j + 1) with
            | none => none
            | some (c, k) => (rCommaF f' G k).map fun q => (c :: q.1, q.2))) := ⟨hf, hf2, hf3⟩
          clear r3 g3 H1 M1 M2 hf hf2 hf3
          go_wp2_with fail
          cases e0 : rCall G (j + 1) with
          | none =>
            refine (show Calls Tryz.prog 125 _ _ _ from fails_of (val := intV) e0 (callNum_any X3.out.1 H0.out.2.2)).mono ?_
            rintro e w4 ⟨rfl, g4⟩
            have F4 : Hid (GB p w w4) := gb_trans X3.out.2.1 g4
            have HN : Hid (rNums G i = none) := by unfold Hid; rw [HI.out.1, HF.out.2.2, e0]; rfl
            clear g4 e0
            go_wp2
            exact bad_panic rfl ⟨gotR_none HN.out rfl, F4.out⟩
          | some x =>
            obtain ⟨c, k⟩ := x
            have hlt := ((sCall_rel H0.out.2.2 (j + 1)).1 c k e0).2.2
            have HJ : Hid ((rNums G i = (rCommaF f' G k).map fun q => (sortZ ((l ++ [c]) ++ q.1), q.2)) ∧ G.length ≤ k + f' ∧ (l ++ [c]).length ≤ k ∧ j < k ∧ k ≤ G.length) := by
              refine ⟨?_, by have := HF.out.2.1; omega, by have := HI.out.2.2.1; simp; omega, by omega, by omega⟩
              rw [HI.out.1, HF.out.2.2, e0]
              simp only
              cases rCommaF f' G k <;> simp
            refine (show Calls Tryz.prog 125 _ _ _ from gives_of (val := intV) e0 (callNum_any X3.out.1 H0.out.2.2)).mono ?_
            rintro e w4 ⟨⟨rfl, r4⟩, g4⟩
            have hown : w4.ownsRow w.heap.size 3 1 u3 l.length (l.map (Value.int .i64)) := own_gb X3.out.2.2 H0.out.2.1 g4
            have X4 : Hid (RdI w4 p a cap G k ∧ GB p w w4) := ⟨r4, gb_trans X3.out.2.1 g4⟩
            have hz4 : w.heap.size ≤ w4.heap.size := X4.out.2.size
            have HML : Hid (rdAt wr p = j) := HI.out.2.2.2.1.place
            clear r4 g4 X3 HI HF e0 hlt
            unfold intV
            go_wp2_with (at_builtin; refine wpList_append_own _ rfl _ _ 50 rfl w.heap.size 3 i0 (.int .i64 0) 1 8 Tryz.underlying50 hi hz0 hz1 hz2 rfl (by decide) _ l.length _ rfl (hown.alloc _) ⟨w4.heap.size, 0, none⟩ 1 1 [.int .i64 c] rfl rfl ?c1 ?c2 ?c3 ?c4 ?c5 ?_)
            case c1 =>
              intro j u hu
              have := (CellsAt.new w4 [.int .i64 c] 3).2 j u hu
              rw [Addr.add_lit, Nat.zero_add]
              exact this
            case c2 => intro u hu; simp at hu; rcases hu with rfl; rfl
            case c3 => unfold maxLen; omega
            case c4 => omega
            case c5 => simp; omega
            · intro v' w5 hown5 hgrow5 _
              have hrow : ∀ x, Value.ownBlock u3 = some x → w.heap.size ≤ x := fun x hx => (own_lt9 hown hx).1
              have X5 : Hid (RdI w5 p a cap G k ∧ GB p w w5 ∧ OwnZ w5 w.heap.size v' (l ++ [c]) ∧ 1 ≤ (l ++ [c]).length) := by
                refine ⟨H0.out.1.row (X4.out.1.step (Ext.one _ _)) hgrow5 hrow, gb_row (gb_alloc X4.out.2 _) hgrow5 hrow, ?_, by simp⟩
                rw [show l.map (Value.int .i64) ++ [.int .i64 c] = (l ++ [c]).map (Value.int .i64) by simp] at hown5
                unfold OwnZ
                rw [List.length_append]
                exact hown5
              clear hgrow5 hown5 hown X4
              go_wp2
              go_roundw
              case rel => exact ⟨_, k, f', HJ.out.1, HJ.out.2.1, HJ.out.2.2.1, X5.out.1, X5.out.2.1, X5.out.2.2.1, X5.out.2.2.2⟩
              case measure =>
                have h1 := X5.out.1.place
                have h2 := HML.out
                have h3 := HJ.out.2.2.2
                rw [h1, h2]
                omega

theorem own_mono {w : World} {B C e size n : Nat} {v : Value} {xs : List Value} (h : w.ownsRow B e size v n xs) (hC : C ≤ B) : w.ownsRow C e size v n xs := by
  refine ⟨h.1, ?_⟩
  rcases h.2 with h0 | ⟨g, cap, cur, h1, h2, h3⟩
  · exact .inl h0
  · exact .inr ⟨g, cap, cur, h1, by omega, h3⟩

theorem own_set {w : World} {B e size n q k : Nat} {v u : Value} {xs : List Value} (h : w.ownsRow B e size v n xs) (hq : ∀ x, v.ownBlock = some x → x ≠ q) : (w.setCell ⟨q, k, none⟩ u).ownsRow B e size v n xs :=
  h.kept (gb_set q k w u) (by
    cases hv : v.ownBlock with
    | none => exact .inl rfl
    | some x => exact .inr (fun e => hq x hv (Option.some.inj e)))

theorem own_ext {w w' : World} {B e size n : Nat} {v : Value} {xs : List Value} (h : w.ownsRow B e size v n xs) (hE : Ext w w') : w'.ownsRow B e size v n xs :=
  h.kept (row := none) ⟨hE.os, hE.tape, hE.output, hE.size, fun i hi _ => hE.block i hi⟩ (by
    cases hv : v.ownBlock with
    | none => exact .inl rfl
    | some x => exact .inr (fun e => by cases e))

/-- A rule's four cells, its rows being the call's own from block B on, the one apart from the other. -/
def RuleX (B : Nat) (w : World) (r : RN) (l : List Value) : Prop :=
  ∃ v1 v2 B2, l = [v1, v2, .int .i64 r.act, .int .i64 r.data] ∧ OwnZ w B v1 r.nums ∧ OwnC w B2 v2 r.conds ∧ B ≤ B2 ∧ ∀ x, v1.ownBlock = some x → x < B2

def GotU {α : Type} (R : World → α → List Value → Prop) (o : Option (α × Nat)) (p : Nat) (a : Option Addr) (cap : Nat) (G : List Sg) (e : Ending) (w' : World) : Prop :=
  match o with
  | some (x, j) => ∃ l, e = .returned (.agg l.toArray) ∧ R w' x l ∧ RdI w' p a cap G j
  | none => e = Bad

theorem gotU_some {α : Type} {R : World → α → List Value → Prop} {o : Option (α × Nat)} {x : α} {l : List Value} {j p : Nat} {a : Option Addr} {cap : Nat} {G : List Sg} {e : Ending} {w' : World} (h : o = some (x, j)) (he : e = .returned (.agg l.toArray)) (ho : R w' x l) (hr : RdI w' p a cap G j) : GotU R o p a cap G e w' := by
  subst h; exact ⟨l, he, ho, hr⟩
theorem gotU_none {α : Type} {R : World → α → List Value → Prop} {o : Option (α × Nat)} {p : Nat} {a : Option Addr} {cap : Nat} {G : List Sg} {e : Ending} {w' : World} (h : o = none) (he : e = Bad) : GotU R o p a cap G e w' := by
  subst h; exact he

set_option maxRecDepth 100000 in
set_option maxHeartbeats 1600000 in
theorem rrule_any {w : World} {p : Nat} {a : Option Addr} {cap : Nat} {G : List Sg} {i : Nat} (h : RdI w p a cap G i) (hG : Good G) (hp0 : p ≠ 0) (hC : Cms w) :
    Calls Tryz.prog 66 #[.pointer (some ⟨p, 0, none⟩)] w fun e w' => GotU (RuleX w.heap.size) (rRule G i) p a cap G e w' ∧ GB p w w' := by
  have hp := h.lt
  have X0 : Hid (RdI (w.alloc (.cells #[.slice none 0 0, .slice none 0 0, .int .i64 0, .int .i64 0] 53)) p a cap G i ∧ GB p w (w.alloc (.cells #[.slice none 0 0, .slice none 0 0, .int .i64 0, .int .i64 0] 53)) ∧ Kn (w.alloc (.cells #[.slice none 0 0, .slice none 0 0, .int .i64 0, .int .i64 0] 53)) w.heap.size [.slice none 0 0, .slice none 0 0, .int .i64 0, .int .i64 0] 53) := ⟨h.step (Ext.one _ _), gb_ext (Ext.one _ _), Kn.new w _ _⟩
  have H0 : Hid (RdI w p a cap G i ∧ p < w.heap.size ∧ (∀ W, GB p w W → Cms W) ∧ Good G ∧ p ≠ 0) := ⟨h, hp, fun W hG => hC.gb hp0 hG, hG, hp0⟩
  clear h hp hC hp0 hG
  go_enter Tryz.func66, Tryz.ntmps66
  go_wp2_with fail
  generalize w.alloc (.cells #[.slice none 0 0, .slice none 0 0, .int .i64 0, .int .i64 0] 53) = W0 at *
  cases e0 : rPass G i tOn with
  | none =>
    refine (show Calls Tryz.prog 62 #[.pointer (some ⟨p, 0, none⟩), .string ⟨#[111, 110]⟩] _ _ from mp_none (by decide) e0 X0.out.1).mono ?_
    rintro e w1 ⟨rfl, g1⟩
    have F1 : Hid (GB p w w1) := gb_trans X0.out.2.1 g1
    clear g1
    go_wp2
    exact bad_panic rfl ⟨gotU_none (by unfold rRule; rw [e0]) rfl, F1.out⟩
  | some i1 =>
    have E0 : Hid (rPass G i tOn = some i1) := e0
    refine (show Calls Tryz.prog 62 #[.pointer (some ⟨p, 0, none⟩), .string ⟨#[111, 110]⟩] _ _ from mp_some (by decide) e0 X0.out.1).mono ?_
    rintro e w1 ⟨⟨rfl, r1⟩, g1⟩
    have X1 : Hid (RdI w1 p a cap G i1 ∧ GB p w w1 ∧ Kn w1 w.heap.size [.slice none 0 0, .slice none 0 0, .int .i64 0, .int .i64 0] 53) := ⟨r1, gb_trans X0.out.2.1 g1, X0.out.2.2.gb (by have := H0.out.2.1; omega) g1⟩
    clear r1 g1 X0 e0
    go_wp2_with fail
    refine (rnums_any X1.out.1 H0.out.2.2.2.1).mono ?_
    rintro e w2 ⟨hg, g2⟩
    cases e1 : rNums G i1 with
    | none =>
      rw [e1] at hg
      obtain rfl : e = Bad := hg
      have F2 : Hid (GB p w w2) := gb_trans X1.out.2.1 g2
      clear g2
      go_wp2
      exact bad_panic rfl ⟨gotU_none (by unfold rRule; rw [E0.out]; simp only; rw [e1]) rfl, F2.out⟩
    | some x =>
      obtain ⟨zs, i2⟩ := x
      have E1 : Hid (rNums G i1 = some (zs, i2)) := e1
      rw [e1] at hg
      obtain ⟨v1, rfl, o1, r2⟩ : ∃ v, e = .returned v ∧ OwnZ w2 w1.heap.size v zs ∧ RdI w2 p a cap G i2 := hg
      have hq : w.heap.size < w2.heap.size := (X1.out.2.2.gb (by have := H0.out.2.1; omega) g2).lt
      have HV1 : Hid (∀ x, v1.ownBlock = some x → w1.heap.size ≤ x ∧ x < w2.heap.size) := fun x hx => own_lt9 o1 hx
      have X2 : Hid (RdI (w2.alloc (.cells #[v1, .slice none 0 0, .int .i64 0, .int .i64 0] 53)) p a cap G i2 ∧ GB p w (w2.alloc (.cells #[v1, .slice none 0 0, .int .i64 0, .int .i64 0] 53)) ∧ Kn (w2.alloc (.cells #[v1, .slice none 0 0, .int .i64 0, .int .i64 0] 53)) w.heap.size [.slice none 0 0, .slice none 0 0, .int .i64 0, .int .i64 0] 53 ∧ Kn (w2.alloc (.cells #[v1, .slice none 0 0, .int .i64 0, .int .i64 0] 53)) w2.heap.size [v1, .slice none 0 0, .int .i64 0, .int .i64 0] 53 ∧ OwnZ (w2.alloc (.cells #[v1, .slice none 0 0, .int .i64 0, .int .i64 0] 53)) w1.heap.size v1 zs) :=
        ⟨r2.step (Ext.one _ _), gb_alloc (gb_trans X1.out.2.1 g2) _, (X1.out.2.2.gb (by have := H0.out.2.1; omega) g2).alloc _, Kn.new w2 _ _, own_ext o1 (Ext.one _ _)⟩
      have HQ : Hid (w.heap.size < w2.heap.size ∧ w.heap.size < w1.heap.size) := ⟨hq, X1.out.2.2.lt⟩
      clear r2 g2 X1 e1 hq o1
      obtain ⟨v1a, v1n, v1c, hv1⟩ : ∃ a n c, v1 = .slice a n c := by
        rcases X2.out.2.2.2.2.2 with ⟨h, _⟩ | ⟨g, c, cur, h, _⟩
        · exact ⟨_, _, _, h⟩
        · exact ⟨_, _, _, h⟩
      have hone : v1.cells = #[v1] ∧ v1.oneCell' = true := by rw [hv1]; exact ⟨rfl, rfl⟩
      subst hv1
      clear hone
      go_wp2_with fail
      have HB : Hid (w2.heap.size < (w2.alloc (.cells #[.slice v1a v1n v1c, .slice none 0 0, .int .i64 0, .int .i64 0] 53)).heap.size) := by simp [Hid]
      generalize w2.alloc (.cells #[.slice v1a v1n v1c, .slice none 0 0, .int .i64 0, .int .i64 0] 53) = W2 at *
      generalize w2.heap.size = q at *
      have hqp : Hid (q ≠ p ∧ w.heap.size ≠ p ∧ w.heap.size ≤ q ∧ w.heap.size ≠ q) := ⟨by have := H0.out.2.1; have := HQ.out; omega, by have := H0.out.2.1; omega, by have := HQ.out; omega, by have := HQ.out; omega⟩
      refine (rconds_any X2.out.1 H0.out.2.2.2.2 (H0.out.2.2.1 _ X2.out.2.1)).mono ?_
      rintro e w3 ⟨hg, g3⟩
      cases e2 : rConds G i2 with
      | none =>
        rw [e2] at hg
        obtain rfl : e = Bad := hg
        have F3 : Hid (GB p w w3) := gb_trans X2.out.2.1 g3
        clear g3
        go_wp2
        exact bad_panic rfl ⟨gotU_none (by unfold rRule; rw [E0.out]; simp only; rw [E1.out]; simp only; rw [e2]) rfl, F3.out⟩
      | some x =>
        obtain ⟨cs, i3⟩ := x
        have E2 : Hid (rConds G i2 = some (cs, i3)) := e2
        rw [e2] at hg
        obtain ⟨v2, rfl, o2, r3⟩ : ∃ v, e = .returned v ∧ OwnC w3 W2.heap.size v cs ∧ RdI w3 p a cap G i3 := hg
        have kq := X2.out.2.2.2.1.gb hqp.out.1 g3
        have hv1q : ∀ x, Value.ownBlock (.slice v1a v1n v1c) = some x → x ≠ q := fun x hx => by have := (HV1.out x hx).2; omega
        have hv2q : ∀ x, v2.ownBlock = some x → x ≠ q := fun x hx => by have := (own_lt9 o2 hx).1; have := HB.out; omega
        have X3 : Hid (RdI (w3.setCell ⟨q, 1, none⟩ v2) p a cap G i3 ∧ GB p w (w3.setCell ⟨q, 1, none⟩ v2) ∧ Kn (w3.setCell ⟨q, 1, none⟩ v2) w.heap.size [.slice none 0 0, .slice none 0 0, .int .i64 0, .int .i64 0] 53 ∧ Kn (w3.setCell ⟨q, 1, none⟩ v2) q [.slice v1a v1n v1c, v2, .int .i64 0, .int .i64 0] 53 ∧ OwnZ (w3.setCell ⟨q, 1, none⟩ v2) w1.heap.size (.slice v1a v1n v1c) zs ∧ OwnC (w3.setCell ⟨q, 1, none⟩ v2) W2.heap.size v2 cs) :=
          ⟨H0.out.1.fresh r3 hqp.out.2.2.1, gb_fresh (gb_trans X2.out.2.1 g3) hqp.out.2.2.1, (X2.out.2.2.1.gb hqp.out.2.1 g3).other hqp.out.2.2.2 _ _, kq.set 1 _, own_set (own_gb X2.out.2.2.2.2 (by have := H0.out.2.1; have := HQ.out.2; omega) g3) hv1q, own_set o2 hv2q⟩
        have f1 := kq.free
        obtain ⟨c0, c1, c2, c3⟩ := (⟨kq.cell 0 _ rfl, kq.cell 1 _ rfl, kq.cell 2 _ rfl, kq.cell 3 _ rfl⟩ : _ ∧ _ ∧ _ ∧ _)
        obtain ⟨v2a, v2n, v2c, hv2⟩ : ∃ a n c, v2 = .slice a n c := by
          rcases o2.2 with ⟨h, _⟩ | ⟨g, c, cur, h, _⟩
          · exact ⟨_, _, _, h⟩
          · exact ⟨_, _, _, h⟩
        have HV2 : Hid (∀ x, v2.ownBlock = some x → W2.heap.size ≤ x ∧ x ≠ q) := fun x hx => ⟨(own_lt9 o2 hx).1, hv2q x hx⟩
        clear r3 g3 X2 e2 kq o2 hv2q
        subst hv2
        go_wp2_with fail
        generalize w3.setCell ⟨q, 1, none⟩ (.slice v2a v2n v2c) = W3 at *
        clear f1 c0 c1 c2 c3
        cases e3 : rPass G i3 tDo with
        | none =>
          refine (show Calls Tryz.prog 62 #[.pointer (some ⟨p, 0, none⟩), .string ⟨#[100, 111]⟩] _ _ from mp_none (by decide) e3 X3.out.1).mono ?_
          rintro e w4 ⟨rfl, g4⟩
          have F4 : Hid (GB p w w4) := gb_trans X3.out.2.1 g4
          clear g4
          go_wp2
          exact bad_panic rfl ⟨gotU_none (by unfold rRule; rw [E0.out]; simp only; rw [E1.out]; simp only; rw [E2.out]; simp only; rw [e3]) rfl, F4.out⟩
        | some i4 =>
          have E3 : Hid (rPass G i3 tDo = some i4) := e3
          refine (show Calls Tryz.prog 62 #[.pointer (some ⟨p, 0, none⟩), .string ⟨#[100, 111]⟩] _ _ from mp_some (by decide) e3 X3.out.1).mono ?_
          rintro e w4 ⟨⟨rfl, r4⟩, g4⟩
          have X4 : Hid (RdI w4 p a cap G i4 ∧ GB p w w4 ∧ Kn w4 w.heap.size [.slice none 0 0, .slice none 0 0, .int .i64 0, .int .i64 0] 53 ∧ Kn w4 q [.slice v1a v1n v1c, .slice v2a v2n v2c, .int .i64 0, .int .i64 0] 53 ∧ OwnZ w4 w1.heap.size (.slice v1a v1n v1c) zs ∧ OwnC w4 W2.heap.size (.slice v2a v2n v2c) cs) :=
            ⟨r4, gb_trans X3.out.2.1 g4, X3.out.2.2.1.gb hqp.out.2.1 g4, X3.out.2.2.2.1.gb hqp.out.1 g4, own_gb X3.out.2.2.2.2.1 (by have := H0.out.2.1; have := HQ.out.2; omega) g4, own_gb X3.out.2.2.2.2.2 (by have := H0.out.2.1; have := HQ.out.2; have := HQ.out.1; have := HB.out; omega) g4⟩
          clear r4 g4 X3 e3
          go_wp2_with fail
          cases e4 : rOut G i4 with
          | none =>
            refine (show Calls Tryz.prog 64 _ _ _ from fails_of (val := pairV) e4 (outcome_any X4.out.1)).mono ?_
            rintro e w5 ⟨rfl, g5⟩
            have F5 : Hid (GB p w w5) := gb_trans X4.out.2.1 g5
            clear g5
            go_wp2
            exact bad_panic rfl ⟨gotU_none (by unfold rRule; rw [E0.out]; simp only; rw [E1.out]; simp only; rw [E2.out]; simp only; rw [E3.out]; simp only; rw [e4]) rfl, F5.out⟩
          | some x =>
            obtain ⟨⟨ac, da⟩, i5⟩ := x
            have E4 : Hid (rOut G i4 = some ((ac, da), i5)) := e4
            refine (show Calls Tryz.prog 64 _ _ _ from gives_of (val := pairV) e4 (outcome_any X4.out.1)).mono ?_
            rintro e w5 ⟨⟨rfl, r5⟩, g5⟩
            have kq := X4.out.2.2.2.1.gb hqp.out.1 g5
            have X5 : Hid (RdI ((w5.setCell ⟨q, 2, none⟩ (.int .i64 ac)).setCell ⟨q, 3, none⟩ (.int .i64 da)) p a cap G i5 ∧ GB p w ((w5.setCell ⟨q, 2, none⟩ (.int .i64 ac)).setCell ⟨q, 3, none⟩ (.int .i64 da)) ∧ Kn ((w5.setCell ⟨q, 2, none⟩ (.int .i64 ac)).setCell ⟨q, 3, none⟩ (.int .i64 da)) w.heap.size [.slice none 0 0, .slice none 0 0, .int .i64 0, .int .i64 0] 53 ∧ Kn ((w5.setCell ⟨q, 2, none⟩ (.int .i64 ac)).setCell ⟨q, 3, none⟩ (.int .i64 da)) q [.slice v1a v1n v1c, .slice v2a v2n v2c, .int .i64 ac, .int .i64 da] 53 ∧ OwnZ ((w5.setCell ⟨q, 2, none⟩ (.int .i64 ac)).setCell ⟨q, 3, none⟩ (.int .i64 da)) w1.heap.size (.slice v1a v1n v1c) zs ∧ OwnC ((w5.setCell ⟨q, 2, none⟩ (.int .i64 ac)).setCell ⟨q, 3, none⟩ (.int .i64 da)) W2.heap.size (.slice v2a v2n v2c) cs) :=
              ⟨H0.out.1.fresh (H0.out.1.fresh r5 hqp.out.2.2.1) hqp.out.2.2.1, gb_fresh (gb_fresh (gb_trans X4.out.2.1 g5) hqp.out.2.2.1) hqp.out.2.2.1, ((X4.out.2.2.1.gb hqp.out.2.1 g5).other hqp.out.2.2.2 _ _).other hqp.out.2.2.2 _ _, (kq.set 2 _).set 3 _, own_set (own_set (own_gb X4.out.2.2.2.2.1 (by have := H0.out.2.1; have := HQ.out.2; omega) g5) hv1q) hv1q, own_set (own_set (own_gb X4.out.2.2.2.2.2 (by have := H0.out.2.1; have := HQ.out.2; have := HQ.out.1; have := HB.out; omega) g5) (fun x hx => (HV2.out x hx).2)) (fun x hx => (HV2.out x hx).2)⟩
            have f1 := kq.free
            obtain ⟨c0, c1, c2, c3⟩ := (⟨kq.cell 0 _ rfl, kq.cell 1 _ rfl, kq.cell 2 _ rfl, kq.cell 3 _ rfl⟩ : _ ∧ _ ∧ _ ∧ _)
            clear r5 g5 X4 e4 kq
            unfold pairV
            go_wp2_with fail
            generalize (w5.setCell ⟨q, 2, none⟩ (.int .i64 ac)).setCell ⟨q, 3, none⟩ (.int .i64 da) = W5 at *
            clear f1 c0 c1 c2 c3
            cases e5 : rPass G i5 tSemi with
            | none =>
              refine (show Calls Tryz.prog 62 #[.pointer (some ⟨p, 0, none⟩), .string ⟨#[59]⟩] _ _ from mp_none (by decide) e5 X5.out.1).mono ?_
              rintro e w6 ⟨rfl, g6⟩
              have F6 : Hid (GB p w w6) := gb_trans X5.out.2.1 g6
              clear g6
              go_wp2
              exact bad_panic rfl ⟨gotU_none (by unfold rRule; rw [E0.out]; simp only; rw [E1.out]; simp only; rw [E2.out]; simp only; rw [E3.out]; simp only; rw [E4.out]; simp only; rw [e5]) rfl, F6.out⟩
            | some i6 =>
              have HM : Hid (rRule G i = some (⟨zs, cs, ac, da⟩, i6)) := by unfold Hid rRule; rw [E0.out]; simp only; rw [E1.out]; simp only; rw [E2.out]; simp only; rw [E3.out]; simp only; rw [E4.out]; simp only; rw [e5]
              refine (show Calls Tryz.prog 62 #[.pointer (some ⟨p, 0, none⟩), .string ⟨#[59]⟩] _ _ from mp_some (by decide) e5 X5.out.1).mono ?_
              rintro e w6 ⟨⟨rfl, r6⟩, g6⟩
              have kq := X5.out.2.2.2.1.gb hqp.out.1 g6
              have kr := X5.out.2.2.1.gb hqp.out.2.1 g6
              have hv1r : ∀ x, Value.ownBlock (.slice v1a v1n v1c) = some x → x ≠ w.heap.size := fun x hx => by have := (HV1.out x hx).1; have := HQ.out.2; omega
              have hv2r : ∀ x, Value.ownBlock (.slice v2a v2n v2c) = some x → x ≠ w.heap.size := fun x hx => by have := (HV2.out x hx).1; have := HB.out; have := HQ.out.1; omega
              have X6 : Hid (RdI ((((w6.setCell ⟨w.heap.size, 0, none⟩ (.slice v1a v1n v1c)).setCell ⟨w.heap.size, 1, none⟩ (.slice v2a v2n v2c)).setCell ⟨w.heap.size, 2, none⟩ (.int .i64 ac)).setCell ⟨w.heap.size, 3, none⟩ (.int .i64 da)) p a cap G i6 ∧ GB p w ((((w6.setCell ⟨w.heap.size, 0, none⟩ (.slice v1a v1n v1c)).setCell ⟨w.heap.size, 1, none⟩ (.slice v2a v2n v2c)).setCell ⟨w.heap.size, 2, none⟩ (.int .i64 ac)).setCell ⟨w.heap.size, 3, none⟩ (.int .i64 da)) ∧ Kn ((((w6.setCell ⟨w.heap.size, 0, none⟩ (.slice v1a v1n v1c)).setCell ⟨w.heap.size, 1, none⟩ (.slice v2a v2n v2c)).setCell ⟨w.heap.size, 2, none⟩ (.int .i64 ac)).setCell ⟨w.heap.size, 3, none⟩ (.int .i64 da)) w.heap.size [.slice v1a v1n v1c, .slice v2a v2n v2c, .int .i64 ac, .int .i64 da] 53 ∧ OwnZ ((((w6.setCell ⟨w.heap.size, 0, none⟩ (.slice v1a v1n v1c)).setCell ⟨w.heap.size, 1, none⟩ (.slice v2a v2n v2c)).setCell ⟨w.heap.size, 2, none⟩ (.int .i64 ac)).setCell ⟨w.heap.size, 3, none⟩ (.int .i64 da)) w1.heap.size (.slice v1a v1n v1c) zs ∧ OwnC ((((w6.setCell ⟨w.heap.size, 0, none⟩ (.slice v1a v1n v1c)).setCell ⟨w.heap.size, 1, none⟩ (.slice v2a v2n v2c)).setCell ⟨w.heap.size, 2, none⟩ (.int .i64 ac)).setCell ⟨w.heap.size, 3, none⟩ (.int .i64 da)) W2.heap.size (.slice v2a v2n v2c) cs) :=
                ⟨(H0.out.1.fresh (H0.out.1.fresh (H0.out.1.fresh (H0.out.1.fresh r6 (Nat.le_refl _)) (Nat.le_refl _)) (Nat.le_refl _)) (Nat.le_refl _)), (gb_fresh (gb_fresh (gb_fresh (gb_fresh (gb_trans X5.out.2.1 g6) (Nat.le_refl _)) (Nat.le_refl _)) (Nat.le_refl _)) (Nat.le_refl _)), (((kr.set 0 _).set 1 _).set 2 _).set 3 _, own_set (own_set (own_set (own_set (own_gb X5.out.2.2.2.2.1 (by have := H0.out.2.1; have := HQ.out.2; omega) g6) hv1r) hv1r) hv1r) hv1r, own_set (own_set (own_set (own_set (own_gb X5.out.2.2.2.2.2 (by have := H0.out.2.1; have := HQ.out.2; have := HQ.out.1; have := HB.out; omega) g6) hv2r) hv2r) hv2r) hv2r⟩
              have f1 := kq.free
              obtain ⟨c0, c1, c2, c3⟩ := (⟨kq.cell 0 _ rfl, kq.cell 1 _ rfl, kq.cell 2 _ rfl, kq.cell 3 _ rfl⟩ : _ ∧ _ ∧ _ ∧ _)
              have f2 := kr.free
              obtain ⟨d0, d1, d2, d3⟩ := (⟨kr.cell 0 _ rfl, kr.cell 1 _ rfl, kr.cell 2 _ rfl, kr.cell 3 _ rfl⟩ : _ ∧ _ ∧ _ ∧ _)
              have hne := hqp.out.2.2.2
              have hne2 : ¬ q = w.heap.size := fun e => hne e.symm
              clear r6 g6 X5 e5 kq kr hv1r hv2r
              go_wp2
              generalize ((((w6.setCell ⟨w.heap.size, 0, none⟩ (.slice v1a v1n v1c)).setCell ⟨w.heap.size, 1, none⟩ (.slice v2a v2n v2c)).setCell ⟨w.heap.size, 2, none⟩ (.int .i64 ac)).setCell ⟨w.heap.size, 3, none⟩ (.int .i64 da)) = W6 at *
              clear f1 c0 c1 c2 c3 f2 d0 d1 d2 d3
              obtain ⟨d0, d1, d2, d3⟩ := (⟨X6.out.2.2.1.cell 0 _ rfl, X6.out.2.2.1.cell 1 _ rfl, X6.out.2.2.1.cell 2 _ rfl, X6.out.2.2.1.cell 3 _ rfl⟩ : _ ∧ _ ∧ _ ∧ _)
              refine bodyPost_ret (v := .agg #[.slice v1a v1n v1c, .slice v2a v2n v2c, .int .i64 ac, .int .i64 da]) (by simp [results, Tryz.results66, go_sem, *]) rfl ?_
              exact ⟨gotU_some (l := [.slice v1a v1n v1c, .slice v2a v2n v2c, .int .i64 ac, .int .i64 da]) HM.out rfl ⟨_, _, W2.heap.size, rfl, own_mono X6.out.2.2.2.1 (by have := HQ.out.2; omega), X6.out.2.2.2.2, by have := HB.out; have := HQ.out.1; omega, fun x hx => by have := (HV1.out x hx).2; have := HB.out; omega⟩ X6.out.1, X6.out.2.1⟩

theorem ext_row {w W W' : World} {row : Option Nat} (h : Ext w W) (hg : W.grownBy W' row) (hr : ∀ x, row = some x → w.heap.size ≤ x) : Ext w W' :=
  ⟨hg.os.trans h.os, hg.tape.trans h.tape, hg.output.trans h.output, Nat.le_trans h.size hg.size, fun i hi => (hg.block i (Nat.lt_of_lt_of_le hi h.size) (fun e => by have := hr i e.symm; omega)).trans (h.block i hi)⟩

theorem take_filter (zs : List Int) (f : Int → Bool) (k : Nat) (h : k < zs.length) : (zs.take (k + 1)).filter f = (zs.take k).filter f ++ (if f (zs.getD k 0) then [zs.getD k 0] else []) := by
  rw [List.take_succ_eq_append_getElem h, List.filter_append]
  congr 1
  have e : zs.getD k 0 = zs[k] := by rw [List.getD_eq_getElem?_getD, List.getElem?_eq_getElem h]; rfl
  rw [e]
  by_cases hf : f zs[k] = true
  · simp [hf]
  · simp [hf]

set_option maxRecDepth 100000 in
set_option maxHeartbeats 1600000 in
theorem put_any {w : World} {B : Nat} {v : Value} {zs : List Int} {n : Int} (hB : B ≤ w.heap.size) (hl : zs.length ≤ 1200) (h : OwnZ w B v zs) :
    Calls Tryz.prog 115 #[v, .int .i64 n] w fun e w' => ∃ u, e = .returned u ∧ OwnZ w' B u (putZ zs n) ∧ Ext w w' := by
  obtain ⟨i0, hi, hz0, hz1, hz2⟩ := info_parts Tryz.infoIn
  obtain ⟨a, cap, rfl, hN, _⟩ := own_nums h rfl
  have HI : Hid (Calls Tryz.prog 114 #[.slice a zs.length cap, .int .i64 n] w fun e w' => e = .returned (.bool (zs.contains n)) ∧ w = w') := l09In_any a cap zs n w (by omega) hN
  have HP : Hid (putZ zs n = if zs.contains n then zs else zs.filter (fun x => decide (x < n)) ++ [n] ++ zs.filter (fun x => decide (n < x))) := rfl
  have HH : Hid (OwnZ w B (.slice a zs.length cap) zs ∧ Nums w a zs ∧ B ≤ w.heap.size) := ⟨h, hN, hB⟩
  clear h hN hB
  generalize putZ zs n = out at *
  generalize zs.contains n = z at *
  obtain ⟨len, hlen⟩ : ∃ len, len = zs.length := ⟨_, rfl⟩
  have HLN : Hid (len = zs.length) := hlen
  rw [← hlen] at HI hl HH ⊢
  clear hlen
  cases z
  · have HP2 : Hid (out = zs.filter (fun x => decide (x < n)) ++ [n] ++ zs.filter (fun x => decide (n < x))) := HP.out
    clear HP
    go_enter Tryz.func115, Tryz.ntmps115
    go_wp2_with fail
    refine (show Calls Tryz.prog 114 _ _ _ from HI.out).mono ?_
    rintro e w' ⟨rfl, rfl⟩
    clear HI
    have X1 : Hid (Ext w (w.alloc (.cells #[] 3)) ∧ OwnZ (w.alloc (.cells #[] 3)) w.heap.size (.slice (some ⟨w.heap.size, 0, none⟩) 0 0) []) := ⟨Ext.one _ _, World.ownsRow_lit (e := 3) (size := 1) w #[] 0 (Nat.le_refl _) (by decide) rfl⟩
    go_wp2_with fail
    generalize w.alloc (.cells #[] 3) = W1 at *
    go_loopw [5, 6] (fun ov iv wr => ∃ k : Nat, iv = .int .i64 k ∧ k ≤ len ∧ Hid (OwnZ wr w.heap.size ov ((zs.take k).filter (fun x => decide (x < n))) ∧ Ext w wr)) (fun _ iv _ => len - (intOf iv).toNat)
    case atStart => exact ⟨0, rfl, by omega, X1.out.2, X1.out.1⟩
    case round =>
      obtain ⟨k, rfl, hk, HX⟩ := hrel
      clear X1
      by_cases hlt : k < len
      · have bk : (k : Int) < (len : Int) := by omega
        have HS : Hid ((zs.take (k + 1)).filter (fun x => decide (x < n)) = (zs.take k).filter (fun x => decide (x < n)) ++ (if decide (zs.getD k 0 < n) then [zs.getD k 0] else [])) := take_filter zs _ k (by have := HLN.out; omega)
        obtain ⟨b, off, rfl, hb, hc⟩ := (HH.out.2.1.step HX.out.2).at (k := k) (by have := HLN.out; omega)
        obtain ⟨c, hcc⟩ : ∃ c, c = zs.getD k 0 := ⟨_, rfl⟩
        rw [← hcc] at hc HS
        clear hcc
        have hlm : ((zs.take k).filter (fun x => decide (x < n))).length ≤ 1200 := by
          have h1 := List.length_filter_le (fun x => decide (x < n)) (zs.take k)
          have h2 := List.length_take_le k zs
          omega
        generalize (zs.take k).filter (fun x => decide (x < n)) = l at *
        have HK : Hid (k < len) := hlt
        by_cases hcn : c < n
        · have HS2 : Hid ((zs.take (k + 1)).filter (fun x => decide (x < n)) = l ++ [c]) := by unfold Hid; rw [HS.out]; simp [hcn]
          have hown : wr.ownsRow w.heap.size 3 1 u5 l.length (l.map (Value.int .i64)) := HX.out.1
          have hz4 : w.heap.size ≤ wr.heap.size := HX.out.2.size
          clear HS hb
          go_wp2_with (at_builtin; refine wpList_append_own _ rfl _ _ 50 rfl w.heap.size 3 i0 (.int .i64 0) 1 8 Tryz.underlying50 hi hz0 hz1 hz2 rfl (by decide) _ l.length _ rfl (hown.alloc _) ⟨wr.heap.size, 0, none⟩ 1 1 [.int .i64 c] rfl rfl ?c1 ?c2 ?c3 ?c4 ?c5 ?_)
          case c1 =>
            intro j u hu
            have := (CellsAt.new wr [.int .i64 c] 3).2 j u hu
            rw [Addr.add_lit, Nat.zero_add]
            exact this
          case c2 => intro u hu; simp at hu; rcases hu with rfl; rfl
          case c3 => unfold maxLen; omega
          case c4 => omega
          case c5 => simp; omega
          · intro v' w5 hown5 hgrow5 _
            have hrow : ∀ x, Value.ownBlock u5 = some x → w.heap.size ≤ x := fun x hx => (own_lt9 hown hx).1
            have X5 : Hid (OwnZ w5 w.heap.size v' (l ++ [c]) ∧ Ext w w5) := by
              refine ⟨?_, ext_row (HX.out.2.trans (Ext.one _ _)) hgrow5 hrow⟩
              rw [show l.map (Value.int .i64) ++ [.int .i64 c] = (l ++ [c]).map (Value.int .i64) by simp] at hown5
              unfold OwnZ
              rw [List.length_append]
              exact hown5
            clear hgrow5 hown5 hown
            clear HX
            go_wp2
            go_roundw
            case rel => exact ⟨k + 1, by go_num, by have := HK.out; omega, by rw [HS2.out]; exact X5.out⟩
            case measure => simp [intOf]; omega
        · have HS2 : Hid ((zs.take (k + 1)).filter (fun x => decide (x < n)) = l) := by unfold Hid; rw [HS.out]; simp [hcn]
          clear HS hb
          go_wp2
          go_roundw
          case rel => exact ⟨k + 1, by go_num, by have := HK.out; omega, by rw [HS2.out]; exact HX.out⟩
          case measure => simp [intOf]; omega
      · obtain rfl : len = k := by omega
        have HX2 : Hid (OwnZ wr w.heap.size u5 (zs.filter (fun x => decide (x < n))) ∧ Ext w wr) := by
          have := HX.out
          rw [HLN.out, List.take_length] at this
          exact this
        have hlm : (zs.filter (fun x => decide (x < n))).length ≤ 1200 := by
          have h1 := List.length_filter_le (fun x => decide (x < n)) zs
          have h2 := HLN.out
          omega
        clear HX
        generalize zs.filter (fun x => decide (x < n)) = l at *
        have hown : wr.ownsRow w.heap.size 3 1 u5 l.length (l.map (Value.int .i64)) := HX2.out.1
        have hz4 : w.heap.size ≤ wr.heap.size := HX2.out.2.size
        have HXE : Hid (Ext w wr) := HX2.out.2
        clear HX2
        obtain ⟨c, hcc⟩ : ∃ c, c = n := ⟨_, rfl⟩
        have HCC : Hid (c = n) := hcc
        rw [← hcc]
        rw [← hcc] at HP2
        clear hcc
        go_wp2_with (at_builtin; refine wpList_append_own _ rfl _ _ 50 rfl w.heap.size 3 i0 (.int .i64 0) 1 8 Tryz.underlying50 hi hz0 hz1 hz2 rfl (by decide) _ l.length _ rfl (hown.alloc _) ⟨wr.heap.size, 0, none⟩ 1 1 [.int .i64 c] rfl rfl ?c1 ?c2 ?c3 ?c4 ?c5 ?_)
        case c1 =>
          intro j u hu
          have := (CellsAt.new wr [.int .i64 c] 3).2 j u hu
          rw [Addr.add_lit, Nat.zero_add]
          exact this
        case c2 => intro u hu; simp at hu; rcases hu with rfl; rfl
        case c3 => unfold maxLen; omega
        case c4 => omega
        case c5 => simp; omega
        · intro v' w5 hown5 hgrow5 _
          have hrow : ∀ x, Value.ownBlock u5 = some x → w.heap.size ≤ x := fun x hx => (own_lt9 hown hx).1
          have X5 : Hid (OwnZ w5 w.heap.size v' (l ++ [c]) ∧ Ext w w5) := by
            refine ⟨?_, ext_row (HXE.out.trans (Ext.one _ _)) hgrow5 hrow⟩
            rw [show l.map (Value.int .i64) ++ [.int .i64 c] = (l ++ [c]).map (Value.int .i64) by simp] at hown5
            unfold OwnZ
            rw [List.length_append]
            exact hown5
          clear hgrow5 hown5 hown
          clear HXE
          obtain ⟨m0, hm0⟩ : ∃ m0, m0 = l ++ [c] := ⟨_, rfl⟩
          rw [← hm0] at X5 HP2
          have hm1 : m0.length ≤ 1201 := by rw [hm0]; simp; omega
          clear hm0 hlm
          go_wp2_with fail
          go_loopw [5, 7] (fun ov iv wr => ∃ k : Nat, iv = .int .i64 k ∧ k ≤ len ∧ Hid (OwnZ wr w.heap.size ov (m0 ++ (zs.take k).filter (fun x => decide (c < x))) ∧ Ext w wr)) (fun _ iv _ => len - (intOf iv).toNat)
          case atStart => exact ⟨0, rfl, by omega, by simpa using X5.out.1, X5.out.2⟩
          case round =>
            obtain ⟨k, rfl, hk, HX⟩ := hrel
            clear X5
            by_cases hlt : k < len
            · have bk : (k : Int) < (len : Int) := by omega
              have HS : Hid ((zs.take (k + 1)).filter (fun x => decide (c < x)) = (zs.take k).filter (fun x => decide (c < x)) ++ (if decide (c < zs.getD k 0) then [zs.getD k 0] else [])) := take_filter zs _ k (by have := HLN.out; omega)
              obtain ⟨b, off, rfl, hb, hc⟩ := (HH.out.2.1.step HX.out.2).at (k := k) (by have := HLN.out; omega)
              obtain ⟨d, hcc⟩ : ∃ d, d = zs.getD k 0 := ⟨_, rfl⟩
              rw [← hcc] at hc HS
              clear hcc
              have hlm : ((zs.take k).filter (fun x => decide (c < x))).length ≤ 1200 := by
                have h1 := List.length_filter_le (fun x => decide (c < x)) (zs.take k)
                have h2 := List.length_take_le k zs
                omega
              generalize (zs.take k).filter (fun x => decide (c < x)) = l1 at *
              have HK : Hid (k < len) := hlt
              by_cases hcn : c < d
              · have HS2 : Hid (m0 ++ (zs.take (k + 1)).filter (fun x => decide (c < x)) = (m0 ++ l1) ++ [d]) := by unfold Hid; rw [HS.out]; simp [hcn]
                have hown : wr.ownsRow w.heap.size 3 1 u5 (m0 ++ l1).length ((m0 ++ l1).map (Value.int .i64)) := HX.out.1
                have hz4 : w.heap.size ≤ wr.heap.size := HX.out.2.size
                have hlq : (m0 ++ l1).length ≤ 2401 := by rw [List.length_append]; omega
                obtain ⟨q, hq⟩ : ∃ q, q = m0 ++ l1 := ⟨_, rfl⟩
                have HXE : Hid (Ext w wr) := HX.out.2
                rw [← hq] at hown HS2 hlq
                clear HS hb hq HX hlm hm1
                go_wp2_with (at_builtin; refine wpList_append_own _ rfl _ _ 50 rfl w.heap.size 3 i0 (.int .i64 0) 1 8 Tryz.underlying50 hi hz0 hz1 hz2 rfl (by decide) _ q.length _ rfl (hown.alloc _) ⟨wr.heap.size, 0, none⟩ 1 1 [.int .i64 d] rfl rfl ?c1 ?c2 ?c3 ?c4 ?c5 ?_)
                case c1 =>
                  intro j u hu
                  have := (CellsAt.new wr [.int .i64 d] 3).2 j u hu
                  rw [Addr.add_lit, Nat.zero_add]
                  exact this
                case c2 => intro u hu; simp at hu; rcases hu with rfl; rfl
                case c3 => unfold maxLen; omega
                case c4 => omega
                case c5 => simp; omega
                · intro v' w5 hown5 hgrow5 _
                  have hrow : ∀ x, Value.ownBlock u5 = some x → w.heap.size ≤ x := fun x hx => (own_lt9 hown hx).1
                  have X5 : Hid (OwnZ w5 w.heap.size v' (q ++ [d]) ∧ Ext w w5) := by
                    refine ⟨?_, ext_row (HXE.out.trans (Ext.one _ _)) hgrow5 hrow⟩
                    rw [show q.map (Value.int .i64) ++ [.int .i64 d] = (q ++ [d]).map (Value.int .i64) by simp] at hown5
                    unfold OwnZ
                    rw [List.length_append]
                    exact hown5
                  clear hgrow5 hown5 hown
                  clear HXE
                  go_wp2
                  go_roundw
                  case rel => exact ⟨k + 1, by go_num, by have := HK.out; omega, by rw [HS2.out]; exact X5.out⟩
                  case measure => simp [intOf]; omega
              · have HS2 : Hid (m0 ++ (zs.take (k + 1)).filter (fun x => decide (c < x)) = m0 ++ l1) := by unfold Hid; rw [HS.out]; simp [hcn]
                clear HS hb
                go_wp2
                go_roundw
                case rel => exact ⟨k + 1, by go_num, by have := HK.out; omega, by rw [HS2.out]; exact HX.out⟩
                case measure => simp [intOf]; omega
            · obtain rfl : k = len := by omega
              have HX2 : Hid (OwnZ wr w.heap.size u5 out ∧ Ext w wr) := by
                have := HX.out
                rw [HLN.out, List.take_length] at this
                rw [HP2.out]
                exact this
              clear HX
              go_wp2
              go_ret
              exact ⟨_, rfl, own_mono HX2.out.1 HH.out.2.2, HX2.out.2⟩
  · have HP2 : Hid (out = zs) := HP.out
    clear HP
    go_enter Tryz.func115, Tryz.ntmps115
    go_wp2_with fail
    refine (show Calls Tryz.prog 114 _ _ _ from HI.out).mono ?_
    rintro e w' ⟨rfl, rfl⟩
    clear HI
    go_wp2
    go_ret
    exact ⟨_, rfl, by rw [HP2.out]; exact HH.out.1, Ext.refl _⟩

/-- How far a reader may still go. -/
def stLeft (s : Option Nat) : Nat := match s with
  | none => 0
  | some i => 1301 - i

def sLeft (W : World) (p : Nat) : Nat := match W.cell? ⟨p, 2, none⟩ with
  | some (.bool false) => (match W.cell? ⟨p, 1, none⟩ with
    | some (.int _ n) => 1301 - n.toNat
    | _ => 0)
  | _ => 0

theorem RdS.left {w : World} {p : Nat} {a : Option Addr} {cap : Nat} {G : List Sg} {s : Option Nat} (h : RdS w p a cap G s) : sLeft w p = stLeft s := by
  obtain ⟨i, b, hK, rfl, _⟩ := h
  unfold sLeft
  rw [hK.cell 2 _ rfl, hK.cell 1 _ rfl]
  cases b
  · simp [stLeft]
  · simp [stLeft]

theorem putZ_len (l : List Int) (n : Int) : (putZ l n).length ≤ l.length + 1 := by
  unfold putZ
  split
  · omega
  · rename_i h
    have h1 := (filter_parts n l (by simpa using h)).length_eq
    rw [h1]; simp

theorem sCall_next {G : List Sg} {i j : Nat} (h : (sCall G (some i)).2 = some j) : i < j := by
  unfold sCall at h
  cases hh : sHas G (some i)
  · rw [hh] at h
    simp only [Bool.false_eq_true, if_false] at h
    unfold sName at h
    simp only at h
    split at h
    · simp at h; omega
    · simp at h
  · rw [hh] at h
    simp only [if_true] at h
    unfold sNum at h
    rw [hh] at h
    simp at h; omega

set_option maxRecDepth 100000 in
set_option maxHeartbeats 1600000 in
theorem xNums_any {w : World} {p : Nat} {a : Option Addr} {cap : Nat} {G : List Sg} {s : Option Nat} (h : RdS w p a cap G s) :
    Calls Tryz.prog 77 #[.pointer (some ⟨p, 0, none⟩)] w fun e w' => ∃ v, e = .returned v ∧ OwnZ w' w.heap.size v (sNums G s).1 ∧ RdS w' p a cap G (sNums G s).2 ∧ GB p w w' := by
  obtain ⟨o, ho⟩ : ∃ o, o = sNums G s := ⟨_, rfl⟩
  rw [← ho]
  have HM : Hid (o = if sIs G s 1 tAny then ([], nx s) else sNumsF (G.length + 1) G [] s) := ho
  clear ho
  have X1 : Hid (RdS (w.alloc (.cells #[] 3)) p a cap G s ∧ GB p w (w.alloc (.cells #[] 3)) ∧ OwnZ (w.alloc (.cells #[] 3)) w.heap.size (.slice (some ⟨w.heap.size, 0, none⟩) 0 0) []) := ⟨h.step (Ext.one _ _), gb_ext (Ext.one _ _), World.ownsRow_lit (e := 3) (size := 1) w #[] 0 (Nat.le_refl _) (by decide) rfl⟩
  have H0 : Hid (RdS w p a cap G s ∧ p < w.heap.size) := ⟨h, h.lt⟩
  have H1 : Hid (Calls Tryz.prog 73 #[.pointer (some ⟨p, 0, none⟩), .int .i64 1, .string ⟨#[97, 110, 121]⟩] (w.alloc (.cells #[] 3)) fun e w' => e = .returned (.bool (sIs G s 1 tAny)) ∧ RdS w' p a cap G (sTk G s 1 tAny) ∧ GB p (w.alloc (.cells #[] 3)) w') := takes_any 1 tAny X1.out.1
  rw [show sTk G s 1 tAny = if sIs G s 1 tAny then nx s else s from rfl] at H1
  clear h
  generalize sIs G s 1 tAny = z at *
  cases z
  case true =>
    have HM2 : Hid (o = ([], nx s)) := HM.out
    clear HM
    rw [HM2.out]
    go_enter Tryz.func77, Tryz.ntmps77
    go_wp2_with fail
    refine (show Calls Tryz.prog 73 _ _ _ from H1.out).mono ?_
    rintro e w2 ⟨rfl, r2, g2⟩
    have X2 : Hid (RdS w2 p a cap G (nx s) ∧ GB p w w2 ∧ OwnZ w2 w.heap.size (.slice (some ⟨w.heap.size, 0, none⟩) 0 0) []) := ⟨r2, gb_trans X1.out.2.1 g2, own_gb X1.out.2.2 H0.out.2 g2⟩
    clear r2 g2 H1 X1
    go_wp2
    go_ret
    exact ⟨_, rfl, X2.out.2.2, X2.out.1, X2.out.2.1⟩
  case false =>
    have HM2 : Hid (o = sNumsF (G.length + 1) G [] s) := HM.out
    clear HM
    go_enter Tryz.func77, Tryz.ntmps77
    go_wp2_with fail
    refine (show Calls Tryz.prog 73 _ _ _ from H1.out).mono ?_
    rintro e w2 ⟨rfl, r2, g2⟩
    have X2 : Hid (RdS w2 p a cap G s ∧ GB p w w2 ∧ OwnZ w2 w.heap.size (.slice (some ⟨w.heap.size, 0, none⟩) 0 0) []) := ⟨r2, gb_trans X1.out.2.1 g2, own_gb X1.out.2.2 H0.out.2 g2⟩
    clear r2 g2 H1 X1
    go_wp2_with fail
    go_loopw [3] (fun ov wr => ∃ (acc : List Int) (t : Option Nat) (f : Nat), Hid (o = sNumsF f G acc t ∧ (∀ i, t = some i → G.length + 1 ≤ i + f ∧ acc.length ≤ i) ∧ RdS wr p a cap G t ∧ GB p w wr ∧ OwnZ wr w.heap.size ov acc)) (fun _ W => sLeft W p)
    case atStart => exact ⟨[], s, G.length + 1, HM2.out, fun i _ => ⟨by omega, by simp⟩, X2.out⟩
    case round =>
      obtain ⟨acc, t, f, HI⟩ := hrel
      clear X2 HM2
      cases t with
      | none =>
        obtain ⟨i7, hK, _⟩ := HI.out.2.2.1.lost
        have c2 := hK.cell 2 _ rfl
        have HO : Hid (o = (acc, none)) := by unfold Hid; rw [HI.out.1, sNumsF_none]
        clear hK
        go_wp2
        go_ret
        rw [HO.out]
        exact ⟨_, rfl, HI.out.2.2.2.2, HI.out.2.2.1, HI.out.2.2.2.1⟩
      | some i =>
        have hK := HI.out.2.2.1.at.1
        have c2 := hK.cell 2 _ rfl
        have HF : Hid (1 ≤ f ∧ sNumsF f G acc (some i) = if sIs G (sGot G acc (some i)) 3 tComma then sNumsF (f - 1) G (putZ acc (sCall G (some i)).1) (nx (sGot G acc (some i))) else (putZ acc (sCall G (some i)).1, sGot G acc (some i))) := by
          have h1 := HI.out.2.1 i rfl
          have h2 := HI.out.2.2.1.at.2
          refine ⟨by omega, ?_⟩
          obtain ⟨g, rfl⟩ : ∃ g, f = g + 1 := ⟨f - 1, by omega⟩
          rfl
        have HJ : Hid (∀ j, (sCall G (some i)).2 = some j → i < j) := fun j hj => sCall_next hj
        have HN : Hid (Calls Tryz.prog 74 #[.pointer (some ⟨p, 0, none⟩)] wr fun e w' => e = .returned (.bool (sHas G (some i))) ∧ Ext wr w') := hasNum_any HI.out.2.2.1
        have HCA : Hid (sCall G (some i) = if sHas G (some i) then sNum G (some i) else (callN (sName G (some i)).1, (sName G (some i)).2)) := rfl
        clear hK
        generalize sHas G (some i) = zh at *
        cases zh
        · have HCA2 : Hid (sCall G (some i) = (callN (sName G (some i)).1, (sName G (some i)).2)) := HCA.out
          go_wp2_with fail
          refine (show Calls Tryz.prog 74 _ _ _ from HN.out).mono ?_
          rintro e w5 ⟨rfl, x5⟩
          have HNM : Hid (Calls Tryz.prog 75 #[.pointer (some ⟨p, 0, none⟩)] w5 fun e w' => e = .returned (.string (txt (sName G (some i)).1)) ∧ RdS w' p a cap G (sName G (some i)).2 ∧ GB p w5 w') := xName_any (HI.out.2.2.1.step x5)
          have X5 : Hid (GB p w w5 ∧ OwnZ w5 w.heap.size u3 acc) := ⟨gb_trans HI.out.2.2.2.1 (gb_ext x5), own_ext HI.out.2.2.2.2 x5⟩
          clear HCA HN x5 c2
          generalize (sName G (some i)).1 = tn at *
          generalize (sName G (some i)).2 = s2 at *
          go_wp2_with fail
          refine (show Calls Tryz.prog 75 _ _ _ from HNM.out).mono ?_
          rintro e w6 ⟨rfl, r6, g6⟩
          have X6 : Hid (RdS w6 p a cap G s2 ∧ GB p w w6 ∧ OwnZ w6 w.heap.size u3 acc) := ⟨r6, gb_trans X5.out.1 g6, own_gb X5.out.2 H0.out.2 g6⟩
          have HCN : Hid (Calls Tryz.prog 113 #[.string (txt tn)] w6 fun e w' => e = .returned (.int .i64 (callN tn)) ∧ Ext w6 w') := by
            have := sNumber_any (txt tn) w6
            unfold Hid
            simpa [txt] using this
          clear HNM r6 g6 X5
          generalize txt tn = st at *
          obtain ⟨c, hc⟩ : ∃ c, c = callN tn := ⟨_, rfl⟩
          rw [← hc] at HCN HCA2
          clear hc
          go_wp2_with fail
          refine (show Calls Tryz.prog 113 _ _ _ from HCN.out).mono ?_
          rintro e w7 ⟨rfl, x7⟩
          have X7 : Hid (RdS w7 p a cap G s2 ∧ GB p w w7 ∧ OwnZ w7 w.heap.size u3 acc) := ⟨X6.out.1.step x7, gb_trans X6.out.2.1 (gb_ext x7), own_ext X6.out.2.2 x7⟩
          have HC : Hid (sCall G (some i) = (c, s2)) := HCA2.out
          clear HCN x7 X6 HCA2
          rw [HC.out] at HJ HF
          simp only at HJ HF
          have hacc : acc.length ≤ 1200 := by have := (HI.out.2.1 i rfl).2; have := HI.out.2.2.1.at.2; omega
          by_cases hc0 : c < 0
          · have HG : Hid (sGot G acc (some i) = none) := by unfold Hid sGot; rw [HC.out]; simp [hc0]
            have X8 : Hid (RdS (w7.setCell ⟨p, 2, none⟩ (.bool true)) p a cap G none ∧ GB p w (w7.setCell ⟨p, 2, none⟩ (.bool true)) ∧ OwnZ (w7.setCell ⟨p, 2, none⟩ (.bool true)) w.heap.size u3 acc) := ⟨X7.out.1.bad, gb_trans X7.out.2.1 (gb_set _ _ _ _), own_gb X7.out.2.2 H0.out.2 (gb_set _ _ _ _)⟩
            obtain ⟨i7, b7, hK, _⟩ := X7.out.1
            have f1 := hK.free
            have c2 := hK.cell 2 _ rfl
            clear hK X7
            go_wp2_with fail
            generalize w7.setCell ⟨p, 2, none⟩ (.bool true) = w8 at *
            clear f1 c2
            have HPT : Hid (Calls Tryz.prog 115 #[u3, .int .i64 c] w8 fun e w' => ∃ u, e = .returned u ∧ OwnZ w' w.heap.size u (putZ acc c) ∧ Ext w8 w') := put_any X8.out.2.1.size hacc X8.out.2.2
            have hpl : (putZ acc c).length ≤ acc.length + 1 := putZ_len acc c
            generalize putZ acc c = acc2 at *
            go_wp2_with fail
            refine (show Calls Tryz.prog 115 _ _ _ from HPT.out).mono ?_
            rintro e w9 ⟨u9, rfl, o9, x9⟩
            have X9 : Hid (RdS w9 p a cap G none ∧ GB p w w9 ∧ OwnZ w9 w.heap.size u9 acc2) := ⟨X8.out.1.step x9, gb_trans X8.out.2.1 (gb_ext x9), o9⟩
            clear x9 o9 HPT X8
            have HT : Hid (Calls Tryz.prog 73 #[.pointer (some ⟨p, 0, none⟩), .int .i64 3, .string ⟨#[44]⟩] w9 fun e w' => e = .returned (.bool (sIs G none 3 tComma)) ∧ RdS w' p a cap G (sTk G none 3 tComma) ∧ GB p w9 w') := takes_any 3 tComma X9.out.1
            rw [show sTk G none 3 tComma = if sIs G none 3 tComma then nx none else none from rfl] at HT
            rw [show sIs G none 3 tComma = false from rfl] at HT
            go_wp2_with fail
            refine (show Calls Tryz.prog 73 _ _ _ from HT.out).mono ?_
            rintro e w10 ⟨rfl, r10, g10⟩
            have X10 : Hid (RdS w10 p a cap G none ∧ GB p w w10 ∧ OwnZ w10 w.heap.size u9 acc2) := ⟨r10, gb_trans X9.out.2.1 g10, own_gb X9.out.2.2 H0.out.2 g10⟩
            have HO : Hid (o = (acc2, none)) := by
              unfold Hid
              rw [HI.out.1, HF.out.2, HG.out]
              rfl
            clear r10 g10 HT X9 HI
            go_wp2
            go_ret
            rw [HO.out]
            exact ⟨_, rfl, X10.out.2.2, X10.out.1, X10.out.2.1⟩
          · obtain ⟨ua, ucap, rfl, hN, _⟩ := own_nums X7.out.2.2 rfl
            have HIN : Hid (Calls Tryz.prog 114 #[.slice ua acc.length ucap, .int .i64 c] w7 fun e w' => e = .returned (.bool (acc.contains c)) ∧ w7 = w') := l09In_any ua ucap acc c w7 (by omega) hN
            have HG : Hid (sGot G acc (some i) = if acc.contains c then none else s2) := by unfold Hid sGot; rw [HC.out]; simp [hc0]
            clear hN
            generalize acc.contains c = zi at *
            obtain ⟨an, han⟩ : ∃ an, an = acc.length := ⟨_, rfl⟩
            have HAN : Hid (an = acc.length) := han
            rw [← han] at HIN X7
            rw [← han]
            clear han
            cases zi
            · have HG : Hid (sGot G acc (some i) = s2) := HG.out
              go_wp2_with fail
              refine (show Calls Tryz.prog 114 _ _ _ from HIN.out).mono ?_
              rintro e w8 ⟨rfl, rfl⟩
              have X8 : Hid _ := X7.out
              clear HIN X7
              have HPT : Hid (Calls Tryz.prog 115 #[.slice ua an ucap, .int .i64 c] w7 fun e w' => ∃ u, e = .returned u ∧ OwnZ w' w.heap.size u (putZ acc c) ∧ Ext w7 w') := put_any X8.out.2.1.size hacc X8.out.2.2
              have hpl : (putZ acc c).length ≤ acc.length + 1 := putZ_len acc c
              generalize putZ acc c = acc2 at *
              go_wp2_with fail
              refine (show Calls Tryz.prog 115 _ _ _ from HPT.out).mono ?_
              rintro e w9 ⟨u9, rfl, o9, x9⟩
              have X9 : Hid (RdS w9 p a cap G s2 ∧ GB p w w9 ∧ OwnZ w9 w.heap.size u9 acc2) := ⟨X8.out.1.step x9, gb_trans X8.out.2.1 (gb_ext x9), o9⟩
              clear x9 o9 HPT X8
              have HT : Hid (Calls Tryz.prog 73 #[.pointer (some ⟨p, 0, none⟩), .int .i64 3, .string ⟨#[44]⟩] w9 fun e w' => e = .returned (.bool (sIs G s2 3 tComma)) ∧ RdS w' p a cap G (sTk G s2 3 tComma) ∧ GB p w9 w') := takes_any 3 tComma X9.out.1
              rw [show sTk G s2 3 tComma = if sIs G s2 3 tComma then nx s2 else s2 from rfl] at HT
              generalize hz : sIs G s2 3 tComma = z at *
              cases z
              · go_wp2_with fail
                refine (show Calls Tryz.prog 73 _ _ _ from HT.out).mono ?_
                rintro e w10 ⟨rfl, r10, g10⟩
                have X10 : Hid (RdS w10 p a cap G s2 ∧ GB p w w10 ∧ OwnZ w10 w.heap.size u9 acc2) := ⟨r10, gb_trans X9.out.2.1 g10, own_gb X9.out.2.2 H0.out.2 g10⟩
                have HO : Hid (o = (acc2, s2)) := by
                  unfold Hid
                  rw [HI.out.1, HF.out.2, HG.out]
                  rw [hz]; rfl
                clear r10 g10 HT X9 HI
                go_wp2
                go_ret
                rw [HO.out]
                exact ⟨_, rfl, X10.out.2.2, X10.out.1, X10.out.2.1⟩
              · obtain ⟨j, rfl, hj⟩ := sIs_lt hz
                have hij := (HJ.out j rfl)
                have HO : Hid (o = sNumsF (f - 1) G acc2 (some (j + 1)) ∧ G.length + 1 ≤ j + 1 + (f - 1) ∧ acc2.length ≤ j + 1 ∧ sLeft wr p = 1301 - i ∧ i < j ∧ j < 1300) := by
                  have h1 := HI.out.2.1 i rfl
                  have h2 := HF.out.1
                  have h3 := HI.out.2.2.1.left
                  have h4 := X9.out.1.at.2
                  refine ⟨?_, by omega, by omega, h3, hij, by omega⟩
                  rw [HI.out.1, HF.out.2, HG.out, hz]
                  rfl
                clear HI hz
                go_wp2_with fail
                refine (show Calls Tryz.prog 73 _ _ _ from HT.out).mono ?_
                rintro e w10 ⟨rfl, r10, g10⟩
                have X10 : Hid (RdS w10 p a cap G (some (j + 1)) ∧ GB p w w10 ∧ OwnZ w10 w.heap.size u9 acc2) := ⟨r10, gb_trans X9.out.2.1 g10, own_gb X9.out.2.2 H0.out.2 g10⟩
                clear r10 g10 HT X9
                go_wp2
                go_roundw
                case rel => exact ⟨acc2, some (j + 1), f - 1, HO.out.1, (fun k hk => by injection hk with hk; subst hk; exact ⟨HO.out.2.1, HO.out.2.2.1⟩), X10.out⟩
                case measure =>
                  have h1 := X10.out.1.left
                  have h2 := HO.out.2.2.2
                  rw [h1, h2.1]
                  simp only [stLeft]
                  omega
            · have HG : Hid (sGot G acc (some i) = none) := HG.out
              have X8 : Hid (RdS (w7.setCell ⟨p, 2, none⟩ (.bool true)) p a cap G none ∧ GB p w (w7.setCell ⟨p, 2, none⟩ (.bool true)) ∧ OwnZ (w7.setCell ⟨p, 2, none⟩ (.bool true)) w.heap.size (.slice ua an ucap) acc) := ⟨X7.out.1.bad, gb_trans X7.out.2.1 (gb_set _ _ _ _), own_gb X7.out.2.2 H0.out.2 (gb_set _ _ _ _)⟩
              obtain ⟨i7, b7, hK, _⟩ := X7.out.1
              have f1 := hK.free
              have c2 := hK.cell 2 _ rfl
              clear hK X7
              go_wp2_with fail
              refine (show Calls Tryz.prog 114 _ _ _ from HIN.out).mono ?_
              rintro e w8 ⟨rfl, rfl⟩
              clear HIN
              go_wp2_with fail
              generalize w7.setCell ⟨p, 2, none⟩ (.bool true) = w8 at *
              clear f1 c2
              have HPT : Hid (Calls Tryz.prog 115 #[.slice ua an ucap, .int .i64 c] w8 fun e w' => ∃ u, e = .returned u ∧ OwnZ w' w.heap.size u (putZ acc c) ∧ Ext w8 w') := put_any X8.out.2.1.size hacc X8.out.2.2
              have hpl : (putZ acc c).length ≤ acc.length + 1 := putZ_len acc c
              generalize putZ acc c = acc2 at *
              go_wp2_with fail
              refine (show Calls Tryz.prog 115 _ _ _ from HPT.out).mono ?_
              rintro e w9 ⟨u9, rfl, o9, x9⟩
              have X9 : Hid (RdS w9 p a cap G none ∧ GB p w w9 ∧ OwnZ w9 w.heap.size u9 acc2) := ⟨X8.out.1.step x9, gb_trans X8.out.2.1 (gb_ext x9), o9⟩
              clear x9 o9 HPT X8
              have HT : Hid (Calls Tryz.prog 73 #[.pointer (some ⟨p, 0, none⟩), .int .i64 3, .string ⟨#[44]⟩] w9 fun e w' => e = .returned (.bool (sIs G none 3 tComma)) ∧ RdS w' p a cap G (sTk G none 3 tComma) ∧ GB p w9 w') := takes_any 3 tComma X9.out.1
              rw [show sTk G none 3 tComma = if sIs G none 3 tComma then nx none else none from rfl] at HT
              rw [show sIs G none 3 tComma = false from rfl] at HT
              go_wp2_with fail
              refine (show Calls Tryz.prog 73 _ _ _ from HT.out).mono ?_
              rintro e w10 ⟨rfl, r10, g10⟩
              have X10 : Hid (RdS w10 p a cap G none ∧ GB p w w10 ∧ OwnZ w10 w.heap.size u9 acc2) := ⟨r10, gb_trans X9.out.2.1 g10, own_gb X9.out.2.2 H0.out.2 g10⟩
              have HO : Hid (o = (acc2, none)) := by
                unfold Hid
                rw [HI.out.1, HF.out.2, HG.out]
                rfl
              clear r10 g10 HT X9 HI
              go_wp2
              go_ret
              rw [HO.out]
              exact ⟨_, rfl, X10.out.2.2, X10.out.1, X10.out.2.1⟩
        · have HCA2 : Hid (sCall G (some i) = sNum G (some i)) := HCA.out
          go_wp2_with fail
          refine (show Calls Tryz.prog 74 _ _ _ from HN.out).mono ?_
          rintro e w5 ⟨rfl, x5⟩
          have HNM : Hid (Calls Tryz.prog 33 #[.pointer (some ⟨p, 0, none⟩)] w5 fun e w' => e = .returned (.int .i64 (sNum G (some i)).1) ∧ RdS w' p a cap G (sNum G (some i)).2 ∧ GB p w5 w') := xNum_any (HI.out.2.2.1.step x5)
          have X5 : Hid (GB p w w5 ∧ OwnZ w5 w.heap.size u3 acc) := ⟨gb_trans HI.out.2.2.2.1 (gb_ext x5), own_ext HI.out.2.2.2.2 x5⟩
          clear HCA HN x5 c2
          rw [← HCA2.out] at HNM
          clear HCA2
          obtain ⟨q, hq⟩ : ∃ q, q = sCall G (some i) := ⟨_, rfl⟩
          rw [← hq] at HNM
          obtain ⟨c, s2⟩ := q
          have HC : Hid (sCall G (some i) = (c, s2)) := hq.symm
          clear hq
          simp only at HNM
          rw [HC.out] at HJ HF
          simp only at HJ HF
          go_wp2_with fail
          refine (show Calls Tryz.prog 33 _ _ _ from HNM.out).mono ?_
          rintro e w7 ⟨rfl, r7, g7⟩
          have X7 : Hid (RdS w7 p a cap G s2 ∧ GB p w w7 ∧ OwnZ w7 w.heap.size u3 acc) := ⟨r7, gb_trans X5.out.1 g7, own_gb X5.out.2 H0.out.2 g7⟩
          clear HNM r7 g7 X5
          have hacc : acc.length ≤ 1200 := by have := (HI.out.2.1 i rfl).2; have := HI.out.2.2.1.at.2; omega
          by_cases hc0 : c < 0
          · have HG : Hid (sGot G acc (some i) = none) := by unfold Hid sGot; rw [HC.out]; simp [hc0]
            have X8 : Hid (RdS (w7.setCell ⟨p, 2, none⟩ (.bool true)) p a cap G none ∧ GB p w (w7.setCell ⟨p, 2, none⟩ (.bool true)) ∧ OwnZ (w7.setCell ⟨p, 2, none⟩ (.bool true)) w.heap.size u3 acc) := ⟨X7.out.1.bad, gb_trans X7.out.2.1 (gb_set _ _ _ _), own_gb X7.out.2.2 H0.out.2 (gb_set _ _ _ _)⟩
            obtain ⟨i7, b7, hK, _⟩ := X7.out.1
            have f1 := hK.free
            have c2 := hK.cell 2 _ rfl
            clear hK X7
            go_wp2_with fail
            generalize w7.setCell ⟨p, 2, none⟩ (.bool true) = w8 at *
            clear f1 c2
            have HPT : Hid (Calls Tryz.prog 115 #[u3, .int .i64 c] w8 fun e w' => ∃ u, e = .returned u ∧ OwnZ w' w.heap.size u (putZ acc c) ∧ Ext w8 w') := put_any X8.out.2.1.size hacc X8.out.2.2
            have hpl : (putZ acc c).length ≤ acc.length + 1 := putZ_len acc c
            generalize putZ acc c = acc2 at *
            go_wp2_with fail
            refine (show Calls Tryz.prog 115 _ _ _ from HPT.out).mono ?_
            rintro e w9 ⟨u9, rfl, o9, x9⟩
            have X9 : Hid (RdS w9 p a cap G none ∧ GB p w w9 ∧ OwnZ w9 w.heap.size u9 acc2) := ⟨X8.out.1.step x9, gb_trans X8.out.2.1 (gb_ext x9), o9⟩
            clear x9 o9 HPT X8
            have HT : Hid (Calls Tryz.prog 73 #[.pointer (some ⟨p, 0, none⟩), .int .i64 3, .string ⟨#[44]⟩] w9 fun e w' => e = .returned (.bool (sIs G none 3 tComma)) ∧ RdS w' p a cap G (sTk G none 3 tComma) ∧ GB p w9 w') := takes_any 3 tComma X9.out.1
            rw [show sTk G none 3 tComma = if sIs G none 3 tComma then nx none else none from rfl] at HT
            rw [show sIs G none 3 tComma = false from rfl] at HT
            go_wp2_with fail
            refine (show Calls Tryz.prog 73 _ _ _ from HT.out).mono ?_
            rintro e w10 ⟨rfl, r10, g10⟩
            have X10 : Hid (RdS w10 p a cap G none ∧ GB p w w10 ∧ OwnZ w10 w.heap.size u9 acc2) := ⟨r10, gb_trans X9.out.2.1 g10, own_gb X9.out.2.2 H0.out.2 g10⟩
            have HO : Hid (o = (acc2, none)) := by
              unfold Hid
              rw [HI.out.1, HF.out.2, HG.out]
              rfl
            clear r10 g10 HT X9 HI
            go_wp2
            go_ret
            rw [HO.out]
            exact ⟨_, rfl, X10.out.2.2, X10.out.1, X10.out.2.1⟩
          · obtain ⟨ua, ucap, rfl, hN, _⟩ := own_nums X7.out.2.2 rfl
            have HIN : Hid (Calls Tryz.prog 114 #[.slice ua acc.length ucap, .int .i64 c] w7 fun e w' => e = .returned (.bool (acc.contains c)) ∧ w7 = w') := l09In_any ua ucap acc c w7 (by omega) hN
            have HG : Hid (sGot G acc (some i) = if acc.contains c then none else s2) := by unfold Hid sGot; rw [HC.out]; simp [hc0]
            clear hN
            generalize acc.contains c = zi at *
            obtain ⟨an, han⟩ : ∃ an, an = acc.length := ⟨_, rfl⟩
            have HAN : Hid (an = acc.length) := han
            rw [← han] at HIN X7
            rw [← han]
            clear han
            cases zi
            · have HG : Hid (sGot G acc (some i) = s2) := HG.out
              go_wp2_with fail
              refine (show Calls Tryz.prog 114 _ _ _ from HIN.out).mono ?_
              rintro e w8 ⟨rfl, rfl⟩
              have X8 : Hid _ := X7.out
              clear HIN X7
              have HPT : Hid (Calls Tryz.prog 115 #[.slice ua an ucap, .int .i64 c] w7 fun e w' => ∃ u, e = .returned u ∧ OwnZ w' w.heap.size u (putZ acc c) ∧ Ext w7 w') := put_any X8.out.2.1.size hacc X8.out.2.2
              have hpl : (putZ acc c).length ≤ acc.length + 1 := putZ_len acc c
              generalize putZ acc c = acc2 at *
              go_wp2_with fail
              refine (show Calls Tryz.prog 115 _ _ _ from HPT.out).mono ?_
              rintro e w9 ⟨u9, rfl, o9, x9⟩
              have X9 : Hid (RdS w9 p a cap G s2 ∧ GB p w w9 ∧ OwnZ w9 w.heap.size u9 acc2) := ⟨X8.out.1.step x9, gb_trans X8.out.2.1 (gb_ext x9), o9⟩
              clear x9 o9 HPT X8
              have HT : Hid (Calls Tryz.prog 73 #[.pointer (some ⟨p, 0, none⟩), .int .i64 3, .string ⟨#[44]⟩] w9 fun e w' => e = .returned (.bool (sIs G s2 3 tComma)) ∧ RdS w' p a cap G (sTk G s2 3 tComma) ∧ GB p w9 w') := takes_any 3 tComma X9.out.1
              rw [show sTk G s2 3 tComma = if sIs G s2 3 tComma then nx s2 else s2 from rfl] at HT
              generalize hz : sIs G s2 3 tComma = z at *
              cases z
              · go_wp2_with fail
                refine (show Calls Tryz.prog 73 _ _ _ from HT.out).mono ?_
                rintro e w10 ⟨rfl, r10, g10⟩
                have X10 : Hid (RdS w10 p a cap G s2 ∧ GB p w w10 ∧ OwnZ w10 w.heap.size u9 acc2) := ⟨r10, gb_trans X9.out.2.1 g10, own_gb X9.out.2.2 H0.out.2 g10⟩
                have HO : Hid (o = (acc2, s2)) := by
                  unfold Hid
                  rw [HI.out.1, HF.out.2, HG.out]
                  rw [hz]; rfl
                clear r10 g10 HT X9 HI
                go_wp2
                go_ret
                rw [HO.out]
                exact ⟨_, rfl, X10.out.2.2, X10.out.1, X10.out.2.1⟩
              · obtain ⟨j, rfl, hj⟩ := sIs_lt hz
                have hij := (HJ.out j rfl)
                have HO : Hid (o = sNumsF (f - 1) G acc2 (some (j + 1)) ∧ G.length + 1 ≤ j + 1 + (f - 1) ∧ acc2.length ≤ j + 1 ∧ sLeft wr p = 1301 - i ∧ i < j ∧ j < 1300) := by
                  have h1 := HI.out.2.1 i rfl
                  have h2 := HF.out.1
                  have h3 := HI.out.2.2.1.left
                  have h4 := X9.out.1.at.2
                  refine ⟨?_, by omega, by omega, h3, hij, by omega⟩
                  rw [HI.out.1, HF.out.2, HG.out, hz]
                  rfl
                clear HI hz
                go_wp2_with fail
                refine (show Calls Tryz.prog 73 _ _ _ from HT.out).mono ?_
                rintro e w10 ⟨rfl, r10, g10⟩
                have X10 : Hid (RdS w10 p a cap G (some (j + 1)) ∧ GB p w w10 ∧ OwnZ w10 w.heap.size u9 acc2) := ⟨r10, gb_trans X9.out.2.1 g10, own_gb X9.out.2.2 H0.out.2 g10⟩
                clear r10 g10 HT X9
                go_wp2
                go_roundw
                case rel => exact ⟨acc2, some (j + 1), f - 1, HO.out.1, (fun k hk => by injection hk with hk; subst hk; exact ⟨HO.out.2.1, HO.out.2.2.1⟩), X10.out⟩
                case measure =>
                  have h1 := X10.out.1.left
                  have h2 := HO.out.2.2.2
                  rw [h1, h2.1]
                  simp only [stLeft]
                  omega
            · have HG : Hid (sGot G acc (some i) = none) := HG.out
              have X8 : Hid (RdS (w7.setCell ⟨p, 2, none⟩ (.bool true)) p a cap G none ∧ GB p w (w7.setCell ⟨p, 2, none⟩ (.bool true)) ∧ OwnZ (w7.setCell ⟨p, 2, none⟩ (.bool true)) w.heap.size (.slice ua an ucap) acc) := ⟨X7.out.1.bad, gb_trans X7.out.2.1 (gb_set _ _ _ _), own_gb X7.out.2.2 H0.out.2 (gb_set _ _ _ _)⟩
              obtain ⟨i7, b7, hK, _⟩ := X7.out.1
              have f1 := hK.free
              have c2 := hK.cell 2 _ rfl
              clear hK X7
              go_wp2_with fail
              refine (show Calls Tryz.prog 114 _ _ _ from HIN.out).mono ?_
              rintro e w8 ⟨rfl, rfl⟩
              clear HIN
              go_wp2_with fail
              generalize w7.setCell ⟨p, 2, none⟩ (.bool true) = w8 at *
              clear f1 c2
              have HPT : Hid (Calls Tryz.prog 115 #[.slice ua an ucap, .int .i64 c] w8 fun e w' => ∃ u, e = .returned u ∧ OwnZ w' w.heap.size u (putZ acc c) ∧ Ext w8 w') := put_any X8.out.2.1.size hacc X8.out.2.2
              have hpl : (putZ acc c).length ≤ acc.length + 1 := putZ_len acc c
              generalize putZ acc c = acc2 at *
              go_wp2_with fail
              refine (show Calls Tryz.prog 115 _ _ _ from HPT.out).mono ?_
              rintro e w9 ⟨u9, rfl, o9, x9⟩
              have X9 : Hid (RdS w9 p a cap G none ∧ GB p w w9 ∧ OwnZ w9 w.heap.size u9 acc2) := ⟨X8.out.1.step x9, gb_trans X8.out.2.1 (gb_ext x9), o9⟩
              clear x9 o9 HPT X8
              have HT : Hid (Calls Tryz.prog 73 #[.pointer (some ⟨p, 0, none⟩), .int .i64 3, .string ⟨#[44]⟩] w9 fun e w' => e = .returned (.bool (sIs G none 3 tComma)) ∧ RdS w' p a cap G (sTk G none 3 tComma) ∧ GB p w9 w') := takes_any 3 tComma X9.out.1
              rw [show sTk G none 3 tComma = if sIs G none 3 tComma then nx none else none from rfl] at HT
              rw [show sIs G none 3 tComma = false from rfl] at HT
              go_wp2_with fail
              refine (show Calls Tryz.prog 73 _ _ _ from HT.out).mono ?_
              rintro e w10 ⟨rfl, r10, g10⟩
              have X10 : Hid (RdS w10 p a cap G none ∧ GB p w w10 ∧ OwnZ w10 w.heap.size u9 acc2) := ⟨r10, gb_trans X9.out.2.1 g10, own_gb X9.out.2.2 H0.out.2 g10⟩
              have HO : Hid (o = (acc2, none)) := by
                unfold Hid
                rw [HI.out.1, HF.out.2, HG.out]
                rfl
              clear r10 g10 HT X9 HI
              go_wp2
              go_ret
              rw [HO.out]
              exact ⟨_, rfl, X10.out.2.2, X10.out.1, X10.out.2.1⟩

end Go.Proofs.YtojaohdmfahpmaaGreatDoor
