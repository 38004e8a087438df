/- Rules whose memory lies from a block on; rows of numbers and of conditions as append leaves them. -/
import Derived.Test.YthflflhcbnianaaDoorCrPack13
import Derived.Test.YthflflhcbnianaaDoorCrPack3
import Derived.Deep.RegionHeld3
import Derived.Handy
import Derived.Test.YthflflhcbnianaaDoorCrPack4
/- What the laws' helpers over slices of wide numbers and over calls answer: szWideS, toWideS, eqWideS, szCall, toCall, eqCall. -/
namespace Go.Proofs.YthflflhcbnianaaDoor
open Go.RowKit
set_option linter.unusedVariables false

theorem Tryd.infoW : (Tryd.prog.info? 25).map (fun i => (i.zero, i.size, i.bytes)) = some (some (.agg #[.int .i64 0, .int .i64 0]), 2, 16) := by kernel_rfl

/-- Two numbers lie side by side in an old block. -/
def Pair (w : World) (b o : Nat) (x y : Int) : Prop := b < w.heap.size ∧ w.cell? ⟨b, o, none⟩ = some (.int .i64 x) ∧ w.cell? ⟨b, o + 1, none⟩ = some (.int .i64 y)

theorem Pair.step {w w' : World} {b o : Nat} {x y : Int} (h : Pair w b o x y) (hE : Ext w w') : Pair w' b o x y :=
  ⟨Nat.lt_of_lt_of_le h.1 hE.size, (hE.cell (p := ⟨b, o, none⟩) h.1).trans h.2.1, (hE.cell (p := ⟨b, o + 1, none⟩) h.1).trans h.2.2⟩

theorem Wides.pair {w : World} {a : Option Addr} {ws : List (Int × Int)} (h : Wides w a ws) {k : Nat} (hk : k < ws.length) {x y : Int} (hp : (x, y) = ws.getD k (0, 0)) : ∃ b off, a = some ⟨b, off, none⟩ ∧ Pair w b (off + k * 2) x y := by
  obtain ⟨b, off, ha, hb, hc⟩ := h (by omega)
  refine ⟨b, off, ha, hb, ?_⟩
  have := hc k hk
  rw [← hp] at this
  exact this

theorem Wides.set {w : World} {g o : Nat} {ws : List (Int × Int)} (h : Wides w (some ⟨g, o, none⟩) ws) {k : Nat} (i : Nat) (hk : k ≠ g) (v : Value) : Wides (w.setCell ⟨k, i, none⟩ v) (some ⟨g, o, none⟩) ws := fun hp => by
  obtain ⟨b, off, ha, hb, hc⟩ := h hp
  have hbg : g = b := by injection ha with ha; injection ha
  subst hbg
  refine ⟨g, off, ha, by rw [World.size_setCell]; exact hb, fun j hj => ?_⟩
  obtain ⟨e1, e2⟩ := hc j hj
  exact ⟨by rw [World.cell?_setCell_other _ _ _ _ (by simp; try omega)]; exact e1, by rw [World.cell?_setCell_other _ _ _ _ (by simp; try omega)]; exact e2⟩

/-- The value v is the call of these numbers. -/
def RepCall (arch num : Int) (ws : List (Int × Int)) (v : Value) (w : World) : Prop := ∃ a cap, v = .agg #[.int .i64 arch, .int .i64 num, .slice a ws.length cap] ∧ Wides w a ws

theorem RepCall.step {arch num : Int} {ws : List (Int × Int)} {v : Value} {w w' : World} (h : RepCall arch num ws v w) (hE : Ext w w') : RepCall arch num ws v w' := by
  obtain ⟨a, cap, rfl, hw⟩ := h
  exact ⟨a, cap, rfl, hw.below hE (Nat.le_refl _)⟩

theorem sCall_rep (arch num : Int) (ws : List (Int × Int)) (v : Value) (w : World) (hl : ws.length ≤ 1048576) (h : RepCall arch num ws v w) :
    Calls Tryd.prog 40 #[v] w fun e w' => e = .returned (.bool (callB arch num ws)) ∧ Ext w w' := by
  obtain ⟨a, cap, rfl, hw⟩ := h
  exact sCall_any arch num a cap ws w hl hw

def fieldR (arch num : Int) (ws : List (Int × Int)) (t : Int) : Int := if fieldOk arch num ws t then fieldV arch num ws t else 0

theorem sField_rep (arch num : Int) (ws : List (Int × Int)) (t : Int) (v : Value) (w : World) (hl : ws.length ≤ 1048576) (h : RepCall arch num ws v w) :
    Calls Tryd.prog 41 #[v, .int .i64 t] w fun e w' => e = .returned (.tuple #[.int .i64 (fieldR arch num ws t), .bool (fieldOk arch num ws t)]) ∧ Ext w w' := by
  obtain ⟨a, cap, rfl, hw⟩ := h
  exact sField_any arch num a cap ws t w hl hw

theorem CellsAt.set {W : World} {k : Nat} {l : List Value} (h : CellsAt W k l) {g : Nat} (hg : g ≠ k) (j : Nat) (v : Value) : CellsAt (W.setCell ⟨g, j, none⟩ v) k l :=
  ⟨by rw [World.size_setCell]; exact h.1, fun i x hx => by rw [World.cell?_setCell_other _ _ _ _ (fun e => hg (by injection e))]; exact h.2 i x hx⟩

theorem condB_if (a mh ml cm vh vl : Int) : condB ⟨a, mh, ml, cm, vh, vl⟩ = (inB4 a 0 2 && inB4 cm 1 6 && wideB (mh, ml) && wideB (vh, vl)) := rfl

set_option maxRecDepth 100000 in
set_option maxHeartbeats 1600000 in
theorem iCondOk_any (a mh ml cm vh vl : Int) (w : World) : Calls Tryd.prog 69 #[.agg #[.int .i64 a, .int .i64 mh, .int .i64 ml, .int .i64 cm, .int .i64 vh, .int .i64 vl]] w fun e w' => e = .returned (.bool (condB ⟨a, mh, ml, cm, vh, vl⟩)) ∧ Ext w w' := by
  have HB : Hid (condB ⟨a, mh, ml, cm, vh, vl⟩ = (inB4 a 0 2 && inB4 cm 1 6 && wideB (mh, ml) && wideB (vh, vl))) := rfl
  have HE : Hid (∀ o, Ext w (w.alloc o)) := fun o => Ext.one w o
  by_cases h0 : 0 ≤ a
  · by_cases h1 : a ≤ 2
    · by_cases h2 : 1 ≤ cm
      · by_cases h3 : cm ≤ 6
        · have HI : Hid (inB4 a 0 2 = true ∧ inB4 cm 1 6 = true) := ⟨inB_true4.2 ⟨h0, h1⟩, inB_true4.2 ⟨h2, h3⟩⟩
          go_enter Tryd.func69, Tryd.ntmps69
          go_wp2_with fail
          refine (iWide_any mh ml _).mono ?_
          rintro e w1 ⟨rfl, x1⟩
          have c1 := (CellsAt.new w [.int .i64 a, .int .i64 mh, .int .i64 ml, .int .i64 cm, .int .i64 vh, .int .i64 vl] 27).step x1
          have q4 := c1.2 4 _ rfl
          have q5 := c1.2 5 _ rfl
          have X1 : Hid (Ext w w1) := (HE.out _).trans x1
          clear x1 c1
          cases hw : wideB (mh, ml)
          · go_wp2
            go_ret
            exact ⟨by rw [HB.out, hw]; simp, X1.out⟩
          · go_wp2_with fail
            refine (iWide_any vh vl _).mono ?_
            rintro e w2 ⟨rfl, x2⟩
            have X2 : Hid (Ext w w2) := X1.out.trans x2
            clear x2 q4 q5
            go_wp2
            go_ret
            exact ⟨by rw [HB.out, hw, HI.out.1, HI.out.2]; simp, X2.out⟩
        · have HI : Hid (inB4 cm 1 6 = false) := inB_false4.2 (by omega)
          go_enter Tryd.func69, Tryd.ntmps69
          go_wp2
          go_ret
          exact ⟨by rw [HB.out, HI.out]; simp, HE.out _⟩
      · have HI : Hid (inB4 cm 1 6 = false) := inB_false4.2 (by omega)
        have h2' : cm < 1 := by omega
        go_enter Tryd.func69, Tryd.ntmps69
        go_wp2
        go_ret
        exact ⟨by rw [HB.out, HI.out]; simp, HE.out _⟩
    · have HI : Hid (inB4 a 0 2 = false) := inB_false4.2 (by omega)
      have h2' : 3 ≤ a := by omega
      go_enter Tryd.func69, Tryd.ntmps69
      go_wp2
      go_ret
      exact ⟨by rw [HB.out, HI.out]; simp, HE.out _⟩
  · have HI : Hid (inB4 a 0 2 = false) := inB_false4.2 (by omega)
    have h2' : a < 0 := by omega
    go_enter Tryd.func69, Tryd.ntmps69
    go_wp2
    go_ret
    exact ⟨by rw [HB.out, HI.out]; simp, HE.out _⟩

set_option maxRecDepth 100000 in
set_option maxHeartbeats 1600000 in
theorem sCondOk_any (a mh ml cm vh vl : Int) (w : World) : Calls Tryd.prog 48 #[.agg #[.int .i64 a, .int .i64 mh, .int .i64 ml, .int .i64 cm, .int .i64 vh, .int .i64 vl]] w fun e w' => e = .returned (.bool (condB ⟨a, mh, ml, cm, vh, vl⟩)) ∧ Ext w w' := by
  have HB : Hid (condB ⟨a, mh, ml, cm, vh, vl⟩ = (inB4 a 0 2 && inB4 cm 1 6 && wideB (mh, ml) && wideB (vh, vl))) := rfl
  have HE : Hid (∀ o, Ext w (w.alloc o)) := fun o => Ext.one w o
  cases h0 : inB4 a 0 2
  · go_enter Tryd.func48, Tryd.ntmps48
    go_wp2_with (go_at_call 47; refine (in4_any _ _ _ _).mono ?_; rintro e w' ⟨rfl, rfl⟩)
    go_ret
    exact ⟨by rw [HB.out, h0]; simp, HE.out _⟩
  · go_enter Tryd.func48, Tryd.ntmps48
    go_wp2_with (go_at_call 47; refine (in4_any _ _ _ _).mono ?_; rintro e w' ⟨rfl, rfl⟩)
    refine (sWide_any mh ml _).mono ?_
    rintro e w1 ⟨rfl, x1⟩
    have c1 := (CellsAt.new w [.int .i64 a, .int .i64 mh, .int .i64 ml, .int .i64 cm, .int .i64 vh, .int .i64 vl] 27).step x1
    have q4 := c1.2 4 _ rfl
    have q5 := c1.2 5 _ rfl
    have X1 : Hid (Ext w w1) := (HE.out _).trans x1
    clear x1
    cases hw : wideB (mh, ml)
    · go_wp2
      go_ret
      exact ⟨by rw [HB.out, hw]; simp, X1.out⟩
    · go_wp2_with fail
      refine (sWide_any vh vl _).mono ?_
      rintro e w2 ⟨rfl, x2⟩
      have X2 : Hid (Ext w w2) := X1.out.trans x2
      have q3 := (c1.step x2).2 3 _ rfl
      clear x2 q4 q5 c1
      cases hv : wideB (vh, vl)
      · go_wp2
        go_ret
        exact ⟨by rw [HB.out, hv]; simp, X2.out⟩
      · go_wp2_with (go_at_call 47; refine (in4_any _ _ _ _).mono ?_; rintro e w' ⟨rfl, rfl⟩)
        go_ret
        exact ⟨by rw [HB.out, h0, hw, hv]; simp, X2.out⟩

/-- The cells l lie in block b from o on. -/
def Seg (W : World) (b o : Nat) (l : List Value) : Prop := ∀ i v, l[i]? = some v → W.cell? ⟨b, o + i, none⟩ = some v

theorem Seg.below {W W' : World} {B b o : Nat} {l : List Value} (h : Seg W b o l) (hb : Below B W W') (hB : b < B) : Seg W' b o l := fun i v hv => (hb.cell (p := ⟨b, o + i, none⟩) hB).trans (h i v hv)

theorem Seg.one {W : World} {b o : Nat} {v0 : Value} (h : Seg W b o [v0]) : W.cell? ⟨b, o, none⟩ = some v0 := h 0 _ rfl

theorem Seg.six {W : World} {b o : Nat} {v0 v1 v2 v3 v4 v5 : Value} (h : Seg W b o [v0, v1, v2, v3, v4, v5]) : W.cell? ⟨b, o, none⟩ = some v0 ∧ W.cell? ⟨b, o + 1, none⟩ = some v1 ∧ W.cell? ⟨b, o + 2, none⟩ = some v2 ∧ W.cell? ⟨b, o + 3, none⟩ = some v3 ∧ W.cell? ⟨b, o + 4, none⟩ = some v4 ∧ W.cell? ⟨b, o + 5, none⟩ = some v5 :=
  ⟨h 0 _ rfl, h 1 _ rfl, h 2 _ rfl, h 3 _ rfl, h 4 _ rfl, h 5 _ rfl⟩

/-- The values are stored into a block's cells from o on. -/
def putL (W : World) (g : Nat) : Nat → List Value → World
  | _, [] => W
  | o, v :: vs => putL (W.setCell ⟨g, o, none⟩ v) g (o + 1) vs

theorem putL_size (g : Nat) : ∀ (vs : List Value) (W : World) (o : Nat), (putL W g o vs).heap.size = W.heap.size
  | [], _, _ => rfl
  | v :: vs, W, o => by rw [putL, putL_size g vs, World.size_setCell]

theorem putL_frozen (g : Nat) (q : Addr) : ∀ (vs : List Value) (W : World) (o : Nat), (putL W g o vs).frozen? q = W.frozen? q
  | [], _, _ => rfl
  | v :: vs, W, o => by rw [putL, putL_frozen g q vs, World.frozen?_setCell]

theorem putL_far (g : Nat) (q : Addr) : ∀ (vs : List Value) (W : World) (o : Nat), (∀ i, i < vs.length → q ≠ ⟨g, o + i, none⟩) → (putL W g o vs).cell? q = W.cell? q
  | [], _, _, _ => rfl
  | v :: vs, W, o, h => by
    rw [putL, putL_far g q vs _ _ (fun i hi => by have := h (i + 1) (by simp; omega); rw [show o + 1 + i = o + (i + 1) by omega]; exact this)]
    exact World.cell?_setCell_other _ _ _ _ (Ne.symm (h 0 (by simp)))

theorem putL_some (g : Nat) (q : Addr) : ∀ (vs : List Value) (W : World) (o : Nat), (∃ u, W.cell? q = some u) → ∃ u, (putL W g o vs).cell? q = some u
  | [], _, _, h => h
  | v :: vs, W, o, h => by
    rw [putL]
    refine putL_some g q vs _ _ ?_
    by_cases hq : q = ⟨g, o, none⟩
    · subst hq
      obtain ⟨u, hu⟩ := h
      exact ⟨v, World.cell?_setCell_same _ _ _ hu⟩
    · rw [World.cell?_setCell_other _ _ _ _ (Ne.symm hq)]
      exact h

theorem Seg.putFar {W : World} {b o g p : Nat} {l vs : List Value} (h : Seg W b o l) (hf : b ≠ g ∨ o + l.length ≤ p ∨ p + vs.length ≤ o) : Seg (putL W g p vs) b o l := fun i v hv => by
  have hi : i < l.length := (List.getElem?_eq_some_iff.1 hv).1
  rw [putL_far g _ vs _ _ (fun j hj e => by injection e with e1 e2; rcases hf with hf | hf | hf <;> omega)]
  exact h i v hv

/-- Block g has N cells that may be written. -/
def FreeN (W : World) (g N : Nat) : Prop := g < W.heap.size ∧ ∀ j, j < N → (∃ u, W.cell? ⟨g, j, none⟩ = some u) ∧ W.frozen? ⟨g, j, none⟩ = false

theorem FreeN.step {W W' : World} {g N : Nat} (h : FreeN W g N) (hE : Ext W W') : FreeN W' g N :=
  ⟨Nat.lt_of_lt_of_le h.1 hE.size, fun j hj => ⟨by rw [hE.cell (p := ⟨g, j, none⟩) h.1]; exact (h.2 j hj).1, (hE.frozen (p := ⟨g, j, none⟩) h.1).trans (h.2 j hj).2⟩⟩

theorem FreeN.put {W : World} {g N : Nat} (h : FreeN W g N) (k o : Nat) (vs : List Value) : FreeN (putL W k o vs) g N :=
  ⟨by rw [putL_size]; exact h.1, fun j hj => ⟨putL_some k _ vs W o (h.2 j hj).1, by rw [putL_frozen]; exact (h.2 j hj).2⟩⟩

/-- A slice of conditions in memory, six cells each. -/
def Conds (w : World) (a : Option Addr) (cs : List CN) : Prop :=
  0 < cs.length → ∃ b off, a = some ⟨b, off, none⟩ ∧ b < w.heap.size ∧ ∀ j, j < cs.length → Seg w b (off + j * 6) (cs.getD j c0).l

theorem Conds.step {w w' : World} {a : Option Addr} {cs : List CN} (h : Conds w a cs) (hE : Ext w w') : Conds w' a cs := fun hp => by
  obtain ⟨b, off, ha, hb, hc⟩ := h hp
  exact ⟨b, off, ha, Nat.lt_of_lt_of_le hb hE.size, fun j hj => (hc j hj).below hE hb⟩

theorem Conds.at {w : World} {a : Option Addr} {cs : List CN} (h : Conds w a cs) {k : Nat} (hk : k < cs.length) {c : CN} (hc : c = cs.getD k c0) : ∃ b off, a = some ⟨b, off, none⟩ ∧ b < w.heap.size ∧ Seg w b (off + k * 6) c.l := by
  obtain ⟨b, off, ha, hb, hx⟩ := h (by omega)
  exact ⟨b, off, ha, hb, by rw [hc]; exact hx k hk⟩

theorem Conds.put {w : World} {b o g p : Nat} {cs : List CN} (h : Conds w (some ⟨b, o, none⟩) cs) (hg : b ≠ g) (vs : List Value) : Conds (putL w g p vs) (some ⟨b, o, none⟩) cs := fun hp => by
  obtain ⟨b', off, ha, hb, hc⟩ := h hp
  have e : b = b' := by injection ha with ha; injection ha
  subst e
  exact ⟨b, off, ha, by rw [putL_size]; exact hb, fun j hj => (hc j hj).putFar (.inl hg)⟩

/-- A slice of ints in memory. -/
def Nums (w : World) (a : Option Addr) (zs : List Int) : Prop :=
  0 < zs.length → ∃ b off, a = some ⟨b, off, none⟩ ∧ b < w.heap.size ∧ ∀ j, j < zs.length → w.cell? ⟨b, off + j, none⟩ = some (.int .i64 (zs.getD j 0))

theorem Nums.step {w w' : World} {a : Option Addr} {zs : List Int} (h : Nums w a zs) (hE : Ext w w') : Nums w' a zs := fun hp => by
  obtain ⟨b, off, ha, hb, hc⟩ := h hp
  exact ⟨b, off, ha, Nat.lt_of_lt_of_le hb hE.size, fun j hj => (hE.cell (p := ⟨b, off + j, none⟩) hb).trans (hc j hj)⟩

theorem Nums.at {w : World} {a : Option Addr} {zs : List Int} (h : Nums w a zs) {k : Nat} (hk : k < zs.length) : ∃ b off, a = some ⟨b, off, none⟩ ∧ b < w.heap.size ∧ w.cell? ⟨b, off + k, none⟩ = some (.int .i64 (zs.getD k 0)) := by
  obtain ⟨b, off, ha, hb, hx⟩ := h (by omega)
  exact ⟨b, off, ha, hb, hx k hk⟩

theorem Nums.put {w : World} {b o g p : Nat} {zs : List Int} (h : Nums w (some ⟨b, o, none⟩) zs) (hg : b ≠ g) (vs : List Value) : Nums (putL w g p vs) (some ⟨b, o, none⟩) zs := fun hp => by
  obtain ⟨b', off, ha, hb, hc⟩ := h hp
  have e : b = b' := by injection ha with ha; injection ha
  subst e
  exact ⟨b, off, ha, by rw [putL_size]; exact hb, fun j hj => by rw [putL_far g _ vs _ _ (fun i hi e => by injection e with e1 e2; exact hg e1)]; exact hc j hj⟩

/-- Block k is known whole, and may be written. -/
def Kn (W : World) (k : Nat) (l : List Value) (t : TypeId) : Prop := W.heap[k]? = some (.cells l.toArray t (0, 0))

theorem Kn.new (W : World) (l : List Value) (t : TypeId) : Kn (W.alloc (.cells l.toArray t)) W.heap.size l t := by
  unfold Kn World.alloc; simp

theorem Kn.new' (W : World) (l : List Value) (t : TypeId) (k : Nat) (hk : k = W.heap.size) : Kn (W.alloc (.cells l.toArray t)) k l t := by
  subst hk; exact Kn.new W l t

theorem Kn.lt {W : World} {k : Nat} {l : List Value} {t : TypeId} (h : Kn W k l t) : k < W.heap.size := (Array.getElem?_eq_some_iff.1 h).1

theorem Kn.cell {W : World} {k : Nat} {l : List Value} {t : TypeId} (h : Kn W k l t) (i : Nat) (v : Value) (hv : l[i]? = some v) : W.cell? ⟨k, i, none⟩ = some v := by
  rw [cell_of_row W k i _ t (0, 0) h]; simpa using hv

theorem Kn.free {W : World} {k : Nat} {l : List Value} {t : TypeId} (h : Kn W k l t) (i : Nat) : W.frozen? ⟨k, i, none⟩ = false := frozen_of_row W k i _ t h

theorem Kn.ext {W W' : World} {k : Nat} {l : List Value} {t : TypeId} (h : Kn W k l t) (hE : Ext W W') : Kn W' k l t := (hE.block k h.lt).trans h

theorem Kn.alloc {W : World} {k : Nat} {l : List Value} {t : TypeId} (h : Kn W k l t) (o : Obj) : Kn (W.alloc o) k l t := h.ext (Ext.one W o)

theorem Kn.drew {W : World} {k : Nat} {l : List Value} {t : TypeId} (h : Kn W k l t) : Kn W.drew k l t := h

theorem Kn.set {W : World} {k : Nat} {l : List Value} {t : TypeId} (h : Kn W k l t) (i : Nat) (v : Value) : Kn (W.setCell ⟨k, i, none⟩ v) k (l.set i v) t := by
  unfold Kn World.setCell
  unfold Kn at h
  simp only [Array.getElem?_modify, if_true, h, Option.map_some]
  simp

theorem Kn.other {W : World} {k j : Nat} {l : List Value} {t : TypeId} (h : Kn W k l t) (hj : k ≠ j) (i : Nat) (v : Value) : Kn (W.setCell ⟨j, i, none⟩ v) k l t :=
  (Below.heap_setCell _ _ _ _ hj).trans h

theorem Ext.set {W W' : World} (h : Ext W W') {k : Nat} (hk : W.heap.size ≤ k) (i : Nat) (v : Value) : Ext W (W'.setCell ⟨k, i, none⟩ v) := Below.setCell (p := ⟨k, i, none⟩) h hk v

theorem SegB.set {W : World} {b o k : Nat} {l : List Value} (h : b < W.heap.size ∧ Seg W b o l) (hk : b ≠ k) (i : Nat) (v : Value) : b < (W.setCell ⟨k, i, none⟩ v).heap.size ∧ Seg (W.setCell ⟨k, i, none⟩ v) b o l :=
  ⟨by rw [World.size_setCell]; exact h.1, fun j u hu => by rw [World.cell?_setCell_other _ _ _ _ (fun e => hk (by injection e with e1 e2; exact e1.symm))]; exact h.2 j u hu⟩

def okAt (zs : List Int) (i : Nat) : Bool := halfB (zs.getD i 0) && (decide (i = 0) || decide (zs.getD (i - 1) 0 < zs.getD i 0))

theorem numsB_okAt (zs : List Int) : numsB zs = (decide (zs.length ≤ 4) && (List.range zs.length).all (okAt zs)) := rfl

theorem drop_cons {zs : List Int} {k : Nat} (h : k < zs.length) : zs.drop k = zs.getD k 0 :: zs.drop (k + 1) := by
  rw [List.drop_eq_getElem_cons h]
  simp [List.getD_eq_getElem?_getD, h]

set_option maxRecDepth 100000 in
set_option maxHeartbeats 1600000 in
theorem l09In_any (a : Option Addr) (cap : Nat) (zs : List Int) (v : Int) (w : World) (hl : zs.length ≤ 1048576) (h : Nums w a zs) :
    Calls Tryd.prog 46 #[.slice a zs.length cap, .int .i64 v] w fun e w' => e = .returned (.bool (zs.contains v)) ∧ w = w' := by
  obtain ⟨n, hn⟩ : ∃ n, n = zs.length := ⟨_, rfl⟩
  have HN : Hid (n = zs.length) := hn
  have HA : Hid (Nums w a zs) := h
  obtain ⟨x, hx⟩ : ∃ x, x = zs.contains v := ⟨_, rfl⟩
  have HX : Hid ((zs.drop 0).contains v = x) := by rw [hx]; rfl
  rw [← hn] at hl ⊢
  rw [← hx]
  clear hn h hx
  go_enter Tryd.func46, Tryd.ntmps46
  go_wp2_with fail
  go_loop [5] (fun i => ∃ k : Nat, i = .int .i64 k ∧ k ≤ n ∧ Hid ((zs.drop k).contains v = x)) (fun i => n - (intOf i).toNat)
  case atStart => exact ⟨0, rfl, by omega, HX⟩
  case round =>
    obtain ⟨k, rfl, hk, hall⟩ := hrel
    by_cases hlt : k < n
    · have bk : (k : Int) < (n : Int) := by omega
      obtain ⟨b, off, rfl, hbl, hc⟩ := HA.out.at (k := k) (by have := HN.out; omega)
      obtain ⟨z, hz⟩ : ∃ z, z = zs.getD k 0 := ⟨_, rfl⟩
      have HD : Hid ((z :: zs.drop (k + 1)).contains v = x) := by rw [hz, ← drop_cons (by have := HN.out; omega)]; exact hall.out
      rw [← hz] at hc
      clear hz hall
      by_cases hvz : z = v
      · have HR : Hid (x = true) := by have := HD.out; rw [← this, hvz]; simp [Hid]
        have hq : (z == v) = true := by simpa using hvz
        clear hvz
        go_wp2
        go_ret
        exact ⟨by rw [HR.out]; rfl, rfl⟩
      · have HR : Hid ((zs.drop (k + 1)).contains v = x) := by
          have := HD.out
          rw [← this]
          have hq : (v == z) = false := by simp; exact fun e => hvz e.symm
          unfold Hid
          rw [List.contains_cons, hq]
          rfl
        have hq : (z == v) = false := by simpa using hvz
        clear hvz
        go_wp2
        go_round
        case rel => exact ⟨k + 1, by go_num, by omega, HR⟩
        case measure => simp [intOf]; omega
    · have hkn : k = n := by omega
      have HR : Hid (x = false) := by have := hall.out; rw [List.drop_eq_nil_of_le (by have := HN.out; omega)] at this; exact this.symm
      have bk : ¬ ((k : Int) < (n : Int)) := by omega
      clear hall hkn
      go_wp2
      go_ret
      exact ⟨by rw [HR.out]; rfl, rfl⟩

theorem condH_no1 {c : CN} {arch num : Int} {ws : List (Int × Int)} (h : condB c = false) : condH c arch num ws = false := by simp [condH, h]

theorem condH_no2 {c : CN} {arch num : Int} {ws : List (Int × Int)} (h : callB arch num ws = false) : condH c arch num ws = false := by simp [condH, h]

theorem condH_yes {c : CN} {arch num : Int} {ws : List (Int × Int)} (h : condB c = true) (k : callB arch num ws = true) : condH c arch num ws = asB (cmpC c ws) c.cm := by simp [condH, h, k]

theorem condB_parts {c : CN} (h : condB c = true) : 0 ≤ c.arg ∧ c.arg ≤ 2 ∧ 1 ≤ c.cm ∧ c.cm ≤ 6 := by
  simp only [condB, Bool.and_eq_true, inB_true4] at h
  exact ⟨h.1.1.1.1, h.1.1.1.2, h.1.1.2.1, h.1.1.2.2⟩

theorem callB_three {arch num : Int} {ws : List (Int × Int)} (h : callB arch num ws = true) : ws.length = 3 := by
  simp only [callB, Bool.and_eq_true, decide_eq_true_eq] at h
  exact h.1.2

set_option maxRecDepth 100000 in
set_option maxHeartbeats 1600000 in
theorem sCondHolds_any (ag mh ml cm vh vl : Int) (arch num : Int) (a : Option Addr) (cap : Nat) (ws : List (Int × Int)) (w : World) (hl : ws.length ≤ 1048576) (h : Wides w a ws) :
    Calls Tryd.prog 15 #[.agg #[.int .i64 ag, .int .i64 mh, .int .i64 ml, .int .i64 cm, .int .i64 vh, .int .i64 vl], .agg #[.int .i64 arch, .int .i64 num, .slice a ws.length cap]] w fun e w' => e = .returned (.bool (condH ⟨ag, mh, ml, cm, vh, vl⟩ arch num ws)) ∧ Ext w w' := by
  have HW : Hid (∀ W, Ext w W → Wides W a ws) := fun W hE => h.below hE (Nat.le_refl _)
  clear h
  go_enter Tryd.func15, Tryd.ntmps15
  go_wp2_with fail
  refine (sCondOk_any ag mh ml cm vh vl _).mono ?_
  rintro e w1 ⟨rfl, x1⟩
  have c1 := ((CellsAt.new w [.int .i64 ag, .int .i64 mh, .int .i64 ml, .int .i64 cm, .int .i64 vh, .int .i64 vl] 27).step (Ext.one _ _)).step x1
  have d1 := (CellsAt.new' (w.alloc (.cells #[.int .i64 ag, .int .i64 mh, .int .i64 ml, .int .i64 cm, .int .i64 vh, .int .i64 vl] 27)) [.int .i64 arch, .int .i64 num, .slice a ws.length cap] 30 (w.heap.size + 1) (by simp)).step x1
  have X1 : Hid (Ext w w1) := ((Ext.one w _).alloc _).trans x1
  clear x1
  cases hc : condB ⟨ag, mh, ml, cm, vh, vl⟩
  · have HN : Hid (condH ⟨ag, mh, ml, cm, vh, vl⟩ arch num ws = false) := condH_no1 hc
    clear c1 d1 hc
    go_wp2
    go_ret
    exact ⟨by rw [HN.out]; rfl, X1.out⟩
  obtain ⟨q1, q2, q3⟩ := (⟨d1.2 0 _ rfl, d1.2 1 _ rfl, d1.2 2 _ rfl⟩ : _ ∧ _ ∧ _)
  go_wp2_with fail
  refine (sCall_any arch num a cap ws _ hl (HW.out _ X1.out)).mono ?_
  rintro e w2 ⟨rfl, x2⟩
  have c2 := c1.step x2
  have d2 := d1.step x2
  have X2 : Hid (Ext w w2) := X1.out.trans x2
  clear x2 q1 q2 q3 c1 d1
  cases hk : callB arch num ws
  · have HN : Hid (condH ⟨ag, mh, ml, cm, vh, vl⟩ arch num ws = false) := condH_no2 hk
    clear c2 d2 hc hk
    go_wp2
    go_ret
    exact ⟨by rw [HN.out]; rfl, X2.out⟩
  have HP : Hid (condH ⟨ag, mh, ml, cm, vh, vl⟩ arch num ws = asB (cmpC ⟨ag, mh, ml, cm, vh, vl⟩ ws) cm) := condH_yes hc hk
  obtain ⟨a0, a2, m1, m6⟩ := condB_parts hc
  simp only at a0 a2 m1 m6
  obtain ⟨k, rfl⟩ : ∃ k : Nat, ag = k := ⟨ag.toNat, by omega⟩
  have h3 : ws.length = 3 := callB_three hk
  obtain ⟨p, hp⟩ : ∃ p, p = ws.getD k (0, 0) := ⟨_, rfl⟩
  obtain ⟨x, y⟩ := p
  obtain ⟨n, hn⟩ : ∃ n, n = cmpW (andW (x, y) (mh, ml)) (vh, vl) := ⟨_, rfl⟩
  have HC : Hid (cmpC ⟨(k : Int), mh, ml, cm, vh, vl⟩ ws = n) := by unfold Hid cmpC; rw [hn, hp]; simp
  obtain ⟨b, off, rfl, p2⟩ := (HW.out _ X2.out).pair (k := k) (by omega) hp
  rw [h3] at d2 ⊢
  have bk : (k : Int) < 3 := by omega
  clear hc hk hp h3 hl HW
  obtain ⟨z, hz⟩ : ∃ z, z = andW (x, y) (mh, ml) := ⟨_, rfl⟩
  have HA : Hid (∀ W : World, Calls Tryd.prog 32 #[.agg #[.int .i64 x, .int .i64 y], .agg #[.int .i64 mh, .int .i64 ml]] W fun e w' => e = .returned (.agg #[.int .i64 z.1, .int .i64 z.2]) ∧ Below W.heap.size W w') := fun W => by rw [hz]; exact sAnd_any x y mh ml W
  rw [← hz] at hn
  clear hz
  obtain ⟨z1, z2⟩ := z
  have HM : Hid (∀ W : World, Calls Tryd.prog 49 #[.agg #[.int .i64 z1, .int .i64 z2], .agg #[.int .i64 vh, .int .i64 vl]] W fun e w' => e = .returned (.int .i64 n) ∧ Below W.heap.size W w') := fun W => by rw [hn]; exact sCmp_any z1 z2 vh vl W
  clear hn
  have HA2 : Hid (∀ W : World, Calls Tryd.prog 32 #[.agg #[.int .i64 x, .int .i64 y], .agg #[.int .i64 mh, .int .i64 ml]] W fun e w' => e = .returned (.agg #[.int .i64 z1, .int .i64 z2]) ∧ Below W.heap.size W w') := HA.out
  clear HA
  go_wp2_with fail
  refine' wp_region_loose (.inl _ :: .inl _ :: .inl _ :: .inl _ :: .inl _ :: .inl _ :: .inl _ :: .inl _ :: .inl _ :: .inl _ :: .inl _ :: .inl _ :: .inl _ :: []) (fun w' => CellsAt w' w.heap.size [.int .i64 (k : Int), .int .i64 mh, .int .i64 ml, .int .i64 cm, .int .i64 vh, .int .i64 vl] ∧ CellsAt w' (w.heap.size + 1) [.int .i64 arch, .int .i64 num, .slice (some ⟨b, off, none⟩) 3 cap] ∧ Pair w' b (off + k * 2) x y) (by kernel_rfl) (by kernel_rfl) (⟨c2.drew, d2.drew, p2⟩) (fun _ _ h hE => ⟨h.1.step hE, h.2.1.step hE, h.2.2.step hE⟩) ?hAa ?hla ?hMa
  case' hMa => skip
  apply wpLoose_val rfl rfl
  case hs =>
    intro w1 hC hd Q1 hQ1
    obtain ⟨hE, hS⟩ := hC
    dsimp only [bare]
    obtain ⟨q1, q2, q3, q4, ⟨_, q5, q6⟩, q7, q8⟩ := (⟨hS.1.2 0 _ rfl, hS.1.2 1 _ rfl, hS.1.2 2 _ rfl, hS.2.1.2 2 _ rfl, hS.2.2, hS.1.2 4 _ rfl, hS.1.2 5 _ rfl⟩ : _ ∧ _ ∧ _ ∧ _ ∧ _ ∧ _ ∧ _)
    clear hd hE
    try clear hS
    go_wp2
    exact Ext.refl _
  case ha => rfl
  apply wpLoose_val rfl rfl
  case hs =>
    intro w1 hC hd Q1 hQ1
    obtain ⟨hE, hS⟩ := hC
    dsimp only [bare]
    obtain ⟨q1, q2, q3, q4, ⟨_, q5, q6⟩, q7, q8⟩ := (⟨hS.1.2 0 _ rfl, hS.1.2 1 _ rfl, hS.1.2 2 _ rfl, hS.2.1.2 2 _ rfl, hS.2.2, hS.1.2 4 _ rfl, hS.1.2 5 _ rfl⟩ : _ ∧ _ ∧ _ ∧ _ ∧ _ ∧ _ ∧ _)
    clear hd hE
    try clear hS
    go_wp2
    exact Ext.refl _
  case ha => rfl
  apply wpLoose_val rfl rfl
  case hs =>
    intro w1 hC hd Q1 hQ1
    obtain ⟨hE, hS⟩ := hC
    dsimp only [bare]
    obtain ⟨q1, q2, q3, q4, ⟨_, q5, q6⟩, q7, q8⟩ := (⟨hS.1.2 0 _ rfl, hS.1.2 1 _ rfl, hS.1.2 2 _ rfl, hS.2.1.2 2 _ rfl, hS.2.2, hS.1.2 4 _ rfl, hS.1.2 5 _ rfl⟩ : _ ∧ _ ∧ _ ∧ _ ∧ _ ∧ _ ∧ _)
    clear hd hE
    try clear hS
    go_wp2
    exact Ext.refl _
  case ha => rfl
  apply wpLoose_val rfl rfl
  case hs =>
    intro w1 hC hd Q1 hQ1
    obtain ⟨hE, hS⟩ := hC
    dsimp only [bare]
    obtain ⟨q1, q2, q3, q4, ⟨_, q5, q6⟩, q7, q8⟩ := (⟨hS.1.2 0 _ rfl, hS.1.2 1 _ rfl, hS.1.2 2 _ rfl, hS.2.1.2 2 _ rfl, hS.2.2, hS.1.2 4 _ rfl, hS.1.2 5 _ rfl⟩ : _ ∧ _ ∧ _ ∧ _ ∧ _ ∧ _ ∧ _)
    clear hd hE
    try clear hS
    go_wp2
    exact Ext.refl _
  case ha => rfl
  apply wpLoose_val rfl rfl
  case hs =>
    intro w1 hC hd Q1 hQ1
    obtain ⟨hE, hS⟩ := hC
    dsimp only [bare]
    obtain ⟨q1, q2, q3, q4, ⟨_, q5, q6⟩, q7, q8⟩ := (⟨hS.1.2 0 _ rfl, hS.1.2 1 _ rfl, hS.1.2 2 _ rfl, hS.2.1.2 2 _ rfl, hS.2.2, hS.1.2 4 _ rfl, hS.1.2 5 _ rfl⟩ : _ ∧ _ ∧ _ ∧ _ ∧ _ ∧ _ ∧ _)
    clear hd hE
    try clear hS
    go_wp2
    exact Ext.refl _
  case ha => rfl
  apply wpLoose_val rfl rfl
  case hs =>
    intro w1 hC hd Q1 hQ1
    obtain ⟨hE, hS⟩ := hC
    dsimp only [bare]
    obtain ⟨q1, q2, q3, q4, ⟨_, q5, q6⟩, q7, q8⟩ := (⟨hS.1.2 0 _ rfl, hS.1.2 1 _ rfl, hS.1.2 2 _ rfl, hS.2.1.2 2 _ rfl, hS.2.2, hS.1.2 4 _ rfl, hS.1.2 5 _ rfl⟩ : _ ∧ _ ∧ _ ∧ _ ∧ _ ∧ _ ∧ _)
    clear hd hE
    try clear hS
    go_wp2
    exact Ext.refl _
  case ha => rfl
  apply wpLoose_val rfl rfl
  case hs =>
    intro w1 hC hd Q1 hQ1
    obtain ⟨hE, hS⟩ := hC
    dsimp only [bare]
    obtain ⟨q1, q2, q3, q4, ⟨_, q5, q6⟩, q7, q8⟩ := (⟨hS.1.2 0 _ rfl, hS.1.2 1 _ rfl, hS.1.2 2 _ rfl, hS.2.1.2 2 _ rfl, hS.2.2, hS.1.2 4 _ rfl, hS.1.2 5 _ rfl⟩ : _ ∧ _ ∧ _ ∧ _ ∧ _ ∧ _ ∧ _)
    clear hd hE
    try clear hS
    go_wp2
    exact Ext.refl _
  case ha => rfl
  apply wpLoose_val rfl rfl
  case hs =>
    intro w1 hC hd Q1 hQ1
    obtain ⟨hE, hS⟩ := hC
    dsimp only [bare]
    obtain ⟨q1, q2, q3, q4, ⟨_, q5, q6⟩, q7, q8⟩ := (⟨hS.1.2 0 _ rfl, hS.1.2 1 _ rfl, hS.1.2 2 _ rfl, hS.2.1.2 2 _ rfl, hS.2.2, hS.1.2 4 _ rfl, hS.1.2 5 _ rfl⟩ : _ ∧ _ ∧ _ ∧ _ ∧ _ ∧ _ ∧ _)
    clear hd hE
    try clear hS
    go_wp2
    exact Ext.refl _
  case ha => rfl
  apply wpLoose_val rfl rfl
  case hs =>
    intro w1 hC hd Q1 hQ1
    obtain ⟨hE, hS⟩ := hC
    dsimp only [bare]
    clear hd
    go_wp2_with fail
    refine (HA2.out _).mono ?_
    rintro e w2 ⟨rfl, hb⟩
    go_wp2_with fail
    exact hb
  case ha => rfl
  apply wpLoose_val rfl rfl
  case hs =>
    intro w1 hC hd Q1 hQ1
    obtain ⟨hE, hS⟩ := hC
    dsimp only [bare]
    obtain ⟨q1, q2, q3, q4, ⟨_, q5, q6⟩, q7, q8⟩ := (⟨hS.1.2 0 _ rfl, hS.1.2 1 _ rfl, hS.1.2 2 _ rfl, hS.2.1.2 2 _ rfl, hS.2.2, hS.1.2 4 _ rfl, hS.1.2 5 _ rfl⟩ : _ ∧ _ ∧ _ ∧ _ ∧ _ ∧ _ ∧ _)
    clear hd hE
    try clear hS
    go_wp2
    exact Ext.refl _
  case ha => rfl
  apply wpLoose_val rfl rfl
  case hs =>
    intro w1 hC hd Q1 hQ1
    obtain ⟨hE, hS⟩ := hC
    dsimp only [bare]
    obtain ⟨q1, q2, q3, q4, ⟨_, q5, q6⟩, q7, q8⟩ := (⟨hS.1.2 0 _ rfl, hS.1.2 1 _ rfl, hS.1.2 2 _ rfl, hS.2.1.2 2 _ rfl, hS.2.2, hS.1.2 4 _ rfl, hS.1.2 5 _ rfl⟩ : _ ∧ _ ∧ _ ∧ _ ∧ _ ∧ _ ∧ _)
    clear hd hE
    try clear hS
    go_wp2
    exact Ext.refl _
  case ha => rfl
  apply wpLoose_val rfl rfl
  case hs =>
    intro w1 hC hd Q1 hQ1
    obtain ⟨hE, hS⟩ := hC
    dsimp only [bare]
    clear hd
    go_wp2_with fail
    refine (HM.out _).mono ?_
    rintro e w2 ⟨rfl, hb⟩
    go_wp2_with fail
    exact hb
  case ha => rfl
  apply wpLoose_val rfl rfl
  case hs =>
    intro w1 hC hd Q1 hQ1
    obtain ⟨hE, hS⟩ := hC
    dsimp only [bare]
    obtain ⟨q1, q2, q3, q4, ⟨_, q5, q6⟩, q7, q8⟩ := (⟨hS.1.2 0 _ rfl, hS.1.2 1 _ rfl, hS.1.2 2 _ rfl, hS.2.1.2 2 _ rfl, hS.2.2, hS.1.2 4 _ rfl, hS.1.2 5 _ rfl⟩ : _ ∧ _ ∧ _ ∧ _ ∧ _ ∧ _ ∧ _)
    clear hd hE
    try clear hS
    go_wp2
    exact Ext.refl _
  case ha => rfl
  refine wpLoose_nil ?_
  intro wa hEa hSa hFa
  have X4 : Hid (Ext w wa) := X2.out.drew.trans hEa
  have q3 := hSa.1.2 3 _ rfl
  clear hFa hEa hSa c2 d2 p2 X2 X1
  have hc : cm = 1 ∨ cm = 2 ∨ cm = 3 ∨ cm = 4 ∨ cm = 5 ∨ cm = 6 := by omega
  clear m1 m6
  rcases hc with rfl | rfl | rfl | rfl | rfl | rfl
  · go_wp2
    go_ret
    exact ⟨by rw [HP.out, HC.out]; rfl, X4.out⟩
  · go_wp2
    go_ret
    exact ⟨by rw [HP.out, HC.out]; rfl, X4.out⟩
  · go_wp2
    go_ret
    exact ⟨by rw [HP.out, HC.out]; rfl, X4.out⟩
  · go_wp2
    go_ret
    exact ⟨by rw [HP.out, HC.out]; rfl, X4.out⟩
  · go_wp2
    go_ret
    exact ⟨by rw [HP.out, HC.out]; rfl, X4.out⟩
  · go_wp2
    go_ret
    exact ⟨by rw [HP.out, HC.out]; rfl, X4.out⟩
  case hAa => kernel_rfl
  case hla => exact ⟨trivial, trivial, trivial, trivial, trivial, trivial, trivial, trivial, trivial, trivial, trivial, trivial, trivial, trivial⟩

theorem ruleB_if (zs : List Int) (cs : List CN) (a d : Int) : ruleB ⟨zs, cs, a, d⟩ = (outB a d && numsB zs && condsB cs) := rfl

/-- A number lies in a block. -/
def NumAt (w : World) (b o : Nat) (z : Int) : Prop := b < w.heap.size ∧ w.cell? ⟨b, o, none⟩ = some (.int .i64 z)

theorem NumAt.step {w w' : World} {b o : Nat} {z : Int} (h : NumAt w b o z) (hE : Ext w w') : NumAt w' b o z := ⟨Nat.lt_of_lt_of_le h.1 hE.size, (hE.cell (p := ⟨b, o, none⟩) h.1).trans h.2⟩

theorem NumAt.drew {w : World} {b o : Nat} {z : Int} (h : NumAt w b o z) : NumAt w.drew b o z := h

/-- The cells l lie in an old block. -/
def SegB (W : World) (b o : Nat) (l : List Value) : Prop := b < W.heap.size ∧ Seg W b o l

theorem SegB.step {W W' : World} {b o : Nat} {l : List Value} (h : SegB W b o l) (hE : Ext W W') : SegB W' b o l := ⟨Nat.lt_of_lt_of_le h.1 hE.size, h.2.below hE h.1⟩

theorem SegB.drew {W : World} {b o : Nat} {l : List Value} (h : SegB W b o l) : SegB W.drew b o l := h

theorem numH_nil {zs : List Int} {num : Int} (h : zs.length = 0) : numH zs num = true := by simp [numH, h]

theorem numH_some {zs : List Int} {num : Int} (h : zs.length ≠ 0) : numH zs num = zs.contains num := by simp only [numH, decide_eq_false h, Bool.false_or]

set_option maxRecDepth 100000 in
set_option maxHeartbeats 3200000 in
theorem sRuleHolds_any (zs : List Int) (cs : List CN) (act data : Int) (a1 a2 : Option Addr) (c1 c2 : Nat) (arch num : Int) (a : Option Addr) (cap : Nat) (ws : List (Int × Int)) (w : World)
    (l1 : zs.length ≤ 1048576) (l2 : cs.length ≤ 1048576) (hl : ws.length ≤ 1048576) (h1 : Nums w a1 zs) (h2 : Conds w a2 cs) (h : Wides w a ws) :
    Calls Tryd.prog 13 #[.agg #[.slice a1 zs.length c1, .slice a2 cs.length c2, .int .i64 act, .int .i64 data], .agg #[.int .i64 arch, .int .i64 num, .slice a ws.length cap]] w fun e w' => e = .returned (.bool (ruleH ⟨zs, cs, act, data⟩ arch num ws)) ∧ Ext w w' := by
  obtain ⟨n1, hn1⟩ : ∃ n1, n1 = zs.length := ⟨_, rfl⟩
  obtain ⟨n2, hn2⟩ : ∃ n2, n2 = cs.length := ⟨_, rfl⟩
  have HB : Hid (ruleH ⟨zs, cs, act, data⟩ arch num ws = (numH zs num && cs.all fun c => condH c arch num ws)) := rfl
  have HN : Hid (n1 = zs.length ∧ n2 = cs.length) := ⟨hn1, hn2⟩
  have H2 : Hid (∀ W, Ext w W → Conds W a2 cs) := fun W hE => h2.step hE
  have HI : Hid (∀ W, Ext w W → Calls Tryd.prog 46 #[.slice a1 n1 c1, .int .i64 num] W fun e w' => e = .returned (.bool (zs.contains num)) ∧ W = w') := fun W hE => by rw [hn1]; exact l09In_any a1 c1 zs num W l1 (h1.step hE)
  have HC : Hid (∀ W, Ext w W → ∀ ag mh ml cm vh vl, Calls Tryd.prog 15 #[.agg #[.int .i64 ag, .int .i64 mh, .int .i64 ml, .int .i64 cm, .int .i64 vh, .int .i64 vl], .agg #[.int .i64 arch, .int .i64 num, .slice a ws.length cap]] W fun e w' => e = .returned (.bool (condH ⟨ag, mh, ml, cm, vh, vl⟩ arch num ws)) ∧ Ext W w') := fun W hE ag mh ml cm vh vl => sCondHolds_any ag mh ml cm vh vl arch num a cap ws W hl (h.below hE (Nat.le_refl _))
  rw [← hn1] at l1 ⊢
  rw [← hn2] at l2 ⊢
  clear h1 h2 h hn1 hn2
  obtain ⟨nw, hnw⟩ : ∃ nw, nw = ws.length := ⟨_, rfl⟩
  rw [← hnw] at HC ⊢
  clear hnw hl
  obtain ⟨W, hW⟩ : ∃ W, W = (w.alloc (.cells #[.slice a1 n1 c1, .slice a2 n2 c2, .int .i64 act, .int .i64 data] 47)).alloc (.cells #[.int .i64 arch, .int .i64 num, .slice a nw cap] 30) := ⟨_, rfl⟩
  have HX : Hid (CellsAt W w.heap.size [.slice a1 n1 c1, .slice a2 n2 c2, .int .i64 act, .int .i64 data] ∧ CellsAt W (w.heap.size + 1) [.int .i64 arch, .int .i64 num, .slice a nw cap] ∧ Ext w W) := by
    rw [hW]
    exact ⟨(CellsAt.new w _ _).step (Ext.one _ _), CellsAt.new' _ _ _ _ (by simp), (Ext.one w _).alloc _⟩
  have HW : Hid (W = (w.alloc (.cells #[.slice a1 n1 c1, .slice a2 n2 c2, .int .i64 act, .int .i64 data] 47)).alloc (.cells #[.int .i64 arch, .int .i64 num, .slice a nw cap] 30)) := hW
  have hsz : W.heap.size = w.heap.size + 1 + 1 := by rw [hW]; simp
  obtain ⟨q0, q1, s1⟩ := (⟨HX.out.1.2 0 _ rfl, HX.out.1.2 1 _ rfl, HX.out.2.1.2 1 _ rfl⟩ : _ ∧ _ ∧ _)
  clear hW
  by_cases hn : numH zs num = true
  · have HY : Hid (ruleH ⟨zs, cs, act, data⟩ arch num ws = cs.all fun c => condH c arch num ws) := by rw [HB.out, hn]; rfl
    have hw : n1 = 0 ∨ (0 < n1 ∧ zs.contains num = true) := by
      by_cases h0 : zs.length = 0
      · exact .inl (by rw [HN.out.1]; exact h0)
      · exact .inr ⟨by have := HN.out.1; omega, by rw [← numH_some h0]; exact hn⟩
    clear hn HB
    rcases hw with h0 | ⟨h0, hcn⟩
    · have h0' : ¬ (0 : Int) < (n1 : Int) := by omega
      clear h0 HI
      go_enter Tryd.func13, Tryd.ntmps13
      go_wp2_with fail
      try rw [← HW.out]
      go_loopw [5] (fun i wr => ∃ k : Nat, i = .int .i64 k ∧ k ≤ n2 ∧ Hid (Ext W wr) ∧ Hid ((cs.take k).all (fun c => condH c arch num ws) = true)) (fun i _ => n2 - (intOf i).toNat)
      case atStart => exact ⟨0, rfl, by omega, Ext.refl _, by simp [Hid]⟩
      case round =>
        obtain ⟨k, rfl, hk, hE, hall⟩ := hrel
        have cx := HX.out.1.step hE.out
        have dx := HX.out.2.1.step hE.out
        have s1 := cx.2 1 _ rfl
        by_cases hlt : k < n2
        · have bk : (k : Int) < (n2 : Int) := by omega
          obtain ⟨c, hc⟩ : ∃ c, c = cs.getD k c0 := ⟨_, rfl⟩
          obtain ⟨b, off, rfl, hbl, hs⟩ := (H2.out wr (HX.out.2.2.trans hE.out)).at (k := k) (by have := HN.out.2; omega) hc
          obtain ⟨ag, mh, ml, cm, vh, vl⟩ := c
          have HCC : Hid (⟨ag, mh, ml, cm, vh, vl⟩ = cs.getD k c0) := hc
          have sx : SegB wr b (off + k * 6) [.int .i64 ag, .int .i64 mh, .int .i64 ml, .int .i64 cm, .int .i64 vh, .int .i64 vl] := ⟨hbl, hs⟩
          have HD : Hid (∀ W', Ext wr W' → Calls Tryd.prog 15 #[.agg #[.int .i64 ag, .int .i64 mh, .int .i64 ml, .int .i64 cm, .int .i64 vh, .int .i64 vl], .agg #[.int .i64 arch, .int .i64 num, .slice a nw cap]] W' fun e w' => e = .returned (.bool (condH ⟨ag, mh, ml, cm, vh, vl⟩ arch num ws)) ∧ Ext W' w') := fun W' hx => HC.out W' ((HX.out.2.2.trans hE.out).trans hx) ag mh ml cm vh vl
          clear hc hs hbl
          obtain ⟨cv, hcv⟩ : ∃ cv, cv = condH ⟨ag, mh, ml, cm, vh, vl⟩ arch num ws := ⟨_, rfl⟩
          rw [← hcv] at HD
          have HCV : Hid (cv = condH ⟨ag, mh, ml, cm, vh, vl⟩ arch num ws) := hcv
          clear hcv
          go_wp2_with fail
          clear s1
          refine' wp_region_loose (.inl _ :: .inl _ :: .inl _ :: .inl _ :: .inl _ :: .inl _ :: .inl _ :: .inl _ :: []) (fun w' => CellsAt w' w.heap.size [.slice a1 n1 c1, .slice (some ⟨b, off, none⟩) n2 c2, .int .i64 act, .int .i64 data] ∧ CellsAt w' (w.heap.size + 1) [.int .i64 arch, .int .i64 num, .slice a nw cap] ∧ SegB w' b (off + k * 6) [.int .i64 ag, .int .i64 mh, .int .i64 ml, .int .i64 cm, .int .i64 vh, .int .i64 vl]) (by kernel_rfl) (by kernel_rfl) (⟨cx.drew, dx.drew, sx.drew⟩) (fun _ _ h hE => ⟨h.1.step hE, h.2.1.step hE, h.2.2.step hE⟩) ?hAx ?hlx ?hMx
          case' hMx => skip
          apply wpLoose_val rfl rfl
          case hs =>
            intro w1 hC hd Q1 hQ1
            obtain ⟨hE, hS⟩ := hC
            dsimp only [bare]
            obtain ⟨q1, r0, r1, r2, ⟨p0, p1, p2, p3, p4, p5⟩⟩ := (⟨hS.1.2 1 _ rfl, hS.2.1.2 0 _ rfl, hS.2.1.2 1 _ rfl, hS.2.1.2 2 _ rfl, hS.2.2.2.six⟩ : _ ∧ _ ∧ _ ∧ _ ∧ _)
            clear hd hE
            try clear hS
            go_wp2
            exact Ext.refl _
          case ha => rfl
          apply wpLoose_val rfl rfl
          case hs =>
            intro w1 hC hd Q1 hQ1
            obtain ⟨hE, hS⟩ := hC
            dsimp only [bare]
            obtain ⟨q1, r0, r1, r2, ⟨p0, p1, p2, p3, p4, p5⟩⟩ := (⟨hS.1.2 1 _ rfl, hS.2.1.2 0 _ rfl, hS.2.1.2 1 _ rfl, hS.2.1.2 2 _ rfl, hS.2.2.2.six⟩ : _ ∧ _ ∧ _ ∧ _ ∧ _)
            clear hd hE
            try clear hS
            go_wp2
            exact Ext.refl _
          case ha => rfl
          apply wpLoose_val rfl rfl
          case hs =>
            intro w1 hC hd Q1 hQ1
            obtain ⟨hE, hS⟩ := hC
            dsimp only [bare]
            obtain ⟨q1, r0, r1, r2, ⟨p0, p1, p2, p3, p4, p5⟩⟩ := (⟨hS.1.2 1 _ rfl, hS.2.1.2 0 _ rfl, hS.2.1.2 1 _ rfl, hS.2.1.2 2 _ rfl, hS.2.2.2.six⟩ : _ ∧ _ ∧ _ ∧ _ ∧ _)
            clear hd hE
            try clear hS
            go_wp2
            exact Ext.refl _
          case ha => rfl
          apply wpLoose_val rfl rfl
          case hs =>
            intro w1 hC hd Q1 hQ1
            obtain ⟨hE, hS⟩ := hC
            dsimp only [bare]
            obtain ⟨q1, r0, r1, r2, ⟨p0, p1, p2, p3, p4, p5⟩⟩ := (⟨hS.1.2 1 _ rfl, hS.2.1.2 0 _ rfl, hS.2.1.2 1 _ rfl, hS.2.1.2 2 _ rfl, hS.2.2.2.six⟩ : _ ∧ _ ∧ _ ∧ _ ∧ _)
            clear hd hE
            try clear hS
            go_wp2
            exact Ext.refl _
          case ha => rfl
          apply wpLoose_val rfl rfl
          case hs =>
            intro w1 hC hd Q1 hQ1
            obtain ⟨hE, hS⟩ := hC
            dsimp only [bare]
            obtain ⟨q1, r0, r1, r2, ⟨p0, p1, p2, p3, p4, p5⟩⟩ := (⟨hS.1.2 1 _ rfl, hS.2.1.2 0 _ rfl, hS.2.1.2 1 _ rfl, hS.2.1.2 2 _ rfl, hS.2.2.2.six⟩ : _ ∧ _ ∧ _ ∧ _ ∧ _)
            clear hd hE
            try clear hS
            go_wp2
            exact Ext.refl _
          case ha => rfl
          apply wpLoose_val rfl rfl
          case hs =>
            intro w1 hC hd Q1 hQ1
            obtain ⟨hE, hS⟩ := hC
            dsimp only [bare]
            obtain ⟨q1, r0, r1, r2, ⟨p0, p1, p2, p3, p4, p5⟩⟩ := (⟨hS.1.2 1 _ rfl, hS.2.1.2 0 _ rfl, hS.2.1.2 1 _ rfl, hS.2.1.2 2 _ rfl, hS.2.2.2.six⟩ : _ ∧ _ ∧ _ ∧ _ ∧ _)
            clear hd hE
            try clear hS
            go_wp2
            exact Ext.refl _
          case ha => rfl
          apply wpLoose_val rfl rfl
          case hs =>
            intro w1 hC hd Q1 hQ1
            obtain ⟨hE, hS⟩ := hC
            dsimp only [bare]
            clear hd
            go_wp2_with fail
            refine (HD.out _ ((Ext.refl wr).drew.trans hE)).mono ?_
            rintro e w2 ⟨rfl, hb⟩
            go_wp2_with fail
            exact hb
          case ha => rfl
          apply wpLoose_val rfl rfl
          case hs =>
            intro w1 hC hd Q1 hQ1
            obtain ⟨hE, hS⟩ := hC
            dsimp only [bare]
            obtain ⟨q1, r0, r1, r2, ⟨p0, p1, p2, p3, p4, p5⟩⟩ := (⟨hS.1.2 1 _ rfl, hS.2.1.2 0 _ rfl, hS.2.1.2 1 _ rfl, hS.2.1.2 2 _ rfl, hS.2.2.2.six⟩ : _ ∧ _ ∧ _ ∧ _ ∧ _)
            clear hd hE
            try clear hS
            go_wp2
            exact Ext.refl _
          case ha => rfl
          refine wpLoose_nil ?_
          intro wx hEx hSx hFx
          have X2 : Hid (Ext W wx) := hE.out.drew.trans hEx
          clear hFx hSx hEx cx dx sx
          cases cv
          · have HF : Hid ((cs.all fun c => condH c arch num ws) = false) := all_bad (p := fun c => condH c arch num ws) (k := k) (d := c0) (by have := HN.out.2; omega) (by rw [← HCC.out]; exact HCV.out.symm)
            clear hall
            go_wp2
            go_ret
            exact ⟨by rw [HY.out, HF.out]; rfl, HX.out.2.2.trans X2.out⟩
          · have HT : Hid ((cs.take (k + 1)).all (fun c => condH c arch num ws) = true) := by
              unfold Hid
              rw [all_get cs (fun c => condH c arch num ws) c0 k (by have := HN.out.2; omega), hall.out, ← HCC.out, ← HCV.out]
              rfl
            clear hall
            go_wp2
            go_roundw
            case rel => exact ⟨k + 1, by go_num, by omega, X2, HT⟩
            case measure => simp [intOf]; omega
          case hAx => kernel_rfl
          case hlx => exact ⟨trivial, trivial, trivial, trivial, trivial, trivial, trivial, trivial, trivial⟩
        · have hkn : k = n2 := by omega
          have HT : Hid ((cs.all fun c => condH c arch num ws) = true) := all_end (k := k) (by have := HN.out.2; omega) hall.out
          have bk : ¬ ((k : Int) < (n2 : Int)) := by omega
          clear hall hkn cx dx
          go_wp2
          go_ret
          exact ⟨by rw [HY.out, HT.out]; rfl, HX.out.2.2.trans hE.out⟩
    · have h0' : (0 : Int) < (n1 : Int) := by omega
      rw [hcn] at HI
      clear h0
      go_enter Tryd.func13, Tryd.ntmps13
      go_wp2_with fail
      rw [← HW.out]
      refine (HI.out _ HX.out.2.2).mono ?_
      rintro e w1 ⟨rfl, rfl⟩
      go_wp2_with fail
      try rw [← HW.out]
      go_loopw [5] (fun i wr => ∃ k : Nat, i = .int .i64 k ∧ k ≤ n2 ∧ Hid (Ext W wr) ∧ Hid ((cs.take k).all (fun c => condH c arch num ws) = true)) (fun i _ => n2 - (intOf i).toNat)
      case atStart => exact ⟨0, rfl, by omega, Ext.refl _, by simp [Hid]⟩
      case round =>
        obtain ⟨k, rfl, hk, hE, hall⟩ := hrel
        have cx := HX.out.1.step hE.out
        have dx := HX.out.2.1.step hE.out
        have s1 := cx.2 1 _ rfl
        by_cases hlt : k < n2
        · have bk : (k : Int) < (n2 : Int) := by omega
          obtain ⟨c, hc⟩ : ∃ c, c = cs.getD k c0 := ⟨_, rfl⟩
          obtain ⟨b, off, rfl, hbl, hs⟩ := (H2.out wr (HX.out.2.2.trans hE.out)).at (k := k) (by have := HN.out.2; omega) hc
          obtain ⟨ag, mh, ml, cm, vh, vl⟩ := c
          have HCC : Hid (⟨ag, mh, ml, cm, vh, vl⟩ = cs.getD k c0) := hc
          have sx : SegB wr b (off + k * 6) [.int .i64 ag, .int .i64 mh, .int .i64 ml, .int .i64 cm, .int .i64 vh, .int .i64 vl] := ⟨hbl, hs⟩
          have HD : Hid (∀ W', Ext wr W' → Calls Tryd.prog 15 #[.agg #[.int .i64 ag, .int .i64 mh, .int .i64 ml, .int .i64 cm, .int .i64 vh, .int .i64 vl], .agg #[.int .i64 arch, .int .i64 num, .slice a nw cap]] W' fun e w' => e = .returned (.bool (condH ⟨ag, mh, ml, cm, vh, vl⟩ arch num ws)) ∧ Ext W' w') := fun W' hx => HC.out W' ((HX.out.2.2.trans hE.out).trans hx) ag mh ml cm vh vl
          clear hc hs hbl
          obtain ⟨cv, hcv⟩ : ∃ cv, cv = condH ⟨ag, mh, ml, cm, vh, vl⟩ arch num ws := ⟨_, rfl⟩
          rw [← hcv] at HD
          have HCV : Hid (cv = condH ⟨ag, mh, ml, cm, vh, vl⟩ arch num ws) := hcv
          clear hcv
          go_wp2_with fail
          clear s1
          refine' wp_region_loose (.inl _ :: .inl _ :: .inl _ :: .inl _ :: .inl _ :: .inl _ :: .inl _ :: .inl _ :: []) (fun w' => CellsAt w' w.heap.size [.slice a1 n1 c1, .slice (some ⟨b, off, none⟩) n2 c2, .int .i64 act, .int .i64 data] ∧ CellsAt w' (w.heap.size + 1) [.int .i64 arch, .int .i64 num, .slice a nw cap] ∧ SegB w' b (off + k * 6) [.int .i64 ag, .int .i64 mh, .int .i64 ml, .int .i64 cm, .int .i64 vh, .int .i64 vl]) (by kernel_rfl) (by kernel_rfl) (⟨cx.drew, dx.drew, sx.drew⟩) (fun _ _ h hE => ⟨h.1.step hE, h.2.1.step hE, h.2.2.step hE⟩) ?hAy ?hly ?hMy
          case' hMy => skip
          apply wpLoose_val rfl rfl
          case hs =>
            intro w1 hC hd Q1 hQ1
            obtain ⟨hE, hS⟩ := hC
            dsimp only [bare]
            obtain ⟨q1, r0, r1, r2, ⟨p0, p1, p2, p3, p4, p5⟩⟩ := (⟨hS.1.2 1 _ rfl, hS.2.1.2 0 _ rfl, hS.2.1.2 1 _ rfl, hS.2.1.2 2 _ rfl, hS.2.2.2.six⟩ : _ ∧ _ ∧ _ ∧ _ ∧ _)
            clear hd hE
            try clear hS
            go_wp2
            exact Ext.refl _
          case ha => rfl
          apply wpLoose_val rfl rfl
          case hs =>
            intro w1 hC hd Q1 hQ1
            obtain ⟨hE, hS⟩ := hC
            dsimp only [bare]
            obtain ⟨q1, r0, r1, r2, ⟨p0, p1, p2, p3, p4, p5⟩⟩ := (⟨hS.1.2 1 _ rfl, hS.2.1.2 0 _ rfl, hS.2.1.2 1 _ rfl, hS.2.1.2 2 _ rfl, hS.2.2.2.six⟩ : _ ∧ _ ∧ _ ∧ _ ∧ _)
            clear hd hE
            try clear hS
            go_wp2
            exact Ext.refl _
          case ha => rfl
          apply wpLoose_val rfl rfl
          case hs =>
            intro w1 hC hd Q1 hQ1
            obtain ⟨hE, hS⟩ := hC
            dsimp only [bare]
            obtain ⟨q1, r0, r1, r2, ⟨p0, p1, p2, p3, p4, p5⟩⟩ := (⟨hS.1.2 1 _ rfl, hS.2.1.2 0 _ rfl, hS.2.1.2 1 _ rfl, hS.2.1.2 2 _ rfl, hS.2.2.2.six⟩ : _ ∧ _ ∧ _ ∧ _ ∧ _)
            clear hd hE
            try clear hS
            go_wp2
            exact Ext.refl _
          case ha => rfl
          apply wpLoose_val rfl rfl
          case hs =>
            intro w1 hC hd Q1 hQ1
            obtain ⟨hE, hS⟩ := hC
            dsimp only [bare]
            obtain ⟨q1, r0, r1, r2, ⟨p0, p1, p2, p3, p4, p5⟩⟩ := (⟨hS.1.2 1 _ rfl, hS.2.1.2 0 _ rfl, hS.2.1.2 1 _ rfl, hS.2.1.2 2 _ rfl, hS.2.2.2.six⟩ : _ ∧ _ ∧ _ ∧ _ ∧ _)
            clear hd hE
            try clear hS
            go_wp2
            exact Ext.refl _
          case ha => rfl
          apply wpLoose_val rfl rfl
          case hs =>
            intro w1 hC hd Q1 hQ1
            obtain ⟨hE, hS⟩ := hC
            dsimp only [bare]
            obtain ⟨q1, r0, r1, r2, ⟨p0, p1, p2, p3, p4, p5⟩⟩ := (⟨hS.1.2 1 _ rfl, hS.2.1.2 0 _ rfl, hS.2.1.2 1 _ rfl, hS.2.1.2 2 _ rfl, hS.2.2.2.six⟩ : _ ∧ _ ∧ _ ∧ _ ∧ _)
            clear hd hE
            try clear hS
            go_wp2
            exact Ext.refl _
          case ha => rfl
          apply wpLoose_val rfl rfl
          case hs =>
            intro w1 hC hd Q1 hQ1
            obtain ⟨hE, hS⟩ := hC
            dsimp only [bare]
            obtain ⟨q1, r0, r1, r2, ⟨p0, p1, p2, p3, p4, p5⟩⟩ := (⟨hS.1.2 1 _ rfl, hS.2.1.2 0 _ rfl, hS.2.1.2 1 _ rfl, hS.2.1.2 2 _ rfl, hS.2.2.2.six⟩ : _ ∧ _ ∧ _ ∧ _ ∧ _)
            clear hd hE
            try clear hS
            go_wp2
            exact Ext.refl _
          case ha => rfl
          apply wpLoose_val rfl rfl
          case hs =>
            intro w1 hC hd Q1 hQ1
            obtain ⟨hE, hS⟩ := hC
            dsimp only [bare]
            clear hd
            go_wp2_with fail
            refine (HD.out _ ((Ext.refl wr).drew.trans hE)).mono ?_
            rintro e w2 ⟨rfl, hb⟩
            go_wp2_with fail
            exact hb
          case ha => rfl
          apply wpLoose_val rfl rfl
          case hs =>
            intro w1 hC hd Q1 hQ1
            obtain ⟨hE, hS⟩ := hC
            dsimp only [bare]
            obtain ⟨q1, r0, r1, r2, ⟨p0, p1, p2, p3, p4, p5⟩⟩ := (⟨hS.1.2 1 _ rfl, hS.2.1.2 0 _ rfl, hS.2.1.2 1 _ rfl, hS.2.1.2 2 _ rfl, hS.2.2.2.six⟩ : _ ∧ _ ∧ _ ∧ _ ∧ _)
            clear hd hE
            try clear hS
            go_wp2
            exact Ext.refl _
          case ha => rfl
          refine wpLoose_nil ?_
          intro wy hEy hSy hFy
          have X2 : Hid (Ext W wy) := hE.out.drew.trans hEy
          clear hFy hSy hEy cx dx sx
          cases cv
          · have HF : Hid ((cs.all fun c => condH c arch num ws) = false) := all_bad (p := fun c => condH c arch num ws) (k := k) (d := c0) (by have := HN.out.2; omega) (by rw [← HCC.out]; exact HCV.out.symm)
            clear hall
            go_wp2
            go_ret
            exact ⟨by rw [HY.out, HF.out]; rfl, HX.out.2.2.trans X2.out⟩
          · have HT : Hid ((cs.take (k + 1)).all (fun c => condH c arch num ws) = true) := by
              unfold Hid
              rw [all_get cs (fun c => condH c arch num ws) c0 k (by have := HN.out.2; omega), hall.out, ← HCC.out, ← HCV.out]
              rfl
            clear hall
            go_wp2
            go_roundw
            case rel => exact ⟨k + 1, by go_num, by omega, X2, HT⟩
            case measure => simp [intOf]; omega
          case hAy => kernel_rfl
          case hly => exact ⟨trivial, trivial, trivial, trivial, trivial, trivial, trivial, trivial, trivial⟩
        · have hkn : k = n2 := by omega
          have HT : Hid ((cs.all fun c => condH c arch num ws) = true) := all_end (k := k) (by have := HN.out.2; omega) hall.out
          have bk : ¬ ((k : Int) < (n2 : Int)) := by omega
          clear hall hkn cx dx
          go_wp2
          go_ret
          exact ⟨by rw [HY.out, HT.out]; rfl, HX.out.2.2.trans hE.out⟩
  · have hw : 0 < n1 ∧ zs.contains num = false := by
      have h0 : zs.length ≠ 0 := fun h0 => hn (numH_nil h0)
      exact ⟨by have := HN.out.1; omega, by rw [← numH_some h0]; simpa using hn⟩
    have HY : Hid (ruleH ⟨zs, cs, act, data⟩ arch num ws = false) := by
      rw [Bool.not_eq_true] at hn
      rw [HB.out, hn]; rfl
    obtain ⟨h0, hcn⟩ := hw
    have h0' : (0 : Int) < (n1 : Int) := by omega
    rw [hcn] at HI
    clear h0 hn
    go_enter Tryd.func13, Tryd.ntmps13
    go_wp2_with fail
    rw [← HW.out]
    refine (HI.out _ HX.out.2.2).mono ?_
    rintro e w1 ⟨rfl, rfl⟩
    go_wp2
    go_ret
    exact ⟨by rw [HY.out]; rfl, HX.out.2.2⟩

/-- The four cells of a rule. -/
def RuleL (w : World) (r : RN) (l : List Value) : Prop :=
  ∃ a1 n1 c1 a2 n2 c2, l = [.slice a1 n1 c1, .slice a2 n2 c2, .int .i64 r.act, .int .i64 r.data] ∧ n1 = r.nums.length ∧ n2 = r.conds.length ∧ Nums w a1 r.nums ∧ Conds w a2 r.conds

theorem RuleL.step {w w' : World} {r : RN} {l : List Value} (h : RuleL w r l) (hE : Ext w w') : RuleL w' r l := by
  obtain ⟨a1, n1, c1, a2, n2, c2, e, e1, e2, h1, h2⟩ := h
  exact ⟨a1, n1, c1, a2, n2, c2, e, e1, e2, h1.step hE, h2.step hE⟩

/-- The value v is the rule r. -/
def RepRule (r : RN) (v : Value) (w : World) : Prop := ∃ l, v = .agg l.toArray ∧ RuleL w r l

theorem RepRule.step {r : RN} {v : Value} {w w' : World} (h : RepRule r v w) (hE : Ext w w') : RepRule r v w' := by
  obtain ⟨l, e, hl⟩ := h
  exact ⟨l, e, hl.step hE⟩

/-- No more numbers or conditions than the laws look at. -/
def Small (r : RN) : Prop := r.nums.length ≤ 1048576 ∧ r.conds.length ≤ 1048576

/-- A slice of rules in memory, four cells each. -/
def Rules (w : World) (a : Option Addr) (rs : List RN) : Prop :=
  0 < rs.length → ∃ b off, a = some ⟨b, off, none⟩ ∧ b < w.heap.size ∧ ∀ j, j < rs.length → ∃ l, Seg w b (off + j * 4) l ∧ RuleL w (rs.getD j r0) l

theorem Rules.step {w w' : World} {a : Option Addr} {rs : List RN} (h : Rules w a rs) (hE : Ext w w') : Rules w' a rs := fun hp => by
  obtain ⟨b, off, ha, hb, hc⟩ := h hp
  refine ⟨b, off, ha, Nat.lt_of_lt_of_le hb hE.size, fun j hj => ?_⟩
  obtain ⟨l, h1, h2⟩ := hc j hj
  exact ⟨l, h1.below hE hb, h2.step hE⟩

theorem Rules.at {w : World} {a : Option Addr} {rs : List RN} (h : Rules w a rs) {k : Nat} (hk : k < rs.length) : ∃ b off l, a = some ⟨b, off, none⟩ ∧ SegB w b (off + k * 4) l ∧ RuleL w (rs.getD k r0) l := by
  obtain ⟨b, off, ha, hb, hx⟩ := h (by omega)
  obtain ⟨l, h1, h2⟩ := hx k hk
  exact ⟨b, off, l, ha, ⟨hb, h1⟩, h2⟩

theorem Tryd.infoCo : (Tryd.prog.info? 27).map (fun i => (i.zero, i.size, i.bytes)) = some (some (.agg #[.int .i64 0, .int .i64 0, .int .i64 0, .int .i64 0, .int .i64 0, .int .i64 0]), 6, 48) := by kernel_rfl

theorem Nums.far {w : World} {b o : Nat} {zs : List Int} (h : Nums w (some ⟨b, o, none⟩) zs) {k : Nat} (i : Nat) (hk : b ≠ k) (v : Value) : Nums (w.setCell ⟨k, i, none⟩ v) (some ⟨b, o, none⟩) zs := h.put (p := i) hk [v]

theorem Conds.far {w : World} {b o : Nat} {cs : List CN} (h : Conds w (some ⟨b, o, none⟩) cs) {k : Nat} (i : Nat) (hk : b ≠ k) (v : Value) : Conds (w.setCell ⟨k, i, none⟩ v) (some ⟨b, o, none⟩) cs := h.put (p := i) hk [v]

/-- The four cells of a rule whose memory lies from block B on. -/
def RuleG (B : Nat) (w : World) (r : RN) (l : List Value) : Prop :=
  ∃ g1 n1 c1 g2 n2 c2, l = [.slice (some ⟨g1, 0, none⟩) n1 c1, .slice (some ⟨g2, 0, none⟩) n2 c2, .int .i64 r.act, .int .i64 r.data] ∧ n1 = r.nums.length ∧ n2 = r.conds.length ∧ B ≤ g1 ∧ B ≤ g2 ∧ Nums w (some ⟨g1, 0, none⟩) r.nums ∧ Conds w (some ⟨g2, 0, none⟩) r.conds ∧ n1 ≤ c1

theorem RuleG.rule {B : Nat} {w : World} {r : RN} {l : List Value} (h : RuleG B w r l) : RuleL w r l := by
  obtain ⟨g1, n1, c1, g2, n2, c2, e, e1, e2, _, _, h1, h2, _⟩ := h
  exact ⟨_, n1, c1, _, n2, c2, e, e1, e2, h1, h2⟩

theorem RuleG.step {B : Nat} {w w' : World} {r : RN} {l : List Value} (h : RuleG B w r l) (hE : Ext w w') : RuleG B w' r l := by
  obtain ⟨g1, n1, c1, g2, n2, c2, e, e1, e2, b1, b2, h1, h2, h3⟩ := h
  exact ⟨g1, n1, c1, g2, n2, c2, e, e1, e2, b1, b2, h1.step hE, h2.step hE, h3⟩

theorem RuleG.mono {B C : Nat} {w : World} {r : RN} {l : List Value} (h : RuleG B w r l) (hC : C ≤ B) : RuleG C w r l := by
  obtain ⟨g1, n1, c1, g2, n2, c2, e, e1, e2, b1, b2, h1, h2, h3⟩ := h
  exact ⟨g1, n1, c1, g2, n2, c2, e, e1, e2, by omega, by omega, h1, h2, h3⟩

theorem RuleG.put {B : Nat} {w : World} {r : RN} {l : List Value} (h : RuleG B w r l) {k : Nat} (hk : k < B) (o : Nat) (vs : List Value) : RuleG B (putL w k o vs) r l := by
  obtain ⟨g1, n1, c1, g2, n2, c2, e, e1, e2, b1, b2, h1, h2, h3⟩ := h
  exact ⟨g1, n1, c1, g2, n2, c2, e, e1, e2, b1, b2, h1.put (by omega) vs, h2.put (by omega) vs, h3⟩

/-- The value v is the policy p. -/
def RepPol (p : PN) (v : Value) (w : World) : Prop := ∃ a cap, v = .agg #[.int .i64 p.arch, .int .i64 p.act, .int .i64 p.data, .slice a p.rules.length cap] ∧ Rules w a p.rules

theorem RepPol.step {p : PN} {v : Value} {w w' : World} (h : RepPol p v w) (hE : Ext w w') : RepPol p v w' := by
  obtain ⟨a, cap, e, hr⟩ := h
  exact ⟨a, cap, e, hr.step hE⟩

/-- Rules at block g's head, all their memory from block B on. -/
def RulesG (B g : Nat) (w : World) (rs : List RN) : Prop :=
  B ≤ g ∧ (0 < rs.length → g < w.heap.size) ∧ ∀ j, j < rs.length → ∃ l, Seg w g (j * 4) l ∧ RuleG B w (rs.getD j r0) l

theorem RulesG.mono {B C g : Nat} {w : World} {rs : List RN} (h : RulesG B g w rs) (hC : C ≤ B) : RulesG C g w rs :=
  ⟨by have := h.1; omega, h.2.1, fun j hj => by
    obtain ⟨l, s1, s2⟩ := h.2.2 j hj
    exact ⟨l, s1, s2.mono hC⟩⟩

theorem RulesG.rules {B g : Nat} {w : World} {rs : List RN} (h : RulesG B g w rs) : Rules w (some ⟨g, 0, none⟩) rs := fun hp =>
  ⟨g, 0, rfl, h.2.1 hp, fun j hj => by
    obtain ⟨l, s1, s2⟩ := h.2.2 j hj
    exact ⟨l, by rw [Nat.zero_add]; exact s1, s2.rule⟩⟩

/-- Rules in memory, each slice of numbers being no longer than it may grow. -/
def RulesC (w : World) (a : Option Addr) (rs : List RN) : Prop :=
  Rules w a rs ∧ ∀ b off j x n c, a = some ⟨b, off, none⟩ → j < rs.length → w.cell? ⟨b, off + j * 4, none⟩ = some (.slice x n c) → n ≤ c

theorem RulesC.step {w w' : World} {a : Option Addr} {rs : List RN} (h : RulesC w a rs) (hE : Ext w w') : RulesC w' a rs := by
  refine ⟨h.1.step hE, fun b off j x n c ha hj hc => h.2 b off j x n c ha hj ?_⟩
  obtain ⟨b', off', ha', hb, _⟩ := h.1 (by omega)
  rw [ha] at ha'
  obtain rfl : b = b' := by injection ha' with ha'; injection ha'
  rw [← hc]
  exact (hE.cell (p := ⟨b, off + j * 4, none⟩) hb).symm

theorem RulesG.set {B g : Nat} {w : World} {rs : List RN} (h : RulesG B g w rs) {k : Nat} (i : Nat) (hk : k < B) (v : Value) : RulesG B g (w.setCell ⟨k, i, none⟩ v) rs :=
  ⟨h.1, fun hp => by rw [World.size_setCell]; exact h.2.1 hp, fun j hj => by
    obtain ⟨l, s1, s2⟩ := h.2.2 j hj
    exact ⟨l, s1.putFar (vs := [v]) (.inl (by have := h.1; omega)), s2.put hk i [v]⟩⟩

/-- A policy as a value, its rules so in memory. -/
def RepPolC (p : PN) (v : Value) (w : World) : Prop := ∃ a cap, v = .agg #[.int .i64 p.arch, .int .i64 p.act, .int .i64 p.data, .slice a p.rules.length cap] ∧ RulesC w a p.rules

theorem RepPolC.step {p : PN} {v : Value} {w w' : World} (h : RepPolC p v w) (hE : Ext w w') : RepPolC p v w' := by
  obtain ⟨a, cap, e, hr⟩ := h
  exact ⟨a, cap, e, hr.step hE⟩

/-- A slice's address, where it has one, lies from block B on. -/
def From (B : Nat) (w : World) (a : Option Addr) : Prop := ∀ b o s, a = some ⟨b, o, s⟩ → B ≤ b ∧ b < w.heap.size

theorem From.size {B : Nat} {w w' : World} {a : Option Addr} (h : From B w a) (hs : w.heap.size ≤ w'.heap.size) : From B w' a := fun b o s e => ⟨(h b o s e).1, by have := (h b o s e).2; omega⟩

theorem Nums.kept {w w' : World} {a : Option Addr} {zs : List Int} (h : Nums w a zs) (hb : ∀ b o, a = some ⟨b, o, none⟩ → w'.heap[b]? = w.heap[b]?) (hs : w.heap.size ≤ w'.heap.size) : Nums w' a zs := fun hp => by
  obtain ⟨b, off, ha, hbl, hc⟩ := h hp
  exact ⟨b, off, ha, by omega, fun j hj => (World.cell?_of_block (w := w) (a := ⟨b, off + j, none⟩) (hb b off ha)).trans (hc j hj)⟩

theorem Conds.kept {w w' : World} {a : Option Addr} {cs : List CN} (h : Conds w a cs) (hb : ∀ b o, a = some ⟨b, o, none⟩ → w'.heap[b]? = w.heap[b]?) (hs : w.heap.size ≤ w'.heap.size) : Conds w' a cs := fun hp => by
  obtain ⟨b, off, ha, hbl, hc⟩ := h hp
  exact ⟨b, off, ha, by omega, fun j hj i v hv => (World.cell?_of_block (w := w) (a := ⟨b, off + j * 6 + i, none⟩) (hb b off ha)).trans (hc j hj i v hv)⟩

/-- The four cells of a rule whose memory, where it has any, lies from block B on. -/
def RuleN (B : Nat) (w : World) (r : RN) (l : List Value) : Prop :=
  ∃ a1 n1 c1 a2 n2 c2, l = [.slice a1 n1 c1, .slice a2 n2 c2, .int .i64 r.act, .int .i64 r.data] ∧ n1 = r.nums.length ∧ n2 = r.conds.length ∧ Nums w a1 r.nums ∧ Conds w a2 r.conds ∧ From B w a1 ∧ From B w a2

theorem RuleN.rule {B : Nat} {w : World} {r : RN} {l : List Value} (h : RuleN B w r l) : RuleL w r l := by
  obtain ⟨a1, n1, c1, a2, n2, c2, e, e1, e2, h1, h2, _⟩ := h
  exact ⟨a1, n1, c1, a2, n2, c2, e, e1, e2, h1, h2⟩

theorem RuleN.mono {B C : Nat} {w : World} {r : RN} {l : List Value} (h : RuleN B w r l) (hC : C ≤ B) : RuleN C w r l := by
  obtain ⟨a1, n1, c1, a2, n2, c2, e, e1, e2, h1, h2, f1, f2⟩ := h
  exact ⟨a1, n1, c1, a2, n2, c2, e, e1, e2, h1, h2, fun b o s he => ⟨by have := (f1 b o s he).1; omega, (f1 b o s he).2⟩, fun b o s he => ⟨by have := (f2 b o s he).1; omega, (f2 b o s he).2⟩⟩

/-- All blocks from B on that were there are as they were. -/
theorem RuleN.kept {B : Nat} {w w' : World} {r : RN} {l : List Value} (h : RuleN B w r l) (hb : ∀ b, B ≤ b → b < w.heap.size → w'.heap[b]? = w.heap[b]?) (hs : w.heap.size ≤ w'.heap.size) : RuleN B w' r l := by
  obtain ⟨a1, n1, c1, a2, n2, c2, e, e1, e2, h1, h2, f1, f2⟩ := h
  exact ⟨a1, n1, c1, a2, n2, c2, e, e1, e2, h1.kept (fun b o he => hb b (f1 b o none he).1 (f1 b o none he).2) hs, h2.kept (fun b o he => hb b (f2 b o none he).1 (f2 b o none he).2) hs, f1.size hs, f2.size hs⟩

theorem RuleN.grown {B : Nat} {w w' : World} {r : RN} {l : List Value} {row : Option Nat} (h : RuleN B w r l) (hg : w.grownBy w' row) (hr : ∀ b, B ≤ b → b < w.heap.size → some b ≠ row) : RuleN B w' r l :=
  h.kept (fun b h1 h2 => hg.block b h2 (hr b h1 h2)) hg.size

theorem RuleN.set {B : Nat} {w : World} {r : RN} {l : List Value} (h : RuleN B w r l) {k : Nat} (hk : k < B) (i : Nat) (v : Value) : RuleN B (w.setCell ⟨k, i, none⟩ v) r l :=
  h.kept (fun b h1 _ => Below.heap_setCell _ _ _ _ (by show b ≠ k; omega)) (by rw [World.size_setCell]; exact Nat.le_refl _)

/-- The cells of conditions in a row. -/
def flatC (cs : List CN) : List Value := cs.flatMap CN.l

theorem flatC_push (cs : List CN) (c : CN) : flatC cs ++ c.l = flatC (cs ++ [c]) := by simp [flatC]

theorem flatC_at : ∀ (cs : List CN) (j i : Nat) (v : Value), j < cs.length → (cs.getD j c0).l[i]? = some v → (flatC cs)[j * 6 + i]? = some v
  | [], j, _, _, h, _ => by simp at h
  | c :: cs, 0, i, v, _, hv => by
    have hi : i < c.l.length := (List.getElem?_eq_some_iff.1 hv).1
    simp only [flatC, List.flatMap_cons]
    rw [Nat.zero_mul, Nat.zero_add, List.getElem?_append_left hi]
    exact hv
  | c :: cs, j + 1, i, v, h, hv => by
    have := flatC_at cs j i v (by simpa using h) (by simpa using hv)
    simp only [flatC, List.flatMap_cons]
    rw [List.getElem?_append_right (by simp [CN.l]; omega)]
    have e : (j + 1) * 6 + i - c.l.length = j * 6 + i := by simp [CN.l]; omega
    rw [e]
    exact this

theorem own_nums {w : World} {base n : Nat} {v : Value} {zs : List Int} (h : w.ownsRow base 3 1 v n (zs.map (Value.int .i64))) (hn : zs.length = n) : ∃ a cap, v = .slice a n cap ∧ Nums w a zs ∧ From base w a := by
  rcases h.2 with ⟨rfl, h0⟩ | ⟨g, cap, cur, rfl, hg, hh, hnc, hcp, hcs, htake⟩
  · subst h0
    exact ⟨none, 0, rfl, fun hp => by omega, fun b o s e => by cases e⟩
  · have hlt := (Array.getElem?_eq_some_iff.1 hh).1
    refine ⟨some ⟨g, 0, none⟩, cap, rfl, fun hp => ⟨g, 0, rfl, hlt, fun j hj => ?_⟩, fun b o s e => by injection e with e; injection e with e1 e2 e3; subst e1; exact ⟨hg, hlt⟩⟩
    have e1 : (zs.map (Value.int .i64))[j]? = some (.int .i64 (zs.getD j 0)) := by simp [List.getD_eq_getElem?_getD, hj]
    rw [← htake, List.getElem?_take, if_pos (by omega)] at e1
    rw [Nat.zero_add, cell_of_row w g _ cur 3 _ hh]
    simpa using e1

theorem own_conds {w : World} {base n : Nat} {v : Value} {cs : List CN} (h : w.ownsRow base 27 6 v n (flatC cs)) (hn : cs.length = n) : ∃ a cap, v = .slice a n cap ∧ Conds w a cs ∧ From base w a := by
  rcases h.2 with ⟨rfl, h0⟩ | ⟨g, cap, cur, rfl, hg, hh, hnc, hcp, hcs, htake⟩
  · subst h0
    exact ⟨none, 0, rfl, fun hp => by omega, fun b o s e => by cases e⟩
  · have hlt := (Array.getElem?_eq_some_iff.1 hh).1
    refine ⟨some ⟨g, 0, none⟩, cap, rfl, fun hp => ⟨g, 0, rfl, hlt, fun j hj i u hu => ?_⟩, fun b o s e => by injection e with e; injection e with e1 e2 e3; subst e1; exact ⟨hg, hlt⟩⟩
    have hi : i < 6 := by have h3 := (List.getElem?_eq_some_iff.1 hu).1; simpa [CN.l] using h3
    have e1 := flatC_at cs j i u hj hu
    rw [← htake, List.getElem?_take, if_pos (by omega)] at e1
    rw [Nat.zero_add, cell_of_row w g _ cur 27 _ hh]
    simpa using e1

theorem own_lt9 {w : World} {base e size : Nat} {v : Value} {n : Nat} {xs : List Value} (h : w.ownsRow base e size v n xs) {x : Nat} (hx : v.ownBlock = some x) : base ≤ x ∧ x < w.heap.size := by
  rcases h.2 with ⟨rfl, _⟩ | ⟨g, cap, cur, rfl, hgb, hh, _⟩
  · simp [Value.ownBlock] at hx
  · simp [Value.ownBlock] at hx; subst hx; exact ⟨hgb, (Array.getElem?_eq_some_iff.1 hh).1⟩

end Go.Proofs.YthflflhcbnianaaDoor
