/- What the laws' helpers over slices of rules answer: szRuleS. -/
import Derived.Test.YthflflhcbnianaaDoorRlPack13
import Derived.Test.YthflflhcbnianaaDoorRlPack3
import Derived.Deep.RegionHeld3
import Derived.Handy
import Derived.Test.YthflflhcbnianaaDoorRlPack4
/- What the laws' helpers over slices of wide numbers and over calls answer: szWideS, toWideS, eqWideS, szCall, toCall, eqCall. -/
namespace Go.Proofs.YthflflhcbnianaaDoor
open Go.RowKit
set_option linter.unusedVariables false

/-- Two numbers lie side by side in an old block. -/
def Pair (w : World) (b o : Nat) (x y : Int) : Prop := b < w.heap.size ∧ w.cell? ⟨b, o, none⟩ = some (.int .i64 x) ∧ w.cell? ⟨b, o + 1, none⟩ = some (.int .i64 y)

theorem Pair.step {w w' : World} {b o : Nat} {x y : Int} (h : Pair w b o x y) (hE : Ext w w') : Pair w' b o x y :=
  ⟨Nat.lt_of_lt_of_le h.1 hE.size, (hE.cell (p := ⟨b, o, none⟩) h.1).trans h.2.1, (hE.cell (p := ⟨b, o + 1, none⟩) h.1).trans h.2.2⟩

theorem Wides.set {w : World} {g o : Nat} {ws : List (Int × Int)} (h : Wides w (some ⟨g, o, none⟩) ws) {k : Nat} (i : Nat) (hk : k ≠ g) (v : Value) : Wides (w.setCell ⟨k, i, none⟩ v) (some ⟨g, o, none⟩) ws := fun hp => by
  obtain ⟨b, off, ha, hb, hc⟩ := h hp
  have hbg : g = b := by injection ha with ha; injection ha
  subst hbg
  refine ⟨g, off, ha, by rw [World.size_setCell]; exact hb, fun j hj => ?_⟩
  obtain ⟨e1, e2⟩ := hc j hj
  exact ⟨by rw [World.cell?_setCell_other _ _ _ _ (by simp; try omega)]; exact e1, by rw [World.cell?_setCell_other _ _ _ _ (by simp; try omega)]; exact e2⟩

theorem CellsAt.set {W : World} {k : Nat} {l : List Value} (h : CellsAt W k l) {g : Nat} (hg : g ≠ k) (j : Nat) (v : Value) : CellsAt (W.setCell ⟨g, j, none⟩ v) k l :=
  ⟨by rw [World.size_setCell]; exact h.1, fun i x hx => by rw [World.cell?_setCell_other _ _ _ _ (fun e => hg (by injection e))]; exact h.2 i x hx⟩

theorem condB_if (a mh ml cm vh vl : Int) : condB ⟨a, mh, ml, cm, vh, vl⟩ = (inB4 a 0 2 && inB4 cm 1 6 && wideB (mh, ml) && wideB (vh, vl)) := rfl

set_option maxRecDepth 100000 in
set_option maxHeartbeats 1600000 in
theorem iCondOk_any (a mh ml cm vh vl : Int) (w : World) : Calls Tryd.prog 69 #[.agg #[.int .i64 a, .int .i64 mh, .int .i64 ml, .int .i64 cm, .int .i64 vh, .int .i64 vl]] w fun e w' => e = .returned (.bool (condB ⟨a, mh, ml, cm, vh, vl⟩)) ∧ Ext w w' := by
  have HB : Hid (condB ⟨a, mh, ml, cm, vh, vl⟩ = (inB4 a 0 2 && inB4 cm 1 6 && wideB (mh, ml) && wideB (vh, vl))) := rfl
  have HE : Hid (∀ o, Ext w (w.alloc o)) := fun o => Ext.one w o
  by_cases h0 : 0 ≤ a
  · by_cases h1 : a ≤ 2
    · by_cases h2 : 1 ≤ cm
      · by_cases h3 : cm ≤ 6
        · have HI : Hid (inB4 a 0 2 = true ∧ inB4 cm 1 6 = true) := ⟨inB_true4.2 ⟨h0, h1⟩, inB_true4.2 ⟨h2, h3⟩⟩
          go_enter Tryd.func69, Tryd.ntmps69
          go_wp2_with fail
          refine (iWide_any mh ml _).mono ?_
          rintro e w1 ⟨rfl, x1⟩
          have c1 := (CellsAt.new w [.int .i64 a, .int .i64 mh, .int .i64 ml, .int .i64 cm, .int .i64 vh, .int .i64 vl] 27).step x1
          have q4 := c1.2 4 _ rfl
          have q5 := c1.2 5 _ rfl
          have X1 : Hid (Ext w w1) := (HE.out _).trans x1
          clear x1 c1
          cases hw : wideB (mh, ml)
          · go_wp2
            go_ret
            exact ⟨by rw [HB.out, hw]; simp, X1.out⟩
          · go_wp2_with fail
            refine (iWide_any vh vl _).mono ?_
            rintro e w2 ⟨rfl, x2⟩
            have X2 : Hid (Ext w w2) := X1.out.trans x2
            clear x2 q4 q5
            go_wp2
            go_ret
            exact ⟨by rw [HB.out, hw, HI.out.1, HI.out.2]; simp, X2.out⟩
        · have HI : Hid (inB4 cm 1 6 = false) := inB_false4.2 (by omega)
          go_enter Tryd.func69, Tryd.ntmps69
          go_wp2
          go_ret
          exact ⟨by rw [HB.out, HI.out]; simp, HE.out _⟩
      · have HI : Hid (inB4 cm 1 6 = false) := inB_false4.2 (by omega)
        have h2' : cm < 1 := by omega
        go_enter Tryd.func69, Tryd.ntmps69
        go_wp2
        go_ret
        exact ⟨by rw [HB.out, HI.out]; simp, HE.out _⟩
    · have HI : Hid (inB4 a 0 2 = false) := inB_false4.2 (by omega)
      have h2' : 3 ≤ a := by omega
      go_enter Tryd.func69, Tryd.ntmps69
      go_wp2
      go_ret
      exact ⟨by rw [HB.out, HI.out]; simp, HE.out _⟩
  · have HI : Hid (inB4 a 0 2 = false) := inB_false4.2 (by omega)
    have h2' : a < 0 := by omega
    go_enter Tryd.func69, Tryd.ntmps69
    go_wp2
    go_ret
    exact ⟨by rw [HB.out, HI.out]; simp, HE.out _⟩

set_option maxRecDepth 100000 in
set_option maxHeartbeats 1600000 in
theorem sCondOk_any (a mh ml cm vh vl : Int) (w : World) : Calls Tryd.prog 48 #[.agg #[.int .i64 a, .int .i64 mh, .int .i64 ml, .int .i64 cm, .int .i64 vh, .int .i64 vl]] w fun e w' => e = .returned (.bool (condB ⟨a, mh, ml, cm, vh, vl⟩)) ∧ Ext w w' := by
  have HB : Hid (condB ⟨a, mh, ml, cm, vh, vl⟩ = (inB4 a 0 2 && inB4 cm 1 6 && wideB (mh, ml) && wideB (vh, vl))) := rfl
  have HE : Hid (∀ o, Ext w (w.alloc o)) := fun o => Ext.one w o
  cases h0 : inB4 a 0 2
  · go_enter Tryd.func48, Tryd.ntmps48
    go_wp2_with (go_at_call 47; refine (in4_any _ _ _ _).mono ?_; rintro e w' ⟨rfl, rfl⟩)
    go_ret
    exact ⟨by rw [HB.out, h0]; simp, HE.out _⟩
  · go_enter Tryd.func48, Tryd.ntmps48
    go_wp2_with (go_at_call 47; refine (in4_any _ _ _ _).mono ?_; rintro e w' ⟨rfl, rfl⟩)
    refine (sWide_any mh ml _).mono ?_
    rintro e w1 ⟨rfl, x1⟩
    have c1 := (CellsAt.new w [.int .i64 a, .int .i64 mh, .int .i64 ml, .int .i64 cm, .int .i64 vh, .int .i64 vl] 27).step x1
    have q4 := c1.2 4 _ rfl
    have q5 := c1.2 5 _ rfl
    have X1 : Hid (Ext w w1) := (HE.out _).trans x1
    clear x1
    cases hw : wideB (mh, ml)
    · go_wp2
      go_ret
      exact ⟨by rw [HB.out, hw]; simp, X1.out⟩
    · go_wp2_with fail
      refine (sWide_any vh vl _).mono ?_
      rintro e w2 ⟨rfl, x2⟩
      have X2 : Hid (Ext w w2) := X1.out.trans x2
      have q3 := (c1.step x2).2 3 _ rfl
      clear x2 q4 q5 c1
      cases hv : wideB (vh, vl)
      · go_wp2
        go_ret
        exact ⟨by rw [HB.out, hv]; simp, X2.out⟩
      · go_wp2_with (go_at_call 47; refine (in4_any _ _ _ _).mono ?_; rintro e w' ⟨rfl, rfl⟩)
        go_ret
        exact ⟨by rw [HB.out, h0, hw, hv]; simp, X2.out⟩

/-- The cells l lie in block b from o on. -/
def Seg (W : World) (b o : Nat) (l : List Value) : Prop := ∀ i v, l[i]? = some v → W.cell? ⟨b, o + i, none⟩ = some v

theorem Seg.below {W W' : World} {B b o : Nat} {l : List Value} (h : Seg W b o l) (hb : Below B W W') (hB : b < B) : Seg W' b o l := fun i v hv => (hb.cell (p := ⟨b, o + i, none⟩) hB).trans (h i v hv)

theorem Seg.one {W : World} {b o : Nat} {v0 : Value} (h : Seg W b o [v0]) : W.cell? ⟨b, o, none⟩ = some v0 := h 0 _ rfl

theorem Seg.six {W : World} {b o : Nat} {v0 v1 v2 v3 v4 v5 : Value} (h : Seg W b o [v0, v1, v2, v3, v4, v5]) : W.cell? ⟨b, o, none⟩ = some v0 ∧ W.cell? ⟨b, o + 1, none⟩ = some v1 ∧ W.cell? ⟨b, o + 2, none⟩ = some v2 ∧ W.cell? ⟨b, o + 3, none⟩ = some v3 ∧ W.cell? ⟨b, o + 4, none⟩ = some v4 ∧ W.cell? ⟨b, o + 5, none⟩ = some v5 :=
  ⟨h 0 _ rfl, h 1 _ rfl, h 2 _ rfl, h 3 _ rfl, h 4 _ rfl, h 5 _ rfl⟩

/-- The values are stored into a block's cells from o on. -/
def putL (W : World) (g : Nat) : Nat → List Value → World
  | _, [] => W
  | o, v :: vs => putL (W.setCell ⟨g, o, none⟩ v) g (o + 1) vs

theorem putL_size (g : Nat) : ∀ (vs : List Value) (W : World) (o : Nat), (putL W g o vs).heap.size = W.heap.size
  | [], _, _ => rfl
  | v :: vs, W, o => by rw [putL, putL_size g vs, World.size_setCell]

theorem putL_frozen (g : Nat) (q : Addr) : ∀ (vs : List Value) (W : World) (o : Nat), (putL W g o vs).frozen? q = W.frozen? q
  | [], _, _ => rfl
  | v :: vs, W, o => by rw [putL, putL_frozen g q vs, World.frozen?_setCell]

theorem off_neq {g i j : Nat} (h : i ≠ j) : (⟨g, i, none⟩ : Addr) ≠ ⟨g, j, none⟩ := fun e => h (by injection e)

theorem putL_far (g : Nat) (q : Addr) : ∀ (vs : List Value) (W : World) (o : Nat), (∀ i, i < vs.length → q ≠ ⟨g, o + i, none⟩) → (putL W g o vs).cell? q = W.cell? q
  | [], _, _, _ => rfl
  | v :: vs, W, o, h => by
    rw [putL, putL_far g q vs _ _ (fun i hi => by have := h (i + 1) (by simp; omega); rw [show o + 1 + i = o + (i + 1) by omega]; exact this)]
    exact World.cell?_setCell_other _ _ _ _ (Ne.symm (h 0 (by simp)))

theorem putL_seg (g : Nat) : ∀ (vs : List Value) (W : World) (o : Nat), (∀ i, i < vs.length → ∃ u, W.cell? ⟨g, o + i, none⟩ = some u) → Seg (putL W g o vs) g o vs
  | [], _, _, _ => fun i v hv => by simp at hv
  | v :: vs, W, o, h => fun i x hx => by
    match i with
    | 0 =>
      simp at hx
      subst hx
      obtain ⟨u, hu⟩ := h 0 (by simp)
      rw [putL, putL_far g _ vs _ _ (fun i hi => off_neq (by omega))]
      exact World.cell?_setCell_same _ _ _ hu
    | i + 1 =>
      have := putL_seg g vs (W.setCell ⟨g, o, none⟩ v) (o + 1) (fun j hj => by
        obtain ⟨u, hu⟩ := h (j + 1) (by simp; omega)
        refine ⟨u, ?_⟩
        rw [World.cell?_setCell_other _ _ _ _ (off_neq (by omega)), show o + 1 + j = o + (j + 1) by omega]
        exact hu) i x (by simpa using hx)
      rw [show o + (i + 1) = o + 1 + i by omega]
      exact this

theorem putL_some (g : Nat) (q : Addr) : ∀ (vs : List Value) (W : World) (o : Nat), (∃ u, W.cell? q = some u) → ∃ u, (putL W g o vs).cell? q = some u
  | [], _, _, h => h
  | v :: vs, W, o, h => by
    rw [putL]
    refine putL_some g q vs _ _ ?_
    by_cases hq : q = ⟨g, o, none⟩
    · subst hq
      obtain ⟨u, hu⟩ := h
      exact ⟨v, World.cell?_setCell_same _ _ _ hu⟩
    · rw [World.cell?_setCell_other _ _ _ _ (Ne.symm hq)]
      exact h

theorem Below.putL {B g : Nat} (hg : B ≤ g) : ∀ (vs : List Value) {w W : World} (o : Nat), Below B w W → Below B w (putL W g o vs)
  | [], _, _, _, h => h
  | v :: vs, w, W, o, h => Below.putL hg vs (o + 1) (h.setCell (show B ≤ g from hg) _)

theorem Seg.putFar {W : World} {b o g p : Nat} {l vs : List Value} (h : Seg W b o l) (hf : b ≠ g ∨ o + l.length ≤ p ∨ p + vs.length ≤ o) : Seg (putL W g p vs) b o l := fun i v hv => by
  have hi : i < l.length := (List.getElem?_eq_some_iff.1 hv).1
  rw [putL_far g _ vs _ _ (fun j hj e => by injection e with e1 e2; rcases hf with hf | hf | hf <;> omega)]
  exact h i v hv

/-- Block g has N cells that may be written. -/
def FreeN (W : World) (g N : Nat) : Prop := g < W.heap.size ∧ ∀ j, j < N → (∃ u, W.cell? ⟨g, j, none⟩ = some u) ∧ W.frozen? ⟨g, j, none⟩ = false

theorem FreeN.step {W W' : World} {g N : Nat} (h : FreeN W g N) (hE : Ext W W') : FreeN W' g N :=
  ⟨Nat.lt_of_lt_of_le h.1 hE.size, fun j hj => ⟨by rw [hE.cell (p := ⟨g, j, none⟩) h.1]; exact (h.2 j hj).1, (hE.frozen (p := ⟨g, j, none⟩) h.1).trans (h.2 j hj).2⟩⟩

theorem FreeN.put {W : World} {g N : Nat} (h : FreeN W g N) (k o : Nat) (vs : List Value) : FreeN (putL W k o vs) g N :=
  ⟨by rw [putL_size]; exact h.1, fun j hj => ⟨putL_some k _ vs W o (h.2 j hj).1, by rw [putL_frozen]; exact (h.2 j hj).2⟩⟩

theorem FreeN.seg {W : World} {g N : Nat} (h : FreeN W g N) {o : Nat} {vs : List Value} (ho : o + vs.length ≤ N) : Seg (putL W g o vs) g o vs :=
  putL_seg g vs W o fun i hi => (h.2 (o + i) (by omega)).1

/-- A slice of conditions in memory, six cells each. -/
def Conds (w : World) (a : Option Addr) (cs : List CN) : Prop :=
  0 < cs.length → ∃ b off, a = some ⟨b, off, none⟩ ∧ b < w.heap.size ∧ ∀ j, j < cs.length → Seg w b (off + j * 6) (cs.getD j c0).l

theorem Conds.step {w w' : World} {a : Option Addr} {cs : List CN} (h : Conds w a cs) (hE : Ext w w') : Conds w' a cs := fun hp => by
  obtain ⟨b, off, ha, hb, hc⟩ := h hp
  exact ⟨b, off, ha, Nat.lt_of_lt_of_le hb hE.size, fun j hj => (hc j hj).below hE hb⟩

theorem Conds.at {w : World} {a : Option Addr} {cs : List CN} (h : Conds w a cs) {k : Nat} (hk : k < cs.length) {c : CN} (hc : c = cs.getD k c0) : ∃ b off, a = some ⟨b, off, none⟩ ∧ b < w.heap.size ∧ Seg w b (off + k * 6) c.l := by
  obtain ⟨b, off, ha, hb, hx⟩ := h (by omega)
  exact ⟨b, off, ha, hb, by rw [hc]; exact hx k hk⟩

theorem Conds.put {w : World} {b o g p : Nat} {cs : List CN} (h : Conds w (some ⟨b, o, none⟩) cs) (hg : b ≠ g) (vs : List Value) : Conds (putL w g p vs) (some ⟨b, o, none⟩) cs := fun hp => by
  obtain ⟨b', off, ha, hb, hc⟩ := h hp
  have e : b = b' := by injection ha with ha; injection ha
  subst e
  exact ⟨b, off, ha, by rw [putL_size]; exact hb, fun j hj => (hc j hj).putFar (.inl hg)⟩

/-- A slice of ints in memory. -/
def Nums (w : World) (a : Option Addr) (zs : List Int) : Prop :=
  0 < zs.length → ∃ b off, a = some ⟨b, off, none⟩ ∧ b < w.heap.size ∧ ∀ j, j < zs.length → w.cell? ⟨b, off + j, none⟩ = some (.int .i64 (zs.getD j 0))

theorem Nums.step {w w' : World} {a : Option Addr} {zs : List Int} (h : Nums w a zs) (hE : Ext w w') : Nums w' a zs := fun hp => by
  obtain ⟨b, off, ha, hb, hc⟩ := h hp
  exact ⟨b, off, ha, Nat.lt_of_lt_of_le hb hE.size, fun j hj => (hE.cell (p := ⟨b, off + j, none⟩) hb).trans (hc j hj)⟩

theorem Nums.at {w : World} {a : Option Addr} {zs : List Int} (h : Nums w a zs) {k : Nat} (hk : k < zs.length) : ∃ b off, a = some ⟨b, off, none⟩ ∧ b < w.heap.size ∧ w.cell? ⟨b, off + k, none⟩ = some (.int .i64 (zs.getD k 0)) := by
  obtain ⟨b, off, ha, hb, hx⟩ := h (by omega)
  exact ⟨b, off, ha, hb, hx k hk⟩

theorem Nums.put {w : World} {b o g p : Nat} {zs : List Int} (h : Nums w (some ⟨b, o, none⟩) zs) (hg : b ≠ g) (vs : List Value) : Nums (putL w g p vs) (some ⟨b, o, none⟩) zs := fun hp => by
  obtain ⟨b', off, ha, hb, hc⟩ := h hp
  have e : b = b' := by injection ha with ha; injection ha
  subst e
  exact ⟨b, off, ha, by rw [putL_size]; exact hb, fun j hj => by rw [putL_far g _ vs _ _ (fun i hi e => by injection e with e1 e2; exact hg e1)]; exact hc j hj⟩

/-- Block k is known whole, and may be written. -/
def Kn (W : World) (k : Nat) (l : List Value) (t : TypeId) : Prop := W.heap[k]? = some (.cells l.toArray t (0, 0))

theorem Kn.new (W : World) (l : List Value) (t : TypeId) : Kn (W.alloc (.cells l.toArray t)) W.heap.size l t := by
  unfold Kn World.alloc; simp

theorem Kn.new' (W : World) (l : List Value) (t : TypeId) (k : Nat) (hk : k = W.heap.size) : Kn (W.alloc (.cells l.toArray t)) k l t := by
  subst hk; exact Kn.new W l t

theorem Kn.lt {W : World} {k : Nat} {l : List Value} {t : TypeId} (h : Kn W k l t) : k < W.heap.size := (Array.getElem?_eq_some_iff.1 h).1

theorem Kn.cell {W : World} {k : Nat} {l : List Value} {t : TypeId} (h : Kn W k l t) (i : Nat) (v : Value) (hv : l[i]? = some v) : W.cell? ⟨k, i, none⟩ = some v := by
  rw [cell_of_row W k i _ t (0, 0) h]; simpa using hv

theorem Kn.free {W : World} {k : Nat} {l : List Value} {t : TypeId} (h : Kn W k l t) (i : Nat) : W.frozen? ⟨k, i, none⟩ = false := frozen_of_row W k i _ t h

theorem Kn.ext {W W' : World} {k : Nat} {l : List Value} {t : TypeId} (h : Kn W k l t) (hE : Ext W W') : Kn W' k l t := (hE.block k h.lt).trans h

theorem Kn.alloc {W : World} {k : Nat} {l : List Value} {t : TypeId} (h : Kn W k l t) (o : Obj) : Kn (W.alloc o) k l t := h.ext (Ext.one W o)

theorem Kn.drew {W : World} {k : Nat} {l : List Value} {t : TypeId} (h : Kn W k l t) : Kn W.drew k l t := h

theorem Kn.set {W : World} {k : Nat} {l : List Value} {t : TypeId} (h : Kn W k l t) (i : Nat) (v : Value) : Kn (W.setCell ⟨k, i, none⟩ v) k (l.set i v) t := by
  unfold Kn World.setCell
  unfold Kn at h
  simp only [Array.getElem?_modify, if_true, h, Option.map_some]
  simp

theorem Kn.other {W : World} {k j : Nat} {l : List Value} {t : TypeId} (h : Kn W k l t) (hj : k ≠ j) (i : Nat) (v : Value) : Kn (W.setCell ⟨j, i, none⟩ v) k l t :=
  (Below.heap_setCell _ _ _ _ hj).trans h

theorem Ext.set {W W' : World} (h : Ext W W') {k : Nat} (hk : W.heap.size ≤ k) (i : Nat) (v : Value) : Ext W (W'.setCell ⟨k, i, none⟩ v) := Below.setCell (p := ⟨k, i, none⟩) h hk v

/-- What make lays may be written. -/
theorem made_free {w : World} {base e size g n c : Nat} {xs : List Value} (h : w.ownsRow base e size (.slice (some ⟨g, 0, none⟩) n c) n xs) (hx : xs.length = n * size) : FreeN w g (n * size) := by
  rcases h.2 with ⟨hn, _⟩ | ⟨g', cap, cur, hv, _, hh, _, _, hs, ht⟩
  · cases hn
  · obtain ⟨rfl, _⟩ : g = g' ∧ c = cap := by injection hv with h1 h2 h3; injection h1 with h1; injection h1 with a b c; exact ⟨a, h3⟩
    refine ⟨(Array.getElem?_eq_some_iff.1 hh).1, fun j hj => ⟨?_, frozen_of_row w g j cur e hh⟩⟩
    rw [cell_of_row w g j cur e _ hh]
    obtain ⟨u, h1⟩ : ∃ u, xs[j]? = some u := ⟨xs[j]'(by omega), List.getElem?_eq_getElem (by omega)⟩
    rw [← ht, List.getElem?_take] at h1
    by_cases hb : j < n * size
    · rw [if_pos hb] at h1
      exact ⟨u, by simpa using h1⟩
    · omega

theorem SegB.set {W : World} {b o k : Nat} {l : List Value} (h : b < W.heap.size ∧ Seg W b o l) (hk : b ≠ k) (i : Nat) (v : Value) : b < (W.setCell ⟨k, i, none⟩ v).heap.size ∧ Seg (W.setCell ⟨k, i, none⟩ v) b o l :=
  ⟨by rw [World.size_setCell]; exact h.1, fun j u hu => by rw [World.cell?_setCell_other _ _ _ _ (fun e => hk (by injection e with e1 e2; exact e1.symm))]; exact h.2 j u hu⟩

set_option maxRecDepth 100000 in
set_option maxHeartbeats 2000000 in
theorem toCond_any (a mh ml cm vh vl : Int) (w : World) : Calls Tryd.prog 87 #[.agg #[.int .i64 a, .int .i64 mh, .int .i64 ml, .int .i64 cm, .int .i64 vh, .int .i64 vl]] w fun e w' => e = .returned (.agg #[.int .i64 a, .int .i64 mh, .int .i64 ml, .int .i64 cm, .int .i64 vh, .int .i64 vl]) ∧ Ext w w' := by
  go_enter Tryd.func87, Tryd.ntmps87
  go_wp2_with fail
  refine (toWide_any mh ml _).mono ?_
  rintro e w1 ⟨rfl, hb⟩
  have hsz : w.heap.size + 3 ≤ w1.heap.size := by have := hb.size; simp at this; omega
  obtain ⟨hc, hf⟩ := bcell hb
  have HW : Hid (Ext w w1) := Below.trans (by go_grown) (hb.mono (by simp; omega))
  have o0 : w1.cell? ⟨w.heap.size + 1 + 1, 0, none⟩ = some (.int .i64 a) := by rw [hc _ _ (by go_size)]; simp [go_sem]
  have o1 : w1.cell? ⟨w.heap.size + 1 + 1, 1, none⟩ = some (.int .i64 0) := by rw [hc _ _ (by go_size)]; simp [go_sem]
  have o2 : w1.cell? ⟨w.heap.size + 1 + 1, 2, none⟩ = some (.int .i64 0) := by rw [hc _ _ (by go_size)]; simp [go_sem]
  have o3 : w1.cell? ⟨w.heap.size + 1 + 1, 3, none⟩ = some (.int .i64 0) := by rw [hc _ _ (by go_size)]; simp [go_sem]
  have o4 : w1.cell? ⟨w.heap.size + 1 + 1, 4, none⟩ = some (.int .i64 0) := by rw [hc _ _ (by go_size)]; simp [go_sem]
  have o5 : w1.cell? ⟨w.heap.size + 1 + 1, 5, none⟩ = some (.int .i64 0) := by rw [hc _ _ (by go_size)]; simp [go_sem]
  have b3 : w1.cell? ⟨w.heap.size, 3, none⟩ = some (.int .i64 cm) := by rw [hc _ _ (by go_size)]; simp [go_sem]
  have b4 : w1.cell? ⟨w.heap.size, 4, none⟩ = some (.int .i64 vh) := by rw [hc _ _ (by go_size)]; simp [go_sem]
  have b5 : w1.cell? ⟨w.heap.size, 5, none⟩ = some (.int .i64 vl) := by rw [hc _ _ (by go_size)]; simp [go_sem]
  have p : ∀ i, i < 6 → w1.cell? ⟨w.heap.size + 1, i, none⟩ = some (.int .i64 0) := fun i hi => by
    rw [hc _ _ (by go_size)]
    obtain rfl | rfl | rfl | rfl | rfl | rfl : i = 0 ∨ i = 1 ∨ i = 2 ∨ i = 3 ∨ i = 4 ∨ i = 5 := by omega
    all_goals simp [go_sem]
  have f1 : ∀ o, w1.frozen? ⟨w.heap.size + 1 + 1, o, none⟩ = false := fun o => by rw [hf _ _ (by go_size)]; simp [go_sem]
  have f2 : ∀ o, w1.frozen? ⟨w.heap.size + 1, o, none⟩ = false := fun o => by rw [hf _ _ (by go_size)]; simp [go_sem]
  obtain ⟨p0, p1, p2, p3, p4, p5⟩ := (⟨p 0 (by omega), p 1 (by omega), p 2 (by omega), p 3 (by omega), p 4 (by omega), p 5 (by omega)⟩ : _ ∧ _ ∧ _ ∧ _ ∧ _ ∧ _)
  clear hb hc hf p
  go_wp2_with fail
  refine (toWide_any vh vl _).mono ?_
  rintro e w2 ⟨rfl, hb⟩
  have hsz2 : w.heap.size + 3 ≤ w2.heap.size := by have := hb.size; simp [World.size_setCell] at this; omega
  obtain ⟨hc, hf⟩ := bcell hb
  simp only [World.size_setCell] at hc hf
  have HW2 : Hid (Ext w w2) := by
    have h1 := ((HW.out.setCell (p := ⟨w.heap.size + 1 + 1, 1, none⟩) (show w.heap.size ≤ w.heap.size + 1 + 1 by omega) (.int .i64 mh)).setCell (p := ⟨w.heap.size + 1 + 1, 2, none⟩) (show w.heap.size ≤ w.heap.size + 1 + 1 by omega) (.int .i64 ml)).setCell (p := ⟨w.heap.size + 1 + 1, 3, none⟩) (show w.heap.size ≤ w.heap.size + 1 + 1 by omega) (.int .i64 cm)
    exact h1.trans (hb.mono h1.size)
  have u0 : w2.cell? ⟨w.heap.size + 1 + 1, 0, none⟩ = some (.int .i64 a) := by rw [hc _ _ (by omega)]; simp [go_sem, *]
  have u1 : w2.cell? ⟨w.heap.size + 1 + 1, 1, none⟩ = some (.int .i64 mh) := by rw [hc _ _ (by omega)]; simp [go_sem, *]
  have u2 : w2.cell? ⟨w.heap.size + 1 + 1, 2, none⟩ = some (.int .i64 ml) := by rw [hc _ _ (by omega)]; simp [go_sem, *]
  have u3 : w2.cell? ⟨w.heap.size + 1 + 1, 3, none⟩ = some (.int .i64 cm) := by rw [hc _ _ (by omega)]; simp [go_sem, *]
  have u4 : w2.cell? ⟨w.heap.size + 1 + 1, 4, none⟩ = some (.int .i64 0) := by rw [hc _ _ (by omega)]; simp [go_sem, *]
  have u5 : w2.cell? ⟨w.heap.size + 1 + 1, 5, none⟩ = some (.int .i64 0) := by rw [hc _ _ (by omega)]; simp [go_sem, *]
  have r0 : w2.cell? ⟨w.heap.size + 1, 0, none⟩ = some (.int .i64 0) := by rw [hc _ _ (by omega)]; simp [go_sem, *]
  have r1 : w2.cell? ⟨w.heap.size + 1, 1, none⟩ = some (.int .i64 0) := by rw [hc _ _ (by omega)]; simp [go_sem, *]
  have r2 : w2.cell? ⟨w.heap.size + 1, 2, none⟩ = some (.int .i64 0) := by rw [hc _ _ (by omega)]; simp [go_sem, *]
  have r3 : w2.cell? ⟨w.heap.size + 1, 3, none⟩ = some (.int .i64 0) := by rw [hc _ _ (by omega)]; simp [go_sem, *]
  have r4 : w2.cell? ⟨w.heap.size + 1, 4, none⟩ = some (.int .i64 0) := by rw [hc _ _ (by omega)]; simp [go_sem, *]
  have r5 : w2.cell? ⟨w.heap.size + 1, 5, none⟩ = some (.int .i64 0) := by rw [hc _ _ (by omega)]; simp [go_sem, *]
  have k1 : ∀ o, w2.frozen? ⟨w.heap.size + 1 + 1, o, none⟩ = false := fun o => by rw [hf _ _ (by omega)]; simp only [World.frozen?_setCell]; exact f1 o
  have k2 : ∀ o, w2.frozen? ⟨w.heap.size + 1, o, none⟩ = false := fun o => by rw [hf _ _ (by omega)]; simp only [World.frozen?_setCell]; exact f2 o
  clear hb hc hf f1 f2 o0 o1 o2 o3 o4 o5 b3 b4 b5 p0 p1 p2 p3 p4 p5 HW hsz
  go_wp2
  refine bodyPost_ret (v := .agg #[.int .i64 a, .int .i64 mh, .int .i64 ml, .int .i64 cm, .int .i64 vh, .int .i64 vl]) (by simp [results, Tryd.results87, go_sem, *]) rfl ⟨rfl, ?_⟩
  have hw := HW2.out
  go_grown

set_option maxRecDepth 100000 in
theorem eqCond_same (a mh ml cm vh vl : Int) (w : World) : Calls Tryd.prog 89 #[.agg #[.int .i64 a, .int .i64 mh, .int .i64 ml, .int .i64 cm, .int .i64 vh, .int .i64 vl], .agg #[.int .i64 a, .int .i64 mh, .int .i64 ml, .int .i64 cm, .int .i64 vh, .int .i64 vl]] w fun e w' => e = .returned (.bool true) ∧ Ext w w' := by
  go_enter Tryd.func89, Tryd.ntmps89
  go_wp2_with fail
  refine (eqWide_same mh ml _).mono ?_
  rintro e w1 ⟨rfl, x1⟩
  have c1 := ((CellsAt.new w [.int .i64 a, .int .i64 mh, .int .i64 ml, .int .i64 cm, .int .i64 vh, .int .i64 vl] 27).step (Ext.one _ _)).step x1
  have d1 := (CellsAt.new' (w.alloc (.cells #[.int .i64 a, .int .i64 mh, .int .i64 ml, .int .i64 cm, .int .i64 vh, .int .i64 vl] 27)) [.int .i64 a, .int .i64 mh, .int .i64 ml, .int .i64 cm, .int .i64 vh, .int .i64 vl] 27 (w.heap.size + 1) (by simp)).step x1
  have X1 : Hid (Ext w w1) := ((Ext.one w _).alloc _).trans x1
  obtain ⟨q3, q4, q5, s3, s4, s5⟩ := (⟨c1.2 3 _ rfl, c1.2 4 _ rfl, c1.2 5 _ rfl, d1.2 3 _ rfl, d1.2 4 _ rfl, d1.2 5 _ rfl⟩ : _ ∧ _ ∧ _ ∧ _ ∧ _ ∧ _)
  clear x1 c1 d1
  go_wp2_with fail
  refine (eqWide_same vh vl _).mono ?_
  rintro e w2 ⟨rfl, x2⟩
  have X2 : Hid (Ext w w2) := X1.out.trans x2
  clear x2 q3 q4 q5 s3 s4 s5
  go_wp2
  go_ret
  exact ⟨rfl, X2.out⟩

/-- A number lies in a block. -/
def NumAt (w : World) (b o : Nat) (z : Int) : Prop := b < w.heap.size ∧ w.cell? ⟨b, o, none⟩ = some (.int .i64 z)

theorem NumAt.step {w w' : World} {b o : Nat} {z : Int} (h : NumAt w b o z) (hE : Ext w w') : NumAt w' b o z := ⟨Nat.lt_of_lt_of_le h.1 hE.size, (hE.cell (p := ⟨b, o, none⟩) h.1).trans h.2⟩

theorem NumAt.drew {w : World} {b o : Nat} {z : Int} (h : NumAt w b o z) : NumAt w.drew b o z := h

/-- The cells l lie in an old block. -/
def SegB (W : World) (b o : Nat) (l : List Value) : Prop := b < W.heap.size ∧ Seg W b o l

theorem SegB.step {W W' : World} {b o : Nat} {l : List Value} (h : SegB W b o l) (hE : Ext W W') : SegB W' b o l := ⟨Nat.lt_of_lt_of_le h.1 hE.size, h.2.below hE h.1⟩

theorem SegB.drew {W : World} {b o : Nat} {l : List Value} (h : SegB W b o l) : SegB W.drew b o l := h

/-- The value v is the call of these numbers. -/
def RepCall (arch num : Int) (ws : List (Int × Int)) (v : Value) (w : World) : Prop := ∃ a cap, v = .agg #[.int .i64 arch, .int .i64 num, .slice a ws.length cap] ∧ Wides w a ws

theorem RepCall.step {arch num : Int} {ws : List (Int × Int)} {v : Value} {w w' : World} (h : RepCall arch num ws v w) (hE : Ext w w') : RepCall arch num ws v w' := by
  obtain ⟨a, cap, rfl, hw⟩ := h
  exact ⟨a, cap, rfl, hw.below hE (Nat.le_refl _)⟩

/-- The four cells of a rule. -/
def RuleL (w : World) (r : RN) (l : List Value) : Prop :=
  ∃ a1 n1 c1 a2 n2 c2, l = [.slice a1 n1 c1, .slice a2 n2 c2, .int .i64 r.act, .int .i64 r.data] ∧ n1 = r.nums.length ∧ n2 = r.conds.length ∧ Nums w a1 r.nums ∧ Conds w a2 r.conds

theorem RuleL.step {w w' : World} {r : RN} {l : List Value} (h : RuleL w r l) (hE : Ext w w') : RuleL w' r l := by
  obtain ⟨a1, n1, c1, a2, n2, c2, e, e1, e2, h1, h2⟩ := h
  exact ⟨a1, n1, c1, a2, n2, c2, e, e1, e2, h1.step hE, h2.step hE⟩

/-- The value v is the rule r. -/
def RepRule (r : RN) (v : Value) (w : World) : Prop := ∃ l, v = .agg l.toArray ∧ RuleL w r l

theorem RepRule.step {r : RN} {v : Value} {w w' : World} (h : RepRule r v w) (hE : Ext w w') : RepRule r v w' := by
  obtain ⟨l, e, hl⟩ := h
  exact ⟨l, e, hl.step hE⟩

/-- No more numbers or conditions than the laws look at. -/
def Small (r : RN) : Prop := r.nums.length ≤ 1048576 ∧ r.conds.length ≤ 1048576

/-- A slice of rules in memory, four cells each. -/
def Rules (w : World) (a : Option Addr) (rs : List RN) : Prop :=
  0 < rs.length → ∃ b off, a = some ⟨b, off, none⟩ ∧ b < w.heap.size ∧ ∀ j, j < rs.length → ∃ l, Seg w b (off + j * 4) l ∧ RuleL w (rs.getD j r0) l

theorem Rules.step {w w' : World} {a : Option Addr} {rs : List RN} (h : Rules w a rs) (hE : Ext w w') : Rules w' a rs := fun hp => by
  obtain ⟨b, off, ha, hb, hc⟩ := h hp
  refine ⟨b, off, ha, Nat.lt_of_lt_of_le hb hE.size, fun j hj => ?_⟩
  obtain ⟨l, h1, h2⟩ := hc j hj
  exact ⟨l, h1.below hE hb, h2.step hE⟩

theorem Rules.at {w : World} {a : Option Addr} {rs : List RN} (h : Rules w a rs) {k : Nat} (hk : k < rs.length) : ∃ b off l, a = some ⟨b, off, none⟩ ∧ SegB w b (off + k * 4) l ∧ RuleL w (rs.getD k r0) l := by
  obtain ⟨b, off, ha, hb, hx⟩ := h (by omega)
  obtain ⟨l, h1, h2⟩ := hx k hk
  exact ⟨b, off, l, ha, ⟨hb, h1⟩, h2⟩

theorem Tryd.info9 : (Tryd.prog.info? 3).map (fun i => (i.zero, i.size, i.bytes)) = some (some (.int .i64 0), 1, 8) := by kernel_rfl

theorem Tryd.infoCo : (Tryd.prog.info? 27).map (fun i => (i.zero, i.size, i.bytes)) = some (some (.agg #[.int .i64 0, .int .i64 0, .int .i64 0, .int .i64 0, .int .i64 0, .int .i64 0]), 6, 48) := by kernel_rfl

set_option maxHeartbeats 800000 in
theorem eqIntS_nums (a1 a2 : Option Addr) (c1 c2 n : Nat) (zs : List Int) (w : World) (hn : n = zs.length) (hl : zs.length ≤ 1048576) (h1 : Nums w a1 zs) (h2 : Nums w a2 zs) :
    Calls Tryd.prog 60 #[.slice a1 n c1, .slice a2 n c2] w fun e w' => e = .returned (.bool true) ∧ Ext w w' := by
  have HN : Hid (n = zs.length) := hn
  have H1 : Hid (∀ W, Ext w W → Nums W a1 zs ∧ Nums W a2 zs) := fun W hE => ⟨h1.step hE, h2.step hE⟩
  have hl' : n ≤ 1048576 := by omega
  clear h1 h2 hn hl
  go_enter Tryd.func60, Tryd.ntmps60
  go_wp2
  go_loopw [5] (fun i wr => ∃ k : Nat, i = .int .i64 k ∧ k ≤ n ∧ Hid (Ext w wr)) (fun i _ => n - (intOf i).toNat)
  case atStart => exact ⟨0, rfl, by omega, Ext.refl _⟩
  case round =>
    obtain ⟨k, rfl, hk, hE⟩ := hrel
    by_cases hlt : k < n
    · have bk : (k : Int) < (n : Int) := by omega
      obtain ⟨z, hz⟩ : ∃ z, z = zs.getD k 0 := ⟨_, rfl⟩
      obtain ⟨b1, o1, rfl, l1, d1⟩ := (H1.out wr hE.out).1.at (k := k) (by have := HN.out; omega)
      obtain ⟨b2, o2, rfl, l2, d2⟩ := (H1.out wr hE.out).2.at (k := k) (by have := HN.out; omega)
      rw [← hz] at d1 d2
      have s1 : SegB wr b1 (o1 + k) [.int .i64 z] := ⟨l1, fun i v hv => by
        match i with
        | 0 => simp at hv; subst hv; exact d1
        | i + 1 => simp at hv⟩
      have s2 : SegB wr b2 (o2 + k) [.int .i64 z] := ⟨l2, fun i v hv => by
        match i with
        | 0 => simp at hv; subst hv; exact d2
        | i + 1 => simp at hv⟩
      clear hz d1 d2 l1 l2
      go_wp2_with fail
      refine' wp_region_loose (.inl _ :: .inl _ :: .inl _ :: .inl _ :: .inl _ :: .inl _ :: .inl _ :: .inl _ :: .inl _ :: []) (fun w' => SegB w' b1 (o1 + k) [.int .i64 z] ∧ SegB w' b2 (o2 + k) [.int .i64 z]) (by kernel_rfl) (by kernel_rfl) (⟨s1.drew, s2.drew⟩) (fun _ _ h hE => ⟨h.1.step hE, h.2.step hE⟩) ?hAa ?hla ?hMa
      case' hMa => skip
      apply wpLoose_val rfl rfl
      case hs =>
        intro w1 hC hd Q1 hQ1
        obtain ⟨hE, hS⟩ := hC
        dsimp only [bare]
        obtain ⟨q1, q2⟩ := (⟨hS.1.2.one, hS.2.2.one⟩ : _ ∧ _)
        clear hd hE
        try clear hS
        go_wp2
        exact Ext.refl _
      case ha => rfl
      apply wpLoose_val rfl rfl
      case hs =>
        intro w1 hC hd Q1 hQ1
        obtain ⟨hE, hS⟩ := hC
        dsimp only [bare]
        obtain ⟨q1, q2⟩ := (⟨hS.1.2.one, hS.2.2.one⟩ : _ ∧ _)
        clear hd hE
        try clear hS
        go_wp2
        exact Ext.refl _
      case ha => rfl
      apply wpLoose_val rfl rfl
      case hs =>
        intro w1 hC hd Q1 hQ1
        obtain ⟨hE, hS⟩ := hC
        dsimp only [bare]
        obtain ⟨q1, q2⟩ := (⟨hS.1.2.one, hS.2.2.one⟩ : _ ∧ _)
        clear hd hE
        try clear hS
        go_wp2
        exact Ext.refl _
      case ha => rfl
      apply wpLoose_val rfl rfl
      case hs =>
        intro w1 hC hd Q1 hQ1
        obtain ⟨hE, hS⟩ := hC
        dsimp only [bare]
        obtain ⟨q1, q2⟩ := (⟨hS.1.2.one, hS.2.2.one⟩ : _ ∧ _)
        clear hd hE
        try clear hS
        go_wp2
        exact Ext.refl _
      case ha => rfl
      apply wpLoose_val rfl rfl
      case hs =>
        intro w1 hC hd Q1 hQ1
        obtain ⟨hE, hS⟩ := hC
        dsimp only [bare]
        obtain ⟨q1, q2⟩ := (⟨hS.1.2.one, hS.2.2.one⟩ : _ ∧ _)
        clear hd hE
        try clear hS
        go_wp2
        exact Ext.refl _
      case ha => rfl
      apply wpLoose_val rfl rfl
      case hs =>
        intro w1 hC hd Q1 hQ1
        obtain ⟨hE, hS⟩ := hC
        dsimp only [bare]
        obtain ⟨q1, q2⟩ := (⟨hS.1.2.one, hS.2.2.one⟩ : _ ∧ _)
        clear hd hE
        try clear hS
        go_wp2
        exact Ext.refl _
      case ha => rfl
      apply wpLoose_val rfl rfl
      case hs =>
        intro w1 hC hd Q1 hQ1
        obtain ⟨hE, hS⟩ := hC
        dsimp only [bare]
        obtain ⟨q1, q2⟩ := (⟨hS.1.2.one, hS.2.2.one⟩ : _ ∧ _)
        clear hd hE
        try clear hS
        go_wp2
        exact Ext.refl _
      case ha => rfl
      apply wpLoose_val rfl rfl
      case hs =>
        intro w1 hC hd Q1 hQ1
        obtain ⟨hE, hS⟩ := hC
        dsimp only [bare]
        obtain ⟨q1, q2⟩ := (⟨hS.1.2.one, hS.2.2.one⟩ : _ ∧ _)
        clear hd hE
        try clear hS
        go_wp2
        exact Ext.refl _
      case ha => rfl
      apply wpLoose_val rfl rfl
      case hs =>
        intro w1 hC hd Q1 hQ1
        obtain ⟨hE, hS⟩ := hC
        dsimp only [bare]
        obtain ⟨q1, q2⟩ := (⟨hS.1.2.one, hS.2.2.one⟩ : _ ∧ _)
        clear hd hE
        try clear hS
        go_wp2
        exact Ext.refl _
      case ha => rfl
      refine wpLoose_nil ?_
      intro wa hEa hSa hFa
      have HE2 : Hid (Ext w wa) := hE.out.drew.trans hEa
      clear hFa hSa hEa s1 s2
      go_wp2
      go_roundw
      case rel => exact ⟨k + 1, by go_num, by omega, HE2⟩
      case measure => simp [intOf]; omega
      case hAa => kernel_rfl
      case hla => exact ⟨trivial, trivial, trivial, trivial, trivial, trivial, trivial, trivial, trivial, trivial⟩
    · have bk : ¬ ((k : Int) < (n : Int)) := by omega
      go_wp2
      go_ret
      exact ⟨rfl, hE.out⟩

theorem putL6 (W : World) (g o : Nat) (v0 v1 v2 v3 v4 v5 : Value) : putL W g o [v0, v1, v2, v3, v4, v5] = (((((W.setCell ⟨g, o, none⟩ v0).setCell ⟨g, o + 1, none⟩ v1).setCell ⟨g, o + 2, none⟩ v2).setCell ⟨g, o + 3, none⟩ v3).setCell ⟨g, o + 4, none⟩ v4).setCell ⟨g, o + 5, none⟩ v5 := rfl

set_option maxRecDepth 100000 in
set_option maxHeartbeats 2000000 in
theorem eqCondS_conds (a1 a2 : Option Addr) (c1 c2 n : Nat) (cs : List CN) (w : World) (hn : n = cs.length) (hl : cs.length ≤ 1048576) (h1 : Conds w a1 cs) (h2 : Conds w a2 cs) :
    Calls Tryd.prog 61 #[.slice a1 n c1, .slice a2 n c2] w fun e w' => e = .returned (.bool true) ∧ Ext w w' := by
  have HN : Hid (n = cs.length) := hn
  have H1 : Hid (∀ W, Ext w W → Conds W a1 cs ∧ Conds W a2 cs) := fun W hE => ⟨h1.step hE, h2.step hE⟩
  have hl' : n ≤ 1048576 := by omega
  clear h1 h2 hn hl
  go_enter Tryd.func61, Tryd.ntmps61
  go_wp2
  go_loopw [5] (fun i wr => ∃ k : Nat, i = .int .i64 k ∧ k ≤ n ∧ Hid (Ext w wr)) (fun i _ => n - (intOf i).toNat)
  case atStart => exact ⟨0, rfl, by omega, Ext.refl _⟩
  case round =>
    obtain ⟨k, rfl, hk, hE⟩ := hrel
    by_cases hlt : k < n
    · have bk : (k : Int) < (n : Int) := by omega
      obtain ⟨c, hc⟩ : ∃ c, c = cs.getD k c0 := ⟨_, rfl⟩
      obtain ⟨b1, o1, rfl, l1, d1⟩ := (H1.out wr hE.out).1.at (k := k) (by have := HN.out; omega) hc
      obtain ⟨b2, o2, rfl, l2, d2⟩ := (H1.out wr hE.out).2.at (k := k) (by have := HN.out; omega) hc
      obtain ⟨ag, mh, ml, cm, vh, vl⟩ := c
      have s1 : SegB wr b1 (o1 + k * 6) [.int .i64 ag, .int .i64 mh, .int .i64 ml, .int .i64 cm, .int .i64 vh, .int .i64 vl] := ⟨l1, d1⟩
      have s2 : SegB wr b2 (o2 + k * 6) [.int .i64 ag, .int .i64 mh, .int .i64 ml, .int .i64 cm, .int .i64 vh, .int .i64 vl] := ⟨l2, d2⟩
      clear hc d1 d2 l1 l2
      go_wp2_with fail
      refine' wp_region_loose (.inl _ :: .inl _ :: .inl _ :: .inl _ :: .inl _ :: .inl _ :: .inl _ :: .inl _ :: .inl _ :: .inl _ :: []) (fun w' => SegB w' b1 (o1 + k * 6) [.int .i64 ag, .int .i64 mh, .int .i64 ml, .int .i64 cm, .int .i64 vh, .int .i64 vl] ∧ SegB w' b2 (o2 + k * 6) [.int .i64 ag, .int .i64 mh, .int .i64 ml, .int .i64 cm, .int .i64 vh, .int .i64 vl]) (by kernel_rfl) (by kernel_rfl) (⟨s1.drew, s2.drew⟩) (fun _ _ h hE => ⟨h.1.step hE, h.2.step hE⟩) ?hAa ?hla ?hMa
      case' hMa => skip
      apply wpLoose_val rfl rfl
      case hs =>
        intro w1 hC hd Q1 hQ1
        obtain ⟨hE, hS⟩ := hC
        dsimp only [bare]
        obtain ⟨⟨p0, p1, p2, p3, p4, p5⟩, ⟨q0, q1, q2, q3, q4, q5⟩⟩ := (⟨hS.1.2.six, hS.2.2.six⟩ : _ ∧ _)
        clear hd hE
        try clear hS
        go_wp2
        exact Ext.refl _
      case ha => rfl
      apply wpLoose_val rfl rfl
      case hs =>
        intro w1 hC hd Q1 hQ1
        obtain ⟨hE, hS⟩ := hC
        dsimp only [bare]
        obtain ⟨⟨p0, p1, p2, p3, p4, p5⟩, ⟨q0, q1, q2, q3, q4, q5⟩⟩ := (⟨hS.1.2.six, hS.2.2.six⟩ : _ ∧ _)
        clear hd hE
        try clear hS
        go_wp2
        exact Ext.refl _
      case ha => rfl
      apply wpLoose_val rfl rfl
      case hs =>
        intro w1 hC hd Q1 hQ1
        obtain ⟨hE, hS⟩ := hC
        dsimp only [bare]
        obtain ⟨⟨p0, p1, p2, p3, p4, p5⟩, ⟨q0, q1, q2, q3, q4, q5⟩⟩ := (⟨hS.1.2.six, hS.2.2.six⟩ : _ ∧ _)
        clear hd hE
        try clear hS
        go_wp2
        exact Ext.refl _
      case ha => rfl
      apply wpLoose_val rfl rfl
      case hs =>
        intro w1 hC hd Q1 hQ1
        obtain ⟨hE, hS⟩ := hC
        dsimp only [bare]
        obtain ⟨⟨p0, p1, p2, p3, p4, p5⟩, ⟨q0, q1, q2, q3, q4, q5⟩⟩ := (⟨hS.1.2.six, hS.2.2.six⟩ : _ ∧ _)
        clear hd hE
        try clear hS
        go_wp2
        exact Ext.refl _
      case ha => rfl
      apply wpLoose_val rfl rfl
      case hs =>
        intro w1 hC hd Q1 hQ1
        obtain ⟨hE, hS⟩ := hC
        dsimp only [bare]
        obtain ⟨⟨p0, p1, p2, p3, p4, p5⟩, ⟨q0, q1, q2, q3, q4, q5⟩⟩ := (⟨hS.1.2.six, hS.2.2.six⟩ : _ ∧ _)
        clear hd hE
        try clear hS
        go_wp2
        exact Ext.refl _
      case ha => rfl
      apply wpLoose_val rfl rfl
      case hs =>
        intro w1 hC hd Q1 hQ1
        obtain ⟨hE, hS⟩ := hC
        dsimp only [bare]
        obtain ⟨⟨p0, p1, p2, p3, p4, p5⟩, ⟨q0, q1, q2, q3, q4, q5⟩⟩ := (⟨hS.1.2.six, hS.2.2.six⟩ : _ ∧ _)
        clear hd hE
        try clear hS
        go_wp2
        exact Ext.refl _
      case ha => rfl
      apply wpLoose_val rfl rfl
      case hs =>
        intro w1 hC hd Q1 hQ1
        obtain ⟨hE, hS⟩ := hC
        dsimp only [bare]
        obtain ⟨⟨p0, p1, p2, p3, p4, p5⟩, ⟨q0, q1, q2, q3, q4, q5⟩⟩ := (⟨hS.1.2.six, hS.2.2.six⟩ : _ ∧ _)
        clear hd hE
        try clear hS
        go_wp2
        exact Ext.refl _
      case ha => rfl
      apply wpLoose_val rfl rfl
      case hs =>
        intro w1 hC hd Q1 hQ1
        obtain ⟨hE, hS⟩ := hC
        dsimp only [bare]
        obtain ⟨⟨p0, p1, p2, p3, p4, p5⟩, ⟨q0, q1, q2, q3, q4, q5⟩⟩ := (⟨hS.1.2.six, hS.2.2.six⟩ : _ ∧ _)
        clear hd hE
        try clear hS
        go_wp2
        exact Ext.refl _
      case ha => rfl
      apply wpLoose_val rfl rfl
      case hs =>
        intro w1 hC hd Q1 hQ1
        obtain ⟨hE, hS⟩ := hC
        dsimp only [bare]
        clear hd
        go_wp2_with fail
        refine (eqCond_same ag mh ml cm vh vl _).mono ?_
        rintro e w2 ⟨rfl, hb⟩
        go_wp2_with fail
        exact hb
      case ha => rfl
      apply wpLoose_val rfl rfl
      case hs =>
        intro w1 hC hd Q1 hQ1
        obtain ⟨hE, hS⟩ := hC
        dsimp only [bare]
        obtain ⟨⟨p0, p1, p2, p3, p4, p5⟩, ⟨q0, q1, q2, q3, q4, q5⟩⟩ := (⟨hS.1.2.six, hS.2.2.six⟩ : _ ∧ _)
        clear hd hE
        try clear hS
        go_wp2
        exact Ext.refl _
      case ha => rfl
      refine wpLoose_nil ?_
      intro wa hEa hSa hFa
      have HE2 : Hid (Ext w wa) := hE.out.drew.trans hEa
      clear hFa hSa hEa s1 s2
      go_wp2
      go_roundw
      case rel => exact ⟨k + 1, by go_num, by omega, HE2⟩
      case measure => simp [intOf]; omega
      case hAa => kernel_rfl
      case hla => exact ⟨trivial, trivial, trivial, trivial, trivial, trivial, trivial, trivial, trivial, trivial, trivial⟩
    · have bk : ¬ ((k : Int) < (n : Int)) := by omega
      go_wp2
      go_ret
      exact ⟨rfl, hE.out⟩

theorem Nums.far {w : World} {b o : Nat} {zs : List Int} (h : Nums w (some ⟨b, o, none⟩) zs) {k : Nat} (i : Nat) (hk : b ≠ k) (v : Value) : Nums (w.setCell ⟨k, i, none⟩ v) (some ⟨b, o, none⟩) zs := h.put (p := i) hk [v]

theorem Conds.far {w : World} {b o : Nat} {cs : List CN} (h : Conds w (some ⟨b, o, none⟩) cs) {k : Nat} (i : Nat) (hk : b ≠ k) (v : Value) : Conds (w.setCell ⟨k, i, none⟩ v) (some ⟨b, o, none⟩) cs := h.put (p := i) hk [v]

/-- The four cells of a rule whose memory lies from block B on. -/
def RuleG (B : Nat) (w : World) (r : RN) (l : List Value) : Prop :=
  ∃ g1 n1 c1 g2 n2 c2, l = [.slice (some ⟨g1, 0, none⟩) n1 c1, .slice (some ⟨g2, 0, none⟩) n2 c2, .int .i64 r.act, .int .i64 r.data] ∧ n1 = r.nums.length ∧ n2 = r.conds.length ∧ B ≤ g1 ∧ B ≤ g2 ∧ Nums w (some ⟨g1, 0, none⟩) r.nums ∧ Conds w (some ⟨g2, 0, none⟩) r.conds ∧ n1 ≤ c1

theorem RuleG.step {B : Nat} {w w' : World} {r : RN} {l : List Value} (h : RuleG B w r l) (hE : Ext w w') : RuleG B w' r l := by
  obtain ⟨g1, n1, c1, g2, n2, c2, e, e1, e2, b1, b2, h1, h2, h3⟩ := h
  exact ⟨g1, n1, c1, g2, n2, c2, e, e1, e2, b1, b2, h1.step hE, h2.step hE, h3⟩

theorem RuleG.mono {B C : Nat} {w : World} {r : RN} {l : List Value} (h : RuleG B w r l) (hC : C ≤ B) : RuleG C w r l := by
  obtain ⟨g1, n1, c1, g2, n2, c2, e, e1, e2, b1, b2, h1, h2, h3⟩ := h
  exact ⟨g1, n1, c1, g2, n2, c2, e, e1, e2, by omega, by omega, h1, h2, h3⟩

theorem RuleG.put {B : Nat} {w : World} {r : RN} {l : List Value} (h : RuleG B w r l) {k : Nat} (hk : k < B) (o : Nat) (vs : List Value) : RuleG B (putL w k o vs) r l := by
  obtain ⟨g1, n1, c1, g2, n2, c2, e, e1, e2, b1, b2, h1, h2, h3⟩ := h
  exact ⟨g1, n1, c1, g2, n2, c2, e, e1, e2, b1, b2, h1.put (by omega) vs, h2.put (by omega) vs, h3⟩

set_option maxHeartbeats 1000000 in
theorem eqRule_any (zs : List Int) (cs : List CN) (act data : Int) (a1 a2 b1 b2 : Option Addr) (n1 n2 c1 c2 d1 d2 : Nat) (w : World) (e1 : n1 = zs.length) (e2 : n2 = cs.length) (l1 : zs.length ≤ 1048576) (l2 : cs.length ≤ 1048576) (h1 : Nums w a1 zs) (h2 : Conds w a2 cs) (k1 : Nums w b1 zs) (k2 : Conds w b2 cs) :
    Calls Tryd.prog 24 #[.agg #[.slice a1 n1 c1, .slice a2 n2 c2, .int .i64 act, .int .i64 data], .agg #[.slice b1 n1 d1, .slice b2 n2 d2, .int .i64 act, .int .i64 data]] w fun e w' => e = .returned (.bool true) ∧ Ext w w' := by
  have H1 : Hid (∀ W, Ext w W → Calls Tryd.prog 60 #[.slice a1 n1 c1, .slice b1 n1 d1] W fun e w' => e = .returned (.bool true) ∧ Ext W w') := fun W hE => eqIntS_nums a1 b1 c1 d1 n1 zs W e1 l1 (h1.step hE) (k1.step hE)
  have H2 : Hid (∀ W, Ext w W → Calls Tryd.prog 61 #[.slice a2 n2 c2, .slice b2 n2 d2] W fun e w' => e = .returned (.bool true) ∧ Ext W w') := fun W hE => eqCondS_conds a2 b2 c2 d2 n2 cs W e2 l2 (h2.step hE) (k2.step hE)
  clear h1 h2 k1 k2 l1 l2 e1 e2
  go_enter Tryd.func24, Tryd.ntmps24
  go_wp2_with fail
  refine (H1.out _ ((Ext.one w _).alloc _)).mono ?_
  rintro e w1 ⟨rfl, x1⟩
  have X1 : Hid (Ext w w1) := ((Ext.one w _).alloc _).trans x1
  have p1 : Kn w1 w.heap.size [.slice a1 n1 c1, .slice a2 n2 c2, .int .i64 act, .int .i64 data] 47 := ((Kn.new w _ _).alloc _).ext x1
  have p2 : Kn w1 (w.heap.size + 1) [.slice b1 n1 d1, .slice b2 n2 d2, .int .i64 act, .int .i64 data] 47 := (Kn.new' _ _ _ _ (by simp)).ext x1
  obtain ⟨q1, q2⟩ := (⟨p1.cell 1 _ rfl, p2.cell 1 _ rfl⟩ : _ ∧ _)
  clear x1
  go_wp2_with fail
  refine (H2.out _ X1.out).mono ?_
  rintro e w2 ⟨rfl, x2⟩
  have X2 : Hid (Ext w w2) := X1.out.trans x2
  have p3 := p1.ext x2
  have p4 := p2.ext x2
  clear q1 q2 x2 p1 p2
  obtain ⟨q1, q2, q3, q4⟩ := (⟨p3.cell 2 _ rfl, p3.cell 3 _ rfl, p4.cell 2 _ rfl, p4.cell 3 _ rfl⟩ : _ ∧ _ ∧ _ ∧ _)
  clear p3 p4
  go_wp2
  go_ret
  exact ⟨rfl, X2.out⟩

theorem eqRule_rep {r : RN} {v u : Value} {w : World} (hs : Small r) (h : RepRule r v w) (k : RepRule r u w) : Calls Tryd.prog 24 #[v, u] w fun e w' => e = .returned (.bool true) ∧ Ext w w' := by
  obtain ⟨l, rfl, a1, n1, c1, a2, n2, c2, rfl, e1, e2, h1, h2⟩ := h
  obtain ⟨m, rfl, b1, m1, d1, b2, m2, d2, rfl, f1, f2, k1, k2⟩ := k
  obtain rfl : m1 = n1 := by omega
  obtain rfl : m2 = n2 := by omega
  exact eqRule_any r.nums r.conds r.act r.data a1 a2 b1 b2 m1 m2 c1 c2 d1 d2 w e1 e2 hs.1 hs.2 h1 h2 k1 k2

theorem szIntS_left (a : Option Addr) (cap n l : Nat) (w : World) (hl : n ≤ l) (hm : l ≤ 1048576) :
    Calls Tryd.prog 55 #[.slice a n cap, .int .i64 (l : Int)] w fun e w' => e = .returned (.int .i64 ((l - n : Nat) : Int)) ∧ w = w' := by
  have HL : Hid (((l - n : Nat) : Int) = (l : Int) - (n : Int)) := by unfold Hid; omega
  go_enter Tryd.func55, Tryd.ntmps55
  go_wp2
  go_ret
  exact ⟨by rw [HL.out]; rfl, rfl⟩

theorem szIntS_over (a : Option Addr) (cap n l : Nat) (w : World) (hl : l < n) (hm : l ≤ 1048576) (hn : n ≤ 9223372036854775807) :
    Calls Tryd.prog 55 #[.slice a n cap, .int .i64 (l : Int)] w fun e w' => e = .returned (.int .i64 (-1)) ∧ w = w' := by
  go_enter Tryd.func55, Tryd.ntmps55
  go_wp2
  go_ret
  exact ⟨rfl, rfl⟩

theorem szCondS_left (a : Option Addr) (cap n l : Nat) (w : World) (hl : n ≤ l) (hm : l ≤ 1048576) :
    Calls Tryd.prog 56 #[.slice a n cap, .int .i64 (l : Int)] w fun e w' => e = .returned (.int .i64 ((l - n : Nat) : Int)) ∧ w = w' := by
  have HL : Hid (((l - n : Nat) : Int) = (l : Int) - (n : Int)) := by unfold Hid; omega
  go_enter Tryd.func56, Tryd.ntmps56
  go_wp2
  go_ret
  exact ⟨by rw [HL.out]; rfl, rfl⟩

theorem szCondS_over (a : Option Addr) (cap n l : Nat) (w : World) (hl : l < n) (hm : l ≤ 1048576) (hn : n ≤ 9223372036854775807) :
    Calls Tryd.prog 56 #[.slice a n cap, .int .i64 (l : Int)] w fun e w' => e = .returned (.int .i64 (-1)) ∧ w = w' := by
  go_enter Tryd.func56, Tryd.ntmps56
  go_wp2
  go_ret
  exact ⟨rfl, rfl⟩

set_option maxHeartbeats 800000 in
theorem szRule_any (act data : Int) (a1 a2 : Option Addr) (n1 n2 c1 c2 l : Nat) (w : World) (hm : l ≤ 1048576) (m1 : n1 ≤ 9223372036854775807) (m2 : n2 ≤ 9223372036854775807) :
    Calls Tryd.prog 21 #[.agg #[.slice a1 n1 c1, .slice a2 n2 c2, .int .i64 act, .int .i64 data], .int .i64 (l : Int)] w fun e w' => ((e = .returned (.int .i64 (-1))) ∨ ∃ m : Nat, e = .returned (.int .i64 (m : Int)) ∧ m ≤ l ∧ n1 ≤ l ∧ n2 ≤ l) ∧ Ext w w' := by
  have HE : Hid (∀ o, Ext w (w.alloc o)) := fun o => Ext.one w o
  by_cases h1 : n1 ≤ l
  · by_cases h2 : n2 ≤ l - n1
    · obtain ⟨k, hk⟩ : ∃ k, k = l - n1 := ⟨_, rfl⟩
      obtain ⟨j, hj⟩ : ∃ j, j = k - n2 := ⟨_, rfl⟩
      have H1 : Hid (∀ W, Calls Tryd.prog 55 #[.slice a1 n1 c1, .int .i64 (l : Int)] W fun e w' => e = .returned (.int .i64 (k : Int)) ∧ W = w') := fun W => by rw [hk]; exact szIntS_left a1 c1 n1 l W h1 hm
      have H2 : Hid (∀ W, Calls Tryd.prog 56 #[.slice a2 n2 c2, .int .i64 (k : Int)] W fun e w' => e = .returned (.int .i64 (j : Int)) ∧ W = w') := fun W => by rw [hj]; exact szCondS_left a2 c2 n2 k W (by omega) (by omega)
      have HR : Hid (j ≤ l ∧ n1 ≤ l ∧ n2 ≤ l) := by unfold Hid; omega
      clear hk hj h1 h2
      go_enter Tryd.func21, Tryd.ntmps21
      go_wp2_with (first | (go_at_call 55; refine (H1.out _).mono ?_; rintro e w' ⟨rfl, rfl⟩) | (go_at_call 56; refine (H2.out _).mono ?_; rintro e w' ⟨rfl, rfl⟩))
      go_ret
      exact ⟨.inr ⟨j, rfl, HR.out⟩, HE.out _⟩
    · obtain ⟨k, hk⟩ : ∃ k, k = l - n1 := ⟨_, rfl⟩
      have H1 : Hid (∀ W, Calls Tryd.prog 55 #[.slice a1 n1 c1, .int .i64 (l : Int)] W fun e w' => e = .returned (.int .i64 (k : Int)) ∧ W = w') := fun W => by rw [hk]; exact szIntS_left a1 c1 n1 l W h1 hm
      have H2 : Hid (∀ W, Calls Tryd.prog 56 #[.slice a2 n2 c2, .int .i64 (k : Int)] W fun e w' => e = .returned (.int .i64 (-1)) ∧ W = w') := fun W => szCondS_over a2 c2 n2 k W (by omega) (by omega) m2
      clear hk h1 h2
      go_enter Tryd.func21, Tryd.ntmps21
      go_wp2_with (first | (go_at_call 55; refine (H1.out _).mono ?_; rintro e w' ⟨rfl, rfl⟩) | (go_at_call 56; refine (H2.out _).mono ?_; rintro e w' ⟨rfl, rfl⟩))
      go_ret
      exact ⟨.inl rfl, HE.out _⟩
  · have H1 : Hid (∀ W, Calls Tryd.prog 55 #[.slice a1 n1 c1, .int .i64 (l : Int)] W fun e w' => e = .returned (.int .i64 (-1)) ∧ W = w') := fun W => szIntS_over a1 c1 n1 l W (by omega) hm m1
    clear h1
    go_enter Tryd.func21, Tryd.ntmps21
    go_wp2_with (go_at_call 55; refine (H1.out _).mono ?_; rintro e w' ⟨rfl, rfl⟩)
    go_ret
    exact ⟨.inl rfl, HE.out _⟩

set_option maxHeartbeats 800000 in
theorem toIntS_free (a : Option Addr) (cap n : Nat) (zs : List Int) (w : World) (hn : n = zs.length) (hl : zs.length ≤ 1048576) (h : Nums w a zs) :
    Calls Tryd.prog 57 #[.slice a n cap] w fun e w' => ∃ g, e = .returned (.slice (some ⟨g, 0, none⟩) n n) ∧ w.heap.size ≤ g ∧ Nums w' (some ⟨g, 0, none⟩) zs ∧ Ext w w' ∧ FreeN w' g n := by
  obtain ⟨i0, hi, hz0, hz1, hz2⟩ := info_parts Tryd.info9
  have HN : Hid (n = zs.length) := hn
  have HA : Hid (∀ W, Ext w W → Nums W a zs) := fun W hE => h.step hE
  have hl' : n ≤ 1048576 := by omega
  clear h hn hl
  go_enter Tryd.func57, Tryd.ntmps57
  go_wp2_with (at_make; refine wpList_make_full _ rfl _ _ 44 rfl w.heap.size 3 i0 (.int .i64 0) 1 Tryd.underlying44 hi hz0 hz1 _ _ _ _ n rfl rfl (by omega) (by omega) (by rw [hz2]; omega) (by unfold maxLen; omega) (Nat.le_refl _) ?_; intro w0 hown0 hgrow0)
  have b0 : Hid (Ext w w0) := (Below.refl _ w).grown hgrow0 (Nat.le_refl _) (fun k hk => by cases hk)
  have m0 : FreeN w0 w.heap.size (n * 1) := made_free hown0 (by simp [madeCells])
  rw [Nat.mul_one] at m0
  clear hown0 hgrow0
  obtain ⟨g, hg⟩ : ∃ g, g = w.heap.size := ⟨_, rfl⟩
  rw [← hg] at m0 ⊢
  have HG : Hid (g = w.heap.size ∧ FreeN w0 g n) := ⟨hg, m0⟩
  clear hg m0
  go_loopw [4] (fun i wr => ∃ k : Nat, i = .int .i64 k ∧ k ≤ n ∧ Hid (Ext w wr ∧ FreeN wr g n ∧ ∀ j, j < k → wr.cell? ⟨g, j, none⟩ = some (.int .i64 (zs.getD j 0)))) (fun i _ => n - (intOf i).toNat)
  case atStart => exact ⟨0, rfl, by omega, b0.out, HG.out.2, fun j hj => by omega⟩
  case round =>
    obtain ⟨k, rfl, hk, HR⟩ := hrel
    clear b0
    by_cases hlt : k < n
    · have bk : (k : Int) < (n : Int) := by omega
      obtain ⟨b, off, rfl, hbl, hc⟩ := (HA.out wr HR.out.1).at (k := k) (by have := HN.out; omega)
      obtain ⟨x, hx⟩ : ∃ x, x = zs.getD k 0 := ⟨_, rfl⟩
      rw [← hx] at hc
      obtain ⟨⟨u, cu⟩, fu⟩ := HR.out.2.1.2 k hlt
      have HXX : Hid (x = zs.getD k 0) := hx
      clear hx hbl
      go_wp2
      go_roundw
      case rel =>
        obtain ⟨hE, hF, hC⟩ := HR.out
        refine ⟨k + 1, by go_num, by omega, hE.setCell (by show w.heap.size ≤ g; have := HG.out.1; omega) _, hF.put g k [.int .i64 x], fun j hj => ?_⟩
        by_cases hjk : j = k
        · subst hjk
          rw [← HXX.out]
          exact World.cell?_setCell_same _ _ _ cu
        · rw [World.cell?_setCell_other _ _ _ _ (fun e => hjk (by simpa using (congrArg Addr.off e).symm))]
          exact hC j (by omega)
      case measure => simp [intOf]; omega
    · have hkn : k = n := by omega
      have bk : ¬ ((k : Int) < (n : Int)) := by omega
      have HE : Hid (w.heap.size ≤ g ∧ Nums wr (some ⟨g, 0, none⟩) zs ∧ Ext w wr ∧ FreeN wr g n) :=
        ⟨by have := HG.out.1; omega, fun _ => ⟨g, 0, rfl, HR.out.2.1.1, fun j hj => by rw [Nat.zero_add]; exact HR.out.2.2 j (by have := HN.out; omega)⟩, HR.out.1, HR.out.2.1⟩
      clear hkn HR
      go_wp2
      go_ret
      exact ⟨g, rfl, HE.out⟩

set_option maxRecDepth 100000 in
set_option maxHeartbeats 2000000 in
theorem toCondS_free (a : Option Addr) (cap n : Nat) (cs : List CN) (w : World) (hn : n = cs.length) (hl : cs.length ≤ 1048576) (h : Conds w a cs) :
    Calls Tryd.prog 58 #[.slice a n cap] w fun e w' => ∃ g, e = .returned (.slice (some ⟨g, 0, none⟩) n n) ∧ w.heap.size ≤ g ∧ Conds w' (some ⟨g, 0, none⟩) cs ∧ Ext w w' ∧ FreeN w' g (n * 6) := by
  obtain ⟨i0, hi, hz0, hz1, hz2⟩ := info_parts Tryd.infoCo
  have HN : Hid (n = cs.length) := hn
  have HA : Hid (∀ W, Ext w W → Conds W a cs) := fun W hE => h.step hE
  have hl' : n ≤ 1048576 := by omega
  clear h hn hl
  go_enter Tryd.func58, Tryd.ntmps58
  go_wp2_with (at_make; refine wpList_make_full _ rfl _ _ 45 rfl w.heap.size 27 i0 (.agg #[.int .i64 0, .int .i64 0, .int .i64 0, .int .i64 0, .int .i64 0, .int .i64 0]) 6 Tryd.underlying45 hi hz0 hz1 _ _ _ _ n rfl rfl (by omega) (by omega) (by rw [hz2]; omega) (by unfold maxLen; omega) (Nat.le_refl _) ?_; intro w0 hown0 hgrow0)
  have b0 : Hid (Ext w w0) := (Below.refl _ w).grown hgrow0 (Nat.le_refl _) (fun k hk => by cases hk)
  have m0 : FreeN w0 w.heap.size (n * 6) := made_free hown0 (by simp [madeCells])
  clear hown0 hgrow0
  obtain ⟨g, hg⟩ : ∃ g, g = w.heap.size := ⟨_, rfl⟩
  rw [← hg] at m0 ⊢
  have HG : Hid (g = w.heap.size ∧ FreeN w0 g (n * 6)) := ⟨hg, m0⟩
  clear hg m0
  go_loopw [4] (fun i wr => ∃ k : Nat, i = .int .i64 k ∧ k ≤ n ∧ Hid (Ext w wr ∧ FreeN wr g (n * 6) ∧ ∀ j, j < k → Seg wr g (j * 6) (cs.getD j c0).l)) (fun i _ => n - (intOf i).toNat)
  case atStart => exact ⟨0, rfl, by omega, b0.out, HG.out.2, fun j hj => by omega⟩
  case round =>
    obtain ⟨k, rfl, hk, HR⟩ := hrel
    clear b0
    by_cases hlt : k < n
    · have bk : (k : Int) < (n : Int) := by omega
      obtain ⟨c, hc⟩ : ∃ c, c = cs.getD k c0 := ⟨_, rfl⟩
      obtain ⟨b, off, rfl, hbl, hs⟩ := (HA.out wr HR.out.1).at (k := k) (by have := HN.out; omega) hc
      obtain ⟨ag, mh, ml, cm, vh, vl⟩ := c
      obtain ⟨p0, p1, p2, p3, p4, p5⟩ := hs.six
      have HCC : Hid (⟨ag, mh, ml, cm, vh, vl⟩ = cs.getD k c0) := hc
      clear hc hs hbl
      simp only at p0 p1 p2 p3 p4 p5
      go_wp2_with fail
      refine (toCond_any ag mh ml cm vh vl _).mono ?_
      rintro e w2 ⟨rfl, x2⟩
      have HR2 : Hid (Ext w w2 ∧ FreeN w2 g (n * 6) ∧ ∀ j, j < k → Seg w2 g (j * 6) (cs.getD j c0).l) :=
        ⟨HR.out.1.trans x2, HR.out.2.1.step x2, fun j hj => (HR.out.2.2 j hj).below x2 HR.out.2.1.1⟩
      obtain ⟨⟨u0, d0⟩, f0⟩ := HR2.out.2.1.2 (k * 6) (by omega)
      obtain ⟨⟨u1, d1⟩, f1⟩ := HR2.out.2.1.2 (k * 6 + 1) (by omega)
      obtain ⟨⟨u2, d2⟩, f2⟩ := HR2.out.2.1.2 (k * 6 + 2) (by omega)
      obtain ⟨⟨u3, d3⟩, f3⟩ := HR2.out.2.1.2 (k * 6 + 3) (by omega)
      obtain ⟨⟨u4, d4⟩, f4⟩ := HR2.out.2.1.2 (k * 6 + 4) (by omega)
      obtain ⟨⟨u5, d5⟩, f5⟩ := HR2.out.2.1.2 (k * 6 + 5) (by omega)
      clear x2 HR p0 p1 p2 p3 p4 p5
      go_wp2
      go_roundw
      case rel =>
        obtain ⟨hE, hF, hC⟩ := HR2.out
        rw [← putL6]
        refine ⟨k + 1, by go_num, by omega, Below.putL (by have := HG.out.1; omega) _ _ hE, hF.put g _ _, fun j hj => ?_⟩
        by_cases hjk : j = k
        · subst hjk
          rw [← HCC.out]
          exact hF.seg (by simp; omega)
        · refine (hC j (by omega)).putFar (.inr ?_)
          simp [CN.l]; omega
      case measure => simp [intOf]; omega
    · have hkn : k = n := by omega
      have bk : ¬ ((k : Int) < (n : Int)) := by omega
      have HE : Hid (w.heap.size ≤ g ∧ Conds wr (some ⟨g, 0, none⟩) cs ∧ Ext w wr ∧ FreeN wr g (n * 6)) :=
        ⟨by have := HG.out.1; omega, fun _ => ⟨g, 0, rfl, HR.out.2.1.1, fun j hj => by rw [Nat.zero_add]; exact HR.out.2.2 j (by have := HN.out; omega)⟩, HR.out.1, HR.out.2.1⟩
      clear hkn HR
      go_wp2
      go_ret
      exact ⟨g, rfl, HE.out⟩

set_option maxRecDepth 100000 in
set_option maxHeartbeats 2000000 in
theorem toRule_free (zs : List Int) (cs : List CN) (act data : Int) (a1 a2 : Option Addr) (n1 n2 c1 c2 : Nat) (w : World) (e1 : n1 = zs.length) (e2 : n2 = cs.length) (l1 : zs.length ≤ 1048576) (l2 : cs.length ≤ 1048576) (h1 : Nums w a1 zs) (h2 : Conds w a2 cs) :
    Calls Tryd.prog 22 #[.agg #[.slice a1 n1 c1, .slice a2 n2 c2, .int .i64 act, .int .i64 data]] w fun e w' => ∃ g1 g2, e = .returned (.agg #[.slice (some ⟨g1, 0, none⟩) n1 n1, .slice (some ⟨g2, 0, none⟩) n2 n2, .int .i64 act, .int .i64 data]) ∧ w.heap.size ≤ g1 ∧ w.heap.size ≤ g2 ∧ Nums w' (some ⟨g1, 0, none⟩) zs ∧ Conds w' (some ⟨g2, 0, none⟩) cs ∧ Ext w w' ∧ FreeN w' g1 n1 ∧ FreeN w' g2 (n2 * 6) := by
  have H1 : Hid (∀ W, Ext w W → Calls Tryd.prog 57 #[.slice a1 n1 c1] W fun e w' => ∃ g, e = .returned (.slice (some ⟨g, 0, none⟩) n1 n1) ∧ W.heap.size ≤ g ∧ Nums w' (some ⟨g, 0, none⟩) zs ∧ Ext W w' ∧ FreeN w' g n1) := fun W hE => toIntS_free a1 c1 n1 zs W e1 l1 (h1.step hE)
  have H2 : Hid (∀ W, Ext w W → Calls Tryd.prog 58 #[.slice a2 n2 c2] W fun e w' => ∃ g, e = .returned (.slice (some ⟨g, 0, none⟩) n2 n2) ∧ W.heap.size ≤ g ∧ Conds w' (some ⟨g, 0, none⟩) cs ∧ Ext W w' ∧ FreeN w' g (n2 * 6)) := fun W hE => toCondS_free a2 c2 n2 cs W e2 l2 (h2.step hE)
  clear h1 h2 l1 l2 e1 e2
  go_enter Tryd.func22, Tryd.ntmps22
  go_wp2_with fail
  refine (H1.out _ (((Ext.one w _).alloc _).alloc _)).mono ?_
  rintro e w1 ⟨g1, rfl, hg1, hz1, x1, fr1⟩
  have HF1 : Hid (FreeN w1 g1 n1) := fr1
  clear fr1
  have hgw : w.heap.size + 3 ≤ g1 := by simp at hg1; omega
  have X1 : Hid (Ext w w1) := (((Ext.one w _).alloc _).alloc _).trans x1
  have b1 : Kn w1 w.heap.size [.slice a1 n1 c1, .slice a2 n2 c2, .int .i64 act, .int .i64 data] 61 := (((Kn.new w _ _).alloc _).alloc _).ext x1
  have r1 : Kn w1 (w.heap.size + 1) [.slice none 0 0, .slice none 0 0, .int .i64 0, .int .i64 0] 47 := ((Kn.new' _ _ _ _ (by simp)).alloc _).ext x1
  have o1 : Kn w1 (w.heap.size + 1 + 1) [.slice none 0 0, .slice none 0 0, .int .i64 0, .int .i64 0] 47 := (Kn.new' _ _ _ _ (by simp)).ext x1
  obtain ⟨p1, p2, p3⟩ := (⟨b1.cell 1 _ rfl, o1.cell 0 _ rfl, o1.free 0⟩ : _ ∧ _ ∧ _)
  have hs1 := o1.lt
  have HZ1 : Hid (Nums w1 (some ⟨g1, 0, none⟩) zs) := hz1
  have hg1s : Hid (0 < zs.length → g1 < w1.heap.size) := fun hp => by
    obtain ⟨b, off, e, hb, _⟩ := hz1 hp
    have : g1 = b := by injection e with e; injection e
    omega
  clear x1 hz1 hg1
  go_wp2_with fail
  refine (H2.out _ (X1.out.set (k := w.heap.size + 1 + 1) (by omega) _ _)).mono ?_
  rintro e w2 ⟨g2, rfl, hg2, hz2, x2, fr2⟩
  have HF : Hid (FreeN w2 g1 n1 ∧ FreeN w2 g2 (n2 * 6)) := ⟨(HF1.out.put (w.heap.size + 1 + 1) 0 [.slice (some ⟨g1, 0, none⟩) n1 n1]).step x2, fr2⟩
  clear fr2 HF1
  have hgw2 : w.heap.size + 3 ≤ g2 := by simp [World.size_setCell] at hg2; omega
  have X2 : Hid (Ext w w2) := (X1.out.set (k := w.heap.size + 1 + 1) (by omega) _ _).trans x2
  have b2 : Kn w2 w.heap.size [.slice a1 n1 c1, .slice a2 n2 c2, .int .i64 act, .int .i64 data] 61 := (b1.other (by omega) _ _).ext x2
  have r2 : Kn w2 (w.heap.size + 1) [.slice none 0 0, .slice none 0 0, .int .i64 0, .int .i64 0] 47 := (r1.other (by omega) _ _).ext x2
  have o2 : Kn w2 (w.heap.size + 1 + 1) [.slice (some ⟨g1, 0, none⟩) n1 n1, .slice none 0 0, .int .i64 0, .int .i64 0] 47 := (o1.set 0 _).ext x2
  have HZ : Hid (Nums w2 (some ⟨g1, 0, none⟩) zs ∧ Conds w2 (some ⟨g2, 0, none⟩) cs) := ⟨(HZ1.out.far _ (by omega) _).step x2, hz2⟩
  have hs2 := o2.lt
  clear x2 hz2 hg2 p1 p2 p3 b1 r1 o1 HZ1 X1 hg1s hs1
  obtain ⟨p1, p2, p3, p4, p5, p6, p7, p8, p9, p10⟩ := (⟨b2.cell 2 _ rfl, b2.cell 3 _ rfl, o2.cell 0 _ rfl, o2.cell 1 _ rfl, o2.cell 2 _ rfl, o2.cell 3 _ rfl, r2.cell 0 _ rfl, r2.cell 1 _ rfl, r2.cell 2 _ rfl, r2.cell 3 _ rfl⟩ : _ ∧ _ ∧ _ ∧ _ ∧ _ ∧ _ ∧ _ ∧ _ ∧ _ ∧ _)
  have f1 := o2.free
  have f2 := r2.free
  clear b2 r2 o2
  go_wp2
  refine bodyPost_ret (v := .agg #[.slice (some ⟨g1, 0, none⟩) n1 n1, .slice (some ⟨g2, 0, none⟩) n2 n2, .int .i64 act, .int .i64 data]) (by simp [results, Tryd.results22, go_sem, *]) rfl ?_
  refine ⟨g1, g2, rfl, by omega, by omega, ?_, ?_, ?_, ?_, ?_⟩
  · exact ((((((HZ.out.1.far _ (by omega) _).far _ (by omega) _).far _ (by omega) _).far _ (by omega) _).far _ (by omega) _).far _ (by omega) _).far _ (by omega) _
  · exact ((((((HZ.out.2.far _ (by omega) _).far _ (by omega) _).far _ (by omega) _).far _ (by omega) _).far _ (by omega) _).far _ (by omega) _).far _ (by omega) _
  · have hw := X2.out
    go_grown
  · exact ((((((HF.out.1.put _ _ [_]).put _ _ [_]).put _ _ [_]).put _ _ [_]).put _ _ [_]).put _ _ [_]).put _ _ [_]
  · exact ((((((HF.out.2.put _ _ [_]).put _ _ [_]).put _ _ [_]).put _ _ [_]).put _ _ [_]).put _ _ [_]).put _ _ [_]

/-- k, k + 1, .. -/
def mkZ (k : Int) (n : Nat) : List Int := (List.range n).map fun (j : Nat) => k + ((j : Nat) : Int)
theorem mkZ_length (k : Int) (n : Nat) : (mkZ k n).length = n := by simp [mkZ]
theorem mkZ_at (k : Int) (n j : Nat) (h : j < n) : (mkZ k n).getD j 0 = k + (j : Int) := by simp [mkZ, h]

def mkC1 (k : Int) : CN := ⟨k, k + 1, k + 1 + 1, k + 1 + 1 + 1, k + 1 + 1 + 1 + 1, k + 1 + 1 + 1 + 1 + 1⟩
def mkC (k : Int) (n : Nat) : List CN := (List.range n).map fun (j : Nat) => mkC1 (k + 6 * ((j : Nat) : Int))
theorem mkC_length (k : Int) (n : Nat) : (mkC k n).length = n := by simp [mkC]
theorem mkC_at (k : Int) (n j : Nat) (h : j < n) : (mkC k n).getD j c0 = mkC1 (k + 6 * (j : Int)) := by simp [mkC, List.getD_eq_getElem?_getD, h]

/-- Block g alone is turned. -/
structure Only (w w' : World) (g : Nat) : Prop where
  os : w'.os = w.os
  tape : w'.tape = w.tape
  output : w'.output = w.output
  size : w'.heap.size = w.heap.size
  block : ∀ b, b ≠ g → w'.heap[b]? = w.heap[b]?
  free : ∀ N, FreeN w g N → FreeN w' g N

theorem Only.refl (w : World) (g : Nat) : Only w w g := ⟨rfl, rfl, rfl, rfl, fun _ _ => rfl, fun _ h => h⟩
theorem Only.set {w W : World} {g : Nat} (h : Only w W g) (o : Nat) (v : Value) : Only w (W.setCell ⟨g, o, none⟩ v) g :=
  ⟨h.os, h.tape, h.output, by rw [World.size_setCell]; exact h.size, fun b hb => (Below.heap_setCell W ⟨g, o, none⟩ v b hb).trans (h.block b hb), fun N hN => (h.free N hN).put g o [v]⟩
theorem Only.trans {a b c : World} {g : Nat} (h : Only a b g) (k : Only b c g) : Only a c g :=
  ⟨k.os.trans h.os, k.tape.trans h.tape, k.output.trans h.output, k.size.trans h.size, fun x hx => (k.block x hx).trans (h.block x hx), fun N hN => k.free N (h.free N hN)⟩

set_option maxRecDepth 100000 in
set_option maxHeartbeats 1000000 in
theorem markZ_any (a : Option Addr) (n cap : Nat) (k : Int) (w : World) (hn : n ≤ 1048576) (hk : 0 ≤ k) (hk2 : k ≤ 1000000000) (h : 0 < n → ∃ g, a = some ⟨g, 0, none⟩ ∧ FreeN w g n) :
    Calls Tryd.prog 62 #[.slice a n cap, .int .i64 k] w fun e w' => e = .returned (.int .i64 (k + (n : Int))) ∧ Nums w' a (mkZ k n) ∧ (n = 0 → w' = w) ∧ ∀ g, a = some ⟨g, 0, none⟩ → Only w w' g := by
  have HB : Hid (0 ≤ k ∧ k ≤ 1000000000) := ⟨hk, hk2⟩
  by_cases h0 : n = 0
  · subst h0
    clear h
    go_enter Tryd.func62, Tryd.ntmps62
    go_wp2
    go_loopw [1, 5] (fun kv i wr => kv = .int .i64 k ∧ i = .int .i64 0 ∧ wr = w) (fun _ i _ => 0)
    case atStart => exact ⟨rfl, rfl, rfl⟩
    case round =>
      obtain ⟨rfl, rfl, rfl⟩ := hrel
      go_wp2
      go_ret
      exact ⟨ret_int (by simp), fun hp => by simp [mkZ] at hp, fun _ => rfl, fun g _ => Only.refl _ _⟩
  · obtain ⟨g, rfl, hf⟩ := h (by omega)
    have HF : Hid (FreeN w g n ∧ 0 < n) := ⟨hf, by omega⟩
    clear h hf h0
    go_enter Tryd.func62, Tryd.ntmps62
    go_wp2
    go_loopw [1, 5] (fun kv i wr => ∃ (j : Nat) (K : Int), kv = .int .i64 K ∧ i = .int .i64 j ∧ j ≤ n ∧ 0 ≤ K ∧ K ≤ 1002000000 ∧ Hid (K = k + (j : Int) ∧ Only w wr g ∧ ∀ x, x < j → wr.cell? ⟨g, x, none⟩ = some (.int .i64 (k + (x : Int))))) (fun _ i _ => n - (intOf i).toNat)
    case atStart => exact ⟨0, k, rfl, rfl, by omega, hk, by omega, by simp, Only.refl _ _, fun x hx => by omega⟩
    case round =>
      obtain ⟨j, K, rfl, rfl, hj, hK0, hK, HR⟩ := hrel
      by_cases hlt : j < n
      · have bk : (j : Int) < (n : Int) := by omega
        obtain ⟨⟨u, cu⟩, fu⟩ := (HR.out.2.1.free n HF.out.1).2 j hlt
        clear hk hk2
        go_wp2
        go_roundw
        case rel =>
          obtain ⟨hKe, ho, hcell⟩ := HR.out
          have hkb := HB.out
          refine ⟨j + 1, K + 1, rfl, by go_num, by omega, by omega, by omega, by omega, ho.set j _, fun x hx => ?_⟩
          by_cases hxj : x = j
          · subst hxj
            rw [World.cell?_setCell_same _ _ _ cu, hKe]
          · rw [World.cell?_setCell_other _ _ _ _ (off_neq (fun e => hxj e.symm))]
            exact hcell x (by omega)
        case measure => simp [intOf]; omega
      · have bk : ¬ ((j : Int) < (n : Int)) := by omega
        have hjn : j = n := by omega
        subst hjn
        go_wp2
        go_ret
        obtain ⟨hKe, ho, hcell⟩ := HR.out
        refine ⟨ret_int hKe, fun hp => ⟨g, 0, rfl, by rw [ho.size]; exact HF.out.1.1, fun x hx => ?_⟩, fun h => absurd HF.out.2 (by omega), ho⟩
        rw [mkZ_length] at hx
        rw [mkZ_at _ _ _ hx, Nat.zero_add]
        exact hcell x hx

set_option maxRecDepth 100000 in
set_option maxHeartbeats 2000000 in
theorem markC_any (a : Option Addr) (n cap : Nat) (k : Int) (w : World) (hn : n ≤ 1048576) (hk : 0 ≤ k) (hk2 : k ≤ 1000000000) (h : 0 < n → ∃ g, a = some ⟨g, 0, none⟩ ∧ FreeN w g (n * 6)) :
    Calls Tryd.prog 63 #[.slice a n cap, .int .i64 k] w fun e w' => e = .returned (.int .i64 (k + 6 * (n : Int))) ∧ Conds w' a (mkC k n) ∧ (n = 0 → w' = w) ∧ ∀ g, a = some ⟨g, 0, none⟩ → Only w w' g := by
  have HB : Hid (0 ≤ k ∧ k ≤ 1000000000) := ⟨hk, hk2⟩
  by_cases h0 : n = 0
  · subst h0
    clear h
    go_enter Tryd.func63, Tryd.ntmps63
    go_wp2
    go_loopw [1, 5] (fun kv i wr => kv = .int .i64 k ∧ i = .int .i64 0 ∧ wr = w) (fun _ i _ => 0)
    case atStart => exact ⟨rfl, rfl, rfl⟩
    case round =>
      obtain ⟨rfl, rfl, rfl⟩ := hrel
      go_wp2
      go_ret
      exact ⟨ret_int (by simp), fun hp => by simp [mkC] at hp, fun _ => rfl, fun g _ => Only.refl _ _⟩
  · obtain ⟨g, rfl, hf⟩ := h (by omega)
    have HF : Hid (FreeN w g (n * 6) ∧ 0 < n) := ⟨hf, by omega⟩
    clear h hf h0
    go_enter Tryd.func63, Tryd.ntmps63
    go_wp2
    go_loopw [1, 5] (fun kv i wr => ∃ (j : Nat) (K : Int), kv = .int .i64 K ∧ i = .int .i64 j ∧ j ≤ n ∧ 0 ≤ K ∧ K ≤ 1010000000 ∧ Hid (K = k + 6 * (j : Int) ∧ Only w wr g ∧ ∀ x, x < j → Seg wr g (x * 6) (mkC1 (k + 6 * (x : Int))).l)) (fun _ i _ => n - (intOf i).toNat)
    case atStart => exact ⟨0, k, rfl, rfl, by omega, hk, by omega, by simp, Only.refl _ _, fun x hx => by omega⟩
    case round =>
      obtain ⟨j, K, rfl, rfl, hj, hK0, hK, HR⟩ := hrel
      by_cases hlt : j < n
      · have bk : (j : Int) < (n : Int) := by omega
        have HN : Hid (FreeN wr g (n * 6)) := HR.out.2.1.free _ HF.out.1
        obtain ⟨⟨u0, q0⟩, f0⟩ := HN.out.2 (j * 6) (by omega)
        obtain ⟨⟨u1, q1⟩, f1⟩ := HN.out.2 (j * 6 + 1) (by omega)
        obtain ⟨⟨u2, q2⟩, f2⟩ := HN.out.2 (j * 6 + 2) (by omega)
        obtain ⟨⟨u3, q3⟩, f3⟩ := HN.out.2 (j * 6 + 3) (by omega)
        obtain ⟨⟨u4, q4⟩, f4⟩ := HN.out.2 (j * 6 + 4) (by omega)
        obtain ⟨⟨u5, q5⟩, f5⟩ := HN.out.2 (j * 6 + 5) (by omega)
        clear hk hk2
        go_wp2
        go_roundw
        case rel =>
          obtain ⟨hKe, ho, hcell⟩ := HR.out
          have hkb := HB.out
          refine ⟨j + 1, K + 1 + 1 + 1 + 1 + 1 + 1, rfl, by go_num, by omega, by omega, by omega, by omega, (((((ho.set (j * 6) _).set (j * 6 + 1) _).set (j * 6 + 2) _).set (j * 6 + 3) _).set (j * 6 + 4) _).set (j * 6 + 5) _, fun x hx => ?_⟩
          show Seg (putL wr g (j * 6) (mkC1 K).l) g (x * 6) _
          by_cases hxj : x = j
          · subst hxj
            rw [← hKe]
            exact HN.out.seg (by simp [CN.l]; omega)
          · exact (hcell x (by omega)).putFar (.inr (.inl (by simp [CN.l]; omega)))
        case measure => simp [intOf]; omega
      · have bk : ¬ ((j : Int) < (n : Int)) := by omega
        have hjn : j = n := by omega
        subst hjn
        go_wp2
        go_ret
        obtain ⟨hKe, ho, hcell⟩ := HR.out
        refine ⟨ret_int hKe, fun hp => ⟨g, 0, rfl, by rw [ho.size]; exact HF.out.1.1, fun x hx => ?_⟩, fun h => absurd HF.out.2 (by omega), ho⟩
        rw [mkC_length] at hx
        rw [mkC_at _ _ _ hx, Nat.zero_add]
        exact hcell x hx

/-- Only these two blocks are turned; memory grows. -/
structure TwoMk (w w' : World) (g1 g2 : Nat) : Prop where
  os : w'.os = w.os
  tape : w'.tape = w.tape
  output : w'.output = w.output
  size : w.heap.size ≤ w'.heap.size
  block : ∀ b, b < w.heap.size → b ≠ g1 → b ≠ g2 → w'.heap[b]? = w.heap[b]?

theorem Only.free2 {w w' : World} {g k N : Nat} (h : Only w w' g) (hf : FreeN w k N) : FreeN w' k N := by
  by_cases e : k = g
  · subst e; exact h.free N hf
  · have hb := h.block k e
    exact ⟨by rw [h.size]; exact hf.1, fun j hj => ⟨by rw [World.cell?_of_block (w := w) (a := ⟨k, j, none⟩) hb]; exact (hf.2 j hj).1, (World.frozen?_of_block (w := w) (a := ⟨k, j, none⟩) hb).trans (hf.2 j hj).2⟩⟩

set_option maxRecDepth 100000 in
set_option maxHeartbeats 2000000 in
theorem markRule_any (act data : Int) (g1 g2 n1 n2 c1 c2 : Nat) (w : World) (hn1 : n1 ≤ 1048576) (hn2 : n2 ≤ 1048576) (h1 : FreeN w g1 n1) (h2 : FreeN w g2 (n2 * 6)) :
    Calls Tryd.prog 25 #[.agg #[.slice (some ⟨g1, 0, none⟩) n1 c1, .slice (some ⟨g2, 0, none⟩) n2 c2, .int .i64 act, .int .i64 data], .int .i64 1] w fun e w' => (∃ K : Nat, e = .returned (.int .i64 (K : Int)) ∧ K ≤ 10000000) ∧ TwoMk w w' g1 g2 := by
  obtain ⟨l, hl⟩ : ∃ l, l = [Value.slice (some ⟨g1, 0, none⟩) n1 c1, .slice (some ⟨g2, 0, none⟩) n2 c2, .int .i64 act, .int .i64 data] := ⟨_, rfl⟩
  have HB : Hid (FreeN (w.alloc (.cells l.toArray 47)) g1 n1 ∧ FreeN (w.alloc (.cells l.toArray 47)) g2 (n2 * 6) ∧ g1 ≠ w.heap.size) := ⟨h1.step (Ext.one _ _), h2.step (Ext.one _ _), by have := h1.1; omega⟩
  have HM1 : Hid (∀ W, FreeN W g1 n1 → Calls Tryd.prog 62 #[.slice (some ⟨g1, 0, none⟩) n1 c1, .int .i64 1] W fun e w' => e = .returned (.int .i64 (1 + (n1 : Int))) ∧ Only W w' g1) := fun W hf => by
    refine (markZ_any (some ⟨g1, 0, none⟩) n1 c1 1 W hn1 (by omega) (by omega) (fun _ => ⟨g1, rfl, hf⟩)).mono ?_
    rintro e w' ⟨rfl, _, _, ho⟩
    exact ⟨rfl, ho g1 rfl⟩
  have HM2 : Hid (∀ W, FreeN W g2 (n2 * 6) → Calls Tryd.prog 63 #[.slice (some ⟨g2, 0, none⟩) n2 c2, .int .i64 (1 + (n1 : Int))] W fun e w' => e = .returned (.int .i64 (1 + (n1 : Int) + 6 * (n2 : Int))) ∧ Only W w' g2) := fun W hf => by
    refine (markC_any (some ⟨g2, 0, none⟩) n2 c2 (1 + (n1 : Int)) W hn2 (by omega) (by omega) (fun _ => ⟨g2, rfl, hf⟩)).mono ?_
    rintro e w' ⟨rfl, _, _, ho⟩
    exact ⟨rfl, ho g2 rfl⟩
  obtain ⟨K, hK⟩ : ∃ K : Nat, K = 1 + n1 + 6 * n2 := ⟨_, rfl⟩
  have HK : Hid (1 + (n1 : Int) + 6 * (n2 : Int) = (K : Int) ∧ K ≤ 10000000) := ⟨by omega, by omega⟩
  have p0 : CellsAt (w.alloc (.cells l.toArray 47)) w.heap.size l := CellsAt.new w l 47
  have hg2 : Hid (g2 < w.heap.size ∧ g1 < w.heap.size) := ⟨h2.1, h1.1⟩
  subst hl
  clear hK h1 h2 hn1 hn2
  go_enter Tryd.func25, Tryd.ntmps25
  go_wp2_with fail
  refine (HM1.out _ HB.out.1).mono ?_
  rintro e w1 ⟨rfl, o1⟩
  have e1 := o1.block w.heap.size (by have := HB.out.2.2; omega)
  have q1 : w1.cell? ⟨w.heap.size, 1, none⟩ = some (.slice (some ⟨g2, 0, none⟩) n2 c2) := (World.cell?_of_block (w := w.alloc (.cells #[.slice (some ⟨g1, 0, none⟩) n1 c1, .slice (some ⟨g2, 0, none⟩) n2 c2, .int .i64 act, .int .i64 data] 47)) (a := ⟨w.heap.size, 1, none⟩) e1).trans (p0.2 1 _ rfl)
  have F2 : Hid (FreeN w1 g2 (n2 * 6)) := o1.free2 HB.out.2.1
  have O1 : Hid (Only (w.alloc (.cells #[.slice (some ⟨g1, 0, none⟩) n1 c1, .slice (some ⟨g2, 0, none⟩) n2 c2, .int .i64 act, .int .i64 data] 47)) w1 g1) := o1
  clear e1 o1 p0 HB HM1
  go_wp2_with fail
  refine (HM2.out _ F2.out).mono ?_
  rintro e w2 ⟨rfl, o2⟩
  have O2 : Hid (TwoMk w w2 g1 g2) := by
    have h := O1.out
    refine ⟨o2.os.trans (h.os.trans (Ext.one w _).os), o2.tape.trans (h.tape.trans (Ext.one w _).tape), o2.output.trans (h.output.trans (Ext.one w _).output), ?_, fun b hb k1 k2 => (o2.block b k2).trans ((h.block b k1).trans ((Ext.one w _).block b hb))⟩
    rw [o2.size, h.size]
    exact (Ext.one w _).size
  clear o2 O1 F2 HM2 q1
  go_wp2
  go_ret
  exact ⟨⟨K, by rw [← HK.out.1]; rfl, HK.out.2⟩, O2.out⟩

/-- The value v is the policy p. -/
def RepPol (p : PN) (v : Value) (w : World) : Prop := ∃ a cap, v = .agg #[.int .i64 p.arch, .int .i64 p.act, .int .i64 p.data, .slice a p.rules.length cap] ∧ Rules w a p.rules

theorem RepPol.step {p : PN} {v : Value} {w w' : World} (h : RepPol p v w) (hE : Ext w w') : RepPol p v w' := by
  obtain ⟨a, cap, e, hr⟩ := h
  exact ⟨a, cap, e, hr.step hE⟩



end Go.Proofs.YthflflhcbnianaaDoor
