/- Rules whose memory lies from a block on; rows of numbers and of conditions as append leaves them. -/
import Derived.Test.YthflflhcbnianaaDoorCtPack13
import Derived.Test.YthflflhcbnianaaDoorCtPack3
import Derived.Deep.RegionHeld3
import Derived.Handy
import Derived.Test.YthflflhcbnianaaDoorCtPack4
/- What the laws' helpers over slices of wide numbers and over calls answer: szWideS, toWideS, eqWideS, szCall, toCall, eqCall. -/
namespace Go.Proofs.YthflflhcbnianaaDoor
open Go.RowKit
set_option linter.unusedVariables false

/-- Two numbers lie side by side in an old block. -/
def Pair (w : World) (b o : Nat) (x y : Int) : Prop := b < w.heap.size ∧ w.cell? ⟨b, o, none⟩ = some (.int .i64 x) ∧ w.cell? ⟨b, o + 1, none⟩ = some (.int .i64 y)

theorem Pair.step {w w' : World} {b o : Nat} {x y : Int} (h : Pair w b o x y) (hE : Ext w w') : Pair w' b o x y :=
  ⟨Nat.lt_of_lt_of_le h.1 hE.size, (hE.cell (p := ⟨b, o, none⟩) h.1).trans h.2.1, (hE.cell (p := ⟨b, o + 1, none⟩) h.1).trans h.2.2⟩

theorem Wides.set {w : World} {g o : Nat} {ws : List (Int × Int)} (h : Wides w (some ⟨g, o, none⟩) ws) {k : Nat} (i : Nat) (hk : k ≠ g) (v : Value) : Wides (w.setCell ⟨k, i, none⟩ v) (some ⟨g, o, none⟩) ws := fun hp => by
  obtain ⟨b, off, ha, hb, hc⟩ := h hp
  have hbg : g = b := by injection ha with ha; injection ha
  subst hbg
  refine ⟨g, off, ha, by rw [World.size_setCell]; exact hb, fun j hj => ?_⟩
  obtain ⟨e1, e2⟩ := hc j hj
  exact ⟨by rw [World.cell?_setCell_other _ _ _ _ (by simp; try omega)]; exact e1, by rw [World.cell?_setCell_other _ _ _ _ (by simp; try omega)]; exact e2⟩

/-- The value v is the call of these numbers. -/
def RepCall (arch num : Int) (ws : List (Int × Int)) (v : Value) (w : World) : Prop := ∃ a cap, v = .agg #[.int .i64 arch, .int .i64 num, .slice a ws.length cap] ∧ Wides w a ws

theorem RepCall.step {arch num : Int} {ws : List (Int × Int)} {v : Value} {w w' : World} (h : RepCall arch num ws v w) (hE : Ext w w') : RepCall arch num ws v w' := by
  obtain ⟨a, cap, rfl, hw⟩ := h
  exact ⟨a, cap, rfl, hw.below hE (Nat.le_refl _)⟩

theorem CellsAt.set {W : World} {k : Nat} {l : List Value} (h : CellsAt W k l) {g : Nat} (hg : g ≠ k) (j : Nat) (v : Value) : CellsAt (W.setCell ⟨g, j, none⟩ v) k l :=
  ⟨by rw [World.size_setCell]; exact h.1, fun i x hx => by rw [World.cell?_setCell_other _ _ _ _ (fun e => hg (by injection e))]; exact h.2 i x hx⟩

theorem condB_if (a mh ml cm vh vl : Int) : condB ⟨a, mh, ml, cm, vh, vl⟩ = (inB4 a 0 2 && inB4 cm 1 6 && wideB (mh, ml) && wideB (vh, vl)) := rfl

set_option maxRecDepth 100000 in
set_option maxHeartbeats 1600000 in
theorem iCondOk_any (a mh ml cm vh vl : Int) (w : World) : Calls Tryd.prog 69 #[.agg #[.int .i64 a, .int .i64 mh, .int .i64 ml, .int .i64 cm, .int .i64 vh, .int .i64 vl]] w fun e w' => e = .returned (.bool (condB ⟨a, mh, ml, cm, vh, vl⟩)) ∧ Ext w w' := by
  have HB : Hid (condB ⟨a, mh, ml, cm, vh, vl⟩ = (inB4 a 0 2 && inB4 cm 1 6 && wideB (mh, ml) && wideB (vh, vl))) := rfl
  have HE : Hid (∀ o, Ext w (w.alloc o)) := fun o => Ext.one w o
  by_cases h0 : 0 ≤ a
  · by_cases h1 : a ≤ 2
    · by_cases h2 : 1 ≤ cm
      · by_cases h3 : cm ≤ 6
        · have HI : Hid (inB4 a 0 2 = true ∧ inB4 cm 1 6 = true) := ⟨inB_true4.2 ⟨h0, h1⟩, inB_true4.2 ⟨h2, h3⟩⟩
          go_enter Tryd.func69, Tryd.ntmps69
          go_wp2_with fail
          refine (iWide_any mh ml _).mono ?_
          rintro e w1 ⟨rfl, x1⟩
          have c1 := (CellsAt.new w [.int .i64 a, .int .i64 mh, .int .i64 ml, .int .i64 cm, .int .i64 vh, .int .i64 vl] 27).step x1
          have q4 := c1.2 4 _ rfl
          have q5 := c1.2 5 _ rfl
          have X1 : Hid (Ext w w1) := (HE.out _).trans x1
          clear x1 c1
          cases hw : wideB (mh, ml)
          · go_wp2
            go_ret
            exact ⟨by rw [HB.out, hw]; simp, X1.out⟩
          · go_wp2_with fail
            refine (iWide_any vh vl _).mono ?_
            rintro e w2 ⟨rfl, x2⟩
            have X2 : Hid (Ext w w2) := X1.out.trans x2
            clear x2 q4 q5
            go_wp2
            go_ret
            exact ⟨by rw [HB.out, hw, HI.out.1, HI.out.2]; simp, X2.out⟩
        · have HI : Hid (inB4 cm 1 6 = false) := inB_false4.2 (by omega)
          go_enter Tryd.func69, Tryd.ntmps69
          go_wp2
          go_ret
          exact ⟨by rw [HB.out, HI.out]; simp, HE.out _⟩
      · have HI : Hid (inB4 cm 1 6 = false) := inB_false4.2 (by omega)
        have h2' : cm < 1 := by omega
        go_enter Tryd.func69, Tryd.ntmps69
        go_wp2
        go_ret
        exact ⟨by rw [HB.out, HI.out]; simp, HE.out _⟩
    · have HI : Hid (inB4 a 0 2 = false) := inB_false4.2 (by omega)
      have h2' : 3 ≤ a := by omega
      go_enter Tryd.func69, Tryd.ntmps69
      go_wp2
      go_ret
      exact ⟨by rw [HB.out, HI.out]; simp, HE.out _⟩
  · have HI : Hid (inB4 a 0 2 = false) := inB_false4.2 (by omega)
    have h2' : a < 0 := by omega
    go_enter Tryd.func69, Tryd.ntmps69
    go_wp2
    go_ret
    exact ⟨by rw [HB.out, HI.out]; simp, HE.out _⟩

set_option maxRecDepth 100000 in
set_option maxHeartbeats 1600000 in
theorem sCondOk_any (a mh ml cm vh vl : Int) (w : World) : Calls Tryd.prog 48 #[.agg #[.int .i64 a, .int .i64 mh, .int .i64 ml, .int .i64 cm, .int .i64 vh, .int .i64 vl]] w fun e w' => e = .returned (.bool (condB ⟨a, mh, ml, cm, vh, vl⟩)) ∧ Ext w w' := by
  have HB : Hid (condB ⟨a, mh, ml, cm, vh, vl⟩ = (inB4 a 0 2 && inB4 cm 1 6 && wideB (mh, ml) && wideB (vh, vl))) := rfl
  have HE : Hid (∀ o, Ext w (w.alloc o)) := fun o => Ext.one w o
  cases h0 : inB4 a 0 2
  · go_enter Tryd.func48, Tryd.ntmps48
    go_wp2_with (go_at_call 47; refine (in4_any _ _ _ _).mono ?_; rintro e w' ⟨rfl, rfl⟩)
    go_ret
    exact ⟨by rw [HB.out, h0]; simp, HE.out _⟩
  · go_enter Tryd.func48, Tryd.ntmps48
    go_wp2_with (go_at_call 47; refine (in4_any _ _ _ _).mono ?_; rintro e w' ⟨rfl, rfl⟩)
    refine (sWide_any mh ml _).mono ?_
    rintro e w1 ⟨rfl, x1⟩
    have c1 := (CellsAt.new w [.int .i64 a, .int .i64 mh, .int .i64 ml, .int .i64 cm, .int .i64 vh, .int .i64 vl] 27).step x1
    have q4 := c1.2 4 _ rfl
    have q5 := c1.2 5 _ rfl
    have X1 : Hid (Ext w w1) := (HE.out _).trans x1
    clear x1
    cases hw : wideB (mh, ml)
    · go_wp2
      go_ret
      exact ⟨by rw [HB.out, hw]; simp, X1.out⟩
    · go_wp2_with fail
      refine (sWide_any vh vl _).mono ?_
      rintro e w2 ⟨rfl, x2⟩
      have X2 : Hid (Ext w w2) := X1.out.trans x2
      have q3 := (c1.step x2).2 3 _ rfl
      clear x2 q4 q5 c1
      cases hv : wideB (vh, vl)
      · go_wp2
        go_ret
        exact ⟨by rw [HB.out, hv]; simp, X2.out⟩
      · go_wp2_with (go_at_call 47; refine (in4_any _ _ _ _).mono ?_; rintro e w' ⟨rfl, rfl⟩)
        go_ret
        exact ⟨by rw [HB.out, h0, hw, hv]; simp, X2.out⟩

/-- The cells l lie in block b from o on. -/
def Seg (W : World) (b o : Nat) (l : List Value) : Prop := ∀ i v, l[i]? = some v → W.cell? ⟨b, o + i, none⟩ = some v

theorem Seg.below {W W' : World} {B b o : Nat} {l : List Value} (h : Seg W b o l) (hb : Below B W W') (hB : b < B) : Seg W' b o l := fun i v hv => (hb.cell (p := ⟨b, o + i, none⟩) hB).trans (h i v hv)

theorem Seg.one {W : World} {b o : Nat} {v0 : Value} (h : Seg W b o [v0]) : W.cell? ⟨b, o, none⟩ = some v0 := h 0 _ rfl

theorem Seg.six {W : World} {b o : Nat} {v0 v1 v2 v3 v4 v5 : Value} (h : Seg W b o [v0, v1, v2, v3, v4, v5]) : W.cell? ⟨b, o, none⟩ = some v0 ∧ W.cell? ⟨b, o + 1, none⟩ = some v1 ∧ W.cell? ⟨b, o + 2, none⟩ = some v2 ∧ W.cell? ⟨b, o + 3, none⟩ = some v3 ∧ W.cell? ⟨b, o + 4, none⟩ = some v4 ∧ W.cell? ⟨b, o + 5, none⟩ = some v5 :=
  ⟨h 0 _ rfl, h 1 _ rfl, h 2 _ rfl, h 3 _ rfl, h 4 _ rfl, h 5 _ rfl⟩

/-- The values are stored into a block's cells from o on. -/
def putL (W : World) (g : Nat) : Nat → List Value → World
  | _, [] => W
  | o, v :: vs => putL (W.setCell ⟨g, o, none⟩ v) g (o + 1) vs

theorem putL_size (g : Nat) : ∀ (vs : List Value) (W : World) (o : Nat), (putL W g o vs).heap.size = W.heap.size
  | [], _, _ => rfl
  | v :: vs, W, o => by rw [putL, putL_size g vs, World.size_setCell]

theorem putL_frozen (g : Nat) (q : Addr) : ∀ (vs : List Value) (W : World) (o : Nat), (putL W g o vs).frozen? q = W.frozen? q
  | [], _, _ => rfl
  | v :: vs, W, o => by rw [putL, putL_frozen g q vs, World.frozen?_setCell]

theorem putL_far (g : Nat) (q : Addr) : ∀ (vs : List Value) (W : World) (o : Nat), (∀ i, i < vs.length → q ≠ ⟨g, o + i, none⟩) → (putL W g o vs).cell? q = W.cell? q
  | [], _, _, _ => rfl
  | v :: vs, W, o, h => by
    rw [putL, putL_far g q vs _ _ (fun i hi => by have := h (i + 1) (by simp; omega); rw [show o + 1 + i = o + (i + 1) by omega]; exact this)]
    exact World.cell?_setCell_other _ _ _ _ (Ne.symm (h 0 (by simp)))

theorem putL_some (g : Nat) (q : Addr) : ∀ (vs : List Value) (W : World) (o : Nat), (∃ u, W.cell? q = some u) → ∃ u, (putL W g o vs).cell? q = some u
  | [], _, _, h => h
  | v :: vs, W, o, h => by
    rw [putL]
    refine putL_some g q vs _ _ ?_
    by_cases hq : q = ⟨g, o, none⟩
    · subst hq
      obtain ⟨u, hu⟩ := h
      exact ⟨v, World.cell?_setCell_same _ _ _ hu⟩
    · rw [World.cell?_setCell_other _ _ _ _ (Ne.symm hq)]
      exact h

theorem Seg.putFar {W : World} {b o g p : Nat} {l vs : List Value} (h : Seg W b o l) (hf : b ≠ g ∨ o + l.length ≤ p ∨ p + vs.length ≤ o) : Seg (putL W g p vs) b o l := fun i v hv => by
  have hi : i < l.length := (List.getElem?_eq_some_iff.1 hv).1
  rw [putL_far g _ vs _ _ (fun j hj e => by injection e with e1 e2; rcases hf with hf | hf | hf <;> omega)]
  exact h i v hv

/-- Block g has N cells that may be written. -/
def FreeN (W : World) (g N : Nat) : Prop := g < W.heap.size ∧ ∀ j, j < N → (∃ u, W.cell? ⟨g, j, none⟩ = some u) ∧ W.frozen? ⟨g, j, none⟩ = false

theorem FreeN.step {W W' : World} {g N : Nat} (h : FreeN W g N) (hE : Ext W W') : FreeN W' g N :=
  ⟨Nat.lt_of_lt_of_le h.1 hE.size, fun j hj => ⟨by rw [hE.cell (p := ⟨g, j, none⟩) h.1]; exact (h.2 j hj).1, (hE.frozen (p := ⟨g, j, none⟩) h.1).trans (h.2 j hj).2⟩⟩

theorem FreeN.put {W : World} {g N : Nat} (h : FreeN W g N) (k o : Nat) (vs : List Value) : FreeN (putL W k o vs) g N :=
  ⟨by rw [putL_size]; exact h.1, fun j hj => ⟨putL_some k _ vs W o (h.2 j hj).1, by rw [putL_frozen]; exact (h.2 j hj).2⟩⟩

/-- A slice of conditions in memory, six cells each. -/
def Conds (w : World) (a : Option Addr) (cs : List CN) : Prop :=
  0 < cs.length → ∃ b off, a = some ⟨b, off, none⟩ ∧ b < w.heap.size ∧ ∀ j, j < cs.length → Seg w b (off + j * 6) (cs.getD j c0).l

theorem Conds.step {w w' : World} {a : Option Addr} {cs : List CN} (h : Conds w a cs) (hE : Ext w w') : Conds w' a cs := fun hp => by
  obtain ⟨b, off, ha, hb, hc⟩ := h hp
  exact ⟨b, off, ha, Nat.lt_of_lt_of_le hb hE.size, fun j hj => (hc j hj).below hE hb⟩

theorem Conds.at {w : World} {a : Option Addr} {cs : List CN} (h : Conds w a cs) {k : Nat} (hk : k < cs.length) {c : CN} (hc : c = cs.getD k c0) : ∃ b off, a = some ⟨b, off, none⟩ ∧ b < w.heap.size ∧ Seg w b (off + k * 6) c.l := by
  obtain ⟨b, off, ha, hb, hx⟩ := h (by omega)
  exact ⟨b, off, ha, hb, by rw [hc]; exact hx k hk⟩

theorem Conds.put {w : World} {b o g p : Nat} {cs : List CN} (h : Conds w (some ⟨b, o, none⟩) cs) (hg : b ≠ g) (vs : List Value) : Conds (putL w g p vs) (some ⟨b, o, none⟩) cs := fun hp => by
  obtain ⟨b', off, ha, hb, hc⟩ := h hp
  have e : b = b' := by injection ha with ha; injection ha
  subst e
  exact ⟨b, off, ha, by rw [putL_size]; exact hb, fun j hj => (hc j hj).putFar (.inl hg)⟩

/-- A slice of ints in memory. -/
def Nums (w : World) (a : Option Addr) (zs : List Int) : Prop :=
  0 < zs.length → ∃ b off, a = some ⟨b, off, none⟩ ∧ b < w.heap.size ∧ ∀ j, j < zs.length → w.cell? ⟨b, off + j, none⟩ = some (.int .i64 (zs.getD j 0))

theorem Nums.step {w w' : World} {a : Option Addr} {zs : List Int} (h : Nums w a zs) (hE : Ext w w') : Nums w' a zs := fun hp => by
  obtain ⟨b, off, ha, hb, hc⟩ := h hp
  exact ⟨b, off, ha, Nat.lt_of_lt_of_le hb hE.size, fun j hj => (hE.cell (p := ⟨b, off + j, none⟩) hb).trans (hc j hj)⟩

theorem Nums.at {w : World} {a : Option Addr} {zs : List Int} (h : Nums w a zs) {k : Nat} (hk : k < zs.length) : ∃ b off, a = some ⟨b, off, none⟩ ∧ b < w.heap.size ∧ w.cell? ⟨b, off + k, none⟩ = some (.int .i64 (zs.getD k 0)) := by
  obtain ⟨b, off, ha, hb, hx⟩ := h (by omega)
  exact ⟨b, off, ha, hb, hx k hk⟩

theorem Nums.put {w : World} {b o g p : Nat} {zs : List Int} (h : Nums w (some ⟨b, o, none⟩) zs) (hg : b ≠ g) (vs : List Value) : Nums (putL w g p vs) (some ⟨b, o, none⟩) zs := fun hp => by
  obtain ⟨b', off, ha, hb, hc⟩ := h hp
  have e : b = b' := by injection ha with ha; injection ha
  subst e
  exact ⟨b, off, ha, by rw [putL_size]; exact hb, fun j hj => by rw [putL_far g _ vs _ _ (fun i hi e => by injection e with e1 e2; exact hg e1)]; exact hc j hj⟩

/-- Block k is known whole, and may be written. -/
def Kn (W : World) (k : Nat) (l : List Value) (t : TypeId) : Prop := W.heap[k]? = some (.cells l.toArray t (0, 0))

theorem Kn.new (W : World) (l : List Value) (t : TypeId) : Kn (W.alloc (.cells l.toArray t)) W.heap.size l t := by
  unfold Kn World.alloc; simp

theorem Kn.new' (W : World) (l : List Value) (t : TypeId) (k : Nat) (hk : k = W.heap.size) : Kn (W.alloc (.cells l.toArray t)) k l t := by
  subst hk; exact Kn.new W l t

theorem Kn.lt {W : World} {k : Nat} {l : List Value} {t : TypeId} (h : Kn W k l t) : k < W.heap.size := (Array.getElem?_eq_some_iff.1 h).1

theorem Kn.cell {W : World} {k : Nat} {l : List Value} {t : TypeId} (h : Kn W k l t) (i : Nat) (v : Value) (hv : l[i]? = some v) : W.cell? ⟨k, i, none⟩ = some v := by
  rw [cell_of_row W k i _ t (0, 0) h]; simpa using hv

theorem Kn.free {W : World} {k : Nat} {l : List Value} {t : TypeId} (h : Kn W k l t) (i : Nat) : W.frozen? ⟨k, i, none⟩ = false := frozen_of_row W k i _ t h

theorem Kn.ext {W W' : World} {k : Nat} {l : List Value} {t : TypeId} (h : Kn W k l t) (hE : Ext W W') : Kn W' k l t := (hE.block k h.lt).trans h

theorem Kn.alloc {W : World} {k : Nat} {l : List Value} {t : TypeId} (h : Kn W k l t) (o : Obj) : Kn (W.alloc o) k l t := h.ext (Ext.one W o)

theorem Kn.drew {W : World} {k : Nat} {l : List Value} {t : TypeId} (h : Kn W k l t) : Kn W.drew k l t := h

theorem Kn.set {W : World} {k : Nat} {l : List Value} {t : TypeId} (h : Kn W k l t) (i : Nat) (v : Value) : Kn (W.setCell ⟨k, i, none⟩ v) k (l.set i v) t := by
  unfold Kn World.setCell
  unfold Kn at h
  simp only [Array.getElem?_modify, if_true, h, Option.map_some]
  simp

theorem Kn.other {W : World} {k j : Nat} {l : List Value} {t : TypeId} (h : Kn W k l t) (hj : k ≠ j) (i : Nat) (v : Value) : Kn (W.setCell ⟨j, i, none⟩ v) k l t :=
  (Below.heap_setCell _ _ _ _ hj).trans h

theorem Ext.set {W W' : World} (h : Ext W W') {k : Nat} (hk : W.heap.size ≤ k) (i : Nat) (v : Value) : Ext W (W'.setCell ⟨k, i, none⟩ v) := Below.setCell (p := ⟨k, i, none⟩) h hk v

theorem SegB.set {W : World} {b o k : Nat} {l : List Value} (h : b < W.heap.size ∧ Seg W b o l) (hk : b ≠ k) (i : Nat) (v : Value) : b < (W.setCell ⟨k, i, none⟩ v).heap.size ∧ Seg (W.setCell ⟨k, i, none⟩ v) b o l :=
  ⟨by rw [World.size_setCell]; exact h.1, fun j u hu => by rw [World.cell?_setCell_other _ _ _ _ (fun e => hk (by injection e with e1 e2; exact e1.symm))]; exact h.2 j u hu⟩

def okAt (zs : List Int) (i : Nat) : Bool := halfB (zs.getD i 0) && (decide (i = 0) || decide (zs.getD (i - 1) 0 < zs.getD i 0))

theorem numsB_okAt (zs : List Int) : numsB zs = (decide (zs.length ≤ 4) && (List.range zs.length).all (okAt zs)) := rfl

theorem ruleB_if (zs : List Int) (cs : List CN) (a d : Int) : ruleB ⟨zs, cs, a, d⟩ = (outB a d && numsB zs && condsB cs) := rfl

/-- A number lies in a block. -/
def NumAt (w : World) (b o : Nat) (z : Int) : Prop := b < w.heap.size ∧ w.cell? ⟨b, o, none⟩ = some (.int .i64 z)

theorem NumAt.step {w w' : World} {b o : Nat} {z : Int} (h : NumAt w b o z) (hE : Ext w w') : NumAt w' b o z := ⟨Nat.lt_of_lt_of_le h.1 hE.size, (hE.cell (p := ⟨b, o, none⟩) h.1).trans h.2⟩

theorem NumAt.drew {w : World} {b o : Nat} {z : Int} (h : NumAt w b o z) : NumAt w.drew b o z := h

/-- The cells l lie in an old block. -/
def SegB (W : World) (b o : Nat) (l : List Value) : Prop := b < W.heap.size ∧ Seg W b o l

theorem SegB.step {W W' : World} {b o : Nat} {l : List Value} (h : SegB W b o l) (hE : Ext W W') : SegB W' b o l := ⟨Nat.lt_of_lt_of_le h.1 hE.size, h.2.below hE h.1⟩

theorem SegB.drew {W : World} {b o : Nat} {l : List Value} (h : SegB W b o l) : SegB W.drew b o l := h

/-- The four cells of a rule. -/
def RuleL (w : World) (r : RN) (l : List Value) : Prop :=
  ∃ a1 n1 c1 a2 n2 c2, l = [.slice a1 n1 c1, .slice a2 n2 c2, .int .i64 r.act, .int .i64 r.data] ∧ n1 = r.nums.length ∧ n2 = r.conds.length ∧ Nums w a1 r.nums ∧ Conds w a2 r.conds

theorem RuleL.step {w w' : World} {r : RN} {l : List Value} (h : RuleL w r l) (hE : Ext w w') : RuleL w' r l := by
  obtain ⟨a1, n1, c1, a2, n2, c2, e, e1, e2, h1, h2⟩ := h
  exact ⟨a1, n1, c1, a2, n2, c2, e, e1, e2, h1.step hE, h2.step hE⟩

/-- The value v is the rule r. -/
def RepRule (r : RN) (v : Value) (w : World) : Prop := ∃ l, v = .agg l.toArray ∧ RuleL w r l

theorem RepRule.step {r : RN} {v : Value} {w w' : World} (h : RepRule r v w) (hE : Ext w w') : RepRule r v w' := by
  obtain ⟨l, e, hl⟩ := h
  exact ⟨l, e, hl.step hE⟩

/-- No more numbers or conditions than the laws look at. -/
def Small (r : RN) : Prop := r.nums.length ≤ 1048576 ∧ r.conds.length ≤ 1048576

/-- A slice of rules in memory, four cells each. -/
def Rules (w : World) (a : Option Addr) (rs : List RN) : Prop :=
  0 < rs.length → ∃ b off, a = some ⟨b, off, none⟩ ∧ b < w.heap.size ∧ ∀ j, j < rs.length → ∃ l, Seg w b (off + j * 4) l ∧ RuleL w (rs.getD j r0) l

theorem Rules.step {w w' : World} {a : Option Addr} {rs : List RN} (h : Rules w a rs) (hE : Ext w w') : Rules w' a rs := fun hp => by
  obtain ⟨b, off, ha, hb, hc⟩ := h hp
  refine ⟨b, off, ha, Nat.lt_of_lt_of_le hb hE.size, fun j hj => ?_⟩
  obtain ⟨l, h1, h2⟩ := hc j hj
  exact ⟨l, h1.below hE hb, h2.step hE⟩

theorem Rules.at {w : World} {a : Option Addr} {rs : List RN} (h : Rules w a rs) {k : Nat} (hk : k < rs.length) : ∃ b off l, a = some ⟨b, off, none⟩ ∧ SegB w b (off + k * 4) l ∧ RuleL w (rs.getD k r0) l := by
  obtain ⟨b, off, ha, hb, hx⟩ := h (by omega)
  obtain ⟨l, h1, h2⟩ := hx k hk
  exact ⟨b, off, l, ha, ⟨hb, h1⟩, h2⟩

theorem Tryd.infoCo : (Tryd.prog.info? 27).map (fun i => (i.zero, i.size, i.bytes)) = some (some (.agg #[.int .i64 0, .int .i64 0, .int .i64 0, .int .i64 0, .int .i64 0, .int .i64 0]), 6, 48) := by kernel_rfl

/-- The four cells of a rule whose memory lies from block B on. -/
def RuleG (B : Nat) (w : World) (r : RN) (l : List Value) : Prop :=
  ∃ g1 n1 c1 g2 n2 c2, l = [.slice (some ⟨g1, 0, none⟩) n1 c1, .slice (some ⟨g2, 0, none⟩) n2 c2, .int .i64 r.act, .int .i64 r.data] ∧ n1 = r.nums.length ∧ n2 = r.conds.length ∧ B ≤ g1 ∧ B ≤ g2 ∧ Nums w (some ⟨g1, 0, none⟩) r.nums ∧ Conds w (some ⟨g2, 0, none⟩) r.conds ∧ n1 ≤ c1

theorem RuleG.rule {B : Nat} {w : World} {r : RN} {l : List Value} (h : RuleG B w r l) : RuleL w r l := by
  obtain ⟨g1, n1, c1, g2, n2, c2, e, e1, e2, _, _, h1, h2, _⟩ := h
  exact ⟨_, n1, c1, _, n2, c2, e, e1, e2, h1, h2⟩

theorem RuleG.step {B : Nat} {w w' : World} {r : RN} {l : List Value} (h : RuleG B w r l) (hE : Ext w w') : RuleG B w' r l := by
  obtain ⟨g1, n1, c1, g2, n2, c2, e, e1, e2, b1, b2, h1, h2, h3⟩ := h
  exact ⟨g1, n1, c1, g2, n2, c2, e, e1, e2, b1, b2, h1.step hE, h2.step hE, h3⟩

theorem RuleG.mono {B C : Nat} {w : World} {r : RN} {l : List Value} (h : RuleG B w r l) (hC : C ≤ B) : RuleG C w r l := by
  obtain ⟨g1, n1, c1, g2, n2, c2, e, e1, e2, b1, b2, h1, h2, h3⟩ := h
  exact ⟨g1, n1, c1, g2, n2, c2, e, e1, e2, by omega, by omega, h1, h2, h3⟩

theorem RuleG.put {B : Nat} {w : World} {r : RN} {l : List Value} (h : RuleG B w r l) {k : Nat} (hk : k < B) (o : Nat) (vs : List Value) : RuleG B (putL w k o vs) r l := by
  obtain ⟨g1, n1, c1, g2, n2, c2, e, e1, e2, b1, b2, h1, h2, h3⟩ := h
  exact ⟨g1, n1, c1, g2, n2, c2, e, e1, e2, b1, b2, h1.put (by omega) vs, h2.put (by omega) vs, h3⟩

/-- The value v is the policy p. -/
def RepPol (p : PN) (v : Value) (w : World) : Prop := ∃ a cap, v = .agg #[.int .i64 p.arch, .int .i64 p.act, .int .i64 p.data, .slice a p.rules.length cap] ∧ Rules w a p.rules

theorem RepPol.step {p : PN} {v : Value} {w w' : World} (h : RepPol p v w) (hE : Ext w w') : RepPol p v w' := by
  obtain ⟨a, cap, e, hr⟩ := h
  exact ⟨a, cap, e, hr.step hE⟩

/-- Rules at block g's head, all their memory from block B on. -/
def RulesG (B g : Nat) (w : World) (rs : List RN) : Prop :=
  B ≤ g ∧ (0 < rs.length → g < w.heap.size) ∧ ∀ j, j < rs.length → ∃ l, Seg w g (j * 4) l ∧ RuleG B w (rs.getD j r0) l

theorem RulesG.mono {B C g : Nat} {w : World} {rs : List RN} (h : RulesG B g w rs) (hC : C ≤ B) : RulesG C g w rs :=
  ⟨by have := h.1; omega, h.2.1, fun j hj => by
    obtain ⟨l, s1, s2⟩ := h.2.2 j hj
    exact ⟨l, s1, s2.mono hC⟩⟩

theorem RulesG.rules {B g : Nat} {w : World} {rs : List RN} (h : RulesG B g w rs) : Rules w (some ⟨g, 0, none⟩) rs := fun hp =>
  ⟨g, 0, rfl, h.2.1 hp, fun j hj => by
    obtain ⟨l, s1, s2⟩ := h.2.2 j hj
    exact ⟨l, by rw [Nat.zero_add]; exact s1, s2.rule⟩⟩

/-- Rules in memory, each slice of numbers being no longer than it may grow. -/
def RulesC (w : World) (a : Option Addr) (rs : List RN) : Prop :=
  Rules w a rs ∧ ∀ b off j x n c, a = some ⟨b, off, none⟩ → j < rs.length → w.cell? ⟨b, off + j * 4, none⟩ = some (.slice x n c) → n ≤ c

theorem RulesC.step {w w' : World} {a : Option Addr} {rs : List RN} (h : RulesC w a rs) (hE : Ext w w') : RulesC w' a rs := by
  refine ⟨h.1.step hE, fun b off j x n c ha hj hc => h.2 b off j x n c ha hj ?_⟩
  obtain ⟨b', off', ha', hb, _⟩ := h.1 (by omega)
  rw [ha] at ha'
  obtain rfl : b = b' := by injection ha' with ha'; injection ha'
  rw [← hc]
  exact (hE.cell (p := ⟨b, off + j * 4, none⟩) hb).symm

theorem RulesG.set {B g : Nat} {w : World} {rs : List RN} (h : RulesG B g w rs) {k : Nat} (i : Nat) (hk : k < B) (v : Value) : RulesG B g (w.setCell ⟨k, i, none⟩ v) rs :=
  ⟨h.1, fun hp => by rw [World.size_setCell]; exact h.2.1 hp, fun j hj => by
    obtain ⟨l, s1, s2⟩ := h.2.2 j hj
    exact ⟨l, s1.putFar (vs := [v]) (.inl (by have := h.1; omega)), s2.put hk i [v]⟩⟩

/-- A policy as a value, its rules so in memory. -/
def RepPolC (p : PN) (v : Value) (w : World) : Prop := ∃ a cap, v = .agg #[.int .i64 p.arch, .int .i64 p.act, .int .i64 p.data, .slice a p.rules.length cap] ∧ RulesC w a p.rules

theorem RepPolC.step {p : PN} {v : Value} {w w' : World} (h : RepPolC p v w) (hE : Ext w w') : RepPolC p v w' := by
  obtain ⟨a, cap, e, hr⟩ := h
  exact ⟨a, cap, e, hr.step hE⟩

/-- A slice's address, where it has one, lies from block B on. -/
def From (B : Nat) (w : World) (a : Option Addr) : Prop := ∀ b o s, a = some ⟨b, o, s⟩ → B ≤ b ∧ b < w.heap.size

theorem From.size {B : Nat} {w w' : World} {a : Option Addr} (h : From B w a) (hs : w.heap.size ≤ w'.heap.size) : From B w' a := fun b o s e => ⟨(h b o s e).1, by have := (h b o s e).2; omega⟩

theorem Nums.kept {w w' : World} {a : Option Addr} {zs : List Int} (h : Nums w a zs) (hb : ∀ b o, a = some ⟨b, o, none⟩ → w'.heap[b]? = w.heap[b]?) (hs : w.heap.size ≤ w'.heap.size) : Nums w' a zs := fun hp => by
  obtain ⟨b, off, ha, hbl, hc⟩ := h hp
  exact ⟨b, off, ha, by omega, fun j hj => (World.cell?_of_block (w := w) (a := ⟨b, off + j, none⟩) (hb b off ha)).trans (hc j hj)⟩

theorem Conds.kept {w w' : World} {a : Option Addr} {cs : List CN} (h : Conds w a cs) (hb : ∀ b o, a = some ⟨b, o, none⟩ → w'.heap[b]? = w.heap[b]?) (hs : w.heap.size ≤ w'.heap.size) : Conds w' a cs := fun hp => by
  obtain ⟨b, off, ha, hbl, hc⟩ := h hp
  exact ⟨b, off, ha, by omega, fun j hj i v hv => (World.cell?_of_block (w := w) (a := ⟨b, off + j * 6 + i, none⟩) (hb b off ha)).trans (hc j hj i v hv)⟩

/-- The four cells of a rule whose memory, where it has any, lies from block B on. -/
def RuleN (B : Nat) (w : World) (r : RN) (l : List Value) : Prop :=
  ∃ a1 n1 c1 a2 n2 c2, l = [.slice a1 n1 c1, .slice a2 n2 c2, .int .i64 r.act, .int .i64 r.data] ∧ n1 = r.nums.length ∧ n2 = r.conds.length ∧ Nums w a1 r.nums ∧ Conds w a2 r.conds ∧ From B w a1 ∧ From B w a2

theorem RuleN.rule {B : Nat} {w : World} {r : RN} {l : List Value} (h : RuleN B w r l) : RuleL w r l := by
  obtain ⟨a1, n1, c1, a2, n2, c2, e, e1, e2, h1, h2, _⟩ := h
  exact ⟨a1, n1, c1, a2, n2, c2, e, e1, e2, h1, h2⟩

theorem RuleN.mono {B C : Nat} {w : World} {r : RN} {l : List Value} (h : RuleN B w r l) (hC : C ≤ B) : RuleN C w r l := by
  obtain ⟨a1, n1, c1, a2, n2, c2, e, e1, e2, h1, h2, f1, f2⟩ := h
  exact ⟨a1, n1, c1, a2, n2, c2, e, e1, e2, h1, h2, fun b o s he => ⟨by have := (f1 b o s he).1; omega, (f1 b o s he).2⟩, fun b o s he => ⟨by have := (f2 b o s he).1; omega, (f2 b o s he).2⟩⟩

/-- All blocks from B on that were there are as they were. -/
theorem RuleN.kept {B : Nat} {w w' : World} {r : RN} {l : List Value} (h : RuleN B w r l) (hb : ∀ b, B ≤ b → b < w.heap.size → w'.heap[b]? = w.heap[b]?) (hs : w.heap.size ≤ w'.heap.size) : RuleN B w' r l := by
  obtain ⟨a1, n1, c1, a2, n2, c2, e, e1, e2, h1, h2, f1, f2⟩ := h
  exact ⟨a1, n1, c1, a2, n2, c2, e, e1, e2, h1.kept (fun b o he => hb b (f1 b o none he).1 (f1 b o none he).2) hs, h2.kept (fun b o he => hb b (f2 b o none he).1 (f2 b o none he).2) hs, f1.size hs, f2.size hs⟩

theorem RuleN.grown {B : Nat} {w w' : World} {r : RN} {l : List Value} {row : Option Nat} (h : RuleN B w r l) (hg : w.grownBy w' row) (hr : ∀ b, B ≤ b → b < w.heap.size → some b ≠ row) : RuleN B w' r l :=
  h.kept (fun b h1 h2 => hg.block b h2 (hr b h1 h2)) hg.size

theorem RuleN.set {B : Nat} {w : World} {r : RN} {l : List Value} (h : RuleN B w r l) {k : Nat} (hk : k < B) (i : Nat) (v : Value) : RuleN B (w.setCell ⟨k, i, none⟩ v) r l :=
  h.kept (fun b h1 _ => Below.heap_setCell _ _ _ _ (by show b ≠ k; omega)) (by rw [World.size_setCell]; exact Nat.le_refl _)

/-- The cells of conditions in a row. -/
def flatC (cs : List CN) : List Value := cs.flatMap CN.l

theorem flatC_push (cs : List CN) (c : CN) : flatC cs ++ c.l = flatC (cs ++ [c]) := by simp [flatC]

theorem flatC_at : ∀ (cs : List CN) (j i : Nat) (v : Value), j < cs.length → (cs.getD j c0).l[i]? = some v → (flatC cs)[j * 6 + i]? = some v
  | [], j, _, _, h, _ => by simp at h
  | c :: cs, 0, i, v, _, hv => by
    have hi : i < c.l.length := (List.getElem?_eq_some_iff.1 hv).1
    simp only [flatC, List.flatMap_cons]
    rw [Nat.zero_mul, Nat.zero_add, List.getElem?_append_left hi]
    exact hv
  | c :: cs, j + 1, i, v, h, hv => by
    have := flatC_at cs j i v (by simpa using h) (by simpa using hv)
    simp only [flatC, List.flatMap_cons]
    rw [List.getElem?_append_right (by simp [CN.l]; omega)]
    have e : (j + 1) * 6 + i - c.l.length = j * 6 + i := by simp [CN.l]; omega
    rw [e]
    exact this

theorem own_nums {w : World} {base n : Nat} {v : Value} {zs : List Int} (h : w.ownsRow base 3 1 v n (zs.map (Value.int .i64))) (hn : zs.length = n) : ∃ a cap, v = .slice a n cap ∧ Nums w a zs ∧ From base w a := by
  rcases h.2 with ⟨rfl, h0⟩ | ⟨g, cap, cur, rfl, hg, hh, hnc, hcp, hcs, htake⟩
  · subst h0
    exact ⟨none, 0, rfl, fun hp => by omega, fun b o s e => by cases e⟩
  · have hlt := (Array.getElem?_eq_some_iff.1 hh).1
    refine ⟨some ⟨g, 0, none⟩, cap, rfl, fun hp => ⟨g, 0, rfl, hlt, fun j hj => ?_⟩, fun b o s e => by injection e with e; injection e with e1 e2 e3; subst e1; exact ⟨hg, hlt⟩⟩
    have e1 : (zs.map (Value.int .i64))[j]? = some (.int .i64 (zs.getD j 0)) := by simp [List.getD_eq_getElem?_getD, hj]
    rw [← htake, List.getElem?_take, if_pos (by omega)] at e1
    rw [Nat.zero_add, cell_of_row w g _ cur 3 _ hh]
    simpa using e1

theorem own_conds {w : World} {base n : Nat} {v : Value} {cs : List CN} (h : w.ownsRow base 27 6 v n (flatC cs)) (hn : cs.length = n) : ∃ a cap, v = .slice a n cap ∧ Conds w a cs ∧ From base w a := by
  rcases h.2 with ⟨rfl, h0⟩ | ⟨g, cap, cur, rfl, hg, hh, hnc, hcp, hcs, htake⟩
  · subst h0
    exact ⟨none, 0, rfl, fun hp => by omega, fun b o s e => by cases e⟩
  · have hlt := (Array.getElem?_eq_some_iff.1 hh).1
    refine ⟨some ⟨g, 0, none⟩, cap, rfl, fun hp => ⟨g, 0, rfl, hlt, fun j hj i u hu => ?_⟩, fun b o s e => by injection e with e; injection e with e1 e2 e3; subst e1; exact ⟨hg, hlt⟩⟩
    have hi : i < 6 := by have h3 := (List.getElem?_eq_some_iff.1 hu).1; simpa [CN.l] using h3
    have e1 := flatC_at cs j i u hj hu
    rw [← htake, List.getElem?_take, if_pos (by omega)] at e1
    rw [Nat.zero_add, cell_of_row w g _ cur 27 _ hh]
    simpa using e1

theorem own_lt9 {w : World} {base e size : Nat} {v : Value} {n : Nat} {xs : List Value} (h : w.ownsRow base e size v n xs) {x : Nat} (hx : v.ownBlock = some x) : base ≤ x ∧ x < w.heap.size := by
  rcases h.2 with ⟨rfl, _⟩ | ⟨g, cap, cur, rfl, hgb, hh, _⟩
  · simp [Value.ownBlock] at hx
  · simp [Value.ownBlock] at hx; subst hx; exact ⟨hgb, (Array.getElem?_eq_some_iff.1 hh).1⟩

end Go.Proofs.YthflflhcbnianaaDoor
