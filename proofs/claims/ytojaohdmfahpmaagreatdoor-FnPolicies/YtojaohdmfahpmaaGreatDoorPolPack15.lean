/- What impl's and spec's SamePolicy answer, of any two policies. -/
import Derived.Test.YtojaohdmfahpmaaGreatDoorPolPack10
import Derived.Test.YtojaohdmfahpmaaGreatDoorPolPack2
import Derived.Deep.RegionHeld3
import Derived.Handy
import Derived.Test.YtojaohdmfahpmaaGreatDoorPolPack3
/- What the laws' helpers over slices of wide numbers and over calls answer: szWideS, toWideS, eqWideS, szCall, toCall, eqCall. -/
namespace Go.Proofs.YtojaohdmfahpmaaGreatDoor
open Go.RowKit
set_option linter.unusedVariables false

theorem Tryz.infoW : (Tryz.prog.info? 76).map (fun i => (i.zero, i.size, i.bytes)) = some (some (.agg #[.int .i64 0, .int .i64 0]), 2, 16) := by kernel_rfl

/-- Two numbers lie side by side in an old block. -/
def Pair (w : World) (b o : Nat) (x y : Int) : Prop := b < w.heap.size ∧ w.cell? ⟨b, o, none⟩ = some (.int .i64 x) ∧ w.cell? ⟨b, o + 1, none⟩ = some (.int .i64 y)

theorem Pair.step {w w' : World} {b o : Nat} {x y : Int} (h : Pair w b o x y) (hE : Ext w w') : Pair w' b o x y :=
  ⟨Nat.lt_of_lt_of_le h.1 hE.size, (hE.cell (p := ⟨b, o, none⟩) h.1).trans h.2.1, (hE.cell (p := ⟨b, o + 1, none⟩) h.1).trans h.2.2⟩

theorem Wides.set {w : World} {g o : Nat} {ws : List (Int × Int)} (h : Wides w (some ⟨g, o, none⟩) ws) {k : Nat} (i : Nat) (hk : k ≠ g) (v : Value) : Wides (w.setCell ⟨k, i, none⟩ v) (some ⟨g, o, none⟩) ws := fun hp => by
  obtain ⟨b, off, ha, hb, hc⟩ := h hp
  have hbg : g = b := by injection ha with ha; injection ha
  subst hbg
  refine ⟨g, off, ha, by rw [World.size_setCell]; exact hb, fun j hj => ?_⟩
  obtain ⟨e1, e2⟩ := hc j hj
  exact ⟨by rw [World.cell?_setCell_other _ _ _ _ (by simp; try omega)]; exact e1, by rw [World.cell?_setCell_other _ _ _ _ (by simp; try omega)]; exact e2⟩

/-- The value v is the call of these numbers. -/
def RepCall (arch num : Int) (ws : List (Int × Int)) (v : Value) (w : World) : Prop := ∃ a cap, v = .agg #[.int .i64 arch, .int .i64 num, .slice a ws.length cap] ∧ Wides w a ws

theorem RepCall.step {arch num : Int} {ws : List (Int × Int)} {v : Value} {w w' : World} (h : RepCall arch num ws v w) (hE : Ext w w') : RepCall arch num ws v w' := by
  obtain ⟨a, cap, rfl, hw⟩ := h
  exact ⟨a, cap, rfl, hw.below hE (Nat.le_refl _)⟩

theorem CellsAt.set {W : World} {k : Nat} {l : List Value} (h : CellsAt W k l) {g : Nat} (hg : g ≠ k) (j : Nat) (v : Value) : CellsAt (W.setCell ⟨g, j, none⟩ v) k l :=
  ⟨by rw [World.size_setCell]; exact h.1, fun i x hx => by rw [World.cell?_setCell_other _ _ _ _ (fun e => hg (by injection e))]; exact h.2 i x hx⟩

set_option maxRecDepth 100000 in
set_option maxHeartbeats 1600000 in
theorem iCondOk_any (a mh ml cm vh vl : Int) (w : World) : Calls Tryz.prog 120 #[.agg #[.int .i64 a, .int .i64 mh, .int .i64 ml, .int .i64 cm, .int .i64 vh, .int .i64 vl]] w fun e w' => e = .returned (.bool (condB ⟨a, mh, ml, cm, vh, vl⟩)) ∧ Ext w w' := by
  have HB : Hid (condB ⟨a, mh, ml, cm, vh, vl⟩ = (inB a 0 2 && inB cm 1 6 && wideB (mh, ml) && wideB (vh, vl))) := rfl
  have HE : Hid (∀ o, Ext w (w.alloc o)) := fun o => Ext.one w o
  by_cases h0 : 0 ≤ a
  · by_cases h1 : a ≤ 2
    · by_cases h2 : 1 ≤ cm
      · by_cases h3 : cm ≤ 6
        · have HI : Hid (inB a 0 2 = true ∧ inB cm 1 6 = true) := ⟨inB_true.2 ⟨h0, h1⟩, inB_true.2 ⟨h2, h3⟩⟩
          go_enter Tryz.func120, Tryz.ntmps120
          go_wp2_with fail
          refine (iWide_any mh ml _).mono ?_
          rintro e w1 ⟨rfl, x1⟩
          have c1 := (CellsAt.new w [.int .i64 a, .int .i64 mh, .int .i64 ml, .int .i64 cm, .int .i64 vh, .int .i64 vl] 78).step x1
          have q4 := c1.2 4 _ rfl
          have q5 := c1.2 5 _ rfl
          have X1 : Hid (Ext w w1) := (HE.out _).trans x1
          clear x1 c1
          cases hw : wideB (mh, ml)
          · go_wp2
            go_ret
            exact ⟨by rw [HB.out, hw]; simp, X1.out⟩
          · go_wp2_with fail
            refine (iWide_any vh vl _).mono ?_
            rintro e w2 ⟨rfl, x2⟩
            have X2 : Hid (Ext w w2) := X1.out.trans x2
            clear x2 q4 q5
            go_wp2
            go_ret
            exact ⟨by rw [HB.out, hw, HI.out.1, HI.out.2]; simp, X2.out⟩
        · have HI : Hid (inB cm 1 6 = false) := inB_false.2 (by omega)
          go_enter Tryz.func120, Tryz.ntmps120
          go_wp2
          go_ret
          exact ⟨by rw [HB.out, HI.out]; simp, HE.out _⟩
      · have HI : Hid (inB cm 1 6 = false) := inB_false.2 (by omega)
        have h2' : cm < 1 := by omega
        go_enter Tryz.func120, Tryz.ntmps120
        go_wp2
        go_ret
        exact ⟨by rw [HB.out, HI.out]; simp, HE.out _⟩
    · have HI : Hid (inB a 0 2 = false) := inB_false.2 (by omega)
      have h2' : 3 ≤ a := by omega
      go_enter Tryz.func120, Tryz.ntmps120
      go_wp2
      go_ret
      exact ⟨by rw [HB.out, HI.out]; simp, HE.out _⟩
  · have HI : Hid (inB a 0 2 = false) := inB_false.2 (by omega)
    have h2' : a < 0 := by omega
    go_enter Tryz.func120, Tryz.ntmps120
    go_wp2
    go_ret
    exact ⟨by rw [HB.out, HI.out]; simp, HE.out _⟩

set_option maxRecDepth 100000 in
set_option maxHeartbeats 1600000 in
theorem sCondOk_any (a mh ml cm vh vl : Int) (w : World) : Calls Tryz.prog 117 #[.agg #[.int .i64 a, .int .i64 mh, .int .i64 ml, .int .i64 cm, .int .i64 vh, .int .i64 vl]] w fun e w' => e = .returned (.bool (condB ⟨a, mh, ml, cm, vh, vl⟩)) ∧ Ext w w' := by
  have HB : Hid (condB ⟨a, mh, ml, cm, vh, vl⟩ = (inB a 0 2 && inB cm 1 6 && wideB (mh, ml) && wideB (vh, vl))) := rfl
  have HE : Hid (∀ o, Ext w (w.alloc o)) := fun o => Ext.one w o
  cases h0 : inB a 0 2
  · go_enter Tryz.func117, Tryz.ntmps117
    go_wp2_with (go_at_call 110; refine (in_any _ _ _ _).mono ?_; rintro e w' ⟨rfl, rfl⟩)
    go_ret
    exact ⟨by rw [HB.out, h0]; simp, HE.out _⟩
  · go_enter Tryz.func117, Tryz.ntmps117
    go_wp2_with (go_at_call 110; refine (in_any _ _ _ _).mono ?_; rintro e w' ⟨rfl, rfl⟩)
    refine (sWide_any mh ml _).mono ?_
    rintro e w1 ⟨rfl, x1⟩
    have c1 := (CellsAt.new w [.int .i64 a, .int .i64 mh, .int .i64 ml, .int .i64 cm, .int .i64 vh, .int .i64 vl] 78).step x1
    have q4 := c1.2 4 _ rfl
    have q5 := c1.2 5 _ rfl
    have X1 : Hid (Ext w w1) := (HE.out _).trans x1
    clear x1
    cases hw : wideB (mh, ml)
    · go_wp2
      go_ret
      exact ⟨by rw [HB.out, hw]; simp, X1.out⟩
    · go_wp2_with fail
      refine (sWide_any vh vl _).mono ?_
      rintro e w2 ⟨rfl, x2⟩
      have X2 : Hid (Ext w w2) := X1.out.trans x2
      have q3 := (c1.step x2).2 3 _ rfl
      clear x2 q4 q5 c1
      cases hv : wideB (vh, vl)
      · go_wp2
        go_ret
        exact ⟨by rw [HB.out, hv]; simp, X2.out⟩
      · go_wp2_with (go_at_call 110; refine (in_any _ _ _ _).mono ?_; rintro e w' ⟨rfl, rfl⟩)
        go_ret
        exact ⟨by rw [HB.out, h0, hw, hv]; simp, X2.out⟩

/-- The cells l lie in block b from o on. -/
def Seg (W : World) (b o : Nat) (l : List Value) : Prop := ∀ i v, l[i]? = some v → W.cell? ⟨b, o + i, none⟩ = some v

theorem Seg.below {W W' : World} {B b o : Nat} {l : List Value} (h : Seg W b o l) (hb : Below B W W') (hB : b < B) : Seg W' b o l := fun i v hv => (hb.cell (p := ⟨b, o + i, none⟩) hB).trans (h i v hv)

theorem Seg.one {W : World} {b o : Nat} {v0 : Value} (h : Seg W b o [v0]) : W.cell? ⟨b, o, none⟩ = some v0 := h 0 _ rfl

theorem Seg.four {W : World} {b o : Nat} {v0 v1 v2 v3 : Value} (h : Seg W b o [v0, v1, v2, v3]) : W.cell? ⟨b, o, none⟩ = some v0 ∧ W.cell? ⟨b, o + 1, none⟩ = some v1 ∧ W.cell? ⟨b, o + 2, none⟩ = some v2 ∧ W.cell? ⟨b, o + 3, none⟩ = some v3 :=
  ⟨h 0 _ rfl, h 1 _ rfl, h 2 _ rfl, h 3 _ rfl⟩

theorem Seg.six {W : World} {b o : Nat} {v0 v1 v2 v3 v4 v5 : Value} (h : Seg W b o [v0, v1, v2, v3, v4, v5]) : W.cell? ⟨b, o, none⟩ = some v0 ∧ W.cell? ⟨b, o + 1, none⟩ = some v1 ∧ W.cell? ⟨b, o + 2, none⟩ = some v2 ∧ W.cell? ⟨b, o + 3, none⟩ = some v3 ∧ W.cell? ⟨b, o + 4, none⟩ = some v4 ∧ W.cell? ⟨b, o + 5, none⟩ = some v5 :=
  ⟨h 0 _ rfl, h 1 _ rfl, h 2 _ rfl, h 3 _ rfl, h 4 _ rfl, h 5 _ rfl⟩

/-- The values are stored into a block's cells from o on. -/
def putL (W : World) (g : Nat) : Nat → List Value → World
  | _, [] => W
  | o, v :: vs => putL (W.setCell ⟨g, o, none⟩ v) g (o + 1) vs

theorem putL_size (g : Nat) : ∀ (vs : List Value) (W : World) (o : Nat), (putL W g o vs).heap.size = W.heap.size
  | [], _, _ => rfl
  | v :: vs, W, o => by rw [putL, putL_size g vs, World.size_setCell]

theorem putL_frozen (g : Nat) (q : Addr) : ∀ (vs : List Value) (W : World) (o : Nat), (putL W g o vs).frozen? q = W.frozen? q
  | [], _, _ => rfl
  | v :: vs, W, o => by rw [putL, putL_frozen g q vs, World.frozen?_setCell]

theorem putL_far (g : Nat) (q : Addr) : ∀ (vs : List Value) (W : World) (o : Nat), (∀ i, i < vs.length → q ≠ ⟨g, o + i, none⟩) → (putL W g o vs).cell? q = W.cell? q
  | [], _, _, _ => rfl
  | v :: vs, W, o, h => by
    rw [putL, putL_far g q vs _ _ (fun i hi => by have := h (i + 1) (by simp; omega); rw [show o + 1 + i = o + (i + 1) by omega]; exact this)]
    exact World.cell?_setCell_other _ _ _ _ (Ne.symm (h 0 (by simp)))

theorem putL_some (g : Nat) (q : Addr) : ∀ (vs : List Value) (W : World) (o : Nat), (∃ u, W.cell? q = some u) → ∃ u, (putL W g o vs).cell? q = some u
  | [], _, _, h => h
  | v :: vs, W, o, h => by
    rw [putL]
    refine putL_some g q vs _ _ ?_
    by_cases hq : q = ⟨g, o, none⟩
    · subst hq
      obtain ⟨u, hu⟩ := h
      exact ⟨v, World.cell?_setCell_same _ _ _ hu⟩
    · rw [World.cell?_setCell_other _ _ _ _ (Ne.symm hq)]
      exact h

theorem Seg.putFar {W : World} {b o g p : Nat} {l vs : List Value} (h : Seg W b o l) (hf : b ≠ g ∨ o + l.length ≤ p ∨ p + vs.length ≤ o) : Seg (putL W g p vs) b o l := fun i v hv => by
  have hi : i < l.length := (List.getElem?_eq_some_iff.1 hv).1
  rw [putL_far g _ vs _ _ (fun j hj e => by injection e with e1 e2; rcases hf with hf | hf | hf <;> omega)]
  exact h i v hv

/-- Block g has N cells that may be written. -/
def FreeN (W : World) (g N : Nat) : Prop := g < W.heap.size ∧ ∀ j, j < N → (∃ u, W.cell? ⟨g, j, none⟩ = some u) ∧ W.frozen? ⟨g, j, none⟩ = false

theorem FreeN.step {W W' : World} {g N : Nat} (h : FreeN W g N) (hE : Ext W W') : FreeN W' g N :=
  ⟨Nat.lt_of_lt_of_le h.1 hE.size, fun j hj => ⟨by rw [hE.cell (p := ⟨g, j, none⟩) h.1]; exact (h.2 j hj).1, (hE.frozen (p := ⟨g, j, none⟩) h.1).trans (h.2 j hj).2⟩⟩

theorem FreeN.put {W : World} {g N : Nat} (h : FreeN W g N) (k o : Nat) (vs : List Value) : FreeN (putL W k o vs) g N :=
  ⟨by rw [putL_size]; exact h.1, fun j hj => ⟨putL_some k _ vs W o (h.2 j hj).1, by rw [putL_frozen]; exact (h.2 j hj).2⟩⟩

/-- A slice of conditions in memory, six cells each. -/
def Conds (w : World) (a : Option Addr) (cs : List CN) : Prop :=
  0 < cs.length → ∃ b off, a = some ⟨b, off, none⟩ ∧ b < w.heap.size ∧ ∀ j, j < cs.length → Seg w b (off + j * 6) (cs.getD j c0).l

theorem Conds.step {w w' : World} {a : Option Addr} {cs : List CN} (h : Conds w a cs) (hE : Ext w w') : Conds w' a cs := fun hp => by
  obtain ⟨b, off, ha, hb, hc⟩ := h hp
  exact ⟨b, off, ha, Nat.lt_of_lt_of_le hb hE.size, fun j hj => (hc j hj).below hE hb⟩

theorem Conds.at {w : World} {a : Option Addr} {cs : List CN} (h : Conds w a cs) {k : Nat} (hk : k < cs.length) {c : CN} (hc : c = cs.getD k c0) : ∃ b off, a = some ⟨b, off, none⟩ ∧ b < w.heap.size ∧ Seg w b (off + k * 6) c.l := by
  obtain ⟨b, off, ha, hb, hx⟩ := h (by omega)
  exact ⟨b, off, ha, hb, by rw [hc]; exact hx k hk⟩

theorem Conds.put {w : World} {b o g p : Nat} {cs : List CN} (h : Conds w (some ⟨b, o, none⟩) cs) (hg : b ≠ g) (vs : List Value) : Conds (putL w g p vs) (some ⟨b, o, none⟩) cs := fun hp => by
  obtain ⟨b', off, ha, hb, hc⟩ := h hp
  have e : b = b' := by injection ha with ha; injection ha
  subst e
  exact ⟨b, off, ha, by rw [putL_size]; exact hb, fun j hj => (hc j hj).putFar (.inl hg)⟩

/-- A slice of ints in memory. -/
def Nums (w : World) (a : Option Addr) (zs : List Int) : Prop :=
  0 < zs.length → ∃ b off, a = some ⟨b, off, none⟩ ∧ b < w.heap.size ∧ ∀ j, j < zs.length → w.cell? ⟨b, off + j, none⟩ = some (.int .i64 (zs.getD j 0))

theorem Nums.step {w w' : World} {a : Option Addr} {zs : List Int} (h : Nums w a zs) (hE : Ext w w') : Nums w' a zs := fun hp => by
  obtain ⟨b, off, ha, hb, hc⟩ := h hp
  exact ⟨b, off, ha, Nat.lt_of_lt_of_le hb hE.size, fun j hj => (hE.cell (p := ⟨b, off + j, none⟩) hb).trans (hc j hj)⟩

theorem Nums.at {w : World} {a : Option Addr} {zs : List Int} (h : Nums w a zs) {k : Nat} (hk : k < zs.length) : ∃ b off, a = some ⟨b, off, none⟩ ∧ b < w.heap.size ∧ w.cell? ⟨b, off + k, none⟩ = some (.int .i64 (zs.getD k 0)) := by
  obtain ⟨b, off, ha, hb, hx⟩ := h (by omega)
  exact ⟨b, off, ha, hb, hx k hk⟩

theorem Nums.put {w : World} {b o g p : Nat} {zs : List Int} (h : Nums w (some ⟨b, o, none⟩) zs) (hg : b ≠ g) (vs : List Value) : Nums (putL w g p vs) (some ⟨b, o, none⟩) zs := fun hp => by
  obtain ⟨b', off, ha, hb, hc⟩ := h hp
  have e : b = b' := by injection ha with ha; injection ha
  subst e
  exact ⟨b, off, ha, by rw [putL_size]; exact hb, fun j hj => by rw [putL_far g _ vs _ _ (fun i hi e => by injection e with e1 e2; exact hg e1)]; exact hc j hj⟩

/-- Block k is known whole, and may be written. -/
def Kn (W : World) (k : Nat) (l : List Value) (t : TypeId) : Prop := W.heap[k]? = some (.cells l.toArray t (0, 0))

theorem Kn.new (W : World) (l : List Value) (t : TypeId) : Kn (W.alloc (.cells l.toArray t)) W.heap.size l t := by
  unfold Kn World.alloc; simp

theorem Kn.new' (W : World) (l : List Value) (t : TypeId) (k : Nat) (hk : k = W.heap.size) : Kn (W.alloc (.cells l.toArray t)) k l t := by
  subst hk; exact Kn.new W l t

theorem Kn.lt {W : World} {k : Nat} {l : List Value} {t : TypeId} (h : Kn W k l t) : k < W.heap.size := (Array.getElem?_eq_some_iff.1 h).1

theorem Kn.cell {W : World} {k : Nat} {l : List Value} {t : TypeId} (h : Kn W k l t) (i : Nat) (v : Value) (hv : l[i]? = some v) : W.cell? ⟨k, i, none⟩ = some v := by
  rw [cell_of_row W k i _ t (0, 0) h]; simpa using hv

theorem Kn.free {W : World} {k : Nat} {l : List Value} {t : TypeId} (h : Kn W k l t) (i : Nat) : W.frozen? ⟨k, i, none⟩ = false := frozen_of_row W k i _ t h

theorem Kn.ext {W W' : World} {k : Nat} {l : List Value} {t : TypeId} (h : Kn W k l t) (hE : Ext W W') : Kn W' k l t := (hE.block k h.lt).trans h

theorem Kn.alloc {W : World} {k : Nat} {l : List Value} {t : TypeId} (h : Kn W k l t) (o : Obj) : Kn (W.alloc o) k l t := h.ext (Ext.one W o)

theorem Kn.drew {W : World} {k : Nat} {l : List Value} {t : TypeId} (h : Kn W k l t) : Kn W.drew k l t := h

theorem Kn.set {W : World} {k : Nat} {l : List Value} {t : TypeId} (h : Kn W k l t) (i : Nat) (v : Value) : Kn (W.setCell ⟨k, i, none⟩ v) k (l.set i v) t := by
  unfold Kn World.setCell
  unfold Kn at h
  simp only [Array.getElem?_modify, if_true, h, Option.map_some]
  simp

theorem Kn.other {W : World} {k j : Nat} {l : List Value} {t : TypeId} (h : Kn W k l t) (hj : k ≠ j) (i : Nat) (v : Value) : Kn (W.setCell ⟨j, i, none⟩ v) k l t :=
  (Below.heap_setCell _ _ _ _ hj).trans h

theorem Ext.set {W W' : World} (h : Ext W W') {k : Nat} (hk : W.heap.size ≤ k) (i : Nat) (v : Value) : Ext W (W'.setCell ⟨k, i, none⟩ v) := Below.setCell (p := ⟨k, i, none⟩) h hk v

theorem SegB.set {W : World} {b o k : Nat} {l : List Value} (h : b < W.heap.size ∧ Seg W b o l) (hk : b ≠ k) (i : Nat) (v : Value) : b < (W.setCell ⟨k, i, none⟩ v).heap.size ∧ Seg (W.setCell ⟨k, i, none⟩ v) b o l :=
  ⟨by rw [World.size_setCell]; exact h.1, fun j u hu => by rw [World.cell?_setCell_other _ _ _ _ (fun e => hk (by injection e with e1 e2; exact e1.symm))]; exact h.2 j u hu⟩

def okAt (zs : List Int) (i : Nat) : Bool := halfB (zs.getD i 0) && (decide (i = 0) || decide (zs.getD (i - 1) 0 < zs.getD i 0))

theorem numsB_okAt (zs : List Int) : numsB zs = (decide (zs.length ≤ 4) && (List.range zs.length).all (okAt zs)) := rfl

theorem okAll_more {zs : List Int} {k : Nat} (h : (List.range k).all (okAt zs) = true) (hk : okAt zs k = true) : (List.range (k + 1)).all (okAt zs) = true := by
  rw [List.range_succ, List.all_append, h]
  simp [hk]

theorem okAll_bad {zs : List Int} {k : Nat} (hk : k < zs.length) (h : okAt zs k = false) : (List.range zs.length).all (okAt zs) = false := by
  rw [Bool.eq_false_iff]
  intro ha
  have := List.all_eq_true.1 ha k (List.mem_range.2 hk)
  rw [h] at this
  exact Bool.noConfusion this

set_option maxRecDepth 100000 in
set_option maxHeartbeats 1600000 in
theorem numsOk_any (a : Option Addr) (cap : Nat) (zs : List Int) (w : World) (hl : zs.length ≤ 1048576) (h : Nums w a zs) :
    Calls Tryz.prog 94 #[.slice a zs.length cap] w fun e w' => e = .returned (.bool (numsB zs)) ∧ w = w' := by
  obtain ⟨n, hn⟩ : ∃ n, n = zs.length := ⟨_, rfl⟩
  have HN : Hid (n = zs.length) := hn
  have HA : Hid (Nums w a zs) := h
  have HB : Hid (numsB zs = (decide (n ≤ 4) && (List.range n).all (okAt zs))) := by rw [hn]; exact numsB_okAt zs
  rw [← hn] at hl ⊢
  clear hn h
  by_cases h4 : n ≤ 4
  · go_enter Tryz.func94, Tryz.ntmps94
    go_wp2_with fail
    go_loop [10] (fun i => ∃ k : Nat, i = .int .i64 k ∧ k ≤ n ∧ Hid ((List.range k).all (okAt zs) = true)) (fun i => n - (intOf i).toNat)
    case atStart => exact ⟨0, rfl, by omega, by simp [Hid]⟩
    case round =>
      obtain ⟨k, rfl, hk, hall⟩ := hrel
      by_cases hlt : k < n
      · have bk : (k : Int) < (n : Int) := by omega
        obtain ⟨b, off, rfl, hbl, hc⟩ := HA.out.at (k := k) (by have := HN.out; omega)
        obtain ⟨z, hz⟩ : ∃ z, z = zs.getD k 0 := ⟨_, rfl⟩
        rw [← hz] at hc
        have HZ : Hid (z = zs.getD k 0) := hz
        clear hz
        cases hh : halfB z
        · have HF : Hid ((List.range n).all (okAt zs) = false) := by
            have := okAll_bad (zs := zs) (k := k) (by have := HN.out; omega) (by unfold okAt; rw [← HZ.out, hh]; rfl)
            rw [← HN.out] at this
            exact this
          clear hall
          go_wp2_with (go_at_call 52; refine (iHalf_any _ _).mono ?_; rintro e w' ⟨rfl, rfl⟩)
          go_ret
          exact ⟨by rw [HB.out, HF.out]; simp, rfl⟩
        · by_cases hk0 : k = 0
          · subst hk0
            rw [Nat.add_zero] at hc
            have HT : Hid ((List.range 1).all (okAt zs) = true) := okAll_more hall.out (by unfold okAt; rw [← HZ.out, hh]; rfl)
            clear hall
            go_wp2_with (go_at_call 52; refine (iHalf_any _ _).mono ?_; rintro e w' ⟨rfl, rfl⟩)
            go_round
            case rel => exact ⟨1, by go_num, by omega, HT⟩
            case measure => simp [intOf]; omega
          · obtain ⟨j, rfl⟩ : ∃ j, k = j + 1 := ⟨k - 1, by omega⟩
            obtain ⟨b', off', e', _, hc'⟩ := HA.out.at (k := j) (by have := HN.out; omega)
            obtain ⟨rfl, rfl⟩ : b = b' ∧ off = off' := by injection e' with e'; injection e' with e1 e2; exact ⟨e1, e2⟩
            clear e'
            obtain ⟨y, hy⟩ : ∃ y, y = zs.getD j 0 := ⟨_, rfl⟩
            rw [← hy] at hc'
            have HY : Hid (y = zs.getD j 0) := hy
            clear hy hk0
            have hj1 : (j : Int) + 1 - 1 = j := by omega
            have hj2 : (0 : Int) < (j : Int) + 1 := by omega
            have hj3 : (j : Int) < n := by omega
            by_cases hyz : z ≤ y
            · have HF : Hid ((List.range n).all (okAt zs) = false) := by
                have := okAll_bad (zs := zs) (k := j + 1) (by have := HN.out; omega) (by
                  unfold okAt
                  rw [show j + 1 - 1 = j from rfl, ← HZ.out, ← HY.out, decide_eq_false (show ¬ y < z by omega)]
                  simp)
                rw [← HN.out] at this
                exact this
              clear hall
              go_wp2_with (go_at_call 52; refine (iHalf_any _ _).mono ?_; rintro e w' ⟨rfl, rfl⟩)
              go_ret
              exact ⟨by rw [HB.out, HF.out]; simp, rfl⟩
            · have HT : Hid ((List.range (j + 1 + 1)).all (okAt zs) = true) := okAll_more hall.out (by
                unfold okAt
                rw [show j + 1 - 1 = j from rfl, ← HZ.out, ← HY.out, hh, decide_eq_true (show y < z by omega)]
                simp)
              clear hall
              go_wp2_with (go_at_call 52; refine (iHalf_any _ _).mono ?_; rintro e w' ⟨rfl, rfl⟩)
              go_round
              case rel => exact ⟨j + 1 + 1, by go_num, by omega, HT⟩
              case measure => simp [intOf]; omega
      · have hkn : k = n := by omega
        have HT : Hid ((List.range n).all (okAt zs) = true) := by rw [← hkn]; exact hall
        have bk : ¬ ((k : Int) < (n : Int)) := by omega
        have HD : Hid (decide (n ≤ 4) = true) := decide_eq_true h4
        clear hall hkn
        go_wp2
        go_ret
        exact ⟨by rw [HB.out, HT.out, HD.out]; rfl, rfl⟩
  · have HD : Hid (decide (n ≤ 4) = false) := decide_eq_false h4
    have h4' : (4 : Int) < (n : Int) := by omega
    go_enter Tryz.func94, Tryz.ntmps94
    go_wp2
    go_ret
    exact ⟨by rw [HB.out, HD.out]; rfl, rfl⟩

theorem outcomeOk_any (a d : Int) (w : World) : Calls Tryz.prog 53 #[.int .i64 a, .int .i64 d] w fun e w' => e = .returned (.bool (outB a d)) ∧ w = w' := by
  have HB : Hid (outB a d = (inB a 0 5 && inB d 0 65535)) := rfl
  cases h0 : inB a 0 5
  · go_enter Tryz.func53, Tryz.ntmps53
    go_wp2_with (go_at_call 93; refine (known_any _ _).mono ?_; rintro e w' ⟨rfl, rfl⟩)
    go_ret
    exact ⟨by rw [HB.out, h0]; rfl, rfl⟩
  · by_cases h1 : 0 ≤ d
    · by_cases h2 : d ≤ 65535
      · have HI : Hid (inB d 0 65535 = true) := inB_true.2 ⟨h1, h2⟩
        have h2' : d < 65536 := by omega
        go_enter Tryz.func53, Tryz.ntmps53
        go_wp2_with (go_at_call 93; refine (known_any _ _).mono ?_; rintro e w' ⟨rfl, rfl⟩)
        go_ret
        exact ⟨by rw [HB.out, h0, HI.out]; simp, rfl⟩
      · have HI : Hid (inB d 0 65535 = false) := inB_false.2 (by omega)
        have h2' : ¬ d < 65536 := by omega
        go_enter Tryz.func53, Tryz.ntmps53
        go_wp2_with (go_at_call 93; refine (known_any _ _).mono ?_; rintro e w' ⟨rfl, rfl⟩)
        go_ret
        exact ⟨by rw [HB.out, h0, HI.out]; simp; omega, rfl⟩
    · have HI : Hid (inB d 0 65535 = false) := inB_false.2 (by omega)
      have h2' : d < 0 := by omega
      go_enter Tryz.func53, Tryz.ntmps53
      go_wp2_with (go_at_call 93; refine (known_any _ _).mono ?_; rintro e w' ⟨rfl, rfl⟩)
      go_ret
      exact ⟨by rw [HB.out, h0, HI.out]; simp, rfl⟩

theorem l09Act_any (a d : Int) (w : World) : Calls Tryz.prog 80 #[.int .i64 a, .int .i64 d] w fun e w' => e = .returned (.bool (outB a d)) ∧ w = w' := by
  have HB : Hid (outB a d = (inB a 0 5 && inB d 0 65535)) := rfl
  cases h0 : inB a 0 5
  · go_enter Tryz.func80, Tryz.ntmps80
    go_wp2_with (go_at_call 110; refine (in_any _ _ _ _).mono ?_; rintro e w' ⟨rfl, rfl⟩)
    go_ret
    exact ⟨by rw [HB.out, h0]; rfl, rfl⟩
  · go_enter Tryz.func80, Tryz.ntmps80
    go_wp2_with (go_at_call 110; refine (in_any _ _ _ _).mono ?_; rintro e w' ⟨rfl, rfl⟩)
    go_ret
    exact ⟨by rw [HB.out, h0]; simp, rfl⟩

set_option maxRecDepth 100000 in
set_option maxHeartbeats 1600000 in
theorem condsOk_any (a : Option Addr) (cap : Nat) (cs : List CN) (w : World) (hl : cs.length ≤ 1048576) (h : Conds w a cs) :
    Calls Tryz.prog 95 #[.slice a cs.length cap] w fun e w' => e = .returned (.bool (condsB cs)) ∧ Ext w w' := by
  obtain ⟨n, hn⟩ : ∃ n, n = cs.length := ⟨_, rfl⟩
  have HN : Hid (n = cs.length) := hn
  have HA : Hid (∀ W, Ext w W → Conds W a cs) := fun W hE => h.step hE
  have HB : Hid (condsB cs = (decide (n ≤ 3) && cs.all condB)) := by rw [hn]; rfl
  rw [← hn] at hl ⊢
  clear hn h
  by_cases h4 : n ≤ 3
  · have HD : Hid (decide (n ≤ 3) = true) := decide_eq_true h4
    go_enter Tryz.func95, Tryz.ntmps95
    go_wp2_with fail
    go_loopw [10] (fun i wr => ∃ k : Nat, i = .int .i64 k ∧ k ≤ n ∧ Hid (Ext w wr) ∧ Hid ((cs.take k).all condB = true)) (fun i _ => n - (intOf i).toNat)
    case atStart => exact ⟨0, rfl, by omega, Ext.refl _, by simp [Hid]⟩
    case round =>
      obtain ⟨k, rfl, hk, hE, hall⟩ := hrel
      by_cases hlt : k < n
      · have bk : (k : Int) < (n : Int) := by omega
        obtain ⟨c, hc⟩ : ∃ c, c = cs.getD k c0 := ⟨_, rfl⟩
        obtain ⟨b, off, rfl, hbl, hs⟩ := (HA.out wr hE.out).at (k := k) (by have := HN.out; omega) hc
        obtain ⟨ag, mh, ml, cm, vh, vl⟩ := c
        obtain ⟨q0, q1, q2, q3, q4, q5⟩ := hs.six
        have HC : Hid (⟨ag, mh, ml, cm, vh, vl⟩ = cs.getD k c0) := hc
        clear hc hs
        simp only at q0 q1 q2 q3 q4 q5
        go_wp2_with fail
        refine (iCondOk_any ag mh ml cm vh vl _).mono ?_
        rintro e w2 ⟨rfl, x2⟩
        have X2 : Hid (Ext w w2) := (hE.out.alloc _).trans x2
        clear x2 q0 q1 q2 q3 q4 q5
        cases hcb : condB ⟨ag, mh, ml, cm, vh, vl⟩
        · have HF : Hid (cs.all condB = false) := all_bad (k := k) (d := c0) (by have := HN.out; omega) (by rw [← HC.out]; exact hcb)
          clear hall
          go_wp2
          go_ret
          exact ⟨by rw [HB.out, HF.out]; simp, X2.out⟩
        · have HT : Hid ((cs.take (k + 1)).all condB = true) := by unfold Hid; rw [all_get cs condB c0 k (by have := HN.out; omega), hall.out, ← HC.out, hcb]; rfl
          clear hall
          go_wp2
          go_roundw
          case rel => exact ⟨k + 1, by go_num, by omega, X2, HT⟩
          case measure => simp [intOf]; omega
      · have hkn : k = n := by omega
        have HT : Hid (cs.all condB = true) := all_end (k := k) (by have := HN.out; omega) hall.out
        have bk : ¬ ((k : Int) < (n : Int)) := by omega
        clear hall hkn
        go_wp2
        go_ret
        exact ⟨by rw [HB.out, HT.out, HD.out]; rfl, hE.out⟩
  · have HD : Hid (decide (n ≤ 3) = false) := decide_eq_false h4
    have h4' : (3 : Int) < (n : Int) := by omega
    go_enter Tryz.func95, Tryz.ntmps95
    go_wp2
    go_ret
    exact ⟨by rw [HB.out, HD.out]; rfl, Ext.refl _⟩

theorem drop_cons {zs : List Int} {k : Nat} (h : k < zs.length) : zs.drop k = zs.getD k 0 :: zs.drop (k + 1) := by
  rw [List.drop_eq_getElem_cons h]
  simp [List.getD_eq_getElem?_getD, h]

set_option maxRecDepth 100000 in
set_option maxHeartbeats 1600000 in
theorem l09In_any (a : Option Addr) (cap : Nat) (zs : List Int) (v : Int) (w : World) (hl : zs.length ≤ 1048576) (h : Nums w a zs) :
    Calls Tryz.prog 114 #[.slice a zs.length cap, .int .i64 v] w fun e w' => e = .returned (.bool (zs.contains v)) ∧ w = w' := by
  obtain ⟨n, hn⟩ : ∃ n, n = zs.length := ⟨_, rfl⟩
  have HN : Hid (n = zs.length) := hn
  have HA : Hid (Nums w a zs) := h
  obtain ⟨x, hx⟩ : ∃ x, x = zs.contains v := ⟨_, rfl⟩
  have HX : Hid ((zs.drop 0).contains v = x) := by rw [hx]; rfl
  rw [← hn] at hl ⊢
  rw [← hx]
  clear hn h hx
  go_enter Tryz.func114, Tryz.ntmps114
  go_wp2_with fail
  go_loop [5] (fun i => ∃ k : Nat, i = .int .i64 k ∧ k ≤ n ∧ Hid ((zs.drop k).contains v = x)) (fun i => n - (intOf i).toNat)
  case atStart => exact ⟨0, rfl, by omega, HX⟩
  case round =>
    obtain ⟨k, rfl, hk, hall⟩ := hrel
    by_cases hlt : k < n
    · have bk : (k : Int) < (n : Int) := by omega
      obtain ⟨b, off, rfl, hbl, hc⟩ := HA.out.at (k := k) (by have := HN.out; omega)
      obtain ⟨z, hz⟩ : ∃ z, z = zs.getD k 0 := ⟨_, rfl⟩
      have HD : Hid ((z :: zs.drop (k + 1)).contains v = x) := by rw [hz, ← drop_cons (by have := HN.out; omega)]; exact hall.out
      rw [← hz] at hc
      clear hz hall
      by_cases hvz : z = v
      · have HR : Hid (x = true) := by have := HD.out; rw [← this, hvz]; simp [Hid]
        have hq : (z == v) = true := by simpa using hvz
        clear hvz
        go_wp2
        go_ret
        exact ⟨by rw [HR.out]; rfl, rfl⟩
      · have HR : Hid ((zs.drop (k + 1)).contains v = x) := by
          have := HD.out
          rw [← this]
          have hq : (v == z) = false := by simp; exact fun e => hvz e.symm
          unfold Hid
          rw [List.contains_cons, hq]
          rfl
        have hq : (z == v) = false := by simpa using hvz
        clear hvz
        go_wp2
        go_round
        case rel => exact ⟨k + 1, by go_num, by omega, HR⟩
        case measure => simp [intOf]; omega
    · have hkn : k = n := by omega
      have HR : Hid (x = false) := by have := hall.out; rw [List.drop_eq_nil_of_le (by have := HN.out; omega)] at this; exact this.symm
      have bk : ¬ ((k : Int) < (n : Int)) := by omega
      clear hall hkn
      go_wp2
      go_ret
      exact ⟨by rw [HR.out]; rfl, rfl⟩

theorem ruleB_if (zs : List Int) (cs : List CN) (a d : Int) : ruleB ⟨zs, cs, a, d⟩ = (outB a d && numsB zs && condsB cs) := rfl

set_option maxRecDepth 100000 in
set_option maxHeartbeats 1600000 in
theorem ruleOk_any (zs : List Int) (cs : List CN) (act data : Int) (a1 a2 : Option Addr) (c1 c2 : Nat) (w : World) (l1 : zs.length ≤ 1048576) (l2 : cs.length ≤ 1048576) (h1 : Nums w a1 zs) (h2 : Conds w a2 cs) :
    Calls Tryz.prog 54 #[.agg #[.slice a1 zs.length c1, .slice a2 cs.length c2, .int .i64 act, .int .i64 data]] w fun e w' => e = .returned (.bool (ruleB ⟨zs, cs, act, data⟩)) ∧ Ext w w' := by
  have HB : Hid (ruleB ⟨zs, cs, act, data⟩ = (outB act data && numsB zs && condsB cs)) := rfl
  have H1 : Hid (∀ W, Ext w W → Calls Tryz.prog 94 #[.slice a1 zs.length c1] W fun e w' => e = .returned (.bool (numsB zs)) ∧ W = w') := fun W hE => numsOk_any a1 c1 zs W l1 (h1.step hE)
  have H2 : Hid (∀ W, Ext w W → Calls Tryz.prog 95 #[.slice a2 cs.length c2] W fun e w' => e = .returned (.bool (condsB cs)) ∧ Ext W w') := fun W hE => condsOk_any a2 c2 cs W l2 (h2.step hE)
  clear h1 h2 l1 l2
  generalize zs.length = n1 at *
  generalize cs.length = n2 at *
  generalize numsB zs = z1 at *
  generalize condsB cs = z2 at *
  obtain ⟨z0, hz0⟩ : ∃ z0, z0 = outB act data := ⟨_, rfl⟩
  have H0 : Hid (∀ W, Calls Tryz.prog 53 #[.int .i64 act, .int .i64 data] W fun e w' => e = .returned (.bool z0) ∧ W = w') := fun W => by rw [hz0]; exact outcomeOk_any act data W
  rw [← hz0] at HB
  clear hz0
  cases z0
  · go_enter Tryz.func54, Tryz.ntmps54
    go_wp2_with fail
    refine (H0.out _).mono ?_
    rintro e w1 ⟨rfl, rfl⟩
    go_wp2
    go_ret
    exact ⟨by rw [HB.out]; rfl, Ext.one _ _⟩
  · cases z1
    · go_enter Tryz.func54, Tryz.ntmps54
      go_wp2_with fail
      refine (H0.out _).mono ?_
      rintro e w1 ⟨rfl, rfl⟩
      go_wp2_with fail
      refine (H1.out _ (Ext.one _ _)).mono ?_
      rintro e w1 ⟨rfl, rfl⟩
      go_wp2
      go_ret
      exact ⟨by rw [HB.out]; rfl, Ext.one _ _⟩
    · go_enter Tryz.func54, Tryz.ntmps54
      go_wp2_with fail
      refine (H0.out _).mono ?_
      rintro e w1 ⟨rfl, rfl⟩
      go_wp2_with fail
      refine (H1.out _ (Ext.one _ _)).mono ?_
      rintro e w1 ⟨rfl, rfl⟩
      go_wp2_with fail
      refine (H2.out _ (Ext.one _ _)).mono ?_
      rintro e w1 ⟨rfl, x1⟩
      have X1 : Hid (Ext w w1) := (Ext.one _ _).trans x1
      clear x1
      go_wp2
      go_ret
      exact ⟨by rw [HB.out]; cases z2 <;> rfl, X1.out⟩

/-- A number lies in a block. -/
def NumAt (w : World) (b o : Nat) (z : Int) : Prop := b < w.heap.size ∧ w.cell? ⟨b, o, none⟩ = some (.int .i64 z)

theorem NumAt.step {w w' : World} {b o : Nat} {z : Int} (h : NumAt w b o z) (hE : Ext w w') : NumAt w' b o z := ⟨Nat.lt_of_lt_of_le h.1 hE.size, (hE.cell (p := ⟨b, o, none⟩) h.1).trans h.2⟩

theorem NumAt.drew {w : World} {b o : Nat} {z : Int} (h : NumAt w b o z) : NumAt w.drew b o z := h

set_option maxRecDepth 100000 in
set_option maxHeartbeats 3200000 in
theorem l09Rule_any (zs : List Int) (cs : List CN) (act data : Int) (a1 a2 : Option Addr) (c1 c2 : Nat) (w : World) (l1 : zs.length ≤ 1048576) (l2 : cs.length ≤ 1048576) (h1 : Nums w a1 zs) (h2 : Conds w a2 cs) :
    Calls Tryz.prog 79 #[.agg #[.slice a1 zs.length c1, .slice a2 cs.length c2, .int .i64 act, .int .i64 data]] w fun e w' => e = .returned (.bool (ruleB ⟨zs, cs, act, data⟩)) ∧ Ext w w' := by
  obtain ⟨n1, hn1⟩ : ∃ n1, n1 = zs.length := ⟨_, rfl⟩
  obtain ⟨n2, hn2⟩ : ∃ n2, n2 = cs.length := ⟨_, rfl⟩
  have HB : Hid (ruleB ⟨zs, cs, act, data⟩ = (outB act data && (decide (n1 ≤ 4) && (List.range n1).all (okAt zs)) && (decide (n2 ≤ 3) && cs.all condB))) := by rw [hn1, hn2]; rfl
  have HN : Hid (n1 = zs.length ∧ n2 = cs.length) := ⟨hn1, hn2⟩
  have H1 : Hid (∀ W, Ext w W → Nums W a1 zs) := fun W hE => h1.step hE
  have H2 : Hid (∀ W, Ext w W → Conds W a2 cs) := fun W hE => h2.step hE
  rw [← hn1] at l1 ⊢
  rw [← hn2] at l2 ⊢
  clear h1 h2 hn1 hn2
  obtain ⟨W, hW⟩ : ∃ W, W = w.alloc (.cells #[.slice a1 n1 c1, .slice a2 n2 c2, .int .i64 act, .int .i64 data] 53) := ⟨_, rfl⟩
  have HX : Hid (CellsAt W w.heap.size [.slice a1 n1 c1, .slice a2 n2 c2, .int .i64 act, .int .i64 data] ∧ Ext w W) := by rw [hW]; exact ⟨CellsAt.new w _ _, Ext.one _ _⟩
  have HW : Hid (W = w.alloc (.cells #[.slice a1 n1 c1, .slice a2 n2 c2, .int .i64 act, .int .i64 data] 53)) := hW
  clear hW
  go_enter Tryz.func79, Tryz.ntmps79
  go_wp2_with fail
  go_loopw [3] (fun i wr => ∃ k : Nat, i = .int .i64 k ∧ k ≤ n1 ∧ Hid (Ext W wr) ∧ Hid ((List.range k).all (okAt zs) = true)) (fun i _ => n1 - (intOf i).toNat)
  case atStart => exact ⟨0, rfl, by omega, by rw [HW.out]; exact Ext.refl _, by simp [Hid]⟩
  case round =>
    obtain ⟨k, rfl, hk, hE, hall⟩ := hrel
    have cx : CellsAt wr w.heap.size [.slice a1 n1 c1, .slice a2 n2 c2, .int .i64 act, .int .i64 data] := HX.out.1.step hE.out
    by_cases hlt : k < n1
    · have bk : (k : Int) < (n1 : Int) := by omega
      obtain ⟨b, off, rfl, hbl, hc⟩ := (H1.out wr (HX.out.2.trans hE.out)).at (k := k) (by have := HN.out.1; omega)
      obtain ⟨z, hz⟩ : ∃ z, z = zs.getD k 0 := ⟨_, rfl⟩
      rw [← hz] at hc
      have HZ : Hid (z = zs.getD k 0) := hz
      have nz : NumAt wr b (off + k) z := ⟨hbl, hc⟩
      have q := cx.2 0 _ rfl
      clear hz hc
      cases hh : halfB z
      · have HF : Hid ((List.range n1).all (okAt zs) = false) := by
          have := okAll_bad (zs := zs) (k := k) (by have := HN.out.1; omega) (by unfold okAt; rw [← HZ.out, hh]; rfl)
          rw [← HN.out.1] at this
          exact this
        have HH : Hid (∀ W', Calls Tryz.prog 71 #[.int .i64 z] W' fun e w' => e = .returned (.bool false) ∧ W' = w') := fun W' => by rw [← hh]; exact sHalf_any z W'
        clear hall hh
        go_wp2_with fail
        clear q
        refine' wp_region_loose (.inl _ :: .inl _ :: .inl _ :: .inl _ :: .inl _ :: .inl _ :: .inl _ :: .inl _ :: .inl undef :: .inl undef :: .inl undef :: .inl undef :: .inl undef :: .inl undef :: .inl undef :: .inl undef :: .inl undef :: .inl undef :: .inl undef :: .inl undef :: .inl undef :: .inl undef :: .inl undef :: .inl undef :: .inl _ :: []) (fun w' => CellsAt w' w.heap.size [.slice (some ⟨b, off, none⟩) n1 c1, .slice a2 n2 c2, .int .i64 act, .int .i64 data] ∧ NumAt w' b (off + k) z) (by kernel_rfl) (by kernel_rfl) (⟨cx.drew, nz.drew⟩) (fun _ _ h hE => ⟨h.1.step hE, h.2.step hE⟩) ?hAx ?hlx ?hMx
        case' hMx => skip
        apply wpLoose_val rfl rfl
        case hs =>
          intro w1 hC hd Q1 hQ1
          obtain ⟨hE, hS⟩ := hC
          dsimp only [bare]
          obtain ⟨q, ⟨_, q1⟩⟩ := (⟨hS.1.2 0 _ rfl, hS.2⟩ : _ ∧ _)
          clear hd hE
          try clear hS
          go_wp2
          exact Ext.refl _
        case ha => rfl
        apply wpLoose_val rfl rfl
        case hs =>
          intro w1 hC hd Q1 hQ1
          obtain ⟨hE, hS⟩ := hC
          dsimp only [bare]
          obtain ⟨q, ⟨_, q1⟩⟩ := (⟨hS.1.2 0 _ rfl, hS.2⟩ : _ ∧ _)
          clear hd hE
          try clear hS
          go_wp2
          exact Ext.refl _
        case ha => rfl
        apply wpLoose_val rfl rfl
        case hs =>
          intro w1 hC hd Q1 hQ1
          obtain ⟨hE, hS⟩ := hC
          dsimp only [bare]
          obtain ⟨q, ⟨_, q1⟩⟩ := (⟨hS.1.2 0 _ rfl, hS.2⟩ : _ ∧ _)
          clear hd hE
          try clear hS
          go_wp2
          exact Ext.refl _
        case ha => rfl
        apply wpLoose_val rfl rfl
        case hs =>
          intro w1 hC hd Q1 hQ1
          obtain ⟨hE, hS⟩ := hC
          dsimp only [bare]
          obtain ⟨q, ⟨_, q1⟩⟩ := (⟨hS.1.2 0 _ rfl, hS.2⟩ : _ ∧ _)
          clear hd hE
          try clear hS
          go_wp2
          exact Ext.refl _
        case ha => rfl
        apply wpLoose_val rfl rfl
        case hs =>
          intro w1 hC hd Q1 hQ1
          obtain ⟨hE, hS⟩ := hC
          dsimp only [bare]
          obtain ⟨q, ⟨_, q1⟩⟩ := (⟨hS.1.2 0 _ rfl, hS.2⟩ : _ ∧ _)
          clear hd hE
          try clear hS
          go_wp2
          exact Ext.refl _
        case ha => rfl
        apply wpLoose_val rfl rfl
        case hs =>
          intro w1 hC hd Q1 hQ1
          obtain ⟨hE, hS⟩ := hC
          dsimp only [bare]
          clear hd
          go_wp2_with fail
          refine (HH.out _).mono ?_
          rintro e w2 ⟨rfl, rfl⟩
          go_wp2_with fail
          exact Ext.refl _
        case ha => rfl
        apply wpLoose_val rfl rfl
        case hs =>
          intro w1 hC hd Q1 hQ1
          obtain ⟨hE, hS⟩ := hC
          dsimp only [bare]
          obtain ⟨q, ⟨_, q1⟩⟩ := (⟨hS.1.2 0 _ rfl, hS.2⟩ : _ ∧ _)
          clear hd hE
          try clear hS
          go_wp2
          exact Ext.refl _
        case ha => rfl
        apply wpLoose_val rfl rfl
        case hs =>
          intro w1 hC hd Q1 hQ1
          obtain ⟨hE, hS⟩ := hC
          dsimp only [bare]
          obtain ⟨q, ⟨_, q1⟩⟩ := (⟨hS.1.2 0 _ rfl, hS.2⟩ : _ ∧ _)
          clear hd hE
          try clear hS
          go_wp2
          exact Ext.refl _
        case ha => rfl
        refine wpLoose_skip rfl rfl ?_
        try simp only [Act.put, List.setIfInBounds_toArray, List.set_cons_succ, List.set_cons_zero]
        refine wpLoose_skip rfl rfl ?_
        try simp only [Act.put, List.setIfInBounds_toArray, List.set_cons_succ, List.set_cons_zero]
        refine wpLoose_skip rfl rfl ?_
        try simp only [Act.put, List.setIfInBounds_toArray, List.set_cons_succ, List.set_cons_zero]
        refine wpLoose_skip rfl rfl ?_
        try simp only [Act.put, List.setIfInBounds_toArray, List.set_cons_succ, List.set_cons_zero]
        refine wpLoose_skip rfl rfl ?_
        try simp only [Act.put, List.setIfInBounds_toArray, List.set_cons_succ, List.set_cons_zero]
        refine wpLoose_skip rfl rfl ?_
        try simp only [Act.put, List.setIfInBounds_toArray, List.set_cons_succ, List.set_cons_zero]
        refine wpLoose_skip rfl rfl ?_
        try simp only [Act.put, List.setIfInBounds_toArray, List.set_cons_succ, List.set_cons_zero]
        refine wpLoose_skip rfl rfl ?_
        try simp only [Act.put, List.setIfInBounds_toArray, List.set_cons_succ, List.set_cons_zero]
        refine wpLoose_skip rfl rfl ?_
        try simp only [Act.put, List.setIfInBounds_toArray, List.set_cons_succ, List.set_cons_zero]
        refine wpLoose_skip rfl rfl ?_
        try simp only [Act.put, List.setIfInBounds_toArray, List.set_cons_succ, List.set_cons_zero]
        refine wpLoose_skip rfl rfl ?_
        try simp only [Act.put, List.setIfInBounds_toArray, List.set_cons_succ, List.set_cons_zero]
        refine wpLoose_skip rfl rfl ?_
        try simp only [Act.put, List.setIfInBounds_toArray, List.set_cons_succ, List.set_cons_zero]
        refine wpLoose_skip rfl rfl ?_
        try simp only [Act.put, List.setIfInBounds_toArray, List.set_cons_succ, List.set_cons_zero]
        refine wpLoose_skip rfl rfl ?_
        try simp only [Act.put, List.setIfInBounds_toArray, List.set_cons_succ, List.set_cons_zero]
        refine wpLoose_skip rfl rfl ?_
        try simp only [Act.put, List.setIfInBounds_toArray, List.set_cons_succ, List.set_cons_zero]
        refine wpLoose_skip rfl rfl ?_
        try simp only [Act.put, List.setIfInBounds_toArray, List.set_cons_succ, List.set_cons_zero]
        apply wpLoose_val rfl rfl
        case hs =>
          intro w1 hC hd Q1 hQ1
          obtain ⟨hE, hS⟩ := hC
          dsimp only [bare]
          obtain ⟨q, ⟨_, q1⟩⟩ := (⟨hS.1.2 0 _ rfl, hS.2⟩ : _ ∧ _)
          clear hd hE
          try clear hS
          go_wp2
          exact Ext.refl _
        case ha => rfl
        refine wpLoose_nil ?_
        intro wx hEx hSx hFx
        have X2 : Hid (Ext w wx) := (HX.out.2.trans hE.out).drew.trans hEx
        clear hFx hSx hEx cx nz
        go_wp2
        go_ret
        exact ⟨by rw [HB.out, HF.out]; simp, X2.out⟩
        case hAx => kernel_rfl
        case hlx => exact ⟨trivial, trivial, trivial, trivial, trivial, trivial, trivial, trivial, trivial, trivial, trivial, trivial, trivial, trivial, trivial, trivial, trivial, trivial, trivial, trivial, trivial, trivial, trivial, trivial, trivial, trivial⟩
      · have HH : Hid (∀ W', Calls Tryz.prog 71 #[.int .i64 z] W' fun e w' => e = .returned (.bool true) ∧ W' = w') := fun W' => by rw [← hh]; exact sHalf_any z W'
        by_cases hk0 : k = 0
        · subst hk0
          have HT : Hid ((List.range 1).all (okAt zs) = true) := okAll_more hall.out (by unfold okAt; rw [← HZ.out, hh]; rfl)
          rw [Nat.add_zero] at nz
          clear hall hh
          go_wp2_with fail
          clear q
          refine' wp_region_loose (.inl _ :: .inl _ :: .inl _ :: .inl _ :: .inl _ :: .inl _ :: .inl _ :: .inl _ :: .inl _ :: .inl _ :: .inl _ :: .inl undef :: .inl undef :: .inl undef :: .inl undef :: .inl undef :: .inl undef :: .inl undef :: .inl undef :: .inl undef :: .inl undef :: .inl undef :: .inl undef :: .inl _ :: .inl _ :: []) (fun w' => CellsAt w' w.heap.size [.slice (some ⟨b, off, none⟩) n1 c1, .slice a2 n2 c2, .int .i64 act, .int .i64 data] ∧ NumAt w' b off z) (by kernel_rfl) (by kernel_rfl) (⟨cx.drew, nz.drew⟩) (fun _ _ h hE => ⟨h.1.step hE, h.2.step hE⟩) ?hAy ?hly ?hMy
          case' hMy => skip
          apply wpLoose_val rfl rfl
          case hs =>
            intro w1 hC hd Q1 hQ1
            obtain ⟨hE, hS⟩ := hC
            dsimp only [bare]
            obtain ⟨q, ⟨_, q1⟩⟩ := (⟨hS.1.2 0 _ rfl, hS.2⟩ : _ ∧ _)
            clear hd hE
            try clear hS
            go_wp2
            exact Ext.refl _
          case ha => rfl
          apply wpLoose_val rfl rfl
          case hs =>
            intro w1 hC hd Q1 hQ1
            obtain ⟨hE, hS⟩ := hC
            dsimp only [bare]
            obtain ⟨q, ⟨_, q1⟩⟩ := (⟨hS.1.2 0 _ rfl, hS.2⟩ : _ ∧ _)
            clear hd hE
            try clear hS
            go_wp2
            exact Ext.refl _
          case ha => rfl
          apply wpLoose_val rfl rfl
          case hs =>
            intro w1 hC hd Q1 hQ1
            obtain ⟨hE, hS⟩ := hC
            dsimp only [bare]
            obtain ⟨q, ⟨_, q1⟩⟩ := (⟨hS.1.2 0 _ rfl, hS.2⟩ : _ ∧ _)
            clear hd hE
            try clear hS
            go_wp2
            exact Ext.refl _
          case ha => rfl
          apply wpLoose_val rfl rfl
          case hs =>
            intro w1 hC hd Q1 hQ1
            obtain ⟨hE, hS⟩ := hC
            dsimp only [bare]
            obtain ⟨q, ⟨_, q1⟩⟩ := (⟨hS.1.2 0 _ rfl, hS.2⟩ : _ ∧ _)
            clear hd hE
            try clear hS
            go_wp2
            exact Ext.refl _
          case ha => rfl
          apply wpLoose_val rfl rfl
          case hs =>
            intro w1 hC hd Q1 hQ1
            obtain ⟨hE, hS⟩ := hC
            dsimp only [bare]
            obtain ⟨q, ⟨_, q1⟩⟩ := (⟨hS.1.2 0 _ rfl, hS.2⟩ : _ ∧ _)
            clear hd hE
            try clear hS
            go_wp2
            exact Ext.refl _
          case ha => rfl
          apply wpLoose_val rfl rfl
          case hs =>
            intro w1 hC hd Q1 hQ1
            obtain ⟨hE, hS⟩ := hC
            dsimp only [bare]
            clear hd
            go_wp2_with fail
            refine (HH.out _).mono ?_
            rintro e w2 ⟨rfl, rfl⟩
            go_wp2_with fail
            exact Ext.refl _
          case ha => rfl
          apply wpLoose_val rfl rfl
          case hs =>
            intro w1 hC hd Q1 hQ1
            obtain ⟨hE, hS⟩ := hC
            dsimp only [bare]
            obtain ⟨q, ⟨_, q1⟩⟩ := (⟨hS.1.2 0 _ rfl, hS.2⟩ : _ ∧ _)
            clear hd hE
            try clear hS
            go_wp2
            exact Ext.refl _
          case ha => rfl
          apply wpLoose_val rfl rfl
          case hs =>
            intro w1 hC hd Q1 hQ1
            obtain ⟨hE, hS⟩ := hC
            dsimp only [bare]
            obtain ⟨q, ⟨_, q1⟩⟩ := (⟨hS.1.2 0 _ rfl, hS.2⟩ : _ ∧ _)
            clear hd hE
            try clear hS
            go_wp2
            exact Ext.refl _
          case ha => rfl
          apply wpLoose_val rfl rfl
          case hs =>
            intro w1 hC hd Q1 hQ1
            obtain ⟨hE, hS⟩ := hC
            dsimp only [bare]
            obtain ⟨q, ⟨_, q1⟩⟩ := (⟨hS.1.2 0 _ rfl, hS.2⟩ : _ ∧ _)
            clear hd hE
            try clear hS
            go_wp2
            exact Ext.refl _
          case ha => rfl
          apply wpLoose_val rfl rfl
          case hs =>
            intro w1 hC hd Q1 hQ1
            obtain ⟨hE, hS⟩ := hC
            dsimp only [bare]
            obtain ⟨q, ⟨_, q1⟩⟩ := (⟨hS.1.2 0 _ rfl, hS.2⟩ : _ ∧ _)
            clear hd hE
            try clear hS
            go_wp2
            exact Ext.refl _
          case ha => rfl
          apply wpLoose_val rfl rfl
          case hs =>
            intro w1 hC hd Q1 hQ1
            obtain ⟨hE, hS⟩ := hC
            dsimp only [bare]
            obtain ⟨q, ⟨_, q1⟩⟩ := (⟨hS.1.2 0 _ rfl, hS.2⟩ : _ ∧ _)
            clear hd hE
            try clear hS
            go_wp2
            exact Ext.refl _
          case ha => rfl
          refine wpLoose_skip rfl rfl ?_
          try simp only [Act.put, List.setIfInBounds_toArray, List.set_cons_succ, List.set_cons_zero]
          refine wpLoose_skip rfl rfl ?_
          try simp only [Act.put, List.setIfInBounds_toArray, List.set_cons_succ, List.set_cons_zero]
          refine wpLoose_skip rfl rfl ?_
          try simp only [Act.put, List.setIfInBounds_toArray, List.set_cons_succ, List.set_cons_zero]
          refine wpLoose_skip rfl rfl ?_
          try simp only [Act.put, List.setIfInBounds_toArray, List.set_cons_succ, List.set_cons_zero]
          refine wpLoose_skip rfl rfl ?_
          try simp only [Act.put, List.setIfInBounds_toArray, List.set_cons_succ, List.set_cons_zero]
          refine wpLoose_skip rfl rfl ?_
          try simp only [Act.put, List.setIfInBounds_toArray, List.set_cons_succ, List.set_cons_zero]
          refine wpLoose_skip rfl rfl ?_
          try simp only [Act.put, List.setIfInBounds_toArray, List.set_cons_succ, List.set_cons_zero]
          refine wpLoose_skip rfl rfl ?_
          try simp only [Act.put, List.setIfInBounds_toArray, List.set_cons_succ, List.set_cons_zero]
          refine wpLoose_skip rfl rfl ?_
          try simp only [Act.put, List.setIfInBounds_toArray, List.set_cons_succ, List.set_cons_zero]
          refine wpLoose_skip rfl rfl ?_
          try simp only [Act.put, List.setIfInBounds_toArray, List.set_cons_succ, List.set_cons_zero]
          refine wpLoose_skip rfl rfl ?_
          try simp only [Act.put, List.setIfInBounds_toArray, List.set_cons_succ, List.set_cons_zero]
          refine wpLoose_skip rfl rfl ?_
          try simp only [Act.put, List.setIfInBounds_toArray, List.set_cons_succ, List.set_cons_zero]
          apply wpLoose_val rfl rfl
          case hs =>
            intro w1 hC hd Q1 hQ1
            obtain ⟨hE, hS⟩ := hC
            dsimp only [bare]
            obtain ⟨q, ⟨_, q1⟩⟩ := (⟨hS.1.2 0 _ rfl, hS.2⟩ : _ ∧ _)
            clear hd hE
            try clear hS
            go_wp2
            exact Ext.refl _
          case ha => rfl
          apply wpLoose_val rfl rfl
          case hs =>
            intro w1 hC hd Q1 hQ1
            obtain ⟨hE, hS⟩ := hC
            dsimp only [bare]
            obtain ⟨q, ⟨_, q1⟩⟩ := (⟨hS.1.2 0 _ rfl, hS.2⟩ : _ ∧ _)
            clear hd hE
            try clear hS
            go_wp2
            exact Ext.refl _
          case ha => rfl
          refine wpLoose_nil ?_
          intro wy hEy hSy hFy
          have X2 : Hid (Ext W wy) := hE.out.drew.trans hEy
          clear hFy hSy hEy cx nz
          go_wp2
          go_roundw
          case rel => exact ⟨1, by go_num, by omega, X2, HT⟩
          case measure => simp [intOf]; omega
          case hAy => kernel_rfl
          case hly => exact ⟨trivial, trivial, trivial, trivial, trivial, trivial, trivial, trivial, trivial, trivial, trivial, trivial, trivial, trivial, trivial, trivial, trivial, trivial, trivial, trivial, trivial, trivial, trivial, trivial, trivial, trivial⟩
        · obtain ⟨j, rfl⟩ : ∃ j, k = j + 1 := ⟨k - 1, by omega⟩
          obtain ⟨b', off', e', _, hc'⟩ := (H1.out wr (HX.out.2.trans hE.out)).at (k := j) (by have := HN.out.1; omega)
          obtain ⟨rfl, rfl⟩ : b = b' ∧ off = off' := by injection e' with e'; injection e' with e1 e2; exact ⟨e1, e2⟩
          clear e'
          obtain ⟨y, hy⟩ : ∃ y, y = zs.getD j 0 := ⟨_, rfl⟩
          rw [← hy] at hc'
          have HY : Hid (y = zs.getD j 0) := hy
          have ny : NumAt wr b (off + j) y := ⟨hbl, hc'⟩
          clear hy hk0 hc'
          have hj1 : (j : Int) + 1 - 1 = j := by omega
          have hj2 : (0 : Int) < (j : Int) + 1 := by omega
          have hj3 : (j : Int) < n1 := by omega
          have hj4 : (j : Int) + 1 < n1 := by omega
          obtain ⟨d, hd0⟩ : ∃ d, d = decide (z ≤ y) := ⟨_, rfl⟩
          have HO : Hid (okAt zs (j + 1) = !d) := by
            unfold Hid okAt
            rw [show j + 1 - 1 = j from rfl, ← HZ.out, ← HY.out, hh, hd0]
            by_cases h : z ≤ y
            · simp [h]
            · simp [h]; omega
          have hdd : decide (z ≤ y) = d := hd0.symm
          clear hd0 hh
          go_wp2_with fail
          clear q
          refine' wp_region_loose (.inl _ :: .inl _ :: .inl _ :: .inl _ :: .inl _ :: .inl _ :: .inl _ :: .inl _ :: .inl _ :: .inl _ :: .inl _ :: .inl _ :: .inl _ :: .inl _ :: .inl _ :: .inl _ :: .inl _ :: .inl _ :: .inl _ :: .inl _ :: .inl _ :: .inl _ :: .inl _ :: .inl _ :: .inl _ :: []) (fun w' => CellsAt w' w.heap.size [.slice (some ⟨b, off, none⟩) n1 c1, .slice a2 n2 c2, .int .i64 act, .int .i64 data] ∧ NumAt w' b (off + (j + 1)) z ∧ NumAt w' b (off + j) y) (by kernel_rfl) (by kernel_rfl) (⟨cx.drew, nz.drew, ny.drew⟩) (fun _ _ h hE => ⟨h.1.step hE, h.2.1.step hE, h.2.2.step hE⟩) ?hAz ?hlz ?hMz
          case' hMz => skip
          apply wpLoose_val rfl rfl
          case hs =>
            intro w1 hC hd Q1 hQ1
            obtain ⟨hE, hS⟩ := hC
            dsimp only [bare]
            obtain ⟨q, ⟨_, q1⟩, ⟨_, q2⟩⟩ := (⟨hS.1.2 0 _ rfl, hS.2.1, hS.2.2⟩ : _ ∧ _ ∧ _)
            clear hd hE
            try clear hS
            go_wp2
            exact Ext.refl _
          case ha => rfl
          apply wpLoose_val rfl rfl
          case hs =>
            intro w1 hC hd Q1 hQ1
            obtain ⟨hE, hS⟩ := hC
            dsimp only [bare]
            obtain ⟨q, ⟨_, q1⟩, ⟨_, q2⟩⟩ := (⟨hS.1.2 0 _ rfl, hS.2.1, hS.2.2⟩ : _ ∧ _ ∧ _)
            clear hd hE
            try clear hS
            go_wp2
            exact Ext.refl _
          case ha => rfl
          apply wpLoose_val rfl rfl
          case hs =>
            intro w1 hC hd Q1 hQ1
            obtain ⟨hE, hS⟩ := hC
            dsimp only [bare]
            obtain ⟨q, ⟨_, q1⟩, ⟨_, q2⟩⟩ := (⟨hS.1.2 0 _ rfl, hS.2.1, hS.2.2⟩ : _ ∧ _ ∧ _)
            clear hd hE
            try clear hS
            go_wp2
            exact Ext.refl _
          case ha => rfl
          apply wpLoose_val rfl rfl
          case hs =>
            intro w1 hC hd Q1 hQ1
            obtain ⟨hE, hS⟩ := hC
            dsimp only [bare]
            obtain ⟨q, ⟨_, q1⟩, ⟨_, q2⟩⟩ := (⟨hS.1.2 0 _ rfl, hS.2.1, hS.2.2⟩ : _ ∧ _ ∧ _)
            clear hd hE
            try clear hS
            go_wp2
            exact Ext.refl _
          case ha => rfl
          apply wpLoose_val rfl rfl
          case hs =>
            intro w1 hC hd Q1 hQ1
            obtain ⟨hE, hS⟩ := hC
            dsimp only [bare]
            obtain ⟨q, ⟨_, q1⟩, ⟨_, q2⟩⟩ := (⟨hS.1.2 0 _ rfl, hS.2.1, hS.2.2⟩ : _ ∧ _ ∧ _)
            clear hd hE
            try clear hS
            go_wp2
            exact Ext.refl _
          case ha => rfl
          apply wpLoose_val rfl rfl
          case hs =>
            intro w1 hC hd Q1 hQ1
            obtain ⟨hE, hS⟩ := hC
            dsimp only [bare]
            clear hd
            go_wp2_with fail
            refine (HH.out _).mono ?_
            rintro e w2 ⟨rfl, rfl⟩
            go_wp2_with fail
            exact Ext.refl _
          case ha => rfl
          apply wpLoose_val rfl rfl
          case hs =>
            intro w1 hC hd Q1 hQ1
            obtain ⟨hE, hS⟩ := hC
            dsimp only [bare]
            obtain ⟨q, ⟨_, q1⟩, ⟨_, q2⟩⟩ := (⟨hS.1.2 0 _ rfl, hS.2.1, hS.2.2⟩ : _ ∧ _ ∧ _)
            clear hd hE
            try clear hS
            go_wp2
            exact Ext.refl _
          case ha => rfl
          apply wpLoose_val rfl rfl
          case hs =>
            intro w1 hC hd Q1 hQ1
            obtain ⟨hE, hS⟩ := hC
            dsimp only [bare]
            obtain ⟨q, ⟨_, q1⟩, ⟨_, q2⟩⟩ := (⟨hS.1.2 0 _ rfl, hS.2.1, hS.2.2⟩ : _ ∧ _ ∧ _)
            clear hd hE
            try clear hS
            go_wp2
            exact Ext.refl _
          case ha => rfl
          apply wpLoose_val rfl rfl
          case hs =>
            intro w1 hC hd Q1 hQ1
            obtain ⟨hE, hS⟩ := hC
            dsimp only [bare]
            obtain ⟨q, ⟨_, q1⟩, ⟨_, q2⟩⟩ := (⟨hS.1.2 0 _ rfl, hS.2.1, hS.2.2⟩ : _ ∧ _ ∧ _)
            clear hd hE
            try clear hS
            go_wp2
            exact Ext.refl _
          case ha => rfl
          apply wpLoose_val rfl rfl
          case hs =>
            intro w1 hC hd Q1 hQ1
            obtain ⟨hE, hS⟩ := hC
            dsimp only [bare]
            obtain ⟨q, ⟨_, q1⟩, ⟨_, q2⟩⟩ := (⟨hS.1.2 0 _ rfl, hS.2.1, hS.2.2⟩ : _ ∧ _ ∧ _)
            clear hd hE
            try clear hS
            go_wp2
            exact Ext.refl _
          case ha => rfl
          apply wpLoose_val rfl rfl
          case hs =>
            intro w1 hC hd Q1 hQ1
            obtain ⟨hE, hS⟩ := hC
            dsimp only [bare]
            obtain ⟨q, ⟨_, q1⟩, ⟨_, q2⟩⟩ := (⟨hS.1.2 0 _ rfl, hS.2.1, hS.2.2⟩ : _ ∧ _ ∧ _)
            clear hd hE
            try clear hS
            go_wp2
            exact Ext.refl _
          case ha => rfl
          apply wpLoose_val rfl rfl
          case hs =>
            intro w1 hC hd Q1 hQ1
            obtain ⟨hE, hS⟩ := hC
            dsimp only [bare]
            obtain ⟨q, ⟨_, q1⟩, ⟨_, q2⟩⟩ := (⟨hS.1.2 0 _ rfl, hS.2.1, hS.2.2⟩ : _ ∧ _ ∧ _)
            clear hd hE
            try clear hS
            go_wp2
            exact Ext.refl _
          case ha => rfl
          apply wpLoose_val rfl rfl
          case hs =>
            intro w1 hC hd Q1 hQ1
            obtain ⟨hE, hS⟩ := hC
            dsimp only [bare]
            obtain ⟨q, ⟨_, q1⟩, ⟨_, q2⟩⟩ := (⟨hS.1.2 0 _ rfl, hS.2.1, hS.2.2⟩ : _ ∧ _ ∧ _)
            clear hd hE
            try clear hS
            go_wp2
            exact Ext.refl _
          case ha => rfl
          apply wpLoose_val rfl rfl
          case hs =>
            intro w1 hC hd Q1 hQ1
            obtain ⟨hE, hS⟩ := hC
            dsimp only [bare]
            obtain ⟨q, ⟨_, q1⟩, ⟨_, q2⟩⟩ := (⟨hS.1.2 0 _ rfl, hS.2.1, hS.2.2⟩ : _ ∧ _ ∧ _)
            clear hd hE
            try clear hS
            go_wp2
            exact Ext.refl _
          case ha => rfl
          apply wpLoose_val rfl rfl
          case hs =>
            intro w1 hC hd Q1 hQ1
            obtain ⟨hE, hS⟩ := hC
            dsimp only [bare]
            obtain ⟨q, ⟨_, q1⟩, ⟨_, q2⟩⟩ := (⟨hS.1.2 0 _ rfl, hS.2.1, hS.2.2⟩ : _ ∧ _ ∧ _)
            clear hd hE
            try clear hS
            go_wp2
            exact Ext.refl _
          case ha => rfl
          apply wpLoose_val rfl rfl
          case hs =>
            intro w1 hC hd Q1 hQ1
            obtain ⟨hE, hS⟩ := hC
            dsimp only [bare]
            obtain ⟨q, ⟨_, q1⟩, ⟨_, q2⟩⟩ := (⟨hS.1.2 0 _ rfl, hS.2.1, hS.2.2⟩ : _ ∧ _ ∧ _)
            clear hd hE
            try clear hS
            go_wp2
            exact Ext.refl _
          case ha => rfl
          apply wpLoose_val rfl rfl
          case hs =>
            intro w1 hC hd Q1 hQ1
            obtain ⟨hE, hS⟩ := hC
            dsimp only [bare]
            obtain ⟨q, ⟨_, q1⟩, ⟨_, q2⟩⟩ := (⟨hS.1.2 0 _ rfl, hS.2.1, hS.2.2⟩ : _ ∧ _ ∧ _)
            clear hd hE
            try clear hS
            go_wp2
            exact Ext.refl _
          case ha => rfl
          apply wpLoose_val rfl rfl
          case hs =>
            intro w1 hC hd Q1 hQ1
            obtain ⟨hE, hS⟩ := hC
            dsimp only [bare]
            obtain ⟨q, ⟨_, q1⟩, ⟨_, q2⟩⟩ := (⟨hS.1.2 0 _ rfl, hS.2.1, hS.2.2⟩ : _ ∧ _ ∧ _)
            clear hd hE
            try clear hS
            go_wp2
            exact Ext.refl _
          case ha => rfl
          apply wpLoose_val rfl rfl
          case hs =>
            intro w1 hC hd Q1 hQ1
            obtain ⟨hE, hS⟩ := hC
            dsimp only [bare]
            obtain ⟨q, ⟨_, q1⟩, ⟨_, q2⟩⟩ := (⟨hS.1.2 0 _ rfl, hS.2.1, hS.2.2⟩ : _ ∧ _ ∧ _)
            clear hd hE
            try clear hS
            go_wp2
            exact Ext.refl _
          case ha => rfl
          apply wpLoose_val rfl rfl
          case hs =>
            intro w1 hC hd Q1 hQ1
            obtain ⟨hE, hS⟩ := hC
            dsimp only [bare]
            obtain ⟨q, ⟨_, q1⟩, ⟨_, q2⟩⟩ := (⟨hS.1.2 0 _ rfl, hS.2.1, hS.2.2⟩ : _ ∧ _ ∧ _)
            clear hd hE
            try clear hS
            go_wp2
            exact Ext.refl _
          case ha => rfl
          apply wpLoose_val rfl rfl
          case hs =>
            intro w1 hC hd Q1 hQ1
            obtain ⟨hE, hS⟩ := hC
            dsimp only [bare]
            obtain ⟨q, ⟨_, q1⟩, ⟨_, q2⟩⟩ := (⟨hS.1.2 0 _ rfl, hS.2.1, hS.2.2⟩ : _ ∧ _ ∧ _)
            clear hd hE
            try clear hS
            go_wp2
            exact Ext.refl _
          case ha => rfl
          apply wpLoose_val rfl rfl
          case hs =>
            intro w1 hC hd Q1 hQ1
            obtain ⟨hE, hS⟩ := hC
            dsimp only [bare]
            obtain ⟨q, ⟨_, q1⟩, ⟨_, q2⟩⟩ := (⟨hS.1.2 0 _ rfl, hS.2.1, hS.2.2⟩ : _ ∧ _ ∧ _)
            clear hd hE
            try clear hS
            go_wp2
            exact Ext.refl _
          case ha => rfl
          apply wpLoose_val rfl rfl
          case hs =>
            intro w1 hC hd Q1 hQ1
            obtain ⟨hE, hS⟩ := hC
            dsimp only [bare]
            obtain ⟨q, ⟨_, q1⟩, ⟨_, q2⟩⟩ := (⟨hS.1.2 0 _ rfl, hS.2.1, hS.2.2⟩ : _ ∧ _ ∧ _)
            clear hd hE
            try clear hS
            go_wp2
            exact Ext.refl _
          case ha => rfl
          apply wpLoose_val rfl rfl
          case hs =>
            intro w1 hC hd Q1 hQ1
            obtain ⟨hE, hS⟩ := hC
            dsimp only [bare]
            obtain ⟨q, ⟨_, q1⟩, ⟨_, q2⟩⟩ := (⟨hS.1.2 0 _ rfl, hS.2.1, hS.2.2⟩ : _ ∧ _ ∧ _)
            clear hd hE
            try clear hS
            go_wp2
            exact Ext.refl _
          case ha => rfl
          apply wpLoose_val rfl rfl
          case hs =>
            intro w1 hC hd Q1 hQ1
            obtain ⟨hE, hS⟩ := hC
            dsimp only [bare]
            obtain ⟨q, ⟨_, q1⟩, ⟨_, q2⟩⟩ := (⟨hS.1.2 0 _ rfl, hS.2.1, hS.2.2⟩ : _ ∧ _ ∧ _)
            clear hd hE
            try clear hS
            go_wp2
            exact Ext.refl _
          case ha => rfl
          refine wpLoose_nil ?_
          intro wz hEz hSz hFz
          have X2 : Hid (Ext W wz) := hE.out.drew.trans hEz
          clear hFz hSz hEz cx nz ny
          cases d
          · have HT : Hid ((List.range (j + 1 + 1)).all (okAt zs) = true) := okAll_more hall.out HO.out
            clear hall
            go_wp2
            go_roundw
            case rel => exact ⟨j + 1 + 1, by go_num, by omega, X2, HT⟩
            case measure => simp [intOf]; omega
          · have HF : Hid ((List.range n1).all (okAt zs) = false) := by
              have := okAll_bad (zs := zs) (k := j + 1) (by have := HN.out.1; omega) HO.out
              rw [← HN.out.1] at this
              exact this
            clear hall
            go_wp2
            go_ret
            exact ⟨by rw [HB.out, HF.out]; simp, HX.out.2.trans X2.out⟩
          case hAz => kernel_rfl
          case hlz => exact ⟨trivial, trivial, trivial, trivial, trivial, trivial, trivial, trivial, trivial, trivial, trivial, trivial, trivial, trivial, trivial, trivial, trivial, trivial, trivial, trivial, trivial, trivial, trivial, trivial, trivial, trivial⟩
    · have hkn : k = n1 := by omega
      have HT : Hid ((List.range n1).all (okAt zs) = true) := by rw [← hkn]; exact hall
      have bk : ¬ ((k : Int) < (n1 : Int)) := by omega
      have q := cx.2 0 _ rfl
      clear hall hkn
      go_wp2_with fail
      clear q
      rename World => wf
      have HX3 : Hid (CellsAt wf w.heap.size [.slice a1 n1 c1, .slice a2 n2 c2, .int .i64 act, .int .i64 data] ∧ Ext w wf) := ⟨cx, HX.out.2.trans hE.out⟩
      clear cx hE HX
      go_loopw [4] (fun i wt => ∃ k : Nat, i = .int .i64 k ∧ k ≤ n2 ∧ Hid (Ext wf wt) ∧ Hid ((cs.take k).all condB = true)) (fun i _ => n2 - (intOf i).toNat)
      case atStart => exact ⟨0, rfl, by omega, Ext.refl _, by simp [Hid]⟩
      case round =>
        obtain ⟨k, rfl, hk, hE, hall⟩ := hrel
        have cx : CellsAt wr w.heap.size [.slice a1 n1 c1, .slice a2 n2 c2, .int .i64 act, .int .i64 data] := HX3.out.1.step hE.out
        have q1 := cx.2 1 _ rfl
        by_cases hlt : k < n2
        · have bk : (k : Int) < (n2 : Int) := by omega
          obtain ⟨c, hc⟩ : ∃ c, c = cs.getD k c0 := ⟨_, rfl⟩
          obtain ⟨b, off, rfl, hbl, hs⟩ := (H2.out wr (HX3.out.2.trans hE.out)).at (k := k) (by have := HN.out.2; omega) hc
          obtain ⟨ag, mh, ml, cm, vh, vl⟩ := c
          obtain ⟨s0, s1, s2, s3, s4, s5⟩ := hs.six
          have HC : Hid (⟨ag, mh, ml, cm, vh, vl⟩ = cs.getD k c0) := hc
          clear hc hs cx
          simp only at s0 s1 s2 s3 s4 s5
          go_wp2_with fail
          refine (sCondOk_any ag mh ml cm vh vl _).mono ?_
          rintro e w2 ⟨rfl, x2⟩
          have X2 : Hid (Ext wf w2) := hE.out.trans x2
          clear x2 s0 s1 s2 s3 s4 s5 q1
          cases hcb : condB ⟨ag, mh, ml, cm, vh, vl⟩
          · have HF : Hid (cs.all condB = false) := all_bad (k := k) (d := c0) (by have := HN.out.2; omega) (by rw [← HC.out]; exact hcb)
            clear hall
            go_wp2
            go_ret
            exact ⟨by rw [HB.out, HF.out]; simp, HX3.out.2.trans X2.out⟩
          · have HT2 : Hid ((cs.take (k + 1)).all condB = true) := by unfold Hid; rw [all_get cs condB c0 k (by have := HN.out.2; omega), hall.out, ← HC.out, hcb]; rfl
            clear hall
            go_wp2
            go_roundw
            case rel => exact ⟨k + 1, by go_num, by omega, X2, HT2⟩
            case measure => simp [intOf]; omega
        · have hkn : k = n2 := by omega
          have HT2 : Hid (cs.all condB = true) := all_end (k := k) (by have := HN.out.2; omega) hall.out
          have bk : ¬ ((k : Int) < (n2 : Int)) := by omega
          have q0 := cx.2 0 _ rfl
          have q2 := cx.2 2 _ rfl
          have q3 := cx.2 3 _ rfl
          have X4 : Hid (Ext w wr) := HX3.out.2.trans hE.out
          clear hall hkn cx hE HX3
          by_cases g1 : n1 ≤ 4
          · have g1' : (n1 : Int) ≤ 4 := by omega
            by_cases g2 : n2 ≤ 3
            · have g2' : (n2 : Int) ≤ 3 := by omega
              have HD : Hid (decide (n1 ≤ 4) = true ∧ decide (n2 ≤ 3) = true) := ⟨decide_eq_true g1, decide_eq_true g2⟩
              clear g1 g2
              go_wp2_with (go_at_call 80; refine (l09Act_any _ _ _).mono ?_; rintro e w' ⟨rfl, rfl⟩)
              go_ret
              exact ⟨by rw [HB.out, HT.out, HT2.out, HD.out.1, HD.out.2]; simp, X4.out⟩
            · have g2' : (3 : Int) < (n2 : Int) := by omega
              have HD : Hid (decide (n2 ≤ 3) = false) := decide_eq_false g2
              clear g1 g2
              go_wp2
              go_ret
              exact ⟨by rw [HB.out, HD.out]; simp, X4.out⟩
          · have g1' : (4 : Int) < (n1 : Int) := by omega
            have HD : Hid (decide (n1 ≤ 4) = false) := decide_eq_false g1
            clear g1
            go_wp2
            go_ret
            exact ⟨by rw [HB.out, HD.out]; simp, X4.out⟩

/-- The cells l lie in an old block. -/
def SegB (W : World) (b o : Nat) (l : List Value) : Prop := b < W.heap.size ∧ Seg W b o l

theorem SegB.step {W W' : World} {b o : Nat} {l : List Value} (h : SegB W b o l) (hE : Ext W W') : SegB W' b o l := ⟨Nat.lt_of_lt_of_le h.1 hE.size, h.2.below hE h.1⟩

theorem SegB.drew {W : World} {b o : Nat} {l : List Value} (h : SegB W b o l) : SegB W.drew b o l := h

/-- The four cells of a rule. -/
def RuleL (w : World) (r : RN) (l : List Value) : Prop :=
  ∃ a1 n1 c1 a2 n2 c2, l = [.slice a1 n1 c1, .slice a2 n2 c2, .int .i64 r.act, .int .i64 r.data] ∧ n1 = r.nums.length ∧ n2 = r.conds.length ∧ Nums w a1 r.nums ∧ Conds w a2 r.conds

theorem RuleL.step {w w' : World} {r : RN} {l : List Value} (h : RuleL w r l) (hE : Ext w w') : RuleL w' r l := by
  obtain ⟨a1, n1, c1, a2, n2, c2, e, e1, e2, h1, h2⟩ := h
  exact ⟨a1, n1, c1, a2, n2, c2, e, e1, e2, h1.step hE, h2.step hE⟩

theorem RuleL.form {w : World} {r : RN} {l : List Value} (h : RuleL w r l) : ∃ a1 n1 c1 a2 n2 c2 ac da, l = [.slice a1 n1 c1, .slice a2 n2 c2, .int .i64 ac, .int .i64 da] ∧ r.act = ac ∧ r.data = da := by
  obtain ⟨a1, n1, c1, a2, n2, c2, e, _⟩ := h
  exact ⟨a1, n1, c1, a2, n2, c2, _, _, e, rfl, rfl⟩

/-- The value v is the rule r. -/
def RepRule (r : RN) (v : Value) (w : World) : Prop := ∃ l, v = .agg l.toArray ∧ RuleL w r l

theorem RepRule.step {r : RN} {v : Value} {w w' : World} (h : RepRule r v w) (hE : Ext w w') : RepRule r v w' := by
  obtain ⟨l, e, hl⟩ := h
  exact ⟨l, e, hl.step hE⟩

/-- No more numbers or conditions than the laws look at. -/
def Small (r : RN) : Prop := r.nums.length ≤ 1048576 ∧ r.conds.length ≤ 1048576

theorem ruleOk_rep {r : RN} {v : Value} {w : World} (hs : Small r) (h : RepRule r v w) : Calls Tryz.prog 54 #[v] w fun e w' => e = .returned (.bool (ruleB r)) ∧ Ext w w' := by
  obtain ⟨l, rfl, a1, n1, c1, a2, n2, c2, rfl, rfl, rfl, h1, h2⟩ := h
  exact ruleOk_any r.nums r.conds r.act r.data a1 a2 c1 c2 w hs.1 hs.2 h1 h2

theorem l09Rule_rep {r : RN} {v : Value} {w : World} (hs : Small r) (h : RepRule r v w) : Calls Tryz.prog 79 #[v] w fun e w' => e = .returned (.bool (ruleB r)) ∧ Ext w w' := by
  obtain ⟨l, rfl, a1, n1, c1, a2, n2, c2, rfl, rfl, rfl, h1, h2⟩ := h
  exact l09Rule_any r.nums r.conds r.act r.data a1 a2 c1 c2 w hs.1 hs.2 h1 h2

/-- A slice of rules in memory, four cells each. -/
def Rules (w : World) (a : Option Addr) (rs : List RN) : Prop :=
  0 < rs.length → ∃ b off, a = some ⟨b, off, none⟩ ∧ b < w.heap.size ∧ ∀ j, j < rs.length → ∃ l, Seg w b (off + j * 4) l ∧ RuleL w (rs.getD j r0) l

theorem Rules.step {w w' : World} {a : Option Addr} {rs : List RN} (h : Rules w a rs) (hE : Ext w w') : Rules w' a rs := fun hp => by
  obtain ⟨b, off, ha, hb, hc⟩ := h hp
  refine ⟨b, off, ha, Nat.lt_of_lt_of_le hb hE.size, fun j hj => ?_⟩
  obtain ⟨l, h1, h2⟩ := hc j hj
  exact ⟨l, h1.below hE hb, h2.step hE⟩

theorem Rules.at {w : World} {a : Option Addr} {rs : List RN} (h : Rules w a rs) {k : Nat} (hk : k < rs.length) : ∃ b off l, a = some ⟨b, off, none⟩ ∧ SegB w b (off + k * 4) l ∧ RuleL w (rs.getD k r0) l := by
  obtain ⟨b, off, ha, hb, hx⟩ := h (by omega)
  obtain ⟨l, h1, h2⟩ := hx k hk
  exact ⟨b, off, l, ha, ⟨hb, h1⟩, h2⟩

def SmallR (rs : List RN) : Prop := rs.length ≤ 1048576 ∧ ∀ k, k < rs.length → Small (rs.getD k r0)

theorem policyB_if (ar ac da : Int) (rs : List RN) : policyB ⟨ar, ac, da, rs⟩ = (halfB ar && outB ac da && decide (rs.length ≤ 10) && rs.all ruleB) := rfl

theorem Tryz.infoCo : (Tryz.prog.info? 78).map (fun i => (i.zero, i.size, i.bytes)) = some (some (.agg #[.int .i64 0, .int .i64 0, .int .i64 0, .int .i64 0, .int .i64 0, .int .i64 0]), 6, 48) := by kernel_rfl

theorem Nums.far {w : World} {b o : Nat} {zs : List Int} (h : Nums w (some ⟨b, o, none⟩) zs) {k : Nat} (i : Nat) (hk : b ≠ k) (v : Value) : Nums (w.setCell ⟨k, i, none⟩ v) (some ⟨b, o, none⟩) zs := h.put (p := i) hk [v]

theorem Conds.far {w : World} {b o : Nat} {cs : List CN} (h : Conds w (some ⟨b, o, none⟩) cs) {k : Nat} (i : Nat) (hk : b ≠ k) (v : Value) : Conds (w.setCell ⟨k, i, none⟩ v) (some ⟨b, o, none⟩) cs := h.put (p := i) hk [v]

/-- The four cells of a rule whose memory lies from block B on. -/
def RuleG (B : Nat) (w : World) (r : RN) (l : List Value) : Prop :=
  ∃ g1 n1 c1 g2 n2 c2, l = [.slice (some ⟨g1, 0, none⟩) n1 c1, .slice (some ⟨g2, 0, none⟩) n2 c2, .int .i64 r.act, .int .i64 r.data] ∧ n1 = r.nums.length ∧ n2 = r.conds.length ∧ B ≤ g1 ∧ B ≤ g2 ∧ Nums w (some ⟨g1, 0, none⟩) r.nums ∧ Conds w (some ⟨g2, 0, none⟩) r.conds ∧ n1 ≤ c1

theorem RuleG.rule {B : Nat} {w : World} {r : RN} {l : List Value} (h : RuleG B w r l) : RuleL w r l := by
  obtain ⟨g1, n1, c1, g2, n2, c2, e, e1, e2, _, _, h1, h2, _⟩ := h
  exact ⟨_, n1, c1, _, n2, c2, e, e1, e2, h1, h2⟩

theorem RuleG.step {B : Nat} {w w' : World} {r : RN} {l : List Value} (h : RuleG B w r l) (hE : Ext w w') : RuleG B w' r l := by
  obtain ⟨g1, n1, c1, g2, n2, c2, e, e1, e2, b1, b2, h1, h2, h3⟩ := h
  exact ⟨g1, n1, c1, g2, n2, c2, e, e1, e2, b1, b2, h1.step hE, h2.step hE, h3⟩

theorem RuleG.mono {B C : Nat} {w : World} {r : RN} {l : List Value} (h : RuleG B w r l) (hC : C ≤ B) : RuleG C w r l := by
  obtain ⟨g1, n1, c1, g2, n2, c2, e, e1, e2, b1, b2, h1, h2, h3⟩ := h
  exact ⟨g1, n1, c1, g2, n2, c2, e, e1, e2, by omega, by omega, h1, h2, h3⟩

theorem RuleG.put {B : Nat} {w : World} {r : RN} {l : List Value} (h : RuleG B w r l) {k : Nat} (hk : k < B) (o : Nat) (vs : List Value) : RuleG B (putL w k o vs) r l := by
  obtain ⟨g1, n1, c1, g2, n2, c2, e, e1, e2, b1, b2, h1, h2, h3⟩ := h
  exact ⟨g1, n1, c1, g2, n2, c2, e, e1, e2, b1, b2, h1.put (by omega) vs, h2.put (by omega) vs, h3⟩

set_option maxRecDepth 100000 in
set_option maxHeartbeats 3200000 in
theorem iPolicyOk_any (ar ac da : Int) (a : Option Addr) (cap : Nat) (rs : List RN) (w : World) (hs : SmallR rs) (h : Rules w a rs) :
    Calls Tryz.prog 22 #[.agg #[.int .i64 ar, .int .i64 ac, .int .i64 da, .slice a rs.length cap]] w fun e w' => e = .returned (.bool (policyB ⟨ar, ac, da, rs⟩)) ∧ Ext w w' := by
  obtain ⟨n, hn⟩ : ∃ n, n = rs.length := ⟨_, rfl⟩
  have HB : Hid (policyB ⟨ar, ac, da, rs⟩ = (halfB ar && outB ac da && decide (n ≤ 10) && rs.all ruleB)) := by rw [hn]; rfl
  have HN : Hid (n = rs.length ∧ ∀ k, k < rs.length → Small (rs.getD k r0)) := ⟨hn, hs.2⟩
  have HR : Hid (∀ W, Ext w W → Rules W a rs) := fun W hE => h.step hE
  have hl := hs.1
  rw [← hn] at hl ⊢
  clear h hn hs
  obtain ⟨z1, hz1⟩ : ∃ z1, z1 = halfB ar := ⟨_, rfl⟩
  obtain ⟨z2, hz2⟩ : ∃ z2, z2 = outB ac da := ⟨_, rfl⟩
  have H1 : Hid (∀ W, Calls Tryz.prog 52 #[.int .i64 ar] W fun e w' => e = .returned (.bool z1) ∧ W = w') := fun W => by rw [hz1]; exact iHalf_any ar W
  have H2 : Hid (∀ W, Calls Tryz.prog 53 #[.int .i64 ac, .int .i64 da] W fun e w' => e = .returned (.bool z2) ∧ W = w') := fun W => by rw [hz2]; exact outcomeOk_any ac da W
  rw [← hz1, ← hz2] at HB
  clear hz1 hz2
  obtain ⟨W, hW⟩ : ∃ W, W = w.alloc (.cells #[.int .i64 ar, .int .i64 ac, .int .i64 da, .slice a n cap] 26) := ⟨_, rfl⟩
  have HX : Hid (CellsAt W w.heap.size [.int .i64 ar, .int .i64 ac, .int .i64 da, .slice a n cap] ∧ Ext w W) := by
    rw [hW]
    exact ⟨CellsAt.new w _ _, Ext.one w _⟩
  have HW : Hid (W = w.alloc (.cells #[.int .i64 ar, .int .i64 ac, .int .i64 da, .slice a n cap] 26)) := hW
  clear hW
  cases z1
  · go_enter Tryz.func22, Tryz.ntmps22
    go_wp2_with (go_at_call 52; refine (H1.out _).mono ?_; rintro e w' ⟨rfl, rfl⟩)
    go_ret
    exact ⟨by rw [HB.out]; rfl, Ext.one _ _⟩
  cases z2
  · go_enter Tryz.func22, Tryz.ntmps22
    go_wp2_with (first | (go_at_call 52; refine (H1.out _).mono ?_; rintro e w' ⟨rfl, rfl⟩) | (go_at_call 53; refine (H2.out _).mono ?_; rintro e w' ⟨rfl, rfl⟩))
    go_ret
    exact ⟨by rw [HB.out]; rfl, Ext.one _ _⟩
  by_cases h10 : n ≤ 10
  · have h10' : ¬ (10 : Int) < (n : Int) := by omega
    have HY : Hid (policyB ⟨ar, ac, da, rs⟩ = rs.all ruleB) := by rw [HB.out, decide_eq_true h10]; rfl
    clear HB h10
    go_enter Tryz.func22, Tryz.ntmps22
    go_wp2_with (first | (go_at_call 52; refine (H1.out _).mono ?_; rintro e w' ⟨rfl, rfl⟩) | (go_at_call 53; refine (H2.out _).mono ?_; rintro e w' ⟨rfl, rfl⟩))
    rw [← HW.out]
    go_loopw [26] (fun i wr => ∃ k : Nat, i = .int .i64 k ∧ k ≤ n ∧ Hid (Ext W wr) ∧ Hid ((rs.take k).all ruleB = true)) (fun i _ => n - (intOf i).toNat)
    case atStart => exact ⟨0, rfl, by omega, Ext.refl _, by simp [Hid]⟩
    case round =>
      obtain ⟨k, rfl, hk, hE, hall⟩ := hrel
      by_cases hlt : k < n
      · have bk : (k : Int) < (n : Int) := by omega
        obtain ⟨b, off, l, rfl, ⟨hbl, hseg⟩, hL⟩ := (HR.out wr (HX.out.2.trans hE.out)).at (k := k) (by have := HN.out.1; omega)
        obtain ⟨a1, n1, c1, a2, n2, c2, xc, xd, rfl, _, _⟩ := hL.form
        obtain ⟨p0, p1, p2, p3⟩ := hseg.four
        obtain ⟨z, hz⟩ : ∃ z, z = ruleB (rs.getD k r0) := ⟨_, rfl⟩
        have HZ : Hid (z = ruleB (rs.getD k r0)) := hz
        have HD : Hid (∀ W', Ext wr W' → Calls Tryz.prog 54 #[.agg #[.slice a1 n1 c1, .slice a2 n2 c2, .int .i64 xc, .int .i64 xd]] W' fun e w' => e = .returned (.bool z) ∧ Ext W' w') := fun W' hx => by
          rw [hz]
          exact ruleOk_rep (HN.out.2 k (by have := HN.out.1; omega)) ⟨_, rfl, hL.step hx⟩
        clear hz hL hseg hbl
        go_wp2_with fail
        refine (HD.out _ (Ext.one _ _)).mono ?_
        rintro e w2 ⟨rfl, x2⟩
        have X2 : Hid (Ext W w2) := (hE.out.alloc _).trans x2
        clear x2 p0 p1 p2 p3
        cases z
        · have HF : Hid (rs.all ruleB = false) := all_bad (k := k) (d := r0) (by have := HN.out.1; omega) HZ.out.symm
          clear hall
          go_wp2
          go_ret
          exact ⟨by rw [HY.out, HF.out]; rfl, HX.out.2.trans X2.out⟩
        · have HT : Hid ((rs.take (k + 1)).all ruleB = true) := by
            unfold Hid
            rw [all_get rs ruleB r0 k (by have := HN.out.1; omega), hall.out, ← HZ.out]
            rfl
          clear hall
          go_wp2
          go_roundw
          case rel => exact ⟨k + 1, by go_num, by omega, X2, HT⟩
          case measure => simp [intOf]; omega
      · have hkn : k = n := by omega
        have HT : Hid (rs.all ruleB = true) := all_end (k := k) (by have := HN.out.1; omega) hall.out
        have bk : ¬ ((k : Int) < (n : Int)) := by omega
        clear hall hkn
        go_wp2
        go_ret
        exact ⟨by rw [HY.out, HT.out]; rfl, HX.out.2.trans hE.out⟩
  · have h10' : (10 : Int) < (n : Int) := by omega
    have HY : Hid (policyB ⟨ar, ac, da, rs⟩ = false) := by rw [HB.out, decide_eq_false h10]; rfl
    clear HB h10
    go_enter Tryz.func22, Tryz.ntmps22
    go_wp2_with (first | (go_at_call 52; refine (H1.out _).mono ?_; rintro e w' ⟨rfl, rfl⟩) | (go_at_call 53; refine (H2.out _).mono ?_; rintro e w' ⟨rfl, rfl⟩))
    go_ret
    exact ⟨by rw [HY.out]; rfl, Ext.one _ _⟩

set_option maxRecDepth 100000 in
set_option maxHeartbeats 3200000 in
theorem sPolicyOk_any (ar ac da : Int) (a : Option Addr) (cap : Nat) (rs : List RN) (w : World) (hs : SmallR rs) (h : Rules w a rs) :
    Calls Tryz.prog 36 #[.agg #[.int .i64 ar, .int .i64 ac, .int .i64 da, .slice a rs.length cap]] w fun e w' => e = .returned (.bool (policyB ⟨ar, ac, da, rs⟩)) ∧ Ext w w' := by
  obtain ⟨n, hn⟩ : ∃ n, n = rs.length := ⟨_, rfl⟩
  have HB : Hid (policyB ⟨ar, ac, da, rs⟩ = (halfB ar && outB ac da && decide (n ≤ 10) && rs.all ruleB)) := by rw [hn]; rfl
  have HN : Hid (n = rs.length ∧ ∀ k, k < rs.length → Small (rs.getD k r0)) := ⟨hn, hs.2⟩
  have HR : Hid (∀ W, Ext w W → Rules W a rs) := fun W hE => h.step hE
  have hl := hs.1
  rw [← hn] at hl ⊢
  clear h hn hs
  obtain ⟨z1, hz1⟩ : ∃ z1, z1 = halfB ar := ⟨_, rfl⟩
  obtain ⟨z2, hz2⟩ : ∃ z2, z2 = outB ac da := ⟨_, rfl⟩
  have H1 : Hid (∀ W, Calls Tryz.prog 71 #[.int .i64 ar] W fun e w' => e = .returned (.bool z1) ∧ W = w') := fun W => by rw [hz1]; exact sHalf_any ar W
  have H2 : Hid (∀ W, Calls Tryz.prog 80 #[.int .i64 ac, .int .i64 da] W fun e w' => e = .returned (.bool z2) ∧ W = w') := fun W => by rw [hz2]; exact l09Act_any ac da W
  rw [← hz1, ← hz2] at HB
  clear hz1 hz2
  obtain ⟨W, hW⟩ : ∃ W, W = w.alloc (.cells #[.int .i64 ar, .int .i64 ac, .int .i64 da, .slice a n cap] 26) := ⟨_, rfl⟩
  have HX : Hid (CellsAt W w.heap.size [.int .i64 ar, .int .i64 ac, .int .i64 da, .slice a n cap] ∧ Ext w W) := by
    rw [hW]
    exact ⟨CellsAt.new w _ _, Ext.one w _⟩
  have HW : Hid (W = w.alloc (.cells #[.int .i64 ar, .int .i64 ac, .int .i64 da, .slice a n cap] 26)) := hW
  clear hW
  go_enter Tryz.func36, Tryz.ntmps36
  go_wp2_with fail
  rw [← HW.out]
  go_loopw [3] (fun i wr => ∃ k : Nat, i = .int .i64 k ∧ k ≤ n ∧ Hid (Ext W wr) ∧ Hid ((rs.take k).all ruleB = true)) (fun i _ => n - (intOf i).toNat)
  case atStart => exact ⟨0, rfl, by omega, Ext.refl _, by simp [Hid]⟩
  case round =>
    obtain ⟨k, rfl, hk, hE, hall⟩ := hrel
    have cx := HX.out.1.step hE.out
    have s3 := cx.2 3 _ rfl
    by_cases hlt : k < n
    · have bk : (k : Int) < (n : Int) := by omega
      obtain ⟨b, off, l, rfl, ⟨hbl, hseg⟩, hL⟩ := (HR.out wr (HX.out.2.trans hE.out)).at (k := k) (by have := HN.out.1; omega)
      obtain ⟨a1, n1, c1, a2, n2, c2, xc, xd, rfl, _, _⟩ := hL.form
      obtain ⟨p0, p1, p2, p3⟩ := hseg.four
      obtain ⟨z, hz⟩ : ∃ z, z = ruleB (rs.getD k r0) := ⟨_, rfl⟩
      have HZ : Hid (z = ruleB (rs.getD k r0)) := hz
      have HD : Hid (Calls Tryz.prog 79 #[.agg #[.slice a1 n1 c1, .slice a2 n2 c2, .int .i64 xc, .int .i64 xd]] wr fun e w' => e = .returned (.bool z) ∧ Ext wr w') := by
        rw [hz]
        exact l09Rule_rep (HN.out.2 k (by have := HN.out.1; omega)) ⟨_, rfl, hL⟩
      clear hz hL hseg hbl cx
      go_wp2_with fail
      refine HD.out.mono ?_
      rintro e w2 ⟨rfl, x2⟩
      have X2 : Hid (Ext W w2) := hE.out.trans x2
      clear x2 p0 p1 p2 p3 s3 HD
      cases z
      · have HF : Hid (rs.all ruleB = false) := all_bad (k := k) (d := r0) (by have := HN.out.1; omega) HZ.out.symm
        clear hall
        go_wp2
        go_ret
        exact ⟨by rw [HB.out, HF.out]; simp, HX.out.2.trans X2.out⟩
      · have HT : Hid ((rs.take (k + 1)).all ruleB = true) := by
          unfold Hid
          rw [all_get rs ruleB r0 k (by have := HN.out.1; omega), hall.out, ← HZ.out]
          rfl
        clear hall
        go_wp2
        go_roundw
        case rel => exact ⟨k + 1, by go_num, by omega, X2, HT⟩
        case measure => simp [intOf]; omega
    · have hkn : k = n := by omega
      have HT : Hid (rs.all ruleB = true) := all_end (k := k) (by have := HN.out.1; omega) hall.out
      have bk : ¬ ((k : Int) < (n : Int)) := by omega
      have s0 := cx.2 0 _ rfl
      have s1 := cx.2 1 _ rfl
      have s2 := cx.2 2 _ rfl
      clear hall hkn cx
      cases z1
      · go_wp2_with (go_at_call 71; refine (H1.out _).mono ?_; rintro e w' ⟨rfl, rfl⟩)
        go_ret
        exact ⟨by rw [HB.out]; rfl, HX.out.2.trans hE.out⟩
      cases z2
      · go_wp2_with (first | (go_at_call 71; refine (H1.out _).mono ?_; rintro e w' ⟨rfl, rfl⟩) | (go_at_call 80; refine (H2.out _).mono ?_; rintro e w' ⟨rfl, rfl⟩))
        go_ret
        exact ⟨by rw [HB.out]; rfl, HX.out.2.trans hE.out⟩
      by_cases h10 : n ≤ 10
      · have h10' : (n : Int) ≤ 10 := by omega
        have HD10 : Hid (decide (n ≤ 10) = true) := decide_eq_true h10
        clear h10
        go_wp2_with (first | (go_at_call 71; refine (H1.out _).mono ?_; rintro e w' ⟨rfl, rfl⟩) | (go_at_call 80; refine (H2.out _).mono ?_; rintro e w' ⟨rfl, rfl⟩))
        go_ret
        exact ⟨by rw [HB.out, HT.out, HD10.out]; rfl, HX.out.2.trans hE.out⟩
      · have h10' : ¬ (n : Int) ≤ 10 := by omega
        have HD10 : Hid (decide (n ≤ 10) = false) := decide_eq_false h10
        clear h10
        go_wp2_with (first | (go_at_call 71; refine (H1.out _).mono ?_; rintro e w' ⟨rfl, rfl⟩) | (go_at_call 80; refine (H2.out _).mono ?_; rintro e w' ⟨rfl, rfl⟩))
        go_ret
        exact ⟨by rw [HB.out, HD10.out]; simp; omega, HX.out.2.trans hE.out⟩

/-- The value v is the policy p. -/
def RepPol (p : PN) (v : Value) (w : World) : Prop := ∃ a cap, v = .agg #[.int .i64 p.arch, .int .i64 p.act, .int .i64 p.data, .slice a p.rules.length cap] ∧ Rules w a p.rules

theorem RepPol.step {p : PN} {v : Value} {w w' : World} (h : RepPol p v w) (hE : Ext w w') : RepPol p v w' := by
  obtain ⟨a, cap, e, hr⟩ := h
  exact ⟨a, cap, e, hr.step hE⟩

theorem iPolicyOk_rep {p : PN} {v : Value} {w : World} (hs : SmallR p.rules) (h : RepPol p v w) : Calls Tryz.prog 22 #[v] w fun e w' => e = .returned (.bool (policyB p)) ∧ Ext w w' := by
  obtain ⟨a, cap, rfl, hr⟩ := h
  exact iPolicyOk_any p.arch p.act p.data a cap p.rules w hs hr

theorem sPolicyOk_rep {p : PN} {v : Value} {w : World} (hs : SmallR p.rules) (h : RepPol p v w) : Calls Tryz.prog 36 #[v] w fun e w' => e = .returned (.bool (policyB p)) ∧ Ext w w' := by
  obtain ⟨a, cap, rfl, hr⟩ := h
  exact sPolicyOk_any p.arch p.act p.data a cap p.rules w hs hr

theorem Tryz.infoRu : (Tryz.prog.info? 53).map (fun i => (i.zero, i.size, i.bytes)) = some (some (.agg #[.slice none 0 0, .slice none 0 0, .int .i64 0, .int .i64 0]), 4, 64) := by kernel_rfl

/-- Rules at block g's head, all their memory from block B on. -/
def RulesG (B g : Nat) (w : World) (rs : List RN) : Prop :=
  B ≤ g ∧ (0 < rs.length → g < w.heap.size) ∧ ∀ j, j < rs.length → ∃ l, Seg w g (j * 4) l ∧ RuleG B w (rs.getD j r0) l

theorem RulesG.mono {B C g : Nat} {w : World} {rs : List RN} (h : RulesG B g w rs) (hC : C ≤ B) : RulesG C g w rs :=
  ⟨by have := h.1; omega, h.2.1, fun j hj => by
    obtain ⟨l, s1, s2⟩ := h.2.2 j hj
    exact ⟨l, s1, s2.mono hC⟩⟩

theorem RulesG.rules {B g : Nat} {w : World} {rs : List RN} (h : RulesG B g w rs) : Rules w (some ⟨g, 0, none⟩) rs := fun hp =>
  ⟨g, 0, rfl, h.2.1 hp, fun j hj => by
    obtain ⟨l, s1, s2⟩ := h.2.2 j hj
    exact ⟨l, by rw [Nat.zero_add]; exact s1, s2.rule⟩⟩

/-- Rules in memory, each slice of numbers being no longer than it may grow. -/
def RulesC (w : World) (a : Option Addr) (rs : List RN) : Prop :=
  Rules w a rs ∧ ∀ b off j x n c, a = some ⟨b, off, none⟩ → j < rs.length → w.cell? ⟨b, off + j * 4, none⟩ = some (.slice x n c) → n ≤ c

theorem RulesC.step {w w' : World} {a : Option Addr} {rs : List RN} (h : RulesC w a rs) (hE : Ext w w') : RulesC w' a rs := by
  refine ⟨h.1.step hE, fun b off j x n c ha hj hc => h.2 b off j x n c ha hj ?_⟩
  obtain ⟨b', off', ha', hb, _⟩ := h.1 (by omega)
  rw [ha] at ha'
  obtain rfl : b = b' := by injection ha' with ha'; injection ha'
  rw [← hc]
  exact (hE.cell (p := ⟨b, off + j * 4, none⟩) hb).symm

theorem RulesG.rulesC {B g : Nat} {w : World} {rs : List RN} (h : RulesG B g w rs) : RulesC w (some ⟨g, 0, none⟩) rs := by
  refine ⟨h.rules, fun b off j x n c ha hj hc => ?_⟩
  obtain ⟨rfl, rfl⟩ : g = b ∧ 0 = off := by injection ha with ha; injection ha with h1 h2; exact ⟨h1, h2⟩
  obtain ⟨l, s1, g1, n1, c1, g2, n2, c2, rfl, _, _, _, _, _, _, h3⟩ := h.2.2 j hj
  have := s1 0 _ rfl
  rw [Nat.add_zero] at this
  rw [Nat.zero_add, this] at hc
  injection hc with hc
  injection hc with _ e1 e2
  omega

theorem RulesG.set {B g : Nat} {w : World} {rs : List RN} (h : RulesG B g w rs) {k : Nat} (i : Nat) (hk : k < B) (v : Value) : RulesG B g (w.setCell ⟨k, i, none⟩ v) rs :=
  ⟨h.1, fun hp => by rw [World.size_setCell]; exact h.2.1 hp, fun j hj => by
    obtain ⟨l, s1, s2⟩ := h.2.2 j hj
    exact ⟨l, s1.putFar (vs := [v]) (.inl (by have := h.1; omega)), s2.put hk i [v]⟩⟩

/-- A policy as a value, its rules so in memory. -/
def RepPolC (p : PN) (v : Value) (w : World) : Prop := ∃ a cap, v = .agg #[.int .i64 p.arch, .int .i64 p.act, .int .i64 p.data, .slice a p.rules.length cap] ∧ RulesC w a p.rules

theorem RepPolC.step {p : PN} {v : Value} {w w' : World} (h : RepPolC p v w) (hE : Ext w w') : RepPolC p v w' := by
  obtain ⟨a, cap, e, hr⟩ := h
  exact ⟨a, cap, e, hr.step hE⟩

theorem RepPolC.pol {p : PN} {v : Value} {w : World} (h : RepPolC p v w) : RepPol p v w := by
  obtain ⟨a, cap, e, hr⟩ := h
  exact ⟨a, cap, e, hr.1⟩

/-- A slice's address, where it has one, lies from block B on. -/
def From (B : Nat) (w : World) (a : Option Addr) : Prop := ∀ b o s, a = some ⟨b, o, s⟩ → B ≤ b ∧ b < w.heap.size

theorem From.size {B : Nat} {w w' : World} {a : Option Addr} (h : From B w a) (hs : w.heap.size ≤ w'.heap.size) : From B w' a := fun b o s e => ⟨(h b o s e).1, by have := (h b o s e).2; omega⟩

theorem Nums.kept {w w' : World} {a : Option Addr} {zs : List Int} (h : Nums w a zs) (hb : ∀ b o, a = some ⟨b, o, none⟩ → w'.heap[b]? = w.heap[b]?) (hs : w.heap.size ≤ w'.heap.size) : Nums w' a zs := fun hp => by
  obtain ⟨b, off, ha, hbl, hc⟩ := h hp
  exact ⟨b, off, ha, by omega, fun j hj => (World.cell?_of_block (w := w) (a := ⟨b, off + j, none⟩) (hb b off ha)).trans (hc j hj)⟩

theorem Conds.kept {w w' : World} {a : Option Addr} {cs : List CN} (h : Conds w a cs) (hb : ∀ b o, a = some ⟨b, o, none⟩ → w'.heap[b]? = w.heap[b]?) (hs : w.heap.size ≤ w'.heap.size) : Conds w' a cs := fun hp => by
  obtain ⟨b, off, ha, hbl, hc⟩ := h hp
  exact ⟨b, off, ha, by omega, fun j hj i v hv => (World.cell?_of_block (w := w) (a := ⟨b, off + j * 6 + i, none⟩) (hb b off ha)).trans (hc j hj i v hv)⟩

/-- The four cells of a rule whose memory, where it has any, lies from block B on. -/
def RuleN (B : Nat) (w : World) (r : RN) (l : List Value) : Prop :=
  ∃ a1 n1 c1 a2 n2 c2, l = [.slice a1 n1 c1, .slice a2 n2 c2, .int .i64 r.act, .int .i64 r.data] ∧ n1 = r.nums.length ∧ n2 = r.conds.length ∧ Nums w a1 r.nums ∧ Conds w a2 r.conds ∧ From B w a1 ∧ From B w a2

theorem RuleN.rule {B : Nat} {w : World} {r : RN} {l : List Value} (h : RuleN B w r l) : RuleL w r l := by
  obtain ⟨a1, n1, c1, a2, n2, c2, e, e1, e2, h1, h2, _⟩ := h
  exact ⟨a1, n1, c1, a2, n2, c2, e, e1, e2, h1, h2⟩

theorem RuleN.mono {B C : Nat} {w : World} {r : RN} {l : List Value} (h : RuleN B w r l) (hC : C ≤ B) : RuleN C w r l := by
  obtain ⟨a1, n1, c1, a2, n2, c2, e, e1, e2, h1, h2, f1, f2⟩ := h
  exact ⟨a1, n1, c1, a2, n2, c2, e, e1, e2, h1, h2, fun b o s he => ⟨by have := (f1 b o s he).1; omega, (f1 b o s he).2⟩, fun b o s he => ⟨by have := (f2 b o s he).1; omega, (f2 b o s he).2⟩⟩

/-- All blocks from B on that were there are as they were. -/
theorem RuleN.kept {B : Nat} {w w' : World} {r : RN} {l : List Value} (h : RuleN B w r l) (hb : ∀ b, B ≤ b → b < w.heap.size → w'.heap[b]? = w.heap[b]?) (hs : w.heap.size ≤ w'.heap.size) : RuleN B w' r l := by
  obtain ⟨a1, n1, c1, a2, n2, c2, e, e1, e2, h1, h2, f1, f2⟩ := h
  exact ⟨a1, n1, c1, a2, n2, c2, e, e1, e2, h1.kept (fun b o he => hb b (f1 b o none he).1 (f1 b o none he).2) hs, h2.kept (fun b o he => hb b (f2 b o none he).1 (f2 b o none he).2) hs, f1.size hs, f2.size hs⟩

theorem RuleN.grown {B : Nat} {w w' : World} {r : RN} {l : List Value} {row : Option Nat} (h : RuleN B w r l) (hg : w.grownBy w' row) (hr : ∀ b, B ≤ b → b < w.heap.size → some b ≠ row) : RuleN B w' r l :=
  h.kept (fun b h1 h2 => hg.block b h2 (hr b h1 h2)) hg.size

theorem RuleN.set {B : Nat} {w : World} {r : RN} {l : List Value} (h : RuleN B w r l) {k : Nat} (hk : k < B) (i : Nat) (v : Value) : RuleN B (w.setCell ⟨k, i, none⟩ v) r l :=
  h.kept (fun b h1 _ => Below.heap_setCell _ _ _ _ (by show b ≠ k; omega)) (by rw [World.size_setCell]; exact Nat.le_refl _)

/-- The cells of conditions in a row. -/
def flatC (cs : List CN) : List Value := cs.flatMap CN.l

theorem flatC_push (cs : List CN) (c : CN) : flatC cs ++ c.l = flatC (cs ++ [c]) := by simp [flatC]

theorem flatC_at : ∀ (cs : List CN) (j i : Nat) (v : Value), j < cs.length → (cs.getD j c0).l[i]? = some v → (flatC cs)[j * 6 + i]? = some v
  | [], j, _, _, h, _ => by simp at h
  | c :: cs, 0, i, v, _, hv => by
    have hi : i < c.l.length := (List.getElem?_eq_some_iff.1 hv).1
    simp only [flatC, List.flatMap_cons]
    rw [Nat.zero_mul, Nat.zero_add, List.getElem?_append_left hi]
    exact hv
  | c :: cs, j + 1, i, v, h, hv => by
    have := flatC_at cs j i v (by simpa using h) (by simpa using hv)
    simp only [flatC, List.flatMap_cons]
    rw [List.getElem?_append_right (by simp [CN.l]; omega)]
    have e : (j + 1) * 6 + i - c.l.length = j * 6 + i := by simp [CN.l]; omega
    rw [e]
    exact this

theorem own_nums {w : World} {base n : Nat} {v : Value} {zs : List Int} (h : w.ownsRow base 3 1 v n (zs.map (Value.int .i64))) (hn : zs.length = n) : ∃ a cap, v = .slice a n cap ∧ Nums w a zs ∧ From base w a := by
  rcases h.2 with ⟨rfl, h0⟩ | ⟨g, cap, cur, rfl, hg, hh, hnc, hcp, hcs, htake⟩
  · subst h0
    exact ⟨none, 0, rfl, fun hp => by omega, fun b o s e => by cases e⟩
  · have hlt := (Array.getElem?_eq_some_iff.1 hh).1
    refine ⟨some ⟨g, 0, none⟩, cap, rfl, fun hp => ⟨g, 0, rfl, hlt, fun j hj => ?_⟩, fun b o s e => by injection e with e; injection e with e1 e2 e3; subst e1; exact ⟨hg, hlt⟩⟩
    have e1 : (zs.map (Value.int .i64))[j]? = some (.int .i64 (zs.getD j 0)) := by simp [List.getD_eq_getElem?_getD, hj]
    rw [← htake, List.getElem?_take, if_pos (by omega)] at e1
    rw [Nat.zero_add, cell_of_row w g _ cur 3 _ hh]
    simpa using e1

theorem own_conds {w : World} {base n : Nat} {v : Value} {cs : List CN} (h : w.ownsRow base 78 6 v n (flatC cs)) (hn : cs.length = n) : ∃ a cap, v = .slice a n cap ∧ Conds w a cs ∧ From base w a := by
  rcases h.2 with ⟨rfl, h0⟩ | ⟨g, cap, cur, rfl, hg, hh, hnc, hcp, hcs, htake⟩
  · subst h0
    exact ⟨none, 0, rfl, fun hp => by omega, fun b o s e => by cases e⟩
  · have hlt := (Array.getElem?_eq_some_iff.1 hh).1
    refine ⟨some ⟨g, 0, none⟩, cap, rfl, fun hp => ⟨g, 0, rfl, hlt, fun j hj i u hu => ?_⟩, fun b o s e => by injection e with e; injection e with e1 e2 e3; subst e1; exact ⟨hg, hlt⟩⟩
    have hi : i < 6 := by have h3 := (List.getElem?_eq_some_iff.1 hu).1; simpa [CN.l] using h3
    have e1 := flatC_at cs j i u hj hu
    rw [← htake, List.getElem?_take, if_pos (by omega)] at e1
    rw [Nat.zero_add, cell_of_row w g _ cur 78 _ hh]
    simpa using e1

theorem own_lt9 {w : World} {base e size : Nat} {v : Value} {n : Nat} {xs : List Value} (h : w.ownsRow base e size v n xs) {x : Nat} (hx : v.ownBlock = some x) : base ≤ x ∧ x < w.heap.size := by
  rcases h.2 with ⟨rfl, _⟩ | ⟨g, cap, cur, rfl, hgb, hh, _⟩
  · simp [Value.ownBlock] at hx
  · simp [Value.ownBlock] at hx; subst hx; exact ⟨hgb, (Array.getElem?_eq_some_iff.1 hh).1⟩

def sameC (c d : CN) : Bool := (c.arg == d.arg) && (decide ((c.mh, c.ml) = (d.mh, d.ml)) && ((c.cm == d.cm) && decide ((c.vh, c.vl) = (d.vh, d.vl))))

def sameNs (l m : List Int) : Bool := decide (l.length = m.length) && (List.range l.length).all fun j => l.getD j 0 == m.getD j 0

def sameCs (l m : List CN) : Bool := decide (l.length = m.length) && (List.range l.length).all fun j => sameC (l.getD j c0) (m.getD j c0)

def sameRu (r s : RN) : Bool := ((r.act == s.act) && (r.data == s.data)) && (sameNs r.nums s.nums && sameCs r.conds s.conds)

def sameP (p q : PN) : Bool := ((p.arch == q.arch) && (p.act == q.act) && (p.data == q.data)) && (decide (p.rules.length = q.rules.length) && (List.range p.rules.length).all fun j => sameRu (p.rules.getD j r0) (q.rules.getD j r0))

theorem range_more {f : Nat → Bool} {k : Nat} (h : (List.range k).all f = true) (hk : f k = true) : (List.range (k + 1)).all f = true := by
  rw [List.range_succ, List.all_append, h]
  simp [hk]

theorem range_bad {f : Nat → Bool} {n k : Nat} (hk : k < n) (h : f k = false) : (List.range n).all f = false := by
  rw [Bool.eq_false_iff]
  intro ha
  have := List.all_eq_true.1 ha k (List.mem_range.2 hk)
  rw [h] at this
  exact Bool.noConfusion this

theorem fieldsWd : ∃ f g : Field, Tryz.prog.fieldsOf 76 = #[f, g] ∧ Tryz.prog.underlying 76 = some (.struct #[f, g]) ∧ f.name ≠ "_" ∧ f.type = 3 ∧ f.offset = 0 ∧ g.name ≠ "_" ∧ g.type = 3 ∧ g.offset = 1 := by
  refine ⟨_, _, ?_, Tryz.underlying76, by decide, rfl, rfl, by decide, rfl, rfl⟩
  unfold Program.fieldsOf
  rw [Tryz.underlying76]

theorem fieldsCd : ∃ f g h i : Field, Tryz.prog.fieldsOf 78 = #[f, g, h, i] ∧ Tryz.prog.underlying 78 = some (.struct #[f, g, h, i]) ∧ (f.name ≠ "_" ∧ f.type = 3 ∧ f.offset = 0) ∧ (g.name ≠ "_" ∧ g.type = 76 ∧ g.offset = 1) ∧ (h.name ≠ "_" ∧ h.type = 3 ∧ h.offset = 3) ∧ (i.name ≠ "_" ∧ i.type = 76 ∧ i.offset = 4) := by
  refine ⟨_, _, _, _, ?_, Tryz.underlying78, ⟨by decide, rfl, rfl⟩, ⟨by decide, rfl, rfl⟩, ⟨by decide, rfl, rfl⟩, ⟨by decide, rfl, rfl⟩⟩
  unfold Program.fieldsOf
  rw [Tryz.underlying78]

theorem stoodWd : Tryz.prog.stoodInHeld 76 = false := by kernel_rfl
theorem stoodCd : Tryz.prog.stoodInHeld 78 = false := by kernel_rfl

theorem eq_wideN (k : Nat) (a b c d : Int) (w : World) :
    (Op.equalIn (k + 2) 76 (.agg #[.int .i64 a, .int .i64 b]) (.agg #[.int .i64 c, .int .i64 d])).run Tryz.prog w = .ok (decide ((a, b) = (c, d))) w := by
  obtain ⟨f, g, hf, hu, fn, ft, fo, gn, gt, go⟩ := fieldsWd
  have h1 := run_equalIn_agg (P := Tryz.prog) w (k + 1) 76 #[.int .i64 a, .int .i64 b] #[.int .i64 c, .int .i64 d] (by rw [hf]; exact hu) stoodWd
  have pa : ∀ (x y : Value) wx, (part 3 #[x, y] 0).run Tryz.prog wx = .ok x wx := fun x y wx => by simp [part, Tryz.isAgg3]
  have pb : ∀ (x y : Value) wx, (part 3 #[x, y] 1).run Tryz.prog wx = .ok y wx := fun x y wx => by simp [part, Tryz.isAgg3]
  have qi : ∀ (x y : Int) wx, (Op.equalIn (k + 1) 3 (.int .i64 x) (.int .i64 y)).run Tryz.prog wx = .ok (x == y) wx := fun x y wx => run_equalIn_int wx k 3 .i64 .i64 x y Tryz.underlying3
  rw [show k + 2 = k + 1 + 1 from rfl, h1, hf]
  simp only [Op.eqFields, fn, gn, ne_eq, not_false_eq_true, if_true, Sem.run_bind, ft, fo, gt, go, pa, Result.andThen_ok, qi]
  by_cases h : a = c
  · subst h
    by_cases k : b = d
    · subst k; simp [pb, qi]
    · simp [k, pb, qi]
  · simp [h]

theorem eq_condN (a b c d e f a' b' c' d' e' f' : Int) (w : World) :
    (Op.equalIn 10000 78 (.agg #[.int .i64 a, .int .i64 b, .int .i64 c, .int .i64 d, .int .i64 e, .int .i64 f]) (.agg #[.int .i64 a', .int .i64 b', .int .i64 c', .int .i64 d', .int .i64 e', .int .i64 f'])).run Tryz.prog w =
      .ok (sameC ⟨a, b, c, d, e, f⟩ ⟨a', b', c', d', e', f'⟩) w := by
  obtain ⟨F, G, H, I, hf, hu, ⟨fn, ft, fo⟩, ⟨gn, gt, go⟩, ⟨hn, ht, ho⟩, ⟨iN, it, io⟩⟩ := fieldsCd
  have h1 := run_equalIn_agg (P := Tryz.prog) w 9999 78 #[.int .i64 a, .int .i64 b, .int .i64 c, .int .i64 d, .int .i64 e, .int .i64 f] #[.int .i64 a', .int .i64 b', .int .i64 c', .int .i64 d', .int .i64 e', .int .i64 f'] (by rw [hf]; exact hu) stoodCd
  have p0 : ∀ (v0 v1 v2 v3 v4 v5 : Value) wx, (part 3 #[v0, v1, v2, v3, v4, v5] 0).run Tryz.prog wx = .ok v0 wx := fun _ _ _ _ _ _ wx => by simp [part, Tryz.isAgg3]
  have p3 : ∀ (v0 v1 v2 v3 v4 v5 : Value) wx, (part 3 #[v0, v1, v2, v3, v4, v5] 3).run Tryz.prog wx = .ok v3 wx := fun _ _ _ _ _ _ wx => by simp [part, Tryz.isAgg3]
  have p1 : ∀ (v0 v1 v2 v3 v4 v5 : Value) wx, (part 76 #[v0, v1, v2, v3, v4, v5] 1).run Tryz.prog wx = .ok (.agg #[v1, v2]) wx := fun _ _ _ _ _ _ wx => by simp [part, Tryz.isAgg76, Tryz.sizeOf76]
  have p4 : ∀ (v0 v1 v2 v3 v4 v5 : Value) wx, (part 76 #[v0, v1, v2, v3, v4, v5] 4).run Tryz.prog wx = .ok (.agg #[v4, v5]) wx := fun _ _ _ _ _ _ wx => by simp [part, Tryz.isAgg76, Tryz.sizeOf76]
  have qi : ∀ (x y : Int) wx, (Op.equalIn 9999 3 (.int .i64 x) (.int .i64 y)).run Tryz.prog wx = .ok (x == y) wx := fun x y wx => run_equalIn_int wx 9998 3 .i64 .i64 x y Tryz.underlying3
  have qw : ∀ (x y u v : Int) wx, (Op.equalIn 9999 76 (.agg #[.int .i64 x, .int .i64 y]) (.agg #[.int .i64 u, .int .i64 v])).run Tryz.prog wx = .ok (decide ((x, y) = (u, v))) wx := fun x y u v wx => eq_wideN 9997 x y u v wx
  rw [show (10000 : Nat) = 9999 + 1 from rfl, h1, hf]
  unfold sameC
  simp only [Op.eqFields, fn, gn, hn, iN, ne_eq, not_false_eq_true, if_true, Sem.run_bind, ft, fo, gt, go, ht, ho, it, io, p0, Result.andThen_ok, qi]
  cases h0 : (a == a')
  · simp
  · simp only [Bool.not_true, Bool.false_eq_true, if_false, Bool.true_and, Sem.run_bind, p1, Result.andThen_ok, qw]
    cases h1 : decide ((b, c) = (b', c'))
    · simp
    · simp only [Bool.not_true, Bool.false_eq_true, if_false, Bool.true_and, Sem.run_bind, p3, Result.andThen_ok, qi]
      cases h2 : (d == d')
      · simp
      · simp only [Bool.not_true, Bool.false_eq_true, if_false, Bool.true_and, Sem.run_bind, p4, Result.andThen_ok, qw]
        cases h3 : decide ((e, f) = (e', f')) <;> simp

set_option maxRecDepth 100000 in
set_option maxHeartbeats 1600000 in
theorem l10Same_any (a1 a2 : Option Addr) (c1 c2 n m : Nat) (l s : List Int) (w : World) (hn : n = l.length) (hm : m = s.length) (hl : n ≤ 1048576) (hl2 : m ≤ 1048576) (h1 : Nums w a1 l) (h2 : Nums w a2 s) :
    Calls Tryz.prog 43 #[.slice a1 n c1, .slice a2 m c2] w fun e w' => e = .returned (.bool (sameNs l s)) ∧ Ext w w' := by
  have HN : Hid (n = l.length ∧ m = s.length) := ⟨hn, hm⟩
  have HB : Hid (sameNs l s = (decide (n = m) && (List.range n).all fun j => l.getD j 0 == s.getD j 0)) := by rw [hn, hm]; rfl
  have HA : Hid (∀ W, Ext w W → Nums W a1 l ∧ Nums W a2 s) := fun W hE => ⟨h1.step hE, h2.step hE⟩
  clear hn hm h1 h2
  by_cases hnm : n = m
  · subst hnm
    have HY : Hid (sameNs l s = (List.range n).all fun j => l.getD j 0 == s.getD j 0) := HB.out.trans (by simp)
    clear HB
    go_enter Tryz.func43, Tryz.ntmps43
    go_wp2_with fail
    go_loopw [5] (fun i wr => ∃ k : Nat, i = .int .i64 k ∧ k ≤ n ∧ Hid (Ext w wr) ∧ Hid ((List.range k).all (fun j => l.getD j 0 == s.getD j 0) = true)) (fun i _ => n - (intOf i).toNat)
    case atStart => exact ⟨0, rfl, by omega, Ext.refl _, by simp [Hid]⟩
    case round =>
      obtain ⟨k, rfl, hk, hE, hall⟩ := hrel
      by_cases hlt : k < n
      · have bk : (k : Int) < (n : Int) := by omega
        obtain ⟨b1, o1, rfl, g1, x1⟩ := (HA.out wr hE.out).1.at (k := k) (by have := HN.out.1; omega)
        obtain ⟨b2, o2, rfl, g2, x2⟩ := (HA.out wr hE.out).2.at (k := k) (by have := HN.out.2; omega)
        obtain ⟨z1, hz1⟩ : ∃ z1, z1 = l.getD k 0 := ⟨_, rfl⟩
        obtain ⟨z2, hz2⟩ : ∃ z2, z2 = s.getD k 0 := ⟨_, rfl⟩
        rw [← hz1] at x1
        rw [← hz2] at x2
        have HZ : Hid (z1 = l.getD k 0 ∧ z2 = s.getD k 0) := ⟨hz1, hz2⟩
        have S1 : Hid ((b1 < wr.heap.size ∧ Seg wr b1 (o1 + k) [.int .i64 z1]) ∧ (b2 < wr.heap.size ∧ Seg wr b2 (o2 + k) [.int .i64 z2])) :=
          ⟨⟨g1, fun i v hv => by match i, hv with | 0, hv => simp at hv; subst hv; exact x1⟩, ⟨g2, fun i v hv => by match i, hv with | 0, hv => simp at hv; subst hv; exact x2⟩⟩
        clear hz1 hz2 g1 g2 x1 x2
        obtain ⟨z, hz⟩ : ∃ z, z = (z1 == z2) := ⟨_, rfl⟩
        have hzz : (z1 == z2) = z := hz.symm
        have HQ : Hid (z = (l.getD k 0 == s.getD k 0)) := by unfold Hid; rw [hz, ← HZ.out.1, ← HZ.out.2]
        clear hz
        go_wp2_with fail
        refine' wp_region_loose (.inl _ :: .inl _ :: .inl _ :: .inl _ :: .inl _ :: .inl _ :: .inl _ :: .inl _ :: .inl _ :: []) (fun w' => SegB w' b1 (o1 + k) [.int .i64 z1] ∧ SegB w' b2 (o2 + k) [.int .i64 z2]) (by kernel_rfl) (by kernel_rfl) (⟨S1.out.1, S1.out.2⟩) (fun _ _ h hE => ⟨h.1.step hE, h.2.step hE⟩) ?hAa ?hla ?hMa
        case' hMa => skip
        apply wpLoose_val rfl rfl
        case hs =>
          intro w1 hC hd Q1 hQ1
          obtain ⟨hE, hS⟩ := hC
          dsimp only [bare]
          obtain ⟨p0, q0⟩ := (⟨hS.1.2.one, hS.2.2.one⟩ : _ ∧ _)
          clear hd hE
          try clear hS
          go_wp2
          exact Ext.refl _
        case ha => rfl
        apply wpLoose_val rfl rfl
        case hs =>
          intro w1 hC hd Q1 hQ1
          obtain ⟨hE, hS⟩ := hC
          dsimp only [bare]
          obtain ⟨p0, q0⟩ := (⟨hS.1.2.one, hS.2.2.one⟩ : _ ∧ _)
          clear hd hE
          try clear hS
          go_wp2
          exact Ext.refl _
        case ha => rfl
        apply wpLoose_val rfl rfl
        case hs =>
          intro w1 hC hd Q1 hQ1
          obtain ⟨hE, hS⟩ := hC
          dsimp only [bare]
          obtain ⟨p0, q0⟩ := (⟨hS.1.2.one, hS.2.2.one⟩ : _ ∧ _)
          clear hd hE
          try clear hS
          go_wp2
          exact Ext.refl _
        case ha => rfl
        apply wpLoose_val rfl rfl
        case hs =>
          intro w1 hC hd Q1 hQ1
          obtain ⟨hE, hS⟩ := hC
          dsimp only [bare]
          obtain ⟨p0, q0⟩ := (⟨hS.1.2.one, hS.2.2.one⟩ : _ ∧ _)
          clear hd hE
          try clear hS
          go_wp2
          exact Ext.refl _
        case ha => rfl
        apply wpLoose_val rfl rfl
        case hs =>
          intro w1 hC hd Q1 hQ1
          obtain ⟨hE, hS⟩ := hC
          dsimp only [bare]
          obtain ⟨p0, q0⟩ := (⟨hS.1.2.one, hS.2.2.one⟩ : _ ∧ _)
          clear hd hE
          try clear hS
          go_wp2
          exact Ext.refl _
        case ha => rfl
        apply wpLoose_val rfl rfl
        case hs =>
          intro w1 hC hd Q1 hQ1
          obtain ⟨hE, hS⟩ := hC
          dsimp only [bare]
          obtain ⟨p0, q0⟩ := (⟨hS.1.2.one, hS.2.2.one⟩ : _ ∧ _)
          clear hd hE
          try clear hS
          go_wp2
          exact Ext.refl _
        case ha => rfl
        apply wpLoose_val rfl rfl
        case hs =>
          intro w1 hC hd Q1 hQ1
          obtain ⟨hE, hS⟩ := hC
          dsimp only [bare]
          obtain ⟨p0, q0⟩ := (⟨hS.1.2.one, hS.2.2.one⟩ : _ ∧ _)
          clear hd hE
          try clear hS
          go_wp2
          exact Ext.refl _
        case ha => rfl
        apply wpLoose_val rfl rfl
        case hs =>
          intro w1 hC hd Q1 hQ1
          obtain ⟨hE, hS⟩ := hC
          dsimp only [bare]
          obtain ⟨p0, q0⟩ := (⟨hS.1.2.one, hS.2.2.one⟩ : _ ∧ _)
          clear hd hE
          try clear hS
          go_wp2
          exact Ext.refl _
        case ha => rfl
        apply wpLoose_val rfl rfl
        case hs =>
          intro w1 hC hd Q1 hQ1
          obtain ⟨hE, hS⟩ := hC
          dsimp only [bare]
          obtain ⟨p0, q0⟩ := (⟨hS.1.2.one, hS.2.2.one⟩ : _ ∧ _)
          clear hd hE
          try clear hS
          go_wp2
          exact Ext.refl _
        case ha => rfl
        refine wpLoose_nil ?_
        intro wa hEa hSa hFa
        · have HE2 : Hid (Ext w wa) := hE.out.drew.trans hEa
          clear hFa hSa hEa S1 HZ
          cases z
          · have HF : Hid (((List.range n).all fun j => l.getD j 0 == s.getD j 0) = false) := range_bad (k := k) hlt HQ.out.symm
            clear hall
            go_wp2
            go_ret
            exact ⟨by rw [HY.out, HF.out]; rfl, HE2.out⟩
          · have HT : Hid ((List.range (k + 1)).all (fun j => l.getD j 0 == s.getD j 0) = true) := range_more hall.out HQ.out.symm
            clear hall
            go_wp2
            go_roundw
            case rel => exact ⟨k + 1, by go_num, by omega, HE2, HT⟩
            case measure => simp [intOf]; omega
        case hAa => kernel_rfl
        case hla => exact ⟨trivial, trivial, trivial, trivial, trivial, trivial, trivial, trivial, trivial, trivial⟩
      · obtain rfl : k = n := by omega
        have bk : ¬ ((k : Int) < (k : Int)) := by omega
        go_wp2
        go_ret
        exact ⟨by rw [HY.out, hall.out]; rfl, hE.out⟩
  · have HF : Hid (sameNs l s = false) := by rw [HB.out, decide_eq_false hnm]; rfl
    have hne : ((n : Int) == (m : Int)) = false := by simpa using fun h => hnm (by omega)
    clear HB
    go_enter Tryz.func43, Tryz.ntmps43
    go_wp2
    go_ret
    exact ⟨by rw [HF.out]; rfl, Ext.refl _⟩

set_option maxRecDepth 100000 in
set_option maxHeartbeats 1600000 in
theorem equalInts_any (a1 a2 : Option Addr) (c1 c2 n m : Nat) (l s : List Int) (w : World) (hn : n = l.length) (hm : m = s.length) (hl : n ≤ 1048576) (hl2 : m ≤ 1048576) (h1 : Nums w a1 l) (h2 : Nums w a2 s) :
    Calls Tryz.prog 84 #[.slice a1 n c1, .slice a2 m c2] w fun e w' => e = .returned (.bool (sameNs l s)) ∧ Ext w w' := by
  have HN : Hid (n = l.length ∧ m = s.length) := ⟨hn, hm⟩
  have HB : Hid (sameNs l s = (decide (n = m) && (List.range n).all fun j => l.getD j 0 == s.getD j 0)) := by rw [hn, hm]; rfl
  have HA : Hid (∀ W, Ext w W → Nums W a1 l ∧ Nums W a2 s) := fun W hE => ⟨h1.step hE, h2.step hE⟩
  clear hn hm h1 h2
  by_cases hnm : n = m
  · subst hnm
    have HY : Hid (sameNs l s = (List.range n).all fun j => l.getD j 0 == s.getD j 0) := HB.out.trans (by simp)
    clear HB
    go_enter Tryz.func84, Tryz.ntmps84
    go_wp2_with fail
    go_loopw [13] (fun i wr => ∃ k : Nat, i = .int .i64 k ∧ k ≤ n ∧ Hid (Ext w wr) ∧ Hid ((List.range k).all (fun j => l.getD j 0 == s.getD j 0) = true)) (fun i _ => n - (intOf i).toNat)
    case atStart => exact ⟨0, rfl, by omega, Ext.refl _, by simp [Hid]⟩
    case round =>
      obtain ⟨k, rfl, hk, hE, hall⟩ := hrel
      by_cases hlt : k < n
      · have bk : (k : Int) < (n : Int) := by omega
        obtain ⟨b1, o1, rfl, g1, x1⟩ := (HA.out wr hE.out).1.at (k := k) (by have := HN.out.1; omega)
        obtain ⟨b2, o2, rfl, g2, x2⟩ := (HA.out wr hE.out).2.at (k := k) (by have := HN.out.2; omega)
        obtain ⟨z1, hz1⟩ : ∃ z1, z1 = l.getD k 0 := ⟨_, rfl⟩
        obtain ⟨z2, hz2⟩ : ∃ z2, z2 = s.getD k 0 := ⟨_, rfl⟩
        rw [← hz1] at x1
        rw [← hz2] at x2
        have HZ : Hid (z1 = l.getD k 0 ∧ z2 = s.getD k 0) := ⟨hz1, hz2⟩
        have S1 : Hid ((b1 < wr.heap.size ∧ Seg wr b1 (o1 + k) [.int .i64 z1]) ∧ (b2 < wr.heap.size ∧ Seg wr b2 (o2 + k) [.int .i64 z2])) :=
          ⟨⟨g1, fun i v hv => by match i, hv with | 0, hv => simp at hv; subst hv; exact x1⟩, ⟨g2, fun i v hv => by match i, hv with | 0, hv => simp at hv; subst hv; exact x2⟩⟩
        clear hz1 hz2 g1 g2 x1 x2
        obtain ⟨z, hz⟩ : ∃ z, z = (z1 == z2) := ⟨_, rfl⟩
        have hzz : (z1 == z2) = z := hz.symm
        have HQ : Hid (z = (l.getD k 0 == s.getD k 0)) := by unfold Hid; rw [hz, ← HZ.out.1, ← HZ.out.2]
        clear hz
        go_wp2_with fail
        refine' wp_region_loose (.inl _ :: .inl _ :: .inl _ :: .inl _ :: .inl _ :: .inl _ :: .inl _ :: .inl _ :: .inl _ :: []) (fun w' => SegB w' b1 (o1 + k) [.int .i64 z1] ∧ SegB w' b2 (o2 + k) [.int .i64 z2]) (by kernel_rfl) (by kernel_rfl) (⟨S1.out.1, S1.out.2⟩) (fun _ _ h hE => ⟨h.1.step hE, h.2.step hE⟩) ?hAa ?hla ?hMa
        case' hMa => skip
        apply wpLoose_val rfl rfl
        case hs =>
          intro w1 hC hd Q1 hQ1
          obtain ⟨hE, hS⟩ := hC
          dsimp only [bare]
          obtain ⟨p0, q0⟩ := (⟨hS.1.2.one, hS.2.2.one⟩ : _ ∧ _)
          clear hd hE
          try clear hS
          go_wp2
          exact Ext.refl _
        case ha => rfl
        apply wpLoose_val rfl rfl
        case hs =>
          intro w1 hC hd Q1 hQ1
          obtain ⟨hE, hS⟩ := hC
          dsimp only [bare]
          obtain ⟨p0, q0⟩ := (⟨hS.1.2.one, hS.2.2.one⟩ : _ ∧ _)
          clear hd hE
          try clear hS
          go_wp2
          exact Ext.refl _
        case ha => rfl
        apply wpLoose_val rfl rfl
        case hs =>
          intro w1 hC hd Q1 hQ1
          obtain ⟨hE, hS⟩ := hC
          dsimp only [bare]
          obtain ⟨p0, q0⟩ := (⟨hS.1.2.one, hS.2.2.one⟩ : _ ∧ _)
          clear hd hE
          try clear hS
          go_wp2
          exact Ext.refl _
        case ha => rfl
        apply wpLoose_val rfl rfl
        case hs =>
          intro w1 hC hd Q1 hQ1
          obtain ⟨hE, hS⟩ := hC
          dsimp only [bare]
          obtain ⟨p0, q0⟩ := (⟨hS.1.2.one, hS.2.2.one⟩ : _ ∧ _)
          clear hd hE
          try clear hS
          go_wp2
          exact Ext.refl _
        case ha => rfl
        apply wpLoose_val rfl rfl
        case hs =>
          intro w1 hC hd Q1 hQ1
          obtain ⟨hE, hS⟩ := hC
          dsimp only [bare]
          obtain ⟨p0, q0⟩ := (⟨hS.1.2.one, hS.2.2.one⟩ : _ ∧ _)
          clear hd hE
          try clear hS
          go_wp2
          exact Ext.refl _
        case ha => rfl
        apply wpLoose_val rfl rfl
        case hs =>
          intro w1 hC hd Q1 hQ1
          obtain ⟨hE, hS⟩ := hC
          dsimp only [bare]
          obtain ⟨p0, q0⟩ := (⟨hS.1.2.one, hS.2.2.one⟩ : _ ∧ _)
          clear hd hE
          try clear hS
          go_wp2
          exact Ext.refl _
        case ha => rfl
        apply wpLoose_val rfl rfl
        case hs =>
          intro w1 hC hd Q1 hQ1
          obtain ⟨hE, hS⟩ := hC
          dsimp only [bare]
          obtain ⟨p0, q0⟩ := (⟨hS.1.2.one, hS.2.2.one⟩ : _ ∧ _)
          clear hd hE
          try clear hS
          go_wp2
          exact Ext.refl _
        case ha => rfl
        apply wpLoose_val rfl rfl
        case hs =>
          intro w1 hC hd Q1 hQ1
          obtain ⟨hE, hS⟩ := hC
          dsimp only [bare]
          obtain ⟨p0, q0⟩ := (⟨hS.1.2.one, hS.2.2.one⟩ : _ ∧ _)
          clear hd hE
          try clear hS
          go_wp2
          exact Ext.refl _
        case ha => rfl
        apply wpLoose_val rfl rfl
        case hs =>
          intro w1 hC hd Q1 hQ1
          obtain ⟨hE, hS⟩ := hC
          dsimp only [bare]
          obtain ⟨p0, q0⟩ := (⟨hS.1.2.one, hS.2.2.one⟩ : _ ∧ _)
          clear hd hE
          try clear hS
          go_wp2
          exact Ext.refl _
        case ha => rfl
        refine wpLoose_nil ?_
        intro wa hEa hSa hFa
        · have HE2 : Hid (Ext w wa) := hE.out.drew.trans hEa
          clear hFa hSa hEa S1 HZ
          cases z
          · have HF : Hid (((List.range n).all fun j => l.getD j 0 == s.getD j 0) = false) := range_bad (k := k) hlt HQ.out.symm
            clear hall
            go_wp2
            go_ret
            exact ⟨by rw [HY.out, HF.out]; rfl, HE2.out⟩
          · have HT : Hid ((List.range (k + 1)).all (fun j => l.getD j 0 == s.getD j 0) = true) := range_more hall.out HQ.out.symm
            clear hall
            go_wp2
            go_roundw
            case rel => exact ⟨k + 1, by go_num, by omega, HE2, HT⟩
            case measure => simp [intOf]; omega
        case hAa => kernel_rfl
        case hla => exact ⟨trivial, trivial, trivial, trivial, trivial, trivial, trivial, trivial, trivial, trivial⟩
      · obtain rfl : k = n := by omega
        have bk : ¬ ((k : Int) < (k : Int)) := by omega
        go_wp2
        go_ret
        exact ⟨by rw [HY.out, hall.out]; rfl, hE.out⟩
  · have HF : Hid (sameNs l s = false) := by rw [HB.out, decide_eq_false hnm]; rfl
    have hne : ((n : Int) == (m : Int)) = false := by simpa using fun h => hnm (by omega)
    clear HB
    go_enter Tryz.func84, Tryz.ntmps84
    go_wp2
    go_ret
    exact ⟨by rw [HF.out]; rfl, Ext.refl _⟩

set_option maxRecDepth 100000 in
set_option maxHeartbeats 1600000 in
theorem equalConds_any (a1 a2 : Option Addr) (c1 c2 n m : Nat) (l s : List CN) (w : World) (hn : n = l.length) (hm : m = s.length) (hl : n ≤ 1048576) (hl2 : m ≤ 1048576) (h1 : Conds w a1 l) (h2 : Conds w a2 s) :
    Calls Tryz.prog 85 #[.slice a1 n c1, .slice a2 m c2] w fun e w' => e = .returned (.bool (sameCs l s)) ∧ Ext w w' := by
  have HN : Hid (n = l.length ∧ m = s.length) := ⟨hn, hm⟩
  have HB : Hid (sameCs l s = (decide (n = m) && (List.range n).all fun j => sameC (l.getD j c0) (s.getD j c0))) := by rw [hn, hm]; rfl
  have HA : Hid (∀ W, Ext w W → Conds W a1 l ∧ Conds W a2 s) := fun W hE => ⟨h1.step hE, h2.step hE⟩
  clear hn hm h1 h2
  by_cases hnm : n = m
  · subst hnm
    have HY : Hid (sameCs l s = (List.range n).all fun j => sameC (l.getD j c0) (s.getD j c0)) := HB.out.trans (by simp)
    clear HB
    go_enter Tryz.func85, Tryz.ntmps85
    go_wp2_with fail
    go_loopw [13] (fun i wr => ∃ k : Nat, i = .int .i64 k ∧ k ≤ n ∧ Hid (Ext w wr) ∧ Hid ((List.range k).all (fun j => sameC (l.getD j c0) (s.getD j c0)) = true)) (fun i _ => n - (intOf i).toNat)
    case atStart => exact ⟨0, rfl, by omega, Ext.refl _, by simp [Hid]⟩
    case round =>
      obtain ⟨k, rfl, hk, hE, hall⟩ := hrel
      by_cases hlt : k < n
      · have bk : (k : Int) < (n : Int) := by omega
        obtain ⟨x, hx⟩ : ∃ x, x = l.getD k c0 := ⟨_, rfl⟩
        obtain ⟨y, hy⟩ : ∃ y, y = s.getD k c0 := ⟨_, rfl⟩
        obtain ⟨b1, o1, rfl, g1, x1⟩ := (HA.out wr hE.out).1.at (k := k) (by have := HN.out.1; omega) hx
        obtain ⟨b2, o2, rfl, g2, x2⟩ := (HA.out wr hE.out).2.at (k := k) (by have := HN.out.2; omega) hy
        obtain ⟨z, hz⟩ : ∃ z, z = sameC x y := ⟨_, rfl⟩
        have HQ : Hid (z = sameC (l.getD k c0) (s.getD k c0)) := by unfold Hid; rw [hz, hx, hy]
        clear hx hy
        obtain ⟨ag, mh, ml, cm, vh, vl⟩ := x
        obtain ⟨ag', mh', ml', cm', vh', vl'⟩ := y
        have S1 : Hid (SegB wr b1 (o1 + k * 6) [.int .i64 ag, .int .i64 mh, .int .i64 ml, .int .i64 cm, .int .i64 vh, .int .i64 vl] ∧ SegB wr b2 (o2 + k * 6) [.int .i64 ag', .int .i64 mh', .int .i64 ml', .int .i64 cm', .int .i64 vh', .int .i64 vl']) := ⟨⟨g1, x1⟩, ⟨g2, x2⟩⟩
        have hEq := eq_condN ag mh ml cm vh vl ag' mh' ml' cm' vh' vl'
        rw [← hz] at hEq
        clear hz x1 x2 g1 g2
        go_wp2_with fail
        refine' wp_region_loose (.inl _ :: .inl _ :: .inl _ :: .inl _ :: .inl _ :: .inl _ :: .inl _ :: .inl _ :: .inl _ :: []) (fun w' => SegB w' b1 (o1 + k * 6) [.int .i64 ag, .int .i64 mh, .int .i64 ml, .int .i64 cm, .int .i64 vh, .int .i64 vl] ∧ SegB w' b2 (o2 + k * 6) [.int .i64 ag', .int .i64 mh', .int .i64 ml', .int .i64 cm', .int .i64 vh', .int .i64 vl']) (by kernel_rfl) (by kernel_rfl) (⟨S1.out.1, S1.out.2⟩) (fun _ _ h hE => ⟨h.1.step hE, h.2.step hE⟩) ?hAa ?hla ?hMa
        case' hMa => skip
        apply wpLoose_val rfl rfl
        case hs =>
          intro w1 hC hd Q1 hQ1
          obtain ⟨hE, hS⟩ := hC
          dsimp only [bare]
          obtain ⟨⟨p0, p1, p2, p3, p4, p5⟩, ⟨q0, q1, q2, q3, q4, q5⟩⟩ := (⟨hS.1.2.six, hS.2.2.six⟩ : _ ∧ _)
          clear hd hE
          try clear hS
          go_wp2
          exact Ext.refl _
        case ha => rfl
        apply wpLoose_val rfl rfl
        case hs =>
          intro w1 hC hd Q1 hQ1
          obtain ⟨hE, hS⟩ := hC
          dsimp only [bare]
          obtain ⟨⟨p0, p1, p2, p3, p4, p5⟩, ⟨q0, q1, q2, q3, q4, q5⟩⟩ := (⟨hS.1.2.six, hS.2.2.six⟩ : _ ∧ _)
          clear hd hE
          try clear hS
          go_wp2
          exact Ext.refl _
        case ha => rfl
        apply wpLoose_val rfl rfl
        case hs =>
          intro w1 hC hd Q1 hQ1
          obtain ⟨hE, hS⟩ := hC
          dsimp only [bare]
          obtain ⟨⟨p0, p1, p2, p3, p4, p5⟩, ⟨q0, q1, q2, q3, q4, q5⟩⟩ := (⟨hS.1.2.six, hS.2.2.six⟩ : _ ∧ _)
          clear hd hE
          try clear hS
          go_wp2
          exact Ext.refl _
        case ha => rfl
        apply wpLoose_val rfl rfl
        case hs =>
          intro w1 hC hd Q1 hQ1
          obtain ⟨hE, hS⟩ := hC
          dsimp only [bare]
          obtain ⟨⟨p0, p1, p2, p3, p4, p5⟩, ⟨q0, q1, q2, q3, q4, q5⟩⟩ := (⟨hS.1.2.six, hS.2.2.six⟩ : _ ∧ _)
          clear hd hE
          try clear hS
          go_wp2
          exact Ext.refl _
        case ha => rfl
        apply wpLoose_val rfl rfl
        case hs =>
          intro w1 hC hd Q1 hQ1
          obtain ⟨hE, hS⟩ := hC
          dsimp only [bare]
          obtain ⟨⟨p0, p1, p2, p3, p4, p5⟩, ⟨q0, q1, q2, q3, q4, q5⟩⟩ := (⟨hS.1.2.six, hS.2.2.six⟩ : _ ∧ _)
          clear hd hE
          try clear hS
          go_wp2
          exact Ext.refl _
        case ha => rfl
        apply wpLoose_val rfl rfl
        case hs =>
          intro w1 hC hd Q1 hQ1
          obtain ⟨hE, hS⟩ := hC
          dsimp only [bare]
          obtain ⟨⟨p0, p1, p2, p3, p4, p5⟩, ⟨q0, q1, q2, q3, q4, q5⟩⟩ := (⟨hS.1.2.six, hS.2.2.six⟩ : _ ∧ _)
          clear hd hE
          try clear hS
          go_wp2
          exact Ext.refl _
        case ha => rfl
        apply wpLoose_val rfl rfl
        case hs =>
          intro w1 hC hd Q1 hQ1
          obtain ⟨hE, hS⟩ := hC
          dsimp only [bare]
          obtain ⟨⟨p0, p1, p2, p3, p4, p5⟩, ⟨q0, q1, q2, q3, q4, q5⟩⟩ := (⟨hS.1.2.six, hS.2.2.six⟩ : _ ∧ _)
          clear hd hE
          try clear hS
          go_wp2
          exact Ext.refl _
        case ha => rfl
        apply wpLoose_val rfl rfl
        case hs =>
          intro w1 hC hd Q1 hQ1
          obtain ⟨hE, hS⟩ := hC
          dsimp only [bare]
          obtain ⟨⟨p0, p1, p2, p3, p4, p5⟩, ⟨q0, q1, q2, q3, q4, q5⟩⟩ := (⟨hS.1.2.six, hS.2.2.six⟩ : _ ∧ _)
          clear hd hE
          try clear hS
          go_wp2
          exact Ext.refl _
        case ha => rfl
        apply wpLoose_val rfl rfl
        case hs =>
          intro w1 hC hd Q1 hQ1
          obtain ⟨hE, hS⟩ := hC
          dsimp only [bare]
          obtain ⟨⟨p0, p1, p2, p3, p4, p5⟩, ⟨q0, q1, q2, q3, q4, q5⟩⟩ := (⟨hS.1.2.six, hS.2.2.six⟩ : _ ∧ _)
          clear hd hE
          try clear hS
          go_wp2
          exact Ext.refl _
        case ha => rfl
        refine wpLoose_nil ?_
        intro wa hEa hSa hFa
        · have HE2 : Hid (Ext w wa) := hE.out.drew.trans hEa
          clear hFa hSa hEa S1 hEq
          cases z
          · have HF : Hid (((List.range n).all fun j => sameC (l.getD j c0) (s.getD j c0)) = false) := range_bad (k := k) hlt HQ.out.symm
            clear hall
            go_wp2
            go_ret
            exact ⟨by rw [HY.out, HF.out]; rfl, HE2.out⟩
          · have HT : Hid ((List.range (k + 1)).all (fun j => sameC (l.getD j c0) (s.getD j c0)) = true) := range_more hall.out HQ.out.symm
            clear hall
            go_wp2
            go_roundw
            case rel => exact ⟨k + 1, by go_num, by omega, HE2, HT⟩
            case measure => simp [intOf]; omega
        case hAa => kernel_rfl
        case hla => exact ⟨trivial, trivial, trivial, trivial, trivial, trivial, trivial, trivial, trivial, trivial⟩
      · obtain rfl : k = n := by omega
        have bk : ¬ ((k : Int) < (k : Int)) := by omega
        go_wp2
        go_ret
        exact ⟨by rw [HY.out, hall.out]; rfl, hE.out⟩
  · have HF : Hid (sameCs l s = false) := by rw [HB.out, decide_eq_false hnm]; rfl
    have hne : ((n : Int) == (m : Int)) = false := by simpa using fun h => hnm (by omega)
    clear HB
    go_enter Tryz.func85, Tryz.ntmps85
    go_wp2
    go_ret
    exact ⟨by rw [HF.out]; rfl, Ext.refl _⟩

set_option maxRecDepth 100000 in
set_option maxHeartbeats 1600000 in
theorem sameRule_any {r s : RN} {v u : Value} {w : World} (hs : Small r) (hs2 : Small s) (h : RepRule r v w) (k : RepRule s u w) :
    Calls Tryz.prog 45 #[v, u] w fun e w' => e = .returned (.bool (sameRu r s)) ∧ Ext w w' := by
  obtain ⟨_, rfl, a1, n1, d1, a2, n2, d2, rfl, e1, e2, h1, h2⟩ := h
  obtain ⟨_, rfl, b1, m1, f1, b2, m2, f2, rfl, g1, g2, k1, k2⟩ := k
  obtain ⟨z1, hz1⟩ : ∃ z, z = sameNs r.nums s.nums := ⟨_, rfl⟩
  obtain ⟨z2, hz2⟩ : ∃ z, z = sameCs r.conds s.conds := ⟨_, rfl⟩
  have H1 : Hid (∀ W, Ext w W → Calls Tryz.prog 84 #[.slice a1 n1 d1, .slice b1 m1 f1] W fun e w' => e = .returned (.bool z1) ∧ Ext W w') := fun W hE => by
    rw [hz1]; exact equalInts_any a1 b1 d1 f1 n1 m1 _ _ W e1 g1 (by rw [e1]; exact hs.1) (by rw [g1]; exact hs2.1) (h1.step hE) (k1.step hE)
  have H2 : Hid (∀ W, Ext w W → Calls Tryz.prog 85 #[.slice a2 n2 d2, .slice b2 m2 f2] W fun e w' => e = .returned (.bool z2) ∧ Ext W w') := fun W hE => by
    rw [hz2]; exact equalConds_any a2 b2 d2 f2 n2 m2 _ _ W e2 g2 (by rw [e2]; exact hs.2) (by rw [g2]; exact hs2.2) (h2.step hE) (k2.step hE)
  have HB : Hid (sameRu r s = (((r.act == s.act) && (r.data == s.data)) && (z1 && z2))) := by rw [hz1, hz2]; rfl
  clear hz1 hz2 h1 h2 k1 k2 e1 e2 g1 g2 hs hs2
  generalize sameRu r s = Z at *
  generalize r.act = ra at *
  generalize r.data = rd at *
  generalize s.act = sa at *
  generalize s.data = sd at *
  by_cases ha : ra = sa
  · subst ha
    by_cases hd : rd = sd
    · subst hd
      have HY : Hid (Z = (z1 && z2)) := HB.out.trans (by simp)
      clear HB
      have X : Hid (Ext w ((w.alloc (.cells #[.slice a1 n1 d1, .slice a2 n2 d2, .int .i64 ra, .int .i64 rd] 53)).alloc (.cells #[.slice b1 m1 f1, .slice b2 m2 f2, .int .i64 ra, .int .i64 rd] 53))) := (Ext.one _ _).alloc _
      have C1 := (CellsAt.new w [.slice a1 n1 d1, .slice a2 n2 d2, .int .i64 ra, .int .i64 rd] 53).step (Ext.one _ (.cells #[.slice b1 m1 f1, .slice b2 m2 f2, .int .i64 ra, .int .i64 rd] 53))
      have C2 := CellsAt.new' (w.alloc (.cells #[.slice a1 n1 d1, .slice a2 n2 d2, .int .i64 ra, .int .i64 rd] 53)) [.slice b1 m1 f1, .slice b2 m2 f2, .int .i64 ra, .int .i64 rd] 53 (w.heap.size + 1) (by simp)
      simp only [List.toArray] at C1 C2
      go_enter Tryz.func45, Tryz.ntmps45
      go_wp2_with fail
      generalize (w.alloc (.cells #[.slice a1 n1 d1, .slice a2 n2 d2, .int .i64 ra, .int .i64 rd] 53)).alloc (.cells #[.slice b1 m1 f1, .slice b2 m2 f2, .int .i64 ra, .int .i64 rd] 53) = W at *
      refine (H1.out _ X.out).mono ?_
      rintro e w1 ⟨rfl, x1⟩
      have X1 : Hid (Ext w w1) := X.out.trans x1
      cases z1
      · go_wp2
        go_ret
        exact ⟨by rw [HY.out]; rfl, X1.out⟩
      · obtain ⟨p1, q1⟩ := (⟨(C1.step x1).2 1 _ rfl, (C2.step x1).2 1 _ rfl⟩ : _ ∧ _)
        clear C1 C2 x1
        go_wp2_with fail
        refine (H2.out _ X1.out).mono ?_
        rintro e w2 ⟨rfl, x2⟩
        have X2 : Hid (Ext w w2) := X1.out.trans x2
        clear x2 p1 q1
        go_wp2
        go_ret
        exact ⟨by rw [HY.out]; rfl, X2.out⟩
    · have HY : Hid (Z = false) := HB.out.trans (by simp [hd])
      have hne : (rd == sd) = false := by simpa using hd
      clear HB
      go_enter Tryz.func45, Tryz.ntmps45
      go_wp2
      go_ret
      exact ⟨by rw [HY.out]; rfl, (Ext.one _ _).alloc _⟩
  · have HY : Hid (Z = false) := HB.out.trans (by simp [ha])
    have hne : (ra == sa) = false := by simpa using ha
    clear HB
    go_enter Tryz.func45, Tryz.ntmps45
    go_wp2
    go_ret
    exact ⟨by rw [HY.out]; rfl, (Ext.one _ _).alloc _⟩

set_option maxRecDepth 100000 in
set_option maxHeartbeats 1600000 in
theorem equalFunc_any (a1 a2 : Option Addr) (c1 c2 n m : Nat) (l s : List RN) (w : World) (hn : n = l.length) (hm : m = s.length) (hs1 : SmallR l) (hs2 : SmallR s) (h1 : Rules w a1 l) (h2 : Rules w a2 s) :
    Calls Tryz.prog 44 #[.slice a1 n c1, .slice a2 m c2, .func (.func 45) #[] #[]] w fun e w' => e = .returned (.bool (decide (n = m) && (List.range n).all fun j => sameRu (l.getD j r0) (s.getD j r0))) ∧ Ext w w' := by
  have hl : n ≤ 1048576 := by rw [hn]; exact hs1.1
  have hl2 : m ≤ 1048576 := by rw [hm]; exact hs2.1
  have HN : Hid (n = l.length ∧ m = s.length ∧ (∀ k, k < l.length → Small (l.getD k r0)) ∧ (∀ k, k < s.length → Small (s.getD k r0))) := ⟨hn, hm, hs1.2, hs2.2⟩
  have HA : Hid (∀ W, Ext w W → Rules W a1 l ∧ Rules W a2 s) := fun W hE => ⟨h1.step hE, h2.step hE⟩
  clear hn hm h1 h2 hs1 hs2
  obtain ⟨Z, hZ⟩ : ∃ Z, Z = (decide (n = m) && (List.range n).all fun j => sameRu (l.getD j r0) (s.getD j r0)) := ⟨_, rfl⟩
  rw [← hZ]
  have HB : Hid (Z = (decide (n = m) && (List.range n).all fun j => sameRu (l.getD j r0) (s.getD j r0))) := hZ
  clear hZ
  by_cases hnm : n = m
  · subst hnm
    have HY : Hid (Z = (List.range n).all fun j => sameRu (l.getD j r0) (s.getD j r0)) := HB.out.trans (by simp)
    clear HB
    go_enter Tryz.func44, Tryz.ntmps44
    go_wp2_with fail
    go_loopw [17] (fun i wr => ∃ k : Nat, i = .int .i64 k ∧ k ≤ n ∧ Hid (Ext w wr) ∧ Hid ((List.range k).all (fun j => sameRu (l.getD j r0) (s.getD j r0)) = true)) (fun i _ => n - (intOf i).toNat)
    case atStart => exact ⟨0, rfl, by omega, Ext.refl _, by simp [Hid]⟩
    case round =>
      obtain ⟨k, rfl, hk, hE, hall⟩ := hrel
      by_cases hlt : k < n
      · have bk : (k : Int) < (n : Int) := by omega
        obtain ⟨b1, o1, l1, rfl, s1, hL1⟩ := (HA.out wr hE.out).1.at (k := k) (by have := HN.out.1; omega)
        obtain ⟨b2, o2, l2, rfl, s2, hL2⟩ := (HA.out wr hE.out).2.at (k := k) (by have := HN.out.2.1; omega)
        obtain ⟨x1, n1, d1, y1, m1, e1, xc, xd, rfl, _, _⟩ := hL1.form
        obtain ⟨x2, n2, d2, y2, m2, e2, zc, zd, rfl, _, _⟩ := hL2.form
        obtain ⟨z, hz⟩ : ∃ z, z = sameRu (l.getD k r0) (s.getD k r0) := ⟨_, rfl⟩
        have HZ : Hid (z = sameRu (l.getD k r0) (s.getD k r0)) := hz
        have HT : Hid (∀ W, Ext wr W → Calls Tryz.prog 45 #[.agg #[.slice x1 n1 d1, .slice y1 m1 e1, .int .i64 xc, .int .i64 xd], .agg #[.slice x2 n2 d2, .slice y2 m2 e2, .int .i64 zc, .int .i64 zd]] W fun e w' => e = .returned (.bool z) ∧ Ext W w') :=
          fun W hx => by rw [hz]; exact sameRule_any (HN.out.2.2.1 k (by have := HN.out.1; omega)) (HN.out.2.2.2 k (by have := HN.out.2.1; omega)) ⟨_, rfl, hL1.step hx⟩ ⟨_, rfl, hL2.step hx⟩
        have s2' := s2.2.below (Ext.one wr (.cells #[.slice x1 n1 d1, .slice y1 m1 e1, .int .i64 xc, .int .i64 xd] 53)) s2.1
        obtain ⟨p0, p1, p2, p3⟩ := s1.2.four
        obtain ⟨q0, q1, q2, q3⟩ := s2'.four
        simp only [List.toArray] at q0 q1 q2 q3
        have hnz : ¬ b2 = wr.heap.size := by have := s2.1; omega
        clear hL1 hL2 hz s1 s2'
        go_wp2_with fail
        refine (HT.out _ ((Ext.one _ _).alloc _)).mono ?_
        rintro e w2 ⟨rfl, y⟩
        have HE2 : Hid (Ext w w2) := hE.out.trans (((Ext.one _ _).alloc _).trans y)
        clear y p0 p1 p2 p3 q0 q1 q2 q3
        cases z
        · have HF : Hid (((List.range n).all fun j => sameRu (l.getD j r0) (s.getD j r0)) = false) := range_bad (k := k) hlt HZ.out.symm
          clear hall
          go_wp2
          go_ret
          exact ⟨by rw [HY.out, HF.out]; rfl, HE2.out⟩
        · have HT : Hid ((List.range (k + 1)).all (fun j => sameRu (l.getD j r0) (s.getD j r0)) = true) := range_more hall.out HZ.out.symm
          clear hall
          go_wp2
          go_roundw
          case rel => exact ⟨k + 1, by go_num, by omega, HE2, HT⟩
          case measure => simp [intOf]; omega
      · obtain rfl : k = n := by omega
        have bk : ¬ ((k : Int) < (k : Int)) := by omega
        go_wp2
        go_ret
        exact ⟨by rw [HY.out, hall.out]; rfl, hE.out⟩
  · have HF : Hid (Z = false) := by rw [HB.out, decide_eq_false hnm]; rfl
    have hne : ((n : Int) == (m : Int)) = false := by simpa using fun h => hnm (by omega)
    clear HB
    go_enter Tryz.func44, Tryz.ntmps44
    go_wp2
    go_ret
    exact ⟨by rw [HF.out]; rfl, Ext.refl _⟩

set_option maxRecDepth 100000 in
set_option maxHeartbeats 1600000 in
theorem iSame_rep {p q : PN} {v u : Value} {w : World} (hs : SmallR p.rules) (hs2 : SmallR q.rules) (h : RepPol p v w) (k : RepPol q u w) :
    Calls Tryz.prog 15 #[v, u] w fun e w' => e = .returned (.bool (sameP p q)) ∧ Ext w w' := by
  obtain ⟨a, cap, rfl, hr⟩ := h
  obtain ⟨b, dap, rfl, kr⟩ := k
  obtain ⟨z, hz⟩ : ∃ z, z = (decide (p.rules.length = q.rules.length) && (List.range p.rules.length).all fun j => sameRu (p.rules.getD j r0) (q.rules.getD j r0)) := ⟨_, rfl⟩
  have H1 : Hid (∀ W, Ext w W → Calls Tryz.prog 44 #[.slice a p.rules.length cap, .slice b q.rules.length dap, .func (.func 45) #[] #[]] W fun e w' => e = .returned (.bool z) ∧ Ext W w') := fun W hE => by
    rw [hz]; exact equalFunc_any a b cap dap _ _ _ _ W rfl rfl hs hs2 (hr.step hE) (kr.step hE)
  have HB : Hid (sameP p q = (((p.arch == q.arch) && (p.act == q.act) && (p.data == q.data)) && z)) := by rw [hz]; rfl
  clear hz hr kr hs hs2
  generalize sameP p q = Z at *
  obtain ⟨ar, ac, da, rs⟩ := p
  obtain ⟨br, bc, db, ss⟩ := q
  simp only at H1 HB ⊢
  generalize rs.length = n at *
  generalize ss.length = m at *
  by_cases h1 : ar = br
  · subst h1
    by_cases h2 : ac = bc
    · subst h2
      by_cases h3 : da = db
      · subst h3
        have HY : Hid (Z = z) := HB.out.trans (by simp)
        clear HB
        go_enter Tryz.func15, Tryz.ntmps15
        go_wp2_with fail
        refine (H1.out _ ((Ext.one _ _).alloc _)).mono ?_
        rintro e w1 ⟨rfl, x1⟩
        have X1 : Hid (Ext w w1) := ((Ext.one _ _).alloc _).trans x1
        clear x1 H1
        go_wp2
        go_ret
        exact ⟨by rw [HY.out]; rfl, X1.out⟩
      · have HY : Hid (Z = false) := HB.out.trans (by simp [h3])
        have hne : (da == db) = false := by simpa using h3
        clear HB
        go_enter Tryz.func15, Tryz.ntmps15
        go_wp2
        go_ret
        exact ⟨by rw [HY.out]; rfl, (Ext.one _ _).alloc _⟩
    · have HY : Hid (Z = false) := HB.out.trans (by simp [h2])
      have hne : (ac == bc) = false := by simpa using h2
      clear HB
      go_enter Tryz.func15, Tryz.ntmps15
      go_wp2
      go_ret
      exact ⟨by rw [HY.out]; rfl, (Ext.one _ _).alloc _⟩
  · have HY : Hid (Z = false) := HB.out.trans (by simp [h1])
    have hne : (ar == br) = false := by simpa using h1
    clear HB
    go_enter Tryz.func15, Tryz.ntmps15
    go_wp2
    go_ret
    exact ⟨by rw [HY.out]; rfl, (Ext.one _ _).alloc _⟩

set_option maxRecDepth 100000 in
set_option maxHeartbeats 3200000 in
theorem sSame_rep {p q : PN} {v u : Value} {w : World} (hs : SmallR p.rules) (hs2 : SmallR q.rules) (h : RepPol p v w) (k : RepPol q u w) :
    Calls Tryz.prog 14 #[v, u] w fun e w' => e = .returned (.bool (sameP p q)) ∧ Ext w w' := by
  obtain ⟨a, cap, rfl, hr⟩ := h
  obtain ⟨b, dap, rfl, kr⟩ := k
  have HB : Hid (sameP p q = (((p.arch == q.arch) && (p.act == q.act) && (p.data == q.data)) && (decide (p.rules.length = q.rules.length) && (List.range p.rules.length).all fun j => sameRu (p.rules.getD j r0) (q.rules.getD j r0)))) := rfl
  generalize sameP p q = Z at *
  obtain ⟨ar, ac, da, rs⟩ := p
  obtain ⟨br, bc, db, ss⟩ := q
  simp only at HB hs hs2 hr kr ⊢
  obtain ⟨n, hn⟩ : ∃ n, n = rs.length := ⟨_, rfl⟩
  obtain ⟨m, hm⟩ : ∃ m, m = ss.length := ⟨_, rfl⟩
  have hl : n ≤ 1048576 := by rw [hn]; exact hs.1
  have HN : Hid (n = rs.length ∧ m = ss.length ∧ (∀ k, k < rs.length → Small (rs.getD k r0)) ∧ (∀ k, k < ss.length → Small (ss.getD k r0))) := ⟨hn, hm, hs.2, hs2.2⟩
  have HA : Hid (∀ W, Ext w W → Rules W a rs ∧ Rules W b ss) := fun W hE => ⟨hr.step hE, kr.step hE⟩
  rw [← hn, ← hm] at HB
  rw [← hn, ← hm]
  clear hn hm hr kr hs hs2
  by_cases h1 : ar = br
  case neg =>
    have hne : (ar == br) = false := by simpa using h1
    have HY : Hid (Z = false) := HB.out.trans (by simp [h1])
    clear HB
    go_enter Tryz.func14, Tryz.ntmps14
    go_wp2
    go_ret
    exact ⟨by rw [HY.out]; rfl, (Ext.one _ _).alloc _⟩
  subst h1
  by_cases h2 : ac = bc
  case neg =>
    have hne : (ac == bc) = false := by simpa using h2
    have HY : Hid (Z = false) := HB.out.trans (by simp [h2])
    clear HB
    go_enter Tryz.func14, Tryz.ntmps14
    go_wp2
    go_ret
    exact ⟨by rw [HY.out]; rfl, (Ext.one _ _).alloc _⟩
  subst h2
  by_cases h3 : da = db
  case neg =>
    have hne : (da == db) = false := by simpa using h3
    have HY : Hid (Z = false) := HB.out.trans (by simp [h3])
    clear HB
    go_enter Tryz.func14, Tryz.ntmps14
    go_wp2
    go_ret
    exact ⟨by rw [HY.out]; rfl, (Ext.one _ _).alloc _⟩
  subst h3
  by_cases h4 : n = m
  case neg =>
    have hne : ((n : Int) == (m : Int)) = false := by simpa using fun h => h4 (by omega)
    have HY : Hid (Z = false) := HB.out.trans (by simp [h4])
    clear HB
    go_enter Tryz.func14, Tryz.ntmps14
    go_wp2
    go_ret
    exact ⟨by rw [HY.out]; rfl, (Ext.one _ _).alloc _⟩
  subst h4
  have HY : Hid (Z = (List.range n).all fun j => sameRu (rs.getD j r0) (ss.getD j r0)) := HB.out.trans (by simp)
  clear HB
  have X : Hid (Ext w ((w.alloc (.cells #[.int .i64 ar, .int .i64 ac, .int .i64 da, .slice a n cap] 26)).alloc (.cells #[.int .i64 ar, .int .i64 ac, .int .i64 da, .slice b n dap] 26))) := (Ext.one _ _).alloc _
  have C1 := (CellsAt.new w [.int .i64 ar, .int .i64 ac, .int .i64 da, .slice a n cap] 26).step (Ext.one _ (.cells #[.int .i64 ar, .int .i64 ac, .int .i64 da, .slice b n dap] 26))
  have C2 := CellsAt.new' (w.alloc (.cells #[.int .i64 ar, .int .i64 ac, .int .i64 da, .slice a n cap] 26)) [.int .i64 ar, .int .i64 ac, .int .i64 da, .slice b n dap] 26 (w.heap.size + 1) (by simp)
  simp only [List.toArray] at C1 C2
  go_enter Tryz.func14, Tryz.ntmps14
  go_wp2_with fail
  generalize hW : (w.alloc (.cells #[.int .i64 ar, .int .i64 ac, .int .i64 da, .slice a n cap] 26)).alloc (.cells #[.int .i64 ar, .int .i64 ac, .int .i64 da, .slice b n dap] 26) = W at *
  have HC : Hid (CellsAt W w.heap.size [.int .i64 ar, .int .i64 ac, .int .i64 da, .slice a n cap] ∧ CellsAt W (w.heap.size + 1) [.int .i64 ar, .int .i64 ac, .int .i64 da, .slice b n dap] ∧ Ext w W) := ⟨C1, C2, X.out⟩
  clear C1 C2 X hW
  go_loopw [5] (fun i wr => ∃ k : Nat, i = .int .i64 k ∧ k ≤ n ∧ Hid (Ext w wr) ∧ Hid (Ext W wr) ∧ Hid ((List.range k).all (fun j => sameRu (rs.getD j r0) (ss.getD j r0)) = true)) (fun i _ => n - (intOf i).toNat)
  case atStart => exact ⟨0, rfl, by omega, HC.out.2.2, Ext.refl _, by simp [Hid]⟩
  case round =>
    obtain ⟨k, rfl, hk, hE, hEW, hall⟩ := hrel
    have c1 := (HC.out.1.step hEW.out).2 3 _ rfl
    have c2 := (HC.out.2.1.step hEW.out).2 3 _ rfl
    by_cases hlt : k < n
    · have bk : (k : Int) < (n : Int) := by omega
      obtain ⟨b1, o1, l1, rfl, s1, hL1⟩ := (HA.out wr hE.out).1.at (k := k) (by have := HN.out.1; omega)
      obtain ⟨b2, o2, l2, rfl, s2, hL2⟩ := (HA.out wr hE.out).2.at (k := k) (by have := HN.out.2.1; omega)
      obtain ⟨x1, n1, d1, y1, m1, e1, rfl, g1, g2, N1, K1⟩ := hL1
      obtain ⟨x2, n2, d2, y2, m2, e2, rfl, g3, g4, N2, K2⟩ := hL2
      have sm1 := HN.out.2.2.1 k (by have := HN.out.1; omega)
      have sm2 := HN.out.2.2.2 k (by have := HN.out.2.1; omega)
      obtain ⟨r, hr⟩ : ∃ r, r = rs.getD k r0 := ⟨_, rfl⟩
      obtain ⟨s, hsx⟩ : ∃ s, s = ss.getD k r0 := ⟨_, rfl⟩
      rw [← hr] at g1 g2 N1 K1 sm1 s1
      rw [← hsx] at g3 g4 N2 K2 sm2 s2
      obtain ⟨z1, hz1⟩ : ∃ z, z = sameNs r.nums s.nums := ⟨_, rfl⟩
      have hm1 : m1 ≤ 1048576 := by rw [g2]; exact sm1.2
      have HZ : Hid (sameRu (rs.getD k r0) (ss.getD k r0) = (((r.act == s.act) && (r.data == s.data)) && (z1 && (decide (m1 = m2) && (List.range m1).all fun j => sameC (r.conds.getD j c0) (s.conds.getD j c0))))) := by
        rw [← hr, ← hsx, hz1, g2, g4]; rfl
      have HL : Hid (m1 = r.conds.length ∧ m2 = s.conds.length) := ⟨g2, g4⟩
      have HT : Hid (∀ W, Ext wr W → Calls Tryz.prog 43 #[.slice x1 n1 d1, .slice x2 n2 d2] W fun e w' => e = .returned (.bool z1) ∧ Ext W w') :=
        fun W hx => by rw [hz1]; exact l10Same_any x1 x2 d1 d2 n1 n2 _ _ W g1 g3 (by rw [g1]; exact sm1.1) (by rw [g3]; exact sm2.1) (N1.step hx) (N2.step hx)
      have HK : Hid (∀ W, Ext wr W → Conds W y1 r.conds ∧ Conds W y2 s.conds) := fun W hx => ⟨K1.step hx, K2.step hx⟩
      clear hr hsx hz1 g1 g2 g3 g4 N1 N2 K1 K2 sm1 sm2
      obtain ⟨rn, rc, ra, rd⟩ := r
      obtain ⟨sn, sc, sa, sd⟩ := s
      simp only at HZ HL HK s1 s2 ⊢
      have c2' := (HC.out.2.1.step (hEW.out.alloc (.cells #[.slice x1 n1 d1, .slice y1 m1 e1, .int .i64 ra, .int .i64 rd] 53))).2 3 _ rfl
      have s2' := s2.2.below (Ext.one wr (.cells #[.slice x1 n1 d1, .slice y1 m1 e1, .int .i64 ra, .int .i64 rd] 53)) s2.1
      obtain ⟨p0, p1, p2, p3⟩ := s1.2.four
      obtain ⟨q0, q1, q2, q3⟩ := s2'.four
      simp only [List.toArray] at q0 q1 q2 q3 c2'
      have B1 := (CellsAt.new wr [.slice x1 n1 d1, .slice y1 m1 e1, .int .i64 ra, .int .i64 rd] 53).step (Ext.one _ (.cells #[.slice x2 n2 d2, .slice y2 m2 e2, .int .i64 sa, .int .i64 sd] 53))
      have B2 := CellsAt.new' (wr.alloc (.cells #[.slice x1 n1 d1, .slice y1 m1 e1, .int .i64 ra, .int .i64 rd] 53)) [.slice x2 n2 d2, .slice y2 m2 e2, .int .i64 sa, .int .i64 sd] 53 (wr.heap.size + 1) (by simp)
      have XB : Hid (Ext wr ((wr.alloc (.cells #[.slice x1 n1 d1, .slice y1 m1 e1, .int .i64 ra, .int .i64 rd] 53)).alloc (.cells #[.slice x2 n2 d2, .slice y2 m2 e2, .int .i64 sa, .int .i64 sd] 53))) := (Ext.one _ _).alloc _
      have hnz : ¬ b2 = wr.heap.size := by have := s2.1; omega
      have hnz2 : ¬ w.heap.size + 1 = wr.heap.size := by have := (HC.out.2.1.step hEW.out).1; omega
      simp only [List.toArray] at B1 B2
      clear s1 s2 s2'
      go_wp2_with fail
      generalize hW3 : (wr.alloc (.cells #[.slice x1 n1 d1, .slice y1 m1 e1, .int .i64 ra, .int .i64 rd] 53)).alloc (.cells #[.slice x2 n2 d2, .slice y2 m2 e2, .int .i64 sa, .int .i64 sd] 53) = W3 at *
      refine (HT.out _ XB.out).mono ?_
      rintro e w1 ⟨rfl, t1⟩
      have X1 : Hid (Ext wr w1) := XB.out.trans t1
      have D1 := B1.step t1
      have D2 := B2.step t1
      clear t1 p0 p1 p2 p3 q0 q1 q2 q3 c1 c2 c2' B1 B2 XB hW3 hnz hnz2
      obtain ⟨p0, p1, p2, p3⟩ := (⟨D1.2 0 _ rfl, D1.2 1 _ rfl, D1.2 2 _ rfl, D1.2 3 _ rfl⟩ : _ ∧ _ ∧ _ ∧ _)
      obtain ⟨q0, q1, q2, q3⟩ := (⟨D2.2 0 _ rfl, D2.2 1 _ rfl, D2.2 2 _ rfl, D2.2 3 _ rfl⟩ : _ ∧ _ ∧ _ ∧ _)
      cases z1
      case false =>
        clear D1 D2
        have HF : Hid (((List.range n).all fun j => sameRu (rs.getD j r0) (ss.getD j r0)) = false) := range_bad (k := k) hlt (by rw [HZ.out]; simp [])
        clear hall
        go_wp2
        go_ret
        exact ⟨by rw [HY.out, HF.out]; rfl, hE.out.trans X1.out⟩
      by_cases h1 : ra = sa
      case neg =>
        have hne : (ra == sa) = false := by simpa using h1
        clear D1 D2
        have HF : Hid (((List.range n).all fun j => sameRu (rs.getD j r0) (ss.getD j r0)) = false) := range_bad (k := k) hlt (by rw [HZ.out]; simp [h1])
        clear hall
        go_wp2
        go_ret
        exact ⟨by rw [HY.out, HF.out]; rfl, hE.out.trans X1.out⟩
      subst h1
      by_cases h2 : rd = sd
      case neg =>
        have hne : (rd == sd) = false := by simpa using h2
        clear D1 D2
        have HF : Hid (((List.range n).all fun j => sameRu (rs.getD j r0) (ss.getD j r0)) = false) := range_bad (k := k) hlt (by rw [HZ.out]; simp [h2])
        clear hall
        go_wp2
        go_ret
        exact ⟨by rw [HY.out, HF.out]; rfl, hE.out.trans X1.out⟩
      subst h2
      by_cases h4 : m1 = m2
      case neg =>
        have hne : ((m1 : Int) == (m2 : Int)) = false := by simpa using fun h => h4 (by omega)
        clear D1 D2
        have HF : Hid (((List.range n).all fun j => sameRu (rs.getD j r0) (ss.getD j r0)) = false) := range_bad (k := k) hlt (by rw [HZ.out]; simp [h4])
        clear hall
        go_wp2
        go_ret
        exact ⟨by rw [HY.out, HF.out]; rfl, hE.out.trans X1.out⟩
      subst h4
      have HZ2 : Hid (sameRu (rs.getD k r0) (ss.getD k r0) = ((List.range m1).all fun j => sameC (rc.getD j c0) (sc.getD j c0))) := HZ.out.trans (by simp)
      have HD : Hid (CellsAt w1 wr.heap.size [.slice x1 n1 d1, .slice y1 m1 e1, .int .i64 ra, .int .i64 rd] ∧ CellsAt w1 (wr.heap.size + 1) [.slice x2 n2 d2, .slice y2 m1 e2, .int .i64 ra, .int .i64 rd]) := ⟨D1, D2⟩
      clear HZ D1 D2
      have XW : Hid (Ext w w1 ∧ Ext W w1) := ⟨hE.out.trans X1.out, hEW.out.trans X1.out⟩
      have HK1 : Hid (∀ V, Ext w1 V → Conds V y1 rc ∧ Conds V y2 sc) := fun V hx => HK.out V (X1.out.trans hx)
      clear HK HT X1 hE hEW
      go_wp2_with fail
      clear p0 p1 p2 p3 q0 q1 q2 q3
      generalize wr.heap.size = g at *
      go_loopw [8] (fun i wr2 => ∃ j : Nat, i = .int .i64 j ∧ j ≤ m1 ∧ Hid (Ext w1 wr2) ∧ Hid ((List.range j).all (fun j => sameC (rc.getD j c0) (sc.getD j c0)) = true)) (fun i _ => m1 - (intOf i).toNat)
      case atStart => exact ⟨0, rfl, by omega, Ext.refl _, by simp [Hid]⟩
      case round =>
        obtain ⟨j, rfl, hj, hE2, hal2⟩ := hrel
        have dd1 := HD.out.1.step hE2.out
        have dd2 := HD.out.2.step hE2.out
        have p1 := dd1.2 1 _ rfl
        have q1 := dd2.2 1 _ rfl
        by_cases hlt2 : j < m1
        · have bk2 : (j : Int) < (m1 : Int) := by omega
          obtain ⟨x, hx⟩ : ∃ x, x = rc.getD j c0 := ⟨_, rfl⟩
          obtain ⟨y, hy⟩ : ∃ y, y = sc.getD j c0 := ⟨_, rfl⟩
          obtain ⟨f1, o1, rfl, g1, t1⟩ := (HK1.out wr hE2.out).1.at (k := j) (by have := HL.out.1; omega) hx
          obtain ⟨f2, o2, rfl, g2, t2⟩ := (HK1.out wr hE2.out).2.at (k := j) (by have := HL.out.2; omega) hy
          obtain ⟨z, hz⟩ : ∃ z, z = sameC x y := ⟨_, rfl⟩
          have HQ : Hid (z = sameC (rc.getD j c0) (sc.getD j c0)) := by unfold Hid; rw [hz, hx, hy]
          clear hx hy
          obtain ⟨ag, mh, ml, cm, vh, vl⟩ := x
          obtain ⟨ag', mh', ml', cm', vh', vl'⟩ := y
          have S1 : Hid ((SegB wr f1 (o1 + j * 6) [.int .i64 ag, .int .i64 mh, .int .i64 ml, .int .i64 cm, .int .i64 vh, .int .i64 vl] ∧ SegB wr f2 (o2 + j * 6) [.int .i64 ag', .int .i64 mh', .int .i64 ml', .int .i64 cm', .int .i64 vh', .int .i64 vl']) ∧ (CellsAt wr g [.slice x1 n1 d1, .slice (some ⟨f1, o1, none⟩) m1 e1, .int .i64 ra, .int .i64 rd] ∧ CellsAt wr (g + 1) [.slice x2 n2 d2, .slice (some ⟨f2, o2, none⟩) m1 e2, .int .i64 ra, .int .i64 rd])) := ⟨⟨⟨g1, t1⟩, ⟨g2, t2⟩⟩, ⟨dd1, dd2⟩⟩
          have hEq := eq_condN ag mh ml cm vh vl ag' mh' ml' cm' vh' vl'
          rw [← hz] at hEq
          clear hz t1 t2 g1 g2 q1 dd1 dd2
          go_wp2_with fail
          clear p1
          refine' wp_region_loose (.inl _ :: .inl _ :: .inl _ :: .inl _ :: .inl _ :: .inl _ :: .inl _ :: .inl _ :: .inl _ :: .inl _ :: .inl _ :: []) (fun w' => (SegB w' f1 (o1 + j * 6) [.int .i64 ag, .int .i64 mh, .int .i64 ml, .int .i64 cm, .int .i64 vh, .int .i64 vl] ∧ SegB w' f2 (o2 + j * 6) [.int .i64 ag', .int .i64 mh', .int .i64 ml', .int .i64 cm', .int .i64 vh', .int .i64 vl']) ∧ (CellsAt w' g [.slice x1 n1 d1, .slice (some ⟨f1, o1, none⟩) m1 e1, .int .i64 ra, .int .i64 rd] ∧ CellsAt w' (g + 1) [.slice x2 n2 d2, .slice (some ⟨f2, o2, none⟩) m1 e2, .int .i64 ra, .int .i64 rd])) (by kernel_rfl) (by kernel_rfl) (S1.out) (fun _ _ h hE => ⟨⟨h.1.1.step hE, h.1.2.step hE⟩, ⟨h.2.1.step hE, h.2.2.step hE⟩⟩) ?hAb ?hlb ?hMb
          case' hMb => skip
          apply wpLoose_val rfl rfl
          case hs =>
            intro w1 hC hd Q1 hQ1
            obtain ⟨hE, hS⟩ := hC
            dsimp only [bare]
            obtain ⟨⟨⟨p0, p1, p2, p3, p4, p5⟩, ⟨q0, q1, q2, q3, q4, q5⟩⟩, r1, r2⟩ := (⟨⟨hS.1.1.2.six, hS.1.2.2.six⟩, hS.2.1.2 1 _ rfl, hS.2.2.2 1 _ rfl⟩ : (_ ∧ _) ∧ _ ∧ _)
            clear hd hE
            try clear hS
            go_wp2
            exact Ext.refl _
          case ha => rfl
          apply wpLoose_val rfl rfl
          case hs =>
            intro w1 hC hd Q1 hQ1
            obtain ⟨hE, hS⟩ := hC
            dsimp only [bare]
            obtain ⟨⟨⟨p0, p1, p2, p3, p4, p5⟩, ⟨q0, q1, q2, q3, q4, q5⟩⟩, r1, r2⟩ := (⟨⟨hS.1.1.2.six, hS.1.2.2.six⟩, hS.2.1.2 1 _ rfl, hS.2.2.2 1 _ rfl⟩ : (_ ∧ _) ∧ _ ∧ _)
            clear hd hE
            try clear hS
            go_wp2
            exact Ext.refl _
          case ha => rfl
          apply wpLoose_val rfl rfl
          case hs =>
            intro w1 hC hd Q1 hQ1
            obtain ⟨hE, hS⟩ := hC
            dsimp only [bare]
            obtain ⟨⟨⟨p0, p1, p2, p3, p4, p5⟩, ⟨q0, q1, q2, q3, q4, q5⟩⟩, r1, r2⟩ := (⟨⟨hS.1.1.2.six, hS.1.2.2.six⟩, hS.2.1.2 1 _ rfl, hS.2.2.2 1 _ rfl⟩ : (_ ∧ _) ∧ _ ∧ _)
            clear hd hE
            try clear hS
            go_wp2
            exact Ext.refl _
          case ha => rfl
          apply wpLoose_val rfl rfl
          case hs =>
            intro w1 hC hd Q1 hQ1
            obtain ⟨hE, hS⟩ := hC
            dsimp only [bare]
            obtain ⟨⟨⟨p0, p1, p2, p3, p4, p5⟩, ⟨q0, q1, q2, q3, q4, q5⟩⟩, r1, r2⟩ := (⟨⟨hS.1.1.2.six, hS.1.2.2.six⟩, hS.2.1.2 1 _ rfl, hS.2.2.2 1 _ rfl⟩ : (_ ∧ _) ∧ _ ∧ _)
            clear hd hE
            try clear hS
            go_wp2
            exact Ext.refl _
          case ha => rfl
          apply wpLoose_val rfl rfl
          case hs =>
            intro w1 hC hd Q1 hQ1
            obtain ⟨hE, hS⟩ := hC
            dsimp only [bare]
            obtain ⟨⟨⟨p0, p1, p2, p3, p4, p5⟩, ⟨q0, q1, q2, q3, q4, q5⟩⟩, r1, r2⟩ := (⟨⟨hS.1.1.2.six, hS.1.2.2.six⟩, hS.2.1.2 1 _ rfl, hS.2.2.2 1 _ rfl⟩ : (_ ∧ _) ∧ _ ∧ _)
            clear hd hE
            try clear hS
            go_wp2
            exact Ext.refl _
          case ha => rfl
          apply wpLoose_val rfl rfl
          case hs =>
            intro w1 hC hd Q1 hQ1
            obtain ⟨hE, hS⟩ := hC
            dsimp only [bare]
            obtain ⟨⟨⟨p0, p1, p2, p3, p4, p5⟩, ⟨q0, q1, q2, q3, q4, q5⟩⟩, r1, r2⟩ := (⟨⟨hS.1.1.2.six, hS.1.2.2.six⟩, hS.2.1.2 1 _ rfl, hS.2.2.2 1 _ rfl⟩ : (_ ∧ _) ∧ _ ∧ _)
            clear hd hE
            try clear hS
            go_wp2
            exact Ext.refl _
          case ha => rfl
          apply wpLoose_val rfl rfl
          case hs =>
            intro w1 hC hd Q1 hQ1
            obtain ⟨hE, hS⟩ := hC
            dsimp only [bare]
            obtain ⟨⟨⟨p0, p1, p2, p3, p4, p5⟩, ⟨q0, q1, q2, q3, q4, q5⟩⟩, r1, r2⟩ := (⟨⟨hS.1.1.2.six, hS.1.2.2.six⟩, hS.2.1.2 1 _ rfl, hS.2.2.2 1 _ rfl⟩ : (_ ∧ _) ∧ _ ∧ _)
            clear hd hE
            try clear hS
            go_wp2
            exact Ext.refl _
          case ha => rfl
          apply wpLoose_val rfl rfl
          case hs =>
            intro w1 hC hd Q1 hQ1
            obtain ⟨hE, hS⟩ := hC
            dsimp only [bare]
            obtain ⟨⟨⟨p0, p1, p2, p3, p4, p5⟩, ⟨q0, q1, q2, q3, q4, q5⟩⟩, r1, r2⟩ := (⟨⟨hS.1.1.2.six, hS.1.2.2.six⟩, hS.2.1.2 1 _ rfl, hS.2.2.2 1 _ rfl⟩ : (_ ∧ _) ∧ _ ∧ _)
            clear hd hE
            try clear hS
            go_wp2
            exact Ext.refl _
          case ha => rfl
          apply wpLoose_val rfl rfl
          case hs =>
            intro w1 hC hd Q1 hQ1
            obtain ⟨hE, hS⟩ := hC
            dsimp only [bare]
            obtain ⟨⟨⟨p0, p1, p2, p3, p4, p5⟩, ⟨q0, q1, q2, q3, q4, q5⟩⟩, r1, r2⟩ := (⟨⟨hS.1.1.2.six, hS.1.2.2.six⟩, hS.2.1.2 1 _ rfl, hS.2.2.2 1 _ rfl⟩ : (_ ∧ _) ∧ _ ∧ _)
            clear hd hE
            try clear hS
            go_wp2
            exact Ext.refl _
          case ha => rfl
          apply wpLoose_val rfl rfl
          case hs =>
            intro w1 hC hd Q1 hQ1
            obtain ⟨hE, hS⟩ := hC
            dsimp only [bare]
            obtain ⟨⟨⟨p0, p1, p2, p3, p4, p5⟩, ⟨q0, q1, q2, q3, q4, q5⟩⟩, r1, r2⟩ := (⟨⟨hS.1.1.2.six, hS.1.2.2.six⟩, hS.2.1.2 1 _ rfl, hS.2.2.2 1 _ rfl⟩ : (_ ∧ _) ∧ _ ∧ _)
            clear hd hE
            try clear hS
            go_wp2
            exact Ext.refl _
          case ha => rfl
          apply wpLoose_val rfl rfl
          case hs =>
            intro w1 hC hd Q1 hQ1
            obtain ⟨hE, hS⟩ := hC
            dsimp only [bare]
            obtain ⟨⟨⟨p0, p1, p2, p3, p4, p5⟩, ⟨q0, q1, q2, q3, q4, q5⟩⟩, r1, r2⟩ := (⟨⟨hS.1.1.2.six, hS.1.2.2.six⟩, hS.2.1.2 1 _ rfl, hS.2.2.2 1 _ rfl⟩ : (_ ∧ _) ∧ _ ∧ _)
            clear hd hE
            try clear hS
            go_wp2
            exact Ext.refl _
          case ha => rfl
          refine wpLoose_nil ?_
          intro wb hEb hSb hFb
          · have HE3 : Hid (Ext w1 wb) := hE2.out.drew.trans hEb
            clear hFb hSb hEb S1 hEq
            cases z
            · have HF : Hid (((List.range n).all fun j => sameRu (rs.getD j r0) (ss.getD j r0)) = false) := range_bad (k := k) hlt (by rw [HZ2.out]; exact range_bad (k := j) hlt2 HQ.out.symm)
              clear hall hal2
              go_wp2
              go_ret
              exact ⟨by rw [HY.out, HF.out]; rfl, XW.out.1.trans HE3.out⟩
            · have HT : Hid ((List.range (j + 1)).all (fun j => sameC (rc.getD j c0) (sc.getD j c0)) = true) := range_more hal2.out HQ.out.symm
              clear hal2
              go_wp2
              go_roundw
              case rel => exact ⟨j + 1, by go_num, by omega, HE3, HT⟩
              case measure => simp [intOf]; omega
          case hAb => kernel_rfl
          case hlb => exact ⟨trivial, trivial, trivial, trivial, trivial, trivial, trivial, trivial, trivial, trivial, trivial, trivial⟩
        · obtain rfl : j = m1 := by omega
          have bk2 : ¬ ((j : Int) < (j : Int)) := by omega
          have HT : Hid ((List.range (k + 1)).all (fun j => sameRu (rs.getD j r0) (ss.getD j r0)) = true) := range_more hall.out (HZ2.out.trans hal2.out)
          clear hall hal2 dd1 dd2
          go_wp2
          go_roundw
          case rel => exact ⟨k + 1, by go_num, by omega, XW.out.1.trans hE2.out, XW.out.2.trans hE2.out, HT⟩
          case measure => simp [intOf]; omega
    · obtain rfl : k = n := by omega
      have bk : ¬ ((k : Int) < (k : Int)) := by omega
      go_wp2
      go_ret
      exact ⟨by rw [HY.out, hall.out]; rfl, hE.out⟩

end Go.Proofs.YtojaohdmfahpmaaGreatDoor
