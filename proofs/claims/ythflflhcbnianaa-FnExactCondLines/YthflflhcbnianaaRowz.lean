/- Cells side by side in a block: read, written, kept while memory grows. -/
import Derived.Test.YthflflhcbnianaaCondOkIS
namespace Go.Proofs.Ythflflhcbnianaa
open Go.RowKit
set_option linter.unusedVariables false

/-- The cells l lie in block b from o on. -/
def Seg (W : World) (b o : Nat) (l : List Value) : Prop := ∀ i v, l[i]? = some v → W.cell? ⟨b, o + i, none⟩ = some v

theorem Seg.below {W W' : World} {B b o : Nat} {l : List Value} (h : Seg W b o l) (hb : Below B W W') (hB : b < B) : Seg W' b o l := fun i v hv => (hb.cell (p := ⟨b, o + i, none⟩) hB).trans (h i v hv)

theorem Seg.one {W : World} {b o : Nat} {v0 : Value} (h : Seg W b o [v0]) : W.cell? ⟨b, o, none⟩ = some v0 := h 0 _ rfl

theorem Seg.four {W : World} {b o : Nat} {v0 v1 v2 v3 : Value} (h : Seg W b o [v0, v1, v2, v3]) : W.cell? ⟨b, o, none⟩ = some v0 ∧ W.cell? ⟨b, o + 1, none⟩ = some v1 ∧ W.cell? ⟨b, o + 2, none⟩ = some v2 ∧ W.cell? ⟨b, o + 3, none⟩ = some v3 :=
  ⟨h 0 _ rfl, h 1 _ rfl, h 2 _ rfl, h 3 _ rfl⟩

theorem Seg.six {W : World} {b o : Nat} {v0 v1 v2 v3 v4 v5 : Value} (h : Seg W b o [v0, v1, v2, v3, v4, v5]) : W.cell? ⟨b, o, none⟩ = some v0 ∧ W.cell? ⟨b, o + 1, none⟩ = some v1 ∧ W.cell? ⟨b, o + 2, none⟩ = some v2 ∧ W.cell? ⟨b, o + 3, none⟩ = some v3 ∧ W.cell? ⟨b, o + 4, none⟩ = some v4 ∧ W.cell? ⟨b, o + 5, none⟩ = some v5 :=
  ⟨h 0 _ rfl, h 1 _ rfl, h 2 _ rfl, h 3 _ rfl, h 4 _ rfl, h 5 _ rfl⟩

/-- The values are stored into a block's cells from o on. -/
def putL (W : World) (g : Nat) : Nat → List Value → World
  | _, [] => W
  | o, v :: vs => putL (W.setCell ⟨g, o, none⟩ v) g (o + 1) vs

theorem putL_size (g : Nat) : ∀ (vs : List Value) (W : World) (o : Nat), (putL W g o vs).heap.size = W.heap.size
  | [], _, _ => rfl
  | v :: vs, W, o => by rw [putL, putL_size g vs, World.size_setCell]

theorem putL_frozen (g : Nat) (q : Addr) : ∀ (vs : List Value) (W : World) (o : Nat), (putL W g o vs).frozen? q = W.frozen? q
  | [], _, _ => rfl
  | v :: vs, W, o => by rw [putL, putL_frozen g q vs, World.frozen?_setCell]

theorem off_neq {g i j : Nat} (h : i ≠ j) : (⟨g, i, none⟩ : Addr) ≠ ⟨g, j, none⟩ := fun e => h (by injection e)

theorem putL_far (g : Nat) (q : Addr) : ∀ (vs : List Value) (W : World) (o : Nat), (∀ i, i < vs.length → q ≠ ⟨g, o + i, none⟩) → (putL W g o vs).cell? q = W.cell? q
  | [], _, _, _ => rfl
  | v :: vs, W, o, h => by
    rw [putL, putL_far g q vs _ _ (fun i hi => by have := h (i + 1) (by simp; omega); rw [show o + 1 + i = o + (i + 1) by omega]; exact this)]
    exact World.cell?_setCell_other _ _ _ _ (Ne.symm (h 0 (by simp)))

theorem putL_seg (g : Nat) : ∀ (vs : List Value) (W : World) (o : Nat), (∀ i, i < vs.length → ∃ u, W.cell? ⟨g, o + i, none⟩ = some u) → Seg (putL W g o vs) g o vs
  | [], _, _, _ => fun i v hv => by simp at hv
  | v :: vs, W, o, h => fun i x hx => by
    match i with
    | 0 =>
      simp at hx
      subst hx
      obtain ⟨u, hu⟩ := h 0 (by simp)
      rw [putL, putL_far g _ vs _ _ (fun i hi => off_neq (by omega))]
      exact World.cell?_setCell_same _ _ _ hu
    | i + 1 =>
      have := putL_seg g vs (W.setCell ⟨g, o, none⟩ v) (o + 1) (fun j hj => by
        obtain ⟨u, hu⟩ := h (j + 1) (by simp; omega)
        refine ⟨u, ?_⟩
        rw [World.cell?_setCell_other _ _ _ _ (off_neq (by omega)), show o + 1 + j = o + (j + 1) by omega]
        exact hu) i x (by simpa using hx)
      rw [show o + (i + 1) = o + 1 + i by omega]
      exact this

theorem putL_some (g : Nat) (q : Addr) : ∀ (vs : List Value) (W : World) (o : Nat), (∃ u, W.cell? q = some u) → ∃ u, (putL W g o vs).cell? q = some u
  | [], _, _, h => h
  | v :: vs, W, o, h => by
    rw [putL]
    refine putL_some g q vs _ _ ?_
    by_cases hq : q = ⟨g, o, none⟩
    · subst hq
      obtain ⟨u, hu⟩ := h
      exact ⟨v, World.cell?_setCell_same _ _ _ hu⟩
    · rw [World.cell?_setCell_other _ _ _ _ (Ne.symm hq)]
      exact h

theorem Below.putL {B g : Nat} (hg : B ≤ g) : ∀ (vs : List Value) {w W : World} (o : Nat), Below B w W → Below B w (putL W g o vs)
  | [], _, _, _, h => h
  | v :: vs, w, W, o, h => Below.putL hg vs (o + 1) (h.setCell (show B ≤ g from hg) _)

theorem Seg.putFar {W : World} {b o g p : Nat} {l vs : List Value} (h : Seg W b o l) (hf : b ≠ g ∨ o + l.length ≤ p ∨ p + vs.length ≤ o) : Seg (putL W g p vs) b o l := fun i v hv => by
  have hi : i < l.length := (List.getElem?_eq_some_iff.1 hv).1
  rw [putL_far g _ vs _ _ (fun j hj e => by injection e with e1 e2; rcases hf with hf | hf | hf <;> omega)]
  exact h i v hv

/-- Block g has N cells that may be written. -/
def FreeN (W : World) (g N : Nat) : Prop := g < W.heap.size ∧ ∀ j, j < N → (∃ u, W.cell? ⟨g, j, none⟩ = some u) ∧ W.frozen? ⟨g, j, none⟩ = false

theorem FreeN.step {W W' : World} {g N : Nat} (h : FreeN W g N) (hE : Ext W W') : FreeN W' g N :=
  ⟨Nat.lt_of_lt_of_le h.1 hE.size, fun j hj => ⟨by rw [hE.cell (p := ⟨g, j, none⟩) h.1]; exact (h.2 j hj).1, (hE.frozen (p := ⟨g, j, none⟩) h.1).trans (h.2 j hj).2⟩⟩

theorem FreeN.put {W : World} {g N : Nat} (h : FreeN W g N) (k o : Nat) (vs : List Value) : FreeN (putL W k o vs) g N :=
  ⟨by rw [putL_size]; exact h.1, fun j hj => ⟨putL_some k _ vs W o (h.2 j hj).1, by rw [putL_frozen]; exact (h.2 j hj).2⟩⟩

theorem FreeN.seg {W : World} {g N : Nat} (h : FreeN W g N) {o : Nat} {vs : List Value} (ho : o + vs.length ≤ N) : Seg (putL W g o vs) g o vs :=
  putL_seg g vs W o fun i hi => (h.2 (o + i) (by omega)).1

/-- A slice of conditions in memory, six cells each. -/
def Conds (w : World) (a : Option Addr) (cs : List CN) : Prop :=
  0 < cs.length → ∃ b off, a = some ⟨b, off, none⟩ ∧ b < w.heap.size ∧ ∀ j, j < cs.length → Seg w b (off + j * 6) (cs.getD j c0).l

theorem Conds.step {w w' : World} {a : Option Addr} {cs : List CN} (h : Conds w a cs) (hE : Ext w w') : Conds w' a cs := fun hp => by
  obtain ⟨b, off, ha, hb, hc⟩ := h hp
  exact ⟨b, off, ha, Nat.lt_of_lt_of_le hb hE.size, fun j hj => (hc j hj).below hE hb⟩

theorem Conds.at {w : World} {a : Option Addr} {cs : List CN} (h : Conds w a cs) {k : Nat} (hk : k < cs.length) {c : CN} (hc : c = cs.getD k c0) : ∃ b off, a = some ⟨b, off, none⟩ ∧ b < w.heap.size ∧ Seg w b (off + k * 6) c.l := by
  obtain ⟨b, off, ha, hb, hx⟩ := h (by omega)
  exact ⟨b, off, ha, hb, by rw [hc]; exact hx k hk⟩

theorem Conds.put {w : World} {b o g p : Nat} {cs : List CN} (h : Conds w (some ⟨b, o, none⟩) cs) (hg : b ≠ g) (vs : List Value) : Conds (putL w g p vs) (some ⟨b, o, none⟩) cs := fun hp => by
  obtain ⟨b', off, ha, hb, hc⟩ := h hp
  have e : b = b' := by injection ha with ha; injection ha
  subst e
  exact ⟨b, off, ha, by rw [putL_size]; exact hb, fun j hj => (hc j hj).putFar (.inl hg)⟩

/-- A slice of ints in memory. -/
def Nums (w : World) (a : Option Addr) (zs : List Int) : Prop :=
  0 < zs.length → ∃ b off, a = some ⟨b, off, none⟩ ∧ b < w.heap.size ∧ ∀ j, j < zs.length → w.cell? ⟨b, off + j, none⟩ = some (.int .i64 (zs.getD j 0))

theorem Nums.step {w w' : World} {a : Option Addr} {zs : List Int} (h : Nums w a zs) (hE : Ext w w') : Nums w' a zs := fun hp => by
  obtain ⟨b, off, ha, hb, hc⟩ := h hp
  exact ⟨b, off, ha, Nat.lt_of_lt_of_le hb hE.size, fun j hj => (hE.cell (p := ⟨b, off + j, none⟩) hb).trans (hc j hj)⟩

theorem Nums.at {w : World} {a : Option Addr} {zs : List Int} (h : Nums w a zs) {k : Nat} (hk : k < zs.length) : ∃ b off, a = some ⟨b, off, none⟩ ∧ b < w.heap.size ∧ w.cell? ⟨b, off + k, none⟩ = some (.int .i64 (zs.getD k 0)) := by
  obtain ⟨b, off, ha, hb, hx⟩ := h (by omega)
  exact ⟨b, off, ha, hb, hx k hk⟩

theorem Nums.put {w : World} {b o g p : Nat} {zs : List Int} (h : Nums w (some ⟨b, o, none⟩) zs) (hg : b ≠ g) (vs : List Value) : Nums (putL w g p vs) (some ⟨b, o, none⟩) zs := fun hp => by
  obtain ⟨b', off, ha, hb, hc⟩ := h hp
  have e : b = b' := by injection ha with ha; injection ha
  subst e
  exact ⟨b, off, ha, by rw [putL_size]; exact hb, fun j hj => by rw [putL_far g _ vs _ _ (fun i hi e => by injection e with e1 e2; exact hg e1)]; exact hc j hj⟩

end Go.Proofs.Ythflflhcbnianaa
