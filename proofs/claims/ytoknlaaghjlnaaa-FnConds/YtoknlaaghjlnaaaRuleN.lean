/- Rules whose memory lies from a block on; rows of numbers and of conditions as append leaves them. -/
import Derived.Test.YtoknlaaghjlnaaaDrawCond
import Derived.Test.YtoknlaaghjlnaaaToPolicy
namespace Go.Proofs.Ytoknlaaghjlnaaa
open Go.RowKit
set_option linter.unusedVariables false

/-- A slice's address, where it has one, lies from block B on. -/
def From (B : Nat) (w : World) (a : Option Addr) : Prop := ∀ b o s, a = some ⟨b, o, s⟩ → B ≤ b ∧ b < w.heap.size

theorem From.size {B : Nat} {w w' : World} {a : Option Addr} (h : From B w a) (hs : w.heap.size ≤ w'.heap.size) : From B w' a := fun b o s e => ⟨(h b o s e).1, by have := (h b o s e).2; omega⟩

theorem Nums.kept {w w' : World} {a : Option Addr} {zs : List Int} (h : Nums w a zs) (hb : ∀ b o, a = some ⟨b, o, none⟩ → w'.heap[b]? = w.heap[b]?) (hs : w.heap.size ≤ w'.heap.size) : Nums w' a zs := fun hp => by
  obtain ⟨b, off, ha, hbl, hc⟩ := h hp
  exact ⟨b, off, ha, by omega, fun j hj => (World.cell?_of_block (w := w) (a := ⟨b, off + j, none⟩) (hb b off ha)).trans (hc j hj)⟩

theorem Conds.kept {w w' : World} {a : Option Addr} {cs : List CN} (h : Conds w a cs) (hb : ∀ b o, a = some ⟨b, o, none⟩ → w'.heap[b]? = w.heap[b]?) (hs : w.heap.size ≤ w'.heap.size) : Conds w' a cs := fun hp => by
  obtain ⟨b, off, ha, hbl, hc⟩ := h hp
  exact ⟨b, off, ha, by omega, fun j hj i v hv => (World.cell?_of_block (w := w) (a := ⟨b, off + j * 6 + i, none⟩) (hb b off ha)).trans (hc j hj i v hv)⟩

/-- The four cells of a rule whose memory, where it has any, lies from block B on. -/
def RuleN (B : Nat) (w : World) (r : RN) (l : List Value) : Prop :=
  ∃ a1 n1 c1 a2 n2 c2, l = [.slice a1 n1 c1, .slice a2 n2 c2, .int .i64 r.act, .int .i64 r.data] ∧ n1 = r.nums.length ∧ n2 = r.conds.length ∧ Nums w a1 r.nums ∧ Conds w a2 r.conds ∧ From B w a1 ∧ From B w a2

theorem RuleN.rule {B : Nat} {w : World} {r : RN} {l : List Value} (h : RuleN B w r l) : RuleL w r l := by
  obtain ⟨a1, n1, c1, a2, n2, c2, e, e1, e2, h1, h2, _⟩ := h
  exact ⟨a1, n1, c1, a2, n2, c2, e, e1, e2, h1, h2⟩

theorem RuleN.mono {B C : Nat} {w : World} {r : RN} {l : List Value} (h : RuleN B w r l) (hC : C ≤ B) : RuleN C w r l := by
  obtain ⟨a1, n1, c1, a2, n2, c2, e, e1, e2, h1, h2, f1, f2⟩ := h
  exact ⟨a1, n1, c1, a2, n2, c2, e, e1, e2, h1, h2, fun b o s he => ⟨by have := (f1 b o s he).1; omega, (f1 b o s he).2⟩, fun b o s he => ⟨by have := (f2 b o s he).1; omega, (f2 b o s he).2⟩⟩

/-- All blocks from B on that were there are as they were. -/
theorem RuleN.kept {B : Nat} {w w' : World} {r : RN} {l : List Value} (h : RuleN B w r l) (hb : ∀ b, B ≤ b → b < w.heap.size → w'.heap[b]? = w.heap[b]?) (hs : w.heap.size ≤ w'.heap.size) : RuleN B w' r l := by
  obtain ⟨a1, n1, c1, a2, n2, c2, e, e1, e2, h1, h2, f1, f2⟩ := h
  exact ⟨a1, n1, c1, a2, n2, c2, e, e1, e2, h1.kept (fun b o he => hb b (f1 b o none he).1 (f1 b o none he).2) hs, h2.kept (fun b o he => hb b (f2 b o none he).1 (f2 b o none he).2) hs, f1.size hs, f2.size hs⟩

theorem RuleN.grown {B : Nat} {w w' : World} {r : RN} {l : List Value} {row : Option Nat} (h : RuleN B w r l) (hg : w.grownBy w' row) (hr : ∀ b, B ≤ b → b < w.heap.size → some b ≠ row) : RuleN B w' r l :=
  h.kept (fun b h1 h2 => hg.block b h2 (hr b h1 h2)) hg.size

theorem RuleN.set {B : Nat} {w : World} {r : RN} {l : List Value} (h : RuleN B w r l) {k : Nat} (hk : k < B) (i : Nat) (v : Value) : RuleN B (w.setCell ⟨k, i, none⟩ v) r l :=
  h.kept (fun b h1 _ => Below.heap_setCell _ _ _ _ (by show b ≠ k; omega)) (by rw [World.size_setCell]; exact Nat.le_refl _)

/-- The cells of conditions in a row. -/
def flatC (cs : List CN) : List Value := cs.flatMap CN.l

theorem flatC_push (cs : List CN) (c : CN) : flatC cs ++ c.l = flatC (cs ++ [c]) := by simp [flatC]

theorem flatC_at : ∀ (cs : List CN) (j i : Nat) (v : Value), j < cs.length → (cs.getD j c0).l[i]? = some v → (flatC cs)[j * 6 + i]? = some v
  | [], j, _, _, h, _ => by simp at h
  | c :: cs, 0, i, v, _, hv => by
    have hi : i < c.l.length := (List.getElem?_eq_some_iff.1 hv).1
    simp only [flatC, List.flatMap_cons]
    rw [Nat.zero_mul, Nat.zero_add, List.getElem?_append_left hi]
    exact hv
  | c :: cs, j + 1, i, v, h, hv => by
    have := flatC_at cs j i v (by simpa using h) (by simpa using hv)
    simp only [flatC, List.flatMap_cons]
    rw [List.getElem?_append_right (by simp [CN.l]; omega)]
    have e : (j + 1) * 6 + i - c.l.length = j * 6 + i := by simp [CN.l]; omega
    rw [e]
    exact this

theorem own_nums {w : World} {base n : Nat} {v : Value} {zs : List Int} (h : w.ownsRow base 3 1 v n (zs.map (Value.int .i64))) (hn : zs.length = n) : ∃ a cap, v = .slice a n cap ∧ Nums w a zs ∧ From base w a := by
  rcases h.2 with ⟨rfl, h0⟩ | ⟨g, cap, cur, rfl, hg, hh, hnc, hcp, hcs, htake⟩
  · subst h0
    exact ⟨none, 0, rfl, fun hp => by omega, fun b o s e => by cases e⟩
  · have hlt := (Array.getElem?_eq_some_iff.1 hh).1
    refine ⟨some ⟨g, 0, none⟩, cap, rfl, fun hp => ⟨g, 0, rfl, hlt, fun j hj => ?_⟩, fun b o s e => by injection e with e; injection e with e1 e2 e3; subst e1; exact ⟨hg, hlt⟩⟩
    have e1 : (zs.map (Value.int .i64))[j]? = some (.int .i64 (zs.getD j 0)) := by simp [List.getD_eq_getElem?_getD, hj]
    rw [← htake, List.getElem?_take, if_pos (by omega)] at e1
    rw [Nat.zero_add, cell_of_row w g _ cur 3 _ hh]
    simpa using e1

theorem own_conds {w : World} {base n : Nat} {v : Value} {cs : List CN} (h : w.ownsRow base 44 6 v n (flatC cs)) (hn : cs.length = n) : ∃ a cap, v = .slice a n cap ∧ Conds w a cs ∧ From base w a := by
  rcases h.2 with ⟨rfl, h0⟩ | ⟨g, cap, cur, rfl, hg, hh, hnc, hcp, hcs, htake⟩
  · subst h0
    exact ⟨none, 0, rfl, fun hp => by omega, fun b o s e => by cases e⟩
  · have hlt := (Array.getElem?_eq_some_iff.1 hh).1
    refine ⟨some ⟨g, 0, none⟩, cap, rfl, fun hp => ⟨g, 0, rfl, hlt, fun j hj i u hu => ?_⟩, fun b o s e => by injection e with e; injection e with e1 e2 e3; subst e1; exact ⟨hg, hlt⟩⟩
    have hi : i < 6 := by have h3 := (List.getElem?_eq_some_iff.1 hu).1; simpa [CN.l] using h3
    have e1 := flatC_at cs j i u hj hu
    rw [← htake, List.getElem?_take, if_pos (by omega)] at e1
    rw [Nat.zero_add, cell_of_row w g _ cur 44 _ hh]
    simpa using e1

theorem own_lt9 {w : World} {base e size : Nat} {v : Value} {n : Nat} {xs : List Value} (h : w.ownsRow base e size v n xs) {x : Nat} (hx : v.ownBlock = some x) : base ≤ x ∧ x < w.heap.size := by
  rcases h.2 with ⟨rfl, _⟩ | ⟨g, cap, cur, rfl, hgb, hh, _⟩
  · simp [Value.ownBlock] at hx
  · simp [Value.ownBlock] at hx; subst hx; exact ⟨hgb, (Array.getElem?_eq_some_iff.1 hh).1⟩

/-- Ascending numbers that are drawn: all right, the next one at least a. -/
def Up (zs : List Int) (at' : Nat) : Prop := (List.range zs.length).all (okAt zs) = true ∧ (0 < zs.length → zs.getD (zs.length - 1) 0 + 1 = (at' : Int)) ∧ at' ≤ 3 * zs.length

theorem okAt_push (zs : List Int) (z : Int) (i : Nat) (hi : i < zs.length) : okAt (zs ++ [z]) i = okAt zs i := by
  unfold okAt
  have e1 : (zs ++ [z]).getD i 0 = zs.getD i 0 := by simp [List.getD_eq_getElem?_getD, List.getElem?_append_left hi]
  have e2 : (zs ++ [z]).getD (i - 1) 0 = zs.getD (i - 1) 0 := by simp [List.getD_eq_getElem?_getD, List.getElem?_append_left (show i - 1 < zs.length by omega)]
  rw [e1, e2]

theorem Up.push {zs : List Int} {at' y : Nat} (h : Up zs at') (hy : y < 3) (hl : zs.length ≤ 100) : Up (zs ++ [(at' : Int) + (y : Int)]) (at' + 1 + y) := by
  obtain ⟨h1, h2, h3⟩ := h
  refine ⟨?_, fun _ => ?_, by simp; omega⟩
  · rw [List.length_append, List.length_singleton, List.range_succ, List.all_append, Bool.and_eq_true]
    refine ⟨?_, ?_⟩
    · rw [List.all_eq_true] at h1 ⊢
      intro i hi
      have hi' : i < zs.length := List.mem_range.1 hi
      rw [okAt_push zs _ i hi']
      exact h1 i hi
    · simp only [List.all_cons, List.all_nil, Bool.and_true]
      unfold okAt
      have e1 : (zs ++ [(at' : Int) + (y : Int)]).getD zs.length 0 = (at' : Int) + (y : Int) := by simp [List.getD_eq_getElem?_getD]
      rw [e1, Bool.and_eq_true]
      refine ⟨halfB_true.2 (by omega), ?_⟩
      by_cases h0 : zs.length = 0
      · simp [h0]
      · have e2 : (zs ++ [(at' : Int) + (y : Int)]).getD (zs.length - 1) 0 = zs.getD (zs.length - 1) 0 := by simp [List.getD_eq_getElem?_getD, List.getElem?_append_left (show zs.length - 1 < zs.length by omega)]
        rw [e2]
        have := h2 (by omega)
        rw [decide_eq_false h0, Bool.false_or]
        exact decide_eq_true (by omega)
  · simp [List.getD_eq_getElem?_getD]
    omega

theorem Up.ok {zs : List Int} {at' : Nat} (h : Up zs at') (hl : zs.length ≤ 4) : numsB zs = true := by
  rw [numsB_okAt, h.1, decide_eq_true hl]
  rfl

end Go.Proofs.Ytoknlaaghjlnaaa
