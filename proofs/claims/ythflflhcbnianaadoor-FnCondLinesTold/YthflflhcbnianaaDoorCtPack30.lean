/- What the laws' sameLines answers of two rows of the same lines. (Written by mksame12.py.) -/
import Derived.Test.YthflflhcbnianaaDoorCtPack29
import Derived.Test.YthflflhcbnianaaDoorCtPack18
import Derived.Deep.RegionHeld3
/- What the laws' markLineS and heldLineS do to a row of lines: every cell bears its mark, and is found with it. (Written by mkheld.py.) -/
namespace Go.Proofs.YthflflhcbnianaaDoor
open Go.RowKit
set_option linter.unusedVariables false

/-- The mark of the cell i. -/
def mkV (i : Nat) : Value := if i % 7 = 0 ∨ i % 7 = 5 ∨ i % 7 = 6 then .string (markB (i + 1)) else .int .i64 ((i + 1 : Nat) : Int)

def Slot7 (W : World) (g n : Nat) : Prop := g < W.heap.size ∧ ∀ j, j < n → (∃ v, W.cell? ⟨g, j, none⟩ = some v) ∧ W.frozen? ⟨g, j, none⟩ = false

theorem Slot7.ext {W W' : World} {g n : Nat} (h : Slot7 W g n) (hE : Ext W W') : Slot7 W' g n :=
  ⟨Nat.lt_of_lt_of_le h.1 hE.size, fun j hj => ⟨by obtain ⟨v, hv⟩ := (h.2 j hj).1; exact ⟨v, (hE.cell (p := ⟨g, j, none⟩) h.1).trans hv⟩, (hE.frozen (p := ⟨g, j, none⟩) h.1).trans (h.2 j hj).2⟩⟩

theorem cell_put (W : World) (g i j : Nat) (u v : Value) (h : W.cell? ⟨g, j, none⟩ = some u) : (W.setCell ⟨g, i, none⟩ v).cell? ⟨g, j, none⟩ = some (if j = i then v else u) := by
  by_cases e : j = i
  · subst e; rw [if_pos rfl]; exact World.cell?_setCell_same _ _ _ h
  · rw [if_neg e, World.cell?_setCell_other _ _ _ _ (fun hh => e (by injection hh with _ h2; exact h2.symm))]; exact h

theorem Slot7.set {W : World} {g n : Nat} (h : Slot7 W g n) (i : Nat) (v : Value) : Slot7 (W.setCell ⟨g, i, none⟩ v) g n := by
  refine ⟨by rw [World.size_setCell]; exact h.1, fun j hj => ⟨?_, by rw [World.frozen?_setCell]; exact (h.2 j hj).2⟩⟩
  obtain ⟨u, hu⟩ := (h.2 j hj).1
  exact ⟨_, cell_put W g i j u v hu⟩

/-- The first k cells bear their marks. -/
def Done7 (W : World) (g k : Nat) : Prop := g < W.heap.size ∧ ∀ i, i < k → W.cell? ⟨g, i, none⟩ = some (mkV i)

theorem Done7.ext {W W' : World} {g k : Nat} (h : Done7 W g k) (hE : Ext W W') : Done7 W' g k :=
  ⟨Nat.lt_of_lt_of_le h.1 hE.size, fun i hi => (hE.cell (p := ⟨g, i, none⟩) h.1).trans (h.2 i hi)⟩

theorem Done7.set {W : World} {g k n : Nat} (h : Done7 W g k) (hs : Slot7 W g n) (hk : k < n) {v : Value} (hv : v = mkV k) : Done7 (W.setCell ⟨g, k, none⟩ v) g (k + 1) := by
  refine ⟨by rw [World.size_setCell]; exact h.1, fun i hi => ?_⟩
  by_cases e : i = k
  · subst e
    obtain ⟨u, hu⟩ := (hs.2 i hk).1
    rw [World.cell?_setCell_same _ _ _ hu, hv]
  · rw [World.cell?_setCell_other _ _ _ _ (fun hh => e (by injection hh with _ h2; exact h2.symm))]
    exact h.2 i (by omega)

/-- What holds in a round: the marks so far, the slots, what is left as it was. -/
def Mk7 (w W : World) (g n k : Nat) : Prop := w.grownBy W (some g) ∧ Slot7 W g (n * 7) ∧ Done7 W g k

theorem Mk7.ext {w W W' : World} {g n k : Nat} (h : Mk7 w W g n k) (hE : Ext W W') : Mk7 w W' g n k :=
  ⟨⟨hE.os.trans h.1.os, hE.tape.trans h.1.tape, hE.output.trans h.1.output, Nat.le_trans h.1.size hE.size, fun i hi hne => (hE.block i (Nat.lt_of_lt_of_le hi h.1.size)).trans (h.1.block i hi hne)⟩, h.2.1.ext hE, h.2.2.ext hE⟩

theorem Mk7.set {w W : World} {g n k : Nat} (h : Mk7 w W g n k) (hk : k < n * 7) {v : Value} (hv : v = mkV k) : Mk7 w (W.setCell ⟨g, k, none⟩ v) g n (k + 1) :=
  ⟨⟨h.1.os, h.1.tape, h.1.output, by rw [World.size_setCell]; exact h.1.size, fun j hj hne => (Below.heap_setCell _ _ _ _ (fun e => hne (by rw [e]))).trans (h.1.block j hj hne)⟩, h.2.1.set k v, h.2.2.set h.2.1 hk hv⟩

theorem OwnL.lt {w : World} {B : Nat} {v : Value} {ls : List Ln} (h : OwnL w B v ls) {x : Nat} (hx : v.ownBlock = some x) : x < w.heap.size := by
  have hown : w.ownsRow B 38 7 v ls.length (flatL ls) := h
  rcases hown.2 with ⟨rfl, h0⟩ | ⟨g, cap, cur, rfl, hg, hh, _⟩
  · cases hx
  · obtain rfl : g = x := Option.some.inj hx
    exact (Array.getElem?_eq_some_iff.1 hh).1

/-- A row of n lines that bear their marks. -/
def Marked (W : World) (v : Value) (n : Nat) : Prop := ∃ a cap, v = .slice a n cap ∧ (0 < n → ∃ g, a = some ⟨g, 0, none⟩ ∧ Done7 W g (n * 7))

theorem Marked.ext {W W' : World} {v : Value} {n : Nat} (h : Marked W v n) (hE : Ext W W') : Marked W' v n := by
  obtain ⟨a, cap, e, h⟩ := h
  exact ⟨a, cap, e, fun hp => by obtain ⟨g, e1, h1⟩ := h hp; exact ⟨g, e1, h1.ext hE⟩⟩

theorem fieldsLn : ∃ f g h i : Field, Tryd.prog.fieldsOf 38 = #[f, g, h, i] ∧ Tryd.prog.underlying 38 = some (.struct #[f, g, h, i]) ∧ (f.name ≠ "_" ∧ f.type = 9 ∧ f.offset = 0) ∧ (g.name ≠ "_" ∧ g.type = 36 ∧ g.offset = 1) ∧ (h.name ≠ "_" ∧ h.type = 9 ∧ h.offset = 5) ∧ (i.name ≠ "_" ∧ i.type = 9 ∧ i.offset = 6) := by
  refine ⟨_, _, _, _, ?_, Tryd.underlying38, ⟨by decide, rfl, rfl⟩, ⟨by decide, rfl, rfl⟩, ⟨by decide, rfl, rfl⟩, ⟨by decide, rfl, rfl⟩⟩
  unfold Program.fieldsOf
  rw [Tryd.underlying38]

theorem stoodLn : Tryd.prog.stoodInHeld 38 = false := by kernel_rfl

/-- A word is held against itself, at a depth. -/
theorem eq_insD (a b c d : Int) (w : World) : (Op.equalIn 9999 36 (.agg #[.int .i64 a, .int .i64 b, .int .i64 c, .int .i64 d]) (.agg #[.int .i64 a, .int .i64 b, .int .i64 c, .int .i64 d])).run Tryd.prog w = .ok true w := by
  obtain ⟨f, g, h, i, hf, hu, ⟨fn, ft, fo⟩, ⟨gn, gt, go⟩, ⟨hn, ht, ho⟩, ⟨iN, it, io⟩⟩ := fieldsN
  have h1 := run_equalIn_agg (P := Tryd.prog) w 9998 36 #[.int .i64 a, .int .i64 b, .int .i64 c, .int .i64 d] #[.int .i64 a, .int .i64 b, .int .i64 c, .int .i64 d] (by rw [hf]; exact hu) stoodN
  have p0 : ∀ (x y z u : Value) wx, (part 3 #[x, y, z, u] 0).run Tryd.prog wx = .ok x wx := fun x y z u wx => by simp [part, Tryd.isAgg3]
  have p1 : ∀ (x y z u : Value) wx, (part 3 #[x, y, z, u] 1).run Tryd.prog wx = .ok y wx := fun x y z u wx => by simp [part, Tryd.isAgg3]
  have p2 : ∀ (x y z u : Value) wx, (part 3 #[x, y, z, u] 2).run Tryd.prog wx = .ok z wx := fun x y z u wx => by simp [part, Tryd.isAgg3]
  have p3 : ∀ (x y z u : Value) wx, (part 3 #[x, y, z, u] 3).run Tryd.prog wx = .ok u wx := fun x y z u wx => by simp [part, Tryd.isAgg3]
  have qi : ∀ (x y : Int) wx, (Op.equalIn 9998 3 (.int .i64 x) (.int .i64 y)).run Tryd.prog wx = .ok (x == y) wx := fun x y wx => run_equalIn_int wx 9997 3 .i64 .i64 x y Tryd.underlying3
  rw [show (9999 : Nat) = 9998 + 1 from rfl, h1, hf]
  simp only [Op.eqFields, fn, gn, hn, iN, ne_eq, not_false_eq_true, if_true, Sem.run_bind, ft, fo, gt, go, ht, ho, it, io, p0, Result.andThen_ok, qi]
  simp [p1, p2, p3, qi]

/-- A line is held against itself. -/
theorem eq_line (lab yes no : ByteArray) (o k y n : Int) (w : World) : (Op.equalIn 10000 38 (.agg #[.string lab, .int .i64 o, .int .i64 k, .int .i64 y, .int .i64 n, .string yes, .string no]) (.agg #[.string lab, .int .i64 o, .int .i64 k, .int .i64 y, .int .i64 n, .string yes, .string no])).run Tryd.prog w = .ok true w := by
  obtain ⟨F, G, H, I, hf, hu, ⟨fn, ft, fo⟩, ⟨gn, gt, go⟩, ⟨hn, ht, ho⟩, ⟨iN, it, io⟩⟩ := fieldsLn
  have h1 := run_equalIn_agg (P := Tryd.prog) w 9999 38 #[.string lab, .int .i64 o, .int .i64 k, .int .i64 y, .int .i64 n, .string yes, .string no] #[.string lab, .int .i64 o, .int .i64 k, .int .i64 y, .int .i64 n, .string yes, .string no] (by rw [hf]; exact hu) stoodLn
  have p0 : ∀ (v0 v1 v2 v3 v4 v5 v6 : Value) wx, (part 9 #[v0, v1, v2, v3, v4, v5, v6] 0).run Tryd.prog wx = .ok v0 wx := fun _ _ _ _ _ _ _ wx => by simp [part, Tryd.isAgg9]
  have p5 : ∀ (v0 v1 v2 v3 v4 v5 v6 : Value) wx, (part 9 #[v0, v1, v2, v3, v4, v5, v6] 5).run Tryd.prog wx = .ok v5 wx := fun _ _ _ _ _ _ _ wx => by simp [part, Tryd.isAgg9]
  have p6 : ∀ (v0 v1 v2 v3 v4 v5 v6 : Value) wx, (part 9 #[v0, v1, v2, v3, v4, v5, v6] 6).run Tryd.prog wx = .ok v6 wx := fun _ _ _ _ _ _ _ wx => by simp [part, Tryd.isAgg9]
  have p1 : ∀ (v0 v1 v2 v3 v4 v5 v6 : Value) wx, (part 36 #[v0, v1, v2, v3, v4, v5, v6] 1).run Tryd.prog wx = .ok (.agg #[v1, v2, v3, v4]) wx := fun _ _ _ _ _ _ _ wx => by simp [part, Tryd.isAgg36, Tryd.sizeOf36]
  have qs : ∀ (x : ByteArray) wx, (Op.equalIn 9999 9 (.string x) (.string x)).run Tryd.prog wx = .ok true wx := fun x wx => by rw [run_equalIn_string wx 9998 9 x x Tryd.underlying9]; simp
  rw [show (10000 : Nat) = 9999 + 1 from rfl, h1, hf]
  simp only [Op.eqFields, fn, gn, hn, iN, ne_eq, not_false_eq_true, if_true, Sem.run_bind, ft, fo, gt, go, ht, ho, it, io, p0, Result.andThen_ok, qs]
  simp only [Bool.not_true, Bool.false_eq_true, if_false, Sem.run_bind, p1, Result.andThen_ok, eq_insD]
  simp only [Bool.not_true, Bool.false_eq_true, if_false, Sem.run_bind, p5, Result.andThen_ok, qs]
  simp only [Bool.not_true, Bool.false_eq_true, if_false, p6, Result.andThen_ok, qs]
  simp

set_option maxRecDepth 100000 in
set_option maxHeartbeats 4000000 in
theorem sameLines_any (a1 a2 : Option Addr) (c1 c2 : Nat) (ls : List Ln) (w : World) (hl : ls.length ≤ 100000000) (h1 : Lns w a1 ls) (h2 : Lns w a2 ls) :
    Calls Tryd.prog 18 #[.slice a1 ls.length c1, .slice a2 ls.length c2] w fun e w' => e = .returned (.bool true) ∧ Ext w w' := by
  obtain ⟨n, hn⟩ : ∃ n, n = ls.length := ⟨_, rfl⟩
  have HA : Hid (Lns w a1 ls ∧ Lns w a2 ls ∧ n = ls.length) := ⟨h1, h2, hn⟩
  rw [← hn]
  have hl' : n ≤ 100000000 := by omega
  clear h1 h2 hn hl
  go_enter Tryd.func18, Tryd.ntmps18
  go_wp2_with fail
  go_loopw [5] (fun i wr => ∃ k : Nat, i = .int .i64 k ∧ k ≤ n ∧ Below w.heap.size w wr) (fun i _ => n - (intOf i).toNat)
  case atStart => exact ⟨0, rfl, by omega, Below.refl _ _⟩
  case round =>
    obtain ⟨k, rfl, hk, hb⟩ := hrel
    by_cases hlt : k < n
    · have bk : (k : Int) < (n : Int) := by omega
      obtain ⟨⟨lab, ⟨o, kk, y, nn⟩, yes, no⟩, hp⟩ : ∃ p, p = ls.getD k zeroL := ⟨_, rfl⟩
      obtain ⟨b1, o1, rfl, p1⟩ := (HA.out.1.below hb (Nat.le_refl _)).hept (k := k) (by have := HA.out.2.2; omega) hp
      obtain ⟨b2, o2, rfl, p2⟩ := (HA.out.2.1.below hb (Nat.le_refl _)).hept (k := k) (by have := HA.out.2.2; omega) hp
      have HEQ : Hid (∀ w, (Op.equalIn 10000 38 (.agg #[.string lab, .int .i64 o, .int .i64 kk, .int .i64 y, .int .i64 nn, .string yes, .string no]) (.agg #[.string lab, .int .i64 o, .int .i64 kk, .int .i64 y, .int .i64 nn, .string yes, .string no])).run Tryd.prog w = .ok true w) := fun w => eq_line lab yes no o kk y nn w
      clear hp
      have HB : Hid (Below w.heap.size w wr) := hb
      clear hb
      go_wp2_with fail
      refine' wp_region_loose (.inl _ :: .inl _ :: .inl _ :: .inl _ :: .inl _ :: .inl _ :: .inl _ :: .inl _ :: .inl _ :: []) (fun w' => Hept w' b1 (o1 + k * 7) ⟨lab, (o, kk, y, nn), yes, no⟩ ∧ Hept w' b2 (o2 + k * 7) ⟨lab, (o, kk, y, nn), yes, no⟩) (by kernel_rfl) (by kernel_rfl) (⟨p1, p2⟩) (fun _ _ h hE => ⟨h.1.below hE h.1.lt, h.2.below hE h.2.lt⟩) ?hAa ?hla ?hMa
      case' hMa => skip
      apply wpLoose_val rfl rfl
      case hs =>
        intro w1 hC hd Q1 hQ1
        obtain ⟨hE, hS⟩ := hC
        dsimp only [bare]
        obtain ⟨⟨q1, q2, q3, q4, q5, q6, q7⟩, ⟨t1, t2, t3, t4, t5, t6, t7⟩⟩ := hS; simp only at q1 q2 q3 q4 q5 q6 q7 t1 t2 t3 t4 t5 t6 t7
        clear hd hE
        try clear hS
        go_wp2
        exact Ext.refl _
      case ha => rfl
      apply wpLoose_val rfl rfl
      case hs =>
        intro w1 hC hd Q1 hQ1
        obtain ⟨hE, hS⟩ := hC
        dsimp only [bare]
        obtain ⟨⟨q1, q2, q3, q4, q5, q6, q7⟩, ⟨t1, t2, t3, t4, t5, t6, t7⟩⟩ := hS; simp only at q1 q2 q3 q4 q5 q6 q7 t1 t2 t3 t4 t5 t6 t7
        clear hd hE
        try clear hS
        go_wp2
        exact Ext.refl _
      case ha => rfl
      apply wpLoose_val rfl rfl
      case hs =>
        intro w1 hC hd Q1 hQ1
        obtain ⟨hE, hS⟩ := hC
        dsimp only [bare]
        obtain ⟨⟨q1, q2, q3, q4, q5, q6, q7⟩, ⟨t1, t2, t3, t4, t5, t6, t7⟩⟩ := hS; simp only at q1 q2 q3 q4 q5 q6 q7 t1 t2 t3 t4 t5 t6 t7
        clear hd hE
        try clear hS
        go_wp2
        exact Ext.refl _
      case ha => rfl
      apply wpLoose_val rfl rfl
      case hs =>
        intro w1 hC hd Q1 hQ1
        obtain ⟨hE, hS⟩ := hC
        dsimp only [bare]
        obtain ⟨⟨q1, q2, q3, q4, q5, q6, q7⟩, ⟨t1, t2, t3, t4, t5, t6, t7⟩⟩ := hS; simp only at q1 q2 q3 q4 q5 q6 q7 t1 t2 t3 t4 t5 t6 t7
        clear hd hE
        try clear hS
        go_wp2
        exact Ext.refl _
      case ha => rfl
      apply wpLoose_val rfl rfl
      case hs =>
        intro w1 hC hd Q1 hQ1
        obtain ⟨hE, hS⟩ := hC
        dsimp only [bare]
        obtain ⟨⟨q1, q2, q3, q4, q5, q6, q7⟩, ⟨t1, t2, t3, t4, t5, t6, t7⟩⟩ := hS; simp only at q1 q2 q3 q4 q5 q6 q7 t1 t2 t3 t4 t5 t6 t7
        clear hd hE
        try clear hS
        go_wp2
        exact Ext.refl _
      case ha => rfl
      apply wpLoose_val rfl rfl
      case hs =>
        intro w1 hC hd Q1 hQ1
        obtain ⟨hE, hS⟩ := hC
        dsimp only [bare]
        obtain ⟨⟨q1, q2, q3, q4, q5, q6, q7⟩, ⟨t1, t2, t3, t4, t5, t6, t7⟩⟩ := hS; simp only at q1 q2 q3 q4 q5 q6 q7 t1 t2 t3 t4 t5 t6 t7
        clear hd hE
        try clear hS
        go_wp2
        exact Ext.refl _
      case ha => rfl
      apply wpLoose_val rfl rfl
      case hs =>
        intro w1 hC hd Q1 hQ1
        obtain ⟨hE, hS⟩ := hC
        dsimp only [bare]
        obtain ⟨⟨q1, q2, q3, q4, q5, q6, q7⟩, ⟨t1, t2, t3, t4, t5, t6, t7⟩⟩ := hS; simp only at q1 q2 q3 q4 q5 q6 q7 t1 t2 t3 t4 t5 t6 t7
        clear hd hE
        try clear hS
        go_wp2
        exact Ext.refl _
      case ha => rfl
      apply wpLoose_val rfl rfl
      case hs =>
        intro w1 hC hd Q1 hQ1
        obtain ⟨hE, hS⟩ := hC
        dsimp only [bare]
        obtain ⟨⟨q1, q2, q3, q4, q5, q6, q7⟩, ⟨t1, t2, t3, t4, t5, t6, t7⟩⟩ := hS; simp only at q1 q2 q3 q4 q5 q6 q7 t1 t2 t3 t4 t5 t6 t7
        clear hd hE
        try clear hS
        go_wp2
        exact Ext.refl _
      case ha => rfl
      apply wpLoose_val rfl rfl
      case hs =>
        intro w1 hC hd Q1 hQ1
        obtain ⟨hE, hS⟩ := hC
        dsimp only [bare]
        have hEq := HEQ.out
        clear hd hE hS
        go_wp2
        exact Ext.refl _
      case ha => rfl
      refine wpLoose_nil ?_
      intro wa hEa hSa hFa
      have HB2 : Hid (Below w.heap.size w wa) := (HB.out.drew).trans (Below.mono hEa HB.out.size)
      clear hFa hSa hEa p1 p2 HB
      go_wp2
      go_roundw
      case rel => exact ⟨k + 1, by go_num, by omega, HB2.out⟩
      case measure => simp [intOf]; omega
      case hAa => kernel_rfl
      case hla => exact ⟨trivial, trivial, trivial, trivial, trivial, trivial, trivial, trivial, trivial, trivial⟩
    · have bk : ¬ ((k : Int) < (n : Int)) := by omega
      go_wp2
      go_ret
      exact ⟨rfl, hb⟩

theorem same_own {B C : Nat} {u v : Value} {ls : List Ln} {w : World} (h1 : OwnL w B u ls) (h2 : OwnL w C v ls) (hn : ls.length ≤ 100000000) : Calls Tryd.prog 18 #[u, v] w fun e w' => e = .returned (.bool true) ∧ Ext w w' := by
  obtain ⟨a, c, rfl, _, k1, _⟩ := h1.lns
  obtain ⟨a', c', rfl, _, k2, _⟩ := h2.lns
  exact sameLines_any a a' c c' ls w hn k1 k2

end Go.Proofs.YthflflhcbnianaaDoor
