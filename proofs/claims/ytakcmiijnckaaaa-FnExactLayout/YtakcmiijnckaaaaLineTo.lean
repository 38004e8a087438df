/- What the laws' helpers szLine, toLine, eqLine answer; a law's slice of lines opened. -/
import Derived.Test.YtakcmiijnckaaaaLinesOkS
import Derived.Handy
import Derived.Deep.Cut
namespace Go.Proofs.Ytakcmiijnckaaaa
open Go.ChangeShapes Go.WideShapes Go.ChangeAt Go.RowKit Go.Joins Go.Deep
set_option linter.unusedVariables false

theorem bcell7 {W W' : World} (h : Below W.heap.size W W') : (∀ b o, b < W.heap.size → W'.cell? ⟨b, o, none⟩ = W.cell? ⟨b, o, none⟩) ∧ (∀ b o, b < W.heap.size → W'.frozen? ⟨b, o, none⟩ = W.frozen? ⟨b, o, none⟩) :=
  ⟨fun b o hb => h.cell (p := ⟨b, o, none⟩) hb, fun b o hb => h.frozen (p := ⟨b, o, none⟩) hb⟩

set_option maxRecDepth 100000 in
set_option maxHeartbeats 2000000 in
theorem toLine_any (lab yes no : ByteArray) (o k y n : Int) (w : World) : Calls Try.prog 57 #[.agg #[.string lab, .int .i64 o, .int .i64 k, .int .i64 y, .int .i64 n, .string yes, .string no]] w fun e w' => e = .returned (.agg #[.string lab, .int .i64 o, .int .i64 k, .int .i64 y, .int .i64 n, .string yes, .string no]) ∧ Ext w w' := by
  go_enter Try.func57, Try.ntmps57
  go_wp2_with fail
  refine (toIns_any o k y n _).mono ?_
  rintro e w1 ⟨rfl, hb⟩
  have hsz : w.heap.size + 3 ≤ w1.heap.size := by have := hb.size; simp at this; omega
  obtain ⟨hc, hf⟩ := bcell7 hb
  have HW : Hid (Ext w w1) := Below.trans (by go_grown) (hb.mono (by simp; omega))
  have o0 : w1.cell? ⟨w.heap.size + 1 + 1, 0, none⟩ = some (.string lab) := by rw [hc _ _ (by go_size)]; simp [go_sem]
  have q : ∀ i, i < 4 → w1.cell? ⟨w.heap.size + 1 + 1, 1 + i, none⟩ = some (.int .i64 0) := fun i hi => by
    rw [hc _ _ (by go_size)]
    obtain rfl | rfl | rfl | rfl : i = 0 ∨ i = 1 ∨ i = 2 ∨ i = 3 := by omega
    all_goals simp [go_sem]
  have o5 : w1.cell? ⟨w.heap.size + 1 + 1, 5, none⟩ = some (.string ⟨#[]⟩) := by rw [hc _ _ (by go_size)]; simp [go_sem]
  have o6 : w1.cell? ⟨w.heap.size + 1 + 1, 6, none⟩ = some (.string ⟨#[]⟩) := by rw [hc _ _ (by go_size)]; simp [go_sem]
  have b5 : w1.cell? ⟨w.heap.size, 5, none⟩ = some (.string yes) := by rw [hc _ _ (by go_size)]; simp [go_sem]
  have b6 : w1.cell? ⟨w.heap.size, 6, none⟩ = some (.string no) := by rw [hc _ _ (by go_size)]; simp [go_sem]
  have p : ∀ i, i < 4 → w1.cell? ⟨w.heap.size + 1, 1 + i, none⟩ = some (.int .i64 0) := fun i hi => by
    rw [hc _ _ (by go_size)]
    obtain rfl | rfl | rfl | rfl : i = 0 ∨ i = 1 ∨ i = 2 ∨ i = 3 := by omega
    all_goals simp [go_sem]
  have p0 : w1.cell? ⟨w.heap.size + 1, 0, none⟩ = some (.string ⟨#[]⟩) := by rw [hc _ _ (by go_size)]; simp [go_sem]
  have p5 : w1.cell? ⟨w.heap.size + 1, 5, none⟩ = some (.string ⟨#[]⟩) := by rw [hc _ _ (by go_size)]; simp [go_sem]
  have p6 : w1.cell? ⟨w.heap.size + 1, 6, none⟩ = some (.string ⟨#[]⟩) := by rw [hc _ _ (by go_size)]; simp [go_sem]
  have f1 : ∀ o, w1.frozen? ⟨w.heap.size + 1 + 1, o, none⟩ = false := fun o => by rw [hf _ _ (by go_size)]; simp [go_sem]
  have f2 : ∀ o, w1.frozen? ⟨w.heap.size + 1, o, none⟩ = false := fun o => by rw [hf _ _ (by go_size)]; simp [go_sem]
  obtain ⟨p1, p2, p3, p4⟩ := (⟨p 0 (by omega), p 1 (by omega), p 2 (by omega), p 3 (by omega)⟩ : _ ∧ _ ∧ _ ∧ _)
  obtain ⟨o1, o2, o3, o4⟩ := (⟨q 0 (by omega), q 1 (by omega), q 2 (by omega), q 3 (by omega)⟩ : _ ∧ _ ∧ _ ∧ _)
  simp only [Nat.reduceAdd] at p1 p2 p3 p4 o1 o2 o3 o4
  clear hb hc hf p q
  go_upto_region 6 with fail
  obtain ⟨W5, h5⟩ : ∃ W5, W5 = ((((((w1.setCell ⟨w.heap.size + 1 + 1, 1, none⟩ (.int .i64 o)).setCell ⟨w.heap.size + 1 + 1, 2, none⟩ (.int .i64 k)).setCell ⟨w.heap.size + 1 + 1, 3, none⟩ (.int .i64 y)).setCell ⟨w.heap.size + 1 + 1, 4, none⟩ (.int .i64 n)).setCell ⟨w.heap.size + 1 + 1, 5, none⟩ (.string yes)).setCell ⟨w.heap.size + 1 + 1, 6, none⟩ (.string no)) := ⟨_, rfl⟩
  rw [← h5]
  have u0 : W5.cell? ⟨w.heap.size + 1 + 1, 0, none⟩ = some (.string lab) := by rw [h5]; simp [go_sem, *]
  have u1 : W5.cell? ⟨w.heap.size + 1 + 1, 1, none⟩ = some (.int .i64 o) := by rw [h5]; simp [go_sem, *]
  have u2 : W5.cell? ⟨w.heap.size + 1 + 1, 2, none⟩ = some (.int .i64 k) := by rw [h5]; simp [go_sem, *]
  have u3 : W5.cell? ⟨w.heap.size + 1 + 1, 3, none⟩ = some (.int .i64 y) := by rw [h5]; simp [go_sem, *]
  have u4 : W5.cell? ⟨w.heap.size + 1 + 1, 4, none⟩ = some (.int .i64 n) := by rw [h5]; simp [go_sem, *]
  have u5 : W5.cell? ⟨w.heap.size + 1 + 1, 5, none⟩ = some (.string yes) := by rw [h5]; simp [go_sem, *]
  have u6 : W5.cell? ⟨w.heap.size + 1 + 1, 6, none⟩ = some (.string no) := by rw [h5]; simp [go_sem, *]
  have far : ∀ i, W5.cell? ⟨w.heap.size + 1, i, none⟩ = w1.cell? ⟨w.heap.size + 1, i, none⟩ := fun i => by rw [h5]; simp [go_sem]
  have r0 := (far 0).trans p0
  have r1 := (far 1).trans p1
  have r2 := (far 2).trans p2
  have r3 := (far 3).trans p3
  have r4 := (far 4).trans p4
  have r5 := (far 5).trans p5
  have r6 := (far 6).trans p6
  have k2 : ∀ o, W5.frozen? ⟨w.heap.size + 1, o, none⟩ = false := fun o => by rw [h5]; simp only [World.frozen?_setCell]; exact f2 o
  have HW5 : Hid (Ext w W5) := by
    have hw := HW.out
    rw [h5]
    show Ext _ _
    go_grown
  clear h5 far f1 f2 o0 o1 o2 o3 o4 o5 o6 b5 b6 p0 p1 p2 p3 p4 p5 p6 HW hsz
  go_wp2
  refine bodyPost_ret (v := .agg #[.string lab, .int .i64 o, .int .i64 k, .int .i64 y, .int .i64 n, .string yes, .string no]) (by simp [results, Try.results57, go_sem, *]) rfl ⟨rfl, ?_⟩
  have hw := HW5.out
  go_grown

set_option maxRecDepth 100000 in
theorem eqLine_same (lab yes no : ByteArray) (o k y n : Int) (w : World) : Calls Try.prog 58 #[.agg #[.string lab, .int .i64 o, .int .i64 k, .int .i64 y, .int .i64 n, .string yes, .string no], .agg #[.string lab, .int .i64 o, .int .i64 k, .int .i64 y, .int .i64 n, .string yes, .string no]] w fun e w' => e = .returned (.bool true) ∧ Ext w w' := by
  go_enter Try.func58, Try.ntmps58
  go_wp2_with fail
  refine (eqIns_same o k y n _).mono ?_
  rintro e w1 ⟨rfl, x1⟩
  have c1 := ((CellsAt.new w [.string lab, .int .i64 o, .int .i64 k, .int .i64 y, .int .i64 n, .string yes, .string no] 37).step (Ext.one _ _)).step x1
  have d1 := (CellsAt.new' (w.alloc (.cells #[.string lab, .int .i64 o, .int .i64 k, .int .i64 y, .int .i64 n, .string yes, .string no] 37)) [.string lab, .int .i64 o, .int .i64 k, .int .i64 y, .int .i64 n, .string yes, .string no] 37 (w.heap.size + 1) (by simp)).step x1
  have X1 : Hid (Ext w w1) := ((Ext.one w _).alloc _).trans x1
  obtain ⟨q5, q6, s5, s6⟩ := (⟨c1.2 5 _ rfl, c1.2 6 _ rfl, d1.2 5 _ rfl, d1.2 6 _ rfl⟩ : _ ∧ _ ∧ _ ∧ _)
  clear x1 c1 d1
  go_wp2
  go_ret
  exact ⟨rfl, X1.out⟩

/-- Their texts have some length. -/
def LongP (ls : List Ln) : Prop := ∀ j, j < ls.length → (ls.getD j zeroL).lab.size ≤ maxLen ∧ (ls.getD j zeroL).yes.size ≤ maxLen ∧ (ls.getD j zeroL).no.size ≤ maxLen

set_option maxRecDepth 100000 in
set_option maxHeartbeats 2000000 in
theorem szLine_any (lab yes no : ByteArray) (o k y n : Int) (m : Nat) (w : World) (hm : m ≤ 1048576) (h1 : lab.size ≤ maxLen) (h2 : yes.size ≤ maxLen) (h3 : no.size ≤ maxLen) :
    Calls Try.prog 56 #[.agg #[.string lab, .int .i64 o, .int .i64 k, .int .i64 y, .int .i64 n, .string yes, .string no], .int .i64 (m : Int)] w fun e w' => ((e = .returned (.int .i64 (-1))) ∨ ∃ m' : Nat, e = .returned (.int .i64 (m' : Int)) ∧ m' ≤ m ∧ lab.size ≤ m ∧ yes.size ≤ m ∧ no.size ≤ m) ∧ Ext w w' := by
  unfold maxLen at h1 h2 h3
  by_cases c1 : lab.size ≤ m
  · by_cases c2 : yes.size ≤ m - lab.size
    · by_cases c3 : no.size ≤ m - lab.size - yes.size
      · have b1 : ¬ (m : Int) - (lab.size : Int) < 0 := by omega
        have b2 : ¬ (m : Int) - (lab.size : Int) - (yes.size : Int) < 0 := by omega
        have b3 : ¬ (m : Int) - (lab.size : Int) - (yes.size : Int) - (no.size : Int) < 0 := by omega
        have HC : Hid (lab.size ≤ m ∧ yes.size ≤ m ∧ no.size ≤ m ∧ ((m - lab.size - yes.size - no.size : Nat) : Int) = (m : Int) - (lab.size : Int) - (yes.size : Int) - (no.size : Int)) := ⟨by omega, by omega, by omega, by omega⟩
        clear c1 c2 c3
        go_enter Try.func56, Try.ntmps56
        go_wp2
        go_ret
        exact ⟨.inr ⟨m - lab.size - yes.size - no.size, by rw [HC.out.2.2.2]; rfl, by omega, HC.out.1, HC.out.2.1, HC.out.2.2.1⟩, Ext.one _ _⟩
      · have b1 : ¬ (m : Int) - (lab.size : Int) < 0 := by omega
        have b2 : ¬ (m : Int) - (lab.size : Int) - (yes.size : Int) < 0 := by omega
        have b3 : (m : Int) - (lab.size : Int) - (yes.size : Int) - (no.size : Int) < 0 := by omega
        go_enter Try.func56, Try.ntmps56
        go_wp2
        go_ret
        exact ⟨.inl rfl, Ext.one _ _⟩
    · have b1 : ¬ (m : Int) - (lab.size : Int) < 0 := by omega
      have b2 : (m : Int) - (lab.size : Int) - (yes.size : Int) < 0 := by omega
      go_enter Try.func56, Try.ntmps56
      go_wp2
      go_ret
      exact ⟨.inl rfl, Ext.one _ _⟩
  · have b1 : (m : Int) - (lab.size : Int) < 0 := by omega
    go_enter Try.func56, Try.ntmps56
    go_wp2
    go_ret
    exact ⟨.inl rfl, Ext.one _ _⟩

theorem cellsLL : Try.prog.cellsOf 83 = 7 := by kernel_rfl

theorem cells9 : Try.prog.cellsOf 9 = 1 := by kernel_rfl

set_option maxRecDepth 100000 in
theorem open_lines {H : Type} {enc : TypeId × Value → H} {W : World} {base b0 : Nat} {sp : Nat → Bool} {held : Bool} {r : Reach} {v : Value} {d : DataW H} {p : List MemPlace}
    (hv : Value.okWide Try.prog W r b0 47 v) (h : DataW.Trod enc Try.prog W base sp held 47 v d p) : ∃ (a : Option Addr) (cap : Nat) (ls : List Ln), v = .slice a ls.length cap ∧ Lns W a ls ∧ LongP ls ∧ ls.length ≤ 9223372036854775807 := by
  obtain ⟨a, len, cap, rfl⟩ := okWide_slice Try.underlying47 hv
  obtain ⟨fuel, hf⟩ := h
  rcases open_slice Try.underlying47 hf with ⟨hcs, _⟩ | ⟨a', len', cap', m, n, D, Pl, hcs, _, hl, hm, hmm, _, hx⟩
  · simp [Value.cells] at hcs
    obtain ⟨rfl, rfl, rfl⟩ := hcs
    exact ⟨none, 0, [], rfl, fun hp => by simp at hp, fun j hj => by simp at hj, by simp⟩
  · simp [Value.cells] at hcs
    obtain ⟨rfl, rfl, rfl⟩ := hcs
    have hlm : len ≤ m := by rw [hmm]; split <;> omega
    obtain ⟨b, off, spot⟩ := a'
    by_cases hm0 : m = 0
    · have h0 : len = 0 := by omega
      rw [h0]
      exact ⟨some ⟨b, off, spot⟩, cap, [], rfl, fun hp => by simp at hp, fun j hj => by simp at hj, by simp⟩
    have hspot : spot = none := by
      obtain ⟨cs', h1, _⟩ := hx 0 (by omega)
      rw [cellsLL] at h1
      obtain ⟨_, hlen, hcell⟩ := World.cells?_some h1
      match cs', hlen with
      | [v0, v1, v2, v3, v4, v5, v6], _ =>
        have c0 := hcell 0 (by omega)
        simp at c0
        simpa [Addr.add] using World.cell?_spot c0
    subst hspot
    have each : ∀ i, i < m → ∃ q : Ln, Hept W b (off + i * 7) q ∧ q.lab.size ≤ maxLen ∧ q.yes.size ≤ maxLen ∧ q.no.size ≤ maxLen := by
      intro i hi
      obtain ⟨cs', h1, h2⟩ := hx i hi
      rw [cellsLL] at h1
      obtain ⟨_, hlen, hcell⟩ := World.cells?_some h1
      obtain ⟨y0, y1, y2, y3, k, _, _, g0, g1, g2, g3⟩ := trod_struct4 Try.underlying83 h2
      match cs', hlen with
      | [v0, v1, v2, v3, v4, v5, v6], _ =>
        simp [cells9, cellsLI] at g0 g1 g2 g3
        obtain ⟨x0, e0, _, n0⟩ := DataW.trod_string Try.underlying9 g0
        obtain ⟨x5, e5, _, n5⟩ := DataW.trod_string Try.underlying9 g2
        obtain ⟨x6, e6, _, n6⟩ := DataW.trod_string Try.underlying9 g3
        obtain ⟨z0, z1, z2, z3, k', _, _, a0, a1, a2, a3⟩ := trod_struct4 Try.underlying81 g1
        simp [cells3] at a0 a1 a2 a3
        obtain ⟨x1, e1, _, _⟩ := DataW.trod_int Try.underlying3 a0
        obtain ⟨x2, e2, _, _⟩ := DataW.trod_int Try.underlying3 a1
        obtain ⟨x3, e3, _, _⟩ := DataW.trod_int Try.underlying3 a2
        obtain ⟨x4, e4, _, _⟩ := DataW.trod_int Try.underlying3 a3
        simp at e0 e1 e2 e3 e4 e5 e6
        have c0 := hcell 0 (by omega)
        have c1 := hcell 1 (by omega)
        have c2 := hcell 2 (by omega)
        have c3 := hcell 3 (by omega)
        have c4 := hcell 4 (by omega)
        have c5 := hcell 5 (by omega)
        have c6 := hcell 6 (by omega)
        simp [e0, e1, e2, e3, e4, e5, e6] at c0 c1 c2 c3 c4 c5 c6
        rw [Addr.add_lit, Addr.add_lit] at c0 c1 c2 c3 c4 c5 c6
        exact ⟨⟨x0, (x1, x2, x3, x4), x5, x6⟩, ⟨c0, c1, c2, c3, c4, c5, c6⟩, n0, n5, n6⟩
    haveI : Inhabited Ln := ⟨zeroL⟩
    obtain ⟨q, hq⟩ := Go.Deep.choose_lt each
    refine ⟨some ⟨b, off, none⟩, cap, (List.range len).map q, by simp, fun hp => ?_, fun j hj => ?_, by unfold maxLen at hm; simp; omega⟩
    · simp only [List.length_map, List.length_range] at hp
      refine ⟨b, off, rfl, fun j hj => ?_⟩
      simp only [List.length_map, List.length_range] at hj
      have := (hq j (by omega)).1
      simpa [List.getD_eq_getElem?_getD, hj] using this
    · simp only [List.length_map, List.length_range] at hj
      have := (hq j (by omega)).2
      simpa [List.getD_eq_getElem?_getD, hj] using this

end Go.Proofs.Ytakcmiijnckaaaa
