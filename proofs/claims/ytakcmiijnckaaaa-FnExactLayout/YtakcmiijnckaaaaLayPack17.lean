/- What the laws' helpers over slices of lines answer: szLineS, toLineS, eqLineS. -/
import Derived.Test.YtakcmiijnckaaaaLayPack16
import Derived.Handy
import Derived.Deep.Cut
import Derived.Test.YtakcmiijnckaaaaLayPack15
import Derived.Deep.RegionHeld3
/- What the laws' helpers szLine, toLine, eqLine answer; a law's slice of lines opened. -/
namespace Go.Proofs.Ytakcmiijnckaaaa
open Go.ChangeShapes Go.WideShapes Go.ChangeAt Go.RowKit Go.Joins Go.Deep
set_option linter.unusedVariables false

theorem bcell7 {W W' : World} (h : Below W.heap.size W W') : (∀ b o, b < W.heap.size → W'.cell? ⟨b, o, none⟩ = W.cell? ⟨b, o, none⟩) ∧ (∀ b o, b < W.heap.size → W'.frozen? ⟨b, o, none⟩ = W.frozen? ⟨b, o, none⟩) :=
  ⟨fun b o hb => h.cell (p := ⟨b, o, none⟩) hb, fun b o hb => h.frozen (p := ⟨b, o, none⟩) hb⟩

set_option maxRecDepth 100000 in
set_option maxHeartbeats 2000000 in
theorem toLine_any (lab yes no : ByteArray) (o k y n : Int) (w : World) : Calls Try.prog 57 #[.agg #[.string lab, .int .i64 o, .int .i64 k, .int .i64 y, .int .i64 n, .string yes, .string no]] w fun e w' => e = .returned (.agg #[.string lab, .int .i64 o, .int .i64 k, .int .i64 y, .int .i64 n, .string yes, .string no]) ∧ Ext w w' := by
  go_enter Try.func57, Try.ntmps57
  go_wp2_with fail
  refine (toIns_any o k y n _).mono ?_
  rintro e w1 ⟨rfl, hb⟩
  have hsz : w.heap.size + 3 ≤ w1.heap.size := by have := hb.size; simp at this; omega
  obtain ⟨hc, hf⟩ := bcell7 hb
  have HW : Hid (Ext w w1) := Below.trans (by go_grown) (hb.mono (by simp; omega))
  have o0 : w1.cell? ⟨w.heap.size + 1 + 1, 0, none⟩ = some (.string lab) := by rw [hc _ _ (by go_size)]; simp [go_sem]
  have q : ∀ i, i < 4 → w1.cell? ⟨w.heap.size + 1 + 1, 1 + i, none⟩ = some (.int .i64 0) := fun i hi => by
    rw [hc _ _ (by go_size)]
    obtain rfl | rfl | rfl | rfl : i = 0 ∨ i = 1 ∨ i = 2 ∨ i = 3 := by omega
    all_goals simp [go_sem]
  have o5 : w1.cell? ⟨w.heap.size + 1 + 1, 5, none⟩ = some (.string ⟨#[]⟩) := by rw [hc _ _ (by go_size)]; simp [go_sem]
  have o6 : w1.cell? ⟨w.heap.size + 1 + 1, 6, none⟩ = some (.string ⟨#[]⟩) := by rw [hc _ _ (by go_size)]; simp [go_sem]
  have b5 : w1.cell? ⟨w.heap.size, 5, none⟩ = some (.string yes) := by rw [hc _ _ (by go_size)]; simp [go_sem]
  have b6 : w1.cell? ⟨w.heap.size, 6, none⟩ = some (.string no) := by rw [hc _ _ (by go_size)]; simp [go_sem]
  have p : ∀ i, i < 4 → w1.cell? ⟨w.heap.size + 1, 1 + i, none⟩ = some (.int .i64 0) := fun i hi => by
    rw [hc _ _ (by go_size)]
    obtain rfl | rfl | rfl | rfl : i = 0 ∨ i = 1 ∨ i = 2 ∨ i = 3 := by omega
    all_goals simp [go_sem]
  have p0 : w1.cell? ⟨w.heap.size + 1, 0, none⟩ = some (.string ⟨#[]⟩) := by rw [hc _ _ (by go_size)]; simp [go_sem]
  have p5 : w1.cell? ⟨w.heap.size + 1, 5, none⟩ = some (.string ⟨#[]⟩) := by rw [hc _ _ (by go_size)]; simp [go_sem]
  have p6 : w1.cell? ⟨w.heap.size + 1, 6, none⟩ = some (.string ⟨#[]⟩) := by rw [hc _ _ (by go_size)]; simp [go_sem]
  have f1 : ∀ o, w1.frozen? ⟨w.heap.size + 1 + 1, o, none⟩ = false := fun o => by rw [hf _ _ (by go_size)]; simp [go_sem]
  have f2 : ∀ o, w1.frozen? ⟨w.heap.size + 1, o, none⟩ = false := fun o => by rw [hf _ _ (by go_size)]; simp [go_sem]
  obtain ⟨p1, p2, p3, p4⟩ := (⟨p 0 (by omega), p 1 (by omega), p 2 (by omega), p 3 (by omega)⟩ : _ ∧ _ ∧ _ ∧ _)
  obtain ⟨o1, o2, o3, o4⟩ := (⟨q 0 (by omega), q 1 (by omega), q 2 (by omega), q 3 (by omega)⟩ : _ ∧ _ ∧ _ ∧ _)
  simp only [Nat.reduceAdd] at p1 p2 p3 p4 o1 o2 o3 o4
  clear hb hc hf p q
  go_upto_region 6 with fail
  obtain ⟨W5, h5⟩ : ∃ W5, W5 = ((((((w1.setCell ⟨w.heap.size + 1 + 1, 1, none⟩ (.int .i64 o)).setCell ⟨w.heap.size + 1 + 1, 2, none⟩ (.int .i64 k)).setCell ⟨w.heap.size + 1 + 1, 3, none⟩ (.int .i64 y)).setCell ⟨w.heap.size + 1 + 1, 4, none⟩ (.int .i64 n)).setCell ⟨w.heap.size + 1 + 1, 5, none⟩ (.string yes)).setCell ⟨w.heap.size + 1 + 1, 6, none⟩ (.string no)) := ⟨_, rfl⟩
  rw [← h5]
  have u0 : W5.cell? ⟨w.heap.size + 1 + 1, 0, none⟩ = some (.string lab) := by rw [h5]; simp [go_sem, *]
  have u1 : W5.cell? ⟨w.heap.size + 1 + 1, 1, none⟩ = some (.int .i64 o) := by rw [h5]; simp [go_sem, *]
  have u2 : W5.cell? ⟨w.heap.size + 1 + 1, 2, none⟩ = some (.int .i64 k) := by rw [h5]; simp [go_sem, *]
  have u3 : W5.cell? ⟨w.heap.size + 1 + 1, 3, none⟩ = some (.int .i64 y) := by rw [h5]; simp [go_sem, *]
  have u4 : W5.cell? ⟨w.heap.size + 1 + 1, 4, none⟩ = some (.int .i64 n) := by rw [h5]; simp [go_sem, *]
  have u5 : W5.cell? ⟨w.heap.size + 1 + 1, 5, none⟩ = some (.string yes) := by rw [h5]; simp [go_sem, *]
  have u6 : W5.cell? ⟨w.heap.size + 1 + 1, 6, none⟩ = some (.string no) := by rw [h5]; simp [go_sem, *]
  have far : ∀ i, W5.cell? ⟨w.heap.size + 1, i, none⟩ = w1.cell? ⟨w.heap.size + 1, i, none⟩ := fun i => by rw [h5]; simp [go_sem]
  have r0 := (far 0).trans p0
  have r1 := (far 1).trans p1
  have r2 := (far 2).trans p2
  have r3 := (far 3).trans p3
  have r4 := (far 4).trans p4
  have r5 := (far 5).trans p5
  have r6 := (far 6).trans p6
  have k2 : ∀ o, W5.frozen? ⟨w.heap.size + 1, o, none⟩ = false := fun o => by rw [h5]; simp only [World.frozen?_setCell]; exact f2 o
  have HW5 : Hid (Ext w W5) := by
    have hw := HW.out
    rw [h5]
    show Ext _ _
    go_grown
  clear h5 far f1 f2 o0 o1 o2 o3 o4 o5 o6 b5 b6 p0 p1 p2 p3 p4 p5 p6 HW hsz
  go_wp2
  refine bodyPost_ret (v := .agg #[.string lab, .int .i64 o, .int .i64 k, .int .i64 y, .int .i64 n, .string yes, .string no]) (by simp [results, Try.results57, go_sem, *]) rfl ⟨rfl, ?_⟩
  have hw := HW5.out
  go_grown

set_option maxRecDepth 100000 in
theorem eqLine_same (lab yes no : ByteArray) (o k y n : Int) (w : World) : Calls Try.prog 58 #[.agg #[.string lab, .int .i64 o, .int .i64 k, .int .i64 y, .int .i64 n, .string yes, .string no], .agg #[.string lab, .int .i64 o, .int .i64 k, .int .i64 y, .int .i64 n, .string yes, .string no]] w fun e w' => e = .returned (.bool true) ∧ Ext w w' := by
  go_enter Try.func58, Try.ntmps58
  go_wp2_with fail
  refine (eqIns_same o k y n _).mono ?_
  rintro e w1 ⟨rfl, x1⟩
  have c1 := ((CellsAt.new w [.string lab, .int .i64 o, .int .i64 k, .int .i64 y, .int .i64 n, .string yes, .string no] 37).step (Ext.one _ _)).step x1
  have d1 := (CellsAt.new' (w.alloc (.cells #[.string lab, .int .i64 o, .int .i64 k, .int .i64 y, .int .i64 n, .string yes, .string no] 37)) [.string lab, .int .i64 o, .int .i64 k, .int .i64 y, .int .i64 n, .string yes, .string no] 37 (w.heap.size + 1) (by simp)).step x1
  have X1 : Hid (Ext w w1) := ((Ext.one w _).alloc _).trans x1
  obtain ⟨q5, q6, s5, s6⟩ := (⟨c1.2 5 _ rfl, c1.2 6 _ rfl, d1.2 5 _ rfl, d1.2 6 _ rfl⟩ : _ ∧ _ ∧ _ ∧ _)
  clear x1 c1 d1
  go_wp2
  go_ret
  exact ⟨rfl, X1.out⟩

/-- Their texts have some length. -/
def LongP (ls : List Ln) : Prop := ∀ j, j < ls.length → (ls.getD j zeroL).lab.size ≤ maxLen ∧ (ls.getD j zeroL).yes.size ≤ maxLen ∧ (ls.getD j zeroL).no.size ≤ maxLen

set_option maxRecDepth 100000 in
set_option maxHeartbeats 2000000 in
theorem szLine_any (lab yes no : ByteArray) (o k y n : Int) (m : Nat) (w : World) (hm : m ≤ 1048576) (h1 : lab.size ≤ maxLen) (h2 : yes.size ≤ maxLen) (h3 : no.size ≤ maxLen) :
    Calls Try.prog 56 #[.agg #[.string lab, .int .i64 o, .int .i64 k, .int .i64 y, .int .i64 n, .string yes, .string no], .int .i64 (m : Int)] w fun e w' => ((e = .returned (.int .i64 (-1))) ∨ ∃ m' : Nat, e = .returned (.int .i64 (m' : Int)) ∧ m' ≤ m ∧ lab.size ≤ m ∧ yes.size ≤ m ∧ no.size ≤ m) ∧ Ext w w' := by
  unfold maxLen at h1 h2 h3
  by_cases c1 : lab.size ≤ m
  · by_cases c2 : yes.size ≤ m - lab.size
    · by_cases c3 : no.size ≤ m - lab.size - yes.size
      · have b1 : ¬ (m : Int) - (lab.size : Int) < 0 := by omega
        have b2 : ¬ (m : Int) - (lab.size : Int) - (yes.size : Int) < 0 := by omega
        have b3 : ¬ (m : Int) - (lab.size : Int) - (yes.size : Int) - (no.size : Int) < 0 := by omega
        have HC : Hid (lab.size ≤ m ∧ yes.size ≤ m ∧ no.size ≤ m ∧ ((m - lab.size - yes.size - no.size : Nat) : Int) = (m : Int) - (lab.size : Int) - (yes.size : Int) - (no.size : Int)) := ⟨by omega, by omega, by omega, by omega⟩
        clear c1 c2 c3
        go_enter Try.func56, Try.ntmps56
        go_wp2
        go_ret
        exact ⟨.inr ⟨m - lab.size - yes.size - no.size, by rw [HC.out.2.2.2]; rfl, by omega, HC.out.1, HC.out.2.1, HC.out.2.2.1⟩, Ext.one _ _⟩
      · have b1 : ¬ (m : Int) - (lab.size : Int) < 0 := by omega
        have b2 : ¬ (m : Int) - (lab.size : Int) - (yes.size : Int) < 0 := by omega
        have b3 : (m : Int) - (lab.size : Int) - (yes.size : Int) - (no.size : Int) < 0 := by omega
        go_enter Try.func56, Try.ntmps56
        go_wp2
        go_ret
        exact ⟨.inl rfl, Ext.one _ _⟩
    · have b1 : ¬ (m : Int) - (lab.size : Int) < 0 := by omega
      have b2 : (m : Int) - (lab.size : Int) - (yes.size : Int) < 0 := by omega
      go_enter Try.func56, Try.ntmps56
      go_wp2
      go_ret
      exact ⟨.inl rfl, Ext.one _ _⟩
  · have b1 : (m : Int) - (lab.size : Int) < 0 := by omega
    go_enter Try.func56, Try.ntmps56
    go_wp2
    go_ret
    exact ⟨.inl rfl, Ext.one _ _⟩

theorem cellsLL : Try.prog.cellsOf 83 = 7 := by kernel_rfl

theorem cells9 : Try.prog.cellsOf 9 = 1 := by kernel_rfl

set_option maxRecDepth 100000 in
theorem open_lines {H : Type} {enc : TypeId × Value → H} {W : World} {base b0 : Nat} {sp : Nat → Bool} {held : Bool} {r : Reach} {v : Value} {d : DataW H} {p : List MemPlace}
    (hv : Value.okWide Try.prog W r b0 47 v) (h : DataW.Trod enc Try.prog W base sp held 47 v d p) : ∃ (a : Option Addr) (cap : Nat) (ls : List Ln), v = .slice a ls.length cap ∧ Lns W a ls ∧ LongP ls ∧ ls.length ≤ 9223372036854775807 := by
  obtain ⟨a, len, cap, rfl⟩ := okWide_slice Try.underlying47 hv
  obtain ⟨fuel, hf⟩ := h
  rcases open_slice Try.underlying47 hf with ⟨hcs, _⟩ | ⟨a', len', cap', m, n, D, Pl, hcs, _, hl, hm, hmm, _, hx⟩
  · simp [Value.cells] at hcs
    obtain ⟨rfl, rfl, rfl⟩ := hcs
    exact ⟨none, 0, [], rfl, fun hp => by simp at hp, fun j hj => by simp at hj, by simp⟩
  · simp [Value.cells] at hcs
    obtain ⟨rfl, rfl, rfl⟩ := hcs
    have hlm : len ≤ m := by rw [hmm]; split <;> omega
    obtain ⟨b, off, spot⟩ := a'
    by_cases hm0 : m = 0
    · have h0 : len = 0 := by omega
      rw [h0]
      exact ⟨some ⟨b, off, spot⟩, cap, [], rfl, fun hp => by simp at hp, fun j hj => by simp at hj, by simp⟩
    have hspot : spot = none := by
      obtain ⟨cs', h1, _⟩ := hx 0 (by omega)
      rw [cellsLL] at h1
      obtain ⟨_, hlen, hcell⟩ := World.cells?_some h1
      match cs', hlen with
      | [v0, v1, v2, v3, v4, v5, v6], _ =>
        have c0 := hcell 0 (by omega)
        simp at c0
        simpa [Addr.add] using World.cell?_spot c0
    subst hspot
    have each : ∀ i, i < m → ∃ q : Ln, Hept W b (off + i * 7) q ∧ q.lab.size ≤ maxLen ∧ q.yes.size ≤ maxLen ∧ q.no.size ≤ maxLen := by
      intro i hi
      obtain ⟨cs', h1, h2⟩ := hx i hi
      rw [cellsLL] at h1
      obtain ⟨_, hlen, hcell⟩ := World.cells?_some h1
      obtain ⟨y0, y1, y2, y3, k, _, _, g0, g1, g2, g3⟩ := trod_struct4 Try.underlying83 h2
      match cs', hlen with
      | [v0, v1, v2, v3, v4, v5, v6], _ =>
        simp [cells9, cellsLI] at g0 g1 g2 g3
        obtain ⟨x0, e0, _, n0⟩ := DataW.trod_string Try.underlying9 g0
        obtain ⟨x5, e5, _, n5⟩ := DataW.trod_string Try.underlying9 g2
        obtain ⟨x6, e6, _, n6⟩ := DataW.trod_string Try.underlying9 g3
        obtain ⟨z0, z1, z2, z3, k', _, _, a0, a1, a2, a3⟩ := trod_struct4 Try.underlying81 g1
        simp [cells3] at a0 a1 a2 a3
        obtain ⟨x1, e1, _, _⟩ := DataW.trod_int Try.underlying3 a0
        obtain ⟨x2, e2, _, _⟩ := DataW.trod_int Try.underlying3 a1
        obtain ⟨x3, e3, _, _⟩ := DataW.trod_int Try.underlying3 a2
        obtain ⟨x4, e4, _, _⟩ := DataW.trod_int Try.underlying3 a3
        simp at e0 e1 e2 e3 e4 e5 e6
        have c0 := hcell 0 (by omega)
        have c1 := hcell 1 (by omega)
        have c2 := hcell 2 (by omega)
        have c3 := hcell 3 (by omega)
        have c4 := hcell 4 (by omega)
        have c5 := hcell 5 (by omega)
        have c6 := hcell 6 (by omega)
        simp [e0, e1, e2, e3, e4, e5, e6] at c0 c1 c2 c3 c4 c5 c6
        rw [Addr.add_lit, Addr.add_lit] at c0 c1 c2 c3 c4 c5 c6
        exact ⟨⟨x0, (x1, x2, x3, x4), x5, x6⟩, ⟨c0, c1, c2, c3, c4, c5, c6⟩, n0, n5, n6⟩
    haveI : Inhabited Ln := ⟨zeroL⟩
    obtain ⟨q, hq⟩ := Go.Deep.choose_lt each
    refine ⟨some ⟨b, off, none⟩, cap, (List.range len).map q, by simp, fun hp => ?_, fun j hj => ?_, by unfold maxLen at hm; simp; omega⟩
    · simp only [List.length_map, List.length_range] at hp
      refine ⟨b, off, rfl, fun j hj => ?_⟩
      simp only [List.length_map, List.length_range] at hj
      have := (hq j (by omega)).1
      simpa [List.getD_eq_getElem?_getD, hj] using this
    · simp only [List.length_map, List.length_range] at hj
      have := (hq j (by omega)).2
      simpa [List.getD_eq_getElem?_getD, hj] using this

end Go.Proofs.Ytakcmiijnckaaaa

namespace Go.Proofs.Ytakcmiijnckaaaa
open Go.RowKit
set_option linter.unusedVariables false

set_option maxRecDepth 100000 in
set_option maxHeartbeats 2000000 in
theorem szLineS_any (a : Option Addr) (cap : Nat) (ls : List Ln) (w : World) (hm : ls.length ≤ 9223372036854775807) (hf : LongP ls) (h : Lns w a ls) :
    Calls Try.prog 25 #[.slice a ls.length cap, .int .i64 1048576] w fun e w' => ((e = .returned (.int .i64 (-1))) ∨ ∃ m : Nat, e = .returned (.int .i64 (m : Int)) ∧ m ≤ 1048576 ∧ ls.length ≤ 1048576 ∧ TextsP ls) ∧ Ext w w' := by
  obtain ⟨n, hn⟩ : ∃ n, n = ls.length := ⟨_, rfl⟩
  have HN : Hid (n = ls.length ∧ LongP ls) := ⟨hn, hf⟩
  have HA : Hid (∀ W, Ext w W → Lns W a ls) := fun W hE => h.ext hE
  rw [← hn]
  have hn63 : n ≤ 9223372036854775807 := by omega
  clear h hn hf hm
  by_cases h1 : n ≤ 1048576
  · obtain ⟨k0, hk0⟩ : ∃ k0, k0 = 1048576 - n := ⟨_, rfl⟩
    have HK : Hid ((1048576 - (n : Int)) = (k0 : Int) ∧ k0 ≤ 1048576 ∧ n ≤ 1048576) := by unfold Hid; omega
    have h1' : ¬ (1048576 - (n : Int)) < 0 := by omega
    clear hk0 h1
    go_enter Try.func25, Try.ntmps25
    go_wp2_with fail
    go_loopw [1, 5] (fun lv i wr => ∃ k m : Nat, lv = .int .i64 m ∧ i = .int .i64 k ∧ k ≤ n ∧ m ≤ 1048576 ∧ Hid (Ext w wr) ∧ Hid (∀ j, j < k → (ls.getD j zeroL).lab.size ≤ 1048576 ∧ (ls.getD j zeroL).yes.size ≤ 1048576 ∧ (ls.getD j zeroL).no.size ≤ 1048576)) (fun _ i _ => n - (intOf i).toNat)
    case atStart => exact ⟨0, k0, by rw [HK.out.1], rfl, by omega, HK.out.2.1, Ext.refl _, fun j hj => by omega⟩
    case round =>
      obtain ⟨k, m, rfl, rfl, hk, hml, hE, hall⟩ := hrel
      by_cases hlt : k < n
      · have bk : (k : Int) < (n : Int) := by omega
        obtain ⟨⟨lab, ⟨o, kk, y, nn⟩, yes, no⟩, hp⟩ : ∃ p, p = ls.getD k zeroL := ⟨_, rfl⟩
        obtain ⟨b, off, rfl, hq⟩ := (HA.out wr hE.out).hept (k := k) (by have := HN.out.1; omega) hp
        obtain ⟨c0, c1, c2, c3, c4, c5, c6⟩ := hq
        simp only at c0 c1 c2 c3 c4 c5 c6
        have hfk := HN.out.2 k (by have := HN.out.1; omega)
        rw [← hp] at hfk
        simp only at hfk
        have HS : Hid (lab.size ≤ 1048576 → yes.size ≤ 1048576 → no.size ≤ 1048576 → (ls.getD k zeroL).lab.size ≤ 1048576 ∧ (ls.getD k zeroL).yes.size ≤ 1048576 ∧ (ls.getD k zeroL).no.size ≤ 1048576) := fun u1 u2 u3 => by rw [← hp]; exact ⟨u1, u2, u3⟩
        have HT : Hid (Calls Try.prog 56 #[.agg #[.string lab, .int .i64 o, .int .i64 kk, .int .i64 y, .int .i64 nn, .string yes, .string no], .int .i64 (m : Int)] wr fun e w' => ((e = .returned (.int .i64 (-1))) ∨ ∃ m' : Nat, e = .returned (.int .i64 (m' : Int)) ∧ m' ≤ m ∧ lab.size ≤ m ∧ yes.size ≤ m ∧ no.size ≤ m) ∧ Ext wr w') :=
          szLine_any lab yes no o kk y nn m wr hml hfk.1 hfk.2.1 hfk.2.2
        clear hp hfk
        go_wp2_with fail
        refine HT.out.mono ?_
        rintro e w2 ⟨hor, x2⟩
        have X2 : Hid (Ext w w2) := hE.out.trans x2
        clear x2 c0 c1 c2 c3 c4 c5 c6 HT
        rcases hor with rfl | ⟨m', rfl, u1, u2, u3, u4⟩
        · clear hall HS
          go_wp2
          go_ret
          exact ⟨.inl rfl, X2.out⟩
        · have HT : Hid (∀ j, j < k + 1 → (ls.getD j zeroL).lab.size ≤ 1048576 ∧ (ls.getD j zeroL).yes.size ≤ 1048576 ∧ (ls.getD j zeroL).no.size ≤ 1048576) := fun j hj => by
            by_cases hjk : j = k
            · subst hjk; exact HS.out (by omega) (by omega) (by omega)
            · exact hall.out j (by omega)
          have hm' : m' ≤ 1048576 := by omega
          clear hall HS u1 u2 u3 u4
          go_wp2
          go_roundw
          case rel => exact ⟨k + 1, m', rfl, by go_num, by omega, hm', X2, HT⟩
          case measure => simp [intOf]; omega
      · have hkn : k = n := by omega
        have HT : Hid (n ≤ 1048576 ∧ TextsP ls) := ⟨HK.out.2.2, fun j hj => hall.out j (by have := HN.out.1; omega)⟩
        have bk : ¬ ((k : Int) < (n : Int)) := by omega
        clear hall hkn
        go_wp2
        go_ret
        exact ⟨.inr ⟨m, rfl, hml, HT.out⟩, hE.out⟩
  · have h1' : (1048576 - (n : Int)) < 0 := by omega
    clear h1
    go_enter Try.func25, Try.ntmps25
    go_wp2
    go_ret
    exact ⟨.inl rfl, Ext.refl _⟩

theorem Try.infoLn : (Try.prog.info? 37).map (fun i => (i.zero, i.size, i.bytes)) = some (some (.agg #[.string ⟨#[]⟩, .int .i64 0, .int .i64 0, .int .i64 0, .int .i64 0, .string ⟨#[]⟩, .string ⟨#[]⟩]), 7, 80) := by kernel_rfl

/-- What make lays for a slice of lines: noughts that may be written. -/
theorem made_lines {w : World} {base g n c : Nat} (h : w.ownsRow base 37 7 (.slice (some ⟨g, 0, none⟩) n c) n (madeCells (Value.agg #[.string ⟨#[]⟩, .int .i64 0, .int .i64 0, .int .i64 0, .int .i64 0, .string ⟨#[]⟩, .string ⟨#[]⟩]).cells (n * 7)).toList) :
    g < w.heap.size ∧ (∀ j, j < n * 7 → w.frozen? ⟨g, j, none⟩ = false) ∧ ∀ j, j < n → Hept w g (j * 7) zeroL := by
  rcases h.2 with ⟨hn, _⟩ | ⟨g', cap, cur, hv, _, hh, _, _, hs, ht⟩
  · cases hn
  · obtain ⟨rfl, _⟩ : g = g' ∧ c = cap := by injection hv with h1 h2 h3; injection h1 with h1; injection h1 with a b c; exact ⟨a, h3⟩
    have hc : ∀ j v, j < n * 7 → (madeCells (Value.agg #[.string ⟨#[]⟩, .int .i64 0, .int .i64 0, .int .i64 0, .int .i64 0, .string ⟨#[]⟩, .string ⟨#[]⟩]).cells (n * 7)).toList[j]? = some v → w.cell? ⟨g, j, none⟩ = some v := by
      intro j v hj hv
      rw [cell_of_row w g j cur 37 _ hh]
      rw [← ht, List.getElem?_take, if_pos hj] at hv
      simpa using hv
    refine ⟨(Array.getElem?_eq_some_iff.1 hh).1, fun j hj => frozen_of_row w g j cur 37 hh, fun j hj => ?_⟩
    have hm : ∀ i, i < 7 → ((madeCells (Value.agg #[.string ⟨#[]⟩, .int .i64 0, .int .i64 0, .int .i64 0, .int .i64 0, .string ⟨#[]⟩, .string ⟨#[]⟩]).cells (n * 7)).toList[j * 7 + i]?) = ([.string ⟨#[]⟩, .int .i64 0, .int .i64 0, .int .i64 0, .int .i64 0, .string ⟨#[]⟩, .string ⟨#[]⟩] : List Value)[i]? := fun i hi => by
      have b : j * 7 + i < n * 7 := by omega
      have m : (j * 7 + i) % 7 = i := by omega
      obtain rfl | rfl | rfl | rfl | rfl | rfl | rfl : i = 0 ∨ i = 1 ∨ i = 2 ∨ i = 3 ∨ i = 4 ∨ i = 5 ∨ i = 6 := by omega
      all_goals try simp only [Nat.add_zero] at b m
      all_goals simp [madeCells, Value.cells, b, m]
    exact ⟨hc _ _ (by omega) (hm 0 (by omega)), hc _ _ (by omega) (hm 1 (by omega)), hc _ _ (by omega) (hm 2 (by omega)), hc _ _ (by omega) (hm 3 (by omega)), hc _ _ (by omega) (hm 4 (by omega)), hc _ _ (by omega) (hm 5 (by omega)), hc _ _ (by omega) (hm 6 (by omega))⟩

/-- A line is stored into seven cells of a row. -/
def put7 (W : World) (g o : Nat) (l : Ln) : World := (((((((W.setCell ⟨g, o, none⟩ (.string l.lab)).setCell ⟨g, o + 1, none⟩ (.int .i64 l.wd.1)).setCell ⟨g, o + 2, none⟩ (.int .i64 l.wd.2.1)).setCell ⟨g, o + 3, none⟩ (.int .i64 l.wd.2.2.1)).setCell ⟨g, o + 4, none⟩ (.int .i64 l.wd.2.2.2)).setCell ⟨g, o + 5, none⟩ (.string l.yes)).setCell ⟨g, o + 6, none⟩ (.string l.no))

theorem put7_size (W : World) (g o : Nat) (l : Ln) : (put7 W g o l).heap.size = W.heap.size := by unfold put7; simp [World.size_setCell]

theorem put7_frozen (W : World) (g o : Nat) (l : Ln) (q : Addr) : (put7 W g o l).frozen? q = W.frozen? q := by unfold put7; simp only [World.frozen?_setCell]

theorem put7_far (W : World) (g o : Nat) (l : Ln) (q : Addr) (h : ∀ i, i < 7 → q ≠ ⟨g, o + i, none⟩) : (put7 W g o l).cell? q = W.cell? q := by
  unfold put7
  rw [set_far (h 6 (by omega)), set_far (h 5 (by omega)), set_far (h 4 (by omega)), set_far (h 3 (by omega)), set_far (h 2 (by omega)), set_far (h 1 (by omega))]
  exact set_far (h 0 (by omega))

theorem cell_set (W : World) (g i j : Nat) (u v : Value) (h : W.cell? ⟨g, j, none⟩ = some u) : (W.setCell ⟨g, i, none⟩ v).cell? ⟨g, j, none⟩ = some (if j = i then v else u) := by
  by_cases e : j = i
  · subst e; rw [if_pos rfl]; exact set_same _ h
  · rw [if_neg e, set_far (off_ne e)]; exact h

theorem put7_hept (W : World) (g o : Nat) (l q : Ln) (h : Hept W g o q) : Hept (put7 W g o l) g o l := by
  obtain ⟨h0, h1, h2, h3, h4, h5, h6⟩ := h
  unfold put7
  refine ⟨?_, ?_, ?_, ?_, ?_, ?_, ?_⟩
  · rw [set_far (off_ne (by omega)), set_far (off_ne (by omega)), set_far (off_ne (by omega)), set_far (off_ne (by omega)), set_far (off_ne (by omega)), set_far (off_ne (by omega))]
    exact set_same _ h0
  · rw [set_far (off_ne (by omega)), set_far (off_ne (by omega)), set_far (off_ne (by omega)), set_far (off_ne (by omega)), set_far (off_ne (by omega))]
    refine set_same (u := .int .i64 q.wd.1) _ ?_
    rw [set_far (off_ne (by omega))]
    exact h1
  · rw [set_far (off_ne (by omega)), set_far (off_ne (by omega)), set_far (off_ne (by omega)), set_far (off_ne (by omega))]
    refine set_same (u := .int .i64 q.wd.2.1) _ ?_
    rw [set_far (off_ne (by omega)), set_far (off_ne (by omega))]
    exact h2
  · rw [set_far (off_ne (by omega)), set_far (off_ne (by omega)), set_far (off_ne (by omega))]
    refine set_same (u := .int .i64 q.wd.2.2.1) _ ?_
    rw [set_far (off_ne (by omega)), set_far (off_ne (by omega)), set_far (off_ne (by omega))]
    exact h3
  · rw [set_far (off_ne (by omega)), set_far (off_ne (by omega))]
    refine set_same (u := .int .i64 q.wd.2.2.2) _ ?_
    rw [set_far (off_ne (by omega)), set_far (off_ne (by omega)), set_far (off_ne (by omega)), set_far (off_ne (by omega))]
    exact h4
  · rw [set_far (off_ne (by omega))]
    refine set_same (u := .string q.yes) _ ?_
    rw [set_far (off_ne (by omega)), set_far (off_ne (by omega)), set_far (off_ne (by omega)), set_far (off_ne (by omega)), set_far (off_ne (by omega))]
    exact h5
  · refine set_same (u := .string q.no) _ ?_
    rw [set_far (off_ne (by omega)), set_far (off_ne (by omega)), set_far (off_ne (by omega)), set_far (off_ne (by omega)), set_far (off_ne (by omega)), set_far (off_ne (by omega))]
    exact h6

theorem Hept.far {W : World} {g o o' b : Nat} {l q : Ln} (h : Hept W b o q) (hne : b ≠ g ∨ o + 7 ≤ o' ∨ o' + 7 ≤ o) : Hept (put7 W g o' l) b o q := by
  have hf : ∀ j, j < 7 → (put7 W g o' l).cell? ⟨b, o + j, none⟩ = W.cell? ⟨b, o + j, none⟩ := fun j hj => put7_far W g o' l _ fun i hi e => by
    injection e with e1 e2
    omega
  obtain ⟨h0, h1, h2, h3, h4, h5, h6⟩ := h
  exact ⟨(hf 0 (by omega)).trans h0, (hf 1 (by omega)).trans h1, (hf 2 (by omega)).trans h2, (hf 3 (by omega)).trans h3, (hf 4 (by omega)).trans h4, (hf 5 (by omega)).trans h5, (hf 6 (by omega)).trans h6⟩

theorem Below.put7 {B : Nat} {w W : World} (h : Below B w W) {g : Nat} (hg : B ≤ g) (o : Nat) (l : Ln) : Below B w (put7 W g o l) :=
  ((((((Below.setCell h (show B ≤ g from hg) _).setCell (show B ≤ g from hg) _).setCell (show B ≤ g from hg) _).setCell (show B ≤ g from hg) _).setCell (show B ≤ g from hg) _).setCell (show B ≤ g from hg) _).setCell (show B ≤ g from hg) _

/-- A row of n lines that may be written. -/
def Free7 (W : World) (g n : Nat) : Prop := ∀ j, j < n * 7 → W.frozen? ⟨g, j, none⟩ = false

set_option maxRecDepth 100000 in
set_option maxHeartbeats 4000000 in
theorem toLineS_any (a : Option Addr) (cap : Nat) (ls : List Ln) (w : World) (hl : ls.length ≤ 1048576) (h : Lns w a ls) :
    Calls Try.prog 26 #[.slice a ls.length cap] w fun e w' => ∃ g, e = .returned (.slice (some ⟨g, 0, none⟩) ls.length ls.length) ∧ w.heap.size ≤ g ∧ g < w'.heap.size ∧ Free7 w' g ls.length ∧ Lns w' (some ⟨g, 0, none⟩) ls ∧ Ext w w' := by
  obtain ⟨i0, hi, hz0, hz1, hz2⟩ := info_parts Try.infoLn
  obtain ⟨n, hn⟩ : ∃ n, n = ls.length := ⟨_, rfl⟩
  have HA : Hid (Lns w a ls ∧ n = ls.length) := ⟨h, hn⟩
  rw [← hn]
  have hl' : n ≤ 1048576 := by omega
  clear h hn hl
  go_enter Try.func26, Try.ntmps26
  go_wp2_with (at_make; refine wpList_make_full _ rfl _ _ 24 rfl w.heap.size 37 i0 (.agg #[.string ⟨#[]⟩, .int .i64 0, .int .i64 0, .int .i64 0, .int .i64 0, .string ⟨#[]⟩, .string ⟨#[]⟩]) 7 Try.underlying24 hi hz0 hz1 _ _ _ _ n rfl rfl (by omega) (by omega) (by rw [hz2]; omega) (by unfold maxLen; omega) (Nat.le_refl _) ?_; intro w0 hown0 hgrow0)
  have b0 : Below w.heap.size w w0 := (Below.refl _ w).grown hgrow0 (Nat.le_refl _) (fun k hk => by cases hk)
  have m0 := made_lines hown0
  clear hown0 hgrow0
  obtain ⟨g, hg⟩ : ∃ g, g = w.heap.size := ⟨_, rfl⟩
  rw [← hg] at m0 ⊢
  have hg0 := m0.1
  have HM : Hid (Free7 w0 g n ∧ ∀ j, j < n → Hept w0 g (j * 7) zeroL) := ⟨m0.2.1, m0.2.2⟩
  clear m0
  go_loopw [4] (fun i wr => ∃ k : Nat, i = .int .i64 k ∧ k ≤ n ∧ Hid (Below w.heap.size w wr ∧ g < wr.heap.size ∧ Free7 wr g n ∧ ∀ j, j < n → ∃ q, Hept wr g (j * 7) q ∧ (j < k → q = ls.getD j zeroL))) (fun i _ => n - (intOf i).toNat)
  case atStart => exact ⟨0, rfl, by omega, b0, hg0, HM.out.1, fun j hj => ⟨zeroL, HM.out.2 j hj, fun h => by omega⟩⟩
  case round =>
    obtain ⟨k, rfl, hk, HR⟩ := hrel
    clear b0 hg0 HM
    by_cases hlt : k < n
    · have bk : (k : Int) < (n : Int) := by omega
      obtain ⟨⟨lab, ⟨o, kk, y, nn⟩, yes, no⟩, hp⟩ : ∃ p, p = ls.getD k zeroL := ⟨_, rfl⟩
      obtain ⟨b, off, ha, hq⟩ := (HA.out.1.below HR.out.1 (Nat.le_refl _)).hept (k := k) (by have := HA.out.2; omega) hp
      subst ha
      obtain ⟨c0, c1, c2, c3, c4, c5, c6⟩ := hq
      simp only at c0 c1 c2 c3 c4 c5 c6
      have HP : Hid (Ln.mk lab (o, kk, y, nn) yes no = ls.getD k zeroL) := hp
      have HG : Hid (g = w.heap.size) := hg
      clear hp hg
      go_wp2_with fail
      refine (toLine_any lab yes no o kk y nn _).mono ?_
      rintro e w2 ⟨rfl, hb2⟩
      have HC2 : Hid (Below w.heap.size w w2 ∧ g < w2.heap.size ∧ Free7 w2 g n ∧ ∀ j, j < n → ∃ q, Hept w2 g (j * 7) q ∧ (j < k → q = ls.getD j zeroL)) := by
        obtain ⟨hb, hgs, hfr, hcell⟩ := HR.out
        refine ⟨hb.trans (Below.mono hb2 hb.size), Nat.lt_of_lt_of_le hgs hb2.size, fun j hj => (hb2.frozen (p := ⟨g, j, none⟩) hgs).trans (hfr j hj), fun j hj => ?_⟩
        obtain ⟨q, e1, e2⟩ := hcell j hj
        exact ⟨q, e1.below hb2 hgs, e2⟩
      obtain ⟨q, ⟨d0, d1, d2, d3, d4, d5, d6⟩, _⟩ := HC2.out.2.2.2 k hlt
      have f0 := HC2.out.2.2.1 (k * 7) (by omega)
      have f1 := HC2.out.2.2.1 (k * 7 + 1) (by omega)
      have f2 := HC2.out.2.2.1 (k * 7 + 2) (by omega)
      have f3 := HC2.out.2.2.1 (k * 7 + 3) (by omega)
      have f4 := HC2.out.2.2.1 (k * 7 + 4) (by omega)
      have f5 := HC2.out.2.2.1 (k * 7 + 5) (by omega)
      have f6 := HC2.out.2.2.1 (k * 7 + 6) (by omega)
      clear hb2 HR c0 c1 c2 c3 c4 c5 c6
      go_wp2
      go_roundw
      case rel =>
        obtain ⟨hb, hgs, hfr, hcell⟩ := HC2.out
        have hgw : w.heap.size ≤ g := by have := HG.out; omega
        refine ⟨k + 1, by go_num, by omega, Below.put7 hb hgw (k * 7) ⟨lab, (o, kk, y, nn), yes, no⟩, by have := put7_size w2 g (k * 7) ⟨lab, (o, kk, y, nn), yes, no⟩; unfold put7 at this; rw [this]; exact hgs, fun j hj => (put7_frozen w2 g (k * 7) ⟨lab, (o, kk, y, nn), yes, no⟩ _).trans (hfr j hj), fun j hj => ?_⟩
        obtain ⟨q, e1, e2⟩ := hcell j hj
        by_cases hjk : j = k
        · subst hjk
          exact ⟨⟨lab, (o, kk, y, nn), yes, no⟩, put7_hept w2 g (j * 7) ⟨lab, (o, kk, y, nn), yes, no⟩ q e1, fun _ => HP.out⟩
        · exact ⟨q, e1.far (l := ⟨lab, (o, kk, y, nn), yes, no⟩) (by omega), fun h => e2 (by omega)⟩
      case measure => simp [intOf]; omega
    · have hkn : k = n := by omega
      have bk : ¬ ((k : Int) < (n : Int)) := by omega
      obtain ⟨hb, hgs, hfr, hcell⟩ := HR.out
      have HE : Hid (g < wr.heap.size ∧ Free7 wr g n ∧ Lns wr (some ⟨g, 0, none⟩) ls) := ⟨hgs, hfr, fun hp => by
        refine ⟨g, 0, rfl, fun j hj => ?_⟩
        obtain ⟨q, e1, e2⟩ := hcell j (by have := HA.out.2; omega)
        rw [← e2 (by have := HA.out.2; omega), Nat.zero_add]
        exact e1⟩
      have HG : Hid (w.heap.size ≤ g) := by unfold Hid; omega
      have HB : Hid (Below w.heap.size w wr) := hb
      clear hcell hkn hgs hg hb HR hfr
      go_wp2
      go_ret
      exact ⟨g, rfl, HG.out, HE.out.1, HE.out.2.1, HE.out.2.2, HB.out⟩

set_option maxRecDepth 100000 in
set_option maxHeartbeats 4000000 in
theorem eqLineS_same (a1 a2 : Option Addr) (c1 c2 : Nat) (ls : List Ln) (w : World) (hl : ls.length ≤ 1048576) (h1 : Lns w a1 ls) (h2 : Lns w a2 ls) :
    Calls Try.prog 27 #[.slice a1 ls.length c1, .slice a2 ls.length c2] w fun e w' => e = .returned (.bool true) ∧ Ext w w' := by
  obtain ⟨n, hn⟩ : ∃ n, n = ls.length := ⟨_, rfl⟩
  have HA : Hid (Lns w a1 ls ∧ Lns w a2 ls ∧ n = ls.length) := ⟨h1, h2, hn⟩
  rw [← hn]
  have hl' : n ≤ 1048576 := by omega
  clear h1 h2 hn hl
  go_enter Try.func27, Try.ntmps27
  go_wp2_with fail
  go_loopw [5] (fun i wr => ∃ k : Nat, i = .int .i64 k ∧ k ≤ n ∧ Below w.heap.size w wr) (fun i _ => n - (intOf i).toNat)
  case atStart => exact ⟨0, rfl, by omega, Below.refl _ _⟩
  case round =>
    obtain ⟨k, rfl, hk, hb⟩ := hrel
    by_cases hlt : k < n
    · have bk : (k : Int) < (n : Int) := by omega
      obtain ⟨⟨lab, ⟨o, kk, y, nn⟩, yes, no⟩, hp⟩ : ∃ p, p = ls.getD k zeroL := ⟨_, rfl⟩
      obtain ⟨b1, o1, rfl, p1⟩ := (HA.out.1.below hb (Nat.le_refl _)).hept (k := k) (by have := HA.out.2.2; omega) hp
      obtain ⟨b2, o2, rfl, p2⟩ := (HA.out.2.1.below hb (Nat.le_refl _)).hept (k := k) (by have := HA.out.2.2; omega) hp
      clear hp
      have HB : Hid (Below w.heap.size w wr) := hb
      clear hb
      go_wp2_with fail
      refine' wp_region_loose (.inl _ :: .inl _ :: .inl _ :: .inl _ :: .inl _ :: .inl _ :: .inl _ :: .inl _ :: .inl _ :: .inl _ :: []) (fun w' => Hept w' b1 (o1 + k * 7) ⟨lab, (o, kk, y, nn), yes, no⟩ ∧ Hept w' b2 (o2 + k * 7) ⟨lab, (o, kk, y, nn), yes, no⟩) (by kernel_rfl) (by kernel_rfl) (⟨p1, p2⟩) (fun _ _ h hE => ⟨h.1.below hE h.1.lt, h.2.below hE h.2.lt⟩) ?hAa ?hla ?hMa
      case' hMa => skip
      apply wpLoose_val rfl rfl
      case hs =>
        intro w1 hC hd Q1 hQ1
        obtain ⟨hE, hS⟩ := hC
        dsimp only [bare]
        obtain ⟨⟨q1, q2, q3, q4, q5, q6, q7⟩, ⟨t1, t2, t3, t4, t5, t6, t7⟩⟩ := hS; simp only at q1 q2 q3 q4 q5 q6 q7 t1 t2 t3 t4 t5 t6 t7
        clear hd hE
        try clear hS
        go_wp2
        exact Ext.refl _
      case ha => rfl
      apply wpLoose_val rfl rfl
      case hs =>
        intro w1 hC hd Q1 hQ1
        obtain ⟨hE, hS⟩ := hC
        dsimp only [bare]
        obtain ⟨⟨q1, q2, q3, q4, q5, q6, q7⟩, ⟨t1, t2, t3, t4, t5, t6, t7⟩⟩ := hS; simp only at q1 q2 q3 q4 q5 q6 q7 t1 t2 t3 t4 t5 t6 t7
        clear hd hE
        try clear hS
        go_wp2
        exact Ext.refl _
      case ha => rfl
      apply wpLoose_val rfl rfl
      case hs =>
        intro w1 hC hd Q1 hQ1
        obtain ⟨hE, hS⟩ := hC
        dsimp only [bare]
        obtain ⟨⟨q1, q2, q3, q4, q5, q6, q7⟩, ⟨t1, t2, t3, t4, t5, t6, t7⟩⟩ := hS; simp only at q1 q2 q3 q4 q5 q6 q7 t1 t2 t3 t4 t5 t6 t7
        clear hd hE
        try clear hS
        go_wp2
        exact Ext.refl _
      case ha => rfl
      apply wpLoose_val rfl rfl
      case hs =>
        intro w1 hC hd Q1 hQ1
        obtain ⟨hE, hS⟩ := hC
        dsimp only [bare]
        obtain ⟨⟨q1, q2, q3, q4, q5, q6, q7⟩, ⟨t1, t2, t3, t4, t5, t6, t7⟩⟩ := hS; simp only at q1 q2 q3 q4 q5 q6 q7 t1 t2 t3 t4 t5 t6 t7
        clear hd hE
        try clear hS
        go_wp2
        exact Ext.refl _
      case ha => rfl
      apply wpLoose_val rfl rfl
      case hs =>
        intro w1 hC hd Q1 hQ1
        obtain ⟨hE, hS⟩ := hC
        dsimp only [bare]
        obtain ⟨⟨q1, q2, q3, q4, q5, q6, q7⟩, ⟨t1, t2, t3, t4, t5, t6, t7⟩⟩ := hS; simp only at q1 q2 q3 q4 q5 q6 q7 t1 t2 t3 t4 t5 t6 t7
        clear hd hE
        try clear hS
        go_wp2
        exact Ext.refl _
      case ha => rfl
      apply wpLoose_val rfl rfl
      case hs =>
        intro w1 hC hd Q1 hQ1
        obtain ⟨hE, hS⟩ := hC
        dsimp only [bare]
        obtain ⟨⟨q1, q2, q3, q4, q5, q6, q7⟩, ⟨t1, t2, t3, t4, t5, t6, t7⟩⟩ := hS; simp only at q1 q2 q3 q4 q5 q6 q7 t1 t2 t3 t4 t5 t6 t7
        clear hd hE
        try clear hS
        go_wp2
        exact Ext.refl _
      case ha => rfl
      apply wpLoose_val rfl rfl
      case hs =>
        intro w1 hC hd Q1 hQ1
        obtain ⟨hE, hS⟩ := hC
        dsimp only [bare]
        obtain ⟨⟨q1, q2, q3, q4, q5, q6, q7⟩, ⟨t1, t2, t3, t4, t5, t6, t7⟩⟩ := hS; simp only at q1 q2 q3 q4 q5 q6 q7 t1 t2 t3 t4 t5 t6 t7
        clear hd hE
        try clear hS
        go_wp2
        exact Ext.refl _
      case ha => rfl
      apply wpLoose_val rfl rfl
      case hs =>
        intro w1 hC hd Q1 hQ1
        obtain ⟨hE, hS⟩ := hC
        dsimp only [bare]
        obtain ⟨⟨q1, q2, q3, q4, q5, q6, q7⟩, ⟨t1, t2, t3, t4, t5, t6, t7⟩⟩ := hS; simp only at q1 q2 q3 q4 q5 q6 q7 t1 t2 t3 t4 t5 t6 t7
        clear hd hE
        try clear hS
        go_wp2
        exact Ext.refl _
      case ha => rfl
      apply wpLoose_val rfl rfl
      case hs =>
        intro w1 hC hd Q1 hQ1
        obtain ⟨hE, hS⟩ := hC
        dsimp only [bare]
        clear hd
        go_wp2_with fail
        refine (eqLine_same lab yes no o kk y nn _).mono ?_
        rintro e w2 ⟨rfl, hb⟩
        go_wp2_with fail
        exact hb
      case ha => rfl
      apply wpLoose_val rfl rfl
      case hs =>
        intro w1 hC hd Q1 hQ1
        obtain ⟨hE, hS⟩ := hC
        dsimp only [bare]
        obtain ⟨⟨q1, q2, q3, q4, q5, q6, q7⟩, ⟨t1, t2, t3, t4, t5, t6, t7⟩⟩ := hS; simp only at q1 q2 q3 q4 q5 q6 q7 t1 t2 t3 t4 t5 t6 t7
        clear hd hE
        try clear hS
        go_wp2
        exact Ext.refl _
      case ha => rfl
      refine wpLoose_nil ?_
      intro wa hEa hSa hFa
      have HB2 : Hid (Below w.heap.size w wa) := (HB.out.drew).trans (Below.mono hEa HB.out.size)
      clear hFa hSa hEa p1 p2 HB
      go_wp2
      go_roundw
      case rel => exact ⟨k + 1, by go_num, by omega, HB2.out⟩
      case measure => simp [intOf]; omega
      case hAa => kernel_rfl
      case hla => exact ⟨trivial, trivial, trivial, trivial, trivial, trivial, trivial, trivial, trivial, trivial, trivial⟩
    · have bk : ¬ ((k : Int) < (n : Int)) := by omega
      go_wp2
      go_ret
      exact ⟨rfl, hb⟩

end Go.Proofs.Ytakcmiijnckaaaa
