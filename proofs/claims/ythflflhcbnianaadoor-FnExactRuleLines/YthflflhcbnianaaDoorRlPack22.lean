/- The laws' arguments opened: a rule, a policy. -/
import Derived.Test.YthflflhcbnianaaDoorRlPack18
import Derived.Test.YthflflhcbnianaaDoorRlPack19
import Derived.Deep.Slices
/- A slice of whatever elements opened, each element's cells by a predicate of one's own. -/
namespace Go.Proofs.YthflflhcbnianaaDoor
open Go.ChangeShapes Go.WideShapes Go.ChangeAt Go.RowKit Go.Joins Go.Deep
set_option linter.unusedVariables false

theorem open_segs {H : Type} {enc : TypeId × Value → H} {W : World} {base n : Nat} {sp : Nat → Bool} {held : Bool} {v : Value} {y : DataW H × List MemPlace} {ts te : TypeId} {E : Nat} {α : Type} (d : α) (R : α → List Value → Prop)
    (ht : Tryd.prog.underlying ts = some (.slice te)) (hc : Tryd.prog.cellsOf te = E) (hE : 0 < E)
    (hel : ∀ {m : Nat} {cs : List Value} {x : DataW H × List MemPlace}, DataW.trod enc Tryd.prog W base sp held m te cs = some x → cs.length = E → ∃ x : α, R x cs)
    (h : DataW.trod enc Tryd.prog W base sp held n ts [v] = some y) :
    ∃ (a : Option Addr) (cap : Nat) (xs : List α), v = .slice a xs.length cap ∧ xs.length ≤ 9223372036854775807 ∧ (0 < xs.length → ∃ b off, a = some ⟨b, off, none⟩ ∧ b < W.heap.size ∧ ∀ j, j < xs.length → ∃ l, Seg W b (off + j * E) l ∧ R (xs.getD j d) l) := by
  rcases open_slice ht h with ⟨hcs, _⟩ | ⟨a', len, cap, m, n', D, Pl, hcs, _, hl, hm, hmm, _, hx⟩
  · simp at hcs
    exact ⟨none, 0, [], hcs, by simp, fun hp => by simp at hp⟩
  · simp at hcs
    have hlm : len ≤ m := by rw [hmm]; split <;> omega
    obtain ⟨b, off, spot⟩ := a'
    by_cases hm0 : len = 0
    · exact ⟨some ⟨b, off, spot⟩, cap, [], by rw [hcs, hm0]; rfl, by simp, fun hp => by simp at hp⟩
    have first : ∃ u, W.cell? ⟨b, off, spot⟩ = some u ∧ spot = none := by
      obtain ⟨cs', h1, _⟩ := hx 0 (by omega)
      rw [hc] at h1
      obtain ⟨_, hlen, hcell⟩ := World.cells?_some h1
      have c0 := hcell 0 hE
      rw [List.getElem?_eq_getElem (by omega)] at c0
      simp at c0
      have hsp : spot = none := by simpa [Addr.add] using World.cell?_spot c0
      subst hsp
      rw [Addr.add_lit, Addr.add_lit] at c0
      exact ⟨_, by simpa using c0, rfl⟩
    obtain ⟨u, hu, rfl⟩ := first
    have each : ∀ i, i < m → ∃ q : α × List Value, Seg W b (off + i * E) q.2 ∧ R q.1 q.2 := by
      intro i hi
      obtain ⟨cs', h1, h2⟩ := hx i hi
      rw [hc] at h1
      obtain ⟨_, hlen, hcell⟩ := World.cells?_some h1
      obtain ⟨x, hr⟩ := hel h2 hlen
      refine ⟨(x, cs'), fun j w hj => ?_, hr⟩
      have hj' : j < E := by
        have h3 := (List.getElem?_eq_some_iff.1 hj).1
        simp only at h3
        omega
      have := hcell j hj'
      rw [Addr.add_lit, Addr.add_lit] at this
      rw [this]
      exact hj
    haveI : Inhabited (α × List Value) := ⟨(d, [])⟩
    obtain ⟨q, hq⟩ := Go.Deep.choose_lt each
    refine ⟨some ⟨b, off, none⟩, cap, (List.range len).map fun i => (q i).1, by simpa using hcs, by unfold maxLen at hm; simp; omega, fun hp => ⟨b, off, rfl, World.block_lt_of_cell? W _ hu, fun j hj => ?_⟩⟩
    simp only [List.length_map, List.length_range] at hj
    obtain ⟨g1, g2⟩ := hq j (by omega)
    refine ⟨_, g1, ?_⟩
    simpa [List.getD_eq_getElem?_getD, hj] using g2

theorem cellsLRu : Tryd.prog.cellsOf 61 = 4 := by kernel_rfl

theorem cellsInts : Tryd.prog.cellsOf 44 = 1 := by kernel_rfl

theorem cellsLCs : Tryd.prog.cellsOf 59 = 1 := by kernel_rfl

theorem open_nums {H : Type} {enc : TypeId × Value → H} {W : World} {base n : Nat} {sp : Nat → Bool} {held : Bool} {v : Value} {y : DataW H × List MemPlace}
    (h : DataW.trod enc Tryd.prog W base sp held n 44 [v] = some y) : ∃ (a : Option Addr) (cap : Nat) (zs : List Int), v = .slice a zs.length cap ∧ zs.length ≤ 9223372036854775807 ∧ Nums W a zs := by
  obtain ⟨a, cap, zs, e, hl, hx⟩ := open_segs (0 : Int) (fun z l => l = [.int .i64 z]) Tryd.underlying44 cells34 (by omega) (fun {m cs x} h hl => by
    match cs, hl with
    | [v0], _ =>
      obtain ⟨x0, e0, _, _⟩ := DataW.trod_int Tryd.underlying3 h
      exact ⟨x0, by simpa using e0⟩) h
  refine ⟨a, cap, zs, e, hl, fun hp => ?_⟩
  obtain ⟨b, off, ha, hb, hc⟩ := hx hp
  refine ⟨b, off, ha, hb, fun j hj => ?_⟩
  obtain ⟨l, h1, rfl⟩ := hc j hj
  rw [Nat.mul_one] at h1
  exact h1.one

set_option maxRecDepth 100000 in
theorem open_conds {H : Type} {enc : TypeId × Value → H} {W : World} {base n : Nat} {sp : Nat → Bool} {held : Bool} {v : Value} {y : DataW H × List MemPlace}
    (h : DataW.trod enc Tryd.prog W base sp held n 59 [v] = some y) : ∃ (a : Option Addr) (cap : Nat) (cs : List CN), v = .slice a cs.length cap ∧ cs.length ≤ 9223372036854775807 ∧ Conds W a cs := by
  obtain ⟨a, cap, zs, e, hl, hx⟩ := open_segs c0 (fun (c : CN) l => l = c.l) Tryd.underlying59 cellsLCo (by omega) (fun {m cs x} h hl => trod_cond h) h
  refine ⟨a, cap, zs, e, hl, fun hp => ?_⟩
  obtain ⟨b, off, ha, hb, hc⟩ := hx hp
  refine ⟨b, off, ha, hb, fun j hj => ?_⟩
  obtain ⟨l, h1, rfl⟩ := hc j hj
  exact h1

/-- No more elements than any slice has. -/
def Fin63 (r : RN) : Prop := r.nums.length ≤ 9223372036854775807 ∧ r.conds.length ≤ 9223372036854775807

set_option maxRecDepth 100000 in
theorem trod_rule {H : Type} {enc : TypeId × Value → H} {W : World} {base n : Nat} {sp : Nat → Bool} {held : Bool} {cs : List Value} {y : DataW H × List MemPlace}
    (h : DataW.trod enc Tryd.prog W base sp held n 61 cs = some y) : ∃ r : RN, RuleL W r cs ∧ Fin63 r := by
  obtain ⟨y0, y1, y2, y3, k, _, hl, g0, g1, g2, g3⟩ := trod_struct4 Tryd.underlying61 h
  rw [cellsLRu] at hl
  match cs, hl with
  | [v0, v1, v2, v3], _ =>
    simp [cells34, cellsInts, cellsLCs] at g0 g1 g2 g3
    obtain ⟨a1, c1, zs, e0, hz1, hz⟩ := open_nums g0
    obtain ⟨a2, c2, cs, e1, hc1, hc⟩ := open_conds g1
    obtain ⟨x2, e2, _, _⟩ := DataW.trod_int Tryd.underlying3 g2
    obtain ⟨x3, e3, _, _⟩ := DataW.trod_int Tryd.underlying3 g3
    simp at e2 e3
    exact ⟨⟨zs, cs, x2, x3⟩, ⟨a1, _, c1, a2, _, c2, by rw [e0, e1, e2, e3], rfl, rfl, hz, hc⟩, hz1, hc1⟩

set_option maxRecDepth 100000 in
theorem open_rule {H : Type} {enc : TypeId × Value → H} {W : World} {base b0 : Nat} {sp : Nat → Bool} {held : Bool} {r : Reach} {v : Value} {d : DataW H} {p : List MemPlace}
    (hv : Value.okWide Tryd.prog W r b0 61 v) (h : DataW.Trod enc Tryd.prog W base sp held 61 v d p) : ∃ r : RN, RepRule r v W ∧ Fin63 r := by
  obtain ⟨cs, rfl, hsz⟩ := okWide_struct Tryd.underlying61 hv
  obtain ⟨fuel, hf⟩ := h
  obtain ⟨r, hr, hf⟩ := trod_rule hf
  simp only [Value.cells] at hr
  exact ⟨r, ⟨_, by simp, hr⟩, hf⟩

end Go.Proofs.YthflflhcbnianaaDoor
