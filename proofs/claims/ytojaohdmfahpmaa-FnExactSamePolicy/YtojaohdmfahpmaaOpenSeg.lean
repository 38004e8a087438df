/- A slice of whatever elements opened, each element's cells by a predicate of one's own. -/
import Derived.Test.YtojaohdmfahpmaaRowz
import Derived.Test.YtojaohdmfahpmaaOpenWide
import Derived.Deep.Slices
namespace Go.Proofs.Ytojaohdmfahpmaa
open Go.ChangeShapes Go.WideShapes Go.ChangeAt Go.RowKit Go.Joins Go.Deep
set_option linter.unusedVariables false

theorem open_segs {H : Type} {enc : TypeId × Value → H} {W : World} {base n : Nat} {sp : Nat → Bool} {held : Bool} {v : Value} {y : DataW H × List MemPlace} {ts te : TypeId} {E : Nat} {α : Type} (d : α) (R : α → List Value → Prop)
    (ht : Try.prog.underlying ts = some (.slice te)) (hc : Try.prog.cellsOf te = E) (hE : 0 < E)
    (hel : ∀ {m : Nat} {cs : List Value} {x : DataW H × List MemPlace}, DataW.trod enc Try.prog W base sp held m te cs = some x → cs.length = E → ∃ x : α, R x cs)
    (h : DataW.trod enc Try.prog W base sp held n ts [v] = some y) :
    ∃ (a : Option Addr) (cap : Nat) (xs : List α), v = .slice a xs.length cap ∧ xs.length ≤ 9223372036854775807 ∧ (0 < xs.length → ∃ b off, a = some ⟨b, off, none⟩ ∧ b < W.heap.size ∧ ∀ j, j < xs.length → ∃ l, Seg W b (off + j * E) l ∧ R (xs.getD j d) l) := by
  rcases open_slice ht h with ⟨hcs, _⟩ | ⟨a', len, cap, m, n', D, Pl, hcs, _, hl, hm, hmm, _, hx⟩
  · simp at hcs
    exact ⟨none, 0, [], hcs, by simp, fun hp => by simp at hp⟩
  · simp at hcs
    have hlm : len ≤ m := by rw [hmm]; split <;> omega
    obtain ⟨b, off, spot⟩ := a'
    by_cases hm0 : len = 0
    · exact ⟨some ⟨b, off, spot⟩, cap, [], by rw [hcs, hm0]; rfl, by simp, fun hp => by simp at hp⟩
    have first : ∃ u, W.cell? ⟨b, off, spot⟩ = some u ∧ spot = none := by
      obtain ⟨cs', h1, _⟩ := hx 0 (by omega)
      rw [hc] at h1
      obtain ⟨_, hlen, hcell⟩ := World.cells?_some h1
      have c0 := hcell 0 hE
      rw [List.getElem?_eq_getElem (by omega)] at c0
      simp at c0
      have hsp : spot = none := by simpa [Addr.add] using World.cell?_spot c0
      subst hsp
      rw [Addr.add_lit, Addr.add_lit] at c0
      exact ⟨_, by simpa using c0, rfl⟩
    obtain ⟨u, hu, rfl⟩ := first
    have each : ∀ i, i < m → ∃ q : α × List Value, Seg W b (off + i * E) q.2 ∧ R q.1 q.2 := by
      intro i hi
      obtain ⟨cs', h1, h2⟩ := hx i hi
      rw [hc] at h1
      obtain ⟨_, hlen, hcell⟩ := World.cells?_some h1
      obtain ⟨x, hr⟩ := hel h2 hlen
      refine ⟨(x, cs'), fun j w hj => ?_, hr⟩
      have hj' : j < E := by
        have h3 := (List.getElem?_eq_some_iff.1 hj).1
        simp only at h3
        omega
      have := hcell j hj'
      rw [Addr.add_lit, Addr.add_lit] at this
      rw [this]
      exact hj
    haveI : Inhabited (α × List Value) := ⟨(d, [])⟩
    obtain ⟨q, hq⟩ := Go.Deep.choose_lt each
    refine ⟨some ⟨b, off, none⟩, cap, (List.range len).map fun i => (q i).1, by simpa using hcs, by unfold maxLen at hm; simp; omega, fun hp => ⟨b, off, rfl, World.block_lt_of_cell? W _ hu, fun j hj => ?_⟩⟩
    simp only [List.length_map, List.length_range] at hj
    obtain ⟨g1, g2⟩ := hq j (by omega)
    refine ⟨_, g1, ?_⟩
    simpa [List.getD_eq_getElem?_getD, hj] using g2

end Go.Proofs.Ytojaohdmfahpmaa
