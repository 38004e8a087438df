/- A law's row of signs opened; what the bound of its size says of its text. -/
import Derived.Test.YtfhkafbcopolcaaDoorSignTx3
namespace Go.Proofs.YtfhkafbcopolcaaDoor
open Go.ChangeShapes Go.WideShapes Go.ChangeAt Go.RowKit Go.Joins Go.Deep
set_option linter.unusedVariables false

/-- What a reading says of a sign. -/
def SgOk (p : Sg) : Prop := p.2.1.length ≤ 9223372036854775807 ∧ -9223372036854775808 ≤ p.2.2 ∧ p.2.2 ≤ 9223372036854775807

set_option maxRecDepth 100000 in
theorem open_signs {H : Type} {enc : TypeId × Value → H} {W : World} {base b0 : Nat} {sp : Nat → Bool} {held : Bool} {r : Reach} {v : Value} {d : DataW H} {p : List MemPlace}
    (hv : Value.okWide Tryd.prog W r b0 36 v) (h : DataW.Trod enc Tryd.prog W base sp held 36 v d p) : ∃ (a : Option Addr) (cap : Nat) (ps : List Sg), v = .slice a ps.length cap ∧ Signs W a ps ∧ ps.length ≤ 9223372036854775807 ∧ ∀ q ∈ ps, SgOk q := by
  obtain ⟨a, len, cap, rfl⟩ := okWide_slice Tryd.underlying36 hv
  obtain ⟨fuel, hf⟩ := h
  rcases open_slice Tryd.underlying36 hf with ⟨hcs, _⟩ | ⟨a', len', cap', m, n, D, Pl, hcs, _, hl, hm, hmm, _, hx⟩
  · simp [Value.cells] at hcs
    obtain ⟨rfl, rfl, rfl⟩ := hcs
    exact ⟨none, 0, [], rfl, fun hp => by simp at hp, by simp, fun q hq => by cases hq⟩
  · simp [Value.cells] at hcs
    obtain ⟨rfl, rfl, rfl⟩ := hcs
    have hlm : len ≤ m := by rw [hmm]; split <;> omega
    obtain ⟨b, off, spot⟩ := a'
    by_cases hm0 : m = 0
    · have h0 : len = 0 := by omega
      rw [h0]
      exact ⟨some ⟨b, off, spot⟩, cap, [], rfl, fun hp => by simp at hp, by simp, fun q hq => by cases hq⟩
    have hspot : spot = none := by
      obtain ⟨cs', h1, _⟩ := hx 0 (by omega)
      rw [cellsLS] at h1
      obtain ⟨_, hlen, hcell⟩ := World.cells?_some h1
      match cs', hlen with
      | [v0, v1, v2], _ =>
        have c0 := hcell 0 (by omega)
        simp at c0
        simpa [Addr.add] using World.cell?_spot c0
    subst hspot
    have each : ∀ i, i < m → ∃ q : Sg, Tri W b (off + i * 3) q.1 (txt q.2.1) q.2.2 ∧ SgOk q := by
      intro i hi
      obtain ⟨cs', h1, h2⟩ := hx i hi
      rw [cellsLS] at h1
      obtain ⟨_, hlen, hcell⟩ := World.cells?_some h1
      obtain ⟨y0, y1, y2, k, _, _, g0, g1, g2⟩ := trod_struct3 Tryd.underlying63 h2
      match cs', hlen with
      | [v0, v1, v2], _ =>
        simp [cells3s, cells9s] at g0 g1 g2
        obtain ⟨x0, e0, _, _⟩ := DataW.trod_int Tryd.underlying3 g0
        obtain ⟨x1, e1, _, z1⟩ := DataW.trod_string Tryd.underlying9 g1
        obtain ⟨x2, e2, _, z2⟩ := DataW.trod_int Tryd.underlying3 g2
        simp at e0 e1 e2
        have hb := bounds_i64 z2
        have c0 := hcell 0 (by omega)
        have c1 := hcell 1 (by omega)
        have c2 := hcell 2 (by omega)
        simp [e0, e1, e2] at c0 c1 c2
        rw [Addr.add_lit, Addr.add_lit] at c0 c1 c2
        refine ⟨(x0, x1.data.toList, x2), ⟨c0, ?_, c2⟩, ?_, hb.1, hb.2⟩
        · rw [txt_data]; exact c1
        · show x1.data.toList.length ≤ _
          unfold maxLen at z1
          simp
          omega
    obtain ⟨q, hq⟩ := Go.Deep.choose_lt each
    refine ⟨some ⟨b, off, none⟩, cap, (List.range len).map q, by simp, fun hp => ?_, by unfold maxLen at hm; simp; omega, fun y hy => ?_⟩
    · simp only [List.length_map, List.length_range] at hp
      refine ⟨b, off, rfl, fun j hj => ?_⟩
      simp only [List.length_map, List.length_range] at hj
      have := (hq j (by omega)).1
      simpa [List.getD_eq_getElem?_getD, hj] using this
    · obtain ⟨j, hj, rfl⟩ := List.mem_map.1 hy
      exact (hq j (by have := List.mem_range.1 hj; omega)).2

theorem textN_len (ps : List Sg) (hN : ∀ p ∈ ps, SgOk p) : ∀ k, k ≤ ps.length → (textN ps k).length ≤ 20 * k + sumN ps k
  | 0, _ => by simp [textN]
  | k + 1, h => by
    have ih := textN_len ps hN k (by omega)
    have hk : k < ps.length := by omega
    have hm := hN (ps.getD k zeroG) (by rw [List.getD_eq_getElem?_getD, List.getElem?_eq_getElem hk]; exact List.getElem_mem hk)
    have h1 : (txL (ps.getD k zeroG)).length ≤ 19 + (ps.getD k zeroG).2.1.length := by
      unfold txL
      split
      · have := decS_len (ps.getD k zeroG).2.2.toNat (by have h19 : (10 : Nat) ^ 19 = 10000000000000000000 := by decide
                                                         have := hm.2.2
                                                         omega)
        omega
      · omega
    rw [textN_succ]
    unfold moreL
    simp only [List.length_append, sumN]
    have h2 : (if k = 0 then ([] : List UInt8) else [32]).length ≤ 1 := by split <;> simp
    omega

end Go.Proofs.YtfhkafbcopolcaaDoor
