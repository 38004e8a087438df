/- The laws' arguments opened: a rule, a policy. -/
import Derived.Test.YtojaohdmfahpmaaOpenSeg
import Derived.Test.YtojaohdmfahpmaaOpenCond
import Derived.Test.YtojaohdmfahpmaaPolI
namespace Go.Proofs.Ytojaohdmfahpmaa
open Go.ChangeShapes Go.WideShapes Go.ChangeAt Go.RowKit Go.Joins Go.Deep
set_option linter.unusedVariables false

theorem cellsLRu : Try.prog.cellsOf 49 = 4 := by kernel_rfl

theorem cellsLPo : Try.prog.cellsOf 24 = 4 := by kernel_rfl

theorem cells34 : Try.prog.cellsOf 33 = 1 := by kernel_rfl

theorem cellsLCs : Try.prog.cellsOf 47 = 1 := by kernel_rfl

theorem cellsLRs : Try.prog.cellsOf 22 = 1 := by kernel_rfl

theorem open_nums {H : Type} {enc : TypeId × Value → H} {W : World} {base n : Nat} {sp : Nat → Bool} {held : Bool} {v : Value} {y : DataW H × List MemPlace}
    (h : DataW.trod enc Try.prog W base sp held n 33 [v] = some y) : ∃ (a : Option Addr) (cap : Nat) (zs : List Int), v = .slice a zs.length cap ∧ zs.length ≤ 9223372036854775807 ∧ Nums W a zs := by
  obtain ⟨a, cap, zs, e, hl, hx⟩ := open_segs (0 : Int) (fun z l => l = [.int .i64 z]) Try.underlying33 cells3 (by omega) (fun {m cs x} h hl => by
    match cs, hl with
    | [v0], _ =>
      obtain ⟨x0, e0, _, _⟩ := DataW.trod_int Try.underlying3 h
      exact ⟨x0, by simpa using e0⟩) h
  refine ⟨a, cap, zs, e, hl, fun hp => ?_⟩
  obtain ⟨b, off, ha, hb, hc⟩ := hx hp
  refine ⟨b, off, ha, hb, fun j hj => ?_⟩
  obtain ⟨l, h1, rfl⟩ := hc j hj
  rw [Nat.mul_one] at h1
  exact h1.one

set_option maxRecDepth 100000 in
theorem open_conds {H : Type} {enc : TypeId × Value → H} {W : World} {base n : Nat} {sp : Nat → Bool} {held : Bool} {v : Value} {y : DataW H × List MemPlace}
    (h : DataW.trod enc Try.prog W base sp held n 47 [v] = some y) : ∃ (a : Option Addr) (cap : Nat) (cs : List CN), v = .slice a cs.length cap ∧ cs.length ≤ 9223372036854775807 ∧ Conds W a cs := by
  obtain ⟨a, cap, zs, e, hl, hx⟩ := open_segs c0 (fun (c : CN) l => l = c.l) Try.underlying47 cellsLCo (by omega) (fun {m cs x} h hl => trod_cond h) h
  refine ⟨a, cap, zs, e, hl, fun hp => ?_⟩
  obtain ⟨b, off, ha, hb, hc⟩ := hx hp
  refine ⟨b, off, ha, hb, fun j hj => ?_⟩
  obtain ⟨l, h1, rfl⟩ := hc j hj
  exact h1

/-- No more elements than any slice has. -/
def Fin63 (r : RN) : Prop := r.nums.length ≤ 9223372036854775807 ∧ r.conds.length ≤ 9223372036854775807

set_option maxRecDepth 100000 in
theorem trod_rule {H : Type} {enc : TypeId × Value → H} {W : World} {base n : Nat} {sp : Nat → Bool} {held : Bool} {cs : List Value} {y : DataW H × List MemPlace}
    (h : DataW.trod enc Try.prog W base sp held n 49 cs = some y) : ∃ r : RN, RuleL W r cs ∧ Fin63 r := by
  obtain ⟨y0, y1, y2, y3, k, _, hl, g0, g1, g2, g3⟩ := trod_struct4 Try.underlying49 h
  rw [cellsLRu] at hl
  match cs, hl with
  | [v0, v1, v2, v3], _ =>
    simp [cells3, cells34, cellsLCs] at g0 g1 g2 g3
    obtain ⟨a1, c1, zs, e0, hz1, hz⟩ := open_nums g0
    obtain ⟨a2, c2, cs, e1, hc1, hc⟩ := open_conds g1
    obtain ⟨x2, e2, _, _⟩ := DataW.trod_int Try.underlying3 g2
    obtain ⟨x3, e3, _, _⟩ := DataW.trod_int Try.underlying3 g3
    simp at e2 e3
    exact ⟨⟨zs, cs, x2, x3⟩, ⟨a1, _, c1, a2, _, c2, by rw [e0, e1, e2, e3], rfl, rfl, hz, hc⟩, hz1, hc1⟩

set_option maxRecDepth 100000 in
theorem open_rule {H : Type} {enc : TypeId × Value → H} {W : World} {base b0 : Nat} {sp : Nat → Bool} {held : Bool} {r : Reach} {v : Value} {d : DataW H} {p : List MemPlace}
    (hv : Value.okWide Try.prog W r b0 49 v) (h : DataW.Trod enc Try.prog W base sp held 49 v d p) : ∃ r : RN, RepRule r v W ∧ Fin63 r := by
  obtain ⟨cs, rfl, hsz⟩ := okWide_struct Try.underlying49 hv
  obtain ⟨fuel, hf⟩ := h
  obtain ⟨r, hr, hf⟩ := trod_rule hf
  simp only [Value.cells] at hr
  exact ⟨r, ⟨_, by simp, hr⟩, hf⟩

set_option maxRecDepth 100000 in
theorem open_policy {H : Type} {enc : TypeId × Value → H} {W : World} {base b0 : Nat} {sp : Nat → Bool} {held : Bool} {r : Reach} {v : Value} {d : DataW H} {p : List MemPlace}
    (hv : Value.okWide Try.prog W r b0 24 v) (h : DataW.Trod enc Try.prog W base sp held 24 v d p) :
    ∃ p : PN, RepPol p v W ∧ p.rules.length ≤ 9223372036854775807 ∧ ∀ k, k < p.rules.length → Fin63 (p.rules.getD k r0) := by
  obtain ⟨v0, v1, v2, v3, y0, y1, y2, y3, m, rfl, rfl, rfl, g0, g1, g2, g3⟩ := open_agg4 Try.underlying24 (by kernel_rfl) cellsLPo hv h
  obtain ⟨x0, e0, _, _⟩ := DataW.trod_int Try.underlying3 g0
  obtain ⟨x1, e1, _, _⟩ := DataW.trod_int Try.underlying3 g1
  obtain ⟨x2, e2, _, _⟩ := DataW.trod_int Try.underlying3 g2
  obtain ⟨a, cap, rs, e3, hl, hx⟩ := open_segs r0 (fun r l => RuleL W r l ∧ Fin63 r) Try.underlying22 cellsLRu (by omega) (fun {m cs x} h hl => trod_rule h) g3
  simp at e0 e1 e2
  refine ⟨⟨x0, x1, x2, rs⟩, ⟨a, cap, by rw [e0, e1, e2, e3], fun hp => ?_⟩, hl, fun k hk => ?_⟩
  · obtain ⟨b, off, ha, hb, hc⟩ := hx hp
    refine ⟨b, off, ha, hb, fun j hj => ?_⟩
    obtain ⟨l, h1, h2, _⟩ := hc j hj
    exact ⟨l, h1, h2⟩
  · obtain ⟨b, off, ha, hb, hc⟩ := hx (by show 0 < rs.length; simp at hk; omega)
    obtain ⟨l, h1, _, h2⟩ := hc k hk
    exact h2

end Go.Proofs.Ytojaohdmfahpmaa
