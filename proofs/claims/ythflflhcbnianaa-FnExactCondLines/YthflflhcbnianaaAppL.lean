/- Lines appended to a row of the call's own. -/
import Derived.Test.YthflflhcbnianaaCondL
import Derived.Test.YthflflhcbnianaaInfoB
namespace Go.Proofs.Ythflflhcbnianaa
open Go.RowKit
set_option linter.unusedVariables false

theorem flat_one {ls : List Ln} : ∀ u ∈ flatL ls, u.oneCell' = true := by
  intro u hu
  unfold flatL at hu
  obtain ⟨l, _, h⟩ := List.mem_flatMap.1 hu
  unfold sev at h
  simp at h
  rcases h with rfl | rfl | rfl | rfl | rfl | rfl | rfl <;> rfl

theorem OwnL.cell {w : World} {B g n c : Nat} {ls : List Ln} (h : OwnL w B (.slice (some ⟨g, 0, none⟩) n c) ls) : ∀ j u, (flatL ls)[j]? = some u → w.cell? ⟨g, j, none⟩ = some u := by
  intro j u hu
  have hown : w.ownsRow B 43 7 (.slice (some ⟨g, 0, none⟩) n c) ls.length (flatL ls) := h
  have hc := hown.cells (g := g) rfl j u hu
  rwa [Addr.add_lit, Nat.zero_add] at hc

/-- Cells below W1's end are kept from one world above W1 to another. -/
theorem CellsAt.of {W1 W W' : World} {k : Nat} {l : List Value} (h : CellsAt W k l) (hE : Ext W1 W) (hE' : Ext W1 W') (hk : k < W1.heap.size) : CellsAt W' k l :=
  ⟨Nat.lt_of_lt_of_le hk hE'.size, fun i v hv => ((hE'.cell (p := ⟨k, i, none⟩) hk).trans (hE.cell (p := ⟨k, i, none⟩) hk).symm).trans (h.2 i v hv)⟩

/-- Lines of a row appended to a row of the call's own. -/
theorem append_lines (w : World) {ops : Array Oper} {rest : List Oper} {o : Oper} {a : Act} {Q : Exit → Act → World → Prop} (hgd : o.guard = none) (s x : Operand)
    (ho : o.op = .call { callee := .builtin .append, args := #[s, x], argTypes := #[26, 26] })
    {w0 : World} (v : Value) (ls ms : List Ln) (hs : a.eval s = v) (hown : OwnL w w0.heap.size v ls) (hE : Ext w0 w) (g m c : Nat) (hx : a.eval x = .slice (some ⟨g, 0, none⟩) m c) (hm : m = ms.length)
    (hc : ∀ j u, (flatL ms)[j]? = some u → w.cell? ⟨g, j, none⟩ = some u) (h63 : ls.length + ms.length ≤ 1000000000)
    (h : ∀ v' w', OwnL w' w0.heap.size v' (ls ++ ms) → Ext w0 w' → wpList Try.prog ops Q rest (a.put o.dst v') w') : wpList Try.prog ops Q (o :: rest) a w := by
  obtain ⟨i0, hi, hz0, hz1, hz2⟩ := info_parts Try.infoLn
  subst hm
  refine wpList_append_own w hgd s x 26 ho w0.heap.size 43 i0 (.agg #[.string ⟨#[]⟩, .int .i64 0, .int .i64 0, .int .i64 0, .int .i64 0, .string ⟨#[]⟩, .string ⟨#[]⟩]) 7 80 Try.underlying26 hi hz0 hz1 hz2 rfl (by decide) v ls.length (flatL ls) hs hown ⟨g, 0, none⟩ ms.length c (flatL ms) hx (flatL_length ms) (fun j u hu => ?_) flat_one (by unfold maxLen; omega) (by omega) hE.size (fun v' w' h1 h2 _ => h v' w' ?_ ?_)
  · rw [Addr.add_lit, Nat.zero_add]; exact hc j u hu
  · unfold OwnL
    rw [List.length_append, flatL_append]
    exact h1
  · exact hE.grown h2 (fun x hx => ownL_from hown hx)

end Go.Proofs.Ythflflhcbnianaa
