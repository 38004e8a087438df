/- Slices of numbers, empty or of the call's own: what the laws' helpers answer of them; both Sizes in one. -/
import Derived.Test.YtakcmiijnckaaaaLtPack19
import Derived.Test.YtakcmiijnckaaaaLtPack10
namespace Go.Proofs.Ytakcmiijnckaaaa
open Go.RowKit
set_option linter.unusedVariables false

/-- v is an empty slice, or one at block b's head, of the numbers zs. -/
def IntsB (w : World) (b : Nat) (v : Value) (zs : List Int) : Prop := (zs = [] ∧ ∃ a c, v = .slice a 0 c) ∨ OwnI w b v zs

theorem IntsB.ext {w w' : World} {b : Nat} {v : Value} {zs : List Int} (h : IntsB w b v zs) (hE : Ext w w') : IntsB w' b v zs := by
  rcases h with h | h
  · exact .inl h
  · exact .inr (h.below hE h.2.1)

theorem IntsB.grown {w w' : World} {b g : Nat} {v : Value} {zs : List Int} (h : IntsB w b v zs) (hg : w.grownBy w' (some g)) (hne : b ≠ g) : IntsB w' b v zs := by
  rcases h with h | h
  · exact .inl h
  · exact .inr (h.block (hg.block b h.2.1 (fun e => hne (Option.some.inj e))) hg.size)

theorem own_of_row {w : World} {g n c : Nat} {s : Nat → Nat} (h : RowF w g n (fun i => (s i : Int))) : OwnI w g (.slice (some ⟨g, 0, none⟩) n c) ((List.range n).map fun i => (s i : Int)) := by
  refine ⟨⟨c, by simp⟩, h.1, fun j hj => ?_⟩
  simp only [List.length_map, List.length_range] at hj
  have := h.2 j hj
  simpa [List.getD_eq_getElem?_getD, hj] using this

/-- Both answer the same numbers, in memory of their own. -/
theorem sizes_both (ls : List Ln) (hl : ls.length ≤ 1048576) (ht : TextsP ls) : ∃ zs : List Int, zs.length ≤ 600 ∧
    (∀ a cap w, Lns w a ls → Calls Try.prog 23 #[.slice a ls.length cap] w fun e w' => ∃ b v, e = .returned v ∧ IntsB w' b v zs ∧ w.heap.size ≤ b ∧ b < w'.heap.size ∧ Ext w w') ∧
    (∀ a cap w, Lns w a ls → Calls Try.prog 15 #[.slice a ls.length cap] w fun e w' => ∃ b v, e = .returned v ∧ IntsB w' b v zs ∧ w.heap.size ≤ b ∧ Ext w w') := by
  by_cases hp : linesP ls
  · obtain ⟨s, hs⟩ := sizes_some hp
    refine ⟨(List.range ls.length).map fun i => (s i : Int), by simpa using hp.1.2, fun a cap w h => ?_, fun a cap w h => ?_⟩
    · refine (sSizes_yes a cap ls s w h hp hs).mono ?_
      rintro e w' ⟨q, c, rfl, h1, h2, h3⟩
      exact ⟨q, _, rfl, .inr (own_of_row h2), h1, h2.1, h3⟩
    · refine (iSizes_yes a cap ls s w hp hs ht h).mono ?_
      rintro e w' ⟨q, rfl, h1, h2, h3⟩
      exact ⟨q, _, rfl, .inr (own_of_row h2), h1, h3⟩
  · refine ⟨[], by simp, fun a cap w h => ?_, fun a cap w h => ?_⟩
    · refine (sSizes_no a cap ls w hl h hp).mono ?_
      rintro e w' ⟨g, rfl, h1, h2, h3⟩
      exact ⟨g, _, rfl, .inl ⟨rfl, _, _, rfl⟩, h1, h2, h3⟩
    · refine (iSizes_no a cap ls w hl ht h hp).mono ?_
      rintro e w' ⟨rfl, h3⟩
      exact ⟨w.heap.size, _, rfl, .inl ⟨rfl, _, _, rfl⟩, Nat.le_refl _, h3⟩

end Go.Proofs.Ytakcmiijnckaaaa
