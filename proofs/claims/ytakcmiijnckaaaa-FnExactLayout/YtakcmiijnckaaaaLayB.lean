/- Both Layouts in one; what the laws' helpers over words answer of what they give. -/
import Derived.Test.YtakcmiijnckaaaaLayoutS2
import Derived.Test.YtakcmiijnckaaaaMarkIns
namespace Go.Proofs.Ytakcmiijnckaaaa
open Go.RowKit
set_option linter.unusedVariables false

theorem layout_both (ls : List Ln) (hl : ls.length ≤ 1048576) (ht : TextsP ls) : ∃ (ws : List Wd) (z : Bool), ws.length ≤ 400 ∧
    (∀ a cap w, Lns w a ls → Calls Try.prog 20 #[.slice a ls.length cap] w fun e w' => ∃ v, e = .returned (.tuple #[v, .bool z]) ∧ Own4 w' w.heap.size v ws ∧ Ext w w') ∧
    (∀ a cap w, Lns w a ls → Calls Try.prog 11 #[.slice a ls.length cap] w fun e w' => ∃ v, e = .returned (.tuple #[v, .bool z]) ∧ Own4 w' w.heap.size v ws ∧ Ext w w') := by
  by_cases hp : linesP ls
  · obtain ⟨s, hs⟩ := sizes_some hp
    refine ⟨if fewP ls s = true then layL ls s ls.length else [], fewP ls s, ?_, fun a cap w h => sLayout_yes a cap ls s w h hp hs, fun a cap w h => iLayout_yes a cap ls s w hp hs ht h⟩
    by_cases hf : fewP ls s = true
    · rw [if_pos hf, layL_length hs (Nat.le_refl _)]
      unfold fewP at hf
      rw [inB_true] at hf
      omega
    · rw [if_neg hf]; simp
  · refine ⟨[], false, by simp, fun a cap w h => sLayout_no a cap ls w hl h hp, fun a cap w h => ?_⟩
    refine (iLayout_no a cap ls w hl ht h hp).mono ?_
    rintro e w' ⟨rfl, h3⟩
    exact ⟨_, rfl, Own4.nil _ _, h3⟩

theorem eqIns4 (B1 B2 : Nat) (v1 v2 : Value) (ws : List Wd) (w : World) (hl : ws.length ≤ 400) (h1 : Own4 w B1 v1 ws) (h2 : Own4 w B2 v2 ws) : Calls Try.prog 32 #[v1, v2] w fun e w' => e = .returned (.bool true) ∧ Ext w w' := by
  obtain ⟨a1, c1, rfl, _, w1, _⟩ := h1.words
  obtain ⟨a2, c2, rfl, _, w2, _⟩ := h2.words
  exact eqInsS_same a1 a2 c1 c2 ws w (by omega) w1 w2

/-- Words of a row are kept where its own block is. -/
theorem Own4.grown {w w' : World} {B g : Nat} {v : Value} {ws : List Wd} (h : Own4 w B v ws) (hg : w.grownBy w' (some g)) (hne : ∀ x, v.ownBlock = some x → x ≠ g) : Own4 w' B v ws := by
  refine ⟨h.1, ?_⟩
  rcases h.2 with hn | ⟨q, cap, cur, rfl, hq, hh, rest⟩
  · exact .inl hn
  · exact .inr ⟨q, cap, cur, rfl, hq, (hg.block q (Array.getElem?_eq_some_iff.1 hh).1 (fun e => hne q rfl (Option.some.inj e))).trans hh, rest⟩

theorem Own4.under {w w' : World} {B C : Nat} {v : Value} {ws : List Wd} (h : Own4 w B v ws) (hb : Below C w w') (hx : ∀ x, v.ownBlock = some x → x < C) : Own4 w' B v ws := by
  refine ⟨h.1, ?_⟩
  rcases h.2 with hn | ⟨q, cap, cur, rfl, hq, hh, rest⟩
  · exact .inl hn
  · exact .inr ⟨q, cap, cur, rfl, hq, (hb.block q (hx q rfl)).trans hh, rest⟩

end Go.Proofs.Ytakcmiijnckaaaa
