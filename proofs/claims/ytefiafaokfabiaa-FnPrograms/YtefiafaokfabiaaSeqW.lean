/- A region in the order of the text, one operation at a time and by itself, so that nothing else is looked at: what it leaves is known by a relation; one that is passed over leaves nothing. -/
import Derived.Test.YtefiafaokfabiaaLoose
namespace Go.Proofs.Ytefiafaokfabiaa
open Go Go.RowKit
set_option linter.unusedVariables false

section
variable {P : Program} {ops : Array Oper} {Q : Exit → Act → World → Prop} {a a' : Act} {w : World} {o : Oper} {rest : List Oper}

theorem wpSeq (R : Act → World → Prop)
    (hs : Region.wanted o (yielded ops a.tmps) = true → ∀ Q' : Exit → Act → World → Prop, (∀ a' w', R a' w' → Q' .normal a' w') → wpList P #[] Q' [bare o] a w)
    (hk : Region.wanted o (yielded ops a.tmps) = false → R (a.put o.dst undef) w)
    (hn : ∀ a' w', R a' w' → wpList P ops Q rest a' w') : wpList P ops Q (o :: rest) a w := by
  unfold wpList
  cases hw : Region.wanted o (yielded ops a.tmps)
  · simp only [Bool.false_eq_true, if_false]
    exact hn _ _ (hk hw)
  · simp only [if_true]
    left
    have h1 := hs hw (fun e a'' w' => e = .normal ∧ R a'' w') (fun a'' w' h => ⟨rfl, h⟩)
    unfold wpList at h1
    have hb : Region.wanted (bare o) (yielded #[] a.tmps) = true := rfl
    simp only [hb, if_true, bare_wp] at h1
    rcases h1 with h1 | ⟨_, _, _, h1, _⟩
    · unfold Oper.wp at *
      generalize (execOp a.eval o).run P w = r at *
      cases r with
      | ok m w' =>
        cases m <;> simp only [Oper.upon] at h1 ⊢
        case enter f args =>
          refine Calls.mono h1 fun e w'' he => ?_
          cases e with
          | returned u => exact hn _ _ he.2
          | panicked _ => obtain ⟨h2, _⟩ := he; cases h2
          | outgrown => obtain ⟨_, _, h2, _⟩ := he; cases h2
        case row row args => exact Rows.mono h1 fun u w'' he => hn _ _ he.2
        all_goals exact hn _ _ h1.2
      | halt x w' => cases x <;> simp only [Oper.upon] at h1 <;> (obtain ⟨h2, _⟩ := h1; cases h2)
    · cases h1

/-- It yields one value, the world stands. -/
theorem wpSeq_val (hw : Region.wanted o (yielded ops a.tmps) = true) (hs : ∀ Q' : Exit → Act → World → Prop, (∀ w', w' = w → Q' .normal a' w') → wpList P #[] Q' [bare o] a w)
    (hn : wpList P ops Q rest a' w) : wpList P ops Q (o :: rest) a w :=
  wpSeq (fun x y => x = a' ∧ y = w) (fun _ Q' h => hs Q' (fun w' hw' => h _ _ ⟨rfl, hw'⟩)) (fun h => by rw [hw] at h; cases h) (fun x y ⟨hx, hy⟩ => by subst hx hy; exact hn)

/-- Where the walk is to stand still. -/
def Stop (p : Prop) : Prop := p

theorem wpStop (d : Tmp) (hd : o.dst = some d) (h : Stop (wpList P ops Q (o :: rest) a w)) : wpList P ops Q (o :: rest) a w := h

/-- It yields one value; of the world behind it this is known. -/
theorem wpSeq_call (E : World → Prop) (hw : Region.wanted o (yielded ops a.tmps) = true) (hs : ∀ Q' : Exit → Act → World → Prop, (∀ w', E w' → Q' .normal a' w') → wpList P #[] Q' [bare o] a w)
    (hn : ∀ w', E w' → wpList P ops Q rest a' w') : wpList P ops Q (o :: rest) a w :=
  wpSeq (fun x y => x = a' ∧ E y) (fun _ Q' h => hs Q' (fun w' hE => h _ _ ⟨rfl, hE⟩)) (fun h => by rw [hw] at h; cases h) (fun x y ⟨hx, hy⟩ => by subst hx; exact hn y hy)

/-- It may be passed over; of what it yields a fact is known, the world stands. -/
theorem wpSeq_rel (R : Value → Prop) (hs : Region.wanted o (yielded ops a.tmps) = true → ∀ Q' : Exit → Act → World → Prop, (∀ v, R v → Q' .normal (a.put o.dst v) w) → wpList P #[] Q' [bare o] a w)
    (hk : Region.wanted o (yielded ops a.tmps) = false → R undef) (hn : ∀ v, R v → wpList P ops Q rest (a.put o.dst v) w) : wpList P ops Q (o :: rest) a w :=
  wpSeq (fun x y => ∃ v, R v ∧ x = a.put o.dst v ∧ y = w) (fun hw Q' h => hs hw Q' (fun v hv => h _ _ ⟨v, hv, rfl, rfl⟩)) (fun h => ⟨undef, hk h, rfl, rfl⟩) (fun x y ⟨v, hv, hx, hy⟩ => by subst hx hy; exact hn v hv)
end

end Go.Proofs.Ytefiafaokfabiaa
