/- What the laws' own helpers over lists of texts answer: markText, eqStringS at like lists, markStringS, heldStringS behind it. -/
import Derived.Test.YtojaohdmfahpmaaGreatDoorConv
import Derived.Test.YtojaohdmfahpmaaGreatDoorDecMath
import Derived.WalkKit
import Derived.WalkSpells
import Derived.WalkSmall
import Derived.BigQuiet
import Derived.Deep.QuietTactic
import Derived.Deep.RegionHeld3
import Derived.LoopN
namespace Go.Proofs.YtojaohdmfahpmaaGreatDoor
open Go.RowKit
set_option linter.unusedVariables false

def markB (k : Nat) : ByteArray := ⟨(109 :: dec k).toArray⟩

def rowS (xs : List ByteArray) : List Value := xs.map Value.string

theorem rowS_at (xs : List ByteArray) (k : Nat) (h : k < xs.length) : (rowS xs)[k]? = some (.string xs[k]) := by simp [rowS, h]

theorem own_form {w : World} {base e : Nat} {v : Value} {n : Nat} {xs : List Value} (h : w.ownsRow base e 1 v n xs) : ∃ a c, v = .slice a n c ∧ (0 < n → ∃ g, a = some ⟨g, 0, none⟩) := by
  rcases h.2 with ⟨rfl, h0⟩ | ⟨g, cap, _, rfl, _⟩
  · exact ⟨none, 0, by rw [h0], by omega⟩
  · exact ⟨_, _, rfl, fun _ => ⟨g, rfl⟩⟩

def marks (k0 n : Nat) : List ByteArray := (List.range n).map fun j => markB (k0 + j)

theorem marks_length (k0 n : Nat) : (marks k0 n).length = n := by simp [marks]
theorem marks_succ (k0 n : Nat) : marks k0 (n + 1) = marks k0 n ++ [markB (k0 + n)] := by simp [marks, List.range_succ]
theorem marks_at (k0 n k : Nat) (h : k < n) : (rowS (marks k0 n))[k]? = some (.string (markB (k0 + k))) := by simp [rowS, marks, h]

theorem marks_set (k0 i : Nat) (xs : List Value) (h : i < xs.length) : ((rowS (marks k0 i)) ++ xs.drop i).set i (.string (markB (k0 + i))) = rowS (marks k0 (i + 1)) ++ xs.drop (i + 1) := by
  have hl : (rowS (marks k0 i)).length = i := by simp [rowS, marks]
  rw [List.set_append_right _ _ (by omega), hl, Nat.sub_self, List.drop_eq_getElem_cons h, List.set_cons_zero, marks_succ]
  simp only [rowS, List.map_append, List.map_cons, List.map_nil, List.append_assoc, List.cons_append, List.nil_append]

end Go.Proofs.YtojaohdmfahpmaaGreatDoor
