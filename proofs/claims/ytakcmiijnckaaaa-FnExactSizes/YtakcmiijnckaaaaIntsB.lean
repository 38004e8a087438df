/- Slices of numbers, empty or of the call's own: what the laws' helpers answer of them; both Sizes in one. -/
import Derived.Test.YtakcmiijnckaaaaSizesI
import Derived.Test.YtakcmiijnckaaaaIntSl
namespace Go.Proofs.Ytakcmiijnckaaaa
open Go.RowKit
set_option linter.unusedVariables false

/-- v is an empty slice, or one at block b's head, of the numbers zs. -/
def IntsB (w : World) (b : Nat) (v : Value) (zs : List Int) : Prop := (zs = [] ∧ ∃ a c, v = .slice a 0 c) ∨ OwnI w b v zs

theorem IntsB.ext {w w' : World} {b : Nat} {v : Value} {zs : List Int} (h : IntsB w b v zs) (hE : Ext w w') : IntsB w' b v zs := by
  rcases h with h | h
  · exact .inl h
  · exact .inr (h.below hE h.2.1)

theorem IntsB.grown {w w' : World} {b g : Nat} {v : Value} {zs : List Int} (h : IntsB w b v zs) (hg : w.grownBy w' (some g)) (hne : b ≠ g) : IntsB w' b v zs := by
  rcases h with h | h
  · exact .inl h
  · exact .inr (h.block (hg.block b h.2.1 (fun e => hne (Option.some.inj e))) hg.size)

theorem eqInts_nil (a1 a2 : Option Addr) (c1 c2 : Nat) (w : World) : Calls Try.prog 28 #[.slice a1 0 c1, .slice a2 0 c2] w fun e w' => e = .returned (.bool true) ∧ w = w' := by
  go_enter Try.func28, Try.ntmps28
  go_wp2_with fail
  go_loopw [5] (fun i wr => i = .int .i64 0 ∧ w = wr) (fun _ _ => 0)
  case atStart => exact ⟨rfl, rfl⟩
  case round =>
    obtain ⟨rfl, rfl⟩ := hrel
    go_wp2
    go_ret
    exact ⟨rfl, rfl⟩

theorem markInts_nil (a : Option Addr) (c : Nat) (w : World) : Calls Try.prog 30 #[.slice a 0 c, .int .i64 1] w fun e w' => e = .returned (.int .i64 1) ∧ w = w' := by
  go_enter Try.func30, Try.ntmps30
  go_wp2_with fail
  go_loopw [1, 5] (fun kv i wr => i = .int .i64 0 ∧ kv = .int .i64 1 ∧ w = wr) (fun _ _ _ => 0)
  case atStart => exact ⟨rfl, rfl, rfl⟩
  case round =>
    obtain ⟨rfl, rfl, rfl⟩ := hrel
    go_wp2
    go_ret
    exact ⟨rfl, rfl⟩

theorem heldInts_nil (a : Option Addr) (c : Nat) (w : World) : Calls Try.prog 31 #[.slice a 0 c, .int .i64 1] w fun e w' => e = .returned (.int .i64 1) ∧ w = w' := by
  go_enter Try.func31, Try.ntmps31
  go_wp2_with fail
  go_loopw [1, 5] (fun kv i wr => i = .int .i64 0 ∧ kv = .int .i64 1 ∧ w = wr) (fun _ _ _ => 0)
  case atStart => exact ⟨rfl, rfl, rfl⟩
  case round =>
    obtain ⟨rfl, rfl, rfl⟩ := hrel
    go_wp2
    go_ret
    exact ⟨rfl, rfl⟩

theorem eqIntsB (b1 b2 : Nat) (v1 v2 : Value) (zs : List Int) (w : World) (hl : zs.length ≤ 1048576) (h1 : IntsB w b1 v1 zs) (h2 : IntsB w b2 v2 zs) : Calls Try.prog 28 #[v1, v2] w fun e w' => e = .returned (.bool true) ∧ Ext w w' := by
  by_cases h0 : zs = []
  · subst h0
    have hs : ∀ {b v}, IntsB w b v [] → ∃ a c, v = .slice a 0 c := fun h => by
      rcases h with ⟨_, h⟩ | h
      · exact h
      · obtain ⟨c, hc⟩ := h.1
        exact ⟨_, c, hc⟩
    obtain ⟨a1, c1, rfl⟩ := hs h1
    obtain ⟨a2, c2, rfl⟩ := hs h2
    refine (eqInts_nil a1 a2 c1 c2 w).mono ?_
    rintro e w' ⟨rfl, rfl⟩
    exact ⟨rfl, Ext.refl _⟩
  · have p1 : OwnI w b1 v1 zs := h1.resolve_left fun h => h0 h.1
    have p2 : OwnI w b2 v2 zs := h2.resolve_left fun h => h0 h.1
    refine (eqIntS_same b1 b2 v1 v2 zs w hl p1 p2).mono ?_
    rintro e w' ⟨rfl, n, rfl⟩
    exact ⟨rfl, (Ext.refl w).drewN n⟩

theorem markIntsB (b : Nat) (v : Value) (zs : List Int) (w : World) (hl : zs.length ≤ 1048576) (h : IntsB w b v zs) : Calls Try.prog 30 #[v, .int .i64 1] w fun e w' => e = .returned (.int .i64 ((zs.length : Int) + 1)) ∧ IntsB w' b v (marks 1 zs.length) ∧ w.grownBy w' (some b) := by
  rcases h with ⟨rfl, a, c, rfl⟩ | h
  · refine (markInts_nil a c w).mono ?_
    rintro e w' ⟨rfl, rfl⟩
    exact ⟨rfl, .inl ⟨rfl, a, c, rfl⟩, grown_refl _ _⟩
  · refine (markIntS_any b v zs w hl h).mono ?_
    rintro e w' ⟨rfl, h1, h2, h3, h4⟩
    exact ⟨rfl, .inr h1, ⟨h2.os, h2.tape, h2.output, by omega, fun i hi hne => h4 i (fun e => hne (by rw [e]))⟩⟩

theorem heldIntsB (b : Nat) (v : Value) (n : Nat) (w : World) (hl : n ≤ 1048576) (h : IntsB w b v (marks 1 n)) : Calls Try.prog 31 #[v, .int .i64 1] w fun e w' => e = .returned (.int .i64 ((n : Int) + 1)) ∧ w = w' := by
  rcases h with ⟨h0, a, c, rfl⟩ | h
  · have : n = 0 := by have := congrArg List.length h0; simpa [marks_length] using this
    subst this
    refine (heldInts_nil a c w).mono ?_
    rintro e w' ⟨rfl, rfl⟩
    exact ⟨rfl, rfl⟩
  · exact heldIntS_any b v n w hl h

theorem own_of_row {w : World} {g n c : Nat} {s : Nat → Nat} (h : RowF w g n (fun i => (s i : Int))) : OwnI w g (.slice (some ⟨g, 0, none⟩) n c) ((List.range n).map fun i => (s i : Int)) := by
  refine ⟨⟨c, by simp⟩, h.1, fun j hj => ?_⟩
  simp only [List.length_map, List.length_range] at hj
  have := h.2 j hj
  simpa [List.getD_eq_getElem?_getD, hj] using this

/-- Both answer the same numbers, in memory of their own. -/
theorem sizes_both (ls : List Ln) (hl : ls.length ≤ 1048576) (ht : TextsP ls) : ∃ zs : List Int, zs.length ≤ 600 ∧
    (∀ a cap w, Lns w a ls → Calls Try.prog 23 #[.slice a ls.length cap] w fun e w' => ∃ b v, e = .returned v ∧ IntsB w' b v zs ∧ w.heap.size ≤ b ∧ b < w'.heap.size ∧ Ext w w') ∧
    (∀ a cap w, Lns w a ls → Calls Try.prog 15 #[.slice a ls.length cap] w fun e w' => ∃ b v, e = .returned v ∧ IntsB w' b v zs ∧ w.heap.size ≤ b ∧ Ext w w') := by
  by_cases hp : linesP ls
  · obtain ⟨s, hs⟩ := sizes_some hp
    refine ⟨(List.range ls.length).map fun i => (s i : Int), by simpa using hp.1.2, fun a cap w h => ?_, fun a cap w h => ?_⟩
    · refine (sSizes_yes a cap ls s w h hp hs).mono ?_
      rintro e w' ⟨q, c, rfl, h1, h2, h3⟩
      exact ⟨q, _, rfl, .inr (own_of_row h2), h1, h2.1, h3⟩
    · refine (iSizes_yes a cap ls s w hp hs ht h).mono ?_
      rintro e w' ⟨q, rfl, h1, h2, h3⟩
      exact ⟨q, _, rfl, .inr (own_of_row h2), h1, h3⟩
  · refine ⟨[], by simp, fun a cap w h => ?_, fun a cap w h => ?_⟩
    · refine (sSizes_no a cap ls w hl h hp).mono ?_
      rintro e w' ⟨g, rfl, h1, h2, h3⟩
      exact ⟨g, _, rfl, .inl ⟨rfl, _, _, rfl⟩, h1, h2, h3⟩
    · refine (iSizes_no a cap ls w hl ht h hp).mono ?_
      rintro e w' ⟨rfl, h3⟩
      exact ⟨w.heap.size, _, rfl, .inl ⟨rfl, _, _, rfl⟩, Nat.le_refl _, h3⟩

end Go.Proofs.Ytakcmiijnckaaaa
