/- What the laws' own heldStringS answers at a list that bears its marks: the number behind the last one. -/
import Derived.Test.YtfhkafbcopolcaaMarks
namespace Go.Proofs.Ytfhkafbcopolcaa
open Go.RowKit
set_option linter.unusedVariables false

theorem cell_below {w w' : World} (hb : Below w.heap.size w w') {a : Addr} {v : Value} (h : w.cell? a = some v) : w'.cell? a = some v :=
  (hb.cell (World.block_lt_of_cell? w _ h)).trans h

set_option maxRecDepth 100000 in
set_option maxHeartbeats 1000000 in
theorem heldS_any (n k0 B : Nat) (v : Value) (w : World) (hown : w.ownsRow B 9 1 v n (rowS (marks k0 n))) (hn : n ≤ 1000000) (hk : 0 < k0) (hk2 : k0 ≤ 1000000) :
    Calls Try.prog 15 #[v, .int .i64 k0] w fun e w' => e = .returned (.int .i64 ((k0 + n : Nat) : Int)) ∧ Below w.heap.size w w' := by
  obtain ⟨a1, c1, rfl, h1⟩ := own_form hown
  by_cases h0 : n = 0
  · subst h0
    clear h1 hown
    go_enter Try.func15, Try.ntmps15
    go_wp2
    refine wp_loop_rounds 1 ?_
    rw [rounds_succ]
    go_wp2
    go_ret
    exact ⟨rfl, Below.refl _ _⟩
  · obtain ⟨g, rfl⟩ := h1 (by omega)
    clear h1
    go_enter Try.func15, Try.ntmps15
    go_wp2
    go_loopw [1, 5] (fun kk i wr => ∃ k : Nat, i = .int .i64 k ∧ kk = .int .i64 ((k0 + k : Nat) : Int) ∧ k ≤ n ∧ Below w.heap.size w wr) (fun _ i _ => n - (intOf i).toNat)
    case atStart => exact ⟨0, rfl, rfl, by omega, Below.refl _ _⟩
    case round =>
      obtain ⟨k, rfl, rfl, hkn, hbel⟩ := hrel
      have hbs := hbel.size
      by_cases hlt : k < n
      · have hki : (k : Int) < (n : Int) := by omega
        have hki0 : (0 : Int) ≤ (k : Int) := by omega
        have hc : wr.cell? ⟨g, k, none⟩ = some (.string (markB (k0 + k))) := by rw [(own_below hown hbel).cellAt k (by omega)]; exact marks_at k0 n k hlt
        go_wp2
        go_region_held3 (fun w' => w'.cell? ⟨g, k, none⟩ = some (.string (markB (k0 + k)))) (first | go_keep | (exact cell_below hb1 (by assumption))) ((go_at_call 24; refine (markT_any (k0 + k) _ (by omega) (by omega)).mono ?_; rintro e1 w1 ⟨rfl, hb1⟩))
        have hb' : Below w.heap.size w w1 := hbel.drew.trans (hb1.mono hbs)
        clear hb1
        go_wp2
        go_roundw
        case rel => exact ⟨k + 1, by go_num, by go_num, by omega, hb'⟩
        case measure => simp [intOf]; omega
      · have hkk : k = n := by omega
        subst hkk
        go_wp2
        go_ret
        exact ⟨rfl, hbel⟩

end Go.Proofs.Ytfhkafbcopolcaa
