/- What the laws' helper szCall answers, of whatever is left. -/
import Derived.Test.YtoknlaaghjlnaabWideSl
import Derived.Test.YtoknlaaghjlnaabBoxes
namespace Go.Proofs.Ytoknlaaghjlnaab
open Go.RowKit
set_option linter.unusedVariables false

theorem szWideS_left (a : Option Addr) (cap n l : Nat) (w : World) (hl : n ≤ l) (hm : l ≤ 1048576) :
    Calls Try.prog 13 #[.slice a n cap, .int .i64 (l : Int)] w fun e w' => e = .returned (.int .i64 ((l - n : Nat) : Int)) ∧ w = w' := by
  have HL : Hid (((l - n : Nat) : Int) = (l : Int) - (n : Int)) := by unfold Hid; omega
  go_enter Try.func13, Try.ntmps13
  go_wp2
  go_ret
  exact ⟨by rw [HL.out]; rfl, rfl⟩

theorem szWideS_over (a : Option Addr) (cap n l : Nat) (w : World) (hl : l < n) (hm : l ≤ 1048576) (hn : n ≤ 9223372036854775807) :
    Calls Try.prog 13 #[.slice a n cap, .int .i64 (l : Int)] w fun e w' => e = .returned (.int .i64 (-1)) ∧ w = w' := by
  go_enter Try.func13, Try.ntmps13
  go_wp2
  go_ret
  exact ⟨rfl, rfl⟩

set_option maxHeartbeats 400000 in
theorem szCall_or (arch num : Int) (a : Option Addr) (cap n l : Nat) (w : World) (hm : l ≤ 1048576) (hn : n ≤ 9223372036854775807) :
    Calls Try.prog 5 #[.agg #[.int .i64 arch, .int .i64 num, .slice a n cap], .int .i64 (l : Int)] w fun e w' => ((e = .returned (.int .i64 (-1))) ∨ ∃ m : Nat, e = .returned (.int .i64 (m : Int)) ∧ m ≤ l ∧ n ≤ 1048576) ∧ Ext w w' := by
  have HE : Hid (∀ o, Ext w (w.alloc o)) := fun o => Ext.one w o
  by_cases h1 : n ≤ l
  · obtain ⟨k, hk⟩ : ∃ k, k = l - n := ⟨_, rfl⟩
    have H1 : Hid (∀ W, Calls Try.prog 13 #[.slice a n cap, .int .i64 (l : Int)] W fun e w' => e = .returned (.int .i64 (k : Int)) ∧ W = w') := fun W => by rw [hk]; exact szWideS_left a cap n l W h1 hm
    have HR : Hid (k ≤ l ∧ n ≤ 1048576) := by unfold Hid; omega
    clear hk h1
    go_enter Try.func5, Try.ntmps5
    go_wp2_with (go_at_call 13; refine (H1.out _).mono ?_; rintro e w' ⟨rfl, rfl⟩)
    go_ret
    exact ⟨.inr ⟨k, rfl, HR.out⟩, HE.out _⟩
  · have H1 : Hid (∀ W, Calls Try.prog 13 #[.slice a n cap, .int .i64 (l : Int)] W fun e w' => e = .returned (.int .i64 (-1)) ∧ W = w') := fun W => szWideS_over a cap n l W (by omega) hm hn
    clear h1
    go_enter Try.func5, Try.ntmps5
    go_wp2_with (go_at_call 13; refine (H1.out _).mono ?_; rintro e w' ⟨rfl, rfl⟩)
    go_ret
    exact ⟨.inl rfl, HE.out _⟩

end Go.Proofs.Ytoknlaaghjlnaab
