/- What the laws' sameBools answers. -/
import Derived.Test.YtaigoggoibdgbaaBoolRow
namespace Go.Proofs.Ytaigoggoibdgbaa
open Go.RowKit
set_option linter.unusedVariables false

set_option maxRecDepth 100000 in
set_option maxHeartbeats 2000000 in
theorem sameBools_some (g1 g2 c1 c2 n : Nat) (bs : List Bool) (w : World) (hn : n = bs.length) (hl : bs.length ≤ 1048576) (h1 : Bools w g1 bs) (h2 : Bools w g2 bs) :
    Calls Try.prog 19 #[.slice (some ⟨g1, 0, none⟩) n c1, .slice (some ⟨g2, 0, none⟩) n c2] w fun e w' => e = .returned (.bool true) ∧ Ext w w' := by
  have HA : Hid (n = bs.length ∧ Bools w g1 bs ∧ Bools w g2 bs) := ⟨hn, h1, h2⟩
  have hl' : n ≤ 1048576 := by omega
  clear hn hl h1 h2
  go_enter Try.func19, Try.ntmps19
  go_wp2_with fail
  go_loopw [5] (fun i wr => ∃ k : Nat, i = .int .i64 k ∧ k ≤ n ∧ Hid (Ext w wr)) (fun i _ => n - (intOf i).toNat)
  case atStart => exact ⟨0, rfl, by omega, Ext.refl _⟩
  case round =>
    obtain ⟨k, rfl, hk, HR⟩ := hrel
    by_cases hlt : k < n
    · have bk : (k : Int) < (n : Int) := by omega
      obtain ⟨z, hz⟩ : ∃ z, z = bs.getD k false := ⟨_, rfl⟩
      have p1 := ((HA.out.2.1.ext HR.out).2 k (by have := HA.out.1; omega)).1
      have p2 := ((HA.out.2.2.ext HR.out).2 k (by have := HA.out.1; omega)).1
      rw [← hz] at p1 p2
      clear hz
      go_wp2
      go_quiet (fail)
      go_wp2
      go_roundw
      case rel => exact ⟨k + 1, by go_num, by omega, Ext.drewN HR.out _⟩
      case measure => simp [intOf]; omega
    · have bk : ¬ ((k : Int) < (n : Int)) := by omega
      go_wp2
      go_ret
      exact ⟨rfl, HR.out⟩

theorem sameBools_none (a1 a2 : Option Addr) (c1 c2 : Nat) (w : World) : Calls Try.prog 19 #[.slice a1 0 c1, .slice a2 0 c2] w fun e w' => e = .returned (.bool true) ∧ Ext w w' := by
  go_enter Try.func19, Try.ntmps19
  go_wp2_with fail
  go_loopw [5] (fun i wr => i = .int .i64 0 ∧ w = wr) (fun _ _ => 0)
  case atStart => exact ⟨rfl, rfl⟩
  case round =>
    obtain ⟨rfl, rfl⟩ := hrel
    go_wp2
    go_ret
    exact ⟨rfl, Ext.refl _⟩

theorem sameBools_rep (B1 B2 : Nat) (bs : List Bool) (v1 v2 : Value) (w : World) (hl : bs.length ≤ 1048576) (h1 : RepB B1 bs v1 w) (h2 : RepB B2 bs v2 w) :
    Calls Try.prog 19 #[v1, v2] w fun e w' => e = .returned (.bool true) ∧ Ext w w' := by
  obtain ⟨a1, c1, rfl, g1⟩ := h1
  obtain ⟨a2, c2, rfl, g2⟩ := h2
  by_cases h0 : bs.length = 0
  · rw [h0]; exact sameBools_none a1 a2 c1 c2 w
  · obtain ⟨k1, rfl, _, b1⟩ := g1 (by omega)
    obtain ⟨k2, rfl, _, b2⟩ := g2 (by omega)
    exact sameBools_some k1 k2 c1 c2 bs.length bs w rfl hl b1 b2

end Go.Proofs.Ytaigoggoibdgbaa
