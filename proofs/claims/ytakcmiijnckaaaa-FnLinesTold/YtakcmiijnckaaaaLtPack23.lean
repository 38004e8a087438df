/- What the laws' sameInts answers of two like rows; the draws of chapter 11. -/
import Derived.Test.YtakcmiijnckaaaaLtPack21
import Derived.Test.YtakcmiijnckaaaaLtPack22
namespace Go.Proofs.Ytakcmiijnckaaaa
open Go.RowKit
set_option linter.unusedVariables false

set_option maxHeartbeats 800000 in
theorem sameInts_same (g1 g2 : Nat) (v1 v2 : Value) (zs : List Int) (w : World) (hl : zs.length ≤ 1048576) (h1 : OwnI w g1 v1 zs) (h2 : OwnI w g2 v2 zs) :
    Calls Try.prog 22 #[v1, v2] w fun e w' => e = .returned (.bool true) ∧ ∃ n, w' = w.drewN n := by
  obtain ⟨c1, rfl⟩ := h1.1
  obtain ⟨c2, rfl⟩ := h2.1
  have H1 : Hid (∀ j, j < zs.length → w.cell? ⟨g1, j, none⟩ = some (.int .i64 (zs.getD j 0)) ∧ w.frozen? ⟨g1, j, none⟩ = false) := h1.2.2
  have H2 : Hid (∀ j, j < zs.length → w.cell? ⟨g2, j, none⟩ = some (.int .i64 (zs.getD j 0)) ∧ w.frozen? ⟨g2, j, none⟩ = false) := h2.2.2
  clear h1 h2
  obtain ⟨n, hn⟩ : ∃ n, n = zs.length := ⟨_, rfl⟩
  rw [← hn] at hl H1 H2 ⊢
  go_enter Try.func22, Try.ntmps22
  go_wp2
  go_loopw [5] (fun i wr => ∃ (k m : Nat), i = .int .i64 k ∧ k ≤ n ∧ wr = w.drewN m) (fun i _ => n - (intOf i).toNat)
  case atStart => exact ⟨0, 0, rfl, by omega, rfl⟩
  case round =>
    obtain ⟨k, m, rfl, hk, rfl⟩ := hrel
    by_cases hlt : k < n
    · have bk : (k : Int) < (n : Int) := by omega
      obtain ⟨z, hz⟩ : ∃ z, z = zs.getD k 0 := ⟨_, rfl⟩
      have d1 : (w.drewN m).cell? ⟨g1, k, none⟩ = some (.int .i64 z) := by rw [hz]; exact (H1.out k hlt).1
      have d2 : (w.drewN m).cell? ⟨g2, k, none⟩ = some (.int .i64 z) := by rw [hz]; exact (H2.out k hlt).1
      clear hz
      obtain ⟨w1, hw1⟩ : ∃ w1, w1 = w.drewN m := ⟨_, rfl⟩
      rw [← hw1] at d1 d2 ⊢
      have HW : Hid (w1 = w.drewN m) := hw1
      clear hw1
      go_wp2_with fail
      go_quiet (fail)
      obtain ⟨w2, hw2⟩ : ∃ w2, w2 = w1.drewN nq := ⟨_, rfl⟩
      rw [← hw2]
      have HW2 : Hid (∃ m, w2 = w.drewN m) := by rw [hw2, HW.out]; exact ⟨m + nq, by simp [World.drewN, Nat.add_assoc]⟩
      clear hw2 d1 d2 HW
      go_wp2
      go_roundw
      case rel => obtain ⟨m2, hm2⟩ := HW2.out; exact ⟨k + 1, m2, by go_num, by omega, hm2⟩
      case measure => simp [intOf]; omega
    · have bk : ¬ ((k : Int) < (n : Int)) := by omega
      go_wp2
      go_ret
      exact ⟨rfl, m, rfl⟩

theorem sameInts_nil (a1 a2 : Option Addr) (c1 c2 : Nat) (w : World) : Calls Try.prog 22 #[.slice a1 0 c1, .slice a2 0 c2] w fun e w' => e = .returned (.bool true) ∧ w = w' := by
  go_enter Try.func22, Try.ntmps22
  go_wp2_with fail
  go_loopw [5] (fun i wr => i = .int .i64 0 ∧ w = wr) (fun _ _ => 0)
  case atStart => exact ⟨rfl, rfl⟩
  case round =>
    obtain ⟨rfl, rfl⟩ := hrel
    go_wp2
    go_ret
    exact ⟨rfl, rfl⟩

theorem sameIntsB (b1 b2 : Nat) (v1 v2 : Value) (zs : List Int) (w : World) (hl : zs.length ≤ 1048576) (h1 : IntsB w b1 v1 zs) (h2 : IntsB w b2 v2 zs) : Calls Try.prog 22 #[v1, v2] w fun e w' => e = .returned (.bool true) ∧ Ext w w' := by
  by_cases h0 : zs = []
  · subst h0
    have hs : ∀ {b v}, IntsB w b v [] → ∃ a c, v = .slice a 0 c := fun h => by
      rcases h with ⟨_, h⟩ | h
      · exact h
      · obtain ⟨c, hc⟩ := h.1
        exact ⟨_, c, hc⟩
    obtain ⟨a1, c1, rfl⟩ := hs h1
    obtain ⟨a2, c2, rfl⟩ := hs h2
    refine (sameInts_nil a1 a2 c1 c2 w).mono ?_
    rintro e w' ⟨rfl, rfl⟩
    exact ⟨rfl, Ext.refl _⟩
  · have p1 : OwnI w b1 v1 zs := h1.resolve_left fun h => h0 h.1
    have p2 : OwnI w b2 v2 zs := h2.resolve_left fun h => h0 h.1
    refine (sameInts_same b1 b2 v1 v2 zs w hl p1 p2).mono ?_
    rintro e w' ⟨rfl, n, rfl⟩
    exact ⟨rfl, (Ext.refl w).drewN n⟩

theorem came_new {w w1 : World} {a : Option Addr} {len : Nat} (h : Came w a len) (hE : Ext w w1) : Came w1 a len := h.below hE

theorem drawLinesOk_any (a : Option Addr) (len cap : Nat) (w : World) (hC : Came w a len) :
    Calls Try.prog 17 #[.slice a len cap] w fun e w' => ∃ g n c, e = .returned (.slice (some ⟨g, 0, none⟩) n c) ∧ n ≤ 106 ∧ Rows7 w' g n ∧ Ext w w' := by
  have HC : Hid (Came w a len) := hC
  clear hC
  go_enter Try.func17, Try.ntmps17
  go_wp2_with fail
  refine (new_any a len cap _ HC.out).mono ?_
  rintro e w1 ⟨rfl, hc1, hb1⟩
  have HB1 : Hid (Below w.heap.size w w1) := hb1
  have HC1 : Hid (Cur w1 w.heap.size a len cap) := hc1
  clear hb1 hc1
  go_wp2_with fail
  refine (anyLines_any w.heap.size a len cap _ HC1.out).mono ?_
  rintro e w2 ⟨g, n, c, rfl, hn, hr, hg, hc2, hg2⟩
  have HR : Hid (n ≤ 106 ∧ Rows7 w2 g n ∧ Ext w w2) := ⟨hn, hr, below_new HB1.out hg2⟩
  clear hn hr hg hc2 hg2
  go_wp2
  go_ret
  exact ⟨g, n, c, rfl, HR.out⟩

theorem drawSizes_any (a : Option Addr) (len cap : Nat) (w : World) (hC : Came w a len) :
    Calls Try.prog 18 #[.slice a len cap] w fun e w' => ∃ g n c, e = .returned (.slice (some ⟨g, 0, none⟩) n c) ∧ n ≤ 106 ∧ Rows7 w' g n ∧ Ext w w' := by
  have HC : Hid (Came w a len) := hC
  clear hC
  go_enter Try.func18, Try.ntmps18
  go_wp2_with fail
  refine (new_any a len cap _ HC.out).mono ?_
  rintro e w1 ⟨rfl, hc1, hb1⟩
  have HB1 : Hid (Below w.heap.size w w1) := hb1
  have HC1 : Hid (Cur w1 w.heap.size a len cap) := hc1
  clear hb1 hc1
  go_wp2_with fail
  refine (anyLines_any w.heap.size a len cap _ HC1.out).mono ?_
  rintro e w2 ⟨g, n, c, rfl, hn, hr, hg, hc2, hg2⟩
  have HR : Hid (n ≤ 106 ∧ Rows7 w2 g n ∧ Ext w w2) := ⟨hn, hr, below_new HB1.out hg2⟩
  clear hn hr hg hc2 hg2
  go_wp2
  go_ret
  exact ⟨g, n, c, rfl, HR.out⟩

theorem drawLayout_any (a : Option Addr) (len cap : Nat) (w : World) (hC : Came w a len) :
    Calls Try.prog 19 #[.slice a len cap] w fun e w' => ∃ g n c, e = .returned (.slice (some ⟨g, 0, none⟩) n c) ∧ n ≤ 106 ∧ Rows7 w' g n ∧ Ext w w' := by
  have HC : Hid (Came w a len) := hC
  clear hC
  go_enter Try.func19, Try.ntmps19
  go_wp2_with fail
  refine (new_any a len cap _ HC.out).mono ?_
  rintro e w1 ⟨rfl, hc1, hb1⟩
  have HB1 : Hid (Below w.heap.size w w1) := hb1
  have HC1 : Hid (Cur w1 w.heap.size a len cap) := hc1
  clear hb1 hc1
  go_wp2_with fail
  refine (anyLines_any w.heap.size a len cap _ HC1.out).mono ?_
  rintro e w2 ⟨g, n, c, rfl, hn, hr, hg, hc2, hg2⟩
  have HR : Hid (n ≤ 106 ∧ Rows7 w2 g n ∧ Ext w w2) := ⟨hn, hr, below_new HB1.out hg2⟩
  clear hn hr hg hc2 hg2
  go_wp2
  go_ret
  exact ⟨g, n, c, rfl, HR.out⟩

end Go.Proofs.Ytakcmiijnckaaaa
