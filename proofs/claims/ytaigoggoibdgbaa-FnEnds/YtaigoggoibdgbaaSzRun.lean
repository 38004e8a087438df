/- The laws' helpers of two arguments: what is left of 1<<20; programs as values in memory; Run of values. -/
import Derived.Test.YtaigoggoibdgbaaRunI
import Derived.Test.YtaigoggoibdgbaaInsSl
import Derived.Test.YtaigoggoibdgbaaCallRep
namespace Go.Proofs.Ytaigoggoibdgbaa
open Go.RowKit
set_option linter.unusedVariables false

theorem szWideS_left (a : Option Addr) (cap n l : Nat) (w : World) (hl : n ≤ l) (hm : l ≤ 1048576) :
    Calls Try.prog 50 #[.slice a n cap, .int .i64 (l : Int)] w fun e w' => e = .returned (.int .i64 ((l : Int) - (n : Int))) ∧ w = w' := by
  go_enter Try.func50, Try.ntmps50
  go_wp2
  go_ret
  exact ⟨rfl, rfl⟩

theorem szWideS_over (a : Option Addr) (cap n l : Nat) (w : World) (hl : l < n) (hm : l ≤ 1048576) (hn : n ≤ 9223372036854775807) :
    Calls Try.prog 50 #[.slice a n cap, .int .i64 (l : Int)] w fun e w' => e = .returned (.int .i64 (-1)) ∧ w = w' := by
  go_enter Try.func50, Try.ntmps50
  go_wp2
  go_ret
  exact ⟨rfl, rfl⟩

theorem szCall_left (arch num : Int) (a : Option Addr) (cap n l : Nat) (w : World) (hl : n ≤ l) (hm : l ≤ 1048576) :
    Calls Try.prog 24 #[.agg #[.int .i64 arch, .int .i64 num, .slice a n cap], .int .i64 (l : Int)] w fun e w' => e = .returned (.int .i64 ((l : Int) - (n : Int))) ∧ Ext w w' := by
  go_enter Try.func24, Try.ntmps24
  go_wp2_with (go_at_call 50; refine (szWideS_left _ _ _ _ _ hl hm).mono ?_; rintro e w' ⟨rfl, rfl⟩)
  go_ret
  exact ⟨rfl, Ext.one _ _⟩

theorem szCall_over (arch num : Int) (a : Option Addr) (cap n l : Nat) (w : World) (hl : l < n) (hm : l ≤ 1048576) (hn : n ≤ 9223372036854775807) :
    Calls Try.prog 24 #[.agg #[.int .i64 arch, .int .i64 num, .slice a n cap], .int .i64 (l : Int)] w fun e w' => e = .returned (.int .i64 (-1)) ∧ Ext w w' := by
  go_enter Try.func24, Try.ntmps24
  go_wp2_with (go_at_call 50; refine (szWideS_over _ _ _ _ _ hl hm hn).mono ?_; rintro e w' ⟨rfl, rfl⟩)
  go_ret
  exact ⟨rfl, Ext.one _ _⟩

/-- The value v is the program ws. -/
def RepW (ws : List Wd) (v : Value) (w : World) : Prop := ∃ a cap, v = .slice a ws.length cap ∧ ws.length ≤ cap ∧ Words w a ws

theorem RepW.step {ws : List Wd} {v : Value} {w w' : World} (h : RepW ws v w) (hE : Ext w w') : RepW ws v w' := by
  obtain ⟨a, cap, rfl, hc, hw⟩ := h
  exact ⟨a, cap, rfl, hc, hw.ext hE⟩

theorem toInsS_rep (a : Option Addr) (cap n : Nat) (ws : List Wd) (w : World) (hn : n = ws.length) (hl : ws.length ≤ 1048576) (h : Words w a ws) :
    Calls Try.prog 22 #[.slice a n cap] w fun e w' => ∃ u, e = .returned u ∧ RepW ws u w' ∧ Ext w w' := by
  rw [hn]
  refine (toInsS_any a cap ws w hl h).mono ?_
  rintro e w' ⟨g, rfl, hg, hw', hb⟩
  exact ⟨_, rfl, ⟨_, _, rfl, Nat.le_refl _, hw'⟩, hb⟩

theorem eqInsS_rep (ws : List Wd) (v1 v2 : Value) (w : World) (hl : ws.length ≤ 1048576) (h1 : RepW ws v1 w) (h2 : RepW ws v2 w) :
    Calls Try.prog 23 #[v1, v2] w fun e w' => e = .returned (.bool true) ∧ Ext w w' := by
  obtain ⟨a1, c1, rfl, _, hw1⟩ := h1
  obtain ⟨a2, c2, rfl, _, hw2⟩ := h2
  exact eqInsS_same a1 a2 c1 c2 ws w hl hw1 hw2

theorem sRun_rep (ws : List Wd) (arch num : Int) (cs : List (Int × Int)) (res : Int) (mm : Nat) (v1 v2 : Value) (w : World) (hl : ws.length ≤ 1048576) (hcl : cs.length ≤ 1048576) (hres : RunR ws arch num cs res mm) (h1 : RepW ws v1 w) (h2 : RepCall arch num cs v2 w) :
    Calls Try.prog 16 #[v1, v2] w fun e w' => e = .returned (.tuple #[.int .i64 res, .int .i64 (mm : Int)]) ∧ Ext w w' := by
  obtain ⟨a1, c1, rfl, _, hw1⟩ := h1
  exact sRun_any a1 c1 ws arch num cs v2 res mm w hl hw1 hcl h2 hres

theorem iRun_rep (ws : List Wd) (arch num : Int) (cs : List (Int × Int)) (res : Int) (mm : Nat) (v1 v2 : Value) (w : World) (hl : ws.length ≤ 1048576) (hcl : cs.length ≤ 1048576) (hres : RunR ws arch num cs res mm) (h1 : RepW ws v1 w) (h2 : RepCall arch num cs v2 w) :
    Calls Try.prog 13 #[v1, v2] w fun e w' => e = .returned (.tuple #[.int .i64 res, .int .i64 (mm : Int)]) ∧ Ext w w' := by
  obtain ⟨a1, c1, rfl, hc1, hw1⟩ := h1
  exact iRun_any a1 c1 ws arch num cs v2 res mm w hl hc1 hw1 hcl h2 hres

end Go.Proofs.Ytaigoggoibdgbaa
