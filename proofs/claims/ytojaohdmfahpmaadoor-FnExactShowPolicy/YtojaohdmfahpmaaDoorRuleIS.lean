/- What impl's ruleOk and RuleHolds and spec's l09Rule and RuleHolds answer. -/
import Derived.Test.YtojaohdmfahpmaaDoorNumsIS
import Derived.Test.YtojaohdmfahpmaaDoorCondIS
namespace Go.Proofs.YtojaohdmfahpmaaDoor
open Go.RowKit
set_option linter.unusedVariables false

theorem ruleB_if (zs : List Int) (cs : List CN) (a d : Int) : ruleB ⟨zs, cs, a, d⟩ = (outB a d && numsB zs && condsB cs) := rfl

set_option maxRecDepth 100000 in
set_option maxHeartbeats 1600000 in
theorem ruleOk_any (zs : List Int) (cs : List CN) (act data : Int) (a1 a2 : Option Addr) (c1 c2 : Nat) (w : World) (l1 : zs.length ≤ 1048576) (l2 : cs.length ≤ 1048576) (h1 : Nums w a1 zs) (h2 : Conds w a2 cs) :
    Calls Tryd.prog 30 #[.agg #[.slice a1 zs.length c1, .slice a2 cs.length c2, .int .i64 act, .int .i64 data]] w fun e w' => e = .returned (.bool (ruleB ⟨zs, cs, act, data⟩)) ∧ Ext w w' := by
  have HB : Hid (ruleB ⟨zs, cs, act, data⟩ = (outB act data && numsB zs && condsB cs)) := rfl
  have H1 : Hid (∀ W, Ext w W → Calls Tryd.prog 44 #[.slice a1 zs.length c1] W fun e w' => e = .returned (.bool (numsB zs)) ∧ W = w') := fun W hE => numsOk_any a1 c1 zs W l1 (h1.step hE)
  have H2 : Hid (∀ W, Ext w W → Calls Tryd.prog 45 #[.slice a2 cs.length c2] W fun e w' => e = .returned (.bool (condsB cs)) ∧ Ext W w') := fun W hE => condsOk_any a2 c2 cs W l2 (h2.step hE)
  clear h1 h2 l1 l2
  generalize zs.length = n1 at *
  generalize cs.length = n2 at *
  generalize numsB zs = z1 at *
  generalize condsB cs = z2 at *
  obtain ⟨z0, hz0⟩ : ∃ z0, z0 = outB act data := ⟨_, rfl⟩
  have H0 : Hid (∀ W, Calls Tryd.prog 29 #[.int .i64 act, .int .i64 data] W fun e w' => e = .returned (.bool z0) ∧ W = w') := fun W => by rw [hz0]; exact outcomeOk_any act data W
  rw [← hz0] at HB
  clear hz0
  cases z0
  · go_enter Tryd.func30, Tryd.ntmps30
    go_wp2_with fail
    refine (H0.out _).mono ?_
    rintro e w1 ⟨rfl, rfl⟩
    go_wp2
    go_ret
    exact ⟨by rw [HB.out]; rfl, Ext.one _ _⟩
  · cases z1
    · go_enter Tryd.func30, Tryd.ntmps30
      go_wp2_with fail
      refine (H0.out _).mono ?_
      rintro e w1 ⟨rfl, rfl⟩
      go_wp2_with fail
      refine (H1.out _ (Ext.one _ _)).mono ?_
      rintro e w1 ⟨rfl, rfl⟩
      go_wp2
      go_ret
      exact ⟨by rw [HB.out]; rfl, Ext.one _ _⟩
    · go_enter Tryd.func30, Tryd.ntmps30
      go_wp2_with fail
      refine (H0.out _).mono ?_
      rintro e w1 ⟨rfl, rfl⟩
      go_wp2_with fail
      refine (H1.out _ (Ext.one _ _)).mono ?_
      rintro e w1 ⟨rfl, rfl⟩
      go_wp2_with fail
      refine (H2.out _ (Ext.one _ _)).mono ?_
      rintro e w1 ⟨rfl, x1⟩
      have X1 : Hid (Ext w w1) := (Ext.one _ _).trans x1
      clear x1
      go_wp2
      go_ret
      exact ⟨by rw [HB.out]; cases z2 <;> rfl, X1.out⟩

end Go.Proofs.YtojaohdmfahpmaaDoor
