/- What the laws' helpers over policies answer: szPolicy, toPolicy, eqPolicy. -/
import Derived.Test.YtojaohdmfahpmaaDoorToRuleS
import Derived.Test.YtojaohdmfahpmaaDoorEqRuleS
import Derived.Test.YtojaohdmfahpmaaDoorSzRuleS
namespace Go.Proofs.YtojaohdmfahpmaaDoor
open Go.RowKit
set_option linter.unusedVariables false

theorem szPolicy_rep {p : PN} {v : Value} {w : World} {l : Nat} (hm : l ≤ 1048576) (hf : FinR p.rules) (h : RepPol p v w) :
    Calls Tryd.prog 4 #[v, .int .i64 (l : Int)] w fun e w' => ((e = .returned (.int .i64 (-1))) ∨ ∃ m : Nat, e = .returned (.int .i64 (m : Int)) ∧ m ≤ l ∧ SmallR p.rules) ∧ Ext w w' := by
  obtain ⟨a, cap, rfl, hr⟩ := h
  have HT : Hid (∀ W, Ext w W → Calls Tryd.prog 9 #[.slice a p.rules.length cap, .int .i64 (l : Int)] W fun e w' => ((e = .returned (.int .i64 (-1))) ∨ ∃ m : Nat, e = .returned (.int .i64 (m : Int)) ∧ m ≤ l ∧ SmallR p.rules) ∧ Ext W w') := fun W hE => szRuleS_any a cap _ l p.rules W rfl hm hf (hr.step hE)
  clear hr hf
  obtain ⟨ar, ac, da, rs⟩ := p
  simp only at HT ⊢
  generalize rs.length = n at *
  go_enter Tryd.func4, Tryd.ntmps4
  go_wp2_with fail
  refine (HT.out _ (Ext.one _ _)).mono ?_
  rintro e w1 ⟨hor, x1⟩
  have X1 : Hid (Ext w w1) := (Ext.one _ _).trans x1
  clear x1 HT
  rcases hor with rfl | ⟨m, rfl, hml, hs⟩
  · go_wp2
    go_ret
    exact ⟨.inl rfl, X1.out⟩
  · have HS : Hid (SmallR rs) := hs
    clear hs
    go_wp2
    go_ret
    exact ⟨.inr ⟨m, rfl, hml, HS.out⟩, X1.out⟩

set_option maxHeartbeats 1000000 in
theorem eqPolicy_rep {p : PN} {v u : Value} {w : World} (hs : SmallR p.rules) (h : RepPol p v w) (k : RepPol p u w) : Calls Tryd.prog 8 #[v, u] w fun e w' => e = .returned (.bool true) ∧ Ext w w' := by
  obtain ⟨a, cap, rfl, hr⟩ := h
  obtain ⟨b, dap, rfl, kr⟩ := k
  have HT : Hid (∀ W, Ext w W → Calls Tryd.prog 19 #[.slice a p.rules.length cap, .slice b p.rules.length dap] W fun e w' => e = .returned (.bool true) ∧ Ext W w') := fun W hE => eqRuleS_any a b cap dap _ p.rules W rfl hs (hr.step hE) (kr.step hE)
  clear hr kr hs
  obtain ⟨ar, ac, da, rs⟩ := p
  simp only at HT ⊢
  generalize rs.length = n at *
  go_enter Tryd.func8, Tryd.ntmps8
  go_wp2_with fail
  refine (HT.out _ ((Ext.one _ _).alloc _)).mono ?_
  rintro e w1 ⟨rfl, x1⟩
  have X1 : Hid (Ext w w1) := ((Ext.one _ _).alloc _).trans x1
  clear x1 HT
  go_wp2
  go_ret
  exact ⟨rfl, X1.out⟩

/-- A policy as a value, its rules so in memory. -/
def RepPolC (p : PN) (v : Value) (w : World) : Prop := ∃ a cap, v = .agg #[.int .i64 p.arch, .int .i64 p.act, .int .i64 p.data, .slice a p.rules.length cap] ∧ RulesC w a p.rules

theorem RepPolC.step {p : PN} {v : Value} {w w' : World} (h : RepPolC p v w) (hE : Ext w w') : RepPolC p v w' := by
  obtain ⟨a, cap, e, hr⟩ := h
  exact ⟨a, cap, e, hr.step hE⟩

theorem RepPolC.pol {p : PN} {v : Value} {w : World} (h : RepPolC p v w) : RepPol p v w := by
  obtain ⟨a, cap, e, hr⟩ := h
  exact ⟨a, cap, e, hr.1⟩

set_option maxRecDepth 100000 in
set_option maxHeartbeats 2000000 in
theorem toPolicy_repC {p : PN} {v : Value} {w : World} (hs : SmallR p.rules) (h : RepPol p v w) : Calls Tryd.prog 6 #[v] w fun e w' => ∃ u, e = .returned u ∧ RepPolC p u w' ∧ Ext w w' := by
  obtain ⟨a, cap, rfl, hr⟩ := h
  have HT : Hid (∀ W, Ext w W → Calls Tryd.prog 14 #[.slice a p.rules.length cap] W fun e w' => ∃ g, e = .returned (.slice (some ⟨g, 0, none⟩) p.rules.length p.rules.length) ∧ W.heap.size ≤ g ∧ RulesG W.heap.size g w' p.rules ∧ Ext W w') := fun W hE => toRuleS_any a cap _ p.rules W rfl hs (hr.step hE)
  clear hr hs
  obtain ⟨ar, ac, da, rs⟩ := p
  simp only at HT ⊢
  obtain ⟨n, hn⟩ : ∃ n, n = rs.length := ⟨_, rfl⟩
  have HN : Hid (n = rs.length) := hn
  rw [← hn] at HT ⊢
  clear hn
  go_enter Tryd.func6, Tryd.ntmps6
  go_wp2_with fail
  refine (HT.out _ (((Ext.one _ _).alloc _).alloc _)).mono ?_
  rintro e w1 ⟨g, rfl, hg, hG, x1⟩
  have hgw : w.heap.size + 3 ≤ g := by simp at hg; omega
  have X1 : Hid (Ext w w1) := (((Ext.one _ _).alloc _).alloc _).trans x1
  have HGG : Hid (RulesG (w.heap.size + 3) g w1 rs) := hG.mono (by simp)
  have r1 : Kn w1 (w.heap.size + 1) [.int .i64 0, .int .i64 0, .int .i64 0, .slice none 0 0] 30 := ((Kn.new' _ _ _ _ (by simp)).alloc _).ext x1
  have o1 : Kn w1 (w.heap.size + 1 + 1) [.int .i64 ar, .int .i64 ac, .int .i64 da, .slice none 0 0] 30 := (Kn.new' _ _ _ _ (by simp)).ext x1
  obtain ⟨p1, p2, p3, p4, p5, p6, p7, p8⟩ := (⟨o1.cell 0 _ rfl, o1.cell 1 _ rfl, o1.cell 2 _ rfl, o1.cell 3 _ rfl, r1.cell 0 _ rfl, r1.cell 1 _ rfl, r1.cell 2 _ rfl, r1.cell 3 _ rfl⟩ : _ ∧ _ ∧ _ ∧ _ ∧ _ ∧ _ ∧ _ ∧ _)
  have f1 := o1.free
  have f2 := r1.free
  have hs1 := o1.lt
  clear x1 hG HT o1 r1 hg
  go_wp2
  refine bodyPost_ret (v := .agg #[.int .i64 ar, .int .i64 ac, .int .i64 da, .slice (some ⟨g, 0, none⟩) n n]) (by simp [results, Tryd.results6, go_sem, *]) rfl ?_
  refine ⟨_, rfl, ⟨some ⟨g, 0, none⟩, n, by rw [HN.out], ?_⟩, ?_⟩
  · exact (((((HGG.out.set _ (by omega) _).set _ (by omega) _).set _ (by omega) _).set _ (by omega) _).set _ (by omega) _).rulesC
  · have hw := X1.out
    go_grown

theorem toPolicy_rep {p : PN} {v : Value} {w : World} (hs : SmallR p.rules) (h : RepPol p v w) : Calls Tryd.prog 6 #[v] w fun e w' => ∃ u, e = .returned u ∧ RepPol p u w' ∧ Ext w w' :=
  (toPolicy_repC hs h).mono fun _ _ ⟨u, e, hr, x⟩ => ⟨u, e, hr.pol, x⟩

end Go.Proofs.YtojaohdmfahpmaaDoor
