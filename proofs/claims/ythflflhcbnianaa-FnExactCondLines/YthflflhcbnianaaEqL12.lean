/- What the laws' helpers over lines answer: eqLineS at two rows of the same lines, markLineS and heldLineS at a row of the call's own. (Written by mkeq12.py.) -/
import Derived.Test.YthflflhcbnianaaHeld12
import Derived.Deep.RegionHeld3
namespace Go.Proofs.Ythflflhcbnianaa
open Go.RowKit
set_option linter.unusedVariables false

set_option maxRecDepth 100000 in
set_option maxHeartbeats 4000000 in
theorem eqLines_any (a1 a2 : Option Addr) (c1 c2 : Nat) (ls : List Ln) (w : World) (hl : ls.length ≤ 100000000) (h1 : Lns w a1 ls) (h2 : Lns w a2 ls) :
    Calls Try.prog 7 #[.slice a1 ls.length c1, .slice a2 ls.length c2] w fun e w' => e = .returned (.bool true) ∧ Ext w w' := by
  obtain ⟨n, hn⟩ : ∃ n, n = ls.length := ⟨_, rfl⟩
  have HA : Hid (Lns w a1 ls ∧ Lns w a2 ls ∧ n = ls.length) := ⟨h1, h2, hn⟩
  rw [← hn]
  have hl' : n ≤ 100000000 := by omega
  clear h1 h2 hn hl
  go_enter Try.func7, Try.ntmps7
  go_wp2_with fail
  go_loopw [5] (fun i wr => ∃ k : Nat, i = .int .i64 k ∧ k ≤ n ∧ Below w.heap.size w wr) (fun i _ => n - (intOf i).toNat)
  case atStart => exact ⟨0, rfl, by omega, Below.refl _ _⟩
  case round =>
    obtain ⟨k, rfl, hk, hb⟩ := hrel
    by_cases hlt : k < n
    · have bk : (k : Int) < (n : Int) := by omega
      obtain ⟨⟨lab, ⟨o, kk, y, nn⟩, yes, no⟩, hp⟩ : ∃ p, p = ls.getD k zeroL := ⟨_, rfl⟩
      obtain ⟨b1, o1, rfl, p1⟩ := (HA.out.1.below hb (Nat.le_refl _)).hept (k := k) (by have := HA.out.2.2; omega) hp
      obtain ⟨b2, o2, rfl, p2⟩ := (HA.out.2.1.below hb (Nat.le_refl _)).hept (k := k) (by have := HA.out.2.2; omega) hp
      clear hp
      have HB : Hid (Below w.heap.size w wr) := hb
      clear hb
      go_wp2_with fail
      refine' wp_region_loose (.inl _ :: .inl _ :: .inl _ :: .inl _ :: .inl _ :: .inl _ :: .inl _ :: .inl _ :: .inl _ :: .inl _ :: []) (fun w' => Hept w' b1 (o1 + k * 7) ⟨lab, (o, kk, y, nn), yes, no⟩ ∧ Hept w' b2 (o2 + k * 7) ⟨lab, (o, kk, y, nn), yes, no⟩) (by kernel_rfl) (by kernel_rfl) (⟨p1, p2⟩) (fun _ _ h hE => ⟨h.1.below hE h.1.lt, h.2.below hE h.2.lt⟩) ?hAa ?hla ?hMa
      case' hMa => skip
      apply wpLoose_val rfl rfl
      case hs =>
        intro w1 hC hd Q1 hQ1
        obtain ⟨hE, hS⟩ := hC
        dsimp only [bare]
        obtain ⟨⟨q1, q2, q3, q4, q5, q6, q7⟩, ⟨t1, t2, t3, t4, t5, t6, t7⟩⟩ := hS; simp only at q1 q2 q3 q4 q5 q6 q7 t1 t2 t3 t4 t5 t6 t7
        clear hd hE
        try clear hS
        go_wp2
        exact Ext.refl _
      case ha => rfl
      apply wpLoose_val rfl rfl
      case hs =>
        intro w1 hC hd Q1 hQ1
        obtain ⟨hE, hS⟩ := hC
        dsimp only [bare]
        obtain ⟨⟨q1, q2, q3, q4, q5, q6, q7⟩, ⟨t1, t2, t3, t4, t5, t6, t7⟩⟩ := hS; simp only at q1 q2 q3 q4 q5 q6 q7 t1 t2 t3 t4 t5 t6 t7
        clear hd hE
        try clear hS
        go_wp2
        exact Ext.refl _
      case ha => rfl
      apply wpLoose_val rfl rfl
      case hs =>
        intro w1 hC hd Q1 hQ1
        obtain ⟨hE, hS⟩ := hC
        dsimp only [bare]
        obtain ⟨⟨q1, q2, q3, q4, q5, q6, q7⟩, ⟨t1, t2, t3, t4, t5, t6, t7⟩⟩ := hS; simp only at q1 q2 q3 q4 q5 q6 q7 t1 t2 t3 t4 t5 t6 t7
        clear hd hE
        try clear hS
        go_wp2
        exact Ext.refl _
      case ha => rfl
      apply wpLoose_val rfl rfl
      case hs =>
        intro w1 hC hd Q1 hQ1
        obtain ⟨hE, hS⟩ := hC
        dsimp only [bare]
        obtain ⟨⟨q1, q2, q3, q4, q5, q6, q7⟩, ⟨t1, t2, t3, t4, t5, t6, t7⟩⟩ := hS; simp only at q1 q2 q3 q4 q5 q6 q7 t1 t2 t3 t4 t5 t6 t7
        clear hd hE
        try clear hS
        go_wp2
        exact Ext.refl _
      case ha => rfl
      apply wpLoose_val rfl rfl
      case hs =>
        intro w1 hC hd Q1 hQ1
        obtain ⟨hE, hS⟩ := hC
        dsimp only [bare]
        obtain ⟨⟨q1, q2, q3, q4, q5, q6, q7⟩, ⟨t1, t2, t3, t4, t5, t6, t7⟩⟩ := hS; simp only at q1 q2 q3 q4 q5 q6 q7 t1 t2 t3 t4 t5 t6 t7
        clear hd hE
        try clear hS
        go_wp2
        exact Ext.refl _
      case ha => rfl
      apply wpLoose_val rfl rfl
      case hs =>
        intro w1 hC hd Q1 hQ1
        obtain ⟨hE, hS⟩ := hC
        dsimp only [bare]
        obtain ⟨⟨q1, q2, q3, q4, q5, q6, q7⟩, ⟨t1, t2, t3, t4, t5, t6, t7⟩⟩ := hS; simp only at q1 q2 q3 q4 q5 q6 q7 t1 t2 t3 t4 t5 t6 t7
        clear hd hE
        try clear hS
        go_wp2
        exact Ext.refl _
      case ha => rfl
      apply wpLoose_val rfl rfl
      case hs =>
        intro w1 hC hd Q1 hQ1
        obtain ⟨hE, hS⟩ := hC
        dsimp only [bare]
        obtain ⟨⟨q1, q2, q3, q4, q5, q6, q7⟩, ⟨t1, t2, t3, t4, t5, t6, t7⟩⟩ := hS; simp only at q1 q2 q3 q4 q5 q6 q7 t1 t2 t3 t4 t5 t6 t7
        clear hd hE
        try clear hS
        go_wp2
        exact Ext.refl _
      case ha => rfl
      apply wpLoose_val rfl rfl
      case hs =>
        intro w1 hC hd Q1 hQ1
        obtain ⟨hE, hS⟩ := hC
        dsimp only [bare]
        obtain ⟨⟨q1, q2, q3, q4, q5, q6, q7⟩, ⟨t1, t2, t3, t4, t5, t6, t7⟩⟩ := hS; simp only at q1 q2 q3 q4 q5 q6 q7 t1 t2 t3 t4 t5 t6 t7
        clear hd hE
        try clear hS
        go_wp2
        exact Ext.refl _
      case ha => rfl
      apply wpLoose_val rfl rfl
      case hs =>
        intro w1 hC hd Q1 hQ1
        obtain ⟨hE, hS⟩ := hC
        dsimp only [bare]
        clear hd
        go_wp2_with fail
        refine (eqLine_same lab yes no o kk y nn _).mono ?_
        rintro e w2 ⟨rfl, hb⟩
        go_wp2_with fail
        exact hb
      case ha => rfl
      apply wpLoose_val rfl rfl
      case hs =>
        intro w1 hC hd Q1 hQ1
        obtain ⟨hE, hS⟩ := hC
        dsimp only [bare]
        obtain ⟨⟨q1, q2, q3, q4, q5, q6, q7⟩, ⟨t1, t2, t3, t4, t5, t6, t7⟩⟩ := hS; simp only at q1 q2 q3 q4 q5 q6 q7 t1 t2 t3 t4 t5 t6 t7
        clear hd hE
        try clear hS
        go_wp2
        exact Ext.refl _
      case ha => rfl
      refine wpLoose_nil ?_
      intro wa hEa hSa hFa
      have HB2 : Hid (Below w.heap.size w wa) := (HB.out.drew).trans (Below.mono hEa HB.out.size)
      clear hFa hSa hEa p1 p2 HB
      go_wp2
      go_roundw
      case rel => exact ⟨k + 1, by go_num, by omega, HB2.out⟩
      case measure => simp [intOf]; omega
      case hAa => kernel_rfl
      case hla => exact ⟨trivial, trivial, trivial, trivial, trivial, trivial, trivial, trivial, trivial, trivial, trivial⟩
    · have bk : ¬ ((k : Int) < (n : Int)) := by omega
      go_wp2
      go_ret
      exact ⟨rfl, hb⟩

theorem OwnL.lt {w : World} {B : Nat} {v : Value} {ls : List Ln} (h : OwnL w B v ls) {x : Nat} (hx : v.ownBlock = some x) : x < w.heap.size := by
  have hown : w.ownsRow B 43 7 v ls.length (flatL ls) := h
  rcases hown.2 with ⟨rfl, h0⟩ | ⟨g, cap, cur, rfl, hg, hh, _⟩
  · cases hx
  · obtain rfl : g = x := Option.some.inj hx
    exact (Array.getElem?_eq_some_iff.1 hh).1

/-- A row is as it was where another one, from C on, is written. -/
theorem OwnL.far {w w' : World} {B C : Nat} {v u : Value} {ls : List Ln} (h : OwnL w B v ls) (hg : w.grownBy w' u.ownBlock) (hu : ∀ x, u.ownBlock = some x → C ≤ x) (hv : ∀ x, v.ownBlock = some x → x < C) : OwnL w' B v ls := by
  have hown : w.ownsRow B 43 7 v ls.length (flatL ls) := h
  refine ⟨hown.1, ?_⟩
  rcases hown.2 with hn | ⟨g, cap, cur, rfl, hg2, hh, rest⟩
  · exact .inl hn
  · refine .inr ⟨g, cap, cur, rfl, hg2, (hg.block g (Array.getElem?_eq_some_iff.1 hh).1 (fun e => ?_)).trans hh, rest⟩
    have h1 := hu g e.symm
    have h2 := hv g rfl
    omega

/-- A row of n lines that bear their marks. -/
def Marked (W : World) (v : Value) (n : Nat) : Prop := ∃ a cap, v = .slice a n cap ∧ (0 < n → ∃ g, a = some ⟨g, 0, none⟩ ∧ Done7 W g (n * 7))

theorem Marked.ext {W W' : World} {v : Value} {n : Nat} (h : Marked W v n) (hE : Ext W W') : Marked W' v n := by
  obtain ⟨a, cap, e, h⟩ := h
  exact ⟨a, cap, e, fun hp => by obtain ⟨g, e1, h1⟩ := h hp; exact ⟨g, e1, h1.ext hE⟩⟩

theorem mark0_any (a : Option Addr) (cap : Nat) (w : World) : Calls Try.prog 8 #[.slice a 0 cap, .int .i64 1] w fun e w' => e = .returned (.int .i64 1) ∧ w = w' := by
  go_enter Try.func8, Try.ntmps8
  go_wp2
  refine wp_loop_rounds 1 ?_
  rw [rounds_succ]
  go_wp2
  go_ret
  exact ⟨rfl, rfl⟩

theorem held0_any (a : Option Addr) (cap : Nat) (w : World) : Calls Try.prog 9 #[.slice a 0 cap, .int .i64 1] w fun e w' => e = .returned (.int .i64 1) ∧ w = w' := by
  go_enter Try.func9, Try.ntmps9
  go_wp2
  refine wp_loop_rounds 1 ?_
  rw [rounds_succ]
  go_wp2
  go_ret
  exact ⟨rfl, rfl⟩

theorem mark_own {B : Nat} {v : Value} {ls : List Ln} {w : World} (h : OwnL w B v ls) (hn : ls.length ≤ 100000000) : Calls Try.prog 8 #[v, .int .i64 1] w fun e w' => e = .returned (.int .i64 ((ls.length * 7 + 1 : Nat) : Int)) ∧ w.grownBy w' v.ownBlock ∧ Marked w' v ls.length := by
  obtain ⟨a, cap, rfl, hc, _, h2⟩ := h.lns
  by_cases h0 : ls.length = 0
  · rw [h0]
    refine (mark0_any a cap w).mono ?_
    rintro e w' ⟨rfl, rfl⟩
    exact ⟨rfl, ⟨rfl, rfl, rfl, Nat.le_refl _, fun _ _ _ => rfl⟩, a, cap, rfl, fun hp => by omega⟩
  · obtain ⟨g, rfl, _, hg, hf⟩ := h2 (by omega)
    refine (mark7_any g ls.length cap w hn ⟨hg, fun j hj => ⟨?_, hf j⟩⟩).mono ?_
    · have hj' : j < (flatL ls).length := by rw [flatL_length]; exact hj
      exact ⟨(flatL ls)[j], h.cell j _ (List.getElem?_eq_getElem hj')⟩
    · rintro e w' ⟨rfl, hm⟩
      exact ⟨rfl, hm.1, _, cap, rfl, fun _ => ⟨g, rfl, hm.2.2⟩⟩

theorem held_own {v : Value} {n : Nat} {w : World} (h : Marked w v n) (hn : n ≤ 100000000) : Calls Try.prog 9 #[v, .int .i64 1] w fun e w' => e = .returned (.int .i64 ((n * 7 + 1 : Nat) : Int)) ∧ Ext w w' := by
  obtain ⟨a, cap, rfl, h2⟩ := h
  by_cases h0 : n = 0
  · subst h0
    refine (held0_any a cap w).mono ?_
    rintro e w' ⟨rfl, rfl⟩
    exact ⟨rfl, Ext.refl _⟩
  · obtain ⟨g, rfl, hd⟩ := h2 (by omega)
    exact held7_any g n cap w hn hd

theorem eq_own {B C : Nat} {u v : Value} {ls : List Ln} {w : World} (h1 : OwnL w B u ls) (h2 : OwnL w C v ls) (hn : ls.length ≤ 100000000) : Calls Try.prog 7 #[u, v] w fun e w' => e = .returned (.bool true) ∧ Ext w w' := by
  obtain ⟨a, c, rfl, _, k1, _⟩ := h1.lns
  obtain ⟨a', c', rfl, _, k2, _⟩ := h2.lns
  exact eqLines_any a a' c c' ls w hn k1 k2

end Go.Proofs.Ythflflhcbnianaa
