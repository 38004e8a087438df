/- What spec's l06Any draws: words in a row, right or not. -/
import Derived.Test.YtaigoggoibdgbaaDrawProg
namespace Go.Proofs.Ytaigoggoibdgbaa
open Go.RowKit
set_option linter.unusedVariables false

/-- n words in block g, whichever. -/
def Rows4 (w : World) (g n : Nat) : Prop := ∀ j, j < n → ∃ q, Quad w g (j * 4) q

theorem cell_set {w : World} {g x y : Nat} {u v : Int} (h : w.cell? ⟨g, y, none⟩ = some (.int .i64 u)) : ∃ u', (w.setCell ⟨g, x, none⟩ (.int .i64 v)).cell? ⟨g, y, none⟩ = some (.int .i64 u') := by
  by_cases hxy : y = x
  · subst hxy
    exact ⟨v, set_same _ h⟩
  · exact ⟨u, (set_far (off_ne hxy)).trans h⟩

theorem Rows4.set {w : World} {g n : Nat} (h : Rows4 w g n) (x : Nat) (v : Int) : Rows4 (w.setCell ⟨g, x, none⟩ (.int .i64 v)) g n := fun j hj => by
  obtain ⟨q, e0, e1, e2, e3⟩ := h j hj
  obtain ⟨u0, f0⟩ := cell_set (x := x) (v := v) e0
  obtain ⟨u1, f1⟩ := cell_set (x := x) (v := v) e1
  obtain ⟨u2, f2⟩ := cell_set (x := x) (v := v) e2
  obtain ⟨u3, f3⟩ := cell_set (x := x) (v := v) e3
  exact ⟨(u0, u1, u2, u3), f0, f1, f2, f3⟩

theorem Rows4.words {w : World} {g n : Nat} (h : Rows4 w g n) : ∃ ws : List Wd, ws.length = n ∧ Words w (some ⟨g, 0, none⟩) ws := by
  obtain ⟨q, hq⟩ := Go.Deep.choose_lt h
  refine ⟨(List.range n).map q, by simp, fun hp => ⟨g, 0, rfl, fun j hj => ?_⟩⟩
  simp only [List.length_map, List.length_range] at hj
  have := hq j hj
  simpa [List.getD_eq_getElem?_getD, hj] using this

theorem Rows4.less {w : World} {g n m : Nat} (h : Rows4 w g n) (hm : m ≤ n) : Rows4 w g m := fun j hj => h j (by omega)

theorem Rows4.ext {w w' : World} {g n : Nat} (h : Rows4 w g n) (hE : Ext w w') : Rows4 w' g n := fun j hj => by
  obtain ⟨q, hq⟩ := h j hj
  exact ⟨q, hq.below hE hq.lt⟩

set_option maxRecDepth 100000 in
set_option maxHeartbeats 4000000 in
theorem any_any (p : Nat) (a : Option Addr) (len cap : Nat) (w : World) (hC : Cur w p a len cap) :
    Calls Try.prog 44 #[.pointer (some ⟨p, 0, none⟩)] w fun e w' => ∃ g n c, e = .returned (.slice (some ⟨g, 0, none⟩) n c) ∧ 1 ≤ n ∧ n ≤ 13 ∧ n ≤ c ∧ Rows4 w' g n ∧ w.heap.size ≤ g ∧ Cur w' p a len cap ∧ w.grownBy w' (some p) := by
  obtain ⟨i0, hi, hz0, hz1, hz2⟩ := info_parts Try.infoN
  have hp := hC.lt
  have HCO : Hid (∀ b off, a = some ⟨b, off, none⟩ → 0 < len → b < w.heap.size) := hC.code
  have HC : Hid (Cur w p a len cap) := hC
  clear hC
  go_enter Try.func44, Try.ntmps44
  go_wp2_with fail
  refine (below_any 12 p a len cap _ HC.out (by omega)).mono ?_
  rintro e w1 ⟨k, _, _, _, rfl, hc1, hg1⟩
  have HC1 : Hid (Cur w1 p a len cap) := hc1
  have HG1 : Hid (w.grownBy w1 (some p)) := hg1
  clear hc1 hg1
  go_wp2_with fail
  refine (below_any 60 p a len cap _ HC1.out (by omega)).mono ?_
  rintro e w2 ⟨y, hy, _, _, rfl, hc2, hg2⟩
  have hy60 := hy (by omega)
  have HC2 : Hid (Cur w2 p a len cap) := hc2
  have HG2 : Hid (w.grownBy w2 (some p)) := grown_trans HG1.out hg2
  have hz2' := HG2.out.size
  clear hc2 hg2 hy HC1 HG1
  go_wp2_with fail
  refine (prog_any p a len cap _ (HC2.out.alloc _)).mono ?_
  rintro e w3 ⟨v3, ws, rfl, hown3, _, hl2, hl13, hc3, hg3⟩
  have HE3 : Hid (w3.ownsRow w2.heap.size 34 4 (.slice (some ⟨w2.heap.size, 0, none⟩) 0 0) 0 []) := own_grown (Own4.lit w2 _ (Nat.le_refl _)) hg3 (by omega)
  have HC3 : Hid (Cur w3 p a len cap) := hc3
  have HG3 : Hid (w.grownBy w3 (some p)) := grown_trans (grown_alloc HG2.out _) hg3
  have hz3 := HG3.out.size
  have hz23 : w2.heap.size ≤ w3.heap.size := by have := hg3.size; simp at this; omega
  obtain ⟨a3, c3, rfl, hcc, _, hown⟩ := hown3.words
  obtain ⟨g3, rfl, _, _⟩ := hown (by omega)
  have HN : Hid (∀ j u, (flatI ws)[j]? = some u → w3.cell? ((⟨g3, 0, none⟩ : Addr).add j) = some u) := World.ownsRow.cells hown3 (g := g3) rfl
  obtain ⟨m, hm⟩ : ∃ m, m = ws.length := ⟨_, rfl⟩
  have HM : Hid (m = ws.length) := hm
  have hm2 : 2 ≤ m := by omega
  have hm13 : m ≤ 13 := by omega
  rw [← hm]
  clear hc3 hg3 hown3 hown hl2 hl13 hm HG2 HC2
  go_wp2_with (at_builtin; refine wpList_append_own _ rfl _ _ 24 rfl w2.heap.size 34 i0 (.agg #[.int .i64 0, .int .i64 0, .int .i64 0, .int .i64 0]) 4 32 Try.underlying24 hi hz0 hz1 hz2 rfl (by decide) _ 0 _ rfl HE3.out ⟨g3, 0, none⟩ m c3 (flatI ws) rfl ?c0 HN.out ?c2 ?c3 ?c4 ?c5 ?_)
  case c0 => rw [flatI_length, HM.out]
  case c2 =>
    intro u hu
    unfold flatI at hu
    obtain ⟨q, _, hq⟩ := List.mem_flatMap.1 hu
    simp [ints4] at hq
    rcases hq with rfl | rfl | rfl | rfl <;> rfl
  case c3 => unfold maxLen; omega
  case c4 => omega
  case c5 => omega
  · intro v' w4 hown4 hgrow _
    have hown4' : Own4 w4 w2.heap.size v' ws := by
      unfold Own4
      rw [← HM.out]
      simpa using hown4
    obtain ⟨a4, c4, rfl, hcc4, wd4, hg4⟩ := hown4'.words
    obtain ⟨g, rfl, hgg, hfree⟩ := hg4 (by have := HM.out; omega)
    have hrow : ∀ x, (Value.slice (some ⟨w2.heap.size, 0, none⟩) 0 0).ownBlock = some x → w.heap.size ≤ x := fun x hx => by have := own_ge HE3.out hx; omega
    have HC4 : Hid (Cur w4 p a len cap) := HC3.out.grown hgrow (B := w.heap.size) hp HCO.out hrow
    have HG4 : Hid (w.grownBy w4 (some p)) := grown_own HG3.out hgrow hrow
    have HR4 : Hid (Rows4 w4 g m) := fun j hj => by
      obtain ⟨b, off, hb, hq⟩ := wd4 (by have := HM.out; omega)
      injection hb with hb
      injection hb with h1 h2
      subst h1 h2
      have := hq j (by have := HM.out; omega)
      rw [Nat.zero_add] at this
      exact ⟨_, this⟩
    rw [← HM.out]
    have hgw : w.heap.size ≤ g := by omega
    have hg4lt : g < w4.heap.size := by obtain ⟨q, hq⟩ := HR4.out 0 (by omega); exact hq.lt
    have hm4 : m ≤ c4 := by have := HM.out; omega
    clear hown4 hown4' hgrow hrow wd4 hg4 HE3 HN HC3 HG3 hcc hcc4 hgg
    obtain ⟨i, ei, hi1⟩ : ∃ i : Nat, (y : Int) % (m : Int) = (i : Int) ∧ i < m := ⟨y % m, by simp, Nat.mod_lt _ (by omega)⟩
    have hi' : (i : Int) < (m : Int) := by omega
    obtain ⟨q, ⟨c0, c1, c2, c3⟩⟩ := HR4.out i hi1
    by_cases h0 : k = 0
    · subst h0
      obtain ⟨r, er⟩ : ∃ r : Nat, (y : Int) % 10 = (r : Int) := ⟨y % 10, by simp⟩
      go_wp2
      go_ret
      exact ⟨g, m, c4, rfl, by omega, hm13, hm4, HR4.out.set _ _, hgw, HC4.out.store HC.out hgw _ _, grown_store HG4.out hgw _ _⟩
    have q0 : ((k : Int) == 0) = false := by simp; omega
    by_cases h1 : k = 1
    · subst h1
      have h3 : (y : Int) % 3 = 0 ∨ (y : Int) % 3 = 1 ∨ (y : Int) % 3 = 2 := by omega
      rcases h3 with er | er | er
      all_goals
        go_wp2
        go_ret
        exact ⟨g, m, c4, rfl, by omega, hm13, hm4, (HR4.out.set _ _).ext (Ext.one _ _), hgw, (HC4.out.store HC.out hgw _ _).alloc _, grown_alloc (grown_store HG4.out hgw _ _) _⟩
    have q1 : ((k : Int) == 1) = false := by simp; omega
    by_cases h2 : k = 2
    · subst h2
      have h3 : (y : Int) % 3 = 0 ∨ (y : Int) % 3 = 1 ∨ (y : Int) % 3 = 2 := by omega
      rcases h3 with er | er | er
      all_goals
        go_wp2
        go_ret
        exact ⟨g, m, c4, rfl, by omega, hm13, hm4, (HR4.out.set _ _).ext (Ext.one _ _), hgw, (HC4.out.store HC.out hgw _ _).alloc _, grown_alloc (grown_store HG4.out hgw _ _) _⟩
    have q2 : ((k : Int) == 2) = false := by simp; omega
    by_cases h3 : k = 3
    · subst h3
      obtain ⟨m', em⟩ : ∃ m' : Nat, m = m' + 1 := ⟨m - 1, by omega⟩
      subst em
      go_wp2
      go_ret
      exact ⟨g, m', c4, rfl, by omega, by omega, by omega, HR4.out.less (by omega), hgw, HC4.out, HG4.out⟩
    have q3 : ((k : Int) == 3) = false := by simp; omega
    by_cases h4 : k = 4
    · subst h4
      obtain ⟨r, er⟩ : ∃ r : Nat, (y : Int) % 14 = (r : Int) := ⟨y % 14, by simp⟩
      go_wp2
      go_ret
      exact ⟨g, m, c4, rfl, by omega, hm13, hm4, (((HR4.out.set _ _).set _ _).set _ _).set _ _, hgw, (((HC4.out.store HC.out hgw _ _).store HC.out hgw _ _).store HC.out hgw _ _).store HC.out hgw _ _, grown_store (grown_store (grown_store (grown_store HG4.out hgw _ _) hgw _ _) hgw _ _) hgw _ _⟩
    have q4 : ((k : Int) == 4) = false := by simp; omega
    go_wp2
    go_ret
    exact ⟨g, m, c4, rfl, by omega, hm13, hm4, HR4.out, hgw, HC4.out, HG4.out⟩

end Go.Proofs.Ytaigoggoibdgbaa
