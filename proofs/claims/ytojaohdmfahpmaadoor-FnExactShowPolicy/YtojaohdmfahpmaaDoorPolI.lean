/- What impl's PolicyOk answers, of any policy. -/
import Derived.Test.YtojaohdmfahpmaaDoorRulesR
namespace Go.Proofs.YtojaohdmfahpmaaDoor
open Go.RowKit
set_option linter.unusedVariables false

set_option maxRecDepth 100000 in
set_option maxHeartbeats 3200000 in
theorem iPolicyOk_any (ar ac da : Int) (a : Option Addr) (cap : Nat) (rs : List RN) (w : World) (hs : SmallR rs) (h : Rules w a rs) :
    Calls Tryd.prog 15 #[.agg #[.int .i64 ar, .int .i64 ac, .int .i64 da, .slice a rs.length cap]] w fun e w' => e = .returned (.bool (policyB ⟨ar, ac, da, rs⟩)) ∧ Ext w w' := by
  obtain ⟨n, hn⟩ : ∃ n, n = rs.length := ⟨_, rfl⟩
  have HB : Hid (policyB ⟨ar, ac, da, rs⟩ = (halfB ar && outB ac da && decide (n ≤ 10) && rs.all ruleB)) := by rw [hn]; rfl
  have HN : Hid (n = rs.length ∧ ∀ k, k < rs.length → Small (rs.getD k r0)) := ⟨hn, hs.2⟩
  have HR : Hid (∀ W, Ext w W → Rules W a rs) := fun W hE => h.step hE
  have hl := hs.1
  rw [← hn] at hl ⊢
  clear h hn hs
  obtain ⟨z1, hz1⟩ : ∃ z1, z1 = halfB ar := ⟨_, rfl⟩
  obtain ⟨z2, hz2⟩ : ∃ z2, z2 = outB ac da := ⟨_, rfl⟩
  have H1 : Hid (∀ W, Calls Tryd.prog 28 #[.int .i64 ar] W fun e w' => e = .returned (.bool z1) ∧ W = w') := fun W => by rw [hz1]; exact iHalf_any ar W
  have H2 : Hid (∀ W, Calls Tryd.prog 29 #[.int .i64 ac, .int .i64 da] W fun e w' => e = .returned (.bool z2) ∧ W = w') := fun W => by rw [hz2]; exact outcomeOk_any ac da W
  rw [← hz1, ← hz2] at HB
  clear hz1 hz2
  obtain ⟨W, hW⟩ : ∃ W, W = w.alloc (.cells #[.int .i64 ar, .int .i64 ac, .int .i64 da, .slice a n cap] 30) := ⟨_, rfl⟩
  have HX : Hid (CellsAt W w.heap.size [.int .i64 ar, .int .i64 ac, .int .i64 da, .slice a n cap] ∧ Ext w W) := by
    rw [hW]
    exact ⟨CellsAt.new w _ _, Ext.one w _⟩
  have HW : Hid (W = w.alloc (.cells #[.int .i64 ar, .int .i64 ac, .int .i64 da, .slice a n cap] 30)) := hW
  clear hW
  cases z1
  · go_enter Tryd.func15, Tryd.ntmps15
    go_wp2_with (go_at_call 28; refine (H1.out _).mono ?_; rintro e w' ⟨rfl, rfl⟩)
    go_ret
    exact ⟨by rw [HB.out]; rfl, Ext.one _ _⟩
  cases z2
  · go_enter Tryd.func15, Tryd.ntmps15
    go_wp2_with (first | (go_at_call 28; refine (H1.out _).mono ?_; rintro e w' ⟨rfl, rfl⟩) | (go_at_call 29; refine (H2.out _).mono ?_; rintro e w' ⟨rfl, rfl⟩))
    go_ret
    exact ⟨by rw [HB.out]; rfl, Ext.one _ _⟩
  by_cases h10 : n ≤ 10
  · have h10' : ¬ (10 : Int) < (n : Int) := by omega
    have HY : Hid (policyB ⟨ar, ac, da, rs⟩ = rs.all ruleB) := by rw [HB.out, decide_eq_true h10]; rfl
    clear HB h10
    go_enter Tryd.func15, Tryd.ntmps15
    go_wp2_with (first | (go_at_call 28; refine (H1.out _).mono ?_; rintro e w' ⟨rfl, rfl⟩) | (go_at_call 29; refine (H2.out _).mono ?_; rintro e w' ⟨rfl, rfl⟩))
    rw [← HW.out]
    go_loopw [26] (fun i wr => ∃ k : Nat, i = .int .i64 k ∧ k ≤ n ∧ Hid (Ext W wr) ∧ Hid ((rs.take k).all ruleB = true)) (fun i _ => n - (intOf i).toNat)
    case atStart => exact ⟨0, rfl, by omega, Ext.refl _, by simp [Hid]⟩
    case round =>
      obtain ⟨k, rfl, hk, hE, hall⟩ := hrel
      by_cases hlt : k < n
      · have bk : (k : Int) < (n : Int) := by omega
        obtain ⟨b, off, l, rfl, ⟨hbl, hseg⟩, hL⟩ := (HR.out wr (HX.out.2.trans hE.out)).at (k := k) (by have := HN.out.1; omega)
        obtain ⟨a1, n1, c1, a2, n2, c2, xc, xd, rfl, _, _⟩ := hL.form
        obtain ⟨p0, p1, p2, p3⟩ := hseg.four
        obtain ⟨z, hz⟩ : ∃ z, z = ruleB (rs.getD k r0) := ⟨_, rfl⟩
        have HZ : Hid (z = ruleB (rs.getD k r0)) := hz
        have HD : Hid (∀ W', Ext wr W' → Calls Tryd.prog 30 #[.agg #[.slice a1 n1 c1, .slice a2 n2 c2, .int .i64 xc, .int .i64 xd]] W' fun e w' => e = .returned (.bool z) ∧ Ext W' w') := fun W' hx => by
          rw [hz]
          exact ruleOk_rep (HN.out.2 k (by have := HN.out.1; omega)) ⟨_, rfl, hL.step hx⟩
        clear hz hL hseg hbl
        go_wp2_with fail
        refine (HD.out _ (Ext.one _ _)).mono ?_
        rintro e w2 ⟨rfl, x2⟩
        have X2 : Hid (Ext W w2) := (hE.out.alloc _).trans x2
        clear x2 p0 p1 p2 p3
        cases z
        · have HF : Hid (rs.all ruleB = false) := all_bad (k := k) (d := r0) (by have := HN.out.1; omega) HZ.out.symm
          clear hall
          go_wp2
          go_ret
          exact ⟨by rw [HY.out, HF.out]; rfl, HX.out.2.trans X2.out⟩
        · have HT : Hid ((rs.take (k + 1)).all ruleB = true) := by
            unfold Hid
            rw [all_get rs ruleB r0 k (by have := HN.out.1; omega), hall.out, ← HZ.out]
            rfl
          clear hall
          go_wp2
          go_roundw
          case rel => exact ⟨k + 1, by go_num, by omega, X2, HT⟩
          case measure => simp [intOf]; omega
      · have hkn : k = n := by omega
        have HT : Hid (rs.all ruleB = true) := all_end (k := k) (by have := HN.out.1; omega) hall.out
        have bk : ¬ ((k : Int) < (n : Int)) := by omega
        clear hall hkn
        go_wp2
        go_ret
        exact ⟨by rw [HY.out, HT.out]; rfl, HX.out.2.trans hE.out⟩
  · have h10' : (10 : Int) < (n : Int) := by omega
    have HY : Hid (policyB ⟨ar, ac, da, rs⟩ = false) := by rw [HB.out, decide_eq_false h10]; rfl
    clear HB h10
    go_enter Tryd.func15, Tryd.ntmps15
    go_wp2_with (first | (go_at_call 28; refine (H1.out _).mono ?_; rintro e w' ⟨rfl, rfl⟩) | (go_at_call 29; refine (H2.out _).mono ?_; rintro e w' ⟨rfl, rfl⟩))
    go_ret
    exact ⟨by rw [HY.out]; rfl, Ext.one _ _⟩

set_option maxRecDepth 100000 in
set_option maxHeartbeats 3200000 in
theorem sPolicyOk_any (ar ac da : Int) (a : Option Addr) (cap : Nat) (rs : List RN) (w : World) (hs : SmallR rs) (h : Rules w a rs) :
    Calls Tryd.prog 10 #[.agg #[.int .i64 ar, .int .i64 ac, .int .i64 da, .slice a rs.length cap]] w fun e w' => e = .returned (.bool (policyB ⟨ar, ac, da, rs⟩)) ∧ Ext w w' := by
  obtain ⟨n, hn⟩ : ∃ n, n = rs.length := ⟨_, rfl⟩
  have HB : Hid (policyB ⟨ar, ac, da, rs⟩ = (halfB ar && outB ac da && decide (n ≤ 10) && rs.all ruleB)) := by rw [hn]; rfl
  have HN : Hid (n = rs.length ∧ ∀ k, k < rs.length → Small (rs.getD k r0)) := ⟨hn, hs.2⟩
  have HR : Hid (∀ W, Ext w W → Rules W a rs) := fun W hE => h.step hE
  have hl := hs.1
  rw [← hn] at hl ⊢
  clear h hn hs
  obtain ⟨z1, hz1⟩ : ∃ z1, z1 = halfB ar := ⟨_, rfl⟩
  obtain ⟨z2, hz2⟩ : ∃ z2, z2 = outB ac da := ⟨_, rfl⟩
  have H1 : Hid (∀ W, Calls Tryd.prog 22 #[.int .i64 ar] W fun e w' => e = .returned (.bool z1) ∧ W = w') := fun W => by rw [hz1]; exact sHalf_any ar W
  have H2 : Hid (∀ W, Calls Tryd.prog 23 #[.int .i64 ac, .int .i64 da] W fun e w' => e = .returned (.bool z2) ∧ W = w') := fun W => by rw [hz2]; exact l09Act_any ac da W
  rw [← hz1, ← hz2] at HB
  clear hz1 hz2
  obtain ⟨W, hW⟩ : ∃ W, W = w.alloc (.cells #[.int .i64 ar, .int .i64 ac, .int .i64 da, .slice a n cap] 30) := ⟨_, rfl⟩
  have HX : Hid (CellsAt W w.heap.size [.int .i64 ar, .int .i64 ac, .int .i64 da, .slice a n cap] ∧ Ext w W) := by
    rw [hW]
    exact ⟨CellsAt.new w _ _, Ext.one w _⟩
  have HW : Hid (W = w.alloc (.cells #[.int .i64 ar, .int .i64 ac, .int .i64 da, .slice a n cap] 30)) := hW
  clear hW
  go_enter Tryd.func10, Tryd.ntmps10
  go_wp2_with fail
  rw [← HW.out]
  go_loopw [3] (fun i wr => ∃ k : Nat, i = .int .i64 k ∧ k ≤ n ∧ Hid (Ext W wr) ∧ Hid ((rs.take k).all ruleB = true)) (fun i _ => n - (intOf i).toNat)
  case atStart => exact ⟨0, rfl, by omega, Ext.refl _, by simp [Hid]⟩
  case round =>
    obtain ⟨k, rfl, hk, hE, hall⟩ := hrel
    have cx := HX.out.1.step hE.out
    have s3 := cx.2 3 _ rfl
    by_cases hlt : k < n
    · have bk : (k : Int) < (n : Int) := by omega
      obtain ⟨b, off, l, rfl, ⟨hbl, hseg⟩, hL⟩ := (HR.out wr (HX.out.2.trans hE.out)).at (k := k) (by have := HN.out.1; omega)
      obtain ⟨a1, n1, c1, a2, n2, c2, xc, xd, rfl, _, _⟩ := hL.form
      obtain ⟨p0, p1, p2, p3⟩ := hseg.four
      obtain ⟨z, hz⟩ : ∃ z, z = ruleB (rs.getD k r0) := ⟨_, rfl⟩
      have HZ : Hid (z = ruleB (rs.getD k r0)) := hz
      have HD : Hid (Calls Tryd.prog 21 #[.agg #[.slice a1 n1 c1, .slice a2 n2 c2, .int .i64 xc, .int .i64 xd]] wr fun e w' => e = .returned (.bool z) ∧ Ext wr w') := by
        rw [hz]
        exact l09Rule_rep (HN.out.2 k (by have := HN.out.1; omega)) ⟨_, rfl, hL⟩
      clear hz hL hseg hbl cx
      go_wp2_with fail
      refine HD.out.mono ?_
      rintro e w2 ⟨rfl, x2⟩
      have X2 : Hid (Ext W w2) := hE.out.trans x2
      clear x2 p0 p1 p2 p3 s3 HD
      cases z
      · have HF : Hid (rs.all ruleB = false) := all_bad (k := k) (d := r0) (by have := HN.out.1; omega) HZ.out.symm
        clear hall
        go_wp2
        go_ret
        exact ⟨by rw [HB.out, HF.out]; simp, HX.out.2.trans X2.out⟩
      · have HT : Hid ((rs.take (k + 1)).all ruleB = true) := by
          unfold Hid
          rw [all_get rs ruleB r0 k (by have := HN.out.1; omega), hall.out, ← HZ.out]
          rfl
        clear hall
        go_wp2
        go_roundw
        case rel => exact ⟨k + 1, by go_num, by omega, X2, HT⟩
        case measure => simp [intOf]; omega
    · have hkn : k = n := by omega
      have HT : Hid (rs.all ruleB = true) := all_end (k := k) (by have := HN.out.1; omega) hall.out
      have bk : ¬ ((k : Int) < (n : Int)) := by omega
      have s0 := cx.2 0 _ rfl
      have s1 := cx.2 1 _ rfl
      have s2 := cx.2 2 _ rfl
      clear hall hkn cx
      cases z1
      · go_wp2_with (go_at_call 22; refine (H1.out _).mono ?_; rintro e w' ⟨rfl, rfl⟩)
        go_ret
        exact ⟨by rw [HB.out]; rfl, HX.out.2.trans hE.out⟩
      cases z2
      · go_wp2_with (first | (go_at_call 22; refine (H1.out _).mono ?_; rintro e w' ⟨rfl, rfl⟩) | (go_at_call 23; refine (H2.out _).mono ?_; rintro e w' ⟨rfl, rfl⟩))
        go_ret
        exact ⟨by rw [HB.out]; rfl, HX.out.2.trans hE.out⟩
      by_cases h10 : n ≤ 10
      · have h10' : (n : Int) ≤ 10 := by omega
        have HD10 : Hid (decide (n ≤ 10) = true) := decide_eq_true h10
        clear h10
        go_wp2_with (first | (go_at_call 22; refine (H1.out _).mono ?_; rintro e w' ⟨rfl, rfl⟩) | (go_at_call 23; refine (H2.out _).mono ?_; rintro e w' ⟨rfl, rfl⟩))
        go_ret
        exact ⟨by rw [HB.out, HT.out, HD10.out]; rfl, HX.out.2.trans hE.out⟩
      · have h10' : ¬ (n : Int) ≤ 10 := by omega
        have HD10 : Hid (decide (n ≤ 10) = false) := decide_eq_false h10
        clear h10
        go_wp2_with (first | (go_at_call 22; refine (H1.out _).mono ?_; rintro e w' ⟨rfl, rfl⟩) | (go_at_call 23; refine (H2.out _).mono ?_; rintro e w' ⟨rfl, rfl⟩))
        go_ret
        exact ⟨by rw [HB.out, HD10.out]; simp; omega, HX.out.2.trans hE.out⟩

/-- The value v is the policy p. -/
def RepPol (p : PN) (v : Value) (w : World) : Prop := ∃ a cap, v = .agg #[.int .i64 p.arch, .int .i64 p.act, .int .i64 p.data, .slice a p.rules.length cap] ∧ Rules w a p.rules

theorem RepPol.step {p : PN} {v : Value} {w w' : World} (h : RepPol p v w) (hE : Ext w w') : RepPol p v w' := by
  obtain ⟨a, cap, e, hr⟩ := h
  exact ⟨a, cap, e, hr.step hE⟩

theorem iPolicyOk_rep {p : PN} {v : Value} {w : World} (hs : SmallR p.rules) (h : RepPol p v w) : Calls Tryd.prog 15 #[v] w fun e w' => e = .returned (.bool (policyB p)) ∧ Ext w w' := by
  obtain ⟨a, cap, rfl, hr⟩ := h
  exact iPolicyOk_any p.arch p.act p.data a cap p.rules w hs hr

theorem sPolicyOk_rep {p : PN} {v : Value} {w : World} (hs : SmallR p.rules) (h : RepPol p v w) : Calls Tryd.prog 10 #[v] w fun e w' => e = .returned (.bool (policyB p)) ∧ Ext w w' := by
  obtain ⟨a, cap, rfl, hr⟩ := h
  exact sPolicyOk_any p.arch p.act p.data a cap p.rules w hs hr

end Go.Proofs.YtojaohdmfahpmaaDoor
