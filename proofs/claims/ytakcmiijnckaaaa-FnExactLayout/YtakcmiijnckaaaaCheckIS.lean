/- What impl's and spec's CheckProgram answer, of every program: the same plain test. -/
import Derived.Test.YtakcmiijnckaaaaCheckMath
import Derived.Test.YtakcmiijnckaaaaWordsA
import Derived.BigQuiet
import Derived.Deep.QuietTactic
namespace Go.Proofs.Ytakcmiijnckaaaa
open Go.RowKit
set_option linter.unusedVariables false

theorem Ext.drewN {W W' : World} (h : Ext W W') (n : Nat) : Ext W (W'.drewN n) := Below.grown h (grown_drewN W' n none) h.size (fun k hk => by cases hk)

set_option maxHeartbeats 800000 in
theorem far_any (o k y n : Int) (w : World) : Calls Try.prog 43 #[.agg #[.int .i64 o, .int .i64 k, .int .i64 y, .int .i64 n]] w fun e w' => e = .returned (.int .i64 (farW (o, k, y, n))) ∧ Ext w w' := by
  obtain ⟨z, hz⟩ : ∃ z, z = farW (o, k, y, n) := ⟨_, rfl⟩
  rw [← hz]
  by_cases h7 : o = 7
  · have HZ : Hid (z = k) := by rw [hz]; show farW _ = _; unfold farW; simp [h7]
    clear hz
    subst h7
    go_enter Try.func43, Try.ntmps43
    go_wp2
    go_ret
    exact ⟨by rw [HZ.out]; rfl, Ext.one _ _⟩
  · have q7 : (o == 7) = false := by simpa using h7
    by_cases hy : n < y
    · have HZ : Hid (z = y) := by rw [hz]; show farW _ = _; unfold farW; simp [h7, hy]
      clear hz h7
      go_enter Try.func43, Try.ntmps43
      go_wp2
      go_ret
      exact ⟨by rw [HZ.out]; rfl, Ext.one _ _⟩
    · have HZ : Hid (z = n) := by rw [hz]; show farW _ = _; unfold farW; simp [h7, hy]
      clear hz h7
      go_enter Try.func43, Try.ntmps43
      go_wp2
      go_ret
      exact ⟨by rw [HZ.out]; rfl, Ext.one _ _⟩

set_option maxHeartbeats 1600000 in
theorem ways_any (o k y n : Int) (w : World) : Calls Try.prog 84 #[.agg #[.int .i64 o, .int .i64 k, .int .i64 y, .int .i64 n]] w fun e w' => e = .returned (.tuple #[.int .i64 (yesW (o, k, y, n)), .int .i64 (noW (o, k, y, n))]) ∧ Ext w w' := by
  obtain ⟨a, ha⟩ : ∃ a, a = yesW (o, k, y, n) := ⟨_, rfl⟩
  obtain ⟨b, hb⟩ : ∃ b, b = noW (o, k, y, n) := ⟨_, rfl⟩
  rw [← ha, ← hb]
  by_cases h36 : o = 3 ∨ o = 4 ∨ o = 5 ∨ o = 6
  · have HZ : Hid (a = y ∧ b = n) := by
      refine ⟨?_, ?_⟩
      · rw [ha]; unfold yesW; rw [if_pos (by simp only; omega)]
      · rw [hb]; unfold noW; rw [if_pos (by simp only; omega)]
    clear ha hb
    rcases h36 with rfl | rfl | rfl | rfl
    all_goals
      go_enter Try.func84, Try.ntmps84
      go_wp2
      go_quiet (fail)
      go_wp2
      go_ret2
      exact ⟨by rw [HZ.out.1, HZ.out.2]; rfl, (Ext.one _ _).drewN _⟩
  by_cases h7 : o = 7
  · have HZ : Hid (a = k ∧ b = k) := by
      refine ⟨?_, ?_⟩
      · rw [ha]; unfold yesW; rw [if_neg (by simp only; omega), if_pos h7]
      · rw [hb]; unfold noW; rw [if_neg (by simp only; omega), if_pos h7]
    clear ha hb h36
    subst h7
    go_enter Try.func84, Try.ntmps84
    go_wp2
    go_quiet (fail)
    go_wp2
    go_ret2
    exact ⟨by rw [HZ.out.1, HZ.out.2]; rfl, (Ext.one _ _).drewN _⟩
  · have HZ : Hid (a = 0 ∧ b = 0) := by
      refine ⟨?_, ?_⟩
      · rw [ha]; unfold yesW; rw [if_neg (by simp only; omega), if_neg h7]
      · rw [hb]; unfold noW; rw [if_neg (by simp only; omega), if_neg h7]
    have q3 : (o == 3) = false := by simp; omega
    have q4 : (o == 4) = false := by simp; omega
    have q5 : (o == 5) = false := by simp; omega
    have q6 : (o == 6) = false := by simp; omega
    have q7 : (o == 7) = false := by simp; omega
    clear ha hb h36 h7
    go_enter Try.func84, Try.ntmps84
    go_wp2
    go_ret2
    exact ⟨by rw [HZ.out.1, HZ.out.2]; rfl, Ext.one _ _⟩

theorem all_getD {ws : List Wd} (h : ws.all okW = true) {j : Nat} (hj : j < ws.length) : okW (ws.getD j zeroW) = true := by
  rw [List.all_eq_true] at h
  exact h _ (by simp [List.getD_eq_getElem?_getD, hj])

theorem all_ofD {ws : List Wd} (h : ∀ j, j < ws.length → okW (ws.getD j zeroW) = true) : ws.all okW = true := by
  refine List.all_eq_true.2 fun x hx => ?_
  obtain ⟨k, hk, rfl⟩ := List.mem_iff_getElem.1 hx
  have := h k hk
  simpa [List.getD_eq_getElem?_getD, hk] using this

theorem all_notD {ws : List Wd} {j : Nat} (hj : j < ws.length) (h : okW (ws.getD j zeroW) = false) : ws.all okW = false := by
  rw [Bool.eq_false_iff]
  intro ha
  rw [all_getD ha hj] at h
  cases h

theorem check_all {ws : List Wd} (h : checkP ws = true) : ws.all okW = true := by
  rw [checkP_true] at h
  exact all_ofD fun j hj => (h.2.1 j hj).1

theorem check_within {ws : List Wd} {m : Nat} (hm : ws.length = m + 1) (hl : m + 1 ≤ 400) (hok : ws.all okW = true) (h8 : (ws.getD m zeroW).1 = 8) : checkP ws = true ↔ ∀ j, j < m → goodP (m + 1) j (ws.getD j zeroW) := by
  rw [checkP_true]
  unfold checkQ
  rw [hm]
  refine ⟨fun h j hj => h.2.1 j (by omega), fun h => ⟨by omega, fun j hj => ?_, by rw [Nat.add_sub_cancel]; exact h8⟩⟩
  by_cases hjm : j = m
  · rw [hjm]; exact ⟨all_getD hok (by omega), .inl h8⟩
  · exact h j (by omega)

set_option maxRecDepth 100000 in
set_option maxHeartbeats 2000000 in
theorem sCheck_any (a : Option Addr) (cap : Nat) (ws : List Wd) (w : World) (hl : ws.length ≤ 1048576) (h : Words w a ws) :
    Calls Try.prog 12 #[.slice a ws.length cap] w fun e w' => e = .returned (.bool (checkP ws)) ∧ Ext w w' := by
  obtain ⟨n, hn⟩ : ∃ n, n = ws.length := ⟨_, rfl⟩
  obtain ⟨z, hz⟩ : ∃ z, z = checkP ws := ⟨_, rfl⟩
  have HA : Hid (Words w a ws ∧ n = ws.length ∧ z = checkP ws) := ⟨h, hn, hz⟩
  rw [← hn, ← hz]
  have hl' : n ≤ 1048576 := by omega
  clear h hn hl hz
  cases hf : inB n 1 400
  · have HT : Hid (z = false) := by unfold Hid; rw [HA.out.2.2]; exact checkQ_long (by rw [← HA.out.2.1]; exact hf)
    go_enter Try.func12, Try.ntmps12
    go_wp2_with (go_at_call 41; refine (in_any _ _ _ _).mono ?_; rintro e w' ⟨rfl, rfl⟩)
    go_ret
    exact ⟨by rw [HT.out]; rfl, Ext.refl _⟩
  have hn1 : 1 ≤ n := by rw [inB_true] at hf; omega
  have hn4 : n ≤ 400 := by rw [inB_true] at hf; omega
  go_enter Try.func12, Try.ntmps12
  go_wp2_with (go_at_call 41; refine (in_any _ _ _ _).mono ?_; rintro e w' ⟨rfl, rfl⟩)
  go_loopw [3] (fun i wr => ∃ k : Nat, i = .int .i64 k ∧ k ≤ n ∧ Hid (Ext w wr ∧ ∀ j, j < k → goodP n j (ws.getD j zeroW))) (fun i _ => n - (intOf i).toNat)
  case atStart => exact ⟨0, rfl, by omega, Ext.refl _, fun j hj => by omega⟩
  case round =>
    obtain ⟨k, rfl, hk, HR⟩ := hrel
    clear hf
    by_cases hlt : k < n
    · have bk : (k : Int) < (n : Int) := by omega
      obtain ⟨⟨o, kk, y, nn⟩, hp⟩ : ∃ p, p = ws.getD k zeroW := ⟨_, rfl⟩
      obtain ⟨b, off, rfl, hq⟩ := (HA.out.1.ext HR.out.1).quad (k := k) (by have := HA.out.2.1; omega) hp
      have HQ : Hid (Quad wr b (off + k * 4) (o, kk, y, nn)) := hq
      obtain ⟨c0, c1, c2, c3⟩ := hq
      simp only at c0 c1 c2 c3
      have HP : Hid ((o, kk, y, nn) = ws.getD k zeroW) := hp
      clear hp
      have HI : Hid (∀ w, Calls Try.prog 42 #[.agg #[.int .i64 o, .int .i64 kk, .int .i64 y, .int .i64 nn]] w fun e w' => e = .returned (.bool (okW (o, kk, y, nn))) ∧ Ext w w') := fun w => sInsOk_any o kk y nn w
      cases hok : okW (o, kk, y, nn)
      · rw [hok] at HI
        have HT : Hid (z = false) := by unfold Hid; rw [HA.out.2.2]; exact checkQ_notok (j := k) (by have := HA.out.2.1; omega) (by rw [← HP.out]; exact hok)
        clear hok
        go_wp2_with fail
        refine (HI.out _).mono ?_
        rintro e w2 ⟨rfl, e2⟩
        have E2 : Hid (Ext w w2) := HR.out.1.trans e2
        clear e2 HI c0 c1 c2 c3
        go_wp2
        go_ret
        exact ⟨by rw [HT.out]; rfl, E2.out⟩
      rw [hok] at HI
      by_cases h8 : o = 8
      · have HT : Hid (goodP n k (ws.getD k zeroW)) := by unfold Hid; rw [← HP.out]; exact ⟨hok, .inl h8⟩
        subst h8
        clear hok
        go_wp2_with fail
        refine (HI.out _).mono ?_
        rintro e w2 ⟨rfl, e2⟩
        have E2 : Hid (Ext w w2) := HR.out.1.trans e2
        obtain ⟨d0, d1, d2, d3⟩ := HQ.out.below e2 HQ.out.lt
        simp only at d0 d1 d2 d3
        clear e2 HI c0 c1 c2 c3
        go_wp2
        go_roundw
        case rel =>
          refine ⟨k + 1, by go_num, by omega, E2.out, fun j hj => ?_⟩
          by_cases hjk : j = k
          · rw [hjk]; exact HT.out
          · exact HR.out.2 j (by omega)
        case measure => simp [intOf]; omega
      · have q8 : (o == 8) = false := by simpa using h8
        have q8' : (o != 8) = true := by simpa using h8
        obtain ⟨fa, hfa⟩ : ∃ fa, fa = farW (o, kk, y, nn) := ⟨_, rfl⟩
        have f0 : 0 ≤ fa := by have := ways_far hok h8; omega
        have f4 : fa ≤ 400 := by have := ways_far hok h8; omega
        have HFR : Hid (∀ w, Calls Try.prog 43 #[.agg #[.int .i64 o, .int .i64 kk, .int .i64 y, .int .i64 nn]] w fun e w' => e = .returned (.int .i64 fa) ∧ Ext w w') := fun w => by rw [hfa]; exact far_any o kk y nn w
        by_cases hw : (k : Int) + 1 + fa < (n : Int)
        · have HT : Hid (goodP n k (ws.getD k zeroW)) := by unfold Hid; rw [← HP.out]; exact ⟨hok, .inr (by rw [← hfa]; exact hw)⟩
          clear hok h8 hfa
          go_wp2_with fail
          refine (HI.out _).mono ?_
          rintro e w2 ⟨rfl, e2⟩
          have E2 : Hid (Ext w w2) := HR.out.1.trans e2
          obtain ⟨d0, d1, d2, d3⟩ := HQ.out.below e2 HQ.out.lt
          simp only at d0 d1 d2 d3
          clear e2 HI c0 c1 c2 c3
          go_wp2_with fail
          refine (HFR.out _).mono ?_
          rintro e w3 ⟨rfl, e3⟩
          have E3 : Hid (Ext w w3) := E2.out.trans e3
          clear e3 HFR d0 d1 d2 d3 E2
          go_wp2
          go_roundw
          case rel =>
            refine ⟨k + 1, by go_num, by omega, E3.out, fun j hj => ?_⟩
            by_cases hjk : j = k
            · rw [hjk]; exact HT.out
            · exact HR.out.2 j (by omega)
          case measure => simp [intOf]; omega
        · have HT : Hid (z = false) := by
            unfold Hid; rw [HA.out.2.2]
            refine checkQ_bad (j := k) (by have := HA.out.2.1; omega) fun hg => ?_
            rw [← HP.out, ← HA.out.2.1] at hg
            rcases hg.2 with hg | hg
            · exact h8 hg
            · rw [← hfa] at hg; exact hw hg
          clear hok h8 hfa
          go_wp2_with fail
          refine (HI.out _).mono ?_
          rintro e w2 ⟨rfl, e2⟩
          have E2 : Hid (Ext w w2) := HR.out.1.trans e2
          obtain ⟨d0, d1, d2, d3⟩ := HQ.out.below e2 HQ.out.lt
          simp only at d0 d1 d2 d3
          clear e2 HI c0 c1 c2 c3
          go_wp2_with fail
          refine (HFR.out _).mono ?_
          rintro e w3 ⟨rfl, e3⟩
          have E3 : Hid (Ext w w3) := E2.out.trans e3
          clear e3 HFR d0 d1 d2 d3 E2
          go_wp2
          go_ret
          exact ⟨by rw [HT.out]; rfl, E3.out⟩
    · have hkn : k = n := by omega
      have bk : ¬ ((k : Int) < (n : Int)) := by omega
      obtain ⟨m, rfl⟩ : ∃ m, n = m + 1 := ⟨n - 1, by omega⟩
      have em : ((m + 1 : Nat) : Int) - 1 = (m : Int) := by omega
      obtain ⟨⟨o, kk, y, nn⟩, hp⟩ : ∃ p, p = ws.getD m zeroW := ⟨_, rfl⟩
      obtain ⟨b, off, rfl, c0, c1, c2, c3⟩ := (HA.out.1.ext HR.out.1).quad (k := m) (by have := HA.out.2.1; omega) hp
      simp only at c0 c1 c2 c3
      have HT : Hid (z = (o == 8)) := by
        unfold Hid; rw [HA.out.2.2]
        refine checkP_eq ?_
        unfold checkQ
        rw [← HA.out.2.1, Nat.add_sub_cancel, ← hp]
        refine ⟨fun h => ⟨by omega, fun j hj => HR.out.2 j (by omega), by simpa using h⟩, fun h => by simpa using h.2.2⟩
      have E2 : Hid (Ext w wr) := HR.out.1
      clear hkn hp
      go_wp2
      go_ret
      exact ⟨by rw [HT.out]; rfl, E2.out⟩

end Go.Proofs.Ytakcmiijnckaaaa
